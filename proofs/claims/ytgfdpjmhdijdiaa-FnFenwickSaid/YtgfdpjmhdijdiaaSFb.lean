/- The model's BuildFenwick, by its contract. -/
import Derived.Test.YtgfdpjmhdijdiaaRetFen
import Derived.Test.YtgfdpjmhdijdiaaSFw
namespace Go.Proofs.Ytgfdpjmhdijdiaa
open Go.RowKit Fw
set_option linter.unusedVariables false

set_option maxRecDepth 100000 in
set_option maxHeartbeats 1000000 in
theorem specFb_any (x o k : Nat) (l : List Int) (w : World) (hv : FlatAt w (.slice (some ⟨x, o, none⟩) l.length k) l.length (ints l)) (hn : l.length ≤ 1048576) :
    Calls Try.prog 43 #[.slice (some ⟨x, o, none⟩) l.length k] w (RetFE1 (bldF l) w) := by
  obtain ⟨W, hW, hx, hz, hb⟩ := box1 w 53 (.slice none 0 0)
  have HV := Lib.hid (hv.below hb)
  have HB := Lib.hid hb
  have HZ := Lib.hid hz
  have HX := Lib.hid hx
  clear hv hb hx
  have HM := Lib.hid (l10Counts_any _ l W HV.out hn)
  by_cases hok : OkM l
  · rw [decide_eq_true hok] at HM
    have HOK := Lib.hid hok
    have HSM : Hid (∀ W1, Below W.heap.size W W1 → Calls Try.prog 112 #[.slice (some ⟨x, o, none⟩) l.length k] W1 (RowI (bs l) W1)) := Lib.hid (fun W1 h1 => by
      have h := l10Sums_any _ l W1 (HV.out.below h1) (by have := hok.1; omega)
      rwa [sm_all, hok.wbs] at h)
    clear hok
    go_enter Try.func43, Try.ntmps43
    go_wp2_with fail
    rw [← hW]
    refine HM.out.mono ?_
    rintro e w0 ⟨rfl, hb0⟩
    have HX0 := Lib.hid (boxed_below HX.out hb0 (by omega))
    have HS0 := Lib.hid (HSM.out w0 hb0)
    have HB0 := Lib.hid (HB.out.trans (hb0.mono (by omega)))
    have HZ0 : Hid (w.heap.size + 1 ≤ w0.heap.size) := Lib.hid (by have := hb0.size; omega)
    clear hb0 HV HB HX HM HSM
    go_wp2_with fail
    refine HS0.out.mono ?_
    rintro e w1 ⟨g, cg, rfl, hcg, hg, hrow, hb1⟩
    have HX1 := Lib.hid (boxed_below HX0.out hb1 (by have := HZ0.out; omega))
    have hcx := Boxed.cell HX1.out
    have hfx := Boxed.frozen HX1.out
    have HRES : Hid (RetFE1 (bldF l) w (.returned (.tuple #[.agg #[.slice (some ⟨g, 0, none⟩) (bs l).length cg], .bool true])) (w1.setCell ⟨w.heap.size, 0, none⟩ (.slice (some ⟨g, 0, none⟩) (bs l).length cg))) := Lib.hid (by
      rw [bldF_yes HOK.out]
      exact .inl ⟨g, cg, rfl, hcg, by have := HZ0.out; omega, hrow.but ((But.refl w.heap.size w1).setCell 0 _) (by have := HZ0.out; omega), (HB0.out.trans (hb1.mono HB0.out.size)).setCell (p := ⟨w.heap.size, 0, none⟩) (Nat.le_refl _) _⟩)
    clear hcg hg hrow hb1 HS0 HX0 HB0
    go_wp2_with fail
    refine bodyPost_ret (fen_res2 rfl _ _ rfl (World.cell?_setCell_same' _ _ _ (by simp [go_sem, hcx]))) rfl ?_
    exact HRES.out
  · rw [decide_eq_false hok] at HM
    have HNO := Lib.hid (bldF_no hok)
    clear hok
    go_enter Try.func43, Try.ntmps43
    go_wp2_with fail
    rw [← hW]
    refine HM.out.mono ?_
    rintro e w0 ⟨rfl, hb0⟩
    have HX0 := Lib.hid (boxed_below HX.out hb0 (by omega))
    have HB0 := Lib.hid (HB.out.trans (hb0.mono (by omega)))
    have hcx := Boxed.cell HX0.out
    have hfx := Boxed.frozen HX0.out
    have HRES : Hid (RetFE1 (bldF l) w (.returned (.tuple #[.agg #[.slice none 0 0], .bool false])) (w0.setCell ⟨w.heap.size, 0, none⟩ (.slice none 0 0))) := Lib.hid (by
      rw [HNO.out]
      exact .inr ⟨rfl, none, 0, rfl, HB0.out.setCell (p := ⟨w.heap.size, 0, none⟩) (Nat.le_refl _) _⟩)
    clear hb0 HM
    go_wp2_with fail
    refine bodyPost_ret (fen_res2 rfl _ _ rfl (World.cell?_setCell_same' _ _ _ (by simp [go_sem, hcx]))) rfl ?_
    exact HRES.out

end Go.Proofs.Ytgfdpjmhdijdiaa
