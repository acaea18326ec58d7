/- The model's IsValidFenwick and FenwickValues, by their contracts. -/
import Derived.Test.YtgfdpjmhdijdiaaSFw
import Derived.Test.YtgfdpjmhdijdiaaValF
namespace Go.Proofs.Ytgfdpjmhdijdiaa
open Go.RowKit Fw
set_option linter.unusedVariables false

set_option maxRecDepth 100000 in
set_option maxHeartbeats 1000000 in
theorem specIv_any (x o k : Nat) (l : List Int) (w : World) (hv : FlatAt w (.slice (some ⟨x, o, none⟩) l.length k) l.length (ints l)) (hn : l.length ≤ 1048576) (hi : IsW l) :
    Calls Try.prog 54 #[.agg #[.slice (some ⟨x, o, none⟩) l.length k]] w fun e w' => e = .returned (.bool (decide (OkF l))) ∧ Below w.heap.size w w' := by
  obtain ⟨W, hW, hx, hz, hb⟩ := box1 w 53 (.slice (some ⟨x, o, none⟩) l.length k)
  have HB := Lib.hid hb
  have hc0 := hx.cell
  have HF := Lib.hid (l10Fenwick_any _ l W (hv.below hb) hn hi)
  clear hv hb hx
  generalize decide (OkF l) = d at *
  go_enter Try.func54, Try.ntmps54
  go_wp2_with fail
  rw [← hW]
  refine HF.out.mono ?_
  rintro e w1 ⟨rfl, hb1⟩
  have HB1 := Lib.hid (HB.out.trans (hb1.mono (by omega)))
  clear hb1
  go_wp2_with fail
  go_ret
  exact ⟨rfl, HB1.out⟩

set_option maxRecDepth 100000 in
set_option maxHeartbeats 1000000 in
theorem specFv_any (x o k : Nat) (l : List Int) (w : World) (hv : FlatAt w (.slice (some ⟨x, o, none⟩) l.length k) l.length (ints l)) (hn : l.length ≤ 1048576) (hi : IsW l) :
    Calls Try.prog 60 #[.agg #[.slice (some ⟨x, o, none⟩) l.length k]] w (RetI (valF l) w) := by
  obtain ⟨W, hW, hx, hz, hb⟩ := box1 w 53 (.slice (some ⟨x, o, none⟩) l.length k)
  have HB := Lib.hid hb
  have HX := Lib.hid hx
  have HZ := Lib.hid hz
  have hc0 := hx.cell
  have HF := Lib.hid (l10Fenwick_any _ l W (hv.below hb) hn hi)
  have HV := Lib.hid (hv.below hb)
  clear hv hb hx
  by_cases hok : OkF l
  · rw [decide_eq_true hok] at HF
    have HVAL : Hid (∀ w1, Below W.heap.size W w1 → Calls Try.prog 118 #[.slice (some ⟨x, o, none⟩) l.length k] w1 (RowI (vl l) w1)) := Lib.hid (fun w1 hb1 => by
      have := l10Values_any _ l w1 (HV.out.below hb1) (by have := hok.len; omega)
      rwa [sv_all hi (by have := hok.len; omega)] at this)
    have HR := Lib.hid (valF_yes hok)
    have HLEN := Lib.hid (vl_len l)
    clear hok
    go_enter Try.func60, Try.ntmps60
    go_wp2_with fail
    rw [← hW]
    refine HF.out.mono ?_
    rintro e w1 ⟨rfl, hb1⟩
    have HB1 := Lib.hid (HB.out.trans (hb1.mono (by omega)))
    have hx1 := (boxed_below HX.out hb1 (by omega)).cell
    have HV1 := Lib.hid (HVAL.out w1 hb1)
    clear hb1 HVAL
    go_wp2_with fail
    refine HV1.out.mono ?_
    rintro e w2 ⟨g, cg, rfl, hcg, hg, hrow, hb2⟩
    have HRES : Hid (RetI (valF l) w (.returned (.tuple #[.slice (some ⟨g, 0, none⟩) (vl l).length cg, .bool true])) w2) := Lib.hid (by
      rw [HR.out]
      exact ⟨g, cg, rfl, hcg, Nat.le_trans HB1.out.size hg, hrow, HB1.out.trans (hb2.mono HB1.out.size)⟩)
    clear hcg hg hrow hb2
    go_wp2_with fail
    go_ret2
    exact HRES.out
  · rw [decide_eq_false hok] at HF
    have HR := Lib.hid (valF_no hok)
    clear hok
    go_enter Try.func60, Try.ntmps60
    go_wp2_with fail
    rw [← hW]
    refine HF.out.mono ?_
    rintro e w1 ⟨rfl, hb1⟩
    have HB1 := Lib.hid (HB.out.trans (hb1.mono (by omega)))
    have HRES : Hid (RetI (valF l) w (.returned (.tuple #[.slice (some ⟨w1.heap.size, 0, none⟩) 0 0, .bool false])) (w1.alloc (.cells #[] 3))) := Lib.hid (by
      rw [HR.out]
      exact RetI.none w w1 HB1.out)
    clear hb1
    go_wp2_with fail
    go_ret2
    exact HRES.out

end Go.Proofs.Ytgfdpjmhdijdiaa
