/- The model's BuildMergeTree, by its contract. -/
import Derived.Test.YtgfdpjmhdijdiaaSBt
namespace Go.Proofs.Ytgfdpjmhdijdiaa
open Go.RowKit P El Mt
set_option linter.unusedVariables false

/-- The levels of a valid list, or none. -/
noncomputable def bmF (l : List Int) : List (List Int) × Bool := open Classical in if OkL l then (lvs l, true) else ([], false)
theorem bmF_yes {l : List Int} (h : OkL l) : bmF l = (lvs l, true) := if_pos h
theorem bmF_no {l : List Int} (h : ¬ OkL l) : bmF l = ([], false) := if_neg h
/-- A new tree of levels and a bool. -/
def RetMTb (r : List (List Int) × Bool) (w : World) (e : Ending) (w' : World) : Prop :=
  ∃ v X, e = .returned (.tuple #[.agg #[v], .bool r.2]) ∧ HeldZ w.heap.size w' v X ∧ X.map ZRow.L = r.1 ∧ Below w.heap.size w w'

theorem mt_res2 {fn : Func} {p q : Tmp} (h : fn.results = #[.cell p 77, .tmp q]) (tmps : Array Value) (w : World) {B : Nat} {v : Value} (hp : tmps.getD p undef = .pointer (some ⟨B, 0, none⟩)) (hc : w.cell? ⟨B, 0, none⟩ = some v) :
    (results fn tmps).run Try.prog w = .ok (.tuple #[.agg #[v], tmps.getD q undef]) w := by
  have hp' : tmps[p]?.getD undef = .pointer (some ⟨B, 0, none⟩) := by simpa using hp
  simp [results, h, hp', hc, go_sem]

set_option maxRecDepth 100000 in
set_option maxHeartbeats 1000000 in
theorem specBm_any (b o c : Nat) (l : List Int) (w : World) (hv : FlatAt w (.slice (some ⟨b, o, none⟩) l.length c) l.length (ints l)) (hn : l.length ≤ 1048576) :
    Calls Try.prog 64 #[.slice (some ⟨b, o, none⟩) l.length c] w (RetMTb (bmF l) w) := by
  obtain ⟨W, hW, hx, hz, hbW⟩ := box1 w 77 (.slice none 0 0)
  have HV := Lib.hid (hv.below hbW)
  have HX := Lib.hid hx
  have HB := Lib.hid hbW
  have HZ := Lib.hid hz
  have HL := Lib.hid (l2List_any _ l W HV.out hn)
  clear hv hx hbW
  by_cases hok : OkL l
  · rw [decide_eq_true hok] at HL
    have HR := Lib.hid (bmF_yes hok)
    have HBL := Lib.hid (fun W1 (h1 : Below W.heap.size W W1) => l10Build_any b o c l W1 (HV.out.below h1) hok.1)
    clear hok
    go_enter Try.func64, Try.ntmps64
    go_wp2_with fail
    rw [← hW]
    clear hW hz
    refine HL.out.mono ?_
    rintro e w1 ⟨rfl, hb1⟩
    have HX1 := Lib.hid (boxed_below HX.out hb1 (by have := HZ.out; omega))
    have HB1 := Lib.hid (HB.out.trans (hb1.mono (by have := HZ.out; omega)))
    have HBL1 := Lib.hid (HBL.out w1 hb1)
    have HZ1 : Hid (w.heap.size + 1 ≤ w1.heap.size) := Lib.hid (by have := hb1.size; have := HZ.out; omega)
    clear hb1 HL HBL HV HX HB
    go_wp2_with fail
    refine HBL1.out.mono ?_
    rintro e w2 ⟨v, X, rfl, hh, hm, hb2⟩
    obtain ⟨a2, n2, c2, rfl⟩ := hh.form
    have hx2 := boxed_below HX1.out hb2 (Boxed.lt HX1.out)
    have hcx := Boxed.cell hx2
    have hfx := Boxed.frozen hx2
    have HRES : Hid (RetMTb (bmF l) w (.returned (.tuple #[.agg #[.slice a2 n2 c2], .bool true])) (w2.setCell ⟨w.heap.size, 0, none⟩ (.slice a2 n2 c2))) := Lib.hid (by
      rw [HR.out]
      have hz1 := HZ1.out
      exact ⟨_, X, rfl, (hh.but ((But.refl w.heap.size w2).setCell 0 _) (fun hB => by have := (hh.lt hB).1; omega)).lower (by omega), hm, (HB1.out.trans (hb2.mono (by omega))).setCell (p := ⟨w.heap.size, 0, none⟩) (Nat.le_refl _) _⟩)
    clear hh hm hb2 hx2 HBL1 HX1
    go_wp2_with fail
    refine bodyPost_ret (mt_res2 rfl _ _ rfl (World.cell?_setCell_same' _ _ _ (by rw [hcx]; rfl))) rfl ?_
    exact HRES.out
  · rw [decide_eq_false hok] at HL
    have HR := Lib.hid (bmF_no hok)
    clear hok
    go_enter Try.func64, Try.ntmps64
    go_wp2_with fail
    rw [← hW]
    clear hW hz
    refine HL.out.mono ?_
    rintro e w1 ⟨rfl, hb1⟩
    have hx1 := boxed_below HX.out hb1 (by have := HZ.out; omega)
    have hcx := Boxed.cell hx1
    have hfx := Boxed.frozen hx1
    have HRES : Hid (RetMTb (bmF l) w (.returned (.tuple #[.agg #[.slice none 0 0], .bool false])) (w1.setCell ⟨w.heap.size, 0, none⟩ (.slice none 0 0))) := Lib.hid (by
      rw [HR.out]
      exact ⟨_, [], rfl, HeldZ.nil _ _, rfl, (HB.out.trans (hb1.mono (by have := HZ.out; omega))).setCell (p := ⟨w.heap.size, 0, none⟩) (Nat.le_refl _) _⟩)
    clear hb1 hx1 HL HX HB
    go_wp2_with fail
    refine bodyPost_ret (mt_res2 rfl _ _ rfl (World.cell?_setCell_same' _ _ _ (by rw [hcx]; rfl))) rfl ?_
    exact HRES.out

end Go.Proofs.Ytgfdpjmhdijdiaa
