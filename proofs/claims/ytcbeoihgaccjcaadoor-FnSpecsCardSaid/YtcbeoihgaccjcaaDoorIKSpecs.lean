/- The program's check of key specifications (isValidSpecs), by its contract. -/
import Derived.Test.YtcbeoihgaccjcaaDoorCfK
import Derived.Test.YtcbeoihgaccjcaaDoorSpecs
namespace Go.Proofs.YtcbeoihgaccjcaaDoor
open Go.RowKit

def badS (p : Int × Bool × Bool × Bool) : Bool := !(decide (0 ≤ p.1 ∧ p.1 ≤ 5))

theorem badSpec_any (p : Int × Bool × Bool × Bool) (W : World) :
    Calls Tryd.prog 35 #[.agg #[.int .i64 p.1, .bool p.2.1, .bool p.2.2.1, .bool p.2.2.2]] W fun e w' => e = .returned (.bool (badS p)) ∧ Below W.heap.size W w' := by
  obtain ⟨x, a, b, c⟩ := p
  have HB := Lib.hid (show Below W.heap.size W (W.alloc (.cells #[.int .i64 x, .bool a, .bool b, .bool c] 32)) from (Below.refl _ W).alloc (Nat.le_refl _) _)
  by_cases h1 : x < 0
  · have hd : Hid (badS (x, a, b, c) = true) := Lib.hid (by unfold badS; simp; omega)
    go_enter Tryd.func35, Tryd.ntmps35
    go_wp2_with fail
    go_ret
    exact ⟨by rw [hd.out]; rfl, HB.out⟩
  · by_cases h2 : 6 ≤ x
    · have hd : Hid (badS (x, a, b, c) = true) := Lib.hid (by unfold badS; simp; omega)
      go_enter Tryd.func35, Tryd.ntmps35
      go_wp2_with fail
      go_ret
      exact ⟨by rw [hd.out]; rfl, HB.out⟩
    · have hd : Hid (badS (x, a, b, c) = false) := Lib.hid (by unfold badS; simp; omega)
      go_enter Tryd.func35, Tryd.ntmps35
      go_wp2_with fail
      go_ret
      exact ⟨by rw [hd.out]; first | rfl | simp_all, HB.out⟩

theorem okS_any (l : List (Int × Bool × Bool × Bool)) (h1 : 1 ≤ l.length) (h2 : l.length ≤ 4) : decide (OkS l) = !l.any badS := by
  by_cases h : OkS l
  · have h2 : l.any badS = false := List.any_eq_false.2 fun x hx => by unfold badS; rw [decide_eq_true (h.2 x hx)]; simp
    rw [decide_eq_true h, h2]; rfl
  · have h3 : l.any badS = true := by
      apply Classical.byContradiction
      intro hc
      refine h ⟨⟨h1, h2⟩, fun x hx => ?_⟩
      have := List.any_eq_false.1 (by simpa using hc) x hx
      unfold badS at this
      simpa using this
    rw [decide_eq_false h, h3]; rfl

set_option maxRecDepth 100000 in
theorem isValidSpecs_any (v : Value) (l : List (Int × Bool × Bool × Bool)) (w : World) (hv : FlatAt w v l.length (keys l)) (hn : l.length ≤ 1048576) :
    Calls Tryd.prog 19 #[v] w fun e w' => e = .returned (.bool (decide (OkS l))) ∧ Below w.heap.size w w' := by
  have eg : ∀ args w, (callFunc 35 args).run Tryd.prog w = .ok (.enter 35 args) w := enters_of Tryd.func35 (by kernel_rfl) rfl
  have HC := Lib.hid (containsFK badS 35 #[] eg v l w hv (by omega) (fun W x _ _ => badSpec_any x W))
  obtain ⟨a, c, rfl, _, _⟩ := hv
  clear eg
  by_cases h1 : l.length < 1
  · have h1z : (l.length : Int) < 1 := by omega
    have HN : Hid (decide (OkS l) = false) := Lib.hid (decide_eq_false fun h => by have := h.1.1; omega)
    go_enter Tryd.func19, Tryd.ntmps19
    go_wp2_with fail
    go_ret
    exact ⟨by rw [HN.out]; rfl, Below.refl _ _⟩
  · have h1z : ¬ (l.length : Int) < 1 := by omega
    by_cases h2 : 4 < l.length
    · have h2z : (4 : Int) < (l.length : Int) := by omega
      have HN : Hid (decide (OkS l) = false) := Lib.hid (decide_eq_false fun h => by have := h.1.2; omega)
      go_enter Tryd.func19, Tryd.ntmps19
      go_wp2_with fail
      go_ret
      exact ⟨by rw [HN.out]; rfl, Below.refl _ _⟩
    · have h2z : ¬ (4 : Int) < (l.length : Int) := by omega
      have HN : Hid (decide (OkS l) = !l.any badS) := Lib.hid (okS_any l (by omega) (by omega))
      go_enter Tryd.func19, Tryd.ntmps19
      go_wp2_with fail
      refine (HC.out).mono ?_
      rintro e w1 ⟨rfl, hb⟩
      have HB := Lib.hid hb
      clear hb
      go_wp2_with fail
      go_ret
      exact ⟨by rw [HN.out]; rfl, HB.out⟩

end Go.Proofs.YtcbeoihgaccjcaaDoor
