/- The program's IsValidList, by its contract. -/
import Derived.Test.YthmcjmjkmmbepaaCfI
import Derived.Test.YthmcjmjkmmbepaaList
namespace Go.Proofs.Ythmcjmjkmmbepaa
open Go.RowKit

def outK (x : Int) : Bool := !(decide (-100000 ≤ x ∧ x ≤ 100000))

theorem isOutside_any (x : Int) (W : World) :
    Calls Try.prog 93 #[.int .i64 x] W fun e w' => e = .returned (.bool (outK x)) ∧ w' = W := by
  by_cases h1 : x < -100000
  · have hd : outK x = true := by unfold outK; rw [decide_eq_false (by omega)]; rfl
    go_enter Try.func93, Try.ntmps93
    go_wp2
    go_ret
    exact ⟨by first | rfl | (rw [hd]; rfl), rfl⟩
  · by_cases h2 : 100000 < x
    · have hd : outK x = true := by unfold outK; rw [decide_eq_false (by omega)]; rfl
      go_enter Try.func93, Try.ntmps93
      go_wp2
      go_ret
      exact ⟨by first | rfl | (rw [hd]; rfl), rfl⟩
    · have hd : outK x = false := by unfold outK; rw [decide_eq_true (by omega)]; rfl
      go_enter Try.func93, Try.ntmps93
      go_wp2
      go_ret
      exact ⟨by first | rfl | (rw [hd]; rfl), rfl⟩

theorem okL_any (l : List Int) : decide (OkL l) = (decide ((l.length : Int) ≤ 64) && !l.any outK) := by
  by_cases h : OkL l
  · have h2 : l.any outK = false := List.any_eq_false.2 fun x hx => by unfold outK; simp [h.2 x hx]
    rw [decide_eq_true h, h2, decide_eq_true (show (l.length : Int) ≤ 64 by have := h.1; omega)]; rfl
  · rw [decide_eq_false h]
    by_cases h1 : (l.length : Int) ≤ 64
    · have h2 : l.any outK = true := by
        apply Classical.byContradiction
        intro hc
        refine h ⟨by omega, fun x hx => ?_⟩
        have := List.any_eq_false.1 (by simpa using hc) x hx
        unfold outK at this
        simpa using this
      rw [h2]; simp
    · rw [decide_eq_false h1]; rfl

set_option maxRecDepth 100000 in
theorem implValidList_any (v : Value) (l : List Int) (w : World) (hv : FlatAt w v l.length (ints l)) (hn : l.length ≤ 1048576) :
    Calls Try.prog 53 #[v] w fun e w' => e = .returned (.bool (decide (OkL l))) ∧ Below w.heap.size w w' := by
  have eg : ∀ args w, (callFunc 93 args).run Try.prog w = .ok (.enter 93 args) w := enters_of Try.func93 (by kernel_rfl) rfl
  have HC := Lib.hid (containsFI outK 93 #[] eg v l w hv (by omega) (fun W x _ _ => (isOutside_any x W).mono fun e w' h => ⟨h.1, h.2 ▸ Below.refl _ _⟩))
  have HE := Lib.hid (okL_any l)
  obtain ⟨a, c, rfl, _, _⟩ := hv
  clear eg
  by_cases h : l.length ≤ 64
  · have hz : (l.length : Int) ≤ 64 := by omega
    have HZ : Hid (decide (OkL l) = !l.any outK) := Lib.hid (by rw [HE.out, decide_eq_true hz]; rfl)
    go_enter Try.func53, Try.ntmps53
    go_wp2_with fail
    refine (HC.out).mono ?_
    rintro e w1 ⟨rfl, hb⟩
    have HB := Lib.hid hb
    clear hb
    go_wp2_with fail
    go_ret
    exact ⟨by rw [HZ.out]; rfl, HB.out⟩
  · have hz : ¬ (l.length : Int) ≤ 64 := by omega
    have HZ : Hid (decide (OkL l) = false) := Lib.hid (by rw [HE.out, decide_eq_false hz]; rfl)
    go_enter Try.func53, Try.ntmps53
    go_wp2_with fail
    go_ret
    exact ⟨by rw [HZ.out]; rfl, Below.refl _ _⟩

end Go.Proofs.Ythmcjmjkmmbepaa
