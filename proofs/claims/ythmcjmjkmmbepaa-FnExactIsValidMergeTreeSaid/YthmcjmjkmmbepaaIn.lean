/- The model's l1In, by its contract. -/
import Derived.Test.YthmcjmjkmmbepaaFlat
namespace Go.Proofs.Ythmcjmjkmmbepaa
open Go.RowKit

theorem l1In_yes (x a b : Int) (w : World) (h0 : a ≤ x) (h1 : x ≤ b) :
    Calls Try.prog 66 #[.int .i64 x, .int .i64 a, .int .i64 b] w fun e w' => e = .returned (.bool true) ∧ w' = w := by
  go_enter Try.func66, Try.ntmps66
  go_wp2
  go_ret
  exact ⟨rfl, rfl⟩
theorem l1In_no (x a b : Int) (w : World) (h : x < a ∨ b < x) :
    Calls Try.prog 66 #[.int .i64 x, .int .i64 a, .int .i64 b] w fun e w' => e = .returned (.bool false) ∧ w' = w := by
  by_cases h1 : x < a
  · go_enter Try.func66, Try.ntmps66
    go_wp2
    go_ret
    exact ⟨rfl, rfl⟩
  · have h2 : b < x := by omega
    have hq : decide (x ≤ b) = false := decide_eq_false (by omega)
    go_enter Try.func66, Try.ntmps66
    go_wp2
    go_ret
    exact ⟨by rw [← hq]; rfl, rfl⟩
theorem l1In_any (x a b : Int) (w : World) :
    Calls Try.prog 66 #[.int .i64 x, .int .i64 a, .int .i64 b] w fun e w' => e = .returned (.bool (decide (a ≤ x ∧ x ≤ b))) ∧ w' = w := by
  by_cases h : a ≤ x ∧ x ≤ b
  · rw [decide_eq_true h]; exact l1In_yes x a b w h.1 h.2
  · rw [decide_eq_false h]; exact l1In_no x a b w (by omega)

end Go.Proofs.Ythmcjmjkmmbepaa
