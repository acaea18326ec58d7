/- The laws' marks of a list of no length, by contracts. -/
import Derived.Test.YtgfdpjmhdijdiaaRetZ
import Derived.Test.YtgfdpjmhdijdiaaIntSE
import Derived.Test.YtgfdpjmhdijdiaaIntSM
import Derived.Test.YtgfdpjmhdijdiaaIntSH
namespace Go.Proofs.Ytgfdpjmhdijdiaa
open Go.RowKit
set_option linter.unusedVariables false

theorem flat0 (a : Option Addr) (c : Nat) (w : World) : FlatAt w (.slice a 0 c) ([] : List Int).length (ints []) := ⟨a, c, rfl, Nat.zero_le _, fun j u h => by simp [ints] at h⟩
theorem mark0_any (a : Option Addr) (c : Nat) (w : World) :
    Calls Try.prog 57 #[.slice a 0 c, .int .i64 1] w fun e w' => e = .returned (.int .i64 1) ∧ Below w.heap.size w w' := by
  go_enter Try.func57, Try.ntmps57
  go_wp2
  go_loopw [1, 5] (fun q i wr => i = .int .i64 0 ∧ q = .int .i64 1 ∧ wr = w) (fun _ _ _ => 0)
  case atStart => exact ⟨rfl, rfl, rfl⟩
  case round =>
    obtain ⟨rfl, rfl, rfl⟩ := hrel
    go_wp2
    go_ret
    exact ⟨rfl, Below.refl _ _⟩
theorem held0_any (a : Option Addr) (c : Nat) (w : World) :
    Calls Try.prog 61 #[.slice a 0 c, .int .i64 1] w fun e w' => e = .returned (.int .i64 1) ∧ Below w.heap.size w w' := by
  go_enter Try.func61, Try.ntmps61
  go_wp2
  go_loopw [1, 5] (fun q i wr => i = .int .i64 0 ∧ q = .int .i64 1 ∧ wr = w) (fun _ _ _ => 0)
  case atStart => exact ⟨rfl, rfl, rfl⟩
  case round =>
    obtain ⟨rfl, rfl, rfl⟩ := hrel
    go_wp2
    go_ret
    exact ⟨rfl, Below.refl _ _⟩

end Go.Proofs.Ytgfdpjmhdijdiaa
