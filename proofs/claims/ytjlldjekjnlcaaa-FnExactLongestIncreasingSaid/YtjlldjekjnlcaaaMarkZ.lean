/- The laws' marks of a list of no length, by contracts. -/
import Derived.Test.YtjlldjekjnlcaaaRetZ
import Derived.Test.YtjlldjekjnlcaaaIntSE
import Derived.Test.YtjlldjekjnlcaaaIntSM
import Derived.Test.YtjlldjekjnlcaaaIntSH
namespace Go.Proofs.Ytjlldjekjnlcaaa
open Go.RowKit
set_option linter.unusedVariables false

theorem flat0 (a : Option Addr) (c : Nat) (w : World) : FlatAt w (.slice a 0 c) ([] : List Int).length (ints []) := ⟨a, c, rfl, Nat.zero_le _, fun j u h => by simp [ints] at h⟩
theorem mark0_any (a : Option Addr) (c : Nat) (w : World) :
    Calls Try.prog 40 #[.slice a 0 c, .int .i64 1] w fun e w' => e = .returned (.int .i64 1) ∧ Below w.heap.size w w' := by
  go_enter Try.func40, Try.ntmps40
  go_wp2
  go_loopw [1, 5] (fun q i wr => i = .int .i64 0 ∧ q = .int .i64 1 ∧ wr = w) (fun _ _ _ => 0)
  case atStart => exact ⟨rfl, rfl, rfl⟩
  case round =>
    obtain ⟨rfl, rfl, rfl⟩ := hrel
    go_wp2
    go_ret
    exact ⟨rfl, Below.refl _ _⟩
theorem held0_any (a : Option Addr) (c : Nat) (w : World) :
    Calls Try.prog 41 #[.slice a 0 c, .int .i64 1] w fun e w' => e = .returned (.int .i64 1) ∧ Below w.heap.size w w' := by
  go_enter Try.func41, Try.ntmps41
  go_wp2
  go_loopw [1, 5] (fun q i wr => i = .int .i64 0 ∧ q = .int .i64 1 ∧ wr = w) (fun _ _ _ => 0)
  case atStart => exact ⟨rfl, rfl, rfl⟩
  case round =>
    obtain ⟨rfl, rfl, rfl⟩ := hrel
    go_wp2
    go_ret
    exact ⟨rfl, Below.refl _ _⟩

end Go.Proofs.Ytjlldjekjnlcaaa
