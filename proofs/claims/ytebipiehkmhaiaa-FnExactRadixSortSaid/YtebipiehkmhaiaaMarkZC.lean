/- The laws' marks of a list of records of no length, by contracts. -/
import Derived.Test.YtebipiehkmhaiaaRetCE
import Derived.Test.YtebipiehkmhaiaaRecSE
import Derived.Test.YtebipiehkmhaiaaRecSM
import Derived.Test.YtebipiehkmhaiaaRecSH
namespace Go.Proofs.Ytebipiehkmhaiaa
open Go.RowKit
set_option linter.unusedVariables false

theorem flat0C (a : Option Addr) (c : Nat) (w : World) : FlatAt w (.slice a 0 c) ([] : List (Int × Int)).length (recs []) := ⟨a, c, rfl, Nat.zero_le _, fun j u h => by simp [recs] at h⟩
theorem mark0C_any (a : Option Addr) (c : Nat) (w : World) :
    Calls Try.prog 43 #[.slice a 0 c, .int .i64 1] w fun e w' => e = .returned (.int .i64 1) ∧ Below w.heap.size w w' := by
  go_enter Try.func43, Try.ntmps43
  go_wp2
  go_loopw [1, 5] (fun q i wr => i = .int .i64 0 ∧ q = .int .i64 1 ∧ wr = w) (fun _ _ _ => 0)
  case atStart => exact ⟨rfl, rfl, rfl⟩
  case round =>
    obtain ⟨rfl, rfl, rfl⟩ := hrel
    go_wp2
    go_ret
    exact ⟨rfl, Below.refl _ _⟩
theorem held0C_any (a : Option Addr) (c : Nat) (w : World) :
    Calls Try.prog 44 #[.slice a 0 c, .int .i64 1] w fun e w' => e = .returned (.int .i64 1) ∧ Below w.heap.size w w' := by
  go_enter Try.func44, Try.ntmps44
  go_wp2
  go_loopw [1, 5] (fun q i wr => i = .int .i64 0 ∧ q = .int .i64 1 ∧ wr = w) (fun _ _ _ => 0)
  case atStart => exact ⟨rfl, rfl, rfl⟩
  case round =>
    obtain ⟨rfl, rfl, rfl⟩ := hrel
    go_wp2
    go_ret
    exact ⟨rfl, Below.refl _ _⟩

end Go.Proofs.Ytebipiehkmhaiaa
