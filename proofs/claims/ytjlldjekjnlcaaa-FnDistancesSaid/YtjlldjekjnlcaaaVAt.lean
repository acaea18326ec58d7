/- vAt of the laws, by its contract. -/
import Derived.Test.YtjlldjekjnlcaaaCode
import Derived.WalkKit
import Derived.LoopTactic
import Derived.Lib.Hide
import Derived.Deep.QuietTactic
namespace Go.Proofs.Ytjlldjekjnlcaaa
open Go.RowKit

/-- A byte of the code, or a number in its place. -/
theorem vAt_any (a : Option Addr) (len cap : Nat) (i : Nat) (w : World) (h : Code0 w a len) (hi : i ≤ 1000) (hl : len ≤ 1000000) :
    Calls Try.prog 18 #[.slice a len cap, .int .i64 i] w fun e w' => (∃ r : Int, 0 ≤ r ∧ r ≤ 255 ∧ e = .returned (.int .i64 r)) ∧ w' = w := by
  by_cases hlt : i < len
  · obtain ⟨x, z, hax, hxb, hz, hz0, hz1⟩ := h i hlt
    subst hax
    go_enter Try.func18, Try.ntmps18
    go_wp2
    go_ret
    exact ⟨⟨_, hz0, hz1, rfl⟩, rfl⟩
  · clear h
    go_enter Try.func18, Try.ntmps18
    go_wp2
    go_ret
    exact ⟨⟨_, Int.emod_nonneg _ (by decide), by omega, rfl⟩, rfl⟩

end Go.Proofs.Ytjlldjekjnlcaaa
