/- Answers that are a new list of new rows of numbers, or no rows at all, and a bool. -/
import Derived.Test.YtjlldjekjnlcaaaHeldR
import Derived.Test.YtjlldjekjnlcaaaHeldY
import Derived.Test.YtjlldjekjnlcaaaIntSSE
import Derived.Test.YtjlldjekjnlcaaaIntSSM
import Derived.Test.YtjlldjekjnlcaaaIntSSH
namespace Go.Proofs.Ytjlldjekjnlcaaa
open Go.RowKit
set_option linter.unusedVariables false

def RetSSZ (b : Bool) (w : World) (e : Ending) (w' : World) : Prop :=
  ∃ a c, e = .returned (.tuple #[.slice a 0 c, .bool b]) ∧ Below w.heap.size w w'
def RetSSE (r : List (List Int) × Bool) (w : World) (e : Ending) (w' : World) : Prop := RetSS r w e w' ∨ (r.1 = [] ∧ RetSSZ r.2 w e w')
theorem RetSSE.own {r : List (List Int) × Bool} {w w' : World} {e : Ending} (h : RetSSE r w e w') (h0 : r.1 ≠ []) : RetSS r w e w' := by
  rcases h with h | ⟨h, _⟩
  · exact h
  · exact absurd h h0
theorem RetSSE.zero {r : List (List Int) × Bool} {w w' : World} {e : Ending} (h : RetSSE r w e w') (h0 : r.1 = []) : RetSSZ r.2 w e w' := by
  rcases h with ⟨g, c, G, C, rfl, _, _, hb⟩ | ⟨_, h⟩
  · exact ⟨some ⟨g, 0, none⟩, c, by rw [h0]; rfl, hb⟩
  · exact h
/-- From a list of rows of the call's own. -/
theorem HeldZ.ret {w w' : World} {v : Value} {X : List ZRow} {M : List (List Int)} (h : HeldZ w.heap.size w' v X) (hM : X.map ZRow.L = M) (hb : Below w.heap.size w w') (b : Bool) : RetSSE (M, b) w (.returned (.tuple #[v, .bool b])) w' := by
  rcases h.nn with ⟨rfl, rfl⟩ | ⟨g, c, rfl, _⟩
  · exact .inr ⟨hM.symm, none, 0, rfl, hb⟩
  · obtain ⟨_, h2, h3⟩ := h.nest
    have hM2 : (X.map fun x => x.L) = M := hM
    rw [hM2] at h3
    have hl : X.length = M.length := by rw [← hM]; simp
    exact .inl ⟨g, c, _, _, by rw [hl], by rw [← hl]; exact h2, h3, hb⟩
theorem RetSSE.nil {r : List (List Int) × Bool} {w w' : World} (h : r = ([], false)) (hb : Below w.heap.size w w') : RetSSE r w (.returned (.tuple #[.slice none 0 0, .bool false])) w' := by
  subst h; exact .inr ⟨rfl, none, 0, rfl, hb⟩

theorem rowsI0 (a : Option Addr) (c : Nat) (w : World) : RowsAt w (.slice a 0 c) (([] : List (List Int)).map ints) := ⟨a, c, rfl, Nat.zero_le _, fun j cs h => by simp at h⟩
theorem markIntSS0_any (a : Option Addr) (c : Nat) (w : World) :
    Calls Try.prog 47 #[.slice a 0 c, .int .i64 1] w fun e w' => e = .returned (.int .i64 1) ∧ Below w.heap.size w w' := by
  go_enter Try.func47, Try.ntmps47
  go_wp2
  go_loopw [1, 5] (fun q i wr => i = .int .i64 0 ∧ q = .int .i64 1 ∧ wr = w) (fun _ _ _ => 0)
  case atStart => exact ⟨rfl, rfl, rfl⟩
  case round =>
    obtain ⟨rfl, rfl, rfl⟩ := hrel
    go_wp2
    go_ret
    exact ⟨rfl, Below.refl _ _⟩
theorem heldIntSS0_any (a : Option Addr) (c : Nat) (w : World) :
    Calls Try.prog 48 #[.slice a 0 c, .int .i64 1] w fun e w' => e = .returned (.int .i64 1) ∧ Below w.heap.size w w' := by
  go_enter Try.func48, Try.ntmps48
  go_wp2
  go_loopw [1, 5] (fun q i wr => i = .int .i64 0 ∧ q = .int .i64 1 ∧ wr = w) (fun _ _ _ => 0)
  case atStart => exact ⟨rfl, rfl, rfl⟩
  case round =>
    obtain ⟨rfl, rfl, rfl⟩ := hrel
    go_wp2
    go_ret
    exact ⟨rfl, Below.refl _ _⟩

end Go.Proofs.Ytjlldjekjnlcaaa
