/- Answers whose list may be nil where it has no length. -/
import Derived.Test.YtjlldjekjnlcaaaRet12
import Derived.Test.YtjlldjekjnlcaaaOwnN
namespace Go.Proofs.Ytjlldjekjnlcaaa
open Go.RowKit
set_option linter.unusedVariables false

def RetZ1 (r : List Int × Int × Bool) (w : World) (e : Ending) (w' : World) : Prop :=
  ∃ a c, e = .returned (.tuple #[.slice a 0 c, .int .i64 r.2.1, .bool r.2.2]) ∧ Below w.heap.size w w'
def RetZ2 (r : List Int × Int × Int × Bool) (w : World) (e : Ending) (w' : World) : Prop :=
  ∃ a c, e = .returned (.tuple #[.slice a 0 c, .int .i64 r.2.1, .int .i64 r.2.2.1, .bool r.2.2.2]) ∧ Below w.heap.size w w'
theorem RetI1.zero {r : List Int × Int × Bool} {w w' : World} {e : Ending} (h : RetI1 r w e w') (h0 : r.1 = []) : RetZ1 r w e w' := by
  obtain ⟨g, c, rfl, _, _, _, hb⟩ := h
  exact ⟨Option.some ⟨g, 0, Option.none⟩, c, by rw [h0]; rfl, hb⟩
theorem RetI2.zero {r : List Int × Int × Int × Bool} {w w' : World} {e : Ending} (h : RetI2 r w e w') (h0 : r.1 = []) : RetZ2 r w e w' := by
  obtain ⟨g, c, rfl, _, _, _, hb⟩ := h
  exact ⟨Option.some ⟨g, 0, Option.none⟩, c, by rw [h0]; rfl, hb⟩
/-- Either: its own list; or no length. -/
def RetE1 (r : List Int × Int × Bool) (w : World) (e : Ending) (w' : World) : Prop := RetI1 r w e w' ∨ (r.1 = [] ∧ RetZ1 r w e w' ∧ ∀ c, e = .returned (.tuple #[.slice none 0 c, .int .i64 r.2.1, .bool r.2.2]) → c = 0)
def RetE2 (r : List Int × Int × Int × Bool) (w : World) (e : Ending) (w' : World) : Prop := RetI2 r w e w' ∨ (r.1 = [] ∧ RetZ2 r w e w')
theorem RetE1.own {r : List Int × Int × Bool} {w w' : World} {e : Ending} (h : RetE1 r w e w') (h0 : r.1 ≠ []) : RetI1 r w e w' := by
  rcases h with h | ⟨h, _⟩
  · exact h
  · exact absurd h h0
theorem RetE1.zero {r : List Int × Int × Bool} {w w' : World} {e : Ending} (h : RetE1 r w e w') (h0 : r.1 = []) : RetZ1 r w e w' := by
  rcases h with h | ⟨_, h, _⟩
  · exact h.zero h0
  · exact h
theorem RetE2.own {r : List Int × Int × Int × Bool} {w w' : World} {e : Ending} (h : RetE2 r w e w') (h0 : r.1 ≠ []) : RetI2 r w e w' := by
  rcases h with h | ⟨h, _⟩
  · exact h
  · exact absurd h h0
theorem RetE2.zero {r : List Int × Int × Int × Bool} {w w' : World} {e : Ending} (h : RetE2 r w e w') (h0 : r.1 = []) : RetZ2 r w e w' := by
  rcases h with h | ⟨_, h⟩
  · exact h.zero h0
  · exact h

end Go.Proofs.Ytjlldjekjnlcaaa
