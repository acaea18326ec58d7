/- Answers whose list of numbers may be nil where it has no length. -/
import Derived.Test.YtjlldjekjnlcaaaRetI
namespace Go.Proofs.Ytjlldjekjnlcaaa
open Go.RowKit
set_option linter.unusedVariables false

/-- No length, wherever it lies. -/
def RetZb (b : Bool) (w : World) (e : Ending) (w' : World) : Prop :=
  ∃ a c, e = .returned (.tuple #[.slice a 0 c, .bool b]) ∧ Below w.heap.size w w'
def RetIE (r : List Int × Bool) (w : World) (e : Ending) (w' : World) : Prop := RetI r w e w' ∨ (r.1 = [] ∧ RetZb r.2 w e w')
theorem RetIE.own {r : List Int × Bool} {w w' : World} {e : Ending} (h : RetIE r w e w') (h0 : r.1 ≠ []) : RetI r w e w' := by
  rcases h with h | ⟨h, _⟩
  · exact h
  · exact absurd h h0
theorem RetIE.zero {r : List Int × Bool} {w w' : World} {e : Ending} (h : RetIE r w e w') (h0 : r.1 = []) : RetZb r.2 w e w' := by
  rcases h with ⟨g, c, rfl, _, _, _, hb⟩ | ⟨_, h⟩
  · exact ⟨some ⟨g, 0, none⟩, c, by rw [h0]; rfl, hb⟩
  · exact h

def RetFI (r : List Int × Bool) (w : World) (e : Ending) (w' : World) : Prop :=
  ∃ a c, e = .returned (.tuple #[.slice a r.1.length c, .bool r.2]) ∧ FlatAt w' (.slice a r.1.length c) r.1.length (ints r.1) ∧ Below w.heap.size w w'
theorem RetIE.flat {r : List Int × Bool} {w w' : World} {e : Ending} (h : RetIE r w e w') : RetFI r w e w' := by
  rcases h with ⟨g, c, rfl, h1, _, h3, hb⟩ | ⟨h0, a, c, rfl, hb⟩
  · exact ⟨_, c, rfl, h3.flat h1, hb⟩
  · refine ⟨a, c, by rw [h0]; rfl, ?_, hb⟩
    rw [h0]; exact ⟨a, c, rfl, Nat.zero_le _, fun j u h => by simp [ints] at h⟩


end Go.Proofs.Ytjlldjekjnlcaaa
