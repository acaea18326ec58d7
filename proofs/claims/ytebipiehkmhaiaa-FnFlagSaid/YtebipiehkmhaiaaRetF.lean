/- Answers whose list is read alone, wherever it lies. -/
import Derived.Test.YtebipiehkmhaiaaRetZ
namespace Go.Proofs.Ytebipiehkmhaiaa
open Go.RowKit
set_option linter.unusedVariables false

def RetF1 (r : List Int × Int × Bool) (w : World) (e : Ending) (w' : World) : Prop :=
  ∃ a c, e = .returned (.tuple #[.slice a r.1.length c, .int .i64 r.2.1, .bool r.2.2]) ∧ FlatAt w' (.slice a r.1.length c) r.1.length (ints r.1) ∧ Below w.heap.size w w'
def RetF2 (r : List Int × Int × Int × Bool) (w : World) (e : Ending) (w' : World) : Prop :=
  ∃ a c, e = .returned (.tuple #[.slice a r.1.length c, .int .i64 r.2.1, .int .i64 r.2.2.1, .bool r.2.2.2]) ∧ FlatAt w' (.slice a r.1.length c) r.1.length (ints r.1) ∧ Below w.heap.size w w'
theorem RetI1.flat {r : List Int × Int × Bool} {w w' : World} {e : Ending} (h : RetI1 r w e w') : RetF1 r w e w' := by
  obtain ⟨g, c, rfl, hc, _, hr, hb⟩ := h
  exact ⟨_, c, rfl, hr.flat hc, hb⟩
theorem RetI2.flat {r : List Int × Int × Int × Bool} {w w' : World} {e : Ending} (h : RetI2 r w e w') : RetF2 r w e w' := by
  obtain ⟨g, c, rfl, hc, _, hr, hb⟩ := h
  exact ⟨_, c, rfl, hr.flat hc, hb⟩
theorem RetE1.flat {r : List Int × Int × Bool} {w w' : World} {e : Ending} (h : RetE1 r w e w') : RetF1 r w e w' := by
  rcases h with h | ⟨h0, ⟨a, c, rfl, hb⟩, _⟩
  · exact h.flat
  · obtain ⟨r1, r2, r3⟩ := r
    simp only at h0; subst h0
    exact ⟨a, c, rfl, ⟨a, c, rfl, Nat.zero_le _, fun j u h => by simp [ints] at h⟩, hb⟩
theorem RetE2.flat {r : List Int × Int × Int × Bool} {w w' : World} {e : Ending} (h : RetE2 r w e w') : RetF2 r w e w' := by
  rcases h with h | ⟨h0, a, c, rfl, hb⟩
  · exact h.flat
  · obtain ⟨r1, r2, r3, r4⟩ := r
    simp only at h0; subst h0
    exact ⟨a, c, rfl, ⟨a, c, rfl, Nat.zero_le _, fun j u h => by simp [ints] at h⟩, hb⟩

end Go.Proofs.Ytebipiehkmhaiaa
