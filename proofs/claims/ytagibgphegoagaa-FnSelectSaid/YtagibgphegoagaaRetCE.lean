/- Answers whose list may be nil where it has no length: a list and a bool, or a list, a number and a bool. -/
import Derived.Test.YtagibgphegoagaaHeldC
import Derived.Test.YtagibgphegoagaaRetI
namespace Go.Proofs.Ytagibgphegoagaa
open Go.RowKit
set_option linter.unusedVariables false

/-- No length, wherever it lies. -/
def RetZb (b : Bool) (w : World) (e : Ending) (w' : World) : Prop :=
  ∃ a c, e = .returned (.tuple #[.slice a 0 c, .bool b]) ∧ Below w.heap.size w w'
def RetZnb (n : Int) (b : Bool) (w : World) (e : Ending) (w' : World) : Prop :=
  ∃ a c, e = .returned (.tuple #[.slice a 0 c, .int .i64 n, .bool b]) ∧ Below w.heap.size w w'
def RetCE (r : List (Int × Int) × Bool) (w : World) (e : Ending) (w' : World) : Prop := RetC r w e w' ∨ (r.1 = [] ∧ RetZb r.2 w e w')
def Ret1CE (r : List (Int × Int) × Int × Bool) (w : World) (e : Ending) (w' : World) : Prop := Ret1C r w e w' ∨ (r.1 = [] ∧ RetZnb r.2.1 r.2.2 w e w')
def RetIE (r : List Int × Bool) (w : World) (e : Ending) (w' : World) : Prop := RetI r w e w' ∨ (r.1 = [] ∧ RetZb r.2 w e w')
theorem RetCE.own {r : List (Int × Int) × Bool} {w w' : World} {e : Ending} (h : RetCE r w e w') (h0 : r.1 ≠ []) : RetC r w e w' := by
  rcases h with h | ⟨h, _⟩
  · exact h
  · exact absurd h h0
theorem RetCE.zero {r : List (Int × Int) × Bool} {w w' : World} {e : Ending} (h : RetCE r w e w') (h0 : r.1 = []) : RetZb r.2 w e w' := by
  rcases h with ⟨g, c, rfl, _, _, _, hb⟩ | ⟨_, h⟩
  · exact ⟨some ⟨g, 0, none⟩, c, by rw [h0]; rfl, hb⟩
  · exact h
theorem Ret1CE.own {r : List (Int × Int) × Int × Bool} {w w' : World} {e : Ending} (h : Ret1CE r w e w') (h0 : r.1 ≠ []) : Ret1C r w e w' := by
  rcases h with h | ⟨h, _⟩
  · exact h
  · exact absurd h h0
theorem Ret1CE.zero {r : List (Int × Int) × Int × Bool} {w w' : World} {e : Ending} (h : Ret1CE r w e w') (h0 : r.1 = []) : RetZnb r.2.1 r.2.2 w e w' := by
  rcases h with ⟨g, c, rfl, _, _, _, hb⟩ | ⟨_, h⟩
  · exact ⟨some ⟨g, 0, none⟩, c, by rw [h0]; rfl, hb⟩
  · exact h
theorem RetIE.own {r : List Int × Bool} {w w' : World} {e : Ending} (h : RetIE r w e w') (h0 : r.1 ≠ []) : RetI r w e w' := by
  rcases h with h | ⟨h, _⟩
  · exact h
  · exact absurd h h0
theorem RetIE.zero {r : List Int × Bool} {w w' : World} {e : Ending} (h : RetIE r w e w') (h0 : r.1 = []) : RetZb r.2 w e w' := by
  rcases h with ⟨g, c, rfl, _, _, _, hb⟩ | ⟨_, h⟩
  · exact ⟨some ⟨g, 0, none⟩, c, by rw [h0]; rfl, hb⟩
  · exact h

/-- The list read alone. -/
def RetFC (r : List (Int × Int) × Bool) (w : World) (e : Ending) (w' : World) : Prop :=
  ∃ a c, e = .returned (.tuple #[.slice a r.1.length c, .bool r.2]) ∧ FlatAt w' (.slice a r.1.length c) r.1.length (recs r.1) ∧ Below w.heap.size w w'
def RetFC1 (r : List (Int × Int) × Int × Bool) (w : World) (e : Ending) (w' : World) : Prop :=
  ∃ a c, e = .returned (.tuple #[.slice a r.1.length c, .int .i64 r.2.1, .bool r.2.2]) ∧ FlatAt w' (.slice a r.1.length c) r.1.length (recs r.1) ∧ Below w.heap.size w w'
def RetFI (r : List Int × Bool) (w : World) (e : Ending) (w' : World) : Prop :=
  ∃ a c, e = .returned (.tuple #[.slice a r.1.length c, .bool r.2]) ∧ FlatAt w' (.slice a r.1.length c) r.1.length (ints r.1) ∧ Below w.heap.size w w'
theorem RetCE.flat {r : List (Int × Int) × Bool} {w w' : World} {e : Ending} (h : RetCE r w e w') : RetFC r w e w' := by
  rcases h with ⟨g, c, rfl, h1, _, h3, hb⟩ | ⟨h0, a, c, rfl, hb⟩
  · exact ⟨_, c, rfl, h3.flat h1, hb⟩
  · refine ⟨a, c, by rw [h0]; rfl, ?_, hb⟩
    rw [h0]; exact ⟨a, c, rfl, Nat.zero_le _, fun j u h => by simp [recs] at h⟩
theorem Ret1CE.flat {r : List (Int × Int) × Int × Bool} {w w' : World} {e : Ending} (h : Ret1CE r w e w') : RetFC1 r w e w' := by
  rcases h with ⟨g, c, rfl, h1, _, h3, hb⟩ | ⟨h0, a, c, rfl, hb⟩
  · exact ⟨_, c, rfl, h3.flat h1, hb⟩
  · refine ⟨a, c, by rw [h0]; rfl, ?_, hb⟩
    rw [h0]; exact ⟨a, c, rfl, Nat.zero_le _, fun j u h => by simp [recs] at h⟩
theorem RetIE.flat {r : List Int × Bool} {w w' : World} {e : Ending} (h : RetIE r w e w') : RetFI r w e w' := by
  rcases h with ⟨g, c, rfl, h1, _, h3, hb⟩ | ⟨h0, a, c, rfl, hb⟩
  · exact ⟨_, c, rfl, h3.flat h1, hb⟩
  · refine ⟨a, c, by rw [h0]; rfl, ?_, hb⟩
    rw [h0]; exact ⟨a, c, rfl, Nat.zero_le _, fun j u h => by simp [ints] at h⟩

end Go.Proofs.Ytagibgphegoagaa
