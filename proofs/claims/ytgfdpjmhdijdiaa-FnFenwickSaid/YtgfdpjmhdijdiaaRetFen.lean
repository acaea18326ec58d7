/- Answers whose first part is a tree of sums: its list new, or of no length. -/
import Derived.Test.YtgfdpjmhdijdiaaRetI
import Derived.Test.YtgfdpjmhdijdiaaFenP
namespace Go.Proofs.Ytgfdpjmhdijdiaa
open Go.RowKit Fw
set_option linter.unusedVariables false

def RetFen1 (r : List Int × Bool) (w : World) (e : Ending) (w' : World) : Prop :=
  ∃ g c, e = .returned (.tuple #[.agg #[.slice (some ⟨g, 0, none⟩) r.1.length c], .bool r.2]) ∧ r.1.length ≤ c ∧ w.heap.size ≤ g ∧ CellRow w' g (ints r.1) ∧ Below w.heap.size w w'
def RetFen2 (r : List Int × Int × Bool) (w : World) (e : Ending) (w' : World) : Prop :=
  ∃ g c, e = .returned (.tuple #[.agg #[.slice (some ⟨g, 0, none⟩) r.1.length c], .int .i64 r.2.1, .bool r.2.2]) ∧ r.1.length ≤ c ∧ w.heap.size ≤ g ∧ CellRow w' g (ints r.1) ∧ Below w.heap.size w w'
def RetFenZ1 (b : Bool) (w : World) (e : Ending) (w' : World) : Prop :=
  ∃ a c, e = .returned (.tuple #[.agg #[.slice a 0 c], .bool b]) ∧ Below w.heap.size w w'
def RetFenZ2 (n : Int) (b : Bool) (w : World) (e : Ending) (w' : World) : Prop :=
  ∃ a c, e = .returned (.tuple #[.agg #[.slice a 0 c], .int .i64 n, .bool b]) ∧ Below w.heap.size w w'
def RetFE1 (r : List Int × Bool) (w : World) (e : Ending) (w' : World) : Prop := RetFen1 r w e w' ∨ (r.1 = [] ∧ RetFenZ1 r.2 w e w')
def RetFE2 (r : List Int × Int × Bool) (w : World) (e : Ending) (w' : World) : Prop := RetFen2 r w e w' ∨ (r.1 = [] ∧ RetFenZ2 r.2.1 r.2.2 w e w')
theorem RetFE1.own {r : List Int × Bool} {w w' : World} {e : Ending} (h : RetFE1 r w e w') (h0 : r.1 ≠ []) : RetFen1 r w e w' := by
  rcases h with h | ⟨h, _⟩
  · exact h
  · exact absurd h h0
theorem RetFE1.zero {r : List Int × Bool} {w w' : World} {e : Ending} (h : RetFE1 r w e w') (h0 : r.1 = []) : RetFenZ1 r.2 w e w' := by
  rcases h with ⟨g, c, rfl, _, _, _, hb⟩ | ⟨_, h⟩
  · exact ⟨some ⟨g, 0, none⟩, c, by rw [h0]; rfl, hb⟩
  · exact h
theorem RetFE2.own {r : List Int × Int × Bool} {w w' : World} {e : Ending} (h : RetFE2 r w e w') (h0 : r.1 ≠ []) : RetFen2 r w e w' := by
  rcases h with h | ⟨h, _⟩
  · exact h
  · exact absurd h h0
theorem RetFE2.zero {r : List Int × Int × Bool} {w w' : World} {e : Ending} (h : RetFE2 r w e w') (h0 : r.1 = []) : RetFenZ2 r.2.1 r.2.2 w e w' := by
  rcases h with ⟨g, c, rfl, _, _, _, hb⟩ | ⟨_, h⟩
  · exact ⟨some ⟨g, 0, none⟩, c, by rw [h0]; rfl, hb⟩
  · exact h

theorem bldF_yes {v : List Int} (h : OkM v) : bldF v = (bs v, true) := if_pos h
theorem bldF_no {v : List Int} (h : ¬ OkM v) : bldF v = ([], false) := if_neg h
theorem bldF_len (l : List Int) (b0 : l.length ≤ 1048576) : (bldF l).1.length ≤ 1048576 := by
  by_cases h : OkM l
  · rw [bldF_yes h, bs_len]; exact b0
  · rw [bldF_no h]; simp

end Go.Proofs.Ytgfdpjmhdijdiaa
