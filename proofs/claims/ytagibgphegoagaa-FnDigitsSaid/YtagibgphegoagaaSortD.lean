/- What StableSort hands back: settled by the list. -/
import Derived.Test.YtagibgphegoagaaOkR
import Derived.OwnWalk
namespace Go.Proofs.Ytagibgphegoagaa
open Go.RowKit

/-- What StableSort hands back. -/
def SortedOf (l L : List (Int × Int)) : Prop := (OkR l ∧ Stab.Of (·.1) l L) ∨ (¬ OkR l ∧ L = [])

theorem SortedOf.uniq {l L M : List (Int × Int)} (h : SortedOf l L) (k : SortedOf l M) : L = M := by
  rcases h with ⟨h1, h2⟩ | ⟨h1, h2⟩
  · rcases k with ⟨_, k2⟩ | ⟨k1, _⟩
    · exact Stab.Of.uniq h2 k2
    · exact absurd h1 k1
  · rcases k with ⟨k1, _⟩ | ⟨_, k2⟩
    · exact absurd k1 h1
    · rw [h2, k2]

theorem SortedOf.len {l L : List (Int × Int)} (h : SortedOf l L) : L.length ≤ l.length := by
  rcases h with ⟨_, h⟩ | ⟨_, h⟩
  · exact Nat.le_of_eq (Stab.Of.length h)
  · rw [h]; exact Nat.zero_le _

def SortC (l : List (Int × Int)) (w : World) (e : Ending) (w' : World) : Prop :=
  ∃ g cap L, e = .returned (.tuple #[.slice (some ⟨g, 0, none⟩) L.length cap, .bool (decide (OkR l))]) ∧ L.length ≤ cap ∧ w.heap.size ≤ g ∧ CellRow w' g (recs L) ∧ SortedOf l L ∧ Below w.heap.size w w'

end Go.Proofs.Ytagibgphegoagaa
