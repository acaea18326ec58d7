/- Many cells of a row at once. -/
import Derived.Test.YtjlldjekjnlcaaaInts
import Derived.Deep.Upon
import Derived.Deep.MidRow
namespace Go.Proofs.Ytjlldjekjnlcaaa
open Go.RowKit

theorem But.sets0 {g : Nat} {a : World} : ∀ (vs : List Value) (o : Nat) (w : World), But g a w → But g a (w.setCells g o vs)
  | [], _, _, h => h
  | v :: r, o, _, h => But.sets0 r (o + 1) _ (h.setCell o v)
theorem But.sets {g : Nat} {a w : World} (h : But g a w) (o q : Nat) (vs : List Value) : But g a ((w.drewN q).setCells g o vs) := But.sets0 vs o _ (h.drewN q)

theorem CellRow.sets {w : World} {g : Nat} {cs : List Value} (h : CellRow w g cs) (o q : Nat) (vs : List Value) (hl : o + vs.length ≤ cs.length) :
    CellRow ((w.drewN q).setCells g o vs) g (cs.take o ++ vs ++ cs.drop (o + vs.length)) := by
  refine ⟨?_, fun j u hu => ⟨?_, by rw [World.frozen?_setCells]; obtain ⟨hj, _⟩ := List.getElem?_eq_some_iff.1 hu; exact (h.2 j _ (List.getElem?_eq_getElem (by simp at hj; omega))).2⟩⟩
  · exact Nat.lt_of_lt_of_le h.1 ((But.refl g w).sets o q vs).size
  · by_cases h1 : j < o
    · rw [World.cell?_setCells_out g vs o (w.drewN q) ⟨g, j, none⟩ (fun _ _ => .inl h1)]
      rw [List.append_assoc, List.getElem?_append_left (by simp; omega), List.getElem?_take_of_lt h1] at hu
      exact (h.2 j u hu).1
    · by_cases h2 : j < o + vs.length
      · obtain ⟨k, rfl⟩ : ∃ k, j = o + k := ⟨j - o, by omega⟩
        have hk : k < vs.length := by omega
        rw [World.cell?_setCells_in g vs o (w.drewN q) (fun i hi => by rw [show (w.drewN q).cell? ⟨g, o + i, none⟩ = _ from (h.2 (o + i) _ (List.getElem?_eq_getElem (by omega))).1]; rfl) k hk]
        rw [List.append_assoc, List.getElem?_append_right (by simp; omega), List.length_take, Nat.min_eq_left (by omega), Nat.add_sub_cancel_left, List.getElem?_append_left hk, List.getElem?_eq_getElem hk] at hu
        exact hu
      · rw [World.cell?_setCells_out g vs o (w.drewN q) ⟨g, j, none⟩ (fun _ _ => .inr (by simpa using h2))]
        rw [List.getElem?_append_right (by simp; omega), List.getElem?_drop] at hu
        rw [show o + vs.length + (j - (cs.take o ++ vs).length) = j by simp; omega] at hu
        exact (h.2 j u hu).1

end Go.Proofs.Ytjlldjekjnlcaaa
