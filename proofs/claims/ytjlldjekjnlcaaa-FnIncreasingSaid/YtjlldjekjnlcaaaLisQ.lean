/- The row of lengths on its way. -/
import Derived.Test.YtjlldjekjnlcaaaLisP
namespace Go.Proofs.Ytjlldjekjnlcaaa
namespace Iv
open P

/-- Before p nothing yet, y at p, the lengths behind it. -/
def rowL (l : List Int) (p : Nat) (y : Int) : List Int := List.replicate p 0 ++ y :: lis (l.drop (p + 1))
def zipL (l : List Int) (p : Nat) : List (Int × Int) := (l.drop (p + 1)).zip (lis (l.drop (p + 1)))
theorem zipL_length (l : List Int) (p : Nat) : (zipL l p).length = l.length - (p + 1) := by
  unfold zipL; rw [List.length_zip, lis_length, List.length_drop, Nat.min_self]
theorem rowL_length {l : List Int} {p : Nat} (h : p < l.length) (y : Int) : (rowL l p y).length = l.length := by
  unfold rowL; rw [List.length_append, List.length_replicate, List.length_cons, lis_length, List.length_drop]; omega
theorem rowL_start (l : List Int) (p : Nat) : rowL l p 0 = List.replicate (p + 1) 0 ++ lis (l.drop (p + 1)) := by
  unfold rowL; rw [List.replicate_succ', List.append_assoc]; rfl
theorem rowL_at (l : List Int) (p : Nat) (y : Int) : (rowL l p y)[p]? = some y := by
  unfold rowL; rw [List.getElem?_append_right (by simp)]; simp
theorem rowL_set (l : List Int) (p : Nat) (y z : Int) : (rowL l p y).set p z = rowL l p z := by
  unfold rowL; rw [List.set_append_right _ _ (by simp)]; simp
theorem rowL_done {l : List Int} {p : Nat} {x : Int} (h : l[p]? = some x) : rowL l p (1 + over x (zipL l p)) = List.replicate p 0 ++ lis (l.drop p) := by
  unfold rowL zipL; rw [lis_drop h]
theorem rowL_zip {l : List Int} {p j : Nat} (y : Int) (hj : p < j) (h : j < l.length) : ∃ s, (rowL l p y)[j]? = some s ∧ (zipL l p)[j - (p + 1)]? = some (l.getD j 0, s) ∧ 0 ≤ s ∧ s ≤ l.length := by
  have hlen : j - (p + 1) < (lis (l.drop (p + 1))).length := by rw [lis_length, List.length_drop]; omega
  refine ⟨(lis (l.drop (p + 1)))[j - (p + 1)], ?_, ?_, ?_, ?_⟩
  · unfold rowL
    rw [List.getElem?_append_right (by simp; omega), List.length_replicate, show j - p = (j - (p + 1)) + 1 by omega, List.getElem?_cons_succ, List.getElem?_eq_getElem hlen]
  · unfold zipL
    rw [List.getElem?_zip_eq_some]
    refine ⟨?_, List.getElem?_eq_getElem hlen⟩
    rw [List.getElem?_drop, show p + 1 + (j - (p + 1)) = j by omega]
    exact at_getD h
  · have := lis_pos _ (List.getElem_mem hlen); omega
  · have := lis_small _ (List.getElem_mem hlen); simp at this; omega
theorem zipL_small {l : List Int} {p : Nat} : ∀ a ∈ zipL l p, a.2 ≤ l.length := fun a ha => by
  unfold zipL at ha
  have := lis_small a.2 (List.of_mem_zip (a := a.1) (b := a.2) ha).2
  simp at this; omega
theorem overTo_bound {l : List Int} {p : Nat} (x : Int) (k : Nat) : 0 ≤ overTo x (zipL l p) k ∧ overTo x (zipL l p) k ≤ l.length :=
  ⟨over_nonneg _ _, over_count fun a ha => zipL_small a (List.mem_of_mem_take ha)⟩
theorem overTo_end {l : List Int} {p k : Nat} (x : Int) (h : l.length ≤ p + 1 + k) : overTo x (zipL l p) k = over x (zipL l p) := by
  unfold overTo; rw [List.take_of_length_le (by rw [zipL_length]; omega)]

end Iv
end Go.Proofs.Ytjlldjekjnlcaaa
