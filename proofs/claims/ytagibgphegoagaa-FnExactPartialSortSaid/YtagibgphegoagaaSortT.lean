/- The sorting permutation: a permutation, in the order of the numbers and of the indices where they tie. Nothing of the program. -/
import Derived.Test.YtagibgphegoagaaSortF
namespace Go.Proofs.Ytagibgphegoagaa
open Go.RowKit P

theorem sortTo_perm (l : List Int) : ∀ n, (sortTo l n).Perm (iota n)
  | 0 => by simp [sortTo, iota]
  | n + 1 => by
    have ih := sortTo_perm l n
    have e0 := List.takeWhile_append_dropWhile (p := fun x => decide (keyOf l x ≤ keyOf l (n : Int))) (l := sortTo l n)
    rw [iota_succ]
    show ((sortTo l n).takeWhile (fun x => decide (keyOf l x ≤ keyOf l (n : Int))) ++ [(n : Int)] ++ (sortTo l n).dropWhile (fun x => decide (keyOf l x ≤ keyOf l (n : Int)))).Perm _
    have h1 : ((sortTo l n).takeWhile (fun x => decide (keyOf l x ≤ keyOf l (n : Int))) ++ [(n : Int)] ++ (sortTo l n).dropWhile (fun x => decide (keyOf l x ≤ keyOf l (n : Int)))).Perm ((n : Int) :: sortTo l n) := by
      rw [List.append_assoc]
      refine List.perm_middle.trans ?_
      rw [show (∀ X : List Int, [].append X = X) from fun _ => rfl, e0]
    exact h1.trans ((ih.cons _).trans (List.perm_append_singleton _ _).symm)
/-- In the order of the numbers, and of the indices where they tie. -/
theorem sortTo_lex (l : List Int) : ∀ n, (sortTo l n).Pairwise (fun x y => keyOf l x < keyOf l y ∨ (keyOf l x = keyOf l y ∧ x < y))
  | 0 => by simp [sortTo]
  | n + 1 => by
    have ih := sortTo_lex l n
    have hof := sortTo_of l n
    have e0 := List.takeWhile_append_dropWhile (p := fun x => decide (keyOf l x ≤ keyOf l (n : Int))) (l := sortTo l n)
    have hof2 := (sortTo_of l (n + 1)).sorted
    have e1 : sortTo l (n + 1) = (sortTo l n).takeWhile (fun x => decide (keyOf l x ≤ keyOf l (n : Int))) ++ [(n : Int)] ++ (sortTo l n).dropWhile (fun x => decide (keyOf l x ≤ keyOf l (n : Int))) := rfl
    rw [e1]
    rw [← e0] at ih
    obtain ⟨p1, p2, p3⟩ := List.pairwise_append.1 ih
    have hdrop : ∀ y ∈ (sortTo l n).dropWhile (fun x => decide (keyOf l x ≤ keyOf l (n : Int))), keyOf l (n : Int) < keyOf l y := by
      intro y hy
      cases hd : (sortTo l n).dropWhile (fun x => decide (keyOf l x ≤ keyOf l (n : Int))) with
      | nil => rw [hd] at hy; simp at hy
      | cons z r =>
        have hz := List.head_dropWhile_not (fun x => decide (keyOf l x ≤ keyOf l (n : Int))) (l := sortTo l n) (by rw [hd]; simp)
        simp only [hd, List.head_cons] at hz
        have hz2 : keyOf l (n : Int) < keyOf l z := by simpa using hz
        rw [hd] at hy p2
        rcases List.mem_cons.1 hy with e | e
        · rw [e]; exact hz2
        · have := (List.pairwise_cons.1 p2).1 y e; omega
    rw [List.append_assoc]
    refine List.pairwise_append.2 ⟨p1, List.pairwise_append.2 ⟨by simp, p2, fun a ha b hb => ?_⟩, fun a ha b hb => ?_⟩
    · rw [List.mem_singleton.1 ha]; exact .inl (hdrop b hb)
    · rcases List.mem_append.1 hb with hb | hb
      · rw [List.mem_singleton.1 hb]
        have h1 := mem_takeWhile ha
        have h2 : a ∈ sortTo l n := by rw [← e0]; exact List.mem_append_left _ ha
        have h3 := iota_mem.1 ((sortTo_perm l n).mem_iff.1 h2)
        have h4 : keyOf l a ≤ keyOf l (n : Int) := by simpa using h1
        by_cases h5 : keyOf l a = keyOf l (n : Int)
        · exact .inr ⟨h5, h3.2⟩
        · exact .inl (by omega)
      · exact p3 a ha b hb
theorem sortTo_ok {l : List Int} (h : l.length ≤ 64) : OkP (sortTo l l.length) := OkP.of_perm (sortTo_perm l l.length) h

end Go.Proofs.Ytagibgphegoagaa
