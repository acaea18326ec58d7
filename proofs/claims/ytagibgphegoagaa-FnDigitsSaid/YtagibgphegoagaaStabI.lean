/- The stable arrangement of indices by the numbers they stand for: inserting from behind finds it. Nothing of the program. -/
import Derived.Test.YtagibgphegoagaaPerm
import Derived.Test.YtagibgphegoagaaStab
namespace Go.Proofs.Ytagibgphegoagaa
open P

/-- The number that an index stands for. -/
def keyOf (l : List Int) (i : Int) : Int := l.getD i.toNat 0

/-- Where the next index goes in: behind all whose number is not greater. -/
theorem ins_of {l : List Int} {n k : Nat} {out : List Int} (h : Stab.Of (keyOf l) (iota n) out) (_hk : k ≤ out.length) (h1 : ∀ x ∈ out.take k, keyOf l x ≤ keyOf l (n : Int)) (h2 : ∀ x ∈ out.drop k, keyOf l (n : Int) < keyOf l x) :
    Stab.Of (keyOf l) (iota (n + 1)) (out.take k ++ [(n : Int)] ++ out.drop k) := by
  have hp := h.sorted
  rw [← List.take_append_drop k out] at hp
  obtain ⟨p1, p2, p3⟩ := List.pairwise_append.1 hp
  refine ⟨?_, fun q => ?_⟩
  · rw [List.append_assoc]
    refine List.pairwise_append.2 ⟨p1, List.pairwise_append.2 ⟨by simp, p2, fun a ha b hb => ?_⟩, fun a ha b hb => ?_⟩
    · rw [List.mem_singleton.1 ha]; have := h2 b hb; omega
    · rcases List.mem_append.1 hb with hb | hb
      · rw [List.mem_singleton.1 hb]; exact h1 a ha
      · exact p3 a ha b hb
  · have hs := h.same q
    rw [← List.take_append_drop k out, List.filter_append] at hs
    rw [iota_succ, List.filter_append, List.filter_append, List.filter_append, ← hs]
    by_cases hq : keyOf l (n : Int) = q
    · have e : (out.drop k).filter (fun a => keyOf l a == q) = [] := by
        rw [List.filter_eq_nil_iff]
        intro a ha
        have := h2 a ha
        simp; omega
      rw [e]; simp
    · have e : [(n : Int)].filter (fun a => keyOf l a == q) = [] := by simp [hq]
      rw [e]; simp

theorem mem_takeWhile {α : Type} {p : α → Bool} : ∀ {l : List α} {x : α}, x ∈ l.takeWhile p → p x = true
  | [], x, h => by simp at h
  | a :: l, x, h => by
    rw [List.takeWhile_cons] at h
    split at h
    · rename_i ha
      rcases List.mem_cons.1 h with e | e
      · rw [e]; exact ha
      · exact mem_takeWhile e
    · simp at h

/-- The sorting permutation. -/
def sortTo (l : List Int) : Nat → List Int
  | 0 => []
  | i + 1 => (sortTo l i).takeWhile (fun x => decide (keyOf l x ≤ keyOf l (i : Int))) ++ [(i : Int)] ++ (sortTo l i).dropWhile (fun x => decide (keyOf l x ≤ keyOf l (i : Int)))
theorem sortTo_of (l : List Int) : ∀ n, Stab.Of (keyOf l) (iota n) (sortTo l n)
  | 0 => ⟨by simp [sortTo], fun q => by simp [sortTo, iota]⟩
  | n + 1 => by
    have ih := sortTo_of l n
    obtain ⟨k, hk⟩ : ∃ k, k = ((sortTo l n).takeWhile (fun x => decide (keyOf l x ≤ keyOf l (n : Int)))).length := ⟨_, rfl⟩
    have e0 := List.takeWhile_append_dropWhile (p := fun x => decide (keyOf l x ≤ keyOf l (n : Int))) (l := sortTo l n)
    have e1 : (sortTo l n).take k = (sortTo l n).takeWhile (fun x => decide (keyOf l x ≤ keyOf l (n : Int))) := by
      conv => lhs; rw [← e0, hk]
      exact List.take_left
    have e2 : (sortTo l n).drop k = (sortTo l n).dropWhile (fun x => decide (keyOf l x ≤ keyOf l (n : Int))) := by
      conv => lhs; rw [← e0, hk]
      exact List.drop_left
    have hkl : k ≤ (sortTo l n).length := by rw [hk]; exact (List.takeWhile_sublist _).length_le
    have hall := ins_of ih hkl (fun x hx => by
      rw [e1] at hx
      have := mem_takeWhile hx
      simpa using this) (fun x hx => by
      have hs := ih.sorted
      rw [← List.take_append_drop k (sortTo l n)] at hs
      have hp := (List.pairwise_append.1 hs).2.1
      rw [e2] at hx hp
      cases hd : (sortTo l n).dropWhile (fun x => decide (keyOf l x ≤ keyOf l (n : Int))) with
      | nil => rw [hd] at hx; simp at hx
      | cons y r =>
        have hy := List.head_dropWhile_not (fun x => decide (keyOf l x ≤ keyOf l (n : Int))) (l := sortTo l n) (by rw [hd]; simp)
        simp only [hd, List.head_cons] at hy
        have hy2 : keyOf l (n : Int) < keyOf l y := by simpa using hy
        rw [hd] at hx hp
        rcases List.mem_cons.1 hx with e | e
        · rw [e]; exact hy2
        · have := (List.pairwise_cons.1 hp).1 x e; omega)
    rw [e1, e2] at hall
    exact hall
theorem sortTo_uniq {l : List Int} {n : Nat} {M : List Int} (h : Stab.Of (keyOf l) (iota n) M) : M = sortTo l n := Stab.Of.uniq h (sortTo_of l n)
theorem sortTo_length (l : List Int) (n : Nat) : (sortTo l n).length = n := by rw [Stab.Of.length (sortTo_of l n), iota_length]

/-- The last places hold greater numbers: one more. -/
theorem up_step {l out : List Int} {k : Nat} {x q : Int} (h : ∀ y ∈ out.drop (k + 1), q < keyOf l y) (hx : out[k]? = some x) (hlt : q < keyOf l x) : ∀ y ∈ out.drop k, q < keyOf l y := by
  intro y hy
  obtain ⟨hk, e⟩ := List.getElem?_eq_some_iff.1 hx
  rw [List.drop_eq_getElem_cons hk, e] at hy
  rcases List.mem_cons.1 hy with rfl | hy
  · exact hlt
  · exact h y hy
theorem low_all {l out : List Int} {n k : Nat} {x q : Int} (h : Stab.Of (keyOf l) (iota n) out) (hx : out[k]? = some x) (hle : keyOf l x ≤ q) : ∀ y ∈ out.take (k + 1), keyOf l y ≤ q := by
  intro y hy
  have hs := h.sorted
  rw [List.pairwise_iff_getElem] at hs
  obtain ⟨hk, e⟩ := List.getElem?_eq_some_iff.1 hx
  obtain ⟨j, hj, e2⟩ := List.getElem_of_mem hy
  rw [List.length_take] at hj
  rw [List.getElem_take] at e2
  by_cases hjk : j = k
  · subst hjk; rw [← e2, e]; exact hle
  · have := hs j k (by omega) hk (by omega)
    rw [e2, e] at this; omega

end Go.Proofs.Ytagibgphegoagaa
