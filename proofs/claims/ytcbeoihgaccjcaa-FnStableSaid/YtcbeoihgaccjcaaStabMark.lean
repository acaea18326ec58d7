/- The bookkeeping of FnStable's check: which elements are used, and the first one that is not. Nothing of the program. -/
import Derived.Test.YtcbeoihgaccjcaaStabPos
namespace Go.Proofs.Ytcbeoihgaccjcaa
namespace Stab

variable {α : Type}

/-- U says which places of l the first i elements of r came from. -/
def Used (σ : Nat → Nat) (n i : Nat) (U : List Bool) : Prop := U.length = n ∧ ∀ k, k < n → (U[k]? = some true ↔ ∃ j, j < i ∧ σ j = k)

theorem Used.start (σ : Nat → Nat) (n : Nat) : Used σ n 0 (List.replicate n false) := by
  refine ⟨by simp, fun k hk => ⟨fun h => ?_, fun ⟨j, hj, _⟩ => by omega⟩⟩
  rw [List.getElem?_replicate, if_pos hk] at h
  cases h

theorem Used.step {σ : Nat → Nat} {n i : Nat} {U : List Bool} (h : Used σ n i U) (hi : σ i < n) : Used σ n (i + 1) (U.set (σ i) true) := by
  refine ⟨by rw [List.length_set]; exact h.1, fun k hk => ?_⟩
  rw [List.getElem?_set]
  by_cases e : σ i = k
  · subst e
    rw [if_pos rfl, if_pos (by rw [h.1]; exact hi)]
    exact ⟨fun _ => ⟨i, by omega, rfl⟩, fun _ => rfl⟩
  · rw [if_neg e, h.2 k hk]
    constructor
    · rintro ⟨j, hj, rfl⟩; exact ⟨j, by omega, rfl⟩
    · rintro ⟨j, hj, rfl⟩
      refine ⟨j, ?_, rfl⟩
      by_cases e2 : j = i
      · subst e2; exact absurd rfl e
      · omega

/-- The place of r's element i is the first of its like that is not used. -/
theorem first_unused {key : α → Int} {l r : List α} {σ : Nat → Nat} (h1 : ∀ (i : Nat) x, r[i]? = some x → l[σ i]? = some x) (h2 : ∀ (i j : Nat) x y, i < j → r[i]? = some x → r[j]? = some y → key x = key y → σ i < σ j) (h3 : ∀ (k : Nat) x, l[k]? = some x → ∃ j, σ j = k ∧ r[j]? = some x)
    {n i : Nat} {U : List Bool} (hU : Used σ n i U) (hn : n = l.length) {x : α} (hx : r[i]? = some x) :
    σ i < n ∧ U[σ i]? = some false ∧ ∀ k, k < σ i → ∀ y, l[k]? = some y → y = x → U[k]? = some true := by
  have hat := h1 i x hx
  have hlt := (List.getElem?_eq_some_iff.1 hat).1
  refine ⟨by omega, ?_, fun k hk y hy he => ?_⟩
  · have hUl : σ i < U.length := by rw [hU.1]; omega
    have hnot : ¬ U[σ i]? = some true := fun e => by
      obtain ⟨j, hj, hj2⟩ := (hU.2 _ (by omega)).1 e
      obtain ⟨y, hy⟩ : ∃ y, r[j]? = some y := ⟨_, List.getElem?_eq_getElem (by have := (List.getElem?_eq_some_iff.1 hx).1; omega)⟩
      have h4 := h1 j y hy
      rw [hj2, hat] at h4
      obtain rfl := Option.some.inj h4
      have := h2 j i _ _ hj hy hx rfl
      omega
    rw [List.getElem?_eq_getElem hUl] at hnot ⊢
    cases hb : U[σ i] with
    | true => rw [hb] at hnot; exact absurd rfl hnot
    | false => rfl
  · subst he
    obtain ⟨j, hj, hj2⟩ := h3 k y hy
    refine (hU.2 k (by omega)).2 ⟨j, ?_, hj⟩
    by_cases e : j < i
    · exact e
    · exfalso
      by_cases e2 : j = i
      · subst e2; omega
      · have := h2 i j _ _ (by omega) hx hj2 rfl
        omega

end Stab
end Go.Proofs.Ytcbeoihgaccjcaa
