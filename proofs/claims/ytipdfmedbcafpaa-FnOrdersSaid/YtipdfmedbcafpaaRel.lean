/- The model's relations: l2Relation, l2Tie, by their contracts. -/
import Derived.Test.YtipdfmedbcafpaaNest
import Derived.Test.YtipdfmedbcafpaaBools
import Derived.Test.YtipdfmedbcafpaaIn
namespace Go.Proofs.Ytipdfmedbcafpaa
open Go.RowKit

/-- A square relation on 1 to 12 elements. -/
def OkM (M : List (List Bool)) : Prop := (1 ≤ M.length ∧ M.length ≤ 12) ∧ ∀ x ∈ M, x.length = M.length
instance (M : List (List Bool)) : Decidable (OkM M) := by unfold OkM; exact inferInstance

/-- less[i][k]. -/
def at2 (M : List (List Bool)) (i k : Nat) : Bool := (M.getD i []).getD k false
def tie2 (M : List (List Bool)) (i k : Nat) : Bool := !at2 M i k && !at2 M k i

/-- The cells of one element of a relation that can be read. -/
theorem rel_el {w : World} {a : Option Addr} {M : List (List Bool)} {i k : Nat} (H : ∀ (j : Nat) cs, (M.map bools)[j]? = some cs → ∃ b o u, a = some ⟨b, o, none⟩ ∧ b < w.heap.size ∧ w.cell? ⟨b, o + j, none⟩ = some u ∧ FlatAt w u cs.length cs)
    (hsq : ∀ x ∈ M, x.length = M.length) (hi : i < M.length) (hk : k < M.length) :
    ∃ b o b2 o2 c2, a = some ⟨b, o, none⟩ ∧ w.cell? ⟨b, o + i, none⟩ = some (.slice (some ⟨b2, o2, none⟩) M.length c2) ∧ w.cell? ⟨b2, o2 + k, none⟩ = some (.bool (at2 M i k)) := by
  have hx : M[i]? = some M[i] := List.getElem?_eq_getElem hi
  have hl := hsq M[i] (List.getElem_mem hi)
  obtain ⟨b, o, u, ha, _, hc, hf⟩ := H i (bools M[i]) (by rw [List.getElem?_map, hx]; rfl)
  rw [bools_length, hl] at hf
  obtain ⟨a2, c2, rfl, _, hf⟩ := hf
  have hy : M[i][k]? = some M[i][k] := List.getElem?_eq_getElem (by omega)
  obtain ⟨b2, o2, rfl, _, hc2⟩ := hf k _ (bools_at hy)
  have hat : at2 M i k = M[i][k] := by
    have e : M.getD i [] = M[i] := by simp [List.getD, hx]
    unfold at2
    rw [e]
    simp [List.getD, hy]
  exact ⟨b, o, b2, o2, c2, ha, hc, by rw [hat]; exact hc2⟩

set_option maxRecDepth 100000 in
set_option maxHeartbeats 1000000 in
theorem l2Tie_any (v : Value) (M : List (List Bool)) (i k : Nat) (w : World) (hv : RowsAt w v (M.map bools)) (hsq : ∀ x ∈ M, x.length = M.length) (hi : i < M.length) (hk : k < M.length) :
    Calls Try.prog 70 #[v, .int .i64 (i : Int), .int .i64 (k : Int)] w fun e w' => e = .returned (.bool (tie2 M i k)) ∧ w' = w := by
  obtain ⟨a, c, rfl, _, h⟩ := hv
  have hlen : (M.map bools).length = M.length := by simp
  obtain ⟨b, o, b2, o2, c2, rfl, h1, h2⟩ := rel_el h hsq hi hk
  obtain ⟨b', o', b3, o3, c3, he, h3, h4⟩ := rel_el h hsq hk hi
  obtain rfl : b = b' := congrArg Addr.block (Option.some.inj he)
  obtain rfl : o = o' := congrArg Addr.off (Option.some.inj he)
  unfold tie2
  rw [hlen]
  clear h he hlen
  generalize at2 M i k = x at *
  generalize at2 M k i = y at *
  cases x
  · go_enter Try.func70, Try.ntmps70
    go_wp2_with fail
    go_ret
    exact ⟨rfl, rfl⟩
  · go_enter Try.func70, Try.ntmps70
    go_wp2_with fail
    go_ret
    exact ⟨rfl, rfl⟩

/-- The least triple at which P holds, or none. -/
def FirstT (P : Nat → Nat → Nat → Bool) (n : Nat) (L : List Int) : Prop :=
  (∃ i k m : Nat, i < n ∧ k < n ∧ m < n ∧ P i k m = true ∧ L = [(i : Int), (k : Int), (m : Int)] ∧ ∀ i' k' m' : Nat, i' < n → k' < n → m' < n → (i' < i ∨ i' = i ∧ (k' < k ∨ k' = k ∧ m' < m)) → P i' k' m' = false) ∨
  (L = [] ∧ ∀ i k m : Nat, i < n → k < n → m < n → P i k m = false)

theorem FirstT.uniq {P : Nat → Nat → Nat → Bool} {n : Nat} {L L' : List Int} (h : FirstT P n L) (h' : FirstT P n L') : L = L' := by
  rcases h with ⟨i, k, m, hi, hk, hm, hp, rfl, hl⟩ | ⟨rfl, hl⟩
  · rcases h' with ⟨i', k', m', hi', hk', hm', hp', rfl, hl'⟩ | ⟨rfl, hl'⟩
    · by_cases e1 : i' < i ∨ i' = i ∧ (k' < k ∨ k' = k ∧ m' < m)
      · rw [hl i' k' m' hi' hk' hm' e1] at hp'; cases hp'
      · by_cases e2 : i < i' ∨ i = i' ∧ (k < k' ∨ k = k' ∧ m < m')
        · rw [hl' i k m hi hk hm e2] at hp; cases hp
        · obtain rfl : i = i' := by omega
          obtain rfl : k = k' := by omega
          obtain rfl : m = m' := by omega
          rfl
    · rw [hl' i k m hi hk hm] at hp; cases hp
  · rcases h' with ⟨i', k', m', hi', hk', hm', hp', rfl, hl'⟩ | ⟨rfl, hl'⟩
    · rw [hl i' k' m' hi' hk' hm'] at hp'; cases hp'
    · rfl

end Go.Proofs.Ytipdfmedbcafpaa
