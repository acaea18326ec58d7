/- Heaps of any arity, pure. Nothing of the program. -/
import Derived.Test.YtipdfmedbcafpaaElem2
namespace Go.Proofs.Ytipdfmedbcafpaa
set_option linter.unusedVariables false
namespace Hp
open P El

def par (d i : Nat) : Nat := (i - 1) / d
theorem par_iff {d i j : Nat} (hd : 0 < d) (hi : 0 < i) : par d i = j ↔ d * j + 1 ≤ i ∧ i ≤ d * j + d := by
  unfold par
  constructor
  · intro h
    subst h
    have h1 := Nat.div_add_mod (i - 1) d
    have h2 := Nat.mod_lt (i - 1) hd
    omega
  · rintro ⟨h1, h2⟩
    apply Nat.div_eq_of_lt_le
    · rw [Nat.mul_comm]; omega
    · rw [Nat.succ_mul, Nat.mul_comm]; omega
theorem par_lt {d i : Nat} (hd : 0 < d) (hi : 0 < i) : par d i < i := by
  unfold par
  have := Nat.div_le_self (i - 1) d
  omega
theorem le_mul {d j : Nat} (hd : 0 < d) : j ≤ d * j := Nat.le_mul_of_pos_left j hd

/-- The first index of a greatest child: from k on, n of them left, b the one so far. -/
def gc (L : List Int) : Nat → Nat → Nat → Nat
  | 0, _, b => b
  | n + 1, k, b => gc L n (k + 1) (if L.getD b 0 < L.getD k 0 then k else b)
theorem gc_gt {L : List Int} {n k b : Nat} (h : L.getD b 0 < L.getD k 0) : gc L (n + 1) k b = gc L n (k + 1) k := by show gc L n (k + 1) _ = _; rw [if_pos h]
theorem gc_le {L : List Int} {n k b : Nat} (h : ¬ L.getD b 0 < L.getD k 0) : gc L (n + 1) k b = gc L n (k + 1) b := by show gc L n (k + 1) _ = _; rw [if_neg h]
theorem gc_spec (L : List Int) (i : Nat) : ∀ n k b, i ≤ b → b < k → (∀ j, i ≤ j → j < k → L.getD j 0 ≤ L.getD b 0) →
    i ≤ gc L n k b ∧ gc L n k b < k + n ∧ ∀ j, i ≤ j → j < k + n → L.getD j 0 ≤ L.getD (gc L n k b) 0 := by
  intro n
  induction n with
  | zero => intro k b h1 h2 h3; exact ⟨h1, h2, h3⟩
  | succ n ih =>
    intro k b h1 h2 h3
    by_cases h : L.getD b 0 < L.getD k 0
    · rw [gc_gt h]
      obtain ⟨a1, a2, a3⟩ := ih (k + 1) k (by omega) (by omega) (fun j hj hk => by
        by_cases e : j = k
        · subst e; omega
        · have := h3 j hj (by omega); omega)
      exact ⟨a1, by omega, fun j hj hk => a3 j hj (by omega)⟩
    · rw [gc_le h]
      obtain ⟨a1, a2, a3⟩ := ih (k + 1) b h1 (by omega) (fun j hj hk => by
        by_cases e : j = k
        · subst e; omega
        · exact h3 j hj (by omega))
      exact ⟨a1, by omega, fun j hj hk => a3 j hj (by omega)⟩
def best (L : List Int) (d n i : Nat) : Nat := gc L (min (d * i + 1 + d) n - (d * i + 2)) (d * i + 2) (d * i + 1)
theorem best_spec (L : List Int) {d n i : Nat} (hd : 0 < d) (h : d * i + 1 < n) : d * i + 1 ≤ best L d n i ∧ best L d n i < n ∧ best L d n i ≤ d * i + d ∧ ∀ j, d * i + 1 ≤ j → j ≤ d * i + d → j < n → L.getD j 0 ≤ L.getD (best L d n i) 0 := by
  obtain ⟨a1, a2, a3⟩ := gc_spec L (d * i + 1) (min (d * i + 1 + d) n - (d * i + 2)) (d * i + 2) (d * i + 1) (Nat.le_refl _) (by omega) (fun j hj hk => by rw [show j = d * i + 1 by omega]; exact Int.le_refl _)
  refine ⟨a1, ?_, ?_, fun j h1 h2 h3 => a3 j h1 ?_⟩
  · show gc _ _ _ _ < n; omega
  · show gc _ _ _ _ ≤ _; omega
  · omega
theorem best_par (L : List Int) {d n i : Nat} (hd : 0 < d) (h : d * i + 1 < n) : par d (best L d n i) = i ∧ i < best L d n i := by
  obtain ⟨a1, a2, a3, _⟩ := best_spec L hd h
  have := le_mul (j := i) hd
  exact ⟨(par_iff hd (by omega)).2 ⟨a1, a3⟩, by omega⟩

/-- Sifting down in the first n elements: the list and the swaps. -/
def dn (d n : Nat) : Nat → Nat → St2 → St2
  | 0, _, S => S
  | f + 1, i, S => if d * i + 1 < n ∧ S.1.getD i 0 < S.1.getD (best S.1 d n i) 0 then dn d n f (best S.1 d n i) (swapped S.1 i (best S.1 d n i), S.2 + 1) else S
theorem dn_go {d n f i : Nat} {S : St2} (h : d * i + 1 < n ∧ S.1.getD i 0 < S.1.getD (best S.1 d n i) 0) : dn d n (f + 1) i S = dn d n f (best S.1 d n i) (swapped S.1 i (best S.1 d n i), S.2 + 1) := if_pos h
theorem dn_stop {d n i : Nat} {S : St2} (h : ¬ (d * i + 1 < n ∧ S.1.getD i 0 < S.1.getD (best S.1 d n i) 0)) : ∀ f, dn d n f i S = S
  | 0 => rfl
  | f + 1 => if_neg h
theorem dn_fuel {d n : Nat} (hd : 0 < d) : ∀ (f g i : Nat) (S : St2), n ≤ f + i → n ≤ g + i → dn d n f i S = dn d n g i S := by
  intro f
  induction f with
  | zero =>
    intro g i S h1 h2
    have := le_mul (j := i) hd
    rw [dn_stop (by omega), dn_stop (by omega)]
  | succ f ih =>
    intro g i S h1 h2
    by_cases h : d * i + 1 < n ∧ S.1.getD i 0 < S.1.getD (best S.1 d n i) 0
    · cases g with
      | zero => have := le_mul (j := i) hd; omega
      | succ g =>
        have hb := (best_par S.1 hd h.1).2
        rw [dn_go h, dn_go h]
        exact ih g _ _ (by omega) (by omega)
    · rw [dn_stop h, dn_stop h]
def down (d n i : Nat) (S : St2) : St2 := dn d n (n - i) i S
theorem down_stop {d n i : Nat} {S : St2} (h : ¬ (d * i + 1 < n ∧ S.1.getD i 0 < S.1.getD (best S.1 d n i) 0)) : down d n i S = S := dn_stop h _
theorem down_go {d n i : Nat} {S : St2} (hd : 0 < d) (h : d * i + 1 < n ∧ S.1.getD i 0 < S.1.getD (best S.1 d n i) 0) : down d n i S = down d n (best S.1 d n i) (swapped S.1 i (best S.1 d n i), S.2 + 1) := by
  have hb := (best_par S.1 hd h.1).2
  have := le_mul (j := i) hd
  unfold down
  rw [show n - i = (n - i - 1) + 1 by omega, dn_go h]
  exact dn_fuel hd _ _ _ _ (by omega) (by omega)
/-- What holds of the sifting, by induction. -/
theorem down_ind {d n : Nat} (hd : 0 < d) {F : Nat → St2 → Prop} (hgo : ∀ i S, d * i + 1 < n → S.1.getD i 0 < S.1.getD (best S.1 d n i) 0 → F i S → F (best S.1 d n i) (swapped S.1 i (best S.1 d n i), S.2 + 1)) {i : Nat} {S : St2} (h : F i S) :
    ∃ j, F j (down d n i S) ∧ ¬ (d * j + 1 < n ∧ (down d n i S).1.getD j 0 < (down d n i S).1.getD (best (down d n i S).1 d n j) 0) := by
  have key : ∀ m i S, n - i ≤ m → F i S → ∃ j, F j (down d n i S) ∧ ¬ (d * j + 1 < n ∧ (down d n i S).1.getD j 0 < (down d n i S).1.getD (best (down d n i S).1 d n j) 0) := by
    intro m
    induction m with
    | zero =>
      intro i S hm hF
      have := le_mul (j := i) hd
      have hs : ¬ (d * i + 1 < n ∧ S.1.getD i 0 < S.1.getD (best S.1 d n i) 0) := by omega
      rw [down_stop hs]; exact ⟨i, hF, hs⟩
    | succ m ih =>
      intro i S hm hF
      by_cases hs : d * i + 1 < n ∧ S.1.getD i 0 < S.1.getD (best S.1 d n i) 0
      · have hb := (best_par S.1 hd hs.1).2
        rw [down_go hd hs]
        exact ih _ _ (by have := le_mul (j := i) hd; omega) (hgo i S hs.1 hs.2 hF)
      · rw [down_stop hs]; exact ⟨i, hF, hs⟩
  exact key _ i S (Nat.le_refl _) h
theorem down_length {d n i : Nat} (hd : 0 < d) (S : St2) : (down d n i S).1.length = S.1.length := by
  obtain ⟨_, h, _⟩ := down_ind hd (n := n) (i := i) (S := S) (F := fun _ T => T.1.length = S.1.length) (fun i T _ _ h => by rw [← h]; exact swapped_length _ _ _) rfl
  exact h
theorem down_perm {d n i : Nat} (hd : 0 < d) (S : St2) (hn : n ≤ S.1.length) : (down d n i S).1.Perm S.1 := by
  obtain ⟨_, h, _⟩ := down_ind hd (n := n) (i := i) (S := S) (F := fun _ T => T.1.Perm S.1) (fun i T h1 _ h => by
    have hl := h.length_eq
    have hb := best_spec T.1 hd h1
    have := le_mul (j := i) hd
    exact (swapped_perm (by omega) (by omega)).trans h) (List.Perm.refl _)
  exact h
theorem down_count {d n i : Nat} (hd : 0 < d) (S : St2) : S.2 ≤ (down d n i S).2 ∧ (down d n i S).2 ≤ S.2 + n := by
  obtain ⟨j, h, _⟩ := down_ind hd (n := n) (i := i) (S := S) (F := fun j T => i ≤ j ∧ S.2 ≤ T.2 ∧ T.2 + i ≤ S.2 + j ∧ (T.2 = S.2 ∨ j < n)) (fun j T h1 _ h => by
    have hb := best_spec T.1 hd h1
    have hb2 := best_par T.1 hd h1
    simp only
    omega) ⟨Nat.le_refl _, Nat.le_refl _, Nat.le_refl _, .inl rfl⟩
  omega
theorem dn_from {d n : Nat} : ∀ (f i : Nat) (L : List Int) (q : Nat), dn d n f i (L, q) = ((dn d n f i (L, 0)).1, q + (dn d n f i (L, 0)).2) := by
  intro f
  induction f with
  | zero => intro i L q; rfl
  | succ f ih =>
    intro i L q
    by_cases h : d * i + 1 < n ∧ L.getD i 0 < L.getD (best L d n i) 0
    · rw [dn_go (S := (L, q)) h, dn_go (S := (L, 0)) h, ih _ _ (q + 1), ih _ _ (0 + 1)]
      simp only [Prod.mk.injEq, true_and]
      omega
    · rw [dn_stop (S := (L, q)) h, dn_stop (S := (L, 0)) h]; rfl
theorem down_from (d n i : Nat) (L : List Int) (q : Nat) : down d n i (L, q) = ((down d n i (L, 0)).1, q + (down d n i (L, 0)).2) := dn_from _ _ _ _
/-- What lies behind the first n elements stays; whatever bounds them bounds them still. -/
theorem down_keep {d n i : Nat} (hd : 0 < d) (S : St2) (hn : n ≤ S.1.length) : (∀ j, n ≤ j → (down d n i S).1.getD j 0 = S.1.getD j 0) ∧ ∀ x : Int, (∀ j, j < n → S.1.getD j 0 ≤ x) → ∀ j, j < n → (down d n i S).1.getD j 0 ≤ x := by
  obtain ⟨_, h, _⟩ := down_ind hd (n := n) (i := i) (S := S) (F := fun _ T => T.1.length = S.1.length ∧ (∀ j, n ≤ j → T.1.getD j 0 = S.1.getD j 0) ∧ ∀ x : Int, (∀ j, j < n → S.1.getD j 0 ≤ x) → ∀ j, j < n → T.1.getD j 0 ≤ x) (fun i T h1 _ h => by
    have hb := best_spec T.1 hd h1
    have := le_mul (j := i) hd
    obtain ⟨a1, a2, a3⟩ := h
    refine ⟨by rw [← a1]; exact swapped_length _ _ _, fun j hj => ?_, fun x hx j hj => ?_⟩
    · show (swapped T.1 i (best T.1 d n i)).getD j 0 = _
      rw [swapped_at (by omega) (by omega), if_neg (by omega), if_neg (by omega)]; exact a2 j hj
    · show (swapped T.1 i (best T.1 d n i)).getD j 0 ≤ x
      rw [swapped_at (by omega) (by omega)]
      split
      · exact a3 x hx i (by omega)
      · split
        · exact a3 x hx _ hb.2.1
        · exact a3 x hx j hj) ⟨rfl, fun _ _ => rfl, fun _ h => h⟩
  exact ⟨h.2.1, h.2.2⟩

/-- The heap's order from index k on, among the first n elements. -/
def HF (d n k : Nat) (L : List Int) : Prop := ∀ i, 0 < i → i < n → k ≤ par d i → L.getD i 0 ≤ L.getD (par d i) 0
def Hole (d n k j : Nat) (L : List Int) : Prop := (∀ i, 0 < i → i < n → k ≤ par d i → par d i ≠ j → L.getD i 0 ≤ L.getD (par d i) 0) ∧ (∀ i, 0 < i → i < n → par d i = j → 0 < j → k ≤ par d j → L.getD i 0 ≤ L.getD (par d j) 0)
theorem down_heap {d n k j : Nat} {S : St2} (hd : 0 < d) (hn : n ≤ S.1.length) (hk : k ≤ j) (h : Hole d n k j S.1) : HF d n k (down d n j S).1 := by
  obtain ⟨b, ⟨hl, hkb, h1, h2⟩, hstop⟩ := down_ind hd (n := n) (i := j) (S := S) (F := fun j T => n ≤ T.1.length ∧ k ≤ j ∧ Hole d n k j T.1) (fun j T hc hlt h => by
    obtain ⟨hl, hkj, h1, h2⟩ := h
    obtain ⟨b1, b2, b3, b4⟩ := best_spec T.1 hd hc
    obtain ⟨b5, b6⟩ := best_par T.1 hd hc
    generalize best T.1 d n j = b at *
    have hat := fun t => swapped_at (p := T.1) (i := j) (k := b) (j := t) (by omega) (by omega)
    refine ⟨by rw [swapped_length]; exact hl, by omega, fun i hi hin hki hpi => ?_, fun i hi hin hpi hb0 hkb => ?_⟩
    · have hpl := par_lt hd hi
      show (swapped T.1 j b).getD i 0 ≤ (swapped T.1 j b).getD (par d i) 0
      rw [hat, hat, if_neg (show ¬ par d i = b from hpi)]
      by_cases e1 : i = b
      · rw [if_pos e1, if_pos (by rw [e1]; exact b5)]; omega
      · rw [if_neg e1]
        by_cases e2 : i = j
        · subst e2
          rw [if_pos rfl, if_neg (by omega)]
          exact h2 b (by omega) b2 b5 hi hki
        · rw [if_neg e2]
          by_cases e3 : par d i = j
          · rw [if_pos e3]
            obtain ⟨c1, c2⟩ := (par_iff hd hi).1 e3
            exact b4 i c1 c2 hin
          · rw [if_neg e3]; exact h1 i hi hin hki e3
    · have hpl := par_lt hd hi
      show (swapped T.1 j b).getD i 0 ≤ (swapped T.1 j b).getD (par d b) 0
      rw [b5] at hkb ⊢
      rw [hat, hat, if_neg (by omega), if_neg (by omega), if_neg (by omega), if_pos rfl]
      have := h1 i hi hin (by omega) (by omega)
      rw [hpi] at this; exact this) ⟨hn, hk, h⟩
  intro i hi hin hki
  by_cases e : par d i = b
  · obtain ⟨c1, c2⟩ := (par_iff hd hi).1 e
    have hc : d * b + 1 < n ∨ d * b + 1 = i := by omega
    by_cases hlt : d * b + 1 < n
    · obtain ⟨_, _, _, b4⟩ := best_spec (down d n j S).1 hd hlt
      have := b4 i c1 c2 hin
      rw [e]; omega
    · omega
  · exact h1 i hi hin hki e
theorem root_max {d n : Nat} {L : List Int} (hd : 0 < d) (h : HF d n 0 L) : ∀ i, i < n → L.getD i 0 ≤ L.getD 0 0 := by
  intro i
  induction i using Nat.strongRecOn with
  | ind i ih =>
    intro hi
    by_cases e : i = 0
    · rw [e]; exact Int.le_refl _
    · have hp := par_lt hd (i := i) (by omega)
      have h1 := h i (by omega) hi (Nat.zero_le _)
      have h2 := ih _ hp (by omega)
      omega

/-- Sifting down the indices from m - 1 to 0. -/
def bl (d n : Nat) : Nat → St2 → St2
  | 0, S => S
  | i + 1, S => bl d n i (down d n i S)
theorem bl_succ (d n i : Nat) (S : St2) : bl d n (i + 1) S = bl d n i (down d n i S) := rfl
theorem bl_skip {d n m : Nat} (S : St2) : ∀ k, (∀ i, m ≤ i → i < m + k → ¬ d * i + 1 < n) → bl d n (m + k) S = bl d n m S
  | 0, _ => rfl
  | k + 1, h => by
    rw [show m + (k + 1) = m + k + 1 by omega, bl_succ, down_stop (fun hh => h (m + k) (by omega) (by omega) hh.1)]
    exact bl_skip S k fun i h1 h2 => h i h1 (by omega)
theorem bl_ind {d n : Nat} {F : Nat → St2 → Prop} (hgo : ∀ i S, F (i + 1) S → F i (down d n i S)) : ∀ m S, F m S → F 0 (bl d n m S)
  | 0, S, h => h
  | m + 1, S, h => bl_ind hgo m _ (hgo m S h)
theorem bl_heap {d n m : Nat} {S : St2} (hd : 0 < d) (hn : n ≤ S.1.length) (h : HF d n m S.1) : HF d n 0 (bl d n m S).1 :=
  (bl_ind (F := fun m T => n ≤ T.1.length ∧ HF d n m T.1) (fun i T h => ⟨by rw [down_length hd]; exact h.1, down_heap hd h.1 (Nat.le_refl _) ⟨fun t h1 h2 h3 h4 => h.2 t h1 h2 (by omega), fun t h1 h2 h3 h4 h5 => by have := par_lt hd h4; omega⟩⟩) m S ⟨hn, h⟩).2
theorem bl_length {d n : Nat} (hd : 0 < d) (m : Nat) (S : St2) : (bl d n m S).1.length = S.1.length :=
  bl_ind (F := fun _ T => T.1.length = S.1.length) (fun i T h => by rw [down_length hd]; exact h) m S rfl
theorem bl_perm {d n : Nat} (hd : 0 < d) (m : Nat) (S : St2) (hn : n ≤ S.1.length) : (bl d n m S).1.Perm S.1 :=
  bl_ind (F := fun _ T => T.1.Perm S.1) (fun i T h => (down_perm hd T (by rw [h.length_eq]; exact hn)).trans h) m S (List.Perm.refl _)
theorem bl_count {d n : Nat} (hd : 0 < d) (m : Nat) (S : St2) : S.2 ≤ (bl d n m S).2 ∧ (bl d n m S).2 ≤ S.2 + m * n := by
  have h := bl_ind (d := d) (n := n) (F := fun k T => S.2 ≤ T.2 ∧ T.2 + k * n ≤ S.2 + m * n) (fun i T (h : S.2 ≤ T.2 ∧ T.2 + (i + 1) * n ≤ S.2 + m * n) => by
    have := down_count hd (n := n) (i := i) T
    rw [Nat.add_mul] at h
    show S.2 ≤ _ ∧ _ + i * n ≤ _
    omega) m S ⟨Nat.le_refl _, Nat.le_refl _⟩
  omega
theorem heap_still {d n i : Nat} {S : St2} (hd : 0 < d) (h : HF d n 0 S.1) : down d n i S = S := by
  apply down_stop
  rintro ⟨h1, h2⟩
  obtain ⟨b1, b2, b3, b4⟩ := best_spec S.1 hd h1
  obtain ⟨b5, b6⟩ := best_par S.1 hd h1
  have := h _ (by omega) b2 (Nat.zero_le _)
  rw [b5] at this; omega
theorem bl_still {d n : Nat} {S : St2} (hd : 0 < d) (h : HF d n 0 S.1) : ∀ m, bl d n m S = S
  | 0 => rfl
  | m + 1 => by rw [bl_succ, heap_still hd h]; exact bl_still hd h m
def buildF (d : Nat) (l : List Int) : St2 := bl d l.length l.length (l, 0)
theorem buildF_length {d : Nat} (hd : 0 < d) (l : List Int) : (buildF d l).1.length = l.length := bl_length hd _ _
theorem buildF_perm {d : Nat} (hd : 0 < d) (l : List Int) : (buildF d l).1.Perm l := bl_perm hd _ _ (Nat.le_refl _)
theorem buildF_heap {d : Nat} (hd : 0 < d) (l : List Int) : HF d l.length 0 (buildF d l).1 :=
  bl_heap hd (Nat.le_refl _) fun i h1 h2 h3 => by have := par_lt hd h1; omega

/-- Sifting up. -/
def upn (d : Nat) : Nat → Nat → St2 → St2
  | 0, _, S => S
  | f + 1, i, S => if 0 < i ∧ S.1.getD (par d i) 0 < S.1.getD i 0 then upn d f (par d i) (swapped S.1 i (par d i), S.2 + 1) else S
theorem upn_go {d f i : Nat} {S : St2} (h : 0 < i ∧ S.1.getD (par d i) 0 < S.1.getD i 0) : upn d (f + 1) i S = upn d f (par d i) (swapped S.1 i (par d i), S.2 + 1) := if_pos h
theorem upn_stop {d i : Nat} {S : St2} (h : ¬ (0 < i ∧ S.1.getD (par d i) 0 < S.1.getD i 0)) : ∀ f, upn d f i S = S
  | 0 => rfl
  | f + 1 => if_neg h
theorem upn_fuel {d : Nat} (hd : 0 < d) : ∀ (f g i : Nat) (S : St2), i ≤ f → i ≤ g → upn d f i S = upn d g i S := by
  intro f
  induction f with
  | zero => intro g i S h1 h2; rw [upn_stop (by omega), upn_stop (by omega)]
  | succ f ih =>
    intro g i S h1 h2
    by_cases h : 0 < i ∧ S.1.getD (par d i) 0 < S.1.getD i 0
    · cases g with
      | zero => omega
      | succ g =>
        have := par_lt hd h.1
        rw [upn_go h, upn_go h]; exact ih g _ _ (by omega) (by omega)
    · rw [upn_stop h, upn_stop h]
def up (d i : Nat) (S : St2) : St2 := upn d i i S
theorem up_stop {d i : Nat} {S : St2} (h : ¬ (0 < i ∧ S.1.getD (par d i) 0 < S.1.getD i 0)) : up d i S = S := upn_stop h _
theorem up_go {d i : Nat} {S : St2} (hd : 0 < d) (h : 0 < i ∧ S.1.getD (par d i) 0 < S.1.getD i 0) : up d i S = up d (par d i) (swapped S.1 i (par d i), S.2 + 1) := by
  have := par_lt hd h.1
  unfold up
  obtain ⟨j, rfl⟩ : ∃ j, i = j + 1 := ⟨i - 1, by omega⟩
  rw [upn_go h]
  exact upn_fuel hd _ _ _ _ (by omega) (Nat.le_refl _)
theorem up_ind {d : Nat} (hd : 0 < d) {F : Nat → St2 → Prop} (hgo : ∀ i S, 0 < i → S.1.getD (par d i) 0 < S.1.getD i 0 → F i S → F (par d i) (swapped S.1 i (par d i), S.2 + 1)) {i : Nat} {S : St2} (h : F i S) :
    ∃ j, F j (up d i S) ∧ ¬ (0 < j ∧ (up d i S).1.getD (par d j) 0 < (up d i S).1.getD j 0) := by
  have key : ∀ m i S, i ≤ m → F i S → ∃ j, F j (up d i S) ∧ ¬ (0 < j ∧ (up d i S).1.getD (par d j) 0 < (up d i S).1.getD j 0) := by
    intro m
    induction m with
    | zero =>
      intro i S hm hF
      have hs : ¬ (0 < i ∧ S.1.getD (par d i) 0 < S.1.getD i 0) := by omega
      rw [up_stop hs]; exact ⟨i, hF, hs⟩
    | succ m ih =>
      intro i S hm hF
      by_cases hs : 0 < i ∧ S.1.getD (par d i) 0 < S.1.getD i 0
      · have := par_lt hd hs.1
        rw [up_go hd hs]; exact ih _ _ (by omega) (hgo i S hs.1 hs.2 hF)
      · rw [up_stop hs]; exact ⟨i, hF, hs⟩
  exact key _ i S (Nat.le_refl _) h
theorem up_length {d i : Nat} (hd : 0 < d) (S : St2) : (up d i S).1.length = S.1.length := by
  obtain ⟨_, h, _⟩ := up_ind hd (i := i) (S := S) (F := fun _ T => T.1.length = S.1.length) (fun i T _ _ h => by rw [← h]; exact swapped_length _ _ _) rfl
  exact h
theorem up_perm {d i : Nat} (hd : 0 < d) (S : St2) (hi : i < S.1.length) : (up d i S).1.Perm S.1 := by
  obtain ⟨_, h, _⟩ := up_ind hd (i := i) (S := S) (F := fun j T => j < S.1.length ∧ T.1.Perm S.1) (fun i T h1 _ h => by
    have hl := h.2.length_eq
    have := par_lt hd h1
    exact ⟨by omega, (swapped_perm (by omega) (by omega)).trans h.2⟩) ⟨hi, List.Perm.refl _⟩
  exact h.2
def dp (d : Nat) : Nat → Nat → Nat
  | 0, _ => 0
  | f + 1, i => if 0 < i then dp d f (par d i) + 1 else 0
theorem dp_fuel {d : Nat} (hd : 0 < d) : ∀ (f g i : Nat), i ≤ f → i ≤ g → dp d f i = dp d g i := by
  intro f
  induction f with
  | zero => intro g i h1 h2; cases g with
    | zero => rfl
    | succ g => show 0 = if 0 < i then _ else 0; rw [if_neg (by omega)]
  | succ f ih =>
    intro g i h1 h2
    by_cases h : 0 < i
    · cases g with
      | zero => omega
      | succ g =>
        have := par_lt hd h
        show (if 0 < i then _ else 0) = if 0 < i then _ else 0
        rw [if_pos h, if_pos h, ih g _ (by omega) (by omega)]
    · cases g with
      | zero => show (if 0 < i then _ else 0) = 0; rw [if_neg h]
      | succ g => show (if 0 < i then _ else 0) = if 0 < i then _ else 0; rw [if_neg h, if_neg h]
/-- The edges from index 0 to index i. -/
def dep (d i : Nat) : Nat := dp d i i
theorem dep_zero (d : Nat) : dep d 0 = 0 := rfl
theorem dep_succ {d i : Nat} (hd : 0 < d) (h : 0 < i) : dep d i = dep d (par d i) + 1 := by
  have := par_lt hd h
  unfold dep
  obtain ⟨j, rfl⟩ : ∃ j, i = j + 1 := ⟨i - 1, by omega⟩
  show (if 0 < j + 1 then _ else 0) = _
  rw [if_pos h, dp_fuel hd j (par d (j + 1)) _ (by omega) (Nat.le_refl _)]
theorem dep_le {d : Nat} (hd : 0 < d) : ∀ n i, i ≤ n → dep d i ≤ i
  | 0, i, h => by rw [show i = 0 by omega]; exact Nat.le_refl _
  | n + 1, i, h => by
    by_cases h0 : 0 < i
    · have := par_lt hd h0
      rw [dep_succ hd h0]
      have := dep_le hd n (par d i) (by omega)
      omega
    · rw [show i = 0 by omega]; exact Nat.le_refl _
theorem up_count {d i : Nat} (hd : 0 < d) (S : St2) : S.2 ≤ (up d i S).2 ∧ (up d i S).2 ≤ S.2 + dep d i := by
  obtain ⟨j, h, _⟩ := up_ind hd (i := i) (S := S) (F := fun j T => S.2 ≤ T.2 ∧ T.2 + dep d j ≤ S.2 + dep d i) (fun j T h1 _ h => by
    have := dep_succ hd h1
    simp only
    omega) ⟨Nat.le_refl _, Nat.le_refl _⟩
  omega
theorem up_heap {d n j : Nat} {S : St2} (hd : 0 < d) (hn : n = S.1.length) (hj : j < n) (h1 : ∀ i, 0 < i → i < n → i ≠ j → S.1.getD i 0 ≤ S.1.getD (par d i) 0) (h2 : ∀ i, 0 < i → i < n → par d i = j → 0 < j → S.1.getD i 0 ≤ S.1.getD (par d j) 0) : HF d n 0 (up d j S).1 := by
  obtain ⟨b, ⟨hl, hb, h1, h2⟩, hstop⟩ := up_ind hd (i := j) (S := S) (F := fun j T => n = T.1.length ∧ j < n ∧ (∀ i, 0 < i → i < n → i ≠ j → T.1.getD i 0 ≤ T.1.getD (par d i) 0) ∧ (∀ i, 0 < i → i < n → par d i = j → 0 < j → T.1.getD i 0 ≤ T.1.getD (par d j) 0)) (fun j T hj hlt h => by
    obtain ⟨hl, hjn, h1, h2⟩ := h
    have hpj := par_lt hd hj
    have hat := fun t => swapped_at (p := T.1) (i := j) (k := par d j) (j := t) (by omega) (by omega)
    refine ⟨by rw [hl]; exact (swapped_length _ _ _).symm, by omega, fun i hi hin hne => ?_, fun i hi hin hpi hp0 => ?_⟩
    · have hpl := par_lt hd hi
      show (swapped T.1 j (par d j)).getD i 0 ≤ (swapped T.1 j (par d j)).getD (par d i) 0
      rw [hat, hat, if_neg hne]
      by_cases e1 : i = j
      · subst e1; rw [if_pos rfl, if_pos rfl]; omega
      · rw [if_neg e1]
        have h3 := h1 i hi hin e1
        by_cases e2 : par d i = par d j
        · rw [if_pos e2]; rw [e2] at h3; omega
        · rw [if_neg e2]
          by_cases e3 : par d i = j
          · rw [if_pos e3]; exact h2 i hi hin e3 hj
          · rw [if_neg e3]; exact h3
    · have hpl := par_lt hd hi
      have hpp := par_lt hd hp0
      show (swapped T.1 j (par d j)).getD i 0 ≤ (swapped T.1 j (par d j)).getD (par d (par d j)) 0
      rw [hat, hat, if_neg (by omega), if_neg (show ¬ par d (par d j) = par d j by omega), if_neg (show ¬ par d (par d j) = j by omega)]
      have h4 := h1 (par d j) hp0 (by omega) (by omega)
      by_cases e1 : i = j
      · rw [if_pos e1]; exact h4
      · rw [if_neg e1]
        have h3 := h1 i hi hin e1
        rw [hpi] at h3; omega) ⟨hn, hj, h1, h2⟩
  intro i hi hin _
  by_cases e : i = b
  · subst e
    omega
  · exact h1 i hi hin e

/-- Heap sort from n elements on. -/
def hsn (d : Nat) : Nat → St2 → St2
  | 0, S => S
  | n + 1, S => if n = 0 then S else hsn d n (down d n 0 (swapped S.1 0 n, S.2 + 1))
theorem hsn_go {d n : Nat} (h : 0 < n) (S : St2) : hsn d (n + 1) S = hsn d n (down d n 0 (swapped S.1 0 n, S.2 + 1)) := if_neg (by omega)
theorem hsn_stop {d n : Nat} (h : n ≤ 1) (S : St2) : hsn d n S = S := by
  match n, h with
  | 0, _ => rfl
  | 1, _ => rfl
def hsF (d : Nat) (l : List Int) : St2 := hsn d l.length (buildF d l)
theorem hsn_length {d : Nat} (hd : 0 < d) : ∀ n S, (hsn d n S).1.length = S.1.length
  | 0, S => rfl
  | n + 1, S => by
    by_cases h : n = 0
    · subst h; rfl
    · rw [hsn_go (by omega), hsn_length hd n, down_length hd]; exact swapped_length _ _ _
theorem hsF_length {d : Nat} (hd : 0 < d) (l : List Int) : (hsF d l).1.length = l.length := by unfold hsF; rw [hsn_length hd, buildF_length hd]
theorem hsn_count {d : Nat} (hd : 0 < d) (N : Nat) : ∀ n S, n ≤ N → S.2 ≤ (hsn d n S).2 ∧ (hsn d n S).2 ≤ S.2 + n * (N + 1)
  | 0, S, _ => by show S.2 ≤ S.2 ∧ S.2 ≤ _; omega
  | n + 1, S, hN => by
    by_cases h : n = 0
    · subst h; show S.2 ≤ S.2 ∧ S.2 ≤ _; omega
    · rw [hsn_go (by omega)]
      have h1 := hsn_count hd N n (down d n 0 (swapped S.1 0 n, S.2 + 1)) (by omega)
      have h2 := down_count hd (n := n) (i := 0) (swapped S.1 0 n, S.2 + 1)
      simp only at h2
      rw [Nat.add_mul]
      omega
/-- The state of the sort: a heap ahead, the greatest elements in order behind. -/
structure Srtd (d n : Nat) (l : List Int) (S : St2) : Prop where
  perm : S.1.Perm l
  heap : HF d n 0 S.1
  asc : ∀ i j, n ≤ i → i < j → j < l.length → S.1.getD i 0 ≤ S.1.getD j 0
  top : ∀ i j, i < n → n ≤ j → j < l.length → S.1.getD i 0 ≤ S.1.getD j 0
theorem Srtd.step {d n : Nat} {l : List Int} {S : St2} (hd : 0 < d) (h : Srtd d (n + 1) l S) (hn : 0 < n) (hl : n + 1 ≤ l.length) : Srtd d n l (down d n 0 (swapped S.1 0 n, S.2 + 1)) := by
  have hlS := h.perm.length_eq
  have hlen : (swapped S.1 0 n).length = l.length := by rw [swapped_length]; exact hlS
  have hat := fun t => swapped_at (p := S.1) (i := 0) (k := n) (j := t) (by omega) (by omega)
  have hk := down_keep hd (n := n) (i := 0) (swapped S.1 0 n, S.2 + 1) (by simp only; omega)
  have hmax := root_max hd h.heap
  have hbig : ∀ j, n ≤ j → j < l.length → (swapped S.1 0 n).getD j 0 = if j = n then S.1.getD 0 0 else S.1.getD j 0 := fun j hj hjl => by
    rw [hat]
    by_cases e : j = n
    · rw [if_pos e, if_pos e]
    · rw [if_neg e, if_neg e, if_neg (by omega)]
  have hsm : ∀ j, j < n → ∃ t, t < n + 1 ∧ (swapped S.1 0 n).getD j 0 = S.1.getD t 0 := fun j hj => by
    rw [hat, if_neg (by omega)]
    by_cases e : j = 0
    · rw [if_pos e]; exact ⟨n, by omega, rfl⟩
    · rw [if_neg e]; exact ⟨j, by omega, rfl⟩
  refine ⟨(down_perm hd _ (by simp only; omega)).trans ((swapped_perm (by omega) (by omega)).trans h.perm), down_heap hd (by simp only; omega) (Nat.le_refl _) ⟨fun i hi hin _ hp => ?_, fun i hi hin hp h0 _ => absurd h0 (by omega)⟩, fun i j hi hij hj => ?_, fun i j hi hj hjl => ?_⟩
  · have hpl := par_lt hd hi
    show (swapped S.1 0 n).getD i 0 ≤ (swapped S.1 0 n).getD (par d i) 0
    rw [hat, hat, if_neg (by omega), if_neg (by omega), if_neg (by omega), if_neg hp]
    exact h.heap i hi (by omega) (Nat.zero_le _)
  · rw [hk.1 i hi, hk.1 j (by omega)]
    show (swapped S.1 0 n).getD i 0 ≤ (swapped S.1 0 n).getD j 0
    rw [hbig i hi (by omega), hbig j (by omega) hj, if_neg (show ¬ j = n by omega)]
    split
    · exact h.top 0 j (by omega) (by omega) hj
    · exact h.asc i j (by omega) hij hj
  · rw [hk.1 j hj]
    apply hk.2 _ _ i hi
    intro t ht
    obtain ⟨u, hu, e⟩ := hsm t ht
    show (swapped S.1 0 n).getD t 0 ≤ (swapped S.1 0 n).getD j 0
    rw [e, hbig j hj hjl]
    split
    · exact hmax u hu
    · exact h.top u j hu (by omega) hjl
theorem Srtd.all {d : Nat} {l : List Int} (hd : 0 < d) : ∀ n S, n ≤ l.length → Srtd d n l S → (hsn d n S).1.Perm l ∧ Asc (hsn d n S).1
  | 0, S, _, h => ⟨h.perm, asc_of fun i j hij hj => h.asc i j (Nat.zero_le _) hij (by rw [← h.perm.length_eq]; exact hj)⟩
  | n + 1, S, hl, h => by
    by_cases e : n = 0
    · subst e
      refine ⟨h.perm, asc_of fun i j hij hj => ?_⟩
      have hj2 : j < l.length := by rw [← h.perm.length_eq]; exact hj
      show S.1.getD i 0 ≤ S.1.getD j 0
      by_cases e : i = 0
      · exact h.top i j (by omega) (by omega) hj2
      · exact h.asc i j (by omega) hij hj2
    · rw [hsn_go (by omega)]
      exact Srtd.all hd n _ (by omega) (h.step hd (by omega) hl)
theorem hs_sorted {d : Nat} (hd : 0 < d) (l : List Int) : (hsF d l).1.Perm l ∧ Asc (hsF d l).1 :=
  Srtd.all hd _ _ (Nat.le_refl _) ⟨buildF_perm hd l, buildF_heap hd l, fun i j h1 h2 h3 => by omega, fun i j h1 h2 h3 => by omega⟩

/-- The first index that is greater than its parent, or -1. -/
def df (d : Nat) (L : List Int) : Nat → Nat → Int
  | 0, _ => -1
  | n + 1, i => if L.getD (par d i) 0 < L.getD i 0 then (i : Int) else df d L n (i + 1)
theorem df_yes {d n i : Nat} {L : List Int} (h : L.getD (par d i) 0 < L.getD i 0) : df d L (n + 1) i = (i : Int) := if_pos h
theorem df_no {d n i : Nat} {L : List Int} (h : ¬ L.getD (par d i) 0 < L.getD i 0) : df d L (n + 1) i = df d L n (i + 1) := if_neg h
theorem df_spec {d : Nat} {L : List Int} : ∀ n i, (df d L n i = -1 ∧ ∀ j, i ≤ j → j < i + n → L.getD j 0 ≤ L.getD (par d j) 0) ∨ (∃ a : Nat, df d L n i = (a : Int) ∧ i ≤ a ∧ a < i + n ∧ L.getD (par d a) 0 < L.getD a 0)
  | 0, i => .inl ⟨rfl, fun j h1 h2 => by omega⟩
  | n + 1, i => by
    by_cases h : L.getD (par d i) 0 < L.getD i 0
    · exact .inr ⟨i, df_yes h, Nat.le_refl _, by omega, h⟩
    · rw [df_no h]
      rcases df_spec n (i + 1) with ⟨e, h2⟩ | ⟨a, e, h1, h2, h3⟩
      · refine .inl ⟨e, fun j h3 h4 => ?_⟩
        by_cases e : j = i
        · subst e; omega
        · exact h2 j (by omega) (by omega)
      · exact .inr ⟨a, e, by omega, by omega, h3⟩
def dfF (d : Nat) (L : List Int) : Int := df d L (L.length - 1) 1
theorem dfF_heap {d : Nat} {L : List Int} : dfF d L = -1 ↔ HF d L.length 0 L := by
  rcases df_spec (d := d) (L := L) (L.length - 1) 1 with ⟨e, h⟩ | ⟨a, e, h1, h2, h3⟩
  · exact ⟨fun _ i h1 h2 _ => h i (by omega) (by omega), fun _ => e⟩
  · refine ⟨fun h => ?_, fun h => ?_⟩
    · have : dfF d L = (a : Int) := e
      omega
    · have := h a (by omega) (by omega) (Nat.zero_le _)
      omega
instance (d : Nat) (L : List Int) : Decidable (HF d L.length 0 L) := decidable_of_iff _ dfF_heap

theorem pop_list {l : List Int} : (l.take (l.length - 1)).set 0 (l.getD (l.length - 1) 0) = (l.set 0 (l.getD (l.length - 1) 0)).take (l.length - 1) := by
  rw [List.take_set]
/-- Popping: the rest and the swaps. -/
def popF (d : Nat) (l : List Int) : St2 := down d (l.length - 1) 0 ((l.set 0 (l.getD (l.length - 1) 0)).take (l.length - 1), 0)
def pushF (d : Nat) (l : List Int) (x : Int) : St2 := up d l.length (l ++ [x], 0)
def repF (d : Nat) (l : List Int) (x : Int) : St2 := down d l.length 0 (l.set 0 x, 0)
theorem popF_length {d : Nat} (hd : 0 < d) (l : List Int) : (popF d l).1.length = l.length - 1 := by unfold popF; rw [down_length hd]; simp
theorem pushF_length {d : Nat} (hd : 0 < d) (l : List Int) (x : Int) : (pushF d l x).1.length = l.length + 1 := by unfold pushF; rw [up_length hd]; simp
theorem repF_length {d : Nat} (hd : 0 < d) (l : List Int) (x : Int) : (repF d l x).1.length = l.length := by unfold repF; rw [down_length hd]; simp
theorem getD_set {l : List Int} {i j : Nat} {x : Int} (h : i < l.length) : (l.set i x).getD j 0 = if j = i then x else l.getD j 0 := by
  simp only [List.getD_eq_getElem?_getD]
  by_cases e : j = i
  · subst e; rw [if_pos rfl, List.getElem?_set_self h]; rfl
  · rw [if_neg e, List.getElem?_set_ne (fun h => e h.symm)]
theorem getD_take {l : List Int} {n j : Nat} (h : j < n) : (l.take n).getD j 0 = l.getD j 0 := by
  simp only [List.getD_eq_getElem?_getD]; rw [List.getElem?_take_of_lt h]
theorem getD_app {l : List Int} {x : Int} {j : Nat} : (l ++ [x]).getD j 0 = if j < l.length then l.getD j 0 else if j = l.length then x else 0 := by
  simp only [List.getD_eq_getElem?_getD]
  by_cases h : j < l.length
  · rw [if_pos h, List.getElem?_append_left h]
  · rw [if_neg h, List.getElem?_append_right (by omega)]
    by_cases e : j = l.length
    · subst e; simp
    · rw [if_neg e]
      obtain ⟨t, ht⟩ : ∃ t, j - l.length = t + 1 := ⟨j - l.length - 1, by omega⟩
      rw [ht]; simp
theorem set0_perm {l : List Int} (x : Int) (h : 0 < l.length) : (l.getD 0 0 :: l.set 0 x).Perm (x :: l) := by
  cases l with
  | nil => simp at h
  | cons a l => exact List.Perm.swap x a l
theorem pop_perm {d : Nat} (hd : 0 < d) {l : List Int} (h : 0 < l.length) : (l.getD 0 0 :: (popF d l).1).Perm l := by
  have h1 := down_perm hd (n := l.length - 1) (i := 0) ((l.set 0 (l.getD (l.length - 1) 0)).take (l.length - 1), 0) (by simp)
  refine (List.Perm.cons _ h1).trans ?_
  show (l.getD 0 0 :: (l.set 0 (l.getD (l.length - 1) 0)).take (l.length - 1)).Perm l
  rw [List.take_set]
  obtain ⟨L, z, rfl⟩ : ∃ L z, l = L ++ [z] := ⟨l.dropLast, l.getLast (by intro e; subst e; simp at h), (List.dropLast_concat_getLast _).symm⟩
  have e1 : (L ++ [z]).length - 1 = L.length := by simp
  rw [e1, List.take_left, getD_app (j := L.length), if_neg (by omega), if_pos rfl]
  cases L with
  | nil => simp
  | cons a L =>
    show (a :: z :: L).Perm (a :: (L ++ [z]))
    exact List.Perm.cons _ (List.perm_append_comm (l₁ := [z]) (l₂ := L))
theorem pop_heap {d : Nat} (hd : 0 < d) {l : List Int} (h : HF d l.length 0 l) : HF d (popF d l).1.length 0 (popF d l).1 := by
  rw [popF_length hd]
  refine down_heap hd (by simp) (Nat.le_refl _) ⟨fun i hi hin _ hp => ?_, fun i hi hin hp h0 _ => absurd h0 (by omega)⟩
  have hpl := par_lt hd hi
  show ((l.set 0 _).take _).getD i 0 ≤ ((l.set 0 _).take _).getD (par d i) 0
  rw [getD_take hin, getD_take (by omega), getD_set (by omega), getD_set (by omega), if_neg (by omega), if_neg hp]
  exact h i hi (by omega) (Nat.zero_le _)
theorem rep_heap {d : Nat} (hd : 0 < d) {l : List Int} {x : Int} (h0 : 0 < l.length) (h : HF d l.length 0 l) : HF d (repF d l x).1.length 0 (repF d l x).1 := by
  rw [repF_length hd]
  refine down_heap hd (by simp) (Nat.le_refl _) ⟨fun i hi hin _ hp => ?_, fun i hi hin hp h0 _ => absurd h0 (by omega)⟩
  have hpl := par_lt hd hi
  show (l.set 0 _).getD i 0 ≤ (l.set 0 _).getD (par d i) 0
  rw [getD_set h0, getD_set h0, if_neg (by omega), if_neg hp]
  exact h i hi (by omega) (Nat.zero_le _)
theorem rep_perm {d : Nat} (hd : 0 < d) {l : List Int} {x : Int} (h : 0 < l.length) : ((repF d l x).1 ++ [l.getD 0 0]).Perm (l ++ [x]) := by
  have h1 := down_perm hd (n := l.length) (i := 0) (l.set 0 x, 0) (by simp)
  exact (List.perm_append_comm).trans ((List.Perm.cons _ h1).trans ((set0_perm x h).trans (List.perm_append_comm (l₁ := [x]))))
theorem push_heap {d : Nat} (hd : 0 < d) {l : List Int} {x : Int} (h : HF d l.length 0 l) : HF d (pushF d l x).1.length 0 (pushF d l x).1 := by
  rw [pushF_length hd]
  refine up_heap hd (by simp) (by omega) (fun i hi hin hne => ?_) (fun i hi hin hp h0 => ?_)
  · have hpl := par_lt hd hi
    show (l ++ [x]).getD i 0 ≤ (l ++ [x]).getD (par d i) 0
    rw [getD_app, getD_app, if_pos (by omega), if_pos (by omega)]
    exact h i hi (by omega) (Nat.zero_le _)
  · have hpl := par_lt hd hi; omega
theorem push_perm {d : Nat} (hd : 0 < d) (l : List Int) (x : Int) : (pushF d l x).1.Perm (l ++ [x]) := up_perm hd _ (by simp)
theorem push_count {d : Nat} (hd : 0 < d) (l : List Int) (x : Int) : (pushF d l x).2 ≤ dep d l.length := by
  have := (up_count hd (i := l.length) (l ++ [x], 0)).2
  simp only at this; unfold pushF; omega
end Hp
end Go.Proofs.Ytipdfmedbcafpaa
