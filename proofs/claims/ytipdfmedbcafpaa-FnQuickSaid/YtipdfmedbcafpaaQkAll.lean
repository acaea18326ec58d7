/- HeapP HeapA HpS HpDn HpUp ConcI HpIs HpMk HpMk1 IBld SegT SegB SrtG IPs IPs2 IPs3 IFin IIk SInsS SIt0 SIt SIk SQs SQk SMed2 DrawQk, as one text. -/
import Derived.Test.YtipdfmedbcafpaaElem2
import Derived.Test.YtipdfmedbcafpaaInsP
import Derived.Test.YtipdfmedbcafpaaBut2
import Derived.BigRegion
import Derived.BigQuiet
import Derived.Deep.QuietTactic
import Derived.Laws.BitsLemmas
import Derived.Test.YtipdfmedbcafpaaOwnN
import Derived.Lib.AppendZeros
import Derived.Laws.OwnMore
import Derived.Test.YtipdfmedbcafpaaIList
import Derived.Test.YtipdfmedbcafpaaRetZ
import Derived.Test.YtipdfmedbcafpaaSeg
import Derived.Test.YtipdfmedbcafpaaQuickP
import Derived.Test.YtipdfmedbcafpaaIThr
import Derived.Test.YtipdfmedbcafpaaIMed
import Derived.Defers
import Derived.StillTailTactics
import Derived.Deep.RegionWith
import Derived.Test.YtipdfmedbcafpaaList
import Derived.Test.YtipdfmedbcafpaaCloneI
import Derived.Test.YtipdfmedbcafpaaRet12
import Derived.Laws.EntriesVeiled
import Derived.Test.YtipdfmedbcafpaaIInsF
import Derived.Laws.IdiomCopy
import Derived.Test.YtipdfmedbcafpaaRes4
import Derived.Test.YtipdfmedbcafpaaSMed
import Derived.Test.YtipdfmedbcafpaaSThr
import Derived.Test.YtipdfmedbcafpaaSrt
import Derived.Test.YtipdfmedbcafpaaIn
import Derived.Test.YtipdfmedbcafpaaQuickA
import Derived.Test.YtipdfmedbcafpaaDrawSd
import Derived.Test.YtipdfmedbcafpaaCode

section
/- Heaps of any arity, pure. Nothing of the program. -/
namespace Go.Proofs.Ytipdfmedbcafpaa
set_option linter.unusedVariables false
namespace Hp
open P El

def par (d i : Nat) : Nat := (i - 1) / d
theorem par_iff {d i j : Nat} (hd : 0 < d) (hi : 0 < i) : par d i = j ↔ d * j + 1 ≤ i ∧ i ≤ d * j + d := by
  unfold par
  constructor
  · intro h
    subst h
    have h1 := Nat.div_add_mod (i - 1) d
    have h2 := Nat.mod_lt (i - 1) hd
    omega
  · rintro ⟨h1, h2⟩
    apply Nat.div_eq_of_lt_le
    · rw [Nat.mul_comm]; omega
    · rw [Nat.succ_mul, Nat.mul_comm]; omega
theorem par_lt {d i : Nat} (hd : 0 < d) (hi : 0 < i) : par d i < i := by
  unfold par
  have := Nat.div_le_self (i - 1) d
  omega
theorem le_mul {d j : Nat} (hd : 0 < d) : j ≤ d * j := Nat.le_mul_of_pos_left j hd

/-- The first index of a greatest child: from k on, n of them left, b the one so far. -/
def gc (L : List Int) : Nat → Nat → Nat → Nat
  | 0, _, b => b
  | n + 1, k, b => gc L n (k + 1) (if L.getD b 0 < L.getD k 0 then k else b)
theorem gc_gt {L : List Int} {n k b : Nat} (h : L.getD b 0 < L.getD k 0) : gc L (n + 1) k b = gc L n (k + 1) k := by show gc L n (k + 1) _ = _; rw [if_pos h]
theorem gc_le {L : List Int} {n k b : Nat} (h : ¬ L.getD b 0 < L.getD k 0) : gc L (n + 1) k b = gc L n (k + 1) b := by show gc L n (k + 1) _ = _; rw [if_neg h]
theorem gc_spec (L : List Int) (i : Nat) : ∀ n k b, i ≤ b → b < k → (∀ j, i ≤ j → j < k → L.getD j 0 ≤ L.getD b 0) →
    i ≤ gc L n k b ∧ gc L n k b < k + n ∧ ∀ j, i ≤ j → j < k + n → L.getD j 0 ≤ L.getD (gc L n k b) 0 := by
  intro n
  induction n with
  | zero => intro k b h1 h2 h3; exact ⟨h1, h2, h3⟩
  | succ n ih =>
    intro k b h1 h2 h3
    by_cases h : L.getD b 0 < L.getD k 0
    · rw [gc_gt h]
      obtain ⟨a1, a2, a3⟩ := ih (k + 1) k (by omega) (by omega) (fun j hj hk => by
        by_cases e : j = k
        · subst e; omega
        · have := h3 j hj (by omega); omega)
      exact ⟨a1, by omega, fun j hj hk => a3 j hj (by omega)⟩
    · rw [gc_le h]
      obtain ⟨a1, a2, a3⟩ := ih (k + 1) b h1 (by omega) (fun j hj hk => by
        by_cases e : j = k
        · subst e; omega
        · exact h3 j hj (by omega))
      exact ⟨a1, by omega, fun j hj hk => a3 j hj (by omega)⟩
def best (L : List Int) (d n i : Nat) : Nat := gc L (min (d * i + 1 + d) n - (d * i + 2)) (d * i + 2) (d * i + 1)
theorem best_spec (L : List Int) {d n i : Nat} (hd : 0 < d) (h : d * i + 1 < n) : d * i + 1 ≤ best L d n i ∧ best L d n i < n ∧ best L d n i ≤ d * i + d ∧ ∀ j, d * i + 1 ≤ j → j ≤ d * i + d → j < n → L.getD j 0 ≤ L.getD (best L d n i) 0 := by
  obtain ⟨a1, a2, a3⟩ := gc_spec L (d * i + 1) (min (d * i + 1 + d) n - (d * i + 2)) (d * i + 2) (d * i + 1) (Nat.le_refl _) (by omega) (fun j hj hk => by rw [show j = d * i + 1 by omega]; exact Int.le_refl _)
  refine ⟨a1, ?_, ?_, fun j h1 h2 h3 => a3 j h1 ?_⟩
  · show gc _ _ _ _ < n; omega
  · show gc _ _ _ _ ≤ _; omega
  · omega
theorem best_par (L : List Int) {d n i : Nat} (hd : 0 < d) (h : d * i + 1 < n) : par d (best L d n i) = i ∧ i < best L d n i := by
  obtain ⟨a1, a2, a3, _⟩ := best_spec L hd h
  have := le_mul (j := i) hd
  exact ⟨(par_iff hd (by omega)).2 ⟨a1, a3⟩, by omega⟩

/-- Sifting down in the first n elements: the list and the swaps. -/
def dn (d n : Nat) : Nat → Nat → St2 → St2
  | 0, _, S => S
  | f + 1, i, S => if d * i + 1 < n ∧ S.1.getD i 0 < S.1.getD (best S.1 d n i) 0 then dn d n f (best S.1 d n i) (swapped S.1 i (best S.1 d n i), S.2 + 1) else S
theorem dn_go {d n f i : Nat} {S : St2} (h : d * i + 1 < n ∧ S.1.getD i 0 < S.1.getD (best S.1 d n i) 0) : dn d n (f + 1) i S = dn d n f (best S.1 d n i) (swapped S.1 i (best S.1 d n i), S.2 + 1) := if_pos h
theorem dn_stop {d n i : Nat} {S : St2} (h : ¬ (d * i + 1 < n ∧ S.1.getD i 0 < S.1.getD (best S.1 d n i) 0)) : ∀ f, dn d n f i S = S
  | 0 => rfl
  | f + 1 => if_neg h
theorem dn_fuel {d n : Nat} (hd : 0 < d) : ∀ (f g i : Nat) (S : St2), n ≤ f + i → n ≤ g + i → dn d n f i S = dn d n g i S := by
  intro f
  induction f with
  | zero =>
    intro g i S h1 h2
    have := le_mul (j := i) hd
    rw [dn_stop (by omega), dn_stop (by omega)]
  | succ f ih =>
    intro g i S h1 h2
    by_cases h : d * i + 1 < n ∧ S.1.getD i 0 < S.1.getD (best S.1 d n i) 0
    · cases g with
      | zero => have := le_mul (j := i) hd; omega
      | succ g =>
        have hb := (best_par S.1 hd h.1).2
        rw [dn_go h, dn_go h]
        exact ih g _ _ (by omega) (by omega)
    · rw [dn_stop h, dn_stop h]
def down (d n i : Nat) (S : St2) : St2 := dn d n (n - i) i S
theorem down_stop {d n i : Nat} {S : St2} (h : ¬ (d * i + 1 < n ∧ S.1.getD i 0 < S.1.getD (best S.1 d n i) 0)) : down d n i S = S := dn_stop h _
theorem down_go {d n i : Nat} {S : St2} (hd : 0 < d) (h : d * i + 1 < n ∧ S.1.getD i 0 < S.1.getD (best S.1 d n i) 0) : down d n i S = down d n (best S.1 d n i) (swapped S.1 i (best S.1 d n i), S.2 + 1) := by
  have hb := (best_par S.1 hd h.1).2
  have := le_mul (j := i) hd
  unfold down
  rw [show n - i = (n - i - 1) + 1 by omega, dn_go h]
  exact dn_fuel hd _ _ _ _ (by omega) (by omega)
/-- What holds of the sifting, by induction. -/
theorem down_ind {d n : Nat} (hd : 0 < d) {F : Nat → St2 → Prop} (hgo : ∀ i S, d * i + 1 < n → S.1.getD i 0 < S.1.getD (best S.1 d n i) 0 → F i S → F (best S.1 d n i) (swapped S.1 i (best S.1 d n i), S.2 + 1)) {i : Nat} {S : St2} (h : F i S) :
    ∃ j, F j (down d n i S) ∧ ¬ (d * j + 1 < n ∧ (down d n i S).1.getD j 0 < (down d n i S).1.getD (best (down d n i S).1 d n j) 0) := by
  have key : ∀ m i S, n - i ≤ m → F i S → ∃ j, F j (down d n i S) ∧ ¬ (d * j + 1 < n ∧ (down d n i S).1.getD j 0 < (down d n i S).1.getD (best (down d n i S).1 d n j) 0) := by
    intro m
    induction m with
    | zero =>
      intro i S hm hF
      have := le_mul (j := i) hd
      have hs : ¬ (d * i + 1 < n ∧ S.1.getD i 0 < S.1.getD (best S.1 d n i) 0) := by omega
      rw [down_stop hs]; exact ⟨i, hF, hs⟩
    | succ m ih =>
      intro i S hm hF
      by_cases hs : d * i + 1 < n ∧ S.1.getD i 0 < S.1.getD (best S.1 d n i) 0
      · have hb := (best_par S.1 hd hs.1).2
        rw [down_go hd hs]
        exact ih _ _ (by have := le_mul (j := i) hd; omega) (hgo i S hs.1 hs.2 hF)
      · rw [down_stop hs]; exact ⟨i, hF, hs⟩
  exact key _ i S (Nat.le_refl _) h
theorem down_length {d n i : Nat} (hd : 0 < d) (S : St2) : (down d n i S).1.length = S.1.length := by
  obtain ⟨_, h, _⟩ := down_ind hd (n := n) (i := i) (S := S) (F := fun _ T => T.1.length = S.1.length) (fun i T _ _ h => by rw [← h]; exact swapped_length _ _ _) rfl
  exact h
theorem down_perm {d n i : Nat} (hd : 0 < d) (S : St2) (hn : n ≤ S.1.length) : (down d n i S).1.Perm S.1 := by
  obtain ⟨_, h, _⟩ := down_ind hd (n := n) (i := i) (S := S) (F := fun _ T => T.1.Perm S.1) (fun i T h1 _ h => by
    have hl := h.length_eq
    have hb := best_spec T.1 hd h1
    have := le_mul (j := i) hd
    exact (swapped_perm (by omega) (by omega)).trans h) (List.Perm.refl _)
  exact h
theorem down_count {d n i : Nat} (hd : 0 < d) (S : St2) : S.2 ≤ (down d n i S).2 ∧ (down d n i S).2 ≤ S.2 + n := by
  obtain ⟨j, h, _⟩ := down_ind hd (n := n) (i := i) (S := S) (F := fun j T => i ≤ j ∧ S.2 ≤ T.2 ∧ T.2 + i ≤ S.2 + j ∧ (T.2 = S.2 ∨ j < n)) (fun j T h1 _ h => by
    have hb := best_spec T.1 hd h1
    have hb2 := best_par T.1 hd h1
    simp only
    omega) ⟨Nat.le_refl _, Nat.le_refl _, Nat.le_refl _, .inl rfl⟩
  omega
theorem dn_from {d n : Nat} : ∀ (f i : Nat) (L : List Int) (q : Nat), dn d n f i (L, q) = ((dn d n f i (L, 0)).1, q + (dn d n f i (L, 0)).2) := by
  intro f
  induction f with
  | zero => intro i L q; rfl
  | succ f ih =>
    intro i L q
    by_cases h : d * i + 1 < n ∧ L.getD i 0 < L.getD (best L d n i) 0
    · rw [dn_go (S := (L, q)) h, dn_go (S := (L, 0)) h, ih _ _ (q + 1), ih _ _ (0 + 1)]
      simp only [Prod.mk.injEq, true_and]
      omega
    · rw [dn_stop (S := (L, q)) h, dn_stop (S := (L, 0)) h]; rfl
theorem down_from (d n i : Nat) (L : List Int) (q : Nat) : down d n i (L, q) = ((down d n i (L, 0)).1, q + (down d n i (L, 0)).2) := dn_from _ _ _ _
/-- What lies behind the first n elements stays; whatever bounds them bounds them still. -/
theorem down_keep {d n i : Nat} (hd : 0 < d) (S : St2) (hn : n ≤ S.1.length) : (∀ j, n ≤ j → (down d n i S).1.getD j 0 = S.1.getD j 0) ∧ ∀ x : Int, (∀ j, j < n → S.1.getD j 0 ≤ x) → ∀ j, j < n → (down d n i S).1.getD j 0 ≤ x := by
  obtain ⟨_, h, _⟩ := down_ind hd (n := n) (i := i) (S := S) (F := fun _ T => T.1.length = S.1.length ∧ (∀ j, n ≤ j → T.1.getD j 0 = S.1.getD j 0) ∧ ∀ x : Int, (∀ j, j < n → S.1.getD j 0 ≤ x) → ∀ j, j < n → T.1.getD j 0 ≤ x) (fun i T h1 _ h => by
    have hb := best_spec T.1 hd h1
    have := le_mul (j := i) hd
    obtain ⟨a1, a2, a3⟩ := h
    refine ⟨by rw [← a1]; exact swapped_length _ _ _, fun j hj => ?_, fun x hx j hj => ?_⟩
    · show (swapped T.1 i (best T.1 d n i)).getD j 0 = _
      rw [swapped_at (by omega) (by omega), if_neg (by omega), if_neg (by omega)]; exact a2 j hj
    · show (swapped T.1 i (best T.1 d n i)).getD j 0 ≤ x
      rw [swapped_at (by omega) (by omega)]
      split
      · exact a3 x hx i (by omega)
      · split
        · exact a3 x hx _ hb.2.1
        · exact a3 x hx j hj) ⟨rfl, fun _ _ => rfl, fun _ h => h⟩
  exact ⟨h.2.1, h.2.2⟩

/-- The heap's order from index k on, among the first n elements. -/
def HF (d n k : Nat) (L : List Int) : Prop := ∀ i, 0 < i → i < n → k ≤ par d i → L.getD i 0 ≤ L.getD (par d i) 0
def Hole (d n k j : Nat) (L : List Int) : Prop := (∀ i, 0 < i → i < n → k ≤ par d i → par d i ≠ j → L.getD i 0 ≤ L.getD (par d i) 0) ∧ (∀ i, 0 < i → i < n → par d i = j → 0 < j → k ≤ par d j → L.getD i 0 ≤ L.getD (par d j) 0)
theorem down_heap {d n k j : Nat} {S : St2} (hd : 0 < d) (hn : n ≤ S.1.length) (hk : k ≤ j) (h : Hole d n k j S.1) : HF d n k (down d n j S).1 := by
  obtain ⟨b, ⟨hl, hkb, h1, h2⟩, hstop⟩ := down_ind hd (n := n) (i := j) (S := S) (F := fun j T => n ≤ T.1.length ∧ k ≤ j ∧ Hole d n k j T.1) (fun j T hc hlt h => by
    obtain ⟨hl, hkj, h1, h2⟩ := h
    obtain ⟨b1, b2, b3, b4⟩ := best_spec T.1 hd hc
    obtain ⟨b5, b6⟩ := best_par T.1 hd hc
    generalize best T.1 d n j = b at *
    have hat := fun t => swapped_at (p := T.1) (i := j) (k := b) (j := t) (by omega) (by omega)
    refine ⟨by rw [swapped_length]; exact hl, by omega, fun i hi hin hki hpi => ?_, fun i hi hin hpi hb0 hkb => ?_⟩
    · have hpl := par_lt hd hi
      show (swapped T.1 j b).getD i 0 ≤ (swapped T.1 j b).getD (par d i) 0
      rw [hat, hat, if_neg (show ¬ par d i = b from hpi)]
      by_cases e1 : i = b
      · rw [if_pos e1, if_pos (by rw [e1]; exact b5)]; omega
      · rw [if_neg e1]
        by_cases e2 : i = j
        · subst e2
          rw [if_pos rfl, if_neg (by omega)]
          exact h2 b (by omega) b2 b5 hi hki
        · rw [if_neg e2]
          by_cases e3 : par d i = j
          · rw [if_pos e3]
            obtain ⟨c1, c2⟩ := (par_iff hd hi).1 e3
            exact b4 i c1 c2 hin
          · rw [if_neg e3]; exact h1 i hi hin hki e3
    · have hpl := par_lt hd hi
      show (swapped T.1 j b).getD i 0 ≤ (swapped T.1 j b).getD (par d b) 0
      rw [b5] at hkb ⊢
      rw [hat, hat, if_neg (by omega), if_neg (by omega), if_neg (by omega), if_pos rfl]
      have := h1 i hi hin (by omega) (by omega)
      rw [hpi] at this; exact this) ⟨hn, hk, h⟩
  intro i hi hin hki
  by_cases e : par d i = b
  · obtain ⟨c1, c2⟩ := (par_iff hd hi).1 e
    have hc : d * b + 1 < n ∨ d * b + 1 = i := by omega
    by_cases hlt : d * b + 1 < n
    · obtain ⟨_, _, _, b4⟩ := best_spec (down d n j S).1 hd hlt
      have := b4 i c1 c2 hin
      rw [e]; omega
    · omega
  · exact h1 i hi hin hki e
theorem root_max {d n : Nat} {L : List Int} (hd : 0 < d) (h : HF d n 0 L) : ∀ i, i < n → L.getD i 0 ≤ L.getD 0 0 := by
  intro i
  induction i using Nat.strongRecOn with
  | ind i ih =>
    intro hi
    by_cases e : i = 0
    · rw [e]; exact Int.le_refl _
    · have hp := par_lt hd (i := i) (by omega)
      have h1 := h i (by omega) hi (Nat.zero_le _)
      have h2 := ih _ hp (by omega)
      omega

/-- Sifting down the indices from m - 1 to 0. -/
def bl (d n : Nat) : Nat → St2 → St2
  | 0, S => S
  | i + 1, S => bl d n i (down d n i S)
theorem bl_succ (d n i : Nat) (S : St2) : bl d n (i + 1) S = bl d n i (down d n i S) := rfl
theorem bl_skip {d n m : Nat} (S : St2) : ∀ k, (∀ i, m ≤ i → i < m + k → ¬ d * i + 1 < n) → bl d n (m + k) S = bl d n m S
  | 0, _ => rfl
  | k + 1, h => by
    rw [show m + (k + 1) = m + k + 1 by omega, bl_succ, down_stop (fun hh => h (m + k) (by omega) (by omega) hh.1)]
    exact bl_skip S k fun i h1 h2 => h i h1 (by omega)
theorem bl_ind {d n : Nat} {F : Nat → St2 → Prop} (hgo : ∀ i S, F (i + 1) S → F i (down d n i S)) : ∀ m S, F m S → F 0 (bl d n m S)
  | 0, S, h => h
  | m + 1, S, h => bl_ind hgo m _ (hgo m S h)
theorem bl_heap {d n m : Nat} {S : St2} (hd : 0 < d) (hn : n ≤ S.1.length) (h : HF d n m S.1) : HF d n 0 (bl d n m S).1 :=
  (bl_ind (F := fun m T => n ≤ T.1.length ∧ HF d n m T.1) (fun i T h => ⟨by rw [down_length hd]; exact h.1, down_heap hd h.1 (Nat.le_refl _) ⟨fun t h1 h2 h3 h4 => h.2 t h1 h2 (by omega), fun t h1 h2 h3 h4 h5 => by have := par_lt hd h4; omega⟩⟩) m S ⟨hn, h⟩).2
theorem bl_length {d n : Nat} (hd : 0 < d) (m : Nat) (S : St2) : (bl d n m S).1.length = S.1.length :=
  bl_ind (F := fun _ T => T.1.length = S.1.length) (fun i T h => by rw [down_length hd]; exact h) m S rfl
theorem bl_perm {d n : Nat} (hd : 0 < d) (m : Nat) (S : St2) (hn : n ≤ S.1.length) : (bl d n m S).1.Perm S.1 :=
  bl_ind (F := fun _ T => T.1.Perm S.1) (fun i T h => (down_perm hd T (by rw [h.length_eq]; exact hn)).trans h) m S (List.Perm.refl _)
theorem bl_count {d n : Nat} (hd : 0 < d) (m : Nat) (S : St2) : S.2 ≤ (bl d n m S).2 ∧ (bl d n m S).2 ≤ S.2 + m * n := by
  have h := bl_ind (d := d) (n := n) (F := fun k T => S.2 ≤ T.2 ∧ T.2 + k * n ≤ S.2 + m * n) (fun i T (h : S.2 ≤ T.2 ∧ T.2 + (i + 1) * n ≤ S.2 + m * n) => by
    have := down_count hd (n := n) (i := i) T
    rw [Nat.add_mul] at h
    show S.2 ≤ _ ∧ _ + i * n ≤ _
    omega) m S ⟨Nat.le_refl _, Nat.le_refl _⟩
  omega
theorem heap_still {d n i : Nat} {S : St2} (hd : 0 < d) (h : HF d n 0 S.1) : down d n i S = S := by
  apply down_stop
  rintro ⟨h1, h2⟩
  obtain ⟨b1, b2, b3, b4⟩ := best_spec S.1 hd h1
  obtain ⟨b5, b6⟩ := best_par S.1 hd h1
  have := h _ (by omega) b2 (Nat.zero_le _)
  rw [b5] at this; omega
theorem bl_still {d n : Nat} {S : St2} (hd : 0 < d) (h : HF d n 0 S.1) : ∀ m, bl d n m S = S
  | 0 => rfl
  | m + 1 => by rw [bl_succ, heap_still hd h]; exact bl_still hd h m
def buildF (d : Nat) (l : List Int) : St2 := bl d l.length l.length (l, 0)
theorem buildF_length {d : Nat} (hd : 0 < d) (l : List Int) : (buildF d l).1.length = l.length := bl_length hd _ _
theorem buildF_perm {d : Nat} (hd : 0 < d) (l : List Int) : (buildF d l).1.Perm l := bl_perm hd _ _ (Nat.le_refl _)
theorem buildF_heap {d : Nat} (hd : 0 < d) (l : List Int) : HF d l.length 0 (buildF d l).1 :=
  bl_heap hd (Nat.le_refl _) fun i h1 h2 h3 => by have := par_lt hd h1; omega

/-- Sifting up. -/
def upn (d : Nat) : Nat → Nat → St2 → St2
  | 0, _, S => S
  | f + 1, i, S => if 0 < i ∧ S.1.getD (par d i) 0 < S.1.getD i 0 then upn d f (par d i) (swapped S.1 i (par d i), S.2 + 1) else S
theorem upn_go {d f i : Nat} {S : St2} (h : 0 < i ∧ S.1.getD (par d i) 0 < S.1.getD i 0) : upn d (f + 1) i S = upn d f (par d i) (swapped S.1 i (par d i), S.2 + 1) := if_pos h
theorem upn_stop {d i : Nat} {S : St2} (h : ¬ (0 < i ∧ S.1.getD (par d i) 0 < S.1.getD i 0)) : ∀ f, upn d f i S = S
  | 0 => rfl
  | f + 1 => if_neg h
theorem upn_fuel {d : Nat} (hd : 0 < d) : ∀ (f g i : Nat) (S : St2), i ≤ f → i ≤ g → upn d f i S = upn d g i S := by
  intro f
  induction f with
  | zero => intro g i S h1 h2; rw [upn_stop (by omega), upn_stop (by omega)]
  | succ f ih =>
    intro g i S h1 h2
    by_cases h : 0 < i ∧ S.1.getD (par d i) 0 < S.1.getD i 0
    · cases g with
      | zero => omega
      | succ g =>
        have := par_lt hd h.1
        rw [upn_go h, upn_go h]; exact ih g _ _ (by omega) (by omega)
    · rw [upn_stop h, upn_stop h]
def up (d i : Nat) (S : St2) : St2 := upn d i i S
theorem up_stop {d i : Nat} {S : St2} (h : ¬ (0 < i ∧ S.1.getD (par d i) 0 < S.1.getD i 0)) : up d i S = S := upn_stop h _
theorem up_go {d i : Nat} {S : St2} (hd : 0 < d) (h : 0 < i ∧ S.1.getD (par d i) 0 < S.1.getD i 0) : up d i S = up d (par d i) (swapped S.1 i (par d i), S.2 + 1) := by
  have := par_lt hd h.1
  unfold up
  obtain ⟨j, rfl⟩ : ∃ j, i = j + 1 := ⟨i - 1, by omega⟩
  rw [upn_go h]
  exact upn_fuel hd _ _ _ _ (by omega) (Nat.le_refl _)
theorem up_ind {d : Nat} (hd : 0 < d) {F : Nat → St2 → Prop} (hgo : ∀ i S, 0 < i → S.1.getD (par d i) 0 < S.1.getD i 0 → F i S → F (par d i) (swapped S.1 i (par d i), S.2 + 1)) {i : Nat} {S : St2} (h : F i S) :
    ∃ j, F j (up d i S) ∧ ¬ (0 < j ∧ (up d i S).1.getD (par d j) 0 < (up d i S).1.getD j 0) := by
  have key : ∀ m i S, i ≤ m → F i S → ∃ j, F j (up d i S) ∧ ¬ (0 < j ∧ (up d i S).1.getD (par d j) 0 < (up d i S).1.getD j 0) := by
    intro m
    induction m with
    | zero =>
      intro i S hm hF
      have hs : ¬ (0 < i ∧ S.1.getD (par d i) 0 < S.1.getD i 0) := by omega
      rw [up_stop hs]; exact ⟨i, hF, hs⟩
    | succ m ih =>
      intro i S hm hF
      by_cases hs : 0 < i ∧ S.1.getD (par d i) 0 < S.1.getD i 0
      · have := par_lt hd hs.1
        rw [up_go hd hs]; exact ih _ _ (by omega) (hgo i S hs.1 hs.2 hF)
      · rw [up_stop hs]; exact ⟨i, hF, hs⟩
  exact key _ i S (Nat.le_refl _) h
theorem up_length {d i : Nat} (hd : 0 < d) (S : St2) : (up d i S).1.length = S.1.length := by
  obtain ⟨_, h, _⟩ := up_ind hd (i := i) (S := S) (F := fun _ T => T.1.length = S.1.length) (fun i T _ _ h => by rw [← h]; exact swapped_length _ _ _) rfl
  exact h
theorem up_perm {d i : Nat} (hd : 0 < d) (S : St2) (hi : i < S.1.length) : (up d i S).1.Perm S.1 := by
  obtain ⟨_, h, _⟩ := up_ind hd (i := i) (S := S) (F := fun j T => j < S.1.length ∧ T.1.Perm S.1) (fun i T h1 _ h => by
    have hl := h.2.length_eq
    have := par_lt hd h1
    exact ⟨by omega, (swapped_perm (by omega) (by omega)).trans h.2⟩) ⟨hi, List.Perm.refl _⟩
  exact h.2
def dp (d : Nat) : Nat → Nat → Nat
  | 0, _ => 0
  | f + 1, i => if 0 < i then dp d f (par d i) + 1 else 0
theorem dp_fuel {d : Nat} (hd : 0 < d) : ∀ (f g i : Nat), i ≤ f → i ≤ g → dp d f i = dp d g i := by
  intro f
  induction f with
  | zero => intro g i h1 h2; cases g with
    | zero => rfl
    | succ g => show 0 = if 0 < i then _ else 0; rw [if_neg (by omega)]
  | succ f ih =>
    intro g i h1 h2
    by_cases h : 0 < i
    · cases g with
      | zero => omega
      | succ g =>
        have := par_lt hd h
        show (if 0 < i then _ else 0) = if 0 < i then _ else 0
        rw [if_pos h, if_pos h, ih g _ (by omega) (by omega)]
    · cases g with
      | zero => show (if 0 < i then _ else 0) = 0; rw [if_neg h]
      | succ g => show (if 0 < i then _ else 0) = if 0 < i then _ else 0; rw [if_neg h, if_neg h]
/-- The edges from index 0 to index i. -/
def dep (d i : Nat) : Nat := dp d i i
theorem dep_zero (d : Nat) : dep d 0 = 0 := rfl
theorem dep_succ {d i : Nat} (hd : 0 < d) (h : 0 < i) : dep d i = dep d (par d i) + 1 := by
  have := par_lt hd h
  unfold dep
  obtain ⟨j, rfl⟩ : ∃ j, i = j + 1 := ⟨i - 1, by omega⟩
  show (if 0 < j + 1 then _ else 0) = _
  rw [if_pos h, dp_fuel hd j (par d (j + 1)) _ (by omega) (Nat.le_refl _)]
theorem dep_le {d : Nat} (hd : 0 < d) : ∀ n i, i ≤ n → dep d i ≤ i
  | 0, i, h => by rw [show i = 0 by omega]; exact Nat.le_refl _
  | n + 1, i, h => by
    by_cases h0 : 0 < i
    · have := par_lt hd h0
      rw [dep_succ hd h0]
      have := dep_le hd n (par d i) (by omega)
      omega
    · rw [show i = 0 by omega]; exact Nat.le_refl _
theorem up_count {d i : Nat} (hd : 0 < d) (S : St2) : S.2 ≤ (up d i S).2 ∧ (up d i S).2 ≤ S.2 + dep d i := by
  obtain ⟨j, h, _⟩ := up_ind hd (i := i) (S := S) (F := fun j T => S.2 ≤ T.2 ∧ T.2 + dep d j ≤ S.2 + dep d i) (fun j T h1 _ h => by
    have := dep_succ hd h1
    simp only
    omega) ⟨Nat.le_refl _, Nat.le_refl _⟩
  omega
theorem up_heap {d n j : Nat} {S : St2} (hd : 0 < d) (hn : n = S.1.length) (hj : j < n) (h1 : ∀ i, 0 < i → i < n → i ≠ j → S.1.getD i 0 ≤ S.1.getD (par d i) 0) (h2 : ∀ i, 0 < i → i < n → par d i = j → 0 < j → S.1.getD i 0 ≤ S.1.getD (par d j) 0) : HF d n 0 (up d j S).1 := by
  obtain ⟨b, ⟨hl, hb, h1, h2⟩, hstop⟩ := up_ind hd (i := j) (S := S) (F := fun j T => n = T.1.length ∧ j < n ∧ (∀ i, 0 < i → i < n → i ≠ j → T.1.getD i 0 ≤ T.1.getD (par d i) 0) ∧ (∀ i, 0 < i → i < n → par d i = j → 0 < j → T.1.getD i 0 ≤ T.1.getD (par d j) 0)) (fun j T hj hlt h => by
    obtain ⟨hl, hjn, h1, h2⟩ := h
    have hpj := par_lt hd hj
    have hat := fun t => swapped_at (p := T.1) (i := j) (k := par d j) (j := t) (by omega) (by omega)
    refine ⟨by rw [hl]; exact (swapped_length _ _ _).symm, by omega, fun i hi hin hne => ?_, fun i hi hin hpi hp0 => ?_⟩
    · have hpl := par_lt hd hi
      show (swapped T.1 j (par d j)).getD i 0 ≤ (swapped T.1 j (par d j)).getD (par d i) 0
      rw [hat, hat, if_neg hne]
      by_cases e1 : i = j
      · subst e1; rw [if_pos rfl, if_pos rfl]; omega
      · rw [if_neg e1]
        have h3 := h1 i hi hin e1
        by_cases e2 : par d i = par d j
        · rw [if_pos e2]; rw [e2] at h3; omega
        · rw [if_neg e2]
          by_cases e3 : par d i = j
          · rw [if_pos e3]; exact h2 i hi hin e3 hj
          · rw [if_neg e3]; exact h3
    · have hpl := par_lt hd hi
      have hpp := par_lt hd hp0
      show (swapped T.1 j (par d j)).getD i 0 ≤ (swapped T.1 j (par d j)).getD (par d (par d j)) 0
      rw [hat, hat, if_neg (by omega), if_neg (show ¬ par d (par d j) = par d j by omega), if_neg (show ¬ par d (par d j) = j by omega)]
      have h4 := h1 (par d j) hp0 (by omega) (by omega)
      by_cases e1 : i = j
      · rw [if_pos e1]; exact h4
      · rw [if_neg e1]
        have h3 := h1 i hi hin e1
        rw [hpi] at h3; omega) ⟨hn, hj, h1, h2⟩
  intro i hi hin _
  by_cases e : i = b
  · subst e
    omega
  · exact h1 i hi hin e

/-- Heap sort from n elements on. -/
def hsn (d : Nat) : Nat → St2 → St2
  | 0, S => S
  | n + 1, S => if n = 0 then S else hsn d n (down d n 0 (swapped S.1 0 n, S.2 + 1))
theorem hsn_go {d n : Nat} (h : 0 < n) (S : St2) : hsn d (n + 1) S = hsn d n (down d n 0 (swapped S.1 0 n, S.2 + 1)) := if_neg (by omega)
theorem hsn_stop {d n : Nat} (h : n ≤ 1) (S : St2) : hsn d n S = S := by
  match n, h with
  | 0, _ => rfl
  | 1, _ => rfl
def hsF (d : Nat) (l : List Int) : St2 := hsn d l.length (buildF d l)
theorem hsn_length {d : Nat} (hd : 0 < d) : ∀ n S, (hsn d n S).1.length = S.1.length
  | 0, S => rfl
  | n + 1, S => by
    by_cases h : n = 0
    · subst h; rfl
    · rw [hsn_go (by omega), hsn_length hd n, down_length hd]; exact swapped_length _ _ _
theorem hsF_length {d : Nat} (hd : 0 < d) (l : List Int) : (hsF d l).1.length = l.length := by unfold hsF; rw [hsn_length hd, buildF_length hd]
theorem hsn_count {d : Nat} (hd : 0 < d) (N : Nat) : ∀ n S, n ≤ N → S.2 ≤ (hsn d n S).2 ∧ (hsn d n S).2 ≤ S.2 + n * (N + 1)
  | 0, S, _ => by show S.2 ≤ S.2 ∧ S.2 ≤ _; omega
  | n + 1, S, hN => by
    by_cases h : n = 0
    · subst h; show S.2 ≤ S.2 ∧ S.2 ≤ _; omega
    · rw [hsn_go (by omega)]
      have h1 := hsn_count hd N n (down d n 0 (swapped S.1 0 n, S.2 + 1)) (by omega)
      have h2 := down_count hd (n := n) (i := 0) (swapped S.1 0 n, S.2 + 1)
      simp only at h2
      rw [Nat.add_mul]
      omega
/-- The state of the sort: a heap ahead, the greatest elements in order behind. -/
structure Srtd (d n : Nat) (l : List Int) (S : St2) : Prop where
  perm : S.1.Perm l
  heap : HF d n 0 S.1
  asc : ∀ i j, n ≤ i → i < j → j < l.length → S.1.getD i 0 ≤ S.1.getD j 0
  top : ∀ i j, i < n → n ≤ j → j < l.length → S.1.getD i 0 ≤ S.1.getD j 0
theorem Srtd.step {d n : Nat} {l : List Int} {S : St2} (hd : 0 < d) (h : Srtd d (n + 1) l S) (hn : 0 < n) (hl : n + 1 ≤ l.length) : Srtd d n l (down d n 0 (swapped S.1 0 n, S.2 + 1)) := by
  have hlS := h.perm.length_eq
  have hlen : (swapped S.1 0 n).length = l.length := by rw [swapped_length]; exact hlS
  have hat := fun t => swapped_at (p := S.1) (i := 0) (k := n) (j := t) (by omega) (by omega)
  have hk := down_keep hd (n := n) (i := 0) (swapped S.1 0 n, S.2 + 1) (by simp only; omega)
  have hmax := root_max hd h.heap
  have hbig : ∀ j, n ≤ j → j < l.length → (swapped S.1 0 n).getD j 0 = if j = n then S.1.getD 0 0 else S.1.getD j 0 := fun j hj hjl => by
    rw [hat]
    by_cases e : j = n
    · rw [if_pos e, if_pos e]
    · rw [if_neg e, if_neg e, if_neg (by omega)]
  have hsm : ∀ j, j < n → ∃ t, t < n + 1 ∧ (swapped S.1 0 n).getD j 0 = S.1.getD t 0 := fun j hj => by
    rw [hat, if_neg (by omega)]
    by_cases e : j = 0
    · rw [if_pos e]; exact ⟨n, by omega, rfl⟩
    · rw [if_neg e]; exact ⟨j, by omega, rfl⟩
  refine ⟨(down_perm hd _ (by simp only; omega)).trans ((swapped_perm (by omega) (by omega)).trans h.perm), down_heap hd (by simp only; omega) (Nat.le_refl _) ⟨fun i hi hin _ hp => ?_, fun i hi hin hp h0 _ => absurd h0 (by omega)⟩, fun i j hi hij hj => ?_, fun i j hi hj hjl => ?_⟩
  · have hpl := par_lt hd hi
    show (swapped S.1 0 n).getD i 0 ≤ (swapped S.1 0 n).getD (par d i) 0
    rw [hat, hat, if_neg (by omega), if_neg (by omega), if_neg (by omega), if_neg hp]
    exact h.heap i hi (by omega) (Nat.zero_le _)
  · rw [hk.1 i hi, hk.1 j (by omega)]
    show (swapped S.1 0 n).getD i 0 ≤ (swapped S.1 0 n).getD j 0
    rw [hbig i hi (by omega), hbig j (by omega) hj, if_neg (show ¬ j = n by omega)]
    split
    · exact h.top 0 j (by omega) (by omega) hj
    · exact h.asc i j (by omega) hij hj
  · rw [hk.1 j hj]
    apply hk.2 _ _ i hi
    intro t ht
    obtain ⟨u, hu, e⟩ := hsm t ht
    show (swapped S.1 0 n).getD t 0 ≤ (swapped S.1 0 n).getD j 0
    rw [e, hbig j hj hjl]
    split
    · exact hmax u hu
    · exact h.top u j hu (by omega) hjl
theorem Srtd.all {d : Nat} {l : List Int} (hd : 0 < d) : ∀ n S, n ≤ l.length → Srtd d n l S → (hsn d n S).1.Perm l ∧ Asc (hsn d n S).1
  | 0, S, _, h => ⟨h.perm, asc_of fun i j hij hj => h.asc i j (Nat.zero_le _) hij (by rw [← h.perm.length_eq]; exact hj)⟩
  | n + 1, S, hl, h => by
    by_cases e : n = 0
    · subst e
      refine ⟨h.perm, asc_of fun i j hij hj => ?_⟩
      have hj2 : j < l.length := by rw [← h.perm.length_eq]; exact hj
      show S.1.getD i 0 ≤ S.1.getD j 0
      by_cases e : i = 0
      · exact h.top i j (by omega) (by omega) hj2
      · exact h.asc i j (by omega) hij hj2
    · rw [hsn_go (by omega)]
      exact Srtd.all hd n _ (by omega) (h.step hd (by omega) hl)
theorem hs_sorted {d : Nat} (hd : 0 < d) (l : List Int) : (hsF d l).1.Perm l ∧ Asc (hsF d l).1 :=
  Srtd.all hd _ _ (Nat.le_refl _) ⟨buildF_perm hd l, buildF_heap hd l, fun i j h1 h2 h3 => by omega, fun i j h1 h2 h3 => by omega⟩

/-- The first index that is greater than its parent, or -1. -/
def df (d : Nat) (L : List Int) : Nat → Nat → Int
  | 0, _ => -1
  | n + 1, i => if L.getD (par d i) 0 < L.getD i 0 then (i : Int) else df d L n (i + 1)
theorem df_yes {d n i : Nat} {L : List Int} (h : L.getD (par d i) 0 < L.getD i 0) : df d L (n + 1) i = (i : Int) := if_pos h
theorem df_no {d n i : Nat} {L : List Int} (h : ¬ L.getD (par d i) 0 < L.getD i 0) : df d L (n + 1) i = df d L n (i + 1) := if_neg h
theorem df_spec {d : Nat} {L : List Int} : ∀ n i, (df d L n i = -1 ∧ ∀ j, i ≤ j → j < i + n → L.getD j 0 ≤ L.getD (par d j) 0) ∨ (∃ a : Nat, df d L n i = (a : Int) ∧ i ≤ a ∧ a < i + n ∧ L.getD (par d a) 0 < L.getD a 0)
  | 0, i => .inl ⟨rfl, fun j h1 h2 => by omega⟩
  | n + 1, i => by
    by_cases h : L.getD (par d i) 0 < L.getD i 0
    · exact .inr ⟨i, df_yes h, Nat.le_refl _, by omega, h⟩
    · rw [df_no h]
      rcases df_spec n (i + 1) with ⟨e, h2⟩ | ⟨a, e, h1, h2, h3⟩
      · refine .inl ⟨e, fun j h3 h4 => ?_⟩
        by_cases e : j = i
        · subst e; omega
        · exact h2 j (by omega) (by omega)
      · exact .inr ⟨a, e, by omega, by omega, h3⟩
def dfF (d : Nat) (L : List Int) : Int := df d L (L.length - 1) 1
theorem dfF_heap {d : Nat} {L : List Int} : dfF d L = -1 ↔ HF d L.length 0 L := by
  rcases df_spec (d := d) (L := L) (L.length - 1) 1 with ⟨e, h⟩ | ⟨a, e, h1, h2, h3⟩
  · exact ⟨fun _ i h1 h2 _ => h i (by omega) (by omega), fun _ => e⟩
  · refine ⟨fun h => ?_, fun h => ?_⟩
    · have : dfF d L = (a : Int) := e
      omega
    · have := h a (by omega) (by omega) (Nat.zero_le _)
      omega
instance (d : Nat) (L : List Int) : Decidable (HF d L.length 0 L) := decidable_of_iff _ dfF_heap

theorem pop_list {l : List Int} : (l.take (l.length - 1)).set 0 (l.getD (l.length - 1) 0) = (l.set 0 (l.getD (l.length - 1) 0)).take (l.length - 1) := by
  rw [List.take_set]
/-- Popping: the rest and the swaps. -/
def popF (d : Nat) (l : List Int) : St2 := down d (l.length - 1) 0 ((l.set 0 (l.getD (l.length - 1) 0)).take (l.length - 1), 0)
def pushF (d : Nat) (l : List Int) (x : Int) : St2 := up d l.length (l ++ [x], 0)
def repF (d : Nat) (l : List Int) (x : Int) : St2 := down d l.length 0 (l.set 0 x, 0)
theorem popF_length {d : Nat} (hd : 0 < d) (l : List Int) : (popF d l).1.length = l.length - 1 := by unfold popF; rw [down_length hd]; simp
theorem pushF_length {d : Nat} (hd : 0 < d) (l : List Int) (x : Int) : (pushF d l x).1.length = l.length + 1 := by unfold pushF; rw [up_length hd]; simp
theorem repF_length {d : Nat} (hd : 0 < d) (l : List Int) (x : Int) : (repF d l x).1.length = l.length := by unfold repF; rw [down_length hd]; simp
theorem getD_set {l : List Int} {i j : Nat} {x : Int} (h : i < l.length) : (l.set i x).getD j 0 = if j = i then x else l.getD j 0 := by
  simp only [List.getD_eq_getElem?_getD]
  by_cases e : j = i
  · subst e; rw [if_pos rfl, List.getElem?_set_self h]; rfl
  · rw [if_neg e, List.getElem?_set_ne (fun h => e h.symm)]
theorem getD_take {l : List Int} {n j : Nat} (h : j < n) : (l.take n).getD j 0 = l.getD j 0 := by
  simp only [List.getD_eq_getElem?_getD]; rw [List.getElem?_take_of_lt h]
theorem getD_app {l : List Int} {x : Int} {j : Nat} : (l ++ [x]).getD j 0 = if j < l.length then l.getD j 0 else if j = l.length then x else 0 := by
  simp only [List.getD_eq_getElem?_getD]
  by_cases h : j < l.length
  · rw [if_pos h, List.getElem?_append_left h]
  · rw [if_neg h, List.getElem?_append_right (by omega)]
    by_cases e : j = l.length
    · subst e; simp
    · rw [if_neg e]
      obtain ⟨t, ht⟩ : ∃ t, j - l.length = t + 1 := ⟨j - l.length - 1, by omega⟩
      rw [ht]; simp
theorem set0_perm {l : List Int} (x : Int) (h : 0 < l.length) : (l.getD 0 0 :: l.set 0 x).Perm (x :: l) := by
  cases l with
  | nil => simp at h
  | cons a l => exact List.Perm.swap x a l
theorem pop_perm {d : Nat} (hd : 0 < d) {l : List Int} (h : 0 < l.length) : (l.getD 0 0 :: (popF d l).1).Perm l := by
  have h1 := down_perm hd (n := l.length - 1) (i := 0) ((l.set 0 (l.getD (l.length - 1) 0)).take (l.length - 1), 0) (by simp)
  refine (List.Perm.cons _ h1).trans ?_
  show (l.getD 0 0 :: (l.set 0 (l.getD (l.length - 1) 0)).take (l.length - 1)).Perm l
  rw [List.take_set]
  obtain ⟨L, z, rfl⟩ : ∃ L z, l = L ++ [z] := ⟨l.dropLast, l.getLast (by intro e; subst e; simp at h), (List.dropLast_concat_getLast _).symm⟩
  have e1 : (L ++ [z]).length - 1 = L.length := by simp
  rw [e1, List.take_left, getD_app (j := L.length), if_neg (by omega), if_pos rfl]
  cases L with
  | nil => simp
  | cons a L =>
    show (a :: z :: L).Perm (a :: (L ++ [z]))
    exact List.Perm.cons _ (List.perm_append_comm (l₁ := [z]) (l₂ := L))
theorem pop_heap {d : Nat} (hd : 0 < d) {l : List Int} (h : HF d l.length 0 l) : HF d (popF d l).1.length 0 (popF d l).1 := by
  rw [popF_length hd]
  refine down_heap hd (by simp) (Nat.le_refl _) ⟨fun i hi hin _ hp => ?_, fun i hi hin hp h0 _ => absurd h0 (by omega)⟩
  have hpl := par_lt hd hi
  show ((l.set 0 _).take _).getD i 0 ≤ ((l.set 0 _).take _).getD (par d i) 0
  rw [getD_take hin, getD_take (by omega), getD_set (by omega), getD_set (by omega), if_neg (by omega), if_neg hp]
  exact h i hi (by omega) (Nat.zero_le _)
theorem rep_heap {d : Nat} (hd : 0 < d) {l : List Int} {x : Int} (h0 : 0 < l.length) (h : HF d l.length 0 l) : HF d (repF d l x).1.length 0 (repF d l x).1 := by
  rw [repF_length hd]
  refine down_heap hd (by simp) (Nat.le_refl _) ⟨fun i hi hin _ hp => ?_, fun i hi hin hp h0 _ => absurd h0 (by omega)⟩
  have hpl := par_lt hd hi
  show (l.set 0 _).getD i 0 ≤ (l.set 0 _).getD (par d i) 0
  rw [getD_set h0, getD_set h0, if_neg (by omega), if_neg hp]
  exact h i hi (by omega) (Nat.zero_le _)
theorem rep_perm {d : Nat} (hd : 0 < d) {l : List Int} {x : Int} (h : 0 < l.length) : ((repF d l x).1 ++ [l.getD 0 0]).Perm (l ++ [x]) := by
  have h1 := down_perm hd (n := l.length) (i := 0) (l.set 0 x, 0) (by simp)
  exact (List.perm_append_comm).trans ((List.Perm.cons _ h1).trans ((set0_perm x h).trans (List.perm_append_comm (l₁ := [x]))))
theorem push_heap {d : Nat} (hd : 0 < d) {l : List Int} {x : Int} (h : HF d l.length 0 l) : HF d (pushF d l x).1.length 0 (pushF d l x).1 := by
  rw [pushF_length hd]
  refine up_heap hd (by simp) (by omega) (fun i hi hin hne => ?_) (fun i hi hin hp h0 => ?_)
  · have hpl := par_lt hd hi
    show (l ++ [x]).getD i 0 ≤ (l ++ [x]).getD (par d i) 0
    rw [getD_app, getD_app, if_pos (by omega), if_pos (by omega)]
    exact h i hi (by omega) (Nat.zero_le _)
  · have hpl := par_lt hd hi; omega
theorem push_perm {d : Nat} (hd : 0 < d) (l : List Int) (x : Int) : (pushF d l x).1.Perm (l ++ [x]) := up_perm hd _ (by simp)
theorem push_count {d : Nat} (hd : 0 < d) (l : List Int) (x : Int) : (pushF d l x).2 ≤ dep d l.length := by
  have := (up_count hd (i := l.length) (l ++ [x], 0)).2
  simp only at this; unfold pushF; omega
end Hp
end Go.Proofs.Ytipdfmedbcafpaa
end

section
/- The heaps' answers, pure. -/
namespace Go.Proofs.Ytipdfmedbcafpaa
set_option linter.unusedVariables false
namespace Hp
open P El

def OkD (d : Int) : Prop := 2 ≤ d ∧ d ≤ 8
instance (d : Int) : Decidable (OkD d) := by unfold OkD; exact inferInstance
theorem OkD.nat {d : Int} (h : OkD d) : ∃ k : Nat, d = (k : Int) ∧ d.toNat = k ∧ 2 ≤ k ∧ k ≤ 8 := ⟨d.toNat, by have := h.1; omega, rfl, by have := h.1; omega, by have := h.2; omega⟩
def IsHp (l : List Int) (d : Int) : Prop := OkL l ∧ OkD d ∧ HF d.toNat l.length 0 l
instance (l : List Int) (d : Int) : Decidable (IsHp l d) := by unfold IsHp; exact inferInstance
def isAll (l : List Int) (d : Int) : Int × Bool := if OkL l ∧ OkD d then (dfF d.toNat l, true) else (0, false)
theorem isAll_yes {l : List Int} {d : Int} (h : OkL l ∧ OkD d) : isAll l d = (dfF d.toNat l, true) := if_pos h
theorem isAll_no {l : List Int} {d : Int} (h : ¬ (OkL l ∧ OkD d)) : isAll l d = (0, false) := if_neg h
theorem isAll_heap {l : List Int} {d : Int} : IsHp l d ↔ isAll l d = (-1, true) := by
  by_cases h : OkL l ∧ OkD d
  · rw [isAll_yes h]
    constructor
    · intro hh; rw [dfF_heap.2 hh.2.2]
    · intro e; exact ⟨h.1, h.2, dfF_heap.1 (Prod.mk.inj e).1⟩
  · rw [isAll_no h]
    exact ⟨fun hh => absurd ⟨hh.1, hh.2.1⟩ h, fun e => by simp at e⟩
def bldAll (l : List Int) (d : Int) : List Int × Int × Bool := if OkL l ∧ OkD d then ((buildF d.toNat l).1, ((buildF d.toNat l).2 : Nat), true) else ([], 0, false)
theorem bldAll_yes {l : List Int} {d : Int} (h : OkL l ∧ OkD d) : bldAll l d = ((buildF d.toNat l).1, (((buildF d.toNat l).2 : Nat) : Int), true) := if_pos h
theorem bldAll_no {l : List Int} {d : Int} (h : ¬ (OkL l ∧ OkD d)) : bldAll l d = ([], 0, false) := if_neg h
theorem OkD.pos {d : Int} (h : OkD d) : 0 < d.toNat := by have := h.1; omega
theorem bldAll_len (l : List Int) (d : Int) : (bldAll l d).1.length ≤ 1048576 := by
  by_cases h : OkL l ∧ OkD d
  · rw [bldAll_yes h]; show (buildF _ _).1.length ≤ _; rw [buildF_length h.2.pos]; have := h.1.1; omega
  · rw [bldAll_no h]; exact Nat.zero_le _
def pushAll (l : List Int) (d x : Int) : List Int × Int × Bool := if IsHp l d ∧ OkL (l ++ [x]) then ((pushF d.toNat l x).1, ((pushF d.toNat l x).2 : Nat), true) else ([], 0, false)
theorem pushAll_yes {l : List Int} {d x : Int} (h : IsHp l d ∧ OkL (l ++ [x])) : pushAll l d x = ((pushF d.toNat l x).1, (((pushF d.toNat l x).2 : Nat) : Int), true) := if_pos h
theorem pushAll_no {l : List Int} {d x : Int} (h : ¬ (IsHp l d ∧ OkL (l ++ [x]))) : pushAll l d x = ([], 0, false) := if_neg h
theorem pushAll_len (l : List Int) (d x : Int) : (pushAll l d x).1.length ≤ 1048576 := by
  by_cases h : IsHp l d ∧ OkL (l ++ [x])
  · rw [pushAll_yes h]; show (pushF _ _ _).1.length ≤ _; rw [pushF_length h.1.2.1.pos]; have := h.1.1.1; omega
  · rw [pushAll_no h]; exact Nat.zero_le _
def popAll (l : List Int) (d : Int) : List Int × Int × Int × Bool := if IsHp l d ∧ 0 < l.length then ((popF d.toNat l).1, l.getD 0 0, ((popF d.toNat l).2 : Nat), true) else ([], 0, 0, false)
theorem popAll_yes {l : List Int} {d : Int} (h : IsHp l d ∧ 0 < l.length) : popAll l d = ((popF d.toNat l).1, l.getD 0 0, (((popF d.toNat l).2 : Nat) : Int), true) := if_pos h
theorem popAll_no {l : List Int} {d : Int} (h : ¬ (IsHp l d ∧ 0 < l.length)) : popAll l d = ([], 0, 0, false) := if_neg h
theorem popAll_len (l : List Int) (d : Int) : (popAll l d).1.length ≤ 1048576 := by
  by_cases h : IsHp l d ∧ 0 < l.length
  · rw [popAll_yes h]; show (popF _ _).1.length ≤ _; rw [popF_length h.1.2.1.pos]; have := h.1.1.1; omega
  · rw [popAll_no h]; exact Nat.zero_le _
def repAll (l : List Int) (d x : Int) : List Int × Int × Bool := if IsHp l d ∧ 0 < l.length ∧ -100000 ≤ x ∧ x ≤ 100000 then ((repF d.toNat l x).1, l.getD 0 0, true) else ([], 0, false)
theorem repAll_yes {l : List Int} {d x : Int} (h : IsHp l d ∧ 0 < l.length ∧ -100000 ≤ x ∧ x ≤ 100000) : repAll l d x = ((repF d.toNat l x).1, l.getD 0 0, true) := if_pos h
theorem repAll_no {l : List Int} {d x : Int} (h : ¬ (IsHp l d ∧ 0 < l.length ∧ -100000 ≤ x ∧ x ≤ 100000)) : repAll l d x = ([], 0, false) := if_neg h
theorem repAll_len (l : List Int) (d x : Int) : (repAll l d x).1.length ≤ 1048576 := by
  by_cases h : IsHp l d ∧ 0 < l.length ∧ -100000 ≤ x ∧ x ≤ 100000
  · rw [repAll_yes h]; show (repF _ _ _).1.length ≤ _; rw [repF_length h.1.2.1.pos]; have := h.1.1.1; omega
  · rw [repAll_no h]; exact Nat.zero_le _
def hsAll (l : List Int) (d : Int) : List Int × Int × Bool := if OkL l ∧ OkD d then ((hsF d.toNat l).1, ((hsF d.toNat l).2 : Nat), true) else ([], 0, false)
theorem hsAll_yes {l : List Int} {d : Int} (h : OkL l ∧ OkD d) : hsAll l d = ((hsF d.toNat l).1, (((hsF d.toNat l).2 : Nat) : Int), true) := if_pos h
theorem hsAll_no {l : List Int} {d : Int} (h : ¬ (OkL l ∧ OkD d)) : hsAll l d = ([], 0, false) := if_neg h
theorem hsAll_len (l : List Int) (d : Int) : (hsAll l d).1.length ≤ 1048576 := by
  by_cases h : OkL l ∧ OkD d
  · rw [hsAll_yes h]; show (hsF _ _).1.length ≤ _; rw [hsF_length h.2.pos]; have := h.1.1; omega
  · rw [hsAll_no h]; exact Nat.zero_le _
def depAll (n d : Int) : Int × Bool := if 1 ≤ n ∧ n ≤ 64 ∧ OkD d then ((dep d.toNat (n.toNat - 1) : Nat), true) else (0, false)
theorem depAll_yes {n d : Nat} (h : 1 ≤ n ∧ n ≤ 64 ∧ 2 ≤ d ∧ d ≤ 8) : depAll n d = (((dep d (n - 1) : Nat) : Int), true) := if_pos ⟨by omega, by omega, by unfold OkD; omega⟩
theorem depAll_no {n d : Int} (h : ¬ (1 ≤ n ∧ n ≤ 64 ∧ OkD d)) : depAll n d = (0, false) := if_neg h
def mrgAll (a b : List Int) (d : Int) : List Int × Int × Bool := if IsHp a d ∧ IsHp b d ∧ OkL (a ++ b) then ((buildF d.toNat (a ++ b)).1, ((buildF d.toNat (a ++ b)).2 : Nat), true) else ([], 0, false)
theorem mrgAll_yes {a b : List Int} {d : Int} (h : IsHp a d ∧ IsHp b d ∧ OkL (a ++ b)) : mrgAll a b d = ((buildF d.toNat (a ++ b)).1, (((buildF d.toNat (a ++ b)).2 : Nat) : Int), true) := if_pos h
theorem mrgAll_no {a b : List Int} {d : Int} (h : ¬ (IsHp a d ∧ IsHp b d ∧ OkL (a ++ b))) : mrgAll a b d = ([], 0, false) := if_neg h
theorem mrgAll_bld {a b : List Int} {d : Int} (h1 : IsHp a d) (h2 : IsHp b d) : mrgAll a b d = bldAll (a ++ b) d := by
  by_cases h : OkL (a ++ b)
  · rw [mrgAll_yes ⟨h1, h2, h⟩, bldAll_yes ⟨h, h1.2.1⟩]
  · rw [mrgAll_no (fun hh => h hh.2.2), bldAll_no (fun hh => h hh.1)]
theorem mrgAll_len (a b : List Int) (d : Int) : (mrgAll a b d).1.length ≤ 1048576 := by
  by_cases h : IsHp a d ∧ IsHp b d ∧ OkL (a ++ b)
  · rw [mrgAll_bld h.1 h.2.1]; exact bldAll_len _ _
  · rw [mrgAll_no h]; exact Nat.zero_le _
end Hp
end Go.Proofs.Ytipdfmedbcafpaa
end

section
/- The program's heap: a block of three cells (the elements, the arity, the swaps), and the elements' row; its exchange. -/
namespace Go.Proofs.Ytipdfmedbcafpaa
open Go.RowKit P El Hp
set_option linter.unusedVariables false

def hst (g n cap d q : Nat) : List Value := [.slice (some ⟨g, 0, none⟩) n cap, .int .i64 (d : Int), .int .i64 (q : Int)]

structure HpG (base s g cap : Nat) (L : List Int) (d q : Nat) (w : World) : Prop where
  st : CellRow w s (hst g L.length cap d q)
  row : CellRow w g (ints L)
  ne : g ≠ s
  bs : base ≤ s
  bg : base ≤ g
  cap : L.length ≤ cap
theorem HpG.c0 {base s g cap : Nat} {L : List Int} {d q : Nat} {w : World} (h : HpG base s g cap L d q w) :
    w.cell? ⟨s, 0, none⟩ = some (.slice (some ⟨g, 0, none⟩) L.length cap) ∧ w.cell? ⟨s, 1, none⟩ = some (.int .i64 (d : Int)) ∧ w.cell? ⟨s, 2, none⟩ = some (.int .i64 (q : Int)) ∧
      w.frozen? ⟨s, 0, none⟩ = false ∧ w.frozen? ⟨s, 1, none⟩ = false ∧ w.frozen? ⟨s, 2, none⟩ = false := by
  have h0 := h.st.2 0 _ rfl
  have h1 := h.st.2 1 _ rfl
  have h2 := h.st.2 2 _ rfl
  exact ⟨h0.1, h1.1, h2.1, h0.2, h1.2, h2.2⟩
theorem HpG.same {base s g cap : Nat} {L : List Int} {d q : Nat} {w w' : World} (h : HpG base s g cap L d q w) (hs : w'.heap[s]? = w.heap[s]?) (hg : w'.heap[g]? = w.heap[g]?) (hz : w.heap.size ≤ w'.heap.size) : HpG base s g cap L d q w' :=
  ⟨h.st.same hs hz, h.row.same hg hz, h.ne, h.bs, h.bg, h.cap⟩
theorem HpG.below {base s g cap : Nat} {L : List Int} {d q : Nat} {w w' : World} (h : HpG base s g cap L d q w) (hb : Below w.heap.size w w') : HpG base s g cap L d q w' :=
  h.same (hb.block s h.st.1) (hb.block g h.row.1) hb.size
theorem HpG.drewN {base s g cap : Nat} {L : List Int} {d q : Nat} {w : World} (h : HpG base s g cap L d q w) (n : Nat) : HpG base s g cap L d q (w.drewN n) := h.same rfl rfl (Nat.le_refl _)
theorem HpG.swapd {base s g cap : Nat} {L : List Int} {d q : Nat} {w : World} (h : HpG base s g cap L d q w) : HpG base s g cap L d (q + 1) (w.setCell ⟨s, 2, none⟩ (.int .i64 ((q : Int) + 1))) :=
  ⟨by rw [show hst g L.length cap d (q + 1) = (hst g L.length cap d q).set 2 (.int .i64 ((q : Int) + 1)) from rfl]; exact h.st.set 2 _ (by simp [hst]), h.row.same (Below.heap_setCell _ _ _ _ h.ne) (by simp), h.ne, h.bs, h.bg, h.cap⟩
theorem HpG.put {base s g cap : Nat} {L : List Int} {d q : Nat} {w : World} (h : HpG base s g cap L d q w) (k : Nat) (x : Int) (hk : k < L.length) : HpG base s g cap (L.set k x) d q (w.setCell ⟨g, k, none⟩ (.int .i64 x)) :=
  ⟨by rw [List.length_set]; exact h.st.same (Below.heap_setCell _ _ _ _ (fun e => h.ne e.symm)) (by simp), by rw [← ints_set]; exact h.row.set k _ (by rw [ints_length]; exact hk), h.ne, h.bs, h.bg, by rw [List.length_set]; exact h.cap⟩
theorem HpG.at {base s g cap : Nat} {L : List Int} {d q : Nat} {w : World} (h : HpG base s g cap L d q w) {k : Nat} (hk : k < L.length) : w.cell? ⟨g, k, none⟩ = some (.int .i64 (L.getD k 0)) ∧ w.frozen? ⟨g, k, none⟩ = false := h.row.2 k _ (ints_at (at_getD hk))
/-- What a step on the heap leaves. -/
def HpP (base s g cap d : Nat) (R : St2) (w w' : World) : Prop := HpG base s g cap R.1 d R.2 w' ∧ But2 s g w w'

set_option maxRecDepth 100000 in
set_option maxHeartbeats 4000000 in
theorem hswap_any {base s g cap : Nat} {L : List Int} {d q : Nat} (i k : Nat) (w : World) (h : HpG base s g cap L d q w) (hq : q ≤ 1048576) (hi : i < L.length) (hk : k < L.length) (hne : i ≠ k) :
    Calls Try.prog 157 #[.pointer (some ⟨s, 0, none⟩), .int .i64 (i : Int), .int .i64 (k : Int)] w fun e w' => e = .returned (.tuple #[]) ∧ HpP base s g cap d (swapped L i k, q + 1) w w' := by
  obtain ⟨x, hx⟩ : ∃ x, x = L.getD i 0 := ⟨_, rfl⟩
  obtain ⟨y, hy⟩ : ∃ y, y = L.getD k 0 := ⟨_, rfl⟩
  obtain ⟨_, _, h3, _, _, f3⟩ := h.c0
  have HM := Lib.hid h.swapd
  have HB : Hid (But2 s g w (w.setCell ⟨s, 2, none⟩ (.int .i64 ((q : Int) + 1)))) := Lib.hid ((But2.refl s g w).setCell s 2 _ (.inl rfl))
  have HX := Lib.hid hx
  have HY := Lib.hid hy
  have HNE := Lib.hid hne
  have hiz : (i : Int) < L.length := by omega
  have hkz : (k : Int) < L.length := by omega
  clear h hx hy hne
  go_enter Try.func157, Try.ntmps157
  go_wp2_with fail
  generalize w.setCell ⟨s, 2, none⟩ (.int .i64 ((q : Int) + 1)) = W at HM HB ⊢
  clear h3 f3
  obtain ⟨hs0, _⟩ := HM.out.c0
  obtain ⟨hcx, hfx⟩ := HM.out.at hi
  obtain ⟨hcy, hfy⟩ := HM.out.at hk
  rw [← HX.out] at hcx
  rw [← HY.out] at hcy
  have hne : ¬ i = k := HNE.out
  have hne2 : ¬ k = i := fun e => HNE.out e.symm
  have hsg : ¬ g = s := HM.out.ne
  have hsg2 : ¬ s = g := fun e => HM.out.ne e.symm
  have HRES : Hid (HpP base s g cap d (swapped L i k, q + 1) w ((W.setCell ⟨g, i, none⟩ (.int .i64 y)).setCell ⟨g, k, none⟩ (.int .i64 x)).drew) := Lib.hid (by
    have h1 := (HM.out.put i y hi).put k x (by rw [List.length_set]; exact hk)
    have e : (L.set i y).set k x = swapped L i k := by unfold swapped; rw [← HX.out, ← HY.out]
    rw [e] at h1
    exact ⟨h1.drewN 1, (((HB.out.setCell g i _ (.inr rfl)).setCell g k _ (.inr rfl))).drewN 1⟩)
  go_region
  go_wp2_with fail
  go_end0
  exact ⟨rfl, HRES.out⟩

end Go.Proofs.Ytipdfmedbcafpaa
end

section
/- The program's heap: a greatest child and the sifting down, by contracts. -/
namespace Go.Proofs.Ytipdfmedbcafpaa
open Go.RowKit P El Hp
set_option linter.unusedVariables false

set_option maxRecDepth 100000 in
set_option maxHeartbeats 4000000 in
theorem gcNo_any {s d : Nat} (i n : Nat) (w : World) (h : w.cell? ⟨s, 1, none⟩ = some (.int .i64 (d : Int))) (hd : d ≤ 8) (hi : i ≤ 64) (hn : n ≤ 64) (hc : ¬ d * i + 1 < n) :
    Calls Try.prog 166 #[.pointer (some ⟨s, 0, none⟩), .int .i64 (i : Int), .int .i64 (n : Int)] w fun e w' => e = .returned (.tuple #[.int .i64 0, .bool false]) ∧ Below w.heap.size w w' := by
  have hb : d * i ≤ 512 := Nat.le_trans (Nat.mul_le_mul hd hi) (by omega)
  obtain ⟨m, hm⟩ : ∃ m, m = d * i := ⟨_, rfl⟩
  have hw1 : IntKind.i64.wrap ((d : Int) * (i : Int)) = (m : Int) := by rw [← Int.natCast_mul, ← hm, IntKind.wrap_i64]; omega
  rw [← hm] at hc hb
  have hge : decide ((n : Int) ≤ (m : Int) + 1) = true := decide_eq_true (by omega)
  have hge2 : (n : Int) ≤ (m : Int) + 1 := by omega
  clear hm
  go_enter Try.func166, Try.ntmps166
  go_wp2_with fail
  go_ret2
  exact ⟨rfl, Below.refl _ _⟩

set_option maxRecDepth 100000 in
set_option maxHeartbeats 4000000 in
theorem gcYes_any {base s g cap d q : Nat} {L : List Int} (i n : Nat) (w : World) (h : HpG base s g cap L d q w) (hd : 2 ≤ d) (hd8 : d ≤ 8) (hi : i ≤ 64) (hn : n ≤ L.length) (hl : L.length ≤ 64) (hc : d * i + 1 < n) :
    Calls Try.prog 166 #[.pointer (some ⟨s, 0, none⟩), .int .i64 (i : Int), .int .i64 (n : Int)] w fun e w' => e = .returned (.tuple #[.int .i64 ((best L d n i : Nat) : Int), .bool true]) ∧ Below w.heap.size w w' := by
  have hb : d * i ≤ 512 := Nat.le_trans (Nat.mul_le_mul hd8 hi) (by omega)
  have hbest : gc L (min (d * i + 1 + d) n - (d * i + 2)) (d * i + 2) (d * i + 1) = best L d n i := rfl
  obtain ⟨m, hm⟩ : ∃ m, m = d * i := ⟨_, rfl⟩
  have hw1 : IntKind.i64.wrap ((d : Int) * (i : Int)) = (m : Int) := by rw [← Int.natCast_mul, ← hm, IntKind.wrap_i64]; omega
  rw [← hm] at hc hb hbest
  clear hm
  generalize best L d n i = R at hbest
  obtain ⟨f, hf⟩ : ∃ f, f = m + 1 := ⟨_, rfl⟩
  have hwf : IntKind.i64.wrap ((m : Int) + 1) = (f : Int) := by rw [IntKind.wrap_i64]; omega
  rw [← hf, show m + 2 = f + 1 by omega] at hbest
  have hfn : f < n := by omega
  have hge : decide ((n : Int) ≤ (f : Int)) = false := decide_eq_false (by omega)
  have hge2 : ¬ (n : Int) ≤ (f : Int) := by omega
  have hwf1 : IntKind.i64.wrap ((f : Int) + 1) = ((f + 1 : Nat) : Int) := by rw [IntKind.wrap_i64]; omega
  have hwfd : IntKind.i64.wrap ((f : Int) + (d : Int)) = ((f + d : Nat) : Int) := by rw [IntKind.wrap_i64]; omega
  have HBEST := Lib.hid hbest
  have H := Lib.hid h
  obtain ⟨hs0, hs1, _⟩ := h.c0
  have hfb : f ≤ 513 := by omega
  clear hf hb hc hbest h
  go_enter Try.func166, Try.ntmps166
  go_wp2_with fail
  go_loopw [9, 10] (fun bv kv wr => ∃ b k t : Nat, b < k ∧ k ≤ min (f + d) n ∧ bv = .int .i64 (b : Int) ∧ kv = .int .i64 (k : Int) ∧ gc L (min (f + d) n - k) k b = R ∧ wr = w.drewN t) (fun _ kv _ => 1000 - (intOf kv).toNat)
  case atStart => exact ⟨f, f + 1, 0, by omega, by omega, rfl, by first | rfl | go_num, HBEST.out, rfl⟩
  case round =>
    obtain ⟨b, k, t, hbk, hk, rfl, rfl, hr, rfl⟩ := hrel
    have HR := Lib.hid hr
    clear hr
    by_cases hlt : k < min (f + d) n
    · have h1 : k < f + d := by omega
      have h2 : k < n := by omega
      have HN : Hid (min (f + d) n - k = (min (f + d) n - (k + 1)) + 1) := Lib.hid (by omega)
      have HK : Hid (k + 1 ≤ min (f + d) n) := Lib.hid (by omega)
      obtain ⟨x, hx⟩ : ∃ x, x = L.getD k 0 := ⟨_, rfl⟩
      obtain ⟨y, hy⟩ : ∃ y, y = L.getD b 0 := ⟨_, rfl⟩
      obtain ⟨hcx, _⟩ := H.out.at (k := k) (by omega)
      obtain ⟨hcy, _⟩ := H.out.at (k := b) (by omega)
      rw [← hx] at hcx
      rw [← hy] at hcy
      have hkz : (k : Int) < L.length := by omega
      have hbz : (b : Int) < L.length := by omega
      have HX := Lib.hid hx
      have HY := Lib.hid hy
      clear hx hy hlt hk
      have hfe : f + d ≤ n ∨ n < f + d := by omega
      by_cases hgt : y < x
      · have hgd : decide (y < x) = true := decide_eq_true hgt
        have HE : Hid (gc L (min (f + d) n - (k + 1)) (k + 1) k = R) := Lib.hid (by rw [← HR.out, HN.out, gc_gt (by rw [← HX.out, ← HY.out]; exact hgt)])
        rcases hfe with hfe | hfe
        all_goals
          go_wp2_with fail
          go_quiet (fail)
          go_wp2_with fail
          go_roundw
          case rel => exact ⟨k, k + 1, t + nq, by omega, HK.out, rfl, by go_num, HE.out, by first | rfl | trivial⟩
          case measure => simp [intOf]; omega
      · have hgd : decide (y < x) = false := decide_eq_false hgt
        have HE : Hid (gc L (min (f + d) n - (k + 1)) (k + 1) b = R) := Lib.hid (by rw [← HR.out, HN.out, gc_le (by rw [← HX.out, ← HY.out]; exact hgt)])
        rcases hfe with hfe | hfe
        all_goals
          go_wp2_with fail
          go_quiet (fail)
          go_wp2_with fail
          go_roundw
          case rel => exact ⟨b, k + 1, t + nq, by omega, HK.out, rfl, by go_num, HE.out, by first | rfl | trivial⟩
          case measure => simp [intOf]; omega
    · have HE : Hid ((b : Int) = (R : Int)) := Lib.hid (by
        have h := HR.out
        rw [show min (f + d) n - k = 0 by omega] at h
        have h2 : b = R := h
        rw [h2])
      have HB : Hid (Below w.heap.size w (w.drewN t)) := Lib.hid ⟨rfl, rfl, rfl, Nat.le_refl _, fun _ _ => rfl⟩
      have h1 : k = f + d ∧ f + d ≤ n ∨ k = n ∧ n < f + d := by omega
      clear hlt hk
      rcases h1 with ⟨hke, hfe⟩ | ⟨hke, hfe⟩
      · have h1 : ¬ (k : Int) < (f : Int) + (d : Int) := by omega
        have hd1 : decide ((k : Int) < (f : Int) + (d : Int)) = false := decide_eq_false h1
        clear hke
        go_wp2_with fail
        go_ret2
        exact ⟨by rw [← HE.out]; rfl, HB.out⟩
      · have h1 : ¬ (k : Int) < (n : Int) := by omega
        have hd1 : decide ((k : Int) < (n : Int)) = false := decide_eq_false h1
        clear hke
        go_wp2_with fail
        go_ret2
        exact ⟨by rw [← HE.out]; rfl, HB.out⟩

/-- Nothing to sift. -/
theorem sdNo_any {s d : Nat} (i n : Nat) (w : World) (h : w.cell? ⟨s, 1, none⟩ = some (.int .i64 (d : Int))) (hd : d ≤ 8) (hi : i ≤ 64) (hn : n ≤ 64) (hc : ¬ d * i + 1 < n) :
    Calls Try.prog 158 #[.pointer (some ⟨s, 0, none⟩), .int .i64 (i : Int), .int .i64 (n : Int)] w fun e w' => e = .returned (.tuple #[]) ∧ Below w.heap.size w w' := by
  have HG := Lib.hid (gcNo_any i n w h hd hi hn hc)
  clear hc
  go_enter Try.func158, Try.ntmps158
  go_wp2_with fail
  go_loopw [1, 6, 7, 8] (fun iv _ _ _ wr => iv = .int .i64 (i : Int) ∧ wr = w) (fun _ _ _ _ _ => 0)
  case atStart => exact ⟨rfl, rfl⟩
  case round =>
    obtain ⟨rfl, rfl⟩ := hrel
    go_wp2_with fail
    refine HG.out.mono ?_
    rintro e w1 ⟨rfl, hb⟩
    have HB := Lib.hid hb
    clear hb
    go_wp2_with fail
    go_quiet (fail)
    go_wp2_with fail
    refine bodyPost_ret (results_none rfl _ _ _) rfl ?_
    exact ⟨rfl, HB.out.trans ⟨rfl, rfl, rfl, Nat.le_refl _, fun _ _ => rfl⟩⟩

set_option maxRecDepth 100000 in
set_option maxHeartbeats 4000000 in
theorem sd_any {base s g cap d q : Nat} {L : List Int} (i n : Nat) (w : World) (h : HpG base s g cap L d q w) (hd : 2 ≤ d) (hd8 : d ≤ 8) (hi : i ≤ L.length) (hn : n ≤ L.length) (hl : L.length ≤ 64) (hq : q ≤ 100000) :
    Calls Try.prog 158 #[.pointer (some ⟨s, 0, none⟩), .int .i64 (i : Int), .int .i64 (n : Int)] w fun e w' => e = .returned (.tuple #[]) ∧ HpP base s g cap d (down d n i (L, q)) w w' := by
  obtain ⟨R, hR⟩ : ∃ R, R = down d n i (L, q) := ⟨_, rfl⟩
  have hRq : R.2 ≤ 101000 := by have := (down_count (d := d) (n := n) (i := i) (by omega) (L, q)).2; rw [← hR] at this; simp only at this; omega
  have H := Lib.hid h
  have HR := Lib.hid hR.symm
  have HNO := Lib.hid (fun j W (hc : W.cell? ⟨s, 1, none⟩ = some (.int .i64 (d : Int))) (hj : j ≤ 64) (hc2 : ¬ d * j + 1 < n) => gcNo_any j n W hc hd8 hj (by omega) hc2)
  rw [← hR]
  clear h hR
  go_enter Try.func158, Try.ntmps158
  go_wp2_with fail
  go_loopw [1, 6, 7, 8] (fun iv _ _ _ wr => ∃ (j : Nat) (M : List Int) (p : Nat), iv = .int .i64 (j : Int) ∧ down d n j (M, p) = R ∧ M.length = L.length ∧ j ≤ L.length ∧ HpG base s g cap M d p wr ∧ But2 s g w wr) (fun iv _ _ _ _ => L.length - (intOf iv).toNat)
  case atStart => exact ⟨i, L, q, rfl, HR.out, rfl, hi, H.out, But2.refl _ _ _⟩
  case round =>
    obtain ⟨j, M, p, rfl, hr, hML, hj, hg, hb⟩ := hrel
    have HG := Lib.hid hg
    have HB := Lib.hid hb
    have HRR := Lib.hid hr
    have hp : p ≤ 101000 := by have := (down_count (d := d) (n := n) (i := j) (by omega) (M, p)).1; rw [hr] at this; simp only at this; omega
    have HML := Lib.hid hML
    have hj64 : j ≤ 64 := by omega
    have hn64 : n ≤ 64 := by omega
    have HMN : Hid (n ≤ M.length) := Lib.hid (by omega)
    have HM64 : Hid (M.length ≤ 64) := Lib.hid (by omega)
    clear hr hg hb H HR hML hi
    by_cases hc : d * j + 1 < n
    · have HGC := Lib.hid (gcYes_any j n wr HG.out hd hd8 hj64 HMN.out HM64.out hc)
      obtain ⟨b1, b2, b3, b4⟩ := best_spec M (by omega) hc
      obtain ⟨b5, b6⟩ := best_par M (by omega) hc
      have HGO := Lib.hid (fun (hx : M.getD j 0 < M.getD (best M d n j) 0) => (down_go (S := (M, p)) (by omega) ⟨hc, hx⟩).symm.trans HRR.out)
      have HST := Lib.hid (fun (hx : ¬ M.getD j 0 < M.getD (best M d n j) 0) => (down_stop (S := (M, p)) (fun hh => hx hh.2)).symm.trans HRR.out)
      generalize best M d n j = b at *
      obtain ⟨x, hx⟩ : ∃ x, x = M.getD b 0 := ⟨_, rfl⟩
      obtain ⟨y, hy⟩ : ∃ y, y = M.getD j 0 := ⟨_, rfl⟩
      rw [← hx, ← hy] at HGO HST
      have HX := Lib.hid hx
      have HY := Lib.hid hy
      have hbL : b < L.length := by omega
      have hjb : j < b := b6
      clear hx hy b1 b2 b3 b4 b5 b6 hc HNO
      go_wp2_with fail
      refine HGC.out.mono ?_
      rintro e w1 ⟨rfl, hb1⟩
      have HG1 := Lib.hid (HG.out.below hb1)
      have HB1 : Hid (But2 s g w w1) := Lib.hid (HB.out.trans (But2.ofBelow hb1 (Nat.le_refl _)))
      clear hb1 HG HB HGC
      obtain ⟨hs0, _⟩ := HG1.out.c0
      obtain ⟨hcx, _⟩ := HG1.out.at (k := b) (by rw [HML.out]; omega)
      obtain ⟨hcy, _⟩ := HG1.out.at (k := j) (by rw [HML.out]; omega)
      rw [← HX.out] at hcx
      rw [← HY.out] at hcy
      rw [HML.out] at hs0
      have hbz : (b : Int) < L.length := by omega
      have hjz : (j : Int) < L.length := by omega
      by_cases hlt : y < x
      · have hle : decide (x ≤ y) = false := decide_eq_false (by omega)
        have hlz : ¬ x ≤ y := by omega
        have HS := Lib.hid (fun (W : World) (hW : HpG base s g cap M d p W) => hswap_any j b W hW (by omega) (by rw [HML.out]; omega) (by rw [HML.out]; exact hbL) (by omega))
        have HE := Lib.hid (HGO.out (by omega))
        have HSL : Hid ((swapped M j b).length = L.length) := Lib.hid (by rw [swapped_length]; exact HML.out)
        clear HGO HST
        go_wp2_with fail
        go_quiet (fail)
        go_wp2_with fail
        refine (HS.out _ (HG1.out.drewN _)).mono ?_
        rintro e w2 ⟨rfl, hg2, hb2⟩
        have HG2 := Lib.hid hg2
        have HB2 : Hid (But2 s g w w2) := Lib.hid ((HB1.out.drewN _).trans hb2)
        clear hg2 hb2
        go_wp2_with fail
        go_roundw
        case rel => exact ⟨b, swapped M j b, p + 1, rfl, HE.out, HSL.out, by omega, HG2.out, HB2.out⟩
        case measure => simp [intOf]; omega
      · have hle : decide (x ≤ y) = true := decide_eq_true (by omega)
        have hlz : x ≤ y := by omega
        have HE := Lib.hid (HST.out (by omega))
        clear HGO HST
        have HRES : Hid (∀ t, HpP base s g cap d R w (w1.drewN t)) := Lib.hid (fun t => by
          rw [← HE.out]; exact ⟨HG1.out.drewN t, HB1.out.drewN t⟩)
        go_wp2_with fail
        go_quiet (fail)
        go_wp2_with fail
        refine bodyPost_ret (results_none rfl _ _ _) rfl ?_
        exact ⟨rfl, HRES.out _⟩
    · have HE : Hid ((M, p) = R) := Lib.hid ((down_stop (S := (M, p)) (fun hh => hc hh.1)).symm.trans HRR.out)
      have HG0 := Lib.hid (HNO.out j wr HG.out.c0.2.1 hj64 hc)
      clear hc HNO
      go_wp2_with fail
      refine HG0.out.mono ?_
      rintro e w1 ⟨rfl, hb1⟩
      have HRES : Hid (∀ t, HpP base s g cap d R w (w1.drewN t)) := Lib.hid (fun t => by
        rw [← HE.out]; exact ⟨(HG.out.below hb1).drewN t, (HB.out.trans (But2.ofBelow hb1 (Nat.le_refl _))).drewN t⟩)
      clear hb1 HG0
      go_wp2_with fail
      go_quiet (fail)
      go_wp2_with fail
      refine bodyPost_ret (results_none rfl _ _ _) rfl ?_
      exact ⟨rfl, HRES.out _⟩

end Go.Proofs.Ytipdfmedbcafpaa
end

section
/- The program's heap: the parent, the sifting up, the building, by contracts. -/
namespace Go.Proofs.Ytipdfmedbcafpaa
open Go.RowKit P El Hp
set_option linter.unusedVariables false

theorem parX_any (x r : Int) (d : Nat) (w : World) (hx : -1 ≤ x) (hx2 : x ≤ 64) (hd : 2 ≤ d) (hd8 : d ≤ 8) (hr : r = (x - 1).tdiv (d : Int)) (hr1 : -1 ≤ r) (hr2 : r ≤ 64) :
    Calls Try.prog 165 #[.int .i64 x, .int .i64 (d : Int)] w fun e w' => e = .returned (.int .i64 r) ∧ w' = w := by
  have hw : IntKind.i64.wrap ((x - 1).tdiv (d : Int)) = r := by rw [← hr, IntKind.wrap_i64]; omega
  by_cases h1 : 1 ≤ x
  · have hw2 : IntKind.i64.wrap ((x - 1) / (d : Int)) = r := by rw [← hw, Int.tdiv_eq_ediv_of_nonneg (by omega)]
    clear hr
    go_enter Try.func165, Try.ntmps165
    go_wp2
    go_ret
    exact ⟨rfl, rfl⟩
  · clear hr
    go_enter Try.func165, Try.ntmps165
    go_wp2
    go_ret
    exact ⟨rfl, rfl⟩
theorem parent_any (i d : Nat) (w : World) (hi : i ≤ 64) (hd : 2 ≤ d) (hd8 : d ≤ 8) :
    Calls Try.prog 165 #[.int .i64 (i : Int), .int .i64 (d : Int)] w fun e w' => e = .returned (.int .i64 ((par d i : Nat) : Int)) ∧ w' = w := by
  have h1 : ((par d i : Nat) : Int) = ((i : Int) - 1).tdiv (d : Int) := by
    by_cases h : i = 0
    · subst h
      have : d = 2 ∨ d = 3 ∨ d = 4 ∨ d = 5 ∨ d = 6 ∨ d = 7 ∨ d = 8 := by omega
      rcases this with rfl | rfl | rfl | rfl | rfl | rfl | rfl <;> decide
    · rw [show (i : Int) - 1 = ((i - 1 : Nat) : Int) by omega]; rfl
  have h2 : par d i ≤ 64 := by unfold par; have := Nat.div_le_self (i - 1) d; omega
  exact parX_any _ _ d w (by omega) (by omega) hd hd8 h1 (by omega) (by omega)

/-- Building, of nothing. -/
theorem bdNo_any {s d : Nat} {a : Option Addr} {c : Nat} (w : World) (h0 : w.cell? ⟨s, 0, none⟩ = some (.slice a 0 c)) (hs : s < w.heap.size) (h : w.cell? ⟨s, 1, none⟩ = some (.int .i64 (d : Int))) (hd : 2 ≤ d) (hd8 : d ≤ 8) :
    Calls Try.prog 156 #[.pointer (some ⟨s, 0, none⟩)] w fun e w' => e = .returned (.tuple #[]) ∧ Below w.heap.size w w' := by
  obtain ⟨r, hr⟩ : ∃ r, r = ((-1 : Int) - 1).tdiv (d : Int) := ⟨_, rfl⟩
  have hr2 : r = -1 ∨ r = 0 := by
    rw [hr]
    have : d = 2 ∨ d = 3 ∨ d = 4 ∨ d = 5 ∨ d = 6 ∨ d = 7 ∨ d = 8 := by omega
    rcases this with rfl | rfl | rfl | rfl | rfl | rfl | rfl <;> decide
  have HPB := Lib.hid (fun W => parX_any (-1) r d W (by omega) (by omega) hd hd8 hr (by omega) (by omega))
  have HSD := Lib.hid (fun W (hW : W.cell? ⟨s, 1, none⟩ = some (.int .i64 (d : Int))) => sdNo_any 0 0 W hW hd8 (by omega) (by omega) (by omega))
  have HSS := Lib.hid hs
  have H1 := Lib.hid h
  have hq1 : decide (r = -1) = decide (r = -1) := rfl
  clear hr hq1 hs
  go_enter Try.func156, Try.ntmps156
  go_wp2_with fail
  go_quiet ((go_at_call 165; exact Calls.quiet_of_same (HPB.out _)))
  go_wp2_with fail
  go_loopw [2] (fun iv wr => (iv = .int .i64 r ∨ iv = .int .i64 (-1)) ∧ Below w.heap.size w wr) (fun iv _ => (intOf iv + 1).toNat)
  case atStart => exact ⟨.inl rfl, ⟨rfl, rfl, rfl, Nat.le_refl _, fun _ _ => rfl⟩⟩
  case round =>
    obtain ⟨hiv, hb⟩ := hrel
    have HB := Lib.hid hb
    have hiv2 : u2 = .int .i64 (-1) ∨ u2 = .int .i64 0 := by
      rcases hiv with e | e
      · rcases hr2 with e2 | e2 <;> rw [e2] at e <;> simp [e]
      · exact .inl e
    clear hb hiv hr2
    rcases hiv2 with rfl | rfl
    · go_wp2_with fail
      go_end0
      exact ⟨rfl, HB.out⟩
    · have hc0 := (HB.out.cell (p := ⟨s, 0, none⟩) HSS.out).trans h0
      have HC1 := Lib.hid ((HB.out.cell (p := ⟨s, 1, none⟩) HSS.out).trans H1.out)
      clear h h0
      go_wp2_with fail
      refine (HSD.out _ HC1.out).mono ?_
      rintro e w2 ⟨rfl, hb2⟩
      have HB2 : Hid (Below w.heap.size w w2) := Lib.hid (HB.out.trans (hb2.mono HB.out.size))
      clear hb2
      go_wp2_with fail
      go_roundw
      case rel => exact ⟨.inr rfl, HB2.out⟩
      case measure => simp [intOf]

set_option maxRecDepth 100000 in
set_option maxHeartbeats 4000000 in
theorem bd_any {base s g cap d q : Nat} {L : List Int} (w : World) (h : HpG base s g cap L d q w) (hd : 2 ≤ d) (hd8 : d ≤ 8) (h0 : 0 < L.length) (hl : L.length ≤ 64) (hq : q ≤ 1000) :
    Calls Try.prog 156 #[.pointer (some ⟨s, 0, none⟩)] w fun e w' => e = .returned (.tuple #[]) ∧ HpP base s g cap d (bl d L.length L.length (L, q)) w w' := by
  obtain ⟨n, hn⟩ : ∃ n, n = L.length := ⟨_, rfl⟩
  obtain ⟨pm, hpm⟩ : ∃ pm, pm = par d (n - 1) := ⟨_, rfl⟩
  have hpmn : pm < n := by
    rw [hpm]; unfold par; have := Nat.div_le_self (n - 1 - 1) d; omega
  have hst : bl d n n (L, q) = bl d n (pm + 1) (L, q) := by
    obtain ⟨k, hk⟩ : ∃ k, n = pm + 1 + k := ⟨n - (pm + 1), by omega⟩
    have := bl_skip (d := d) (n := n) (m := pm + 1) (L, q) k (fun i h1 h2 h3 => by
      have h4 := (par_iff (d := d) (i := n - 1) (j := pm) (by omega) (by have := le_mul (d := d) (j := i) (by omega); omega)).1 hpm.symm
      have h5 : d * (pm + 1) ≤ d * i := Nat.mul_le_mul_left d h1
      rw [Nat.mul_add] at h5; omega)
    rw [← this, ← hk]
  rw [← hn, hst]
  obtain ⟨R, hR⟩ : ∃ R, R = bl d n (pm + 1) (L, q) := ⟨_, rfl⟩
  have hRq : R.2 ≤ 6000 := by
    have h1 := (bl_count (d := d) (n := n) (by omega) (pm + 1) (L, q)).2
    have h2 : (pm + 1) * n ≤ 64 * 64 := Nat.mul_le_mul (by omega) (by omega)
    rw [← hR] at h1; simp only at h1; omega
  have H := Lib.hid h
  have HR := Lib.hid hR.symm
  have HPA := Lib.hid (fun W => parent_any (n - 1) d W (by omega) hd hd8)
  have HSD := Lib.hid (fun (j : Nat) (M : List Int) (p : Nat) (W : World) (hW : HpG base s g cap M d p W) (hj : j ≤ n) (hM : M.length = n) (hp : p ≤ 6000) => sd_any j n W hW hd hd8 (by omega) (by omega) (by omega) (by omega))
  obtain ⟨hs0, hs1, _⟩ := h.c0
  have HN := Lib.hid hn
  rw [← hn] at hs0 hl h0
  rw [← hR]
  have hwn : IntKind.i64.wrap ((n : Int) - 1) = ((n - 1 : Nat) : Int) := by rw [IntKind.wrap_i64]; omega
  have hne1 : (n : Int) - 1 = ((n - 1 : Nat) : Int) := by omega
  rw [← hpm] at HPA
  have HPB : Hid (∀ W, Calls Try.prog 165 #[.int .i64 ((n : Int) - 1), .int .i64 (d : Int)] W fun e w' => e = .returned (.int .i64 (pm : Int)) ∧ w' = W) := Lib.hid (fun W => by rw [hne1]; exact HPA.out W)
  clear h hR hst hpm hn hne1 hwn HPA
  go_enter Try.func156, Try.ntmps156
  go_wp2_with fail
  go_quiet ((go_at_call 165; exact Calls.quiet_of_same (HPB.out _)))
  go_wp2_with fail
  go_loopw [2] (fun iv wr => ∃ (m : Nat) (M : List Int) (p : Nat), iv = .int .i64 ((m : Int) - 1) ∧ bl d n m (M, p) = R ∧ M.length = n ∧ m ≤ n ∧ HpG base s g cap M d p wr ∧ But2 s g w wr) (fun iv _ => (intOf iv + 1).toNat)
  case atStart => exact ⟨pm + 1, L, q, by go_num, HR.out, HN.out.symm, by omega, H.out.drewN _, (But2.refl _ _ _).drewN _⟩
  case round =>
    obtain ⟨m, M, p, rfl, hr, hML, hm, hg, hb⟩ := hrel
    have HG := Lib.hid hg
    have HB := Lib.hid hb
    have HML := Lib.hid hML
    have hp : p ≤ 6000 := by have := (bl_count (d := d) (n := n) (by omega) m (M, p)).1; rw [hr] at this; simp only at this; omega
    obtain ⟨hs0, _⟩ := HG.out.c0
    rw [hML] at hs0
    have HRR := Lib.hid hr
    clear hr hg hb H HR hML
    cases m with
    | zero =>
      have HRES : Hid (HpP base s g cap d R w wr) := Lib.hid (by rw [← HRR.out]; exact ⟨HG.out, HB.out⟩)
      go_wp2_with fail
      go_end0
      exact ⟨rfl, HRES.out⟩
    | succ j =>
      have hj : ((j + 1 : Nat) : Int) - 1 = (j : Int) := by omega
      rw [hj]
      have HD := Lib.hid (HSD.out j M p wr HG.out (by omega) HML.out hp)
      have HLN : Hid ((down d n j (M, p)).1.length = n) := Lib.hid (by rw [down_length (by omega)]; exact HML.out)
      have HRR2 : Hid (bl d n j ((down d n j (M, p)).1, (down d n j (M, p)).2) = R) := Lib.hid HRR.out
      clear HSD hj
      go_wp2_with fail
      refine HD.out.mono ?_
      rintro e w2 ⟨rfl, hg2, hb2⟩
      have HG2 := Lib.hid hg2
      have HB2 : Hid (But2 s g w w2) := Lib.hid (HB.out.trans hb2)
      clear hg2 hb2
      go_wp2_with fail
      go_roundw
      case rel => exact ⟨j, _, _, by go_num, HRR2.out, HLN.out, by omega, HG2.out, HB2.out⟩
      case measure => simp [intOf]

end Go.Proofs.Ytipdfmedbcafpaa
end

section
/- slices.Concat of lists of numbers, by its contract. -/
namespace Go.Proofs.Ytipdfmedbcafpaa
open Go.RowKit
set_option linter.unusedVariables false

attribute [local go_sem ↓ high] builtin_append_held

/-- One of the lists: nil, or at an address. -/
structure Part where
  a : Option Addr
  c : Nat
  l : List Int
def Part.val (p : Part) : Value := .slice p.a p.l.length p.c
def Part.ok (p : Part) (w : World) : Prop := FlatAt w p.val p.l.length (ints p.l) ∧ (p.a = none → p.c = 0)
theorem Part.ok.below {p : Part} {w w' : World} (h : p.ok w) (hb : Below w.heap.size w w') : p.ok w' := ⟨h.1.below hb, h.2⟩
def joined (Ps : List Part) : List Int := Ps.flatMap Part.l
theorem joined_take {Ps : List Part} {k : Nat} {p : Part} (h : Ps[k]? = some p) : joined (Ps.take (k + 1)) = joined (Ps.take k) ++ p.l := by
  unfold joined; rw [List.take_add_one, h]; simp
theorem joined_le (Ps : List Part) (k : Nat) : (joined (Ps.take k)).length ≤ (joined Ps).length := by
  have : joined Ps = joined (Ps.take k) ++ joined (Ps.drop k) := by unfold joined; rw [← List.flatMap_append, List.take_append_drop]
  rw [this, List.length_append]; omega

/-- 'append(l, part...)', l maybe nil. -/
theorem appendNP (base : Nat) (v : Value) (L : List Int) (p : Part) (w : World) (h : OwnN base w v L) (hb : base ≤ w.heap.size) (hn : L.length + p.l.length ≤ 2097152) (hp : p.ok w) :
    ∃ v' w', (heldAppend #[26, 26] 26 #[v, .slice p.a p.l.length p.c]).run Try.prog w = .ok v' w' ∧ OwnN base w' v' (L ++ p.l) ∧ Below base w w' := by
  obtain ⟨i0, hi, hz0, hz1, hz2⟩ := info_parts infoIntH
  obtain ⟨a, c, l⟩ := p
  obtain ⟨⟨a', c', e, hc, hl⟩, hz⟩ := hp
  unfold Part.val at e
  simp at e hl hz hn ⊢
  obtain ⟨rfl, rfl⟩ := e
  cases a with
  | none =>
    have hl0 : l = [] := by
      cases l with
      | nil => rfl
      | cons x l => have := hl 0 _ (ints_at (l := x :: l) (k := 0) rfl); simp at this
    subst hl0
    rw [hz rfl]
    refine ⟨v, w, run_append_owned_none (P := Try.prog) (w := w) base 26 26 3 i0 1 Try.underlying26 hi v L.length (ints L) h, by rw [List.append_nil]; exact h, Below.refl _ _⟩
  | some ad =>
    obtain ⟨v', w', hrun, hown, hgrow, hnil⟩ := run_append_own (P := Try.prog) (w := w) base 26 26 3 i0 (.int .i64 0) 1 8 Try.underlying26 hi hz0 hz1 hz2 rfl (by decide)
      v L.length (ints L) h ad l.length c (ints l) (by rw [ints_length, Nat.mul_one]) (fun j u hu => by
        obtain ⟨b, o, e1, _, hcell⟩ := hl j u hu
        simp at e1
        subst e1
        have e : (⟨b, o, none⟩ : Addr).add j = ⟨b, o + j, none⟩ := by
          unfold Addr.add; split
          · rename_i h; subst h; rfl
          · rfl
        rw [e]; exact hcell) (ints_one l) (by unfold maxLen; omega) (by omega) (by omega)
    rw [← ints_append L l, ← show (L ++ l).length = L.length + l.length by simp] at hown
    exact ⟨v', w', hrun, hown, (Below.refl base w).grown hgrow (by omega) (fun j e => (h.lt j e).1)⟩

set_option maxRecDepth 100000 in
set_option maxHeartbeats 4000000 in
theorem growI_any (n : Nat) (hn : n ≤ 2097152) (w : World) :
    Calls Try.prog 139 #[.slice none 0 0, .int .i64 (n : Int)] w fun e w' => ∃ v, e = .returned v ∧ OwnN w.heap.size w' v [] ∧ Below w.heap.size w w' := by
  by_cases h0 : n = 0
  · subst h0
    have HRES : Hid (∀ m, ∃ v, Ending.returned (.slice none 0 0) = .returned v ∧ OwnN w.heap.size (w.drewN m) v [] ∧ Below w.heap.size w (w.drewN m)) := Lib.hid (fun m => ⟨_, rfl, OwnN.nil _ _, ⟨rfl, rfl, rfl, Nat.le_refl _, fun _ _ => rfl⟩⟩)
    go_enter Try.func139, Try.ntmps139
    go_wp2_with fail
    go_ret
    exact HRES.out 0
  · obtain ⟨i0, hi, hz0, hz1, hz2⟩ := info_parts infoIntH
    have hrun := Lib.run_append_nil_zeros (P := Try.prog) w 26 3 26 3 i0 (.int .i64 0) .i64 .i64 Try.underlying26 Try.underlying3 hi hz0 n (by omega) (by omega) (by omega) (by rw [hz2]; omega)
    have hrun2 : (heldAppend #[26, 3] 26 #[.slice none 0 0, .int .i64 (n : Int)]).run Try.prog w = _ := hrun
    have hc1 := grownCap_ge w n 0 3
    have hc2 := grownCap_le_maxLen w n 0 3 (by unfold maxLen; omega)
    generalize hcap : grownCap w n 0 3 = cap at hrun2 hc1 hc2
    have HSZ : (Builtin.zeroCells (Value.int IntKind.i64 0).cells n ++ Builtin.zeroCells (Value.int IntKind.i64 0).cells (cap - n)).size = cap * 1 := by
      rw [Array.size_append, size_zeroCells, size_zeroCells, show (Value.int IntKind.i64 0).cells.size = 1 from rfl]; omega
    generalize hO : (Builtin.zeroCells (Value.int IntKind.i64 0).cells n ++ Builtin.zeroCells (Value.int IntKind.i64 0).cells (cap - n)) = O at hrun2 HSZ
    have HRES : Hid (∃ v, Ending.returned (.slice (some ⟨w.heap.size, 0, none⟩) 0 cap) = .returned v ∧ OwnN w.heap.size (w.drew.alloc (.cells O 3)) v [] ∧ Below w.heap.size w (w.drew.alloc (.cells O 3))) := Lib.hid ⟨_, rfl,
      ⟨rfl, .inr ⟨w.heap.size, cap, O, rfl, Nat.le_refl _, by simpa using heap_alloc_new w.drew (.cells O 3), Nat.zero_le _, hc2, HSZ, by simp [ints]⟩⟩,
      ((Below.refl _ w).drew).alloc (Nat.le_refl _) _⟩
    clear hcap hO HSZ hc1 hc2
    have hn1 : decide ((0 : Int) < (n : Int)) = true := decide_eq_true (by omega)
    have hn2 : (0 : Int) < (n : Int) := by omega
    have hn3 : 0 < n := by omega
    have hnn : ¬ ((n : Int) < 0) := by omega
    clear hrun hi hz0 hz1 hz2 h0
    go_enter Try.func139, Try.ntmps139
    go_wp2_with fail
    go_ret
    exact HRES.out

set_option maxRecDepth 100000 in
set_option maxHeartbeats 4000000 in
theorem concatI_any (pb pc : Nat) (Ps : List Part) (w : World) (hp : ∀ (j : Nat) p, Ps[j]? = some p → w.cell? ⟨pb, j, none⟩ = some p.val ∧ pb < w.heap.size ∧ p.ok w) (hn : (joined Ps).length ≤ 1048576) (hk : Ps.length ≤ 1048576) :
    Calls Try.prog 103 #[.slice (some ⟨pb, 0, none⟩) Ps.length pc] w fun e w' => ∃ v, e = .returned v ∧ OwnN w.heap.size w' v (joined Ps) ∧ Below w.heap.size w w' := by
  have HP := Lib.hid hp
  have HG := Lib.hid (fun W => growI_any (joined Ps).length (by omega) W)
  have HLE := Lib.hid (joined_le Ps)
  clear hp
  go_enter Try.func103, Try.ntmps103
  go_wp2_with fail
  go_loopw [3, 5, 11] (fun sv _ iv wr => ∃ k m : Nat, k ≤ Ps.length ∧ sv = .int .i64 ((joined (Ps.take k)).length : Int) ∧ iv = .int .i64 (k : Int) ∧ wr = w.drewN m) (fun _ _ iv _ => Ps.length - (intOf iv).toNat)
  case atStart => exact ⟨0, 0, Nat.zero_le _, rfl, rfl, rfl⟩
  case round =>
    obtain ⟨k, m, hkl, rfl, rfl, rfl⟩ := hrel
    by_cases hlt : k < Ps.length
    · obtain ⟨p, hp⟩ : ∃ p, Ps[k]? = some p := ⟨_, List.getElem?_eq_getElem hlt⟩
      obtain ⟨hc, _, _⟩ := HP.out k p hp
      have hc' : (w.drewN m).cell? ⟨pb, k, none⟩ = some (.slice p.a p.l.length p.c) := hc
      obtain ⟨s, hs⟩ : ∃ s, s = (joined (Ps.take k)).length := ⟨_, rfl⟩
      have hadd : (joined (Ps.take (k + 1))).length = s + p.l.length := by rw [joined_take hp, List.length_append, hs]
      have hsle : s + p.l.length ≤ 1048576 := by have := HLE.out (k + 1); omega
      rw [← hs]
      have HA := Lib.hid hadd
      have hneg : ¬ ((s : Int) + p.l.length < 0) := by omega
      clear hc hs hadd hp
      go_wp2_with fail
      go_roundw
      case rel => exact ⟨k + 1, m, by omega, by rw [HA.out]; go_num, by go_num, by first | rfl | trivial⟩
      case measure => simp [intOf]; omega
    · obtain rfl : k = Ps.length := by omega
      rw [List.take_length]
      clear hlt
      go_wp2_with fail
      refine (HG.out _).mono ?_
      rintro e w2 ⟨v0, rfl, ho0, hb0⟩
      have HO0 := Lib.hid ho0
      have HB0 : Hid (Below w.heap.size w w2) := Lib.hid ((⟨rfl, rfl, rfl, Nat.le_refl _, fun _ _ => rfl⟩ : Below w.heap.size w (w.drewN m)).trans hb0)
      clear ho0 hb0 HG
      go_wp2_with fail
      go_loopw [6, 8, 27] (fun sv _ iv wr => ∃ k : Nat, k ≤ Ps.length ∧ iv = .int .i64 (k : Int) ∧ OwnN w.heap.size wr sv (joined (Ps.take k)) ∧ Below w.heap.size w wr) (fun _ _ iv _ => Ps.length - (intOf iv).toNat)
      case atStart => exact ⟨0, Nat.zero_le _, rfl, HO0.out, HB0.out⟩
      case round =>
        obtain ⟨k, hkl, rfl, ho, hb⟩ := hrel
        have HO := Lib.hid ho
        have HB := Lib.hid hb
        clear ho hb HO0 HB0
        by_cases hlt : k < Ps.length
        · obtain ⟨p, hp⟩ : ∃ p, Ps[k]? = some p := ⟨_, List.getElem?_eq_getElem hlt⟩
          obtain ⟨hc, hpb, hf⟩ := HP.out k p hp
          have hc' : wr.cell? ⟨pb, k, none⟩ = some (.slice p.a p.l.length p.c) := (HB.out.cell (p := ⟨pb, k, none⟩) hpb).trans hc
          obtain ⟨v', w', hrun, ho', hb'⟩ := appendNP w.heap.size _ _ p wr HO.out HB.out.size (by rw [← List.length_append, ← joined_take hp]; have := HLE.out (k + 1); omega) (hf.below HB.out)
          rw [← joined_take hp] at ho'
          have HO' := Lib.hid ho'
          have HB' := Lib.hid (HB.out.trans hb')
          clear hc hpb hf ho' hb' hp HO HB
          go_wp2_with fail
          go_roundw
          case rel => exact ⟨k + 1, by omega, by go_num, HO'.out, HB'.out⟩
          case measure => simp [intOf]; omega
        · obtain rfl : k = Ps.length := by omega
          have HRES : Hid (OwnN w.heap.size wr _ (joined Ps)) := Lib.hid (by have h := HO.out; rw [List.take_length] at h; exact h)
          clear hlt HO
          go_wp2_with fail
          go_ret
          exact ⟨_, rfl, HRES.out, HB.out⟩

end Go.Proofs.Ytipdfmedbcafpaa
end

section
/- The program's checks of a heap, by contracts. -/
namespace Go.Proofs.Ytipdfmedbcafpaa
open Go.RowKit P El Hp
set_option linter.unusedVariables false

theorem arity_any (d : Int) (w : World) :
    Calls Try.prog 154 #[.int .i64 d] w fun e w' => e = .returned (.bool (decide (OkD d))) ∧ w' = w := by
  by_cases h2 : 2 ≤ d
  · have HE : Hid (decide (OkD d) = decide (d ≤ 8)) := Lib.hid (decide_eq_decide.2 ⟨fun h => h.2, fun h => ⟨h2, h⟩⟩)
    have hd2 : decide (2 ≤ d) = true := decide_eq_true h2
    by_cases h8 : d ≤ 8
    · have hd8 : decide (d ≤ 8) = true := decide_eq_true h8
      go_enter Try.func154, Try.ntmps154
      go_wp2
      go_ret
      exact ⟨by rw [HE.out, hd8]; rfl, rfl⟩
    · have hd8 : decide (d ≤ 8) = false := decide_eq_false h8
      go_enter Try.func154, Try.ntmps154
      go_wp2
      go_ret
      exact ⟨by rw [HE.out, hd8]; rfl, rfl⟩
  · have HE : Hid (decide (OkD d) = false) := Lib.hid (decide_eq_false fun h => h2 h.1)
    have hd2 : decide (2 ≤ d) = false := decide_eq_false h2
    go_enter Try.func154, Try.ntmps154
    go_wp2
    go_ret
    exact ⟨by rw [HE.out]; rfl, rfl⟩


end Go.Proofs.Ytipdfmedbcafpaa
end

section
/- The program's heap, made of lists, by its contract. -/
namespace Go.Proofs.Ytipdfmedbcafpaa
open Go.RowKit P El Hp
set_option linter.unusedVariables false

def hsv (v : Value) (d q : Nat) : List Value := [v, .int .i64 (d : Int), .int .i64 (q : Int)]
/-- The heap, its list maybe nil. -/
structure HpN (base s : Nat) (v : Value) (L : List Int) (d q : Nat) (w : World) : Prop where
  st : CellRow w s (hsv v d q)
  own : OwnN base w v L
  bs : base ≤ s
  ne : v.ownBlock ≠ some s
theorem HpN.big {base s d q : Nat} {v : Value} {L : List Int} {w : World} (h : HpN base s v L d q w) (h0 : 0 < L.length) : ∃ g cap, v = .slice (some ⟨g, 0, none⟩) L.length cap ∧ HpG base s g cap L d q w := by
  obtain ⟨hst, ho, hbs, hne⟩ := h
  rcases ho.2 with ⟨_, hz⟩ | ⟨g, cap, _, e, _⟩
  · omega
  · subst e
    obtain ⟨h1, h2, h3⟩ := OwnN.row ho
    exact ⟨g, cap, rfl, hst, h3, fun e => hne (by rw [e]; rfl), hbs, h1, h2⟩
theorem HpN.small {base s d q : Nat} {v : Value} {w : World} (h : HpN base s v [] d q w) : ∃ a c, v = .slice a 0 c := by
  rcases h.own.2 with ⟨e, _⟩ | ⟨g, cap, _, e, _⟩
  · exact ⟨_, _, e⟩
  · exact ⟨_, _, e⟩
theorem HpN.below {base s d q : Nat} {v : Value} {L : List Int} {w w' : World} (h : HpN base s v L d q w) (hb : Below w.heap.size w w') : HpN base s v L d q w' :=
  ⟨h.st.same (hb.block s h.st.1) hb.size, h.own.keep (fun g hg => hb.block g (h.own.lt g hg).2), h.bs, h.ne⟩
theorem HpN.c0 {base s d q : Nat} {v : Value} {L : List Int} {w : World} (h : HpN base s v L d q w) : w.cell? ⟨s, 0, none⟩ = some v ∧ w.cell? ⟨s, 1, none⟩ = some (.int .i64 (d : Int)) ∧ w.cell? ⟨s, 2, none⟩ = some (.int .i64 (q : Int)) :=
  ⟨(h.st.2 0 _ rfl).1, (h.st.2 1 _ rfl).1, (h.st.2 2 _ rfl).1⟩
set_option maxRecDepth 100000 in
theorem mk_any (d pb pc : Nat) (Ps : List Part) (w : World) (hp : ∀ (j : Nat) p, Ps[j]? = some p → w.cell? ⟨pb, j, none⟩ = some p.val ∧ pb < w.heap.size ∧ p.ok w) (hn : (joined Ps).length ≤ 1048576) (hk : Ps.length ≤ 1048576) :
    Calls Try.prog 155 #[.int .i64 (d : Int), .slice (some ⟨pb, 0, none⟩) Ps.length pc] w fun e w' => ∃ s v, e = .returned (.pointer (some ⟨s, 0, none⟩)) ∧ HpN w.heap.size s v (joined Ps) d 0 w' ∧ Below w.heap.size w w' := by
  have HC := Lib.hid (concatI_any pb pc Ps w hp hn hk)
  clear hp
  go_enter Try.func155, Try.ntmps155
  go_wp2_with fail
  refine (HC.out).mono ?_
  rintro e w1 ⟨v, rfl, ho, hb⟩
  have hv : ∃ a n c, v = .slice a n c := by
    rcases ho.2 with ⟨e, _⟩ | ⟨g, cap, _, e, _⟩
    · exact ⟨_, _, _, e⟩
    · exact ⟨_, _, _, e⟩
  obtain ⟨va, vn, vc, rfl⟩ := hv
  have HRES : Hid (HpN w.heap.size w1.heap.size (.slice va vn vc) (joined Ps) d 0 (w1.alloc (.cells #[.slice va vn vc, .int .i64 (d : Int), .int .i64 0] 154)) ∧ Below w.heap.size w (w1.alloc (.cells #[.slice va vn vc, .int .i64 (d : Int), .int .i64 0] 154))) := Lib.hid (by
    have hA : RowIs (w1.alloc (.cells #[.slice va vn vc, .int .i64 (d : Int), .int .i64 0] 154)) w1.heap.size 154 (hsv (.slice va vn vc) d 0) := heap_alloc_new w1 _
    refine ⟨⟨CellRow.of_row hA, ho.keep (fun g hg => heap_alloc_old _ _ (ho.lt g hg).2), hb.size, fun e => ?_⟩, hb.trans ((Below.refl _ _).alloc hb.size _)⟩
    have := (ho.lt _ e).2; omega)
  clear ho hb HC
  go_wp2_with fail
  go_ret
  exact ⟨_, _, rfl, HRES.out⟩

end Go.Proofs.Ytipdfmedbcafpaa
end

section
/- The program's heap made of one list or two, behind the slice of them that the call lays. -/
namespace Go.Proofs.Ytipdfmedbcafpaa
open Go.RowKit P El Hp
set_option linter.unusedVariables false

theorem OwnN.lower {base base' : Nat} {w : World} {v : Value} {L : List Int} (h : OwnN base w v L) (hB : base' ≤ base) : OwnN base' w v L := by
  refine ⟨h.1, ?_⟩
  rcases h.2 with hn | ⟨j, cap, cur, rfl, h1, hg, rest⟩
  · exact .inl hn
  · exact .inr ⟨j, cap, cur, rfl, by omega, hg, rest⟩
theorem HpN.lower {base base' s d q : Nat} {v : Value} {L : List Int} {w : World} (h : HpN base s v L d q w) (hB : base' ≤ base) : HpN base' s v L d q w := ⟨h.st, h.own.lower hB, Nat.le_trans hB h.bs, h.ne⟩

theorem mk1_any (d : Nat) (a : Option Addr) (c : Nat) (l : List Int) (w : World) (h : (Part.mk a c l).ok w) (hn : l.length ≤ 1048576) :
    Calls Try.prog 155 #[.int .i64 (d : Int), .slice (some ⟨w.heap.size, 0, none⟩) 1 1] (w.alloc (.cells #[.slice a l.length c] 26)) fun e w' => ∃ s v, e = .returned (.pointer (some ⟨s, 0, none⟩)) ∧ HpN w.heap.size s v l d 0 w' ∧ Below w.heap.size w w' := by
  have hb : Below w.heap.size w (w.alloc (.cells #[.slice a l.length c] 26)) := (Below.refl _ _).alloc (Nat.le_refl _) _
  have hj : joined [Part.mk a c l] = l := by simp [joined]
  refine (mk_any d w.heap.size 1 [Part.mk a c l] _ (fun j p hp => ?_) (by rw [hj]; exact hn) (by simp)).mono ?_
  · cases j with
    | zero =>
      simp at hp; subst hp
      exact ⟨by unfold Part.val; simp, by simp, h.below hb⟩
    | succ j => simp at hp
  · rintro e w' ⟨s, v, rfl, hH, hb2⟩
    rw [hj] at hH
    exact ⟨s, v, rfl, hH.lower hb.size, hb.trans (hb2.mono hb.size)⟩

theorem mk2_any (d : Nat) (a : Option Addr) (c : Nat) (l : List Int) (x : Int) (w : World) (h : (Part.mk a c l).ok w) (hn : l.length ≤ 1000000) :
    Calls Try.prog 155 #[.int .i64 (d : Int), .slice (some ⟨w.heap.size + 1, 0, none⟩) 2 2] ((w.alloc (.cells #[.int .i64 x] 3)).alloc (.cells #[.slice a l.length c, .slice (some ⟨w.heap.size, 0, none⟩) 1 1] 26)) fun e w' => ∃ s v, e = .returned (.pointer (some ⟨s, 0, none⟩)) ∧ HpN w.heap.size s v (l ++ [x]) d 0 w' ∧ Below w.heap.size w w' := by
  have hb1 : Below w.heap.size w (w.alloc (.cells #[.int .i64 x] 3)) := (Below.refl _ _).alloc (Nat.le_refl _) _
  have hb := hb1.alloc hb1.size (.cells #[.slice a l.length c, .slice (some ⟨w.heap.size, 0, none⟩) 1 1] 26)
  have hj : joined [Part.mk a c l, Part.mk (some ⟨w.heap.size, 0, none⟩) 1 [x]] = l ++ [x] := by simp [joined]
  have hs2 : ((w.alloc (.cells #[.int .i64 x] 3)).alloc (.cells #[.slice a l.length c, .slice (some ⟨w.heap.size, 0, none⟩) 1 1] 26)).heap.size = w.heap.size + 2 := by simp
  have hx : ((w.alloc (.cells #[.int .i64 x] 3)).alloc (.cells #[.slice a l.length c, .slice (some ⟨w.heap.size, 0, none⟩) 1 1] 26)).cell? ⟨w.heap.size, 0, none⟩ = some (.int .i64 x) := by
    have e1 : (w.alloc (.cells #[.int .i64 x] 3)).cell? ⟨w.heap.size, 0, none⟩ = some (.int .i64 x) := by simp
    have e2 := ((Below.refl (w.heap.size + 1) (w.alloc (.cells #[.int .i64 x] 3))).alloc (by simp) (.cells #[.slice a l.length c, .slice (some ⟨w.heap.size, 0, none⟩) 1 1] 26)).cell (p := ⟨w.heap.size, 0, none⟩) (by show w.heap.size < w.heap.size + 1; omega)
    exact e2.trans e1
  refine (mk_any d (w.heap.size + 1) 2 [Part.mk a c l, Part.mk (some ⟨w.heap.size, 0, none⟩) 1 [x]] _ (fun j p hp => ?_) (by rw [hj]; simp; omega) (by simp)).mono ?_
  · have hc : ∀ j u, (#[Value.slice a l.length c, Value.slice (some ⟨w.heap.size, 0, none⟩) 1 1] : Array Value)[j]? = some u → ((w.alloc (.cells #[.int .i64 x] 3)).alloc (.cells #[.slice a l.length c, .slice (some ⟨w.heap.size, 0, none⟩) 1 1] 26)).cell? ⟨w.heap.size + 1, j, none⟩ = some u := by
      intro j u hu
      have hA : RowIs ((w.alloc (.cells #[.int .i64 x] 3)).alloc (.cells #[.slice a l.length c, .slice (some ⟨w.heap.size, 0, none⟩) 1 1] 26)) (w.heap.size + 1) 26 [.slice a l.length c, .slice (some ⟨w.heap.size, 0, none⟩) 1 1] := by
        have := heap_alloc_new (w.alloc (.cells #[.int .i64 x] 3)) (.cells #[.slice a l.length c, .slice (some ⟨w.heap.size, 0, none⟩) 1 1] 26)
        rw [show (w.alloc (.cells #[.int .i64 x] 3)).heap.size = w.heap.size + 1 by simp] at this
        exact this
      exact ((CellRow.of_row hA).2 j u (by simpa using hu)).1
    match j, hp with
    | 0, hp =>
      simp at hp; subst hp
      exact ⟨hc 0 _ rfl, by omega, h.below hb⟩
    | 1, hp =>
      simp at hp; subst hp
      refine ⟨hc 1 _ rfl, by omega, ⟨_, _, rfl, Nat.le_refl _, fun j u hu => ?_⟩, fun e => by simp at e⟩
      cases j with
      | zero => simp [ints] at hu; subst hu; exact ⟨_, _, rfl, by omega, hx⟩
      | succ j => simp [ints] at hu
    | j + 2, hp => simp at hp
  · rintro e w' ⟨s, v, rfl, hH, hb2⟩
    rw [hj] at hH
    exact ⟨s, v, rfl, hH.lower (by omega), hb.trans (hb2.mono (by omega))⟩

end Go.Proofs.Ytipdfmedbcafpaa
end

section
/- The program's BuildHeap and HeapSort, by contracts. -/
namespace Go.Proofs.Ytipdfmedbcafpaa
open Go.RowKit P El Hp
set_option linter.unusedVariables false

theorem buildF_count1 {d : Nat} {l : List Int} (hd : 0 < d) (hl : l.length ≤ 64) : (buildF d l).2 ≤ 6000 := by
  have h1 := (bl_count (d := d) (n := l.length) hd l.length (l, 0)).2
  have h2 : l.length * l.length ≤ 64 * 64 := Nat.mul_le_mul hl hl
  simp only at h1; unfold buildF; omega

set_option maxRecDepth 100000 in
set_option maxHeartbeats 4000000 in
theorem implHs_any (a : Option Addr) (c : Nat) (l : List Int) (d : Int) (w : World) (hp : (Part.mk a c l).ok w) (hn : l.length ≤ 1048576) :
    Calls Try.prog 142 #[.slice a l.length c, .int .i64 d] w (RetE1 (hsAll l d) w) := by
  have HV := Lib.hid (implValidList_any (.slice a l.length c) l w hp.1 hn)
  have HA := Lib.hid (fun W => arity_any d W)
  have HNONE : Hid (¬ (OkL l ∧ OkD d) → ∀ w1, Below w.heap.size w w1 → RetE1 (hsAll l d) w (.returned (.tuple #[.slice (some ⟨w1.heap.size, 0, none⟩) 0 0, .int .i64 0, .bool false])) (w1.alloc (.cells #[] 3))) := Lib.hid (fun h w1 hb => by rw [hsAll_no h]; exact .inl (RetI1.none w w1 hb))
  by_cases hok : OkL l
  · rw [decide_eq_true hok] at HV
    by_cases hok2 : OkD d
    · rw [decide_eq_true hok2] at HA
      obtain ⟨k, rfl, hk0, hk2, hk8⟩ := hok2.nat
      have HF := Lib.hid (hsAll_yes ⟨hok, hok2⟩)
      rw [hk0] at HF
      have h64 := hok.1
      have HMK := Lib.hid (fun W (h : (Part.mk a c l).ok W) => mk1_any k a c l W h hn)
      have HPO := Lib.hid hp
      by_cases h0 : l.length = 0
      · obtain rfl := List.eq_nil_of_length_eq_zero h0
        clear hok hok2 HNONE hp h0 h64
        simp only [List.length_nil] at HV HMK HPO ⊢
        have HBD := Lib.hid (fun (s : Nat) (va : Option Addr) (vc : Nat) W (h0 : W.cell? ⟨s, 0, none⟩ = some (.slice va 0 vc)) (hs : s < W.heap.size) (h : W.cell? ⟨s, 1, none⟩ = some (.int .i64 (k : Int))) => bdNo_any W h0 hs h hk2 hk8)
        go_enter Try.func142, Try.ntmps142
        go_wp2_with fail
        refine HV.out.mono ?_
        rintro e w1 ⟨rfl, hb1⟩
        have HB1 := Lib.hid hb1
        clear hb1 HV
        go_wp2_with fail
        refine (HA.out _).mono ?_
        rintro e w1' ⟨rfl, rfl⟩
        clear HA
        go_wp2_with fail
        refine (HMK.out _ (HPO.out.below HB1.out)).mono ?_
        rintro e w2 ⟨s, v, rfl, hH, hb2⟩
        have HB2 := Lib.hid (HB1.out.trans (hb2.mono HB1.out.size))
        obtain ⟨va, vc, rfl⟩ := hH.small
        have HH := Lib.hid hH
        clear hH hb2 HMK HPO HB1
        go_wp2_with fail
        refine (HBD.out s va vc w2 HH.out.c0.1 HH.out.st.1 HH.out.c0.2.1).mono ?_
        rintro e w3 ⟨rfl, hb3⟩
        obtain ⟨hc0, _, hc2⟩ := (HH.out.below hb3).c0
        have hc2' : w3.cell? ⟨s, 2, none⟩ = some (.int .i64 0) := hc2
        have HRES : Hid (∀ t, RetE1 (hsAll [] (k : Int)) w (.returned (.tuple #[.slice va 0 vc, .int .i64 0, .bool true])) (w3.drewN t)) := Lib.hid (fun t => by
          have hbb : Below w.heap.size w (w3.drewN t) := (HB2.out.trans (hb3.mono HB2.out.size)).trans ⟨rfl, rfl, rfl, Nat.le_refl _, fun _ _ => rfl⟩
          rw [HF.out]
          refine .inr ⟨rfl, ⟨va, vc, rfl, hbb⟩, fun c' e => ?_⟩
          simp at e
          rcases HH.out.own.2 with ⟨e2, _⟩ | ⟨g, cap, _, e2, _⟩
          · simp at e2; omega
          · simp at e2; rw [e.1.1] at e2; simp at e2)
        have HC : Hid (w3.cell? ⟨s, 0, none⟩ = some (.slice va 0 vc) ∧ w3.cell? ⟨s, 2, none⟩ = some (.int .i64 0)) := Lib.hid ⟨hc0, hc2'⟩
        clear hb3 hc2 hc0 hc2'
        go_wp2_with fail
        go_loopw [8] (fun nv wr => nv = .int .i64 0 ∧ wr = w3) (fun _ _ => 0)
        case atStart => exact ⟨rfl, rfl⟩
        case round =>
          obtain ⟨rfl, rfl⟩ := hrel
          obtain ⟨hc0, hc2⟩ := HC.out
          clear HC
          go_wp2_with fail
          go_quiet (fail)
          go_wp2_with fail
          go_ret3
          exact HRES.out _
      · have hl0 : 0 < l.length := by omega
        have HBD := Lib.hid (fun (s g cap : Nat) W (h : HpG w.heap.size s g cap l k 0 W) => bd_any W h hk2 hk8 hl0 h64 (by omega))
        have HBF : Hid (bl k l.length l.length (l, 0) = buildF k l) := Lib.hid rfl
        have HLN := Lib.hid (buildF_length (d := k) (by omega) l)
        have hcb := buildF_count1 (d := k) (l := l) (by omega) h64
        have HR0 : Hid (hsn k l.length ((buildF k l).1, (buildF k l).2) = hsF k l) := Lib.hid rfl
        have hrq : (hsF k l).2 ≤ 20000 := by
          have h1 := (hsn_count (d := k) (by omega) l.length l.length (buildF k l) (Nat.le_refl _)).2
          have h2 : l.length * (l.length + 1) ≤ 64 * 65 := Nat.mul_le_mul h64 (by omega)
          show (hsn k l.length (buildF k l)).2 ≤ _; omega
        rw [HBF.out] at HBD
        generalize buildF k l = B at *
        obtain ⟨B1, B2⟩ := B
        simp only at HLN hcb HR0
        generalize hsF k l = R at HR0 HF hrq
        have HSW := Lib.hid (fun (s g cap j q : Nat) (M : List Int) (W : World) (hW : HpG w.heap.size s g cap M k q W) (hM : M.length = l.length) (hj : j < l.length) (h0 : 0 < j) (hq : q ≤ 20000) => hswap_any 0 j W hW (by omega) (by omega) (by omega) (by omega))
        have HSD := Lib.hid (fun (s g cap j q : Nat) (M : List Int) (W : World) (hW : HpG w.heap.size s g cap M k q W) (hM : M.length = l.length) (hj : j ≤ l.length) (hq : q ≤ 20001) => sd_any 0 j W hW hk2 hk8 (by omega) (by omega) (by omega) (by omega))
        clear hok hok2 HNONE hp h0 HBF
        go_enter Try.func142, Try.ntmps142
        go_wp2_with fail
        refine HV.out.mono ?_
        rintro e w1 ⟨rfl, hb1⟩
        have HB1 := Lib.hid hb1
        clear hb1 HV
        go_wp2_with fail
        refine (HA.out _).mono ?_
        rintro e w1' ⟨rfl, rfl⟩
        clear HA
        go_wp2_with fail
        refine (HMK.out _ (HPO.out.below HB1.out)).mono ?_
        rintro e w2 ⟨s, v, rfl, hH, hb2⟩
        have HB2 := Lib.hid (HB1.out.trans (hb2.mono HB1.out.size))
        obtain ⟨g, cap, rfl, hG⟩ := (hH.lower HB1.out.size).big hl0
        have HH := Lib.hid hG
        clear hH hb2 hG HMK HPO HB1
        go_wp2_with fail
        refine (HBD.out s g cap w2 HH.out).mono ?_
        rintro e w3 ⟨rfl, hg3, hb3⟩
        have HG3 := Lib.hid hg3
        have HB3 := Lib.hid (HB2.out.trans (hb3.below hg3.bs hg3.bg HB2.out.size))
        clear hg3 hb3 HBD HB2 HH
        go_wp2_with fail
        go_loopw [8] (fun nv wr => ∃ (m : Nat) (M : List Int) (p : Nat), nv = .int .i64 (m : Int) ∧ hsn k m (M, p) = R ∧ M.length = l.length ∧ m ≤ l.length ∧ HpG w.heap.size s g cap M k p wr ∧ Below w.heap.size w wr) (fun nv _ => (intOf nv).toNat)
        case atStart => exact ⟨l.length, B1, B2, rfl, HR0.out, HLN.out, Nat.le_refl _, HG3.out, HB3.out⟩
        case round =>
          obtain ⟨m, M, p, rfl, hr, hML, hm, hg, hb⟩ := hrel
          have HGR := Lib.hid hg
          have HB := Lib.hid hb
          have HML := Lib.hid hML
          have HRR := Lib.hid hr
          have hp : p ≤ 20000 := by have := (hsn_count (d := k) (by omega) 64 m (M, p) (by omega)).1; rw [hr] at this; simp only at this; omega
          clear hr hg hb HR0 HG3 HB3 HLN hML
          by_cases h1 : 2 ≤ m
          · obtain ⟨j, rfl⟩ : ∃ j, m = j + 1 := ⟨m - 1, by omega⟩
            have hj : ((j + 1 : Nat) : Int) - 1 = (j : Int) := by omega
            have h1z : (2 : Int) ≤ ((j + 1 : Nat) : Int) := by omega
            have hwj : IntKind.i64.wrap (((j + 1 : Nat) : Int) - 1) = (j : Int) := by rw [hj, IntKind.wrap_i64]; omega
            have HS := Lib.hid (HSW.out s g cap j p M wr HGR.out HML.out (by omega) (by omega) hp)
            have HSL : Hid ((swapped M 0 j).length = l.length) := Lib.hid (by rw [swapped_length]; exact HML.out)
            have HRR2 : Hid (hsn k j (down k j 0 (swapped M 0 j, p + 1)) = R) := Lib.hid (by rw [← HRR.out, hsn_go (by omega)])
            have HLN : Hid ((down k j 0 (swapped M 0 j, p + 1)).1.length = l.length) := Lib.hid (by rw [down_length (by omega)]; exact HSL.out)
            have HDD := Lib.hid (fun W (hW : HpG w.heap.size s g cap (swapped M 0 j) k (p + 1) W) => HSD.out s g cap j (p + 1) _ W hW HSL.out (by omega) (by omega))
            generalize down k j 0 (swapped M 0 j, p + 1) = D at *
            obtain ⟨D1, D2⟩ := D
            simp only at HLN
            clear HSD HSW HRR
            go_wp2_with fail
            refine HS.out.mono ?_
            rintro e w4 ⟨rfl, hr4, hb4⟩
            have HB4 := Lib.hid (HB.out.trans (hb4.below hr4.bs hr4.bg HB.out.size))
            have HD4 := Lib.hid (HDD.out w4 hr4)
            clear hr4 hb4 HS HDD
            go_wp2_with fail
            refine HD4.out.mono ?_
            rintro e w5 ⟨rfl, hr5, hb5⟩
            have HB5 := Lib.hid (HB4.out.trans (hb5.below hr5.bs hr5.bg HB4.out.size))
            have HR5 := Lib.hid hr5
            clear hr5 hb5 HD4
            go_wp2_with fail
            go_roundw
            case rel => exact ⟨j, D1, D2, by go_num, HRR2.out, HLN.out, by omega, HR5.out, HB5.out⟩
            case measure => simp [intOf]
          · have HE : Hid ((M, p) = R) := Lib.hid (by rw [← HRR.out, hsn_stop (by omega)])
            have HRES : Hid (∀ t, RetE1 (hsAll l (k : Int)) w (.returned (.tuple #[.slice (some ⟨g, 0, none⟩) M.length cap, .int .i64 (p : Int), .bool true])) (wr.drewN t)) := Lib.hid (fun t => by
              rw [HF.out, ← HE.out]
              exact .inl ⟨g, cap, rfl, HGR.out.cap, HGR.out.bg, HGR.out.row.same rfl (Nat.le_refl _), HB.out.trans ⟨rfl, rfl, rfl, Nat.le_refl _, fun _ _ => rfl⟩⟩)
            have h1z : ¬ (2 : Int) ≤ (m : Int) := by omega
            obtain ⟨hc0, _, hc2, _⟩ := HGR.out.c0
            clear HSD HSW HRR
            go_wp2_with fail
            go_quiet (fail)
            go_wp2_with fail
            go_ret3
            exact HRES.out _
    · rw [decide_eq_false hok2] at HA
      have HN := Lib.hid (HNONE.out (fun h => hok2 h.2))
      clear hok hok2 HNONE hp
      go_enter Try.func142, Try.ntmps142
      go_wp2_with fail
      refine HV.out.mono ?_
      rintro e w1 ⟨rfl, hb1⟩
      have HRES := Lib.hid (HN.out w1 hb1)
      clear hb1 HV HN
      go_wp2_with fail
      refine (HA.out _).mono ?_
      rintro e w1' ⟨rfl, rfl⟩
      go_wp2_with fail
      go_ret3
      exact HRES.out
  · rw [decide_eq_false hok] at HV
    have HN := Lib.hid (HNONE.out (fun h => hok h.1))
    clear hok HNONE hp
    go_enter Try.func142, Try.ntmps142
    go_wp2_with fail
    refine HV.out.mono ?_
    rintro e w1 ⟨rfl, hb1⟩
    have HRES := Lib.hid (HN.out w1 hb1)
    clear hb1 HV HN
    go_wp2_with fail
    go_ret3
    exact HRES.out

end Go.Proofs.Ytipdfmedbcafpaa
end

section
/- A part of a row, partitioned in three, its outer two sorted. Nothing of the program. -/
namespace Go.Proofs.Ytipdfmedbcafpaa
open Go.RowKit P El Qk
set_option linter.unusedVariables false

theorem cut_three {M : List Int} {lt gt : Nat} (h : lt ≤ gt) : M = M.take lt ++ ((M.take gt).drop lt ++ M.drop gt) := by
  have e : M.take lt ++ (M.take gt).drop lt = M.take gt := by
    have := List.take_append_drop lt (M.take gt)
    rw [List.take_take, Nat.min_eq_left h] at this; exact this
  rw [← List.append_assoc, e, List.take_append_drop]
theorem Seg.parts {g o lt gt : Nat} {M : List Int} {w : World} (h : Seg w g o (ints M)) (h1 : lt ≤ gt) (h2 : gt ≤ M.length) :
    Seg w g o (ints (M.take lt)) ∧ Seg w g (o + lt) (ints ((M.take gt).drop lt)) ∧ Seg w g (o + gt) (ints (M.drop gt)) := by
  rw [cut_three (M := M) h1, ints_append, ints_append] at h
  have e1 := h.fst
  have e2 := h.snd.fst
  have e3 := h.snd.snd
  rw [ints_length, List.length_take, Nat.min_eq_left (by omega)] at e2 e3
  rw [ints_length, List.length_drop, List.length_take, Nat.min_eq_left h2, show o + lt + (gt - lt) = o + gt by omega] at e3
  exact ⟨e1, e2, e3⟩
theorem Seg.three {g o n lt gt : Nat} {M A B : List Int} {w2 w3 w4 : World} (h : Seg w2 g o (ints M)) (hM : M.length = n) (h1 : lt ≤ gt) (h2 : gt ≤ n) (hA : A.length = lt) (hB : B.length = n - gt)
    (p1 : SegP g o lt A w2 w3) (p2 : SegP g (o + gt) (n - gt) B w3 w4) : SegP g o n (A ++ ((M.take gt).drop lt ++ B)) w2 w4 := by
  obtain ⟨e1, e2, e3⟩ := h.parts h1 (by omega)
  have hml : ((M.take gt).drop lt).length = gt - lt := by rw [List.length_drop, List.length_take, Nat.min_eq_left (by omega)]
  have m3 := e2.keep p1.2 (.inr (Nat.le_refl _))
  have m4 := m3.keep p2.2 (.inl (by rw [ints_length, hml]; omega))
  have a4 := p1.1.keep p2.2 (.inl (by rw [ints_length, hA]; omega))
  refine ⟨?_, (p1.2.wide (Nat.le_refl _) (by omega)).trans (p2.2.wide (by omega) (by omega))⟩
  rw [ints_append, ints_append]
  exact a4.join (m4.join p2.1 (by rw [ints_length, hml]; omega)) (by rw [ints_length, hA])

end Go.Proofs.Ytipdfmedbcafpaa
end

section
/- What moves beside a part of a row: some blocks. Nothing of the program. -/
namespace Go.Proofs.Ytipdfmedbcafpaa
open Go.RowKit P El Qk
set_option linter.unusedVariables false

/-- Nothing but n cells of block g from o on, and the blocks of Q, moved. -/
structure SegB (g o n : Nat) (Q : Nat → Prop) (w w' : World) : Prop where
  os : w'.os = w.os
  tape : w'.tape = w.tape
  output : w'.output = w.output
  size : w.heap.size ≤ w'.heap.size
  block : ∀ k, k < w.heap.size → k ≠ g → ¬ Q k → w'.heap[k]? = w.heap[k]?
  fz : ∀ j, w'.frozen? ⟨g, j, none⟩ = w.frozen? ⟨g, j, none⟩
  cell : ∀ j, j < o ∨ o + n ≤ j → w'.cell? ⟨g, j, none⟩ = w.cell? ⟨g, j, none⟩
theorem SegB.refl (g o n : Nat) (Q : Nat → Prop) (w : World) : SegB g o n Q w w := ⟨rfl, rfl, rfl, Nat.le_refl _, fun _ _ _ _ => rfl, fun _ => rfl, fun _ _ => rfl⟩
theorem SegB.trans {g o n : Nat} {Q : Nat → Prop} {a b c : World} (h : SegB g o n Q a b) (k : SegB g o n Q b c) : SegB g o n Q a c :=
  ⟨k.os.trans h.os, k.tape.trans h.tape, k.output.trans h.output, Nat.le_trans h.size k.size, fun i hi hg hq => (k.block i (Nat.lt_of_lt_of_le hi h.size) hg hq).trans (h.block i hi hg hq),
    fun j => (k.fz j).trans (h.fz j), fun j hj => (k.cell j hj).trans (h.cell j hj)⟩
theorem SegB.wide {g o n o' n' : Nat} {Q : Nat → Prop} {a b : World} (h : SegB g o n Q a b) (h1 : o' ≤ o) (h2 : o + n ≤ o' + n') : SegB g o' n' Q a b :=
  ⟨h.os, h.tape, h.output, h.size, h.block, h.fz, fun j hj => h.cell j (by omega)⟩
theorem SegB.zero {g o p : Nat} {Q : Nat → Prop} {a b : World} (h : SegB g o 0 Q a b) : SegB g p 0 Q a b :=
  ⟨h.os, h.tape, h.output, h.size, h.block, h.fz, fun j _ => h.cell j (by omega)⟩
theorem SegB.more {g o n : Nat} {Q R : Nat → Prop} {a b : World} (h : SegB g o n Q a b) (hq : ∀ k, Q k → R k) : SegB g o n R a b :=
  ⟨h.os, h.tape, h.output, h.size, fun k hk hg hr => h.block k hk hg (fun h => hr (hq k h)), h.fz, h.cell⟩
theorem ButS.segB {g o n : Nat} {a b : World} (h : ButS g o n a b) (Q : Nat → Prop) : SegB g o n Q a b :=
  ⟨h.but.os, h.but.tape, h.but.output, h.but.size, fun k hk hg _ => h.but.block k hk hg, h.fz, h.cell⟩
theorem SegB.drewN {g o n : Nat} {Q : Nat → Prop} {a w : World} (h : SegB g o n Q a w) (t : Nat) : SegB g o n Q a (w.drewN t) := ⟨h.os, h.tape, h.output, h.size, h.block, h.fz, h.cell⟩
theorem SegB.ofBelow {g o n : Nat} {a b : World} (h : Below a.heap.size a b) (hg : g < a.heap.size) (Q : Nat → Prop) : SegB g o n Q a b := (ButS.ofBelow h hg).segB Q
/-- A store in one of the blocks. -/
theorem SegB.put {g o n : Nat} {Q : Nat → Prop} {a w : World} (h : SegB g o n Q a w) (s i : Nat) (u : Value) (hs : Q s) (hg : s ≠ g) : SegB g o n Q a (w.setCell ⟨s, i, none⟩ u) := by
  have hb := (Below.refl s w).setCell (p := ⟨s, i, none⟩) (Nat.le_refl _) u
  have hbg : (w.setCell ⟨s, i, none⟩ u).heap[g]? = w.heap[g]? := Below.heap_setCell w ⟨s, i, none⟩ u g (fun e => hg e.symm)
  refine ⟨hb.os.trans h.os, hb.tape.trans h.tape, hb.output.trans h.output, Nat.le_trans h.size hb.size, fun k hk hkg hq => (Below.heap_setCell w ⟨s, i, none⟩ u k (fun e => hq (e ▸ hs))).trans (h.block k hk hkg hq), fun j => ?_, fun j hj => ?_⟩
  · rw [World.frozen?_setCell]; exact h.fz j
  · rw [World.cell?_of_block (w := w) hbg]; exact h.cell j hj
theorem SegB.row {g o n k : Nat} {Q : Nat → Prop} {a b : World} {cs : List Value} (h : SegB g o n Q a b) (hr : CellRow a k cs) (hg : k ≠ g) (hq : ¬ Q k) : CellRow b k cs := hr.same (h.block k hr.1 hg hq) h.size
theorem Seg.keepB {w w' : World} {g o p n : Nat} {Q : Nat → Prop} {cs : List Value} (h : Seg w g o cs) (hb : SegB g p n Q w w') (hd : o + cs.length ≤ p ∨ p + n ≤ o) : Seg w' g o cs :=
  ⟨Nat.lt_of_lt_of_le h.1 hb.size, fun j u hu => by
    have hj := (List.getElem?_eq_some_iff.1 hu).1
    rw [hb.cell _ (by omega), hb.fz]
    exact h.2 j u hu⟩
theorem SegB.below {g o n B : Nat} {Q : Nat → Prop} {a b : World} (h : SegB g o n Q a b) (hg : B ≤ g) (hq : ∀ k, Q k → B ≤ k) (hs : B ≤ a.heap.size) : Below B a b :=
  ⟨h.os, h.tape, h.output, h.size, fun k hk => h.block k (by omega) (by omega) (fun hh => by have := hq k hh; omega)⟩
/-- Three parts, the outer two sorted one after the other. -/
theorem Seg.threeB {g o n lt gt : Nat} {Q : Nat → Prop} {M A B : List Int} {w2 w3 w4 : World} (h : Seg w2 g o (ints M)) (hM : M.length = n) (h1 : lt ≤ gt) (h2 : gt ≤ n) (hA : A.length = lt) (hB : B.length = n - gt)
    (s1 : Seg w3 g o (ints A)) (p1 : SegB g o lt Q w2 w3) (s2 : Seg w4 g (o + gt) (ints B)) (p2 : SegB g (o + gt) (n - gt) Q w3 w4) : Seg w4 g o (ints (A ++ ((M.take gt).drop lt ++ B))) ∧ SegB g o n Q w2 w4 := by
  obtain ⟨e1, e2, e3⟩ := h.parts h1 (by omega)
  have hml : ((M.take gt).drop lt).length = gt - lt := by rw [List.length_drop, List.length_take, Nat.min_eq_left (by omega)]
  have m3 := e2.keepB p1 (.inr (Nat.le_refl _))
  have m4 := m3.keepB p2 (.inl (by rw [ints_length, hml]; omega))
  have a4 := s1.keepB p2 (.inl (by rw [ints_length, hA]; omega))
  refine ⟨?_, (p1.wide (Nat.le_refl _) (by omega)).trans (p2.wide (by omega) (by omega))⟩
  rw [ints_append, ints_append]
  exact a4.join (m4.join s2 (by rw [ints_length, hml]; omega)) (by rw [ints_length, hA])

end Go.Proofs.Ytipdfmedbcafpaa
end

section
/- The sort of parts by whatever finish, pure. Nothing of the program. -/
namespace Go.Proofs.Ytipdfmedbcafpaa
set_option linter.unusedVariables false
namespace Qk
open P El

/-- What a finish makes of a part at a depth: the part and what it counts, or nothing. -/
abbrev Fin3 := Nat → List Int → Option (List Int × Nat)
def sgDone (L : List Int) : Option (List Int × Nat) → List Int × Nat × Nat
  | some r => (r.1, 0, r.2)
  | none => (L, 0, 0)
def sgJoin (M : List Int) (lt gt : Nat) (A B : List Int × Nat × Nat) : List Int × Nat × Nat := (A.1 ++ ((M.take gt).drop lt ++ B.1), 1 + A.2.1 + B.2.1, A.2.2 + B.2.2)
def sg (fin : Fin3) : Nat → Nat → List Int → List Int × Nat × Nat
  | 0, d, L => sgDone L (fin d L)
  | f + 1, d, L => if (fin d L).isSome then sgDone L (fin d L) else
      sgJoin (thF L (L.getD (medF L) 0)).1 (thF L (L.getD (medF L) 0)).2.1 (thF L (L.getD (medF L) 0)).2.2
        (sg fin f (d + 1) ((thF L (L.getD (medF L) 0)).1.take (thF L (L.getD (medF L) 0)).2.1)) (sg fin f (d + 1) ((thF L (L.getD (medF L) 0)).1.drop (thF L (L.getD (medF L) 0)).2.2))
theorem sg_done {fin : Fin3} {d : Nat} {L M : List Int} {h : Nat} (e : fin d L = some (M, h)) (f : Nat) : sg fin f d L = (M, 0, h) := by
  cases f with
  | zero => show sgDone L (fin d L) = _; rw [e]; rfl
  | succ f => show (if _ then _ else _) = _; rw [e]; rfl
theorem sg_go {fin : Fin3} {f d : Nat} {L M : List Int} {lt gt : Nat} (e : fin d L = none) (ht : thF L (L.getD (medF L) 0) = (M, lt, gt)) :
    sg fin (f + 1) d L = sgJoin M lt gt (sg fin f (d + 1) (M.take lt)) (sg fin f (d + 1) (M.drop gt)) := by
  show (if _ then _ else _) = _; rw [e, ht]; rfl
/-- A good finish: it takes all small parts, it keeps the length, and it does not count too much. -/
structure FinOk (fin : Fin3) : Prop where
  small : ∀ d L, L.length < 2 → ∃ r, fin d L = some r
  len : ∀ d L M h, fin d L = some (M, h) → M.length = L.length ∧ h ≤ L.length
theorem FinOk.two {fin : Fin3} (hf : FinOk fin) {d : Nat} {L : List Int} (e : fin d L = none) : ¬ L.length < 2 := fun h => by
  obtain ⟨r, hr⟩ := hf.small d L h
  rw [hr] at e; cases e
theorem sg_spec {fin : Fin3} (hf : FinOk fin) : ∀ (f d : Nat) (L : List Int), L.length ≤ f → (sg fin f d L).1.length = L.length ∧ (sg fin f d L).2.1 ≤ L.length ∧ (sg fin f d L).2.2 ≤ L.length
  | 0, d, L, h => by
    obtain ⟨⟨M, k⟩, hr⟩ := hf.small d L (by omega)
    rw [sg_done hr]
    have := hf.len d L M k hr
    exact ⟨this.1, Nat.zero_le _, this.2⟩
  | f + 1, d, L, h => by
    cases e : fin d L with
    | some r =>
      obtain ⟨M, k⟩ := r
      rw [sg_done e]
      have := hf.len d L M k e
      exact ⟨this.1, Nat.zero_le _, this.2⟩
    | none =>
      have hs := hf.two e
      have hm := getD_mem (medF_lt (L := L) (by omega))
      have ht := thF_spec L (L.getD (medF L) 0)
      have hx := thF_some hm
      obtain ⟨⟨M, lt, gt⟩, he⟩ : ∃ T, thF L (L.getD (medF L) 0) = T := ⟨_, rfl⟩
      rw [he] at ht hx
      simp only at ht hx
      rw [sg_go e he]
      obtain ⟨p1, p2⟩ := part_lens ht
      have a3 := ht.h3
      obtain ⟨b1, b2, b3⟩ := sg_spec hf f (d + 1) (M.take lt) (by omega)
      obtain ⟨c1, c2, c3⟩ := sg_spec hf f (d + 1) (M.drop gt) (by omega)
      have hl := ht.perm.length_eq
      unfold sgJoin
      refine ⟨?_, by simp only; omega, by simp only; omega⟩
      simp only [List.length_append, List.length_drop, List.length_take]
      omega

/-- Quicksort's finish. -/
def finQ : Fin3 := fun _ L => if L.length < 2 then some (L, 0) else none
theorem finQ_ok : FinOk finQ := ⟨fun d L h => ⟨_, if_pos h⟩, fun d L M k h => by
  unfold finQ at h; split at h
  · obtain ⟨rfl, rfl⟩ := Prod.mk.inj (Option.some.inj h); exact ⟨rfl, Nat.zero_le _⟩
  · cases h⟩
theorem sg_qs : ∀ (f d : Nat) (L : List Int), L.length ≤ f → sg finQ f d L = ((qs f L).1, (qs f L).2, 0)
  | 0, d, L, h => by rw [sg_done (M := L) (h := 0) (if_pos (by omega)), qs_small (by omega)]
  | f + 1, d, L, h => by
    by_cases hs : L.length < 2
    · rw [sg_done (M := L) (h := 0) (if_pos hs), qs_small hs]
    · have ht := thF_spec L (L.getD (medF L) 0)
      have hx := thF_some (getD_mem (medF_lt (L := L) (by omega)))
      obtain ⟨⟨M, lt, gt⟩, he⟩ : ∃ T, thF L (L.getD (medF L) 0) = T := ⟨_, rfl⟩
      rw [he] at ht hx
      simp only at ht hx
      obtain ⟨p1, p2⟩ := part_lens ht
      have a3 := ht.h3
      rw [sg_go (if_neg hs) he, qs_big hs he, sg_qs f (d + 1) (M.take lt) (by omega), sg_qs f (d + 1) (M.drop gt) (by omega)]
      rfl
/-- Introsort's. -/
def finI (m : Nat) : Fin3 := fun d L => if L.length ≤ 5 then some (srt L, 0) else if d = m then some (srt L, 1) else none
theorem finI_small {m d : Nat} {L : List Int} (h : L.length ≤ 5) : finI m d L = some (srt L, 0) := if_pos h
theorem finI_heap {m d : Nat} {L : List Int} (h : ¬ L.length ≤ 5) (hd : d = m) : finI m d L = some (srt L, 1) := by unfold finI; rw [if_neg h, if_pos hd]
theorem finI_none {m d : Nat} {L : List Int} (h : ¬ L.length ≤ 5) (hd : ¬ d = m) : finI m d L = none := by unfold finI; rw [if_neg h, if_neg hd]
theorem finI_ok (m : Nat) : FinOk (finI m) := ⟨fun d L h => ⟨_, finI_small (by omega)⟩, fun d L M k h => by
  by_cases h5 : L.length ≤ 5
  · rw [finI_small h5] at h; obtain ⟨rfl, rfl⟩ := Prod.mk.inj (Option.some.inj h); exact ⟨srt_length _, Nat.zero_le _⟩
  · by_cases hd : d = m
    · rw [finI_heap h5 hd] at h; obtain ⟨rfl, rfl⟩ := Prod.mk.inj (Option.some.inj h); exact ⟨srt_length _, by omega⟩
    · rw [finI_none h5 hd] at h; cases h⟩
theorem sg_it (m : Nat) : ∀ (k f d : Nat) (L : List Int), L.length ≤ f → d + k = m → sg (finI m) f d L = itn k L
  | k, f, d, L, h, hd => by
    by_cases h5 : L.length ≤ 5
    · rw [sg_done (finI_small h5), itn_small h5]
    · cases k with
      | zero => rw [sg_done (finI_heap h5 (by omega)), itn_heap h5]
      | succ k =>
        obtain ⟨f, rfl⟩ : ∃ f', f = f' + 1 := ⟨f - 1, by omega⟩
        have ht := thF_spec L (L.getD (medF L) 0)
        have hx := thF_some (getD_mem (medF_lt (L := L) (by omega)))
        obtain ⟨⟨M, lt, gt⟩, he⟩ : ∃ T, thF L (L.getD (medF L) 0) = T := ⟨_, rfl⟩
        rw [he] at ht hx
        simp only at ht hx
        obtain ⟨p1, p2⟩ := part_lens ht
        have a3 := ht.h3
        rw [sg_go (finI_none h5 (by omega)) he, itn_big h5 he, sg_it m k f (d + 1) (M.take lt) (by omega) (by omega), sg_it m k f (d + 1) (M.drop gt) (by omega) (by omega)]
        rfl

end Qk
end Go.Proofs.Ytipdfmedbcafpaa
end

section
/- The program's sorter of parts: its deferred step back, by its contract. -/
namespace Go.Proofs.Ytipdfmedbcafpaa
open Go.RowKit P El Qk
set_option linter.unusedVariables false

/-- The sorter's cells. -/
def pst (fv : Value) (d q : Nat) : List Value := [fv, .int .i64 (d : Int), .int .i64 (q : Int)]
theorem pst_at {w : World} {s : Nat} {fv : Value} {d q : Nat} (h : CellRow w s (pst fv d q)) :
    w.cell? ⟨s, 0, none⟩ = some fv ∧ w.cell? ⟨s, 1, none⟩ = some (.int .i64 (d : Int)) ∧ w.cell? ⟨s, 2, none⟩ = some (.int .i64 (q : Int)) ∧ w.frozen? ⟨s, 1, none⟩ = false ∧ w.frozen? ⟨s, 2, none⟩ = false := by
  have h0 := h.2 0 _ rfl
  have h1 := h.2 1 _ rfl
  have h2 := h.2 2 _ rfl
  exact ⟨h0.1, h1.1, h2.1, h1.2, h2.2⟩
theorem pst_depth {w : World} {s : Nat} {fv : Value} {d q : Nat} (h : CellRow w s (pst fv d q)) (x : Nat) : CellRow (w.setCell ⟨s, 1, none⟩ (.int .i64 (x : Int))) s (pst fv x q) := by
  rw [show pst fv x q = (pst fv d q).set 1 (.int .i64 (x : Int)) from rfl]; exact h.set 1 _ (by simp [pst])
theorem pst_steps {w : World} {s : Nat} {fv : Value} {d q : Nat} (h : CellRow w s (pst fv d q)) (x : Nat) : CellRow (w.setCell ⟨s, 2, none⟩ (.int .i64 (x : Int))) s (pst fv d x) := by
  rw [show pst fv d x = (pst fv d q).set 2 (.int .i64 (x : Int)) from rfl]; exact h.set 2 _ (by simp [pst])

set_option maxRecDepth 100000 in
theorem psback (p s d : Nat) (u : FrameMode) (w : World) (hp : w.cell? ⟨p, 0, none⟩ = some (.pointer (some ⟨s, 0, none⟩))) (hc : w.cell? ⟨s, 1, none⟩ = some (.int .i64 ((d + 1 : Nat) : Int))) (hf : w.frozen? ⟨s, 1, none⟩ = false) (hd : d ≤ 1000) :
    CallsD Try.prog 140 #[.pointer (some ⟨p, 0, none⟩)] u w fun e u' w' => u' = u ∧ (e = .returned (.tuple #[]) ∧ w' = w.setCell ⟨s, 1, none⟩ (.int .i64 (d : Int))) := by
  have hw : IntKind.i64.wrap (((d + 1 : Nat) : Int) - 1) = (d : Int) := by rw [IntKind.wrap_i64]; omega
  have he : ((d + 1 : Nat) : Int) - 1 = (d : Int) := by omega
  go_enter_d Try.func140, Try.ntmps140
  go_wp2_with fail
  go_end0
  first | exact ⟨rfl, rfl⟩ | (refine ⟨rfl, ?_⟩; rw [he])

end Go.Proofs.Ytipdfmedbcafpaa
end

section
/- The program's sorter of parts, by its contract: whatever finish it has. -/
namespace Go.Proofs.Ytipdfmedbcafpaa
open Go.RowKit P El Qk
set_option linter.unusedVariables false

/-- What a finish's call leaves. -/
def FinC (fin : Fin3) (d : Nat) (M : List Int) (g o n h : Nat) (Hp : Nat → World → Prop) (Qh : Nat → Prop) (W : World) (e : Ending) (w' : World) : Prop :=
  match fin d M with
  | some r => e = .returned (.bool true) ∧ Seg w' g o (ints r.1) ∧ Hp (h + r.2) w' ∧ SegB g o n Qh W w'
  | none => e = .returned (.bool false) ∧ Below W.heap.size W w'
/-- A finish: its function, what it counts and where. -/
structure FinW (ff : Nat) (lb : Array Value) (fin : Fin3) (Hp : Nat → World → Prop) (Qh : Nat → Prop) : Prop where
  ok : FinOk fin
  eg : ∀ args w, (callFunc ff args).run Try.prog w = .ok (.enter ff args) w
  frame : ∀ h w w', Hp h w → w.heap.size ≤ w'.heap.size → (∀ k, k < w.heap.size → Qh k → w'.heap[k]? = w.heap[k]?) → Hp h w'
  lt : ∀ h w k, Hp h w → Qh k → k < w.heap.size
  call : ∀ g o c n d h M W, OkL M → ¬ Qh g → Hp h W → Seg W g o (ints M) → M.length = n → n ≤ c → n ≤ 64 → h + n ≤ 500 → d ≤ 500 →
    Calls Try.prog ff (#[.slice (some ⟨g, o, none⟩) n c, .int .i64 (d : Int)] ++ lb) W (FinC fin d M g o n h Hp Qh W)
/-- What the sort of a part leaves. -/
def PsC (s g o n : Nat) (fv : Value) (d q h : Nat) (R : List Int × Nat × Nat) (Hp : Nat → World → Prop) (Qh : Nat → Prop) (w : World) (e : Ending) (w' : World) : Prop :=
  e = .returned (.tuple #[]) ∧ CellRow w' s (pst fv d (q + R.2.1)) ∧ Hp (h + R.2.2) w' ∧ Seg w' g o (ints R.1) ∧ SegB g o n (fun k => k = s ∨ Qh k) w w'

set_option maxRecDepth 100000 in
set_option maxHeartbeats 8000000 in
theorem psort_done {ff : Nat} {lb : Array Value} {fin : Fin3} {Hp : Nat → World → Prop} {Qh : Nat → Prop} (FW : FinW ff lb fin Hp Qh) (s g o c n d q h : Nat) (L M : List Int) (k : Nat) (w : World) (hok : OkL L)
    (hsq : ¬ Qh s) (hgs : g ≠ s) (hgq : ¬ Qh g) (hs : CellRow w s (pst (.func (.func ff) #[] lb) d q)) (hh : Hp h w) (hg : Seg w g o (ints L)) (hL : L.length = n) (h64 : n ≤ 64) (hc : n ≤ c) (hd : d ≤ 500) (hhn : h + n ≤ 500) (hfin : fin d L = some (M, k)) :
    Calls Try.prog 105 #[.pointer (some ⟨s, 0, none⟩), .slice (some ⟨g, o, none⟩) n c] w (PsC s g o n (.func (.func ff) #[] lb) d q h (M, 0, k) Hp Qh w) := by
  have eg := FW.eg
  obtain ⟨W1, hW1⟩ : ∃ W1, W1 = w.alloc (.cells #[.pointer (some ⟨s, 0, none⟩)] 136) := ⟨_, rfl⟩
  have hb1 : Below w.heap.size w W1 := by rw [hW1]; exact (Below.refl _ _).alloc (Nat.le_refl _) _
  have hp1 : CellRow W1 w.heap.size [.pointer (some ⟨s, 0, none⟩)] := by
    have hA : RowIs (w.alloc (.cells #[.pointer (some ⟨s, 0, none⟩)] 136)) w.heap.size 136 [.pointer (some ⟨s, 0, none⟩)] := heap_alloc_new w _
    rw [hW1]; exact CellRow.of_row hA
  have hs1 := hs.below hb1 hs.1
  have hg1 := hg.below hb1 hg.1
  have hh1 : Hp h W1 := FW.frame h w W1 hh hb1.size (fun k hk _ => hb1.block k hk)
  have HB1 : Hid (SegB g o n (fun k => k = s ∨ Qh k) w W1) := Lib.hid (SegB.ofBelow hb1 hg.1 _)
  have hcall := FW.call g o c n d h L (W1.drewN 1) hok hgq (FW.frame h W1 _ hh1 (Nat.le_refl _) (fun _ _ _ => rfl)) (hg1.drewN 1) hL hc h64 hhn hd
  have HCALL : Hid (Calls Try.prog ff (#[.slice (some ⟨g, o, none⟩) n c, .int .i64 (d : Int)] ++ lb) (W1.drewN 1) (fun e w' => e = .returned (.bool true) ∧ Seg w' g o (ints M) ∧ Hp (h + k) w' ∧ SegB g o n Qh (W1.drewN 1) w')) := Lib.hid (hcall.mono fun e w' hx => by
    unfold FinC at hx; rw [hfin] at hx; exact hx)
  have HS1 : Hid (CellRow (W1.drewN 1) s (pst (.func (.func ff) #[] lb) d q)) := Lib.hid (hs1.same rfl (Nat.le_refl _))
  have HSG : Hid (s ≠ g ∧ ¬ Qh s) := Lib.hid ⟨fun e => hgs e.symm, hsq⟩
  obtain ⟨hc0, hc1, _⟩ := pst_at hs1
  have hcp := (hp1.2 0 _ rfl).1
  have HW1 := Lib.hid hW1
  clear hs hh hg hL hfin hcall hh1 hg1 hp1 hb1 hs1 hW1 hgs hgq hsq hok
  go_enter_defers Try.func105, Try.ntmps105
  go_wp2_with fail
  rw [← HW1.out]
  go_still_tail 9, (by kernel_rfl)
  go_wp2_with (go_at_fn ff; refine (HCALL.out).mono ?_; rintro e w2 ⟨rfl, hg2, hh2, hb2⟩)
  have HRES : PsC s g o n (.func (.func ff) #[] lb) d q h (M, 0, k) Hp Qh w (.returned (.tuple #[])) w2 :=
    ⟨rfl, hb2.row HS1.out HSG.out.1 HSG.out.2, hh2, hg2, (HB1.out.drewN 1).trans (hb2.more (fun _ hk => .inr hk))⟩
  exact ⟨_, results_none rfl _ _ _, HRES⟩

/-- What holds on the way: the sorter's cells, its boxed address, the finish's count, the part, and what moved. -/
structure PsX (s p g o n : Nat) (cs : List Value) (h : Nat) (L : List Int) (Hp : Nat → World → Prop) (Qh : Nat → Prop) (w w' : World) : Prop where
  st : CellRow w' s cs
  pt : CellRow w' p [.pointer (some ⟨s, 0, none⟩)]
  hp : Hp h w'
  sg : Seg w' g o (ints L)
  b : SegB g o n (fun k => k = s ∨ Qh k) w w'
theorem PsX.store {s p g o n : Nat} {cs ds : List Value} {h : Nat} {L : List Int} {Hp : Nat → World → Prop} {Qh : Nat → Prop} {w w' : World} (H : PsX s p g o n cs h L Hp Qh w w')
    (fr : ∀ h w w', Hp h w → w.heap.size ≤ w'.heap.size → (∀ k, k < w.heap.size → Qh k → w'.heap[k]? = w.heap[k]?) → Hp h w') (hsg : s ≠ g) (hsq : ¬ Qh s) (hps : p ≠ s) (i : Nat) (u : Value) (hd : CellRow (w'.setCell ⟨s, i, none⟩ u) s ds) : PsX s p g o n ds h L Hp Qh w (w'.setCell ⟨s, i, none⟩ u) := by
  have hz : w'.heap.size ≤ (w'.setCell ⟨s, i, none⟩ u).heap.size := by simp
  exact ⟨hd, H.pt.same (Below.heap_setCell _ _ _ _ hps) hz, fr _ _ _ H.hp hz (fun k _ hk => Below.heap_setCell _ _ _ _ (fun e => hsq ((show k = s from e) ▸ hk))), H.sg.same (Below.heap_setCell _ _ _ _ (fun e => hsg e.symm)) hz, H.b.put s i u (.inl rfl) hsg⟩
theorem PsX.step {s p g o n : Nat} {cs : List Value} {h : Nat} {L M : List Int} {Hp : Nat → World → Prop} {Qh : Nat → Prop} {w w' w2 : World} (H : PsX s p g o n cs h L Hp Qh w w') (t : Nat)
    (fr : ∀ h w w', Hp h w → w.heap.size ≤ w'.heap.size → (∀ k, k < w.heap.size → Qh k → w'.heap[k]? = w.heap[k]?) → Hp h w') (hsg : s ≠ g) (hgq : ¬ Qh g) (hpg : p ≠ g) (hm : Seg w2 g o (ints M)) (hb : ButS g o n (w'.drewN t) w2) : PsX s p g o n cs h M Hp Qh w w2 :=
  ⟨H.st.same (hb.but.block s H.st.1 hsg) hb.but.size, H.pt.same (hb.but.block p H.pt.1 hpg) hb.but.size, fr _ _ _ H.hp hb.but.size (fun k hk hq => hb.but.block k hk (fun e => hgq (e ▸ hq))), hm, (H.b.drewN t).trans (hb.segB _)⟩

set_option maxRecDepth 100000 in
set_option maxHeartbeats 32000000 in
theorem psort_go {ff : Nat} {lb : Array Value} {fin : Fin3} {Hp : Nat → World → Prop} {Qh : Nat → Prop} (FW : FinW ff lb fin Hp Qh) (s g o c n d q h : Nat) (L M : List Int) (lt gt : Nat) (A B : List Int × Nat × Nat) (w : World) (hok : OkL L)
    (hsq : ¬ Qh s) (hgs : g ≠ s) (hgq : ¬ Qh g) (hs : CellRow w s (pst (.func (.func ff) #[] lb) d q)) (hh : Hp h w) (hg : Seg w g o (ints L)) (hL : L.length = n) (h2 : 2 ≤ n) (h64 : n ≤ 64) (hc : n ≤ c) (hd : d + n ≤ 500) (hqn : q + n ≤ 500) (hhn : h + n ≤ 500) (hfin : fin d L = none)
    (he : thF L (L.getD (medF L) 0) = (M, lt, gt)) (hlg : lt < gt) (hgn : gt ≤ n) (hML : M.length = n)
    (hA : A.1.length = lt ∧ A.2.1 ≤ lt ∧ A.2.2 ≤ lt) (hB : B.1.length = n - gt ∧ B.2.1 ≤ n - gt ∧ B.2.2 ≤ n - gt)
    (CA : ∀ W, CellRow W s (pst (.func (.func ff) #[] lb) (d + 1) (q + 1)) → Hp h W → Seg W g o (ints (M.take lt)) → Calls Try.prog 105 #[.pointer (some ⟨s, 0, none⟩), .slice (some ⟨g, o, none⟩) lt c] W (PsC s g o lt (.func (.func ff) #[] lb) (d + 1) (q + 1) h A Hp Qh W))
    (o2 c2 n3 : Nat) (hn3 : n3 = n - gt) (ho2 : (gt < c ∧ o2 = o + gt ∧ c2 = c - gt) ∨ (gt = c ∧ o = o2 ∧ 0 = c2))
    (CB : ∀ W, CellRow W s (pst (.func (.func ff) #[] lb) (d + 1) (q + 1 + A.2.1)) → Hp (h + A.2.2) W → Seg W g (o + gt) (ints (M.drop gt)) → Calls Try.prog 105 #[.pointer (some ⟨s, 0, none⟩), .slice (some ⟨g, o2, none⟩) n3 c2] W (fun e w' => e = .returned (.tuple #[]) ∧ CellRow w' s (pst (.func (.func ff) #[] lb) (d + 1) (q + 1 + A.2.1 + B.2.1)) ∧ Hp (h + A.2.2 + B.2.2) w' ∧ Seg w' g (o + gt) (ints B.1) ∧ SegB g (o + gt) (n - gt) (fun k => k = s ∨ Qh k) W w')) :
    Calls Try.prog 105 #[.pointer (some ⟨s, 0, none⟩), .slice (some ⟨g, o, none⟩) n c] w (PsC s g o n (.func (.func ff) #[] lb) d q h (sgJoin M lt gt A B) Hp Qh w) := by
  have eg := FW.eg
  have hpq : ¬ Qh w.heap.size := fun hq => by have := FW.lt h w _ hh hq; omega
  have hps : w.heap.size ≠ s := by have := hs.1; omega
  have hpg : w.heap.size ≠ g := by have := hg.1; omega
  obtain ⟨W1, hW1⟩ : ∃ W1, W1 = w.alloc (.cells #[.pointer (some ⟨s, 0, none⟩)] 136) := ⟨_, rfl⟩
  have hb1 : Below w.heap.size w W1 := by rw [hW1]; exact (Below.refl _ _).alloc (Nat.le_refl _) _
  have hp1 : CellRow W1 w.heap.size [.pointer (some ⟨s, 0, none⟩)] := by
    have hA : RowIs (w.alloc (.cells #[.pointer (some ⟨s, 0, none⟩)] 136)) w.heap.size 136 [.pointer (some ⟨s, 0, none⟩)] := heap_alloc_new w _
    rw [hW1]; exact CellRow.of_row hA
  have hs1 := hs.below hb1 hs.1
  have hg1 := hg.below hb1 hg.1
  have hh1 : Hp h W1 := FW.frame h w W1 hh hb1.size (fun k hk _ => hb1.block k hk)
  have HB1 : Hid (SegB g o n (fun k => k = s ∨ Qh k) w W1) := Lib.hid (SegB.ofBelow hb1 hg.1 _)
  have hcall := FW.call g o c n d h L (W1.drewN 1) hok hgq (FW.frame h W1 _ hh1 (Nat.le_refl _) (fun _ _ _ => rfl)) (hg1.drewN 1) hL hc h64 hhn (by omega)
  have HCALL : Hid (Calls Try.prog ff (#[.slice (some ⟨g, o, none⟩) n c, .int .i64 (d : Int)] ++ lb) (W1.drewN 1) (fun e w' => e = .returned (.bool false) ∧ Below (W1.drewN 1).heap.size (W1.drewN 1) w')) := Lib.hid (hcall.mono fun e w' hx => by
    unfold FinC at hx; rw [hfin] at hx; exact hx)
  have HS1 : Hid (CellRow (W1.drewN 1) s (pst (.func (.func ff) #[] lb) d q)) := Lib.hid (hs1.same rfl (Nat.le_refl _))
  have HP1 : Hid (CellRow (W1.drewN 1) w.heap.size [.pointer (some ⟨s, 0, none⟩)]) := Lib.hid (hp1.same rfl (Nat.le_refl _))
  have HH1 : Hid (Hp h (W1.drewN 1)) := Lib.hid (FW.frame h W1 _ hh1 (Nat.le_refl _) (fun _ _ _ => rfl))
  have HG1 : Hid (Seg (W1.drewN 1) g o (ints L)) := Lib.hid (hg1.drewN 1)
  obtain ⟨p, hpe⟩ : ∃ p, p = w.heap.size := ⟨_, rfl⟩
  rw [← hpe] at HP1 hp1 hpq hps hpg
  have HFR := Lib.hid FW.frame
  have HSG : Hid (s ≠ g ∧ ¬ Qh s ∧ ¬ Qh g ∧ p ≠ s ∧ p ≠ g ∧ ¬ Qh p ∧ g ≠ s ∧ w.heap.size = p) := Lib.hid ⟨fun e => hgs e.symm, hsq, hgq, hps, hpg, hpq, hgs, hpe.symm⟩
  obtain ⟨md, hmd⟩ : ∃ md, md = medF L := ⟨_, rfl⟩
  have hmdl : md < n := by rw [hmd]; have := medF_lt (L := L) (by omega); omega
  obtain ⟨x, hxe⟩ : ∃ x, x = L.getD md 0 := ⟨_, rfl⟩
  have HMED := Lib.hid (fun W (hW : Seg W g o (ints L)) => imedR_any (c := c) W hW.rd hL (by omega) (by omega))
  rw [← hmd] at HMED he
  rw [← hxe] at he
  have HTH := Lib.hid (fun (W : World) (h : Seg W g o (ints L)) => ithree_any (c := c) x W h hL (by omega))
  rw [he] at HTH
  simp only at HTH
  have HX : Hid (∀ W, Seg W g o (ints L) → W.cell? ⟨g, o + md, none⟩ = some (.int .i64 x)) := Lib.hid (fun W hW => by rw [hxe]; exact (hW.at (by omega)).1)
  have HPA : Hid (∀ W, Seg W g o (ints M) → Seg W g o (ints (M.take lt)) ∧ Seg W g (o + gt) (ints (M.drop gt))) := Lib.hid (fun W hW => by
    obtain ⟨e1, _, e3⟩ := hW.parts (by omega : lt ≤ gt) (by omega); exact ⟨e1, e3⟩)
  have HJOIN : Hid (∀ w2 w3 w4, Seg w2 g o (ints M) → Seg w3 g o (ints A.1) → SegB g o lt (fun k => k = s ∨ Qh k) w2 w3 → Seg w4 g (o + gt) (ints B.1) → SegB g (o + gt) (n - gt) (fun k => k = s ∨ Qh k) w3 w4 → Seg w4 g o (ints (sgJoin M lt gt A B).1) ∧ SegB g o n (fun k => k = s ∨ Qh k) w2 w4) :=
    Lib.hid (fun w2 w3 w4 a b c d e => Seg.threeB a hML (by omega) hgn hA.1 hB.1 b c d e)
  have HSJ : Hid (q + (sgJoin M lt gt A B).2.1 = q + 1 + A.2.1 + B.2.1 ∧ h + (sgJoin M lt gt A B).2.2 = h + A.2.2 + B.2.2) := Lib.hid ⟨by unfold sgJoin; simp only; omega, by unfold sgJoin; simp only; omega⟩
  have HDL : Hid ((ints (M.drop gt)).length = n - gt) := Lib.hid (by rw [ints_length, List.length_drop]; omega)
  have HCA := Lib.hid CA
  have HCB := Lib.hid CB
  obtain ⟨hc0, hc1, _⟩ := pst_at hs1
  have hcp := (hp1.2 0 _ rfl).1
  have HW1 := Lib.hid hW1
  have hdb : d ≤ 500 := by omega
  have hqb : q ≤ 500 := by omega
  have HHO := Lib.hid ho2
  have HN3 := Lib.hid hn3
  have HPE := Lib.hid hpe
  have HST2 : Hid (∀ w2, Below (W1.drewN 1).heap.size (W1.drewN 1) w2 → PsX s p g o n (pst (.func (.func ff) #[] lb) d q) h L Hp Qh w w2) := Lib.hid (fun w2 hb =>
    ⟨HS1.out.below hb HS1.out.1, HP1.out.below hb HP1.out.1, HFR.out _ _ _ HH1.out hb.size (fun k hk _ => hb.block k hk), HG1.out.below hb HG1.out.1, (HB1.out.drewN 1).trans (SegB.ofBelow hb HG1.out.1 _)⟩)
  have hltc : (lt : Int) ≤ (c : Int) := by omega
  have hltn : (lt : Int) ≤ (n : Int) := by omega
  have hgtn : (gt : Int) ≤ (n : Int) := by omega
  have hgtc : (gt : Int) ≤ (c : Int) := by omega
  have hmdz : (md : Int) < (n : Int) := by omega
  have hncz : (n : Int) ≤ (c : Int) := by omega
  have hmdb := lb
  clear hok hmdb hs hh hg hL hfin hcall hh1 hg1 hp1 hb1 hs1 hW1 hgs hgq hsq CA CB hxe hmd hhn hpe HS1 HP1 HH1 HG1 HB1 he hML hA hB ho2 hn3 hqn hd
  go_enter_defers Try.func105, Try.ntmps105
  go_wp2_with fail
  rw [← HW1.out, ← HPE.out]
  go_still_tail 9, (by kernel_rfl)
  go_wp2_with (go_at_fn ff; refine (HCALL.out).mono ?_; rintro e w2 ⟨rfl, hb2⟩; have HW2 := Lib.hid (HST2.out w2 hb2); clear hb2 HST2 HCALL eg; obtain ⟨_, hd1, hd2, hf1, hf2⟩ := pst_at HW2.out.st; have hdp := (HW2.out.pt.2 0 _ rfl).1)
  have HW3 : Hid (PsX s p g o n (pst (.func (.func ff) #[] lb) (d + 1) q) h L Hp Qh w (w2.setCell ⟨s, 1, none⟩ (.int .i64 ((d : Int) + 1)))) := Lib.hid (HW2.out.store HFR.out HSG.out.1 HSG.out.2.1 HSG.out.2.2.2.1 1 _ (pst_depth HW2.out.st (d + 1)))
  generalize w2.setCell ⟨s, 1, none⟩ (.int .i64 ((d : Int) + 1)) = W3 at HW3 ⊢
  clear hd1 hd2 hf1 hf2 hdp HW2
  refine (HMED.out _ HW3.out.sg).mono ?_
  rintro e w4 ⟨rfl, t, rfl⟩
  have hx4 := HX.out _ (HW3.out.sg.drewN t)
  clear HMED HX
  go_wp2_with fail
  refine (HTH.out _ (HW3.out.sg.drewN t)).mono ?_
  rintro e w5 ⟨rfl, hg5, hb5⟩
  have HW5 : Hid (PsX s p g o n (pst (.func (.func ff) #[] lb) (d + 1) q) h M Hp Qh w w5) := Lib.hid (HW3.out.step t HFR.out HSG.out.1 HSG.out.2.2.1 HSG.out.2.2.2.2.1 hg5 hb5)
  obtain ⟨_, hd1, hd2, hf1, hf2⟩ := pst_at HW5.out.st
  have hdp := (HW5.out.pt.2 0 _ rfl).1
  clear hg5 hb5 HTH HW3 hx4
  go_wp2_with fail
  have HW6 : Hid (PsX s p g o n (pst (.func (.func ff) #[] lb) (d + 1) (q + 1)) h M Hp Qh w (w5.setCell ⟨s, 2, none⟩ (.int .i64 ((q : Int) + 1)))) := Lib.hid (HW5.out.store HFR.out HSG.out.1 HSG.out.2.1 HSG.out.2.2.2.1 2 _ (pst_steps HW5.out.st (q + 1)))
  generalize w5.setCell ⟨s, 2, none⟩ (.int .i64 ((q : Int) + 1)) = W6 at HW6 ⊢
  clear hd1 hd2 hf1 hf2 hdp HW5
  have hdp := (HW6.out.pt.2 0 _ rfl).1
  go_still_tail 4, (by kernel_rfl)
  go_wp2_with fail
  refine (HCA.out (W6.drewN 1) (HW6.out.st.same rfl (Nat.le_refl _)) (HFR.out _ _ _ HW6.out.hp (Nat.le_refl _) (fun _ _ _ => rfl)) ((HPA.out _ (HW6.out.sg.drewN 1)).1)).mono ?_
  rintro e w7 ⟨rfl, hs7, hh7, hg7, hb7⟩
  have hnp : ¬ (p = s ∨ Qh p) := fun e => e.elim HSG.out.2.2.2.1 HSG.out.2.2.2.2.2.1
  have HP7 : Hid (CellRow w7 p [.pointer (some ⟨s, 0, none⟩)]) := Lib.hid (hb7.row (HW6.out.pt.same (w' := W6.drewN 1) rfl (Nat.le_refl _)) HSG.out.2.2.2.2.1 hnp)
  have HG7 : Hid (Seg w7 g (o + gt) (ints (M.drop gt))) := Lib.hid (((HPA.out _ (HW6.out.sg.drewN 1)).2).keepB hb7 (.inr (by omega)))
  have HS7 := Lib.hid hs7
  have HH7 := Lib.hid hh7
  have HA7 := Lib.hid hg7
  have HB7 := Lib.hid hb7
  have HNP := Lib.hid hnp
  have hdp7 := (HP7.out.2 0 _ rfl).1
  clear hs7 hh7 hg7 hb7 hdp hnp HCA
  go_wp2_with fail
  rcases HHO.out with ⟨h1, e1, e2⟩ | ⟨h1, e1, e2⟩
  · have e3 := HN3.out
    subst e1
    subst e2
    subst e3
    have hgc : (gt : Int) < (c : Int) := by omega
    have hgc2 : ¬ gt = c := by omega
    have hgc3 : ¬ c = gt := by omega
    clear HHO
    go_still_tail 4, (by kernel_rfl)
    go_wp2_with fail
    refine (HCB.out (w7.drewN 1) (HS7.out.same rfl (Nat.le_refl _)) (HFR.out _ _ _ HH7.out (Nat.le_refl _) (fun _ _ _ => rfl)) (HG7.out.drewN 1)).mono ?_
    rintro e w8 ⟨rfl, hs8, hh8, hg8, hb8⟩
    have HP8 : Hid (CellRow w8 p [.pointer (some ⟨s, 0, none⟩)]) := Lib.hid (hb8.row (HP7.out.same (w' := w7.drewN 1) rfl (Nat.le_refl _)) HSG.out.2.2.2.2.1 HNP.out)
    have HRES : Hid (PsC s g o n (.func (.func ff) #[] lb) d q h (sgJoin M lt gt A B) Hp Qh w (.returned (.tuple #[])) (w8.setCell ⟨s, 1, none⟩ (.int .i64 (d : Int)))) := Lib.hid (by
      have hz : w8.heap.size ≤ (w8.setCell ⟨s, 1, none⟩ (.int .i64 (d : Int))).heap.size := by simp
      obtain ⟨j1, j2⟩ := HJOIN.out (W6.drewN 1) w7 w8 (HW6.out.sg.drewN 1) HA7.out HB7.out hg8 ((SegB.refl _ _ _ _ w7).drewN 1 |>.trans hb8)
      refine ⟨rfl, by rw [HSJ.out.1]; exact pst_depth hs8 d, by rw [HSJ.out.2]; exact HFR.out _ _ _ hh8 hz (fun k _ hk => Below.heap_setCell _ _ _ _ (fun e => HSG.out.2.1 ((show k = s from e) ▸ hk))), j1.same (Below.heap_setCell _ _ _ _ (fun e => HSG.out.1 e.symm)) hz, (((HW6.out.b.drewN 1).trans j2).put s 1 _ (.inl rfl) HSG.out.1)⟩)
    obtain ⟨_, k1, _, k2, _⟩ := pst_at hs8
    have k3 := (HP8.out.2 0 _ rfl).1
    clear hs8 hh8 hg8 hb8
    go_wp2_with fail
    refine leaves_cons (f := 140) (args := #[.pointer (some ⟨p, 0, none⟩)]) (by simp) (by simp [go_sem]) ?_
    refine (psback p s d .returning _ k3 k1 k2 (by omega)).mono ?_
    rintro e u' w9 ⟨rfl, rfl, rfl⟩
    exact ⟨_, results_none rfl _ _ _, HRES.out⟩
  · have e3 : n3 = 0 := by have := HN3.out; omega
    subst e1
    subst e2
    subst e3
    subst h1
    clear HHO
    go_still_tail 4, (by kernel_rfl)
    go_wp2_with fail
    refine (HCB.out (w7.drewN 1) (HS7.out.same rfl (Nat.le_refl _)) (HFR.out _ _ _ HH7.out (Nat.le_refl _) (fun _ _ _ => rfl)) (HG7.out.drewN 1)).mono ?_
    rintro e w8 ⟨rfl, hs8, hh8, hg8, hb8⟩
    have HP8 : Hid (CellRow w8 p [.pointer (some ⟨s, 0, none⟩)]) := Lib.hid (hb8.row (HP7.out.same (w' := w7.drewN 1) rfl (Nat.le_refl _)) HSG.out.2.2.2.2.1 HNP.out)
    have HRES : Hid (PsC s g o n (.func (.func ff) #[] lb) d q h (sgJoin M lt gt A B) Hp Qh w (.returned (.tuple #[])) (w8.setCell ⟨s, 1, none⟩ (.int .i64 (d : Int)))) := Lib.hid (by
      have hz : w8.heap.size ≤ (w8.setCell ⟨s, 1, none⟩ (.int .i64 (d : Int))).heap.size := by simp
      obtain ⟨j1, j2⟩ := HJOIN.out (W6.drewN 1) w7 w8 (HW6.out.sg.drewN 1) HA7.out HB7.out hg8 ((SegB.refl _ _ _ _ w7).drewN 1 |>.trans hb8)
      refine ⟨rfl, by rw [HSJ.out.1]; exact pst_depth hs8 d, by rw [HSJ.out.2]; exact HFR.out _ _ _ hh8 hz (fun k _ hk => Below.heap_setCell _ _ _ _ (fun e => HSG.out.2.1 ((show k = s from e) ▸ hk))), j1.same (Below.heap_setCell _ _ _ _ (fun e => HSG.out.1 e.symm)) hz, (((HW6.out.b.drewN 1).trans j2).put s 1 _ (.inl rfl) HSG.out.1)⟩)
    obtain ⟨_, k1, _, k2, _⟩ := pst_at hs8
    have k3 := (HP8.out.2 0 _ rfl).1
    clear hs8 hh8 hg8 hb8
    go_wp2_with fail
    refine leaves_cons (f := 140) (args := #[.pointer (some ⟨p, 0, none⟩)]) (by simp) (by simp [go_sem]) ?_
    refine (psback p s d .returning _ k3 k1 k2 (by omega)).mono ?_
    rintro e u' w9 ⟨rfl, rfl, rfl⟩
    exact ⟨_, results_none rfl _ _ _, HRES.out⟩

end Go.Proofs.Ytipdfmedbcafpaa
end

section
/- The program's sorter of parts, by induction; QuickSort, by its contract. -/
namespace Go.Proofs.Ytipdfmedbcafpaa
open Go.RowKit P El Qk
set_option linter.unusedVariables false

theorem psort_any {ff : Nat} {lb : Array Value} {fin : Fin3} {Hp : Nat → World → Prop} {Qh : Nat → Prop} (FW : FinW ff lb fin Hp Qh) (s : Nat) (hsq : ¬ Qh s) :
    ∀ (f g o c n d q h : Nat) (L : List Int) (w : World), OkL L → g ≠ s → ¬ Qh g → CellRow w s (pst (.func (.func ff) #[] lb) d q) → Hp h w → Seg w g o (ints L) → L.length = n → n ≤ f → n ≤ 64 → n ≤ c → d + n ≤ 500 → q + n ≤ 500 → h + n ≤ 500 →
    Calls Try.prog 105 #[.pointer (some ⟨s, 0, none⟩), .slice (some ⟨g, o, none⟩) n c] w (PsC s g o n (.func (.func ff) #[] lb) d q h (sg fin f d L) Hp Qh w) := by
  intro f
  induction f with
  | zero =>
    intro g o c n d q h L w hok hgs hgq hs hh hg hL hf h64 hc hd hq hhn
    obtain ⟨⟨M, k⟩, hr⟩ := FW.ok.small d L (by omega)
    rw [sg_done hr]
    exact psort_done FW s g o c n d q h L M k w hok hsq hgs hgq hs hh hg hL h64 hc (by omega) hhn hr
  | succ f ih =>
    intro g o c n d q h L w hok hgs hgq hs hh hg hL hf h64 hc hd hq hhn
    cases e : fin d L with
    | some r =>
      obtain ⟨M, k⟩ := r
      rw [sg_done e]
      exact psort_done FW s g o c n d q h L M k w hok hsq hgs hgq hs hh hg hL h64 hc (by omega) hhn e
    | none =>
      have h2 := FW.ok.two e
      have hm := getD_mem (medF_lt (L := L) (by omega))
      have ht := thF_spec L (L.getD (medF L) 0)
      have hx := thF_some hm
      obtain ⟨⟨M, lt, gt⟩, he⟩ : ∃ T, thF L (L.getD (medF L) 0) = T := ⟨_, rfl⟩
      rw [he] at ht hx
      simp only at ht hx
      rw [sg_go e he]
      obtain ⟨p1, p2⟩ := part_lens ht
      have a3 := ht.h3
      have hML := ht.perm.length_eq
      obtain ⟨b1, b2, b3⟩ := sg_spec FW.ok f (d + 1) (M.take lt) (by omega)
      obtain ⟨c1, c2, c3⟩ := sg_spec FW.ok f (d + 1) (M.drop gt) (by omega)
      have okA : OkL (M.take lt) := ⟨by omega, fun x hx => hok.2 x (ht.perm.mem_iff.1 (List.mem_of_mem_take hx))⟩
      have okB : OkL (M.drop gt) := ⟨by omega, fun x hx => hok.2 x (ht.perm.mem_iff.1 (List.mem_of_mem_drop hx))⟩
      have CA := fun W (x1 : CellRow W s (pst (.func (.func ff) #[] lb) (d + 1) (q + 1))) (x2 : Hp h W) (x3 : Seg W g o (ints (M.take lt))) => ih g o c lt (d + 1) (q + 1) h (M.take lt) W okA hgs hgq x1 x2 x3 p1 (by omega) (by omega) (by omega) (by omega) (by omega) (by omega)
      generalize hA : sg fin f (d + 1) (M.take lt) = A at *
      generalize hB : sg fin f (d + 1) (M.drop gt) = B at *
      by_cases hgc : gt < c
      · refine psort_go FW s g o c n d q h L M lt gt A B w hok hsq hgs hgq hs hh hg hL (by omega) h64 hc hd hq hhn e he hx (by omega) (by omega) ⟨by omega, by omega, by omega⟩ ⟨by omega, by omega, by omega⟩ CA (o + gt) (c - gt) (n - gt) rfl (.inl ⟨hgc, rfl, rfl⟩) (fun W x1 x2 x3 => ?_)
        have := ih g (o + gt) (c - gt) (n - gt) (d + 1) (q + 1 + A.2.1) (h + A.2.2) (M.drop gt) W okB hgs hgq x1 x2 x3 (by omega) (by omega) (by omega) (by omega) (by omega) (by omega) (by omega)
        rw [hB] at this
        exact this
      · have hgn : gt = n := by omega
        refine psort_go FW s g o c n d q h L M lt gt A B w hok hsq hgs hgq hs hh hg hL (by omega) h64 hc hd hq hhn e he hx (by omega) (by omega) ⟨by omega, by omega, by omega⟩ ⟨by omega, by omega, by omega⟩ CA o 0 (n - gt) rfl (.inr ⟨by omega, rfl, rfl⟩) (fun W x1 x2 x3 => ?_)
        have hz : n - gt = 0 := by omega
        have hnil : M.drop gt = [] := List.eq_nil_of_length_eq_zero (by omega)
        have hBn : B.1 = [] := List.eq_nil_of_length_eq_zero (by omega)
        have := ih g o 0 0 (d + 1) (q + 1 + A.2.1) (h + A.2.2) (M.drop gt) W okB hgs hgq x1 x2 (by rw [hnil]; exact Seg.nil x3.1) (by omega) (by omega) (by omega) (by omega) (by omega) (by omega) (by omega)
        rw [hB] at this
        rw [hz]
        refine this.mono ?_
        rintro e w' ⟨y1, y2, y3, y4, y5⟩
        exact ⟨y1, y2, y3, by rw [hBn]; exact Seg.nil y4.1, y5.zero⟩

/-- Quicksort's finish. -/
theorem finQ_w : FinW 104 #[] finQ (fun _ _ => True) (fun _ => False) where
  ok := finQ_ok
  eg := enters_of Try.func104 (by kernel_rfl) rfl
  frame := fun _ _ _ _ _ _ => trivial
  lt := fun _ _ _ _ h => h.elim
  call := by
    intro g o c n d h M W _ _ _ hg hM hc h64 _ hd
    by_cases hs : n < 2
    · have HRES : Hid (FinC finQ d M g o n h (fun _ _ => True) (fun _ => False) W (.returned (.bool true)) W) := Lib.hid (by
        unfold FinC finQ; rw [if_pos (by omega)]; exact ⟨rfl, hg, trivial, SegB.refl _ _ _ _ _⟩)
      have hz : (n : Int) < 2 := by omega
      have hzd : decide ((n : Int) < 2) = true := decide_eq_true hz
      clear hg hM
      go_enter Try.func104, Try.ntmps104
      go_wp2_with fail
      go_ret
      exact HRES.out
    · have HRES : Hid (FinC finQ d M g o n h (fun _ _ => True) (fun _ => False) W (.returned (.bool false)) W) := Lib.hid (by
        unfold FinC finQ; rw [if_neg (by omega)]; exact ⟨rfl, Below.refl _ _⟩)
      have hz : ¬ (n : Int) < 2 := by omega
      have hzd : decide ((n : Int) < 2) = false := decide_eq_false hz
      clear hg hM
      go_enter Try.func104, Try.ntmps104
      go_wp2_with fail
      go_ret
      exact HRES.out

set_option maxRecDepth 100000 in
set_option maxHeartbeats 4000000 in
theorem implQk_any (b o c : Nat) (l : List Int) (w : World) (hv : FlatAt w (.slice (some ⟨b, o, none⟩) l.length c) l.length (ints l)) (hn : l.length ≤ 1048576) :
    Calls Try.prog 48 #[.slice (some ⟨b, o, none⟩) l.length c] w (RetI1 (qsAll l) w) := by
  have HV := Lib.hid (implValidList_any _ l w hv hn)
  have HNONE : Hid (¬ OkL l → ∀ w1, Below w.heap.size w w1 → RetI1 (qsAll l) w (.returned (.tuple #[.slice (some ⟨w1.heap.size, 0, none⟩) 0 0, .int .i64 0, .bool false])) (w1.alloc (.cells #[] 3))) := Lib.hid (fun h w1 hb => by rw [qsAll_no h]; exact RetI1.none w w1 hb)
  by_cases hok : OkL l
  · rw [decide_eq_true hok] at HV
    have HF := Lib.hid (qsAll_yes hok)
    have h64 := hok.1
    have HOWN := Lib.hid (fun W (h : FlatAt W (.slice (some ⟨b, o, none⟩) l.length c) l.length (ints l)) => cloneInts_any b o c l W h hn)
    have HSQ : Hid (sg finQ l.length 0 l = ((qsF l).1, (qsF l).2, 0)) := Lib.hid (sg_qs _ 0 l (Nat.le_refl _))
    have HLN : Hid ((qsF l).1.length = l.length) := Lib.hid (by rw [(qsF_spec l).1, srt_length])
    have HPS := Lib.hid (fun (s g cap : Nat) W (hgs : g ≠ s) (hs : CellRow W s (pst (.func (.func 104) #[] #[]) 0 0)) (h : CellRow W g (ints l)) (hc : l.length ≤ cap) => by
      have := psort_any finQ_w s (fun h => h) l.length g 0 cap l.length 0 0 0 l W hok hgs (fun h => h) hs trivial (Seg.of_row h) rfl (Nat.le_refl _) h64 hc (by omega) (by omega) (by omega)
      rw [HSQ.out] at this; exact this)
    have HFV := Lib.hid hv
    generalize qsF l = R at *
    obtain ⟨M, q⟩ := R
    simp only at HF HPS HLN
    clear hok hv HNONE HSQ
    go_enter Try.func48, Try.ntmps48
    go_wp2_with fail
    refine HV.out.mono ?_
    rintro e w1 ⟨rfl, hb1⟩
    have HV1 := Lib.hid (HFV.out.below hb1)
    have HB1 := Lib.hid hb1
    clear hb1 HV HFV
    go_wp2_with fail
    refine (HOWN.out _ HV1.out).mono ?_
    rintro e w2 ⟨g, cap, rfl, hcap, hg, hrow, hb2⟩
    have HG : Hid (w.heap.size ≤ g) := Lib.hid (Nat.le_trans HB1.out.size hg)
    have HCAP := Lib.hid hcap
    have HB2 := Lib.hid (HB1.out.trans (hb2.mono HB1.out.size))
    have HR2 := Lib.hid hrow
    clear hb2 hrow HOWN HV1 hg hcap HB1
    go_wp2_with fail
    have hA : RowIs (w2.alloc (.cells #[.func (.func 104) #[] #[], .int .i64 0, .int .i64 0] 112)) w2.heap.size 112 (pst (.func (.func 104) #[] #[]) 0 0) := heap_alloc_new w2 _
    have hb3 : Below w2.heap.size w2 (w2.alloc (.cells #[.func (.func 104) #[] #[], .int .i64 0, .int .i64 0] 112)) := (Below.refl _ _).alloc (Nat.le_refl _) _
    have hgs : g ≠ w2.heap.size := by have := HR2.out.1; omega
    have HS := Lib.hid (HPS.out w2.heap.size g cap _ hgs (CellRow.of_row hA) (HR2.out.below hb3 HR2.out.1) HCAP.out)
    have HB3 : Hid (Below w.heap.size w (w2.alloc (.cells #[.func (.func 104) #[] #[], .int .i64 0, .int .i64 0] 112))) := Lib.hid (HB2.out.trans (hb3.mono HB2.out.size))
    have HW2 : Hid (w.heap.size ≤ w2.heap.size) := Lib.hid HB2.out.size
    clear hA hb3 hgs HPS HR2 HB2
    refine HS.out.mono ?_
    rintro e w4 ⟨rfl, hs4, _, hr4, hb4⟩
    have hr4' := hr4.row
    have HRES : Hid (∀ t, RetI1 (qsAll l) w (.returned (.tuple #[.slice (some ⟨g, 0, none⟩) l.length cap, .int .i64 (q : Int), .bool true])) (w4.drewN t)) := Lib.hid (fun t => by
      rw [HF.out]
      refine ⟨g, cap, by simp only; rw [HLN.out], by simp only; rw [HLN.out]; exact HCAP.out, HG.out, hr4'.same rfl (Nat.le_refl _), (HB3.out.trans (hb4.below HG.out (fun k hk => ?_) HB3.out.size)).trans ⟨rfl, rfl, rfl, Nat.le_refl _, fun _ _ => rfl⟩⟩
      rcases hk with hk | hk
      · have := HW2.out; omega
      · exact hk.elim)
    have hq4 : w4.cell? ⟨w2.heap.size, 2, none⟩ = some (.int .i64 (q : Int)) := by have := (pst_at hs4).2.2.1; simp only [Nat.zero_add] at this; exact this
    clear hs4 hr4 hb4 hr4' HS
    go_wp2_with fail
    go_quiet (fail)
    go_wp2_with fail
    go_ret3
    exact HRES.out _
  · rw [decide_eq_false hok] at HV
    have HN := Lib.hid (HNONE.out hok)
    clear hok HNONE hv
    go_enter Try.func48, Try.ntmps48
    go_wp2_with fail
    refine HV.out.mono ?_
    rintro e w1 ⟨rfl, hb1⟩
    have HRES := Lib.hid (HN.out w1 hb1)
    clear hb1 HV HN
    go_wp2_with fail
    go_ret3
    exact HRES.out

end Go.Proofs.Ytipdfmedbcafpaa
end

section
/- The program's sorts in place of a part: by insertion, by a heap. -/
namespace Go.Proofs.Ytipdfmedbcafpaa
open Go.RowKit P El Qk
set_option linter.unusedVariables false

/-- The built-in copy under a name that the walk does not open. -/
def heldCopyS (ats : Array TypeId) (ty : TypeId) (args : Array Value) : Sem Value := Builtin.copy_ ats ty args
theorem builtin_copy_heldS (ats : Array TypeId) (ty : TypeId) (cs : Array Bool) (args : Array Value) : builtin .copy ats ty cs args = (do pure (.value (← heldCopyS ats ty args))) := rfl

theorem seg_cells {g o : Nat} : ∀ (vs : List Value) (o2 : Nat) (w a : World) (n : Nat), ButS g o n a w → o ≤ o2 → o2 + vs.length ≤ o + n → ButS g o n a (w.setCells g o2 vs)
  | [], o2, w, a, n, h, _, _ => by simpa [World.setCells] using h
  | v :: vs, o2, w, a, n, h, h1, h2 => by
    show ButS g o n a ((w.setCell ⟨g, o2, none⟩ v).setCells g (o2 + 1) vs)
    simp only [List.length_cons] at h2
    have h3 := h.setCell (o2 - o) v (by omega)
    rw [show o + (o2 - o) = o2 by omega] at h3
    exact seg_cells vs (o2 + 1) _ a n h3 (by omega) (by omega)
/-- A part of a row takes a list of its length. -/
theorem copy_seg {g o n c g2 c2 : Nat} {L S : List Int} {W : World} (h : Seg W g o (ints L)) (hL : L.length = n) (h2 : CellRow W g2 (ints S)) (hS : S.length = n) (ty : TypeId) :
    (heldCopyS #[26, 26] ty #[.slice (some ⟨g, o, none⟩) n c, .slice (some ⟨g2, 0, none⟩) n c2]).run Try.prog W = .ok (goInt (n : Int)) (W.setCells g o (ints S)) ∧ Seg (W.setCells g o (ints S)) g o (ints S) ∧ ButS g o n W (W.setCells g o (ints S)) := by
  have hinfo : (Try.prog.info? 3).map (·.size) = some 1 := by kernel_rfl
  have hc : ∀ j, j < (ints S).length → (W.cell? ⟨g, o + j, none⟩).isSome = true := fun j hj => by rw [ints_length, hS] at hj; rw [(h.at (k := j) (by omega)).1]; rfl
  have hf : ∀ j, j < (ints S).length → W.frozen? ⟨g, o + j, none⟩ = false := fun j hj => by rw [ints_length, hS] at hj; exact (h.at (k := j) (by omega)).2
  refine ⟨?_, ⟨Nat.lt_of_lt_of_le h.1 (seg_cells (ints S) o W W n (ButS.refl _ _ _ _) (Nat.le_refl _) (by rw [ints_length]; omega)).but.size, fun j u hu => ⟨?_, ?_⟩⟩, seg_cells (ints S) o W W n (ButS.refl _ _ _ _) (Nat.le_refl _) (by rw [ints_length]; omega)⟩
  · unfold heldCopyS
    have := run_copy_cells (P := Try.prog) W 26 26 ty 3 g o n c ⟨g2, 0, none⟩ n c2 (ints S) Try.underlying26 hinfo (by rw [ints_length, hS]; exact (Nat.min_self _).symm)
      (fun j v hj => by
        have e : (⟨g2, 0, none⟩ : Addr).add j = ⟨g2, j, none⟩ := by
          unfold Addr.add; split
          · rename_i hh; subst hh; rfl
          · simp
        rw [e]
        exact (h2.2 j v hj).1)
      hc hf (fun v hv => by unfold ints at hv; obtain ⟨p, _, rfl⟩ := List.mem_map.1 hv; rfl)
    rw [this, ints_length, hS]
  · obtain ⟨hj, he⟩ := List.getElem?_eq_some_iff.1 hu
    have := World.cell?_setCells_in g (ints S) o W hc j hj
    rw [this, he]
  · have hj := (List.getElem?_eq_some_iff.1 hu).1
    rw [World.frozen?_setCells]; exact hf j hj

attribute [local go_sem ↓ high] builtin_copy_heldS

/-- A sorted copy of a part, its numbers of no account. -/
def CopC2 (n : Nat) (S : List Int) (w : World) (e : Ending) (w' : World) : Prop :=
  ∃ g c, ∃ q1 q2, e = .returned (.tuple #[.slice (some ⟨g, 0, none⟩) n c, .int .i64 q1, .int .i64 q2, .bool true]) ∧ CellRow w' g (ints S) ∧ Below w.heap.size w w'
def CopC1 (n : Nat) (S : List Int) (w : World) (e : Ending) (w' : World) : Prop :=
  ∃ g c, ∃ q1, e = .returned (.tuple #[.slice (some ⟨g, 0, none⟩) n c, .int .i64 q1, .bool true]) ∧ CellRow w' g (ints S) ∧ Below w.heap.size w w'

set_option maxRecDepth 100000 in
set_option maxHeartbeats 4000000 in
theorem iins_place (g o c n : Nat) (L : List Int) (w : World) (h : Seg w g o (ints L)) (hL : L.length = n) (hok : OkL L) (hc : n ≤ c) :
    Calls Try.prog 110 #[.slice (some ⟨g, o, none⟩) n c] w fun e w' => e = .returned (.tuple #[]) ∧ SegP g o n (srt L) w w' := by
  have hi := implIns_any g o c L w (h.flat (by rw [hL]; exact hc)) (by have := hok.1; omega)
  have hSL : (srt L).length = n := by rw [srt_length]; exact hL
  rw [insAll_yes hok, hL] at hi
  have HI : Hid (Calls Try.prog 141 #[.slice (some ⟨g, o, none⟩) n c] w (CopC2 n (srt L) w)) := Lib.hid (hi.mono fun e w' hx => by
    obtain ⟨g2, c2, he, _, _, hr, hb⟩ := hx
    simp only at he
    rw [hSL] at he
    exact ⟨g2, c2, _, _, he, hr, hb⟩)
  have HSL := Lib.hid hSL
  have HG := Lib.hid h
  have HL := Lib.hid hL
  generalize srt L = S at *
  clear h hL hi hok hSL
  go_enter Try.func110, Try.ntmps110
  go_wp2_with fail
  refine HI.out.mono ?_
  rintro e w1 ⟨g2, c2, q1, q2, rfl, hr2, hb2⟩
  · have hcs := fun ty => copy_seg (c := c) (c2 := c2) (HG.out.below hb2 HG.out.1) HL.out hr2 HSL.out ty
    have hrun := fun ty => (hcs ty).1
    have HRES : Hid (SegP g o n S w (w1.setCells g o (ints S))) := Lib.hid ⟨(hcs 0).2.1, (ButS.ofBelow hb2 HG.out.1).trans (hcs 0).2.2⟩
    clear hr2 hb2 HI hcs
    go_wp2_with fail
    go_end0
    exact ⟨rfl, HRES.out⟩

set_option maxRecDepth 100000 in
set_option maxHeartbeats 4000000 in
theorem iheap_place (g o c n : Nat) (L : List Int) (w : World) (h : Seg w g o (ints L)) (hL : L.length = n) (hok : OkL L) (hc : n ≤ c) (h0 : 0 < n) :
    Calls Try.prog 111 #[.slice (some ⟨g, o, none⟩) n c] w fun e w' => e = .returned (.tuple #[]) ∧ SegP g o n (srt L) w w' := by
  have hi := implHs_any (some ⟨g, o, none⟩) c L 2 w ⟨h.flat (by rw [hL]; exact hc), fun e => by simp at e⟩ (by have := hok.1; omega)
  have hSL : (srt L).length = n := by rw [srt_length]; exact hL
  have hd : Hp.OkD 2 := by unfold Hp.OkD; omega
  have hs := Hp.hs_sorted (d := (2 : Int).toNat) hd.pos L
  have he : (Hp.hsF (2 : Int).toNat L).1 = srt L := srt_uniq hs.2 hs.1
  rw [Hp.hsAll_yes ⟨hok, hd⟩, hL, he] at hi
  have HI : Hid (Calls Try.prog 142 #[.slice (some ⟨g, o, none⟩) n c, .int .i64 2] w (CopC1 n (srt L) w)) := Lib.hid (hi.mono fun e w' hx => by
    obtain ⟨g2, c2, he, _, _, hr, hb⟩ := hx.own (fun hn => by simp only at hn; rw [hn] at hSL; simp at hSL; omega)
    simp only at he
    rw [hSL] at he
    exact ⟨g2, c2, _, he, hr, hb⟩)
  have HSL := Lib.hid hSL
  have HG := Lib.hid h
  have HL := Lib.hid hL
  clear hs he
  generalize srt L = S at *
  clear h hL hi hok hSL hd
  go_enter Try.func111, Try.ntmps111
  go_wp2_with fail
  refine HI.out.mono ?_
  rintro e w1 ⟨g2, c2, q1, rfl, hr2, hb2⟩
  · have hcs := fun ty => copy_seg (c := c) (c2 := c2) (HG.out.below hb2 HG.out.1) HL.out hr2 HSL.out ty
    have hrun := fun ty => (hcs ty).1
    have HRES : Hid (SegP g o n S w (w1.setCells g o (ints S))) := Lib.hid ⟨(hcs 0).2.1, (ButS.ofBelow hb2 HG.out.1).trans (hcs 0).2.2⟩
    clear hr2 hb2 HI hcs
    go_wp2_with fail
    go_end0
    exact ⟨rfl, HRES.out⟩

end Go.Proofs.Ytipdfmedbcafpaa
end

section
/- The program's IntroSort, by its contract. -/
namespace Go.Proofs.Ytipdfmedbcafpaa
open Go.RowKit P El Qk
set_option linter.unusedVariables false

/-- The limit's cell and the count's. -/
def HpI (m lp hb : Nat) (h : Nat) (w : World) : Prop := CellRow w hb [.int .i64 (h : Int)] ∧ CellRow w lp [.int .i64 (m : Int)]
def QI (lp hb : Nat) (k : Nat) : Prop := k = hb ∨ k = lp

set_option maxRecDepth 100000 in
set_option maxHeartbeats 8000000 in
theorem finI_call (m lp hb : Nat) (hne : hb ≠ lp) (hm : m ≤ 20) (g o c n d h : Nat) (M : List Int) (W : World) (hok : OkL M) (hgq : ¬ QI lp hb g) (hh : HpI m lp hb h W) (hg : Seg W g o (ints M)) (hM : M.length = n) (hc : n ≤ c) (h64 : n ≤ 64) (hhn : h + n ≤ 500) (hd : d ≤ 500) :
    Calls Try.prog 109 (#[.slice (some ⟨g, o, none⟩) n c, .int .i64 (d : Int)] ++ #[.pointer (some ⟨lp, 0, none⟩), .pointer (some ⟨hb, 0, none⟩)]) W (FinC (finI m) d M g o n h (HpI m lp hb) (QI lp hb) W) := by
  have hgb : g ≠ hb := fun e => hgq (.inl e)
  have hgl : g ≠ lp := fun e => hgq (.inr e)
  have hml := (hh.2.2 0 _ rfl).1
  have hhc := hh.1.2 0 _ rfl
  show Calls Try.prog 109 #[.slice (some ⟨g, o, none⟩) n c, .int .i64 (d : Int), .pointer (some ⟨lp, 0, none⟩), .pointer (some ⟨hb, 0, none⟩)] W _
  by_cases h5 : n ≤ 5
  · have HI := Lib.hid (iins_place g o c n M W hg hM hok hc)
    have HRES : Hid (∀ w2, SegP g o n (srt M) W w2 → FinC (finI m) d M g o n h (HpI m lp hb) (QI lp hb) W (.returned (.bool true)) w2) := Lib.hid (fun w2 hp => by
      unfold FinC; rw [finI_small (by omega)]
      exact ⟨rfl, hp.1, ⟨hh.1.same (hp.2.but.block hb hh.1.1 (fun e => hgb e.symm)) hp.2.but.size, hh.2.same (hp.2.but.block lp hh.2.1 (fun e => hgl e.symm)) hp.2.but.size⟩, hp.2.segB _⟩)
    have hz : (n : Int) ≤ 5 := by omega
    have hzd : decide ((n : Int) ≤ 5) = true := decide_eq_true hz
    clear hg hM hok hh hhc hml
    go_enter Try.func109, Try.ntmps109
    go_wp2_with fail
    refine HI.out.mono ?_
    rintro e w2 ⟨rfl, hp⟩
    have HR := Lib.hid (HRES.out w2 hp)
    clear hp HRES HI
    go_wp2_with fail
    go_ret
    exact HR.out
  · have hz : ¬ (n : Int) ≤ 5 := by omega
    have hzd : decide ((n : Int) ≤ 5) = false := decide_eq_false hz
    by_cases hdm : d = m
    · have HI := Lib.hid (iheap_place g o c n M W hg hM hok hc (by omega))
      have HRES : Hid (∀ w2, SegP g o n (srt M) W w2 → (w2.cell? ⟨hb, 0, none⟩ = some (.int .i64 (h : Int)) ∧ w2.frozen? ⟨hb, 0, none⟩ = false) ∧ FinC (finI m) d M g o n h (HpI m lp hb) (QI lp hb) W (.returned (.bool true)) (w2.setCell ⟨hb, 0, none⟩ (.int .i64 ((h : Int) + 1)))) := Lib.hid (fun w2 hp => by
        have h1 := hh.1.same (hp.2.but.block hb hh.1.1 (fun e => hgb e.symm)) hp.2.but.size
        have h2 := hh.2.same (hp.2.but.block lp hh.2.1 (fun e => hgl e.symm)) hp.2.but.size
        refine ⟨h1.2 0 _ rfl, ?_⟩
        have hz : w2.heap.size ≤ (w2.setCell ⟨hb, 0, none⟩ (.int .i64 ((h : Int) + 1))).heap.size := by simp
        unfold FinC; rw [finI_heap (by omega) hdm]
        exact ⟨rfl, hp.1.same (Below.heap_setCell _ _ _ _ hgb) hz, ⟨h1.set 0 _ (by simp), h2.same (Below.heap_setCell _ _ _ _ (fun e => hne e.symm)) hz⟩, (hp.2.segB _).put hb 0 _ (.inl rfl) (fun e => hgb e.symm)⟩)
      have hde : ((d : Int) == (m : Int)) = true := by simp; omega
      have hde2 : (d : Int) = (m : Int) := by omega
      have hhb : h ≤ 500 := by omega
      clear hg hM hok hh hhc
      subst hdm
      clear hde2
      go_enter Try.func109, Try.ntmps109
      go_wp2_with fail
      refine HI.out.mono ?_
      rintro e w2 ⟨rfl, hp⟩
      obtain ⟨⟨hcb, hfb⟩, hr⟩ := HRES.out w2 hp
      have HR := Lib.hid hr
      clear hp HRES HI hr
      go_wp2_with fail
      go_ret
      exact HR.out
    · have HRES : Hid (FinC (finI m) d M g o n h (HpI m lp hb) (QI lp hb) W (.returned (.bool false)) W) := Lib.hid (by
        unfold FinC; rw [finI_none (by omega) hdm]; exact ⟨rfl, Below.refl _ _⟩)
      have hde : ((d : Int) == (m : Int)) = false := by simp; omega
      have hde2 : ¬ (d : Int) = (m : Int) := by omega
      clear hg hM hok hh hhc
      go_enter Try.func109, Try.ntmps109
      go_wp2_with fail
      go_ret
      exact HRES.out

theorem finI_w (m lp hb : Nat) (hne : hb ≠ lp) (hm : m ≤ 20) : FinW 109 #[.pointer (some ⟨lp, 0, none⟩), .pointer (some ⟨hb, 0, none⟩)] (finI m) (HpI m lp hb) (QI lp hb) where
  ok := finI_ok m
  eg := enters_of Try.func109 (by kernel_rfl) rfl
  frame := fun h w w' hh hz hb => ⟨hh.1.same (hb _ hh.1.1 (.inl rfl)) hz, hh.2.same (hb _ hh.2.1 (.inr rfl)) hz⟩
  lt := fun h w k hh hk => by
    rcases hk with rfl | rfl
    · exact hh.1.1
    · exact hh.2.1
  call := fun g o c n d h M W hok hgq hh hg hM hc h64 hhn hd => finI_call m lp hb hne hm g o c n d h M W hok hgq hh hg hM hc h64 hhn hd

set_option maxRecDepth 100000 in
set_option maxHeartbeats 4000000 in
theorem implIk_any (b o c : Nat) (l : List Int) (m : Int) (w : World) (hv : FlatAt w (.slice (some ⟨b, o, none⟩) l.length c) l.length (ints l)) (hn : l.length ≤ 1048576) :
    Calls Try.prog 51 #[.slice (some ⟨b, o, none⟩) l.length c, .int .i64 m] w (RetI2 (itAll l m) w) := by
  obtain ⟨W0, hW0⟩ : ∃ W0, W0 = w.alloc (.cells #[.int .i64 m] 3) := ⟨_, rfl⟩
  have hb0 : Below w.heap.size w W0 := by rw [hW0]; exact (Below.refl _ _).alloc (Nat.le_refl _) _
  have hm0 : CellRow W0 w.heap.size [.int .i64 m] := by
    have hA : RowIs (w.alloc (.cells #[.int .i64 m] 3)) w.heap.size 3 [.int .i64 m] := heap_alloc_new w _
    rw [hW0]; exact CellRow.of_row hA
  have HV := Lib.hid (implValidList_any _ l W0 (hv.below hb0) hn)
  have HNONE : Hid (¬ (OkL l ∧ OkI m) → ∀ w1, Below W0.heap.size W0 w1 → RetI2 (itAll l m) w (.returned (.tuple #[.slice (some ⟨w1.heap.size, 0, none⟩) 0 0, .int .i64 0, .int .i64 0, .bool false])) (w1.alloc (.cells #[] 3))) := Lib.hid (fun h w1 hb => by rw [itAll_no h]; exact RetI2.none w w1 (hb0.trans (hb.mono hb0.size)))
  have HW0 := Lib.hid hW0
  by_cases hok : OkL l
  · rw [decide_eq_true hok] at HV
    have HM1 : Hid (∀ w1, Below W0.heap.size W0 w1 → w1.cell? ⟨w.heap.size, 0, none⟩ = some (.int .i64 m)) := Lib.hid (fun w1 hb => ((hm0.below hb hm0.1).2 0 _ rfl).1)
    by_cases hm : OkI m
    · obtain ⟨k, rfl⟩ : ∃ k : Nat, m = k := ⟨m.toNat, by have := hm.1; omega⟩
      have hk : k ≤ 20 := by have := hm.2; omega
      have hk1 : ¬ (k : Int) < 0 := by omega
      have hk2 : ¬ (20 : Int) < (k : Int) := by omega
      have HF := Lib.hid (itAll_yes hok hk)
      have h64 := hok.1
      have HOWN := Lib.hid (fun W (h : FlatAt W (.slice (some ⟨b, o, none⟩) l.length c) l.length (ints l)) => cloneInts_any b o c l W h hn)
      have HSQ : Hid (sg (finI k) l.length 0 l = itn k l) := Lib.hid (sg_it k k l.length 0 l (Nat.le_refl _) (by omega))
      have HLN : Hid ((itn k l).1.length = l.length) := Lib.hid (by rw [(itn_spec k l).1, srt_length])
      have HPS := Lib.hid (fun (hb s g cap : Nat) W (hne : hb ≠ w.heap.size) (hsq : ¬ QI w.heap.size hb s) (hgs : g ≠ s) (hgq : ¬ QI w.heap.size hb g) (hs : CellRow W s (pst (.func (.func 109) #[] #[.pointer (some ⟨w.heap.size, 0, none⟩), .pointer (some ⟨hb, 0, none⟩)]) 0 0)) (hh : HpI k w.heap.size hb 0 W) (h : CellRow W g (ints l)) (hc : l.length ≤ cap) => by
        have := psort_any (finI_w k w.heap.size hb hne hk) s hsq l.length g 0 cap l.length 0 0 0 l W hok hgs hgq hs hh (Seg.of_row h) rfl (Nat.le_refl _) h64 hc (by omega) (by omega) (by omega)
        rw [HSQ.out] at this; exact this)
      have HFV := Lib.hid (hv.below hb0)
      have HZ0 : Hid (w.heap.size < W0.heap.size ∧ Below w.heap.size w W0) := Lib.hid ⟨hm0.1, hb0⟩
      have HMR : Hid (∀ w1, Below W0.heap.size W0 w1 → CellRow w1 w.heap.size [.int .i64 (k : Int)]) := Lib.hid (fun w1 hb => hm0.below hb hm0.1)
      generalize itn k l = R at *
      obtain ⟨M, q, q2⟩ := R
      simp only at HF HPS HLN
      clear hok hv HNONE HSQ hm hW0 hb0 hm0
      go_enter Try.func51, Try.ntmps51
      go_wp2_with fail
      rw [← HW0.out]
      refine HV.out.mono ?_
      rintro e w1 ⟨rfl, hb1⟩
      have hcm := HM1.out w1 hb1
      have HV1 := Lib.hid (HFV.out.below hb1)
      have HB1 := Lib.hid hb1
      clear hb1 HV HFV HM1
      go_wp2_with fail
      refine (HOWN.out _ HV1.out).mono ?_
      rintro e w2 ⟨g, cap, rfl, hcap, hg, hrow, hb2⟩
      have HG : Hid (W0.heap.size ≤ g) := Lib.hid (Nat.le_trans HB1.out.size hg)
      have HCAP := Lib.hid hcap
      have HB2 := Lib.hid (HB1.out.trans (hb2.mono HB1.out.size))
      have HR2 := Lib.hid hrow
      clear hb2 hrow HOWN HV1 hg hcap HB1 hcm
      go_wp2_with fail
      obtain ⟨hb, hhb⟩ : ∃ hb, hb = w2.heap.size := ⟨_, rfl⟩
      obtain ⟨W3, hW3⟩ : ∃ W3, W3 = w2.alloc (.cells #[.int .i64 0] 3) := ⟨_, rfl⟩
      have hz3 : W3.heap.size = hb + 1 := by rw [hW3, hhb]; simp
      have hA3 : RowIs (w2.alloc (.cells #[.int .i64 0] 3)) w2.heap.size 3 [.int .i64 0] := heap_alloc_new w2 _
      rw [← hW3, ← hhb] at hA3
      have hb3 : Below w2.heap.size w2 W3 := by rw [hW3]; exact (Below.refl _ _).alloc (Nat.le_refl _) _
      have hA4 : RowIs (W3.alloc (.cells #[(.func (.func 109) #[] #[.pointer (some ⟨w.heap.size, 0, none⟩), .pointer (some ⟨hb, 0, none⟩)]), .int .i64 0, .int .i64 0] 112)) W3.heap.size 112 (pst (.func (.func 109) #[] #[.pointer (some ⟨w.heap.size, 0, none⟩), .pointer (some ⟨hb, 0, none⟩)]) 0 0) := heap_alloc_new W3 _
      have hb4 : Below W3.heap.size W3 (W3.alloc (.cells #[(.func (.func 109) #[] #[.pointer (some ⟨w.heap.size, 0, none⟩), .pointer (some ⟨hb, 0, none⟩)]), .int .i64 0, .int .i64 0] 112)) := (Below.refl _ _).alloc (Nat.le_refl _) _
      rw [hz3] at hA4
      have e1 : g < hb := by rw [hhb]; exact HR2.out.1
      have e2 : w.heap.size < g := by have := HG.out; have := HZ0.out.1; omega
      have HS := Lib.hid (HPS.out hb (hb + 1) g cap _ (by omega) (by rintro (h | h) <;> omega) (by omega) (by rintro (h | h) <;> omega) (CellRow.of_row hA4) ⟨(CellRow.of_row hA3).below hb4 (by omega), ((HMR.out w2 HB2.out).below hb3 (by omega)).below hb4 (by omega)⟩ ((HR2.out.below hb3 HR2.out.1).below hb4 (by omega)) HCAP.out)
      have HB3 : Hid (Below w.heap.size w (W3.alloc (.cells #[(.func (.func 109) #[] #[.pointer (some ⟨w.heap.size, 0, none⟩), .pointer (some ⟨hb, 0, none⟩)]), .int .i64 0, .int .i64 0] 112))) := Lib.hid (by
        have h2 : w.heap.size ≤ w2.heap.size := by omega
        exact (HZ0.out.2.trans (HB2.out.mono (by have := HZ0.out.1; omega))).trans ((hb3.mono h2).trans (hb4.mono (by omega))))
      have HE : Hid (w.heap.size ≤ g ∧ w.heap.size ≤ hb) := Lib.hid ⟨by omega, by omega⟩
      have HHB := Lib.hid hhb
      have HW3 := Lib.hid hW3
      clear hA3 hA4 hb3 hb4 e1 e2 HPS HR2 HB2 HMR hz3 hhb hW3
      rw [← HW3.out, ← HHB.out]
      refine HS.out.mono ?_
      rintro e w4 ⟨rfl, hs4, hh4, hr4, hb4⟩
      have hr4' := hr4.row
      have HRES : Hid (∀ t, RetI2 (itAll l (k : Int)) w (.returned (.tuple #[.slice (some ⟨g, 0, none⟩) l.length cap, .int .i64 (q : Int), .int .i64 (q2 : Int), .bool true])) (w4.drewN t)) := Lib.hid (fun t => by
        rw [HF.out]
        refine ⟨g, cap, by simp only; rw [HLN.out], by simp only; rw [HLN.out]; exact HCAP.out, HE.out.1, hr4'.same rfl (Nat.le_refl _), (HB3.out.trans (hb4.below HE.out.1 (fun j hj => ?_) HB3.out.size)).trans ⟨rfl, rfl, rfl, Nat.le_refl _, fun _ _ => rfl⟩⟩
        have := HE.out.2
        rcases hj with hj | hj | hj <;> omega)
      have hq4 : w4.cell? ⟨hb + 1, 2, none⟩ = some (.int .i64 (q : Int)) := by have := (pst_at hs4).2.2.1; simp only [Nat.zero_add] at this; exact this
      have hq5 : w4.cell? ⟨hb, 0, none⟩ = some (.int .i64 (q2 : Int)) := by have := (hh4.1.2 0 _ rfl).1; simp only [Nat.zero_add] at this; exact this
      clear hs4 hh4 hr4 hb4 hr4' HS
      go_wp2_with fail
      go_quiet (fail)
      go_wp2_with fail
      refine bodyPost_ret (results_tmp4 rfl _ _ _) rfl ?_
      exact HRES.out _
    · have HN := Lib.hid (HNONE.out (fun h => hm h.2))
      rcases (show m < 0 ∨ (¬ m < 0 ∧ 20 < m) by unfold OkI at hm; omega) with h0 | ⟨h0, h1⟩
      all_goals
        clear hok HNONE hv hm hW0 hb0 hm0
        go_enter Try.func51, Try.ntmps51
        go_wp2_with fail
        rw [← HW0.out]
        refine HV.out.mono ?_
        rintro e w1 ⟨rfl, hb1⟩
        have hcm := HM1.out w1 hb1
        have HRES := Lib.hid (HN.out w1 hb1)
        clear hb1 HV HN HM1
        go_wp2_with fail
        refine bodyPost_ret (results_tmp4 rfl _ _ _) rfl ?_
        exact HRES.out
  · rw [decide_eq_false hok] at HV
    have HN := Lib.hid (HNONE.out (fun h => hok h.1))
    clear hok HNONE hv hW0 hb0 hm0
    go_enter Try.func51, Try.ntmps51
    go_wp2_with fail
    rw [← HW0.out]
    refine HV.out.mono ?_
    rintro e w1 ⟨rfl, hb1⟩
    have HRES := Lib.hid (HN.out w1 hb1)
    clear hb1 HV HN
    go_wp2_with fail
    refine bodyPost_ret (results_tmp4 rfl _ _ _) rfl ?_
    exact HRES.out

end Go.Proofs.Ytipdfmedbcafpaa
end

section
/- The model's l4Insert on a part of a row, by its contract. -/
namespace Go.Proofs.Ytipdfmedbcafpaa
open Go.RowKit P El
set_option linter.unusedVariables false

/-- The outer loop's word at i. -/
structure InsOS (L : List Int) (gap g o i : Nat) (M : List Int) (c m : Nat) (w W : World) : Prop where
  run : insN gap i (L.length - i) (M, c, m) = gapF (L, 0, 0) gap
  len : M.length = L.length
  le : i ≤ 64
  cb : c ≤ 64 * i
  mb : m ≤ 65 * i
  row : Seg W g o (ints M)
  but : ButS g o L.length w W
/-- The inner loop's word at k. -/
structure InsKS (x : Int) (gap g o n i : Nat) (M : List Int) (c m k : Nat) (M' : List Int) (c' m' : Nat) (w W : World) : Prop where
  run : sh x gap M' k c' m' = sh x gap M i c m
  len : M'.length = M.length
  le : k ≤ i
  cb : c' + k ≤ c + i
  mb : m' + k ≤ m + i
  row : Seg W g o (ints M')
  but : ButS g o n w W

theorem InsOS.next {L : List Int} {gap g o i : Nat} {M : List Int} {c m : Nat} {w W0 W : World} (h : InsOS L gap g o i M c m w W0) (hi : i < L.length) (h64 : L.length ≤ 64) {M1 : List Int} {j c1 m1 : Nat} (hr : sh (M.getD i 0) gap M i c m = (M1, j, c1, m1)) (row : Seg W g o (ints M1)) (but : ButS g o L.length w W) :
    (j = i → InsOS L gap g o (i + 1) M1 c1 m1 w W) ∧ (j ≠ i → InsOS L gap g o (i + 1) (M1.set j (M.getD i 0)) c1 (m1 + 1) w (W.setCell ⟨g, o + j, none⟩ (.int .i64 (M.getD i 0)))) := by
  have hl := sh_length (M.getD i 0) gap M i c m
  have hb := sh_bounds (M.getD i 0) gap M i c m
  have hat := insAt_of (g := gap) (i := i) (S := (M, c, m)) hr
  rw [hr] at hl hb
  simp only at hl hb hat
  have hrun := h.run
  have hc := h.cb
  have hm := h.mb
  have hlen := h.len
  rw [show L.length - i = L.length - (i + 1) + 1 by omega, insN_succ, hat] at hrun
  refine ⟨fun e => ?_, fun e => ?_⟩
  · rw [if_pos e] at hrun
    exact ⟨hrun, by omega, by omega, by omega, by omega, row, but⟩
  · rw [if_neg e] at hrun
    exact ⟨hrun, by rw [List.length_set]; omega, by omega, by omega, by omega, row.put j _ (by omega), but.setCell j _ (by omega)⟩

set_option maxRecDepth 100000 in
set_option maxHeartbeats 4000000 in
theorem l4InsertS_any (g o cap gap : Nat) (L : List Int) (w : World) (hrow : Seg w g o (ints L)) (h64 : L.length ≤ 64) (hg0 : 0 < gap) (hg1 : gap ≤ 64) :
    Calls Try.prog 143 #[.slice (some ⟨g, o, none⟩) L.length cap, .int .i64 (gap : Int)] w fun e w' =>
      e = .returned (.tuple #[.int .i64 ((gapF (L, 0, 0) gap).2.1 : Nat), .int .i64 ((gapF (L, 0, 0) gap).2.2 : Nat)]) ∧ Seg w' g o (ints (gapF (L, 0, 0) gap).1) ∧ ButS g o L.length w w' := by
  have HST : Hid (InsOS L gap g o gap L 0 0 w w) := Lib.hid ⟨rfl, rfl, hg1, Nat.zero_le _, Nat.zero_le _, hrow, ButS.refl _ _ _ _⟩
  generalize hR : gapF (L, 0, 0) gap = R at *
  have HR := Lib.hid hR
  clear hrow hR
  go_enter Try.func143, Try.ntmps143
  go_wp2_with fail
  go_loopw [6, 7, 8, 9, 10] (fun cv mv iv _ _ wr => ∃ (i : Nat) (M : List Int) (c m : Nat), cv = .int .i64 c ∧ mv = .int .i64 m ∧ iv = .int .i64 i ∧ InsOS L gap g o i M c m w wr) (fun _ _ iv _ _ _ => L.length - (intOf iv).toNat)
  case atStart => exact ⟨gap, L, 0, 0, rfl, rfl, rfl, HST.out⟩
  case round =>
    obtain ⟨i, M, c, m, rfl, rfl, rfl, ho⟩ := hrel
    have HO := Lib.hid ho
    have hc : c ≤ 8000 := by have := ho.cb; have := ho.le; omega
    have hm : m ≤ 8000 := by have := ho.mb; have := ho.le; omega
    have hi64 := ho.le
    clear ho HST
    by_cases hlt : i < L.length
    · obtain ⟨x, hx⟩ : ∃ x, x = M.getD i 0 := ⟨_, rfl⟩
      have hlM := HO.out.len
      have hci := HO.out.row.2 i _ (ints_at (at_getD (by omega)))
      rw [← hx] at hci
      obtain ⟨hcx, _⟩ := hci
      have HX := Lib.hid hx
      have HK0 : Hid (InsKS x gap g o L.length i M c m i M c m w wr) := Lib.hid ⟨rfl, rfl, Nat.le_refl _, Nat.le_refl _, Nat.le_refl _, HO.out.row, HO.out.but⟩
      have HLM := Lib.hid hlM
      clear hx hlM
      go_wp2_with fail
      go_loopw [6, 7, 10] (fun cv mv kv ws => ∃ (k : Nat) (M' : List Int) (c' m' : Nat), cv = .int .i64 c' ∧ mv = .int .i64 m' ∧ kv = .int .i64 k ∧ InsKS x gap g o L.length i M c m k M' c' m' w ws) (fun _ _ kv _ => (intOf kv).toNat)
      case atStart => exact ⟨i, M, c, m, rfl, rfl, rfl, HK0.out⟩
      case round =>
        obtain ⟨k, M', c', m', rfl, rfl, rfl, hk⟩ := hrel
        have HK := Lib.hid hk
        have hkl : k < L.length := by have := hk.le; omega
        have HKL : Hid (k < L.length) := Lib.hid hkl
        have hc' : c' ≤ 9000 := by have := hk.cb; omega
        have hm' : m' ≤ 9000 := by have := hk.mb; omega
        clear hk HK0
        -- what follows when the place is found
        have HEND : Hid (∀ c1, sh x gap M i c m = (M', k, c1, m') → (k = i → InsOS L gap g o (i + 1) M' c1 m' w wr) ∧ (k ≠ i → InsOS L gap g o (i + 1) (M'.set k x) c1 (m' + 1) w (wr.setCell ⟨g, o + k, none⟩ (.int .i64 x)))) := Lib.hid (fun c1 hr => by
          have := HO.out.next hlt h64 (by rw [← HX.out]; exact hr) HK.out.row HK.out.but
          rw [← HX.out] at this; exact this)
        have hck := HK.out.row.2 k _ (ints_at (at_getD (by have := HK.out.len; have := HLM.out; omega)))
        obtain ⟨hcK, hfK⟩ := hck
        by_cases hgk : gap ≤ k
        · obtain ⟨j, hj⟩ : ∃ j, j = k - gap := ⟨_, rfl⟩
          have hws : IntKind.i64.wrap ((k : Int) - (gap : Int)) = (j : Int) := by rw [IntKind.wrap_i64]; omega
          have hjl : j < L.length := by omega
          obtain ⟨y, hy⟩ : ∃ y, y = M'.getD j 0 := ⟨_, rfl⟩
          have hcj := HK.out.row.2 j _ (ints_at (at_getD (by have := HK.out.len; have := HLM.out; omega)))
          rw [← hy] at hcj
          obtain ⟨hcJ, _⟩ := hcj
          have HJ := Lib.hid hj
          have HY := Lib.hid hy
          have hjz : (j : Int) < L.length := by omega
          have hkz : (k : Int) < L.length := by omega
          clear hj hy
          by_cases hxy : x < y
          · have hle : decide (y ≤ x) = false := decide_eq_false (by omega)
            have HN : Hid (InsKS x gap g o L.length i M c m j (M'.set k y) (c' + 1) (m' + 1) w (wr.setCell ⟨g, o + k, none⟩ (.int .i64 y))) := Lib.hid (by
              have h := HK.out
              have hlM := HLM.out
              have h1 := h.le
              have h2 := h.cb
              have h3 := h.mb
              have h4 := h.len
              have hjj := HJ.out
              have hyy := HY.out
              refine ⟨?_, by rw [List.length_set]; exact h4, by omega, by omega, by omega, h.row.put k _ (by omega), h.but.setCell k _ HKL.out⟩
              rw [← h.run, sh_go c' m' hg0 hgk (by rw [← hjj, ← hyy]; exact hxy), ← hjj, ← hyy])
            clear HEND
            go_wp2_with fail
            go_roundw
            case rel => exact ⟨j, _, c' + 1, m' + 1, by go_num, by go_num, rfl, HN.out⟩
            case measure => have := HJ.out; simp [intOf]; omega
          · have hle : decide (y ≤ x) = true := decide_eq_true (by omega)
            have HE := Lib.hid (HEND.out (c' + 1) (by rw [← HK.out.run, sh_stop c' m' hg0 hgk (by rw [← HJ.out, ← HY.out]; exact hxy)]))
            clear HEND
            by_cases hki : k = i
            · have HN := Lib.hid (HE.out.1 hki)
              have hne : ((k : Int) == i) = true := by simp; omega
              clear HE
              subst hki
              go_wp2_with fail
              go_roundw
              case rel => exact ⟨k + 1, _, c' + 1, m', by go_num, rfl, by go_num, HN.out⟩
              case measure => simp [intOf]; omega
            · have HN := Lib.hid (HE.out.2 hki)
              have hne : ((k : Int) == i) = false := by simp; omega
              clear HE
              go_wp2_with fail
              go_roundw
              case rel => exact ⟨i + 1, _, c' + 1, m' + 1, by go_num, by go_num, by go_num, HN.out⟩
              case measure => simp [intOf]; omega
        · have HE := Lib.hid (HEND.out c' (by rw [← HK.out.run, sh_end c' m' (by omega)]))
          have hkz : (k : Int) < L.length := by omega
          clear HEND
          by_cases hki : k = i
          · have HN := Lib.hid (HE.out.1 hki)
            have hne : ((k : Int) == i) = true := by simp; omega
            clear HE
            subst hki
            go_wp2_with fail
            go_roundw
            case rel => exact ⟨k + 1, _, c', m', rfl, rfl, by go_num, HN.out⟩
            case measure => simp [intOf]; omega
          · have HN := Lib.hid (HE.out.2 hki)
            have hne : ((k : Int) == i) = false := by simp; omega
            clear HE
            go_wp2_with fail
            go_roundw
            case rel => exact ⟨i + 1, _, c', m' + 1, rfl, by go_num, by go_num, HN.out⟩
            case measure => simp [intOf]; omega
    · have HRES : Hid ((Ending.returned (.tuple #[.int .i64 (c : Int), .int .i64 (m : Int)]) = .returned (.tuple #[.int .i64 (R.2.1 : Nat), .int .i64 (R.2.2 : Nat)])) ∧ Seg wr g o (ints R.1) ∧ ButS g o L.length w wr) := Lib.hid (by
        have h := HO.out
        have hr := h.run
        rw [show L.length - i = 0 by omega, HR.out] at hr
        rw [← hr]
        exact ⟨rfl, h.row, h.but⟩)
      go_wp2_with fail
      go_ret2
      exact HRES.out

end Go.Proofs.Ytipdfmedbcafpaa
end

section
/- The model's introsort, in place, its ends, by contracts. -/
namespace Go.Proofs.Ytipdfmedbcafpaa
open Go.RowKit P El Qk
set_option linter.unusedVariables false

theorem half_set {S L : List Int} {i : Nat} (h : S.length = L.length) (hi : i < L.length) : (S.take i ++ L.drop i).set i (S.getD i 0) = S.take (i + 1) ++ L.drop (i + 1) := by
  have e1 : (S.take i).length = i := by rw [List.length_take]; omega
  rw [List.set_append_right _ _ (by omega), e1, Nat.sub_self, List.drop_eq_getElem_cons hi, List.set_cons_zero, List.take_add_one, List.append_assoc, at_getD (by omega)]
  rfl
/-- What the sort of a part leaves. -/
def ItP (g o n : Nat) (R : List Int × Nat × Nat) (w : World) (e : Ending) (w' : World) : Prop := e = .returned (.tuple #[.int .i64 ((R.2.1 : Nat) : Int), .int .i64 ((R.2.2 : Nat) : Int)]) ∧ SegP g o n R.1 w w'

set_option maxRecDepth 100000 in
set_option maxHeartbeats 8000000 in
theorem sit_small (g o c n m : Nat) (L : List Int) (w : World) (h : Seg w g o (ints L)) (hL : L.length = n) (h5 : n ≤ 5) (hm : m ≤ 20) :
    Calls Try.prog 112 #[.slice (some ⟨g, o, none⟩) n c, .int .i64 (m : Int)] w (ItP g o n (srt L, 0, 0) w) := by
  have hi := l4InsertS_any g o c 1 L w h (by omega) (by omega) (by omega)
  rw [hL] at hi
  have HI := Lib.hid hi
  have hz : (n : Int) ≤ 5 := by omega
  have hzd : decide ((n : Int) ≤ 5) = true := decide_eq_true hz
  clear h hL hi
  go_enter Try.func112, Try.ntmps112
  go_wp2_with fail
  refine HI.out.mono ?_
  rintro e w1 ⟨rfl, hs, hb⟩
  have HRES : Hid (ItP g o n (srt L, 0, 0) w (.returned (.tuple #[.int .i64 0, .int .i64 0])) w1) := Lib.hid ⟨rfl, hs, hb⟩
  clear hs hb HI
  go_wp2_with fail
  go_ret2
  exact HRES.out

set_option maxRecDepth 100000 in
set_option maxHeartbeats 8000000 in
theorem sit_heap (g o c n : Nat) (L : List Int) (w : World) (h : Seg w g o (ints L)) (hL : L.length = n) (h5 : ¬ n ≤ 5) (h64 : n ≤ 64) (hc : n ≤ c) :
    Calls Try.prog 112 #[.slice (some ⟨g, o, none⟩) n c, .int .i64 0] w (ItP g o n (srt L, 0, 1) w) := by
  have hi := l2Sorted_any g o c L w (h.flat (by rw [hL]; exact hc)) (by omega)
  rw [hL] at hi
  have HI := Lib.hid hi
  have hz : ¬ (n : Int) ≤ 5 := by omega
  have hzd : decide ((n : Int) ≤ 5) = false := decide_eq_false hz
  obtain ⟨S, hS⟩ : ∃ S, S = srt L := ⟨_, rfl⟩
  have HSL : Hid (S.length = n) := Lib.hid (by rw [hS, srt_length]; exact hL)
  rw [← hS] at HI ⊢
  have HG := Lib.hid h
  have HL := Lib.hid hL
  clear h hL hi hS
  go_enter Try.func112, Try.ntmps112
  go_wp2_with fail
  refine HI.out.mono ?_
  rintro e w1 ⟨g2, c2, rfl, hc2, hg2, hr2, hb2⟩
  have hgg : g2 ≠ g := by have := HG.out.1; omega
  have HGG := Lib.hid hgg
  have HG1 := Lib.hid (HG.out.below hb2 HG.out.1)
  have HR1 := Lib.hid hr2
  have HB1 : Hid (ButS g o n w w1) := Lib.hid (ButS.ofBelow hb2 HG.out.1)
  have HC2 : Hid (n ≤ c2) := Lib.hid (by rw [HSL.out] at hc2; exact hc2)
  clear hr2 hb2 HI HG hgg hg2 hc2
  go_wp2_with fail
  go_loopw [7] (fun iv wr => ∃ i : Nat, iv = .int .i64 (i : Int) ∧ i ≤ n ∧ Seg wr g o (ints (S.take i ++ L.drop i)) ∧ CellRow wr g2 (ints S) ∧ ButS g o n w wr) (fun iv _ => n - (intOf iv).toNat)
  case atStart => exact ⟨0, rfl, Nat.zero_le _, by simpa using HG1.out, HR1.out, HB1.out⟩
  case round =>
    obtain ⟨i, rfl, hi, hg, hr, hb⟩ := hrel
    have HGW := Lib.hid hg
    have HRW := Lib.hid hr
    have HBW := Lib.hid hb
    clear hg hr hb HG1 HR1 HB1
    by_cases hlt : i < n
    · have hiz : (i : Int) < (n : Int) := by omega
      have hld : decide ((i : Int) < (n : Int)) = true := decide_eq_true hiz
      have hci := HRW.out.2 i _ (ints_at (at_getD (by rw [HSL.out]; exact hlt)))
      obtain ⟨hci, _⟩ := hci
      have hlen : (S.take i ++ L.drop i).length = n := by have := HSL.out; have := HL.out; rw [List.length_append, List.length_take, List.length_drop]; omega
      obtain ⟨hcg, hfg⟩ := HGW.out.at (k := i) (by rw [hlen]; exact hlt)
      obtain ⟨x, hx⟩ : ∃ x, x = S.getD i 0 := ⟨_, rfl⟩
      rw [← hx] at hci
      have HN : Hid (Seg (wr.setCell ⟨g, o + i, none⟩ (.int .i64 x)) g o (ints (S.take (i + 1) ++ L.drop (i + 1))) ∧ CellRow (wr.setCell ⟨g, o + i, none⟩ (.int .i64 x)) g2 (ints S) ∧ ButS g o n w (wr.setCell ⟨g, o + i, none⟩ (.int .i64 x))) := Lib.hid (by
        refine ⟨?_, HRW.out.same (Below.heap_setCell _ _ _ _ HGG.out) (by simp), HBW.out.setCell i _ hlt⟩
        rw [← half_set (by rw [HSL.out, HL.out]) (by rw [HL.out]; exact hlt), ← hx]
        exact HGW.out.put i x (by rw [hlen]; exact hlt))
      have hiS : (i : Int) < (S.length : Int) := by have := HSL.out; omega
      have hiS2 : i < S.length := by have := HSL.out; omega
      clear hlen hx
      go_wp2_with fail
      go_roundw
      case rel => exact ⟨i + 1, by go_num, by omega, HN.out.1, HN.out.2.1, HN.out.2.2⟩
      case measure => simp [intOf]; omega
    · obtain rfl : i = n := by omega
      have HRES : Hid (ItP g o i (S, 0, 1) w (.returned (.tuple #[.int .i64 0, .int .i64 1])) wr) := Lib.hid (by
        refine ⟨rfl, ?_, HBW.out⟩
        have h1 := HGW.out
        rw [List.take_of_length_le (by rw [HSL.out]; exact Nat.le_refl _), List.drop_eq_nil_of_le (by rw [HL.out]; exact Nat.le_refl _), List.append_nil] at h1
        exact h1)
      go_wp2_with fail
      go_ret2
      exact HRES.out

end Go.Proofs.Ytipdfmedbcafpaa
end

section
/- The model's introsort, in place, by its contract. -/
namespace Go.Proofs.Ytipdfmedbcafpaa
open Go.RowKit P El Qk
set_option linter.unusedVariables false

set_option maxRecDepth 100000 in
set_option maxHeartbeats 16000000 in
theorem sit_any : ∀ (m g o c n : Nat) (L : List Int) (w : World), Seg w g o (ints L) → L.length = n → m ≤ 20 → n ≤ 64 → n ≤ c →
    Calls Try.prog 112 #[.slice (some ⟨g, o, none⟩) n c, .int .i64 (m : Int)] w (ItP g o n (itn m L) w) := by
  intro m
  induction m with
  | zero =>
    intro g o c n L w h hL hm h64 hc
    by_cases h5 : n ≤ 5
    · rw [itn_small (by omega)]; exact sit_small g o c n 0 L w h hL h5 hm
    · rw [itn_heap (by omega)]; exact sit_heap g o c n L w h hL h5 h64 hc
  | succ m ih =>
    intro g o c n L w h hL hm h64 hc
    by_cases h5 : n ≤ 5
    · rw [itn_small (by omega)]; exact sit_small g o c n (m + 1) L w h hL h5 hm
    · have hz : ¬ (n : Int) ≤ 5 := by omega
      have hzd : decide ((n : Int) ≤ 5) = false := decide_eq_false hz
      have hm0 : ((((m + 1 : Nat) : Int)) == 0) = false := beq_eq_false_iff_ne.2 (by omega)
      have hm1 := medF_lt (L := L) (by omega)
      have hmm := getD_mem hm1
      have ht := thF_spec L (L.getD (medF L) 0)
      have hx := thF_some hmm
      obtain ⟨⟨M, lt, gt⟩, he⟩ : ∃ T, thF L (L.getD (medF L) 0) = T := ⟨_, rfl⟩
      have HMED := Lib.hid (smedR_any (c := c) w h.rd hL (by omega) (by omega))
      obtain ⟨x, hxe⟩ : ∃ x, x = L.getD (medF L) 0 := ⟨_, rfl⟩
      obtain ⟨hcx, _⟩ := h.at hm1
      rw [← hxe] at he hcx ht hx
      have HTH := Lib.hid (fun (W : World) (h : Seg W g o (ints L)) => sthree_any (c := c) x W h hL (by omega))
      rw [he] at ht hx HTH
      simp only at ht hx HTH
      have hq := itn_big (m := m) (M := M) (lt := lt) (gt := gt) (by omega : ¬ L.length ≤ 5) (by rw [← hxe]; exact he)
      obtain ⟨p1, p2⟩ := part_lens ht
      have hgn : gt ≤ n := by have := ht.h3; omega
      have hlg : lt ≤ gt := ht.h1
      have hML : M.length = n := by have := ht.perm.length_eq; omega
      obtain ⟨s1, s2, s2'⟩ := itn_spec m (M.take lt)
      obtain ⟨s3, s4, s4'⟩ := itn_spec m (M.drop gt)
      have l1 : (itn m (M.take lt)).1.length = lt := by rw [s1, srt_length]; exact p1
      have l3 : (itn m (M.drop gt)).1.length = n - gt := by rw [s3, srt_length]; omega
      have HI1 := Lib.hid (fun (W : World) (h : Seg W g o (ints (M.take lt))) => ih g o c lt (M.take lt) W h p1 (by omega) (by omega) (by omega))
      have HI2 : Hid (gt < c → ∀ (W : World), Seg W g (o + gt) (ints (M.drop gt)) → Calls Try.prog 112 #[.slice (some ⟨g, o + gt, none⟩) (n - gt) (c - gt), .int .i64 (m : Int)] W (ItP g (o + gt) (n - gt) (itn m (M.drop gt)) W)) := Lib.hid (fun _ W h => ih g (o + gt) (c - gt) (n - gt) (M.drop gt) W h (by omega) (by omega) (by omega) (by omega))
      have HI3 : Hid (gt = c → ∀ (W : World), Seg W g (o + gt) (ints (M.drop gt)) → Calls Try.prog 112 #[.slice (some ⟨g, o, none⟩) 0 0, .int .i64 (m : Int)] W (ItP g (o + gt) (n - gt) (itn m (M.drop gt)) W)) := Lib.hid (fun e W h => by
        have hz : n - gt = 0 := by omega
        have hnil : M.drop gt = [] := List.eq_nil_of_length_eq_zero (by omega)
        rw [hz]
        refine (ih g o 0 0 (M.drop gt) W (by rw [hnil]; exact Seg.nil h.1) (by omega) (by omega) (by omega) (by omega)).mono ?_
        rintro e w' ⟨y1, y2, y3⟩
        have hB0 : (itn m (M.drop gt)).1 = [] := List.eq_nil_of_length_eq_zero (by omega)
        exact ⟨y1, by rw [hB0]; exact Seg.nil y2.1, y3.but, y3.fz, fun j _ => y3.cell j (by omega)⟩)
      have HHS : Hid (Seg w g o (ints L) ∧ g < w.heap.size) := Lib.hid ⟨h, h.1⟩
      have HTR : Hid (∀ w2 w3 w4, Seg w2 g o (ints M) → SegP g o lt (itn m (M.take lt)).1 w2 w3 → SegP g (o + gt) (n - gt) (itn m (M.drop gt)).1 w3 w4 → SegP g o n (itn (m + 1) L).1 w2 w4) := Lib.hid (fun w2 w3 w4 a b c => by
        rw [hq]; exact a.three hML hlg hgn l1 l3 b c)
      have HPA : Hid (∀ W, Seg W g o (ints M) → Seg W g o (ints (M.take lt)) ∧ Seg W g (o + gt) (ints (M.drop gt))) := Lib.hid (fun W hh => by
        obtain ⟨e1, _, e3⟩ := hh.parts hlg (by omega); exact ⟨e1, e3⟩)
      have HQ2 : Hid ((itn (m + 1) L).2.1 = 1 + (itn m (M.take lt)).2.1 + (itn m (M.drop gt)).2.1 ∧ (itn (m + 1) L).2.2 = (itn m (M.take lt)).2.2 + (itn m (M.drop gt)).2.2) := Lib.hid (by rw [hq]; exact ⟨rfl, rfl⟩)
      have hb1 : (itn m (M.take lt)).2.1 ≤ 64 := by omega
      have hb1' : (itn m (M.take lt)).2.2 ≤ 64 := by omega
      have hb3 : (itn m (M.drop gt)).2.1 ≤ 64 := by omega
      have hb3' : (itn m (M.drop gt)).2.2 ≤ 64 := by omega
      clear hq s1 s2 s3 s4 s2' s4' l1 l3 p1 p2 ht hx hmm h ih
      generalize itn (m + 1) L = R at *
      generalize itn m (M.take lt) = RA at *
      generalize itn m (M.drop gt) = RB at *
      obtain ⟨R1, R2, R3⟩ := R
      obtain ⟨A, a, a'⟩ := RA
      obtain ⟨B, b, b'⟩ := RB
      simp only at *
      generalize hmd : medF L = md at *
      have hmz : (md : Int) < n := by omega
      have hltz : (lt : Int) ≤ n := by omega
      have hgtz : (gt : Int) ≤ n := by omega
      have hltc : (lt : Int) ≤ c := by omega
      have hgtc : (gt : Int) ≤ c := by omega
      have hcz : (n : Int) ≤ c := by omega
      have hwm : IntKind.i64.wrap (((m + 1 : Nat) : Int) - 1) = (m : Int) := by rw [IntKind.wrap_i64]; omega
      have hwa : IntKind.i64.wrap (1 + (a : Int)) = 1 + (a : Int) := by rw [IntKind.wrap_i64]; omega
      have HWS : Hid (ItP g o n (R1, R2, R3) w = ItP g o n (R1, 1 + a + b, a' + b') w) := Lib.hid (by rw [HQ2.out.1, HQ2.out.2])
      rw [HWS.out]
      have HLL := Lib.hid hL
      have HE := Lib.hid he
      have HXE := Lib.hid hxe
      have HML := Lib.hid hML
      have HMD := Lib.hid hmd
      clear hmd he hxe hL hML HWS
      go_enter Try.func112, Try.ntmps112
      go_wp2_with fail
      refine HMED.out.mono ?_
      rintro e w1 ⟨rfl, hb1'⟩
      have hcx1 : w1.cell? ⟨g, o + md, none⟩ = some (.int .i64 x) := (hb1'.cell (p := ⟨g, o + md, none⟩) HHS.out.2).trans hcx
      have HS1 := Lib.hid (HHS.out.1.below hb1' HHS.out.2)
      have HB1 : Hid (ButS g o n w w1) := Lib.hid (ButS.ofBelow hb1' HHS.out.2)
      clear hb1' HMED hcx
      go_wp2_with fail
      refine (HTH.out _ HS1.out).mono ?_
      rintro e w2 ⟨rfl, hs2, hb2⟩
      have HS2 := Lib.hid hs2
      have HB2 := Lib.hid (HB1.out.trans hb2)
      have HP := Lib.hid (HPA.out _ hs2)
      clear hs2 hb2 HTH HS1 HB1 hcx1 HPA
      go_wp2_with fail
      refine (HI1.out _ HP.out.1).mono ?_
      rintro e w3 ⟨rfl, hs3, hb3'⟩
      have HS3 := Lib.hid hs3
      have HB3 := Lib.hid hb3'
      have HP3 := Lib.hid (HP.out.2.keep hb3' (.inr (by omega)))
      clear hs3 hb3' HI1 HP
      rcases (show gt < c ∨ gt = c by omega) with hgc | hgc
      · have HI4 := Lib.hid (HI2.out hgc)
        have hgc2 : (gt : Int) < c := by omega
        have hgc3 : ¬ gt = c := by omega
        have hgc4 : ¬ c = gt := by omega
        clear HI2 HI3
        go_wp2_with fail
        refine (HI4.out _ HP3.out).mono ?_
        rintro e w4 ⟨rfl, hs4, hb4⟩
        have HRES : Hid (ItP g o n (R1, 1 + a + b, a' + b') w (.returned (.tuple #[.int .i64 (1 + (a : Int) + (b : Int)), .int .i64 ((a' : Int) + (b' : Int))])) w4) := Lib.hid (by
          have hh := HTR.out w2 w3 w4 HS2.out ⟨HS3.out, HB3.out⟩ ⟨hs4, hb4⟩
          refine ⟨?_, hh.1, HB2.out.trans hh.2⟩
          go_num)
        clear hs4 hb4 HI4
        go_wp2_with fail
        go_ret2
        exact HRES.out
      · have HI4 := Lib.hid (HI3.out hgc)
        have hng : n = gt := by omega
        subst hgc
        clear HI2 HI3
        go_wp2_with fail
        refine (HI4.out _ HP3.out).mono ?_
        rintro e w4 ⟨rfl, hs4, hb4⟩
        have HRES : Hid (ItP g o n (R1, 1 + a + b, a' + b') w (.returned (.tuple #[.int .i64 (1 + (a : Int) + (b : Int)), .int .i64 ((a' : Int) + (b' : Int))])) w4) := Lib.hid (by
          have hh := HTR.out w2 w3 w4 HS2.out ⟨HS3.out, HB3.out⟩ ⟨hs4, hb4⟩
          refine ⟨?_, hh.1, HB2.out.trans hh.2⟩
          go_num)
        clear hs4 hb4 HI4
        go_wp2_with fail
        go_ret2
        exact HRES.out

end Go.Proofs.Ytipdfmedbcafpaa
end

section
/- The model's IntroSort, by its contract. -/
namespace Go.Proofs.Ytipdfmedbcafpaa
open Go.RowKit P El Qk
set_option linter.unusedVariables false

set_option maxRecDepth 100000 in
set_option maxHeartbeats 4000000 in
theorem specIk_any (b o c : Nat) (l : List Int) (m : Int) (w : World) (hv : FlatAt w (.slice (some ⟨b, o, none⟩) l.length c) l.length (ints l)) (hn : l.length ≤ 1048576) :
    Calls Try.prog 52 #[.slice (some ⟨b, o, none⟩) l.length c, .int .i64 m] w (RetI2 (itAll l m) w) := by
  have HV := Lib.hid (l2List_any _ l w hv hn)
  have HNONE : Hid (¬ (OkL l ∧ OkI m) → ∀ w1, Below w.heap.size w w1 → RetI2 (itAll l m) w (.returned (.tuple #[.slice (some ⟨w1.heap.size, 0, none⟩) 0 0, .int .i64 0, .int .i64 0, .bool false])) (w1.alloc (.cells #[] 3))) := Lib.hid (fun h w1 hb => by rw [itAll_no h]; exact RetI2.none w w1 hb)
  by_cases hok : OkL l
  · rw [decide_eq_true hok] at HV
    by_cases hm : OkI m
    · obtain ⟨k, rfl⟩ : ∃ k : Nat, m = k := ⟨m.toNat, by have := hm.1; omega⟩
      have hk : k ≤ 20 := by have := hm.2; omega
      have HF := Lib.hid (itAll_yes hok hk)
      have h64 := hok.1
      have HX := Lib.hid (fun W => l1In_yes (k : Int) 0 20 W (by omega) (by omega))
      have HOWN := Lib.hid (fun W (h : FlatAt W (.slice (some ⟨b, o, none⟩) l.length c) l.length (ints l)) => l1Own_any b o c l W h hn)
      have HTH := Lib.hid (fun (g cap : Nat) W (h : CellRow W g (ints l)) (hc : l.length ≤ cap) => sit_any k g 0 cap l.length l W (Seg.of_row h) rfl hk h64 hc)
      have HLN : Hid ((itn k l).1.length = l.length) := Lib.hid (by rw [(itn_spec k l).1, srt_length])
      have HFV := Lib.hid hv
      clear hok hv HNONE hm
      generalize itn k l = R at *
      obtain ⟨M, q, q2⟩ := R
      simp only at HF HTH HLN
      go_enter Try.func52, Try.ntmps52
      go_wp2_with fail
      refine HV.out.mono ?_
      rintro e w1 ⟨rfl, hb1⟩
      have HV1 := Lib.hid (HFV.out.below hb1)
      have HB1 := Lib.hid hb1
      clear hb1 HV HFV
      go_wp2_with fail
      refine (HX.out _).mono ?_
      rintro e w1' ⟨rfl, rfl⟩
      clear HX
      go_wp2_with fail
      refine (HOWN.out _ HV1.out).mono ?_
      rintro e w2 ⟨g, cap, rfl, hcap, hg, hrow, hb2⟩
      have HG : Hid (w.heap.size ≤ g) := Lib.hid (Nat.le_trans HB1.out.size hg)
      have HCAP := Lib.hid hcap
      have HB2 := Lib.hid (HB1.out.trans (hb2.mono HB1.out.size))
      have HS := Lib.hid (HTH.out g cap w2 hrow hcap)
      clear hb2 hrow HOWN HV1 hg hcap HTH HB1
      go_wp2_with fail
      refine HS.out.mono ?_
      rintro e w3 ⟨rfl, hr3, hb3⟩
      have HRES : Hid (RetI2 (itAll l (k : Int)) w (.returned (.tuple #[.slice (some ⟨g, 0, none⟩) l.length cap, .int .i64 (q : Int), .int .i64 (q2 : Int), .bool true])) w3) := Lib.hid (by
        rw [HF.out]
        exact ⟨g, cap, by simp only; rw [HLN.out], by simp only; rw [HLN.out]; exact HCAP.out, HG.out, hr3.row, HB2.out.trans (hb3.below HG.out HB2.out.size)⟩)
      clear hr3 hb3 HS
      go_wp2_with fail
      refine bodyPost_ret (results_tmp4 rfl _ _ _) rfl ?_
      exact HRES.out
    · have HX := Lib.hid (fun W => l1In_no m 0 20 W (by unfold OkI at hm; omega))
      have HN := Lib.hid (HNONE.out (fun h => hm h.2))
      clear hok HNONE hv hm
      go_enter Try.func52, Try.ntmps52
      go_wp2_with fail
      refine HV.out.mono ?_
      rintro e w1 ⟨rfl, hb1⟩
      have HRES := Lib.hid (HN.out w1 hb1)
      clear hb1 HV HN
      go_wp2_with fail
      refine (HX.out _).mono ?_
      rintro e w1' ⟨rfl, rfl⟩
      go_wp2_with fail
      refine bodyPost_ret (results_tmp4 rfl _ _ _) rfl ?_
      exact HRES.out
  · rw [decide_eq_false hok] at HV
    have HN := Lib.hid (HNONE.out (fun h => hok h.1))
    clear hok HNONE hv
    go_enter Try.func52, Try.ntmps52
    go_wp2_with fail
    refine HV.out.mono ?_
    rintro e w1 ⟨rfl, hb1⟩
    have HRES := Lib.hid (HN.out w1 hb1)
    clear hb1 HV HN
    go_wp2_with fail
    refine bodyPost_ret (results_tmp4 rfl _ _ _) rfl ?_
    exact HRES.out

end Go.Proofs.Ytipdfmedbcafpaa
end

section
/- The model's quicksort, in place, by its contract. -/
namespace Go.Proofs.Ytipdfmedbcafpaa
open Go.RowKit P El Qk
set_option linter.unusedVariables false

set_option maxRecDepth 100000 in
set_option maxHeartbeats 4000000 in
theorem sqs_small {n c : Nat} (a : Option Addr) (w : World) (h : n < 2) :
    Calls Try.prog 106 #[.slice a n c] w fun e w' => e = .returned (.int .i64 0) ∧ w' = w := by
  have hz : (n : Int) < 2 := by omega
  go_enter Try.func106, Try.ntmps106
  go_wp2_with fail
  go_ret
  exact ⟨rfl, rfl⟩

/-- What the sort of a part leaves. -/
def QsP (g o n : Nat) (R : List Int × Nat) (w : World) (e : Ending) (w' : World) : Prop := e = .returned (.int .i64 ((R.2 : Nat) : Int)) ∧ SegP g o n R.1 w w'

set_option maxRecDepth 100000 in
set_option maxHeartbeats 16000000 in
theorem sqs_any (f : Nat) : ∀ (g o c n : Nat) (L : List Int) (w : World), Seg w g o (ints L) → L.length = n → n ≤ f → n ≤ 64 → n ≤ c →
    Calls Try.prog 106 #[.slice (some ⟨g, o, none⟩) n c] w (QsP g o n (qs f L) w) := by
  induction f with
  | zero =>
    intro g o c n L w h hL hf h64 hc
    refine (sqs_small _ w (by omega)).mono ?_
    rintro e w' ⟨rfl, rfl⟩
    rw [qs_small (by omega)]
    exact ⟨rfl, h, ButS.refl _ _ _ _⟩
  | succ f ih =>
    intro g o c n L w h hL hf h64 hc
    by_cases h2 : n < 2
    · refine (sqs_small _ w h2).mono ?_
      rintro e w' ⟨rfl, rfl⟩
      rw [qs_small (by omega)]
      exact ⟨rfl, h, ButS.refl _ _ _ _⟩
    · have h2z : ¬ (n : Int) < 2 := by omega
      have h2d : decide ((n : Int) < 2) = false := decide_eq_false h2z
      have hm := medF_lt (L := L) (by omega)
      have hmm := getD_mem hm
      have ht := thF_spec L (L.getD (medF L) 0)
      have hx := thF_some hmm
      obtain ⟨⟨M, lt, gt⟩, he⟩ : ∃ T, thF L (L.getD (medF L) 0) = T := ⟨_, rfl⟩
      have HMED := Lib.hid (smedR_any (c := c) w h.rd hL (by omega) (by omega))
      obtain ⟨x, hxe⟩ : ∃ x, x = L.getD (medF L) 0 := ⟨_, rfl⟩
      obtain ⟨hcx, _⟩ := h.at hm
      rw [← hxe] at he hcx ht hx
      have HTH := Lib.hid (fun (W : World) (h : Seg W g o (ints L)) => sthree_any (c := c) x W h hL (by omega))
      rw [he] at ht hx HTH
      simp only at ht hx HTH
      have hq := qs_big (f := f) (M := M) (lt := lt) (gt := gt) (by omega : ¬ L.length < 2) (by rw [← hxe]; exact he)
      obtain ⟨p1, p2⟩ := part_lens ht
      have hgn : gt ≤ n := by have := ht.h3; omega
      have hlg : lt ≤ gt := ht.h1
      have hML : M.length = n := by have := ht.perm.length_eq; omega
      obtain ⟨s1, s2⟩ := qs_spec f (M.take lt) (by omega)
      obtain ⟨s3, s4⟩ := qs_spec f (M.drop gt) (by omega)
      have l1 : (qs f (M.take lt)).1.length = lt := by rw [s1, srt_length]; exact p1
      have l3 : (qs f (M.drop gt)).1.length = n - gt := by rw [s3, srt_length]; omega
      have HI1 := Lib.hid (fun (W : World) (h : Seg W g o (ints (M.take lt))) => ih g o c lt (M.take lt) W h p1 (by omega) (by omega) (by omega))
      have HI2 : Hid (gt < n → ∀ (W : World), Seg W g (o + gt) (ints (M.drop gt)) → Calls Try.prog 106 #[.slice (some ⟨g, o + gt, none⟩) (n - gt) (c - gt)] W (QsP g (o + gt) (n - gt) (qs f (M.drop gt)) W)) := Lib.hid (fun _ W h => ih g (o + gt) (c - gt) (n - gt) (M.drop gt) W h (by omega) (by omega) (by omega) (by omega))
      have HQ0 : Hid (gt = n → qs f (M.drop gt) = ([], 0)) := Lib.hid (fun e => by
        have e2 : M.drop gt = [] := List.eq_nil_of_length_eq_zero (by omega)
        rw [e2]; exact qs_small (by simp))
      have HHS : Hid (Seg w g o (ints L) ∧ g < w.heap.size) := Lib.hid ⟨h, h.1⟩
      have HTR : Hid (∀ w2 w3 w4, Seg w2 g o (ints M) → SegP g o lt (qs f (M.take lt)).1 w2 w3 → SegP g (o + gt) (n - gt) (qs f (M.drop gt)).1 w3 w4 → SegP g o n (qs (f + 1) L).1 w2 w4) := Lib.hid (fun w2 w3 w4 a b c => by
        rw [hq]; exact a.three hML hlg hgn l1 l3 b c)
      have HPA : Hid (∀ W, Seg W g o (ints M) → Seg W g o (ints (M.take lt)) ∧ Seg W g (o + gt) (ints (M.drop gt))) := Lib.hid (fun W hh => by
        obtain ⟨e1, _, e3⟩ := hh.parts hlg (by omega); exact ⟨e1, e3⟩)
      have HDL : Hid ((ints (M.drop gt)).length = n - gt) := Lib.hid (by rw [ints_length]; omega)
      have hQ2 : (qs (f + 1) L).2 = 1 + (qs f (M.take lt)).2 + (qs f (M.drop gt)).2 := by rw [hq]
      have HQ2 := Lib.hid hQ2
      have hb1 : (qs f (M.take lt)).2 ≤ 64 := by omega
      have hb3 : (qs f (M.drop gt)).2 ≤ 64 := by omega
      clear hq s1 s2 s3 s4 l1 l3 p1 p2 ht hx hmm h hQ2 ih
      generalize qs (f + 1) L = R at *
      generalize qs f (M.take lt) = RA at *
      generalize qs f (M.drop gt) = RB at *
      obtain ⟨R1, R2⟩ := R
      obtain ⟨A, a⟩ := RA
      obtain ⟨B, b⟩ := RB
      simp only at *
      generalize hmd : medF L = md at *
      have HMD := Lib.hid hmd
      have hmz : (md : Int) < n := by omega
      have hltz : (lt : Int) ≤ n := by omega
      have hgtz : (gt : Int) ≤ n := by omega
      have hltc : (lt : Int) ≤ c := by omega
      have hcz : (n : Int) ≤ c := by omega
      have HLL := Lib.hid hL
      have HE := Lib.hid he
      have HXE := Lib.hid hxe
      have HML := Lib.hid hML
      clear hmd he hxe hL hML
      rcases (show gt < n ∨ (gt = n ∧ n = c) ∨ (gt = n ∧ n < c) by omega) with hg | ⟨hg, hg2⟩ | ⟨hg, hg2⟩
      · have HI3 := Lib.hid (HI2.out hg)
        have hgc : (gt : Int) < c := by omega
        have hgc2 : ¬ gt = c := by omega
        have hgc3 : gt < c := by omega
        clear HI2 HQ0
        go_enter Try.func106, Try.ntmps106
        go_wp2_with fail
        refine HMED.out.mono ?_
        rintro e w1 ⟨rfl, hb1'⟩
        have hcx1 : w1.cell? ⟨g, o + md, none⟩ = some (.int .i64 x) := (hb1'.cell (p := ⟨g, o + md, none⟩) HHS.out.2).trans hcx
        have HS1 := Lib.hid (HHS.out.1.below hb1' HHS.out.2)
        have HB1 : Hid (ButS g o n w w1) := Lib.hid (ButS.ofBelow hb1' HHS.out.2)
        clear hb1' HMED hcx
        go_wp2_with fail
        refine (HTH.out _ HS1.out).mono ?_
        rintro e w2 ⟨rfl, hs2, hb2⟩
        have HS2 := Lib.hid hs2
        have HB2 := Lib.hid (HB1.out.trans hb2)
        obtain ⟨hp1, hp2⟩ := HPA.out _ hs2
        have HP1 : Hid (∀ t, Seg (w2.drewN t) g o (ints (M.take lt))) := Lib.hid (fun t => hp1.drewN t)
        have HP2 : Hid (∀ t, Seg (w2.drewN t) g (o + gt) (ints (M.drop gt))) := Lib.hid (fun t => hp2.drewN t)
        clear hs2 hb2 hp1 hp2 HTH HS1 HB1 hcx1
        go_wp2_with fail
        have hwa : IntKind.i64.wrap (1 + (a : Int)) = 1 + (a : Int) := by rw [IntKind.wrap_i64]; omega
        have hwb : IntKind.i64.wrap (1 + (a : Int) + (b : Int)) = 1 + (a : Int) + (b : Int) := by rw [IntKind.wrap_i64]; omega
        go_region_with (first
          | (go_at_call_of 106 (Value.slice (some ⟨g, o, none⟩) lt c); refine (HI1.out _ (HP1.out 1)).mono ?_; rintro e w3 ⟨rfl, hs3, hb3'⟩)
          | (go_at_call_of 106 (Value.slice (some ⟨g, o + gt, none⟩) (n - gt) (c - gt)); refine (HI3.out _ ((HP2.out 1).keep hb3' (.inr (by omega)))).mono ?_; rintro e w4 ⟨rfl, hs4, hb4'⟩))
        have HRES : Hid (QsP g o n (R1, R2) w (.returned (.int .i64 (1 + (a : Int) + (b : Int)))) w4) := Lib.hid (by
          have hh := HTR.out (w2.drewN 1) w3 w4 (HS2.out.drewN 1) ⟨hs3, hb3'⟩ ⟨hs4, hb4'⟩
          refine ⟨?_, hh.1, (HB2.out.drewN 1).trans hh.2⟩
          have := HQ2.out
          rw [this]; go_num)
        clear hs3 hb3' hs4 hb4' HI1 HI3 HP1 HP2 HTR hwa hwb
        go_wp2_with fail
        go_ret
        exact HRES.out
      · subst hg
        subst hg2
        obtain ⟨rfl, rfl⟩ := Prod.mk.inj (HQ0.out rfl)
        clear HI2 HQ0
        go_enter Try.func106, Try.ntmps106
        go_wp2_with fail
        refine HMED.out.mono ?_
        rintro e w1 ⟨rfl, hb1'⟩
        have hcx1 : w1.cell? ⟨g, o + md, none⟩ = some (.int .i64 x) := (hb1'.cell (p := ⟨g, o + md, none⟩) HHS.out.2).trans hcx
        have HS1 := Lib.hid (HHS.out.1.below hb1' HHS.out.2)
        have HB1 : Hid (ButS g o gt w w1) := Lib.hid (ButS.ofBelow hb1' HHS.out.2)
        clear hb1' HMED hcx
        go_wp2_with fail
        refine (HTH.out _ HS1.out).mono ?_
        rintro e w2 ⟨rfl, hs2, hb2⟩
        have HS2 := Lib.hid hs2
        have HB2 := Lib.hid (HB1.out.trans hb2)
        obtain ⟨hp1, hp2⟩ := HPA.out _ hs2
        have HP1 : Hid (∀ t, Seg (w2.drewN t) g o (ints (M.take lt))) := Lib.hid (fun t => hp1.drewN t)
        have HP2 : Hid (∀ t, Seg (w2.drewN t) g (o + gt) (ints (M.drop gt))) := Lib.hid (fun t => hp2.drewN t)
        clear hs2 hb2 hp1 hp2 HTH HS1 HB1 hcx1
        go_wp2_with fail
        have hwa : IntKind.i64.wrap (1 + (a : Int)) = 1 + (a : Int) := by rw [IntKind.wrap_i64]; omega
        go_region_with (first
          | (go_at_call_of 106 (Value.slice (some ⟨g, o, none⟩) lt gt); refine (HI1.out _ (HP1.out 1)).mono ?_; rintro e w3 ⟨rfl, hs3, hb3'⟩)
          | (go_at_call 106; refine (sqs_small _ _ (by omega)).mono ?_; rintro e w3 ⟨rfl, rfl⟩))
        have HRES : Hid (QsP g o gt (R1, R2) w (.returned (.int .i64 (1 + (a : Int)))) w3) := Lib.hid (by
          have hh := HTR.out (w2.drewN 1) w3 w3 (HS2.out.drewN 1) ⟨hs3, hb3'⟩ ⟨Seg.nil hs3.1, ButS.refl _ _ _ _⟩
          refine ⟨?_, hh.1, (HB2.out.drewN 1).trans hh.2⟩
          have := HQ2.out
          rw [this]; go_num)
        clear hs3 hb3' HI1 HP1 HP2 HTR hwa
        go_wp2_with fail
        go_ret
        exact HRES.out
      · subst hg
        have hgc2 : ¬ gt = c := by omega
        have hgc3 : (gt : Int) < c := by omega
        obtain ⟨rfl, rfl⟩ := Prod.mk.inj (HQ0.out rfl)
        clear HI2 HQ0
        go_enter Try.func106, Try.ntmps106
        go_wp2_with fail
        refine HMED.out.mono ?_
        rintro e w1 ⟨rfl, hb1'⟩
        have hcx1 : w1.cell? ⟨g, o + md, none⟩ = some (.int .i64 x) := (hb1'.cell (p := ⟨g, o + md, none⟩) HHS.out.2).trans hcx
        have HS1 := Lib.hid (HHS.out.1.below hb1' HHS.out.2)
        have HB1 : Hid (ButS g o gt w w1) := Lib.hid (ButS.ofBelow hb1' HHS.out.2)
        clear hb1' HMED hcx
        go_wp2_with fail
        refine (HTH.out _ HS1.out).mono ?_
        rintro e w2 ⟨rfl, hs2, hb2⟩
        have HS2 := Lib.hid hs2
        have HB2 := Lib.hid (HB1.out.trans hb2)
        obtain ⟨hp1, hp2⟩ := HPA.out _ hs2
        have HP1 : Hid (∀ t, Seg (w2.drewN t) g o (ints (M.take lt))) := Lib.hid (fun t => hp1.drewN t)
        have HP2 : Hid (∀ t, Seg (w2.drewN t) g (o + gt) (ints (M.drop gt))) := Lib.hid (fun t => hp2.drewN t)
        clear hs2 hb2 hp1 hp2 HTH HS1 HB1 hcx1
        go_wp2_with fail
        have hwa : IntKind.i64.wrap (1 + (a : Int)) = 1 + (a : Int) := by rw [IntKind.wrap_i64]; omega
        go_region_with (first
          | (go_at_call_of 106 (Value.slice (some ⟨g, o, none⟩) lt c); refine (HI1.out _ (HP1.out 1)).mono ?_; rintro e w3 ⟨rfl, hs3, hb3'⟩)
          | (go_at_call 106; refine (sqs_small _ _ (by omega)).mono ?_; rintro e w3 ⟨rfl, rfl⟩))
        have HRES : Hid (QsP g o gt (R1, R2) w (.returned (.int .i64 (1 + (a : Int)))) w3) := Lib.hid (by
          have hh := HTR.out (w2.drewN 1) w3 w3 (HS2.out.drewN 1) ⟨hs3, hb3'⟩ ⟨Seg.nil hs3.1, ButS.refl _ _ _ _⟩
          refine ⟨?_, hh.1, (HB2.out.drewN 1).trans hh.2⟩
          have := HQ2.out
          rw [this]; go_num)
        clear hs3 hb3' HI1 HP1 HP2 HTR hwa
        go_wp2_with fail
        go_ret
        exact HRES.out

end Go.Proofs.Ytipdfmedbcafpaa
end

section
/- The model's QuickSort, by its contract. -/
namespace Go.Proofs.Ytipdfmedbcafpaa
open Go.RowKit P El Qk
set_option linter.unusedVariables false

set_option maxRecDepth 100000 in
set_option maxHeartbeats 4000000 in
theorem specQk_any (b o c : Nat) (l : List Int) (w : World) (hv : FlatAt w (.slice (some ⟨b, o, none⟩) l.length c) l.length (ints l)) (hn : l.length ≤ 1048576) :
    Calls Try.prog 49 #[.slice (some ⟨b, o, none⟩) l.length c] w (RetI1 (qsAll l) w) := by
  have HV := Lib.hid (l2List_any _ l w hv hn)
  have HNONE : Hid (¬ OkL l → ∀ w1, Below w.heap.size w w1 → RetI1 (qsAll l) w (.returned (.tuple #[.slice (some ⟨w1.heap.size, 0, none⟩) 0 0, .int .i64 0, .bool false])) (w1.alloc (.cells #[] 3))) := Lib.hid (fun h w1 hb => by rw [qsAll_no h]; exact RetI1.none w w1 hb)
  by_cases hok : OkL l
  · rw [decide_eq_true hok] at HV
    have HF := Lib.hid (qsAll_yes hok)
    have HOWN := Lib.hid (fun W (h : FlatAt W (.slice (some ⟨b, o, none⟩) l.length c) l.length (ints l)) => l1Own_any b o c l W h hn)
    have h64 := hok.1
    have HTH := Lib.hid (fun (g cap : Nat) W (h : CellRow W g (ints l)) (hc : l.length ≤ cap) => sqs_any l.length g 0 cap l.length l W (Seg.of_row h) rfl (Nat.le_refl _) h64 hc)
    have HLN : Hid ((qs l.length l).1.length = l.length) := Lib.hid (by rw [(qs_spec _ l (Nat.le_refl _)).1, srt_length])
    have HQF : Hid (qsF l = qs l.length l) := Lib.hid rfl
    rw [HQF.out] at HF
    have HFV := Lib.hid hv
    clear hok hv HNONE
    clear HQF
    generalize qs l.length l = R at *
    obtain ⟨M, q⟩ := R
    simp only at HF HTH HLN
    go_enter Try.func49, Try.ntmps49
    go_wp2_with fail
    refine HV.out.mono ?_
    rintro e w1 ⟨rfl, hb1⟩
    have HV1 := Lib.hid (HFV.out.below hb1)
    have HB1 := Lib.hid hb1
    clear hb1 HV HFV
    go_wp2_with fail
    refine (HOWN.out _ HV1.out).mono ?_
    rintro e w2 ⟨g, cap, rfl, hcap, hg, hrow, hb2⟩
    have HG : Hid (w.heap.size ≤ g) := Lib.hid (Nat.le_trans HB1.out.size hg)
    have HCAP := Lib.hid hcap
    have HB2 := Lib.hid (HB1.out.trans (hb2.mono HB1.out.size))
    have HS := Lib.hid (HTH.out g cap w2 hrow hcap)
    clear hb2 hrow HOWN HV1 hg hcap HTH HB1
    go_wp2_with fail
    refine HS.out.mono ?_
    rintro e w3 ⟨rfl, hr3, hb3⟩
    have HRES : Hid (RetI1 (qsAll l) w (.returned (.tuple #[.slice (some ⟨g, 0, none⟩) l.length cap, .int .i64 (q : Int), .bool true])) w3) := Lib.hid (by
      rw [HF.out]
      exact ⟨g, cap, by simp only; rw [HLN.out], by simp only; rw [HLN.out]; exact HCAP.out, HG.out, hr3.row, HB2.out.trans (hb3.below HG.out HB2.out.size)⟩)
    clear hr3 hb3 HS
    go_wp2_with fail
    go_ret3
    exact HRES.out
  · rw [decide_eq_false hok] at HV
    have HN := Lib.hid (HNONE.out hok)
    clear hok HNONE hv
    go_enter Try.func49, Try.ntmps49
    go_wp2_with fail
    refine HV.out.mono ?_
    rintro e w1 ⟨rfl, hb1⟩
    have HRES := Lib.hid (HN.out w1 hb1)
    clear hb1 HV HN
    go_wp2_with fail
    go_ret3
    exact HRES.out

end Go.Proofs.Ytipdfmedbcafpaa
end

section
/- The model's MedianIndex, by its contract. -/
namespace Go.Proofs.Ytipdfmedbcafpaa
open Go.RowKit P El Qk
set_option linter.unusedVariables false

set_option maxRecDepth 100000 in
theorem specMed_any (b o c : Nat) (l : List Int) (w : World) (hv : FlatAt w (.slice (some ⟨b, o, none⟩) l.length c) l.length (ints l)) (hn : l.length ≤ 1048576) :
    Calls Try.prog 54 #[.slice (some ⟨b, o, none⟩) l.length c] w fun e w' => e = .returned (.tuple #[.int .i64 (medAll l).1, .bool (medAll l).2]) ∧ Below w.heap.size w w' := by
  have HV := Lib.hid (l2List_any _ l w hv hn)
  by_cases hok : OkL l
  · rw [decide_eq_true hok] at HV
    by_cases h0 : l.length = 0
    · have HN := Lib.hid (medAll_no (l := l) (fun h => by omega))
      obtain rfl := List.eq_nil_of_length_eq_zero h0
      clear hok hv h0
      rw [List.length_nil] at HV ⊢
      go_enter Try.func54, Try.ntmps54
      go_wp2_with fail
      refine HV.out.mono ?_
      rintro e w1 ⟨rfl, hb1⟩
      have HB1 := Lib.hid hb1
      clear hb1 HV
      go_wp2_with fail
      go_ret2
      exact ⟨by rw [HN.out]; rfl, HB1.out⟩
    · have hl0 : 0 < l.length := by omega
      have h0z : ((l.length : Int) == 0) = false := beq_eq_false_iff_ne.2 (by omega)
      have h0z2 : ¬ (l.length : Int) = 0 := by omega
      have HF := Lib.hid (medAll_yes ⟨hok, hl0⟩)
      have HS := Lib.hid (FlatRd.of_flat hv)
      have HM := Lib.hid (fun W (h : FlatRd W b o (ints l)) => smedR_any (c := c) (n := l.length) W h rfl hn hl0)
      clear hok hv h0
      go_enter Try.func54, Try.ntmps54
      go_wp2_with fail
      refine HV.out.mono ?_
      rintro e w1 ⟨rfl, hb1⟩
      have HS1 := Lib.hid (HS.out.below hb1)
      have HB1 := Lib.hid hb1
      clear hb1 HV HS
      go_wp2_with fail
      refine (HM.out _ HS1.out).mono ?_
      rintro e w2 ⟨rfl, hb2⟩
      have HB2 := Lib.hid (HB1.out.trans (hb2.mono HB1.out.size))
      clear hb2
      go_wp2_with fail
      go_ret2
      exact ⟨by rw [HF.out]; rfl, HB2.out⟩
  · rw [decide_eq_false hok] at HV
    have HN := Lib.hid (medAll_no (l := l) (fun h => hok h.1))
    clear hok hv
    go_enter Try.func54, Try.ntmps54
    go_wp2_with fail
    refine HV.out.mono ?_
    rintro e w1 ⟨rfl, hb1⟩
    have HB1 := Lib.hid hb1
    clear hb1 HV
    go_wp2_with fail
    go_ret2
    exact ⟨by rw [HN.out]; rfl, HB1.out⟩

end Go.Proofs.Ytipdfmedbcafpaa
end

section
/- The draws of the partitions' laws, by contracts. -/
namespace Go.Proofs.Ytipdfmedbcafpaa
open Go.RowKit P El
set_option linter.unusedVariables false

/-- A short list and a small number. -/
def LxQ (w : World) (e : Ending) (w' : World) : Prop :=
  ∃ (g1 c1 : Nat) (L1 : List Int) (x : Int), L1.length ≤ 66 ∧ -100 ≤ x ∧ x ≤ 100 ∧ e = .returned (.tuple #[.slice (some ⟨g1, 0, none⟩) L1.length c1, .int .i64 x]) ∧ L1.length ≤ c1 ∧ CellRow w' g1 (ints L1) ∧ Below w.heap.size w w'
/-- Two numbers. -/
def LxxQ (w : World) (e : Ending) (w' : World) : Prop :=
  ∃ (g1 c1 : Nat) (L1 : List Int) (x y : Int), L1.length ≤ 66 ∧ -100 ≤ x ∧ x ≤ 100 ∧ -100 ≤ y ∧ y ≤ 100 ∧ e = .returned (.tuple #[.slice (some ⟨g1, 0, none⟩) L1.length c1, .int .i64 x, .int .i64 y]) ∧ L1.length ≤ c1 ∧ CellRow w' g1 (ints L1) ∧ Below w.heap.size w w'

theorem drawHoare_any (a : Option Addr) (len cap : Nat) (w : World) (h : Code0 w a len) :
    Calls Try.prog 38 #[.slice a len cap] w (OneH w) := by
  have H := Lib.hid (drawSorted_any a len cap w h)
  clear h
  go_enter Try.func38, Try.ntmps38
  go_wp2_with fail
  refine H.out.mono ?_
  rintro e w1 ⟨g1, c1, l, hl, rfl, hc1, hrow, hb⟩
  have HRES : Hid (OneH w (.returned (.slice (some ⟨g1, 0, none⟩) l.length c1)) w1) := Lib.hid ⟨g1, c1, l, hl, rfl, hc1, hrow, hb⟩
  clear hrow hb H
  go_wp2_with fail
  go_ret
  exact HRES.out
theorem drawQuick_any (a : Option Addr) (len cap : Nat) (w : World) (h : Code0 w a len) :
    Calls Try.prog 47 #[.slice a len cap] w (OneH w) := by
  have H := Lib.hid (drawSorted_any a len cap w h)
  clear h
  go_enter Try.func47, Try.ntmps47
  go_wp2_with fail
  refine H.out.mono ?_
  rintro e w1 ⟨g1, c1, l, hl, rfl, hc1, hrow, hb⟩
  have HRES : Hid (OneH w (.returned (.slice (some ⟨g1, 0, none⟩) l.length c1)) w1) := Lib.hid ⟨g1, c1, l, hl, rfl, hc1, hrow, hb⟩
  clear hrow hb H
  go_wp2_with fail
  go_ret
  exact HRES.out

set_option maxRecDepth 100000 in
set_option maxHeartbeats 4000000 in
theorem drawLom_any (a : Option Addr) (len cap : Nat) (w : World) (h : Code0 w a len) :
    Calls Try.prog 34 #[.slice a len cap] w (LxQ w) := by
  have H := Lib.hid (cur_new h cap 70)
  have hb0 : (w.alloc (.cells #[.slice a len cap, .int .i64 0, .int .u64 0] 70)).heap.size = w.heap.size + 1 := by simp
  clear h
  go_enter Try.func34, Try.ntmps34
  go_wp2_with fail
  refine (anyIntsH_any w.heap.size w.heap.size a len cap 0 _ H.out (by omega)).mono ?_
  rintro e w1 ⟨v, l, hl, _, rfl, hown, hc, hb⟩
  obtain ⟨g1, c1, rfl, hg1, hc1, hrow⟩ := hown.row
  have HC1 := Lib.hid hc
  have HB1 := Lib.hid hb
  have HR1 := Lib.hid hrow
  have hgs : w.heap.size < g1 := by omega
  clear hown hc hb hrow H hb0
  go_wp2_with fail
  refine (pick_any w.heap.size w.heap.size a len cap _ ((l.length : Int) + 2) _ HC1.out (by omega) (by omega)).mono ?_
  rintro e w2 ⟨r, hr0, hr1, rfl, hc, hb⟩
  have hr2 : r ≤ 68 := by omega
  have HC2 := Lib.hid hc
  have HB2 := Lib.hid (HB1.out.trans hb)
  have HR2 := Lib.hid (HR1.out.but hb (by omega))
  clear hc hb HC1 HB1 HR1 hr1
  go_wp2_with fail
  refine (pick_any w.heap.size w.heap.size a len cap _ 2 _ HC2.out (by omega) (by omega)).mono ?_
  rintro e w3 ⟨s, hs0, hs1, rfl, hc, hb⟩
  have hs2 : s ≤ 2 := by omega
  have HRES : Hid (LxQ w (.returned (.tuple #[.slice (some ⟨g1, 0, none⟩) l.length c1, .int .i64 (r - s)])) w3) := Lib.hid ⟨g1, c1, l, r - s, hl, by omega, by omega, rfl, hc1, HR2.out.but hb (by omega), (HB2.out.trans hb).fresh⟩
  clear hc hb HC2 HB2 HR2 hs1
  go_wp2_with fail
  go_ret2
  exact HRES.out

set_option maxRecDepth 100000 in
set_option maxHeartbeats 4000000 in
theorem drawThr_any (a : Option Addr) (len cap : Nat) (w : World) (h : Code0 w a len) :
    Calls Try.prog 41 #[.slice a len cap] w (LxQ w) := by
  have H := Lib.hid (cur_new h cap 70)
  have hb0 : (w.alloc (.cells #[.slice a len cap, .int .i64 0, .int .u64 0] 70)).heap.size = w.heap.size + 1 := by simp
  clear h
  go_enter Try.func41, Try.ntmps41
  go_wp2_with fail
  refine (anyIntsH_any w.heap.size w.heap.size a len cap 0 _ H.out (by omega)).mono ?_
  rintro e w1 ⟨v, l, hl, _, rfl, hown, hc, hb⟩
  obtain ⟨g1, c1, rfl, hg1, hc1, hrow⟩ := hown.row
  have HC1 := Lib.hid hc
  have HB1 := Lib.hid hb
  have HR1 := Lib.hid hrow
  have hgs : w.heap.size < g1 := by omega
  clear hown hc hb hrow H hb0
  go_wp2_with fail
  refine (pick_any w.heap.size w.heap.size a len cap _ 9 _ HC1.out (by omega) (by omega)).mono ?_
  rintro e w2 ⟨r, hr0, hr1, rfl, hc, hb⟩
  have hr2 : r ≤ 9 := by omega
  have HRES : Hid (LxQ w (.returned (.tuple #[.slice (some ⟨g1, 0, none⟩) l.length c1, .int .i64 (r - 1)])) w2) := Lib.hid ⟨g1, c1, l, r - 1, hl, by omega, by omega, rfl, hc1, HR1.out.but hb (by omega), (HB1.out.trans hb).fresh⟩
  clear hc hb HC1 HB1 HR1 hr1
  go_wp2_with fail
  go_ret2
  exact HRES.out

set_option maxRecDepth 100000 in
set_option maxHeartbeats 4000000 in
theorem drawDu_any (a : Option Addr) (len cap : Nat) (w : World) (h : Code0 w a len) :
    Calls Try.prog 44 #[.slice a len cap] w (LxxQ w) := by
  have H := Lib.hid (cur_new h cap 70)
  have hb0 : (w.alloc (.cells #[.slice a len cap, .int .i64 0, .int .u64 0] 70)).heap.size = w.heap.size + 1 := by simp
  clear h
  go_enter Try.func44, Try.ntmps44
  go_wp2_with fail
  refine (anyIntsH_any w.heap.size w.heap.size a len cap 0 _ H.out (by omega)).mono ?_
  rintro e w1 ⟨v, l, hl, _, rfl, hown, hc, hb⟩
  obtain ⟨g1, c1, rfl, hg1, hc1, hrow⟩ := hown.row
  have HC1 := Lib.hid hc
  have HB1 := Lib.hid hb
  have HR1 := Lib.hid hrow
  have hgs : w.heap.size < g1 := by omega
  clear hown hc hb hrow H hb0
  go_wp2_with fail
  refine (pick_any w.heap.size w.heap.size a len cap _ 8 _ HC1.out (by omega) (by omega)).mono ?_
  rintro e w2 ⟨r, hr0, hr1, rfl, hc, hb⟩
  have hr2 : r ≤ 8 := by omega
  have HC2 := Lib.hid hc
  have HB2 := Lib.hid (HB1.out.trans hb)
  have HR2 := Lib.hid (HR1.out.but hb (by omega))
  clear hc hb HC1 HB1 HR1 hr1
  go_wp2_with fail
  refine (pick_any w.heap.size w.heap.size a len cap _ 5 _ HC2.out (by omega) (by omega)).mono ?_
  rintro e w3 ⟨s, hs0, hs1, rfl, hc, hb⟩
  have hs2 : s ≤ 5 := by omega
  have HRES : Hid (LxxQ w (.returned (.tuple #[.slice (some ⟨g1, 0, none⟩) l.length c1, .int .i64 r, .int .i64 (r + s - 1)])) w3) := Lib.hid ⟨g1, c1, l, r, r + s - 1, hl, by omega, by omega, by omega, by omega, rfl, hc1, HR2.out.but hb (by omega), (HB2.out.trans hb).fresh⟩
  clear hc hb HC2 HB2 HR2 hs1
  go_wp2_with fail
  go_ret3
  exact HRES.out

set_option maxRecDepth 100000 in
set_option maxHeartbeats 4000000 in
theorem drawIk_any (a : Option Addr) (len cap : Nat) (w : World) (h : Code0 w a len) :
    Calls Try.prog 50 #[.slice a len cap] w (LxQ w) := by
  have H := Lib.hid (cur_new h cap 70)
  have hb0 : (w.alloc (.cells #[.slice a len cap, .int .i64 0, .int .u64 0] 70)).heap.size = w.heap.size + 1 := by simp
  clear h
  go_enter Try.func50, Try.ntmps50
  go_wp2_with fail
  refine (anyIntsH_any w.heap.size w.heap.size a len cap 0 _ H.out (by omega)).mono ?_
  rintro e w1 ⟨v, l, hl, _, rfl, hown, hc, hb⟩
  obtain ⟨g1, c1, rfl, hg1, hc1, hrow⟩ := hown.row
  have HC1 := Lib.hid hc
  have HB1 := Lib.hid hb
  have HR1 := Lib.hid hrow
  have hgs : w.heap.size < g1 := by omega
  clear hown hc hb hrow H hb0
  go_wp2_with fail
  refine (one_any w.heap.size w.heap.size a len cap _ 12 _ HC1.out (by omega) (by omega)).mono ?_
  rintro e w2 ⟨bb, rfl, hc, hb⟩
  have HC2 := Lib.hid hc
  have HB2 := Lib.hid (HB1.out.trans hb)
  have HR2 := Lib.hid (HR1.out.but hb (by omega))
  clear hc hb HC1 HB1 HR1
  cases bb
  · go_wp2_with fail
    refine (pick_any w.heap.size w.heap.size a len cap _ 5 _ HC2.out (by omega) (by omega)).mono ?_
    rintro e w3 ⟨r, hr0, hr1, rfl, hc, hb⟩
    have hr2 : r ≤ 5 := by omega
    have HRES : Hid (LxQ w (.returned (.tuple #[.slice (some ⟨g1, 0, none⟩) l.length c1, .int .i64 r])) w3) := Lib.hid ⟨g1, c1, l, r, hl, by omega, by omega, rfl, hc1, HR2.out.but hb (by omega), (HB2.out.trans hb).fresh⟩
    clear hc hb HC2 HB2 HR2 hr1
    go_wp2_with fail
    go_ret2
    exact HRES.out
  · go_wp2_with fail
    refine (among_lit w.heap.size w.heap.size a len cap _ [-1, 20, 21] 3 3 _ rfl rfl w2 HC2.out (by omega) (by simp) (by simp)).mono ?_
    rintro e w3 ⟨x, hx, rfl, hc, hb⟩
    obtain ⟨r, hr, rfl⟩ := List.mem_map.1 hx
    have hr2 : -1 ≤ r ∧ r ≤ 21 := by simp at hr; omega
    have HRES : Hid (LxQ w (.returned (.tuple #[.slice (some ⟨g1, 0, none⟩) l.length c1, .int .i64 r])) w3) := Lib.hid ⟨g1, c1, l, r, hl, by omega, by omega, rfl, hc1, HR2.out.but hb (by omega), (HB2.out.trans hb).fresh⟩
    clear hc hb HC2 HB2 HR2 hx hr hr2
    go_wp2_with fail
    go_ret2
    exact HRES.out

end Go.Proofs.Ytipdfmedbcafpaa
end
