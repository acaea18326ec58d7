/- Partitions and quicksort, pure. Nothing of the program. -/
import Derived.Test.YthmcjmjkmmbepaaElem2
namespace Go.Proofs.Ythmcjmjkmmbepaa
set_option linter.unusedVariables false
namespace Qk
open P El

theorem swapped_self {L : List Int} {i : Nat} (hi : i < L.length) : swapped L i i = L := by
  unfold swapped; rw [List.set_set, set_getD hi]
theorem swapped_at {L : List Int} {i k : Nat} (j : Nat) (hi : i < L.length) (hk : k < L.length) : (swapped L i k).getD j 0 = if j = k then L.getD i 0 else if j = i then L.getD k 0 else L.getD j 0 := by
  unfold swapped
  by_cases hjk : j = k
  · subst hjk; rw [if_pos rfl, getD_set_same (by rw [List.length_set]; exact hk)]
  · rw [if_neg hjk, getD_set_other (fun e => hjk e.symm)]
    by_cases hji : j = i
    · subst hji; rw [if_pos rfl, getD_set_same hi]
    · rw [if_neg hji, getD_set_other (fun e => hji e.symm)]

/-- Lomuto's walk over the elements before the last one. -/
def lomAt (last i : Nat) (S : St2) : St2 := if S.1.getD i 0 < S.1.getD last 0 then (swapped S.1 i S.2, S.2 + 1) else S
theorem lomAt_yes {last i s : Nat} {L : List Int} (h : L.getD i 0 < L.getD last 0) : lomAt last i (L, s) = (swapped L i s, s + 1) := if_pos h
theorem lomAt_no {last i s : Nat} {L : List Int} (h : ¬ L.getD i 0 < L.getD last 0) : lomAt last i (L, s) = (L, s) := if_neg h
def lomN (last : Nat) : Nat → Nat → St2 → St2
  | _, 0, S => S
  | i, n + 1, S => lomN last (i + 1) n (lomAt last i S)
theorem lomN_succ (last i n : Nat) (S : St2) : lomN last i (n + 1) S = lomN last (i + 1) n (lomAt last i S) := rfl
def lomF (l : List Int) (p : Nat) : St2 :=
  (swapped (lomN (l.length - 1) 0 (l.length - 1) (swapped l p (l.length - 1), 0)).1 (l.length - 1) (lomN (l.length - 1) 0 (l.length - 1) (swapped l p (l.length - 1), 0)).2, (lomN (l.length - 1) 0 (l.length - 1) (swapped l p (l.length - 1), 0)).2)

structure Lom (l : List Int) (x : Int) (last i : Nat) (S : St2) : Prop where
  perm : S.1.Perm l
  le : S.2 ≤ i
  lo : ∀ j, j < S.2 → S.1.getD j 0 < x
  hi : ∀ j, S.2 ≤ j → j < i → x ≤ S.1.getD j 0
  pv : S.1.getD last 0 = x
theorem Lom.step {l : List Int} {x : Int} {last i : Nat} {S : St2} (h : Lom l x last i S) (hi : i < last) (hl : last < l.length) : Lom l x last (i + 1) (lomAt last i S) := by
  obtain ⟨L, s⟩ := S
  have h1 := h.perm.length_eq
  have h2 := h.le
  have h3 := h.lo
  have h4 := h.hi
  have h5 := h.pv
  simp only at h1 h2 h3 h4 h5
  by_cases hx : L.getD i 0 < L.getD last 0
  · rw [lomAt_yes hx]
    refine ⟨(swapped_perm (by omega) (by omega)).trans h.perm, by show s + 1 ≤ _; omega, fun j hj => ?_, fun j hj hj2 => ?_, ?_⟩
    · show (swapped L i s).getD j 0 < x
      rw [swapped_at j (by omega) (by omega)]
      simp only at hj
      by_cases e : j = s
      · rw [if_pos e]; omega
      · rw [if_neg e, if_neg (by omega)]; exact h3 j (by omega)
    · show x ≤ (swapped L i s).getD j 0
      rw [swapped_at j (by omega) (by omega)]
      simp only at hj
      rw [if_neg (by omega)]
      by_cases e : j = i
      · rw [if_pos e]; exact h4 s (Nat.le_refl _) (by omega)
      · rw [if_neg e]; exact h4 j (by omega) (by omega)
    · show (swapped L i s).getD last 0 = x
      rw [swapped_at last (by omega) (by omega), if_neg (by omega), if_neg (by omega)]; exact h5
  · rw [lomAt_no hx]
    refine ⟨h.perm, by show s ≤ _; omega, h3, fun j hj hj2 => ?_, h5⟩
    by_cases e : j = i
    · subst e; show x ≤ L.getD j 0; omega
    · exact h4 j hj (by omega)
theorem Lom.all {l : List Int} {x : Int} {last : Nat} (hl : last < l.length) : ∀ (n i : Nat) (S : St2), i + n = last → Lom l x last i S → Lom l x last last (lomN last i n S)
  | 0, i, S, hi, h => by obtain rfl : i = last := by omega
                         exact h
  | n + 1, i, S, hi, h => by rw [lomN_succ]; exact Lom.all hl n (i + 1) _ (by omega) (h.step (by omega) hl)
theorem lom_all {l : List Int} {p : Nat} (hp : p < l.length) : Lom l (l.getD p 0) (l.length - 1) (l.length - 1) (lomN (l.length - 1) 0 (l.length - 1) (swapped l p (l.length - 1), 0)) :=
  Lom.all (by omega) _ 0 _ (by omega) ⟨swapped_perm hp (by omega), Nat.zero_le _, fun j hj => absurd hj (Nat.not_lt_zero _), fun j _ hj => absurd hj (Nat.not_lt_zero _), by
    show (swapped l p (l.length - 1)).getD _ 0 = _; rw [swapped_at _ hp (by omega), if_pos rfl]⟩
theorem lomAt_length (last i : Nat) (S : St2) : (lomAt last i S).1.length = S.1.length := by
  unfold lomAt; split
  · exact swapped_length _ _ _
  · rfl
theorem lomF_spec {l : List Int} {p : Nat} (hp : p < l.length) : (lomF l p).1.Perm l ∧ (lomF l p).2 < l.length ∧ (lomF l p).1.getD (lomF l p).2 0 = l.getD p 0 ∧
    (∀ j, j < (lomF l p).2 → (lomF l p).1.getD j 0 < l.getD p 0) ∧ (∀ j, (lomF l p).2 < j → j < l.length → l.getD p 0 ≤ (lomF l p).1.getD j 0) := by
  have h := lom_all hp
  unfold lomF
  generalize lomN (l.length - 1) 0 (l.length - 1) (swapped l p (l.length - 1), 0) = S at h ⊢
  obtain ⟨L, s⟩ := S
  have h1 := h.perm.length_eq
  have h2 := h.le
  have h3 := h.lo
  have h4 := h.hi
  have h5 := h.pv
  simp only at h1 h2 h3 h4 h5 ⊢
  refine ⟨(swapped_perm (by omega) (by omega)).trans h.perm, by omega, ?_, fun j hj => ?_, fun j hj hj2 => ?_⟩
  · rw [swapped_at _ (by omega) (by omega), if_pos rfl]; exact h5
  · rw [swapped_at _ (by omega) (by omega), if_neg (by omega), if_neg (by omega)]; exact h3 j hj
  · rw [swapped_at _ (by omega) (by omega), if_neg (by omega)]
    by_cases e : j = l.length - 1
    · rw [if_pos e]
      by_cases e2 : s = l.length - 1
      · omega
      · exact h4 s (Nat.le_refl _) (by omega)
    · rw [if_neg e]; exact h4 j (by omega) (by omega)

/-- The first index from i on whose element is not less than x. -/
def scU (x : Int) (L : List Int) : Nat → Nat → Nat
  | 0, i => i
  | f + 1, i => if L.getD i 0 < x then scU x L f (i + 1) else i
def upF (x : Int) (L : List Int) (i : Nat) : Nat := scU x L (L.length - i) i
theorem upF_go {x : Int} {L : List Int} {i : Nat} (hi : i < L.length) (h : L.getD i 0 < x) : upF x L i = upF x L (i + 1) := by
  unfold upF; rw [show L.length - i = (L.length - (i + 1)) + 1 by omega]; exact if_pos h
theorem upF_stop {x : Int} {L : List Int} {i : Nat} (h : ¬ L.getD i 0 < x) : upF x L i = i := by
  unfold upF
  cases L.length - i with
  | zero => rfl
  | succ f => exact if_neg h
theorem upF_spec {x : Int} {L : List Int} : ∀ (n i : Nat), L.length - i ≤ n → (∃ j, i ≤ j ∧ j < L.length ∧ x ≤ L.getD j 0) →
    i ≤ upF x L i ∧ upF x L i < L.length ∧ x ≤ L.getD (upF x L i) 0 ∧ ∀ m, i ≤ m → m < upF x L i → L.getD m 0 < x := by
  intro n
  induction n with
  | zero => rintro i hn ⟨j, h1, h2, h3⟩; omega
  | succ n ih =>
    rintro i hn ⟨j, h1, h2, h3⟩
    by_cases h : L.getD i 0 < x
    · have hij : i ≠ j := fun e => by subst e; omega
      rw [upF_go (by omega) h]
      obtain ⟨a1, a2, a3, a4⟩ := ih (i + 1) (by omega) ⟨j, by omega, h2, h3⟩
      refine ⟨by omega, a2, a3, fun m hm hm2 => ?_⟩
      by_cases e : m = i
      · subst e; exact h
      · exact a4 m (by omega) hm2
    · rw [upF_stop h]
      exact ⟨Nat.le_refl _, by omega, by omega, fun m hm hm2 => by omega⟩
/-- The last index before k whose element is not greater than x. -/
def dnF (x : Int) (L : List Int) : Nat → Nat
  | 0 => 0
  | k + 1 => if x < L.getD k 0 then dnF x L k else k
theorem dnF_go {x : Int} {L : List Int} {k : Nat} (h : x < L.getD k 0) : dnF x L (k + 1) = dnF x L k := if_pos h
theorem dnF_stop {x : Int} {L : List Int} {k : Nat} (h : ¬ x < L.getD k 0) : dnF x L (k + 1) = k := if_neg h
theorem dnF_spec {x : Int} {L : List Int} : ∀ k, (∃ j, j < k ∧ L.getD j 0 ≤ x) → dnF x L k < k ∧ L.getD (dnF x L k) 0 ≤ x ∧ ∀ m, dnF x L k < m → m < k → x < L.getD m 0
  | 0, ⟨j, h, _⟩ => by omega
  | k + 1, ⟨j, h1, h2⟩ => by
    by_cases h : x < L.getD k 0
    · have hjk : j ≠ k := fun e => by subst e; omega
      rw [dnF_go h]
      obtain ⟨a1, a2, a3⟩ := dnF_spec k ⟨j, by omega, h2⟩
      refine ⟨by omega, a2, fun m hm hm2 => ?_⟩
      by_cases e : m = k
      · subst e; exact h
      · exact a3 m hm (by omega)
    · rw [dnF_stop h]
      exact ⟨by omega, by omega, fun m hm hm2 => by omega⟩

/-- Hoare's two indices: a, the first place not yet looked at, k the last one that was. -/
def hoN (x : Int) : Nat → List Int → Nat → Nat → St2
  | 0, L, _, k => (L, k)
  | f + 1, L, a, k => if dnF x L k ≤ upF x L a then (L, dnF x L k + 1) else hoN x f (swapped L (upF x L a) (dnF x L k)) (upF x L a + 1) (dnF x L k)
theorem hoN_stop {x : Int} {f a k : Nat} {L : List Int} (h : dnF x L k ≤ upF x L a) : hoN x (f + 1) L a k = (L, dnF x L k + 1) := if_pos h
theorem hoN_go {x : Int} {f a k : Nat} {L : List Int} (h : ¬ dnF x L k ≤ upF x L a) : hoN x (f + 1) L a k = hoN x f (swapped L (upF x L a) (dnF x L k)) (upF x L a + 1) (dnF x L k) := if_neg h
def hoF (l : List Int) : St2 := hoN (l.getD 0 0) (l.length + 1) l 0 l.length
structure Hoa (l : List Int) (x : Int) (L : List Int) (a k : Nat) : Prop where
  perm : L.Perm l
  wu : ∃ j, a ≤ j ∧ j < L.length ∧ x ≤ L.getD j 0
  wd : ∃ j, j < k ∧ L.getD j 0 ≤ x
  kle : k ≤ l.length
  ale : a ≤ k
  lo : ∀ j, j < a → L.getD j 0 ≤ x
  hi : ∀ j, k ≤ j → j < l.length → x ≤ L.getD j 0
theorem Hoa.start {l : List Int} (h : 0 < l.length) : Hoa l (l.getD 0 0) l 0 l.length :=
  ⟨List.Perm.refl _, ⟨0, Nat.le_refl _, h, Int.le_refl _⟩, ⟨0, h, Int.le_refl _⟩, Nat.le_refl _, Nat.zero_le _, fun j hj => absurd hj (Nat.not_lt_zero _), fun j h1 h2 => by omega⟩
theorem Hoa.places {l : List Int} {x : Int} {L : List Int} {a k : Nat} (h : Hoa l x L a k) : a ≤ upF x L a ∧ upF x L a < l.length ∧ dnF x L k < k := by
  obtain ⟨a1, a2, a3, a4⟩ := upF_spec _ a (Nat.le_refl _) h.wu
  obtain ⟨b1, b2, b3⟩ := dnF_spec k h.wd
  have := h.perm.length_eq
  exact ⟨a1, by omega, b1⟩
theorem Hoa.step {l : List Int} {x : Int} {L : List Int} {a k : Nat} (h : Hoa l x L a k) (hs : ¬ dnF x L k ≤ upF x L a) : Hoa l x (swapped L (upF x L a) (dnF x L k)) (upF x L a + 1) (dnF x L k) := by
  obtain ⟨a1, a2, a3, a4⟩ := upF_spec _ a (Nat.le_refl _) h.wu
  obtain ⟨b1, b2, b3⟩ := dnF_spec k h.wd
  have hk := h.kle
  have hl := h.perm.length_eq
  have hlo := h.lo
  have hhi := h.hi
  generalize upF x L a = i at *
  generalize dnF x L k = d at *
  have hsl : (swapped L i d).length = L.length := swapped_length _ _ _
  refine ⟨(swapped_perm (by omega) (by omega)).trans h.perm, ⟨d, by omega, by omega, ?_⟩, ⟨i, by omega, ?_⟩, by omega, by omega, fun j hj => ?_, fun j hj hj2 => ?_⟩
  · rw [swapped_at _ (by omega) (by omega), if_pos rfl]; exact a3
  · rw [swapped_at _ (by omega) (by omega), if_neg (by omega), if_pos rfl]; exact b2
  · rw [swapped_at _ (by omega) (by omega), if_neg (by omega)]
    by_cases e : j = i
    · rw [if_pos e]; exact b2
    · rw [if_neg e]
      by_cases e2 : j < a
      · exact hlo j e2
      · have := a4 j (by omega) (by omega); omega
  · rw [swapped_at _ (by omega) (by omega)]
    by_cases e : j = d
    · rw [if_pos e]; exact a3
    · rw [if_neg e, if_neg (by omega)]
      by_cases e2 : k ≤ j
      · exact hhi j e2 hj2
      · have := b3 j (by omega) (by omega); omega
structure Parted (l : List Int) (x : Int) (R : St2) : Prop where
  perm : R.1.Perm l
  one : 1 ≤ R.2
  le : R.2 ≤ l.length
  lo : ∀ j, j < R.2 → R.1.getD j 0 ≤ x
  hi : ∀ j, R.2 ≤ j → j < l.length → x ≤ R.1.getD j 0
theorem Hoa.stop {l : List Int} {x : Int} {L : List Int} {a k : Nat} (h : Hoa l x L a k) (hs : dnF x L k ≤ upF x L a) : Parted l x (L, dnF x L k + 1) := by
  obtain ⟨a1, a2, a3, a4⟩ := upF_spec _ a (Nat.le_refl _) h.wu
  obtain ⟨b1, b2, b3⟩ := dnF_spec k h.wd
  have hk := h.kle
  have hl := h.perm.length_eq
  have hlo := h.lo
  have hhi := h.hi
  generalize upF x L a = i at *
  generalize dnF x L k = d at *
  refine ⟨h.perm, by show 1 ≤ d + 1; omega, by show d + 1 ≤ _; omega, fun j hj => ?_, fun j hj hj2 => ?_⟩
  · show L.getD j 0 ≤ x
    simp only at hj
    by_cases e : j = d
    · subst e; exact b2
    · by_cases e2 : j < a
      · exact hlo j e2
      · have := a4 j (by omega) (by omega); omega
  · show x ≤ L.getD j 0
    simp only at hj
    by_cases e2 : k ≤ j
    · exact hhi j e2 hj2
    · have := b3 j (by omega) (by omega); omega
theorem Hoa.all {l : List Int} {x : Int} : ∀ (f : Nat) (L : List Int) (a k : Nat), k < f → Hoa l x L a k → Parted l x (hoN x f L a k)
  | 0, L, a, k, hf, h => by omega
  | f + 1, L, a, k, hf, h => by
    by_cases hs : dnF x L k ≤ upF x L a
    · rw [hoN_stop hs]; exact h.stop hs
    · rw [hoN_go hs]; exact Hoa.all f _ _ _ (by have := h.places; omega) (h.step hs)
theorem hoF_spec {l : List Int} (h : 0 < l.length) : Parted l (l.getD 0 0) (hoF l) := Hoa.all _ _ _ _ (by omega) (Hoa.start h)

theorem Hoa.facts {l : List Int} {x : Int} {M : List Int} {a k : Nat} (h : Hoa l x M a k) : a ≤ upF x M a ∧ upF x M a < l.length ∧ (∀ m, a ≤ m → m < upF x M a → M.getD m 0 < x) ∧ x ≤ M.getD (upF x M a) 0 ∧
    dnF x M k < k ∧ (∀ m, dnF x M k < m → m < k → x < M.getD m 0) ∧ M.getD (dnF x M k) 0 ≤ x := by
  obtain ⟨a1, a2, a3, a4⟩ := upF_spec _ a (Nat.le_refl _) h.wu
  obtain ⟨b1, b2, b3⟩ := dnF_spec k h.wd
  have := h.perm.length_eq
  exact ⟨a1, by omega, a4, a3, b1, b3, b2⟩

/-- Three ways. -/
abbrev St4 := List Int × Nat × Nat
def thN (x : Int) : Nat → List Int → Nat → Nat → Nat → St4
  | 0, L, lt, _, gt => (L, lt, gt)
  | f + 1, L, lt, i, gt => if L.getD i 0 < x then thN x f (swapped L i lt) (lt + 1) (i + 1) gt else if x < L.getD i 0 then thN x f (swapped L i (gt - 1)) lt i (gt - 1) else thN x f L lt (i + 1) gt
def th (x : Int) (L : List Int) (lt i gt : Nat) : St4 := thN x (gt - i) L lt i gt
theorem th_end {x : Int} {L : List Int} {lt i gt : Nat} (h : ¬ i < gt) : th x L lt i gt = (L, lt, gt) := by unfold th; rw [show gt - i = 0 by omega]; rfl
theorem th_lt {x : Int} {L : List Int} {lt i gt : Nat} (h : i < gt) (hx : L.getD i 0 < x) : th x L lt i gt = th x (swapped L i lt) (lt + 1) (i + 1) gt := by
  unfold th; rw [show gt - i = (gt - (i + 1)) + 1 by omega]; exact if_pos hx
theorem th_gt {x : Int} {L : List Int} {lt i gt : Nat} (h : i < gt) (hx : x < L.getD i 0) : th x L lt i gt = th x (swapped L i (gt - 1)) lt i (gt - 1) := by
  unfold th; rw [show gt - i = (gt - 1 - i) + 1 by omega]
  show (if _ then _ else _) = _
  rw [if_neg (by omega), if_pos hx]
theorem th_eq {x : Int} {L : List Int} {lt i gt : Nat} (h : i < gt) (h1 : ¬ L.getD i 0 < x) (h2 : ¬ x < L.getD i 0) : th x L lt i gt = th x L lt (i + 1) gt := by
  unfold th; rw [show gt - i = (gt - (i + 1)) + 1 by omega]
  show (if _ then _ else _) = _
  rw [if_neg h1, if_neg h2]
def thF (L : List Int) (x : Int) : St4 := th x L 0 0 L.length
structure Thr (l : List Int) (x : Int) (L : List Int) (lt i gt : Nat) : Prop where
  perm : L.Perm l
  h1 : lt ≤ i
  h2 : i ≤ gt
  h3 : gt ≤ l.length
  lo : ∀ j, j < lt → L.getD j 0 < x
  mid : ∀ j, lt ≤ j → j < i → L.getD j 0 = x
  hi : ∀ j, gt ≤ j → j < l.length → x < L.getD j 0
theorem Thr.start (l : List Int) (x : Int) : Thr l x l 0 0 l.length :=
  ⟨List.Perm.refl _, Nat.le_refl _, Nat.zero_le _, Nat.le_refl _, fun j hj => absurd hj (Nat.not_lt_zero _), fun j _ hj => absurd hj (Nat.not_lt_zero _), fun j h1 h2 => by omega⟩
theorem Thr.less {l : List Int} {x : Int} {L : List Int} {lt i gt : Nat} (h : Thr l x L lt i gt) (hi : i < gt) (hx : L.getD i 0 < x) : Thr l x (swapped L i lt) (lt + 1) (i + 1) gt := by
  have hl := h.perm.length_eq
  have a1 := h.h1
  have a3 := h.h3
  have hlo := h.lo
  have hmid := h.mid
  have hhi := h.hi
  refine ⟨(swapped_perm (by omega) (by omega)).trans h.perm, by omega, by omega, a3, fun j hj => ?_, fun j hj hj2 => ?_, fun j hj hj2 => ?_⟩
  · rw [swapped_at _ (by omega) (by omega)]
    by_cases e : j = lt
    · rw [if_pos e]; exact hx
    · rw [if_neg e, if_neg (by omega)]; exact hlo j (by omega)
  · rw [swapped_at _ (by omega) (by omega), if_neg (by omega)]
    by_cases e : j = i
    · rw [if_pos e]; exact hmid lt (Nat.le_refl _) (by omega)
    · rw [if_neg e]; exact hmid j (by omega) (by omega)
  · rw [swapped_at _ (by omega) (by omega), if_neg (by omega), if_neg (by omega)]; exact hhi j hj hj2
theorem Thr.more {l : List Int} {x : Int} {L : List Int} {lt i gt : Nat} (h : Thr l x L lt i gt) (hi : i < gt) (hx : x < L.getD i 0) : Thr l x (swapped L i (gt - 1)) lt i (gt - 1) := by
  have hl := h.perm.length_eq
  have a1 := h.h1
  have a3 := h.h3
  have hlo := h.lo
  have hmid := h.mid
  have hhi := h.hi
  refine ⟨(swapped_perm (by omega) (by omega)).trans h.perm, a1, by omega, by omega, fun j hj => ?_, fun j hj hj2 => ?_, fun j hj hj2 => ?_⟩
  · rw [swapped_at _ (by omega) (by omega), if_neg (by omega), if_neg (by omega)]; exact hlo j hj
  · rw [swapped_at _ (by omega) (by omega), if_neg (by omega), if_neg (by omega)]; exact hmid j hj hj2
  · rw [swapped_at _ (by omega) (by omega)]
    by_cases e : j = gt - 1
    · rw [if_pos e]; exact hx
    · rw [if_neg e, if_neg (by omega)]; exact hhi j (by omega) hj2
theorem Thr.same {l : List Int} {x : Int} {L : List Int} {lt i gt : Nat} (h : Thr l x L lt i gt) (hi : i < gt) (h1 : ¬ L.getD i 0 < x) (h2 : ¬ x < L.getD i 0) : Thr l x L lt (i + 1) gt :=
  ⟨h.perm, by have := h.h1; omega, by omega, h.h3, h.lo, fun j hj hj2 => by
    by_cases e : j = i
    · subst e; omega
    · exact h.mid j hj (by omega), h.hi⟩
theorem Thr.all {l : List Int} {x : Int} : ∀ (n : Nat) (L : List Int) (lt i gt : Nat), gt - i ≤ n → Thr l x L lt i gt → Thr l x (th x L lt i gt).1 (th x L lt i gt).2.1 (th x L lt i gt).2.2 (th x L lt i gt).2.2 := by
  intro n
  induction n with
  | zero =>
    intro L lt i gt hn h
    have := h.h2
    obtain rfl : i = gt := by omega
    rw [th_end (by omega)]; exact h
  | succ n ih =>
    intro L lt i gt hn h
    by_cases hi : i < gt
    · by_cases h1 : L.getD i 0 < x
      · rw [th_lt hi h1]; exact ih _ _ _ _ (by omega) (h.less hi h1)
      · by_cases h2 : x < L.getD i 0
        · rw [th_gt hi h2]; exact ih _ _ _ _ (by omega) (h.more hi h2)
        · rw [th_eq hi h1 h2]; exact ih _ _ _ _ (by omega) (h.same hi h1 h2)
    · have := h.h2
      obtain rfl : i = gt := by omega
      rw [th_end hi]; exact h
theorem thF_spec (l : List Int) (x : Int) : Thr l x (thF l x).1 (thF l x).2.1 (thF l x).2.2 (thF l x).2.2 := Thr.all _ _ _ _ _ (Nat.le_refl _) (Thr.start l x)
theorem thF_length (l : List Int) (x : Int) : (thF l x).1.length = l.length := (thF_spec l x).perm.length_eq
theorem thF_some {l : List Int} {x : Int} (h : x ∈ l) : (thF l x).2.1 < (thF l x).2.2 := by
  have hs := thF_spec l x
  obtain ⟨j, hj, hx⟩ := List.getElem_of_mem (hs.perm.mem_iff.2 h)
  have hl := hs.perm.length_eq
  have hd : (thF l x).1.getD j 0 = x := by rw [List.getD_eq_getElem?_getD, List.getElem?_eq_getElem hj, hx]; rfl
  have a1 : ¬ j < (thF l x).2.1 := fun h1 => by have := hs.lo j h1; omega
  have a2 : ¬ (thF l x).2.2 ≤ j := fun h1 => by have := hs.hi j h1 (by omega); omega
  omega

/-- The median of three: which of them. -/
def medI (a b c : Int) : Nat := if (b ≤ a ∨ c ≤ a) ∧ (a ≤ b ∨ a ≤ c) then 0 else if (a ≤ b ∨ c ≤ b) ∧ (b ≤ a ∨ b ≤ c) then 1 else 2
def pickI (n k : Nat) : Nat := if k = 0 then 0 else if k = 1 then n / 2 else n - 1
def medF (L : List Int) : Nat := pickI L.length (medI (L.getD 0 0) (L.getD (L.length / 2) 0) (L.getD (L.length - 1) 0))
theorem pickI_lt {n : Nat} (h : 0 < n) (k : Nat) : pickI n k < n := by unfold pickI; split <;> (try split) <;> omega
theorem medF_lt {L : List Int} (h : 0 < L.length) : medF L < L.length := pickI_lt h _
theorem medI_0 {a b c : Int} (h : max (min a b) (min (max a b) c) = a) : medI a b c = 0 := by
  unfold medI; rw [if_pos (by omega)]
theorem medI_1 {a b c : Int} (h : max (min a b) (min (max a b) c) ≠ a) (h1 : max (min a b) (min (max a b) c) = b) : medI a b c = 1 := by
  unfold medI; rw [if_neg (by omega), if_pos (by omega)]
theorem medI_2 {a b c : Int} (h : max (min a b) (min (max a b) c) ≠ a) (h1 : max (min a b) (min (max a b) c) ≠ b) : medI a b c = 2 := by
  unfold medI; rw [if_neg (by omega), if_neg (by omega)]
theorem getD_mem {L : List Int} {k : Nat} (h : k < L.length) : L.getD k 0 ∈ L := List.mem_of_getElem? (at_getD h)

/-- Quicksort: the list and the steps. -/
def qs : Nat → List Int → St2
  | 0, L => (L, 0)
  | f + 1, L => if L.length < 2 then (L, 0) else
      ((qs f ((thF L (L.getD (medF L) 0)).1.take (thF L (L.getD (medF L) 0)).2.1)).1 ++ (((thF L (L.getD (medF L) 0)).1.take (thF L (L.getD (medF L) 0)).2.2).drop (thF L (L.getD (medF L) 0)).2.1 ++ (qs f ((thF L (L.getD (medF L) 0)).1.drop (thF L (L.getD (medF L) 0)).2.2)).1),
        1 + (qs f ((thF L (L.getD (medF L) 0)).1.take (thF L (L.getD (medF L) 0)).2.1)).2 + (qs f ((thF L (L.getD (medF L) 0)).1.drop (thF L (L.getD (medF L) 0)).2.2)).2)
theorem qs_small {f : Nat} {L : List Int} (h : L.length < 2) : qs f L = (L, 0) := by
  cases f with
  | zero => rfl
  | succ f => exact if_pos h
theorem qs_big {f : Nat} {L M : List Int} {lt gt : Nat} (h : ¬ L.length < 2) (ht : thF L (L.getD (medF L) 0) = (M, lt, gt)) :
    qs (f + 1) L = ((qs f (M.take lt)).1 ++ ((M.take gt).drop lt ++ (qs f (M.drop gt)).1), 1 + (qs f (M.take lt)).2 + (qs f (M.drop gt)).2) := by
  show (if _ then _ else _) = _; rw [if_neg h, ht]
/-- What a partition gives to a sort of its parts. -/
theorem three_asc {L M A B : List Int} {x : Int} {lt gt : Nat} (h : Thr L x M lt gt gt) (hA : A.Perm (M.take lt)) (hB : B.Perm (M.drop gt)) (sA : Asc A) (sB : Asc B) : A ++ ((M.take gt).drop lt ++ B) = srt L := by
  have hl := h.perm.length_eq
  have a1 := h.h1
  have a3 := h.h3
  have mA : ∀ a ∈ A, a < x := fun a ha => by
    obtain ⟨j, hj, e⟩ := List.getElem_of_mem (hA.mem_iff.1 ha)
    rw [List.length_take] at hj
    have := h.lo j (by omega)
    rw [List.getElem_take] at e
    rw [List.getD_eq_getElem?_getD, List.getElem?_eq_getElem (by omega), e] at this; exact this
  have mB : ∀ a ∈ B, x < a := fun a ha => by
    obtain ⟨j, hj, e⟩ := List.getElem_of_mem (hB.mem_iff.1 ha)
    rw [List.length_drop] at hj
    have := h.hi (gt + j) (by omega) (by omega)
    rw [List.getElem_drop] at e
    rw [List.getD_eq_getElem?_getD, List.getElem?_eq_getElem (by omega), e] at this; exact this
  have mM : ∀ a ∈ (M.take gt).drop lt, a = x := fun a ha => by
    obtain ⟨j, hj, e⟩ := List.getElem_of_mem ha
    rw [List.length_drop, List.length_take] at hj
    have := h.mid (lt + j) (by omega) (by omega)
    rw [List.getElem_drop, List.getElem_take] at e
    rw [List.getD_eq_getElem?_getD, List.getElem?_eq_getElem (by omega), e] at this; exact this
  apply srt_uniq
  · refine List.pairwise_append.2 ⟨sA, List.pairwise_append.2 ⟨?_, sB, fun a ha b hb => ?_⟩, fun a ha b hb => ?_⟩
    · exact List.pairwise_of_forall_mem_list (fun a ha b hb => by rw [mM a ha, mM b hb]; exact Int.le_refl _)
    · have := mM a ha; have := mB b hb; omega
    · have := mA a ha
      rcases List.mem_append.1 hb with hb | hb
      · have := mM b hb; omega
      · have := mB b hb; omega
  · refine ((hA.append (List.Perm.append_left _ hB)).trans ?_).trans h.perm
    rw [← List.append_assoc]
    have e : M.take lt ++ (M.take gt).drop lt = M.take gt := by
      have := List.take_append_drop lt (M.take gt)
      rw [List.take_take, Nat.min_eq_left a1] at this; exact this
    rw [e, List.take_append_drop]
theorem part_lens {L M : List Int} {x : Int} {lt gt : Nat} (h : Thr L x M lt gt gt) : (M.take lt).length = lt ∧ (M.drop gt).length = L.length - gt := by
  have hl := h.perm.length_eq
  have a1 := h.h1
  have a3 := h.h3
  rw [List.length_take, List.length_drop]
  omega
theorem small_srt {L : List Int} (h : L.length < 2) : L = srt L := by
  apply srt_uniq
  · match L, h with
    | [], _ => exact List.Pairwise.nil
    | [a], _ => exact List.pairwise_singleton _ _
  · exact List.Perm.refl _
theorem qs_spec : ∀ (f : Nat) (L : List Int), L.length ≤ f → (qs f L).1 = srt L ∧ (qs f L).2 ≤ L.length
  | 0, L, h => by
    have h2 : L.length < 2 := by omega
    rw [qs_small h2]; exact ⟨small_srt h2, Nat.zero_le _⟩
  | f + 1, L, h => by
    by_cases hs : L.length < 2
    · rw [qs_small hs]; exact ⟨small_srt hs, Nat.zero_le _⟩
    · have hm := getD_mem (medF_lt (L := L) (by omega))
      have ht := thF_spec L (L.getD (medF L) 0)
      have hx := thF_some hm
      obtain ⟨⟨M, lt, gt⟩, he⟩ : ∃ T, thF L (L.getD (medF L) 0) = T := ⟨_, rfl⟩
      rw [he] at ht hx
      simp only at ht hx
      rw [qs_big hs he]
      obtain ⟨p1, p2⟩ := part_lens ht
      have a3 := ht.h3
      obtain ⟨b1, b2⟩ := qs_spec f (M.take lt) (by omega)
      obtain ⟨c1, c2⟩ := qs_spec f (M.drop gt) (by omega)
      refine ⟨?_, by simp only; omega⟩
      simp only
      rw [b1, c1]
      exact three_asc ht (srt_perm _) (srt_perm _) (srt_asc _) (srt_asc _)
def qsF (l : List Int) : St2 := qs l.length l
theorem qsF_spec (l : List Int) : (qsF l).1 = srt l ∧ (qsF l).2 ≤ l.length := qs_spec _ _ (Nat.le_refl _)

/-- Introsort: the list, the steps and the parts that were sorted by a heap. -/
def itn : Nat → List Int → List Int × Nat × Nat
  | 0, L => if L.length ≤ 5 then (srt L, 0, 0) else (srt L, 0, 1)
  | m + 1, L => if L.length ≤ 5 then (srt L, 0, 0) else
      ((itn m ((thF L (L.getD (medF L) 0)).1.take (thF L (L.getD (medF L) 0)).2.1)).1 ++ (((thF L (L.getD (medF L) 0)).1.take (thF L (L.getD (medF L) 0)).2.2).drop (thF L (L.getD (medF L) 0)).2.1 ++ (itn m ((thF L (L.getD (medF L) 0)).1.drop (thF L (L.getD (medF L) 0)).2.2)).1),
        1 + (itn m ((thF L (L.getD (medF L) 0)).1.take (thF L (L.getD (medF L) 0)).2.1)).2.1 + (itn m ((thF L (L.getD (medF L) 0)).1.drop (thF L (L.getD (medF L) 0)).2.2)).2.1,
        (itn m ((thF L (L.getD (medF L) 0)).1.take (thF L (L.getD (medF L) 0)).2.1)).2.2 + (itn m ((thF L (L.getD (medF L) 0)).1.drop (thF L (L.getD (medF L) 0)).2.2)).2.2)
theorem itn_small {m : Nat} {L : List Int} (h : L.length ≤ 5) : itn m L = (srt L, 0, 0) := by
  cases m with
  | zero => exact if_pos h
  | succ m => exact if_pos h
theorem itn_heap {L : List Int} (h : ¬ L.length ≤ 5) : itn 0 L = (srt L, 0, 1) := if_neg h
theorem itn_big {m : Nat} {L M : List Int} {lt gt : Nat} (h : ¬ L.length ≤ 5) (ht : thF L (L.getD (medF L) 0) = (M, lt, gt)) :
    itn (m + 1) L = ((itn m (M.take lt)).1 ++ ((M.take gt).drop lt ++ (itn m (M.drop gt)).1), 1 + (itn m (M.take lt)).2.1 + (itn m (M.drop gt)).2.1, (itn m (M.take lt)).2.2 + (itn m (M.drop gt)).2.2) := by
  show (if _ then _ else _) = _; rw [if_neg h, ht]
theorem itn_spec : ∀ (m : Nat) (L : List Int), (itn m L).1 = srt L ∧ (itn m L).2.1 ≤ L.length ∧ (itn m L).2.2 ≤ L.length
  | 0, L => by
    by_cases hs : L.length ≤ 5
    · rw [itn_small hs]; exact ⟨rfl, Nat.zero_le _, Nat.zero_le _⟩
    · rw [itn_heap hs]; exact ⟨rfl, Nat.zero_le _, by show 1 ≤ _; omega⟩
  | m + 1, L => by
    by_cases hs : L.length ≤ 5
    · rw [itn_small hs]; exact ⟨rfl, Nat.zero_le _, Nat.zero_le _⟩
    · have hm := getD_mem (medF_lt (L := L) (by omega))
      have ht := thF_spec L (L.getD (medF L) 0)
      have hx := thF_some hm
      obtain ⟨⟨M, lt, gt⟩, he⟩ : ∃ T, thF L (L.getD (medF L) 0) = T := ⟨_, rfl⟩
      rw [he] at ht hx
      simp only at ht hx
      rw [itn_big hs he]
      obtain ⟨p1, p2⟩ := part_lens ht
      have a3 := ht.h3
      obtain ⟨b1, b2, b3⟩ := itn_spec m (M.take lt)
      obtain ⟨c1, c2, c3⟩ := itn_spec m (M.drop gt)
      refine ⟨?_, by simp only; omega, by simp only; omega⟩
      simp only
      rw [b1, c1]
      exact three_asc ht (srt_perm _) (srt_perm _) (srt_asc _) (srt_asc _)
theorem itn_zero (L : List Int) : (itn 0 L).2.1 = 0 := by
  by_cases hs : L.length ≤ 5
  · rw [itn_small hs]
  · rw [itn_heap hs]

/-- Two pivots. -/
def lowF (l : List Int) (p : Int) : List Int := l.filter (fun e => decide (e < p))
def midF (l : List Int) (p q : Int) : List Int := l.filter (fun e => decide (p ≤ e ∧ e ≤ q))
def highF (l : List Int) (q : Int) : List Int := l.filter (fun e => decide (q < e))
def duF (l : List Int) (p q : Int) : List Int := lowF l p ++ midF l p q ++ highF l q
theorem du_lens {p q : Int} (h : p ≤ q) : ∀ l : List Int, (lowF l p).length + (midF l p q).length + (highF l q).length = l.length
  | [] => rfl
  | a :: l => by
    have ih := du_lens h l
    unfold lowF midF highF at *
    simp only [List.filter_cons, List.length_cons]
    by_cases h1 : a < p
    · rw [if_pos (by simpa using h1), if_neg (by simp; omega), if_neg (by simp; omega)]; simp only [List.length_cons]; omega
    · by_cases h2 : q < a
      · rw [if_neg (by simpa using h1), if_neg (by simp; omega), if_pos (by simpa using h2)]; simp only [List.length_cons]; omega
      · rw [if_neg (by simpa using h1), if_pos (by simp; omega), if_neg (by simpa using h2)]; simp only [List.length_cons]; omega
theorem duF_length {p q : Int} (h : p ≤ q) (l : List Int) : (duF l p q).length = l.length := by
  have := du_lens h l; unfold duF; rw [List.length_append, List.length_append]; omega

end Qk
end Go.Proofs.Ythmcjmjkmmbepaa
