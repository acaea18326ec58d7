/- Binary insertion, selection, bubble passes, the first descent: pure. Nothing of the program. -/
import Derived.Test.YthmcjmjkmmbepaaElem
namespace Go.Proofs.Ythmcjmjkmmbepaa
set_option linter.unusedVariables false
namespace El
open P

theorem asc_at {l : List Int} (h : Asc l) {i j : Nat} (hij : i < j) (hj : j < l.length) : l.getD i 0 ≤ l.getD j 0 := by
  have := List.pairwise_iff_getElem.1 h i j (by omega) hj hij
  rw [getD_at (List.getElem?_eq_getElem (by omega)), getD_at (List.getElem?_eq_getElem hj)]; exact this
theorem asc_of {l : List Int} (h : ∀ i j, i < j → j < l.length → l.getD i 0 ≤ l.getD j 0) : Asc l := by
  refine List.pairwise_iff_getElem.2 fun i j hi hj hij => ?_
  have := h i j hij hj
  rw [getD_at (List.getElem?_eq_getElem hi), getD_at (List.getElem?_eq_getElem hj)] at this
  exact this
theorem asc_of_next {l : List Int} (h : ∀ i, i + 1 < l.length → l.getD i 0 ≤ l.getD (i + 1) 0) : Asc l := by
  refine asc_of fun i j hij hj => ?_
  induction j with
  | zero => omega
  | succ j ih =>
    have h1 := h j hj
    by_cases e : i = j
    · subst e; exact h1
    · have := ih (by omega) (by omega); omega

/-! ### Binary insertion -/
def bs (x : Int) (O : List Int) (lo hi c : Nat) : Nat × Nat :=
  if h : lo < hi then
    if x < O.getD ((lo + hi) / 2) 0 then bs x O lo ((lo + hi) / 2) (c + 1) else bs x O ((lo + hi) / 2 + 1) hi (c + 1)
  else (lo, c)
termination_by hi - lo
decreasing_by all_goals omega

theorem bs_lt {x : Int} {O : List Int} {lo hi : Nat} (c : Nat) (h : lo < hi) (hx : x < O.getD ((lo + hi) / 2) 0) : bs x O lo hi c = bs x O lo ((lo + hi) / 2) (c + 1) := by rw [bs, dif_pos h, if_pos hx]
theorem bs_ge {x : Int} {O : List Int} {lo hi : Nat} (c : Nat) (h : lo < hi) (hx : ¬ x < O.getD ((lo + hi) / 2) 0) : bs x O lo hi c = bs x O ((lo + hi) / 2 + 1) hi (c + 1) := by rw [bs, dif_pos h, if_neg hx]
theorem bs_end {x : Int} {O : List Int} {lo hi : Nat} (c : Nat) (h : ¬ lo < hi) : bs x O lo hi c = (lo, c) := by rw [bs, dif_neg h]

theorem bs_main (x : Int) (O : List Int) : ∀ (j lo hi c : Nat), hi - lo < 2 ^ j → lo ≤ hi → lo ≤ (bs x O lo hi c).1 ∧ (bs x O lo hi c).1 ≤ hi ∧ c ≤ (bs x O lo hi c).2 ∧ (bs x O lo hi c).2 ≤ c + j ∧
    (hi ≤ O.length → Asc O → (∀ i, i < lo → O.getD i 0 ≤ x) → (∀ i, hi ≤ i → i < O.length → x < O.getD i 0) →
      (∀ i, i < (bs x O lo hi c).1 → O.getD i 0 ≤ x) ∧ (∀ i, (bs x O lo hi c).1 ≤ i → i < O.length → x < O.getD i 0)) := by
  intro j
  induction j with
  | zero =>
    intro lo hi c h hle
    have : ¬ lo < hi := by simp at h; omega
    rw [bs_end c this]
    obtain rfl : lo = hi := by omega
    exact ⟨Nat.le_refl _, Nat.le_refl _, Nat.le_refl _, Nat.le_refl _, fun _ _ a b => ⟨a, b⟩⟩
  | succ j ih =>
    intro lo hi c h hle
    rw [Nat.pow_succ] at h
    by_cases hlt : lo < hi
    · by_cases hx : x < O.getD ((lo + hi) / 2) 0
      · rw [bs_lt c hlt hx]
        obtain ⟨a1, a2, a3, a4, a5⟩ := ih lo ((lo + hi) / 2) (c + 1) (by omega) (by omega)
        refine ⟨a1, by omega, by omega, by omega, fun b1 b2 b3 b4 => a5 (by omega) b2 b3 fun i hi1 hi2 => ?_⟩
        by_cases e : (lo + hi) / 2 = i
        · rw [← e]; exact hx
        · have := asc_at b2 (i := (lo + hi) / 2) (j := i) (by omega) hi2; omega
      · rw [bs_ge c hlt hx]
        obtain ⟨a1, a2, a3, a4, a5⟩ := ih ((lo + hi) / 2 + 1) hi (c + 1) (by omega) (by omega)
        refine ⟨by omega, a2, by omega, by omega, fun b1 b2 b3 b4 => a5 b1 b2 (fun i hi1 => ?_) b4⟩
        by_cases e : (lo + hi) / 2 = i
        · rw [← e]; omega
        · have := asc_at b2 (i := i) (j := (lo + hi) / 2) (by omega) (by omega); omega
    · rw [bs_end c hlt]
      obtain rfl : lo = hi := by omega
      exact ⟨Nat.le_refl _, Nat.le_refl _, Nat.le_refl _, by simp only; omega, fun _ _ a b => ⟨a, b⟩⟩
theorem bs_app (x : Int) (O D : List Int) : ∀ (n lo hi c : Nat), hi - lo ≤ n → hi ≤ O.length → bs x (O ++ D) lo hi c = bs x O lo hi c := by
  intro n
  induction n with
  | zero => intro lo hi c h _; rw [bs_end c (by omega), bs_end c (by omega)]
  | succ n ih =>
    intro lo hi c h hle
    by_cases hlt : lo < hi
    · have e : (O ++ D).getD ((lo + hi) / 2) 0 = O.getD ((lo + hi) / 2) 0 := by
        rw [List.getD_eq_getElem?_getD, List.getElem?_append_left (by omega), ← List.getD_eq_getElem?_getD]
      by_cases hx : x < O.getD ((lo + hi) / 2) 0
      · rw [bs_lt c hlt (by rw [e]; exact hx), bs_lt c hlt hx, ih _ _ _ (by omega) (by omega)]
      · rw [bs_ge c hlt (by rw [e]; exact hx), bs_ge c hlt hx, ih _ _ _ (by omega) (by omega)]
    · rw [bs_end c hlt, bs_end c hlt]

/-- The first i elements inserted, and the comparisons. -/
def binTo (l : List Int) : Nat → List Int × Nat
  | 0 => ([], 0)
  | i + 1 => ((binTo l i).1.take (bs (l.getD i 0) (binTo l i).1 0 i (binTo l i).2).1 ++ [l.getD i 0] ++ (binTo l i).1.drop (bs (l.getD i 0) (binTo l i).1 0 i (binTo l i).2).1, (bs (l.getD i 0) (binTo l i).1 0 i (binTo l i).2).2)
theorem binTo_step {l : List Int} {i p c : Nat} {O : List Int} {d : Nat} (h : binTo l i = (O, d)) (hb : bs (l.getD i 0) O 0 i d = (p, c)) : binTo l (i + 1) = (O.take p ++ [l.getD i 0] ++ O.drop p, c) := by
  show ((binTo l i).1.take (bs (l.getD i 0) (binTo l i).1 0 i (binTo l i).2).1 ++ [l.getD i 0] ++ (binTo l i).1.drop (bs (l.getD i 0) (binTo l i).1 0 i (binTo l i).2).1, (bs (l.getD i 0) (binTo l i).1 0 i (binTo l i).2).2) = _
  rw [h]; simp only; rw [hb]
theorem two_pow {i : Nat} (h : i ≤ 64) : i - 0 < 2 ^ 7 := by rw [show (2 : Nat) ^ 7 = 128 from rfl]; omega
theorem binTo_length (l : List Int) : ∀ i, (binTo l i).1.length = i
  | 0 => rfl
  | i + 1 => by
    have ih := binTo_length l i
    generalize hS : binTo l i = S at ih
    obtain ⟨O, d⟩ := S
    generalize hr : bs (l.getD i 0) O 0 i d = r
    obtain ⟨p, c⟩ := r
    rw [binTo_step hS hr]
    simp only [List.length_append, List.length_take, List.length_drop, List.length_singleton] at *
    omega
theorem binTo_bounds (l : List Int) : ∀ i, i ≤ 64 → (binTo l i).2 ≤ 7 * i
  | 0, _ => Nat.le_refl _
  | i + 1, h => by
    have ih := binTo_bounds l i (by omega)
    generalize hS : binTo l i = S at ih
    obtain ⟨O, d⟩ := S
    have hm := bs_main (l.getD i 0) O 7 0 i d (two_pow (by omega)) (Nat.zero_le _)
    generalize hr : bs (l.getD i 0) O 0 i d = r at hm
    obtain ⟨p, c⟩ := r
    rw [binTo_step hS hr]
    simp only at *
    omega
theorem binTo_sorted (l : List Int) : ∀ i, i ≤ l.length → i ≤ 64 → Asc (binTo l i).1 ∧ (binTo l i).1.Perm (l.take i)
  | 0, _, _ => ⟨List.Pairwise.nil, List.Perm.refl _⟩
  | i + 1, h, h64 => by
    obtain ⟨ih, ihp⟩ := binTo_sorted l i (by omega) (by omega)
    have hl := binTo_length l i
    generalize hS : binTo l i = S at ih ihp hl
    obtain ⟨O, d⟩ := S
    have hm := bs_main (l.getD i 0) O 7 0 i d (two_pow (by omega)) (Nat.zero_le _)
    generalize hr : bs (l.getD i 0) O 0 i d = r at hm
    obtain ⟨p, c⟩ := r
    rw [binTo_step hS hr]
    simp only at *
    obtain ⟨_, hp, _, _, hord⟩ := hm
    obtain ⟨o1, o2⟩ := hord (by omega) ih (fun i hi => absurd hi (Nat.not_lt_zero _)) (fun j h1 h2 => by omega)
    constructor
    · unfold Asc at *
      rw [List.append_assoc, List.singleton_append]
      refine List.pairwise_append.2 ⟨ih.sublist (List.take_sublist _ _), List.pairwise_cons.2 ⟨fun a ha => ?_, ih.sublist (List.drop_sublist _ _)⟩, fun a ha b hb => ?_⟩
      · obtain ⟨k, hk, rfl⟩ := List.getElem_of_mem ha
        have := o2 (p + k) (by omega) (by rw [List.length_drop] at hk; omega)
        rw [List.getElem_drop, ← getD_at (List.getElem?_eq_getElem (by rw [List.length_drop] at hk; omega))]
        omega
      · obtain ⟨k, hk, rfl⟩ := List.getElem_of_mem ha
        rw [List.length_take] at hk
        have h1 := o1 k (by omega)
        rw [getD_at (List.getElem?_eq_getElem (by omega))] at h1
        rw [List.getElem_take]
        rcases List.mem_cons.1 hb with rfl | hb
        · omega
        · obtain ⟨k', hk', rfl⟩ := List.getElem_of_mem hb
          rw [List.length_drop] at hk'
          have h2 := o2 (p + k') (by omega) (by omega)
          rw [getD_at (l := O) (k := p + k') (List.getElem?_eq_getElem (by omega))] at h2
          rw [List.getElem_drop]
          omega
    · have e : l.take (i + 1) = l.take i ++ [l.getD i 0] := by rw [List.take_add_one, at_getD (by omega)]; rfl
      rw [e, List.append_assoc, List.singleton_append]
      refine (List.perm_middle).trans ?_
      rw [List.take_append_drop]
      exact (List.Perm.cons _ ihp).trans (List.perm_append_singleton _ _).symm
theorem binTo_srt {l : List Int} (h : l.length ≤ 64) : (binTo l l.length).1 = srt l := by
  obtain ⟨h1, h2⟩ := binTo_sorted l l.length (Nat.le_refl _) h
  rw [List.take_length] at h2
  exact srt_uniq h1 h2

/-! ### The first descent -/
def desc (L : List Int) : Nat → Nat → Int
  | 0, _ => -1
  | n + 1, k => if L.getD (k + 1) 0 < L.getD k 0 then (k : Int) else desc L n (k + 1)
theorem desc_yes {L : List Int} {n k : Nat} (h : L.getD (k + 1) 0 < L.getD k 0) : desc L (n + 1) k = (k : Int) := if_pos h
theorem desc_no {L : List Int} {n k : Nat} (h : ¬ L.getD (k + 1) 0 < L.getD k 0) : desc L (n + 1) k = desc L n (k + 1) := if_neg h
def descF (L : List Int) : Int := desc L (L.length - 1) 0
theorem desc_spec (L : List Int) : ∀ n k, (desc L n k = -1 ∧ ∀ j, k ≤ j → j < k + n → ¬ L.getD (j + 1) 0 < L.getD j 0) ∨ (∃ a : Nat, desc L n k = (a : Int) ∧ k ≤ a ∧ a < k + n ∧ L.getD (a + 1) 0 < L.getD a 0 ∧ ∀ j, k ≤ j → j < a → ¬ L.getD (j + 1) 0 < L.getD j 0)
  | 0, k => .inl ⟨rfl, fun j h1 h2 => by omega⟩
  | n + 1, k => by
    by_cases h : L.getD (k + 1) 0 < L.getD k 0
    · rw [desc_yes h]; exact .inr ⟨k, rfl, Nat.le_refl _, by omega, h, fun j h1 h2 => by omega⟩
    · rw [desc_no h]
      rcases desc_spec L n (k + 1) with ⟨h1, h2⟩ | ⟨a, h1, h2, h3, h4, h5⟩
      · exact .inl ⟨h1, fun j h3 h4 => by
          by_cases e : k = j
          · subst e; exact h
          · exact h2 j (by omega) (by omega)⟩
      · exact .inr ⟨a, h1, by omega, by omega, h4, fun j h6 h7 => by
          by_cases e : k = j
          · subst e; exact h
          · exact h5 j (by omega) h7⟩
theorem descF_spec (L : List Int) : (descF L = -1 ∧ Asc L) ∨ (∃ a : Nat, descF L = (a : Int) ∧ a + 1 < L.length ∧ L.getD (a + 1) 0 < L.getD a 0 ∧ ∀ j, j < a → ¬ L.getD (j + 1) 0 < L.getD j 0) := by
  rcases desc_spec L (L.length - 1) 0 with ⟨h1, h2⟩ | ⟨a, h1, h2, h3, h4, h5⟩
  · exact .inl ⟨h1, asc_of_next fun i hi => by have := h2 i (Nat.zero_le _) (by omega); omega⟩
  · exact .inr ⟨a, h1, by omega, h4, fun j hj => h5 j (Nat.zero_le _) hj⟩
theorem descF_asc {L : List Int} (h : Asc L) : descF L = -1 := by
  rcases descF_spec L with ⟨h1, _⟩ | ⟨a, _, h2, h3, _⟩
  · exact h1
  · have := asc_at h (i := a) (j := a + 1) (by omega) h2; omega

/-! ### Inversions -/
theorem invs_asc {l : List Int} (h : Asc l) : invs l = 0 := by
  induction l with
  | nil => rfl
  | cons x l ih =>
    obtain ⟨h1, h2⟩ := List.pairwise_cons.1 h
    rw [invs_cons, ih h2, List.countP_eq_zero.2 (fun y hy => by have := h1 y hy; simp; omega)]
theorem asc_invs {l : List Int} (h : invs l = 0) : Asc l := by
  induction l with
  | nil => exact List.Pairwise.nil
  | cons x l ih =>
    rw [invs_cons] at h
    refine List.pairwise_cons.2 ⟨fun y hy => ?_, ih (by omega)⟩
    have := List.countP_eq_zero.1 (show l.countP (fun y => decide (y < x)) = 0 by omega) y hy
    simp at this; exact this
theorem invs_le (l : List Int) : invs l ≤ l.length * l.length := by
  induction l with
  | nil => simp [invs]
  | cons x l ih =>
    rw [invs_cons, List.length_cons, Nat.add_mul, Nat.mul_add]
    have := List.countP_le_length (p := fun y => decide (y < x)) (l := l)
    omega
theorem count_le (M : List Int) (x : Int) : M.countP (fun m => decide (x < m)) ≤ M.length := List.countP_le_length
/-- A least element moved to the front: fewer inversions. -/
theorem invs_front (L M R : List Int) (x y : Int) (hxy : y < x) (hM : ∀ m ∈ M, y < m) : invs (L ++ y :: (M ++ x :: R)) + 1 ≤ invs (L ++ x :: (M ++ y :: R)) := by
  have hp : (x :: (M ++ y :: R)).Perm (y :: (M ++ x :: R)) := by
    refine (List.perm_middle.cons x).trans ((List.Perm.swap y x _).trans ?_)
    exact (List.perm_middle.symm).cons y
  rw [invs_append, invs_append, cross_perm hp]
  generalize cross L (y :: (M ++ x :: R)) = c0
  rw [invs_cons, invs_cons, invs_append, invs_append, invs_cons, invs_cons, cross_tail, cross_tail, List.countP_append, List.countP_append, List.countP_cons, List.countP_cons]
  have h1 : M.countP (fun m => decide (y < m)) = M.length := List.countP_eq_length.2 (fun m hm => by simp [hM m hm])
  have h2 : M.countP (fun m => decide (m < y)) = 0 := List.countP_eq_zero.2 (fun m hm => by have := hM m hm; simp; omega)
  have h3 := count_le M x
  simp only [show ¬ x < y by omega, hxy, decide_true, decide_false, if_true, Bool.false_eq_true, if_false]
  omega
theorem invs_next (L R : List Int) (x y : Int) (hxy : y < x) : invs (L ++ y :: x :: R) + 1 = invs (L ++ x :: y :: R) := by
  rw [invs_append, invs_append, cross_perm (List.Perm.swap x y R), invs_cons, invs_cons, invs_cons, invs_cons, List.countP_cons, List.countP_cons]
  simp only [show ¬ x < y by omega, hxy, decide_true, decide_false, if_true, Bool.false_eq_true, if_false]
  omega

/-- An exchange cuts the list in three. -/
theorem cut3 {p : List Int} {i k : Nat} (hik : i < k) (hk : k < p.length) :
    ∃ L M R, p = L ++ p.getD i 0 :: (M ++ p.getD k 0 :: R) ∧ swapped p i k = L ++ p.getD k 0 :: (M ++ p.getD i 0 :: R) ∧ L.length = i ∧ M.length = k - (i + 1) := by
  have hai := at_getD (l := p) (k := i) (by omega)
  have hbk := at_getD hk
  have hs : swapped p i k = (p.set i (p.getD k 0)).set k (p.getD i 0) := rfl
  generalize p.getD i 0 = a at *
  generalize p.getD k 0 = b at *
  have e1 : p = p.take i ++ a :: p.drop (i + 1) := by
    rw [← (List.getElem?_eq_some_iff.1 hai).2, ← List.drop_eq_getElem_cons (by omega), List.take_append_drop]
  have e2 : p.drop (i + 1) = (p.drop (i + 1)).take (k - (i + 1)) ++ b :: p.drop (k + 1) := by
    have : p.drop k = b :: p.drop (k + 1) := by rw [← (List.getElem?_eq_some_iff.1 hbk).2, ← List.drop_eq_getElem_cons hk]
    rw [← this]
    have e : p.drop k = (p.drop (i + 1)).drop (k - (i + 1)) := by rw [List.drop_drop]; congr 1; omega
    rw [e, List.take_append_drop]
  have hX : ((p.drop (i + 1)).take (k - (i + 1))).length = k - (i + 1) := by simp; omega
  have hL : (p.take i).length = i := by simp; omega
  generalize (p.drop (i + 1)).take (k - (i + 1)) = X at *
  generalize p.drop (k + 1) = Y at *
  rw [e2] at e1
  refine ⟨p.take i, X, Y, e1, ?_, hL, hX⟩
  rw [hs]
  generalize p.take i = L at *
  rw [e1, List.set_append_right _ _ (by omega), hL, Nat.sub_self, List.set_cons_zero, List.set_append_right _ _ (by omega), hL,
    show k - i = (k - (i + 1)) + 1 by omega, List.set_cons_succ, List.set_append_right _ _ (by omega), hX, Nat.sub_self, List.set_cons_zero]

/-! ### Selection -/
def least (L : List Int) : Nat → Nat → Nat → Nat
  | 0, _, b => b
  | n + 1, k, b => least L n (k + 1) (if L.getD k 0 < L.getD b 0 then k else b)
theorem least_lt {L : List Int} {n k b : Nat} (h : L.getD k 0 < L.getD b 0) : least L (n + 1) k b = least L n (k + 1) k := by show least L n (k + 1) _ = _; rw [if_pos h]
theorem least_ge {L : List Int} {n k b : Nat} (h : ¬ L.getD k 0 < L.getD b 0) : least L (n + 1) k b = least L n (k + 1) b := by show least L n (k + 1) _ = _; rw [if_neg h]
theorem least_spec (L : List Int) (i : Nat) : ∀ n k b, i ≤ b → b < k → (∀ j, i ≤ j → j < k → L.getD b 0 ≤ L.getD j 0) → (∀ j, i ≤ j → j < b → L.getD b 0 < L.getD j 0) →
    i ≤ least L n k b ∧ least L n k b < k + n ∧ (∀ j, i ≤ j → j < k + n → L.getD (least L n k b) 0 ≤ L.getD j 0) ∧ (∀ j, i ≤ j → j < least L n k b → L.getD (least L n k b) 0 < L.getD j 0)
  | 0, k, b, h1, h2, h3, h4 => ⟨h1, h2, h3, h4⟩
  | n + 1, k, b, h1, h2, h3, h4 => by
    by_cases h : L.getD k 0 < L.getD b 0
    · rw [least_lt h, show k + (n + 1) = k + 1 + n by omega]
      exact least_spec L i n (k + 1) k (by omega) (by omega) (fun j a b' => by
        by_cases e : j = k
        · subst e; exact Int.le_refl _
        · have := h3 j a (by omega); omega) (fun j a b' => by have := h3 j a (by omega); omega)
    · rw [least_ge h, show k + (n + 1) = k + 1 + n by omega]
      exact least_spec L i n (k + 1) b h1 (by omega) (fun j a b' => by
        by_cases e : j = k
        · subst e; omega
        · exact h3 j a (by omega)) h4
def leastF (L : List Int) (i : Nat) : Nat := least L (L.length - (i + 1)) (i + 1) i
theorem leastF_spec {L : List Int} {i : Nat} (hi : i < L.length) : i ≤ leastF L i ∧ leastF L i < L.length ∧ (∀ j, i ≤ j → j < L.length → L.getD (leastF L i) 0 ≤ L.getD j 0) ∧ (∀ j, i ≤ j → j < leastF L i → L.getD (leastF L i) 0 < L.getD j 0) := by
  have h := least_spec L i (L.length - (i + 1)) (i + 1) i (Nat.le_refl _) (by omega) (fun j a b => by rw [show j = i by omega]; exact Int.le_refl _) (fun j a b => by omega)
  rw [show i + 1 + (L.length - (i + 1)) = L.length by omega] at h
  exact h

abbrev St2 := List Int × Nat
def selAt (i : Nat) (S : St2) : St2 := if leastF S.1 i = i then S else (swapped S.1 i (leastF S.1 i), S.2 + 1)
theorem selAt_stay {i : Nat} {L : List Int} {s : Nat} (h : leastF L i = i) : selAt i (L, s) = (L, s) := if_pos h
theorem selAt_move {i : Nat} {L : List Int} {s : Nat} (h : ¬ leastF L i = i) : selAt i (L, s) = (swapped L i (leastF L i), s + 1) := if_neg h
def selN : Nat → Nat → St2 → St2
  | _, 0, S => S
  | i, n + 1, S => selN (i + 1) n (selAt i S)
theorem selN_succ (i n : Nat) (S : St2) : selN i (n + 1) S = selN (i + 1) n (selAt i S) := rfl
def selF (l : List Int) : St2 := selN 0 l.length (l, 0)
theorem selAt_length (i : Nat) (S : St2) : (selAt i S).1.length = S.1.length := by
  unfold selAt; split
  · rfl
  · exact swapped_length _ _ _
/-- What holds after i selections. -/
structure Sel (l : List Int) (i : Nat) (S : St2) : Prop where
  perm : S.1.Perm l
  low : ∀ a b, a < b → a < i → b < l.length → S.1.getD a 0 ≤ S.1.getD b 0
  inv : invs S.1 + S.2 ≤ invs l
  dif : ham l S.1 ≤ 2 * S.2
theorem Sel.step {l : List Int} {i : Nat} {S : St2} (h : Sel l i S) (hi : i < l.length) : Sel l (i + 1) (selAt i S) := by
  obtain ⟨hp, hl, hv, hh⟩ := h
  obtain ⟨L, s⟩ := S
  simp only at *
  have hlen := hp.length_eq
  obtain ⟨b1, b2, b3, b4⟩ := leastF_spec (L := L) (i := i) (by omega)
  by_cases e : leastF L i = i
  · rw [selAt_stay e]
    refine ⟨hp, fun a b hab ha hb => ?_, hv, hh⟩
    by_cases ei : a = i
    · subst ei; have := b3 b (by omega) (by omega); rw [e] at this; exact this
    · exact hl a b hab (by omega) hb
  · rw [selAt_move e]
    generalize leastF L i = j at *
    have hij : i < j := by omega
    have hpp := swapped_perm (p := L) (i := i) (k := j) (by omega) b2
    refine ⟨hpp.trans hp, fun a b hab ha hb => ?_, ?_, ?_⟩
    · simp only
      have hat := fun t => swapped_at (p := L) (i := i) (k := j) (j := t) (by omega) b2
      rw [hat a, hat b]
      by_cases ei : a = i
      · subst ei
        rw [if_neg (by omega), if_pos rfl]
        split
        · have := b4 a (by omega) hij; omega
        · rw [if_neg (by omega)]; exact b3 b (by omega) (by omega)
      · rw [if_neg (by omega), if_neg ei]
        split
        · exact hl a i (by omega) (by omega) (by omega)
        · split
          · exact hl a j (by omega) (by omega) (by omega)
          · exact hl a b hab (by omega) hb
    · simp only
      obtain ⟨A, M, R, e1, e2, hA, hM⟩ := cut3 hij b2
      have hm : ∀ m ∈ M, L.getD j 0 < m := by
        intro m hm
        obtain ⟨t, ht, rfl⟩ := List.getElem_of_mem hm
        have q := b4 (i + 1 + t) (by omega) (by omega)
        have e3 : L.getD (i + 1 + t) 0 = M[t] := by
          generalize L.getD i 0 = x at *
          generalize L.getD j 0 = y at *
          rw [e1, List.getD_eq_getElem?_getD, List.getElem?_append_right (by omega), hA, show i + 1 + t - i = t + 1 by omega, List.getElem?_cons_succ, List.getElem?_append_left ht, List.getElem?_eq_getElem ht]; rfl
        rw [e3] at q; exact q
      have := invs_front A M R (L.getD i 0) (L.getD j 0) (b4 i (Nat.le_refl _) hij) hm
      rw [← e1, ← e2] at this
      omega
    · have h1 := ham_set l L i (L.getD j 0)
      have h2 := ham_set l (L.set i (L.getD j 0)) j (L.getD i 0)
      show ham l ((L.set i (L.getD j 0)).set j (L.getD i 0)) ≤ 2 * (s + 1)
      omega
theorem Sel.all {l : List Int} : ∀ (n i : Nat) (S : St2), Sel l i S → i + n = l.length → Sel l l.length (selN i n S)
  | 0, i, S, h, hn => by obtain rfl : i = l.length := by omega
                         exact h
  | n + 1, i, S, h, hn => by rw [selN_succ]; exact Sel.all n (i + 1) _ (h.step (by omega)) (by omega)
theorem sel_all (l : List Int) : Sel l l.length (selF l) := Sel.all l.length 0 (l, 0) ⟨List.Perm.refl _, fun _ _ _ h _ => absurd h (Nat.not_lt_zero _), Nat.le_refl _, by show El.ham l l ≤ _; rw [ham_self]; exact Nat.zero_le _⟩ (by omega)
theorem sel_srt (l : List Int) : (selF l).1 = srt l :=
  srt_uniq (asc_of fun i j hij hj => (sel_all l).low i j hij (by have := (sel_all l).perm.length_eq; omega) (by have := (sel_all l).perm.length_eq; omega)) (sel_all l).perm
theorem selAt_count (i : Nat) (S : St2) : S.2 ≤ (selAt i S).2 ∧ (selAt i S).2 ≤ S.2 + 1 := by
  unfold selAt; split
  · omega
  · simp only; omega
theorem selN_count : ∀ (n i : Nat) (S : St2), i + n + 1 = S.1.length → (selN i (n + 1) S).2 ≤ S.2 + n
  | 0, i, S, h => by
    obtain ⟨L, s⟩ := S
    simp only at h
    have e : leastF L i = i := by unfold leastF; rw [show L.length - (i + 1) = 0 by omega]; rfl
    show (selAt i (L, s)).2 ≤ s + 0
    rw [selAt_stay e]; exact Nat.le_refl _
  | n + 1, i, S, h => by
    rw [selN_succ]
    have h1 := selN_count n (i + 1) (selAt i S) (by rw [selAt_length]; omega)
    have h2 := selAt_count i S
    omega
theorem sel_count {l : List Int} (h : 0 < l.length) : (selF l).2 + 1 ≤ l.length := by
  have := selN_count (l.length - 1) 0 (l, 0) (by simp only; omega)
  unfold selF
  rw [show l.length = l.length - 1 + 1 by omega]
  simp only at this
  omega
theorem selN_le : ∀ (n i : Nat) (S : St2), S.2 ≤ (selN i n S).2 ∧ (selN i n S).2 ≤ S.2 + n
  | 0, _, S => ⟨Nat.le_refl _, Nat.le_refl _⟩
  | n + 1, i, S => by
    rw [selN_succ]
    have h1 := selN_le n (i + 1) (selAt i S)
    have h2 := selAt_count i S
    omega

/-! ### Bubble passes -/
def pairAt (k : Nat) (S : St2) : St2 := if S.1.getD (k + 1) 0 < S.1.getD k 0 then (swapped S.1 k (k + 1), S.2 + 1) else S
theorem pairAt_yes {k : Nat} {L : List Int} {s : Nat} (h : L.getD (k + 1) 0 < L.getD k 0) : pairAt k (L, s) = (swapped L k (k + 1), s + 1) := if_pos h
theorem pairAt_no {k : Nat} {L : List Int} {s : Nat} (h : ¬ L.getD (k + 1) 0 < L.getD k 0) : pairAt k (L, s) = (L, s) := if_neg h
def passN : Nat → Nat → St2 → St2
  | _, 0, S => S
  | k, n + 1, S => passN (k + 1) n (pairAt k S)
theorem passN_succ (k n : Nat) (S : St2) : passN k (n + 1) S = passN (k + 1) n (pairAt k S) := rfl
theorem pairAt_inv {k : Nat} {S : St2} (h : k + 1 < S.1.length) : (pairAt k S).1.Perm S.1 ∧ invs (pairAt k S).1 + (pairAt k S).2 = invs S.1 + S.2 ∧ S.2 ≤ (pairAt k S).2 := by
  obtain ⟨L, s⟩ := S
  simp only at h
  by_cases hx : L.getD (k + 1) 0 < L.getD k 0
  · rw [pairAt_yes hx]
    refine ⟨swapped_perm (by omega) h, ?_, by simp only; omega⟩
    obtain ⟨A, M, R, e1, e2, _, hM⟩ := cut3 (p := L) (i := k) (k := k + 1) (by omega) h
    obtain rfl := List.length_eq_zero_iff.1 (show M.length = 0 by omega)
    have := invs_next A R (L.getD k 0) (L.getD (k + 1) 0) hx
    rw [List.nil_append] at e1 e2
    rw [← e1, ← e2] at this
    simp only
    omega
  · rw [pairAt_no hx]; exact ⟨List.Perm.refl _, rfl, Nat.le_refl _⟩
theorem passN_inv : ∀ (n k : Nat) (S : St2), k + n + 1 ≤ S.1.length → (passN k n S).1.Perm S.1 ∧ invs (passN k n S).1 + (passN k n S).2 = invs S.1 + S.2 ∧ S.2 ≤ (passN k n S).2
  | 0, _, _, _ => ⟨List.Perm.refl _, rfl, Nat.le_refl _⟩
  | n + 1, k, S, h => by
    rw [passN_succ]
    obtain ⟨a1, a2, a3⟩ := pairAt_inv (k := k) (S := S) (by omega)
    obtain ⟨b1, b2, b3⟩ := passN_inv n (k + 1) (pairAt k S) (by rw [a1.length_eq]; omega)
    exact ⟨b1.trans a1, by omega, by omega⟩
def passF (S : St2) : St2 := passN 0 (S.1.length - 1) S
theorem passF_inv (S : St2) : (passF S).1.Perm S.1 ∧ invs (passF S).1 + (passF S).2 = invs S.1 + S.2 ∧ S.2 ≤ (passF S).2 := by
  unfold passF
  by_cases h : 0 < S.1.length
  · exact passN_inv _ 0 S (by omega)
  · rw [show S.1.length - 1 = 0 by omega]; exact ⟨List.Perm.refl _, rfl, Nat.le_refl _⟩
/-- A pass without an exchange: nothing moved, and no pair is out of order. -/
theorem passN_same : ∀ (n k : Nat) (S : St2), k + n + 1 ≤ S.1.length → (passN k n S).2 = S.2 → (passN k n S).1 = S.1 ∧ ∀ j, k ≤ j → j < k + n → ¬ S.1.getD (j + 1) 0 < S.1.getD j 0
  | 0, _, _, _, _ => ⟨rfl, fun j h1 h2 => by omega⟩
  | n + 1, k, S, h, he => by
    rw [passN_succ] at he ⊢
    obtain ⟨a1, a2, a3⟩ := pairAt_inv (k := k) (S := S) (by omega)
    have hb := passN_inv n (k + 1) (pairAt k S) (by rw [a1.length_eq]; omega)
    obtain ⟨L, s⟩ := S
    by_cases hx : L.getD (k + 1) 0 < L.getD k 0
    · rw [pairAt_yes hx] at he hb
      simp only at he hb
      omega
    · rw [pairAt_no hx] at he ⊢
      obtain ⟨c1, c2⟩ := passN_same n (k + 1) (L, s) (by simp only at *; omega) he
      refine ⟨c1, fun j h1 h2 => ?_⟩
      by_cases e : k = j
      · subst e; exact hx
      · exact c2 j (by omega) (by omega)
theorem passF_same {S : St2} (h : (passF S).2 = S.2) : (passF S).1 = S.1 ∧ Asc S.1 := by
  unfold passF at *
  by_cases h0 : 0 < S.1.length
  · obtain ⟨a, b⟩ := passN_same _ 0 S (by omega) h
    exact ⟨a, asc_of_next fun i hi => by have := b i (Nat.zero_le _) (by omega); omega⟩
  · rw [show S.1.length - 1 = 0 by omega]
    refine ⟨rfl, ?_⟩
    rw [List.length_eq_zero_iff.1 (show S.1.length = 0 by omega)]
    exact List.Pairwise.nil

/-- Passes until one exchanges nothing: the list, the passes, the exchanges. -/
def bubN : Nat → List Int → Nat → Nat → List Int × Nat × Nat
  | 0, L, p, s => (L, p, s)
  | f + 1, L, p, s => if (passF (L, s)).2 = s then ((passF (L, s)).1, p + 1, (passF (L, s)).2) else bubN f (passF (L, s)).1 (p + 1) (passF (L, s)).2
theorem bubN_stop {f p s : Nat} {L : List Int} (h : (passF (L, s)).2 = s) : bubN (f + 1) L p s = (L, p + 1, s) := by
  show (if _ then _ else _) = _
  rw [if_pos h, (passF_same (S := (L, s)) h).1, h]
theorem bubN_go {f p s : Nat} {L : List Int} (h : ¬ (passF (L, s)).2 = s) : bubN (f + 1) L p s = bubN f (passF (L, s)).1 (p + 1) (passF (L, s)).2 := if_neg h
theorem bubN_spec (l : List Int) : ∀ (f : Nat) (L : List Int) (p s : Nat), L.Perm l → invs L + s = invs l → invs L < f → (bubN f L p s).1 = srt l ∧ p + 1 ≤ (bubN f L p s).2.1 ∧ (bubN f L p s).2.1 + s ≤ p + 1 + invs l ∧ (bubN f L p s).2.2 = invs l
  | 0, _, _, _, _, _, h => absurd h (Nat.not_lt_zero _)
  | f + 1, L, p, s, hp, hv, hf => by
    obtain ⟨a1, a2, a3⟩ := passF_inv (L, s)
    by_cases h : (passF (L, s)).2 = s
    · rw [bubN_stop h]
      have ha := (passF_same (S := (L, s)) h).2
      have := invs_asc ha
      exact ⟨srt_uniq ha hp, Nat.le_refl _, by simp only; omega, by simp only at *; omega⟩
    · rw [bubN_go h]
      simp only at a1 a2 a3
      generalize passF (L, s) = T at *
      obtain ⟨b1, b2, b3, b4⟩ := bubN_spec l f T.1 (p + 1) T.2 (a1.trans hp) (by omega) (by omega)
      exact ⟨b1, by omega, by omega, b4⟩
def bubF (l : List Int) : List Int × Nat × Nat := bubN (invs l + 1) l 0 0
theorem bub_spec (l : List Int) : (bubF l).1 = srt l ∧ 1 ≤ (bubF l).2.1 ∧ (bubF l).2.1 ≤ 1 + invs l ∧ (bubF l).2.2 = invs l := by
  have := bubN_spec l (invs l + 1) l 0 0 (List.Perm.refl _) (by omega) (by omega)
  unfold bubF
  exact ⟨this.1, by have := this.2.1; omega, by have := this.2.2.1; omega, this.2.2.2⟩

end El
end Go.Proofs.Ythmcjmjkmmbepaa
