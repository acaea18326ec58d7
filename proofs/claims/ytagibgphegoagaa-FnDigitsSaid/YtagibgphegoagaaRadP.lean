/- Distribution by buckets: the list of the buckets one after another is the stable arrangement, and filling each bucket from its start finds it. Digits. Nothing of the program. -/
import Derived.Test.YtagibgphegoagaaStab
namespace Go.Proofs.Ytagibgphegoagaa
namespace Rx

variable {α : Type}

/-- The elements of bucket d. -/
def inB (f : α → Nat) (l : List α) (d : Nat) : List α := l.filter fun a => f a == d
def cnt (f : α → Nat) (l : List α) (d : Nat) : Nat := (inB f l d).length
/-- The buckets below d one after another. -/
def bk (f : α → Nat) (l : List α) : Nat → List α
  | 0 => []
  | d + 1 => bk f l d ++ inB f l d
/-- Where bucket d starts. -/
def st (f : α → Nat) (l : List α) : Nat → Nat
  | 0 => 0
  | d + 1 => st f l d + cnt f l d

theorem bk_length (f : α → Nat) (l : List α) (d : Nat) : (bk f l d).length = st f l d := by
  induction d with
  | zero => rfl
  | succ d ih => simp [bk, st, cnt, ih]
theorem st_mono (f : α → Nat) (l : List α) {d e : Nat} (h : d ≤ e) : st f l d ≤ st f l e := by
  induction e with
  | zero => obtain rfl : d = 0 := by omega
            exact Nat.le_refl _
  | succ e ih =>
    by_cases hd : d = e + 1
    · subst hd; exact Nat.le_refl _
    · have := ih (by omega); simp only [st]; omega
theorem st_succ (f : α → Nat) (l : List α) (d : Nat) : st f l (d + 1) = st f l d + cnt f l d := rfl
theorem st_zero (f : α → Nat) (l : List α) : st f l 0 = 0 := rfl

theorem mem_bk {f : α → Nat} {l : List α} {d : Nat} {x : α} (h : x ∈ bk f l d) : f x < d ∧ x ∈ l := by
  induction d with
  | zero => simp [bk] at h
  | succ d ih =>
    rcases List.mem_append.1 h with h | h
    · have := ih h; exact ⟨by omega, this.2⟩
    · have := List.mem_filter.1 h
      have h2 : f x = d := by simpa using this.2
      exact ⟨by omega, this.1⟩

theorem bk_sorted (f : α → Nat) (l : List α) (d : Nat) : (bk f l d).Pairwise (fun a b => f a ≤ f b) := by
  induction d with
  | zero => exact List.Pairwise.nil
  | succ d ih =>
    refine List.pairwise_append.2 ⟨ih, ?_, ?_⟩
    · refine List.Pairwise.imp_of_mem (R := fun _ _ => True) ?_ ?_
      · intro a b ha hb _
        have h1 : f a = d := by simpa using (List.mem_filter.1 ha).2
        have h2 : f b = d := by simpa using (List.mem_filter.1 hb).2
        omega
      · exact List.pairwise_of_forall fun _ _ => trivial
    · intro a ha b hb
      have h1 := (mem_bk ha).1
      have h2 : f b = d := by simpa using (List.mem_filter.1 hb).2
      omega

theorem bk_filter (f : α → Nat) (l : List α) (d e : Nat) : (bk f l d).filter (fun a => f a == e) = if e < d then inB f l e else [] := by
  induction d with
  | zero => simp [bk]
  | succ d ih =>
    simp only [bk, List.filter_append, ih]
    by_cases he : e = d
    · subst he
      rw [if_neg (by omega), if_pos (by omega), List.nil_append]
      unfold inB
      rw [List.filter_filter]
      congr 1
      funext a
      simp
    · have hz : (inB f l d).filter (fun a => f a == e) = [] := by
        rw [List.filter_eq_nil_iff]
        intro a ha
        have : f a = d := by simpa using (List.mem_filter.1 ha).2
        simp only [beq_iff_eq]; omega
      rw [hz, List.append_nil]
      by_cases h1 : e < d
      · rw [if_pos h1, if_pos (by omega)]
      · rw [if_neg h1, if_neg (by omega)]

/-- The buckets one after another: the stable arrangement. -/
theorem bk_of {f : α → Nat} {l : List α} {D : Nat} (h : ∀ x ∈ l, f x < D) : Stab.Of (fun a => (f a : Int)) l (bk f l D) := by
  refine ⟨(bk_sorted f l D).imp fun h => by simpa using h, fun q => ?_⟩
  rcases Int.lt_or_le q 0 with hq | hq
  · have e : ∀ m : List α, m.filter (fun a => ((f a : Int)) == q) = [] := fun m => by
      rw [List.filter_eq_nil_iff]; intro a _; simp only [beq_iff_eq]; omega
    rw [e, e]
  · obtain ⟨e, rfl⟩ : ∃ e : Nat, q = e := ⟨q.toNat, by omega⟩
    have hc : (fun a : α => ((f a : Int)) == (e : Int)) = fun a => f a == e := by
      funext a
      by_cases h : f a = e
      · simp [h]
      · have h1 : (((f a : Int)) == (e : Int)) = false := by simp only [beq_eq_false_iff_ne, ne_eq]; omega
        have h2 : (f a == e) = false := by simpa using h
        rw [h1, h2]
    rw [hc, bk_filter]
    by_cases he : e < D
    · rw [if_pos he]; rfl
    · rw [if_neg he]; symm
      rw [List.filter_eq_nil_iff]
      intro a ha
      have := h a ha
      simp only [beq_iff_eq]; omega

theorem bk_len {f : α → Nat} {l : List α} {D : Nat} (h : ∀ x ∈ l, f x < D) : st f l D = l.length := by
  rw [← bk_length]; exact (bk_of h).length

/-- What stands at a place of a bucket. -/
theorem bk_at {f : α → Nat} {l : List α} {D d j : Nat} (hd : d < D) (hj : j < cnt f l d) : (bk f l D)[st f l d + j]? = (inB f l d)[j]? := by
  induction D with
  | zero => omega
  | succ D ih =>
    by_cases h : d = D
    · subst h
      simp only [bk]
      rw [List.getElem?_append_right (by rw [bk_length]; omega), bk_length]
      congr 1; omega
    · have h1 := ih (by omega)
      simp only [bk]
      rw [List.getElem?_append_left (by
        rw [bk_length]
        have := st_mono f l (show d + 1 ≤ D by omega)
        rw [st_succ] at this; omega)]
      exact h1

/-- Each place lies in a bucket. -/
theorem place_in {f : α → Nat} {l : List α} {D t : Nat} (h : t < st f l D) : ∃ d j, d < D ∧ j < cnt f l d ∧ t = st f l d + j := by
  induction D with
  | zero => simp [st] at h
  | succ D ih =>
    by_cases ht : t < st f l D
    · obtain ⟨d, j, h1, h2, h3⟩ := ih ht
      exact ⟨d, j, by omega, h2, h3⟩
    · rw [st_succ] at h
      exact ⟨D, t - st f l D, by omega, by omega, by omega⟩

theorem cnt_take_le (f : α → Nat) (l : List α) (i d : Nat) : cnt f (l.take i) d ≤ cnt f l d := by
  unfold cnt inB
  conv => rhs; rw [← List.take_append_drop i l]
  rw [List.filter_append, List.length_append]; omega

theorem cnt_take_succ {f : α → Nat} {l : List α} {i : Nat} {x : α} (hx : l[i]? = some x) (d : Nat) : cnt f (l.take (i + 1)) d = cnt f (l.take i) d + if f x = d then 1 else 0 := by
  unfold cnt inB
  rw [List.take_add_one, hx, List.filter_append, List.length_append]
  congr 1
  by_cases h : f x = d <;> simp [h]

theorem cnt_lt {f : α → Nat} {l : List α} {i : Nat} {x : α} (hx : l[i]? = some x) : cnt f (l.take i) (f x) < cnt f l (f x) := by
  have h1 := cnt_take_succ (f := f) hx (f x)
  rw [if_pos rfl] at h1
  have h2 := cnt_take_le f l (i + 1) (f x)
  omega

/-- The next one of a bucket. -/
theorem inB_next {f : α → Nat} {l : List α} {i : Nat} {x : α} (hx : l[i]? = some x) : (inB f l (f x))[cnt f (l.take i) (f x)]? = some x := by
  obtain ⟨hi, e⟩ := List.getElem?_eq_some_iff.1 hx
  have hl : l = l.take i ++ x :: l.drop (i + 1) := by
    rw [← e, ← List.drop_eq_getElem_cons hi, List.take_append_drop]
  unfold cnt
  conv => lhs; rw [show inB f l (f x) = inB f (l.take i) (f x) ++ x :: inB f (l.drop (i + 1)) (f x) by
    unfold inB
    conv => lhs; rw [hl]
    rw [List.filter_append, List.filter_cons_of_pos (by simp)]]
  rw [List.getElem?_append_right (Nat.le_refl _), Nat.sub_self]; rfl

/-- After i elements each bucket is filled as far as they go. -/
def Fill (f : α → Nat) (l : List α) (D i : Nat) (S : List α) : Prop :=
  S.length = l.length ∧ ∀ d j, d < D → j < cnt f (l.take i) d → S[st f l d + j]? = (bk f l D)[st f l d + j]?

theorem Fill.start (f : α → Nat) (l : List α) (D : Nat) {S : List α} (h : S.length = l.length) : Fill f l D 0 S :=
  ⟨h, fun d j _ hj => by simp [cnt, inB] at hj⟩

/-- The next index of bucket d after i elements. -/
def nx (f : α → Nat) (l : List α) (i d : Nat) : Nat := st f l d + cnt f (l.take i) d

theorem nx_lt {f : α → Nat} {l : List α} {D i : Nat} {x : α} (h : ∀ x ∈ l, f x < D) (hx : l[i]? = some x) : nx f l i (f x) < l.length := by
  have h1 := cnt_lt (f := f) hx
  have h2 := h x (List.mem_of_getElem? hx)
  have h3 := st_mono f l (show f x + 1 ≤ D by omega)
  rw [st_succ, bk_len h] at h3
  unfold nx; omega

theorem Fill.step {f : α → Nat} {l : List α} {D i : Nat} {S : List α} {x : α} (h : ∀ x ∈ l, f x < D) (hF : Fill f l D i S) (hx : l[i]? = some x) : Fill f l D (i + 1) (S.set (nx f l i (f x)) x) := by
  refine ⟨by rw [List.length_set]; exact hF.1, fun d j hd hj => ?_⟩
  have hfx := h x (List.mem_of_getElem? hx)
  have hlt := cnt_lt (f := f) hx
  have hnl := nx_lt h hx
  have hcd : j < cnt f l d := by have := cnt_take_le f l (i + 1) d; omega
  rw [cnt_take_succ hx] at hj
  by_cases he : st f l d + j = nx f l i (f x)
  · have hde : d = f x := by
      unfold nx at he
      rcases Nat.lt_trichotomy d (f x) with h1 | h1 | h1
      · have := st_mono f l (show d + 1 ≤ f x by omega)
        rw [st_succ] at this; omega
      · exact h1
      · have := st_mono f l (show f x + 1 ≤ d by omega)
        rw [st_succ] at this; omega
    subst hde
    have hj2 : j = cnt f (l.take i) (f x) := by unfold nx at he; omega
    rw [bk_at hd hcd, hj2, inB_next hx]
    unfold nx
    rw [List.getElem?_set_self (by rw [hF.1]; unfold nx at hnl; exact hnl)]
  · rw [List.getElem?_set_ne (fun e => he e.symm)]
    refine hF.2 d j hd ?_
    by_cases hde : f x = d
    · subst hde
      rw [if_pos rfl] at hj
      unfold nx at he; omega
    · rw [if_neg hde] at hj; omega

theorem Fill.done {f : α → Nat} {l : List α} {D : Nat} {S : List α} (h : ∀ x ∈ l, f x < D) (hF : Fill f l D l.length S) : S = bk f l D := by
  refine List.ext_getElem? fun t => ?_
  by_cases ht : t < l.length
  · obtain ⟨d, j, hd, hj, rfl⟩ := place_in (f := f) (l := l) (D := D) (t := t) (by rw [bk_len h]; exact ht)
    exact hF.2 d j hd (by rw [List.take_length]; exact hj)
  · rw [List.getElem?_eq_none (by rw [hF.1]; omega), List.getElem?_eq_none (by rw [bk_length, bk_len h]; omega)]

/-- The digit of n at place p. -/
def dg (b p n : Nat) : Nat := n / b ^ p % b
theorem dg_lt {b : Nat} (hb : 0 < b) (p n : Nat) : dg b p n < b := Nat.mod_lt _ hb
theorem div_pow_succ (b p n : Nat) : n / b ^ p / b = n / b ^ (p + 1) := by rw [Nat.div_div_eq_div_mul, Nat.pow_succ]
theorem mod_pow (b p n : Nat) : n % b ^ (p + 1) = n % b ^ p + b ^ p * dg b p n := by unfold dg; rw [Nat.mod_pow_succ]

/-- Stable by the lower places, then by the next: stable by both. -/
theorem lsd {key : α → Nat} {b p : Nat} {l L M : List α} (hb : 0 < b) (h1 : Stab.Of (fun a => ((key a % b ^ p : Nat) : Int)) l L) (h2 : Stab.Of (fun a => ((dg b p (key a) : Nat) : Int)) L M) :
    Stab.Of (fun a => ((key a % b ^ (p + 1) : Nat) : Int)) l M := by
  have hpos : 0 < b ^ p := Nat.pow_pos hb
  have hsplit : ∀ q : Int, 0 ≤ q → ∀ a : α, ((((key a % b ^ (p + 1) : Nat) : Int)) == q) = ((((key a % b ^ p : Nat) : Int)) == ((q.toNat % b ^ p : Nat) : Int) && ((((dg b p (key a) : Nat) : Int)) == ((q.toNat / b ^ p : Nat) : Int))) := by
    intro q hq a
    have hm := mod_pow b p (key a)
    have hlt := Nat.mod_lt (key a) hpos
    have e : ((((key a % b ^ (p + 1) : Nat) : Int)) == q) = decide (key a % b ^ (p + 1) = q.toNat) := by
      by_cases h : key a % b ^ (p + 1) = q.toNat
      · rw [decide_eq_true h]; simp only [beq_iff_eq]; omega
      · rw [decide_eq_false h]; simp only [beq_eq_false_iff_ne, ne_eq]; omega
    have e2 : (((((key a % b ^ p : Nat) : Int)) == ((q.toNat % b ^ p : Nat) : Int)) && ((((dg b p (key a) : Nat) : Int)) == ((q.toNat / b ^ p : Nat) : Int))) = decide (key a % b ^ p = q.toNat % b ^ p ∧ dg b p (key a) = q.toNat / b ^ p) := by
      by_cases h : key a % b ^ p = q.toNat % b ^ p ∧ dg b p (key a) = q.toNat / b ^ p
      · rw [decide_eq_true h, h.1, h.2]; simp
      · rw [decide_eq_false h]
        rw [Bool.and_eq_false_iff]
        simp only [beq_eq_false_iff_ne, ne_eq]
        omega
    rw [e, e2]
    congr 1
    rw [hm]
    refine propext ⟨fun h => ?_, fun h => ?_⟩
    · rw [← h]
      refine ⟨?_, ?_⟩
      · rw [Nat.add_mul_mod_self_left, Nat.mod_eq_of_lt hlt]
      · rw [Nat.add_mul_div_left _ _ hpos, Nat.div_eq_of_lt hlt, Nat.zero_add]
    · rw [h.1, h.2]; exact Nat.mod_add_div _ _
  refine ⟨?_, fun q => ?_⟩
  · rw [List.pairwise_iff_forall_sublist]
    intro x y hxy
    have hd : dg b p (key x) ≤ dg b p (key y) := by
      have := List.pairwise_iff_forall_sublist.1 h2.sorted hxy
      omega
    have hx := mod_pow b p (key x)
    have hy := mod_pow b p (key y)
    have hlx := Nat.mod_lt (key x) hpos
    by_cases he : dg b p (key x) = dg b p (key y)
    · have hs : [x, y].Sublist (M.filter (fun a => (((dg b p (key a) : Nat) : Int)) == ((dg b p (key y) : Nat) : Int))) := by
        have := hxy.filter (fun a => (((dg b p (key a) : Nat) : Int)) == ((dg b p (key y) : Nat) : Int))
        rw [List.filter_cons_of_pos (by simp [he]), List.filter_cons_of_pos (by simp), List.filter_nil] at this
        exact this
      rw [h2.same] at hs
      have := List.pairwise_iff_forall_sublist.1 h1.sorted (hs.trans List.filter_sublist)
      have e1 : key x % b ^ p ≤ key y % b ^ p := Int.ofNat_le.1 this
      refine Int.ofNat_le.2 ?_
      rw [hx, hy, he]; exact Nat.add_le_add_right e1 _
    · have hlt : dg b p (key x) + 1 ≤ dg b p (key y) := by omega
      have := Nat.mul_le_mul_left (b ^ p) hlt
      rw [Nat.mul_add, Nat.mul_one] at this
      refine Int.ofNat_le.2 ?_
      rw [hx, hy]
      generalize key x % b ^ p = u1 at *
      generalize key y % b ^ p = u2 at *
      omega
  · rcases Int.lt_or_le q 0 with hq | hq
    · have e : ∀ m : List α, m.filter (fun a => ((key a % b ^ (p + 1) : Nat) : Int) == q) = [] := fun m => by
        rw [List.filter_eq_nil_iff]; intro a _; simp only [beq_iff_eq]
        generalize key a % b ^ (p + 1) = u
        omega
      rw [e, e]
    · have e : ∀ m : List α, m.filter (fun a => ((key a % b ^ (p + 1) : Nat) : Int) == q) = (m.filter (fun a => (((dg b p (key a) : Nat) : Int)) == ((q.toNat / b ^ p : Nat) : Int))).filter (fun a => (((key a % b ^ p : Nat) : Int)) == ((q.toNat % b ^ p : Nat) : Int)) := fun m => by
        rw [List.filter_filter]
        congr 1
        funext a
        exact hsplit q hq a
      rw [e, e, h2.same, List.filter_filter]
      have hc : ∀ m : List α, m.filter (fun a => ((((key a % b ^ p : Nat) : Int)) == ((q.toNat % b ^ p : Nat) : Int)) && ((((dg b p (key a) : Nat) : Int)) == ((q.toNat / b ^ p : Nat) : Int))) = (m.filter (fun a => (((key a % b ^ p : Nat) : Int)) == ((q.toNat % b ^ p : Nat) : Int))).filter (fun a => (((dg b p (key a) : Nat) : Int)) == ((q.toNat / b ^ p : Nat) : Int)) := fun m => by
        rw [List.filter_filter]
        congr 1
        funext a
        exact Bool.and_comm _ _
      rw [hc, h1.same, ← hc, List.filter_filter]

/-- k is the number of digits of n. -/
def IsLen (b n k : Nat) : Prop := 1 ≤ k ∧ n < b ^ k ∧ (k = 1 ∨ b ^ (k - 1) ≤ n)
theorem IsLen.le {b n m k j : Nat} (hb : 2 ≤ b) (h : IsLen b n k) (h2 : IsLen b m j) (hnm : n ≤ m) : k ≤ j := by
  rcases Nat.lt_or_ge j k with hj | hj
  · rcases h.2.2 with e | e
    · have := h2.1; omega
    · have h3 : b ^ j ≤ b ^ (k - 1) := Nat.pow_le_pow_right (by omega) (by omega)
      have := h2.2.1
      omega
  · exact hj
theorem IsLen.uniq {b n k j : Nat} (hb : 2 ≤ b) (h : IsLen b n k) (h2 : IsLen b n j) : k = j := Nat.le_antisymm (h.le hb h2 (Nat.le_refl _)) (h2.le hb h (Nat.le_refl _))
/-- What stands when j digits have been passed, and the rest is below the base. -/
theorem IsLen.made {b n j : Nat} (hb : 2 ≤ b) (hj : 1 ≤ j) (hlt : n / b ^ (j - 1) < b) (hge : j = 1 ∨ b ^ (j - 1) ≤ n) : IsLen b n j := by
  refine ⟨hj, ?_, hge⟩
  have h1 : b ^ j = b * b ^ (j - 1) := by rw [Nat.mul_comm, ← Nat.pow_succ]; congr 1; omega
  rw [h1]
  exact (Nat.div_lt_iff_lt_mul (Nat.pow_pos (by omega))).1 hlt
theorem IsLen.on {b n j : Nat} (hb : 2 ≤ b) (hj : 1 ≤ j) (hge : ¬ n / b ^ (j - 1) < b) : b ^ j ≤ n := by
  have h1 : b ^ j = b * b ^ (j - 1) := by rw [Nat.mul_comm, ← Nat.pow_succ]; congr 1; omega
  rw [h1]
  exact (Nat.le_div_iff_mul_le (Nat.pow_pos (by omega))).1 (by omega)
theorem IsLen.most {b n k : Nat} (hb : 2 ≤ b) (h : IsLen b n k) (hn : n ≤ 200000) : k ≤ 18 := by
  rcases h.2.2 with e | e
  · omega
  · rcases Nat.lt_or_ge 18 k with h2 | h2
    · have h3 : 2 ^ 18 ≤ b ^ (k - 1) := Nat.le_trans (Nat.pow_le_pow_left hb 18) (Nat.pow_le_pow_right (by omega) (by omega))
      have h4 : (2 : Nat) ^ 18 = 262144 := by decide
      omega
    · exact h2
theorem IsLen.ex {b : Nat} (hb : 2 ≤ b) : ∀ (n : Nat), ∃ k, IsLen b n k := by
  intro n
  induction n using Nat.strongRecOn with
  | _ n ih =>
    by_cases h : n < b
    · exact ⟨1, Nat.le_refl _, by rw [Nat.pow_one]; exact h, .inl rfl⟩
    · obtain ⟨k, h1, h2, h3⟩ := ih (n / b) (Nat.div_lt_self (by omega) (by omega))
      refine ⟨k + 1, by omega, ?_, .inr ?_⟩
      · rw [Nat.pow_succ]; exact (Nat.div_lt_iff_lt_mul (by omega)).1 h2
      · rw [Nat.add_sub_cancel]
        rcases h3 with e | e
        · subst e; rw [Nat.pow_one]; omega
        · have e2 : b ^ k = b ^ (k - 1) * b := by rw [← Nat.pow_succ]; congr 1; omega
          rw [e2]; exact (Nat.le_div_iff_mul_le (by omega)).1 e
noncomputable def dl (b n : Nat) : Nat := Classical.epsilon fun k => IsLen b n k
theorem dl_is {b : Nat} (hb : 2 ≤ b) (n : Nat) : IsLen b n (dl b n) := Classical.epsilon_spec (p := fun k => IsLen b n k) (IsLen.ex hb n)
theorem dl_eq {b n k : Nat} (hb : 2 ≤ b) (h : IsLen b n k) : dl b n = k := (dl_is hb n).uniq hb h

/-- The most digits of the numbers of a list. -/
noncomputable def most (b : Nat) : List Nat → Nat
  | [] => 0
  | n :: r => max (dl b n) (most b r)
theorem most_le {b : Nat} : ∀ {l : List Nat} {m : Nat}, (∀ n ∈ l, dl b n ≤ m) → most b l ≤ m
  | [], _, _ => Nat.zero_le _
  | n :: r, m, h => by
    have h1 := h n (by simp)
    have h2 := most_le (l := r) (m := m) fun k hk => h k (by simp [hk])
    simp only [most]; omega
theorem le_most {b : Nat} : ∀ {l : List Nat} {n : Nat}, n ∈ l → dl b n ≤ most b l
  | n :: r, m, h => by
    simp only [most]
    rcases List.mem_cons.1 h with e | e
    · subst e; omega
    · have := le_most (b := b) e; omega
theorem most_snoc {b : Nat} : ∀ (l : List Nat) (n : Nat), most b (l ++ [n]) = max (most b l) (dl b n)
  | [], n => by simp [most]
  | k :: r, n => by simp only [List.cons_append, most, most_snoc r n]; omega
theorem most_of {b : Nat} (hb : 2 ≤ b) {l : List Nat} {g : Nat} (hg : g ∈ l) (h : ∀ n ∈ l, n ≤ g) : most b l = dl b g :=
  Nat.le_antisymm (most_le fun n hn => (dl_is hb n).le hb (dl_is hb g) (h n hn)) (le_most hg)
theorem lt_most {b : Nat} (hb : 2 ≤ b) {l : List Nat} {n : Nat} (hn : n ∈ l) : n < b ^ most b l :=
  Nat.lt_of_lt_of_le (dl_is hb n).2.1 (Nat.pow_le_pow_right (by omega) (le_most hn))

/-- The first k passes. -/
def passes (key : α → Nat) (b : Nat) (l : List α) : Nat → List α
  | 0 => l
  | k + 1 => bk (fun a => dg b k (key a)) (passes key b l k) b
theorem passes_of {key : α → Nat} {b : Nat} (hb : 2 ≤ b) (l : List α) : ∀ k, Stab.Of (fun a => ((key a % b ^ k : Nat) : Int)) l (passes key b l k)
  | 0 => ⟨by
      simp only [Nat.pow_zero, Nat.mod_one]
      exact List.pairwise_of_forall fun _ _ => Int.le_refl _, fun _ => rfl⟩
  | k + 1 => lsd (by omega) (passes_of hb l k) (bk_of fun x _ => dg_lt (by omega) k (key x))
theorem of_congr {f g : α → Int} {l r : List α} (h : ∀ x ∈ l, f x = g x) (hf : Stab.Of f l r) : Stab.Of g l r := by
  have hr : ∀ x ∈ r, f x = g x := fun x hx => h x ((hf.mem x).1 hx)
  refine ⟨?_, fun q => ?_⟩
  · refine List.Pairwise.imp_of_mem ?_ hf.sorted
    intro a b ha hb hab
    rw [← hr a ha, ← hr b hb]; exact hab
  · have e : ∀ m : List α, (∀ x ∈ m, f x = g x) → m.filter (fun a => g a == q) = m.filter (fun a => f a == q) := fun m hm => by
      refine List.filter_congr fun x hx => ?_
      rw [hm x hx]
    rw [e r hr, e l h]; exact hf.same q
/-- All passes: the stable arrangement by the whole number. -/
theorem passes_all {key : α → Nat} {b : Nat} (hb : 2 ≤ b) {l : List α} {k : Nat} (h : ∀ x ∈ l, key x < b ^ k) : Stab.Of (fun a => (key a : Int)) l (passes key b l k) :=
  of_congr (fun x hx => by rw [Nat.mod_eq_of_lt (h x hx)]) (passes_of hb l k)

/-- An element put behind all that are not greater. -/
theorem of_insert {key : α → Int} {l L : List α} {x : α} {k : Nat} (h : Stab.Of key l L) (hk : k ≤ L.length) (hgt : ∀ t y, k ≤ t → L[t]? = some y → key x < key y) (hle : k = 0 ∨ ∃ y, L[k - 1]? = some y ∧ key y ≤ key x) :
    Stab.Of key (l ++ [x]) (L.take k ++ [x] ++ L.drop k) := by
  have hs := h.sorted
  have hlow : ∀ y ∈ L.take k, key y ≤ key x := by
    intro y hy
    obtain ⟨j, hj, rfl⟩ := List.getElem_of_mem hy
    have hj' : j < k := by simp at hj; omega
    rcases hle with e | ⟨z, hz, hzx⟩
    · omega
    · rw [List.getElem_take]
      obtain ⟨hz1, hz2⟩ := List.getElem?_eq_some_iff.1 hz
      by_cases e : j = k - 1
      · subst e; rw [hz2]; exact hzx
      · have := List.pairwise_iff_getElem.1 hs j (k - 1) (by omega) hz1 (by omega)
        rw [hz2] at this; omega
  have hhigh : ∀ y ∈ L.drop k, key x < key y := by
    intro y hy
    obtain ⟨j, hj, rfl⟩ := List.getElem_of_mem hy
    rw [List.getElem_drop]
    exact hgt (k + j) _ (by omega) (List.getElem?_eq_getElem (by simp at hj; omega))
  have hsp : (L.take k ++ L.drop k).Pairwise (fun a b => key a ≤ key b) := by rw [List.take_append_drop]; exact hs
  rw [List.pairwise_append] at hsp
  refine ⟨?_, fun q => ?_⟩
  · rw [List.pairwise_append, List.pairwise_append]
    refine ⟨⟨hsp.1, List.pairwise_singleton _ _, fun a ha b hb => ?_⟩, hsp.2.1, fun a ha b hb => ?_⟩
    · obtain rfl := List.mem_singleton.1 hb; exact hlow a ha
    · rcases List.mem_append.1 ha with ha | ha
      · exact hsp.2.2 a ha b hb
      · obtain rfl := List.mem_singleton.1 ha; exact Int.le_of_lt (hhigh b hb)
  · have hf := h.same q
    rw [List.filter_append, List.filter_append, List.filter_append, ← hf]
    conv => rhs; rw [← List.take_append_drop k L, List.filter_append]
    by_cases hq : key x = q
    · have hz : (L.drop k).filter (fun a => key a == q) = [] := by
        rw [List.filter_eq_nil_iff]; intro y hy
        have := hhigh y hy
        simp only [beq_iff_eq]; omega
      rw [hz]; simp
    · simp [hq]

/-- A valid base and place. -/
def OkBP (b p : Int) : Prop := (2 ≤ b ∧ b ≤ 256) ∧ 0 ≤ p ∧ p ≤ 17
instance (b p : Int) : Decidable (OkBP b p) := by unfold OkBP; exact inferInstance

end Rx
end Go.Proofs.Ytagibgphegoagaa
