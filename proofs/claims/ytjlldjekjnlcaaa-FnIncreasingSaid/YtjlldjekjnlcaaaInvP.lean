/- Inversions, tables, distances, descents: plain lists. -/
import Derived.Test.YtjlldjekjnlcaaaPerm
import Derived.Test.YtjlldjekjnlcaaaList
namespace Go.Proofs.Ytjlldjekjnlcaaa
namespace Iv
open P

/-- The pairs of an element and a later one of which f holds. -/
def cp {α : Type} (f : α → α → Bool) : List α → Nat
  | [] => 0
  | x :: l => l.countP (f x) + cp f l
theorem cp_cons {α : Type} (f : α → α → Bool) (x : α) (l : List α) : cp f (x :: l) = l.countP (f x) + cp f l := rfl
theorem cp_drop {α : Type} {f : α → α → Bool} {l : List α} {i : Nat} {x : α} (h : l[i]? = some x) : cp f (l.drop i) = (l.drop (i + 1)).countP (f x) + cp f (l.drop (i + 1)) := by
  obtain ⟨hi, hx⟩ := List.getElem?_eq_some_iff.1 h
  rw [List.drop_eq_getElem_cons hi, hx]; rfl
theorem cp_end {α : Type} {f : α → α → Bool} {l : List α} {i : Nat} (h : l.length ≤ i) : cp f (l.drop i) = 0 := by
  rw [List.drop_eq_nil_of_le h]; rfl
theorem count_drop {α : Type} {f : α → Bool} {l : List α} {k : Nat} {x : α} (h : l[k]? = some x) : (l.drop k).countP f = (if f x = true then 1 else 0) + (l.drop (k + 1)).countP f := by
  obtain ⟨hi, hx⟩ := List.getElem?_eq_some_iff.1 h
  rw [List.drop_eq_getElem_cons hi, hx, List.countP_cons, Nat.add_comm]
theorem count_end {α : Type} {f : α → Bool} {l : List α} {k : Nat} (h : l.length ≤ k) : (l.drop k).countP f = 0 := by
  rw [List.drop_eq_nil_of_le h]; rfl
theorem cp_le {α : Type} (f : α → α → Bool) : ∀ l : List α, cp f l ≤ l.length * l.length
  | [] => by simp [cp]
  | x :: l => by
    have h1 := cp_le f l
    have h2 := List.countP_le_length (p := f x) (l := l)
    rw [cp_cons, List.length_cons, Nat.add_mul, Nat.mul_add]
    omega
theorem cp_map {α β : Type} (f : β → β → Bool) (g : α → β) : ∀ l : List α, cp f (l.map g) = cp (fun a b => f (g a) (g b)) l
  | [] => rfl
  | x :: l => by rw [List.map_cons, cp_cons, cp_cons, cp_map f g l, List.countP_map]; rfl
theorem cp_congr {α : Type} {f g : α → α → Bool} : ∀ {l : List α}, (∀ a ∈ l, ∀ b ∈ l, f a b = g a b) → cp f l = cp g l
  | [], _ => rfl
  | x :: l, h => by
    rw [cp_cons, cp_cons, cp_congr (fun a ha b hb => h a (List.mem_cons_of_mem _ ha) b (List.mem_cons_of_mem _ hb))]
    congr 1
    exact List.countP_congr fun b hb => by rw [h x List.mem_cons_self b (List.mem_cons_of_mem _ hb)]
theorem cp_add {α : Type} {f g h : α → α → Bool} (hh : ∀ a b, f a b = true → g a b = true ∨ h a b = true) : ∀ l : List α, cp f l ≤ cp g l + cp h l
  | [] => by simp [cp]
  | x :: l => by
    have ih := cp_add hh l
    have h2 : l.countP (f x) ≤ l.countP (g x) + l.countP (h x) := by
      clear ih
      induction l with
      | nil => simp
      | cons y l ih =>
        rw [List.countP_cons, List.countP_cons, List.countP_cons]
        have := hh x y
        by_cases h1 : f x y = true
        · rcases this h1 with h2 | h2
          · rw [if_pos h1, if_pos h2]; omega
          · rw [if_pos h1, if_pos h2]; omega
        · rw [if_neg h1]; omega
    rw [cp_cons, cp_cons, cp_cons]; omega
theorem invs_cp : ∀ l : List Int, invs l = cp (fun a b => decide (b < a)) l
  | [] => rfl
  | x :: l => by rw [invs_cons, cp_cons, invs_cp l]
theorem invs_le (l : List Int) : invs l ≤ l.length * l.length := by rw [invs_cp]; exact cp_le _ _

/-- CountInversions. -/
def ciF (l : List Int) : Int × Bool := if OkL l then (((invs l : Nat) : Int), true) else (0, false)
theorem ciF_yes {l : List Int} (h : OkL l) : ciF l = (((invs l : Nat) : Int), true) := if_pos h
theorem ciF_no {l : List Int} (h : ¬ OkL l) : ciF l = (0, false) := if_neg h

/-- The Lehmer code. -/
def itL (p : List Int) : List Int := (List.range p.length).map fun i => ((later p i : Nat) : Int)
theorem itL_length (p : List Int) : (itL p).length = p.length := by simp [itL]
theorem itL_at {p : List Int} {i : Nat} (h : i < p.length) : (itL p)[i]? = some ((later p i : Nat) : Int) := by simp [itL, h]
theorem itL_take {p : List Int} {i : Nat} (h : i < p.length) : (itL p).take (i + 1) = (itL p).take i ++ [((later p i : Nat) : Int)] := by
  rw [List.take_add_one, itL_at h]; rfl
def itF (p : List Int) : List Int × Bool := if OkP p then (itL p, true) else ([], false)
theorem itF_yes {p : List Int} (h : OkP p) : itF p = (itL p, true) := if_pos h
theorem itF_no {p : List Int} (h : ¬ OkP p) : itF p = ([], false) := if_neg h
theorem itF_len (p : List Int) : (itF p).1.length ≤ 1048576 := by
  by_cases h : OkP p
  · rw [itF_yes h]; simp only; rw [itL_length]; have := h.1; omega
  · rw [itF_no h]; simp

/-- A table that is a Lehmer code. -/
def OkT (t : List Int) : Prop := t.length ≤ 64 ∧ ∀ i, i < t.length → 0 ≤ t.getD i 0 ∧ t.getD i 0 < (t.length : Int) - i
noncomputable instance (t : List Int) : Decidable (OkT t) := Classical.propDecidable _
def tdig (t : List Int) (i : Nat) : Nat := (t.getD i 0).toNat
def fiL (t : List Int) : List Int := (pickSt (tdig t) (iota t.length) t.length).1
noncomputable def fiF (t : List Int) : List Int × Bool := if OkT t then (fiL t, true) else ([], false)
theorem fiF_yes {t : List Int} (h : OkT t) : fiF t = (fiL t, true) := if_pos h
theorem fiF_no {t : List Int} (h : ¬ OkT t) : fiF t = ([], false) := if_neg h
theorem fiL_length (t : List Int) : (fiL t).length = t.length := pickSt_out _ _ _
theorem fiF_len (t : List Int) : (fiF t).1.length ≤ 1048576 := by
  by_cases h : OkT t
  · rw [fiF_yes h]; simp only; rw [fiL_length]; have := h.1; omega
  · rw [fiF_no h]; simp
theorem tdig_lt {t : List Int} (h : OkT t) {i : Nat} (hi : i < t.length) : tdig t i < t.length - i := by
  have := h.2 i hi; unfold tdig; omega
theorem tdig_eq {t : List Int} (h : OkT t) {i : Nat} (hi : i < t.length) : ((tdig t i : Nat) : Int) = t.getD i 0 := by
  have := h.2 i hi; unfold tdig; omega
theorem tdig_it {p : List Int} {i : Nat} (h : i < p.length) : tdig (itL p) i = later p i := by
  unfold tdig; rw [getD_at (itL_at h)]; simp
theorem ok_it {p : List Int} (h : OkP p) : OkT (itL p) := by
  refine ⟨by rw [itL_length]; exact h.1, fun i hi => ?_⟩
  rw [itL_length] at hi ⊢
  rw [getD_at (itL_at hi)]
  have := later_lt hi
  omega
theorem pickSt_congr {d e : Nat → Nat} (r : List Int) : ∀ i, (∀ k, k < i → d k = e k) → pickSt d r i = pickSt e r i
  | 0, _ => rfl
  | i + 1, h => by rw [pickSt_succ, pickSt_succ, pickSt_congr r i (fun k hk => h k (by omega)), h i (by omega)]
theorem fi_it {p : List Int} (h : OkP p) : fiF (itL p) = (p, true) := by
  rw [fiF_yes (ok_it h)]
  unfold fiL
  rw [itL_length, pickSt_congr (e := later p) _ _ (fun k hk => tdig_it hk), (pick_later h _ (Nat.le_refl _)).1, List.take_length]
theorem it_sum (p : List Int) : ∀ i, i ≤ p.length → ((itL p).take i).sum = ((crossTo p i : Nat) : Int)
  | 0, _ => by simp [crossTo]
  | i + 1, h => by rw [itL_take h, List.sum_append, it_sum p i (by omega), crossTo_succ]; simp
theorem it_sum_all (p : List Int) : (itL p).sum = ((invs p : Nat) : Int) := by
  have := it_sum p p.length (Nat.le_refl _)
  rw [crossTo_all, ← itL_length p, List.take_length] at this
  exact this

/-- Two ranks, and whether two indices are ordered differently. -/
def dis (a b : Int × Int) : Bool := decide (a.1 < b.1) != decide (a.2 < b.2)
def kd (p q : List Int) : Nat := cp dis (p.zip q)
def OkB (p q : List Int) : Prop := OkP p ∧ OkP q ∧ p.length = q.length
instance (p q : List Int) : Decidable (OkB p q) := by unfold OkB; infer_instance
def kdF (p q : List Int) : Int × Bool := if OkB p q then (((kd p q : Nat) : Int), true) else (0, false)
theorem kdF_yes {p q : List Int} (h : OkB p q) : kdF p q = (((kd p q : Nat) : Int), true) := if_pos h
theorem kdF_no {p q : List Int} (h : ¬ OkB p q) : kdF p q = (0, false) := if_neg h
def fz (z : List (Int × Int)) : Nat := (z.map fun a => (a.1 - a.2).natAbs).sum
def ff (p q : List Int) : Nat := fz (p.zip q)
def sfF (p q : List Int) : Int × Bool := if OkB p q then (((ff p q : Nat) : Int), true) else (0, false)
theorem sfF_yes {p q : List Int} (h : OkB p q) : sfF p q = (((ff p q : Nat) : Int), true) := if_pos h
theorem sfF_no {p q : List Int} (h : ¬ OkB p q) : sfF p q = (0, false) := if_neg h
theorem fz_drop {z : List (Int × Int)} {k : Nat} {a : Int × Int} (h : z[k]? = some a) : fz (z.drop k) = (a.1 - a.2).natAbs + fz (z.drop (k + 1)) := by
  obtain ⟨hi, hx⟩ := List.getElem?_eq_some_iff.1 h
  unfold fz
  rw [List.drop_eq_getElem_cons hi, hx]; simp
theorem fz_end {z : List (Int × Int)} {k : Nat} (h : z.length ≤ k) : fz (z.drop k) = 0 := by
  rw [List.drop_eq_nil_of_le h]; rfl
theorem zip_at {p q : List Int} {i : Nat} (h : i < p.length) (hl : p.length = q.length) : (p.zip q)[i]? = some (p.getD i 0, q.getD i 0) := by
  rw [List.getElem?_zip_eq_some]; exact ⟨at_getD h, at_getD (by omega)⟩
theorem fz_le : ∀ {z : List (Int × Int)} {n : Nat}, (∀ a ∈ z, 0 ≤ a.1 ∧ a.1 < n ∧ 0 ≤ a.2 ∧ a.2 < n) → fz z ≤ z.length * n
  | [], n, _ => by simp [fz]
  | a :: z, n, h => by
    have ih := fz_le (z := z) (n := n) (fun b hb => h b (List.mem_cons_of_mem _ hb))
    have ha := h a List.mem_cons_self
    have e : fz (a :: z) = (a.1 - a.2).natAbs + fz z := by simp [fz]
    rw [e, List.length_cons, Nat.add_mul]
    omega
theorem zip_small {p q : List Int} (h : OkB p q) : ∀ a ∈ p.zip q, 0 ≤ a.1 ∧ a.1 < (p.length : Nat) ∧ 0 ≤ a.2 ∧ a.2 < (p.length : Nat) := by
  rintro ⟨x, y⟩ ha
  have h1 := h.1.2.1 x (List.of_mem_zip ha).1
  have h2 := h.2.1.2.1 y (List.of_mem_zip ha).2
  have := h.2.2
  simp only
  omega
theorem ff_le {p q : List Int} (h : OkB p q) : ff p q ≤ 4096 := by
  have h1 := fz_le (zip_small h)
  have h2 : (p.zip q).length = p.length := by rw [List.length_zip, ← h.2.2, Nat.min_self]
  have h3 := h.1.1
  rw [h2] at h1
  have h4 : p.length * p.length ≤ 64 * 64 := Nat.mul_le_mul h3 h3
  unfold ff; omega
theorem kd_le {p q : List Int} (h : OkB p q) : kd p q ≤ 4096 := by
  have h1 := cp_le dis (p.zip q)
  have h2 : (p.zip q).length = p.length := by rw [List.length_zip, ← h.2.2, Nat.min_self]
  have h3 := h.1.1
  rw [h2] at h1
  have h4 : p.length * p.length ≤ 64 * 64 := Nat.mul_le_mul h3 h3
  unfold kd; omega

/-- The indices of the descents, from index i on. -/
def ds : List Int → Nat → List Nat
  | x :: y :: l, i => if y < x then i :: ds (y :: l) (i + 1) else ds (y :: l) (i + 1)
  | _, _ => []
theorem ds_step {l : List Int} {k : Nat} (j : Nat) (h : k + 1 < l.length) : ds (l.drop k) j = if l.getD (k + 1) 0 < l.getD k 0 then j :: ds (l.drop (k + 1)) (j + 1) else ds (l.drop (k + 1)) (j + 1) := by
  have e1 : l.drop k = l.getD k 0 :: l.drop (k + 1) := by
    rw [List.drop_eq_getElem_cons (by omega : k < l.length), getD_at (List.getElem?_eq_getElem (by omega : k < l.length))]
  have e2 : l.drop (k + 1) = l.getD (k + 1) 0 :: l.drop (k + 2) := by
    rw [List.drop_eq_getElem_cons h, getD_at (List.getElem?_eq_getElem h)]
  rw [e1, e2]; rfl
theorem ds_end {l : List Int} {k : Nat} (j : Nat) (h : l.length ≤ k + 1) : ds (l.drop k) j = [] := by
  match hd : l.drop k with
  | [] => rfl
  | [_] => rfl
  | _ :: _ :: _ => have := congrArg List.length hd; simp at this; omega
def dsL (l : List Int) : List Int := (ds l 0).map fun j : Nat => (j : Int)
def dsF (l : List Int) : List Int × Bool := if OkL l then (dsL l, true) else ([], false)
theorem dsF_yes {l : List Int} (h : OkL l) : dsF l = (dsL l, true) := if_pos h
theorem dsF_no {l : List Int} (h : ¬ OkL l) : dsF l = ([], false) := if_neg h
theorem ds_len : ∀ (l : List Int) (i : Nat), (ds l i).length ≤ l.length
  | [], _ => by simp [ds]
  | [_], _ => by simp [ds]
  | x :: y :: l, i => by
    have := ds_len (y :: l) (i + 1)
    unfold ds
    split <;> simp at this ⊢ <;> omega
theorem dsF_len (l : List Int) : (dsF l).1.length ≤ 1048576 := by
  by_cases h : OkL l
  · rw [dsF_yes h]; simp only [dsL, List.length_map]; have := h.1; have := ds_len l 0; omega
  · rw [dsF_no h]; simp
theorem ds_mem : ∀ (l : List Int) (i : Nat), (∀ j ∈ ds l i, i ≤ j ∧ j + 1 < i + l.length ∧ l.getD (j + 1 - i) 0 < l.getD (j - i) 0) ∧ (ds l i).Pairwise (· < ·)
  | [], _ => by simp [ds]
  | [_], _ => by simp [ds]
  | x :: y :: l, i => by
    obtain ⟨h1, h2⟩ := ds_mem (y :: l) (i + 1)
    have h3 : ∀ j ∈ ds (y :: l) (i + 1), i ≤ j ∧ j + 1 < i + (x :: y :: l).length ∧ (x :: y :: l).getD (j + 1 - i) 0 < (x :: y :: l).getD (j - i) 0 := fun j hj => by
      obtain ⟨a, b, c⟩ := h1 j hj
      refine ⟨by omega, by simp at b ⊢; omega, ?_⟩
      rw [show j + 1 - i = (j + 1 - (i + 1)) + 1 by omega, show j - i = (j - (i + 1)) + 1 by omega, List.getD_cons_succ, List.getD_cons_succ]
      exact c
    unfold ds
    by_cases hd : y < x
    · rw [if_pos hd]
      refine ⟨fun j hj => ?_, List.pairwise_cons.2 ⟨fun j hj => by have := (h1 j hj).1; omega, h2⟩⟩
      rcases List.mem_cons.1 hj with rfl | hj
      · refine ⟨Nat.le_refl _, by simp, ?_⟩
        rw [show j + 1 - j = 1 by omega, Nat.sub_self]; simpa using hd
      · exact h3 j hj
    · rw [if_neg hd]; exact ⟨h3, h2⟩
theorem ds_invs : ∀ (l : List Int) (i : Nat), (ds l i).length ≤ invs l
  | [], _ => by simp [ds]
  | [_], _ => by simp [ds]
  | x :: y :: l, i => by
    have ih := ds_invs (y :: l) (i + 1)
    rw [invs_cons]
    unfold ds
    by_cases hd : y < x
    · rw [if_pos hd, List.length_cons, List.countP_cons, if_pos (by simpa using hd)]; omega
    · rw [if_neg hd]; omega
theorem ds_nil : ∀ (l : List Int) (i : Nat), ds l i = [] → l.Pairwise (· ≤ ·)
  | [], _, _ => .nil
  | [_], _, _ => by simp
  | x :: y :: l, i, h => by
    unfold ds at h
    by_cases hd : y < x
    · rw [if_pos hd] at h; simp at h
    · rw [if_neg hd] at h
      have ih := ds_nil (y :: l) (i + 1) h
      refine List.pairwise_cons.2 ⟨fun z hz => ?_, ih⟩
      rcases List.mem_cons.1 hz with rfl | hz
      · omega
      · have := (List.pairwise_cons.1 ih).1 z hz; omega
theorem invs_asc : ∀ {l : List Int}, l.Pairwise (· ≤ ·) → invs l = 0
  | [], _ => rfl
  | x :: l, h => by
    obtain ⟨h1, h2⟩ := List.pairwise_cons.1 h
    rw [invs_cons, invs_asc h2, List.countP_eq_zero.2 (fun y hy => by have := h1 y hy; simp; omega)]
theorem ds_none (l : List Int) (i : Nat) : ds l i = [] ↔ invs l = 0 := by
  constructor
  · exact fun h => invs_asc (ds_nil l i h)
  · intro h
    have := ds_invs l i
    exact List.eq_nil_of_length_eq_zero (by omega)

/-- The major index. -/
def mj (l : List Nat) : Nat := (l.map fun j => j + 1).sum
def mjF (l : List Int) : Int × Bool := if OkL l then (((mj (ds l 0) : Nat) : Int), true) else (0, false)
theorem mjF_yes {l : List Int} (h : OkL l) : mjF l = (((mj (ds l 0) : Nat) : Int), true) := if_pos h
theorem mjF_no {l : List Int} (h : ¬ OkL l) : mjF l = (0, false) := if_neg h
theorem mj_drop {l : List Nat} {k j : Nat} (h : l[k]? = some j) : mj (l.drop k) = (j + 1) + mj (l.drop (k + 1)) := by
  obtain ⟨hi, hx⟩ := List.getElem?_eq_some_iff.1 h
  unfold mj
  rw [List.drop_eq_getElem_cons hi, hx]; simp
theorem mj_end {l : List Nat} {k : Nat} (h : l.length ≤ k) : mj (l.drop k) = 0 := by rw [List.drop_eq_nil_of_le h]; rfl
theorem mj_le : ∀ {l : List Nat} {n : Nat}, (∀ j ∈ l, j < n) → mj l ≤ l.length * n
  | [], _, _ => by simp [mj]
  | j :: l, n, h => by
    have ih := mj_le (l := l) (n := n) (fun b hb => h b (List.mem_cons_of_mem _ hb))
    have := h j List.mem_cons_self
    have e : mj (j :: l) = (j + 1) + mj l := by simp [mj]
    rw [e, List.length_cons, Nat.add_mul]; omega
theorem mj_ds {l : List Int} (h : OkL l) : mj (ds l 0) ≤ 4096 := by
  have h1 := mj_le (l := ds l 0) (n := 64) (fun j hj => by have := (ds_mem l 0).1 j hj; have := h.1; omega)
  have h2 := ds_len l 0
  have h3 := h.1
  have : (ds l 0).length * 64 ≤ 64 * 64 := Nat.mul_le_mul_right _ (by omega)
  omega
theorem mj_sum : ∀ l : List Nat, ((mj l : Nat) : Int) = (l.map fun j : Nat => (j : Int)).sum + (l.length : Int)
  | [] => by simp [mj]
  | j :: l => by
    have e : mj (j :: l) = (j + 1) + mj l := by simp [mj]
    rw [e, List.map_cons, List.sum_cons, List.length_cons]
    have := mj_sum l
    omega

end Iv
end Go.Proofs.Ytjlldjekjnlcaaa
