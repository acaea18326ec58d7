/- Selection, pure: by pivots, and by the medians of groups of five. Nothing of the program. -/
import Derived.Test.YthmcjmjkmmbepaaQuickP
import Derived.Test.YthmcjmjkmmbepaaList
namespace Go.Proofs.Ythmcjmjkmmbepaa
set_option linter.unusedVariables false
namespace Sl
open P El Qk

theorem mid_eq {L : List Int} {p x : Int} (h : x ∈ midF L p p) : x = p := by
  unfold midF at h
  have := (List.mem_filter.1 h).2
  simp at this; omega
theorem low_mem {L : List Int} {p x : Int} (h : x ∈ lowF L p) : x ∈ L ∧ x < p := by
  unfold lowF at h
  exact ⟨(List.mem_filter.1 h).1, by simpa using (List.mem_filter.1 h).2⟩
theorem high_mem {L : List Int} {p x : Int} (h : x ∈ highF L p) : x ∈ L ∧ p < x := by
  unfold highF at h
  exact ⟨(List.mem_filter.1 h).1, by simpa using (List.mem_filter.1 h).2⟩
theorem mid_mem {L : List Int} {p : Int} (h : p ∈ L) : 0 < (midF L p p).length := by
  refine List.length_pos_of_mem (a := p) ?_
  unfold midF
  exact List.mem_filter.2 ⟨h, by simp⟩
theorem duF_perm (p : Int) : ∀ l : List Int, (duF l p p).Perm l
  | [] => List.Perm.refl _
  | a :: l => by
    have ih := duF_perm p l
    unfold duF lowF midF highF at *
    simp only [List.filter_cons]
    by_cases h1 : a < p
    · rw [if_pos (by simpa using h1), if_neg (by simp; omega), if_neg (by simp; omega)]
      exact ih.cons a
    · by_cases h2 : p < a
      · rw [if_neg (by simpa using h1), if_neg (by simp; omega), if_pos (by simpa using h2)]
        exact List.perm_middle.trans (ih.cons a)
      · rw [if_neg (by simpa using h1), if_pos (by simp; omega), if_neg (by simpa using h2)]
        rw [List.append_assoc, List.cons_append] 
        refine List.perm_middle.trans (List.Perm.cons a ?_)
        rw [← List.append_assoc]; exact ih
theorem srt_split (L : List Int) (p : Int) : srt L = srt (lowF L p) ++ (midF L p p ++ srt (highF L p)) := by
  refine (srt_uniq ?_ ?_).symm
  · refine List.pairwise_append.2 ⟨srt_asc _, List.pairwise_append.2 ⟨?_, srt_asc _, ?_⟩, ?_⟩
    · refine List.pairwise_of_forall_mem_list ?_
      intro a ha b hb
      rw [mid_eq ha, mid_eq hb]; exact Int.le_refl _
    · intro a ha b hb
      have hb2 := (high_mem ((srt_perm _).mem_iff.1 hb)).2
      rw [mid_eq ha]; omega
    · intro a ha b hb
      have ha2 := (low_mem ((srt_perm _).mem_iff.1 ha)).2
      rcases List.mem_append.1 hb with h | h
      · rw [mid_eq h]; omega
      · have hb2 := (high_mem ((srt_perm _).mem_iff.1 h)).2
        omega
  · refine ((srt_perm _).append ((List.Perm.refl _).append (srt_perm _))).trans ?_
    have := duF_perm p L
    unfold duF at this
    rw [List.append_assoc] at this
    exact this

/-- The search by pivots: n rounds are enough; k the rank, r rounds and c comparisons so far. -/
def qk (piv : List Int → Int) : Nat → List Int → Nat → Nat → Nat → Int × Nat × Nat
  | 0, L, k, r, c => (0, r, c)
  | n + 1, L, k, r, c =>
    if k < (lowF L (piv L)).length then qk piv n (lowF L (piv L)) k (r + 1) (c + (L.length - 1))
    else if k < (lowF L (piv L)).length + (midF L (piv L) (piv L)).length then (piv L, r + 1, c + (L.length - 1))
    else qk piv n (highF L (piv L)) (k - ((lowF L (piv L)).length + (midF L (piv L) (piv L)).length)) (r + 1) (c + (L.length - 1))
theorem qk_low {piv : List Int → Int} {n : Nat} {L : List Int} {k : Nat} (r c : Nat) (h : k < (lowF L (piv L)).length) : qk piv (n + 1) L k r c = qk piv n (lowF L (piv L)) k (r + 1) (c + (L.length - 1)) := if_pos h
theorem qk_mid {piv : List Int → Int} {n : Nat} {L : List Int} {k : Nat} (r c : Nat) (h : ¬ k < (lowF L (piv L)).length) (h2 : k < (lowF L (piv L)).length + (midF L (piv L) (piv L)).length) : qk piv (n + 1) L k r c = (piv L, r + 1, c + (L.length - 1)) := by
  rw [qk, if_neg h, if_pos h2]
theorem qk_high {piv : List Int → Int} {n : Nat} {L : List Int} {k : Nat} (r c : Nat) (h : ¬ k < (lowF L (piv L)).length) (h2 : ¬ k < (lowF L (piv L)).length + (midF L (piv L) (piv L)).length) : qk piv (n + 1) L k r c = qk piv n (highF L (piv L)) (k - ((lowF L (piv L)).length + (midF L (piv L) (piv L)).length)) (r + 1) (c + (L.length - 1)) := by
  rw [qk, if_neg h, if_neg h2]

theorem tri_step {a n : Nat} (h : a + 1 ≤ n) : 2 * (n - 1) + a * (a - 1) ≤ n * (n - 1) := by
  obtain ⟨d, rfl⟩ : ∃ d, n = a + 1 + d := ⟨n - (a + 1), by omega⟩
  cases a with
  | zero =>
    cases d with
    | zero => simp
    | succ d =>
      have : (0 + 1 + (d + 1)) * (0 + 1 + (d + 1) - 1) = (d + 2) * (d + 1) := by congr 1 <;> omega
      rw [this]
      have h2 : 2 * (0 + 1 + (d + 1) - 1) = 2 * (d + 1) := by congr 1; omega
      rw [h2]
      have := Nat.mul_le_mul_right (d + 1) (show 2 ≤ d + 2 by omega)
      omega
  | succ a =>
    have e1 : a + 1 + 1 + d - 1 = a + 1 + d := by omega
    have e2 : a + 1 - 1 = a := by omega
    rw [e1, e2]
    have e3 : (a + 1 + 1 + d) * (a + 1 + d) = (a + 1 + d) * (a + d) + 2 * (a + 1 + d) := by
      rw [show a + 1 + 1 + d = a + d + 2 by omega, Nat.add_mul, Nat.mul_comm (a + d)]
    rw [e3]
    have := Nat.mul_le_mul (show a + 1 ≤ a + 1 + d by omega) (show a ≤ a + d by omega)
    omega

theorem qk_spec {piv : List Int → Int} (hp : ∀ L, L ≠ [] → piv L ∈ L) : ∀ (n : Nat) (L : List Int) (k r c : Nat), k < L.length → L.length ≤ n →
    (qk piv n L k r c).1 = (srt L).getD k 0 ∧ r + 1 ≤ (qk piv n L k r c).2.1 ∧ (qk piv n L k r c).2.1 ≤ r + L.length ∧ c + (L.length - 1) ≤ (qk piv n L k r c).2.2 ∧ 2 * (qk piv n L k r c).2.2 ≤ 2 * c + L.length * (L.length - 1)
  | 0, L, k, r, c, hk, hn => by omega
  | n + 1, L, k, r, c, hk, hn => by
    have hL : L ≠ [] := fun e => by rw [e] at hk; simp at hk
    have hm := mid_mem (hp L hL)
    have hl := du_lens (Int.le_refl (piv L)) L
    have hs := srt_split L (piv L)
    have a1 := srt_length (lowF L (piv L))
    have a2 := srt_length (highF L (piv L))
    have hme := fun x => mid_eq (L := L) (p := piv L) (x := x)
    by_cases h1 : k < (lowF L (piv L)).length
    · rw [qk_low r c h1]
      obtain ⟨b1, b2, b3, b4, b5⟩ := qk_spec hp n (lowF L (piv L)) k (r + 1) (c + (L.length - 1)) h1 (by omega)
      have b6 := tri_step (a := (lowF L (piv L)).length) (n := L.length) (by omega)
      refine ⟨?_, by omega, by omega, by omega, by omega⟩
      rw [b1, hs]
      simp only [List.getD_eq_getElem?_getD]
      rw [List.getElem?_append_left (by omega)]
    · by_cases h2 : k < (lowF L (piv L)).length + (midF L (piv L) (piv L)).length
      · rw [qk_mid r c h1 h2]
        have b6 := tri_step (a := 0) (n := L.length) (by omega)
        refine ⟨?_, Nat.le_refl _, by simp only; omega, Nat.le_refl _, by simp only; omega⟩
        rw [hs]
        simp only [List.getD_eq_getElem?_getD]
        rw [List.getElem?_append_right (by omega), List.getElem?_append_left (by omega), List.getElem?_eq_getElem (by omega)]
        exact (hme _ (List.getElem_mem _)).symm
      · rw [qk_high r c h1 h2]
        obtain ⟨b1, b2, b3, b4, b5⟩ := qk_spec hp n (highF L (piv L)) (k - ((lowF L (piv L)).length + (midF L (piv L) (piv L)).length)) (r + 1) (c + (L.length - 1)) (by omega) (by omega)
        have b6 := tri_step (a := (highF L (piv L)).length) (n := L.length) (by omega)
        refine ⟨?_, by omega, by omega, by omega, by omega⟩
        rw [b1, hs]
        simp only [List.getD_eq_getElem?_getD]
        rw [List.getElem?_append_right (by omega), List.getElem?_append_right (by omega)]
        congr 2
        omega

/-- The first element. -/
def fstF (L : List Int) : Int := L.getD 0 0
theorem fst_mem (L : List Int) (h : L ≠ []) : fstF L ∈ L := by
  cases L with
  | nil => exact absurd rfl h
  | cons a L => simp [fstF]

/-- The lower median. -/
def lmed (L : List Int) : Int := (srt L).getD ((L.length - 1) / 2) 0
theorem srt_get_mem {L : List Int} {k : Nat} (h : k < L.length) : (srt L).getD k 0 ∈ L := by
  rw [List.getD_eq_getElem?_getD, List.getElem?_eq_getElem (by rw [srt_length]; exact h)]
  exact (srt_perm L).mem_iff.1 (List.getElem_mem _)
theorem lmed_mem {L : List Int} (h : L ≠ []) : lmed L ∈ L := by
  have : 0 < L.length := List.length_pos_iff.2 h
  exact srt_get_mem (by omega)
/-- The i-th group of five. -/
def grp (L : List Int) (i : Nat) : List Int := (L.drop (5 * i)).take 5
theorem grp_length (L : List Int) (i : Nat) : (grp L i).length = min 5 (L.length - 5 * i) := by unfold grp; rw [List.length_take, List.length_drop]
theorem grp_mem {L : List Int} {i : Nat} {x : Int} (h : x ∈ grp L i) : x ∈ L := List.mem_of_mem_drop (List.mem_of_mem_take h)
def medsTo (L : List Int) (k : Nat) : List Int := (List.range k).map fun i => lmed (grp L i)
theorem medsTo_length (L : List Int) (k : Nat) : (medsTo L k).length = k := by simp [medsTo]
theorem medsTo_succ (L : List Int) (k : Nat) : medsTo L (k + 1) = medsTo L k ++ [lmed (grp L k)] := by simp [medsTo, List.range_succ]
def groups (n : Nat) : Nat := (n + 4) / 5
theorem meds_mem {L : List Int} {x : Int} (h : x ∈ medsTo L (groups L.length)) : x ∈ L := by
  unfold medsTo at h
  obtain ⟨i, hi, rfl⟩ := List.mem_map.1 h
  have hi2 := List.mem_range.1 hi
  unfold groups at hi2
  refine grp_mem (lmed_mem fun e => ?_)
  have := grp_length L i
  rw [e, List.length_nil] at this
  omega
def mom : Nat → List Int → Int
  | 0, L => lmed L
  | n + 1, L => if 5 < L.length then mom n (medsTo L (groups L.length)) else lmed L
theorem mom_fuel : ∀ (n m : Nat) (L : List Int), L.length ≤ n → L.length ≤ m → mom n L = mom m L
  | 0, 0, L, _, _ => rfl
  | 0, m + 1, L, h, _ => by rw [mom, mom, if_neg (by omega)]
  | n + 1, 0, L, _, h => by rw [mom, mom, if_neg (by omega)]
  | n + 1, m + 1, L, h1, h2 => by
    rw [mom, mom]
    split
    · rename_i h5
      have hg : groups L.length < L.length := by unfold groups; omega
      exact mom_fuel n m _ (by rw [medsTo_length]; omega) (by rw [medsTo_length]; omega)
    · rfl
def momF (L : List Int) : Int := mom L.length L
theorem momF_small {L : List Int} (h : ¬ 5 < L.length) : momF L = lmed L := by
  unfold momF
  cases e : L.length with
  | zero => rfl
  | succ n => rw [mom, if_neg (by omega)]
theorem groups_lt {n : Nat} (h : 5 < n) : groups n < n := by unfold groups; omega
theorem momF_big {L : List Int} (h : 5 < L.length) : momF L = momF (medsTo L (groups L.length)) := by
  have hg := groups_lt h
  unfold momF
  rw [medsTo_length]
  obtain ⟨n, e⟩ : ∃ n, L.length = n + 1 := ⟨L.length - 1, by omega⟩
  have : mom L.length L = mom (n + 1) L := by rw [e]
  rw [this, mom, if_pos h]
  exact mom_fuel _ _ _ (by rw [medsTo_length]; omega) (by rw [medsTo_length]; exact Nat.le_refl _)
theorem mom_mem : ∀ (n : Nat) (L : List Int), L ≠ [] → mom n L ∈ L
  | 0, L, h => lmed_mem h
  | n + 1, L, h => by
    rw [mom]
    split
    · rename_i h5
      refine meds_mem (mom_mem n _ fun e => ?_)
      have := medsTo_length L (groups L.length)
      rw [e, List.length_nil] at this
      unfold groups at this; omega
    · exact lmed_mem h
theorem momF_mem (L : List Int) (h : L ≠ []) : momF L ∈ L := mom_mem _ L h

/-- The answers with their guards. -/
def OkK (l : List Int) (k : Int) : Prop := OkL l ∧ 0 ≤ k ∧ k < l.length
instance (l : List Int) (k : Int) : Decidable (OkK l k) := by unfold OkK; exact inferInstance
def kthAll (l : List Int) (k : Int) : Int × Bool := if OkK l k then ((srt l).getD k.toNat 0, true) else (0, false)
theorem kthAll_yes {l : List Int} {k : Nat} (h : OkL l) (hk : k < l.length) : kthAll l k = ((srt l).getD k 0, true) := if_pos ⟨h, by omega, by omega⟩
theorem kthAll_no {l : List Int} {k : Int} (h : ¬ OkK l k) : kthAll l k = (0, false) := if_neg h
def qsAll1 (l : List Int) (k : Int) : Int × Int × Bool := if OkK l k then ((qk fstF l.length l k.toNat 0 0).1, ((qk fstF l.length l k.toNat 0 0).2.2 : Nat), true) else (0, 0, false)
theorem qsAll1_yes {l : List Int} {k : Nat} (h : OkL l) (hk : k < l.length) : qsAll1 l k = ((qk fstF l.length l k 0 0).1, (((qk fstF l.length l k 0 0).2.2 : Nat) : Int), true) := if_pos ⟨h, by omega, by omega⟩
theorem qsAll1_no {l : List Int} {k : Int} (h : ¬ OkK l k) : qsAll1 l k = (0, 0, false) := if_neg h
def smAll (l : List Int) (k : Int) : Int × Int × Bool := if OkK l k then ((qk momF l.length l k.toNat 0 0).1, ((qk momF l.length l k.toNat 0 0).2.1 : Nat), true) else (0, 0, false)
theorem smAll_yes {l : List Int} {k : Nat} (h : OkL l) (hk : k < l.length) : smAll l k = ((qk momF l.length l k 0 0).1, (((qk momF l.length l k 0 0).2.1 : Nat) : Int), true) := if_pos ⟨h, by omega, by omega⟩
theorem smAll_no {l : List Int} {k : Int} (h : ¬ OkK l k) : smAll l k = (0, 0, false) := if_neg h
def momAll (l : List Int) : Int × Bool := if OkL l ∧ 0 < l.length then (momF l, true) else (0, false)
theorem momAll_yes {l : List Int} (h : OkL l ∧ 0 < l.length) : momAll l = (momF l, true) := if_pos h
theorem momAll_no {l : List Int} (h : ¬ (OkL l ∧ 0 < l.length)) : momAll l = (0, false) := if_neg h
def nthAll (l : List Int) (k : Int) : List Int × Bool := if OkK l k then (duF l ((srt l).getD k.toNat 0) ((srt l).getD k.toNat 0), true) else ([], false)
theorem nthAll_yes {l : List Int} {k : Nat} (h : OkL l) (hk : k < l.length) : nthAll l k = (duF l ((srt l).getD k 0) ((srt l).getD k 0), true) := if_pos ⟨h, by omega, by omega⟩
theorem nthAll_no {l : List Int} {k : Int} (h : ¬ OkK l k) : nthAll l k = ([], false) := if_neg h
theorem nthAll_len (l : List Int) (k : Int) : (nthAll l k).1.length ≤ 1048576 := by
  unfold nthAll
  split
  · rename_i h
    have := h.1.1
    simp only [duF_length (Int.le_refl _)]; omega
  · simp

end Sl
end Go.Proofs.Ythmcjmjkmmbepaa
