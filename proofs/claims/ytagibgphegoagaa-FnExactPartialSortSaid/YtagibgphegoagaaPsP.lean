/- A partial sort, pure: the sorting permutation with its end in the order of the indices. Nothing of the program. -/
import Derived.Test.YtagibgphegoagaaSelP
import Derived.Test.YtagibgphegoagaaSortT
namespace Go.Proofs.Ytagibgphegoagaa
open P El Qk
set_option linter.unusedVariables false
namespace Sl

/-- Does x come before i? -/
def lxi (K : List Int) (i : Int) (x : Int) : Bool := decide (keyOf K x < keyOf K i) || (decide (keyOf K x = keyOf K i) && decide (x < i))
/-- The rank of i. -/
def rkI (K : List Int) (n : Nat) (i : Int) : Nat := (iota n).countP (lxi K i)

theorem idx_rkI (K : List Int) (n : Nat) {m : Nat} {i : Int} (hm : (sortTo K n)[m]? = some i) : rkI K n i = m := by
  have hp := sortTo_perm K n
  have hx := sortTo_lex K n
  unfold rkI
  rw [← hp.countP_eq]
  generalize sortTo K n = P at *
  obtain ⟨hml, he⟩ := List.getElem?_eq_some_iff.1 hm
  have e : P = P.take m ++ P.drop m := (List.take_append_drop m P).symm
  have h1 : (P.take m).countP (lxi K i) = m := by
    have hall : ∀ a ∈ P.take m, lxi K i a = true := by
      intro a ha
      obtain ⟨j, hj, rfl⟩ := List.getElem_of_mem ha
      have hj' : j < m := by simp at hj; omega
      have := List.pairwise_iff_getElem.1 hx j m (by omega) hml hj'
      rw [he] at this
      rw [List.getElem_take]
      unfold lxi
      rcases this with h | ⟨h, h2⟩
      · simp [h]
      · simp [h, h2]
    rw [List.countP_eq_length.2 hall, List.length_take]; omega
  have h2 : (P.drop m).countP (lxi K i) = 0 := by
    rw [List.countP_eq_zero]
    intro a ha
    obtain ⟨j, hj, rfl⟩ := List.getElem_of_mem ha
    rw [List.getElem_drop]
    have hjl : m + j < P.length := by simp at hj; omega
    unfold lxi
    cases j with
    | zero => simp [he]
    | succ j =>
      have := List.pairwise_iff_getElem.1 hx m (m + (j + 1)) hml hjl (by omega)
      rw [he] at this
      generalize P[m + (j + 1)] = z at *
      simp only [Bool.or_eq_true, Bool.and_eq_true, decide_eq_true_eq]
      omega
  conv => lhs; rw [e]
  rw [List.countP_append, h1, h2]; omega

/-- The end of the sorting permutation, put in order: the indices of rank k and more. -/
theorem srt_drop (K : List Int) (n k : Nat) : srt ((sortTo K n).drop k) = (iota n).filter (fun i => decide (k ≤ rkI K n i)) := by
  refine asc_eq (srt_asc _) ?_ ?_
  · exact ((iota_sorted n).filter _).imp (fun h => Int.le_of_lt h)
  · refine (srt_perm _).trans ?_
    have hp := sortTo_perm K n
    have hnd : (sortTo K n).Nodup := hp.nodup_iff.2 (iota_nodup n)
    refine (List.perm_ext_iff_of_nodup (hnd.sublist (List.drop_sublist _ _)) ((iota_nodup n).filter _)).2 fun a => ?_
    rw [List.mem_filter]
    constructor
    · intro h
      obtain ⟨j, hj, rfl⟩ := List.getElem_of_mem h
      have hjl : k + j < (sortTo K n).length := by simp at hj; omega
      rw [List.getElem_drop]
      refine ⟨hp.mem_iff.1 (List.getElem_mem _), ?_⟩
      rw [idx_rkI K n (List.getElem?_eq_getElem hjl)]
      simp
    · rintro ⟨h1, h2⟩
      obtain ⟨m, hm, rfl⟩ := List.getElem_of_mem (hp.mem_iff.2 h1)
      rw [idx_rkI K n (List.getElem?_eq_getElem hm)] at h2
      have h3 : k ≤ m := by simpa using h2
      rw [List.mem_iff_getElem]
      refine ⟨m - k, by simp; omega, ?_⟩
      rw [List.getElem_drop]
      congr 1; omega

theorem pickAt_append (l a b : List Int) : pickAt l (a ++ b) = pickAt l a ++ pickAt l b := by unfold pickAt; rw [List.map_append]
theorem pickAt_perm {l a b : List Int} (h : a.Perm b) : (pickAt l a).Perm (pickAt l b) := h.map _
theorem pick_sorted (l : List Int) : pickAt l (sortTo l l.length) = srt l := by
  refine srt_uniq ?_ ?_
  · unfold pickAt
    rw [show Asc ((sortTo l l.length).map fun i => l.getD i.toNat 0) ↔ _ from List.pairwise_map]
    refine (sortTo_lex l l.length).imp fun h => ?_
    unfold keyOf at h
    omega
  · have := pickAt_perm (l := l) (sortTo_perm l l.length)
    rwa [pickAt_iota] at this

/-- The partial sort. -/
def psF (l : List Int) (k : Nat) : List Int := pickAt l ((sortTo l l.length).take k ++ srt ((sortTo l l.length).drop k))
theorem psF_eq (l : List Int) (k : Nat) : psF l k = (srt l).take k ++ pickAt l ((iota l.length).filter (fun i => decide (k ≤ rkI l l.length i))) := by
  unfold psF
  rw [pickAt_append, srt_drop]
  congr 1
  rw [← pick_sorted l]
  unfold pickAt
  rw [List.map_take]
theorem psF_perm (l : List Int) (k : Nat) : (psF l k).Perm l := by
  unfold psF
  have h : ((sortTo l l.length).take k ++ srt ((sortTo l l.length).drop k)).Perm (iota l.length) :=
    ((List.Perm.refl _).append (srt_perm _)).trans (by rw [List.take_append_drop]; exact sortTo_perm l l.length)
  have := pickAt_perm (l := l) h
  rwa [pickAt_iota] at this
theorem psF_length (l : List Int) (k : Nat) : (psF l k).length = l.length := (psF_perm l k).length_eq
/-- What the model has gathered: the smallest, and of the first i elements those of greater rank. -/
def psTo (l : List Int) (k i : Nat) : List Int := (srt l).take k ++ pickAt l ((iota i).filter (fun j => decide (k ≤ rkI l l.length j)))
theorem psTo_all (l : List Int) (k : Nat) : psTo l k l.length = psF l k := (psF_eq l k).symm
theorem psTo_zero (l : List Int) (k : Nat) : psTo l k 0 = (srt l).take k := by simp [psTo, iota, pickAt]
theorem psTo_yes {l : List Int} {k i : Nat} (h : k ≤ rkI l l.length (i : Int)) : psTo l k (i + 1) = psTo l k i ++ [l.getD i 0] := by
  unfold psTo
  rw [iota_succ, List.filter_append, pickAt_append, ← List.append_assoc]
  simp [h, pickAt]
theorem psTo_no {l : List Int} {k i : Nat} (h : ¬ k ≤ rkI l l.length (i : Int)) : psTo l k (i + 1) = psTo l k i := by
  unfold psTo
  rw [iota_succ, List.filter_append, pickAt_append]
  simp [h, pickAt]
theorem psTo_len (l : List Int) (k i : Nat) : (psTo l k i).length ≤ l.length + i := by
  unfold psTo
  rw [List.length_append, List.length_take, pickAt_length, srt_length]
  have := List.length_filter_le (fun j => decide (k ≤ rkI l l.length j)) (iota i)
  rw [iota_length] at this
  omega
/-- The rank so far: among the first j. -/
def rkTo (l : List Int) (i j : Nat) : Nat := (iota j).countP (lxi l (i : Int))
theorem rkTo_succ (l : List Int) (i j : Nat) : rkTo l i (j + 1) = rkTo l i j + if l.getD j 0 < l.getD i 0 ∨ (l.getD j 0 = l.getD i 0 ∧ j < i) then 1 else 0 := by
  unfold rkTo
  rw [iota_succ, List.countP_append, List.countP_singleton]
  congr 1
  unfold lxi keyOf
  simp only [Int.toNat_natCast]
  by_cases h : l.getD j 0 < l.getD i 0 ∨ (l.getD j 0 = l.getD i 0 ∧ j < i)
  · rw [if_pos h, if_pos]
    simp only [Bool.or_eq_true, Bool.and_eq_true, decide_eq_true_eq]
    omega
  · rw [if_neg h, if_neg]
    intro hh
    apply h
    simp only [Bool.or_eq_true, Bool.and_eq_true, decide_eq_true_eq] at hh
    omega
theorem rkTo_le (l : List Int) (i j : Nat) : rkTo l i j ≤ j := by
  unfold rkTo
  have := List.countP_le_length (p := lxi l (i : Int)) (l := iota j)
  rwa [iota_length] at this

def OkPs (l : List Int) (k : Int) : Prop := OkL l ∧ 0 ≤ k ∧ k ≤ l.length
instance (l : List Int) (k : Int) : Decidable (OkPs l k) := by unfold OkPs; exact inferInstance
def psAll (l : List Int) (k : Int) : List Int × Bool := if OkPs l k then (psF l k.toNat, true) else ([], false)
theorem psAll_yes {l : List Int} {k : Nat} (h : OkL l) (hk : k ≤ l.length) : psAll l k = (psF l k, true) := if_pos ⟨h, by omega, by omega⟩
theorem psAll_no {l : List Int} {k : Int} (h : ¬ OkPs l k) : psAll l k = ([], false) := if_neg h
theorem psAll_len (l : List Int) (k : Int) : (psAll l k).1.length ≤ 1048576 := by
  unfold psAll
  split
  · rename_i h
    have := h.1.1
    simp only [psF_length]; omega
  · simp

end Sl
end Go.Proofs.Ytagibgphegoagaa
