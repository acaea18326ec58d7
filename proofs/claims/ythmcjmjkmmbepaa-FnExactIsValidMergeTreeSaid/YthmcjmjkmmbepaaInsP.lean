/- What the laws say of the elementary sorts: the answers as functions. Nothing of the program. -/
import Derived.Test.YthmcjmjkmmbepaaElem2
import Derived.Test.YthmcjmjkmmbepaaList
namespace Go.Proofs.Ythmcjmjkmmbepaa
open P El

def insAll (l : List Int) : List Int × Int × Int × Bool := if OkL l then (srt l, ((insF l).2.1 : Nat), ((insF l).2.2 : Nat), true) else ([], 0, 0, false)
theorem insAll_yes {l : List Int} (h : OkL l) : insAll l = (srt l, (((insF l).2.1 : Nat) : Int), (((insF l).2.2 : Nat) : Int), true) := if_pos h
theorem insAll_no {l : List Int} (h : ¬ OkL l) : insAll l = ([], 0, 0, false) := if_neg h
theorem insAll_len (l : List Int) : (insAll l).1.length ≤ 1048576 := by
  by_cases h : OkL l
  · rw [insAll_yes h]; have := h.1; simp only [srt_length]; omega
  · rw [insAll_no h]; simp
def binAll (l : List Int) : List Int × Int × Bool := if OkL l then ((binTo l l.length).1, ((binTo l l.length).2 : Nat), true) else ([], 0, false)
theorem binAll_yes {l : List Int} (h : OkL l) : binAll l = ((binTo l l.length).1, (((binTo l l.length).2 : Nat) : Int), true) := if_pos h
theorem binAll_no {l : List Int} (h : ¬ OkL l) : binAll l = ([], 0, false) := if_neg h
theorem binAll_len (l : List Int) : (binAll l).1.length ≤ 1048576 := by
  by_cases h : OkL l
  · rw [binAll_yes h]; have := h.1; simp only [binTo_length]; omega
  · rw [binAll_no h]; simp
def selAll (l : List Int) : List Int × Int × Bool := if OkL l then ((selF l).1, ((selF l).2 : Nat), true) else ([], 0, false)
theorem selAll_yes {l : List Int} (h : OkL l) : selAll l = ((selF l).1, (((selF l).2 : Nat) : Int), true) := if_pos h
theorem selAll_no {l : List Int} (h : ¬ OkL l) : selAll l = ([], 0, false) := if_neg h
theorem selAll_len (l : List Int) : (selAll l).1.length ≤ 1048576 := by
  by_cases h : OkL l
  · rw [selAll_yes h]; have := h.1; simp only [sel_srt, srt_length]; omega
  · rw [selAll_no h]; simp
def bubAll (l : List Int) : List Int × Int × Int × Bool := if OkL l then ((bubF l).1, ((bubF l).2.1 : Nat), ((bubF l).2.2 : Nat), true) else ([], 0, 0, false)
theorem bubAll_yes {l : List Int} (h : OkL l) : bubAll l = ((bubF l).1, (((bubF l).2.1 : Nat) : Int), (((bubF l).2.2 : Nat) : Int), true) := if_pos h
theorem bubAll_no {l : List Int} (h : ¬ OkL l) : bubAll l = ([], 0, 0, false) := if_neg h
theorem bubAll_len (l : List Int) : (bubAll l).1.length ≤ 1048576 := by
  by_cases h : OkL l
  · rw [bubAll_yes h]; have := h.1; simp only [(bub_spec l).1, srt_length]; omega
  · rw [bubAll_no h]; simp
def dscAll (l : List Int) : Int × Bool := if OkL l then (descF l, true) else (0, false)
theorem dscAll_yes {l : List Int} (h : OkL l) : dscAll l = (descF l, true) := if_pos h
theorem dscAll_no {l : List Int} (h : ¬ OkL l) : dscAll l = (0, false) := if_neg h
def writesAll (l : List Int) : Int × Bool := if OkL l then ((ham l (srt l) : Nat), true) else (0, false)
theorem writesAll_yes {l : List Int} (h : OkL l) : writesAll l = (((ham l (srt l) : Nat) : Int), true) := if_pos h
theorem writesAll_no {l : List Int} (h : ¬ OkL l) : writesAll l = (0, false) := if_neg h

/-- The gaps of a Shell sort. -/
def OkG (gs : List Int) : Prop := 1 ≤ gs.length ∧ gs.length ≤ 10 ∧ (∀ x ∈ gs, 1 ≤ x ∧ x ≤ 64) ∧ (∀ i, i < gs.length - 1 → gs.getD (i + 1) 0 < gs.getD i 0) ∧ gs.getD (gs.length - 1) 0 = 1
instance (gs : List Int) : Decidable (OkG gs) := by unfold OkG; exact inferInstance
def shellAll (l gs : List Int) : List Int × Int × Bool := if OkL l ∧ OkG gs then ((gapsF (gs.map Int.toNat) (l, 0, 0)).1, ((gapsF (gs.map Int.toNat) (l, 0, 0)).2.1 : Nat), true) else ([], 0, false)
theorem shellAll_yes {l gs : List Int} (h : OkL l ∧ OkG gs) : shellAll l gs = ((gapsF (gs.map Int.toNat) (l, 0, 0)).1, (((gapsF (gs.map Int.toNat) (l, 0, 0)).2.1 : Nat) : Int), true) := if_pos h
theorem shellAll_no {l gs : List Int} (h : ¬ (OkL l ∧ OkG gs)) : shellAll l gs = ([], 0, false) := if_neg h
theorem shellAll_len (l gs : List Int) : (shellAll l gs).1.length ≤ 1048576 := by
  by_cases h : OkL l ∧ OkG gs
  · rw [shellAll_yes h]; have := h.1.1; simp only [gapsF_length]; omega
  · rw [shellAll_no h]; simp
/-- The last gap is 1: the list is sorted. -/
theorem shell_srt {l gs : List Int} (h : OkG gs) : (gapsF (gs.map Int.toNat) (l, 0, 0)).1 = srt l := by
  obtain ⟨h1, _, _, _, h5⟩ := h
  have hne : gs ≠ [] := by intro e; rw [e] at h1; simp at h1
  have e := List.dropLast_concat_getLast hne
  have hl : gs.getLast hne = 1 := by
    rw [← h5, List.getLast_eq_getElem, List.getD_eq_getElem?_getD, List.getElem?_eq_getElem (by omega)]; rfl
  rw [← e, List.map_append, hl]
  exact gapsF_sorts _ l

/-- One pair of a pass. -/
theorem pass_next {l L : List Int} {s k : Nat} {M : List Int} {q : Nat} (hk : k + 1 < l.length) (hr : passN k (l.length - 1 - k) (M, q) = passF (L, s)) (hl : M.length = l.length) (hv : invs M + q = invs l) :
    (M.getD (k + 1) 0 < M.getD k 0 → passN (k + 1) (l.length - 1 - (k + 1)) (swapped M k (k + 1), q + 1) = passF (L, s) ∧ (swapped M k (k + 1)).length = l.length ∧ invs (swapped M k (k + 1)) + (q + 1) = invs l) ∧
    (¬ M.getD (k + 1) 0 < M.getD k 0 → passN (k + 1) (l.length - 1 - (k + 1)) (M, q) = passF (L, s)) := by
  rw [show l.length - 1 - k = l.length - 1 - (k + 1) + 1 by omega, passN_succ] at hr
  have hi := pairAt_inv (k := k) (S := (M, q)) (by simp only; omega)
  refine ⟨fun h => ?_, fun h => ?_⟩
  · rw [pairAt_yes h] at hr hi
    simp only at hi
    exact ⟨hr, by rw [swapped_length]; exact hl, by omega⟩
  · rw [pairAt_no h] at hr; exact hr

end Go.Proofs.Ythmcjmjkmmbepaa
