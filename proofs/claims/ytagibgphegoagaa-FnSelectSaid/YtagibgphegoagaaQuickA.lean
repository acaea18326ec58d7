/- The answers of partitions and quicksort, pure. Nothing of the program. -/
import Derived.Test.YtagibgphegoagaaQuickP
import Derived.Test.YtagibgphegoagaaList
namespace Go.Proofs.Ytagibgphegoagaa
set_option linter.unusedVariables false
namespace Qk
open P El

def lomAll (l : List Int) (p : Int) : List Int × Int × Bool := if OkL l ∧ 0 ≤ p ∧ p < l.length then ((lomF l p.toNat).1, ((lomF l p.toNat).2 : Nat), true) else ([], 0, false)
theorem lomAll_yes {l : List Int} {p : Nat} (h : OkL l) (hp : p < l.length) : lomAll l p = ((lomF l p).1, (((lomF l p).2 : Nat) : Int), true) := if_pos ⟨h, by omega, by omega⟩
theorem lomAll_no {l : List Int} {p : Int} (h : ¬ (OkL l ∧ 0 ≤ p ∧ p < l.length)) : lomAll l p = ([], 0, false) := if_neg h
theorem lomAll_len (l : List Int) (p : Int) : (lomAll l p).1.length ≤ 1048576 := by
  by_cases h : OkL l ∧ 0 ≤ p ∧ p < l.length
  · unfold lomAll; rw [if_pos h]; show (lomF l p.toNat).1.length ≤ _
    have := (lomF_spec (l := l) (p := p.toNat) (by omega)).1.length_eq; have := h.1.1; omega
  · rw [lomAll_no h]; exact Nat.zero_le _
def hoAll (l : List Int) : List Int × Int × Bool := if OkL l ∧ 0 < l.length then ((hoF l).1, ((hoF l).2 : Nat), true) else ([], 0, false)
theorem hoAll_yes {l : List Int} (h : OkL l ∧ 0 < l.length) : hoAll l = ((hoF l).1, (((hoF l).2 : Nat) : Int), true) := if_pos h
theorem hoAll_no {l : List Int} (h : ¬ (OkL l ∧ 0 < l.length)) : hoAll l = ([], 0, false) := if_neg h
theorem hoAll_len (l : List Int) : (hoAll l).1.length ≤ 1048576 := by
  by_cases h : OkL l ∧ 0 < l.length
  · rw [hoAll_yes h]; show (hoF l).1.length ≤ _
    have := (hoF_spec h.2).perm.length_eq; have := h.1.1; omega
  · rw [hoAll_no h]; exact Nat.zero_le _
def thAll (l : List Int) (x : Int) : List Int × Int × Int × Bool := if OkL l then ((thF l x).1, ((thF l x).2.1 : Nat), ((thF l x).2.2 : Nat), true) else ([], 0, 0, false)
theorem thAll_yes {l : List Int} {x : Int} (h : OkL l) : thAll l x = ((thF l x).1, (((thF l x).2.1 : Nat) : Int), (((thF l x).2.2 : Nat) : Int), true) := if_pos h
theorem thAll_no {l : List Int} {x : Int} (h : ¬ OkL l) : thAll l x = ([], 0, 0, false) := if_neg h
theorem thAll_len (l : List Int) (x : Int) : (thAll l x).1.length ≤ 1048576 := by
  by_cases h : OkL l
  · rw [thAll_yes h]; show (thF l x).1.length ≤ _; rw [thF_length]; have := h.1; omega
  · rw [thAll_no h]; exact Nat.zero_le _
def medAll (l : List Int) : Int × Bool := if OkL l ∧ 0 < l.length then ((medF l : Nat), true) else (0, false)
theorem medAll_yes {l : List Int} (h : OkL l ∧ 0 < l.length) : medAll l = (((medF l : Nat) : Int), true) := if_pos h
theorem medAll_no {l : List Int} (h : ¬ (OkL l ∧ 0 < l.length)) : medAll l = (0, false) := if_neg h
def qsAll (l : List Int) : List Int × Int × Bool := if OkL l then ((qsF l).1, ((qsF l).2 : Nat), true) else ([], 0, false)
theorem qsAll_yes {l : List Int} (h : OkL l) : qsAll l = ((qsF l).1, (((qsF l).2 : Nat) : Int), true) := if_pos h
theorem qsAll_no {l : List Int} (h : ¬ OkL l) : qsAll l = ([], 0, false) := if_neg h
theorem qsAll_len (l : List Int) : (qsAll l).1.length ≤ 1048576 := by
  by_cases h : OkL l
  · rw [qsAll_yes h]; show (qsF l).1.length ≤ _; rw [(qsF_spec l).1, srt_length]; have := h.1; omega
  · rw [qsAll_no h]; exact Nat.zero_le _
def OkI (m : Int) : Prop := 0 ≤ m ∧ m ≤ 20
instance (m : Int) : Decidable (OkI m) := by unfold OkI; infer_instance
def itAll (l : List Int) (m : Int) : List Int × Int × Int × Bool := if OkL l ∧ OkI m then ((itn m.toNat l).1, ((itn m.toNat l).2.1 : Nat), ((itn m.toNat l).2.2 : Nat), true) else ([], 0, 0, false)
theorem itAll_yes {l : List Int} {m : Nat} (h : OkL l) (hm : m ≤ 20) : itAll l m = ((itn m l).1, (((itn m l).2.1 : Nat) : Int), (((itn m l).2.2 : Nat) : Int), true) := if_pos ⟨h, by unfold OkI; omega⟩
theorem itAll_no {l : List Int} {m : Int} (h : ¬ (OkL l ∧ OkI m)) : itAll l m = ([], 0, 0, false) := if_neg h
theorem itAll_len (l : List Int) (m : Int) : (itAll l m).1.length ≤ 1048576 := by
  by_cases h : OkL l ∧ OkI m
  · unfold itAll; rw [if_pos h]; show (itn m.toNat l).1.length ≤ _; rw [(itn_spec _ l).1, srt_length]; have := h.1.1; omega
  · rw [itAll_no h]; exact Nat.zero_le _
def duAll (l : List Int) (p q : Int) : List Int × Int × Int × Bool := if OkL l ∧ p ≤ q then (duF l p q, ((lowF l p).length : Nat), ((lowF l p).length : Int) + ((midF l p q).length : Int), true) else ([], 0, 0, false)
theorem duAll_yes {l : List Int} {p q : Int} (h : OkL l ∧ p ≤ q) : duAll l p q = (duF l p q, (((lowF l p).length : Nat) : Int), ((lowF l p).length : Int) + ((midF l p q).length : Int), true) := if_pos h
theorem duAll_no {l : List Int} {p q : Int} (h : ¬ (OkL l ∧ p ≤ q)) : duAll l p q = ([], 0, 0, false) := if_neg h
theorem duAll_len (l : List Int) (p q : Int) : (duAll l p q).1.length ≤ 1048576 := by
  by_cases h : OkL l ∧ p ≤ q
  · rw [duAll_yes h]; show (duF l p q).length ≤ _; rw [duF_length h.2]; have := h.1.1; omega
  · rw [duAll_no h]; exact Nat.zero_le _
end Qk
end Go.Proofs.Ytagibgphegoagaa
