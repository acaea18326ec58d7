/- The heaps' answers, pure. -/
import Derived.Test.YtipdfmedbcafpaaHeapP
import Derived.Test.YtipdfmedbcafpaaInsP
namespace Go.Proofs.Ytipdfmedbcafpaa
set_option linter.unusedVariables false
namespace Hp
open P El

def OkD (d : Int) : Prop := 2 ≤ d ∧ d ≤ 8
instance (d : Int) : Decidable (OkD d) := by unfold OkD; exact inferInstance
theorem OkD.nat {d : Int} (h : OkD d) : ∃ k : Nat, d = (k : Int) ∧ d.toNat = k ∧ 2 ≤ k ∧ k ≤ 8 := ⟨d.toNat, by have := h.1; omega, rfl, by have := h.1; omega, by have := h.2; omega⟩
def IsHp (l : List Int) (d : Int) : Prop := OkL l ∧ OkD d ∧ HF d.toNat l.length 0 l
instance (l : List Int) (d : Int) : Decidable (IsHp l d) := by unfold IsHp; exact inferInstance
def isAll (l : List Int) (d : Int) : Int × Bool := if OkL l ∧ OkD d then (dfF d.toNat l, true) else (0, false)
theorem isAll_yes {l : List Int} {d : Int} (h : OkL l ∧ OkD d) : isAll l d = (dfF d.toNat l, true) := if_pos h
theorem isAll_no {l : List Int} {d : Int} (h : ¬ (OkL l ∧ OkD d)) : isAll l d = (0, false) := if_neg h
theorem isAll_heap {l : List Int} {d : Int} : IsHp l d ↔ isAll l d = (-1, true) := by
  by_cases h : OkL l ∧ OkD d
  · rw [isAll_yes h]
    constructor
    · intro hh; rw [dfF_heap.2 hh.2.2]
    · intro e; exact ⟨h.1, h.2, dfF_heap.1 (Prod.mk.inj e).1⟩
  · rw [isAll_no h]
    exact ⟨fun hh => absurd ⟨hh.1, hh.2.1⟩ h, fun e => by simp at e⟩
def bldAll (l : List Int) (d : Int) : List Int × Int × Bool := if OkL l ∧ OkD d then ((buildF d.toNat l).1, ((buildF d.toNat l).2 : Nat), true) else ([], 0, false)
theorem bldAll_yes {l : List Int} {d : Int} (h : OkL l ∧ OkD d) : bldAll l d = ((buildF d.toNat l).1, (((buildF d.toNat l).2 : Nat) : Int), true) := if_pos h
theorem bldAll_no {l : List Int} {d : Int} (h : ¬ (OkL l ∧ OkD d)) : bldAll l d = ([], 0, false) := if_neg h
theorem OkD.pos {d : Int} (h : OkD d) : 0 < d.toNat := by have := h.1; omega
theorem bldAll_len (l : List Int) (d : Int) : (bldAll l d).1.length ≤ 1048576 := by
  by_cases h : OkL l ∧ OkD d
  · rw [bldAll_yes h]; show (buildF _ _).1.length ≤ _; rw [buildF_length h.2.pos]; have := h.1.1; omega
  · rw [bldAll_no h]; exact Nat.zero_le _
def pushAll (l : List Int) (d x : Int) : List Int × Int × Bool := if IsHp l d ∧ OkL (l ++ [x]) then ((pushF d.toNat l x).1, ((pushF d.toNat l x).2 : Nat), true) else ([], 0, false)
theorem pushAll_yes {l : List Int} {d x : Int} (h : IsHp l d ∧ OkL (l ++ [x])) : pushAll l d x = ((pushF d.toNat l x).1, (((pushF d.toNat l x).2 : Nat) : Int), true) := if_pos h
theorem pushAll_no {l : List Int} {d x : Int} (h : ¬ (IsHp l d ∧ OkL (l ++ [x]))) : pushAll l d x = ([], 0, false) := if_neg h
theorem pushAll_len (l : List Int) (d x : Int) : (pushAll l d x).1.length ≤ 1048576 := by
  by_cases h : IsHp l d ∧ OkL (l ++ [x])
  · rw [pushAll_yes h]; show (pushF _ _ _).1.length ≤ _; rw [pushF_length h.1.2.1.pos]; have := h.1.1.1; omega
  · rw [pushAll_no h]; exact Nat.zero_le _
def popAll (l : List Int) (d : Int) : List Int × Int × Int × Bool := if IsHp l d ∧ 0 < l.length then ((popF d.toNat l).1, l.getD 0 0, ((popF d.toNat l).2 : Nat), true) else ([], 0, 0, false)
theorem popAll_yes {l : List Int} {d : Int} (h : IsHp l d ∧ 0 < l.length) : popAll l d = ((popF d.toNat l).1, l.getD 0 0, (((popF d.toNat l).2 : Nat) : Int), true) := if_pos h
theorem popAll_no {l : List Int} {d : Int} (h : ¬ (IsHp l d ∧ 0 < l.length)) : popAll l d = ([], 0, 0, false) := if_neg h
theorem popAll_len (l : List Int) (d : Int) : (popAll l d).1.length ≤ 1048576 := by
  by_cases h : IsHp l d ∧ 0 < l.length
  · rw [popAll_yes h]; show (popF _ _).1.length ≤ _; rw [popF_length h.1.2.1.pos]; have := h.1.1.1; omega
  · rw [popAll_no h]; exact Nat.zero_le _
def repAll (l : List Int) (d x : Int) : List Int × Int × Bool := if IsHp l d ∧ 0 < l.length ∧ -100000 ≤ x ∧ x ≤ 100000 then ((repF d.toNat l x).1, l.getD 0 0, true) else ([], 0, false)
theorem repAll_yes {l : List Int} {d x : Int} (h : IsHp l d ∧ 0 < l.length ∧ -100000 ≤ x ∧ x ≤ 100000) : repAll l d x = ((repF d.toNat l x).1, l.getD 0 0, true) := if_pos h
theorem repAll_no {l : List Int} {d x : Int} (h : ¬ (IsHp l d ∧ 0 < l.length ∧ -100000 ≤ x ∧ x ≤ 100000)) : repAll l d x = ([], 0, false) := if_neg h
theorem repAll_len (l : List Int) (d x : Int) : (repAll l d x).1.length ≤ 1048576 := by
  by_cases h : IsHp l d ∧ 0 < l.length ∧ -100000 ≤ x ∧ x ≤ 100000
  · rw [repAll_yes h]; show (repF _ _ _).1.length ≤ _; rw [repF_length h.1.2.1.pos]; have := h.1.1.1; omega
  · rw [repAll_no h]; exact Nat.zero_le _
def hsAll (l : List Int) (d : Int) : List Int × Int × Bool := if OkL l ∧ OkD d then ((hsF d.toNat l).1, ((hsF d.toNat l).2 : Nat), true) else ([], 0, false)
theorem hsAll_yes {l : List Int} {d : Int} (h : OkL l ∧ OkD d) : hsAll l d = ((hsF d.toNat l).1, (((hsF d.toNat l).2 : Nat) : Int), true) := if_pos h
theorem hsAll_no {l : List Int} {d : Int} (h : ¬ (OkL l ∧ OkD d)) : hsAll l d = ([], 0, false) := if_neg h
theorem hsAll_len (l : List Int) (d : Int) : (hsAll l d).1.length ≤ 1048576 := by
  by_cases h : OkL l ∧ OkD d
  · rw [hsAll_yes h]; show (hsF _ _).1.length ≤ _; rw [hsF_length h.2.pos]; have := h.1.1; omega
  · rw [hsAll_no h]; exact Nat.zero_le _
def depAll (n d : Int) : Int × Bool := if 1 ≤ n ∧ n ≤ 64 ∧ OkD d then ((dep d.toNat (n.toNat - 1) : Nat), true) else (0, false)
theorem depAll_yes {n d : Nat} (h : 1 ≤ n ∧ n ≤ 64 ∧ 2 ≤ d ∧ d ≤ 8) : depAll n d = (((dep d (n - 1) : Nat) : Int), true) := if_pos ⟨by omega, by omega, by unfold OkD; omega⟩
theorem depAll_no {n d : Int} (h : ¬ (1 ≤ n ∧ n ≤ 64 ∧ OkD d)) : depAll n d = (0, false) := if_neg h
def mrgAll (a b : List Int) (d : Int) : List Int × Int × Bool := if IsHp a d ∧ IsHp b d ∧ OkL (a ++ b) then ((buildF d.toNat (a ++ b)).1, ((buildF d.toNat (a ++ b)).2 : Nat), true) else ([], 0, false)
theorem mrgAll_yes {a b : List Int} {d : Int} (h : IsHp a d ∧ IsHp b d ∧ OkL (a ++ b)) : mrgAll a b d = ((buildF d.toNat (a ++ b)).1, (((buildF d.toNat (a ++ b)).2 : Nat) : Int), true) := if_pos h
theorem mrgAll_no {a b : List Int} {d : Int} (h : ¬ (IsHp a d ∧ IsHp b d ∧ OkL (a ++ b))) : mrgAll a b d = ([], 0, false) := if_neg h
theorem mrgAll_bld {a b : List Int} {d : Int} (h1 : IsHp a d) (h2 : IsHp b d) : mrgAll a b d = bldAll (a ++ b) d := by
  by_cases h : OkL (a ++ b)
  · rw [mrgAll_yes ⟨h1, h2, h⟩, bldAll_yes ⟨h, h1.2.1⟩]
  · rw [mrgAll_no (fun hh => h hh.2.2), bldAll_no (fun hh => h hh.1)]
theorem mrgAll_len (a b : List Int) (d : Int) : (mrgAll a b d).1.length ≤ 1048576 := by
  by_cases h : IsHp a d ∧ IsHp b d ∧ OkL (a ++ b)
  · rw [mrgAll_bld h.1 h.2.1]; exact bldAll_len _ _
  · rw [mrgAll_no h]; exact Nat.zero_le _
end Hp
end Go.Proofs.Ytipdfmedbcafpaa
