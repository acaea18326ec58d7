/- What the laws say of merging: the answers as functions. Nothing of the program. -/
import Derived.Test.YtnjabdlhgmaeiaaMgP
import Derived.Test.YtnjabdlhgmaeiaaSortD
namespace Go.Proofs.Ytnjabdlhgmaeiaa
open Mg

def OkM (a b : List (Int × Int)) : Prop := (OkR a ∧ Mg.Asc a) ∧ (OkR b ∧ Mg.Asc b) ∧ a.length + b.length ≤ 64
instance (a b : List (Int × Int)) : Decidable (OkM a b) := by unfold OkM; exact inferInstance
def mergeAll (a b : List (Int × Int)) : List (Int × Int) × Int × Bool := if OkM a b then ((mg a b).1, ((mg a b).2 : Nat), true) else ([], 0, false)
theorem mergeAll_yes {a b : List (Int × Int)} (h : OkM a b) : mergeAll a b = ((mg a b).1, (((mg a b).2 : Nat) : Int), true) := if_pos h
theorem mergeAll_no {a b : List (Int × Int)} (h : ¬ OkM a b) : mergeAll a b = ([], 0, false) := if_neg h
theorem mergeAll_len (a b : List (Int × Int)) : (mergeAll a b).1.length ≤ 1048576 := by
  by_cases h : OkM a b
  · rw [mergeAll_yes h]; have := h.2.2; simp only [mg_length]; omega
  · rw [mergeAll_no h]; simp
def msAll (l : List (Int × Int)) : List (Int × Int) × Int × Bool := if OkR l then ((ms l).1, ((ms l).2 : Nat), true) else ([], 0, false)
theorem msAll_yes {l : List (Int × Int)} (h : OkR l) : msAll l = ((ms l).1, (((ms l).2 : Nat) : Int), true) := if_pos h
theorem msAll_no {l : List (Int × Int)} (h : ¬ OkR l) : msAll l = ([], 0, false) := if_neg h
theorem msAll_len (l : List (Int × Int)) : (msAll l).1.length ≤ 1048576 := by
  by_cases h : OkR l
  · rw [msAll_yes h]; have := h.1; simp only [ms_length]; omega
  · rw [msAll_no h]; simp

end Go.Proofs.Ytnjabdlhgmaeiaa
