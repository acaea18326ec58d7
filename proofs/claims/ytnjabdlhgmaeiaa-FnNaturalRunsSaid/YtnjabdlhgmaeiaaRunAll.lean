/- What the laws say of natural runs: the answer as a function. Nothing of the program. -/
import Derived.Test.YtnjabdlhgmaeiaaRunP
import Derived.Test.YtnjabdlhgmaeiaaSortD
namespace Go.Proofs.Ytnjabdlhgmaeiaa
open Ru

def nrAll (l : List (Int × Int)) : List (Int × Int) × Bool := if OkR l then (runsF l 0, true) else ([], false)
theorem nrAll_yes {l : List (Int × Int)} (h : OkR l) : nrAll l = (runsF l 0, true) := if_pos h
theorem nrAll_no {l : List (Int × Int)} (h : ¬ OkR l) : nrAll l = ([], false) := if_neg h
theorem nrAll_len (l : List (Int × Int)) : (nrAll l).1.length ≤ 1048576 := by
  by_cases h : OkR l
  · rw [nrAll_yes h]; have h1 := h.1; have h2 := runsF_len l _ 0 (Nat.le_refl _); simp only; omega
  · rw [nrAll_no h]; simp

end Go.Proofs.Ytnjabdlhgmaeiaa
