/- More of trees of sums: the numbers of the sums used; guards. Nothing of the program. -/
import Derived.Test.YtgfdpjmhdijdiaaFenP
namespace Go.Proofs.Ytgfdpjmhdijdiaa
set_option linter.unusedVariables false
namespace Fw

theorem cw_small_dec : ∀ n < 128, cw n ≤ 7 := by decide +kernel
theorem cw_small {n : Nat} (h : n ≤ 127) : cw n ≤ 7 := cw_small_dec n (by omega)
theorem preF_yes {S : List Int} {n : Int} (h : OkF S) (h0 : 0 ≤ n) (h1 : n ≤ S.length) : preF S n = (pre (vl S) n.toNat, (cw n.toNat : Int), true) := if_pos ⟨h, h0, h1⟩
theorem preF_no {S : List Int} {n : Int} (h : ¬ (OkF S ∧ 0 ≤ n ∧ n ≤ S.length)) : preF S n = (0, 0, false) := if_neg h
theorem selF_yes {S : List Int} {k : Int} (h : OkF S ∧ 0 ≤ k ∧ k < pre (vl S) S.length) : selF S k = ((sel (vl S) k : Int), true) := if_pos h
theorem selF_no {S : List Int} {k : Int} (h : ¬ (OkF S ∧ 0 ≤ k ∧ k < pre (vl S) S.length)) : selF S k = (0, false) := if_neg h

theorem nds_dec : ∀ n < 65, ∀ i < n, 1 ≤ nds n i ∧ nds n i ≤ 7 := by decide +kernel

end Fw
end Go.Proofs.Ytgfdpjmhdijdiaa
