/- An addition's answer: small facts. -/
import Derived.Test.YtgfdpjmhdijdiaaRetFen
import Derived.Test.YtgfdpjmhdijdiaaFenQ
namespace Go.Proofs.Ytgfdpjmhdijdiaa
open Go.RowKit Fw
set_option linter.unusedVariables false

theorem wf64 {a : Int} (h : (Lit.int .i64 a).wf = true) : -9223372036854775808 ≤ a ∧ a < 9223372036854775808 := by
  simp [Lit.wf, IntKind.min, IntKind.max, IntKind.signed, IntKind.bits] at h
  omega
theorem addF_yes {S : List Int} {i b : Int} (h : OkF S) (h0 : 0 ≤ i ∧ i < S.length) (h1 : 0 ≤ (vl S).getD i.toNat 0 + b ∧ (vl S).getD i.toNat 0 + b ≤ 1000) :
    addF S i b = (bs ((vl S).set i.toNat ((vl S).getD i.toNat 0 + b)), (nds S.length i.toNat : Int), true) := if_pos ⟨h, h0, h1⟩
theorem addF_no {S : List Int} {i b : Int} (h : ¬ (OkF S ∧ (0 ≤ i ∧ i < S.length) ∧ (0 ≤ (vl S).getD i.toNat 0 + b ∧ (vl S).getD i.toNat 0 + b ≤ 1000))) : addF S i b = ([], 0, false) := if_neg h
theorem addF_len (l : List Int) (i b : Int) (b0 : l.length ≤ 1048576) : (addF l i b).1.length ≤ 1048576 := by
  by_cases h : OkF l ∧ (0 ≤ i ∧ i < l.length) ∧ (0 ≤ (vl l).getD i.toNat 0 + b ∧ (vl l).getD i.toNat 0 + b ≤ 1000)
  · rw [addF_yes h.1 h.2.1 h.2.2, bs_len, List.length_set, vl_len]; exact b0
  · rw [addF_no h]; simp

end Go.Proofs.Ytgfdpjmhdijdiaa
