/-
  No cell of these rows narrows 'for every input' (looked for: loops, veiled, ifaces, maps, wideKeys, modest, calm, conditions, laid).
  DERIVED. THE GIVEN ROWS OF THIS SEAT. 13 by the template 'for every input the law returns true; each argument reads behind the call as it read before'; 0 by the template 'total and deterministic' (their statements: YtjlldjekjnlcaaaTotals.lean).
  GIVEN WITH THE SEED: the statements are not yours to turn. If you find one false, say at which input.
  Laid BY PROGRAM, IN A SANDBOX (cutbox-rows.mjs): the forced cells as the released guide's own fill.sh prints them over the translation 451bf4ca259027da… (all of the seat's roots in one cut). By AI agents, Wed Nov 11 2026. No macro, syntax, notation, axiom, sorry.
-/
import Derived.Test.YtjlldjekjnlcaaaChecked
import GoSem.Claim
import GoSem.ClaimJoined
import GoSem.ClaimMapViews
import Derived.JoinedTies
import Derived.KernelRfl
namespace Go.Proofs.Ytjlldjekjnlcaaa
/- THE CELL 'sum', in the pinned program and in every row, IS THE sha256 OF THE DUMP (.gsa) THAT YtjlldjekjnlcaaaProg.lean LOADS. Nothing in Lean hashes anything: it is a label: what it is worth is what the hold of that sum in a sandbox is worth. -/
noncomputable def Try.pinned : Pinned := { name := "ytjlldjekjnlcaaa", sum := "451bf4ca259027da434fd866e2f5b6e8321f960e103d5ef22edd29bb00f8735d", checked := Try.checked }
namespace Rows
def none {H : Type} : Left H := { results := [], args := [] }

/-- 'laws.FnInversionTable': WHATEVER THE INPUT: true; the input reads as it did. -/
def fnInversionTableSpec : ChangeSpec := { name := "fnInversionTable", fn := fun _ => fun
  | [d] => { results := [.lit (.bool true)], args := [d] }
  | _ => none }
def fnInversionTableRow : OpenClaim := { program := "ytjlldjekjnlcaaa", sum := "451bf4ca259027da434fd866e2f5b6e8321f960e103d5ef22edd29bb00f8735d", func := "loop.example/g00907/laws.FnInversionTable", spec := "fnInversionTable", unfollowed := true, recurses := true, apart := false }
def FnInversionTableSaid : Prop := fnInversionTableRow.holds Try.pinned (OpenSpec.ofChange fnInversionTableSpec)

/-- ITS FALSE NEIGHBOUR: 'it returns false'. Refute it at one input. -/
def fnInversionTableWrong : ChangeSpec := { name := "fnInversionTable", fn := fun _ => fun
  | [d] => { results := [.lit (.bool false)], args := [d] }
  | _ => none }
def FnInversionTableWrongFalsely : Prop := fnInversionTableRow.holds Try.pinned (OpenSpec.ofChange fnInversionTableWrong)

/-- 'laws.FnDistances': WHATEVER THE INPUT: true; the input reads as it did. -/
def fnDistancesSpec : ChangeSpec := { name := "fnDistances", fn := fun _ => fun
  | [d] => { results := [.lit (.bool true)], args := [d] }
  | _ => none }
def fnDistancesRow : OpenClaim := { program := "ytjlldjekjnlcaaa", sum := "451bf4ca259027da434fd866e2f5b6e8321f960e103d5ef22edd29bb00f8735d", func := "loop.example/g00907/laws.FnDistances", spec := "fnDistances", unfollowed := true, recurses := true, apart := false }
def FnDistancesSaid : Prop := fnDistancesRow.holds Try.pinned (OpenSpec.ofChange fnDistancesSpec)

/-- ITS FALSE NEIGHBOUR: 'it returns false'. Refute it at one input. -/
def fnDistancesWrong : ChangeSpec := { name := "fnDistances", fn := fun _ => fun
  | [d] => { results := [.lit (.bool false)], args := [d] }
  | _ => none }
def FnDistancesWrongFalsely : Prop := fnDistancesRow.holds Try.pinned (OpenSpec.ofChange fnDistancesWrong)

/-- 'laws.FnIncreasing': WHATEVER THE INPUT: true; the input reads as it did. -/
def fnIncreasingSpec : ChangeSpec := { name := "fnIncreasing", fn := fun _ => fun
  | [d] => { results := [.lit (.bool true)], args := [d] }
  | _ => none }
def fnIncreasingRow : OpenClaim := { program := "ytjlldjekjnlcaaa", sum := "451bf4ca259027da434fd866e2f5b6e8321f960e103d5ef22edd29bb00f8735d", func := "loop.example/g00907/laws.FnIncreasing", spec := "fnIncreasing", unfollowed := true, recurses := true, apart := false }
def FnIncreasingSaid : Prop := fnIncreasingRow.holds Try.pinned (OpenSpec.ofChange fnIncreasingSpec)

/-- ITS FALSE NEIGHBOUR: 'it returns false'. Refute it at one input. -/
def fnIncreasingWrong : ChangeSpec := { name := "fnIncreasing", fn := fun _ => fun
  | [d] => { results := [.lit (.bool false)], args := [d] }
  | _ => none }
def FnIncreasingWrongFalsely : Prop := fnIncreasingRow.holds Try.pinned (OpenSpec.ofChange fnIncreasingWrong)

/-- 'laws.FnDescents': WHATEVER THE INPUT: true; the input reads as it did. -/
def fnDescentsSpec : ChangeSpec := { name := "fnDescents", fn := fun _ => fun
  | [d] => { results := [.lit (.bool true)], args := [d] }
  | _ => none }
def fnDescentsRow : OpenClaim := { program := "ytjlldjekjnlcaaa", sum := "451bf4ca259027da434fd866e2f5b6e8321f960e103d5ef22edd29bb00f8735d", func := "loop.example/g00907/laws.FnDescents", spec := "fnDescents", unfollowed := true, recurses := true, apart := false }
def FnDescentsSaid : Prop := fnDescentsRow.holds Try.pinned (OpenSpec.ofChange fnDescentsSpec)

/-- ITS FALSE NEIGHBOUR: 'it returns false'. Refute it at one input. -/
def fnDescentsWrong : ChangeSpec := { name := "fnDescents", fn := fun _ => fun
  | [d] => { results := [.lit (.bool false)], args := [d] }
  | _ => none }
def FnDescentsWrongFalsely : Prop := fnDescentsRow.holds Try.pinned (OpenSpec.ofChange fnDescentsWrong)

/-- 'laws.FnExactCountInversions': WHATEVER THE INPUT: true; the input reads as it did. -/
def fnExactCountInversionsSpec : ChangeSpec := { name := "fnExactCountInversions", fn := fun _ => fun
  | [d] => { results := [.lit (.bool true)], args := [d] }
  | _ => none }
def fnExactCountInversionsRow : OpenClaim := { program := "ytjlldjekjnlcaaa", sum := "451bf4ca259027da434fd866e2f5b6e8321f960e103d5ef22edd29bb00f8735d", func := "loop.example/g00907/laws.FnExactCountInversions", spec := "fnExactCountInversions", unfollowed := true, recurses := true, apart := false }
def FnExactCountInversionsSaid : Prop := fnExactCountInversionsRow.holds Try.pinned (OpenSpec.ofChange fnExactCountInversionsSpec)

/-- ITS FALSE NEIGHBOUR: 'it returns false'. Refute it at one input. -/
def fnExactCountInversionsWrong : ChangeSpec := { name := "fnExactCountInversions", fn := fun _ => fun
  | [d] => { results := [.lit (.bool false)], args := [d] }
  | _ => none }
def FnExactCountInversionsWrongFalsely : Prop := fnExactCountInversionsRow.holds Try.pinned (OpenSpec.ofChange fnExactCountInversionsWrong)

/-- 'laws.FnExactInversionTable': WHATEVER THE INPUT: true; the input reads as it did. -/
def fnExactInversionTableSpec : ChangeSpec := { name := "fnExactInversionTable", fn := fun _ => fun
  | [d] => { results := [.lit (.bool true)], args := [d] }
  | _ => none }
def fnExactInversionTableRow : OpenClaim := { program := "ytjlldjekjnlcaaa", sum := "451bf4ca259027da434fd866e2f5b6e8321f960e103d5ef22edd29bb00f8735d", func := "loop.example/g00907/laws.FnExactInversionTable", spec := "fnExactInversionTable", apart := false }
def FnExactInversionTableSaid : Prop := fnExactInversionTableRow.holds Try.pinned (OpenSpec.ofChange fnExactInversionTableSpec)

/-- ITS FALSE NEIGHBOUR: 'it returns false'. Refute it at one input. -/
def fnExactInversionTableWrong : ChangeSpec := { name := "fnExactInversionTable", fn := fun _ => fun
  | [d] => { results := [.lit (.bool false)], args := [d] }
  | _ => none }
def FnExactInversionTableWrongFalsely : Prop := fnExactInversionTableRow.holds Try.pinned (OpenSpec.ofChange fnExactInversionTableWrong)

/-- 'laws.FnExactFromInversionTable': WHATEVER THE INPUT: true; the input reads as it did. -/
def fnExactFromInversionTableSpec : ChangeSpec := { name := "fnExactFromInversionTable", fn := fun _ => fun
  | [d] => { results := [.lit (.bool true)], args := [d] }
  | _ => none }
def fnExactFromInversionTableRow : OpenClaim := { program := "ytjlldjekjnlcaaa", sum := "451bf4ca259027da434fd866e2f5b6e8321f960e103d5ef22edd29bb00f8735d", func := "loop.example/g00907/laws.FnExactFromInversionTable", spec := "fnExactFromInversionTable", apart := false }
def FnExactFromInversionTableSaid : Prop := fnExactFromInversionTableRow.holds Try.pinned (OpenSpec.ofChange fnExactFromInversionTableSpec)

/-- ITS FALSE NEIGHBOUR: 'it returns false'. Refute it at one input. -/
def fnExactFromInversionTableWrong : ChangeSpec := { name := "fnExactFromInversionTable", fn := fun _ => fun
  | [d] => { results := [.lit (.bool false)], args := [d] }
  | _ => none }
def FnExactFromInversionTableWrongFalsely : Prop := fnExactFromInversionTableRow.holds Try.pinned (OpenSpec.ofChange fnExactFromInversionTableWrong)

/-- 'laws.FnExactKendallDistance': WHATEVER THE INPUT: true; the input reads as it did. -/
def fnExactKendallDistanceSpec : ChangeSpec := { name := "fnExactKendallDistance", fn := fun _ => fun
  | [d1, d2] => { results := [.lit (.bool true)], args := [d1, d2] }
  | _ => none }
def fnExactKendallDistanceRow : OpenClaim := { program := "ytjlldjekjnlcaaa", sum := "451bf4ca259027da434fd866e2f5b6e8321f960e103d5ef22edd29bb00f8735d", func := "loop.example/g00907/laws.FnExactKendallDistance", spec := "fnExactKendallDistance", unfollowed := true, recurses := true, apart := false }
def FnExactKendallDistanceSaid : Prop := fnExactKendallDistanceRow.holds Try.pinned (OpenSpec.ofChange fnExactKendallDistanceSpec)

/-- ITS FALSE NEIGHBOUR: 'it returns false'. Refute it at one input. -/
def fnExactKendallDistanceWrong : ChangeSpec := { name := "fnExactKendallDistance", fn := fun _ => fun
  | [d1, d2] => { results := [.lit (.bool false)], args := [d1, d2] }
  | _ => none }
def FnExactKendallDistanceWrongFalsely : Prop := fnExactKendallDistanceRow.holds Try.pinned (OpenSpec.ofChange fnExactKendallDistanceWrong)

/-- 'laws.FnExactSpearmanFootrule': WHATEVER THE INPUT: true; the input reads as it did. -/
def fnExactSpearmanFootruleSpec : ChangeSpec := { name := "fnExactSpearmanFootrule", fn := fun _ => fun
  | [d1, d2] => { results := [.lit (.bool true)], args := [d1, d2] }
  | _ => none }
def fnExactSpearmanFootruleRow : OpenClaim := { program := "ytjlldjekjnlcaaa", sum := "451bf4ca259027da434fd866e2f5b6e8321f960e103d5ef22edd29bb00f8735d", func := "loop.example/g00907/laws.FnExactSpearmanFootrule", spec := "fnExactSpearmanFootrule", apart := false }
def FnExactSpearmanFootruleSaid : Prop := fnExactSpearmanFootruleRow.holds Try.pinned (OpenSpec.ofChange fnExactSpearmanFootruleSpec)

/-- ITS FALSE NEIGHBOUR: 'it returns false'. Refute it at one input. -/
def fnExactSpearmanFootruleWrong : ChangeSpec := { name := "fnExactSpearmanFootrule", fn := fun _ => fun
  | [d1, d2] => { results := [.lit (.bool false)], args := [d1, d2] }
  | _ => none }
def FnExactSpearmanFootruleWrongFalsely : Prop := fnExactSpearmanFootruleRow.holds Try.pinned (OpenSpec.ofChange fnExactSpearmanFootruleWrong)

/-- 'laws.FnExactLongestIncreasing': WHATEVER THE INPUT: true; the input reads as it did. -/
def fnExactLongestIncreasingSpec : ChangeSpec := { name := "fnExactLongestIncreasing", fn := fun _ => fun
  | [d] => { results := [.lit (.bool true)], args := [d] }
  | _ => none }
def fnExactLongestIncreasingRow : OpenClaim := { program := "ytjlldjekjnlcaaa", sum := "451bf4ca259027da434fd866e2f5b6e8321f960e103d5ef22edd29bb00f8735d", func := "loop.example/g00907/laws.FnExactLongestIncreasing", spec := "fnExactLongestIncreasing", unfollowed := true, recurses := true, apart := false }
def FnExactLongestIncreasingSaid : Prop := fnExactLongestIncreasingRow.holds Try.pinned (OpenSpec.ofChange fnExactLongestIncreasingSpec)

/-- ITS FALSE NEIGHBOUR: 'it returns false'. Refute it at one input. -/
def fnExactLongestIncreasingWrong : ChangeSpec := { name := "fnExactLongestIncreasing", fn := fun _ => fun
  | [d] => { results := [.lit (.bool false)], args := [d] }
  | _ => none }
def FnExactLongestIncreasingWrongFalsely : Prop := fnExactLongestIncreasingRow.holds Try.pinned (OpenSpec.ofChange fnExactLongestIncreasingWrong)

/-- 'laws.FnExactPatiencePiles': WHATEVER THE INPUT: true; the input reads as it did. -/
def fnExactPatiencePilesSpec : ChangeSpec := { name := "fnExactPatiencePiles", fn := fun _ => fun
  | [d] => { results := [.lit (.bool true)], args := [d] }
  | _ => none }
def fnExactPatiencePilesRow : OpenClaim := { program := "ytjlldjekjnlcaaa", sum := "451bf4ca259027da434fd866e2f5b6e8321f960e103d5ef22edd29bb00f8735d", func := "loop.example/g00907/laws.FnExactPatiencePiles", spec := "fnExactPatiencePiles", unfollowed := true, recurses := true, apart := false }
def FnExactPatiencePilesSaid : Prop := fnExactPatiencePilesRow.holds Try.pinned (OpenSpec.ofChange fnExactPatiencePilesSpec)

/-- ITS FALSE NEIGHBOUR: 'it returns false'. Refute it at one input. -/
def fnExactPatiencePilesWrong : ChangeSpec := { name := "fnExactPatiencePiles", fn := fun _ => fun
  | [d] => { results := [.lit (.bool false)], args := [d] }
  | _ => none }
def FnExactPatiencePilesWrongFalsely : Prop := fnExactPatiencePilesRow.holds Try.pinned (OpenSpec.ofChange fnExactPatiencePilesWrong)

/-- 'laws.FnExactDescents': WHATEVER THE INPUT: true; the input reads as it did. -/
def fnExactDescentsSpec : ChangeSpec := { name := "fnExactDescents", fn := fun _ => fun
  | [d] => { results := [.lit (.bool true)], args := [d] }
  | _ => none }
def fnExactDescentsRow : OpenClaim := { program := "ytjlldjekjnlcaaa", sum := "451bf4ca259027da434fd866e2f5b6e8321f960e103d5ef22edd29bb00f8735d", func := "loop.example/g00907/laws.FnExactDescents", spec := "fnExactDescents", unfollowed := true, recurses := true, apart := false }
def FnExactDescentsSaid : Prop := fnExactDescentsRow.holds Try.pinned (OpenSpec.ofChange fnExactDescentsSpec)

/-- ITS FALSE NEIGHBOUR: 'it returns false'. Refute it at one input. -/
def fnExactDescentsWrong : ChangeSpec := { name := "fnExactDescents", fn := fun _ => fun
  | [d] => { results := [.lit (.bool false)], args := [d] }
  | _ => none }
def FnExactDescentsWrongFalsely : Prop := fnExactDescentsRow.holds Try.pinned (OpenSpec.ofChange fnExactDescentsWrong)

/-- 'laws.FnExactMajorIndex': WHATEVER THE INPUT: true; the input reads as it did. -/
def fnExactMajorIndexSpec : ChangeSpec := { name := "fnExactMajorIndex", fn := fun _ => fun
  | [d] => { results := [.lit (.bool true)], args := [d] }
  | _ => none }
def fnExactMajorIndexRow : OpenClaim := { program := "ytjlldjekjnlcaaa", sum := "451bf4ca259027da434fd866e2f5b6e8321f960e103d5ef22edd29bb00f8735d", func := "loop.example/g00907/laws.FnExactMajorIndex", spec := "fnExactMajorIndex", unfollowed := true, recurses := true, apart := false }
def FnExactMajorIndexSaid : Prop := fnExactMajorIndexRow.holds Try.pinned (OpenSpec.ofChange fnExactMajorIndexSpec)

/-- ITS FALSE NEIGHBOUR: 'it returns false'. Refute it at one input. -/
def fnExactMajorIndexWrong : ChangeSpec := { name := "fnExactMajorIndex", fn := fun _ => fun
  | [d] => { results := [.lit (.bool false)], args := [d] }
  | _ => none }
def FnExactMajorIndexWrongFalsely : Prop := fnExactMajorIndexRow.holds Try.pinned (OpenSpec.ofChange fnExactMajorIndexWrong)

/- THE SECOND FORM. 'bulk': how many values and letters a reading holds, each counted each time it is reached (what is shared counts as often as it is met; a slice's spare places count too). A statement '..UptoSaid' is the law's where the arguments, and the package variables that the reading takes, are together of bulk at most 1048576: NARROWER than '..Said'. Prove '..Said' where nothing that the law and all that it calls make is longer than what came in: it says more and counts as full. Else prove '..UptoSaid'. A law counts once. -/
mutual
def uptoBulk {H : Type} : DataW H → Nat
  | .lit (.string bytes) => bytes.length + 1
  | .lit _ => 1
  | .nil => 1
  | .ptr d => uptoBulk d + 1
  | .slice elems spare => uptoBulkAll elems + uptoBulkAll spare + 1
  | .agg parts => uptoBulkAll parts + 1
  | .iface _ d => uptoBulk d + 1
  | .map entries => uptoBulkEntries entries + 1
  | .held _ => 1
def uptoBulkAll {H : Type} : List (DataW H) → Nat
  | [] => 0
  | d :: r => uptoBulk d + uptoBulkAll r
def uptoBulkEntries {H : Type} : List (Lit × DataW H) → Nat
  | [] => 0
  | x :: r => uptoBulkEntry x + uptoBulkEntries r
def uptoBulkEntry {H : Type} : Lit × DataW H → Nat
  | (.string bytes, d) => bytes.length + uptoBulk d + 1
  | (_, d) => uptoBulk d + 1
 end
def uptoSmall : (H : Type) → List (DataW H) → Bool := fun _ ds => decide (uptoBulkAll ds ≤ 1048576)
def OpenSpec.upto (s : _root_.Go.ChangeSpec) : _root_.Go.OpenSpec := { _root_.Go.OpenSpec.ofChange s with cond := some uptoSmall }

/-- 'laws.FnInversionTable', WHERE WHAT IT READS IS OF BULK AT MOST 1048576: true; the input reads as it did. -/
def fnInversionTableUptoRow : OpenClaim := { program := "ytjlldjekjnlcaaa", sum := "451bf4ca259027da434fd866e2f5b6e8321f960e103d5ef22edd29bb00f8735d", func := "loop.example/g00907/laws.FnInversionTable", spec := "fnInversionTable", unfollowed := true, recurses := true, apart := false, narrowed := true }
def FnInversionTableUptoSaid : Prop := fnInversionTableUptoRow.holds Try.pinned (OpenSpec.upto fnInversionTableSpec)

/-- 'laws.FnDistances', WHERE WHAT IT READS IS OF BULK AT MOST 1048576: true; the input reads as it did. -/
def fnDistancesUptoRow : OpenClaim := { program := "ytjlldjekjnlcaaa", sum := "451bf4ca259027da434fd866e2f5b6e8321f960e103d5ef22edd29bb00f8735d", func := "loop.example/g00907/laws.FnDistances", spec := "fnDistances", unfollowed := true, recurses := true, apart := false, narrowed := true }
def FnDistancesUptoSaid : Prop := fnDistancesUptoRow.holds Try.pinned (OpenSpec.upto fnDistancesSpec)

/-- 'laws.FnIncreasing', WHERE WHAT IT READS IS OF BULK AT MOST 1048576: true; the input reads as it did. -/
def fnIncreasingUptoRow : OpenClaim := { program := "ytjlldjekjnlcaaa", sum := "451bf4ca259027da434fd866e2f5b6e8321f960e103d5ef22edd29bb00f8735d", func := "loop.example/g00907/laws.FnIncreasing", spec := "fnIncreasing", unfollowed := true, recurses := true, apart := false, narrowed := true }
def FnIncreasingUptoSaid : Prop := fnIncreasingUptoRow.holds Try.pinned (OpenSpec.upto fnIncreasingSpec)

/-- 'laws.FnDescents', WHERE WHAT IT READS IS OF BULK AT MOST 1048576: true; the input reads as it did. -/
def fnDescentsUptoRow : OpenClaim := { program := "ytjlldjekjnlcaaa", sum := "451bf4ca259027da434fd866e2f5b6e8321f960e103d5ef22edd29bb00f8735d", func := "loop.example/g00907/laws.FnDescents", spec := "fnDescents", unfollowed := true, recurses := true, apart := false, narrowed := true }
def FnDescentsUptoSaid : Prop := fnDescentsUptoRow.holds Try.pinned (OpenSpec.upto fnDescentsSpec)

/-- 'laws.FnExactCountInversions', WHERE WHAT IT READS IS OF BULK AT MOST 1048576: true; the input reads as it did. -/
def fnExactCountInversionsUptoRow : OpenClaim := { program := "ytjlldjekjnlcaaa", sum := "451bf4ca259027da434fd866e2f5b6e8321f960e103d5ef22edd29bb00f8735d", func := "loop.example/g00907/laws.FnExactCountInversions", spec := "fnExactCountInversions", unfollowed := true, recurses := true, apart := false, narrowed := true }
def FnExactCountInversionsUptoSaid : Prop := fnExactCountInversionsUptoRow.holds Try.pinned (OpenSpec.upto fnExactCountInversionsSpec)

/-- 'laws.FnExactInversionTable', WHERE WHAT IT READS IS OF BULK AT MOST 1048576: true; the input reads as it did. -/
def fnExactInversionTableUptoRow : OpenClaim := { program := "ytjlldjekjnlcaaa", sum := "451bf4ca259027da434fd866e2f5b6e8321f960e103d5ef22edd29bb00f8735d", func := "loop.example/g00907/laws.FnExactInversionTable", spec := "fnExactInversionTable", apart := false, narrowed := true }
def FnExactInversionTableUptoSaid : Prop := fnExactInversionTableUptoRow.holds Try.pinned (OpenSpec.upto fnExactInversionTableSpec)

/-- 'laws.FnExactFromInversionTable', WHERE WHAT IT READS IS OF BULK AT MOST 1048576: true; the input reads as it did. -/
def fnExactFromInversionTableUptoRow : OpenClaim := { program := "ytjlldjekjnlcaaa", sum := "451bf4ca259027da434fd866e2f5b6e8321f960e103d5ef22edd29bb00f8735d", func := "loop.example/g00907/laws.FnExactFromInversionTable", spec := "fnExactFromInversionTable", apart := false, narrowed := true }
def FnExactFromInversionTableUptoSaid : Prop := fnExactFromInversionTableUptoRow.holds Try.pinned (OpenSpec.upto fnExactFromInversionTableSpec)

/-- 'laws.FnExactKendallDistance', WHERE WHAT IT READS IS OF BULK AT MOST 1048576: true; the input reads as it did. -/
def fnExactKendallDistanceUptoRow : OpenClaim := { program := "ytjlldjekjnlcaaa", sum := "451bf4ca259027da434fd866e2f5b6e8321f960e103d5ef22edd29bb00f8735d", func := "loop.example/g00907/laws.FnExactKendallDistance", spec := "fnExactKendallDistance", unfollowed := true, recurses := true, apart := false, narrowed := true }
def FnExactKendallDistanceUptoSaid : Prop := fnExactKendallDistanceUptoRow.holds Try.pinned (OpenSpec.upto fnExactKendallDistanceSpec)

/-- 'laws.FnExactSpearmanFootrule', WHERE WHAT IT READS IS OF BULK AT MOST 1048576: true; the input reads as it did. -/
def fnExactSpearmanFootruleUptoRow : OpenClaim := { program := "ytjlldjekjnlcaaa", sum := "451bf4ca259027da434fd866e2f5b6e8321f960e103d5ef22edd29bb00f8735d", func := "loop.example/g00907/laws.FnExactSpearmanFootrule", spec := "fnExactSpearmanFootrule", apart := false, narrowed := true }
def FnExactSpearmanFootruleUptoSaid : Prop := fnExactSpearmanFootruleUptoRow.holds Try.pinned (OpenSpec.upto fnExactSpearmanFootruleSpec)

/-- 'laws.FnExactLongestIncreasing', WHERE WHAT IT READS IS OF BULK AT MOST 1048576: true; the input reads as it did. -/
def fnExactLongestIncreasingUptoRow : OpenClaim := { program := "ytjlldjekjnlcaaa", sum := "451bf4ca259027da434fd866e2f5b6e8321f960e103d5ef22edd29bb00f8735d", func := "loop.example/g00907/laws.FnExactLongestIncreasing", spec := "fnExactLongestIncreasing", unfollowed := true, recurses := true, apart := false, narrowed := true }
def FnExactLongestIncreasingUptoSaid : Prop := fnExactLongestIncreasingUptoRow.holds Try.pinned (OpenSpec.upto fnExactLongestIncreasingSpec)

/-- 'laws.FnExactPatiencePiles', WHERE WHAT IT READS IS OF BULK AT MOST 1048576: true; the input reads as it did. -/
def fnExactPatiencePilesUptoRow : OpenClaim := { program := "ytjlldjekjnlcaaa", sum := "451bf4ca259027da434fd866e2f5b6e8321f960e103d5ef22edd29bb00f8735d", func := "loop.example/g00907/laws.FnExactPatiencePiles", spec := "fnExactPatiencePiles", unfollowed := true, recurses := true, apart := false, narrowed := true }
def FnExactPatiencePilesUptoSaid : Prop := fnExactPatiencePilesUptoRow.holds Try.pinned (OpenSpec.upto fnExactPatiencePilesSpec)

/-- 'laws.FnExactDescents', WHERE WHAT IT READS IS OF BULK AT MOST 1048576: true; the input reads as it did. -/
def fnExactDescentsUptoRow : OpenClaim := { program := "ytjlldjekjnlcaaa", sum := "451bf4ca259027da434fd866e2f5b6e8321f960e103d5ef22edd29bb00f8735d", func := "loop.example/g00907/laws.FnExactDescents", spec := "fnExactDescents", unfollowed := true, recurses := true, apart := false, narrowed := true }
def FnExactDescentsUptoSaid : Prop := fnExactDescentsUptoRow.holds Try.pinned (OpenSpec.upto fnExactDescentsSpec)

/-- 'laws.FnExactMajorIndex', WHERE WHAT IT READS IS OF BULK AT MOST 1048576: true; the input reads as it did. -/
def fnExactMajorIndexUptoRow : OpenClaim := { program := "ytjlldjekjnlcaaa", sum := "451bf4ca259027da434fd866e2f5b6e8321f960e103d5ef22edd29bb00f8735d", func := "loop.example/g00907/laws.FnExactMajorIndex", spec := "fnExactMajorIndex", unfollowed := true, recurses := true, apart := false, narrowed := true }
def FnExactMajorIndexUptoSaid : Prop := fnExactMajorIndexUptoRow.holds Try.pinned (OpenSpec.upto fnExactMajorIndexSpec)

end Rows
end Go.Proofs.Ytjlldjekjnlcaaa
