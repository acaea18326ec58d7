/-
  No cell of these rows narrows 'for every input' (looked for: loops, veiled, ifaces, maps, wideKeys, modest, calm, conditions, laid).
  DERIVED. THE GIVEN ROWS OF THIS SEAT. 14 by the template 'for every input the law returns true; each argument reads behind the call as it read before'; 0 by the template 'total and deterministic' (their statements: YtfcgnfhpfooelaaTotals.lean).
  GIVEN WITH THE SEED: the statements are not yours to turn. If you find one false, say at which input.
  Laid BY PROGRAM, IN A SANDBOX (cutbox-rows.mjs): the forced cells as the released guide's own fill.sh prints them over the translation dd7634a9b90dcf2b… (all of the seat's roots in one cut). By AI agents, Wed Nov 11 2026. No macro, syntax, notation, axiom, sorry.
-/
import Derived.Test.YtfcgnfhpfooelaaChecked
import GoSem.Claim
import GoSem.ClaimJoined
import GoSem.ClaimMapViews
import Derived.JoinedTies
import Derived.KernelRfl
namespace Go.Proofs.Ytfcgnfhpfooelaa
/- THE CELL 'sum', in the pinned program and in every row, IS THE sha256 OF THE DUMP (.gsa) THAT YtfcgnfhpfooelaaProg.lean LOADS. Nothing in Lean hashes anything: it is a label: what it is worth is what the hold of that sum in a sandbox is worth. -/
noncomputable def Try.pinned : Pinned := { name := "ytfcgnfhpfooelaa", sum := "dd7634a9b90dcf2b293e8a50be2fa123709dc29f61b38f0e2c3af6eff2fbd7e9", checked := Try.checked }
namespace Rows
def none {H : Type} : Left H := { results := [], args := [] }

/-- 'laws.FnOrders': WHATEVER THE INPUT: true; the input reads as it did. -/
def fnOrdersSpec : ChangeSpec := { name := "fnOrders", fn := fun _ => fun
  | [d] => { results := [.lit (.bool true)], args := [d] }
  | _ => none }
def fnOrdersRow : OpenClaim := { program := "ytfcgnfhpfooelaa", sum := "dd7634a9b90dcf2b293e8a50be2fa123709dc29f61b38f0e2c3af6eff2fbd7e9", func := "loop.example/g00907/laws.FnOrders", spec := "fnOrders", unfollowed := true, recurses := true, apart := false }
def FnOrdersSaid : Prop := fnOrdersRow.holds Try.pinned (OpenSpec.ofChange fnOrdersSpec)

/-- ITS FALSE NEIGHBOUR: 'it returns false'. Refute it at one input. -/
def fnOrdersWrong : ChangeSpec := { name := "fnOrders", fn := fun _ => fun
  | [d] => { results := [.lit (.bool false)], args := [d] }
  | _ => none }
def FnOrdersWrongFalsely : Prop := fnOrdersRow.holds Try.pinned (OpenSpec.ofChange fnOrdersWrong)

/-- 'laws.FnExactAdaptiveSort': WHATEVER THE INPUT: true; the input reads as it did. -/
def fnExactAdaptiveSortSpec : ChangeSpec := { name := "fnExactAdaptiveSort", fn := fun _ => fun
  | [d] => { results := [.lit (.bool true)], args := [d] }
  | _ => none }
def fnExactAdaptiveSortRow : OpenClaim := { program := "ytfcgnfhpfooelaa", sum := "dd7634a9b90dcf2b293e8a50be2fa123709dc29f61b38f0e2c3af6eff2fbd7e9", func := "loop.example/g00907/laws.FnExactAdaptiveSort", spec := "fnExactAdaptiveSort", unfollowed := true, recurses := true, apart := false }
def FnExactAdaptiveSortSaid : Prop := fnExactAdaptiveSortRow.holds Try.pinned (OpenSpec.ofChange fnExactAdaptiveSortSpec)

/-- ITS FALSE NEIGHBOUR: 'it returns false'. Refute it at one input. -/
def fnExactAdaptiveSortWrong : ChangeSpec := { name := "fnExactAdaptiveSort", fn := fun _ => fun
  | [d] => { results := [.lit (.bool false)], args := [d] }
  | _ => none }
def FnExactAdaptiveSortWrongFalsely : Prop := fnExactAdaptiveSortRow.holds Try.pinned (OpenSpec.ofChange fnExactAdaptiveSortWrong)

/-- 'laws.FnAdaptive': WHATEVER THE INPUT: true; the input reads as it did. -/
def fnAdaptiveSpec : ChangeSpec := { name := "fnAdaptive", fn := fun _ => fun
  | [d] => { results := [.lit (.bool true)], args := [d] }
  | _ => none }
def fnAdaptiveRow : OpenClaim := { program := "ytfcgnfhpfooelaa", sum := "dd7634a9b90dcf2b293e8a50be2fa123709dc29f61b38f0e2c3af6eff2fbd7e9", func := "loop.example/g00907/laws.FnAdaptive", spec := "fnAdaptive", unfollowed := true, recurses := true, apart := false }
def FnAdaptiveSaid : Prop := fnAdaptiveRow.holds Try.pinned (OpenSpec.ofChange fnAdaptiveSpec)

/-- ITS FALSE NEIGHBOUR: 'it returns false'. Refute it at one input. -/
def fnAdaptiveWrong : ChangeSpec := { name := "fnAdaptive", fn := fun _ => fun
  | [d] => { results := [.lit (.bool false)], args := [d] }
  | _ => none }
def FnAdaptiveWrongFalsely : Prop := fnAdaptiveRow.holds Try.pinned (OpenSpec.ofChange fnAdaptiveWrong)

/-- 'laws.FnHeap': WHATEVER THE INPUT: true; the input reads as it did. -/
def fnHeapSpec : ChangeSpec := { name := "fnHeap", fn := fun _ => fun
  | [d] => { results := [.lit (.bool true)], args := [d] }
  | _ => none }
def fnHeapRow : OpenClaim := { program := "ytfcgnfhpfooelaa", sum := "dd7634a9b90dcf2b293e8a50be2fa123709dc29f61b38f0e2c3af6eff2fbd7e9", func := "loop.example/g00907/laws.FnHeap", spec := "fnHeap", unfollowed := true, recurses := true, apart := false }
def FnHeapSaid : Prop := fnHeapRow.holds Try.pinned (OpenSpec.ofChange fnHeapSpec)

/-- ITS FALSE NEIGHBOUR: 'it returns false'. Refute it at one input. -/
def fnHeapWrong : ChangeSpec := { name := "fnHeap", fn := fun _ => fun
  | [d] => { results := [.lit (.bool false)], args := [d] }
  | _ => none }
def FnHeapWrongFalsely : Prop := fnHeapRow.holds Try.pinned (OpenSpec.ofChange fnHeapWrong)

/-- 'laws.FnHeapSteps': WHATEVER THE INPUT: true; the input reads as it did. -/
def fnHeapStepsSpec : ChangeSpec := { name := "fnHeapSteps", fn := fun _ => fun
  | [d] => { results := [.lit (.bool true)], args := [d] }
  | _ => none }
def fnHeapStepsRow : OpenClaim := { program := "ytfcgnfhpfooelaa", sum := "dd7634a9b90dcf2b293e8a50be2fa123709dc29f61b38f0e2c3af6eff2fbd7e9", func := "loop.example/g00907/laws.FnHeapSteps", spec := "fnHeapSteps", unfollowed := true, recurses := true, apart := false }
def FnHeapStepsSaid : Prop := fnHeapStepsRow.holds Try.pinned (OpenSpec.ofChange fnHeapStepsSpec)

/-- ITS FALSE NEIGHBOUR: 'it returns false'. Refute it at one input. -/
def fnHeapStepsWrong : ChangeSpec := { name := "fnHeapSteps", fn := fun _ => fun
  | [d] => { results := [.lit (.bool false)], args := [d] }
  | _ => none }
def FnHeapStepsWrongFalsely : Prop := fnHeapStepsRow.holds Try.pinned (OpenSpec.ofChange fnHeapStepsWrong)

/-- 'laws.FnHeapSort': WHATEVER THE INPUT: true; the input reads as it did. -/
def fnHeapSortSpec : ChangeSpec := { name := "fnHeapSort", fn := fun _ => fun
  | [d] => { results := [.lit (.bool true)], args := [d] }
  | _ => none }
def fnHeapSortRow : OpenClaim := { program := "ytfcgnfhpfooelaa", sum := "dd7634a9b90dcf2b293e8a50be2fa123709dc29f61b38f0e2c3af6eff2fbd7e9", func := "loop.example/g00907/laws.FnHeapSort", spec := "fnHeapSort", unfollowed := true, recurses := true, apart := false }
def FnHeapSortSaid : Prop := fnHeapSortRow.holds Try.pinned (OpenSpec.ofChange fnHeapSortSpec)

/-- ITS FALSE NEIGHBOUR: 'it returns false'. Refute it at one input. -/
def fnHeapSortWrong : ChangeSpec := { name := "fnHeapSort", fn := fun _ => fun
  | [d] => { results := [.lit (.bool false)], args := [d] }
  | _ => none }
def FnHeapSortWrongFalsely : Prop := fnHeapSortRow.holds Try.pinned (OpenSpec.ofChange fnHeapSortWrong)

/-- 'laws.FnExactIsHeap': WHATEVER THE INPUT: true; the input reads as it did. -/
def fnExactIsHeapSpec : ChangeSpec := { name := "fnExactIsHeap", fn := fun _ => fun
  | [d1, d2] => { results := [.lit (.bool true)], args := [d1, d2] }
  | _ => none }
def fnExactIsHeapRow : OpenClaim := { program := "ytfcgnfhpfooelaa", sum := "dd7634a9b90dcf2b293e8a50be2fa123709dc29f61b38f0e2c3af6eff2fbd7e9", func := "loop.example/g00907/laws.FnExactIsHeap", spec := "fnExactIsHeap", unfollowed := true, recurses := true, apart := false }
def FnExactIsHeapSaid : Prop := fnExactIsHeapRow.holds Try.pinned (OpenSpec.ofChange fnExactIsHeapSpec)

/-- ITS FALSE NEIGHBOUR: 'it returns false'. Refute it at one input. -/
def fnExactIsHeapWrong : ChangeSpec := { name := "fnExactIsHeap", fn := fun _ => fun
  | [d1, d2] => { results := [.lit (.bool false)], args := [d1, d2] }
  | _ => none }
def FnExactIsHeapWrongFalsely : Prop := fnExactIsHeapRow.holds Try.pinned (OpenSpec.ofChange fnExactIsHeapWrong)

/-- 'laws.FnExactBuildHeap': WHATEVER THE INPUT: true; the input reads as it did. -/
def fnExactBuildHeapSpec : ChangeSpec := { name := "fnExactBuildHeap", fn := fun _ => fun
  | [d1, d2] => { results := [.lit (.bool true)], args := [d1, d2] }
  | _ => none }
def fnExactBuildHeapRow : OpenClaim := { program := "ytfcgnfhpfooelaa", sum := "dd7634a9b90dcf2b293e8a50be2fa123709dc29f61b38f0e2c3af6eff2fbd7e9", func := "loop.example/g00907/laws.FnExactBuildHeap", spec := "fnExactBuildHeap", unfollowed := true, recurses := true, apart := false }
def FnExactBuildHeapSaid : Prop := fnExactBuildHeapRow.holds Try.pinned (OpenSpec.ofChange fnExactBuildHeapSpec)

/-- ITS FALSE NEIGHBOUR: 'it returns false'. Refute it at one input. -/
def fnExactBuildHeapWrong : ChangeSpec := { name := "fnExactBuildHeap", fn := fun _ => fun
  | [d1, d2] => { results := [.lit (.bool false)], args := [d1, d2] }
  | _ => none }
def FnExactBuildHeapWrongFalsely : Prop := fnExactBuildHeapRow.holds Try.pinned (OpenSpec.ofChange fnExactBuildHeapWrong)

/-- 'laws.FnExactPushHeap': WHATEVER THE INPUT: true; the input reads as it did. -/
def fnExactPushHeapSpec : ChangeSpec := { name := "fnExactPushHeap", fn := fun _ => fun
  | [d1, d2, d3] => { results := [.lit (.bool true)], args := [d1, d2, d3] }
  | _ => none }
def fnExactPushHeapRow : OpenClaim := { program := "ytfcgnfhpfooelaa", sum := "dd7634a9b90dcf2b293e8a50be2fa123709dc29f61b38f0e2c3af6eff2fbd7e9", func := "loop.example/g00907/laws.FnExactPushHeap", spec := "fnExactPushHeap", unfollowed := true, recurses := true, apart := false }
def FnExactPushHeapSaid : Prop := fnExactPushHeapRow.holds Try.pinned (OpenSpec.ofChange fnExactPushHeapSpec)

/-- ITS FALSE NEIGHBOUR: 'it returns false'. Refute it at one input. -/
def fnExactPushHeapWrong : ChangeSpec := { name := "fnExactPushHeap", fn := fun _ => fun
  | [d1, d2, d3] => { results := [.lit (.bool false)], args := [d1, d2, d3] }
  | _ => none }
def FnExactPushHeapWrongFalsely : Prop := fnExactPushHeapRow.holds Try.pinned (OpenSpec.ofChange fnExactPushHeapWrong)

/-- 'laws.FnExactPopHeap': WHATEVER THE INPUT: true; the input reads as it did. -/
def fnExactPopHeapSpec : ChangeSpec := { name := "fnExactPopHeap", fn := fun _ => fun
  | [d1, d2] => { results := [.lit (.bool true)], args := [d1, d2] }
  | _ => none }
def fnExactPopHeapRow : OpenClaim := { program := "ytfcgnfhpfooelaa", sum := "dd7634a9b90dcf2b293e8a50be2fa123709dc29f61b38f0e2c3af6eff2fbd7e9", func := "loop.example/g00907/laws.FnExactPopHeap", spec := "fnExactPopHeap", unfollowed := true, recurses := true, apart := false }
def FnExactPopHeapSaid : Prop := fnExactPopHeapRow.holds Try.pinned (OpenSpec.ofChange fnExactPopHeapSpec)

/-- ITS FALSE NEIGHBOUR: 'it returns false'. Refute it at one input. -/
def fnExactPopHeapWrong : ChangeSpec := { name := "fnExactPopHeap", fn := fun _ => fun
  | [d1, d2] => { results := [.lit (.bool false)], args := [d1, d2] }
  | _ => none }
def FnExactPopHeapWrongFalsely : Prop := fnExactPopHeapRow.holds Try.pinned (OpenSpec.ofChange fnExactPopHeapWrong)

/-- 'laws.FnExactReplaceTop': WHATEVER THE INPUT: true; the input reads as it did. -/
def fnExactReplaceTopSpec : ChangeSpec := { name := "fnExactReplaceTop", fn := fun _ => fun
  | [d1, d2, d3] => { results := [.lit (.bool true)], args := [d1, d2, d3] }
  | _ => none }
def fnExactReplaceTopRow : OpenClaim := { program := "ytfcgnfhpfooelaa", sum := "dd7634a9b90dcf2b293e8a50be2fa123709dc29f61b38f0e2c3af6eff2fbd7e9", func := "loop.example/g00907/laws.FnExactReplaceTop", spec := "fnExactReplaceTop", unfollowed := true, recurses := true, apart := false }
def FnExactReplaceTopSaid : Prop := fnExactReplaceTopRow.holds Try.pinned (OpenSpec.ofChange fnExactReplaceTopSpec)

/-- ITS FALSE NEIGHBOUR: 'it returns false'. Refute it at one input. -/
def fnExactReplaceTopWrong : ChangeSpec := { name := "fnExactReplaceTop", fn := fun _ => fun
  | [d1, d2, d3] => { results := [.lit (.bool false)], args := [d1, d2, d3] }
  | _ => none }
def FnExactReplaceTopWrongFalsely : Prop := fnExactReplaceTopRow.holds Try.pinned (OpenSpec.ofChange fnExactReplaceTopWrong)

/-- 'laws.FnExactHeapSort': WHATEVER THE INPUT: true; the input reads as it did. -/
def fnExactHeapSortSpec : ChangeSpec := { name := "fnExactHeapSort", fn := fun _ => fun
  | [d1, d2] => { results := [.lit (.bool true)], args := [d1, d2] }
  | _ => none }
def fnExactHeapSortRow : OpenClaim := { program := "ytfcgnfhpfooelaa", sum := "dd7634a9b90dcf2b293e8a50be2fa123709dc29f61b38f0e2c3af6eff2fbd7e9", func := "loop.example/g00907/laws.FnExactHeapSort", spec := "fnExactHeapSort", unfollowed := true, recurses := true, apart := false }
def FnExactHeapSortSaid : Prop := fnExactHeapSortRow.holds Try.pinned (OpenSpec.ofChange fnExactHeapSortSpec)

/-- ITS FALSE NEIGHBOUR: 'it returns false'. Refute it at one input. -/
def fnExactHeapSortWrong : ChangeSpec := { name := "fnExactHeapSort", fn := fun _ => fun
  | [d1, d2] => { results := [.lit (.bool false)], args := [d1, d2] }
  | _ => none }
def FnExactHeapSortWrongFalsely : Prop := fnExactHeapSortRow.holds Try.pinned (OpenSpec.ofChange fnExactHeapSortWrong)

/-- 'laws.FnExactHeapDepth': WHATEVER THE INPUT: true; the input reads as it did. -/
def fnExactHeapDepthSpec : ChangeSpec := { name := "fnExactHeapDepth", fn := fun _ => fun
  | [d1, d2] => { results := [.lit (.bool true)], args := [d1, d2] }
  | _ => none }
def fnExactHeapDepthRow : OpenClaim := { program := "ytfcgnfhpfooelaa", sum := "dd7634a9b90dcf2b293e8a50be2fa123709dc29f61b38f0e2c3af6eff2fbd7e9", func := "loop.example/g00907/laws.FnExactHeapDepth", spec := "fnExactHeapDepth", apart := false }
def FnExactHeapDepthSaid : Prop := fnExactHeapDepthRow.holds Try.pinned (OpenSpec.ofChange fnExactHeapDepthSpec)

/-- ITS FALSE NEIGHBOUR: 'it returns false'. Refute it at one input. -/
def fnExactHeapDepthWrong : ChangeSpec := { name := "fnExactHeapDepth", fn := fun _ => fun
  | [d1, d2] => { results := [.lit (.bool false)], args := [d1, d2] }
  | _ => none }
def FnExactHeapDepthWrongFalsely : Prop := fnExactHeapDepthRow.holds Try.pinned (OpenSpec.ofChange fnExactHeapDepthWrong)

/-- 'laws.FnExactMergeHeaps': WHATEVER THE INPUT: true; the input reads as it did. -/
def fnExactMergeHeapsSpec : ChangeSpec := { name := "fnExactMergeHeaps", fn := fun _ => fun
  | [d1, d2, d3] => { results := [.lit (.bool true)], args := [d1, d2, d3] }
  | _ => none }
def fnExactMergeHeapsRow : OpenClaim := { program := "ytfcgnfhpfooelaa", sum := "dd7634a9b90dcf2b293e8a50be2fa123709dc29f61b38f0e2c3af6eff2fbd7e9", func := "loop.example/g00907/laws.FnExactMergeHeaps", spec := "fnExactMergeHeaps", unfollowed := true, recurses := true, apart := false }
def FnExactMergeHeapsSaid : Prop := fnExactMergeHeapsRow.holds Try.pinned (OpenSpec.ofChange fnExactMergeHeapsSpec)

/-- ITS FALSE NEIGHBOUR: 'it returns false'. Refute it at one input. -/
def fnExactMergeHeapsWrong : ChangeSpec := { name := "fnExactMergeHeaps", fn := fun _ => fun
  | [d1, d2, d3] => { results := [.lit (.bool false)], args := [d1, d2, d3] }
  | _ => none }
def FnExactMergeHeapsWrongFalsely : Prop := fnExactMergeHeapsRow.holds Try.pinned (OpenSpec.ofChange fnExactMergeHeapsWrong)

/- THE SECOND FORM. 'bulk': how many values and letters a reading holds, each counted each time it is reached (what is shared counts as often as it is met; a slice's spare places count too). A statement '..UptoSaid' is the law's where the arguments, and the package variables that the reading takes, are together of bulk at most 1048576: NARROWER than '..Said'. Prove '..Said' where nothing that the law and all that it calls make is longer than what came in: it says more and counts as full. Else prove '..UptoSaid'. A law counts once. -/
mutual
def uptoBulk {H : Type} : DataW H → Nat
  | .lit (.string bytes) => bytes.length + 1
  | .lit _ => 1
  | .nil => 1
  | .ptr d => uptoBulk d + 1
  | .slice elems spare => uptoBulkAll elems + uptoBulkAll spare + 1
  | .agg parts => uptoBulkAll parts + 1
  | .iface _ d => uptoBulk d + 1
  | .map entries => uptoBulkEntries entries + 1
  | .held _ => 1
def uptoBulkAll {H : Type} : List (DataW H) → Nat
  | [] => 0
  | d :: r => uptoBulk d + uptoBulkAll r
def uptoBulkEntries {H : Type} : List (Lit × DataW H) → Nat
  | [] => 0
  | x :: r => uptoBulkEntry x + uptoBulkEntries r
def uptoBulkEntry {H : Type} : Lit × DataW H → Nat
  | (.string bytes, d) => bytes.length + uptoBulk d + 1
  | (_, d) => uptoBulk d + 1
 end
def uptoSmall : (H : Type) → List (DataW H) → Bool := fun _ ds => decide (uptoBulkAll ds ≤ 1048576)
def OpenSpec.upto (s : _root_.Go.ChangeSpec) : _root_.Go.OpenSpec := { _root_.Go.OpenSpec.ofChange s with cond := some uptoSmall }

/-- 'laws.FnOrders', WHERE WHAT IT READS IS OF BULK AT MOST 1048576: true; the input reads as it did. -/
def fnOrdersUptoRow : OpenClaim := { program := "ytfcgnfhpfooelaa", sum := "dd7634a9b90dcf2b293e8a50be2fa123709dc29f61b38f0e2c3af6eff2fbd7e9", func := "loop.example/g00907/laws.FnOrders", spec := "fnOrders", unfollowed := true, recurses := true, apart := false, narrowed := true }
def FnOrdersUptoSaid : Prop := fnOrdersUptoRow.holds Try.pinned (OpenSpec.upto fnOrdersSpec)

/-- 'laws.FnExactAdaptiveSort', WHERE WHAT IT READS IS OF BULK AT MOST 1048576: true; the input reads as it did. -/
def fnExactAdaptiveSortUptoRow : OpenClaim := { program := "ytfcgnfhpfooelaa", sum := "dd7634a9b90dcf2b293e8a50be2fa123709dc29f61b38f0e2c3af6eff2fbd7e9", func := "loop.example/g00907/laws.FnExactAdaptiveSort", spec := "fnExactAdaptiveSort", unfollowed := true, recurses := true, apart := false, narrowed := true }
def FnExactAdaptiveSortUptoSaid : Prop := fnExactAdaptiveSortUptoRow.holds Try.pinned (OpenSpec.upto fnExactAdaptiveSortSpec)

/-- 'laws.FnAdaptive', WHERE WHAT IT READS IS OF BULK AT MOST 1048576: true; the input reads as it did. -/
def fnAdaptiveUptoRow : OpenClaim := { program := "ytfcgnfhpfooelaa", sum := "dd7634a9b90dcf2b293e8a50be2fa123709dc29f61b38f0e2c3af6eff2fbd7e9", func := "loop.example/g00907/laws.FnAdaptive", spec := "fnAdaptive", unfollowed := true, recurses := true, apart := false, narrowed := true }
def FnAdaptiveUptoSaid : Prop := fnAdaptiveUptoRow.holds Try.pinned (OpenSpec.upto fnAdaptiveSpec)

/-- 'laws.FnHeap', WHERE WHAT IT READS IS OF BULK AT MOST 1048576: true; the input reads as it did. -/
def fnHeapUptoRow : OpenClaim := { program := "ytfcgnfhpfooelaa", sum := "dd7634a9b90dcf2b293e8a50be2fa123709dc29f61b38f0e2c3af6eff2fbd7e9", func := "loop.example/g00907/laws.FnHeap", spec := "fnHeap", unfollowed := true, recurses := true, apart := false, narrowed := true }
def FnHeapUptoSaid : Prop := fnHeapUptoRow.holds Try.pinned (OpenSpec.upto fnHeapSpec)

/-- 'laws.FnHeapSteps', WHERE WHAT IT READS IS OF BULK AT MOST 1048576: true; the input reads as it did. -/
def fnHeapStepsUptoRow : OpenClaim := { program := "ytfcgnfhpfooelaa", sum := "dd7634a9b90dcf2b293e8a50be2fa123709dc29f61b38f0e2c3af6eff2fbd7e9", func := "loop.example/g00907/laws.FnHeapSteps", spec := "fnHeapSteps", unfollowed := true, recurses := true, apart := false, narrowed := true }
def FnHeapStepsUptoSaid : Prop := fnHeapStepsUptoRow.holds Try.pinned (OpenSpec.upto fnHeapStepsSpec)

/-- 'laws.FnHeapSort', WHERE WHAT IT READS IS OF BULK AT MOST 1048576: true; the input reads as it did. -/
def fnHeapSortUptoRow : OpenClaim := { program := "ytfcgnfhpfooelaa", sum := "dd7634a9b90dcf2b293e8a50be2fa123709dc29f61b38f0e2c3af6eff2fbd7e9", func := "loop.example/g00907/laws.FnHeapSort", spec := "fnHeapSort", unfollowed := true, recurses := true, apart := false, narrowed := true }
def FnHeapSortUptoSaid : Prop := fnHeapSortUptoRow.holds Try.pinned (OpenSpec.upto fnHeapSortSpec)

/-- 'laws.FnExactIsHeap', WHERE WHAT IT READS IS OF BULK AT MOST 1048576: true; the input reads as it did. -/
def fnExactIsHeapUptoRow : OpenClaim := { program := "ytfcgnfhpfooelaa", sum := "dd7634a9b90dcf2b293e8a50be2fa123709dc29f61b38f0e2c3af6eff2fbd7e9", func := "loop.example/g00907/laws.FnExactIsHeap", spec := "fnExactIsHeap", unfollowed := true, recurses := true, apart := false, narrowed := true }
def FnExactIsHeapUptoSaid : Prop := fnExactIsHeapUptoRow.holds Try.pinned (OpenSpec.upto fnExactIsHeapSpec)

/-- 'laws.FnExactBuildHeap', WHERE WHAT IT READS IS OF BULK AT MOST 1048576: true; the input reads as it did. -/
def fnExactBuildHeapUptoRow : OpenClaim := { program := "ytfcgnfhpfooelaa", sum := "dd7634a9b90dcf2b293e8a50be2fa123709dc29f61b38f0e2c3af6eff2fbd7e9", func := "loop.example/g00907/laws.FnExactBuildHeap", spec := "fnExactBuildHeap", unfollowed := true, recurses := true, apart := false, narrowed := true }
def FnExactBuildHeapUptoSaid : Prop := fnExactBuildHeapUptoRow.holds Try.pinned (OpenSpec.upto fnExactBuildHeapSpec)

/-- 'laws.FnExactPushHeap', WHERE WHAT IT READS IS OF BULK AT MOST 1048576: true; the input reads as it did. -/
def fnExactPushHeapUptoRow : OpenClaim := { program := "ytfcgnfhpfooelaa", sum := "dd7634a9b90dcf2b293e8a50be2fa123709dc29f61b38f0e2c3af6eff2fbd7e9", func := "loop.example/g00907/laws.FnExactPushHeap", spec := "fnExactPushHeap", unfollowed := true, recurses := true, apart := false, narrowed := true }
def FnExactPushHeapUptoSaid : Prop := fnExactPushHeapUptoRow.holds Try.pinned (OpenSpec.upto fnExactPushHeapSpec)

/-- 'laws.FnExactPopHeap', WHERE WHAT IT READS IS OF BULK AT MOST 1048576: true; the input reads as it did. -/
def fnExactPopHeapUptoRow : OpenClaim := { program := "ytfcgnfhpfooelaa", sum := "dd7634a9b90dcf2b293e8a50be2fa123709dc29f61b38f0e2c3af6eff2fbd7e9", func := "loop.example/g00907/laws.FnExactPopHeap", spec := "fnExactPopHeap", unfollowed := true, recurses := true, apart := false, narrowed := true }
def FnExactPopHeapUptoSaid : Prop := fnExactPopHeapUptoRow.holds Try.pinned (OpenSpec.upto fnExactPopHeapSpec)

/-- 'laws.FnExactReplaceTop', WHERE WHAT IT READS IS OF BULK AT MOST 1048576: true; the input reads as it did. -/
def fnExactReplaceTopUptoRow : OpenClaim := { program := "ytfcgnfhpfooelaa", sum := "dd7634a9b90dcf2b293e8a50be2fa123709dc29f61b38f0e2c3af6eff2fbd7e9", func := "loop.example/g00907/laws.FnExactReplaceTop", spec := "fnExactReplaceTop", unfollowed := true, recurses := true, apart := false, narrowed := true }
def FnExactReplaceTopUptoSaid : Prop := fnExactReplaceTopUptoRow.holds Try.pinned (OpenSpec.upto fnExactReplaceTopSpec)

/-- 'laws.FnExactHeapSort', WHERE WHAT IT READS IS OF BULK AT MOST 1048576: true; the input reads as it did. -/
def fnExactHeapSortUptoRow : OpenClaim := { program := "ytfcgnfhpfooelaa", sum := "dd7634a9b90dcf2b293e8a50be2fa123709dc29f61b38f0e2c3af6eff2fbd7e9", func := "loop.example/g00907/laws.FnExactHeapSort", spec := "fnExactHeapSort", unfollowed := true, recurses := true, apart := false, narrowed := true }
def FnExactHeapSortUptoSaid : Prop := fnExactHeapSortUptoRow.holds Try.pinned (OpenSpec.upto fnExactHeapSortSpec)

/-- 'laws.FnExactHeapDepth', WHERE WHAT IT READS IS OF BULK AT MOST 1048576: true; the input reads as it did. -/
def fnExactHeapDepthUptoRow : OpenClaim := { program := "ytfcgnfhpfooelaa", sum := "dd7634a9b90dcf2b293e8a50be2fa123709dc29f61b38f0e2c3af6eff2fbd7e9", func := "loop.example/g00907/laws.FnExactHeapDepth", spec := "fnExactHeapDepth", apart := false, narrowed := true }
def FnExactHeapDepthUptoSaid : Prop := fnExactHeapDepthUptoRow.holds Try.pinned (OpenSpec.upto fnExactHeapDepthSpec)

/-- 'laws.FnExactMergeHeaps', WHERE WHAT IT READS IS OF BULK AT MOST 1048576: true; the input reads as it did. -/
def fnExactMergeHeapsUptoRow : OpenClaim := { program := "ytfcgnfhpfooelaa", sum := "dd7634a9b90dcf2b293e8a50be2fa123709dc29f61b38f0e2c3af6eff2fbd7e9", func := "loop.example/g00907/laws.FnExactMergeHeaps", spec := "fnExactMergeHeaps", unfollowed := true, recurses := true, apart := false, narrowed := true }
def FnExactMergeHeapsUptoSaid : Prop := fnExactMergeHeapsUptoRow.holds Try.pinned (OpenSpec.upto fnExactMergeHeapsSpec)

end Rows
end Go.Proofs.Ytfcgnfhpfooelaa
