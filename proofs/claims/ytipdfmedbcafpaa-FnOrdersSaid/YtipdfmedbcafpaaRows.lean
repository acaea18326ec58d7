/-
  No cell of these rows narrows 'for every input' (looked for: loops, veiled, ifaces, maps, wideKeys, modest, calm, conditions, laid).
  DERIVED. THE GIVEN ROWS OF THIS SEAT. 13 by the template 'for every input the law returns true; each argument reads behind the call as it read before'; 0 by the template 'total and deterministic' (their statements: YtipdfmedbcafpaaTotals.lean).
  GIVEN WITH THE SEED: the statements are not yours to turn. If you find one false, say at which input.
  Laid BY PROGRAM, IN A SANDBOX (cutbox-rows.mjs): the forced cells as the released guide's own fill.sh prints them over the translation 54d9a1b9ef17af7d… (all of the seat's roots in one cut). By AI agents, Wed Nov 11 2026. No macro, syntax, notation, axiom, sorry.
-/
import Derived.Test.YtipdfmedbcafpaaChecked
import GoSem.Claim
import GoSem.ClaimJoined
import GoSem.ClaimMapViews
import Derived.JoinedTies
import Derived.KernelRfl
namespace Go.Proofs.Ytipdfmedbcafpaa
/- THE CELL 'sum', in the pinned program and in every row, IS THE sha256 OF THE DUMP (.gsa) THAT YtipdfmedbcafpaaProg.lean LOADS. Nothing in Lean hashes anything: it is a label: what it is worth is what the hold of that sum in a sandbox is worth. -/
noncomputable def Try.pinned : Pinned := { name := "ytipdfmedbcafpaa", sum := "54d9a1b9ef17af7d7fce633b5b930cf03376569cb95a6f5cbdf3c6313f0e18d1", checked := Try.checked }
namespace Rows
def none {H : Type} : Left H := { results := [], args := [] }

/-- 'laws.FnOrders': WHATEVER THE INPUT: true; the input reads as it did. -/
def fnOrdersSpec : ChangeSpec := { name := "fnOrders", fn := fun _ => fun
  | [d] => { results := [.lit (.bool true)], args := [d] }
  | _ => none }
def fnOrdersRow : OpenClaim := { program := "ytipdfmedbcafpaa", sum := "54d9a1b9ef17af7d7fce633b5b930cf03376569cb95a6f5cbdf3c6313f0e18d1", func := "loop.example/g00907/laws.FnOrders", spec := "fnOrders", unfollowed := true, recurses := true, apart := false }
def FnOrdersSaid : Prop := fnOrdersRow.holds Try.pinned (OpenSpec.ofChange fnOrdersSpec)

/-- ITS FALSE NEIGHBOUR: 'it returns false'. Refute it at one input. -/
def fnOrdersWrong : ChangeSpec := { name := "fnOrders", fn := fun _ => fun
  | [d] => { results := [.lit (.bool false)], args := [d] }
  | _ => none }
def FnOrdersWrongFalsely : Prop := fnOrdersRow.holds Try.pinned (OpenSpec.ofChange fnOrdersWrong)

/-- 'laws.FnExactAdaptiveSort': WHATEVER THE INPUT: true; the input reads as it did. -/
def fnExactAdaptiveSortSpec : ChangeSpec := { name := "fnExactAdaptiveSort", fn := fun _ => fun
  | [d] => { results := [.lit (.bool true)], args := [d] }
  | _ => none }
def fnExactAdaptiveSortRow : OpenClaim := { program := "ytipdfmedbcafpaa", sum := "54d9a1b9ef17af7d7fce633b5b930cf03376569cb95a6f5cbdf3c6313f0e18d1", func := "loop.example/g00907/laws.FnExactAdaptiveSort", spec := "fnExactAdaptiveSort", unfollowed := true, recurses := true, apart := false }
def FnExactAdaptiveSortSaid : Prop := fnExactAdaptiveSortRow.holds Try.pinned (OpenSpec.ofChange fnExactAdaptiveSortSpec)

/-- ITS FALSE NEIGHBOUR: 'it returns false'. Refute it at one input. -/
def fnExactAdaptiveSortWrong : ChangeSpec := { name := "fnExactAdaptiveSort", fn := fun _ => fun
  | [d] => { results := [.lit (.bool false)], args := [d] }
  | _ => none }
def FnExactAdaptiveSortWrongFalsely : Prop := fnExactAdaptiveSortRow.holds Try.pinned (OpenSpec.ofChange fnExactAdaptiveSortWrong)

/-- 'laws.FnAdaptive': WHATEVER THE INPUT: true; the input reads as it did. -/
def fnAdaptiveSpec : ChangeSpec := { name := "fnAdaptive", fn := fun _ => fun
  | [d] => { results := [.lit (.bool true)], args := [d] }
  | _ => none }
def fnAdaptiveRow : OpenClaim := { program := "ytipdfmedbcafpaa", sum := "54d9a1b9ef17af7d7fce633b5b930cf03376569cb95a6f5cbdf3c6313f0e18d1", func := "loop.example/g00907/laws.FnAdaptive", spec := "fnAdaptive", unfollowed := true, recurses := true, apart := false }
def FnAdaptiveSaid : Prop := fnAdaptiveRow.holds Try.pinned (OpenSpec.ofChange fnAdaptiveSpec)

/-- ITS FALSE NEIGHBOUR: 'it returns false'. Refute it at one input. -/
def fnAdaptiveWrong : ChangeSpec := { name := "fnAdaptive", fn := fun _ => fun
  | [d] => { results := [.lit (.bool false)], args := [d] }
  | _ => none }
def FnAdaptiveWrongFalsely : Prop := fnAdaptiveRow.holds Try.pinned (OpenSpec.ofChange fnAdaptiveWrong)

/-- 'laws.FnPartition': WHATEVER THE INPUT: true; the input reads as it did. -/
def fnPartitionSpec : ChangeSpec := { name := "fnPartition", fn := fun _ => fun
  | [d] => { results := [.lit (.bool true)], args := [d] }
  | _ => none }
def fnPartitionRow : OpenClaim := { program := "ytipdfmedbcafpaa", sum := "54d9a1b9ef17af7d7fce633b5b930cf03376569cb95a6f5cbdf3c6313f0e18d1", func := "loop.example/g00907/laws.FnPartition", spec := "fnPartition", unfollowed := true, recurses := true, apart := false }
def FnPartitionSaid : Prop := fnPartitionRow.holds Try.pinned (OpenSpec.ofChange fnPartitionSpec)

/-- ITS FALSE NEIGHBOUR: 'it returns false'. Refute it at one input. -/
def fnPartitionWrong : ChangeSpec := { name := "fnPartition", fn := fun _ => fun
  | [d] => { results := [.lit (.bool false)], args := [d] }
  | _ => none }
def FnPartitionWrongFalsely : Prop := fnPartitionRow.holds Try.pinned (OpenSpec.ofChange fnPartitionWrong)

/-- 'laws.FnThreeWay': WHATEVER THE INPUT: true; the input reads as it did. -/
def fnThreeWaySpec : ChangeSpec := { name := "fnThreeWay", fn := fun _ => fun
  | [d] => { results := [.lit (.bool true)], args := [d] }
  | _ => none }
def fnThreeWayRow : OpenClaim := { program := "ytipdfmedbcafpaa", sum := "54d9a1b9ef17af7d7fce633b5b930cf03376569cb95a6f5cbdf3c6313f0e18d1", func := "loop.example/g00907/laws.FnThreeWay", spec := "fnThreeWay", unfollowed := true, recurses := true, apart := false }
def FnThreeWaySaid : Prop := fnThreeWayRow.holds Try.pinned (OpenSpec.ofChange fnThreeWaySpec)

/-- ITS FALSE NEIGHBOUR: 'it returns false'. Refute it at one input. -/
def fnThreeWayWrong : ChangeSpec := { name := "fnThreeWay", fn := fun _ => fun
  | [d] => { results := [.lit (.bool false)], args := [d] }
  | _ => none }
def FnThreeWayWrongFalsely : Prop := fnThreeWayRow.holds Try.pinned (OpenSpec.ofChange fnThreeWayWrong)

/-- 'laws.FnQuick': WHATEVER THE INPUT: true; the input reads as it did. -/
def fnQuickSpec : ChangeSpec := { name := "fnQuick", fn := fun _ => fun
  | [d] => { results := [.lit (.bool true)], args := [d] }
  | _ => none }
def fnQuickRow : OpenClaim := { program := "ytipdfmedbcafpaa", sum := "54d9a1b9ef17af7d7fce633b5b930cf03376569cb95a6f5cbdf3c6313f0e18d1", func := "loop.example/g00907/laws.FnQuick", spec := "fnQuick", unfollowed := true, recurses := true, apart := false }
def FnQuickSaid : Prop := fnQuickRow.holds Try.pinned (OpenSpec.ofChange fnQuickSpec)

/-- ITS FALSE NEIGHBOUR: 'it returns false'. Refute it at one input. -/
def fnQuickWrong : ChangeSpec := { name := "fnQuick", fn := fun _ => fun
  | [d] => { results := [.lit (.bool false)], args := [d] }
  | _ => none }
def FnQuickWrongFalsely : Prop := fnQuickRow.holds Try.pinned (OpenSpec.ofChange fnQuickWrong)

/-- 'laws.FnExactPartitionLomuto': WHATEVER THE INPUT: true; the input reads as it did. -/
def fnExactPartitionLomutoSpec : ChangeSpec := { name := "fnExactPartitionLomuto", fn := fun _ => fun
  | [d1, d2] => { results := [.lit (.bool true)], args := [d1, d2] }
  | _ => none }
def fnExactPartitionLomutoRow : OpenClaim := { program := "ytipdfmedbcafpaa", sum := "54d9a1b9ef17af7d7fce633b5b930cf03376569cb95a6f5cbdf3c6313f0e18d1", func := "loop.example/g00907/laws.FnExactPartitionLomuto", spec := "fnExactPartitionLomuto", unfollowed := true, recurses := true, apart := false }
def FnExactPartitionLomutoSaid : Prop := fnExactPartitionLomutoRow.holds Try.pinned (OpenSpec.ofChange fnExactPartitionLomutoSpec)

/-- ITS FALSE NEIGHBOUR: 'it returns false'. Refute it at one input. -/
def fnExactPartitionLomutoWrong : ChangeSpec := { name := "fnExactPartitionLomuto", fn := fun _ => fun
  | [d1, d2] => { results := [.lit (.bool false)], args := [d1, d2] }
  | _ => none }
def FnExactPartitionLomutoWrongFalsely : Prop := fnExactPartitionLomutoRow.holds Try.pinned (OpenSpec.ofChange fnExactPartitionLomutoWrong)

/-- 'laws.FnExactPartitionHoare': WHATEVER THE INPUT: true; the input reads as it did. -/
def fnExactPartitionHoareSpec : ChangeSpec := { name := "fnExactPartitionHoare", fn := fun _ => fun
  | [d] => { results := [.lit (.bool true)], args := [d] }
  | _ => none }
def fnExactPartitionHoareRow : OpenClaim := { program := "ytipdfmedbcafpaa", sum := "54d9a1b9ef17af7d7fce633b5b930cf03376569cb95a6f5cbdf3c6313f0e18d1", func := "loop.example/g00907/laws.FnExactPartitionHoare", spec := "fnExactPartitionHoare", unfollowed := true, recurses := true, apart := false }
def FnExactPartitionHoareSaid : Prop := fnExactPartitionHoareRow.holds Try.pinned (OpenSpec.ofChange fnExactPartitionHoareSpec)

/-- ITS FALSE NEIGHBOUR: 'it returns false'. Refute it at one input. -/
def fnExactPartitionHoareWrong : ChangeSpec := { name := "fnExactPartitionHoare", fn := fun _ => fun
  | [d] => { results := [.lit (.bool false)], args := [d] }
  | _ => none }
def FnExactPartitionHoareWrongFalsely : Prop := fnExactPartitionHoareRow.holds Try.pinned (OpenSpec.ofChange fnExactPartitionHoareWrong)

/-- 'laws.FnExactPartitionThreeWay': WHATEVER THE INPUT: true; the input reads as it did. -/
def fnExactPartitionThreeWaySpec : ChangeSpec := { name := "fnExactPartitionThreeWay", fn := fun _ => fun
  | [d1, d2] => { results := [.lit (.bool true)], args := [d1, d2] }
  | _ => none }
def fnExactPartitionThreeWayRow : OpenClaim := { program := "ytipdfmedbcafpaa", sum := "54d9a1b9ef17af7d7fce633b5b930cf03376569cb95a6f5cbdf3c6313f0e18d1", func := "loop.example/g00907/laws.FnExactPartitionThreeWay", spec := "fnExactPartitionThreeWay", unfollowed := true, recurses := true, apart := false }
def FnExactPartitionThreeWaySaid : Prop := fnExactPartitionThreeWayRow.holds Try.pinned (OpenSpec.ofChange fnExactPartitionThreeWaySpec)

/-- ITS FALSE NEIGHBOUR: 'it returns false'. Refute it at one input. -/
def fnExactPartitionThreeWayWrong : ChangeSpec := { name := "fnExactPartitionThreeWay", fn := fun _ => fun
  | [d1, d2] => { results := [.lit (.bool false)], args := [d1, d2] }
  | _ => none }
def FnExactPartitionThreeWayWrongFalsely : Prop := fnExactPartitionThreeWayRow.holds Try.pinned (OpenSpec.ofChange fnExactPartitionThreeWayWrong)

/-- 'laws.FnExactMedianIndex': WHATEVER THE INPUT: true; the input reads as it did. -/
def fnExactMedianIndexSpec : ChangeSpec := { name := "fnExactMedianIndex", fn := fun _ => fun
  | [d] => { results := [.lit (.bool true)], args := [d] }
  | _ => none }
def fnExactMedianIndexRow : OpenClaim := { program := "ytipdfmedbcafpaa", sum := "54d9a1b9ef17af7d7fce633b5b930cf03376569cb95a6f5cbdf3c6313f0e18d1", func := "loop.example/g00907/laws.FnExactMedianIndex", spec := "fnExactMedianIndex", unfollowed := true, recurses := true, apart := false }
def FnExactMedianIndexSaid : Prop := fnExactMedianIndexRow.holds Try.pinned (OpenSpec.ofChange fnExactMedianIndexSpec)

/-- ITS FALSE NEIGHBOUR: 'it returns false'. Refute it at one input. -/
def fnExactMedianIndexWrong : ChangeSpec := { name := "fnExactMedianIndex", fn := fun _ => fun
  | [d] => { results := [.lit (.bool false)], args := [d] }
  | _ => none }
def FnExactMedianIndexWrongFalsely : Prop := fnExactMedianIndexRow.holds Try.pinned (OpenSpec.ofChange fnExactMedianIndexWrong)

/-- 'laws.FnExactQuickSort': WHATEVER THE INPUT: true; the input reads as it did. -/
def fnExactQuickSortSpec : ChangeSpec := { name := "fnExactQuickSort", fn := fun _ => fun
  | [d] => { results := [.lit (.bool true)], args := [d] }
  | _ => none }
def fnExactQuickSortRow : OpenClaim := { program := "ytipdfmedbcafpaa", sum := "54d9a1b9ef17af7d7fce633b5b930cf03376569cb95a6f5cbdf3c6313f0e18d1", func := "loop.example/g00907/laws.FnExactQuickSort", spec := "fnExactQuickSort", unfollowed := true, recurses := true, apart := false }
def FnExactQuickSortSaid : Prop := fnExactQuickSortRow.holds Try.pinned (OpenSpec.ofChange fnExactQuickSortSpec)

/-- ITS FALSE NEIGHBOUR: 'it returns false'. Refute it at one input. -/
def fnExactQuickSortWrong : ChangeSpec := { name := "fnExactQuickSort", fn := fun _ => fun
  | [d] => { results := [.lit (.bool false)], args := [d] }
  | _ => none }
def FnExactQuickSortWrongFalsely : Prop := fnExactQuickSortRow.holds Try.pinned (OpenSpec.ofChange fnExactQuickSortWrong)

/-- 'laws.FnExactIntroSort': WHATEVER THE INPUT: true; the input reads as it did. -/
def fnExactIntroSortSpec : ChangeSpec := { name := "fnExactIntroSort", fn := fun _ => fun
  | [d1, d2] => { results := [.lit (.bool true)], args := [d1, d2] }
  | _ => none }
def fnExactIntroSortRow : OpenClaim := { program := "ytipdfmedbcafpaa", sum := "54d9a1b9ef17af7d7fce633b5b930cf03376569cb95a6f5cbdf3c6313f0e18d1", func := "loop.example/g00907/laws.FnExactIntroSort", spec := "fnExactIntroSort", unfollowed := true, recurses := true, apart := false }
def FnExactIntroSortSaid : Prop := fnExactIntroSortRow.holds Try.pinned (OpenSpec.ofChange fnExactIntroSortSpec)

/-- ITS FALSE NEIGHBOUR: 'it returns false'. Refute it at one input. -/
def fnExactIntroSortWrong : ChangeSpec := { name := "fnExactIntroSort", fn := fun _ => fun
  | [d1, d2] => { results := [.lit (.bool false)], args := [d1, d2] }
  | _ => none }
def FnExactIntroSortWrongFalsely : Prop := fnExactIntroSortRow.holds Try.pinned (OpenSpec.ofChange fnExactIntroSortWrong)

/-- 'laws.FnExactDualPartition': WHATEVER THE INPUT: true; the input reads as it did. -/
def fnExactDualPartitionSpec : ChangeSpec := { name := "fnExactDualPartition", fn := fun _ => fun
  | [d1, d2, d3] => { results := [.lit (.bool true)], args := [d1, d2, d3] }
  | _ => none }
def fnExactDualPartitionRow : OpenClaim := { program := "ytipdfmedbcafpaa", sum := "54d9a1b9ef17af7d7fce633b5b930cf03376569cb95a6f5cbdf3c6313f0e18d1", func := "loop.example/g00907/laws.FnExactDualPartition", spec := "fnExactDualPartition", unfollowed := true, recurses := true, apart := false }
def FnExactDualPartitionSaid : Prop := fnExactDualPartitionRow.holds Try.pinned (OpenSpec.ofChange fnExactDualPartitionSpec)

/-- ITS FALSE NEIGHBOUR: 'it returns false'. Refute it at one input. -/
def fnExactDualPartitionWrong : ChangeSpec := { name := "fnExactDualPartition", fn := fun _ => fun
  | [d1, d2, d3] => { results := [.lit (.bool false)], args := [d1, d2, d3] }
  | _ => none }
def FnExactDualPartitionWrongFalsely : Prop := fnExactDualPartitionRow.holds Try.pinned (OpenSpec.ofChange fnExactDualPartitionWrong)

/- THE SECOND FORM. 'bulk': how many values and letters a reading holds, each counted each time it is reached (what is shared counts as often as it is met; a slice's spare places count too). A statement '..UptoSaid' is the law's where the arguments, and the package variables that the reading takes, are together of bulk at most 1048576: NARROWER than '..Said'. Prove '..Said' where nothing that the law and all that it calls make is longer than what came in: it says more and counts as full. Else prove '..UptoSaid'. A law counts once. -/
mutual
def uptoBulk {H : Type} : DataW H → Nat
  | .lit (.string bytes) => bytes.length + 1
  | .lit _ => 1
  | .nil => 1
  | .ptr d => uptoBulk d + 1
  | .slice elems spare => uptoBulkAll elems + uptoBulkAll spare + 1
  | .agg parts => uptoBulkAll parts + 1
  | .iface _ d => uptoBulk d + 1
  | .map entries => uptoBulkEntries entries + 1
  | .held _ => 1
def uptoBulkAll {H : Type} : List (DataW H) → Nat
  | [] => 0
  | d :: r => uptoBulk d + uptoBulkAll r
def uptoBulkEntries {H : Type} : List (Lit × DataW H) → Nat
  | [] => 0
  | x :: r => uptoBulkEntry x + uptoBulkEntries r
def uptoBulkEntry {H : Type} : Lit × DataW H → Nat
  | (.string bytes, d) => bytes.length + uptoBulk d + 1
  | (_, d) => uptoBulk d + 1
 end
def uptoSmall : (H : Type) → List (DataW H) → Bool := fun _ ds => decide (uptoBulkAll ds ≤ 1048576)
def OpenSpec.upto (s : _root_.Go.ChangeSpec) : _root_.Go.OpenSpec := { _root_.Go.OpenSpec.ofChange s with cond := some uptoSmall }

/-- 'laws.FnOrders', WHERE WHAT IT READS IS OF BULK AT MOST 1048576: true; the input reads as it did. -/
def fnOrdersUptoRow : OpenClaim := { program := "ytipdfmedbcafpaa", sum := "54d9a1b9ef17af7d7fce633b5b930cf03376569cb95a6f5cbdf3c6313f0e18d1", func := "loop.example/g00907/laws.FnOrders", spec := "fnOrders", unfollowed := true, recurses := true, apart := false, narrowed := true }
def FnOrdersUptoSaid : Prop := fnOrdersUptoRow.holds Try.pinned (OpenSpec.upto fnOrdersSpec)

/-- 'laws.FnExactAdaptiveSort', WHERE WHAT IT READS IS OF BULK AT MOST 1048576: true; the input reads as it did. -/
def fnExactAdaptiveSortUptoRow : OpenClaim := { program := "ytipdfmedbcafpaa", sum := "54d9a1b9ef17af7d7fce633b5b930cf03376569cb95a6f5cbdf3c6313f0e18d1", func := "loop.example/g00907/laws.FnExactAdaptiveSort", spec := "fnExactAdaptiveSort", unfollowed := true, recurses := true, apart := false, narrowed := true }
def FnExactAdaptiveSortUptoSaid : Prop := fnExactAdaptiveSortUptoRow.holds Try.pinned (OpenSpec.upto fnExactAdaptiveSortSpec)

/-- 'laws.FnAdaptive', WHERE WHAT IT READS IS OF BULK AT MOST 1048576: true; the input reads as it did. -/
def fnAdaptiveUptoRow : OpenClaim := { program := "ytipdfmedbcafpaa", sum := "54d9a1b9ef17af7d7fce633b5b930cf03376569cb95a6f5cbdf3c6313f0e18d1", func := "loop.example/g00907/laws.FnAdaptive", spec := "fnAdaptive", unfollowed := true, recurses := true, apart := false, narrowed := true }
def FnAdaptiveUptoSaid : Prop := fnAdaptiveUptoRow.holds Try.pinned (OpenSpec.upto fnAdaptiveSpec)

/-- 'laws.FnPartition', WHERE WHAT IT READS IS OF BULK AT MOST 1048576: true; the input reads as it did. -/
def fnPartitionUptoRow : OpenClaim := { program := "ytipdfmedbcafpaa", sum := "54d9a1b9ef17af7d7fce633b5b930cf03376569cb95a6f5cbdf3c6313f0e18d1", func := "loop.example/g00907/laws.FnPartition", spec := "fnPartition", unfollowed := true, recurses := true, apart := false, narrowed := true }
def FnPartitionUptoSaid : Prop := fnPartitionUptoRow.holds Try.pinned (OpenSpec.upto fnPartitionSpec)

/-- 'laws.FnThreeWay', WHERE WHAT IT READS IS OF BULK AT MOST 1048576: true; the input reads as it did. -/
def fnThreeWayUptoRow : OpenClaim := { program := "ytipdfmedbcafpaa", sum := "54d9a1b9ef17af7d7fce633b5b930cf03376569cb95a6f5cbdf3c6313f0e18d1", func := "loop.example/g00907/laws.FnThreeWay", spec := "fnThreeWay", unfollowed := true, recurses := true, apart := false, narrowed := true }
def FnThreeWayUptoSaid : Prop := fnThreeWayUptoRow.holds Try.pinned (OpenSpec.upto fnThreeWaySpec)

/-- 'laws.FnQuick', WHERE WHAT IT READS IS OF BULK AT MOST 1048576: true; the input reads as it did. -/
def fnQuickUptoRow : OpenClaim := { program := "ytipdfmedbcafpaa", sum := "54d9a1b9ef17af7d7fce633b5b930cf03376569cb95a6f5cbdf3c6313f0e18d1", func := "loop.example/g00907/laws.FnQuick", spec := "fnQuick", unfollowed := true, recurses := true, apart := false, narrowed := true }
def FnQuickUptoSaid : Prop := fnQuickUptoRow.holds Try.pinned (OpenSpec.upto fnQuickSpec)

/-- 'laws.FnExactPartitionLomuto', WHERE WHAT IT READS IS OF BULK AT MOST 1048576: true; the input reads as it did. -/
def fnExactPartitionLomutoUptoRow : OpenClaim := { program := "ytipdfmedbcafpaa", sum := "54d9a1b9ef17af7d7fce633b5b930cf03376569cb95a6f5cbdf3c6313f0e18d1", func := "loop.example/g00907/laws.FnExactPartitionLomuto", spec := "fnExactPartitionLomuto", unfollowed := true, recurses := true, apart := false, narrowed := true }
def FnExactPartitionLomutoUptoSaid : Prop := fnExactPartitionLomutoUptoRow.holds Try.pinned (OpenSpec.upto fnExactPartitionLomutoSpec)

/-- 'laws.FnExactPartitionHoare', WHERE WHAT IT READS IS OF BULK AT MOST 1048576: true; the input reads as it did. -/
def fnExactPartitionHoareUptoRow : OpenClaim := { program := "ytipdfmedbcafpaa", sum := "54d9a1b9ef17af7d7fce633b5b930cf03376569cb95a6f5cbdf3c6313f0e18d1", func := "loop.example/g00907/laws.FnExactPartitionHoare", spec := "fnExactPartitionHoare", unfollowed := true, recurses := true, apart := false, narrowed := true }
def FnExactPartitionHoareUptoSaid : Prop := fnExactPartitionHoareUptoRow.holds Try.pinned (OpenSpec.upto fnExactPartitionHoareSpec)

/-- 'laws.FnExactPartitionThreeWay', WHERE WHAT IT READS IS OF BULK AT MOST 1048576: true; the input reads as it did. -/
def fnExactPartitionThreeWayUptoRow : OpenClaim := { program := "ytipdfmedbcafpaa", sum := "54d9a1b9ef17af7d7fce633b5b930cf03376569cb95a6f5cbdf3c6313f0e18d1", func := "loop.example/g00907/laws.FnExactPartitionThreeWay", spec := "fnExactPartitionThreeWay", unfollowed := true, recurses := true, apart := false, narrowed := true }
def FnExactPartitionThreeWayUptoSaid : Prop := fnExactPartitionThreeWayUptoRow.holds Try.pinned (OpenSpec.upto fnExactPartitionThreeWaySpec)

/-- 'laws.FnExactMedianIndex', WHERE WHAT IT READS IS OF BULK AT MOST 1048576: true; the input reads as it did. -/
def fnExactMedianIndexUptoRow : OpenClaim := { program := "ytipdfmedbcafpaa", sum := "54d9a1b9ef17af7d7fce633b5b930cf03376569cb95a6f5cbdf3c6313f0e18d1", func := "loop.example/g00907/laws.FnExactMedianIndex", spec := "fnExactMedianIndex", unfollowed := true, recurses := true, apart := false, narrowed := true }
def FnExactMedianIndexUptoSaid : Prop := fnExactMedianIndexUptoRow.holds Try.pinned (OpenSpec.upto fnExactMedianIndexSpec)

/-- 'laws.FnExactQuickSort', WHERE WHAT IT READS IS OF BULK AT MOST 1048576: true; the input reads as it did. -/
def fnExactQuickSortUptoRow : OpenClaim := { program := "ytipdfmedbcafpaa", sum := "54d9a1b9ef17af7d7fce633b5b930cf03376569cb95a6f5cbdf3c6313f0e18d1", func := "loop.example/g00907/laws.FnExactQuickSort", spec := "fnExactQuickSort", unfollowed := true, recurses := true, apart := false, narrowed := true }
def FnExactQuickSortUptoSaid : Prop := fnExactQuickSortUptoRow.holds Try.pinned (OpenSpec.upto fnExactQuickSortSpec)

/-- 'laws.FnExactIntroSort', WHERE WHAT IT READS IS OF BULK AT MOST 1048576: true; the input reads as it did. -/
def fnExactIntroSortUptoRow : OpenClaim := { program := "ytipdfmedbcafpaa", sum := "54d9a1b9ef17af7d7fce633b5b930cf03376569cb95a6f5cbdf3c6313f0e18d1", func := "loop.example/g00907/laws.FnExactIntroSort", spec := "fnExactIntroSort", unfollowed := true, recurses := true, apart := false, narrowed := true }
def FnExactIntroSortUptoSaid : Prop := fnExactIntroSortUptoRow.holds Try.pinned (OpenSpec.upto fnExactIntroSortSpec)

/-- 'laws.FnExactDualPartition', WHERE WHAT IT READS IS OF BULK AT MOST 1048576: true; the input reads as it did. -/
def fnExactDualPartitionUptoRow : OpenClaim := { program := "ytipdfmedbcafpaa", sum := "54d9a1b9ef17af7d7fce633b5b930cf03376569cb95a6f5cbdf3c6313f0e18d1", func := "loop.example/g00907/laws.FnExactDualPartition", spec := "fnExactDualPartition", unfollowed := true, recurses := true, apart := false, narrowed := true }
def FnExactDualPartitionUptoSaid : Prop := fnExactDualPartitionUptoRow.holds Try.pinned (OpenSpec.upto fnExactDualPartitionSpec)

end Rows
end Go.Proofs.Ytipdfmedbcafpaa
