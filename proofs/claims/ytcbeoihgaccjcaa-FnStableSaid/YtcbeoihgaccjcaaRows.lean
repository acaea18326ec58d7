/-
  No cell of these rows narrows 'for every input' (looked for: loops, veiled, ifaces, maps, wideKeys, modest, calm, conditions, laid).
  DERIVED. THE GIVEN ROWS OF THIS SEAT. 9 by the template 'for every input the law returns true; each argument reads behind the call as it read before'; 0 by the template 'total and deterministic' (their statements: YtcbeoihgaccjcaaTotals.lean).
  GIVEN WITH THE SEED: the statements are not yours to turn. If you find one false, say at which input.
  Laid BY PROGRAM, IN A SANDBOX (cutbox-rows.mjs): the forced cells as the released guide's own fill.sh prints them over the translation 139b87ea77768c7e… (all of the seat's roots in one cut). By AI agents, Wed Nov 11 2026. No macro, syntax, notation, axiom, sorry.
-/
import Derived.Test.YtcbeoihgaccjcaaChecked
import GoSem.Claim
import GoSem.ClaimJoined
import GoSem.ClaimMapViews
import Derived.JoinedTies
import Derived.KernelRfl
namespace Go.Proofs.Ytcbeoihgaccjcaa
/- THE CELL 'sum', in the pinned program and in every row, IS THE sha256 OF THE DUMP (.gsa) THAT YtcbeoihgaccjcaaProg.lean LOADS. Nothing in Lean hashes anything: it is a label: what it is worth is what the hold of that sum in a sandbox is worth. -/
noncomputable def Try.pinned : Pinned := { name := "ytcbeoihgaccjcaa", sum := "139b87ea77768c7e70def0d3b43bec027988a6e60be7352631e69df0d863fe71", checked := Try.checked }
namespace Rows
def none {H : Type} : Left H := { results := [], args := [] }

/-- 'laws.FnStable': WHATEVER THE INPUT: true; the input reads as it did. -/
def fnStableSpec : ChangeSpec := { name := "fnStable", fn := fun _ => fun
  | [d] => { results := [.lit (.bool true)], args := [d] }
  | _ => none }
def fnStableRow : OpenClaim := { program := "ytcbeoihgaccjcaa", sum := "139b87ea77768c7e70def0d3b43bec027988a6e60be7352631e69df0d863fe71", func := "loop.example/g00907/laws.FnStable", spec := "fnStable", unfollowed := true, recurses := true, apart := false }
def FnStableSaid : Prop := fnStableRow.holds Try.pinned (OpenSpec.ofChange fnStableSpec)

/-- ITS FALSE NEIGHBOUR: 'it returns false'. Refute it at one input. -/
def fnStableWrong : ChangeSpec := { name := "fnStable", fn := fun _ => fun
  | [d] => { results := [.lit (.bool false)], args := [d] }
  | _ => none }
def FnStableWrongFalsely : Prop := fnStableRow.holds Try.pinned (OpenSpec.ofChange fnStableWrong)

/-- 'laws.FnOrders': WHATEVER THE INPUT: true; the input reads as it did. -/
def fnOrdersSpec : ChangeSpec := { name := "fnOrders", fn := fun _ => fun
  | [d] => { results := [.lit (.bool true)], args := [d] }
  | _ => none }
def fnOrdersRow : OpenClaim := { program := "ytcbeoihgaccjcaa", sum := "139b87ea77768c7e70def0d3b43bec027988a6e60be7352631e69df0d863fe71", func := "loop.example/g00907/laws.FnOrders", spec := "fnOrders", unfollowed := true, recurses := true, apart := false }
def FnOrdersSaid : Prop := fnOrdersRow.holds Try.pinned (OpenSpec.ofChange fnOrdersSpec)

/-- ITS FALSE NEIGHBOUR: 'it returns false'. Refute it at one input. -/
def fnOrdersWrong : ChangeSpec := { name := "fnOrders", fn := fun _ => fun
  | [d] => { results := [.lit (.bool false)], args := [d] }
  | _ => none }
def FnOrdersWrongFalsely : Prop := fnOrdersRow.holds Try.pinned (OpenSpec.ofChange fnOrdersWrong)

/-- 'laws.FnExactIsValidList': WHATEVER THE INPUT: true; the input reads as it did. -/
def fnExactIsValidListSpec : ChangeSpec := { name := "fnExactIsValidList", fn := fun _ => fun
  | [d] => { results := [.lit (.bool true)], args := [d] }
  | _ => none }
def fnExactIsValidListRow : OpenClaim := { program := "ytcbeoihgaccjcaa", sum := "139b87ea77768c7e70def0d3b43bec027988a6e60be7352631e69df0d863fe71", func := "loop.example/g00907/laws.FnExactIsValidList", spec := "fnExactIsValidList", unfollowed := true, recurses := true, apart := false }
def FnExactIsValidListSaid : Prop := fnExactIsValidListRow.holds Try.pinned (OpenSpec.ofChange fnExactIsValidListSpec)

/-- ITS FALSE NEIGHBOUR: 'it returns false'. Refute it at one input. -/
def fnExactIsValidListWrong : ChangeSpec := { name := "fnExactIsValidList", fn := fun _ => fun
  | [d] => { results := [.lit (.bool false)], args := [d] }
  | _ => none }
def FnExactIsValidListWrongFalsely : Prop := fnExactIsValidListRow.holds Try.pinned (OpenSpec.ofChange fnExactIsValidListWrong)

/-- 'laws.FnExactIsValidRecords': WHATEVER THE INPUT: true; the input reads as it did. -/
def fnExactIsValidRecordsSpec : ChangeSpec := { name := "fnExactIsValidRecords", fn := fun _ => fun
  | [d] => { results := [.lit (.bool true)], args := [d] }
  | _ => none }
def fnExactIsValidRecordsRow : OpenClaim := { program := "ytcbeoihgaccjcaa", sum := "139b87ea77768c7e70def0d3b43bec027988a6e60be7352631e69df0d863fe71", func := "loop.example/g00907/laws.FnExactIsValidRecords", spec := "fnExactIsValidRecords", unfollowed := true, recurses := true, apart := false }
def FnExactIsValidRecordsSaid : Prop := fnExactIsValidRecordsRow.holds Try.pinned (OpenSpec.ofChange fnExactIsValidRecordsSpec)

/-- ITS FALSE NEIGHBOUR: 'it returns false'. Refute it at one input. -/
def fnExactIsValidRecordsWrong : ChangeSpec := { name := "fnExactIsValidRecords", fn := fun _ => fun
  | [d] => { results := [.lit (.bool false)], args := [d] }
  | _ => none }
def FnExactIsValidRecordsWrongFalsely : Prop := fnExactIsValidRecordsRow.holds Try.pinned (OpenSpec.ofChange fnExactIsValidRecordsWrong)

/-- 'laws.FnExactStableSort': WHATEVER THE INPUT: true; the input reads as it did. -/
def fnExactStableSortSpec : ChangeSpec := { name := "fnExactStableSort", fn := fun _ => fun
  | [d] => { results := [.lit (.bool true)], args := [d] }
  | _ => none }
def fnExactStableSortRow : OpenClaim := { program := "ytcbeoihgaccjcaa", sum := "139b87ea77768c7e70def0d3b43bec027988a6e60be7352631e69df0d863fe71", func := "loop.example/g00907/laws.FnExactStableSort", spec := "fnExactStableSort", unfollowed := true, recurses := true, apart := false }
def FnExactStableSortSaid : Prop := fnExactStableSortRow.holds Try.pinned (OpenSpec.ofChange fnExactStableSortSpec)

/-- ITS FALSE NEIGHBOUR: 'it returns false'. Refute it at one input. -/
def fnExactStableSortWrong : ChangeSpec := { name := "fnExactStableSort", fn := fun _ => fun
  | [d] => { results := [.lit (.bool false)], args := [d] }
  | _ => none }
def FnExactStableSortWrongFalsely : Prop := fnExactStableSortRow.holds Try.pinned (OpenSpec.ofChange fnExactStableSortWrong)

/-- 'laws.FnExactIsValidRow': WHATEVER THE INPUT: true; the input reads as it did. -/
def fnExactIsValidRowSpec : ChangeSpec := { name := "fnExactIsValidRow", fn := fun _ => fun
  | [d] => { results := [.lit (.bool true)], args := [d] }
  | _ => none }
def fnExactIsValidRowRow : OpenClaim := { program := "ytcbeoihgaccjcaa", sum := "139b87ea77768c7e70def0d3b43bec027988a6e60be7352631e69df0d863fe71", func := "loop.example/g00907/laws.FnExactIsValidRow", spec := "fnExactIsValidRow", unfollowed := true, recurses := true, apart := false }
def FnExactIsValidRowSaid : Prop := fnExactIsValidRowRow.holds Try.pinned (OpenSpec.ofChange fnExactIsValidRowSpec)

/-- ITS FALSE NEIGHBOUR: 'it returns false'. Refute it at one input. -/
def fnExactIsValidRowWrong : ChangeSpec := { name := "fnExactIsValidRow", fn := fun _ => fun
  | [d] => { results := [.lit (.bool false)], args := [d] }
  | _ => none }
def FnExactIsValidRowWrongFalsely : Prop := fnExactIsValidRowRow.holds Try.pinned (OpenSpec.ofChange fnExactIsValidRowWrong)

/-- 'laws.FnExactCompareRows': WHATEVER THE INPUT: true; the input reads as it did. -/
def fnExactCompareRowsSpec : ChangeSpec := { name := "fnExactCompareRows", fn := fun _ => fun
  | [d1, d2, d3] => { results := [.lit (.bool true)], args := [d1, d2, d3] }
  | _ => none }
def fnExactCompareRowsRow : OpenClaim := { program := "ytcbeoihgaccjcaa", sum := "139b87ea77768c7e70def0d3b43bec027988a6e60be7352631e69df0d863fe71", func := "loop.example/g00907/laws.FnExactCompareRows", spec := "fnExactCompareRows", unfollowed := true, recurses := true, apart := false }
def FnExactCompareRowsSaid : Prop := fnExactCompareRowsRow.holds Try.pinned (OpenSpec.ofChange fnExactCompareRowsSpec)

/-- ITS FALSE NEIGHBOUR: 'it returns false'. Refute it at one input. -/
def fnExactCompareRowsWrong : ChangeSpec := { name := "fnExactCompareRows", fn := fun _ => fun
  | [d1, d2, d3] => { results := [.lit (.bool false)], args := [d1, d2, d3] }
  | _ => none }
def FnExactCompareRowsWrongFalsely : Prop := fnExactCompareRowsRow.holds Try.pinned (OpenSpec.ofChange fnExactCompareRowsWrong)

/-- 'laws.FnExactOrderDefect': WHATEVER THE INPUT: true; the input reads as it did. -/
def fnExactOrderDefectSpec : ChangeSpec := { name := "fnExactOrderDefect", fn := fun _ => fun
  | [d] => { results := [.lit (.bool true)], args := [d] }
  | _ => none }
def fnExactOrderDefectRow : OpenClaim := { program := "ytcbeoihgaccjcaa", sum := "139b87ea77768c7e70def0d3b43bec027988a6e60be7352631e69df0d863fe71", func := "loop.example/g00907/laws.FnExactOrderDefect", spec := "fnExactOrderDefect", unfollowed := true, recurses := true, apart := false }
def FnExactOrderDefectSaid : Prop := fnExactOrderDefectRow.holds Try.pinned (OpenSpec.ofChange fnExactOrderDefectSpec)

/-- ITS FALSE NEIGHBOUR: 'it returns false'. Refute it at one input. -/
def fnExactOrderDefectWrong : ChangeSpec := { name := "fnExactOrderDefect", fn := fun _ => fun
  | [d] => { results := [.lit (.bool false)], args := [d] }
  | _ => none }
def FnExactOrderDefectWrongFalsely : Prop := fnExactOrderDefectRow.holds Try.pinned (OpenSpec.ofChange fnExactOrderDefectWrong)

/-- 'laws.FnExactOrderClasses': WHATEVER THE INPUT: true; the input reads as it did. -/
def fnExactOrderClassesSpec : ChangeSpec := { name := "fnExactOrderClasses", fn := fun _ => fun
  | [d] => { results := [.lit (.bool true)], args := [d] }
  | _ => none }
def fnExactOrderClassesRow : OpenClaim := { program := "ytcbeoihgaccjcaa", sum := "139b87ea77768c7e70def0d3b43bec027988a6e60be7352631e69df0d863fe71", func := "loop.example/g00907/laws.FnExactOrderClasses", spec := "fnExactOrderClasses", unfollowed := true, recurses := true, apart := false }
def FnExactOrderClassesSaid : Prop := fnExactOrderClassesRow.holds Try.pinned (OpenSpec.ofChange fnExactOrderClassesSpec)

/-- ITS FALSE NEIGHBOUR: 'it returns false'. Refute it at one input. -/
def fnExactOrderClassesWrong : ChangeSpec := { name := "fnExactOrderClasses", fn := fun _ => fun
  | [d] => { results := [.lit (.bool false)], args := [d] }
  | _ => none }
def FnExactOrderClassesWrongFalsely : Prop := fnExactOrderClassesRow.holds Try.pinned (OpenSpec.ofChange fnExactOrderClassesWrong)

/- THE SECOND FORM. 'bulk': how many values and letters a reading holds, each counted each time it is reached (what is shared counts as often as it is met; a slice's spare places count too). A statement '..UptoSaid' is the law's where the arguments, and the package variables that the reading takes, are together of bulk at most 1048576: NARROWER than '..Said'. Prove '..Said' where nothing that the law and all that it calls make is longer than what came in: it says more and counts as full. Else prove '..UptoSaid'. A law counts once. -/
mutual
def uptoBulk {H : Type} : DataW H → Nat
  | .lit (.string bytes) => bytes.length + 1
  | .lit _ => 1
  | .nil => 1
  | .ptr d => uptoBulk d + 1
  | .slice elems spare => uptoBulkAll elems + uptoBulkAll spare + 1
  | .agg parts => uptoBulkAll parts + 1
  | .iface _ d => uptoBulk d + 1
  | .map entries => uptoBulkEntries entries + 1
  | .held _ => 1
def uptoBulkAll {H : Type} : List (DataW H) → Nat
  | [] => 0
  | d :: r => uptoBulk d + uptoBulkAll r
def uptoBulkEntries {H : Type} : List (Lit × DataW H) → Nat
  | [] => 0
  | x :: r => uptoBulkEntry x + uptoBulkEntries r
def uptoBulkEntry {H : Type} : Lit × DataW H → Nat
  | (.string bytes, d) => bytes.length + uptoBulk d + 1
  | (_, d) => uptoBulk d + 1
 end
def uptoSmall : (H : Type) → List (DataW H) → Bool := fun _ ds => decide (uptoBulkAll ds ≤ 1048576)
def OpenSpec.upto (s : _root_.Go.ChangeSpec) : _root_.Go.OpenSpec := { _root_.Go.OpenSpec.ofChange s with cond := some uptoSmall }

/-- 'laws.FnStable', WHERE WHAT IT READS IS OF BULK AT MOST 1048576: true; the input reads as it did. -/
def fnStableUptoRow : OpenClaim := { program := "ytcbeoihgaccjcaa", sum := "139b87ea77768c7e70def0d3b43bec027988a6e60be7352631e69df0d863fe71", func := "loop.example/g00907/laws.FnStable", spec := "fnStable", unfollowed := true, recurses := true, apart := false, narrowed := true }
def FnStableUptoSaid : Prop := fnStableUptoRow.holds Try.pinned (OpenSpec.upto fnStableSpec)

/-- 'laws.FnOrders', WHERE WHAT IT READS IS OF BULK AT MOST 1048576: true; the input reads as it did. -/
def fnOrdersUptoRow : OpenClaim := { program := "ytcbeoihgaccjcaa", sum := "139b87ea77768c7e70def0d3b43bec027988a6e60be7352631e69df0d863fe71", func := "loop.example/g00907/laws.FnOrders", spec := "fnOrders", unfollowed := true, recurses := true, apart := false, narrowed := true }
def FnOrdersUptoSaid : Prop := fnOrdersUptoRow.holds Try.pinned (OpenSpec.upto fnOrdersSpec)

/-- 'laws.FnExactIsValidList', WHERE WHAT IT READS IS OF BULK AT MOST 1048576: true; the input reads as it did. -/
def fnExactIsValidListUptoRow : OpenClaim := { program := "ytcbeoihgaccjcaa", sum := "139b87ea77768c7e70def0d3b43bec027988a6e60be7352631e69df0d863fe71", func := "loop.example/g00907/laws.FnExactIsValidList", spec := "fnExactIsValidList", unfollowed := true, recurses := true, apart := false, narrowed := true }
def FnExactIsValidListUptoSaid : Prop := fnExactIsValidListUptoRow.holds Try.pinned (OpenSpec.upto fnExactIsValidListSpec)

/-- 'laws.FnExactIsValidRecords', WHERE WHAT IT READS IS OF BULK AT MOST 1048576: true; the input reads as it did. -/
def fnExactIsValidRecordsUptoRow : OpenClaim := { program := "ytcbeoihgaccjcaa", sum := "139b87ea77768c7e70def0d3b43bec027988a6e60be7352631e69df0d863fe71", func := "loop.example/g00907/laws.FnExactIsValidRecords", spec := "fnExactIsValidRecords", unfollowed := true, recurses := true, apart := false, narrowed := true }
def FnExactIsValidRecordsUptoSaid : Prop := fnExactIsValidRecordsUptoRow.holds Try.pinned (OpenSpec.upto fnExactIsValidRecordsSpec)

/-- 'laws.FnExactStableSort', WHERE WHAT IT READS IS OF BULK AT MOST 1048576: true; the input reads as it did. -/
def fnExactStableSortUptoRow : OpenClaim := { program := "ytcbeoihgaccjcaa", sum := "139b87ea77768c7e70def0d3b43bec027988a6e60be7352631e69df0d863fe71", func := "loop.example/g00907/laws.FnExactStableSort", spec := "fnExactStableSort", unfollowed := true, recurses := true, apart := false, narrowed := true }
def FnExactStableSortUptoSaid : Prop := fnExactStableSortUptoRow.holds Try.pinned (OpenSpec.upto fnExactStableSortSpec)

/-- 'laws.FnExactIsValidRow', WHERE WHAT IT READS IS OF BULK AT MOST 1048576: true; the input reads as it did. -/
def fnExactIsValidRowUptoRow : OpenClaim := { program := "ytcbeoihgaccjcaa", sum := "139b87ea77768c7e70def0d3b43bec027988a6e60be7352631e69df0d863fe71", func := "loop.example/g00907/laws.FnExactIsValidRow", spec := "fnExactIsValidRow", unfollowed := true, recurses := true, apart := false, narrowed := true }
def FnExactIsValidRowUptoSaid : Prop := fnExactIsValidRowUptoRow.holds Try.pinned (OpenSpec.upto fnExactIsValidRowSpec)

/-- 'laws.FnExactCompareRows', WHERE WHAT IT READS IS OF BULK AT MOST 1048576: true; the input reads as it did. -/
def fnExactCompareRowsUptoRow : OpenClaim := { program := "ytcbeoihgaccjcaa", sum := "139b87ea77768c7e70def0d3b43bec027988a6e60be7352631e69df0d863fe71", func := "loop.example/g00907/laws.FnExactCompareRows", spec := "fnExactCompareRows", unfollowed := true, recurses := true, apart := false, narrowed := true }
def FnExactCompareRowsUptoSaid : Prop := fnExactCompareRowsUptoRow.holds Try.pinned (OpenSpec.upto fnExactCompareRowsSpec)

/-- 'laws.FnExactOrderDefect', WHERE WHAT IT READS IS OF BULK AT MOST 1048576: true; the input reads as it did. -/
def fnExactOrderDefectUptoRow : OpenClaim := { program := "ytcbeoihgaccjcaa", sum := "139b87ea77768c7e70def0d3b43bec027988a6e60be7352631e69df0d863fe71", func := "loop.example/g00907/laws.FnExactOrderDefect", spec := "fnExactOrderDefect", unfollowed := true, recurses := true, apart := false, narrowed := true }
def FnExactOrderDefectUptoSaid : Prop := fnExactOrderDefectUptoRow.holds Try.pinned (OpenSpec.upto fnExactOrderDefectSpec)

/-- 'laws.FnExactOrderClasses', WHERE WHAT IT READS IS OF BULK AT MOST 1048576: true; the input reads as it did. -/
def fnExactOrderClassesUptoRow : OpenClaim := { program := "ytcbeoihgaccjcaa", sum := "139b87ea77768c7e70def0d3b43bec027988a6e60be7352631e69df0d863fe71", func := "loop.example/g00907/laws.FnExactOrderClasses", spec := "fnExactOrderClasses", unfollowed := true, recurses := true, apart := false, narrowed := true }
def FnExactOrderClassesUptoSaid : Prop := fnExactOrderClassesUptoRow.holds Try.pinned (OpenSpec.upto fnExactOrderClassesSpec)

end Rows
end Go.Proofs.Ytcbeoihgaccjcaa
