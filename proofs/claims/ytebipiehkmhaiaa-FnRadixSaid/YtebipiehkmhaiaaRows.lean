/-
  No cell of these rows narrows 'for every input' (looked for: loops, veiled, ifaces, maps, wideKeys, modest, calm, conditions, laid).
  DERIVED. THE GIVEN ROWS OF THIS SEAT. 13 by the template 'for every input the law returns true; each argument reads behind the call as it read before'; 0 by the template 'total and deterministic' (their statements: YtebipiehkmhaiaaTotals.lean).
  GIVEN WITH THE SEED: the statements are not yours to turn. If you find one false, say at which input.
  Laid BY PROGRAM, IN A SANDBOX (cutbox-rows.mjs): the forced cells as the released guide's own fill.sh prints them over the translation 15b11c7003220d0c… (all of the seat's roots in one cut). By AI agents, Wed Nov 11 2026. No macro, syntax, notation, axiom, sorry.
-/
import Derived.Test.YtebipiehkmhaiaaChecked
import GoSem.Claim
import GoSem.ClaimJoined
import GoSem.ClaimMapViews
import Derived.JoinedTies
import Derived.KernelRfl
namespace Go.Proofs.Ytebipiehkmhaiaa
/- THE CELL 'sum', in the pinned program and in every row, IS THE sha256 OF THE DUMP (.gsa) THAT YtebipiehkmhaiaaProg.lean LOADS. Nothing in Lean hashes anything: it is a label: what it is worth is what the hold of that sum in a sandbox is worth. -/
noncomputable def Try.pinned : Pinned := { name := "ytebipiehkmhaiaa", sum := "15b11c7003220d0cc92d342f08957a09be120634cbf93daca810eeb82fbd8a0b", checked := Try.checked }
namespace Rows
def none {H : Type} : Left H := { results := [], args := [] }

/-- 'laws.FnAdaptive': WHATEVER THE INPUT: true; the input reads as it did. -/
def fnAdaptiveSpec : ChangeSpec := { name := "fnAdaptive", fn := fun _ => fun
  | [d] => { results := [.lit (.bool true)], args := [d] }
  | _ => none }
def fnAdaptiveRow : OpenClaim := { program := "ytebipiehkmhaiaa", sum := "15b11c7003220d0cc92d342f08957a09be120634cbf93daca810eeb82fbd8a0b", func := "loop.example/g00907/laws.FnAdaptive", spec := "fnAdaptive", unfollowed := true, recurses := true, apart := false }
def FnAdaptiveSaid : Prop := fnAdaptiveRow.holds Try.pinned (OpenSpec.ofChange fnAdaptiveSpec)

/-- ITS FALSE NEIGHBOUR: 'it returns false'. Refute it at one input. -/
def fnAdaptiveWrong : ChangeSpec := { name := "fnAdaptive", fn := fun _ => fun
  | [d] => { results := [.lit (.bool false)], args := [d] }
  | _ => none }
def FnAdaptiveWrongFalsely : Prop := fnAdaptiveRow.holds Try.pinned (OpenSpec.ofChange fnAdaptiveWrong)

/-- 'laws.FnRadix': WHATEVER THE INPUT: true; the input reads as it did. -/
def fnRadixSpec : ChangeSpec := { name := "fnRadix", fn := fun _ => fun
  | [d] => { results := [.lit (.bool true)], args := [d] }
  | _ => none }
def fnRadixRow : OpenClaim := { program := "ytebipiehkmhaiaa", sum := "15b11c7003220d0cc92d342f08957a09be120634cbf93daca810eeb82fbd8a0b", func := "loop.example/g00907/laws.FnRadix", spec := "fnRadix", unfollowed := true, recurses := true, apart := false }
def FnRadixSaid : Prop := fnRadixRow.holds Try.pinned (OpenSpec.ofChange fnRadixSpec)

/-- ITS FALSE NEIGHBOUR: 'it returns false'. Refute it at one input. -/
def fnRadixWrong : ChangeSpec := { name := "fnRadix", fn := fun _ => fun
  | [d] => { results := [.lit (.bool false)], args := [d] }
  | _ => none }
def FnRadixWrongFalsely : Prop := fnRadixRow.holds Try.pinned (OpenSpec.ofChange fnRadixWrong)

/-- 'laws.FnDigits': WHATEVER THE INPUT: true; the input reads as it did. -/
def fnDigitsSpec : ChangeSpec := { name := "fnDigits", fn := fun _ => fun
  | [d] => { results := [.lit (.bool true)], args := [d] }
  | _ => none }
def fnDigitsRow : OpenClaim := { program := "ytebipiehkmhaiaa", sum := "15b11c7003220d0cc92d342f08957a09be120634cbf93daca810eeb82fbd8a0b", func := "loop.example/g00907/laws.FnDigits", spec := "fnDigits", unfollowed := true, recurses := true, apart := false }
def FnDigitsSaid : Prop := fnDigitsRow.holds Try.pinned (OpenSpec.ofChange fnDigitsSpec)

/-- ITS FALSE NEIGHBOUR: 'it returns false'. Refute it at one input. -/
def fnDigitsWrong : ChangeSpec := { name := "fnDigits", fn := fun _ => fun
  | [d] => { results := [.lit (.bool false)], args := [d] }
  | _ => none }
def FnDigitsWrongFalsely : Prop := fnDigitsRow.holds Try.pinned (OpenSpec.ofChange fnDigitsWrong)

/-- 'laws.FnFlag': WHATEVER THE INPUT: true; the input reads as it did. -/
def fnFlagSpec : ChangeSpec := { name := "fnFlag", fn := fun _ => fun
  | [d] => { results := [.lit (.bool true)], args := [d] }
  | _ => none }
def fnFlagRow : OpenClaim := { program := "ytebipiehkmhaiaa", sum := "15b11c7003220d0cc92d342f08957a09be120634cbf93daca810eeb82fbd8a0b", func := "loop.example/g00907/laws.FnFlag", spec := "fnFlag", unfollowed := true, recurses := true, apart := false }
def FnFlagSaid : Prop := fnFlagRow.holds Try.pinned (OpenSpec.ofChange fnFlagSpec)

/-- ITS FALSE NEIGHBOUR: 'it returns false'. Refute it at one input. -/
def fnFlagWrong : ChangeSpec := { name := "fnFlag", fn := fun _ => fun
  | [d] => { results := [.lit (.bool false)], args := [d] }
  | _ => none }
def FnFlagWrongFalsely : Prop := fnFlagRow.holds Try.pinned (OpenSpec.ofChange fnFlagWrong)

/-- 'laws.FnExactAdaptiveSort': WHATEVER THE INPUT: true; the input reads as it did. -/
def fnExactAdaptiveSortSpec : ChangeSpec := { name := "fnExactAdaptiveSort", fn := fun _ => fun
  | [d] => { results := [.lit (.bool true)], args := [d] }
  | _ => none }
def fnExactAdaptiveSortRow : OpenClaim := { program := "ytebipiehkmhaiaa", sum := "15b11c7003220d0cc92d342f08957a09be120634cbf93daca810eeb82fbd8a0b", func := "loop.example/g00907/laws.FnExactAdaptiveSort", spec := "fnExactAdaptiveSort", unfollowed := true, recurses := true, apart := false }
def FnExactAdaptiveSortSaid : Prop := fnExactAdaptiveSortRow.holds Try.pinned (OpenSpec.ofChange fnExactAdaptiveSortSpec)

/-- ITS FALSE NEIGHBOUR: 'it returns false'. Refute it at one input. -/
def fnExactAdaptiveSortWrong : ChangeSpec := { name := "fnExactAdaptiveSort", fn := fun _ => fun
  | [d] => { results := [.lit (.bool false)], args := [d] }
  | _ => none }
def FnExactAdaptiveSortWrongFalsely : Prop := fnExactAdaptiveSortRow.holds Try.pinned (OpenSpec.ofChange fnExactAdaptiveSortWrong)

/-- 'laws.FnExactCountingSort': WHATEVER THE INPUT: true; the input reads as it did. -/
def fnExactCountingSortSpec : ChangeSpec := { name := "fnExactCountingSort", fn := fun _ => fun
  | [d1, d2, d3] => { results := [.lit (.bool true)], args := [d1, d2, d3] }
  | _ => none }
def fnExactCountingSortRow : OpenClaim := { program := "ytebipiehkmhaiaa", sum := "15b11c7003220d0cc92d342f08957a09be120634cbf93daca810eeb82fbd8a0b", func := "loop.example/g00907/laws.FnExactCountingSort", spec := "fnExactCountingSort", unfollowed := true, recurses := true, apart := false }
def FnExactCountingSortSaid : Prop := fnExactCountingSortRow.holds Try.pinned (OpenSpec.ofChange fnExactCountingSortSpec)

/-- ITS FALSE NEIGHBOUR: 'it returns false'. Refute it at one input. -/
def fnExactCountingSortWrong : ChangeSpec := { name := "fnExactCountingSort", fn := fun _ => fun
  | [d1, d2, d3] => { results := [.lit (.bool false)], args := [d1, d2, d3] }
  | _ => none }
def FnExactCountingSortWrongFalsely : Prop := fnExactCountingSortRow.holds Try.pinned (OpenSpec.ofChange fnExactCountingSortWrong)

/-- 'laws.FnExactDigitOf': WHATEVER THE INPUT: true; the input reads as it did. -/
def fnExactDigitOfSpec : ChangeSpec := { name := "fnExactDigitOf", fn := fun _ => fun
  | [d1, d2, d3] => { results := [.lit (.bool true)], args := [d1, d2, d3] }
  | _ => none }
def fnExactDigitOfRow : OpenClaim := { program := "ytebipiehkmhaiaa", sum := "15b11c7003220d0cc92d342f08957a09be120634cbf93daca810eeb82fbd8a0b", func := "loop.example/g00907/laws.FnExactDigitOf", spec := "fnExactDigitOf", apart := false }
def FnExactDigitOfSaid : Prop := fnExactDigitOfRow.holds Try.pinned (OpenSpec.ofChange fnExactDigitOfSpec)

/-- ITS FALSE NEIGHBOUR: 'it returns false'. Refute it at one input. -/
def fnExactDigitOfWrong : ChangeSpec := { name := "fnExactDigitOf", fn := fun _ => fun
  | [d1, d2, d3] => { results := [.lit (.bool false)], args := [d1, d2, d3] }
  | _ => none }
def FnExactDigitOfWrongFalsely : Prop := fnExactDigitOfRow.holds Try.pinned (OpenSpec.ofChange fnExactDigitOfWrong)

/-- 'laws.FnExactDigitCounts': WHATEVER THE INPUT: true; the input reads as it did. -/
def fnExactDigitCountsSpec : ChangeSpec := { name := "fnExactDigitCounts", fn := fun _ => fun
  | [d1, d2, d3] => { results := [.lit (.bool true)], args := [d1, d2, d3] }
  | _ => none }
def fnExactDigitCountsRow : OpenClaim := { program := "ytebipiehkmhaiaa", sum := "15b11c7003220d0cc92d342f08957a09be120634cbf93daca810eeb82fbd8a0b", func := "loop.example/g00907/laws.FnExactDigitCounts", spec := "fnExactDigitCounts", unfollowed := true, recurses := true, apart := false }
def FnExactDigitCountsSaid : Prop := fnExactDigitCountsRow.holds Try.pinned (OpenSpec.ofChange fnExactDigitCountsSpec)

/-- ITS FALSE NEIGHBOUR: 'it returns false'. Refute it at one input. -/
def fnExactDigitCountsWrong : ChangeSpec := { name := "fnExactDigitCounts", fn := fun _ => fun
  | [d1, d2, d3] => { results := [.lit (.bool false)], args := [d1, d2, d3] }
  | _ => none }
def FnExactDigitCountsWrongFalsely : Prop := fnExactDigitCountsRow.holds Try.pinned (OpenSpec.ofChange fnExactDigitCountsWrong)

/-- 'laws.FnExactRadixPass': WHATEVER THE INPUT: true; the input reads as it did. -/
def fnExactRadixPassSpec : ChangeSpec := { name := "fnExactRadixPass", fn := fun _ => fun
  | [d1, d2, d3] => { results := [.lit (.bool true)], args := [d1, d2, d3] }
  | _ => none }
def fnExactRadixPassRow : OpenClaim := { program := "ytebipiehkmhaiaa", sum := "15b11c7003220d0cc92d342f08957a09be120634cbf93daca810eeb82fbd8a0b", func := "loop.example/g00907/laws.FnExactRadixPass", spec := "fnExactRadixPass", unfollowed := true, recurses := true, apart := false }
def FnExactRadixPassSaid : Prop := fnExactRadixPassRow.holds Try.pinned (OpenSpec.ofChange fnExactRadixPassSpec)

/-- ITS FALSE NEIGHBOUR: 'it returns false'. Refute it at one input. -/
def fnExactRadixPassWrong : ChangeSpec := { name := "fnExactRadixPass", fn := fun _ => fun
  | [d1, d2, d3] => { results := [.lit (.bool false)], args := [d1, d2, d3] }
  | _ => none }
def FnExactRadixPassWrongFalsely : Prop := fnExactRadixPassRow.holds Try.pinned (OpenSpec.ofChange fnExactRadixPassWrong)

/-- 'laws.FnExactPassesNeeded': WHATEVER THE INPUT: true; the input reads as it did. -/
def fnExactPassesNeededSpec : ChangeSpec := { name := "fnExactPassesNeeded", fn := fun _ => fun
  | [d1, d2] => { results := [.lit (.bool true)], args := [d1, d2] }
  | _ => none }
def fnExactPassesNeededRow : OpenClaim := { program := "ytebipiehkmhaiaa", sum := "15b11c7003220d0cc92d342f08957a09be120634cbf93daca810eeb82fbd8a0b", func := "loop.example/g00907/laws.FnExactPassesNeeded", spec := "fnExactPassesNeeded", unfollowed := true, recurses := true, apart := false }
def FnExactPassesNeededSaid : Prop := fnExactPassesNeededRow.holds Try.pinned (OpenSpec.ofChange fnExactPassesNeededSpec)

/-- ITS FALSE NEIGHBOUR: 'it returns false'. Refute it at one input. -/
def fnExactPassesNeededWrong : ChangeSpec := { name := "fnExactPassesNeeded", fn := fun _ => fun
  | [d1, d2] => { results := [.lit (.bool false)], args := [d1, d2] }
  | _ => none }
def FnExactPassesNeededWrongFalsely : Prop := fnExactPassesNeededRow.holds Try.pinned (OpenSpec.ofChange fnExactPassesNeededWrong)

/-- 'laws.FnExactRadixSort': WHATEVER THE INPUT: true; the input reads as it did. -/
def fnExactRadixSortSpec : ChangeSpec := { name := "fnExactRadixSort", fn := fun _ => fun
  | [d1, d2] => { results := [.lit (.bool true)], args := [d1, d2] }
  | _ => none }
def fnExactRadixSortRow : OpenClaim := { program := "ytebipiehkmhaiaa", sum := "15b11c7003220d0cc92d342f08957a09be120634cbf93daca810eeb82fbd8a0b", func := "loop.example/g00907/laws.FnExactRadixSort", spec := "fnExactRadixSort", unfollowed := true, recurses := true, apart := false }
def FnExactRadixSortSaid : Prop := fnExactRadixSortRow.holds Try.pinned (OpenSpec.ofChange fnExactRadixSortSpec)

/-- ITS FALSE NEIGHBOUR: 'it returns false'. Refute it at one input. -/
def fnExactRadixSortWrong : ChangeSpec := { name := "fnExactRadixSort", fn := fun _ => fun
  | [d1, d2] => { results := [.lit (.bool false)], args := [d1, d2] }
  | _ => none }
def FnExactRadixSortWrongFalsely : Prop := fnExactRadixSortRow.holds Try.pinned (OpenSpec.ofChange fnExactRadixSortWrong)

/-- 'laws.FnExactFlagPass': WHATEVER THE INPUT: true; the input reads as it did. -/
def fnExactFlagPassSpec : ChangeSpec := { name := "fnExactFlagPass", fn := fun _ => fun
  | [d1, d2, d3] => { results := [.lit (.bool true)], args := [d1, d2, d3] }
  | _ => none }
def fnExactFlagPassRow : OpenClaim := { program := "ytebipiehkmhaiaa", sum := "15b11c7003220d0cc92d342f08957a09be120634cbf93daca810eeb82fbd8a0b", func := "loop.example/g00907/laws.FnExactFlagPass", spec := "fnExactFlagPass", unfollowed := true, recurses := true, apart := false }
def FnExactFlagPassSaid : Prop := fnExactFlagPassRow.holds Try.pinned (OpenSpec.ofChange fnExactFlagPassSpec)

/-- ITS FALSE NEIGHBOUR: 'it returns false'. Refute it at one input. -/
def fnExactFlagPassWrong : ChangeSpec := { name := "fnExactFlagPass", fn := fun _ => fun
  | [d1, d2, d3] => { results := [.lit (.bool false)], args := [d1, d2, d3] }
  | _ => none }
def FnExactFlagPassWrongFalsely : Prop := fnExactFlagPassRow.holds Try.pinned (OpenSpec.ofChange fnExactFlagPassWrong)

/-- 'laws.FnExactSortedPositions': WHATEVER THE INPUT: true; the input reads as it did. -/
def fnExactSortedPositionsSpec : ChangeSpec := { name := "fnExactSortedPositions", fn := fun _ => fun
  | [d] => { results := [.lit (.bool true)], args := [d] }
  | _ => none }
def fnExactSortedPositionsRow : OpenClaim := { program := "ytebipiehkmhaiaa", sum := "15b11c7003220d0cc92d342f08957a09be120634cbf93daca810eeb82fbd8a0b", func := "loop.example/g00907/laws.FnExactSortedPositions", spec := "fnExactSortedPositions", unfollowed := true, recurses := true, apart := false }
def FnExactSortedPositionsSaid : Prop := fnExactSortedPositionsRow.holds Try.pinned (OpenSpec.ofChange fnExactSortedPositionsSpec)

/-- ITS FALSE NEIGHBOUR: 'it returns false'. Refute it at one input. -/
def fnExactSortedPositionsWrong : ChangeSpec := { name := "fnExactSortedPositions", fn := fun _ => fun
  | [d] => { results := [.lit (.bool false)], args := [d] }
  | _ => none }
def FnExactSortedPositionsWrongFalsely : Prop := fnExactSortedPositionsRow.holds Try.pinned (OpenSpec.ofChange fnExactSortedPositionsWrong)

/- THE SECOND FORM. 'bulk': how many values and letters a reading holds, each counted each time it is reached (what is shared counts as often as it is met; a slice's spare places count too). A statement '..UptoSaid' is the law's where the arguments, and the package variables that the reading takes, are together of bulk at most 1048576: NARROWER than '..Said'. Prove '..Said' where nothing that the law and all that it calls make is longer than what came in: it says more and counts as full. Else prove '..UptoSaid'. A law counts once. -/
mutual
def uptoBulk {H : Type} : DataW H → Nat
  | .lit (.string bytes) => bytes.length + 1
  | .lit _ => 1
  | .nil => 1
  | .ptr d => uptoBulk d + 1
  | .slice elems spare => uptoBulkAll elems + uptoBulkAll spare + 1
  | .agg parts => uptoBulkAll parts + 1
  | .iface _ d => uptoBulk d + 1
  | .map entries => uptoBulkEntries entries + 1
  | .held _ => 1
def uptoBulkAll {H : Type} : List (DataW H) → Nat
  | [] => 0
  | d :: r => uptoBulk d + uptoBulkAll r
def uptoBulkEntries {H : Type} : List (Lit × DataW H) → Nat
  | [] => 0
  | x :: r => uptoBulkEntry x + uptoBulkEntries r
def uptoBulkEntry {H : Type} : Lit × DataW H → Nat
  | (.string bytes, d) => bytes.length + uptoBulk d + 1
  | (_, d) => uptoBulk d + 1
 end
def uptoSmall : (H : Type) → List (DataW H) → Bool := fun _ ds => decide (uptoBulkAll ds ≤ 1048576)
def OpenSpec.upto (s : _root_.Go.ChangeSpec) : _root_.Go.OpenSpec := { _root_.Go.OpenSpec.ofChange s with cond := some uptoSmall }

/-- 'laws.FnAdaptive', WHERE WHAT IT READS IS OF BULK AT MOST 1048576: true; the input reads as it did. -/
def fnAdaptiveUptoRow : OpenClaim := { program := "ytebipiehkmhaiaa", sum := "15b11c7003220d0cc92d342f08957a09be120634cbf93daca810eeb82fbd8a0b", func := "loop.example/g00907/laws.FnAdaptive", spec := "fnAdaptive", unfollowed := true, recurses := true, apart := false, narrowed := true }
def FnAdaptiveUptoSaid : Prop := fnAdaptiveUptoRow.holds Try.pinned (OpenSpec.upto fnAdaptiveSpec)

/-- 'laws.FnRadix', WHERE WHAT IT READS IS OF BULK AT MOST 1048576: true; the input reads as it did. -/
def fnRadixUptoRow : OpenClaim := { program := "ytebipiehkmhaiaa", sum := "15b11c7003220d0cc92d342f08957a09be120634cbf93daca810eeb82fbd8a0b", func := "loop.example/g00907/laws.FnRadix", spec := "fnRadix", unfollowed := true, recurses := true, apart := false, narrowed := true }
def FnRadixUptoSaid : Prop := fnRadixUptoRow.holds Try.pinned (OpenSpec.upto fnRadixSpec)

/-- 'laws.FnDigits', WHERE WHAT IT READS IS OF BULK AT MOST 1048576: true; the input reads as it did. -/
def fnDigitsUptoRow : OpenClaim := { program := "ytebipiehkmhaiaa", sum := "15b11c7003220d0cc92d342f08957a09be120634cbf93daca810eeb82fbd8a0b", func := "loop.example/g00907/laws.FnDigits", spec := "fnDigits", unfollowed := true, recurses := true, apart := false, narrowed := true }
def FnDigitsUptoSaid : Prop := fnDigitsUptoRow.holds Try.pinned (OpenSpec.upto fnDigitsSpec)

/-- 'laws.FnFlag', WHERE WHAT IT READS IS OF BULK AT MOST 1048576: true; the input reads as it did. -/
def fnFlagUptoRow : OpenClaim := { program := "ytebipiehkmhaiaa", sum := "15b11c7003220d0cc92d342f08957a09be120634cbf93daca810eeb82fbd8a0b", func := "loop.example/g00907/laws.FnFlag", spec := "fnFlag", unfollowed := true, recurses := true, apart := false, narrowed := true }
def FnFlagUptoSaid : Prop := fnFlagUptoRow.holds Try.pinned (OpenSpec.upto fnFlagSpec)

/-- 'laws.FnExactAdaptiveSort', WHERE WHAT IT READS IS OF BULK AT MOST 1048576: true; the input reads as it did. -/
def fnExactAdaptiveSortUptoRow : OpenClaim := { program := "ytebipiehkmhaiaa", sum := "15b11c7003220d0cc92d342f08957a09be120634cbf93daca810eeb82fbd8a0b", func := "loop.example/g00907/laws.FnExactAdaptiveSort", spec := "fnExactAdaptiveSort", unfollowed := true, recurses := true, apart := false, narrowed := true }
def FnExactAdaptiveSortUptoSaid : Prop := fnExactAdaptiveSortUptoRow.holds Try.pinned (OpenSpec.upto fnExactAdaptiveSortSpec)

/-- 'laws.FnExactCountingSort', WHERE WHAT IT READS IS OF BULK AT MOST 1048576: true; the input reads as it did. -/
def fnExactCountingSortUptoRow : OpenClaim := { program := "ytebipiehkmhaiaa", sum := "15b11c7003220d0cc92d342f08957a09be120634cbf93daca810eeb82fbd8a0b", func := "loop.example/g00907/laws.FnExactCountingSort", spec := "fnExactCountingSort", unfollowed := true, recurses := true, apart := false, narrowed := true }
def FnExactCountingSortUptoSaid : Prop := fnExactCountingSortUptoRow.holds Try.pinned (OpenSpec.upto fnExactCountingSortSpec)

/-- 'laws.FnExactDigitOf', WHERE WHAT IT READS IS OF BULK AT MOST 1048576: true; the input reads as it did. -/
def fnExactDigitOfUptoRow : OpenClaim := { program := "ytebipiehkmhaiaa", sum := "15b11c7003220d0cc92d342f08957a09be120634cbf93daca810eeb82fbd8a0b", func := "loop.example/g00907/laws.FnExactDigitOf", spec := "fnExactDigitOf", apart := false, narrowed := true }
def FnExactDigitOfUptoSaid : Prop := fnExactDigitOfUptoRow.holds Try.pinned (OpenSpec.upto fnExactDigitOfSpec)

/-- 'laws.FnExactDigitCounts', WHERE WHAT IT READS IS OF BULK AT MOST 1048576: true; the input reads as it did. -/
def fnExactDigitCountsUptoRow : OpenClaim := { program := "ytebipiehkmhaiaa", sum := "15b11c7003220d0cc92d342f08957a09be120634cbf93daca810eeb82fbd8a0b", func := "loop.example/g00907/laws.FnExactDigitCounts", spec := "fnExactDigitCounts", unfollowed := true, recurses := true, apart := false, narrowed := true }
def FnExactDigitCountsUptoSaid : Prop := fnExactDigitCountsUptoRow.holds Try.pinned (OpenSpec.upto fnExactDigitCountsSpec)

/-- 'laws.FnExactRadixPass', WHERE WHAT IT READS IS OF BULK AT MOST 1048576: true; the input reads as it did. -/
def fnExactRadixPassUptoRow : OpenClaim := { program := "ytebipiehkmhaiaa", sum := "15b11c7003220d0cc92d342f08957a09be120634cbf93daca810eeb82fbd8a0b", func := "loop.example/g00907/laws.FnExactRadixPass", spec := "fnExactRadixPass", unfollowed := true, recurses := true, apart := false, narrowed := true }
def FnExactRadixPassUptoSaid : Prop := fnExactRadixPassUptoRow.holds Try.pinned (OpenSpec.upto fnExactRadixPassSpec)

/-- 'laws.FnExactPassesNeeded', WHERE WHAT IT READS IS OF BULK AT MOST 1048576: true; the input reads as it did. -/
def fnExactPassesNeededUptoRow : OpenClaim := { program := "ytebipiehkmhaiaa", sum := "15b11c7003220d0cc92d342f08957a09be120634cbf93daca810eeb82fbd8a0b", func := "loop.example/g00907/laws.FnExactPassesNeeded", spec := "fnExactPassesNeeded", unfollowed := true, recurses := true, apart := false, narrowed := true }
def FnExactPassesNeededUptoSaid : Prop := fnExactPassesNeededUptoRow.holds Try.pinned (OpenSpec.upto fnExactPassesNeededSpec)

/-- 'laws.FnExactRadixSort', WHERE WHAT IT READS IS OF BULK AT MOST 1048576: true; the input reads as it did. -/
def fnExactRadixSortUptoRow : OpenClaim := { program := "ytebipiehkmhaiaa", sum := "15b11c7003220d0cc92d342f08957a09be120634cbf93daca810eeb82fbd8a0b", func := "loop.example/g00907/laws.FnExactRadixSort", spec := "fnExactRadixSort", unfollowed := true, recurses := true, apart := false, narrowed := true }
def FnExactRadixSortUptoSaid : Prop := fnExactRadixSortUptoRow.holds Try.pinned (OpenSpec.upto fnExactRadixSortSpec)

/-- 'laws.FnExactFlagPass', WHERE WHAT IT READS IS OF BULK AT MOST 1048576: true; the input reads as it did. -/
def fnExactFlagPassUptoRow : OpenClaim := { program := "ytebipiehkmhaiaa", sum := "15b11c7003220d0cc92d342f08957a09be120634cbf93daca810eeb82fbd8a0b", func := "loop.example/g00907/laws.FnExactFlagPass", spec := "fnExactFlagPass", unfollowed := true, recurses := true, apart := false, narrowed := true }
def FnExactFlagPassUptoSaid : Prop := fnExactFlagPassUptoRow.holds Try.pinned (OpenSpec.upto fnExactFlagPassSpec)

/-- 'laws.FnExactSortedPositions', WHERE WHAT IT READS IS OF BULK AT MOST 1048576: true; the input reads as it did. -/
def fnExactSortedPositionsUptoRow : OpenClaim := { program := "ytebipiehkmhaiaa", sum := "15b11c7003220d0cc92d342f08957a09be120634cbf93daca810eeb82fbd8a0b", func := "loop.example/g00907/laws.FnExactSortedPositions", spec := "fnExactSortedPositions", unfollowed := true, recurses := true, apart := false, narrowed := true }
def FnExactSortedPositionsUptoSaid : Prop := fnExactSortedPositionsUptoRow.holds Try.pinned (OpenSpec.upto fnExactSortedPositionsSpec)

end Rows
end Go.Proofs.Ytebipiehkmhaiaa
