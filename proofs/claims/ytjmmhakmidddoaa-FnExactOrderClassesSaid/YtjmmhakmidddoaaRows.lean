/-
  No cell of these rows narrows 'for every input' (looked for: loops, veiled, ifaces, maps, wideKeys, modest, calm, conditions, laid).
  DERIVED. THE GIVEN ROWS OF THIS SEAT. 14 by the template 'for every input the law returns true; each argument reads behind the call as it read before'; 0 by the template 'total and deterministic' (their statements: YtjmmhakmidddoaaTotals.lean).
  GIVEN WITH THE SEED: the statements are not yours to turn. If you find one false, say at which input.
  Laid BY PROGRAM, IN A SANDBOX (cutbox-rows.mjs): the forced cells as the released guide's own fill.sh prints them over the translation 4f9bd76b124d7ec0… (all of the seat's roots in one cut). By AI agents, Wed Nov 11 2026. No macro, syntax, notation, axiom, sorry.
-/
import Derived.Test.YtjmmhakmidddoaaChecked
import GoSem.Claim
import GoSem.ClaimJoined
import GoSem.ClaimMapViews
import Derived.JoinedTies
import Derived.KernelRfl
namespace Go.Proofs.Ytjmmhakmidddoaa
/- THE CELL 'sum', in the pinned program and in every row, IS THE sha256 OF THE DUMP (.gsa) THAT YtjmmhakmidddoaaProg.lean LOADS. Nothing in Lean hashes anything: it is a label: what it is worth is what the hold of that sum in a sandbox is worth. -/
noncomputable def Try.pinned : Pinned := { name := "ytjmmhakmidddoaa", sum := "4f9bd76b124d7ec0f314721901221aaea48aa5b4bc0e1a56235a521586007de8", checked := Try.checked }
namespace Rows
def none {H : Type} : Left H := { results := [], args := [] }

/-- 'laws.FnCycles': WHATEVER THE INPUT: true; the input reads as it did. -/
def fnCyclesSpec : ChangeSpec := { name := "fnCycles", fn := fun _ => fun
  | [d] => { results := [.lit (.bool true)], args := [d] }
  | _ => none }
def fnCyclesRow : OpenClaim := { program := "ytjmmhakmidddoaa", sum := "4f9bd76b124d7ec0f314721901221aaea48aa5b4bc0e1a56235a521586007de8", func := "loop.example/g00907/laws.FnCycles", spec := "fnCycles", unfollowed := true, recurses := true, apart := false }
def FnCyclesSaid : Prop := fnCyclesRow.holds Try.pinned (OpenSpec.ofChange fnCyclesSpec)

/-- ITS FALSE NEIGHBOUR: 'it returns false'. Refute it at one input. -/
def fnCyclesWrong : ChangeSpec := { name := "fnCycles", fn := fun _ => fun
  | [d] => { results := [.lit (.bool false)], args := [d] }
  | _ => none }
def FnCyclesWrongFalsely : Prop := fnCyclesRow.holds Try.pinned (OpenSpec.ofChange fnCyclesWrong)

/-- 'laws.FnExactPermutationCycles': WHATEVER THE INPUT: true; the input reads as it did. -/
def fnExactPermutationCyclesSpec : ChangeSpec := { name := "fnExactPermutationCycles", fn := fun _ => fun
  | [d] => { results := [.lit (.bool true)], args := [d] }
  | _ => none }
def fnExactPermutationCyclesRow : OpenClaim := { program := "ytjmmhakmidddoaa", sum := "4f9bd76b124d7ec0f314721901221aaea48aa5b4bc0e1a56235a521586007de8", func := "loop.example/g00907/laws.FnExactPermutationCycles", spec := "fnExactPermutationCycles", unfollowed := true, recurses := true, apart := false }
def FnExactPermutationCyclesSaid : Prop := fnExactPermutationCyclesRow.holds Try.pinned (OpenSpec.ofChange fnExactPermutationCyclesSpec)

/-- ITS FALSE NEIGHBOUR: 'it returns false'. Refute it at one input. -/
def fnExactPermutationCyclesWrong : ChangeSpec := { name := "fnExactPermutationCycles", fn := fun _ => fun
  | [d] => { results := [.lit (.bool false)], args := [d] }
  | _ => none }
def FnExactPermutationCyclesWrongFalsely : Prop := fnExactPermutationCyclesRow.holds Try.pinned (OpenSpec.ofChange fnExactPermutationCyclesWrong)

/-- 'laws.FnExactOrderClasses': WHATEVER THE INPUT: true; the input reads as it did. -/
def fnExactOrderClassesSpec : ChangeSpec := { name := "fnExactOrderClasses", fn := fun _ => fun
  | [d] => { results := [.lit (.bool true)], args := [d] }
  | _ => none }
def fnExactOrderClassesRow : OpenClaim := { program := "ytjmmhakmidddoaa", sum := "4f9bd76b124d7ec0f314721901221aaea48aa5b4bc0e1a56235a521586007de8", func := "loop.example/g00907/laws.FnExactOrderClasses", spec := "fnExactOrderClasses", unfollowed := true, recurses := true, apart := false }
def FnExactOrderClassesSaid : Prop := fnExactOrderClassesRow.holds Try.pinned (OpenSpec.ofChange fnExactOrderClassesSpec)

/-- ITS FALSE NEIGHBOUR: 'it returns false'. Refute it at one input. -/
def fnExactOrderClassesWrong : ChangeSpec := { name := "fnExactOrderClasses", fn := fun _ => fun
  | [d] => { results := [.lit (.bool false)], args := [d] }
  | _ => none }
def FnExactOrderClassesWrongFalsely : Prop := fnExactOrderClassesRow.holds Try.pinned (OpenSpec.ofChange fnExactOrderClassesWrong)

/-- 'laws.FnOrders': WHATEVER THE INPUT: true; the input reads as it did. -/
def fnOrdersSpec : ChangeSpec := { name := "fnOrders", fn := fun _ => fun
  | [d] => { results := [.lit (.bool true)], args := [d] }
  | _ => none }
def fnOrdersRow : OpenClaim := { program := "ytjmmhakmidddoaa", sum := "4f9bd76b124d7ec0f314721901221aaea48aa5b4bc0e1a56235a521586007de8", func := "loop.example/g00907/laws.FnOrders", spec := "fnOrders", unfollowed := true, recurses := true, apart := false }
def FnOrdersSaid : Prop := fnOrdersRow.holds Try.pinned (OpenSpec.ofChange fnOrdersSpec)

/-- ITS FALSE NEIGHBOUR: 'it returns false'. Refute it at one input. -/
def fnOrdersWrong : ChangeSpec := { name := "fnOrders", fn := fun _ => fun
  | [d] => { results := [.lit (.bool false)], args := [d] }
  | _ => none }
def FnOrdersWrongFalsely : Prop := fnOrdersRow.holds Try.pinned (OpenSpec.ofChange fnOrdersWrong)

/-- 'laws.FnInsertion': WHATEVER THE INPUT: true; the input reads as it did. -/
def fnInsertionSpec : ChangeSpec := { name := "fnInsertion", fn := fun _ => fun
  | [d] => { results := [.lit (.bool true)], args := [d] }
  | _ => none }
def fnInsertionRow : OpenClaim := { program := "ytjmmhakmidddoaa", sum := "4f9bd76b124d7ec0f314721901221aaea48aa5b4bc0e1a56235a521586007de8", func := "loop.example/g00907/laws.FnInsertion", spec := "fnInsertion", unfollowed := true, recurses := true, apart := false }
def FnInsertionSaid : Prop := fnInsertionRow.holds Try.pinned (OpenSpec.ofChange fnInsertionSpec)

/-- ITS FALSE NEIGHBOUR: 'it returns false'. Refute it at one input. -/
def fnInsertionWrong : ChangeSpec := { name := "fnInsertion", fn := fun _ => fun
  | [d] => { results := [.lit (.bool false)], args := [d] }
  | _ => none }
def FnInsertionWrongFalsely : Prop := fnInsertionRow.holds Try.pinned (OpenSpec.ofChange fnInsertionWrong)

/-- 'laws.FnExchanges': WHATEVER THE INPUT: true; the input reads as it did. -/
def fnExchangesSpec : ChangeSpec := { name := "fnExchanges", fn := fun _ => fun
  | [d] => { results := [.lit (.bool true)], args := [d] }
  | _ => none }
def fnExchangesRow : OpenClaim := { program := "ytjmmhakmidddoaa", sum := "4f9bd76b124d7ec0f314721901221aaea48aa5b4bc0e1a56235a521586007de8", func := "loop.example/g00907/laws.FnExchanges", spec := "fnExchanges", unfollowed := true, recurses := true, apart := false }
def FnExchangesSaid : Prop := fnExchangesRow.holds Try.pinned (OpenSpec.ofChange fnExchangesSpec)

/-- ITS FALSE NEIGHBOUR: 'it returns false'. Refute it at one input. -/
def fnExchangesWrong : ChangeSpec := { name := "fnExchanges", fn := fun _ => fun
  | [d] => { results := [.lit (.bool false)], args := [d] }
  | _ => none }
def FnExchangesWrongFalsely : Prop := fnExchangesRow.holds Try.pinned (OpenSpec.ofChange fnExchangesWrong)

/-- 'laws.FnSorted': WHATEVER THE INPUT: true; the input reads as it did. -/
def fnSortedSpec : ChangeSpec := { name := "fnSorted", fn := fun _ => fun
  | [d] => { results := [.lit (.bool true)], args := [d] }
  | _ => none }
def fnSortedRow : OpenClaim := { program := "ytjmmhakmidddoaa", sum := "4f9bd76b124d7ec0f314721901221aaea48aa5b4bc0e1a56235a521586007de8", func := "loop.example/g00907/laws.FnSorted", spec := "fnSorted", unfollowed := true, recurses := true, apart := false }
def FnSortedSaid : Prop := fnSortedRow.holds Try.pinned (OpenSpec.ofChange fnSortedSpec)

/-- ITS FALSE NEIGHBOUR: 'it returns false'. Refute it at one input. -/
def fnSortedWrong : ChangeSpec := { name := "fnSorted", fn := fun _ => fun
  | [d] => { results := [.lit (.bool false)], args := [d] }
  | _ => none }
def FnSortedWrongFalsely : Prop := fnSortedRow.holds Try.pinned (OpenSpec.ofChange fnSortedWrong)

/-- 'laws.FnExactIsSorted': WHATEVER THE INPUT: true; the input reads as it did. -/
def fnExactIsSortedSpec : ChangeSpec := { name := "fnExactIsSorted", fn := fun _ => fun
  | [d] => { results := [.lit (.bool true)], args := [d] }
  | _ => none }
def fnExactIsSortedRow : OpenClaim := { program := "ytjmmhakmidddoaa", sum := "4f9bd76b124d7ec0f314721901221aaea48aa5b4bc0e1a56235a521586007de8", func := "loop.example/g00907/laws.FnExactIsSorted", spec := "fnExactIsSorted", unfollowed := true, recurses := true, apart := false }
def FnExactIsSortedSaid : Prop := fnExactIsSortedRow.holds Try.pinned (OpenSpec.ofChange fnExactIsSortedSpec)

/-- ITS FALSE NEIGHBOUR: 'it returns false'. Refute it at one input. -/
def fnExactIsSortedWrong : ChangeSpec := { name := "fnExactIsSorted", fn := fun _ => fun
  | [d] => { results := [.lit (.bool false)], args := [d] }
  | _ => none }
def FnExactIsSortedWrongFalsely : Prop := fnExactIsSortedRow.holds Try.pinned (OpenSpec.ofChange fnExactIsSortedWrong)

/-- 'laws.FnExactInsertionSort': WHATEVER THE INPUT: true; the input reads as it did. -/
def fnExactInsertionSortSpec : ChangeSpec := { name := "fnExactInsertionSort", fn := fun _ => fun
  | [d] => { results := [.lit (.bool true)], args := [d] }
  | _ => none }
def fnExactInsertionSortRow : OpenClaim := { program := "ytjmmhakmidddoaa", sum := "4f9bd76b124d7ec0f314721901221aaea48aa5b4bc0e1a56235a521586007de8", func := "loop.example/g00907/laws.FnExactInsertionSort", spec := "fnExactInsertionSort", unfollowed := true, recurses := true, apart := false }
def FnExactInsertionSortSaid : Prop := fnExactInsertionSortRow.holds Try.pinned (OpenSpec.ofChange fnExactInsertionSortSpec)

/-- ITS FALSE NEIGHBOUR: 'it returns false'. Refute it at one input. -/
def fnExactInsertionSortWrong : ChangeSpec := { name := "fnExactInsertionSort", fn := fun _ => fun
  | [d] => { results := [.lit (.bool false)], args := [d] }
  | _ => none }
def FnExactInsertionSortWrongFalsely : Prop := fnExactInsertionSortRow.holds Try.pinned (OpenSpec.ofChange fnExactInsertionSortWrong)

/-- 'laws.FnExactBinaryInsertionSort': WHATEVER THE INPUT: true; the input reads as it did. -/
def fnExactBinaryInsertionSortSpec : ChangeSpec := { name := "fnExactBinaryInsertionSort", fn := fun _ => fun
  | [d] => { results := [.lit (.bool true)], args := [d] }
  | _ => none }
def fnExactBinaryInsertionSortRow : OpenClaim := { program := "ytjmmhakmidddoaa", sum := "4f9bd76b124d7ec0f314721901221aaea48aa5b4bc0e1a56235a521586007de8", func := "loop.example/g00907/laws.FnExactBinaryInsertionSort", spec := "fnExactBinaryInsertionSort", unfollowed := true, recurses := true, apart := false }
def FnExactBinaryInsertionSortSaid : Prop := fnExactBinaryInsertionSortRow.holds Try.pinned (OpenSpec.ofChange fnExactBinaryInsertionSortSpec)

/-- ITS FALSE NEIGHBOUR: 'it returns false'. Refute it at one input. -/
def fnExactBinaryInsertionSortWrong : ChangeSpec := { name := "fnExactBinaryInsertionSort", fn := fun _ => fun
  | [d] => { results := [.lit (.bool false)], args := [d] }
  | _ => none }
def FnExactBinaryInsertionSortWrongFalsely : Prop := fnExactBinaryInsertionSortRow.holds Try.pinned (OpenSpec.ofChange fnExactBinaryInsertionSortWrong)

/-- 'laws.FnExactSelectionSort': WHATEVER THE INPUT: true; the input reads as it did. -/
def fnExactSelectionSortSpec : ChangeSpec := { name := "fnExactSelectionSort", fn := fun _ => fun
  | [d] => { results := [.lit (.bool true)], args := [d] }
  | _ => none }
def fnExactSelectionSortRow : OpenClaim := { program := "ytjmmhakmidddoaa", sum := "4f9bd76b124d7ec0f314721901221aaea48aa5b4bc0e1a56235a521586007de8", func := "loop.example/g00907/laws.FnExactSelectionSort", spec := "fnExactSelectionSort", unfollowed := true, recurses := true, apart := false }
def FnExactSelectionSortSaid : Prop := fnExactSelectionSortRow.holds Try.pinned (OpenSpec.ofChange fnExactSelectionSortSpec)

/-- ITS FALSE NEIGHBOUR: 'it returns false'. Refute it at one input. -/
def fnExactSelectionSortWrong : ChangeSpec := { name := "fnExactSelectionSort", fn := fun _ => fun
  | [d] => { results := [.lit (.bool false)], args := [d] }
  | _ => none }
def FnExactSelectionSortWrongFalsely : Prop := fnExactSelectionSortRow.holds Try.pinned (OpenSpec.ofChange fnExactSelectionSortWrong)

/-- 'laws.FnExactBubblePasses': WHATEVER THE INPUT: true; the input reads as it did. -/
def fnExactBubblePassesSpec : ChangeSpec := { name := "fnExactBubblePasses", fn := fun _ => fun
  | [d] => { results := [.lit (.bool true)], args := [d] }
  | _ => none }
def fnExactBubblePassesRow : OpenClaim := { program := "ytjmmhakmidddoaa", sum := "4f9bd76b124d7ec0f314721901221aaea48aa5b4bc0e1a56235a521586007de8", func := "loop.example/g00907/laws.FnExactBubblePasses", spec := "fnExactBubblePasses", unfollowed := true, recurses := true, apart := false }
def FnExactBubblePassesSaid : Prop := fnExactBubblePassesRow.holds Try.pinned (OpenSpec.ofChange fnExactBubblePassesSpec)

/-- ITS FALSE NEIGHBOUR: 'it returns false'. Refute it at one input. -/
def fnExactBubblePassesWrong : ChangeSpec := { name := "fnExactBubblePasses", fn := fun _ => fun
  | [d] => { results := [.lit (.bool false)], args := [d] }
  | _ => none }
def FnExactBubblePassesWrongFalsely : Prop := fnExactBubblePassesRow.holds Try.pinned (OpenSpec.ofChange fnExactBubblePassesWrong)

/-- 'laws.FnExactShellSort': WHATEVER THE INPUT: true; the input reads as it did. -/
def fnExactShellSortSpec : ChangeSpec := { name := "fnExactShellSort", fn := fun _ => fun
  | [d1, d2] => { results := [.lit (.bool true)], args := [d1, d2] }
  | _ => none }
def fnExactShellSortRow : OpenClaim := { program := "ytjmmhakmidddoaa", sum := "4f9bd76b124d7ec0f314721901221aaea48aa5b4bc0e1a56235a521586007de8", func := "loop.example/g00907/laws.FnExactShellSort", spec := "fnExactShellSort", unfollowed := true, recurses := true, apart := false }
def FnExactShellSortSaid : Prop := fnExactShellSortRow.holds Try.pinned (OpenSpec.ofChange fnExactShellSortSpec)

/-- ITS FALSE NEIGHBOUR: 'it returns false'. Refute it at one input. -/
def fnExactShellSortWrong : ChangeSpec := { name := "fnExactShellSort", fn := fun _ => fun
  | [d1, d2] => { results := [.lit (.bool false)], args := [d1, d2] }
  | _ => none }
def FnExactShellSortWrongFalsely : Prop := fnExactShellSortRow.holds Try.pinned (OpenSpec.ofChange fnExactShellSortWrong)

/-- 'laws.FnExactCycleWrites': WHATEVER THE INPUT: true; the input reads as it did. -/
def fnExactCycleWritesSpec : ChangeSpec := { name := "fnExactCycleWrites", fn := fun _ => fun
  | [d] => { results := [.lit (.bool true)], args := [d] }
  | _ => none }
def fnExactCycleWritesRow : OpenClaim := { program := "ytjmmhakmidddoaa", sum := "4f9bd76b124d7ec0f314721901221aaea48aa5b4bc0e1a56235a521586007de8", func := "loop.example/g00907/laws.FnExactCycleWrites", spec := "fnExactCycleWrites", unfollowed := true, recurses := true, apart := false }
def FnExactCycleWritesSaid : Prop := fnExactCycleWritesRow.holds Try.pinned (OpenSpec.ofChange fnExactCycleWritesSpec)

/-- ITS FALSE NEIGHBOUR: 'it returns false'. Refute it at one input. -/
def fnExactCycleWritesWrong : ChangeSpec := { name := "fnExactCycleWrites", fn := fun _ => fun
  | [d] => { results := [.lit (.bool false)], args := [d] }
  | _ => none }
def FnExactCycleWritesWrongFalsely : Prop := fnExactCycleWritesRow.holds Try.pinned (OpenSpec.ofChange fnExactCycleWritesWrong)

/- THE SECOND FORM. 'bulk': how many values and letters a reading holds, each counted each time it is reached (what is shared counts as often as it is met; a slice's spare places count too). A statement '..UptoSaid' is the law's where the arguments, and the package variables that the reading takes, are together of bulk at most 1048576: NARROWER than '..Said'. Prove '..Said' where nothing that the law and all that it calls make is longer than what came in: it says more and counts as full. Else prove '..UptoSaid'. A law counts once. -/
mutual
def uptoBulk {H : Type} : DataW H → Nat
  | .lit (.string bytes) => bytes.length + 1
  | .lit _ => 1
  | .nil => 1
  | .ptr d => uptoBulk d + 1
  | .slice elems spare => uptoBulkAll elems + uptoBulkAll spare + 1
  | .agg parts => uptoBulkAll parts + 1
  | .iface _ d => uptoBulk d + 1
  | .map entries => uptoBulkEntries entries + 1
  | .held _ => 1
def uptoBulkAll {H : Type} : List (DataW H) → Nat
  | [] => 0
  | d :: r => uptoBulk d + uptoBulkAll r
def uptoBulkEntries {H : Type} : List (Lit × DataW H) → Nat
  | [] => 0
  | x :: r => uptoBulkEntry x + uptoBulkEntries r
def uptoBulkEntry {H : Type} : Lit × DataW H → Nat
  | (.string bytes, d) => bytes.length + uptoBulk d + 1
  | (_, d) => uptoBulk d + 1
 end
def uptoSmall : (H : Type) → List (DataW H) → Bool := fun _ ds => decide (uptoBulkAll ds ≤ 1048576)
def OpenSpec.upto (s : _root_.Go.ChangeSpec) : _root_.Go.OpenSpec := { _root_.Go.OpenSpec.ofChange s with cond := some uptoSmall }

/-- 'laws.FnCycles', WHERE WHAT IT READS IS OF BULK AT MOST 1048576: true; the input reads as it did. -/
def fnCyclesUptoRow : OpenClaim := { program := "ytjmmhakmidddoaa", sum := "4f9bd76b124d7ec0f314721901221aaea48aa5b4bc0e1a56235a521586007de8", func := "loop.example/g00907/laws.FnCycles", spec := "fnCycles", unfollowed := true, recurses := true, apart := false, narrowed := true }
def FnCyclesUptoSaid : Prop := fnCyclesUptoRow.holds Try.pinned (OpenSpec.upto fnCyclesSpec)

/-- 'laws.FnExactPermutationCycles', WHERE WHAT IT READS IS OF BULK AT MOST 1048576: true; the input reads as it did. -/
def fnExactPermutationCyclesUptoRow : OpenClaim := { program := "ytjmmhakmidddoaa", sum := "4f9bd76b124d7ec0f314721901221aaea48aa5b4bc0e1a56235a521586007de8", func := "loop.example/g00907/laws.FnExactPermutationCycles", spec := "fnExactPermutationCycles", unfollowed := true, recurses := true, apart := false, narrowed := true }
def FnExactPermutationCyclesUptoSaid : Prop := fnExactPermutationCyclesUptoRow.holds Try.pinned (OpenSpec.upto fnExactPermutationCyclesSpec)

/-- 'laws.FnExactOrderClasses', WHERE WHAT IT READS IS OF BULK AT MOST 1048576: true; the input reads as it did. -/
def fnExactOrderClassesUptoRow : OpenClaim := { program := "ytjmmhakmidddoaa", sum := "4f9bd76b124d7ec0f314721901221aaea48aa5b4bc0e1a56235a521586007de8", func := "loop.example/g00907/laws.FnExactOrderClasses", spec := "fnExactOrderClasses", unfollowed := true, recurses := true, apart := false, narrowed := true }
def FnExactOrderClassesUptoSaid : Prop := fnExactOrderClassesUptoRow.holds Try.pinned (OpenSpec.upto fnExactOrderClassesSpec)

/-- 'laws.FnOrders', WHERE WHAT IT READS IS OF BULK AT MOST 1048576: true; the input reads as it did. -/
def fnOrdersUptoRow : OpenClaim := { program := "ytjmmhakmidddoaa", sum := "4f9bd76b124d7ec0f314721901221aaea48aa5b4bc0e1a56235a521586007de8", func := "loop.example/g00907/laws.FnOrders", spec := "fnOrders", unfollowed := true, recurses := true, apart := false, narrowed := true }
def FnOrdersUptoSaid : Prop := fnOrdersUptoRow.holds Try.pinned (OpenSpec.upto fnOrdersSpec)

/-- 'laws.FnInsertion', WHERE WHAT IT READS IS OF BULK AT MOST 1048576: true; the input reads as it did. -/
def fnInsertionUptoRow : OpenClaim := { program := "ytjmmhakmidddoaa", sum := "4f9bd76b124d7ec0f314721901221aaea48aa5b4bc0e1a56235a521586007de8", func := "loop.example/g00907/laws.FnInsertion", spec := "fnInsertion", unfollowed := true, recurses := true, apart := false, narrowed := true }
def FnInsertionUptoSaid : Prop := fnInsertionUptoRow.holds Try.pinned (OpenSpec.upto fnInsertionSpec)

/-- 'laws.FnExchanges', WHERE WHAT IT READS IS OF BULK AT MOST 1048576: true; the input reads as it did. -/
def fnExchangesUptoRow : OpenClaim := { program := "ytjmmhakmidddoaa", sum := "4f9bd76b124d7ec0f314721901221aaea48aa5b4bc0e1a56235a521586007de8", func := "loop.example/g00907/laws.FnExchanges", spec := "fnExchanges", unfollowed := true, recurses := true, apart := false, narrowed := true }
def FnExchangesUptoSaid : Prop := fnExchangesUptoRow.holds Try.pinned (OpenSpec.upto fnExchangesSpec)

/-- 'laws.FnSorted', WHERE WHAT IT READS IS OF BULK AT MOST 1048576: true; the input reads as it did. -/
def fnSortedUptoRow : OpenClaim := { program := "ytjmmhakmidddoaa", sum := "4f9bd76b124d7ec0f314721901221aaea48aa5b4bc0e1a56235a521586007de8", func := "loop.example/g00907/laws.FnSorted", spec := "fnSorted", unfollowed := true, recurses := true, apart := false, narrowed := true }
def FnSortedUptoSaid : Prop := fnSortedUptoRow.holds Try.pinned (OpenSpec.upto fnSortedSpec)

/-- 'laws.FnExactIsSorted', WHERE WHAT IT READS IS OF BULK AT MOST 1048576: true; the input reads as it did. -/
def fnExactIsSortedUptoRow : OpenClaim := { program := "ytjmmhakmidddoaa", sum := "4f9bd76b124d7ec0f314721901221aaea48aa5b4bc0e1a56235a521586007de8", func := "loop.example/g00907/laws.FnExactIsSorted", spec := "fnExactIsSorted", unfollowed := true, recurses := true, apart := false, narrowed := true }
def FnExactIsSortedUptoSaid : Prop := fnExactIsSortedUptoRow.holds Try.pinned (OpenSpec.upto fnExactIsSortedSpec)

/-- 'laws.FnExactInsertionSort', WHERE WHAT IT READS IS OF BULK AT MOST 1048576: true; the input reads as it did. -/
def fnExactInsertionSortUptoRow : OpenClaim := { program := "ytjmmhakmidddoaa", sum := "4f9bd76b124d7ec0f314721901221aaea48aa5b4bc0e1a56235a521586007de8", func := "loop.example/g00907/laws.FnExactInsertionSort", spec := "fnExactInsertionSort", unfollowed := true, recurses := true, apart := false, narrowed := true }
def FnExactInsertionSortUptoSaid : Prop := fnExactInsertionSortUptoRow.holds Try.pinned (OpenSpec.upto fnExactInsertionSortSpec)

/-- 'laws.FnExactBinaryInsertionSort', WHERE WHAT IT READS IS OF BULK AT MOST 1048576: true; the input reads as it did. -/
def fnExactBinaryInsertionSortUptoRow : OpenClaim := { program := "ytjmmhakmidddoaa", sum := "4f9bd76b124d7ec0f314721901221aaea48aa5b4bc0e1a56235a521586007de8", func := "loop.example/g00907/laws.FnExactBinaryInsertionSort", spec := "fnExactBinaryInsertionSort", unfollowed := true, recurses := true, apart := false, narrowed := true }
def FnExactBinaryInsertionSortUptoSaid : Prop := fnExactBinaryInsertionSortUptoRow.holds Try.pinned (OpenSpec.upto fnExactBinaryInsertionSortSpec)

/-- 'laws.FnExactSelectionSort', WHERE WHAT IT READS IS OF BULK AT MOST 1048576: true; the input reads as it did. -/
def fnExactSelectionSortUptoRow : OpenClaim := { program := "ytjmmhakmidddoaa", sum := "4f9bd76b124d7ec0f314721901221aaea48aa5b4bc0e1a56235a521586007de8", func := "loop.example/g00907/laws.FnExactSelectionSort", spec := "fnExactSelectionSort", unfollowed := true, recurses := true, apart := false, narrowed := true }
def FnExactSelectionSortUptoSaid : Prop := fnExactSelectionSortUptoRow.holds Try.pinned (OpenSpec.upto fnExactSelectionSortSpec)

/-- 'laws.FnExactBubblePasses', WHERE WHAT IT READS IS OF BULK AT MOST 1048576: true; the input reads as it did. -/
def fnExactBubblePassesUptoRow : OpenClaim := { program := "ytjmmhakmidddoaa", sum := "4f9bd76b124d7ec0f314721901221aaea48aa5b4bc0e1a56235a521586007de8", func := "loop.example/g00907/laws.FnExactBubblePasses", spec := "fnExactBubblePasses", unfollowed := true, recurses := true, apart := false, narrowed := true }
def FnExactBubblePassesUptoSaid : Prop := fnExactBubblePassesUptoRow.holds Try.pinned (OpenSpec.upto fnExactBubblePassesSpec)

/-- 'laws.FnExactShellSort', WHERE WHAT IT READS IS OF BULK AT MOST 1048576: true; the input reads as it did. -/
def fnExactShellSortUptoRow : OpenClaim := { program := "ytjmmhakmidddoaa", sum := "4f9bd76b124d7ec0f314721901221aaea48aa5b4bc0e1a56235a521586007de8", func := "loop.example/g00907/laws.FnExactShellSort", spec := "fnExactShellSort", unfollowed := true, recurses := true, apart := false, narrowed := true }
def FnExactShellSortUptoSaid : Prop := fnExactShellSortUptoRow.holds Try.pinned (OpenSpec.upto fnExactShellSortSpec)

/-- 'laws.FnExactCycleWrites', WHERE WHAT IT READS IS OF BULK AT MOST 1048576: true; the input reads as it did. -/
def fnExactCycleWritesUptoRow : OpenClaim := { program := "ytjmmhakmidddoaa", sum := "4f9bd76b124d7ec0f314721901221aaea48aa5b4bc0e1a56235a521586007de8", func := "loop.example/g00907/laws.FnExactCycleWrites", spec := "fnExactCycleWrites", unfollowed := true, recurses := true, apart := false, narrowed := true }
def FnExactCycleWritesUptoSaid : Prop := fnExactCycleWritesUptoRow.holds Try.pinned (OpenSpec.upto fnExactCycleWritesSpec)

end Rows
end Go.Proofs.Ytjmmhakmidddoaa
