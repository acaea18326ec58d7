/-
  No cell of these rows narrows 'for every input' (looked for: loops, veiled, ifaces, maps, wideKeys, modest, calm, conditions, laid).
  DERIVED. THE GIVEN ROWS OF THIS SEAT. 13 by the template 'for every input the law returns true; each argument reads behind the call as it read before'; 0 by the template 'total and deterministic' (their statements: YtnjabdlhgmaeiaaTotals.lean).
  GIVEN WITH THE SEED: the statements are not yours to turn. If you find one false, say at which input.
  Laid BY PROGRAM, IN A SANDBOX (cutbox-rows.mjs): the forced cells as the released guide's own fill.sh prints them over the translation 2bdd7f0611d84f38… (all of the seat's roots in one cut). By AI agents, Wed Nov 11 2026. No macro, syntax, notation, axiom, sorry.
-/
import Derived.Test.YtnjabdlhgmaeiaaChecked
import GoSem.Claim
import GoSem.ClaimJoined
import GoSem.ClaimMapViews
import Derived.JoinedTies
import Derived.KernelRfl
namespace Go.Proofs.Ytnjabdlhgmaeiaa
/- THE CELL 'sum', in the pinned program and in every row, IS THE sha256 OF THE DUMP (.gsa) THAT YtnjabdlhgmaeiaaProg.lean LOADS. Nothing in Lean hashes anything: it is a label: what it is worth is what the hold of that sum in a sandbox is worth. -/
noncomputable def Try.pinned : Pinned := { name := "ytnjabdlhgmaeiaa", sum := "2bdd7f0611d84f38d61c6ea4ab8de816b5d261d697511382111de9852131d7f5", checked := Try.checked }
namespace Rows
def none {H : Type} : Left H := { results := [], args := [] }

/-- 'laws.FnOrders': WHATEVER THE INPUT: true; the input reads as it did. -/
def fnOrdersSpec : ChangeSpec := { name := "fnOrders", fn := fun _ => fun
  | [d] => { results := [.lit (.bool true)], args := [d] }
  | _ => none }
def fnOrdersRow : OpenClaim := { program := "ytnjabdlhgmaeiaa", sum := "2bdd7f0611d84f38d61c6ea4ab8de816b5d261d697511382111de9852131d7f5", func := "loop.example/g00907/laws.FnOrders", spec := "fnOrders", unfollowed := true, recurses := true, apart := false }
def FnOrdersSaid : Prop := fnOrdersRow.holds Try.pinned (OpenSpec.ofChange fnOrdersSpec)

/-- ITS FALSE NEIGHBOUR: 'it returns false'. Refute it at one input. -/
def fnOrdersWrong : ChangeSpec := { name := "fnOrders", fn := fun _ => fun
  | [d] => { results := [.lit (.bool false)], args := [d] }
  | _ => none }
def FnOrdersWrongFalsely : Prop := fnOrdersRow.holds Try.pinned (OpenSpec.ofChange fnOrdersWrong)

/-- 'laws.FnMerge': WHATEVER THE INPUT: true; the input reads as it did. -/
def fnMergeSpec : ChangeSpec := { name := "fnMerge", fn := fun _ => fun
  | [d] => { results := [.lit (.bool true)], args := [d] }
  | _ => none }
def fnMergeRow : OpenClaim := { program := "ytnjabdlhgmaeiaa", sum := "2bdd7f0611d84f38d61c6ea4ab8de816b5d261d697511382111de9852131d7f5", func := "loop.example/g00907/laws.FnMerge", spec := "fnMerge", unfollowed := true, recurses := true, apart := false }
def FnMergeSaid : Prop := fnMergeRow.holds Try.pinned (OpenSpec.ofChange fnMergeSpec)

/-- ITS FALSE NEIGHBOUR: 'it returns false'. Refute it at one input. -/
def fnMergeWrong : ChangeSpec := { name := "fnMerge", fn := fun _ => fun
  | [d] => { results := [.lit (.bool false)], args := [d] }
  | _ => none }
def FnMergeWrongFalsely : Prop := fnMergeRow.holds Try.pinned (OpenSpec.ofChange fnMergeWrong)

/-- 'laws.FnMergeSort': WHATEVER THE INPUT: true; the input reads as it did. -/
def fnMergeSortSpec : ChangeSpec := { name := "fnMergeSort", fn := fun _ => fun
  | [d] => { results := [.lit (.bool true)], args := [d] }
  | _ => none }
def fnMergeSortRow : OpenClaim := { program := "ytnjabdlhgmaeiaa", sum := "2bdd7f0611d84f38d61c6ea4ab8de816b5d261d697511382111de9852131d7f5", func := "loop.example/g00907/laws.FnMergeSort", spec := "fnMergeSort", unfollowed := true, recurses := true, apart := false }
def FnMergeSortSaid : Prop := fnMergeSortRow.holds Try.pinned (OpenSpec.ofChange fnMergeSortSpec)

/-- ITS FALSE NEIGHBOUR: 'it returns false'. Refute it at one input. -/
def fnMergeSortWrong : ChangeSpec := { name := "fnMergeSort", fn := fun _ => fun
  | [d] => { results := [.lit (.bool false)], args := [d] }
  | _ => none }
def FnMergeSortWrongFalsely : Prop := fnMergeSortRow.holds Try.pinned (OpenSpec.ofChange fnMergeSortWrong)

/-- 'laws.FnNaturalRuns': WHATEVER THE INPUT: true; the input reads as it did. -/
def fnNaturalRunsSpec : ChangeSpec := { name := "fnNaturalRuns", fn := fun _ => fun
  | [d] => { results := [.lit (.bool true)], args := [d] }
  | _ => none }
def fnNaturalRunsRow : OpenClaim := { program := "ytnjabdlhgmaeiaa", sum := "2bdd7f0611d84f38d61c6ea4ab8de816b5d261d697511382111de9852131d7f5", func := "loop.example/g00907/laws.FnNaturalRuns", spec := "fnNaturalRuns", unfollowed := true, recurses := true, apart := false }
def FnNaturalRunsSaid : Prop := fnNaturalRunsRow.holds Try.pinned (OpenSpec.ofChange fnNaturalRunsSpec)

/-- ITS FALSE NEIGHBOUR: 'it returns false'. Refute it at one input. -/
def fnNaturalRunsWrong : ChangeSpec := { name := "fnNaturalRuns", fn := fun _ => fun
  | [d] => { results := [.lit (.bool false)], args := [d] }
  | _ => none }
def FnNaturalRunsWrongFalsely : Prop := fnNaturalRunsRow.holds Try.pinned (OpenSpec.ofChange fnNaturalRunsWrong)

/-- 'laws.FnRunMerges': WHATEVER THE INPUT: true; the input reads as it did. -/
def fnRunMergesSpec : ChangeSpec := { name := "fnRunMerges", fn := fun _ => fun
  | [d] => { results := [.lit (.bool true)], args := [d] }
  | _ => none }
def fnRunMergesRow : OpenClaim := { program := "ytnjabdlhgmaeiaa", sum := "2bdd7f0611d84f38d61c6ea4ab8de816b5d261d697511382111de9852131d7f5", func := "loop.example/g00907/laws.FnRunMerges", spec := "fnRunMerges", unfollowed := true, recurses := true, apart := false }
def FnRunMergesSaid : Prop := fnRunMergesRow.holds Try.pinned (OpenSpec.ofChange fnRunMergesSpec)

/-- ITS FALSE NEIGHBOUR: 'it returns false'. Refute it at one input. -/
def fnRunMergesWrong : ChangeSpec := { name := "fnRunMerges", fn := fun _ => fun
  | [d] => { results := [.lit (.bool false)], args := [d] }
  | _ => none }
def FnRunMergesWrongFalsely : Prop := fnRunMergesRow.holds Try.pinned (OpenSpec.ofChange fnRunMergesWrong)

/-- 'laws.FnAdaptive': WHATEVER THE INPUT: true; the input reads as it did. -/
def fnAdaptiveSpec : ChangeSpec := { name := "fnAdaptive", fn := fun _ => fun
  | [d] => { results := [.lit (.bool true)], args := [d] }
  | _ => none }
def fnAdaptiveRow : OpenClaim := { program := "ytnjabdlhgmaeiaa", sum := "2bdd7f0611d84f38d61c6ea4ab8de816b5d261d697511382111de9852131d7f5", func := "loop.example/g00907/laws.FnAdaptive", spec := "fnAdaptive", unfollowed := true, recurses := true, apart := false }
def FnAdaptiveSaid : Prop := fnAdaptiveRow.holds Try.pinned (OpenSpec.ofChange fnAdaptiveSpec)

/-- ITS FALSE NEIGHBOUR: 'it returns false'. Refute it at one input. -/
def fnAdaptiveWrong : ChangeSpec := { name := "fnAdaptive", fn := fun _ => fun
  | [d] => { results := [.lit (.bool false)], args := [d] }
  | _ => none }
def FnAdaptiveWrongFalsely : Prop := fnAdaptiveRow.holds Try.pinned (OpenSpec.ofChange fnAdaptiveWrong)

/-- 'laws.FnGallop': WHATEVER THE INPUT: true; the input reads as it did. -/
def fnGallopSpec : ChangeSpec := { name := "fnGallop", fn := fun _ => fun
  | [d] => { results := [.lit (.bool true)], args := [d] }
  | _ => none }
def fnGallopRow : OpenClaim := { program := "ytnjabdlhgmaeiaa", sum := "2bdd7f0611d84f38d61c6ea4ab8de816b5d261d697511382111de9852131d7f5", func := "loop.example/g00907/laws.FnGallop", spec := "fnGallop", unfollowed := true, recurses := true, apart := false }
def FnGallopSaid : Prop := fnGallopRow.holds Try.pinned (OpenSpec.ofChange fnGallopSpec)

/-- ITS FALSE NEIGHBOUR: 'it returns false'. Refute it at one input. -/
def fnGallopWrong : ChangeSpec := { name := "fnGallop", fn := fun _ => fun
  | [d] => { results := [.lit (.bool false)], args := [d] }
  | _ => none }
def FnGallopWrongFalsely : Prop := fnGallopRow.holds Try.pinned (OpenSpec.ofChange fnGallopWrong)

/-- 'laws.FnExactMergeSorted': WHATEVER THE INPUT: true; the input reads as it did. -/
def fnExactMergeSortedSpec : ChangeSpec := { name := "fnExactMergeSorted", fn := fun _ => fun
  | [d1, d2] => { results := [.lit (.bool true)], args := [d1, d2] }
  | _ => none }
def fnExactMergeSortedRow : OpenClaim := { program := "ytnjabdlhgmaeiaa", sum := "2bdd7f0611d84f38d61c6ea4ab8de816b5d261d697511382111de9852131d7f5", func := "loop.example/g00907/laws.FnExactMergeSorted", spec := "fnExactMergeSorted", unfollowed := true, recurses := true, apart := false }
def FnExactMergeSortedSaid : Prop := fnExactMergeSortedRow.holds Try.pinned (OpenSpec.ofChange fnExactMergeSortedSpec)

/-- ITS FALSE NEIGHBOUR: 'it returns false'. Refute it at one input. -/
def fnExactMergeSortedWrong : ChangeSpec := { name := "fnExactMergeSorted", fn := fun _ => fun
  | [d1, d2] => { results := [.lit (.bool false)], args := [d1, d2] }
  | _ => none }
def FnExactMergeSortedWrongFalsely : Prop := fnExactMergeSortedRow.holds Try.pinned (OpenSpec.ofChange fnExactMergeSortedWrong)

/-- 'laws.FnExactMergeSort': WHATEVER THE INPUT: true; the input reads as it did. -/
def fnExactMergeSortSpec : ChangeSpec := { name := "fnExactMergeSort", fn := fun _ => fun
  | [d] => { results := [.lit (.bool true)], args := [d] }
  | _ => none }
def fnExactMergeSortRow : OpenClaim := { program := "ytnjabdlhgmaeiaa", sum := "2bdd7f0611d84f38d61c6ea4ab8de816b5d261d697511382111de9852131d7f5", func := "loop.example/g00907/laws.FnExactMergeSort", spec := "fnExactMergeSort", unfollowed := true, recurses := true, apart := false }
def FnExactMergeSortSaid : Prop := fnExactMergeSortRow.holds Try.pinned (OpenSpec.ofChange fnExactMergeSortSpec)

/-- ITS FALSE NEIGHBOUR: 'it returns false'. Refute it at one input. -/
def fnExactMergeSortWrong : ChangeSpec := { name := "fnExactMergeSort", fn := fun _ => fun
  | [d] => { results := [.lit (.bool false)], args := [d] }
  | _ => none }
def FnExactMergeSortWrongFalsely : Prop := fnExactMergeSortRow.holds Try.pinned (OpenSpec.ofChange fnExactMergeSortWrong)

/-- 'laws.FnExactNaturalRuns': WHATEVER THE INPUT: true; the input reads as it did. -/
def fnExactNaturalRunsSpec : ChangeSpec := { name := "fnExactNaturalRuns", fn := fun _ => fun
  | [d] => { results := [.lit (.bool true)], args := [d] }
  | _ => none }
def fnExactNaturalRunsRow : OpenClaim := { program := "ytnjabdlhgmaeiaa", sum := "2bdd7f0611d84f38d61c6ea4ab8de816b5d261d697511382111de9852131d7f5", func := "loop.example/g00907/laws.FnExactNaturalRuns", spec := "fnExactNaturalRuns", unfollowed := true, recurses := true, apart := false }
def FnExactNaturalRunsSaid : Prop := fnExactNaturalRunsRow.holds Try.pinned (OpenSpec.ofChange fnExactNaturalRunsSpec)

/-- ITS FALSE NEIGHBOUR: 'it returns false'. Refute it at one input. -/
def fnExactNaturalRunsWrong : ChangeSpec := { name := "fnExactNaturalRuns", fn := fun _ => fun
  | [d] => { results := [.lit (.bool false)], args := [d] }
  | _ => none }
def FnExactNaturalRunsWrongFalsely : Prop := fnExactNaturalRunsRow.holds Try.pinned (OpenSpec.ofChange fnExactNaturalRunsWrong)

/-- 'laws.FnExactRunMerges': WHATEVER THE INPUT: true; the input reads as it did. -/
def fnExactRunMergesSpec : ChangeSpec := { name := "fnExactRunMerges", fn := fun _ => fun
  | [d] => { results := [.lit (.bool true)], args := [d] }
  | _ => none }
def fnExactRunMergesRow : OpenClaim := { program := "ytnjabdlhgmaeiaa", sum := "2bdd7f0611d84f38d61c6ea4ab8de816b5d261d697511382111de9852131d7f5", func := "loop.example/g00907/laws.FnExactRunMerges", spec := "fnExactRunMerges", unfollowed := true, recurses := true, apart := false }
def FnExactRunMergesSaid : Prop := fnExactRunMergesRow.holds Try.pinned (OpenSpec.ofChange fnExactRunMergesSpec)

/-- ITS FALSE NEIGHBOUR: 'it returns false'. Refute it at one input. -/
def fnExactRunMergesWrong : ChangeSpec := { name := "fnExactRunMerges", fn := fun _ => fun
  | [d] => { results := [.lit (.bool false)], args := [d] }
  | _ => none }
def FnExactRunMergesWrongFalsely : Prop := fnExactRunMergesRow.holds Try.pinned (OpenSpec.ofChange fnExactRunMergesWrong)

/-- 'laws.FnExactAdaptiveSort': WHATEVER THE INPUT: true; the input reads as it did. -/
def fnExactAdaptiveSortSpec : ChangeSpec := { name := "fnExactAdaptiveSort", fn := fun _ => fun
  | [d] => { results := [.lit (.bool true)], args := [d] }
  | _ => none }
def fnExactAdaptiveSortRow : OpenClaim := { program := "ytnjabdlhgmaeiaa", sum := "2bdd7f0611d84f38d61c6ea4ab8de816b5d261d697511382111de9852131d7f5", func := "loop.example/g00907/laws.FnExactAdaptiveSort", spec := "fnExactAdaptiveSort", unfollowed := true, recurses := true, apart := false }
def FnExactAdaptiveSortSaid : Prop := fnExactAdaptiveSortRow.holds Try.pinned (OpenSpec.ofChange fnExactAdaptiveSortSpec)

/-- ITS FALSE NEIGHBOUR: 'it returns false'. Refute it at one input. -/
def fnExactAdaptiveSortWrong : ChangeSpec := { name := "fnExactAdaptiveSort", fn := fun _ => fun
  | [d] => { results := [.lit (.bool false)], args := [d] }
  | _ => none }
def FnExactAdaptiveSortWrongFalsely : Prop := fnExactAdaptiveSortRow.holds Try.pinned (OpenSpec.ofChange fnExactAdaptiveSortWrong)

/-- 'laws.FnExactGallopSearch': WHATEVER THE INPUT: true; the input reads as it did. -/
def fnExactGallopSearchSpec : ChangeSpec := { name := "fnExactGallopSearch", fn := fun _ => fun
  | [d1, d2, d3] => { results := [.lit (.bool true)], args := [d1, d2, d3] }
  | _ => none }
def fnExactGallopSearchRow : OpenClaim := { program := "ytnjabdlhgmaeiaa", sum := "2bdd7f0611d84f38d61c6ea4ab8de816b5d261d697511382111de9852131d7f5", func := "loop.example/g00907/laws.FnExactGallopSearch", spec := "fnExactGallopSearch", unfollowed := true, recurses := true, apart := false }
def FnExactGallopSearchSaid : Prop := fnExactGallopSearchRow.holds Try.pinned (OpenSpec.ofChange fnExactGallopSearchSpec)

/-- ITS FALSE NEIGHBOUR: 'it returns false'. Refute it at one input. -/
def fnExactGallopSearchWrong : ChangeSpec := { name := "fnExactGallopSearch", fn := fun _ => fun
  | [d1, d2, d3] => { results := [.lit (.bool false)], args := [d1, d2, d3] }
  | _ => none }
def FnExactGallopSearchWrongFalsely : Prop := fnExactGallopSearchRow.holds Try.pinned (OpenSpec.ofChange fnExactGallopSearchWrong)

/- THE SECOND FORM. 'bulk': how many values and letters a reading holds, each counted each time it is reached (what is shared counts as often as it is met; a slice's spare places count too). A statement '..UptoSaid' is the law's where the arguments, and the package variables that the reading takes, are together of bulk at most 1048576: NARROWER than '..Said'. Prove '..Said' where nothing that the law and all that it calls make is longer than what came in: it says more and counts as full. Else prove '..UptoSaid'. A law counts once. -/
mutual
def uptoBulk {H : Type} : DataW H → Nat
  | .lit (.string bytes) => bytes.length + 1
  | .lit _ => 1
  | .nil => 1
  | .ptr d => uptoBulk d + 1
  | .slice elems spare => uptoBulkAll elems + uptoBulkAll spare + 1
  | .agg parts => uptoBulkAll parts + 1
  | .iface _ d => uptoBulk d + 1
  | .map entries => uptoBulkEntries entries + 1
  | .held _ => 1
def uptoBulkAll {H : Type} : List (DataW H) → Nat
  | [] => 0
  | d :: r => uptoBulk d + uptoBulkAll r
def uptoBulkEntries {H : Type} : List (Lit × DataW H) → Nat
  | [] => 0
  | x :: r => uptoBulkEntry x + uptoBulkEntries r
def uptoBulkEntry {H : Type} : Lit × DataW H → Nat
  | (.string bytes, d) => bytes.length + uptoBulk d + 1
  | (_, d) => uptoBulk d + 1
 end
def uptoSmall : (H : Type) → List (DataW H) → Bool := fun _ ds => decide (uptoBulkAll ds ≤ 1048576)
def OpenSpec.upto (s : _root_.Go.ChangeSpec) : _root_.Go.OpenSpec := { _root_.Go.OpenSpec.ofChange s with cond := some uptoSmall }

/-- 'laws.FnOrders', WHERE WHAT IT READS IS OF BULK AT MOST 1048576: true; the input reads as it did. -/
def fnOrdersUptoRow : OpenClaim := { program := "ytnjabdlhgmaeiaa", sum := "2bdd7f0611d84f38d61c6ea4ab8de816b5d261d697511382111de9852131d7f5", func := "loop.example/g00907/laws.FnOrders", spec := "fnOrders", unfollowed := true, recurses := true, apart := false, narrowed := true }
def FnOrdersUptoSaid : Prop := fnOrdersUptoRow.holds Try.pinned (OpenSpec.upto fnOrdersSpec)

/-- 'laws.FnMerge', WHERE WHAT IT READS IS OF BULK AT MOST 1048576: true; the input reads as it did. -/
def fnMergeUptoRow : OpenClaim := { program := "ytnjabdlhgmaeiaa", sum := "2bdd7f0611d84f38d61c6ea4ab8de816b5d261d697511382111de9852131d7f5", func := "loop.example/g00907/laws.FnMerge", spec := "fnMerge", unfollowed := true, recurses := true, apart := false, narrowed := true }
def FnMergeUptoSaid : Prop := fnMergeUptoRow.holds Try.pinned (OpenSpec.upto fnMergeSpec)

/-- 'laws.FnMergeSort', WHERE WHAT IT READS IS OF BULK AT MOST 1048576: true; the input reads as it did. -/
def fnMergeSortUptoRow : OpenClaim := { program := "ytnjabdlhgmaeiaa", sum := "2bdd7f0611d84f38d61c6ea4ab8de816b5d261d697511382111de9852131d7f5", func := "loop.example/g00907/laws.FnMergeSort", spec := "fnMergeSort", unfollowed := true, recurses := true, apart := false, narrowed := true }
def FnMergeSortUptoSaid : Prop := fnMergeSortUptoRow.holds Try.pinned (OpenSpec.upto fnMergeSortSpec)

/-- 'laws.FnNaturalRuns', WHERE WHAT IT READS IS OF BULK AT MOST 1048576: true; the input reads as it did. -/
def fnNaturalRunsUptoRow : OpenClaim := { program := "ytnjabdlhgmaeiaa", sum := "2bdd7f0611d84f38d61c6ea4ab8de816b5d261d697511382111de9852131d7f5", func := "loop.example/g00907/laws.FnNaturalRuns", spec := "fnNaturalRuns", unfollowed := true, recurses := true, apart := false, narrowed := true }
def FnNaturalRunsUptoSaid : Prop := fnNaturalRunsUptoRow.holds Try.pinned (OpenSpec.upto fnNaturalRunsSpec)

/-- 'laws.FnRunMerges', WHERE WHAT IT READS IS OF BULK AT MOST 1048576: true; the input reads as it did. -/
def fnRunMergesUptoRow : OpenClaim := { program := "ytnjabdlhgmaeiaa", sum := "2bdd7f0611d84f38d61c6ea4ab8de816b5d261d697511382111de9852131d7f5", func := "loop.example/g00907/laws.FnRunMerges", spec := "fnRunMerges", unfollowed := true, recurses := true, apart := false, narrowed := true }
def FnRunMergesUptoSaid : Prop := fnRunMergesUptoRow.holds Try.pinned (OpenSpec.upto fnRunMergesSpec)

/-- 'laws.FnAdaptive', WHERE WHAT IT READS IS OF BULK AT MOST 1048576: true; the input reads as it did. -/
def fnAdaptiveUptoRow : OpenClaim := { program := "ytnjabdlhgmaeiaa", sum := "2bdd7f0611d84f38d61c6ea4ab8de816b5d261d697511382111de9852131d7f5", func := "loop.example/g00907/laws.FnAdaptive", spec := "fnAdaptive", unfollowed := true, recurses := true, apart := false, narrowed := true }
def FnAdaptiveUptoSaid : Prop := fnAdaptiveUptoRow.holds Try.pinned (OpenSpec.upto fnAdaptiveSpec)

/-- 'laws.FnGallop', WHERE WHAT IT READS IS OF BULK AT MOST 1048576: true; the input reads as it did. -/
def fnGallopUptoRow : OpenClaim := { program := "ytnjabdlhgmaeiaa", sum := "2bdd7f0611d84f38d61c6ea4ab8de816b5d261d697511382111de9852131d7f5", func := "loop.example/g00907/laws.FnGallop", spec := "fnGallop", unfollowed := true, recurses := true, apart := false, narrowed := true }
def FnGallopUptoSaid : Prop := fnGallopUptoRow.holds Try.pinned (OpenSpec.upto fnGallopSpec)

/-- 'laws.FnExactMergeSorted', WHERE WHAT IT READS IS OF BULK AT MOST 1048576: true; the input reads as it did. -/
def fnExactMergeSortedUptoRow : OpenClaim := { program := "ytnjabdlhgmaeiaa", sum := "2bdd7f0611d84f38d61c6ea4ab8de816b5d261d697511382111de9852131d7f5", func := "loop.example/g00907/laws.FnExactMergeSorted", spec := "fnExactMergeSorted", unfollowed := true, recurses := true, apart := false, narrowed := true }
def FnExactMergeSortedUptoSaid : Prop := fnExactMergeSortedUptoRow.holds Try.pinned (OpenSpec.upto fnExactMergeSortedSpec)

/-- 'laws.FnExactMergeSort', WHERE WHAT IT READS IS OF BULK AT MOST 1048576: true; the input reads as it did. -/
def fnExactMergeSortUptoRow : OpenClaim := { program := "ytnjabdlhgmaeiaa", sum := "2bdd7f0611d84f38d61c6ea4ab8de816b5d261d697511382111de9852131d7f5", func := "loop.example/g00907/laws.FnExactMergeSort", spec := "fnExactMergeSort", unfollowed := true, recurses := true, apart := false, narrowed := true }
def FnExactMergeSortUptoSaid : Prop := fnExactMergeSortUptoRow.holds Try.pinned (OpenSpec.upto fnExactMergeSortSpec)

/-- 'laws.FnExactNaturalRuns', WHERE WHAT IT READS IS OF BULK AT MOST 1048576: true; the input reads as it did. -/
def fnExactNaturalRunsUptoRow : OpenClaim := { program := "ytnjabdlhgmaeiaa", sum := "2bdd7f0611d84f38d61c6ea4ab8de816b5d261d697511382111de9852131d7f5", func := "loop.example/g00907/laws.FnExactNaturalRuns", spec := "fnExactNaturalRuns", unfollowed := true, recurses := true, apart := false, narrowed := true }
def FnExactNaturalRunsUptoSaid : Prop := fnExactNaturalRunsUptoRow.holds Try.pinned (OpenSpec.upto fnExactNaturalRunsSpec)

/-- 'laws.FnExactRunMerges', WHERE WHAT IT READS IS OF BULK AT MOST 1048576: true; the input reads as it did. -/
def fnExactRunMergesUptoRow : OpenClaim := { program := "ytnjabdlhgmaeiaa", sum := "2bdd7f0611d84f38d61c6ea4ab8de816b5d261d697511382111de9852131d7f5", func := "loop.example/g00907/laws.FnExactRunMerges", spec := "fnExactRunMerges", unfollowed := true, recurses := true, apart := false, narrowed := true }
def FnExactRunMergesUptoSaid : Prop := fnExactRunMergesUptoRow.holds Try.pinned (OpenSpec.upto fnExactRunMergesSpec)

/-- 'laws.FnExactAdaptiveSort', WHERE WHAT IT READS IS OF BULK AT MOST 1048576: true; the input reads as it did. -/
def fnExactAdaptiveSortUptoRow : OpenClaim := { program := "ytnjabdlhgmaeiaa", sum := "2bdd7f0611d84f38d61c6ea4ab8de816b5d261d697511382111de9852131d7f5", func := "loop.example/g00907/laws.FnExactAdaptiveSort", spec := "fnExactAdaptiveSort", unfollowed := true, recurses := true, apart := false, narrowed := true }
def FnExactAdaptiveSortUptoSaid : Prop := fnExactAdaptiveSortUptoRow.holds Try.pinned (OpenSpec.upto fnExactAdaptiveSortSpec)

/-- 'laws.FnExactGallopSearch', WHERE WHAT IT READS IS OF BULK AT MOST 1048576: true; the input reads as it did. -/
def fnExactGallopSearchUptoRow : OpenClaim := { program := "ytnjabdlhgmaeiaa", sum := "2bdd7f0611d84f38d61c6ea4ab8de816b5d261d697511382111de9852131d7f5", func := "loop.example/g00907/laws.FnExactGallopSearch", spec := "fnExactGallopSearch", unfollowed := true, recurses := true, apart := false, narrowed := true }
def FnExactGallopSearchUptoSaid : Prop := fnExactGallopSearchUptoRow.holds Try.pinned (OpenSpec.upto fnExactGallopSearchSpec)

end Rows
end Go.Proofs.Ytnjabdlhgmaeiaa
