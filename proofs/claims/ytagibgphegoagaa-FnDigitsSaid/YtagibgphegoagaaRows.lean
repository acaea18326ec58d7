/-
  No cell of these rows narrows 'for every input' (looked for: loops, veiled, ifaces, maps, wideKeys, modest, calm, conditions, laid).
  DERIVED. THE GIVEN ROWS OF THIS SEAT. 15 by the template 'for every input the law returns true; each argument reads behind the call as it read before'; 0 by the template 'total and deterministic' (their statements: YtagibgphegoagaaTotals.lean).
  GIVEN WITH THE SEED: the statements are not yours to turn. If you find one false, say at which input.
  Laid BY PROGRAM, IN A SANDBOX (cutbox-rows.mjs): the forced cells as the released guide's own fill.sh prints them over the translation 621bada5603bec0b… (all of the seat's roots in one cut). By AI agents, Wed Nov 11 2026. No macro, syntax, notation, axiom, sorry.
-/
import Derived.Test.YtagibgphegoagaaChecked
import GoSem.Claim
import GoSem.ClaimJoined
import GoSem.ClaimMapViews
import Derived.JoinedTies
import Derived.KernelRfl
namespace Go.Proofs.Ytagibgphegoagaa
/- THE CELL 'sum', in the pinned program and in every row, IS THE sha256 OF THE DUMP (.gsa) THAT YtagibgphegoagaaProg.lean LOADS. Nothing in Lean hashes anything: it is a label: what it is worth is what the hold of that sum in a sandbox is worth. -/
noncomputable def Try.pinned : Pinned := { name := "ytagibgphegoagaa", sum := "621bada5603bec0b14c901a8d25b07f99d8b19b9548c63592d77b0f76c1a4345", checked := Try.checked }
namespace Rows
def none {H : Type} : Left H := { results := [], args := [] }

/-- 'laws.FnDigits': WHATEVER THE INPUT: true; the input reads as it did. -/
def fnDigitsSpec : ChangeSpec := { name := "fnDigits", fn := fun _ => fun
  | [d] => { results := [.lit (.bool true)], args := [d] }
  | _ => none }
def fnDigitsRow : OpenClaim := { program := "ytagibgphegoagaa", sum := "621bada5603bec0b14c901a8d25b07f99d8b19b9548c63592d77b0f76c1a4345", func := "loop.example/g00907/laws.FnDigits", spec := "fnDigits", unfollowed := true, recurses := true, apart := false }
def FnDigitsSaid : Prop := fnDigitsRow.holds Try.pinned (OpenSpec.ofChange fnDigitsSpec)

/-- ITS FALSE NEIGHBOUR: 'it returns false'. Refute it at one input. -/
def fnDigitsWrong : ChangeSpec := { name := "fnDigits", fn := fun _ => fun
  | [d] => { results := [.lit (.bool false)], args := [d] }
  | _ => none }
def FnDigitsWrongFalsely : Prop := fnDigitsRow.holds Try.pinned (OpenSpec.ofChange fnDigitsWrong)

/-- 'laws.FnExactAdaptiveSort': WHATEVER THE INPUT: true; the input reads as it did. -/
def fnExactAdaptiveSortSpec : ChangeSpec := { name := "fnExactAdaptiveSort", fn := fun _ => fun
  | [d] => { results := [.lit (.bool true)], args := [d] }
  | _ => none }
def fnExactAdaptiveSortRow : OpenClaim := { program := "ytagibgphegoagaa", sum := "621bada5603bec0b14c901a8d25b07f99d8b19b9548c63592d77b0f76c1a4345", func := "loop.example/g00907/laws.FnExactAdaptiveSort", spec := "fnExactAdaptiveSort", unfollowed := true, recurses := true, apart := false }
def FnExactAdaptiveSortSaid : Prop := fnExactAdaptiveSortRow.holds Try.pinned (OpenSpec.ofChange fnExactAdaptiveSortSpec)

/-- ITS FALSE NEIGHBOUR: 'it returns false'. Refute it at one input. -/
def fnExactAdaptiveSortWrong : ChangeSpec := { name := "fnExactAdaptiveSort", fn := fun _ => fun
  | [d] => { results := [.lit (.bool false)], args := [d] }
  | _ => none }
def FnExactAdaptiveSortWrongFalsely : Prop := fnExactAdaptiveSortRow.holds Try.pinned (OpenSpec.ofChange fnExactAdaptiveSortWrong)

/-- 'laws.FnAdaptive': WHATEVER THE INPUT: true; the input reads as it did. -/
def fnAdaptiveSpec : ChangeSpec := { name := "fnAdaptive", fn := fun _ => fun
  | [d] => { results := [.lit (.bool true)], args := [d] }
  | _ => none }
def fnAdaptiveRow : OpenClaim := { program := "ytagibgphegoagaa", sum := "621bada5603bec0b14c901a8d25b07f99d8b19b9548c63592d77b0f76c1a4345", func := "loop.example/g00907/laws.FnAdaptive", spec := "fnAdaptive", unfollowed := true, recurses := true, apart := false }
def FnAdaptiveSaid : Prop := fnAdaptiveRow.holds Try.pinned (OpenSpec.ofChange fnAdaptiveSpec)

/-- ITS FALSE NEIGHBOUR: 'it returns false'. Refute it at one input. -/
def fnAdaptiveWrong : ChangeSpec := { name := "fnAdaptive", fn := fun _ => fun
  | [d] => { results := [.lit (.bool false)], args := [d] }
  | _ => none }
def FnAdaptiveWrongFalsely : Prop := fnAdaptiveRow.holds Try.pinned (OpenSpec.ofChange fnAdaptiveWrong)

/-- 'laws.FnSelect': WHATEVER THE INPUT: true; the input reads as it did. -/
def fnSelectSpec : ChangeSpec := { name := "fnSelect", fn := fun _ => fun
  | [d] => { results := [.lit (.bool true)], args := [d] }
  | _ => none }
def fnSelectRow : OpenClaim := { program := "ytagibgphegoagaa", sum := "621bada5603bec0b14c901a8d25b07f99d8b19b9548c63592d77b0f76c1a4345", func := "loop.example/g00907/laws.FnSelect", spec := "fnSelect", unfollowed := true, recurses := true, apart := false }
def FnSelectSaid : Prop := fnSelectRow.holds Try.pinned (OpenSpec.ofChange fnSelectSpec)

/-- ITS FALSE NEIGHBOUR: 'it returns false'. Refute it at one input. -/
def fnSelectWrong : ChangeSpec := { name := "fnSelect", fn := fun _ => fun
  | [d] => { results := [.lit (.bool false)], args := [d] }
  | _ => none }
def FnSelectWrongFalsely : Prop := fnSelectRow.holds Try.pinned (OpenSpec.ofChange fnSelectWrong)

/-- 'laws.FnPartial': WHATEVER THE INPUT: true; the input reads as it did. -/
def fnPartialSpec : ChangeSpec := { name := "fnPartial", fn := fun _ => fun
  | [d] => { results := [.lit (.bool true)], args := [d] }
  | _ => none }
def fnPartialRow : OpenClaim := { program := "ytagibgphegoagaa", sum := "621bada5603bec0b14c901a8d25b07f99d8b19b9548c63592d77b0f76c1a4345", func := "loop.example/g00907/laws.FnPartial", spec := "fnPartial", unfollowed := true, recurses := true, apart := false }
def FnPartialSaid : Prop := fnPartialRow.holds Try.pinned (OpenSpec.ofChange fnPartialSpec)

/-- ITS FALSE NEIGHBOUR: 'it returns false'. Refute it at one input. -/
def fnPartialWrong : ChangeSpec := { name := "fnPartial", fn := fun _ => fun
  | [d] => { results := [.lit (.bool false)], args := [d] }
  | _ => none }
def FnPartialWrongFalsely : Prop := fnPartialRow.holds Try.pinned (OpenSpec.ofChange fnPartialWrong)

/-- 'laws.FnExtremes': WHATEVER THE INPUT: true; the input reads as it did. -/
def fnExtremesSpec : ChangeSpec := { name := "fnExtremes", fn := fun _ => fun
  | [d] => { results := [.lit (.bool true)], args := [d] }
  | _ => none }
def fnExtremesRow : OpenClaim := { program := "ytagibgphegoagaa", sum := "621bada5603bec0b14c901a8d25b07f99d8b19b9548c63592d77b0f76c1a4345", func := "loop.example/g00907/laws.FnExtremes", spec := "fnExtremes", unfollowed := true, recurses := true, apart := false }
def FnExtremesSaid : Prop := fnExtremesRow.holds Try.pinned (OpenSpec.ofChange fnExtremesSpec)

/-- ITS FALSE NEIGHBOUR: 'it returns false'. Refute it at one input. -/
def fnExtremesWrong : ChangeSpec := { name := "fnExtremes", fn := fun _ => fun
  | [d] => { results := [.lit (.bool false)], args := [d] }
  | _ => none }
def FnExtremesWrongFalsely : Prop := fnExtremesRow.holds Try.pinned (OpenSpec.ofChange fnExtremesWrong)

/-- 'laws.FnExactKthSmallest': WHATEVER THE INPUT: true; the input reads as it did. -/
def fnExactKthSmallestSpec : ChangeSpec := { name := "fnExactKthSmallest", fn := fun _ => fun
  | [d1, d2] => { results := [.lit (.bool true)], args := [d1, d2] }
  | _ => none }
def fnExactKthSmallestRow : OpenClaim := { program := "ytagibgphegoagaa", sum := "621bada5603bec0b14c901a8d25b07f99d8b19b9548c63592d77b0f76c1a4345", func := "loop.example/g00907/laws.FnExactKthSmallest", spec := "fnExactKthSmallest", unfollowed := true, recurses := true, apart := false }
def FnExactKthSmallestSaid : Prop := fnExactKthSmallestRow.holds Try.pinned (OpenSpec.ofChange fnExactKthSmallestSpec)

/-- ITS FALSE NEIGHBOUR: 'it returns false'. Refute it at one input. -/
def fnExactKthSmallestWrong : ChangeSpec := { name := "fnExactKthSmallest", fn := fun _ => fun
  | [d1, d2] => { results := [.lit (.bool false)], args := [d1, d2] }
  | _ => none }
def FnExactKthSmallestWrongFalsely : Prop := fnExactKthSmallestRow.holds Try.pinned (OpenSpec.ofChange fnExactKthSmallestWrong)

/-- 'laws.FnExactQuickSelect': WHATEVER THE INPUT: true; the input reads as it did. -/
def fnExactQuickSelectSpec : ChangeSpec := { name := "fnExactQuickSelect", fn := fun _ => fun
  | [d1, d2] => { results := [.lit (.bool true)], args := [d1, d2] }
  | _ => none }
def fnExactQuickSelectRow : OpenClaim := { program := "ytagibgphegoagaa", sum := "621bada5603bec0b14c901a8d25b07f99d8b19b9548c63592d77b0f76c1a4345", func := "loop.example/g00907/laws.FnExactQuickSelect", spec := "fnExactQuickSelect", unfollowed := true, recurses := true, apart := false }
def FnExactQuickSelectSaid : Prop := fnExactQuickSelectRow.holds Try.pinned (OpenSpec.ofChange fnExactQuickSelectSpec)

/-- ITS FALSE NEIGHBOUR: 'it returns false'. Refute it at one input. -/
def fnExactQuickSelectWrong : ChangeSpec := { name := "fnExactQuickSelect", fn := fun _ => fun
  | [d1, d2] => { results := [.lit (.bool false)], args := [d1, d2] }
  | _ => none }
def FnExactQuickSelectWrongFalsely : Prop := fnExactQuickSelectRow.holds Try.pinned (OpenSpec.ofChange fnExactQuickSelectWrong)

/-- 'laws.FnExactMedianOfMedians': WHATEVER THE INPUT: true; the input reads as it did. -/
def fnExactMedianOfMediansSpec : ChangeSpec := { name := "fnExactMedianOfMedians", fn := fun _ => fun
  | [d] => { results := [.lit (.bool true)], args := [d] }
  | _ => none }
def fnExactMedianOfMediansRow : OpenClaim := { program := "ytagibgphegoagaa", sum := "621bada5603bec0b14c901a8d25b07f99d8b19b9548c63592d77b0f76c1a4345", func := "loop.example/g00907/laws.FnExactMedianOfMedians", spec := "fnExactMedianOfMedians", unfollowed := true, recurses := true, apart := false }
def FnExactMedianOfMediansSaid : Prop := fnExactMedianOfMediansRow.holds Try.pinned (OpenSpec.ofChange fnExactMedianOfMediansSpec)

/-- ITS FALSE NEIGHBOUR: 'it returns false'. Refute it at one input. -/
def fnExactMedianOfMediansWrong : ChangeSpec := { name := "fnExactMedianOfMedians", fn := fun _ => fun
  | [d] => { results := [.lit (.bool false)], args := [d] }
  | _ => none }
def FnExactMedianOfMediansWrongFalsely : Prop := fnExactMedianOfMediansRow.holds Try.pinned (OpenSpec.ofChange fnExactMedianOfMediansWrong)

/-- 'laws.FnExactSelectByMedians': WHATEVER THE INPUT: true; the input reads as it did. -/
def fnExactSelectByMediansSpec : ChangeSpec := { name := "fnExactSelectByMedians", fn := fun _ => fun
  | [d1, d2] => { results := [.lit (.bool true)], args := [d1, d2] }
  | _ => none }
def fnExactSelectByMediansRow : OpenClaim := { program := "ytagibgphegoagaa", sum := "621bada5603bec0b14c901a8d25b07f99d8b19b9548c63592d77b0f76c1a4345", func := "loop.example/g00907/laws.FnExactSelectByMedians", spec := "fnExactSelectByMedians", unfollowed := true, recurses := true, apart := false }
def FnExactSelectByMediansSaid : Prop := fnExactSelectByMediansRow.holds Try.pinned (OpenSpec.ofChange fnExactSelectByMediansSpec)

/-- ITS FALSE NEIGHBOUR: 'it returns false'. Refute it at one input. -/
def fnExactSelectByMediansWrong : ChangeSpec := { name := "fnExactSelectByMedians", fn := fun _ => fun
  | [d1, d2] => { results := [.lit (.bool false)], args := [d1, d2] }
  | _ => none }
def FnExactSelectByMediansWrongFalsely : Prop := fnExactSelectByMediansRow.holds Try.pinned (OpenSpec.ofChange fnExactSelectByMediansWrong)

/-- 'laws.FnExactPartialSort': WHATEVER THE INPUT: true; the input reads as it did. -/
def fnExactPartialSortSpec : ChangeSpec := { name := "fnExactPartialSort", fn := fun _ => fun
  | [d1, d2] => { results := [.lit (.bool true)], args := [d1, d2] }
  | _ => none }
def fnExactPartialSortRow : OpenClaim := { program := "ytagibgphegoagaa", sum := "621bada5603bec0b14c901a8d25b07f99d8b19b9548c63592d77b0f76c1a4345", func := "loop.example/g00907/laws.FnExactPartialSort", spec := "fnExactPartialSort", unfollowed := true, recurses := true, apart := false }
def FnExactPartialSortSaid : Prop := fnExactPartialSortRow.holds Try.pinned (OpenSpec.ofChange fnExactPartialSortSpec)

/-- ITS FALSE NEIGHBOUR: 'it returns false'. Refute it at one input. -/
def fnExactPartialSortWrong : ChangeSpec := { name := "fnExactPartialSort", fn := fun _ => fun
  | [d1, d2] => { results := [.lit (.bool false)], args := [d1, d2] }
  | _ => none }
def FnExactPartialSortWrongFalsely : Prop := fnExactPartialSortRow.holds Try.pinned (OpenSpec.ofChange fnExactPartialSortWrong)

/-- 'laws.FnExactNthElement': WHATEVER THE INPUT: true; the input reads as it did. -/
def fnExactNthElementSpec : ChangeSpec := { name := "fnExactNthElement", fn := fun _ => fun
  | [d1, d2] => { results := [.lit (.bool true)], args := [d1, d2] }
  | _ => none }
def fnExactNthElementRow : OpenClaim := { program := "ytagibgphegoagaa", sum := "621bada5603bec0b14c901a8d25b07f99d8b19b9548c63592d77b0f76c1a4345", func := "loop.example/g00907/laws.FnExactNthElement", spec := "fnExactNthElement", unfollowed := true, recurses := true, apart := false }
def FnExactNthElementSaid : Prop := fnExactNthElementRow.holds Try.pinned (OpenSpec.ofChange fnExactNthElementSpec)

/-- ITS FALSE NEIGHBOUR: 'it returns false'. Refute it at one input. -/
def fnExactNthElementWrong : ChangeSpec := { name := "fnExactNthElement", fn := fun _ => fun
  | [d1, d2] => { results := [.lit (.bool false)], args := [d1, d2] }
  | _ => none }
def FnExactNthElementWrongFalsely : Prop := fnExactNthElementRow.holds Try.pinned (OpenSpec.ofChange fnExactNthElementWrong)

/-- 'laws.FnExactMinMax': WHATEVER THE INPUT: true; the input reads as it did. -/
def fnExactMinMaxSpec : ChangeSpec := { name := "fnExactMinMax", fn := fun _ => fun
  | [d] => { results := [.lit (.bool true)], args := [d] }
  | _ => none }
def fnExactMinMaxRow : OpenClaim := { program := "ytagibgphegoagaa", sum := "621bada5603bec0b14c901a8d25b07f99d8b19b9548c63592d77b0f76c1a4345", func := "loop.example/g00907/laws.FnExactMinMax", spec := "fnExactMinMax", unfollowed := true, recurses := true, apart := false }
def FnExactMinMaxSaid : Prop := fnExactMinMaxRow.holds Try.pinned (OpenSpec.ofChange fnExactMinMaxSpec)

/-- ITS FALSE NEIGHBOUR: 'it returns false'. Refute it at one input. -/
def fnExactMinMaxWrong : ChangeSpec := { name := "fnExactMinMax", fn := fun _ => fun
  | [d] => { results := [.lit (.bool false)], args := [d] }
  | _ => none }
def FnExactMinMaxWrongFalsely : Prop := fnExactMinMaxRow.holds Try.pinned (OpenSpec.ofChange fnExactMinMaxWrong)

/-- 'laws.FnExactSecondSmallest': WHATEVER THE INPUT: true; the input reads as it did. -/
def fnExactSecondSmallestSpec : ChangeSpec := { name := "fnExactSecondSmallest", fn := fun _ => fun
  | [d] => { results := [.lit (.bool true)], args := [d] }
  | _ => none }
def fnExactSecondSmallestRow : OpenClaim := { program := "ytagibgphegoagaa", sum := "621bada5603bec0b14c901a8d25b07f99d8b19b9548c63592d77b0f76c1a4345", func := "loop.example/g00907/laws.FnExactSecondSmallest", spec := "fnExactSecondSmallest", unfollowed := true, recurses := true, apart := false }
def FnExactSecondSmallestSaid : Prop := fnExactSecondSmallestRow.holds Try.pinned (OpenSpec.ofChange fnExactSecondSmallestSpec)

/-- ITS FALSE NEIGHBOUR: 'it returns false'. Refute it at one input. -/
def fnExactSecondSmallestWrong : ChangeSpec := { name := "fnExactSecondSmallest", fn := fun _ => fun
  | [d] => { results := [.lit (.bool false)], args := [d] }
  | _ => none }
def FnExactSecondSmallestWrongFalsely : Prop := fnExactSecondSmallestRow.holds Try.pinned (OpenSpec.ofChange fnExactSecondSmallestWrong)

/-- 'laws.FnExactWeightedMedian': WHATEVER THE INPUT: true; the input reads as it did. -/
def fnExactWeightedMedianSpec : ChangeSpec := { name := "fnExactWeightedMedian", fn := fun _ => fun
  | [d1, d2] => { results := [.lit (.bool true)], args := [d1, d2] }
  | _ => none }
def fnExactWeightedMedianRow : OpenClaim := { program := "ytagibgphegoagaa", sum := "621bada5603bec0b14c901a8d25b07f99d8b19b9548c63592d77b0f76c1a4345", func := "loop.example/g00907/laws.FnExactWeightedMedian", spec := "fnExactWeightedMedian", unfollowed := true, recurses := true, apart := false }
def FnExactWeightedMedianSaid : Prop := fnExactWeightedMedianRow.holds Try.pinned (OpenSpec.ofChange fnExactWeightedMedianSpec)

/-- ITS FALSE NEIGHBOUR: 'it returns false'. Refute it at one input. -/
def fnExactWeightedMedianWrong : ChangeSpec := { name := "fnExactWeightedMedian", fn := fun _ => fun
  | [d1, d2] => { results := [.lit (.bool false)], args := [d1, d2] }
  | _ => none }
def FnExactWeightedMedianWrongFalsely : Prop := fnExactWeightedMedianRow.holds Try.pinned (OpenSpec.ofChange fnExactWeightedMedianWrong)

/- THE SECOND FORM. 'bulk': how many values and letters a reading holds, each counted each time it is reached (what is shared counts as often as it is met; a slice's spare places count too). A statement '..UptoSaid' is the law's where the arguments, and the package variables that the reading takes, are together of bulk at most 1048576: NARROWER than '..Said'. Prove '..Said' where nothing that the law and all that it calls make is longer than what came in: it says more and counts as full. Else prove '..UptoSaid'. A law counts once. -/
mutual
def uptoBulk {H : Type} : DataW H → Nat
  | .lit (.string bytes) => bytes.length + 1
  | .lit _ => 1
  | .nil => 1
  | .ptr d => uptoBulk d + 1
  | .slice elems spare => uptoBulkAll elems + uptoBulkAll spare + 1
  | .agg parts => uptoBulkAll parts + 1
  | .iface _ d => uptoBulk d + 1
  | .map entries => uptoBulkEntries entries + 1
  | .held _ => 1
def uptoBulkAll {H : Type} : List (DataW H) → Nat
  | [] => 0
  | d :: r => uptoBulk d + uptoBulkAll r
def uptoBulkEntries {H : Type} : List (Lit × DataW H) → Nat
  | [] => 0
  | x :: r => uptoBulkEntry x + uptoBulkEntries r
def uptoBulkEntry {H : Type} : Lit × DataW H → Nat
  | (.string bytes, d) => bytes.length + uptoBulk d + 1
  | (_, d) => uptoBulk d + 1
 end
def uptoSmall : (H : Type) → List (DataW H) → Bool := fun _ ds => decide (uptoBulkAll ds ≤ 1048576)
def OpenSpec.upto (s : _root_.Go.ChangeSpec) : _root_.Go.OpenSpec := { _root_.Go.OpenSpec.ofChange s with cond := some uptoSmall }

/-- 'laws.FnDigits', WHERE WHAT IT READS IS OF BULK AT MOST 1048576: true; the input reads as it did. -/
def fnDigitsUptoRow : OpenClaim := { program := "ytagibgphegoagaa", sum := "621bada5603bec0b14c901a8d25b07f99d8b19b9548c63592d77b0f76c1a4345", func := "loop.example/g00907/laws.FnDigits", spec := "fnDigits", unfollowed := true, recurses := true, apart := false, narrowed := true }
def FnDigitsUptoSaid : Prop := fnDigitsUptoRow.holds Try.pinned (OpenSpec.upto fnDigitsSpec)

/-- 'laws.FnExactAdaptiveSort', WHERE WHAT IT READS IS OF BULK AT MOST 1048576: true; the input reads as it did. -/
def fnExactAdaptiveSortUptoRow : OpenClaim := { program := "ytagibgphegoagaa", sum := "621bada5603bec0b14c901a8d25b07f99d8b19b9548c63592d77b0f76c1a4345", func := "loop.example/g00907/laws.FnExactAdaptiveSort", spec := "fnExactAdaptiveSort", unfollowed := true, recurses := true, apart := false, narrowed := true }
def FnExactAdaptiveSortUptoSaid : Prop := fnExactAdaptiveSortUptoRow.holds Try.pinned (OpenSpec.upto fnExactAdaptiveSortSpec)

/-- 'laws.FnAdaptive', WHERE WHAT IT READS IS OF BULK AT MOST 1048576: true; the input reads as it did. -/
def fnAdaptiveUptoRow : OpenClaim := { program := "ytagibgphegoagaa", sum := "621bada5603bec0b14c901a8d25b07f99d8b19b9548c63592d77b0f76c1a4345", func := "loop.example/g00907/laws.FnAdaptive", spec := "fnAdaptive", unfollowed := true, recurses := true, apart := false, narrowed := true }
def FnAdaptiveUptoSaid : Prop := fnAdaptiveUptoRow.holds Try.pinned (OpenSpec.upto fnAdaptiveSpec)

/-- 'laws.FnSelect', WHERE WHAT IT READS IS OF BULK AT MOST 1048576: true; the input reads as it did. -/
def fnSelectUptoRow : OpenClaim := { program := "ytagibgphegoagaa", sum := "621bada5603bec0b14c901a8d25b07f99d8b19b9548c63592d77b0f76c1a4345", func := "loop.example/g00907/laws.FnSelect", spec := "fnSelect", unfollowed := true, recurses := true, apart := false, narrowed := true }
def FnSelectUptoSaid : Prop := fnSelectUptoRow.holds Try.pinned (OpenSpec.upto fnSelectSpec)

/-- 'laws.FnPartial', WHERE WHAT IT READS IS OF BULK AT MOST 1048576: true; the input reads as it did. -/
def fnPartialUptoRow : OpenClaim := { program := "ytagibgphegoagaa", sum := "621bada5603bec0b14c901a8d25b07f99d8b19b9548c63592d77b0f76c1a4345", func := "loop.example/g00907/laws.FnPartial", spec := "fnPartial", unfollowed := true, recurses := true, apart := false, narrowed := true }
def FnPartialUptoSaid : Prop := fnPartialUptoRow.holds Try.pinned (OpenSpec.upto fnPartialSpec)

/-- 'laws.FnExtremes', WHERE WHAT IT READS IS OF BULK AT MOST 1048576: true; the input reads as it did. -/
def fnExtremesUptoRow : OpenClaim := { program := "ytagibgphegoagaa", sum := "621bada5603bec0b14c901a8d25b07f99d8b19b9548c63592d77b0f76c1a4345", func := "loop.example/g00907/laws.FnExtremes", spec := "fnExtremes", unfollowed := true, recurses := true, apart := false, narrowed := true }
def FnExtremesUptoSaid : Prop := fnExtremesUptoRow.holds Try.pinned (OpenSpec.upto fnExtremesSpec)

/-- 'laws.FnExactKthSmallest', WHERE WHAT IT READS IS OF BULK AT MOST 1048576: true; the input reads as it did. -/
def fnExactKthSmallestUptoRow : OpenClaim := { program := "ytagibgphegoagaa", sum := "621bada5603bec0b14c901a8d25b07f99d8b19b9548c63592d77b0f76c1a4345", func := "loop.example/g00907/laws.FnExactKthSmallest", spec := "fnExactKthSmallest", unfollowed := true, recurses := true, apart := false, narrowed := true }
def FnExactKthSmallestUptoSaid : Prop := fnExactKthSmallestUptoRow.holds Try.pinned (OpenSpec.upto fnExactKthSmallestSpec)

/-- 'laws.FnExactQuickSelect', WHERE WHAT IT READS IS OF BULK AT MOST 1048576: true; the input reads as it did. -/
def fnExactQuickSelectUptoRow : OpenClaim := { program := "ytagibgphegoagaa", sum := "621bada5603bec0b14c901a8d25b07f99d8b19b9548c63592d77b0f76c1a4345", func := "loop.example/g00907/laws.FnExactQuickSelect", spec := "fnExactQuickSelect", unfollowed := true, recurses := true, apart := false, narrowed := true }
def FnExactQuickSelectUptoSaid : Prop := fnExactQuickSelectUptoRow.holds Try.pinned (OpenSpec.upto fnExactQuickSelectSpec)

/-- 'laws.FnExactMedianOfMedians', WHERE WHAT IT READS IS OF BULK AT MOST 1048576: true; the input reads as it did. -/
def fnExactMedianOfMediansUptoRow : OpenClaim := { program := "ytagibgphegoagaa", sum := "621bada5603bec0b14c901a8d25b07f99d8b19b9548c63592d77b0f76c1a4345", func := "loop.example/g00907/laws.FnExactMedianOfMedians", spec := "fnExactMedianOfMedians", unfollowed := true, recurses := true, apart := false, narrowed := true }
def FnExactMedianOfMediansUptoSaid : Prop := fnExactMedianOfMediansUptoRow.holds Try.pinned (OpenSpec.upto fnExactMedianOfMediansSpec)

/-- 'laws.FnExactSelectByMedians', WHERE WHAT IT READS IS OF BULK AT MOST 1048576: true; the input reads as it did. -/
def fnExactSelectByMediansUptoRow : OpenClaim := { program := "ytagibgphegoagaa", sum := "621bada5603bec0b14c901a8d25b07f99d8b19b9548c63592d77b0f76c1a4345", func := "loop.example/g00907/laws.FnExactSelectByMedians", spec := "fnExactSelectByMedians", unfollowed := true, recurses := true, apart := false, narrowed := true }
def FnExactSelectByMediansUptoSaid : Prop := fnExactSelectByMediansUptoRow.holds Try.pinned (OpenSpec.upto fnExactSelectByMediansSpec)

/-- 'laws.FnExactPartialSort', WHERE WHAT IT READS IS OF BULK AT MOST 1048576: true; the input reads as it did. -/
def fnExactPartialSortUptoRow : OpenClaim := { program := "ytagibgphegoagaa", sum := "621bada5603bec0b14c901a8d25b07f99d8b19b9548c63592d77b0f76c1a4345", func := "loop.example/g00907/laws.FnExactPartialSort", spec := "fnExactPartialSort", unfollowed := true, recurses := true, apart := false, narrowed := true }
def FnExactPartialSortUptoSaid : Prop := fnExactPartialSortUptoRow.holds Try.pinned (OpenSpec.upto fnExactPartialSortSpec)

/-- 'laws.FnExactNthElement', WHERE WHAT IT READS IS OF BULK AT MOST 1048576: true; the input reads as it did. -/
def fnExactNthElementUptoRow : OpenClaim := { program := "ytagibgphegoagaa", sum := "621bada5603bec0b14c901a8d25b07f99d8b19b9548c63592d77b0f76c1a4345", func := "loop.example/g00907/laws.FnExactNthElement", spec := "fnExactNthElement", unfollowed := true, recurses := true, apart := false, narrowed := true }
def FnExactNthElementUptoSaid : Prop := fnExactNthElementUptoRow.holds Try.pinned (OpenSpec.upto fnExactNthElementSpec)

/-- 'laws.FnExactMinMax', WHERE WHAT IT READS IS OF BULK AT MOST 1048576: true; the input reads as it did. -/
def fnExactMinMaxUptoRow : OpenClaim := { program := "ytagibgphegoagaa", sum := "621bada5603bec0b14c901a8d25b07f99d8b19b9548c63592d77b0f76c1a4345", func := "loop.example/g00907/laws.FnExactMinMax", spec := "fnExactMinMax", unfollowed := true, recurses := true, apart := false, narrowed := true }
def FnExactMinMaxUptoSaid : Prop := fnExactMinMaxUptoRow.holds Try.pinned (OpenSpec.upto fnExactMinMaxSpec)

/-- 'laws.FnExactSecondSmallest', WHERE WHAT IT READS IS OF BULK AT MOST 1048576: true; the input reads as it did. -/
def fnExactSecondSmallestUptoRow : OpenClaim := { program := "ytagibgphegoagaa", sum := "621bada5603bec0b14c901a8d25b07f99d8b19b9548c63592d77b0f76c1a4345", func := "loop.example/g00907/laws.FnExactSecondSmallest", spec := "fnExactSecondSmallest", unfollowed := true, recurses := true, apart := false, narrowed := true }
def FnExactSecondSmallestUptoSaid : Prop := fnExactSecondSmallestUptoRow.holds Try.pinned (OpenSpec.upto fnExactSecondSmallestSpec)

/-- 'laws.FnExactWeightedMedian', WHERE WHAT IT READS IS OF BULK AT MOST 1048576: true; the input reads as it did. -/
def fnExactWeightedMedianUptoRow : OpenClaim := { program := "ytagibgphegoagaa", sum := "621bada5603bec0b14c901a8d25b07f99d8b19b9548c63592d77b0f76c1a4345", func := "loop.example/g00907/laws.FnExactWeightedMedian", spec := "fnExactWeightedMedian", unfollowed := true, recurses := true, apart := false, narrowed := true }
def FnExactWeightedMedianUptoSaid : Prop := fnExactWeightedMedianUptoRow.holds Try.pinned (OpenSpec.upto fnExactWeightedMedianSpec)

end Rows
end Go.Proofs.Ytagibgphegoagaa
