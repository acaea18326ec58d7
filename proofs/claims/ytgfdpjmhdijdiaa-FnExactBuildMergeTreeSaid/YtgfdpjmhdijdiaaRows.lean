/-
  No cell of these rows narrows 'for every input' (looked for: loops, veiled, ifaces, maps, wideKeys, modest, calm, conditions, laid).
  DERIVED. THE GIVEN ROWS OF THIS SEAT. 15 by the template 'for every input the law returns true; each argument reads behind the call as it read before'; 0 by the template 'total and deterministic' (their statements: YtgfdpjmhdijdiaaTotals.lean).
  GIVEN WITH THE SEED: the statements are not yours to turn. If you find one false, say at which input.
  Laid BY PROGRAM, IN A SANDBOX (cutbox-rows.mjs): the forced cells as the released guide's own fill.sh prints them over the translation bc41dc4381f49747… (all of the seat's roots in one cut). By AI agents, Wed Nov 11 2026. No macro, syntax, notation, axiom, sorry.
-/
import Derived.Test.YtgfdpjmhdijdiaaChecked
import GoSem.Claim
import GoSem.ClaimJoined
import GoSem.ClaimMapViews
import Derived.JoinedTies
import Derived.KernelRfl
namespace Go.Proofs.Ytgfdpjmhdijdiaa
/- THE CELL 'sum', in the pinned program and in every row, IS THE sha256 OF THE DUMP (.gsa) THAT YtgfdpjmhdijdiaaProg.lean LOADS. Nothing in Lean hashes anything: it is a label: what it is worth is what the hold of that sum in a sandbox is worth. -/
noncomputable def Try.pinned : Pinned := { name := "ytgfdpjmhdijdiaa", sum := "bc41dc4381f49747feaa4416c61e46fe204c3c9d82b89e882e161e72bab4bf55", checked := Try.checked }
namespace Rows
def none {H : Type} : Left H := { results := [], args := [] }

/-- 'laws.FnExactMinMax': WHATEVER THE INPUT: true; the input reads as it did. -/
def fnExactMinMaxSpec : ChangeSpec := { name := "fnExactMinMax", fn := fun _ => fun
  | [d] => { results := [.lit (.bool true)], args := [d] }
  | _ => none }
def fnExactMinMaxRow : OpenClaim := { program := "ytgfdpjmhdijdiaa", sum := "bc41dc4381f49747feaa4416c61e46fe204c3c9d82b89e882e161e72bab4bf55", func := "loop.example/g00907/laws.FnExactMinMax", spec := "fnExactMinMax", unfollowed := true, recurses := true, apart := false }
def FnExactMinMaxSaid : Prop := fnExactMinMaxRow.holds Try.pinned (OpenSpec.ofChange fnExactMinMaxSpec)

/-- ITS FALSE NEIGHBOUR: 'it returns false'. Refute it at one input. -/
def fnExactMinMaxWrong : ChangeSpec := { name := "fnExactMinMax", fn := fun _ => fun
  | [d] => { results := [.lit (.bool false)], args := [d] }
  | _ => none }
def FnExactMinMaxWrongFalsely : Prop := fnExactMinMaxRow.holds Try.pinned (OpenSpec.ofChange fnExactMinMaxWrong)

/-- 'laws.FnExactSecondSmallest': WHATEVER THE INPUT: true; the input reads as it did. -/
def fnExactSecondSmallestSpec : ChangeSpec := { name := "fnExactSecondSmallest", fn := fun _ => fun
  | [d] => { results := [.lit (.bool true)], args := [d] }
  | _ => none }
def fnExactSecondSmallestRow : OpenClaim := { program := "ytgfdpjmhdijdiaa", sum := "bc41dc4381f49747feaa4416c61e46fe204c3c9d82b89e882e161e72bab4bf55", func := "loop.example/g00907/laws.FnExactSecondSmallest", spec := "fnExactSecondSmallest", unfollowed := true, recurses := true, apart := false }
def FnExactSecondSmallestSaid : Prop := fnExactSecondSmallestRow.holds Try.pinned (OpenSpec.ofChange fnExactSecondSmallestSpec)

/-- ITS FALSE NEIGHBOUR: 'it returns false'. Refute it at one input. -/
def fnExactSecondSmallestWrong : ChangeSpec := { name := "fnExactSecondSmallest", fn := fun _ => fun
  | [d] => { results := [.lit (.bool false)], args := [d] }
  | _ => none }
def FnExactSecondSmallestWrongFalsely : Prop := fnExactSecondSmallestRow.holds Try.pinned (OpenSpec.ofChange fnExactSecondSmallestWrong)

/-- 'laws.FnExtremes': WHATEVER THE INPUT: true; the input reads as it did. -/
def fnExtremesSpec : ChangeSpec := { name := "fnExtremes", fn := fun _ => fun
  | [d] => { results := [.lit (.bool true)], args := [d] }
  | _ => none }
def fnExtremesRow : OpenClaim := { program := "ytgfdpjmhdijdiaa", sum := "bc41dc4381f49747feaa4416c61e46fe204c3c9d82b89e882e161e72bab4bf55", func := "loop.example/g00907/laws.FnExtremes", spec := "fnExtremes", unfollowed := true, recurses := true, apart := false }
def FnExtremesSaid : Prop := fnExtremesRow.holds Try.pinned (OpenSpec.ofChange fnExtremesSpec)

/-- ITS FALSE NEIGHBOUR: 'it returns false'. Refute it at one input. -/
def fnExtremesWrong : ChangeSpec := { name := "fnExtremes", fn := fun _ => fun
  | [d] => { results := [.lit (.bool false)], args := [d] }
  | _ => none }
def FnExtremesWrongFalsely : Prop := fnExtremesRow.holds Try.pinned (OpenSpec.ofChange fnExtremesWrong)

/-- 'laws.FnExactAdaptiveSort': WHATEVER THE INPUT: true; the input reads as it did. -/
def fnExactAdaptiveSortSpec : ChangeSpec := { name := "fnExactAdaptiveSort", fn := fun _ => fun
  | [d] => { results := [.lit (.bool true)], args := [d] }
  | _ => none }
def fnExactAdaptiveSortRow : OpenClaim := { program := "ytgfdpjmhdijdiaa", sum := "bc41dc4381f49747feaa4416c61e46fe204c3c9d82b89e882e161e72bab4bf55", func := "loop.example/g00907/laws.FnExactAdaptiveSort", spec := "fnExactAdaptiveSort", unfollowed := true, recurses := true, apart := false }
def FnExactAdaptiveSortSaid : Prop := fnExactAdaptiveSortRow.holds Try.pinned (OpenSpec.ofChange fnExactAdaptiveSortSpec)

/-- ITS FALSE NEIGHBOUR: 'it returns false'. Refute it at one input. -/
def fnExactAdaptiveSortWrong : ChangeSpec := { name := "fnExactAdaptiveSort", fn := fun _ => fun
  | [d] => { results := [.lit (.bool false)], args := [d] }
  | _ => none }
def FnExactAdaptiveSortWrongFalsely : Prop := fnExactAdaptiveSortRow.holds Try.pinned (OpenSpec.ofChange fnExactAdaptiveSortWrong)

/-- 'laws.FnAdaptive': WHATEVER THE INPUT: true; the input reads as it did. -/
def fnAdaptiveSpec : ChangeSpec := { name := "fnAdaptive", fn := fun _ => fun
  | [d] => { results := [.lit (.bool true)], args := [d] }
  | _ => none }
def fnAdaptiveRow : OpenClaim := { program := "ytgfdpjmhdijdiaa", sum := "bc41dc4381f49747feaa4416c61e46fe204c3c9d82b89e882e161e72bab4bf55", func := "loop.example/g00907/laws.FnAdaptive", spec := "fnAdaptive", unfollowed := true, recurses := true, apart := false }
def FnAdaptiveSaid : Prop := fnAdaptiveRow.holds Try.pinned (OpenSpec.ofChange fnAdaptiveSpec)

/-- ITS FALSE NEIGHBOUR: 'it returns false'. Refute it at one input. -/
def fnAdaptiveWrong : ChangeSpec := { name := "fnAdaptive", fn := fun _ => fun
  | [d] => { results := [.lit (.bool false)], args := [d] }
  | _ => none }
def FnAdaptiveWrongFalsely : Prop := fnAdaptiveRow.holds Try.pinned (OpenSpec.ofChange fnAdaptiveWrong)

/-- 'laws.FnFenwick': WHATEVER THE INPUT: true; the input reads as it did. -/
def fnFenwickSpec : ChangeSpec := { name := "fnFenwick", fn := fun _ => fun
  | [d] => { results := [.lit (.bool true)], args := [d] }
  | _ => none }
def fnFenwickRow : OpenClaim := { program := "ytgfdpjmhdijdiaa", sum := "bc41dc4381f49747feaa4416c61e46fe204c3c9d82b89e882e161e72bab4bf55", func := "loop.example/g00907/laws.FnFenwick", spec := "fnFenwick", unfollowed := true, recurses := true, apart := false }
def FnFenwickSaid : Prop := fnFenwickRow.holds Try.pinned (OpenSpec.ofChange fnFenwickSpec)

/-- ITS FALSE NEIGHBOUR: 'it returns false'. Refute it at one input. -/
def fnFenwickWrong : ChangeSpec := { name := "fnFenwick", fn := fun _ => fun
  | [d] => { results := [.lit (.bool false)], args := [d] }
  | _ => none }
def FnFenwickWrongFalsely : Prop := fnFenwickRow.holds Try.pinned (OpenSpec.ofChange fnFenwickWrong)

/-- 'laws.FnFenwickRank': WHATEVER THE INPUT: true; the input reads as it did. -/
def fnFenwickRankSpec : ChangeSpec := { name := "fnFenwickRank", fn := fun _ => fun
  | [d] => { results := [.lit (.bool true)], args := [d] }
  | _ => none }
def fnFenwickRankRow : OpenClaim := { program := "ytgfdpjmhdijdiaa", sum := "bc41dc4381f49747feaa4416c61e46fe204c3c9d82b89e882e161e72bab4bf55", func := "loop.example/g00907/laws.FnFenwickRank", spec := "fnFenwickRank", unfollowed := true, recurses := true, apart := false }
def FnFenwickRankSaid : Prop := fnFenwickRankRow.holds Try.pinned (OpenSpec.ofChange fnFenwickRankSpec)

/-- ITS FALSE NEIGHBOUR: 'it returns false'. Refute it at one input. -/
def fnFenwickRankWrong : ChangeSpec := { name := "fnFenwickRank", fn := fun _ => fun
  | [d] => { results := [.lit (.bool false)], args := [d] }
  | _ => none }
def FnFenwickRankWrongFalsely : Prop := fnFenwickRankRow.holds Try.pinned (OpenSpec.ofChange fnFenwickRankWrong)

/-- 'laws.FnExactIsValidFenwick': WHATEVER THE INPUT: true; the input reads as it did. -/
def fnExactIsValidFenwickSpec : ChangeSpec := { name := "fnExactIsValidFenwick", fn := fun _ => fun
  | [d] => { results := [.lit (.bool true)], args := [d] }
  | _ => none }
def fnExactIsValidFenwickRow : OpenClaim := { program := "ytgfdpjmhdijdiaa", sum := "bc41dc4381f49747feaa4416c61e46fe204c3c9d82b89e882e161e72bab4bf55", func := "loop.example/g00907/laws.FnExactIsValidFenwick", spec := "fnExactIsValidFenwick", unfollowed := true, recurses := true, apart := false }
def FnExactIsValidFenwickSaid : Prop := fnExactIsValidFenwickRow.holds Try.pinned (OpenSpec.ofChange fnExactIsValidFenwickSpec)

/-- ITS FALSE NEIGHBOUR: 'it returns false'. Refute it at one input. -/
def fnExactIsValidFenwickWrong : ChangeSpec := { name := "fnExactIsValidFenwick", fn := fun _ => fun
  | [d] => { results := [.lit (.bool false)], args := [d] }
  | _ => none }
def FnExactIsValidFenwickWrongFalsely : Prop := fnExactIsValidFenwickRow.holds Try.pinned (OpenSpec.ofChange fnExactIsValidFenwickWrong)

/-- 'laws.FnExactBuildFenwick': WHATEVER THE INPUT: true; the input reads as it did. -/
def fnExactBuildFenwickSpec : ChangeSpec := { name := "fnExactBuildFenwick", fn := fun _ => fun
  | [d] => { results := [.lit (.bool true)], args := [d] }
  | _ => none }
def fnExactBuildFenwickRow : OpenClaim := { program := "ytgfdpjmhdijdiaa", sum := "bc41dc4381f49747feaa4416c61e46fe204c3c9d82b89e882e161e72bab4bf55", func := "loop.example/g00907/laws.FnExactBuildFenwick", spec := "fnExactBuildFenwick", unfollowed := true, recurses := true, apart := false }
def FnExactBuildFenwickSaid : Prop := fnExactBuildFenwickRow.holds Try.pinned (OpenSpec.ofChange fnExactBuildFenwickSpec)

/-- ITS FALSE NEIGHBOUR: 'it returns false'. Refute it at one input. -/
def fnExactBuildFenwickWrong : ChangeSpec := { name := "fnExactBuildFenwick", fn := fun _ => fun
  | [d] => { results := [.lit (.bool false)], args := [d] }
  | _ => none }
def FnExactBuildFenwickWrongFalsely : Prop := fnExactBuildFenwickRow.holds Try.pinned (OpenSpec.ofChange fnExactBuildFenwickWrong)

/-- 'laws.FnExactFenwickValues': WHATEVER THE INPUT: true; the input reads as it did. -/
def fnExactFenwickValuesSpec : ChangeSpec := { name := "fnExactFenwickValues", fn := fun _ => fun
  | [d] => { results := [.lit (.bool true)], args := [d] }
  | _ => none }
def fnExactFenwickValuesRow : OpenClaim := { program := "ytgfdpjmhdijdiaa", sum := "bc41dc4381f49747feaa4416c61e46fe204c3c9d82b89e882e161e72bab4bf55", func := "loop.example/g00907/laws.FnExactFenwickValues", spec := "fnExactFenwickValues", unfollowed := true, recurses := true, apart := false }
def FnExactFenwickValuesSaid : Prop := fnExactFenwickValuesRow.holds Try.pinned (OpenSpec.ofChange fnExactFenwickValuesSpec)

/-- ITS FALSE NEIGHBOUR: 'it returns false'. Refute it at one input. -/
def fnExactFenwickValuesWrong : ChangeSpec := { name := "fnExactFenwickValues", fn := fun _ => fun
  | [d] => { results := [.lit (.bool false)], args := [d] }
  | _ => none }
def FnExactFenwickValuesWrongFalsely : Prop := fnExactFenwickValuesRow.holds Try.pinned (OpenSpec.ofChange fnExactFenwickValuesWrong)

/-- 'laws.FnExactFenwickAdd': WHATEVER THE INPUT: true; the input reads as it did. -/
def fnExactFenwickAddSpec : ChangeSpec := { name := "fnExactFenwickAdd", fn := fun _ => fun
  | [d1, d2, d3] => { results := [.lit (.bool true)], args := [d1, d2, d3] }
  | _ => none }
def fnExactFenwickAddRow : OpenClaim := { program := "ytgfdpjmhdijdiaa", sum := "bc41dc4381f49747feaa4416c61e46fe204c3c9d82b89e882e161e72bab4bf55", func := "loop.example/g00907/laws.FnExactFenwickAdd", spec := "fnExactFenwickAdd", unfollowed := true, recurses := true, apart := false }
def FnExactFenwickAddSaid : Prop := fnExactFenwickAddRow.holds Try.pinned (OpenSpec.ofChange fnExactFenwickAddSpec)

/-- ITS FALSE NEIGHBOUR: 'it returns false'. Refute it at one input. -/
def fnExactFenwickAddWrong : ChangeSpec := { name := "fnExactFenwickAdd", fn := fun _ => fun
  | [d1, d2, d3] => { results := [.lit (.bool false)], args := [d1, d2, d3] }
  | _ => none }
def FnExactFenwickAddWrongFalsely : Prop := fnExactFenwickAddRow.holds Try.pinned (OpenSpec.ofChange fnExactFenwickAddWrong)

/-- 'laws.FnExactFenwickPrefix': WHATEVER THE INPUT: true; the input reads as it did. -/
def fnExactFenwickPrefixSpec : ChangeSpec := { name := "fnExactFenwickPrefix", fn := fun _ => fun
  | [d1, d2] => { results := [.lit (.bool true)], args := [d1, d2] }
  | _ => none }
def fnExactFenwickPrefixRow : OpenClaim := { program := "ytgfdpjmhdijdiaa", sum := "bc41dc4381f49747feaa4416c61e46fe204c3c9d82b89e882e161e72bab4bf55", func := "loop.example/g00907/laws.FnExactFenwickPrefix", spec := "fnExactFenwickPrefix", unfollowed := true, recurses := true, apart := false }
def FnExactFenwickPrefixSaid : Prop := fnExactFenwickPrefixRow.holds Try.pinned (OpenSpec.ofChange fnExactFenwickPrefixSpec)

/-- ITS FALSE NEIGHBOUR: 'it returns false'. Refute it at one input. -/
def fnExactFenwickPrefixWrong : ChangeSpec := { name := "fnExactFenwickPrefix", fn := fun _ => fun
  | [d1, d2] => { results := [.lit (.bool false)], args := [d1, d2] }
  | _ => none }
def FnExactFenwickPrefixWrongFalsely : Prop := fnExactFenwickPrefixRow.holds Try.pinned (OpenSpec.ofChange fnExactFenwickPrefixWrong)

/-- 'laws.FnExactFenwickSelect': WHATEVER THE INPUT: true; the input reads as it did. -/
def fnExactFenwickSelectSpec : ChangeSpec := { name := "fnExactFenwickSelect", fn := fun _ => fun
  | [d1, d2] => { results := [.lit (.bool true)], args := [d1, d2] }
  | _ => none }
def fnExactFenwickSelectRow : OpenClaim := { program := "ytgfdpjmhdijdiaa", sum := "bc41dc4381f49747feaa4416c61e46fe204c3c9d82b89e882e161e72bab4bf55", func := "loop.example/g00907/laws.FnExactFenwickSelect", spec := "fnExactFenwickSelect", unfollowed := true, recurses := true, apart := false }
def FnExactFenwickSelectSaid : Prop := fnExactFenwickSelectRow.holds Try.pinned (OpenSpec.ofChange fnExactFenwickSelectSpec)

/-- ITS FALSE NEIGHBOUR: 'it returns false'. Refute it at one input. -/
def fnExactFenwickSelectWrong : ChangeSpec := { name := "fnExactFenwickSelect", fn := fun _ => fun
  | [d1, d2] => { results := [.lit (.bool false)], args := [d1, d2] }
  | _ => none }
def FnExactFenwickSelectWrongFalsely : Prop := fnExactFenwickSelectRow.holds Try.pinned (OpenSpec.ofChange fnExactFenwickSelectWrong)

/-- 'laws.FnExactBuildMergeTree': WHATEVER THE INPUT: true; the input reads as it did. -/
def fnExactBuildMergeTreeSpec : ChangeSpec := { name := "fnExactBuildMergeTree", fn := fun _ => fun
  | [d] => { results := [.lit (.bool true)], args := [d] }
  | _ => none }
def fnExactBuildMergeTreeRow : OpenClaim := { program := "ytgfdpjmhdijdiaa", sum := "bc41dc4381f49747feaa4416c61e46fe204c3c9d82b89e882e161e72bab4bf55", func := "loop.example/g00907/laws.FnExactBuildMergeTree", spec := "fnExactBuildMergeTree", unfollowed := true, recurses := true, apart := false }
def FnExactBuildMergeTreeSaid : Prop := fnExactBuildMergeTreeRow.holds Try.pinned (OpenSpec.ofChange fnExactBuildMergeTreeSpec)

/-- ITS FALSE NEIGHBOUR: 'it returns false'. Refute it at one input. -/
def fnExactBuildMergeTreeWrong : ChangeSpec := { name := "fnExactBuildMergeTree", fn := fun _ => fun
  | [d] => { results := [.lit (.bool false)], args := [d] }
  | _ => none }
def FnExactBuildMergeTreeWrongFalsely : Prop := fnExactBuildMergeTreeRow.holds Try.pinned (OpenSpec.ofChange fnExactBuildMergeTreeWrong)

/-- 'laws.FnExactIsValidMergeTree': WHATEVER THE INPUT: true; the input reads as it did. -/
def fnExactIsValidMergeTreeSpec : ChangeSpec := { name := "fnExactIsValidMergeTree", fn := fun _ => fun
  | [d] => { results := [.lit (.bool true)], args := [d] }
  | _ => none }
def fnExactIsValidMergeTreeRow : OpenClaim := { program := "ytgfdpjmhdijdiaa", sum := "bc41dc4381f49747feaa4416c61e46fe204c3c9d82b89e882e161e72bab4bf55", func := "loop.example/g00907/laws.FnExactIsValidMergeTree", spec := "fnExactIsValidMergeTree", unfollowed := true, recurses := true, apart := false }
def FnExactIsValidMergeTreeSaid : Prop := fnExactIsValidMergeTreeRow.holds Try.pinned (OpenSpec.ofChange fnExactIsValidMergeTreeSpec)

/-- ITS FALSE NEIGHBOUR: 'it returns false'. Refute it at one input. -/
def fnExactIsValidMergeTreeWrong : ChangeSpec := { name := "fnExactIsValidMergeTree", fn := fun _ => fun
  | [d] => { results := [.lit (.bool false)], args := [d] }
  | _ => none }
def FnExactIsValidMergeTreeWrongFalsely : Prop := fnExactIsValidMergeTreeRow.holds Try.pinned (OpenSpec.ofChange fnExactIsValidMergeTreeWrong)

/- THE SECOND FORM. 'bulk': how many values and letters a reading holds, each counted each time it is reached (what is shared counts as often as it is met; a slice's spare places count too). A statement '..UptoSaid' is the law's where the arguments, and the package variables that the reading takes, are together of bulk at most 1048576: NARROWER than '..Said'. Prove '..Said' where nothing that the law and all that it calls make is longer than what came in: it says more and counts as full. Else prove '..UptoSaid'. A law counts once. -/
mutual
def uptoBulk {H : Type} : DataW H → Nat
  | .lit (.string bytes) => bytes.length + 1
  | .lit _ => 1
  | .nil => 1
  | .ptr d => uptoBulk d + 1
  | .slice elems spare => uptoBulkAll elems + uptoBulkAll spare + 1
  | .agg parts => uptoBulkAll parts + 1
  | .iface _ d => uptoBulk d + 1
  | .map entries => uptoBulkEntries entries + 1
  | .held _ => 1
def uptoBulkAll {H : Type} : List (DataW H) → Nat
  | [] => 0
  | d :: r => uptoBulk d + uptoBulkAll r
def uptoBulkEntries {H : Type} : List (Lit × DataW H) → Nat
  | [] => 0
  | x :: r => uptoBulkEntry x + uptoBulkEntries r
def uptoBulkEntry {H : Type} : Lit × DataW H → Nat
  | (.string bytes, d) => bytes.length + uptoBulk d + 1
  | (_, d) => uptoBulk d + 1
 end
def uptoSmall : (H : Type) → List (DataW H) → Bool := fun _ ds => decide (uptoBulkAll ds ≤ 1048576)
def OpenSpec.upto (s : _root_.Go.ChangeSpec) : _root_.Go.OpenSpec := { _root_.Go.OpenSpec.ofChange s with cond := some uptoSmall }

/-- 'laws.FnExactMinMax', WHERE WHAT IT READS IS OF BULK AT MOST 1048576: true; the input reads as it did. -/
def fnExactMinMaxUptoRow : OpenClaim := { program := "ytgfdpjmhdijdiaa", sum := "bc41dc4381f49747feaa4416c61e46fe204c3c9d82b89e882e161e72bab4bf55", func := "loop.example/g00907/laws.FnExactMinMax", spec := "fnExactMinMax", unfollowed := true, recurses := true, apart := false, narrowed := true }
def FnExactMinMaxUptoSaid : Prop := fnExactMinMaxUptoRow.holds Try.pinned (OpenSpec.upto fnExactMinMaxSpec)

/-- 'laws.FnExactSecondSmallest', WHERE WHAT IT READS IS OF BULK AT MOST 1048576: true; the input reads as it did. -/
def fnExactSecondSmallestUptoRow : OpenClaim := { program := "ytgfdpjmhdijdiaa", sum := "bc41dc4381f49747feaa4416c61e46fe204c3c9d82b89e882e161e72bab4bf55", func := "loop.example/g00907/laws.FnExactSecondSmallest", spec := "fnExactSecondSmallest", unfollowed := true, recurses := true, apart := false, narrowed := true }
def FnExactSecondSmallestUptoSaid : Prop := fnExactSecondSmallestUptoRow.holds Try.pinned (OpenSpec.upto fnExactSecondSmallestSpec)

/-- 'laws.FnExtremes', WHERE WHAT IT READS IS OF BULK AT MOST 1048576: true; the input reads as it did. -/
def fnExtremesUptoRow : OpenClaim := { program := "ytgfdpjmhdijdiaa", sum := "bc41dc4381f49747feaa4416c61e46fe204c3c9d82b89e882e161e72bab4bf55", func := "loop.example/g00907/laws.FnExtremes", spec := "fnExtremes", unfollowed := true, recurses := true, apart := false, narrowed := true }
def FnExtremesUptoSaid : Prop := fnExtremesUptoRow.holds Try.pinned (OpenSpec.upto fnExtremesSpec)

/-- 'laws.FnExactAdaptiveSort', WHERE WHAT IT READS IS OF BULK AT MOST 1048576: true; the input reads as it did. -/
def fnExactAdaptiveSortUptoRow : OpenClaim := { program := "ytgfdpjmhdijdiaa", sum := "bc41dc4381f49747feaa4416c61e46fe204c3c9d82b89e882e161e72bab4bf55", func := "loop.example/g00907/laws.FnExactAdaptiveSort", spec := "fnExactAdaptiveSort", unfollowed := true, recurses := true, apart := false, narrowed := true }
def FnExactAdaptiveSortUptoSaid : Prop := fnExactAdaptiveSortUptoRow.holds Try.pinned (OpenSpec.upto fnExactAdaptiveSortSpec)

/-- 'laws.FnAdaptive', WHERE WHAT IT READS IS OF BULK AT MOST 1048576: true; the input reads as it did. -/
def fnAdaptiveUptoRow : OpenClaim := { program := "ytgfdpjmhdijdiaa", sum := "bc41dc4381f49747feaa4416c61e46fe204c3c9d82b89e882e161e72bab4bf55", func := "loop.example/g00907/laws.FnAdaptive", spec := "fnAdaptive", unfollowed := true, recurses := true, apart := false, narrowed := true }
def FnAdaptiveUptoSaid : Prop := fnAdaptiveUptoRow.holds Try.pinned (OpenSpec.upto fnAdaptiveSpec)

/-- 'laws.FnFenwick', WHERE WHAT IT READS IS OF BULK AT MOST 1048576: true; the input reads as it did. -/
def fnFenwickUptoRow : OpenClaim := { program := "ytgfdpjmhdijdiaa", sum := "bc41dc4381f49747feaa4416c61e46fe204c3c9d82b89e882e161e72bab4bf55", func := "loop.example/g00907/laws.FnFenwick", spec := "fnFenwick", unfollowed := true, recurses := true, apart := false, narrowed := true }
def FnFenwickUptoSaid : Prop := fnFenwickUptoRow.holds Try.pinned (OpenSpec.upto fnFenwickSpec)

/-- 'laws.FnFenwickRank', WHERE WHAT IT READS IS OF BULK AT MOST 1048576: true; the input reads as it did. -/
def fnFenwickRankUptoRow : OpenClaim := { program := "ytgfdpjmhdijdiaa", sum := "bc41dc4381f49747feaa4416c61e46fe204c3c9d82b89e882e161e72bab4bf55", func := "loop.example/g00907/laws.FnFenwickRank", spec := "fnFenwickRank", unfollowed := true, recurses := true, apart := false, narrowed := true }
def FnFenwickRankUptoSaid : Prop := fnFenwickRankUptoRow.holds Try.pinned (OpenSpec.upto fnFenwickRankSpec)

/-- 'laws.FnExactIsValidFenwick', WHERE WHAT IT READS IS OF BULK AT MOST 1048576: true; the input reads as it did. -/
def fnExactIsValidFenwickUptoRow : OpenClaim := { program := "ytgfdpjmhdijdiaa", sum := "bc41dc4381f49747feaa4416c61e46fe204c3c9d82b89e882e161e72bab4bf55", func := "loop.example/g00907/laws.FnExactIsValidFenwick", spec := "fnExactIsValidFenwick", unfollowed := true, recurses := true, apart := false, narrowed := true }
def FnExactIsValidFenwickUptoSaid : Prop := fnExactIsValidFenwickUptoRow.holds Try.pinned (OpenSpec.upto fnExactIsValidFenwickSpec)

/-- 'laws.FnExactBuildFenwick', WHERE WHAT IT READS IS OF BULK AT MOST 1048576: true; the input reads as it did. -/
def fnExactBuildFenwickUptoRow : OpenClaim := { program := "ytgfdpjmhdijdiaa", sum := "bc41dc4381f49747feaa4416c61e46fe204c3c9d82b89e882e161e72bab4bf55", func := "loop.example/g00907/laws.FnExactBuildFenwick", spec := "fnExactBuildFenwick", unfollowed := true, recurses := true, apart := false, narrowed := true }
def FnExactBuildFenwickUptoSaid : Prop := fnExactBuildFenwickUptoRow.holds Try.pinned (OpenSpec.upto fnExactBuildFenwickSpec)

/-- 'laws.FnExactFenwickValues', WHERE WHAT IT READS IS OF BULK AT MOST 1048576: true; the input reads as it did. -/
def fnExactFenwickValuesUptoRow : OpenClaim := { program := "ytgfdpjmhdijdiaa", sum := "bc41dc4381f49747feaa4416c61e46fe204c3c9d82b89e882e161e72bab4bf55", func := "loop.example/g00907/laws.FnExactFenwickValues", spec := "fnExactFenwickValues", unfollowed := true, recurses := true, apart := false, narrowed := true }
def FnExactFenwickValuesUptoSaid : Prop := fnExactFenwickValuesUptoRow.holds Try.pinned (OpenSpec.upto fnExactFenwickValuesSpec)

/-- 'laws.FnExactFenwickAdd', WHERE WHAT IT READS IS OF BULK AT MOST 1048576: true; the input reads as it did. -/
def fnExactFenwickAddUptoRow : OpenClaim := { program := "ytgfdpjmhdijdiaa", sum := "bc41dc4381f49747feaa4416c61e46fe204c3c9d82b89e882e161e72bab4bf55", func := "loop.example/g00907/laws.FnExactFenwickAdd", spec := "fnExactFenwickAdd", unfollowed := true, recurses := true, apart := false, narrowed := true }
def FnExactFenwickAddUptoSaid : Prop := fnExactFenwickAddUptoRow.holds Try.pinned (OpenSpec.upto fnExactFenwickAddSpec)

/-- 'laws.FnExactFenwickPrefix', WHERE WHAT IT READS IS OF BULK AT MOST 1048576: true; the input reads as it did. -/
def fnExactFenwickPrefixUptoRow : OpenClaim := { program := "ytgfdpjmhdijdiaa", sum := "bc41dc4381f49747feaa4416c61e46fe204c3c9d82b89e882e161e72bab4bf55", func := "loop.example/g00907/laws.FnExactFenwickPrefix", spec := "fnExactFenwickPrefix", unfollowed := true, recurses := true, apart := false, narrowed := true }
def FnExactFenwickPrefixUptoSaid : Prop := fnExactFenwickPrefixUptoRow.holds Try.pinned (OpenSpec.upto fnExactFenwickPrefixSpec)

/-- 'laws.FnExactFenwickSelect', WHERE WHAT IT READS IS OF BULK AT MOST 1048576: true; the input reads as it did. -/
def fnExactFenwickSelectUptoRow : OpenClaim := { program := "ytgfdpjmhdijdiaa", sum := "bc41dc4381f49747feaa4416c61e46fe204c3c9d82b89e882e161e72bab4bf55", func := "loop.example/g00907/laws.FnExactFenwickSelect", spec := "fnExactFenwickSelect", unfollowed := true, recurses := true, apart := false, narrowed := true }
def FnExactFenwickSelectUptoSaid : Prop := fnExactFenwickSelectUptoRow.holds Try.pinned (OpenSpec.upto fnExactFenwickSelectSpec)

/-- 'laws.FnExactBuildMergeTree', WHERE WHAT IT READS IS OF BULK AT MOST 1048576: true; the input reads as it did. -/
def fnExactBuildMergeTreeUptoRow : OpenClaim := { program := "ytgfdpjmhdijdiaa", sum := "bc41dc4381f49747feaa4416c61e46fe204c3c9d82b89e882e161e72bab4bf55", func := "loop.example/g00907/laws.FnExactBuildMergeTree", spec := "fnExactBuildMergeTree", unfollowed := true, recurses := true, apart := false, narrowed := true }
def FnExactBuildMergeTreeUptoSaid : Prop := fnExactBuildMergeTreeUptoRow.holds Try.pinned (OpenSpec.upto fnExactBuildMergeTreeSpec)

/-- 'laws.FnExactIsValidMergeTree', WHERE WHAT IT READS IS OF BULK AT MOST 1048576: true; the input reads as it did. -/
def fnExactIsValidMergeTreeUptoRow : OpenClaim := { program := "ytgfdpjmhdijdiaa", sum := "bc41dc4381f49747feaa4416c61e46fe204c3c9d82b89e882e161e72bab4bf55", func := "loop.example/g00907/laws.FnExactIsValidMergeTree", spec := "fnExactIsValidMergeTree", unfollowed := true, recurses := true, apart := false, narrowed := true }
def FnExactIsValidMergeTreeUptoSaid : Prop := fnExactIsValidMergeTreeUptoRow.holds Try.pinned (OpenSpec.upto fnExactIsValidMergeTreeSpec)

end Rows
end Go.Proofs.Ytgfdpjmhdijdiaa
