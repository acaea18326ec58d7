/-
  No cell of these rows narrows 'for every input' (looked for: loops, veiled, ifaces, maps, wideKeys, modest, calm, conditions, laid).
  DERIVED. THE GIVEN ROWS OF THIS SEAT. 6 by the template 'for every input the law returns true; each argument reads behind the call as it read before'; 0 by the template 'total and deterministic' (their statements: YthmcjmjkmmbepaaTotals.lean).
  GIVEN WITH THE SEED: the statements are not yours to turn. If you find one false, say at which input.
  Laid BY PROGRAM, IN A SANDBOX (cutbox-rows.mjs): the forced cells as the released guide's own fill.sh prints them over the translation f98fcc00a3cafcf8… (all of the seat's roots in one cut). By AI agents, Wed Nov 11 2026. No macro, syntax, notation, axiom, sorry.
-/
import Derived.Test.YthmcjmjkmmbepaaChecked
import GoSem.Claim
import GoSem.ClaimJoined
import GoSem.ClaimMapViews
import Derived.JoinedTies
import Derived.KernelRfl
namespace Go.Proofs.Ythmcjmjkmmbepaa
/- THE CELL 'sum', in the pinned program and in every row, IS THE sha256 OF THE DUMP (.gsa) THAT YthmcjmjkmmbepaaProg.lean LOADS. Nothing in Lean hashes anything: it is a label: what it is worth is what the hold of that sum in a sandbox is worth. -/
noncomputable def Try.pinned : Pinned := { name := "ythmcjmjkmmbepaa", sum := "f98fcc00a3cafcf8cbbec3cc92e24d20e64623a03d2c74283ca9c7135194e584", checked := Try.checked }
namespace Rows
def none {H : Type} : Left H := { results := [], args := [] }

/-- 'laws.FnAdaptive': WHATEVER THE INPUT: true; the input reads as it did. -/
def fnAdaptiveSpec : ChangeSpec := { name := "fnAdaptive", fn := fun _ => fun
  | [d] => { results := [.lit (.bool true)], args := [d] }
  | _ => none }
def fnAdaptiveRow : OpenClaim := { program := "ythmcjmjkmmbepaa", sum := "f98fcc00a3cafcf8cbbec3cc92e24d20e64623a03d2c74283ca9c7135194e584", func := "loop.example/g00907/laws.FnAdaptive", spec := "fnAdaptive", unfollowed := true, recurses := true, apart := false }
def FnAdaptiveSaid : Prop := fnAdaptiveRow.holds Try.pinned (OpenSpec.ofChange fnAdaptiveSpec)

/-- ITS FALSE NEIGHBOUR: 'it returns false'. Refute it at one input. -/
def fnAdaptiveWrong : ChangeSpec := { name := "fnAdaptive", fn := fun _ => fun
  | [d] => { results := [.lit (.bool false)], args := [d] }
  | _ => none }
def FnAdaptiveWrongFalsely : Prop := fnAdaptiveRow.holds Try.pinned (OpenSpec.ofChange fnAdaptiveWrong)

/-- 'laws.FnExtremes': WHATEVER THE INPUT: true; the input reads as it did. -/
def fnExtremesSpec : ChangeSpec := { name := "fnExtremes", fn := fun _ => fun
  | [d] => { results := [.lit (.bool true)], args := [d] }
  | _ => none }
def fnExtremesRow : OpenClaim := { program := "ythmcjmjkmmbepaa", sum := "f98fcc00a3cafcf8cbbec3cc92e24d20e64623a03d2c74283ca9c7135194e584", func := "loop.example/g00907/laws.FnExtremes", spec := "fnExtremes", unfollowed := true, recurses := true, apart := false }
def FnExtremesSaid : Prop := fnExtremesRow.holds Try.pinned (OpenSpec.ofChange fnExtremesSpec)

/-- ITS FALSE NEIGHBOUR: 'it returns false'. Refute it at one input. -/
def fnExtremesWrong : ChangeSpec := { name := "fnExtremes", fn := fun _ => fun
  | [d] => { results := [.lit (.bool false)], args := [d] }
  | _ => none }
def FnExtremesWrongFalsely : Prop := fnExtremesRow.holds Try.pinned (OpenSpec.ofChange fnExtremesWrong)

/-- 'laws.FnExactIsValidMergeTree': WHATEVER THE INPUT: true; the input reads as it did. -/
def fnExactIsValidMergeTreeSpec : ChangeSpec := { name := "fnExactIsValidMergeTree", fn := fun _ => fun
  | [d] => { results := [.lit (.bool true)], args := [d] }
  | _ => none }
def fnExactIsValidMergeTreeRow : OpenClaim := { program := "ythmcjmjkmmbepaa", sum := "f98fcc00a3cafcf8cbbec3cc92e24d20e64623a03d2c74283ca9c7135194e584", func := "loop.example/g00907/laws.FnExactIsValidMergeTree", spec := "fnExactIsValidMergeTree", unfollowed := true, recurses := true, apart := false }
def FnExactIsValidMergeTreeSaid : Prop := fnExactIsValidMergeTreeRow.holds Try.pinned (OpenSpec.ofChange fnExactIsValidMergeTreeSpec)

/-- ITS FALSE NEIGHBOUR: 'it returns false'. Refute it at one input. -/
def fnExactIsValidMergeTreeWrong : ChangeSpec := { name := "fnExactIsValidMergeTree", fn := fun _ => fun
  | [d] => { results := [.lit (.bool false)], args := [d] }
  | _ => none }
def FnExactIsValidMergeTreeWrongFalsely : Prop := fnExactIsValidMergeTreeRow.holds Try.pinned (OpenSpec.ofChange fnExactIsValidMergeTreeWrong)

/-- 'laws.FnExactAdaptiveSort': WHATEVER THE INPUT: true; the input reads as it did. -/
def fnExactAdaptiveSortSpec : ChangeSpec := { name := "fnExactAdaptiveSort", fn := fun _ => fun
  | [d] => { results := [.lit (.bool true)], args := [d] }
  | _ => none }
def fnExactAdaptiveSortRow : OpenClaim := { program := "ythmcjmjkmmbepaa", sum := "f98fcc00a3cafcf8cbbec3cc92e24d20e64623a03d2c74283ca9c7135194e584", func := "loop.example/g00907/laws.FnExactAdaptiveSort", spec := "fnExactAdaptiveSort", unfollowed := true, recurses := true, apart := false }
def FnExactAdaptiveSortSaid : Prop := fnExactAdaptiveSortRow.holds Try.pinned (OpenSpec.ofChange fnExactAdaptiveSortSpec)

/-- ITS FALSE NEIGHBOUR: 'it returns false'. Refute it at one input. -/
def fnExactAdaptiveSortWrong : ChangeSpec := { name := "fnExactAdaptiveSort", fn := fun _ => fun
  | [d] => { results := [.lit (.bool false)], args := [d] }
  | _ => none }
def FnExactAdaptiveSortWrongFalsely : Prop := fnExactAdaptiveSortRow.holds Try.pinned (OpenSpec.ofChange fnExactAdaptiveSortWrong)

/-- 'laws.FnExactMinMax': WHATEVER THE INPUT: true; the input reads as it did. -/
def fnExactMinMaxSpec : ChangeSpec := { name := "fnExactMinMax", fn := fun _ => fun
  | [d] => { results := [.lit (.bool true)], args := [d] }
  | _ => none }
def fnExactMinMaxRow : OpenClaim := { program := "ythmcjmjkmmbepaa", sum := "f98fcc00a3cafcf8cbbec3cc92e24d20e64623a03d2c74283ca9c7135194e584", func := "loop.example/g00907/laws.FnExactMinMax", spec := "fnExactMinMax", unfollowed := true, recurses := true, apart := false }
def FnExactMinMaxSaid : Prop := fnExactMinMaxRow.holds Try.pinned (OpenSpec.ofChange fnExactMinMaxSpec)

/-- ITS FALSE NEIGHBOUR: 'it returns false'. Refute it at one input. -/
def fnExactMinMaxWrong : ChangeSpec := { name := "fnExactMinMax", fn := fun _ => fun
  | [d] => { results := [.lit (.bool false)], args := [d] }
  | _ => none }
def FnExactMinMaxWrongFalsely : Prop := fnExactMinMaxRow.holds Try.pinned (OpenSpec.ofChange fnExactMinMaxWrong)

/-- 'laws.FnExactSecondSmallest': WHATEVER THE INPUT: true; the input reads as it did. -/
def fnExactSecondSmallestSpec : ChangeSpec := { name := "fnExactSecondSmallest", fn := fun _ => fun
  | [d] => { results := [.lit (.bool true)], args := [d] }
  | _ => none }
def fnExactSecondSmallestRow : OpenClaim := { program := "ythmcjmjkmmbepaa", sum := "f98fcc00a3cafcf8cbbec3cc92e24d20e64623a03d2c74283ca9c7135194e584", func := "loop.example/g00907/laws.FnExactSecondSmallest", spec := "fnExactSecondSmallest", unfollowed := true, recurses := true, apart := false }
def FnExactSecondSmallestSaid : Prop := fnExactSecondSmallestRow.holds Try.pinned (OpenSpec.ofChange fnExactSecondSmallestSpec)

/-- ITS FALSE NEIGHBOUR: 'it returns false'. Refute it at one input. -/
def fnExactSecondSmallestWrong : ChangeSpec := { name := "fnExactSecondSmallest", fn := fun _ => fun
  | [d] => { results := [.lit (.bool false)], args := [d] }
  | _ => none }
def FnExactSecondSmallestWrongFalsely : Prop := fnExactSecondSmallestRow.holds Try.pinned (OpenSpec.ofChange fnExactSecondSmallestWrong)

/- THE SECOND FORM. 'bulk': how many values and letters a reading holds, each counted each time it is reached (what is shared counts as often as it is met; a slice's spare places count too). A statement '..UptoSaid' is the law's where the arguments, and the package variables that the reading takes, are together of bulk at most 1048576: NARROWER than '..Said'. Prove '..Said' where nothing that the law and all that it calls make is longer than what came in: it says more and counts as full. Else prove '..UptoSaid'. A law counts once. -/
mutual
def uptoBulk {H : Type} : DataW H → Nat
  | .lit (.string bytes) => bytes.length + 1
  | .lit _ => 1
  | .nil => 1
  | .ptr d => uptoBulk d + 1
  | .slice elems spare => uptoBulkAll elems + uptoBulkAll spare + 1
  | .agg parts => uptoBulkAll parts + 1
  | .iface _ d => uptoBulk d + 1
  | .map entries => uptoBulkEntries entries + 1
  | .held _ => 1
def uptoBulkAll {H : Type} : List (DataW H) → Nat
  | [] => 0
  | d :: r => uptoBulk d + uptoBulkAll r
def uptoBulkEntries {H : Type} : List (Lit × DataW H) → Nat
  | [] => 0
  | x :: r => uptoBulkEntry x + uptoBulkEntries r
def uptoBulkEntry {H : Type} : Lit × DataW H → Nat
  | (.string bytes, d) => bytes.length + uptoBulk d + 1
  | (_, d) => uptoBulk d + 1
 end
def uptoSmall : (H : Type) → List (DataW H) → Bool := fun _ ds => decide (uptoBulkAll ds ≤ 1048576)
def OpenSpec.upto (s : _root_.Go.ChangeSpec) : _root_.Go.OpenSpec := { _root_.Go.OpenSpec.ofChange s with cond := some uptoSmall }

/-- 'laws.FnAdaptive', WHERE WHAT IT READS IS OF BULK AT MOST 1048576: true; the input reads as it did. -/
def fnAdaptiveUptoRow : OpenClaim := { program := "ythmcjmjkmmbepaa", sum := "f98fcc00a3cafcf8cbbec3cc92e24d20e64623a03d2c74283ca9c7135194e584", func := "loop.example/g00907/laws.FnAdaptive", spec := "fnAdaptive", unfollowed := true, recurses := true, apart := false, narrowed := true }
def FnAdaptiveUptoSaid : Prop := fnAdaptiveUptoRow.holds Try.pinned (OpenSpec.upto fnAdaptiveSpec)

/-- 'laws.FnExtremes', WHERE WHAT IT READS IS OF BULK AT MOST 1048576: true; the input reads as it did. -/
def fnExtremesUptoRow : OpenClaim := { program := "ythmcjmjkmmbepaa", sum := "f98fcc00a3cafcf8cbbec3cc92e24d20e64623a03d2c74283ca9c7135194e584", func := "loop.example/g00907/laws.FnExtremes", spec := "fnExtremes", unfollowed := true, recurses := true, apart := false, narrowed := true }
def FnExtremesUptoSaid : Prop := fnExtremesUptoRow.holds Try.pinned (OpenSpec.upto fnExtremesSpec)

/-- 'laws.FnExactIsValidMergeTree', WHERE WHAT IT READS IS OF BULK AT MOST 1048576: true; the input reads as it did. -/
def fnExactIsValidMergeTreeUptoRow : OpenClaim := { program := "ythmcjmjkmmbepaa", sum := "f98fcc00a3cafcf8cbbec3cc92e24d20e64623a03d2c74283ca9c7135194e584", func := "loop.example/g00907/laws.FnExactIsValidMergeTree", spec := "fnExactIsValidMergeTree", unfollowed := true, recurses := true, apart := false, narrowed := true }
def FnExactIsValidMergeTreeUptoSaid : Prop := fnExactIsValidMergeTreeUptoRow.holds Try.pinned (OpenSpec.upto fnExactIsValidMergeTreeSpec)

/-- 'laws.FnExactAdaptiveSort', WHERE WHAT IT READS IS OF BULK AT MOST 1048576: true; the input reads as it did. -/
def fnExactAdaptiveSortUptoRow : OpenClaim := { program := "ythmcjmjkmmbepaa", sum := "f98fcc00a3cafcf8cbbec3cc92e24d20e64623a03d2c74283ca9c7135194e584", func := "loop.example/g00907/laws.FnExactAdaptiveSort", spec := "fnExactAdaptiveSort", unfollowed := true, recurses := true, apart := false, narrowed := true }
def FnExactAdaptiveSortUptoSaid : Prop := fnExactAdaptiveSortUptoRow.holds Try.pinned (OpenSpec.upto fnExactAdaptiveSortSpec)

/-- 'laws.FnExactMinMax', WHERE WHAT IT READS IS OF BULK AT MOST 1048576: true; the input reads as it did. -/
def fnExactMinMaxUptoRow : OpenClaim := { program := "ythmcjmjkmmbepaa", sum := "f98fcc00a3cafcf8cbbec3cc92e24d20e64623a03d2c74283ca9c7135194e584", func := "loop.example/g00907/laws.FnExactMinMax", spec := "fnExactMinMax", unfollowed := true, recurses := true, apart := false, narrowed := true }
def FnExactMinMaxUptoSaid : Prop := fnExactMinMaxUptoRow.holds Try.pinned (OpenSpec.upto fnExactMinMaxSpec)

/-- 'laws.FnExactSecondSmallest', WHERE WHAT IT READS IS OF BULK AT MOST 1048576: true; the input reads as it did. -/
def fnExactSecondSmallestUptoRow : OpenClaim := { program := "ythmcjmjkmmbepaa", sum := "f98fcc00a3cafcf8cbbec3cc92e24d20e64623a03d2c74283ca9c7135194e584", func := "loop.example/g00907/laws.FnExactSecondSmallest", spec := "fnExactSecondSmallest", unfollowed := true, recurses := true, apart := false, narrowed := true }
def FnExactSecondSmallestUptoSaid : Prop := fnExactSecondSmallestUptoRow.holds Try.pinned (OpenSpec.upto fnExactSecondSmallestSpec)

end Rows
end Go.Proofs.Ythmcjmjkmmbepaa
