/-
  No cell of these rows narrows 'for every input' (looked for: loops, veiled, ifaces, maps, wideKeys, modest, calm, conditions, laid).
  DERIVED. THE GIVEN ROWS OF THIS SEAT. 17 by the template 'for every input the law returns true; each argument reads behind the call as it read before'; 0 by the template 'total and deterministic' (their statements: YtckogbmaahenhaaTotals.lean).
  GIVEN WITH THE SEED: the statements are not yours to turn. If you find one false, say at which input.
  Laid BY PROGRAM, IN A SANDBOX (cutbox-rows.mjs): the forced cells as the released guide's own fill.sh prints them over the translation 99e9a7de43afb4ac… (all of the seat's roots in one cut). By AI agents, Wed Nov 11 2026. No macro, syntax, notation, axiom, sorry.
-/
import Derived.Test.YtckogbmaahenhaaChecked
import GoSem.Claim
import GoSem.ClaimJoined
import GoSem.ClaimMapViews
import Derived.JoinedTies
import Derived.KernelRfl
namespace Go.Proofs.Ytckogbmaahenhaa
/- THE CELL 'sum', in the pinned program and in every row, IS THE sha256 OF THE DUMP (.gsa) THAT YtckogbmaahenhaaProg.lean LOADS. Nothing in Lean hashes anything: it is a label: what it is worth is what the hold of that sum in a sandbox is worth. -/
noncomputable def Try.pinned : Pinned := { name := "ytckogbmaahenhaa", sum := "99e9a7de43afb4acfac7f97b5d4fe849bf1f256af389dacdb7316ae1b21c9c2b", checked := Try.checked }
namespace Rows
def none {H : Type} : Left H := { results := [], args := [] }

/-- 'laws.FnInverse': WHATEVER THE INPUT: true; the input reads as it did. -/
def fnInverseSpec : ChangeSpec := { name := "fnInverse", fn := fun _ => fun
  | [d] => { results := [.lit (.bool true)], args := [d] }
  | _ => none }
def fnInverseRow : OpenClaim := { program := "ytckogbmaahenhaa", sum := "99e9a7de43afb4acfac7f97b5d4fe849bf1f256af389dacdb7316ae1b21c9c2b", func := "loop.example/g00907/laws.FnInverse", spec := "fnInverse", unfollowed := true, recurses := true, apart := false }
def FnInverseSaid : Prop := fnInverseRow.holds Try.pinned (OpenSpec.ofChange fnInverseSpec)

/-- ITS FALSE NEIGHBOUR: 'it returns false'. Refute it at one input. -/
def fnInverseWrong : ChangeSpec := { name := "fnInverse", fn := fun _ => fun
  | [d] => { results := [.lit (.bool false)], args := [d] }
  | _ => none }
def FnInverseWrongFalsely : Prop := fnInverseRow.holds Try.pinned (OpenSpec.ofChange fnInverseWrong)

/-- 'laws.FnCompose': WHATEVER THE INPUT: true; the input reads as it did. -/
def fnComposeSpec : ChangeSpec := { name := "fnCompose", fn := fun _ => fun
  | [d] => { results := [.lit (.bool true)], args := [d] }
  | _ => none }
def fnComposeRow : OpenClaim := { program := "ytckogbmaahenhaa", sum := "99e9a7de43afb4acfac7f97b5d4fe849bf1f256af389dacdb7316ae1b21c9c2b", func := "loop.example/g00907/laws.FnCompose", spec := "fnCompose", unfollowed := true, recurses := true, apart := false }
def FnComposeSaid : Prop := fnComposeRow.holds Try.pinned (OpenSpec.ofChange fnComposeSpec)

/-- ITS FALSE NEIGHBOUR: 'it returns false'. Refute it at one input. -/
def fnComposeWrong : ChangeSpec := { name := "fnCompose", fn := fun _ => fun
  | [d] => { results := [.lit (.bool false)], args := [d] }
  | _ => none }
def FnComposeWrongFalsely : Prop := fnComposeRow.holds Try.pinned (OpenSpec.ofChange fnComposeWrong)

/-- 'laws.FnCycles': WHATEVER THE INPUT: true; the input reads as it did. -/
def fnCyclesSpec : ChangeSpec := { name := "fnCycles", fn := fun _ => fun
  | [d] => { results := [.lit (.bool true)], args := [d] }
  | _ => none }
def fnCyclesRow : OpenClaim := { program := "ytckogbmaahenhaa", sum := "99e9a7de43afb4acfac7f97b5d4fe849bf1f256af389dacdb7316ae1b21c9c2b", func := "loop.example/g00907/laws.FnCycles", spec := "fnCycles", unfollowed := true, recurses := true, apart := false }
def FnCyclesSaid : Prop := fnCyclesRow.holds Try.pinned (OpenSpec.ofChange fnCyclesSpec)

/-- ITS FALSE NEIGHBOUR: 'it returns false'. Refute it at one input. -/
def fnCyclesWrong : ChangeSpec := { name := "fnCycles", fn := fun _ => fun
  | [d] => { results := [.lit (.bool false)], args := [d] }
  | _ => none }
def FnCyclesWrongFalsely : Prop := fnCyclesRow.holds Try.pinned (OpenSpec.ofChange fnCyclesWrong)

/-- 'laws.FnSorting': WHATEVER THE INPUT: true; the input reads as it did. -/
def fnSortingSpec : ChangeSpec := { name := "fnSorting", fn := fun _ => fun
  | [d] => { results := [.lit (.bool true)], args := [d] }
  | _ => none }
def fnSortingRow : OpenClaim := { program := "ytckogbmaahenhaa", sum := "99e9a7de43afb4acfac7f97b5d4fe849bf1f256af389dacdb7316ae1b21c9c2b", func := "loop.example/g00907/laws.FnSorting", spec := "fnSorting", unfollowed := true, recurses := true, apart := false }
def FnSortingSaid : Prop := fnSortingRow.holds Try.pinned (OpenSpec.ofChange fnSortingSpec)

/-- ITS FALSE NEIGHBOUR: 'it returns false'. Refute it at one input. -/
def fnSortingWrong : ChangeSpec := { name := "fnSorting", fn := fun _ => fun
  | [d] => { results := [.lit (.bool false)], args := [d] }
  | _ => none }
def FnSortingWrongFalsely : Prop := fnSortingRow.holds Try.pinned (OpenSpec.ofChange fnSortingWrong)

/-- 'laws.FnRanks': WHATEVER THE INPUT: true; the input reads as it did. -/
def fnRanksSpec : ChangeSpec := { name := "fnRanks", fn := fun _ => fun
  | [d] => { results := [.lit (.bool true)], args := [d] }
  | _ => none }
def fnRanksRow : OpenClaim := { program := "ytckogbmaahenhaa", sum := "99e9a7de43afb4acfac7f97b5d4fe849bf1f256af389dacdb7316ae1b21c9c2b", func := "loop.example/g00907/laws.FnRanks", spec := "fnRanks", apart := false }
def FnRanksSaid : Prop := fnRanksRow.holds Try.pinned (OpenSpec.ofChange fnRanksSpec)

/-- ITS FALSE NEIGHBOUR: 'it returns false'. Refute it at one input. -/
def fnRanksWrong : ChangeSpec := { name := "fnRanks", fn := fun _ => fun
  | [d] => { results := [.lit (.bool false)], args := [d] }
  | _ => none }
def FnRanksWrongFalsely : Prop := fnRanksRow.holds Try.pinned (OpenSpec.ofChange fnRanksWrong)

/-- 'laws.FnExactIsValidPermutation': WHATEVER THE INPUT: true; the input reads as it did. -/
def fnExactIsValidPermutationSpec : ChangeSpec := { name := "fnExactIsValidPermutation", fn := fun _ => fun
  | [d] => { results := [.lit (.bool true)], args := [d] }
  | _ => none }
def fnExactIsValidPermutationRow : OpenClaim := { program := "ytckogbmaahenhaa", sum := "99e9a7de43afb4acfac7f97b5d4fe849bf1f256af389dacdb7316ae1b21c9c2b", func := "loop.example/g00907/laws.FnExactIsValidPermutation", spec := "fnExactIsValidPermutation", apart := false }
def FnExactIsValidPermutationSaid : Prop := fnExactIsValidPermutationRow.holds Try.pinned (OpenSpec.ofChange fnExactIsValidPermutationSpec)

/-- ITS FALSE NEIGHBOUR: 'it returns false'. Refute it at one input. -/
def fnExactIsValidPermutationWrong : ChangeSpec := { name := "fnExactIsValidPermutation", fn := fun _ => fun
  | [d] => { results := [.lit (.bool false)], args := [d] }
  | _ => none }
def FnExactIsValidPermutationWrongFalsely : Prop := fnExactIsValidPermutationRow.holds Try.pinned (OpenSpec.ofChange fnExactIsValidPermutationWrong)

/-- 'laws.FnExactInversePermutation': WHATEVER THE INPUT: true; the input reads as it did. -/
def fnExactInversePermutationSpec : ChangeSpec := { name := "fnExactInversePermutation", fn := fun _ => fun
  | [d] => { results := [.lit (.bool true)], args := [d] }
  | _ => none }
def fnExactInversePermutationRow : OpenClaim := { program := "ytckogbmaahenhaa", sum := "99e9a7de43afb4acfac7f97b5d4fe849bf1f256af389dacdb7316ae1b21c9c2b", func := "loop.example/g00907/laws.FnExactInversePermutation", spec := "fnExactInversePermutation", apart := false }
def FnExactInversePermutationSaid : Prop := fnExactInversePermutationRow.holds Try.pinned (OpenSpec.ofChange fnExactInversePermutationSpec)

/-- ITS FALSE NEIGHBOUR: 'it returns false'. Refute it at one input. -/
def fnExactInversePermutationWrong : ChangeSpec := { name := "fnExactInversePermutation", fn := fun _ => fun
  | [d] => { results := [.lit (.bool false)], args := [d] }
  | _ => none }
def FnExactInversePermutationWrongFalsely : Prop := fnExactInversePermutationRow.holds Try.pinned (OpenSpec.ofChange fnExactInversePermutationWrong)

/-- 'laws.FnExactComposePermutations': WHATEVER THE INPUT: true; the input reads as it did. -/
def fnExactComposePermutationsSpec : ChangeSpec := { name := "fnExactComposePermutations", fn := fun _ => fun
  | [d1, d2] => { results := [.lit (.bool true)], args := [d1, d2] }
  | _ => none }
def fnExactComposePermutationsRow : OpenClaim := { program := "ytckogbmaahenhaa", sum := "99e9a7de43afb4acfac7f97b5d4fe849bf1f256af389dacdb7316ae1b21c9c2b", func := "loop.example/g00907/laws.FnExactComposePermutations", spec := "fnExactComposePermutations", apart := false }
def FnExactComposePermutationsSaid : Prop := fnExactComposePermutationsRow.holds Try.pinned (OpenSpec.ofChange fnExactComposePermutationsSpec)

/-- ITS FALSE NEIGHBOUR: 'it returns false'. Refute it at one input. -/
def fnExactComposePermutationsWrong : ChangeSpec := { name := "fnExactComposePermutations", fn := fun _ => fun
  | [d1, d2] => { results := [.lit (.bool false)], args := [d1, d2] }
  | _ => none }
def FnExactComposePermutationsWrongFalsely : Prop := fnExactComposePermutationsRow.holds Try.pinned (OpenSpec.ofChange fnExactComposePermutationsWrong)

/-- 'laws.FnExactApplyPermutation': WHATEVER THE INPUT: true; the input reads as it did. -/
def fnExactApplyPermutationSpec : ChangeSpec := { name := "fnExactApplyPermutation", fn := fun _ => fun
  | [d1, d2] => { results := [.lit (.bool true)], args := [d1, d2] }
  | _ => none }
def fnExactApplyPermutationRow : OpenClaim := { program := "ytckogbmaahenhaa", sum := "99e9a7de43afb4acfac7f97b5d4fe849bf1f256af389dacdb7316ae1b21c9c2b", func := "loop.example/g00907/laws.FnExactApplyPermutation", spec := "fnExactApplyPermutation", unfollowed := true, recurses := true, apart := false }
def FnExactApplyPermutationSaid : Prop := fnExactApplyPermutationRow.holds Try.pinned (OpenSpec.ofChange fnExactApplyPermutationSpec)

/-- ITS FALSE NEIGHBOUR: 'it returns false'. Refute it at one input. -/
def fnExactApplyPermutationWrong : ChangeSpec := { name := "fnExactApplyPermutation", fn := fun _ => fun
  | [d1, d2] => { results := [.lit (.bool false)], args := [d1, d2] }
  | _ => none }
def FnExactApplyPermutationWrongFalsely : Prop := fnExactApplyPermutationRow.holds Try.pinned (OpenSpec.ofChange fnExactApplyPermutationWrong)

/-- 'laws.FnExactPermutationCycles': WHATEVER THE INPUT: true; the input reads as it did. -/
def fnExactPermutationCyclesSpec : ChangeSpec := { name := "fnExactPermutationCycles", fn := fun _ => fun
  | [d] => { results := [.lit (.bool true)], args := [d] }
  | _ => none }
def fnExactPermutationCyclesRow : OpenClaim := { program := "ytckogbmaahenhaa", sum := "99e9a7de43afb4acfac7f97b5d4fe849bf1f256af389dacdb7316ae1b21c9c2b", func := "loop.example/g00907/laws.FnExactPermutationCycles", spec := "fnExactPermutationCycles", unfollowed := true, recurses := true, apart := false }
def FnExactPermutationCyclesSaid : Prop := fnExactPermutationCyclesRow.holds Try.pinned (OpenSpec.ofChange fnExactPermutationCyclesSpec)

/-- ITS FALSE NEIGHBOUR: 'it returns false'. Refute it at one input. -/
def fnExactPermutationCyclesWrong : ChangeSpec := { name := "fnExactPermutationCycles", fn := fun _ => fun
  | [d] => { results := [.lit (.bool false)], args := [d] }
  | _ => none }
def FnExactPermutationCyclesWrongFalsely : Prop := fnExactPermutationCyclesRow.holds Try.pinned (OpenSpec.ofChange fnExactPermutationCyclesWrong)

/-- 'laws.FnExactPermutationSign': WHATEVER THE INPUT: true; the input reads as it did. -/
def fnExactPermutationSignSpec : ChangeSpec := { name := "fnExactPermutationSign", fn := fun _ => fun
  | [d] => { results := [.lit (.bool true)], args := [d] }
  | _ => none }
def fnExactPermutationSignRow : OpenClaim := { program := "ytckogbmaahenhaa", sum := "99e9a7de43afb4acfac7f97b5d4fe849bf1f256af389dacdb7316ae1b21c9c2b", func := "loop.example/g00907/laws.FnExactPermutationSign", spec := "fnExactPermutationSign", unfollowed := true, recurses := true, apart := false }
def FnExactPermutationSignSaid : Prop := fnExactPermutationSignRow.holds Try.pinned (OpenSpec.ofChange fnExactPermutationSignSpec)

/-- ITS FALSE NEIGHBOUR: 'it returns false'. Refute it at one input. -/
def fnExactPermutationSignWrong : ChangeSpec := { name := "fnExactPermutationSign", fn := fun _ => fun
  | [d] => { results := [.lit (.bool false)], args := [d] }
  | _ => none }
def FnExactPermutationSignWrongFalsely : Prop := fnExactPermutationSignRow.holds Try.pinned (OpenSpec.ofChange fnExactPermutationSignWrong)

/-- 'laws.FnExactSortingPermutation': WHATEVER THE INPUT: true; the input reads as it did. -/
def fnExactSortingPermutationSpec : ChangeSpec := { name := "fnExactSortingPermutation", fn := fun _ => fun
  | [d] => { results := [.lit (.bool true)], args := [d] }
  | _ => none }
def fnExactSortingPermutationRow : OpenClaim := { program := "ytckogbmaahenhaa", sum := "99e9a7de43afb4acfac7f97b5d4fe849bf1f256af389dacdb7316ae1b21c9c2b", func := "loop.example/g00907/laws.FnExactSortingPermutation", spec := "fnExactSortingPermutation", unfollowed := true, recurses := true, apart := false }
def FnExactSortingPermutationSaid : Prop := fnExactSortingPermutationRow.holds Try.pinned (OpenSpec.ofChange fnExactSortingPermutationSpec)

/-- ITS FALSE NEIGHBOUR: 'it returns false'. Refute it at one input. -/
def fnExactSortingPermutationWrong : ChangeSpec := { name := "fnExactSortingPermutation", fn := fun _ => fun
  | [d] => { results := [.lit (.bool false)], args := [d] }
  | _ => none }
def FnExactSortingPermutationWrongFalsely : Prop := fnExactSortingPermutationRow.holds Try.pinned (OpenSpec.ofChange fnExactSortingPermutationWrong)

/-- 'laws.FnExactRankPermutation': WHATEVER THE INPUT: true; the input reads as it did. -/
def fnExactRankPermutationSpec : ChangeSpec := { name := "fnExactRankPermutation", fn := fun _ => fun
  | [d] => { results := [.lit (.bool true)], args := [d] }
  | _ => none }
def fnExactRankPermutationRow : OpenClaim := { program := "ytckogbmaahenhaa", sum := "99e9a7de43afb4acfac7f97b5d4fe849bf1f256af389dacdb7316ae1b21c9c2b", func := "loop.example/g00907/laws.FnExactRankPermutation", spec := "fnExactRankPermutation", apart := false }
def FnExactRankPermutationSaid : Prop := fnExactRankPermutationRow.holds Try.pinned (OpenSpec.ofChange fnExactRankPermutationSpec)

/-- ITS FALSE NEIGHBOUR: 'it returns false'. Refute it at one input. -/
def fnExactRankPermutationWrong : ChangeSpec := { name := "fnExactRankPermutation", fn := fun _ => fun
  | [d] => { results := [.lit (.bool false)], args := [d] }
  | _ => none }
def FnExactRankPermutationWrongFalsely : Prop := fnExactRankPermutationRow.holds Try.pinned (OpenSpec.ofChange fnExactRankPermutationWrong)

/-- 'laws.FnExactUnrankPermutation': WHATEVER THE INPUT: true; the input reads as it did. -/
def fnExactUnrankPermutationSpec : ChangeSpec := { name := "fnExactUnrankPermutation", fn := fun _ => fun
  | [d1, d2] => { results := [.lit (.bool true)], args := [d1, d2] }
  | _ => none }
def fnExactUnrankPermutationRow : OpenClaim := { program := "ytckogbmaahenhaa", sum := "99e9a7de43afb4acfac7f97b5d4fe849bf1f256af389dacdb7316ae1b21c9c2b", func := "loop.example/g00907/laws.FnExactUnrankPermutation", spec := "fnExactUnrankPermutation", apart := false }
def FnExactUnrankPermutationSaid : Prop := fnExactUnrankPermutationRow.holds Try.pinned (OpenSpec.ofChange fnExactUnrankPermutationSpec)

/-- ITS FALSE NEIGHBOUR: 'it returns false'. Refute it at one input. -/
def fnExactUnrankPermutationWrong : ChangeSpec := { name := "fnExactUnrankPermutation", fn := fun _ => fun
  | [d1, d2] => { results := [.lit (.bool false)], args := [d1, d2] }
  | _ => none }
def FnExactUnrankPermutationWrongFalsely : Prop := fnExactUnrankPermutationRow.holds Try.pinned (OpenSpec.ofChange fnExactUnrankPermutationWrong)

/-- 'laws.FnExactNextPermutation': WHATEVER THE INPUT: true; the input reads as it did. -/
def fnExactNextPermutationSpec : ChangeSpec := { name := "fnExactNextPermutation", fn := fun _ => fun
  | [d] => { results := [.lit (.bool true)], args := [d] }
  | _ => none }
def fnExactNextPermutationRow : OpenClaim := { program := "ytckogbmaahenhaa", sum := "99e9a7de43afb4acfac7f97b5d4fe849bf1f256af389dacdb7316ae1b21c9c2b", func := "loop.example/g00907/laws.FnExactNextPermutation", spec := "fnExactNextPermutation", apart := false }
def FnExactNextPermutationSaid : Prop := fnExactNextPermutationRow.holds Try.pinned (OpenSpec.ofChange fnExactNextPermutationSpec)

/-- ITS FALSE NEIGHBOUR: 'it returns false'. Refute it at one input. -/
def fnExactNextPermutationWrong : ChangeSpec := { name := "fnExactNextPermutation", fn := fun _ => fun
  | [d] => { results := [.lit (.bool false)], args := [d] }
  | _ => none }
def FnExactNextPermutationWrongFalsely : Prop := fnExactNextPermutationRow.holds Try.pinned (OpenSpec.ofChange fnExactNextPermutationWrong)

/-- 'laws.FnExactOrderClasses': WHATEVER THE INPUT: true; the input reads as it did. -/
def fnExactOrderClassesSpec : ChangeSpec := { name := "fnExactOrderClasses", fn := fun _ => fun
  | [d] => { results := [.lit (.bool true)], args := [d] }
  | _ => none }
def fnExactOrderClassesRow : OpenClaim := { program := "ytckogbmaahenhaa", sum := "99e9a7de43afb4acfac7f97b5d4fe849bf1f256af389dacdb7316ae1b21c9c2b", func := "loop.example/g00907/laws.FnExactOrderClasses", spec := "fnExactOrderClasses", unfollowed := true, recurses := true, apart := false }
def FnExactOrderClassesSaid : Prop := fnExactOrderClassesRow.holds Try.pinned (OpenSpec.ofChange fnExactOrderClassesSpec)

/-- ITS FALSE NEIGHBOUR: 'it returns false'. Refute it at one input. -/
def fnExactOrderClassesWrong : ChangeSpec := { name := "fnExactOrderClasses", fn := fun _ => fun
  | [d] => { results := [.lit (.bool false)], args := [d] }
  | _ => none }
def FnExactOrderClassesWrongFalsely : Prop := fnExactOrderClassesRow.holds Try.pinned (OpenSpec.ofChange fnExactOrderClassesWrong)

/-- 'laws.FnOrders': WHATEVER THE INPUT: true; the input reads as it did. -/
def fnOrdersSpec : ChangeSpec := { name := "fnOrders", fn := fun _ => fun
  | [d] => { results := [.lit (.bool true)], args := [d] }
  | _ => none }
def fnOrdersRow : OpenClaim := { program := "ytckogbmaahenhaa", sum := "99e9a7de43afb4acfac7f97b5d4fe849bf1f256af389dacdb7316ae1b21c9c2b", func := "loop.example/g00907/laws.FnOrders", spec := "fnOrders", unfollowed := true, recurses := true, apart := false }
def FnOrdersSaid : Prop := fnOrdersRow.holds Try.pinned (OpenSpec.ofChange fnOrdersSpec)

/-- ITS FALSE NEIGHBOUR: 'it returns false'. Refute it at one input. -/
def fnOrdersWrong : ChangeSpec := { name := "fnOrders", fn := fun _ => fun
  | [d] => { results := [.lit (.bool false)], args := [d] }
  | _ => none }
def FnOrdersWrongFalsely : Prop := fnOrdersRow.holds Try.pinned (OpenSpec.ofChange fnOrdersWrong)

/- THE SECOND FORM. 'bulk': how many values and letters a reading holds, each counted each time it is reached (what is shared counts as often as it is met; a slice's spare places count too). A statement '..UptoSaid' is the law's where the arguments, and the package variables that the reading takes, are together of bulk at most 1048576: NARROWER than '..Said'. Prove '..Said' where nothing that the law and all that it calls make is longer than what came in: it says more and counts as full. Else prove '..UptoSaid'. A law counts once. -/
mutual
def uptoBulk {H : Type} : DataW H → Nat
  | .lit (.string bytes) => bytes.length + 1
  | .lit _ => 1
  | .nil => 1
  | .ptr d => uptoBulk d + 1
  | .slice elems spare => uptoBulkAll elems + uptoBulkAll spare + 1
  | .agg parts => uptoBulkAll parts + 1
  | .iface _ d => uptoBulk d + 1
  | .map entries => uptoBulkEntries entries + 1
  | .held _ => 1
def uptoBulkAll {H : Type} : List (DataW H) → Nat
  | [] => 0
  | d :: r => uptoBulk d + uptoBulkAll r
def uptoBulkEntries {H : Type} : List (Lit × DataW H) → Nat
  | [] => 0
  | x :: r => uptoBulkEntry x + uptoBulkEntries r
def uptoBulkEntry {H : Type} : Lit × DataW H → Nat
  | (.string bytes, d) => bytes.length + uptoBulk d + 1
  | (_, d) => uptoBulk d + 1
 end
def uptoSmall : (H : Type) → List (DataW H) → Bool := fun _ ds => decide (uptoBulkAll ds ≤ 1048576)
def OpenSpec.upto (s : _root_.Go.ChangeSpec) : _root_.Go.OpenSpec := { _root_.Go.OpenSpec.ofChange s with cond := some uptoSmall }

/-- 'laws.FnInverse', WHERE WHAT IT READS IS OF BULK AT MOST 1048576: true; the input reads as it did. -/
def fnInverseUptoRow : OpenClaim := { program := "ytckogbmaahenhaa", sum := "99e9a7de43afb4acfac7f97b5d4fe849bf1f256af389dacdb7316ae1b21c9c2b", func := "loop.example/g00907/laws.FnInverse", spec := "fnInverse", unfollowed := true, recurses := true, apart := false, narrowed := true }
def FnInverseUptoSaid : Prop := fnInverseUptoRow.holds Try.pinned (OpenSpec.upto fnInverseSpec)

/-- 'laws.FnCompose', WHERE WHAT IT READS IS OF BULK AT MOST 1048576: true; the input reads as it did. -/
def fnComposeUptoRow : OpenClaim := { program := "ytckogbmaahenhaa", sum := "99e9a7de43afb4acfac7f97b5d4fe849bf1f256af389dacdb7316ae1b21c9c2b", func := "loop.example/g00907/laws.FnCompose", spec := "fnCompose", unfollowed := true, recurses := true, apart := false, narrowed := true }
def FnComposeUptoSaid : Prop := fnComposeUptoRow.holds Try.pinned (OpenSpec.upto fnComposeSpec)

/-- 'laws.FnCycles', WHERE WHAT IT READS IS OF BULK AT MOST 1048576: true; the input reads as it did. -/
def fnCyclesUptoRow : OpenClaim := { program := "ytckogbmaahenhaa", sum := "99e9a7de43afb4acfac7f97b5d4fe849bf1f256af389dacdb7316ae1b21c9c2b", func := "loop.example/g00907/laws.FnCycles", spec := "fnCycles", unfollowed := true, recurses := true, apart := false, narrowed := true }
def FnCyclesUptoSaid : Prop := fnCyclesUptoRow.holds Try.pinned (OpenSpec.upto fnCyclesSpec)

/-- 'laws.FnSorting', WHERE WHAT IT READS IS OF BULK AT MOST 1048576: true; the input reads as it did. -/
def fnSortingUptoRow : OpenClaim := { program := "ytckogbmaahenhaa", sum := "99e9a7de43afb4acfac7f97b5d4fe849bf1f256af389dacdb7316ae1b21c9c2b", func := "loop.example/g00907/laws.FnSorting", spec := "fnSorting", unfollowed := true, recurses := true, apart := false, narrowed := true }
def FnSortingUptoSaid : Prop := fnSortingUptoRow.holds Try.pinned (OpenSpec.upto fnSortingSpec)

/-- 'laws.FnRanks', WHERE WHAT IT READS IS OF BULK AT MOST 1048576: true; the input reads as it did. -/
def fnRanksUptoRow : OpenClaim := { program := "ytckogbmaahenhaa", sum := "99e9a7de43afb4acfac7f97b5d4fe849bf1f256af389dacdb7316ae1b21c9c2b", func := "loop.example/g00907/laws.FnRanks", spec := "fnRanks", apart := false, narrowed := true }
def FnRanksUptoSaid : Prop := fnRanksUptoRow.holds Try.pinned (OpenSpec.upto fnRanksSpec)

/-- 'laws.FnExactIsValidPermutation', WHERE WHAT IT READS IS OF BULK AT MOST 1048576: true; the input reads as it did. -/
def fnExactIsValidPermutationUptoRow : OpenClaim := { program := "ytckogbmaahenhaa", sum := "99e9a7de43afb4acfac7f97b5d4fe849bf1f256af389dacdb7316ae1b21c9c2b", func := "loop.example/g00907/laws.FnExactIsValidPermutation", spec := "fnExactIsValidPermutation", apart := false, narrowed := true }
def FnExactIsValidPermutationUptoSaid : Prop := fnExactIsValidPermutationUptoRow.holds Try.pinned (OpenSpec.upto fnExactIsValidPermutationSpec)

/-- 'laws.FnExactInversePermutation', WHERE WHAT IT READS IS OF BULK AT MOST 1048576: true; the input reads as it did. -/
def fnExactInversePermutationUptoRow : OpenClaim := { program := "ytckogbmaahenhaa", sum := "99e9a7de43afb4acfac7f97b5d4fe849bf1f256af389dacdb7316ae1b21c9c2b", func := "loop.example/g00907/laws.FnExactInversePermutation", spec := "fnExactInversePermutation", apart := false, narrowed := true }
def FnExactInversePermutationUptoSaid : Prop := fnExactInversePermutationUptoRow.holds Try.pinned (OpenSpec.upto fnExactInversePermutationSpec)

/-- 'laws.FnExactComposePermutations', WHERE WHAT IT READS IS OF BULK AT MOST 1048576: true; the input reads as it did. -/
def fnExactComposePermutationsUptoRow : OpenClaim := { program := "ytckogbmaahenhaa", sum := "99e9a7de43afb4acfac7f97b5d4fe849bf1f256af389dacdb7316ae1b21c9c2b", func := "loop.example/g00907/laws.FnExactComposePermutations", spec := "fnExactComposePermutations", apart := false, narrowed := true }
def FnExactComposePermutationsUptoSaid : Prop := fnExactComposePermutationsUptoRow.holds Try.pinned (OpenSpec.upto fnExactComposePermutationsSpec)

/-- 'laws.FnExactApplyPermutation', WHERE WHAT IT READS IS OF BULK AT MOST 1048576: true; the input reads as it did. -/
def fnExactApplyPermutationUptoRow : OpenClaim := { program := "ytckogbmaahenhaa", sum := "99e9a7de43afb4acfac7f97b5d4fe849bf1f256af389dacdb7316ae1b21c9c2b", func := "loop.example/g00907/laws.FnExactApplyPermutation", spec := "fnExactApplyPermutation", unfollowed := true, recurses := true, apart := false, narrowed := true }
def FnExactApplyPermutationUptoSaid : Prop := fnExactApplyPermutationUptoRow.holds Try.pinned (OpenSpec.upto fnExactApplyPermutationSpec)

/-- 'laws.FnExactPermutationCycles', WHERE WHAT IT READS IS OF BULK AT MOST 1048576: true; the input reads as it did. -/
def fnExactPermutationCyclesUptoRow : OpenClaim := { program := "ytckogbmaahenhaa", sum := "99e9a7de43afb4acfac7f97b5d4fe849bf1f256af389dacdb7316ae1b21c9c2b", func := "loop.example/g00907/laws.FnExactPermutationCycles", spec := "fnExactPermutationCycles", unfollowed := true, recurses := true, apart := false, narrowed := true }
def FnExactPermutationCyclesUptoSaid : Prop := fnExactPermutationCyclesUptoRow.holds Try.pinned (OpenSpec.upto fnExactPermutationCyclesSpec)

/-- 'laws.FnExactPermutationSign', WHERE WHAT IT READS IS OF BULK AT MOST 1048576: true; the input reads as it did. -/
def fnExactPermutationSignUptoRow : OpenClaim := { program := "ytckogbmaahenhaa", sum := "99e9a7de43afb4acfac7f97b5d4fe849bf1f256af389dacdb7316ae1b21c9c2b", func := "loop.example/g00907/laws.FnExactPermutationSign", spec := "fnExactPermutationSign", unfollowed := true, recurses := true, apart := false, narrowed := true }
def FnExactPermutationSignUptoSaid : Prop := fnExactPermutationSignUptoRow.holds Try.pinned (OpenSpec.upto fnExactPermutationSignSpec)

/-- 'laws.FnExactSortingPermutation', WHERE WHAT IT READS IS OF BULK AT MOST 1048576: true; the input reads as it did. -/
def fnExactSortingPermutationUptoRow : OpenClaim := { program := "ytckogbmaahenhaa", sum := "99e9a7de43afb4acfac7f97b5d4fe849bf1f256af389dacdb7316ae1b21c9c2b", func := "loop.example/g00907/laws.FnExactSortingPermutation", spec := "fnExactSortingPermutation", unfollowed := true, recurses := true, apart := false, narrowed := true }
def FnExactSortingPermutationUptoSaid : Prop := fnExactSortingPermutationUptoRow.holds Try.pinned (OpenSpec.upto fnExactSortingPermutationSpec)

/-- 'laws.FnExactRankPermutation', WHERE WHAT IT READS IS OF BULK AT MOST 1048576: true; the input reads as it did. -/
def fnExactRankPermutationUptoRow : OpenClaim := { program := "ytckogbmaahenhaa", sum := "99e9a7de43afb4acfac7f97b5d4fe849bf1f256af389dacdb7316ae1b21c9c2b", func := "loop.example/g00907/laws.FnExactRankPermutation", spec := "fnExactRankPermutation", apart := false, narrowed := true }
def FnExactRankPermutationUptoSaid : Prop := fnExactRankPermutationUptoRow.holds Try.pinned (OpenSpec.upto fnExactRankPermutationSpec)

/-- 'laws.FnExactUnrankPermutation', WHERE WHAT IT READS IS OF BULK AT MOST 1048576: true; the input reads as it did. -/
def fnExactUnrankPermutationUptoRow : OpenClaim := { program := "ytckogbmaahenhaa", sum := "99e9a7de43afb4acfac7f97b5d4fe849bf1f256af389dacdb7316ae1b21c9c2b", func := "loop.example/g00907/laws.FnExactUnrankPermutation", spec := "fnExactUnrankPermutation", apart := false, narrowed := true }
def FnExactUnrankPermutationUptoSaid : Prop := fnExactUnrankPermutationUptoRow.holds Try.pinned (OpenSpec.upto fnExactUnrankPermutationSpec)

/-- 'laws.FnExactNextPermutation', WHERE WHAT IT READS IS OF BULK AT MOST 1048576: true; the input reads as it did. -/
def fnExactNextPermutationUptoRow : OpenClaim := { program := "ytckogbmaahenhaa", sum := "99e9a7de43afb4acfac7f97b5d4fe849bf1f256af389dacdb7316ae1b21c9c2b", func := "loop.example/g00907/laws.FnExactNextPermutation", spec := "fnExactNextPermutation", apart := false, narrowed := true }
def FnExactNextPermutationUptoSaid : Prop := fnExactNextPermutationUptoRow.holds Try.pinned (OpenSpec.upto fnExactNextPermutationSpec)

/-- 'laws.FnExactOrderClasses', WHERE WHAT IT READS IS OF BULK AT MOST 1048576: true; the input reads as it did. -/
def fnExactOrderClassesUptoRow : OpenClaim := { program := "ytckogbmaahenhaa", sum := "99e9a7de43afb4acfac7f97b5d4fe849bf1f256af389dacdb7316ae1b21c9c2b", func := "loop.example/g00907/laws.FnExactOrderClasses", spec := "fnExactOrderClasses", unfollowed := true, recurses := true, apart := false, narrowed := true }
def FnExactOrderClassesUptoSaid : Prop := fnExactOrderClassesUptoRow.holds Try.pinned (OpenSpec.upto fnExactOrderClassesSpec)

/-- 'laws.FnOrders', WHERE WHAT IT READS IS OF BULK AT MOST 1048576: true; the input reads as it did. -/
def fnOrdersUptoRow : OpenClaim := { program := "ytckogbmaahenhaa", sum := "99e9a7de43afb4acfac7f97b5d4fe849bf1f256af389dacdb7316ae1b21c9c2b", func := "loop.example/g00907/laws.FnOrders", spec := "fnOrders", unfollowed := true, recurses := true, apart := false, narrowed := true }
def FnOrdersUptoSaid : Prop := fnOrdersUptoRow.holds Try.pinned (OpenSpec.upto fnOrdersSpec)

end Rows
end Go.Proofs.Ytckogbmaahenhaa
