/-
  DERIVED. GIVEN WITH THE SEED: THE CARDS: each row of YtcbeoihgaccjcaaDoorRows.lean that lists a variable, with what it lists TIED to the program's text (the seventh form; the later family's looks); each row that meets fmt, with fmt's text TOLD by the authors' own Lean function (tested against real Go, not proved from fmt's source: count such statements apart). THE CARD IS WHAT COUNTS. Prove the row's statement (the work); the ties are given (YtcbeoihgaccjcaaDoorTie.lean); close each card by the builder's one call (the guide's Derived/Test/ToyasCard.lean, 'card_holds'). Laid BY PROGRAM, IN A SANDBOX (cutbox-door.mjs). By AI agents, Wed Nov 11 2026. No macro, syntax, notation, axiom, sorry.
-/
import Derived.Test.YtcbeoihgaccjcaaDoorRows
import GoSem.ClaimSeven
namespace Go.Proofs.YtcbeoihgaccjcaaDoor
namespace Rows

/-- THE TIED CARD OF 'laws.FnSpecs'. -/
def fnSpecsCard : Claim7 := { stood := { row := fnSpecsRow, standIns := [], harness := (true, "5cdc04ba0d2bf777333b2d9c99cdc077dc1cd8bb6a19ddfd5afa94464da94486"), looks := true }, kinds := [], alts := [], laidByText := true, laidKinds := [.data, .data, .data, .sentinel, .sentinel], laidTests := true, laidLooks := .later }
def FnSpecsCardSaid : Prop := Claim7.holds Tryd.pinned (.plain (OpenSpec.ofChange fnSpecsSpec)) fnSpecsCard

/-- THE TIED CARD OF 'laws.FnExactFormatSpecs'. -/
def fnExactFormatSpecsCard : Claim7 := { stood := { row := fnExactFormatSpecsRow, standIns := [], harness := (true, "5cdc04ba0d2bf777333b2d9c99cdc077dc1cd8bb6a19ddfd5afa94464da94486"), looks := true }, kinds := [], alts := [], laidByText := true, laidKinds := [.data, .data, .data], laidTests := true, laidLooks := .later }
def FnExactFormatSpecsCardSaid : Prop := Claim7.holds Tryd.pinned (.plain (OpenSpec.ofChange fnExactFormatSpecsSpec)) fnExactFormatSpecsCard

/-- THE TIED CARD OF 'laws.FnExactParseSpecs'. -/
def fnExactParseSpecsCard : Claim7 := { stood := { row := fnExactParseSpecsRow, standIns := [], harness := (true, "5cdc04ba0d2bf777333b2d9c99cdc077dc1cd8bb6a19ddfd5afa94464da94486"), looks := true }, kinds := [], alts := [], laidByText := true, laidKinds := [.data, .data, .data, .sentinel, .sentinel], laidTests := true, laidLooks := .later }
def FnExactParseSpecsCardSaid : Prop := Claim7.holds Tryd.pinned (.plain (OpenSpec.ofChange fnExactParseSpecsSpec)) fnExactParseSpecsCard

/-- THE SECOND FORM's CARD OF 'laws.FnSpecs'. -/
def fnSpecsUptoCard : Claim7 := { stood := { row := fnSpecsUptoRow, standIns := [], harness := (true, "5cdc04ba0d2bf777333b2d9c99cdc077dc1cd8bb6a19ddfd5afa94464da94486"), looks := true }, kinds := [], alts := [], laidByText := true, laidKinds := [.data, .data, .data, .sentinel, .sentinel], laidTests := true, laidLooks := .later }
def FnSpecsUptoCardSaid : Prop := Claim7.holds Tryd.pinned (.plain (OpenSpec.upto fnSpecsSpec)) fnSpecsUptoCard

/-- THE SECOND FORM's CARD OF 'laws.FnExactFormatSpecs'. -/
def fnExactFormatSpecsUptoCard : Claim7 := { stood := { row := fnExactFormatSpecsUptoRow, standIns := [], harness := (true, "5cdc04ba0d2bf777333b2d9c99cdc077dc1cd8bb6a19ddfd5afa94464da94486"), looks := true }, kinds := [], alts := [], laidByText := true, laidKinds := [.data, .data, .data], laidTests := true, laidLooks := .later }
def FnExactFormatSpecsUptoCardSaid : Prop := Claim7.holds Tryd.pinned (.plain (OpenSpec.upto fnExactFormatSpecsSpec)) fnExactFormatSpecsUptoCard

/-- THE SECOND FORM's CARD OF 'laws.FnExactParseSpecs'. -/
def fnExactParseSpecsUptoCard : Claim7 := { stood := { row := fnExactParseSpecsUptoRow, standIns := [], harness := (true, "5cdc04ba0d2bf777333b2d9c99cdc077dc1cd8bb6a19ddfd5afa94464da94486"), looks := true }, kinds := [], alts := [], laidByText := true, laidKinds := [.data, .data, .data, .sentinel, .sentinel], laidTests := true, laidLooks := .later }
def FnExactParseSpecsUptoCardSaid : Prop := Claim7.holds Tryd.pinned (.plain (OpenSpec.upto fnExactParseSpecsSpec)) fnExactParseSpecsUptoCard
end Rows
end Go.Proofs.YtcbeoihgaccjcaaDoor
