/-
  DERIVED. GIVEN WITH THE SEED: THE CARDS: each row of YtioflclfgkcpfaaDoorRows.lean that lists a variable, with what it lists TIED to the program's text (the seventh form; the later family's looks); each row that meets fmt, with fmt's text TOLD by the authors' own Lean function (tested against real Go, not proved from fmt's source: count such statements apart). THE CARD IS WHAT COUNTS. Prove the row's statement (the work); the ties are given (YtioflclfgkcpfaaDoorTie.lean); close each card by the builder's one call (the guide's Derived/Test/ToyasCard.lean, 'card_holds'). Laid BY PROGRAM, IN A SANDBOX (cutbox-door.mjs). By AI agents, Wed Nov 11 2026. No macro, syntax, notation, axiom, sorry.
-/
import Derived.Test.YtioflclfgkcpfaaDoorRows
import GoSem.ClaimSeven
namespace Go.Proofs.YtioflclfgkcpfaaDoor
namespace Rows

/-- THE TIED CARD OF 'broadsheetlaw9.ManifestNumbers'. -/
def manifestNumbersCard : Claim7 := { stood := { row := manifestNumbersRow, standIns := [], harness := (true, "e5e70bed3de533ed2daddde0376861cada87315896b292f1a728e22d186260da"), looks := false }, kinds := [], alts := [], laidByText := true, laidKinds := [.data], laidTests := true, laidLooks := .later }
def ManifestNumbersCardSaid : Prop := Claim7.holds Tryd.pinned (.plain (OpenSpec.ofChange manifestNumbersSpec)) manifestNumbersCard

/-- THE TIED CARD OF 'broadsheetlaw9.ManifestTells'. -/
def manifestTellsCard : Claim7 := { stood := { row := manifestTellsRow, standIns := [], harness := (true, "e5e70bed3de533ed2daddde0376861cada87315896b292f1a728e22d186260da"), looks := false }, kinds := [], alts := [], laidByText := true, laidKinds := [.data], laidTests := true, laidLooks := .later }
def ManifestTellsCardSaid : Prop := Claim7.holds Tryd.pinned (.plain (OpenSpec.ofChange manifestTellsSpec)) manifestTellsCard

/-- THE SECOND FORM's CARD OF 'broadsheetlaw9.ManifestNumbers'. -/
def manifestNumbersUptoCard : Claim7 := { stood := { row := manifestNumbersUptoRow, standIns := [], harness := (true, "e5e70bed3de533ed2daddde0376861cada87315896b292f1a728e22d186260da"), looks := false }, kinds := [], alts := [], laidByText := true, laidKinds := [.data], laidTests := true, laidLooks := .later }
def ManifestNumbersUptoCardSaid : Prop := Claim7.holds Tryd.pinned (.plain (OpenSpec.upto manifestNumbersSpec)) manifestNumbersUptoCard

/-- THE SECOND FORM's CARD OF 'broadsheetlaw9.ManifestTells'. -/
def manifestTellsUptoCard : Claim7 := { stood := { row := manifestTellsUptoRow, standIns := [], harness := (true, "e5e70bed3de533ed2daddde0376861cada87315896b292f1a728e22d186260da"), looks := false }, kinds := [], alts := [], laidByText := true, laidKinds := [.data], laidTests := true, laidLooks := .later }
def ManifestTellsUptoCardSaid : Prop := Claim7.holds Tryd.pinned (.plain (OpenSpec.upto manifestTellsSpec)) manifestTellsUptoCard
end Rows
end Go.Proofs.YtioflclfgkcpfaaDoor
