/-
  DERIVED. GIVEN WITH THE SEED: THE CARDS: each row of YtdioaohejoflcaaDoorRows.lean that lists a variable, with what it lists TIED to the program's text (the seventh form; the later family's looks); each row that meets fmt, with fmt's text TOLD by the authors' own Lean function (tested against real Go, not proved from fmt's source: count such statements apart). THE CARD IS WHAT COUNTS. Prove the row's statement (the work); the ties are given (YtdioaohejoflcaaDoorTie.lean); close each card by the builder's one call (the guide's Derived/Test/ToyasCard.lean, 'card_holds'). Laid BY PROGRAM, IN A SANDBOX (cutbox-door.mjs). By AI agents, Wed Nov 11 2026. No macro, syntax, notation, axiom, sorry.
-/
import Derived.Test.YtdioaohejoflcaaDoorRows
import GoSem.ClaimSeven
namespace Go.Proofs.YtdioaohejoflcaaDoor
namespace Rows

/-- THE TIED CARD OF 'broadsheetlaw5.SignNumbers'. -/
def signNumbersCard : Claim7 := { stood := { row := signNumbersRow, standIns := [], harness := (true, "c80046da0733660f56bb297de929453b1565cc8843dd6ff08fe73dd84c0a5b4a"), looks := false }, kinds := [], alts := [], laidByText := true, laidKinds := [.data], laidTests := true, laidLooks := .later }
def SignNumbersCardSaid : Prop := Claim7.holds Tryd.pinned (.plain (OpenSpec.ofChange signNumbersSpec)) signNumbersCard

/-- THE TIED CARD OF 'broadsheetlaw5.SignTells'. -/
def signTellsCard : Claim7 := { stood := { row := signTellsRow, standIns := [], harness := (true, "c80046da0733660f56bb297de929453b1565cc8843dd6ff08fe73dd84c0a5b4a"), looks := false }, kinds := [], alts := [], laidByText := true, laidKinds := [.data], laidTests := true, laidLooks := .later }
def SignTellsCardSaid : Prop := Claim7.holds Tryd.pinned (.plain (OpenSpec.ofChange signTellsSpec)) signTellsCard

/-- THE TIED CARD OF 'broadsheetlaw5.SignTurned'. -/
def signTurnedCard : Claim7 := { stood := { row := signTurnedRow, standIns := [], harness := (true, "c80046da0733660f56bb297de929453b1565cc8843dd6ff08fe73dd84c0a5b4a"), looks := false }, kinds := [], alts := [], laidByText := true, laidKinds := [.data], laidTests := true, laidLooks := .later }
def SignTurnedCardSaid : Prop := Claim7.holds Tryd.pinned (.plain (OpenSpec.ofChange signTurnedSpec)) signTurnedCard

/-- THE TIED CARD OF 'broadsheetlaw5.SignBack'. -/
def signBackCard : Claim7 := { stood := { row := signBackRow, standIns := [], harness := (true, "c80046da0733660f56bb297de929453b1565cc8843dd6ff08fe73dd84c0a5b4a"), looks := false }, kinds := [], alts := [], laidByText := true, laidKinds := [.data], laidTests := true, laidLooks := .later }
def SignBackCardSaid : Prop := Claim7.holds Tryd.pinned (.plain (OpenSpec.ofChange signBackSpec)) signBackCard

/-- THE TIED CARD OF 'broadsheetlaw5.SignKeys'. -/
def signKeysCard : Claim7 := { stood := { row := signKeysRow, standIns := [], harness := (true, "c80046da0733660f56bb297de929453b1565cc8843dd6ff08fe73dd84c0a5b4a"), looks := false }, kinds := [], alts := [], laidByText := true, laidKinds := [.data], laidTests := true, laidLooks := .later }
def SignKeysCardSaid : Prop := Claim7.holds Tryd.pinned (.plain (OpenSpec.ofChange signKeysSpec)) signKeysCard

/-- THE TIED CARD OF 'broadsheetlaw5.SignOthers'. -/
def signOthersCard : Claim7 := { stood := { row := signOthersRow, standIns := [], harness := (true, "c80046da0733660f56bb297de929453b1565cc8843dd6ff08fe73dd84c0a5b4a"), looks := false }, kinds := [], alts := [], laidByText := true, laidKinds := [.data], laidTests := true, laidLooks := .later }
def SignOthersCardSaid : Prop := Claim7.holds Tryd.pinned (.plain (OpenSpec.ofChange signOthersSpec)) signOthersCard

/-- THE SECOND FORM's CARD OF 'broadsheetlaw5.SignNumbers'. -/
def signNumbersUptoCard : Claim7 := { stood := { row := signNumbersUptoRow, standIns := [], harness := (true, "c80046da0733660f56bb297de929453b1565cc8843dd6ff08fe73dd84c0a5b4a"), looks := false }, kinds := [], alts := [], laidByText := true, laidKinds := [.data], laidTests := true, laidLooks := .later }
def SignNumbersUptoCardSaid : Prop := Claim7.holds Tryd.pinned (.plain (OpenSpec.upto signNumbersSpec)) signNumbersUptoCard

/-- THE SECOND FORM's CARD OF 'broadsheetlaw5.SignTells'. -/
def signTellsUptoCard : Claim7 := { stood := { row := signTellsUptoRow, standIns := [], harness := (true, "c80046da0733660f56bb297de929453b1565cc8843dd6ff08fe73dd84c0a5b4a"), looks := false }, kinds := [], alts := [], laidByText := true, laidKinds := [.data], laidTests := true, laidLooks := .later }
def SignTellsUptoCardSaid : Prop := Claim7.holds Tryd.pinned (.plain (OpenSpec.upto signTellsSpec)) signTellsUptoCard

/-- THE SECOND FORM's CARD OF 'broadsheetlaw5.SignTurned'. -/
def signTurnedUptoCard : Claim7 := { stood := { row := signTurnedUptoRow, standIns := [], harness := (true, "c80046da0733660f56bb297de929453b1565cc8843dd6ff08fe73dd84c0a5b4a"), looks := false }, kinds := [], alts := [], laidByText := true, laidKinds := [.data], laidTests := true, laidLooks := .later }
def SignTurnedUptoCardSaid : Prop := Claim7.holds Tryd.pinned (.plain (OpenSpec.upto signTurnedSpec)) signTurnedUptoCard

/-- THE SECOND FORM's CARD OF 'broadsheetlaw5.SignBack'. -/
def signBackUptoCard : Claim7 := { stood := { row := signBackUptoRow, standIns := [], harness := (true, "c80046da0733660f56bb297de929453b1565cc8843dd6ff08fe73dd84c0a5b4a"), looks := false }, kinds := [], alts := [], laidByText := true, laidKinds := [.data], laidTests := true, laidLooks := .later }
def SignBackUptoCardSaid : Prop := Claim7.holds Tryd.pinned (.plain (OpenSpec.upto signBackSpec)) signBackUptoCard

/-- THE SECOND FORM's CARD OF 'broadsheetlaw5.SignKeys'. -/
def signKeysUptoCard : Claim7 := { stood := { row := signKeysUptoRow, standIns := [], harness := (true, "c80046da0733660f56bb297de929453b1565cc8843dd6ff08fe73dd84c0a5b4a"), looks := false }, kinds := [], alts := [], laidByText := true, laidKinds := [.data], laidTests := true, laidLooks := .later }
def SignKeysUptoCardSaid : Prop := Claim7.holds Tryd.pinned (.plain (OpenSpec.upto signKeysSpec)) signKeysUptoCard

/-- THE SECOND FORM's CARD OF 'broadsheetlaw5.SignOthers'. -/
def signOthersUptoCard : Claim7 := { stood := { row := signOthersUptoRow, standIns := [], harness := (true, "c80046da0733660f56bb297de929453b1565cc8843dd6ff08fe73dd84c0a5b4a"), looks := false }, kinds := [], alts := [], laidByText := true, laidKinds := [.data], laidTests := true, laidLooks := .later }
def SignOthersUptoCardSaid : Prop := Claim7.holds Tryd.pinned (.plain (OpenSpec.upto signOthersSpec)) signOthersUptoCard
end Rows
end Go.Proofs.YtdioaohejoflcaaDoor
