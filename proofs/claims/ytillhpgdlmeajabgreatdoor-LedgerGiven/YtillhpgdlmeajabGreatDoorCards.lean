/-
  DERIVED. GIVEN WITH THE SEED: THE CARDS: each row of YtillhpgdlmeajabGreatDoorRows.lean that lists a variable, with what it lists TIED to the program's text (the seventh form; the later family's looks); each row that meets fmt, with fmt's text TOLD by the authors' own Lean function (tested against real Go, not proved from fmt's source: count such statements apart). THE CARD IS WHAT COUNTS. Prove the row's statement (the work); the ties are given (YtillhpgdlmeajabGreatDoorTie.lean); close each card by the builder's one call (the guide's Derived/Test/ToyasCard.lean, 'card_holds'). Laid BY PROGRAM, IN A SANDBOX (cutbox-door.mjs). By AI agents, Wed Nov 11 2026. No macro, syntax, notation, axiom, sorry.
-/
import Derived.Test.YtillhpgdlmeajabGreatDoorRows
import GoSem.ClaimSeven
namespace Go.Proofs.YtillhpgdlmeajabGreatDoor
namespace Rows

/-- THE TIED CARD OF 'broadsheetlaw15.LedgerDedups'. -/
def ledgerDedupsCard : Claim7 := { stood := { row := ledgerDedupsRow, standIns := [], harness := (true, "26af5ea88b07c19f285fd6d1aa5c1902424fc2e9abe69196b38c1a39cfbac65d"), looks := false }, kinds := [], alts := [], laidByText := true, laidKinds := [.data], laidTests := true, laidLooks := .later }
def LedgerDedupsCardSaid : Prop := Claim7.holds Tryz.pinned (.plain (OpenSpec.ofChange ledgerDedupsSpec)) ledgerDedupsCard

/-- THE TIED CARD OF 'broadsheetlaw15.LedgerFull'. -/
def ledgerFullCard : Claim7 := { stood := { row := ledgerFullRow, standIns := [], harness := (true, "26af5ea88b07c19f285fd6d1aa5c1902424fc2e9abe69196b38c1a39cfbac65d"), looks := false }, kinds := [], alts := [], laidByText := true, laidKinds := [.data], laidTests := true, laidLooks := .later }
def LedgerFullCardSaid : Prop := Claim7.holds Tryz.pinned (.plain (OpenSpec.ofChange ledgerFullSpec)) ledgerFullCard

/-- THE TIED CARD OF 'broadsheetlaw15.LedgerGiven'. -/
def ledgerGivenCard : Claim7 := { stood := { row := ledgerGivenRow, standIns := [], harness := (true, "26af5ea88b07c19f285fd6d1aa5c1902424fc2e9abe69196b38c1a39cfbac65d"), looks := false }, kinds := [], alts := [], laidByText := true, laidKinds := [.data], laidTests := true, laidLooks := .later }
def LedgerGivenCardSaid : Prop := Claim7.holds Tryz.pinned (.plain (OpenSpec.ofChange ledgerGivenSpec)) ledgerGivenCard

/-- THE SECOND FORM's CARD OF 'broadsheetlaw15.LedgerDedups'. -/
def ledgerDedupsUptoCard : Claim7 := { stood := { row := ledgerDedupsUptoRow, standIns := [], harness := (true, "26af5ea88b07c19f285fd6d1aa5c1902424fc2e9abe69196b38c1a39cfbac65d"), looks := false }, kinds := [], alts := [], laidByText := true, laidKinds := [.data], laidTests := true, laidLooks := .later }
def LedgerDedupsUptoCardSaid : Prop := Claim7.holds Tryz.pinned (.plain (OpenSpec.upto ledgerDedupsSpec)) ledgerDedupsUptoCard

/-- THE SECOND FORM's CARD OF 'broadsheetlaw15.LedgerFull'. -/
def ledgerFullUptoCard : Claim7 := { stood := { row := ledgerFullUptoRow, standIns := [], harness := (true, "26af5ea88b07c19f285fd6d1aa5c1902424fc2e9abe69196b38c1a39cfbac65d"), looks := false }, kinds := [], alts := [], laidByText := true, laidKinds := [.data], laidTests := true, laidLooks := .later }
def LedgerFullUptoCardSaid : Prop := Claim7.holds Tryz.pinned (.plain (OpenSpec.upto ledgerFullSpec)) ledgerFullUptoCard

/-- THE SECOND FORM's CARD OF 'broadsheetlaw15.LedgerGiven'. -/
def ledgerGivenUptoCard : Claim7 := { stood := { row := ledgerGivenUptoRow, standIns := [], harness := (true, "26af5ea88b07c19f285fd6d1aa5c1902424fc2e9abe69196b38c1a39cfbac65d"), looks := false }, kinds := [], alts := [], laidByText := true, laidKinds := [.data], laidTests := true, laidLooks := .later }
def LedgerGivenUptoCardSaid : Prop := Claim7.holds Tryz.pinned (.plain (OpenSpec.upto ledgerGivenSpec)) ledgerGivenUptoCard
end Rows
end Go.Proofs.YtillhpgdlmeajabGreatDoor
