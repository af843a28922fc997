/-
  DERIVED. GIVEN WITH THE SEED: THE CARDS: each row of YtillhpgdlmeajaaGreatDoorRows.lean that lists a variable, with what it lists TIED to the program's text (the seventh form; the later family's looks); each row that meets fmt, with fmt's text TOLD by the authors' own Lean function (tested against real Go, not proved from fmt's source: count such statements apart). THE CARD IS WHAT COUNTS. Prove the row's statement (the work); the ties are given (YtillhpgdlmeajaaGreatDoorTie.lean); close each card by the builder's one call (the guide's Derived/Test/ToyasCard.lean, 'card_holds'). Laid BY PROGRAM, IN A SANDBOX (cutbox-door.mjs). By AI agents, Wed Nov 11 2026. No macro, syntax, notation, axiom, sorry.
-/
import Derived.Test.YtillhpgdlmeajaaGreatDoorRows
import GoSem.ClaimSeven
namespace Go.Proofs.YtillhpgdlmeajaaGreatDoor
namespace Rows

/-- THE TIED CARD OF 'broadsheetlaw15.LedgerNumbers'. -/
def ledgerNumbersCard : Claim7 := { stood := { row := ledgerNumbersRow, standIns := [], harness := (true, "3d2ef48f0ed20ebcaf38aaf926328aae59eb4fe999c2982b7973bf6d7f13f286"), looks := false }, kinds := [], alts := [], laidByText := true, laidKinds := [.data], laidTests := true, laidLooks := .later }
def LedgerNumbersCardSaid : Prop := Claim7.holds Tryz.pinned (.plain (OpenSpec.ofChange ledgerNumbersSpec)) ledgerNumbersCard

/-- THE TIED CARD OF 'broadsheetlaw15.LedgerPlays'. -/
def ledgerPlaysCard : Claim7 := { stood := { row := ledgerPlaysRow, standIns := [], harness := (true, "3d2ef48f0ed20ebcaf38aaf926328aae59eb4fe999c2982b7973bf6d7f13f286"), looks := false }, kinds := [], alts := [], laidByText := true, laidKinds := [.data], laidTests := true, laidLooks := .later }
def LedgerPlaysCardSaid : Prop := Claim7.holds Tryz.pinned (.plain (OpenSpec.ofChange ledgerPlaysSpec)) ledgerPlaysCard

/-- THE TIED CARD OF 'broadsheetlaw15.LedgerOpens'. -/
def ledgerOpensCard : Claim7 := { stood := { row := ledgerOpensRow, standIns := [], harness := (true, "3d2ef48f0ed20ebcaf38aaf926328aae59eb4fe999c2982b7973bf6d7f13f286"), looks := false }, kinds := [], alts := [], laidByText := true, laidKinds := [.data], laidTests := true, laidLooks := .later }
def LedgerOpensCardSaid : Prop := Claim7.holds Tryz.pinned (.plain (OpenSpec.ofChange ledgerOpensSpec)) ledgerOpensCard

/-- THE TIED CARD OF 'broadsheetlaw15.LedgerProves'. -/
def ledgerProvesCard : Claim7 := { stood := { row := ledgerProvesRow, standIns := [], harness := (true, "3d2ef48f0ed20ebcaf38aaf926328aae59eb4fe999c2982b7973bf6d7f13f286"), looks := false }, kinds := [], alts := [], laidByText := true, laidKinds := [.data], laidTests := true, laidLooks := .later }
def LedgerProvesCardSaid : Prop := Claim7.holds Tryz.pinned (.plain (OpenSpec.ofChange ledgerProvesSpec)) ledgerProvesCard

/-- THE TIED CARD OF 'broadsheetlaw15.LedgerCrashes'. -/
def ledgerCrashesCard : Claim7 := { stood := { row := ledgerCrashesRow, standIns := [], harness := (true, "3d2ef48f0ed20ebcaf38aaf926328aae59eb4fe999c2982b7973bf6d7f13f286"), looks := false }, kinds := [], alts := [], laidByText := true, laidKinds := [.data], laidTests := true, laidLooks := .later }
def LedgerCrashesCardSaid : Prop := Claim7.holds Tryz.pinned (.plain (OpenSpec.ofChange ledgerCrashesSpec)) ledgerCrashesCard

/-- THE TIED CARD OF 'broadsheetlaw15.LedgerPublishes'. -/
def ledgerPublishesCard : Claim7 := { stood := { row := ledgerPublishesRow, standIns := [], harness := (true, "3d2ef48f0ed20ebcaf38aaf926328aae59eb4fe999c2982b7973bf6d7f13f286"), looks := false }, kinds := [], alts := [], laidByText := true, laidKinds := [.data], laidTests := true, laidLooks := .later }
def LedgerPublishesCardSaid : Prop := Claim7.holds Tryz.pinned (.plain (OpenSpec.ofChange ledgerPublishesSpec)) ledgerPublishesCard

/-- THE SECOND FORM's CARD OF 'broadsheetlaw15.LedgerNumbers'. -/
def ledgerNumbersUptoCard : Claim7 := { stood := { row := ledgerNumbersUptoRow, standIns := [], harness := (true, "3d2ef48f0ed20ebcaf38aaf926328aae59eb4fe999c2982b7973bf6d7f13f286"), looks := false }, kinds := [], alts := [], laidByText := true, laidKinds := [.data], laidTests := true, laidLooks := .later }
def LedgerNumbersUptoCardSaid : Prop := Claim7.holds Tryz.pinned (.plain (OpenSpec.upto ledgerNumbersSpec)) ledgerNumbersUptoCard

/-- THE SECOND FORM's CARD OF 'broadsheetlaw15.LedgerPlays'. -/
def ledgerPlaysUptoCard : Claim7 := { stood := { row := ledgerPlaysUptoRow, standIns := [], harness := (true, "3d2ef48f0ed20ebcaf38aaf926328aae59eb4fe999c2982b7973bf6d7f13f286"), looks := false }, kinds := [], alts := [], laidByText := true, laidKinds := [.data], laidTests := true, laidLooks := .later }
def LedgerPlaysUptoCardSaid : Prop := Claim7.holds Tryz.pinned (.plain (OpenSpec.upto ledgerPlaysSpec)) ledgerPlaysUptoCard

/-- THE SECOND FORM's CARD OF 'broadsheetlaw15.LedgerOpens'. -/
def ledgerOpensUptoCard : Claim7 := { stood := { row := ledgerOpensUptoRow, standIns := [], harness := (true, "3d2ef48f0ed20ebcaf38aaf926328aae59eb4fe999c2982b7973bf6d7f13f286"), looks := false }, kinds := [], alts := [], laidByText := true, laidKinds := [.data], laidTests := true, laidLooks := .later }
def LedgerOpensUptoCardSaid : Prop := Claim7.holds Tryz.pinned (.plain (OpenSpec.upto ledgerOpensSpec)) ledgerOpensUptoCard

/-- THE SECOND FORM's CARD OF 'broadsheetlaw15.LedgerProves'. -/
def ledgerProvesUptoCard : Claim7 := { stood := { row := ledgerProvesUptoRow, standIns := [], harness := (true, "3d2ef48f0ed20ebcaf38aaf926328aae59eb4fe999c2982b7973bf6d7f13f286"), looks := false }, kinds := [], alts := [], laidByText := true, laidKinds := [.data], laidTests := true, laidLooks := .later }
def LedgerProvesUptoCardSaid : Prop := Claim7.holds Tryz.pinned (.plain (OpenSpec.upto ledgerProvesSpec)) ledgerProvesUptoCard

/-- THE SECOND FORM's CARD OF 'broadsheetlaw15.LedgerCrashes'. -/
def ledgerCrashesUptoCard : Claim7 := { stood := { row := ledgerCrashesUptoRow, standIns := [], harness := (true, "3d2ef48f0ed20ebcaf38aaf926328aae59eb4fe999c2982b7973bf6d7f13f286"), looks := false }, kinds := [], alts := [], laidByText := true, laidKinds := [.data], laidTests := true, laidLooks := .later }
def LedgerCrashesUptoCardSaid : Prop := Claim7.holds Tryz.pinned (.plain (OpenSpec.upto ledgerCrashesSpec)) ledgerCrashesUptoCard

/-- THE SECOND FORM's CARD OF 'broadsheetlaw15.LedgerPublishes'. -/
def ledgerPublishesUptoCard : Claim7 := { stood := { row := ledgerPublishesUptoRow, standIns := [], harness := (true, "3d2ef48f0ed20ebcaf38aaf926328aae59eb4fe999c2982b7973bf6d7f13f286"), looks := false }, kinds := [], alts := [], laidByText := true, laidKinds := [.data], laidTests := true, laidLooks := .later }
def LedgerPublishesUptoCardSaid : Prop := Claim7.holds Tryz.pinned (.plain (OpenSpec.upto ledgerPublishesSpec)) ledgerPublishesUptoCard
end Rows
end Go.Proofs.YtillhpgdlmeajaaGreatDoor
