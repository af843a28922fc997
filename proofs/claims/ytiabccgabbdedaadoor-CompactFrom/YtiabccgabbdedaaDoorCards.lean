/-
  DERIVED. GIVEN WITH THE SEED: THE CARDS: each row of YtiabccgabbdedaaDoorRows.lean that lists a variable, with what it lists TIED to the program's text (the seventh form; the later family's looks); each row that meets fmt, with fmt's text TOLD by the authors' own Lean function (tested against real Go, not proved from fmt's source: count such statements apart). THE CARD IS WHAT COUNTS. Prove the row's statement (the work); the ties are given (YtiabccgabbdedaaDoorTie.lean); close each card by the builder's one call (the guide's Derived/Test/ToyasCard.lean, 'card_holds'). Laid BY PROGRAM, IN A SANDBOX (cutbox-door.mjs). By AI agents, Wed Nov 11 2026. No macro, syntax, notation, axiom, sorry.
-/
import Derived.Test.YtiabccgabbdedaaDoorRows
import GoSem.ClaimSeven
namespace Go.Proofs.YtiabccgabbdedaaDoor
namespace Rows

/-- THE TIED CARD OF 'broadsheetlaw7.CompactNumbers'. -/
def compactNumbersCard : Claim7 := { stood := { row := compactNumbersRow, standIns := [], harness := (true, "1d8ce61bd5f269f964dbd672937d9cd3985224947e05fd1fdc0dc081219b2fa5"), looks := false }, kinds := [], alts := [], laidByText := true, laidKinds := [.data, .data, .data], laidTests := true, laidLooks := .later }
def CompactNumbersCardSaid : Prop := Claim7.holds Tryd.pinned (.plain (OpenSpec.ofChange compactNumbersSpec)) compactNumbersCard

/-- THE TIED CARD OF 'broadsheetlaw7.CompactGrows'. -/
def compactGrowsCard : Claim7 := { stood := { row := compactGrowsRow, standIns := [], harness := (true, "1d8ce61bd5f269f964dbd672937d9cd3985224947e05fd1fdc0dc081219b2fa5"), looks := false }, kinds := [], alts := [], laidByText := true, laidKinds := [.data, .data, .data], laidTests := true, laidLooks := .later }
def CompactGrowsCardSaid : Prop := Claim7.holds Tryd.pinned (.plain (OpenSpec.ofChange compactGrowsSpec)) compactGrowsCard

/-- THE TIED CARD OF 'broadsheetlaw7.CompactFrom'. -/
def compactFromCard : Claim7 := { stood := { row := compactFromRow, standIns := [], harness := (true, "1d8ce61bd5f269f964dbd672937d9cd3985224947e05fd1fdc0dc081219b2fa5"), looks := false }, kinds := [], alts := [], laidByText := true, laidKinds := [.data, .data, .data], laidTests := true, laidLooks := .later }
def CompactFromCardSaid : Prop := Claim7.holds Tryd.pinned (.plain (OpenSpec.ofChange compactFromSpec)) compactFromCard

/-- THE TIED CARD OF 'broadsheetlaw7.CompactRefused'. -/
def compactRefusedCard : Claim7 := { stood := { row := compactRefusedRow, standIns := [], harness := (true, "1d8ce61bd5f269f964dbd672937d9cd3985224947e05fd1fdc0dc081219b2fa5"), looks := false }, kinds := [], alts := [], laidByText := true, laidKinds := [.data, .data, .data], laidTests := true, laidLooks := .later }
def CompactRefusedCardSaid : Prop := Claim7.holds Tryd.pinned (.plain (OpenSpec.ofChange compactRefusedSpec)) compactRefusedCard

/-- THE TIED CARD OF 'broadsheetlaw7.CompactGiven'. -/
def compactGivenCard : Claim7 := { stood := { row := compactGivenRow, standIns := [], harness := (true, "1d8ce61bd5f269f964dbd672937d9cd3985224947e05fd1fdc0dc081219b2fa5"), looks := false }, kinds := [], alts := [], laidByText := true, laidKinds := [.data, .data, .data], laidTests := true, laidLooks := .later }
def CompactGivenCardSaid : Prop := Claim7.holds Tryd.pinned (.plain (OpenSpec.ofChange compactGivenSpec)) compactGivenCard

/-- THE TIED CARD OF 'broadsheetlaw7.CompactBits'. -/
def compactBitsCard : Claim7 := { stood := { row := compactBitsRow, standIns := [], harness := (true, "1d8ce61bd5f269f964dbd672937d9cd3985224947e05fd1fdc0dc081219b2fa5"), looks := false }, kinds := [], alts := [], laidByText := true, laidKinds := [.data, .data, .data], laidTests := true, laidLooks := .later }
def CompactBitsCardSaid : Prop := Claim7.holds Tryd.pinned (.plain (OpenSpec.ofChange compactBitsSpec)) compactBitsCard

/-- THE SECOND FORM's CARD OF 'broadsheetlaw7.CompactNumbers'. -/
def compactNumbersUptoCard : Claim7 := { stood := { row := compactNumbersUptoRow, standIns := [], harness := (true, "1d8ce61bd5f269f964dbd672937d9cd3985224947e05fd1fdc0dc081219b2fa5"), looks := false }, kinds := [], alts := [], laidByText := true, laidKinds := [.data, .data, .data], laidTests := true, laidLooks := .later }
def CompactNumbersUptoCardSaid : Prop := Claim7.holds Tryd.pinned (.plain (OpenSpec.upto compactNumbersSpec)) compactNumbersUptoCard

/-- THE SECOND FORM's CARD OF 'broadsheetlaw7.CompactGrows'. -/
def compactGrowsUptoCard : Claim7 := { stood := { row := compactGrowsUptoRow, standIns := [], harness := (true, "1d8ce61bd5f269f964dbd672937d9cd3985224947e05fd1fdc0dc081219b2fa5"), looks := false }, kinds := [], alts := [], laidByText := true, laidKinds := [.data, .data, .data], laidTests := true, laidLooks := .later }
def CompactGrowsUptoCardSaid : Prop := Claim7.holds Tryd.pinned (.plain (OpenSpec.upto compactGrowsSpec)) compactGrowsUptoCard

/-- THE SECOND FORM's CARD OF 'broadsheetlaw7.CompactFrom'. -/
def compactFromUptoCard : Claim7 := { stood := { row := compactFromUptoRow, standIns := [], harness := (true, "1d8ce61bd5f269f964dbd672937d9cd3985224947e05fd1fdc0dc081219b2fa5"), looks := false }, kinds := [], alts := [], laidByText := true, laidKinds := [.data, .data, .data], laidTests := true, laidLooks := .later }
def CompactFromUptoCardSaid : Prop := Claim7.holds Tryd.pinned (.plain (OpenSpec.upto compactFromSpec)) compactFromUptoCard

/-- THE SECOND FORM's CARD OF 'broadsheetlaw7.CompactRefused'. -/
def compactRefusedUptoCard : Claim7 := { stood := { row := compactRefusedUptoRow, standIns := [], harness := (true, "1d8ce61bd5f269f964dbd672937d9cd3985224947e05fd1fdc0dc081219b2fa5"), looks := false }, kinds := [], alts := [], laidByText := true, laidKinds := [.data, .data, .data], laidTests := true, laidLooks := .later }
def CompactRefusedUptoCardSaid : Prop := Claim7.holds Tryd.pinned (.plain (OpenSpec.upto compactRefusedSpec)) compactRefusedUptoCard

/-- THE SECOND FORM's CARD OF 'broadsheetlaw7.CompactGiven'. -/
def compactGivenUptoCard : Claim7 := { stood := { row := compactGivenUptoRow, standIns := [], harness := (true, "1d8ce61bd5f269f964dbd672937d9cd3985224947e05fd1fdc0dc081219b2fa5"), looks := false }, kinds := [], alts := [], laidByText := true, laidKinds := [.data, .data, .data], laidTests := true, laidLooks := .later }
def CompactGivenUptoCardSaid : Prop := Claim7.holds Tryd.pinned (.plain (OpenSpec.upto compactGivenSpec)) compactGivenUptoCard

/-- THE SECOND FORM's CARD OF 'broadsheetlaw7.CompactBits'. -/
def compactBitsUptoCard : Claim7 := { stood := { row := compactBitsUptoRow, standIns := [], harness := (true, "1d8ce61bd5f269f964dbd672937d9cd3985224947e05fd1fdc0dc081219b2fa5"), looks := false }, kinds := [], alts := [], laidByText := true, laidKinds := [.data, .data, .data], laidTests := true, laidLooks := .later }
def CompactBitsUptoCardSaid : Prop := Claim7.holds Tryd.pinned (.plain (OpenSpec.upto compactBitsSpec)) compactBitsUptoCard
end Rows
end Go.Proofs.YtiabccgabbdedaaDoor
