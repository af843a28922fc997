/-
  DERIVED. GIVEN WITH THE SEED: THE CARDS: each row of YtphhofgjnlfjmabDoorRows.lean that lists a variable, with what it lists TIED to the program's text (the seventh form; the later family's looks); each row that meets fmt, with fmt's text TOLD by the authors' own Lean function (tested against real Go, not proved from fmt's source: count such statements apart). THE CARD IS WHAT COUNTS. Prove the row's statement (the work); the ties are given (YtphhofgjnlfjmabDoorTie.lean); close each card by the builder's one call (the guide's Derived/Test/ToyasCard.lean, 'card_holds'). Laid BY PROGRAM, IN A SANDBOX (cutbox-door.mjs). By AI agents, Wed Nov 11 2026. No macro, syntax, notation, axiom, sorry.
-/
import Derived.Test.YtphhofgjnlfjmabDoorRows
import GoSem.ClaimSeven
namespace Go.Proofs.YtphhofgjnlfjmabDoor
namespace Rows

/-- THE TIED CARD OF 'broadsheetlaw8.ProofSizes'. -/
def proofSizesCard : Claim7 := { stood := { row := proofSizesRow, standIns := [], harness := (true, "a000939d09723d4354c70e8dde8c4af385b348887f6b5023f163f8506b48c2f3"), looks := false }, kinds := [], alts := [], laidByText := true, laidKinds := [.data], laidTests := true, laidLooks := .later }
def ProofSizesCardSaid : Prop := Claim7.holds Tryd.pinned (.plain (OpenSpec.ofChange proofSizesSpec)) proofSizesCard

/-- THE TIED CARD OF 'broadsheetlaw8.ProofEnds'. -/
def proofEndsCard : Claim7 := { stood := { row := proofEndsRow, standIns := [], harness := (true, "a000939d09723d4354c70e8dde8c4af385b348887f6b5023f163f8506b48c2f3"), looks := false }, kinds := [], alts := [], laidByText := true, laidKinds := [.data], laidTests := true, laidLooks := .later }
def ProofEndsCardSaid : Prop := Claim7.holds Tryd.pinned (.plain (OpenSpec.ofChange proofEndsSpec)) proofEndsCard

/-- THE TIED CARD OF 'broadsheetlaw8.ProofShared'. -/
def proofSharedCard : Claim7 := { stood := { row := proofSharedRow, standIns := [], harness := (true, "a000939d09723d4354c70e8dde8c4af385b348887f6b5023f163f8506b48c2f3"), looks := false }, kinds := [], alts := [], laidByText := true, laidKinds := [.data], laidTests := true, laidLooks := .later }
def ProofSharedCardSaid : Prop := Claim7.holds Tryd.pinned (.plain (OpenSpec.ofChange proofSharedSpec)) proofSharedCard

/-- THE SECOND FORM's CARD OF 'broadsheetlaw8.ProofSizes'. -/
def proofSizesUptoCard : Claim7 := { stood := { row := proofSizesUptoRow, standIns := [], harness := (true, "a000939d09723d4354c70e8dde8c4af385b348887f6b5023f163f8506b48c2f3"), looks := false }, kinds := [], alts := [], laidByText := true, laidKinds := [.data], laidTests := true, laidLooks := .later }
def ProofSizesUptoCardSaid : Prop := Claim7.holds Tryd.pinned (.plain (OpenSpec.upto proofSizesSpec)) proofSizesUptoCard

/-- THE SECOND FORM's CARD OF 'broadsheetlaw8.ProofEnds'. -/
def proofEndsUptoCard : Claim7 := { stood := { row := proofEndsUptoRow, standIns := [], harness := (true, "a000939d09723d4354c70e8dde8c4af385b348887f6b5023f163f8506b48c2f3"), looks := false }, kinds := [], alts := [], laidByText := true, laidKinds := [.data], laidTests := true, laidLooks := .later }
def ProofEndsUptoCardSaid : Prop := Claim7.holds Tryd.pinned (.plain (OpenSpec.upto proofEndsSpec)) proofEndsUptoCard

/-- THE SECOND FORM's CARD OF 'broadsheetlaw8.ProofShared'. -/
def proofSharedUptoCard : Claim7 := { stood := { row := proofSharedUptoRow, standIns := [], harness := (true, "a000939d09723d4354c70e8dde8c4af385b348887f6b5023f163f8506b48c2f3"), looks := false }, kinds := [], alts := [], laidByText := true, laidKinds := [.data], laidTests := true, laidLooks := .later }
def ProofSharedUptoCardSaid : Prop := Claim7.holds Tryd.pinned (.plain (OpenSpec.upto proofSharedSpec)) proofSharedUptoCard
end Rows
end Go.Proofs.YtphhofgjnlfjmabDoor
