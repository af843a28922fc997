/-
  DERIVED. GIVEN WITH THE SEED: THE CARDS: each row of YtphhofgjnlfjmaaDoorRows.lean that lists a variable, with what it lists TIED to the program's text (the seventh form; the later family's looks); each row that meets fmt, with fmt's text TOLD by the authors' own Lean function (tested against real Go, not proved from fmt's source: count such statements apart). THE CARD IS WHAT COUNTS. Prove the row's statement (the work); the ties are given (YtphhofgjnlfjmaaDoorTie.lean); close each card by the builder's one call (the guide's Derived/Test/ToyasCard.lean, 'card_holds'). Laid BY PROGRAM, IN A SANDBOX (cutbox-door.mjs). By AI agents, Wed Nov 11 2026. No macro, syntax, notation, axiom, sorry.
-/
import Derived.Test.YtphhofgjnlfjmaaDoorRows
import GoSem.ClaimSeven
namespace Go.Proofs.YtphhofgjnlfjmaaDoor
namespace Rows

/-- THE TIED CARD OF 'broadsheetlaw8.ProofNumbers'. -/
def proofNumbersCard : Claim7 := { stood := { row := proofNumbersRow, standIns := [], harness := (true, "88aea287f5f9ec0dc319fb7653f8f2e0dffde966ec5c20066daf583fe8150f17"), looks := false }, kinds := [], alts := [], laidByText := true, laidKinds := [.data], laidTests := true, laidLooks := .later }
def ProofNumbersCardSaid : Prop := Claim7.holds Tryd.pinned (.plain (OpenSpec.ofChange proofNumbersSpec)) proofNumbersCard

/-- THE TIED CARD OF 'broadsheetlaw8.ProofTells'. -/
def proofTellsCard : Claim7 := { stood := { row := proofTellsRow, standIns := [], harness := (true, "88aea287f5f9ec0dc319fb7653f8f2e0dffde966ec5c20066daf583fe8150f17"), looks := false }, kinds := [], alts := [], laidByText := true, laidKinds := [.data], laidTests := true, laidLooks := .later }
def ProofTellsCardSaid : Prop := Claim7.holds Tryd.pinned (.plain (OpenSpec.ofChange proofTellsSpec)) proofTellsCard

/-- THE TIED CARD OF 'broadsheetlaw8.ProofLeads'. -/
def proofLeadsCard : Claim7 := { stood := { row := proofLeadsRow, standIns := [], harness := (true, "88aea287f5f9ec0dc319fb7653f8f2e0dffde966ec5c20066daf583fe8150f17"), looks := false }, kinds := [], alts := [], laidByText := true, laidKinds := [.data], laidTests := true, laidLooks := .later }
def ProofLeadsCardSaid : Prop := Claim7.holds Tryd.pinned (.plain (OpenSpec.ofChange proofLeadsSpec)) proofLeadsCard

/-- THE TIED CARD OF 'broadsheetlaw8.ProofGrows'. -/
def proofGrowsCard : Claim7 := { stood := { row := proofGrowsRow, standIns := [], harness := (true, "88aea287f5f9ec0dc319fb7653f8f2e0dffde966ec5c20066daf583fe8150f17"), looks := false }, kinds := [], alts := [], laidByText := true, laidKinds := [.data], laidTests := true, laidLooks := .later }
def ProofGrowsCardSaid : Prop := Claim7.holds Tryd.pinned (.plain (OpenSpec.ofChange proofGrowsSpec)) proofGrowsCard

/-- THE TIED CARD OF 'broadsheetlaw8.ProofLies'. -/
def proofLiesCard : Claim7 := { stood := { row := proofLiesRow, standIns := [], harness := (true, "88aea287f5f9ec0dc319fb7653f8f2e0dffde966ec5c20066daf583fe8150f17"), looks := false }, kinds := [], alts := [], laidByText := true, laidKinds := [.data], laidTests := true, laidLooks := .later }
def ProofLiesCardSaid : Prop := Claim7.holds Tryd.pinned (.plain (OpenSpec.ofChange proofLiesSpec)) proofLiesCard

/-- THE TIED CARD OF 'broadsheetlaw8.ProofChains'. -/
def proofChainsCard : Claim7 := { stood := { row := proofChainsRow, standIns := [], harness := (true, "88aea287f5f9ec0dc319fb7653f8f2e0dffde966ec5c20066daf583fe8150f17"), looks := false }, kinds := [], alts := [], laidByText := true, laidKinds := [.data], laidTests := true, laidLooks := .later }
def ProofChainsCardSaid : Prop := Claim7.holds Tryd.pinned (.plain (OpenSpec.ofChange proofChainsSpec)) proofChainsCard

/-- THE SECOND FORM's CARD OF 'broadsheetlaw8.ProofNumbers'. -/
def proofNumbersUptoCard : Claim7 := { stood := { row := proofNumbersUptoRow, standIns := [], harness := (true, "88aea287f5f9ec0dc319fb7653f8f2e0dffde966ec5c20066daf583fe8150f17"), looks := false }, kinds := [], alts := [], laidByText := true, laidKinds := [.data], laidTests := true, laidLooks := .later }
def ProofNumbersUptoCardSaid : Prop := Claim7.holds Tryd.pinned (.plain (OpenSpec.upto proofNumbersSpec)) proofNumbersUptoCard

/-- THE SECOND FORM's CARD OF 'broadsheetlaw8.ProofTells'. -/
def proofTellsUptoCard : Claim7 := { stood := { row := proofTellsUptoRow, standIns := [], harness := (true, "88aea287f5f9ec0dc319fb7653f8f2e0dffde966ec5c20066daf583fe8150f17"), looks := false }, kinds := [], alts := [], laidByText := true, laidKinds := [.data], laidTests := true, laidLooks := .later }
def ProofTellsUptoCardSaid : Prop := Claim7.holds Tryd.pinned (.plain (OpenSpec.upto proofTellsSpec)) proofTellsUptoCard

/-- THE SECOND FORM's CARD OF 'broadsheetlaw8.ProofLeads'. -/
def proofLeadsUptoCard : Claim7 := { stood := { row := proofLeadsUptoRow, standIns := [], harness := (true, "88aea287f5f9ec0dc319fb7653f8f2e0dffde966ec5c20066daf583fe8150f17"), looks := false }, kinds := [], alts := [], laidByText := true, laidKinds := [.data], laidTests := true, laidLooks := .later }
def ProofLeadsUptoCardSaid : Prop := Claim7.holds Tryd.pinned (.plain (OpenSpec.upto proofLeadsSpec)) proofLeadsUptoCard

/-- THE SECOND FORM's CARD OF 'broadsheetlaw8.ProofGrows'. -/
def proofGrowsUptoCard : Claim7 := { stood := { row := proofGrowsUptoRow, standIns := [], harness := (true, "88aea287f5f9ec0dc319fb7653f8f2e0dffde966ec5c20066daf583fe8150f17"), looks := false }, kinds := [], alts := [], laidByText := true, laidKinds := [.data], laidTests := true, laidLooks := .later }
def ProofGrowsUptoCardSaid : Prop := Claim7.holds Tryd.pinned (.plain (OpenSpec.upto proofGrowsSpec)) proofGrowsUptoCard

/-- THE SECOND FORM's CARD OF 'broadsheetlaw8.ProofLies'. -/
def proofLiesUptoCard : Claim7 := { stood := { row := proofLiesUptoRow, standIns := [], harness := (true, "88aea287f5f9ec0dc319fb7653f8f2e0dffde966ec5c20066daf583fe8150f17"), looks := false }, kinds := [], alts := [], laidByText := true, laidKinds := [.data], laidTests := true, laidLooks := .later }
def ProofLiesUptoCardSaid : Prop := Claim7.holds Tryd.pinned (.plain (OpenSpec.upto proofLiesSpec)) proofLiesUptoCard

/-- THE SECOND FORM's CARD OF 'broadsheetlaw8.ProofChains'. -/
def proofChainsUptoCard : Claim7 := { stood := { row := proofChainsUptoRow, standIns := [], harness := (true, "88aea287f5f9ec0dc319fb7653f8f2e0dffde966ec5c20066daf583fe8150f17"), looks := false }, kinds := [], alts := [], laidByText := true, laidKinds := [.data], laidTests := true, laidLooks := .later }
def ProofChainsUptoCardSaid : Prop := Claim7.holds Tryd.pinned (.plain (OpenSpec.upto proofChainsSpec)) proofChainsUptoCard
end Rows
end Go.Proofs.YtphhofgjnlfjmaaDoor
