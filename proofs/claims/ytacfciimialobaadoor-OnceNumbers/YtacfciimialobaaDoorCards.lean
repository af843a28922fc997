/-
  DERIVED. GIVEN WITH THE SEED: THE CARDS: each row of YtacfciimialobaaDoorRows.lean that lists a variable, with what it lists TIED to the program's text (the seventh form; the later family's looks); each row that meets fmt, with fmt's text TOLD by the authors' own Lean function (tested against real Go, not proved from fmt's source: count such statements apart). THE CARD IS WHAT COUNTS. Prove the row's statement (the work); the ties are given (YtacfciimialobaaDoorTie.lean); close each card by the builder's one call (the guide's Derived/Test/ToyasCard.lean, 'card_holds'). Laid BY PROGRAM, IN A SANDBOX (cutbox-door.mjs). By AI agents, Wed Nov 11 2026. No macro, syntax, notation, axiom, sorry.
-/
import Derived.Test.YtacfciimialobaaDoorRows
import GoSem.ClaimSeven
namespace Go.Proofs.YtacfciimialobaaDoor
namespace Rows

/-- THE TIED CARD OF 'broadsheetlaw4.OnceNumbers'. -/
def onceNumbersCard : Claim7 := { stood := { row := onceNumbersRow, standIns := [], harness := (true, "82984eee07177d7c2edef11cefe49c26a1f74c1c92dee4387fc4fea313f61101"), looks := false }, kinds := [], alts := [], laidByText := true, laidKinds := [.data], laidTests := true, laidLooks := .later }
def OnceNumbersCardSaid : Prop := Claim7.holds Tryd.pinned (.plain (OpenSpec.ofChange onceNumbersSpec)) onceNumbersCard

/-- THE TIED CARD OF 'broadsheetlaw4.OnceTells'. -/
def onceTellsCard : Claim7 := { stood := { row := onceTellsRow, standIns := [], harness := (true, "82984eee07177d7c2edef11cefe49c26a1f74c1c92dee4387fc4fea313f61101"), looks := false }, kinds := [], alts := [], laidByText := true, laidKinds := [.data], laidTests := true, laidLooks := .later }
def OnceTellsCardSaid : Prop := Claim7.holds Tryd.pinned (.plain (OpenSpec.ofChange onceTellsSpec)) onceTellsCard

/-- THE TIED CARD OF 'broadsheetlaw4.OnceRoots'. -/
def onceRootsCard : Claim7 := { stood := { row := onceRootsRow, standIns := [], harness := (true, "82984eee07177d7c2edef11cefe49c26a1f74c1c92dee4387fc4fea313f61101"), looks := false }, kinds := [], alts := [], laidByText := true, laidKinds := [.data], laidTests := true, laidLooks := .later }
def OnceRootsCardSaid : Prop := Claim7.holds Tryd.pinned (.plain (OpenSpec.ofChange onceRootsSpec)) onceRootsCard

/-- THE TIED CARD OF 'broadsheetlaw4.OnceBack'. -/
def onceBackCard : Claim7 := { stood := { row := onceBackRow, standIns := [], harness := (true, "82984eee07177d7c2edef11cefe49c26a1f74c1c92dee4387fc4fea313f61101"), looks := false }, kinds := [], alts := [], laidByText := true, laidKinds := [.data], laidTests := true, laidLooks := .later }
def OnceBackCardSaid : Prop := Claim7.holds Tryd.pinned (.plain (OpenSpec.ofChange onceBackSpec)) onceBackCard

/-- THE TIED CARD OF 'broadsheetlaw4.OnceSides'. -/
def onceSidesCard : Claim7 := { stood := { row := onceSidesRow, standIns := [], harness := (true, "82984eee07177d7c2edef11cefe49c26a1f74c1c92dee4387fc4fea313f61101"), looks := false }, kinds := [], alts := [], laidByText := true, laidKinds := [.data], laidTests := true, laidLooks := .later }
def OnceSidesCardSaid : Prop := Claim7.holds Tryd.pinned (.plain (OpenSpec.ofChange onceSidesSpec)) onceSidesCard

/-- THE TIED CARD OF 'broadsheetlaw4.OnceTurned'. -/
def onceTurnedCard : Claim7 := { stood := { row := onceTurnedRow, standIns := [], harness := (true, "82984eee07177d7c2edef11cefe49c26a1f74c1c92dee4387fc4fea313f61101"), looks := false }, kinds := [], alts := [], laidByText := true, laidKinds := [.data], laidTests := true, laidLooks := .later }
def OnceTurnedCardSaid : Prop := Claim7.holds Tryd.pinned (.plain (OpenSpec.ofChange onceTurnedSpec)) onceTurnedCard

/-- THE SECOND FORM's CARD OF 'broadsheetlaw4.OnceNumbers'. -/
def onceNumbersUptoCard : Claim7 := { stood := { row := onceNumbersUptoRow, standIns := [], harness := (true, "82984eee07177d7c2edef11cefe49c26a1f74c1c92dee4387fc4fea313f61101"), looks := false }, kinds := [], alts := [], laidByText := true, laidKinds := [.data], laidTests := true, laidLooks := .later }
def OnceNumbersUptoCardSaid : Prop := Claim7.holds Tryd.pinned (.plain (OpenSpec.upto onceNumbersSpec)) onceNumbersUptoCard

/-- THE SECOND FORM's CARD OF 'broadsheetlaw4.OnceTells'. -/
def onceTellsUptoCard : Claim7 := { stood := { row := onceTellsUptoRow, standIns := [], harness := (true, "82984eee07177d7c2edef11cefe49c26a1f74c1c92dee4387fc4fea313f61101"), looks := false }, kinds := [], alts := [], laidByText := true, laidKinds := [.data], laidTests := true, laidLooks := .later }
def OnceTellsUptoCardSaid : Prop := Claim7.holds Tryd.pinned (.plain (OpenSpec.upto onceTellsSpec)) onceTellsUptoCard

/-- THE SECOND FORM's CARD OF 'broadsheetlaw4.OnceRoots'. -/
def onceRootsUptoCard : Claim7 := { stood := { row := onceRootsUptoRow, standIns := [], harness := (true, "82984eee07177d7c2edef11cefe49c26a1f74c1c92dee4387fc4fea313f61101"), looks := false }, kinds := [], alts := [], laidByText := true, laidKinds := [.data], laidTests := true, laidLooks := .later }
def OnceRootsUptoCardSaid : Prop := Claim7.holds Tryd.pinned (.plain (OpenSpec.upto onceRootsSpec)) onceRootsUptoCard

/-- THE SECOND FORM's CARD OF 'broadsheetlaw4.OnceBack'. -/
def onceBackUptoCard : Claim7 := { stood := { row := onceBackUptoRow, standIns := [], harness := (true, "82984eee07177d7c2edef11cefe49c26a1f74c1c92dee4387fc4fea313f61101"), looks := false }, kinds := [], alts := [], laidByText := true, laidKinds := [.data], laidTests := true, laidLooks := .later }
def OnceBackUptoCardSaid : Prop := Claim7.holds Tryd.pinned (.plain (OpenSpec.upto onceBackSpec)) onceBackUptoCard

/-- THE SECOND FORM's CARD OF 'broadsheetlaw4.OnceSides'. -/
def onceSidesUptoCard : Claim7 := { stood := { row := onceSidesUptoRow, standIns := [], harness := (true, "82984eee07177d7c2edef11cefe49c26a1f74c1c92dee4387fc4fea313f61101"), looks := false }, kinds := [], alts := [], laidByText := true, laidKinds := [.data], laidTests := true, laidLooks := .later }
def OnceSidesUptoCardSaid : Prop := Claim7.holds Tryd.pinned (.plain (OpenSpec.upto onceSidesSpec)) onceSidesUptoCard

/-- THE SECOND FORM's CARD OF 'broadsheetlaw4.OnceTurned'. -/
def onceTurnedUptoCard : Claim7 := { stood := { row := onceTurnedUptoRow, standIns := [], harness := (true, "82984eee07177d7c2edef11cefe49c26a1f74c1c92dee4387fc4fea313f61101"), looks := false }, kinds := [], alts := [], laidByText := true, laidKinds := [.data], laidTests := true, laidLooks := .later }
def OnceTurnedUptoCardSaid : Prop := Claim7.holds Tryd.pinned (.plain (OpenSpec.upto onceTurnedSpec)) onceTurnedUptoCard
end Rows
end Go.Proofs.YtacfciimialobaaDoor
