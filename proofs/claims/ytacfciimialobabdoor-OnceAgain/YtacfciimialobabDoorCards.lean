/-
  DERIVED. GIVEN WITH THE SEED: THE CARDS: each row of YtacfciimialobabDoorRows.lean that lists a variable, with what it lists TIED to the program's text (the seventh form; the later family's looks); each row that meets fmt, with fmt's text TOLD by the authors' own Lean function (tested against real Go, not proved from fmt's source: count such statements apart). THE CARD IS WHAT COUNTS. Prove the row's statement (the work); the ties are given (YtacfciimialobabDoorTie.lean); close each card by the builder's one call (the guide's Derived/Test/ToyasCard.lean, 'card_holds'). Laid BY PROGRAM, IN A SANDBOX (cutbox-door.mjs). By AI agents, Wed Nov 11 2026. No macro, syntax, notation, axiom, sorry.
-/
import Derived.Test.YtacfciimialobabDoorRows
import GoSem.ClaimSeven
namespace Go.Proofs.YtacfciimialobabDoor
namespace Rows

/-- THE TIED CARD OF 'broadsheetlaw4.OnceAgain'. -/
def onceAgainCard : Claim7 := { stood := { row := onceAgainRow, standIns := [], harness := (true, "c287123678327877410ccb2f6b887268db35f735e8eaed6f17e8ec71bdd05b4f"), looks := false }, kinds := [], alts := [], laidByText := true, laidKinds := [.data], laidTests := true, laidLooks := .later }
def OnceAgainCardSaid : Prop := Claim7.holds Tryd.pinned (.plain (OpenSpec.ofChange onceAgainSpec)) onceAgainCard

/-- THE SECOND FORM's CARD OF 'broadsheetlaw4.OnceAgain'. -/
def onceAgainUptoCard : Claim7 := { stood := { row := onceAgainUptoRow, standIns := [], harness := (true, "c287123678327877410ccb2f6b887268db35f735e8eaed6f17e8ec71bdd05b4f"), looks := false }, kinds := [], alts := [], laidByText := true, laidKinds := [.data], laidTests := true, laidLooks := .later }
def OnceAgainUptoCardSaid : Prop := Claim7.holds Tryd.pinned (.plain (OpenSpec.upto onceAgainSpec)) onceAgainUptoCard
end Rows
end Go.Proofs.YtacfciimialobabDoor
