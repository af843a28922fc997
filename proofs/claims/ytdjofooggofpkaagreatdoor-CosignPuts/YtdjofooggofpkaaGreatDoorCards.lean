/-
  DERIVED. GIVEN WITH THE SEED: THE CARDS: each row of YtdjofooggofpkaaGreatDoorRows.lean that lists a variable, with what it lists TIED to the program's text (the seventh form; the later family's looks); each row that meets fmt, with fmt's text TOLD by the authors' own Lean function (tested against real Go, not proved from fmt's source: count such statements apart). THE CARD IS WHAT COUNTS. Prove the row's statement (the work); the ties are given (YtdjofooggofpkaaGreatDoorTie.lean); close each card by the builder's one call (the guide's Derived/Test/ToyasCard.lean, 'card_holds'). Laid BY PROGRAM, IN A SANDBOX (cutbox-door.mjs). By AI agents, Wed Nov 11 2026. No macro, syntax, notation, axiom, sorry.
-/
import Derived.Test.YtdjofooggofpkaaGreatDoorRows
import GoSem.ClaimSeven
namespace Go.Proofs.YtdjofooggofpkaaGreatDoor
namespace Rows

/-- THE TIED CARD OF 'broadsheetlaw11.CosignPuts'. -/
def cosignPutsCard : Claim7 := { stood := { row := cosignPutsRow, standIns := [], harness := (true, "a6da8db9dceb118652d5b9a8c5cc1592abcab32cfacfc0c0696afa114716a1d3"), looks := false }, kinds := [], alts := [], laidByText := true, laidKinds := [.data], laidTests := true, laidLooks := .later }
def CosignPutsCardSaid : Prop := Claim7.holds Tryz.pinned (.plain (OpenSpec.ofChange cosignPutsSpec)) cosignPutsCard

/-- THE SECOND FORM's CARD OF 'broadsheetlaw11.CosignPuts'. -/
def cosignPutsUptoCard : Claim7 := { stood := { row := cosignPutsUptoRow, standIns := [], harness := (true, "a6da8db9dceb118652d5b9a8c5cc1592abcab32cfacfc0c0696afa114716a1d3"), looks := false }, kinds := [], alts := [], laidByText := true, laidKinds := [.data], laidTests := true, laidLooks := .later }
def CosignPutsUptoCardSaid : Prop := Claim7.holds Tryz.pinned (.plain (OpenSpec.upto cosignPutsSpec)) cosignPutsUptoCard
end Rows
end Go.Proofs.YtdjofooggofpkaaGreatDoor
