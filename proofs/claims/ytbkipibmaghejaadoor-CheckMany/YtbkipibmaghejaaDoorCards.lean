/-
  DERIVED. GIVEN WITH THE SEED: THE CARDS: each row of YtbkipibmaghejaaDoorRows.lean that lists a variable, with what it lists TIED to the program's text (the seventh form; the later family's looks); each row that meets fmt, with fmt's text TOLD by the authors' own Lean function (tested against real Go, not proved from fmt's source: count such statements apart). THE CARD IS WHAT COUNTS. Prove the row's statement (the work); the ties are given (YtbkipibmaghejaaDoorTie.lean); close each card by the builder's one call (the guide's Derived/Test/ToyasCard.lean, 'card_holds'). Laid BY PROGRAM, IN A SANDBOX (cutbox-door.mjs). By AI agents, Wed Nov 11 2026. No macro, syntax, notation, axiom, sorry.
-/
import Derived.Test.YtbkipibmaghejaaDoorRows
import GoSem.ClaimSeven
namespace Go.Proofs.YtbkipibmaghejaaDoor
namespace Rows

/-- THE TIED CARD OF 'broadsheetlaw10.CheckBodies'. -/
def checkBodiesCard : Claim7 := { stood := { row := checkBodiesRow, standIns := [], harness := (true, "990bf594ec14a388946b9af5fe502bbad010af4c2205b09f211aa96a3c3ca6ad"), looks := false }, kinds := [], alts := [], laidByText := true, laidKinds := [.data], laidTests := true, laidLooks := .later }
def CheckBodiesCardSaid : Prop := Claim7.holds Tryd.pinned (.plain (OpenSpec.ofChange checkBodiesSpec)) checkBodiesCard

/-- THE TIED CARD OF 'broadsheetlaw10.CheckMany'. -/
def checkManyCard : Claim7 := { stood := { row := checkManyRow, standIns := [], harness := (true, "990bf594ec14a388946b9af5fe502bbad010af4c2205b09f211aa96a3c3ca6ad"), looks := false }, kinds := [], alts := [], laidByText := true, laidKinds := [.data], laidTests := true, laidLooks := .later }
def CheckManyCardSaid : Prop := Claim7.holds Tryd.pinned (.plain (OpenSpec.ofChange checkManySpec)) checkManyCard

/-- THE SECOND FORM's CARD OF 'broadsheetlaw10.CheckBodies'. -/
def checkBodiesUptoCard : Claim7 := { stood := { row := checkBodiesUptoRow, standIns := [], harness := (true, "990bf594ec14a388946b9af5fe502bbad010af4c2205b09f211aa96a3c3ca6ad"), looks := false }, kinds := [], alts := [], laidByText := true, laidKinds := [.data], laidTests := true, laidLooks := .later }
def CheckBodiesUptoCardSaid : Prop := Claim7.holds Tryd.pinned (.plain (OpenSpec.upto checkBodiesSpec)) checkBodiesUptoCard

/-- THE SECOND FORM's CARD OF 'broadsheetlaw10.CheckMany'. -/
def checkManyUptoCard : Claim7 := { stood := { row := checkManyUptoRow, standIns := [], harness := (true, "990bf594ec14a388946b9af5fe502bbad010af4c2205b09f211aa96a3c3ca6ad"), looks := false }, kinds := [], alts := [], laidByText := true, laidKinds := [.data], laidTests := true, laidLooks := .later }
def CheckManyUptoCardSaid : Prop := Claim7.holds Tryd.pinned (.plain (OpenSpec.upto checkManySpec)) checkManyUptoCard
end Rows
end Go.Proofs.YtbkipibmaghejaaDoor
