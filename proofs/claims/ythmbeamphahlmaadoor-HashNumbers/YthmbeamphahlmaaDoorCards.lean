/-
  DERIVED. GIVEN WITH THE SEED: THE CARDS: each row of YthmbeamphahlmaaDoorRows.lean that lists a variable, with what it lists TIED to the program's text (the seventh form; the later family's looks); each row that meets fmt, with fmt's text TOLD by the authors' own Lean function (tested against real Go, not proved from fmt's source: count such statements apart). THE CARD IS WHAT COUNTS. Prove the row's statement (the work); the ties are given (YthmbeamphahlmaaDoorTie.lean); close each card by the builder's one call (the guide's Derived/Test/ToyasCard.lean, 'card_holds'). Laid BY PROGRAM, IN A SANDBOX (cutbox-door.mjs). By AI agents, Wed Nov 11 2026. No macro, syntax, notation, axiom, sorry.
-/
import Derived.Test.YthmbeamphahlmaaDoorRows
import GoSem.ClaimSeven
namespace Go.Proofs.YthmbeamphahlmaaDoor
namespace Rows

/-- THE TIED CARD OF 'broadsheetlaw2.HashNumbers'. -/
def hashNumbersCard : Claim7 := { stood := { row := hashNumbersRow, standIns := [], harness := (true, "503afad1ea5b901823835b965861c5cf123106966b068f8323a43d3836ab8629"), looks := false }, kinds := [], alts := [], laidByText := true, laidKinds := [.data], laidTests := true, laidLooks := .later }
def HashNumbersCardSaid : Prop := Claim7.holds Tryd.pinned (.plain (OpenSpec.ofChange hashNumbersSpec)) hashNumbersCard

/-- THE TIED CARD OF 'broadsheetlaw2.HashTells'. -/
def hashTellsCard : Claim7 := { stood := { row := hashTellsRow, standIns := [], harness := (true, "503afad1ea5b901823835b965861c5cf123106966b068f8323a43d3836ab8629"), looks := false }, kinds := [], alts := [], laidByText := true, laidKinds := [.data], laidTests := true, laidLooks := .later }
def HashTellsCardSaid : Prop := Claim7.holds Tryd.pinned (.plain (OpenSpec.ofChange hashTellsSpec)) hashTellsCard

/-- THE TIED CARD OF 'broadsheetlaw2.HashJoins'. -/
def hashJoinsCard : Claim7 := { stood := { row := hashJoinsRow, standIns := [], harness := (true, "503afad1ea5b901823835b965861c5cf123106966b068f8323a43d3836ab8629"), looks := false }, kinds := [], alts := [], laidByText := true, laidKinds := [.data], laidTests := true, laidLooks := .later }
def HashJoinsCardSaid : Prop := Claim7.holds Tryd.pinned (.plain (OpenSpec.ofChange hashJoinsSpec)) hashJoinsCard

/-- THE TIED CARD OF 'broadsheetlaw2.HashGiven'. -/
def hashGivenCard : Claim7 := { stood := { row := hashGivenRow, standIns := [], harness := (true, "503afad1ea5b901823835b965861c5cf123106966b068f8323a43d3836ab8629"), looks := false }, kinds := [], alts := [], laidByText := true, laidKinds := [.data], laidTests := true, laidLooks := .later }
def HashGivenCardSaid : Prop := Claim7.holds Tryd.pinned (.plain (OpenSpec.ofChange hashGivenSpec)) hashGivenCard

/-- THE TIED CARD OF 'broadsheetlaw2.HashLongs'. -/
def hashLongsCard : Claim7 := { stood := { row := hashLongsRow, standIns := [], harness := (true, "503afad1ea5b901823835b965861c5cf123106966b068f8323a43d3836ab8629"), looks := false }, kinds := [], alts := [], laidByText := true, laidKinds := [.data], laidTests := true, laidLooks := .later }
def HashLongsCardSaid : Prop := Claim7.holds Tryd.pinned (.plain (OpenSpec.ofChange hashLongsSpec)) hashLongsCard

/-- THE SECOND FORM's CARD OF 'broadsheetlaw2.HashNumbers'. -/
def hashNumbersUptoCard : Claim7 := { stood := { row := hashNumbersUptoRow, standIns := [], harness := (true, "503afad1ea5b901823835b965861c5cf123106966b068f8323a43d3836ab8629"), looks := false }, kinds := [], alts := [], laidByText := true, laidKinds := [.data], laidTests := true, laidLooks := .later }
def HashNumbersUptoCardSaid : Prop := Claim7.holds Tryd.pinned (.plain (OpenSpec.upto hashNumbersSpec)) hashNumbersUptoCard

/-- THE SECOND FORM's CARD OF 'broadsheetlaw2.HashTells'. -/
def hashTellsUptoCard : Claim7 := { stood := { row := hashTellsUptoRow, standIns := [], harness := (true, "503afad1ea5b901823835b965861c5cf123106966b068f8323a43d3836ab8629"), looks := false }, kinds := [], alts := [], laidByText := true, laidKinds := [.data], laidTests := true, laidLooks := .later }
def HashTellsUptoCardSaid : Prop := Claim7.holds Tryd.pinned (.plain (OpenSpec.upto hashTellsSpec)) hashTellsUptoCard

/-- THE SECOND FORM's CARD OF 'broadsheetlaw2.HashJoins'. -/
def hashJoinsUptoCard : Claim7 := { stood := { row := hashJoinsUptoRow, standIns := [], harness := (true, "503afad1ea5b901823835b965861c5cf123106966b068f8323a43d3836ab8629"), looks := false }, kinds := [], alts := [], laidByText := true, laidKinds := [.data], laidTests := true, laidLooks := .later }
def HashJoinsUptoCardSaid : Prop := Claim7.holds Tryd.pinned (.plain (OpenSpec.upto hashJoinsSpec)) hashJoinsUptoCard

/-- THE SECOND FORM's CARD OF 'broadsheetlaw2.HashGiven'. -/
def hashGivenUptoCard : Claim7 := { stood := { row := hashGivenUptoRow, standIns := [], harness := (true, "503afad1ea5b901823835b965861c5cf123106966b068f8323a43d3836ab8629"), looks := false }, kinds := [], alts := [], laidByText := true, laidKinds := [.data], laidTests := true, laidLooks := .later }
def HashGivenUptoCardSaid : Prop := Claim7.holds Tryd.pinned (.plain (OpenSpec.upto hashGivenSpec)) hashGivenUptoCard

/-- THE SECOND FORM's CARD OF 'broadsheetlaw2.HashLongs'. -/
def hashLongsUptoCard : Claim7 := { stood := { row := hashLongsUptoRow, standIns := [], harness := (true, "503afad1ea5b901823835b965861c5cf123106966b068f8323a43d3836ab8629"), looks := false }, kinds := [], alts := [], laidByText := true, laidKinds := [.data], laidTests := true, laidLooks := .later }
def HashLongsUptoCardSaid : Prop := Claim7.holds Tryd.pinned (.plain (OpenSpec.upto hashLongsSpec)) hashLongsUptoCard
end Rows
end Go.Proofs.YthmbeamphahlmaaDoor
