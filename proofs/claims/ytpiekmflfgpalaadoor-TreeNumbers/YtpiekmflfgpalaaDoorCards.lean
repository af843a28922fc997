/-
  DERIVED. GIVEN WITH THE SEED: THE CARDS: each row of YtpiekmflfgpalaaDoorRows.lean that lists a variable, with what it lists TIED to the program's text (the seventh form; the later family's looks); each row that meets fmt, with fmt's text TOLD by the authors' own Lean function (tested against real Go, not proved from fmt's source: count such statements apart). THE CARD IS WHAT COUNTS. Prove the row's statement (the work); the ties are given (YtpiekmflfgpalaaDoorTie.lean); close each card by the builder's one call (the guide's Derived/Test/ToyasCard.lean, 'card_holds'). Laid BY PROGRAM, IN A SANDBOX (cutbox-door.mjs). By AI agents, Wed Nov 11 2026. No macro, syntax, notation, axiom, sorry.
-/
import Derived.Test.YtpiekmflfgpalaaDoorRows
import GoSem.ClaimSeven
namespace Go.Proofs.YtpiekmflfgpalaaDoor
namespace Rows

/-- THE TIED CARD OF 'broadsheetlaw6.TreeNumbers'. -/
def treeNumbersCard : Claim7 := { stood := { row := treeNumbersRow, standIns := [], harness := (true, "cede010a9fbf5050e372de7b0eb9fbdd7d9bc2d590fa3ac7d3a02a918580a664"), looks := false }, kinds := [], alts := [], laidByText := true, laidKinds := [.data], laidTests := true, laidLooks := .later }
def TreeNumbersCardSaid : Prop := Claim7.holds Tryd.pinned (.plain (OpenSpec.ofChange treeNumbersSpec)) treeNumbersCard

/-- THE TIED CARD OF 'broadsheetlaw6.TreeTells'. -/
def treeTellsCard : Claim7 := { stood := { row := treeTellsRow, standIns := [], harness := (true, "cede010a9fbf5050e372de7b0eb9fbdd7d9bc2d590fa3ac7d3a02a918580a664"), looks := false }, kinds := [], alts := [], laidByText := true, laidKinds := [.data], laidTests := true, laidLooks := .later }
def TreeTellsCardSaid : Prop := Claim7.holds Tryd.pinned (.plain (OpenSpec.ofChange treeTellsSpec)) treeTellsCard

/-- THE TIED CARD OF 'broadsheetlaw6.TreeHalves'. -/
def treeHalvesCard : Claim7 := { stood := { row := treeHalvesRow, standIns := [], harness := (true, "cede010a9fbf5050e372de7b0eb9fbdd7d9bc2d590fa3ac7d3a02a918580a664"), looks := false }, kinds := [], alts := [], laidByText := true, laidKinds := [.data], laidTests := true, laidLooks := .later }
def TreeHalvesCardSaid : Prop := Claim7.holds Tryd.pinned (.plain (OpenSpec.ofChange treeHalvesSpec)) treeHalvesCard

/-- THE TIED CARD OF 'broadsheetlaw6.TreeGiven'. -/
def treeGivenCard : Claim7 := { stood := { row := treeGivenRow, standIns := [], harness := (true, "cede010a9fbf5050e372de7b0eb9fbdd7d9bc2d590fa3ac7d3a02a918580a664"), looks := false }, kinds := [], alts := [], laidByText := true, laidKinds := [.data], laidTests := true, laidLooks := .later }
def TreeGivenCardSaid : Prop := Claim7.holds Tryd.pinned (.plain (OpenSpec.ofChange treeGivenSpec)) treeGivenCard

/-- THE TIED CARD OF 'broadsheetlaw6.TreeAppends'. -/
def treeAppendsCard : Claim7 := { stood := { row := treeAppendsRow, standIns := [], harness := (true, "cede010a9fbf5050e372de7b0eb9fbdd7d9bc2d590fa3ac7d3a02a918580a664"), looks := false }, kinds := [], alts := [], laidByText := true, laidKinds := [.data], laidTests := true, laidLooks := .later }
def TreeAppendsCardSaid : Prop := Claim7.holds Tryd.pinned (.plain (OpenSpec.ofChange treeAppendsSpec)) treeAppendsCard

/-- THE TIED CARD OF 'broadsheetlaw6.TreeRanges'. -/
def treeRangesCard : Claim7 := { stood := { row := treeRangesRow, standIns := [], harness := (true, "cede010a9fbf5050e372de7b0eb9fbdd7d9bc2d590fa3ac7d3a02a918580a664"), looks := false }, kinds := [], alts := [], laidByText := true, laidKinds := [.data], laidTests := true, laidLooks := .later }
def TreeRangesCardSaid : Prop := Claim7.holds Tryd.pinned (.plain (OpenSpec.ofChange treeRangesSpec)) treeRangesCard

/-- THE SECOND FORM's CARD OF 'broadsheetlaw6.TreeNumbers'. -/
def treeNumbersUptoCard : Claim7 := { stood := { row := treeNumbersUptoRow, standIns := [], harness := (true, "cede010a9fbf5050e372de7b0eb9fbdd7d9bc2d590fa3ac7d3a02a918580a664"), looks := false }, kinds := [], alts := [], laidByText := true, laidKinds := [.data], laidTests := true, laidLooks := .later }
def TreeNumbersUptoCardSaid : Prop := Claim7.holds Tryd.pinned (.plain (OpenSpec.upto treeNumbersSpec)) treeNumbersUptoCard

/-- THE SECOND FORM's CARD OF 'broadsheetlaw6.TreeTells'. -/
def treeTellsUptoCard : Claim7 := { stood := { row := treeTellsUptoRow, standIns := [], harness := (true, "cede010a9fbf5050e372de7b0eb9fbdd7d9bc2d590fa3ac7d3a02a918580a664"), looks := false }, kinds := [], alts := [], laidByText := true, laidKinds := [.data], laidTests := true, laidLooks := .later }
def TreeTellsUptoCardSaid : Prop := Claim7.holds Tryd.pinned (.plain (OpenSpec.upto treeTellsSpec)) treeTellsUptoCard

/-- THE SECOND FORM's CARD OF 'broadsheetlaw6.TreeHalves'. -/
def treeHalvesUptoCard : Claim7 := { stood := { row := treeHalvesUptoRow, standIns := [], harness := (true, "cede010a9fbf5050e372de7b0eb9fbdd7d9bc2d590fa3ac7d3a02a918580a664"), looks := false }, kinds := [], alts := [], laidByText := true, laidKinds := [.data], laidTests := true, laidLooks := .later }
def TreeHalvesUptoCardSaid : Prop := Claim7.holds Tryd.pinned (.plain (OpenSpec.upto treeHalvesSpec)) treeHalvesUptoCard

/-- THE SECOND FORM's CARD OF 'broadsheetlaw6.TreeGiven'. -/
def treeGivenUptoCard : Claim7 := { stood := { row := treeGivenUptoRow, standIns := [], harness := (true, "cede010a9fbf5050e372de7b0eb9fbdd7d9bc2d590fa3ac7d3a02a918580a664"), looks := false }, kinds := [], alts := [], laidByText := true, laidKinds := [.data], laidTests := true, laidLooks := .later }
def TreeGivenUptoCardSaid : Prop := Claim7.holds Tryd.pinned (.plain (OpenSpec.upto treeGivenSpec)) treeGivenUptoCard

/-- THE SECOND FORM's CARD OF 'broadsheetlaw6.TreeAppends'. -/
def treeAppendsUptoCard : Claim7 := { stood := { row := treeAppendsUptoRow, standIns := [], harness := (true, "cede010a9fbf5050e372de7b0eb9fbdd7d9bc2d590fa3ac7d3a02a918580a664"), looks := false }, kinds := [], alts := [], laidByText := true, laidKinds := [.data], laidTests := true, laidLooks := .later }
def TreeAppendsUptoCardSaid : Prop := Claim7.holds Tryd.pinned (.plain (OpenSpec.upto treeAppendsSpec)) treeAppendsUptoCard

/-- THE SECOND FORM's CARD OF 'broadsheetlaw6.TreeRanges'. -/
def treeRangesUptoCard : Claim7 := { stood := { row := treeRangesUptoRow, standIns := [], harness := (true, "cede010a9fbf5050e372de7b0eb9fbdd7d9bc2d590fa3ac7d3a02a918580a664"), looks := false }, kinds := [], alts := [], laidByText := true, laidKinds := [.data], laidTests := true, laidLooks := .later }
def TreeRangesUptoCardSaid : Prop := Claim7.holds Tryd.pinned (.plain (OpenSpec.upto treeRangesSpec)) treeRangesUptoCard
end Rows
end Go.Proofs.YtpiekmflfgpalaaDoor
