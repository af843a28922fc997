/-
  DERIVED. GIVEN WITH THE SEED: THE CARDS: each row of YtdjofooggofpkaaDoorRows.lean that lists a variable, with what it lists TIED to the program's text (the seventh form; the later family's looks); each row that meets fmt, with fmt's text TOLD by the authors' own Lean function (tested against real Go, not proved from fmt's source: count such statements apart). THE CARD IS WHAT COUNTS. Prove the row's statement (the work); the ties are given (YtdjofooggofpkaaDoorTie.lean); close each card by the builder's one call (the guide's Derived/Test/ToyasCard.lean, 'card_holds'). Laid BY PROGRAM, IN A SANDBOX (cutbox-door.mjs). By AI agents, Wed Nov 11 2026. No macro, syntax, notation, axiom, sorry.
-/
import Derived.Test.YtdjofooggofpkaaDoorRows
import GoSem.ClaimSeven
namespace Go.Proofs.YtdjofooggofpkaaDoor
namespace Rows

/-- THE TIED CARD OF 'broadsheetlaw11.CosignNumbers'. -/
def cosignNumbersCard : Claim7 := { stood := { row := cosignNumbersRow, standIns := [], harness := (true, "0ef49e6b61ec9263c6d345d76114c654a115bb852cabd809b365f7ab3b993909"), looks := false }, kinds := [], alts := [], laidByText := true, laidKinds := [.data], laidTests := true, laidLooks := .later }
def CosignNumbersCardSaid : Prop := Claim7.holds Tryd.pinned (.plain (OpenSpec.ofChange cosignNumbersSpec)) cosignNumbersCard

/-- THE TIED CARD OF 'broadsheetlaw11.CosignTells'. -/
def cosignTellsCard : Claim7 := { stood := { row := cosignTellsRow, standIns := [], harness := (true, "0ef49e6b61ec9263c6d345d76114c654a115bb852cabd809b365f7ab3b993909"), looks := false }, kinds := [], alts := [], laidByText := true, laidKinds := [.data], laidTests := true, laidLooks := .later }
def CosignTellsCardSaid : Prop := Claim7.holds Tryd.pinned (.plain (OpenSpec.ofChange cosignTellsSpec)) cosignTellsCard

/-- THE TIED CARD OF 'broadsheetlaw11.CosignCounts'. -/
def cosignCountsCard : Claim7 := { stood := { row := cosignCountsRow, standIns := [], harness := (true, "0ef49e6b61ec9263c6d345d76114c654a115bb852cabd809b365f7ab3b993909"), looks := false }, kinds := [], alts := [], laidByText := true, laidKinds := [.data], laidTests := true, laidLooks := .later }
def CosignCountsCardSaid : Prop := Claim7.holds Tryd.pinned (.plain (OpenSpec.ofChange cosignCountsSpec)) cosignCountsCard

/-- THE TIED CARD OF 'broadsheetlaw11.CosignPolicies'. -/
def cosignPoliciesCard : Claim7 := { stood := { row := cosignPoliciesRow, standIns := [], harness := (true, "0ef49e6b61ec9263c6d345d76114c654a115bb852cabd809b365f7ab3b993909"), looks := false }, kinds := [], alts := [], laidByText := true, laidKinds := [.data], laidTests := true, laidLooks := .later }
def CosignPoliciesCardSaid : Prop := Claim7.holds Tryd.pinned (.plain (OpenSpec.ofChange cosignPoliciesSpec)) cosignPoliciesCard

/-- THE TIED CARD OF 'broadsheetlaw11.CosignApart'. -/
def cosignApartCard : Claim7 := { stood := { row := cosignApartRow, standIns := [], harness := (true, "0ef49e6b61ec9263c6d345d76114c654a115bb852cabd809b365f7ab3b993909"), looks := false }, kinds := [], alts := [], laidByText := true, laidKinds := [.data], laidTests := true, laidLooks := .later }
def CosignApartCardSaid : Prop := Claim7.holds Tryd.pinned (.plain (OpenSpec.ofChange cosignApartSpec)) cosignApartCard

/-- THE SECOND FORM's CARD OF 'broadsheetlaw11.CosignNumbers'. -/
def cosignNumbersUptoCard : Claim7 := { stood := { row := cosignNumbersUptoRow, standIns := [], harness := (true, "0ef49e6b61ec9263c6d345d76114c654a115bb852cabd809b365f7ab3b993909"), looks := false }, kinds := [], alts := [], laidByText := true, laidKinds := [.data], laidTests := true, laidLooks := .later }
def CosignNumbersUptoCardSaid : Prop := Claim7.holds Tryd.pinned (.plain (OpenSpec.upto cosignNumbersSpec)) cosignNumbersUptoCard

/-- THE SECOND FORM's CARD OF 'broadsheetlaw11.CosignTells'. -/
def cosignTellsUptoCard : Claim7 := { stood := { row := cosignTellsUptoRow, standIns := [], harness := (true, "0ef49e6b61ec9263c6d345d76114c654a115bb852cabd809b365f7ab3b993909"), looks := false }, kinds := [], alts := [], laidByText := true, laidKinds := [.data], laidTests := true, laidLooks := .later }
def CosignTellsUptoCardSaid : Prop := Claim7.holds Tryd.pinned (.plain (OpenSpec.upto cosignTellsSpec)) cosignTellsUptoCard

/-- THE SECOND FORM's CARD OF 'broadsheetlaw11.CosignCounts'. -/
def cosignCountsUptoCard : Claim7 := { stood := { row := cosignCountsUptoRow, standIns := [], harness := (true, "0ef49e6b61ec9263c6d345d76114c654a115bb852cabd809b365f7ab3b993909"), looks := false }, kinds := [], alts := [], laidByText := true, laidKinds := [.data], laidTests := true, laidLooks := .later }
def CosignCountsUptoCardSaid : Prop := Claim7.holds Tryd.pinned (.plain (OpenSpec.upto cosignCountsSpec)) cosignCountsUptoCard

/-- THE SECOND FORM's CARD OF 'broadsheetlaw11.CosignPolicies'. -/
def cosignPoliciesUptoCard : Claim7 := { stood := { row := cosignPoliciesUptoRow, standIns := [], harness := (true, "0ef49e6b61ec9263c6d345d76114c654a115bb852cabd809b365f7ab3b993909"), looks := false }, kinds := [], alts := [], laidByText := true, laidKinds := [.data], laidTests := true, laidLooks := .later }
def CosignPoliciesUptoCardSaid : Prop := Claim7.holds Tryd.pinned (.plain (OpenSpec.upto cosignPoliciesSpec)) cosignPoliciesUptoCard

/-- THE SECOND FORM's CARD OF 'broadsheetlaw11.CosignApart'. -/
def cosignApartUptoCard : Claim7 := { stood := { row := cosignApartUptoRow, standIns := [], harness := (true, "0ef49e6b61ec9263c6d345d76114c654a115bb852cabd809b365f7ab3b993909"), looks := false }, kinds := [], alts := [], laidByText := true, laidKinds := [.data], laidTests := true, laidLooks := .later }
def CosignApartUptoCardSaid : Prop := Claim7.holds Tryd.pinned (.plain (OpenSpec.upto cosignApartSpec)) cosignApartUptoCard
end Rows
end Go.Proofs.YtdjofooggofpkaaDoor
