/-
  NARROWER THAN 'FOR EVERY INPUT', by the rows' own cells (each row's printed sentence says how): TreeNumbers: laid · TreeTells: laid · TreeHalves: laid · TreeGiven: laid · TreeAppends: laid · TreeRanges: laid.
  DERIVED. THE GIVEN ROWS OF THIS SEAT. 6 by the template 'for every input the law returns true; each argument reads behind the call as it read before'; 0 by the template 'total and deterministic' (their statements: YtpiekmflfgpalaaDoorTotals.lean).
  GIVEN WITH THE SEED: the statements are not yours to turn. If you find one false, say at which input.
  Laid BY PROGRAM, IN A SANDBOX (cutbox-rows.mjs): the forced cells as the released guide's own fill.sh prints them over the translation a6312092a7c35694… (all of the seat's roots in one cut). By AI agents, Wed Nov 11 2026. No macro, syntax, notation, axiom, sorry.
-/
import Derived.Test.YtpiekmflfgpalaaDoorChecked
import GoSem.Claim
import GoSem.ClaimJoined
import GoSem.ClaimMapViews
import Derived.JoinedTies
import Derived.KernelRfl
namespace Go.Proofs.YtpiekmflfgpalaaDoor
/- THE CELL 'sum', in the pinned program and in every row, IS THE sha256 OF THE DUMP (.gsa) THAT YtpiekmflfgpalaaDoorProg.lean LOADS. Nothing in Lean hashes anything: it is a label: what it is worth is what the hold of that sum in a sandbox is worth. -/
noncomputable def Tryd.pinned : Pinned := { name := "ytpiekmflfgpalaadoor", sum := "a6312092a7c356946e3aca61b0aedf647a594d0481a4cd7134761e5531c8dd78", checked := Tryd.checked }
namespace Rows
def none {H : Type} : Left H := { results := [], args := [] }

/- WHAT THE LISTED PACKAGE-LEVEL VARIABLES READ AS WHEN THE CALL BEGINS. Each datum BY PROGRAM (the guide's laid-datum.mjs) off the statement by which the dump's own 'gosem.cut.vars' lays the variable. In a bare row this is a premise. The card (YtpiekmflfgpalaaDoorCards.lean) ties it to the program's text. -/
def laid_broadsheet_hash_roundWords {H : Type} : DataW H := .agg [.lit (.int .u32 1116352408), .lit (.int .u32 1899447441), .lit (.int .u32 3049323471), .lit (.int .u32 3921009573), .lit (.int .u32 961987163), .lit (.int .u32 1508970993), .lit (.int .u32 2453635748), .lit (.int .u32 2870763221), .lit (.int .u32 3624381080), .lit (.int .u32 310598401), .lit (.int .u32 607225278), .lit (.int .u32 1426881987), .lit (.int .u32 1925078388), .lit (.int .u32 2162078206), .lit (.int .u32 2614888103), .lit (.int .u32 3248222580), .lit (.int .u32 3835390401), .lit (.int .u32 4022224774), .lit (.int .u32 264347078), .lit (.int .u32 604807628), .lit (.int .u32 770255983), .lit (.int .u32 1249150122), .lit (.int .u32 1555081692), .lit (.int .u32 1996064986), .lit (.int .u32 2554220882), .lit (.int .u32 2821834349), .lit (.int .u32 2952996808), .lit (.int .u32 3210313671), .lit (.int .u32 3336571891), .lit (.int .u32 3584528711), .lit (.int .u32 113926993), .lit (.int .u32 338241895), .lit (.int .u32 666307205), .lit (.int .u32 773529912), .lit (.int .u32 1294757372), .lit (.int .u32 1396182291), .lit (.int .u32 1695183700), .lit (.int .u32 1986661051), .lit (.int .u32 2177026350), .lit (.int .u32 2456956037), .lit (.int .u32 2730485921), .lit (.int .u32 2820302411), .lit (.int .u32 3259730800), .lit (.int .u32 3345764771), .lit (.int .u32 3516065817), .lit (.int .u32 3600352804), .lit (.int .u32 4094571909), .lit (.int .u32 275423344), .lit (.int .u32 430227734), .lit (.int .u32 506948616), .lit (.int .u32 659060556), .lit (.int .u32 883997877), .lit (.int .u32 958139571), .lit (.int .u32 1322822218), .lit (.int .u32 1537002063), .lit (.int .u32 1747873779), .lit (.int .u32 1955562222), .lit (.int .u32 2024104815), .lit (.int .u32 2227730452), .lit (.int .u32 2361852424), .lit (.int .u32 2428436474), .lit (.int .u32 2756734187), .lit (.int .u32 3204031479), .lit (.int .u32 3329325298)]

/-- 'broadsheetlaw6.TreeNumbers': WHATEVER THE INPUT: true; the input reads as it did. -/
def treeNumbersSpec : ChangeSpec := { name := "treeNumbers", fn := fun _ => fun
  | [] => { results := [.lit (.bool true)], args := [] }
  | _ => none }
def treeNumbersRow : OpenClaim := { program := "ytpiekmflfgpalaadoor", sum := "a6312092a7c356946e3aca61b0aedf647a594d0481a4cd7134761e5531c8dd78", func := "broadsheet/broadsheetlaw6.TreeNumbers", spec := "treeNumbers", recurses := true, named := ["broadsheet/hash.roundWords"], apart := false, laid := [("broadsheet/hash.roundWords", laid_broadsheet_hash_roundWords)] }
def TreeNumbersSaid : Prop := treeNumbersRow.holds Tryd.pinned (OpenSpec.ofChange treeNumbersSpec)

/-- ITS FALSE NEIGHBOUR: 'it returns false'. Refute it at one input. -/
def treeNumbersWrong : ChangeSpec := { name := "treeNumbers", fn := fun _ => fun
  | [] => { results := [.lit (.bool false)], args := [] }
  | _ => none }
def TreeNumbersWrongFalsely : Prop := treeNumbersRow.holds Tryd.pinned (OpenSpec.ofChange treeNumbersWrong)

/-- 'broadsheetlaw6.TreeTells': WHATEVER THE INPUT: true; the input reads as it did. -/
def treeTellsSpec : ChangeSpec := { name := "treeTells", fn := fun _ => fun
  | [d1, d2, d3, d4, d5] => { results := [.lit (.bool true)], args := [d1, d2, d3, d4, d5] }
  | _ => none }
def treeTellsRow : OpenClaim := { program := "ytpiekmflfgpalaadoor", sum := "a6312092a7c356946e3aca61b0aedf647a594d0481a4cd7134761e5531c8dd78", func := "broadsheet/broadsheetlaw6.TreeTells", spec := "treeTells", recurses := true, named := ["broadsheet/hash.roundWords"], apart := false, laid := [("broadsheet/hash.roundWords", laid_broadsheet_hash_roundWords)] }
def TreeTellsSaid : Prop := treeTellsRow.holds Tryd.pinned (OpenSpec.ofChange treeTellsSpec)

/-- ITS FALSE NEIGHBOUR: 'it returns false'. Refute it at one input. -/
def treeTellsWrong : ChangeSpec := { name := "treeTells", fn := fun _ => fun
  | [d1, d2, d3, d4, d5] => { results := [.lit (.bool false)], args := [d1, d2, d3, d4, d5] }
  | _ => none }
def TreeTellsWrongFalsely : Prop := treeTellsRow.holds Tryd.pinned (OpenSpec.ofChange treeTellsWrong)

/-- 'broadsheetlaw6.TreeHalves': WHATEVER THE INPUT: true; the input reads as it did. -/
def treeHalvesSpec : ChangeSpec := { name := "treeHalves", fn := fun _ => fun
  | [d] => { results := [.lit (.bool true)], args := [d] }
  | _ => none }
def treeHalvesRow : OpenClaim := { program := "ytpiekmflfgpalaadoor", sum := "a6312092a7c356946e3aca61b0aedf647a594d0481a4cd7134761e5531c8dd78", func := "broadsheet/broadsheetlaw6.TreeHalves", spec := "treeHalves", recurses := true, named := ["broadsheet/hash.roundWords"], apart := false, laid := [("broadsheet/hash.roundWords", laid_broadsheet_hash_roundWords)] }
def TreeHalvesSaid : Prop := treeHalvesRow.holds Tryd.pinned (OpenSpec.ofChange treeHalvesSpec)

/-- ITS FALSE NEIGHBOUR: 'it returns false'. Refute it at one input. -/
def treeHalvesWrong : ChangeSpec := { name := "treeHalves", fn := fun _ => fun
  | [d] => { results := [.lit (.bool false)], args := [d] }
  | _ => none }
def TreeHalvesWrongFalsely : Prop := treeHalvesRow.holds Tryd.pinned (OpenSpec.ofChange treeHalvesWrong)

/-- 'broadsheetlaw6.TreeGiven': WHATEVER THE INPUT: true; the input reads as it did. -/
def treeGivenSpec : ChangeSpec := { name := "treeGiven", fn := fun _ => fun
  | [d] => { results := [.lit (.bool true)], args := [d] }
  | _ => none }
def treeGivenRow : OpenClaim := { program := "ytpiekmflfgpalaadoor", sum := "a6312092a7c356946e3aca61b0aedf647a594d0481a4cd7134761e5531c8dd78", func := "broadsheet/broadsheetlaw6.TreeGiven", spec := "treeGiven", recurses := true, named := ["broadsheet/hash.roundWords"], apart := false, laid := [("broadsheet/hash.roundWords", laid_broadsheet_hash_roundWords)] }
def TreeGivenSaid : Prop := treeGivenRow.holds Tryd.pinned (OpenSpec.ofChange treeGivenSpec)

/-- ITS FALSE NEIGHBOUR: 'it returns false'. Refute it at one input. -/
def treeGivenWrong : ChangeSpec := { name := "treeGiven", fn := fun _ => fun
  | [d] => { results := [.lit (.bool false)], args := [d] }
  | _ => none }
def TreeGivenWrongFalsely : Prop := treeGivenRow.holds Tryd.pinned (OpenSpec.ofChange treeGivenWrong)

/-- 'broadsheetlaw6.TreeAppends': WHATEVER THE INPUT: true; the input reads as it did. -/
def treeAppendsSpec : ChangeSpec := { name := "treeAppends", fn := fun _ => fun
  | [d1, d2] => { results := [.lit (.bool true)], args := [d1, d2] }
  | _ => none }
def treeAppendsRow : OpenClaim := { program := "ytpiekmflfgpalaadoor", sum := "a6312092a7c356946e3aca61b0aedf647a594d0481a4cd7134761e5531c8dd78", func := "broadsheet/broadsheetlaw6.TreeAppends", spec := "treeAppends", recurses := true, named := ["broadsheet/hash.roundWords"], apart := false, laid := [("broadsheet/hash.roundWords", laid_broadsheet_hash_roundWords)] }
def TreeAppendsSaid : Prop := treeAppendsRow.holds Tryd.pinned (OpenSpec.ofChange treeAppendsSpec)

/-- ITS FALSE NEIGHBOUR: 'it returns false'. Refute it at one input. -/
def treeAppendsWrong : ChangeSpec := { name := "treeAppends", fn := fun _ => fun
  | [d1, d2] => { results := [.lit (.bool false)], args := [d1, d2] }
  | _ => none }
def TreeAppendsWrongFalsely : Prop := treeAppendsRow.holds Tryd.pinned (OpenSpec.ofChange treeAppendsWrong)

/-- 'broadsheetlaw6.TreeRanges': WHATEVER THE INPUT: true; the input reads as it did. -/
def treeRangesSpec : ChangeSpec := { name := "treeRanges", fn := fun _ => fun
  | [d1, d2, d3] => { results := [.lit (.bool true)], args := [d1, d2, d3] }
  | _ => none }
def treeRangesRow : OpenClaim := { program := "ytpiekmflfgpalaadoor", sum := "a6312092a7c356946e3aca61b0aedf647a594d0481a4cd7134761e5531c8dd78", func := "broadsheet/broadsheetlaw6.TreeRanges", spec := "treeRanges", recurses := true, named := ["broadsheet/hash.roundWords"], apart := false, laid := [("broadsheet/hash.roundWords", laid_broadsheet_hash_roundWords)] }
def TreeRangesSaid : Prop := treeRangesRow.holds Tryd.pinned (OpenSpec.ofChange treeRangesSpec)

/-- ITS FALSE NEIGHBOUR: 'it returns false'. Refute it at one input. -/
def treeRangesWrong : ChangeSpec := { name := "treeRanges", fn := fun _ => fun
  | [d1, d2, d3] => { results := [.lit (.bool false)], args := [d1, d2, d3] }
  | _ => none }
def TreeRangesWrongFalsely : Prop := treeRangesRow.holds Tryd.pinned (OpenSpec.ofChange treeRangesWrong)

/- THE SECOND FORM. 'bulk': how many values and letters a reading holds, each counted each time it is reached (what is shared counts as often as it is met; a slice's spare places count too). A statement '..UptoSaid' is the law's where the arguments, and the package variables that the reading takes, are together of bulk at most 1048576: NARROWER than '..Said'. Prove '..Said' where nothing that the law and all that it calls make is longer than what came in: it says more and counts as full. Else prove '..UptoSaid'. A law counts once. -/
mutual
def uptoBulk {H : Type} : DataW H → Nat
  | .lit (.string bytes) => bytes.length + 1
  | .lit _ => 1
  | .nil => 1
  | .ptr d => uptoBulk d + 1
  | .slice elems spare => uptoBulkAll elems + uptoBulkAll spare + 1
  | .agg parts => uptoBulkAll parts + 1
  | .iface _ d => uptoBulk d + 1
  | .map entries => uptoBulkEntries entries + 1
  | .held _ => 1
def uptoBulkAll {H : Type} : List (DataW H) → Nat
  | [] => 0
  | d :: r => uptoBulk d + uptoBulkAll r
def uptoBulkEntries {H : Type} : List (Lit × DataW H) → Nat
  | [] => 0
  | x :: r => uptoBulkEntry x + uptoBulkEntries r
def uptoBulkEntry {H : Type} : Lit × DataW H → Nat
  | (.string bytes, d) => bytes.length + uptoBulk d + 1
  | (_, d) => uptoBulk d + 1
 end
def uptoSmall : (H : Type) → List (DataW H) → Bool := fun _ ds => decide (uptoBulkAll ds ≤ 1048576)
def OpenSpec.upto (s : _root_.Go.ChangeSpec) : _root_.Go.OpenSpec := { _root_.Go.OpenSpec.ofChange s with cond := some uptoSmall }

/-- 'broadsheetlaw6.TreeNumbers', WHERE WHAT IT READS IS OF BULK AT MOST 1048576: true; the input reads as it did. -/
def treeNumbersUptoRow : OpenClaim := { program := "ytpiekmflfgpalaadoor", sum := "a6312092a7c356946e3aca61b0aedf647a594d0481a4cd7134761e5531c8dd78", func := "broadsheet/broadsheetlaw6.TreeNumbers", spec := "treeNumbers", recurses := true, named := ["broadsheet/hash.roundWords"], apart := false, laid := [("broadsheet/hash.roundWords", laid_broadsheet_hash_roundWords)], narrowed := true }
def TreeNumbersUptoSaid : Prop := treeNumbersUptoRow.holds Tryd.pinned (OpenSpec.upto treeNumbersSpec)

/-- 'broadsheetlaw6.TreeTells', WHERE WHAT IT READS IS OF BULK AT MOST 1048576: true; the input reads as it did. -/
def treeTellsUptoRow : OpenClaim := { program := "ytpiekmflfgpalaadoor", sum := "a6312092a7c356946e3aca61b0aedf647a594d0481a4cd7134761e5531c8dd78", func := "broadsheet/broadsheetlaw6.TreeTells", spec := "treeTells", recurses := true, named := ["broadsheet/hash.roundWords"], apart := false, laid := [("broadsheet/hash.roundWords", laid_broadsheet_hash_roundWords)], narrowed := true }
def TreeTellsUptoSaid : Prop := treeTellsUptoRow.holds Tryd.pinned (OpenSpec.upto treeTellsSpec)

/-- 'broadsheetlaw6.TreeHalves', WHERE WHAT IT READS IS OF BULK AT MOST 1048576: true; the input reads as it did. -/
def treeHalvesUptoRow : OpenClaim := { program := "ytpiekmflfgpalaadoor", sum := "a6312092a7c356946e3aca61b0aedf647a594d0481a4cd7134761e5531c8dd78", func := "broadsheet/broadsheetlaw6.TreeHalves", spec := "treeHalves", recurses := true, named := ["broadsheet/hash.roundWords"], apart := false, laid := [("broadsheet/hash.roundWords", laid_broadsheet_hash_roundWords)], narrowed := true }
def TreeHalvesUptoSaid : Prop := treeHalvesUptoRow.holds Tryd.pinned (OpenSpec.upto treeHalvesSpec)

/-- 'broadsheetlaw6.TreeGiven', WHERE WHAT IT READS IS OF BULK AT MOST 1048576: true; the input reads as it did. -/
def treeGivenUptoRow : OpenClaim := { program := "ytpiekmflfgpalaadoor", sum := "a6312092a7c356946e3aca61b0aedf647a594d0481a4cd7134761e5531c8dd78", func := "broadsheet/broadsheetlaw6.TreeGiven", spec := "treeGiven", recurses := true, named := ["broadsheet/hash.roundWords"], apart := false, laid := [("broadsheet/hash.roundWords", laid_broadsheet_hash_roundWords)], narrowed := true }
def TreeGivenUptoSaid : Prop := treeGivenUptoRow.holds Tryd.pinned (OpenSpec.upto treeGivenSpec)

/-- 'broadsheetlaw6.TreeAppends', WHERE WHAT IT READS IS OF BULK AT MOST 1048576: true; the input reads as it did. -/
def treeAppendsUptoRow : OpenClaim := { program := "ytpiekmflfgpalaadoor", sum := "a6312092a7c356946e3aca61b0aedf647a594d0481a4cd7134761e5531c8dd78", func := "broadsheet/broadsheetlaw6.TreeAppends", spec := "treeAppends", recurses := true, named := ["broadsheet/hash.roundWords"], apart := false, laid := [("broadsheet/hash.roundWords", laid_broadsheet_hash_roundWords)], narrowed := true }
def TreeAppendsUptoSaid : Prop := treeAppendsUptoRow.holds Tryd.pinned (OpenSpec.upto treeAppendsSpec)

/-- 'broadsheetlaw6.TreeRanges', WHERE WHAT IT READS IS OF BULK AT MOST 1048576: true; the input reads as it did. -/
def treeRangesUptoRow : OpenClaim := { program := "ytpiekmflfgpalaadoor", sum := "a6312092a7c356946e3aca61b0aedf647a594d0481a4cd7134761e5531c8dd78", func := "broadsheet/broadsheetlaw6.TreeRanges", spec := "treeRanges", recurses := true, named := ["broadsheet/hash.roundWords"], apart := false, laid := [("broadsheet/hash.roundWords", laid_broadsheet_hash_roundWords)], narrowed := true }
def TreeRangesUptoSaid : Prop := treeRangesUptoRow.holds Tryd.pinned (OpenSpec.upto treeRangesSpec)

end Rows
end Go.Proofs.YtpiekmflfgpalaaDoor
