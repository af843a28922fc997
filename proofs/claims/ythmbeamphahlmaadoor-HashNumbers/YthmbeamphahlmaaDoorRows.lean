/-
  NARROWER THAN 'FOR EVERY INPUT', by the rows' own cells (each row's printed sentence says how): HashNumbers: laid · HashTells: laid · HashJoins: laid · HashGiven: laid · HashLongs: laid.
  DERIVED. THE GIVEN ROWS OF THIS SEAT. 5 by the template 'for every input the law returns true; each argument reads behind the call as it read before'; 0 by the template 'total and deterministic' (their statements: YthmbeamphahlmaaDoorTotals.lean).
  GIVEN WITH THE SEED: the statements are not yours to turn. If you find one false, say at which input.
  Laid BY PROGRAM, IN A SANDBOX (cutbox-rows.mjs): the forced cells as the released guide's own fill.sh prints them over the translation 315ba582f09d01e1… (all of the seat's roots in one cut). By AI agents, Wed Nov 11 2026. No macro, syntax, notation, axiom, sorry.
-/
import Derived.Test.YthmbeamphahlmaaDoorChecked
import GoSem.Claim
import GoSem.ClaimJoined
import GoSem.ClaimMapViews
import Derived.JoinedTies
import Derived.KernelRfl
namespace Go.Proofs.YthmbeamphahlmaaDoor
/- THE CELL 'sum', in the pinned program and in every row, IS THE sha256 OF THE DUMP (.gsa) THAT YthmbeamphahlmaaDoorProg.lean LOADS. Nothing in Lean hashes anything: it is a label: what it is worth is what the hold of that sum in a sandbox is worth. -/
noncomputable def Tryd.pinned : Pinned := { name := "ythmbeamphahlmaadoor", sum := "315ba582f09d01e114386e732f50977df4f4249de7e398e2b37e3c3b185dbdc9", checked := Tryd.checked }
namespace Rows
def none {H : Type} : Left H := { results := [], args := [] }

/- WHAT THE LISTED PACKAGE-LEVEL VARIABLES READ AS WHEN THE CALL BEGINS. Each datum BY PROGRAM (the guide's laid-datum.mjs) off the statement by which the dump's own 'gosem.cut.vars' lays the variable. In a bare row this is a premise. The card (YthmbeamphahlmaaDoorCards.lean) ties it to the program's text. -/
def laid_broadsheet_hash_roundWords {H : Type} : DataW H := .agg [.lit (.int .u32 1116352408), .lit (.int .u32 1899447441), .lit (.int .u32 3049323471), .lit (.int .u32 3921009573), .lit (.int .u32 961987163), .lit (.int .u32 1508970993), .lit (.int .u32 2453635748), .lit (.int .u32 2870763221), .lit (.int .u32 3624381080), .lit (.int .u32 310598401), .lit (.int .u32 607225278), .lit (.int .u32 1426881987), .lit (.int .u32 1925078388), .lit (.int .u32 2162078206), .lit (.int .u32 2614888103), .lit (.int .u32 3248222580), .lit (.int .u32 3835390401), .lit (.int .u32 4022224774), .lit (.int .u32 264347078), .lit (.int .u32 604807628), .lit (.int .u32 770255983), .lit (.int .u32 1249150122), .lit (.int .u32 1555081692), .lit (.int .u32 1996064986), .lit (.int .u32 2554220882), .lit (.int .u32 2821834349), .lit (.int .u32 2952996808), .lit (.int .u32 3210313671), .lit (.int .u32 3336571891), .lit (.int .u32 3584528711), .lit (.int .u32 113926993), .lit (.int .u32 338241895), .lit (.int .u32 666307205), .lit (.int .u32 773529912), .lit (.int .u32 1294757372), .lit (.int .u32 1396182291), .lit (.int .u32 1695183700), .lit (.int .u32 1986661051), .lit (.int .u32 2177026350), .lit (.int .u32 2456956037), .lit (.int .u32 2730485921), .lit (.int .u32 2820302411), .lit (.int .u32 3259730800), .lit (.int .u32 3345764771), .lit (.int .u32 3516065817), .lit (.int .u32 3600352804), .lit (.int .u32 4094571909), .lit (.int .u32 275423344), .lit (.int .u32 430227734), .lit (.int .u32 506948616), .lit (.int .u32 659060556), .lit (.int .u32 883997877), .lit (.int .u32 958139571), .lit (.int .u32 1322822218), .lit (.int .u32 1537002063), .lit (.int .u32 1747873779), .lit (.int .u32 1955562222), .lit (.int .u32 2024104815), .lit (.int .u32 2227730452), .lit (.int .u32 2361852424), .lit (.int .u32 2428436474), .lit (.int .u32 2756734187), .lit (.int .u32 3204031479), .lit (.int .u32 3329325298)]

/-- 'broadsheetlaw2.HashNumbers': WHATEVER THE INPUT: true; the input reads as it did. -/
def hashNumbersSpec : ChangeSpec := { name := "hashNumbers", fn := fun _ => fun
  | [] => { results := [.lit (.bool true)], args := [] }
  | _ => none }
def hashNumbersRow : OpenClaim := { program := "ythmbeamphahlmaadoor", sum := "315ba582f09d01e114386e732f50977df4f4249de7e398e2b37e3c3b185dbdc9", func := "broadsheet/broadsheetlaw2.HashNumbers", spec := "hashNumbers", named := ["broadsheet/hash.roundWords"], apart := false, laid := [("broadsheet/hash.roundWords", laid_broadsheet_hash_roundWords)] }
def HashNumbersSaid : Prop := hashNumbersRow.holds Tryd.pinned (OpenSpec.ofChange hashNumbersSpec)

/-- ITS FALSE NEIGHBOUR: 'it returns false'. Refute it at one input. -/
def hashNumbersWrong : ChangeSpec := { name := "hashNumbers", fn := fun _ => fun
  | [] => { results := [.lit (.bool false)], args := [] }
  | _ => none }
def HashNumbersWrongFalsely : Prop := hashNumbersRow.holds Tryd.pinned (OpenSpec.ofChange hashNumbersWrong)

/-- 'broadsheetlaw2.HashTells': WHATEVER THE INPUT: true; the input reads as it did. -/
def hashTellsSpec : ChangeSpec := { name := "hashTells", fn := fun _ => fun
  | [d1, d2, d3] => { results := [.lit (.bool true)], args := [d1, d2, d3] }
  | _ => none }
def hashTellsRow : OpenClaim := { program := "ythmbeamphahlmaadoor", sum := "315ba582f09d01e114386e732f50977df4f4249de7e398e2b37e3c3b185dbdc9", func := "broadsheet/broadsheetlaw2.HashTells", spec := "hashTells", named := ["broadsheet/hash.roundWords"], apart := false, laid := [("broadsheet/hash.roundWords", laid_broadsheet_hash_roundWords)] }
def HashTellsSaid : Prop := hashTellsRow.holds Tryd.pinned (OpenSpec.ofChange hashTellsSpec)

/-- ITS FALSE NEIGHBOUR: 'it returns false'. Refute it at one input. -/
def hashTellsWrong : ChangeSpec := { name := "hashTells", fn := fun _ => fun
  | [d1, d2, d3] => { results := [.lit (.bool false)], args := [d1, d2, d3] }
  | _ => none }
def HashTellsWrongFalsely : Prop := hashTellsRow.holds Tryd.pinned (OpenSpec.ofChange hashTellsWrong)

/-- 'broadsheetlaw2.HashJoins': WHATEVER THE INPUT: true; the input reads as it did. -/
def hashJoinsSpec : ChangeSpec := { name := "hashJoins", fn := fun _ => fun
  | [d1, d2, d3] => { results := [.lit (.bool true)], args := [d1, d2, d3] }
  | _ => none }
def hashJoinsRow : OpenClaim := { program := "ythmbeamphahlmaadoor", sum := "315ba582f09d01e114386e732f50977df4f4249de7e398e2b37e3c3b185dbdc9", func := "broadsheet/broadsheetlaw2.HashJoins", spec := "hashJoins", named := ["broadsheet/hash.roundWords"], apart := false, laid := [("broadsheet/hash.roundWords", laid_broadsheet_hash_roundWords)] }
def HashJoinsSaid : Prop := hashJoinsRow.holds Tryd.pinned (OpenSpec.ofChange hashJoinsSpec)

/-- ITS FALSE NEIGHBOUR: 'it returns false'. Refute it at one input. -/
def hashJoinsWrong : ChangeSpec := { name := "hashJoins", fn := fun _ => fun
  | [d1, d2, d3] => { results := [.lit (.bool false)], args := [d1, d2, d3] }
  | _ => none }
def HashJoinsWrongFalsely : Prop := hashJoinsRow.holds Tryd.pinned (OpenSpec.ofChange hashJoinsWrong)

/-- 'broadsheetlaw2.HashGiven': WHATEVER THE INPUT: true; the input reads as it did. -/
def hashGivenSpec : ChangeSpec := { name := "hashGiven", fn := fun _ => fun
  | [d] => { results := [.lit (.bool true)], args := [d] }
  | _ => none }
def hashGivenRow : OpenClaim := { program := "ythmbeamphahlmaadoor", sum := "315ba582f09d01e114386e732f50977df4f4249de7e398e2b37e3c3b185dbdc9", func := "broadsheet/broadsheetlaw2.HashGiven", spec := "hashGiven", named := ["broadsheet/hash.roundWords"], apart := false, laid := [("broadsheet/hash.roundWords", laid_broadsheet_hash_roundWords)] }
def HashGivenSaid : Prop := hashGivenRow.holds Tryd.pinned (OpenSpec.ofChange hashGivenSpec)

/-- ITS FALSE NEIGHBOUR: 'it returns false'. Refute it at one input. -/
def hashGivenWrong : ChangeSpec := { name := "hashGiven", fn := fun _ => fun
  | [d] => { results := [.lit (.bool false)], args := [d] }
  | _ => none }
def HashGivenWrongFalsely : Prop := hashGivenRow.holds Tryd.pinned (OpenSpec.ofChange hashGivenWrong)

/-- 'broadsheetlaw2.HashLongs': WHATEVER THE INPUT: true; the input reads as it did. -/
def hashLongsSpec : ChangeSpec := { name := "hashLongs", fn := fun _ => fun
  | [d1, d2] => { results := [.lit (.bool true)], args := [d1, d2] }
  | _ => none }
def hashLongsRow : OpenClaim := { program := "ythmbeamphahlmaadoor", sum := "315ba582f09d01e114386e732f50977df4f4249de7e398e2b37e3c3b185dbdc9", func := "broadsheet/broadsheetlaw2.HashLongs", spec := "hashLongs", named := ["broadsheet/hash.roundWords"], apart := false, laid := [("broadsheet/hash.roundWords", laid_broadsheet_hash_roundWords)] }
def HashLongsSaid : Prop := hashLongsRow.holds Tryd.pinned (OpenSpec.ofChange hashLongsSpec)

/-- ITS FALSE NEIGHBOUR: 'it returns false'. Refute it at one input. -/
def hashLongsWrong : ChangeSpec := { name := "hashLongs", fn := fun _ => fun
  | [d1, d2] => { results := [.lit (.bool false)], args := [d1, d2] }
  | _ => none }
def HashLongsWrongFalsely : Prop := hashLongsRow.holds Tryd.pinned (OpenSpec.ofChange hashLongsWrong)

/- THE SECOND FORM. 'bulk': how many values and letters a reading holds, each counted each time it is reached (what is shared counts as often as it is met; a slice's spare places count too). A statement '..UptoSaid' is the law's where the arguments, and the package variables that the reading takes, are together of bulk at most 1048576: NARROWER than '..Said'. Prove '..Said' where nothing that the law and all that it calls make is longer than what came in: it says more and counts as full. Else prove '..UptoSaid'. A law counts once. -/
mutual
def uptoBulk {H : Type} : DataW H → Nat
  | .lit (.string bytes) => bytes.length + 1
  | .lit _ => 1
  | .nil => 1
  | .ptr d => uptoBulk d + 1
  | .slice elems spare => uptoBulkAll elems + uptoBulkAll spare + 1
  | .agg parts => uptoBulkAll parts + 1
  | .iface _ d => uptoBulk d + 1
  | .map entries => uptoBulkEntries entries + 1
  | .held _ => 1
def uptoBulkAll {H : Type} : List (DataW H) → Nat
  | [] => 0
  | d :: r => uptoBulk d + uptoBulkAll r
def uptoBulkEntries {H : Type} : List (Lit × DataW H) → Nat
  | [] => 0
  | x :: r => uptoBulkEntry x + uptoBulkEntries r
def uptoBulkEntry {H : Type} : Lit × DataW H → Nat
  | (.string bytes, d) => bytes.length + uptoBulk d + 1
  | (_, d) => uptoBulk d + 1
 end
def uptoSmall : (H : Type) → List (DataW H) → Bool := fun _ ds => decide (uptoBulkAll ds ≤ 1048576)
def OpenSpec.upto (s : _root_.Go.ChangeSpec) : _root_.Go.OpenSpec := { _root_.Go.OpenSpec.ofChange s with cond := some uptoSmall }

/-- 'broadsheetlaw2.HashNumbers', WHERE WHAT IT READS IS OF BULK AT MOST 1048576: true; the input reads as it did. -/
def hashNumbersUptoRow : OpenClaim := { program := "ythmbeamphahlmaadoor", sum := "315ba582f09d01e114386e732f50977df4f4249de7e398e2b37e3c3b185dbdc9", func := "broadsheet/broadsheetlaw2.HashNumbers", spec := "hashNumbers", named := ["broadsheet/hash.roundWords"], apart := false, laid := [("broadsheet/hash.roundWords", laid_broadsheet_hash_roundWords)], narrowed := true }
def HashNumbersUptoSaid : Prop := hashNumbersUptoRow.holds Tryd.pinned (OpenSpec.upto hashNumbersSpec)

/-- 'broadsheetlaw2.HashTells', WHERE WHAT IT READS IS OF BULK AT MOST 1048576: true; the input reads as it did. -/
def hashTellsUptoRow : OpenClaim := { program := "ythmbeamphahlmaadoor", sum := "315ba582f09d01e114386e732f50977df4f4249de7e398e2b37e3c3b185dbdc9", func := "broadsheet/broadsheetlaw2.HashTells", spec := "hashTells", named := ["broadsheet/hash.roundWords"], apart := false, laid := [("broadsheet/hash.roundWords", laid_broadsheet_hash_roundWords)], narrowed := true }
def HashTellsUptoSaid : Prop := hashTellsUptoRow.holds Tryd.pinned (OpenSpec.upto hashTellsSpec)

/-- 'broadsheetlaw2.HashJoins', WHERE WHAT IT READS IS OF BULK AT MOST 1048576: true; the input reads as it did. -/
def hashJoinsUptoRow : OpenClaim := { program := "ythmbeamphahlmaadoor", sum := "315ba582f09d01e114386e732f50977df4f4249de7e398e2b37e3c3b185dbdc9", func := "broadsheet/broadsheetlaw2.HashJoins", spec := "hashJoins", named := ["broadsheet/hash.roundWords"], apart := false, laid := [("broadsheet/hash.roundWords", laid_broadsheet_hash_roundWords)], narrowed := true }
def HashJoinsUptoSaid : Prop := hashJoinsUptoRow.holds Tryd.pinned (OpenSpec.upto hashJoinsSpec)

/-- 'broadsheetlaw2.HashGiven', WHERE WHAT IT READS IS OF BULK AT MOST 1048576: true; the input reads as it did. -/
def hashGivenUptoRow : OpenClaim := { program := "ythmbeamphahlmaadoor", sum := "315ba582f09d01e114386e732f50977df4f4249de7e398e2b37e3c3b185dbdc9", func := "broadsheet/broadsheetlaw2.HashGiven", spec := "hashGiven", named := ["broadsheet/hash.roundWords"], apart := false, laid := [("broadsheet/hash.roundWords", laid_broadsheet_hash_roundWords)], narrowed := true }
def HashGivenUptoSaid : Prop := hashGivenUptoRow.holds Tryd.pinned (OpenSpec.upto hashGivenSpec)

/-- 'broadsheetlaw2.HashLongs', WHERE WHAT IT READS IS OF BULK AT MOST 1048576: true; the input reads as it did. -/
def hashLongsUptoRow : OpenClaim := { program := "ythmbeamphahlmaadoor", sum := "315ba582f09d01e114386e732f50977df4f4249de7e398e2b37e3c3b185dbdc9", func := "broadsheet/broadsheetlaw2.HashLongs", spec := "hashLongs", named := ["broadsheet/hash.roundWords"], apart := false, laid := [("broadsheet/hash.roundWords", laid_broadsheet_hash_roundWords)], narrowed := true }
def HashLongsUptoSaid : Prop := hashLongsUptoRow.holds Tryd.pinned (OpenSpec.upto hashLongsSpec)

end Rows
end Go.Proofs.YthmbeamphahlmaaDoor
