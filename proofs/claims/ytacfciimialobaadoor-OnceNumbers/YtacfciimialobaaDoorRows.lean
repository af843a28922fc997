/-
  NARROWER THAN 'FOR EVERY INPUT', by the rows' own cells (each row's printed sentence says how): OnceNumbers: laid · OnceTells: laid · OnceRoots: laid · OnceBack: laid · OnceSides: laid · OnceTurned: laid.
  DERIVED. THE GIVEN ROWS OF THIS SEAT. 6 by the template 'for every input the law returns true; each argument reads behind the call as it read before'; 0 by the template 'total and deterministic' (their statements: YtacfciimialobaaDoorTotals.lean).
  GIVEN WITH THE SEED: the statements are not yours to turn. If you find one false, say at which input.
  Laid BY PROGRAM, IN A SANDBOX (cutbox-rows.mjs): the forced cells as the released guide's own fill.sh prints them over the translation 7a829318f69da839… (all of the seat's roots in one cut). By AI agents, Wed Nov 11 2026. No macro, syntax, notation, axiom, sorry.
-/
import Derived.Test.YtacfciimialobaaDoorChecked
import GoSem.Claim
import GoSem.ClaimJoined
import GoSem.ClaimMapViews
import Derived.JoinedTies
import Derived.KernelRfl
namespace Go.Proofs.YtacfciimialobaaDoor
/- THE CELL 'sum', in the pinned program and in every row, IS THE sha256 OF THE DUMP (.gsa) THAT YtacfciimialobaaDoorProg.lean LOADS. Nothing in Lean hashes anything: it is a label: what it is worth is what the hold of that sum in a sandbox is worth. -/
noncomputable def Tryd.pinned : Pinned := { name := "ytacfciimialobaadoor", sum := "7a829318f69da8399eeb3060bdd2a914a250a13fde9dc09105a3352841dbe8ea", checked := Tryd.checked }
namespace Rows
def none {H : Type} : Left H := { results := [], args := [] }

/- WHAT THE LISTED PACKAGE-LEVEL VARIABLES READ AS WHEN THE CALL BEGINS. Each datum BY PROGRAM (the guide's laid-datum.mjs) off the statement by which the dump's own 'gosem.cut.vars' lays the variable. In a bare row this is a premise. The card (YtacfciimialobaaDoorCards.lean) ties it to the program's text. -/
def laid_broadsheet_hash_roundWords {H : Type} : DataW H := .agg [.lit (.int .u32 1116352408), .lit (.int .u32 1899447441), .lit (.int .u32 3049323471), .lit (.int .u32 3921009573), .lit (.int .u32 961987163), .lit (.int .u32 1508970993), .lit (.int .u32 2453635748), .lit (.int .u32 2870763221), .lit (.int .u32 3624381080), .lit (.int .u32 310598401), .lit (.int .u32 607225278), .lit (.int .u32 1426881987), .lit (.int .u32 1925078388), .lit (.int .u32 2162078206), .lit (.int .u32 2614888103), .lit (.int .u32 3248222580), .lit (.int .u32 3835390401), .lit (.int .u32 4022224774), .lit (.int .u32 264347078), .lit (.int .u32 604807628), .lit (.int .u32 770255983), .lit (.int .u32 1249150122), .lit (.int .u32 1555081692), .lit (.int .u32 1996064986), .lit (.int .u32 2554220882), .lit (.int .u32 2821834349), .lit (.int .u32 2952996808), .lit (.int .u32 3210313671), .lit (.int .u32 3336571891), .lit (.int .u32 3584528711), .lit (.int .u32 113926993), .lit (.int .u32 338241895), .lit (.int .u32 666307205), .lit (.int .u32 773529912), .lit (.int .u32 1294757372), .lit (.int .u32 1396182291), .lit (.int .u32 1695183700), .lit (.int .u32 1986661051), .lit (.int .u32 2177026350), .lit (.int .u32 2456956037), .lit (.int .u32 2730485921), .lit (.int .u32 2820302411), .lit (.int .u32 3259730800), .lit (.int .u32 3345764771), .lit (.int .u32 3516065817), .lit (.int .u32 3600352804), .lit (.int .u32 4094571909), .lit (.int .u32 275423344), .lit (.int .u32 430227734), .lit (.int .u32 506948616), .lit (.int .u32 659060556), .lit (.int .u32 883997877), .lit (.int .u32 958139571), .lit (.int .u32 1322822218), .lit (.int .u32 1537002063), .lit (.int .u32 1747873779), .lit (.int .u32 1955562222), .lit (.int .u32 2024104815), .lit (.int .u32 2227730452), .lit (.int .u32 2361852424), .lit (.int .u32 2428436474), .lit (.int .u32 2756734187), .lit (.int .u32 3204031479), .lit (.int .u32 3329325298)]

/-- 'broadsheetlaw4.OnceNumbers': WHATEVER THE INPUT: true; the input reads as it did. -/
def onceNumbersSpec : ChangeSpec := { name := "onceNumbers", fn := fun _ => fun
  | [] => { results := [.lit (.bool true)], args := [] }
  | _ => none }
def onceNumbersRow : OpenClaim := { program := "ytacfciimialobaadoor", sum := "7a829318f69da8399eeb3060bdd2a914a250a13fde9dc09105a3352841dbe8ea", func := "broadsheet/broadsheetlaw4.OnceNumbers", spec := "onceNumbers", unfollowed := true, recurses := true, named := ["broadsheet/hash.roundWords"], apart := false, laid := [("broadsheet/hash.roundWords", laid_broadsheet_hash_roundWords)] }
def OnceNumbersSaid : Prop := onceNumbersRow.holds Tryd.pinned (OpenSpec.ofChange onceNumbersSpec)

/-- ITS FALSE NEIGHBOUR: 'it returns false'. Refute it at one input. -/
def onceNumbersWrong : ChangeSpec := { name := "onceNumbers", fn := fun _ => fun
  | [] => { results := [.lit (.bool false)], args := [] }
  | _ => none }
def OnceNumbersWrongFalsely : Prop := onceNumbersRow.holds Tryd.pinned (OpenSpec.ofChange onceNumbersWrong)

/-- 'broadsheetlaw4.OnceTells': WHATEVER THE INPUT: true; the input reads as it did. -/
def onceTellsSpec : ChangeSpec := { name := "onceTells", fn := fun _ => fun
  | [d1, d2, d3, d4, d5] => { results := [.lit (.bool true)], args := [d1, d2, d3, d4, d5] }
  | _ => none }
def onceTellsRow : OpenClaim := { program := "ytacfciimialobaadoor", sum := "7a829318f69da8399eeb3060bdd2a914a250a13fde9dc09105a3352841dbe8ea", func := "broadsheet/broadsheetlaw4.OnceTells", spec := "onceTells", unfollowed := true, recurses := true, named := ["broadsheet/hash.roundWords"], apart := false, laid := [("broadsheet/hash.roundWords", laid_broadsheet_hash_roundWords)] }
def OnceTellsSaid : Prop := onceTellsRow.holds Tryd.pinned (OpenSpec.ofChange onceTellsSpec)

/-- ITS FALSE NEIGHBOUR: 'it returns false'. Refute it at one input. -/
def onceTellsWrong : ChangeSpec := { name := "onceTells", fn := fun _ => fun
  | [d1, d2, d3, d4, d5] => { results := [.lit (.bool false)], args := [d1, d2, d3, d4, d5] }
  | _ => none }
def OnceTellsWrongFalsely : Prop := onceTellsRow.holds Tryd.pinned (OpenSpec.ofChange onceTellsWrong)

/-- 'broadsheetlaw4.OnceRoots': WHATEVER THE INPUT: true; the input reads as it did. -/
def onceRootsSpec : ChangeSpec := { name := "onceRoots", fn := fun _ => fun
  | [d1, d2, d3, d4] => { results := [.lit (.bool true)], args := [d1, d2, d3, d4] }
  | _ => none }
def onceRootsRow : OpenClaim := { program := "ytacfciimialobaadoor", sum := "7a829318f69da8399eeb3060bdd2a914a250a13fde9dc09105a3352841dbe8ea", func := "broadsheet/broadsheetlaw4.OnceRoots", spec := "onceRoots", unfollowed := true, recurses := true, named := ["broadsheet/hash.roundWords"], apart := false, laid := [("broadsheet/hash.roundWords", laid_broadsheet_hash_roundWords)] }
def OnceRootsSaid : Prop := onceRootsRow.holds Tryd.pinned (OpenSpec.ofChange onceRootsSpec)

/-- ITS FALSE NEIGHBOUR: 'it returns false'. Refute it at one input. -/
def onceRootsWrong : ChangeSpec := { name := "onceRoots", fn := fun _ => fun
  | [d1, d2, d3, d4] => { results := [.lit (.bool false)], args := [d1, d2, d3, d4] }
  | _ => none }
def OnceRootsWrongFalsely : Prop := onceRootsRow.holds Tryd.pinned (OpenSpec.ofChange onceRootsWrong)

/-- 'broadsheetlaw4.OnceBack': WHATEVER THE INPUT: true; the input reads as it did. -/
def onceBackSpec : ChangeSpec := { name := "onceBack", fn := fun _ => fun
  | [d1, d2, d3] => { results := [.lit (.bool true)], args := [d1, d2, d3] }
  | _ => none }
def onceBackRow : OpenClaim := { program := "ytacfciimialobaadoor", sum := "7a829318f69da8399eeb3060bdd2a914a250a13fde9dc09105a3352841dbe8ea", func := "broadsheet/broadsheetlaw4.OnceBack", spec := "onceBack", unfollowed := true, recurses := true, named := ["broadsheet/hash.roundWords"], apart := false, laid := [("broadsheet/hash.roundWords", laid_broadsheet_hash_roundWords)] }
def OnceBackSaid : Prop := onceBackRow.holds Tryd.pinned (OpenSpec.ofChange onceBackSpec)

/-- ITS FALSE NEIGHBOUR: 'it returns false'. Refute it at one input. -/
def onceBackWrong : ChangeSpec := { name := "onceBack", fn := fun _ => fun
  | [d1, d2, d3] => { results := [.lit (.bool false)], args := [d1, d2, d3] }
  | _ => none }
def OnceBackWrongFalsely : Prop := onceBackRow.holds Tryd.pinned (OpenSpec.ofChange onceBackWrong)

/-- 'broadsheetlaw4.OnceSides': WHATEVER THE INPUT: true; the input reads as it did. -/
def onceSidesSpec : ChangeSpec := { name := "onceSides", fn := fun _ => fun
  | [d1, d2, d3] => { results := [.lit (.bool true)], args := [d1, d2, d3] }
  | _ => none }
def onceSidesRow : OpenClaim := { program := "ytacfciimialobaadoor", sum := "7a829318f69da8399eeb3060bdd2a914a250a13fde9dc09105a3352841dbe8ea", func := "broadsheet/broadsheetlaw4.OnceSides", spec := "onceSides", unfollowed := true, recurses := true, named := ["broadsheet/hash.roundWords"], apart := false, laid := [("broadsheet/hash.roundWords", laid_broadsheet_hash_roundWords)] }
def OnceSidesSaid : Prop := onceSidesRow.holds Tryd.pinned (OpenSpec.ofChange onceSidesSpec)

/-- ITS FALSE NEIGHBOUR: 'it returns false'. Refute it at one input. -/
def onceSidesWrong : ChangeSpec := { name := "onceSides", fn := fun _ => fun
  | [d1, d2, d3] => { results := [.lit (.bool false)], args := [d1, d2, d3] }
  | _ => none }
def OnceSidesWrongFalsely : Prop := onceSidesRow.holds Tryd.pinned (OpenSpec.ofChange onceSidesWrong)

/-- 'broadsheetlaw4.OnceTurned': WHATEVER THE INPUT: true; the input reads as it did. -/
def onceTurnedSpec : ChangeSpec := { name := "onceTurned", fn := fun _ => fun
  | [d1, d2, d3, d4] => { results := [.lit (.bool true)], args := [d1, d2, d3, d4] }
  | _ => none }
def onceTurnedRow : OpenClaim := { program := "ytacfciimialobaadoor", sum := "7a829318f69da8399eeb3060bdd2a914a250a13fde9dc09105a3352841dbe8ea", func := "broadsheet/broadsheetlaw4.OnceTurned", spec := "onceTurned", unfollowed := true, recurses := true, named := ["broadsheet/hash.roundWords"], apart := false, laid := [("broadsheet/hash.roundWords", laid_broadsheet_hash_roundWords)] }
def OnceTurnedSaid : Prop := onceTurnedRow.holds Tryd.pinned (OpenSpec.ofChange onceTurnedSpec)

/-- ITS FALSE NEIGHBOUR: 'it returns false'. Refute it at one input. -/
def onceTurnedWrong : ChangeSpec := { name := "onceTurned", fn := fun _ => fun
  | [d1, d2, d3, d4] => { results := [.lit (.bool false)], args := [d1, d2, d3, d4] }
  | _ => none }
def OnceTurnedWrongFalsely : Prop := onceTurnedRow.holds Tryd.pinned (OpenSpec.ofChange onceTurnedWrong)

/- THE SECOND FORM. 'bulk': how many values and letters a reading holds, each counted each time it is reached (what is shared counts as often as it is met; a slice's spare places count too). A statement '..UptoSaid' is the law's where the arguments, and the package variables that the reading takes, are together of bulk at most 1048576: NARROWER than '..Said'. Prove '..Said' where nothing that the law and all that it calls make is longer than what came in: it says more and counts as full. Else prove '..UptoSaid'. A law counts once. -/
mutual
def uptoBulk {H : Type} : DataW H → Nat
  | .lit (.string bytes) => bytes.length + 1
  | .lit _ => 1
  | .nil => 1
  | .ptr d => uptoBulk d + 1
  | .slice elems spare => uptoBulkAll elems + uptoBulkAll spare + 1
  | .agg parts => uptoBulkAll parts + 1
  | .iface _ d => uptoBulk d + 1
  | .map entries => uptoBulkEntries entries + 1
  | .held _ => 1
def uptoBulkAll {H : Type} : List (DataW H) → Nat
  | [] => 0
  | d :: r => uptoBulk d + uptoBulkAll r
def uptoBulkEntries {H : Type} : List (Lit × DataW H) → Nat
  | [] => 0
  | x :: r => uptoBulkEntry x + uptoBulkEntries r
def uptoBulkEntry {H : Type} : Lit × DataW H → Nat
  | (.string bytes, d) => bytes.length + uptoBulk d + 1
  | (_, d) => uptoBulk d + 1
 end
def uptoSmall : (H : Type) → List (DataW H) → Bool := fun _ ds => decide (uptoBulkAll ds ≤ 1048576)
def OpenSpec.upto (s : _root_.Go.ChangeSpec) : _root_.Go.OpenSpec := { _root_.Go.OpenSpec.ofChange s with cond := some uptoSmall }

/-- 'broadsheetlaw4.OnceNumbers', WHERE WHAT IT READS IS OF BULK AT MOST 1048576: true; the input reads as it did. -/
def onceNumbersUptoRow : OpenClaim := { program := "ytacfciimialobaadoor", sum := "7a829318f69da8399eeb3060bdd2a914a250a13fde9dc09105a3352841dbe8ea", func := "broadsheet/broadsheetlaw4.OnceNumbers", spec := "onceNumbers", unfollowed := true, recurses := true, named := ["broadsheet/hash.roundWords"], apart := false, laid := [("broadsheet/hash.roundWords", laid_broadsheet_hash_roundWords)], narrowed := true }
def OnceNumbersUptoSaid : Prop := onceNumbersUptoRow.holds Tryd.pinned (OpenSpec.upto onceNumbersSpec)

/-- 'broadsheetlaw4.OnceTells', WHERE WHAT IT READS IS OF BULK AT MOST 1048576: true; the input reads as it did. -/
def onceTellsUptoRow : OpenClaim := { program := "ytacfciimialobaadoor", sum := "7a829318f69da8399eeb3060bdd2a914a250a13fde9dc09105a3352841dbe8ea", func := "broadsheet/broadsheetlaw4.OnceTells", spec := "onceTells", unfollowed := true, recurses := true, named := ["broadsheet/hash.roundWords"], apart := false, laid := [("broadsheet/hash.roundWords", laid_broadsheet_hash_roundWords)], narrowed := true }
def OnceTellsUptoSaid : Prop := onceTellsUptoRow.holds Tryd.pinned (OpenSpec.upto onceTellsSpec)

/-- 'broadsheetlaw4.OnceRoots', WHERE WHAT IT READS IS OF BULK AT MOST 1048576: true; the input reads as it did. -/
def onceRootsUptoRow : OpenClaim := { program := "ytacfciimialobaadoor", sum := "7a829318f69da8399eeb3060bdd2a914a250a13fde9dc09105a3352841dbe8ea", func := "broadsheet/broadsheetlaw4.OnceRoots", spec := "onceRoots", unfollowed := true, recurses := true, named := ["broadsheet/hash.roundWords"], apart := false, laid := [("broadsheet/hash.roundWords", laid_broadsheet_hash_roundWords)], narrowed := true }
def OnceRootsUptoSaid : Prop := onceRootsUptoRow.holds Tryd.pinned (OpenSpec.upto onceRootsSpec)

/-- 'broadsheetlaw4.OnceBack', WHERE WHAT IT READS IS OF BULK AT MOST 1048576: true; the input reads as it did. -/
def onceBackUptoRow : OpenClaim := { program := "ytacfciimialobaadoor", sum := "7a829318f69da8399eeb3060bdd2a914a250a13fde9dc09105a3352841dbe8ea", func := "broadsheet/broadsheetlaw4.OnceBack", spec := "onceBack", unfollowed := true, recurses := true, named := ["broadsheet/hash.roundWords"], apart := false, laid := [("broadsheet/hash.roundWords", laid_broadsheet_hash_roundWords)], narrowed := true }
def OnceBackUptoSaid : Prop := onceBackUptoRow.holds Tryd.pinned (OpenSpec.upto onceBackSpec)

/-- 'broadsheetlaw4.OnceSides', WHERE WHAT IT READS IS OF BULK AT MOST 1048576: true; the input reads as it did. -/
def onceSidesUptoRow : OpenClaim := { program := "ytacfciimialobaadoor", sum := "7a829318f69da8399eeb3060bdd2a914a250a13fde9dc09105a3352841dbe8ea", func := "broadsheet/broadsheetlaw4.OnceSides", spec := "onceSides", unfollowed := true, recurses := true, named := ["broadsheet/hash.roundWords"], apart := false, laid := [("broadsheet/hash.roundWords", laid_broadsheet_hash_roundWords)], narrowed := true }
def OnceSidesUptoSaid : Prop := onceSidesUptoRow.holds Tryd.pinned (OpenSpec.upto onceSidesSpec)

/-- 'broadsheetlaw4.OnceTurned', WHERE WHAT IT READS IS OF BULK AT MOST 1048576: true; the input reads as it did. -/
def onceTurnedUptoRow : OpenClaim := { program := "ytacfciimialobaadoor", sum := "7a829318f69da8399eeb3060bdd2a914a250a13fde9dc09105a3352841dbe8ea", func := "broadsheet/broadsheetlaw4.OnceTurned", spec := "onceTurned", unfollowed := true, recurses := true, named := ["broadsheet/hash.roundWords"], apart := false, laid := [("broadsheet/hash.roundWords", laid_broadsheet_hash_roundWords)], narrowed := true }
def OnceTurnedUptoSaid : Prop := onceTurnedUptoRow.holds Tryd.pinned (OpenSpec.upto onceTurnedSpec)

end Rows
end Go.Proofs.YtacfciimialobaaDoor
