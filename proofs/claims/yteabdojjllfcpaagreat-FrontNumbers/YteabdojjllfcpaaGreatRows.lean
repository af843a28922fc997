/-
  No cell of these rows narrows 'for every input' (looked for: loops, veiled, ifaces, maps, wideKeys, modest, calm, conditions, laid).
  DERIVED. THE GIVEN ROWS OF THIS SEAT. 6 by the template 'for every input the law returns true; each argument reads behind the call as it read before'; 0 by the template 'total and deterministic' (their statements: YteabdojjllfcpaaGreatTotals.lean).
  GIVEN WITH THE SEED: the statements are not yours to turn. If you find one false, say at which input.
  Laid BY PROGRAM, IN A SANDBOX (cutbox-rows.mjs): the forced cells as the released guide's own fill.sh prints them over the translation cbf28646396c3d0a… (all of the seat's roots in one cut). By AI agents, Wed Nov 11 2026. No macro, syntax, notation, axiom, sorry.
-/
import Derived.Test.YteabdojjllfcpaaGreatChecked
import GoSem.Claim
import GoSem.ClaimJoined
import GoSem.ClaimMapViews
import Derived.JoinedTies
import Derived.KernelRfl
namespace Go.Proofs.YteabdojjllfcpaaGreat
/- THE CELL 'sum', in the pinned program and in every row, IS THE sha256 OF THE DUMP (.gsa) THAT YteabdojjllfcpaaGreatProg.lean LOADS. Nothing in Lean hashes anything: it is a label: what it is worth is what the hold of that sum in a sandbox is worth. -/
noncomputable def Tryz.pinned : Pinned := { name := "yteabdojjllfcpaagreat", sum := "cbf28646396c3d0a368b9417940307689b1af7eb917badb4a8a7cabbd25aa647", checked := Tryz.checked }
namespace Rows
def none {H : Type} : Left H := { results := [], args := [] }

/-- 'broadsheetlaw17.FrontNumbers': WHATEVER THE INPUT: true; the input reads as it did. -/
def frontNumbersSpec : ChangeSpec := { name := "frontNumbers", fn := fun _ => fun
  | [] => { results := [.lit (.bool true)], args := [] }
  | _ => none }
def frontNumbersRow : OpenClaim := { program := "yteabdojjllfcpaagreat", sum := "cbf28646396c3d0a368b9417940307689b1af7eb917badb4a8a7cabbd25aa647", func := "broadsheet/broadsheetlaw17.FrontNumbers", spec := "frontNumbers", unfollowed := true, recurses := true, apart := false }
def FrontNumbersSaid : Prop := frontNumbersRow.holds Tryz.pinned (OpenSpec.ofChange frontNumbersSpec)

/-- ITS FALSE NEIGHBOUR: 'it returns false'. Refute it at one input. -/
def frontNumbersWrong : ChangeSpec := { name := "frontNumbers", fn := fun _ => fun
  | [] => { results := [.lit (.bool false)], args := [] }
  | _ => none }
def FrontNumbersWrongFalsely : Prop := frontNumbersRow.holds Tryz.pinned (OpenSpec.ofChange frontNumbersWrong)

/-- 'broadsheetlaw17.FrontPlays': WHATEVER THE INPUT: true; the input reads as it did. -/
def frontPlaysSpec : ChangeSpec := { name := "frontPlays", fn := fun _ => fun
  | [d1, d2, d3, d4] => { results := [.lit (.bool true)], args := [d1, d2, d3, d4] }
  | _ => none }
def frontPlaysRow : OpenClaim := { program := "yteabdojjllfcpaagreat", sum := "cbf28646396c3d0a368b9417940307689b1af7eb917badb4a8a7cabbd25aa647", func := "broadsheet/broadsheetlaw17.FrontPlays", spec := "frontPlays", unfollowed := true, recurses := true, apart := false }
def FrontPlaysSaid : Prop := frontPlaysRow.holds Tryz.pinned (OpenSpec.ofChange frontPlaysSpec)

/-- ITS FALSE NEIGHBOUR: 'it returns false'. Refute it at one input. -/
def frontPlaysWrong : ChangeSpec := { name := "frontPlays", fn := fun _ => fun
  | [d1, d2, d3, d4] => { results := [.lit (.bool false)], args := [d1, d2, d3, d4] }
  | _ => none }
def FrontPlaysWrongFalsely : Prop := frontPlaysRow.holds Tryz.pinned (OpenSpec.ofChange frontPlaysWrong)

/-- 'broadsheetlaw17.FrontKeeps': WHATEVER THE INPUT: true; the input reads as it did. -/
def frontKeepsSpec : ChangeSpec := { name := "frontKeeps", fn := fun _ => fun
  | [d1, d2, d3] => { results := [.lit (.bool true)], args := [d1, d2, d3] }
  | _ => none }
def frontKeepsRow : OpenClaim := { program := "yteabdojjllfcpaagreat", sum := "cbf28646396c3d0a368b9417940307689b1af7eb917badb4a8a7cabbd25aa647", func := "broadsheet/broadsheetlaw17.FrontKeeps", spec := "frontKeeps", unfollowed := true, recurses := true, apart := false }
def FrontKeepsSaid : Prop := frontKeepsRow.holds Tryz.pinned (OpenSpec.ofChange frontKeepsSpec)

/-- ITS FALSE NEIGHBOUR: 'it returns false'. Refute it at one input. -/
def frontKeepsWrong : ChangeSpec := { name := "frontKeeps", fn := fun _ => fun
  | [d1, d2, d3] => { results := [.lit (.bool false)], args := [d1, d2, d3] }
  | _ => none }
def FrontKeepsWrongFalsely : Prop := frontKeepsRow.holds Tryz.pinned (OpenSpec.ofChange frontKeepsWrong)

/-- 'broadsheetlaw17.FrontEmpties': WHATEVER THE INPUT: true; the input reads as it did. -/
def frontEmptiesSpec : ChangeSpec := { name := "frontEmpties", fn := fun _ => fun
  | [d1, d2] => { results := [.lit (.bool true)], args := [d1, d2] }
  | _ => none }
def frontEmptiesRow : OpenClaim := { program := "yteabdojjllfcpaagreat", sum := "cbf28646396c3d0a368b9417940307689b1af7eb917badb4a8a7cabbd25aa647", func := "broadsheet/broadsheetlaw17.FrontEmpties", spec := "frontEmpties", unfollowed := true, recurses := true, apart := false }
def FrontEmptiesSaid : Prop := frontEmptiesRow.holds Tryz.pinned (OpenSpec.ofChange frontEmptiesSpec)

/-- ITS FALSE NEIGHBOUR: 'it returns false'. Refute it at one input. -/
def frontEmptiesWrong : ChangeSpec := { name := "frontEmpties", fn := fun _ => fun
  | [d1, d2] => { results := [.lit (.bool false)], args := [d1, d2] }
  | _ => none }
def FrontEmptiesWrongFalsely : Prop := frontEmptiesRow.holds Tryz.pinned (OpenSpec.ofChange frontEmptiesWrong)

/-- 'broadsheetlaw17.FrontBusy': WHATEVER THE INPUT: true; the input reads as it did. -/
def frontBusySpec : ChangeSpec := { name := "frontBusy", fn := fun _ => fun
  | [d1, d2] => { results := [.lit (.bool true)], args := [d1, d2] }
  | _ => none }
def frontBusyRow : OpenClaim := { program := "yteabdojjllfcpaagreat", sum := "cbf28646396c3d0a368b9417940307689b1af7eb917badb4a8a7cabbd25aa647", func := "broadsheet/broadsheetlaw17.FrontBusy", spec := "frontBusy", unfollowed := true, recurses := true, apart := false }
def FrontBusySaid : Prop := frontBusyRow.holds Tryz.pinned (OpenSpec.ofChange frontBusySpec)

/-- ITS FALSE NEIGHBOUR: 'it returns false'. Refute it at one input. -/
def frontBusyWrong : ChangeSpec := { name := "frontBusy", fn := fun _ => fun
  | [d1, d2] => { results := [.lit (.bool false)], args := [d1, d2] }
  | _ => none }
def FrontBusyWrongFalsely : Prop := frontBusyRow.holds Tryz.pinned (OpenSpec.ofChange frontBusyWrong)

/-- 'broadsheetlaw17.FrontTimes': WHATEVER THE INPUT: true; the input reads as it did. -/
def frontTimesSpec : ChangeSpec := { name := "frontTimes", fn := fun _ => fun
  | [d1, d2, d3] => { results := [.lit (.bool true)], args := [d1, d2, d3] }
  | _ => none }
def frontTimesRow : OpenClaim := { program := "yteabdojjllfcpaagreat", sum := "cbf28646396c3d0a368b9417940307689b1af7eb917badb4a8a7cabbd25aa647", func := "broadsheet/broadsheetlaw17.FrontTimes", spec := "frontTimes", unfollowed := true, recurses := true, apart := false }
def FrontTimesSaid : Prop := frontTimesRow.holds Tryz.pinned (OpenSpec.ofChange frontTimesSpec)

/-- ITS FALSE NEIGHBOUR: 'it returns false'. Refute it at one input. -/
def frontTimesWrong : ChangeSpec := { name := "frontTimes", fn := fun _ => fun
  | [d1, d2, d3] => { results := [.lit (.bool false)], args := [d1, d2, d3] }
  | _ => none }
def FrontTimesWrongFalsely : Prop := frontTimesRow.holds Tryz.pinned (OpenSpec.ofChange frontTimesWrong)

/- THE SECOND FORM. 'bulk': how many values and letters a reading holds, each counted each time it is reached (what is shared counts as often as it is met; a slice's spare places count too). A statement '..UptoSaid' is the law's where the arguments, and the package variables that the reading takes, are together of bulk at most 1048576: NARROWER than '..Said'. Prove '..Said' where nothing that the law and all that it calls make is longer than what came in: it says more and counts as full. Else prove '..UptoSaid'. A law counts once. -/
mutual
def uptoBulk {H : Type} : DataW H → Nat
  | .lit (.string bytes) => bytes.length + 1
  | .lit _ => 1
  | .nil => 1
  | .ptr d => uptoBulk d + 1
  | .slice elems spare => uptoBulkAll elems + uptoBulkAll spare + 1
  | .agg parts => uptoBulkAll parts + 1
  | .iface _ d => uptoBulk d + 1
  | .map entries => uptoBulkEntries entries + 1
  | .held _ => 1
def uptoBulkAll {H : Type} : List (DataW H) → Nat
  | [] => 0
  | d :: r => uptoBulk d + uptoBulkAll r
def uptoBulkEntries {H : Type} : List (Lit × DataW H) → Nat
  | [] => 0
  | x :: r => uptoBulkEntry x + uptoBulkEntries r
def uptoBulkEntry {H : Type} : Lit × DataW H → Nat
  | (.string bytes, d) => bytes.length + uptoBulk d + 1
  | (_, d) => uptoBulk d + 1
 end
def uptoSmall : (H : Type) → List (DataW H) → Bool := fun _ ds => decide (uptoBulkAll ds ≤ 1048576)
def OpenSpec.upto (s : _root_.Go.ChangeSpec) : _root_.Go.OpenSpec := { _root_.Go.OpenSpec.ofChange s with cond := some uptoSmall }

/-- 'broadsheetlaw17.FrontNumbers', WHERE WHAT IT READS IS OF BULK AT MOST 1048576: true; the input reads as it did. -/
def frontNumbersUptoRow : OpenClaim := { program := "yteabdojjllfcpaagreat", sum := "cbf28646396c3d0a368b9417940307689b1af7eb917badb4a8a7cabbd25aa647", func := "broadsheet/broadsheetlaw17.FrontNumbers", spec := "frontNumbers", unfollowed := true, recurses := true, apart := false, narrowed := true }
def FrontNumbersUptoSaid : Prop := frontNumbersUptoRow.holds Tryz.pinned (OpenSpec.upto frontNumbersSpec)

/-- 'broadsheetlaw17.FrontPlays', WHERE WHAT IT READS IS OF BULK AT MOST 1048576: true; the input reads as it did. -/
def frontPlaysUptoRow : OpenClaim := { program := "yteabdojjllfcpaagreat", sum := "cbf28646396c3d0a368b9417940307689b1af7eb917badb4a8a7cabbd25aa647", func := "broadsheet/broadsheetlaw17.FrontPlays", spec := "frontPlays", unfollowed := true, recurses := true, apart := false, narrowed := true }
def FrontPlaysUptoSaid : Prop := frontPlaysUptoRow.holds Tryz.pinned (OpenSpec.upto frontPlaysSpec)

/-- 'broadsheetlaw17.FrontKeeps', WHERE WHAT IT READS IS OF BULK AT MOST 1048576: true; the input reads as it did. -/
def frontKeepsUptoRow : OpenClaim := { program := "yteabdojjllfcpaagreat", sum := "cbf28646396c3d0a368b9417940307689b1af7eb917badb4a8a7cabbd25aa647", func := "broadsheet/broadsheetlaw17.FrontKeeps", spec := "frontKeeps", unfollowed := true, recurses := true, apart := false, narrowed := true }
def FrontKeepsUptoSaid : Prop := frontKeepsUptoRow.holds Tryz.pinned (OpenSpec.upto frontKeepsSpec)

/-- 'broadsheetlaw17.FrontEmpties', WHERE WHAT IT READS IS OF BULK AT MOST 1048576: true; the input reads as it did. -/
def frontEmptiesUptoRow : OpenClaim := { program := "yteabdojjllfcpaagreat", sum := "cbf28646396c3d0a368b9417940307689b1af7eb917badb4a8a7cabbd25aa647", func := "broadsheet/broadsheetlaw17.FrontEmpties", spec := "frontEmpties", unfollowed := true, recurses := true, apart := false, narrowed := true }
def FrontEmptiesUptoSaid : Prop := frontEmptiesUptoRow.holds Tryz.pinned (OpenSpec.upto frontEmptiesSpec)

/-- 'broadsheetlaw17.FrontBusy', WHERE WHAT IT READS IS OF BULK AT MOST 1048576: true; the input reads as it did. -/
def frontBusyUptoRow : OpenClaim := { program := "yteabdojjllfcpaagreat", sum := "cbf28646396c3d0a368b9417940307689b1af7eb917badb4a8a7cabbd25aa647", func := "broadsheet/broadsheetlaw17.FrontBusy", spec := "frontBusy", unfollowed := true, recurses := true, apart := false, narrowed := true }
def FrontBusyUptoSaid : Prop := frontBusyUptoRow.holds Tryz.pinned (OpenSpec.upto frontBusySpec)

/-- 'broadsheetlaw17.FrontTimes', WHERE WHAT IT READS IS OF BULK AT MOST 1048576: true; the input reads as it did. -/
def frontTimesUptoRow : OpenClaim := { program := "yteabdojjllfcpaagreat", sum := "cbf28646396c3d0a368b9417940307689b1af7eb917badb4a8a7cabbd25aa647", func := "broadsheet/broadsheetlaw17.FrontTimes", spec := "frontTimes", unfollowed := true, recurses := true, apart := false, narrowed := true }
def FrontTimesUptoSaid : Prop := frontTimesUptoRow.holds Tryz.pinned (OpenSpec.upto frontTimesSpec)

end Rows
end Go.Proofs.YteabdojjllfcpaaGreat
