/-
  No cell of these rows narrows 'for every input' (looked for: loops, veiled, ifaces, maps, wideKeys, modest, calm, conditions, laid).
  DERIVED. THE GIVEN ROWS OF THIS SEAT. 4 by the template 'for every input the law returns true; each argument reads behind the call as it read before'; 0 by the template 'total and deterministic' (their statements: YtioflclfgkcpfaaTotals.lean).
  GIVEN WITH THE SEED: the statements are not yours to turn. If you find one false, say at which input.
  Laid BY PROGRAM, IN A SANDBOX (cutbox-rows.mjs): the forced cells as the released guide's own fill.sh prints them over the translation ad7764e33ada04e6… (all of the seat's roots in one cut). By AI agents, Wed Nov 11 2026. No macro, syntax, notation, axiom, sorry.
-/
import Derived.Test.YtioflclfgkcpfaaChecked
import GoSem.Claim
import GoSem.ClaimJoined
import GoSem.ClaimMapViews
import Derived.JoinedTies
import Derived.KernelRfl
namespace Go.Proofs.Ytioflclfgkcpfaa
/- THE CELL 'sum', in the pinned program and in every row, IS THE sha256 OF THE DUMP (.gsa) THAT YtioflclfgkcpfaaProg.lean LOADS. Nothing in Lean hashes anything: it is a label: what it is worth is what the hold of that sum in a sandbox is worth. -/
noncomputable def Try.pinned : Pinned := { name := "ytioflclfgkcpfaa", sum := "ad7764e33ada04e6a4e3d20b01df3efd8560cf451e855a1ad088f1377dc2bef8", checked := Try.checked }
namespace Rows
def none {H : Type} : Left H := { results := [], args := [] }

/-- 'broadsheetlaw9.ManifestBack': WHATEVER THE INPUT: true; the input reads as it did. -/
def manifestBackSpec : ChangeSpec := { name := "manifestBack", fn := fun _ => fun
  | [d1, d2, d3, d4, d5] => { results := [.lit (.bool true)], args := [d1, d2, d3, d4, d5] }
  | _ => none }
def manifestBackRow : OpenClaim := { program := "ytioflclfgkcpfaa", sum := "ad7764e33ada04e6a4e3d20b01df3efd8560cf451e855a1ad088f1377dc2bef8", func := "broadsheet/broadsheetlaw9.ManifestBack", spec := "manifestBack", apart := false }
def ManifestBackSaid : Prop := manifestBackRow.holds Try.pinned (OpenSpec.ofChange manifestBackSpec)

/-- ITS FALSE NEIGHBOUR: 'it returns false'. Refute it at one input. -/
def manifestBackWrong : ChangeSpec := { name := "manifestBack", fn := fun _ => fun
  | [d1, d2, d3, d4, d5] => { results := [.lit (.bool false)], args := [d1, d2, d3, d4, d5] }
  | _ => none }
def ManifestBackWrongFalsely : Prop := manifestBackRow.holds Try.pinned (OpenSpec.ofChange manifestBackWrong)

/-- 'broadsheetlaw9.ManifestNewer': WHATEVER THE INPUT: true; the input reads as it did. -/
def manifestNewerSpec : ChangeSpec := { name := "manifestNewer", fn := fun _ => fun
  | [d1, d2, d3, d4, d5] => { results := [.lit (.bool true)], args := [d1, d2, d3, d4, d5] }
  | _ => none }
def manifestNewerRow : OpenClaim := { program := "ytioflclfgkcpfaa", sum := "ad7764e33ada04e6a4e3d20b01df3efd8560cf451e855a1ad088f1377dc2bef8", func := "broadsheet/broadsheetlaw9.ManifestNewer", spec := "manifestNewer", apart := false }
def ManifestNewerSaid : Prop := manifestNewerRow.holds Try.pinned (OpenSpec.ofChange manifestNewerSpec)

/-- ITS FALSE NEIGHBOUR: 'it returns false'. Refute it at one input. -/
def manifestNewerWrong : ChangeSpec := { name := "manifestNewer", fn := fun _ => fun
  | [d1, d2, d3, d4, d5] => { results := [.lit (.bool false)], args := [d1, d2, d3, d4, d5] }
  | _ => none }
def ManifestNewerWrongFalsely : Prop := manifestNewerRow.holds Try.pinned (OpenSpec.ofChange manifestNewerWrong)

/-- 'broadsheetlaw9.ManifestCuts': WHATEVER THE INPUT: true; the input reads as it did. -/
def manifestCutsSpec : ChangeSpec := { name := "manifestCuts", fn := fun _ => fun
  | [d1, d2, d3, d4, d5] => { results := [.lit (.bool true)], args := [d1, d2, d3, d4, d5] }
  | _ => none }
def manifestCutsRow : OpenClaim := { program := "ytioflclfgkcpfaa", sum := "ad7764e33ada04e6a4e3d20b01df3efd8560cf451e855a1ad088f1377dc2bef8", func := "broadsheet/broadsheetlaw9.ManifestCuts", spec := "manifestCuts", apart := false }
def ManifestCutsSaid : Prop := manifestCutsRow.holds Try.pinned (OpenSpec.ofChange manifestCutsSpec)

/-- ITS FALSE NEIGHBOUR: 'it returns false'. Refute it at one input. -/
def manifestCutsWrong : ChangeSpec := { name := "manifestCuts", fn := fun _ => fun
  | [d1, d2, d3, d4, d5] => { results := [.lit (.bool false)], args := [d1, d2, d3, d4, d5] }
  | _ => none }
def ManifestCutsWrongFalsely : Prop := manifestCutsRow.holds Try.pinned (OpenSpec.ofChange manifestCutsWrong)

/-- 'broadsheetlaw9.ManifestFields': WHATEVER THE INPUT: true; the input reads as it did. -/
def manifestFieldsSpec : ChangeSpec := { name := "manifestFields", fn := fun _ => fun
  | [d1, d2, d3, d4, d5] => { results := [.lit (.bool true)], args := [d1, d2, d3, d4, d5] }
  | _ => none }
def manifestFieldsRow : OpenClaim := { program := "ytioflclfgkcpfaa", sum := "ad7764e33ada04e6a4e3d20b01df3efd8560cf451e855a1ad088f1377dc2bef8", func := "broadsheet/broadsheetlaw9.ManifestFields", spec := "manifestFields", apart := false }
def ManifestFieldsSaid : Prop := manifestFieldsRow.holds Try.pinned (OpenSpec.ofChange manifestFieldsSpec)

/-- ITS FALSE NEIGHBOUR: 'it returns false'. Refute it at one input. -/
def manifestFieldsWrong : ChangeSpec := { name := "manifestFields", fn := fun _ => fun
  | [d1, d2, d3, d4, d5] => { results := [.lit (.bool false)], args := [d1, d2, d3, d4, d5] }
  | _ => none }
def ManifestFieldsWrongFalsely : Prop := manifestFieldsRow.holds Try.pinned (OpenSpec.ofChange manifestFieldsWrong)

/- THE SECOND FORM. 'bulk': how many values and letters a reading holds, each counted each time it is reached (what is shared counts as often as it is met; a slice's spare places count too). A statement '..UptoSaid' is the law's where the arguments, and the package variables that the reading takes, are together of bulk at most 1048576: NARROWER than '..Said'. Prove '..Said' where nothing that the law and all that it calls make is longer than what came in: it says more and counts as full. Else prove '..UptoSaid'. A law counts once. -/
mutual
def uptoBulk {H : Type} : DataW H → Nat
  | .lit (.string bytes) => bytes.length + 1
  | .lit _ => 1
  | .nil => 1
  | .ptr d => uptoBulk d + 1
  | .slice elems spare => uptoBulkAll elems + uptoBulkAll spare + 1
  | .agg parts => uptoBulkAll parts + 1
  | .iface _ d => uptoBulk d + 1
  | .map entries => uptoBulkEntries entries + 1
  | .held _ => 1
def uptoBulkAll {H : Type} : List (DataW H) → Nat
  | [] => 0
  | d :: r => uptoBulk d + uptoBulkAll r
def uptoBulkEntries {H : Type} : List (Lit × DataW H) → Nat
  | [] => 0
  | x :: r => uptoBulkEntry x + uptoBulkEntries r
def uptoBulkEntry {H : Type} : Lit × DataW H → Nat
  | (.string bytes, d) => bytes.length + uptoBulk d + 1
  | (_, d) => uptoBulk d + 1
 end
def uptoSmall : (H : Type) → List (DataW H) → Bool := fun _ ds => decide (uptoBulkAll ds ≤ 1048576)
def OpenSpec.upto (s : _root_.Go.ChangeSpec) : _root_.Go.OpenSpec := { _root_.Go.OpenSpec.ofChange s with cond := some uptoSmall }

/-- 'broadsheetlaw9.ManifestBack', WHERE WHAT IT READS IS OF BULK AT MOST 1048576: true; the input reads as it did. -/
def manifestBackUptoRow : OpenClaim := { program := "ytioflclfgkcpfaa", sum := "ad7764e33ada04e6a4e3d20b01df3efd8560cf451e855a1ad088f1377dc2bef8", func := "broadsheet/broadsheetlaw9.ManifestBack", spec := "manifestBack", apart := false, narrowed := true }
def ManifestBackUptoSaid : Prop := manifestBackUptoRow.holds Try.pinned (OpenSpec.upto manifestBackSpec)

/-- 'broadsheetlaw9.ManifestNewer', WHERE WHAT IT READS IS OF BULK AT MOST 1048576: true; the input reads as it did. -/
def manifestNewerUptoRow : OpenClaim := { program := "ytioflclfgkcpfaa", sum := "ad7764e33ada04e6a4e3d20b01df3efd8560cf451e855a1ad088f1377dc2bef8", func := "broadsheet/broadsheetlaw9.ManifestNewer", spec := "manifestNewer", apart := false, narrowed := true }
def ManifestNewerUptoSaid : Prop := manifestNewerUptoRow.holds Try.pinned (OpenSpec.upto manifestNewerSpec)

/-- 'broadsheetlaw9.ManifestCuts', WHERE WHAT IT READS IS OF BULK AT MOST 1048576: true; the input reads as it did. -/
def manifestCutsUptoRow : OpenClaim := { program := "ytioflclfgkcpfaa", sum := "ad7764e33ada04e6a4e3d20b01df3efd8560cf451e855a1ad088f1377dc2bef8", func := "broadsheet/broadsheetlaw9.ManifestCuts", spec := "manifestCuts", apart := false, narrowed := true }
def ManifestCutsUptoSaid : Prop := manifestCutsUptoRow.holds Try.pinned (OpenSpec.upto manifestCutsSpec)

/-- 'broadsheetlaw9.ManifestFields', WHERE WHAT IT READS IS OF BULK AT MOST 1048576: true; the input reads as it did. -/
def manifestFieldsUptoRow : OpenClaim := { program := "ytioflclfgkcpfaa", sum := "ad7764e33ada04e6a4e3d20b01df3efd8560cf451e855a1ad088f1377dc2bef8", func := "broadsheet/broadsheetlaw9.ManifestFields", spec := "manifestFields", apart := false, narrowed := true }
def ManifestFieldsUptoSaid : Prop := manifestFieldsUptoRow.holds Try.pinned (OpenSpec.upto manifestFieldsSpec)

end Rows
end Go.Proofs.Ytioflclfgkcpfaa
