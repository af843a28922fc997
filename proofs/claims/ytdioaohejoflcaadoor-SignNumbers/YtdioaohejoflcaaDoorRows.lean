/-
  NARROWER THAN 'FOR EVERY INPUT', by the rows' own cells (each row's printed sentence says how): SignNumbers: laid · SignTells: laid · SignTurned: laid · SignBack: laid · SignKeys: laid · SignOthers: laid.
  DERIVED. THE GIVEN ROWS OF THIS SEAT. 6 by the template 'for every input the law returns true; each argument reads behind the call as it read before'; 0 by the template 'total and deterministic' (their statements: YtdioaohejoflcaaDoorTotals.lean).
  GIVEN WITH THE SEED: the statements are not yours to turn. If you find one false, say at which input.
  Laid BY PROGRAM, IN A SANDBOX (cutbox-rows.mjs): the forced cells as the released guide's own fill.sh prints them over the translation e2171569ef44ac88… (all of the seat's roots in one cut). By AI agents, Wed Nov 11 2026. No macro, syntax, notation, axiom, sorry.
-/
import Derived.Test.YtdioaohejoflcaaDoorChecked
import GoSem.Claim
import GoSem.ClaimJoined
import GoSem.ClaimMapViews
import Derived.JoinedTies
import Derived.KernelRfl
namespace Go.Proofs.YtdioaohejoflcaaDoor
/- THE CELL 'sum', in the pinned program and in every row, IS THE sha256 OF THE DUMP (.gsa) THAT YtdioaohejoflcaaDoorProg.lean LOADS. Nothing in Lean hashes anything: it is a label: what it is worth is what the hold of that sum in a sandbox is worth. -/
noncomputable def Tryd.pinned : Pinned := { name := "ytdioaohejoflcaadoor", sum := "e2171569ef44ac8850742c364f59145c1c114f5ef756594e5a0c2e786bc08e41", checked := Tryd.checked }
namespace Rows
def none {H : Type} : Left H := { results := [], args := [] }

/- WHAT THE LISTED PACKAGE-LEVEL VARIABLES READ AS WHEN THE CALL BEGINS. Each datum BY PROGRAM (the guide's laid-datum.mjs) off the statement by which the dump's own 'gosem.cut.vars' lays the variable. In a bare row this is a premise. The card (YtdioaohejoflcaaDoorCards.lean) ties it to the program's text. -/
def laid_broadsheet_hash_roundWords {H : Type} : DataW H := .agg [.lit (.int .u32 1116352408), .lit (.int .u32 1899447441), .lit (.int .u32 3049323471), .lit (.int .u32 3921009573), .lit (.int .u32 961987163), .lit (.int .u32 1508970993), .lit (.int .u32 2453635748), .lit (.int .u32 2870763221), .lit (.int .u32 3624381080), .lit (.int .u32 310598401), .lit (.int .u32 607225278), .lit (.int .u32 1426881987), .lit (.int .u32 1925078388), .lit (.int .u32 2162078206), .lit (.int .u32 2614888103), .lit (.int .u32 3248222580), .lit (.int .u32 3835390401), .lit (.int .u32 4022224774), .lit (.int .u32 264347078), .lit (.int .u32 604807628), .lit (.int .u32 770255983), .lit (.int .u32 1249150122), .lit (.int .u32 1555081692), .lit (.int .u32 1996064986), .lit (.int .u32 2554220882), .lit (.int .u32 2821834349), .lit (.int .u32 2952996808), .lit (.int .u32 3210313671), .lit (.int .u32 3336571891), .lit (.int .u32 3584528711), .lit (.int .u32 113926993), .lit (.int .u32 338241895), .lit (.int .u32 666307205), .lit (.int .u32 773529912), .lit (.int .u32 1294757372), .lit (.int .u32 1396182291), .lit (.int .u32 1695183700), .lit (.int .u32 1986661051), .lit (.int .u32 2177026350), .lit (.int .u32 2456956037), .lit (.int .u32 2730485921), .lit (.int .u32 2820302411), .lit (.int .u32 3259730800), .lit (.int .u32 3345764771), .lit (.int .u32 3516065817), .lit (.int .u32 3600352804), .lit (.int .u32 4094571909), .lit (.int .u32 275423344), .lit (.int .u32 430227734), .lit (.int .u32 506948616), .lit (.int .u32 659060556), .lit (.int .u32 883997877), .lit (.int .u32 958139571), .lit (.int .u32 1322822218), .lit (.int .u32 1537002063), .lit (.int .u32 1747873779), .lit (.int .u32 1955562222), .lit (.int .u32 2024104815), .lit (.int .u32 2227730452), .lit (.int .u32 2361852424), .lit (.int .u32 2428436474), .lit (.int .u32 2756734187), .lit (.int .u32 3204031479), .lit (.int .u32 3329325298)]

/-- 'broadsheetlaw5.SignNumbers': WHATEVER THE INPUT: true; the input reads as it did. -/
def signNumbersSpec : ChangeSpec := { name := "signNumbers", fn := fun _ => fun
  | [] => { results := [.lit (.bool true)], args := [] }
  | _ => none }
def signNumbersRow : OpenClaim := { program := "ytdioaohejoflcaadoor", sum := "e2171569ef44ac8850742c364f59145c1c114f5ef756594e5a0c2e786bc08e41", func := "broadsheet/broadsheetlaw5.SignNumbers", spec := "signNumbers", unfollowed := true, recurses := true, named := ["broadsheet/hash.roundWords"], apart := false, laid := [("broadsheet/hash.roundWords", laid_broadsheet_hash_roundWords)] }
def SignNumbersSaid : Prop := signNumbersRow.holds Tryd.pinned (OpenSpec.ofChange signNumbersSpec)

/-- ITS FALSE NEIGHBOUR: 'it returns false'. Refute it at one input. -/
def signNumbersWrong : ChangeSpec := { name := "signNumbers", fn := fun _ => fun
  | [] => { results := [.lit (.bool false)], args := [] }
  | _ => none }
def SignNumbersWrongFalsely : Prop := signNumbersRow.holds Tryd.pinned (OpenSpec.ofChange signNumbersWrong)

/-- 'broadsheetlaw5.SignTells': WHATEVER THE INPUT: true; the input reads as it did. -/
def signTellsSpec : ChangeSpec := { name := "signTells", fn := fun _ => fun
  | [d1, d2, d3, d4] => { results := [.lit (.bool true)], args := [d1, d2, d3, d4] }
  | _ => none }
def signTellsRow : OpenClaim := { program := "ytdioaohejoflcaadoor", sum := "e2171569ef44ac8850742c364f59145c1c114f5ef756594e5a0c2e786bc08e41", func := "broadsheet/broadsheetlaw5.SignTells", spec := "signTells", unfollowed := true, recurses := true, named := ["broadsheet/hash.roundWords"], apart := false, laid := [("broadsheet/hash.roundWords", laid_broadsheet_hash_roundWords)] }
def SignTellsSaid : Prop := signTellsRow.holds Tryd.pinned (OpenSpec.ofChange signTellsSpec)

/-- ITS FALSE NEIGHBOUR: 'it returns false'. Refute it at one input. -/
def signTellsWrong : ChangeSpec := { name := "signTells", fn := fun _ => fun
  | [d1, d2, d3, d4] => { results := [.lit (.bool false)], args := [d1, d2, d3, d4] }
  | _ => none }
def SignTellsWrongFalsely : Prop := signTellsRow.holds Tryd.pinned (OpenSpec.ofChange signTellsWrong)

/-- 'broadsheetlaw5.SignTurned': WHATEVER THE INPUT: true; the input reads as it did. -/
def signTurnedSpec : ChangeSpec := { name := "signTurned", fn := fun _ => fun
  | [d1, d2, d3, d4, d5, d6, d7] => { results := [.lit (.bool true)], args := [d1, d2, d3, d4, d5, d6, d7] }
  | _ => none }
def signTurnedRow : OpenClaim := { program := "ytdioaohejoflcaadoor", sum := "e2171569ef44ac8850742c364f59145c1c114f5ef756594e5a0c2e786bc08e41", func := "broadsheet/broadsheetlaw5.SignTurned", spec := "signTurned", unfollowed := true, recurses := true, named := ["broadsheet/hash.roundWords"], apart := false, laid := [("broadsheet/hash.roundWords", laid_broadsheet_hash_roundWords)] }
def SignTurnedSaid : Prop := signTurnedRow.holds Tryd.pinned (OpenSpec.ofChange signTurnedSpec)

/-- ITS FALSE NEIGHBOUR: 'it returns false'. Refute it at one input. -/
def signTurnedWrong : ChangeSpec := { name := "signTurned", fn := fun _ => fun
  | [d1, d2, d3, d4, d5, d6, d7] => { results := [.lit (.bool false)], args := [d1, d2, d3, d4, d5, d6, d7] }
  | _ => none }
def SignTurnedWrongFalsely : Prop := signTurnedRow.holds Tryd.pinned (OpenSpec.ofChange signTurnedWrong)

/-- 'broadsheetlaw5.SignBack': WHATEVER THE INPUT: true; the input reads as it did. -/
def signBackSpec : ChangeSpec := { name := "signBack", fn := fun _ => fun
  | [d1, d2, d3, d4, d5, d6] => { results := [.lit (.bool true)], args := [d1, d2, d3, d4, d5, d6] }
  | _ => none }
def signBackRow : OpenClaim := { program := "ytdioaohejoflcaadoor", sum := "e2171569ef44ac8850742c364f59145c1c114f5ef756594e5a0c2e786bc08e41", func := "broadsheet/broadsheetlaw5.SignBack", spec := "signBack", unfollowed := true, recurses := true, named := ["broadsheet/hash.roundWords"], apart := false, laid := [("broadsheet/hash.roundWords", laid_broadsheet_hash_roundWords)] }
def SignBackSaid : Prop := signBackRow.holds Tryd.pinned (OpenSpec.ofChange signBackSpec)

/-- ITS FALSE NEIGHBOUR: 'it returns false'. Refute it at one input. -/
def signBackWrong : ChangeSpec := { name := "signBack", fn := fun _ => fun
  | [d1, d2, d3, d4, d5, d6] => { results := [.lit (.bool false)], args := [d1, d2, d3, d4, d5, d6] }
  | _ => none }
def SignBackWrongFalsely : Prop := signBackRow.holds Tryd.pinned (OpenSpec.ofChange signBackWrong)

/-- 'broadsheetlaw5.SignKeys': WHATEVER THE INPUT: true; the input reads as it did. -/
def signKeysSpec : ChangeSpec := { name := "signKeys", fn := fun _ => fun
  | [d1, d2] => { results := [.lit (.bool true)], args := [d1, d2] }
  | _ => none }
def signKeysRow : OpenClaim := { program := "ytdioaohejoflcaadoor", sum := "e2171569ef44ac8850742c364f59145c1c114f5ef756594e5a0c2e786bc08e41", func := "broadsheet/broadsheetlaw5.SignKeys", spec := "signKeys", unfollowed := true, recurses := true, named := ["broadsheet/hash.roundWords"], apart := false, laid := [("broadsheet/hash.roundWords", laid_broadsheet_hash_roundWords)] }
def SignKeysSaid : Prop := signKeysRow.holds Tryd.pinned (OpenSpec.ofChange signKeysSpec)

/-- ITS FALSE NEIGHBOUR: 'it returns false'. Refute it at one input. -/
def signKeysWrong : ChangeSpec := { name := "signKeys", fn := fun _ => fun
  | [d1, d2] => { results := [.lit (.bool false)], args := [d1, d2] }
  | _ => none }
def SignKeysWrongFalsely : Prop := signKeysRow.holds Tryd.pinned (OpenSpec.ofChange signKeysWrong)

/-- 'broadsheetlaw5.SignOthers': WHATEVER THE INPUT: true; the input reads as it did. -/
def signOthersSpec : ChangeSpec := { name := "signOthers", fn := fun _ => fun
  | [d1, d2, d3, d4, d5] => { results := [.lit (.bool true)], args := [d1, d2, d3, d4, d5] }
  | _ => none }
def signOthersRow : OpenClaim := { program := "ytdioaohejoflcaadoor", sum := "e2171569ef44ac8850742c364f59145c1c114f5ef756594e5a0c2e786bc08e41", func := "broadsheet/broadsheetlaw5.SignOthers", spec := "signOthers", unfollowed := true, recurses := true, named := ["broadsheet/hash.roundWords"], apart := false, laid := [("broadsheet/hash.roundWords", laid_broadsheet_hash_roundWords)] }
def SignOthersSaid : Prop := signOthersRow.holds Tryd.pinned (OpenSpec.ofChange signOthersSpec)

/-- ITS FALSE NEIGHBOUR: 'it returns false'. Refute it at one input. -/
def signOthersWrong : ChangeSpec := { name := "signOthers", fn := fun _ => fun
  | [d1, d2, d3, d4, d5] => { results := [.lit (.bool false)], args := [d1, d2, d3, d4, d5] }
  | _ => none }
def SignOthersWrongFalsely : Prop := signOthersRow.holds Tryd.pinned (OpenSpec.ofChange signOthersWrong)

/- THE SECOND FORM. 'bulk': how many values and letters a reading holds, each counted each time it is reached (what is shared counts as often as it is met; a slice's spare places count too). A statement '..UptoSaid' is the law's where the arguments, and the package variables that the reading takes, are together of bulk at most 1048576: NARROWER than '..Said'. Prove '..Said' where nothing that the law and all that it calls make is longer than what came in: it says more and counts as full. Else prove '..UptoSaid'. A law counts once. -/
mutual
def uptoBulk {H : Type} : DataW H → Nat
  | .lit (.string bytes) => bytes.length + 1
  | .lit _ => 1
  | .nil => 1
  | .ptr d => uptoBulk d + 1
  | .slice elems spare => uptoBulkAll elems + uptoBulkAll spare + 1
  | .agg parts => uptoBulkAll parts + 1
  | .iface _ d => uptoBulk d + 1
  | .map entries => uptoBulkEntries entries + 1
  | .held _ => 1
def uptoBulkAll {H : Type} : List (DataW H) → Nat
  | [] => 0
  | d :: r => uptoBulk d + uptoBulkAll r
def uptoBulkEntries {H : Type} : List (Lit × DataW H) → Nat
  | [] => 0
  | x :: r => uptoBulkEntry x + uptoBulkEntries r
def uptoBulkEntry {H : Type} : Lit × DataW H → Nat
  | (.string bytes, d) => bytes.length + uptoBulk d + 1
  | (_, d) => uptoBulk d + 1
 end
def uptoSmall : (H : Type) → List (DataW H) → Bool := fun _ ds => decide (uptoBulkAll ds ≤ 1048576)
def OpenSpec.upto (s : _root_.Go.ChangeSpec) : _root_.Go.OpenSpec := { _root_.Go.OpenSpec.ofChange s with cond := some uptoSmall }

/-- 'broadsheetlaw5.SignNumbers', WHERE WHAT IT READS IS OF BULK AT MOST 1048576: true; the input reads as it did. -/
def signNumbersUptoRow : OpenClaim := { program := "ytdioaohejoflcaadoor", sum := "e2171569ef44ac8850742c364f59145c1c114f5ef756594e5a0c2e786bc08e41", func := "broadsheet/broadsheetlaw5.SignNumbers", spec := "signNumbers", unfollowed := true, recurses := true, named := ["broadsheet/hash.roundWords"], apart := false, laid := [("broadsheet/hash.roundWords", laid_broadsheet_hash_roundWords)], narrowed := true }
def SignNumbersUptoSaid : Prop := signNumbersUptoRow.holds Tryd.pinned (OpenSpec.upto signNumbersSpec)

/-- 'broadsheetlaw5.SignTells', WHERE WHAT IT READS IS OF BULK AT MOST 1048576: true; the input reads as it did. -/
def signTellsUptoRow : OpenClaim := { program := "ytdioaohejoflcaadoor", sum := "e2171569ef44ac8850742c364f59145c1c114f5ef756594e5a0c2e786bc08e41", func := "broadsheet/broadsheetlaw5.SignTells", spec := "signTells", unfollowed := true, recurses := true, named := ["broadsheet/hash.roundWords"], apart := false, laid := [("broadsheet/hash.roundWords", laid_broadsheet_hash_roundWords)], narrowed := true }
def SignTellsUptoSaid : Prop := signTellsUptoRow.holds Tryd.pinned (OpenSpec.upto signTellsSpec)

/-- 'broadsheetlaw5.SignTurned', WHERE WHAT IT READS IS OF BULK AT MOST 1048576: true; the input reads as it did. -/
def signTurnedUptoRow : OpenClaim := { program := "ytdioaohejoflcaadoor", sum := "e2171569ef44ac8850742c364f59145c1c114f5ef756594e5a0c2e786bc08e41", func := "broadsheet/broadsheetlaw5.SignTurned", spec := "signTurned", unfollowed := true, recurses := true, named := ["broadsheet/hash.roundWords"], apart := false, laid := [("broadsheet/hash.roundWords", laid_broadsheet_hash_roundWords)], narrowed := true }
def SignTurnedUptoSaid : Prop := signTurnedUptoRow.holds Tryd.pinned (OpenSpec.upto signTurnedSpec)

/-- 'broadsheetlaw5.SignBack', WHERE WHAT IT READS IS OF BULK AT MOST 1048576: true; the input reads as it did. -/
def signBackUptoRow : OpenClaim := { program := "ytdioaohejoflcaadoor", sum := "e2171569ef44ac8850742c364f59145c1c114f5ef756594e5a0c2e786bc08e41", func := "broadsheet/broadsheetlaw5.SignBack", spec := "signBack", unfollowed := true, recurses := true, named := ["broadsheet/hash.roundWords"], apart := false, laid := [("broadsheet/hash.roundWords", laid_broadsheet_hash_roundWords)], narrowed := true }
def SignBackUptoSaid : Prop := signBackUptoRow.holds Tryd.pinned (OpenSpec.upto signBackSpec)

/-- 'broadsheetlaw5.SignKeys', WHERE WHAT IT READS IS OF BULK AT MOST 1048576: true; the input reads as it did. -/
def signKeysUptoRow : OpenClaim := { program := "ytdioaohejoflcaadoor", sum := "e2171569ef44ac8850742c364f59145c1c114f5ef756594e5a0c2e786bc08e41", func := "broadsheet/broadsheetlaw5.SignKeys", spec := "signKeys", unfollowed := true, recurses := true, named := ["broadsheet/hash.roundWords"], apart := false, laid := [("broadsheet/hash.roundWords", laid_broadsheet_hash_roundWords)], narrowed := true }
def SignKeysUptoSaid : Prop := signKeysUptoRow.holds Tryd.pinned (OpenSpec.upto signKeysSpec)

/-- 'broadsheetlaw5.SignOthers', WHERE WHAT IT READS IS OF BULK AT MOST 1048576: true; the input reads as it did. -/
def signOthersUptoRow : OpenClaim := { program := "ytdioaohejoflcaadoor", sum := "e2171569ef44ac8850742c364f59145c1c114f5ef756594e5a0c2e786bc08e41", func := "broadsheet/broadsheetlaw5.SignOthers", spec := "signOthers", unfollowed := true, recurses := true, named := ["broadsheet/hash.roundWords"], apart := false, laid := [("broadsheet/hash.roundWords", laid_broadsheet_hash_roundWords)], narrowed := true }
def SignOthersUptoSaid : Prop := signOthersUptoRow.holds Tryd.pinned (OpenSpec.upto signOthersSpec)

end Rows
end Go.Proofs.YtdioaohejoflcaaDoor
