/-
  The contracts of Digest, of the program and of the reference.
-/
import Derived.Test.YtioflclfgkcpfaaDoorKOSpec
import Derived.Test.YtioflclfgkcpfaaDoorKHRoomy
import Derived.Test.YtioflclfgkcpfaaDoorKLAcc
namespace Go.Proofs.YtioflclfgkcpfaaDoor
open Go.RowKit

theorem val_take_succ (cs : List Int) (k : Nat) (h : k < cs.length) : val (cs.take (k + 1)) = val (cs.take k) * 256 + cs[k] := by
  rw [List.take_succ_eq_append_getElem h, val_snoc]
theorem val_small (cs : List Int) (hB : Bs cs) (h : cs.length ≤ 3) : val cs * 256 ≤ 4294967295 := by
  have h1 := val_bd cs hB
  have h2 : (256 : Nat) ^ cs.length ≤ 256 ^ 3 := Nat.pow_le_pow_right (by omega) h
  have h3 : (256 : Int) ^ cs.length = ((256 ^ cs.length : Nat) : Int) := by simp
  omega

end Go.Proofs.YtioflclfgkcpfaaDoor
