/-
  The contract of the program's schedule: the words of a block.
-/
import Derived.Test.YtioflclfgkcpfaaKHTail
namespace Go.Proofs.Ytioflclfgkcpfaa
open Go.RowKit
theorem sch_set (bs : List Int) (k : Nat) (hk : k < 64) (x : Int) (hx : sch bs (k + 1) = sch bs k ++ [x]) : (sch bs k ++ List.replicate (64 - k) 0).set k x = sch bs (k + 1) ++ List.replicate (64 - (k + 1)) 0 := by
  have h := sch_len bs k
  rw [hx, List.set_append_right _ _ (by omega), h, Nat.sub_self, show 64 - k = (64 - (k + 1)) + 1 by omega, List.replicate_succ, List.set_cons_zero, List.append_assoc]
  rfl
theorem ad4 (a b c d : Int) : ad (ad (ad a b) c) d = (a + b + c + d) % 4294967296 := by unfold ad; omega
end Go.Proofs.Ytioflclfgkcpfaa
