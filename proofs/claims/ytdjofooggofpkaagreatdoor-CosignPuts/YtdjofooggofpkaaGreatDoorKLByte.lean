/-
  The contracts of package wire's Byte of a writer and of a reader.
-/
import Derived.Test.YtdjofooggofpkaaGreatDoorKLSmalls
import Derived.Test.YtdjofooggofpkaaGreatDoorKSWire
namespace Go.Proofs.YtdjofooggofpkaaGreatDoor
open Go.RowKit
open Go.Proofs

theorem wbyte_any (p : Nat) (n : Int) (v : Value) (bs : List Int) (w : World) (hw : Wr w p v bs) (hb : bs.length ≤ 100000000000000) (h0 : 0 ≤ n) (h1 : n ≤ 255) :
    Calls Tryz.prog 28 #[.pointer (some ⟨p, 0, none⟩), .int .u8 n] w fun e w' => e = .returned (.tuple #[]) ∧ ∃ v', Wr w' p v' (bs ++ [n]) ∧ Step p w v w' v' := by
  have hw32 : IntKind.u32.wrap n = n := by simp [IntKind.wrap, IntKind.signed, IntKind.bits]; omega
  have hbe : be n 1 0 = [n] := by simp [be, byteAt]; omega
  go_enter Tryz.func28, Tryz.ntmps28
  go_wp2_with (go_at_call 49; refine (number_any p n 1 v bs _ hw (by omega) hb).mono ?_; rintro e w' ⟨rfl, v', h1, h2⟩)
  go_end0
  rw [hbe] at h1
  exact ⟨rfl, v', h1, h2⟩
theorem rbyte_any (q : Nat) (v : Value) (bad : Bool) (bs : List Int) (w : World) (hR : Rd w q v bad bs) (hB : Bs bs) :
    Calls Tryz.prog 32 #[.pointer (some ⟨q, 0, none⟩)] w fun e w' => e = .returned (.int .u8 (val (tk bad bs 1).1)) ∧ Left w q v (tk bad bs 1).2 w' := by
  have hv := val_one (tk bad bs 1).1 (tk_bs1 hB) (@tk_len1 bad bs 1)
  go_enter Tryz.func32, Tryz.ntmps32
  go_wp2_with (go_at_call 50; refine (rnumber_any q v bad bs 1 _ hR (by omega) (by omega) hB).mono ?_; rintro e w1 ⟨rfl, h1⟩)
  go_ret
  exact ⟨rfl, h1⟩
end Go.Proofs.YtdjofooggofpkaaGreatDoor
