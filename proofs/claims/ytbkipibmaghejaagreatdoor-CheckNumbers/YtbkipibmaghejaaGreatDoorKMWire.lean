/-
  The contracts of package wire's Byte and Bytes of a writer and of a reader, and End, over this seat's program.
-/
import Derived.Test.YtbkipibmaghejaaGreatDoorKLMan
namespace Go.Proofs.YtbkipibmaghejaaGreatDoor
open Go.RowKit
open Go.Proofs

theorem be_two (n : Int) : be n 2 0 = [n / 256 % 256, n % 256] := by simp [be, byteAt, List.range_succ]
theorem val_two (cs : List Int) (h : Bs cs) (hl : cs.length ≤ 2) : 0 ≤ val cs ∧ val cs ≤ 65535 := by
  have h1 := val_bd cs h
  have : cs.length = 0 ∨ cs.length = 1 ∨ cs.length = 2 := by omega
  rcases this with e | e | e <;> rw [e] at h1 <;> omega
theorem wbyte_any (p : Nat) (n : Int) (v : Value) (bs : List Int) (w : World) (hw : Wr w p v bs) (hb : bs.length ≤ 100000000000000) (h0 : 0 ≤ n) (h1 : n ≤ 255) :
    Calls Tryz.prog 31 #[.pointer (some ⟨p, 0, none⟩), .int .u8 n] w fun e w' => e = .returned (.tuple #[]) ∧ ∃ v', Wr w' p v' (bs ++ [n]) ∧ Step p w v w' v' := by
  have hw32 : IntKind.u32.wrap n = n := by simp [IntKind.wrap, IntKind.signed, IntKind.bits]; omega
  have hbe : be n 1 0 = [n] := by simp [be, byteAt]; omega
  go_enter Tryz.func31, Tryz.ntmps31
  go_wp2_with (go_at_call 57; refine (number_any p n 1 v bs _ hw (by omega) hb).mono ?_; rintro e w' ⟨rfl, v', h1, h2⟩)
  go_end0
  rw [hbe] at h1
  exact ⟨rfl, v', h1, h2⟩
theorem end_any (q : Nat) (v : Value) (bad : Bool) (bs : List Int) (w : World) (h : Rd w q v bad bs) :
    Calls Tryz.prog 49 #[.pointer (some ⟨q, 0, none⟩)] w fun e w' => e = .returned (.bool (!bad && bs.isEmpty)) ∧ w' = w := by
  obtain ⟨ao, c, rfl, h1, h2, h3, h4⟩ := h.2.1
  have hc0 := (cell_of_two h.1).1
  have hc1 := (cell_of_two h.1).2
  clear h4 h3 h
  cases bad with
  | true =>
    go_enter Tryz.func49, Tryz.ntmps49
    go_wp2
    go_ret
    exact ⟨rfl, rfl⟩
  | false =>
    cases bs with
    | nil =>
      go_enter Tryz.func49, Tryz.ntmps49
      go_wp2
      go_ret
      exact ⟨rfl, rfl⟩
    | cons b bs =>
      have hl : (((bs.length : Int) + 1) == 0) = false := by rw [beq_eq_false_iff_ne]; omega
      go_enter Tryz.func49, Tryz.ntmps49
      go_wp2
      go_ret
      exact ⟨rfl, rfl⟩
end Go.Proofs.YtbkipibmaghejaaGreatDoor
