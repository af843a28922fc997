/-
  The contract of the program's Split.
-/
import Derived.Test.YtillhpgdlmeajaaGreatDoorQC8
import Derived.Test.YtillhpgdlmeajaaGreatDoorQC17
namespace Go.Proofs.YtillhpgdlmeajaaGreatDoor
open Go.RowKit
theorem tshl (j : Nat) (h : j ≤ 62) : wrap64 ((2 : Int) ^ j) = 2 ^ j := by
  have h1 : (2 : Nat) ^ j ≤ 2 ^ 62 := Nat.pow_le_pow_right (by omega) h
  have h2 : ((2 : Int) ^ j) = ((2 ^ j : Nat) : Int) := by simp
  have h3 : (0 : Int) ≤ 2 ^ j := by rw [h2]; exact Int.natCast_nonneg _
  have h4 : (2 : Int) ^ j ≤ 4611686018427387904 := by rw [h2]; omega
  unfold wrap64
  omega
/-- what is known of a number from 2 on. -/
theorem tspl_bits (n : Nat) (h : 2 ≤ n) (hn : n ≤ 9223372036854775807) : ∃ j, j ≤ 62 ∧ Lib.bitLen (n - 1) = j + 1 ∧ tsplP n = 2 ^ j := by
  refine ⟨(n - 1).log2, ?_, bitLen_log 64 (n - 1) (by omega) (by omega) (by omega), tsplP_more h⟩
  have := (Nat.log2_lt (n := n - 1) (k := 63) (by omega)).2 (by omega)
  omega
set_option maxHeartbeats 1000000 in
set_option maxRecDepth 100000 in
theorem tsplit_any (n : Int) (k : Nat) (w : World) (hk : k = tsplP n.toNat) (hn : -9223372036854775808 ≤ n ∧ n ≤ 9223372036854775807) :
    Calls Tryz.prog 108 #[.int .i64 n] w fun e w' => e = .returned (.int .i64 k) ∧ w' = w := by
  by_cases h2 : n < 2
  · rw [tsplP_small (by omega)] at hk
    subst hk
    go_enter Tryz.func108, Tryz.ntmps108
    go_wp2_with fail
    go_ret
    exact ⟨rfl, rfl⟩
  · obtain ⟨j, hj, hb, he⟩ := tspl_bits n.toNat (by omega) (by omega)
    rw [he] at hk
    have hC := len_any (n - 1) w (by omega) (by omega)
    rw [show (n - 1).toNat = n.toNat - 1 by omega, hb] at hC
    have HC := hide hC
    have hp := tshl j hj
    clear hC hb he
    go_enter Tryz.func108, Tryz.ntmps108
    go_wp2_with fail
    refine (unhide HC).mono ?_
    rintro ee w1 ⟨rfl, hw⟩
    subst w1
    clear HC
    go_wp2_with fail
    go_ret
    refine ⟨?_, rfl⟩
    rw [hk]
    simp
    exact hp
end Go.Proofs.YtillhpgdlmeajaaGreatDoor
