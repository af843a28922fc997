/-
  The contract of the reference's Split.
-/
import Derived.Test.YtpiekmflfgpalaaDoorKTSpec
namespace Go.Proofs.YtpiekmflfgpalaaDoor
open Go.RowKit

set_option maxHeartbeats 1000000 in
set_option maxRecDepth 100000 in
theorem rsplit_any (n : Int) (k : Nat) (w : World) (hk : k = tsplP n.toNat) (hn : -9223372036854775808 ≤ n ∧ n ≤ 9223372036854775807) :
    Calls Tryd.prog 13 #[.int .i64 n] w fun e w' => e = .returned (.int .i64 k) ∧ w' = w := by
  by_cases h2 : n < 2
  · rw [tsplP_small (by omega)] at hk
    subst hk
    go_enter Tryd.func13, Tryd.ntmps13
    go_wp2_with fail
    go_ret
    exact ⟨rfl, rfl⟩
  · have HK := hide hk
    clear hk
    go_enter Tryd.func13, Tryd.ntmps13
    go_wp2_with fail
    go_loopw [3] (fun v wr => ∃ (j q : Nat), q = 2 ^ j ∧ (q : Int) < n ∧ v = .int .i64 q ∧ wr = w) (fun v _ => n.toNat - (intOf v).toNat)
    case atStart => exact ⟨0, 1, rfl, by omega, rfl, rfl⟩
    case round =>
      obtain ⟨j, q, hq, hqn, rfl, hw⟩ := hrel
      subst wr
      have hq1 : 1 ≤ q := by rw [hq]; exact Nat.one_le_two_pow
      have HQ := hide hq
      clear hq
      by_cases hc : (q : Int) < n - q
      · go_wp2_with fail
        go_roundw
        case rel => exact ⟨j + 1, 2 * q, by rw [Nat.pow_succ, ← unhide HQ]; omega, by omega, by go_num, trivial⟩
        case measure => simp [intOf]; omega
      · go_wp2_with fail
        go_ret
        refine ⟨?_, rfl⟩
        have e : tsplP n.toNat = q := by rw [unhide HQ]; exact tsplP_of (by rw [← unhide HQ]; omega) (by rw [← unhide HQ]; omega)
        rw [unhide HK, e]
        rfl
end Go.Proofs.YtpiekmflfgpalaaDoor
