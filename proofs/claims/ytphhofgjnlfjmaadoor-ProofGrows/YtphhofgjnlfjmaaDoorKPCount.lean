/-
  How many hashes a path has: the contracts of the program's auditCount and growthCount and of the reference's Long and length.
-/
import Derived.Test.YtphhofgjnlfjmaaDoorKPSpecs
import Derived.Test.YtphhofgjnlfjmaaDoorKTSplits
namespace Go.Proofs.YtphhofgjnlfjmaaDoor
open Go.RowKit
open Go.Proofs

set_option maxRecDepth 100000 in
set_option maxHeartbeats 1000000 in
theorem acount_any (n : Nat) : ∀ (i c : Nat) (w : World), c = cntP n i → i < n → n ≤ 9223372036854775807 →
    Calls Tryd.prog 43 #[.int .i64 i, .int .i64 n] w fun e w' => e = .returned (.int .i64 c) ∧ w' = w := by
  induction n using Nat.strongRecOn with
  | ind n ih =>
    intro i c w hc hi hn
    by_cases h2 : 2 ≤ n
    · have h2i : ¬ (n : Int) = 1 := by omega
      obtain ⟨k, hk⟩ : ∃ k, k = tsplP n := ⟨_, rfl⟩
      have hk1 : 1 ≤ k := by rw [hk]; exact tsplP_pos h2
      have hk2 : k < n := by rw [hk]; exact tsplP_lt h2
      have HC := hide (tsplit_any n k w (by rw [Int.toNat_natCast]; exact hk) (by omega))
      by_cases hik : i < k
      · have hiki : (i : Int) < (k : Int) := by omega
        obtain ⟨d, hd⟩ : ∃ d, d = cntP k i := ⟨_, rfl⟩
        have HCD : Hid (c = d + 1) := hide (by rw [hc, cntP_left h2 (by rw [← hk]; exact hik), ← hk, hd])
        have hd63 : d ≤ 63 := by rw [hd]; exact cntP_le 63 k i (by omega)
        have hB := ih k (by omega) i d w hd (by omega) (by omega)
        have HB := hide hB
        clear hc hd hk ih h2 hik hB
        go_enter Tryd.func43, Tryd.ntmps43
        go_wp2_with fail
        refine (unhide HC).mono ?_
        rintro ee w1 ⟨rfl, hw⟩
        subst w1
        clear HC
        go_wp2_with fail
        refine (unhide HB).mono ?_
        rintro ee w1 ⟨rfl, hw⟩
        subst w1
        go_wp2_with fail
        go_ret
        exact ⟨by rw [unhide HCD]; go_num, rfl⟩
      · have hiki : ¬ (i : Int) < (k : Int) := by omega
        obtain ⟨d, hd⟩ : ∃ d, d = cntP (n - k) (i - k) := ⟨_, rfl⟩
        have HCD : Hid (c = d + 1) := hide (by rw [hc, cntP_right h2 (by rw [← hk]; exact hik), ← hk, hd])
        have hd63 : d ≤ 63 := by rw [hd]; exact cntP_le 63 (n - k) (i - k) (by omega)
        have hB := ih (n - k) (by omega) (i - k) d w hd (by omega) (by omega)
        rw [show ((i - k : Nat) : Int) = (i : Int) - (k : Int) by omega, show ((n - k : Nat) : Int) = (n : Int) - (k : Int) by omega] at hB
        have HB := hide hB
        clear hc hd hk ih h2 hik hB
        go_enter Tryd.func43, Tryd.ntmps43
        go_wp2_with fail
        refine (unhide HC).mono ?_
        rintro ee w1 ⟨rfl, hw⟩
        subst w1
        clear HC
        go_wp2_with fail
        refine (unhide HB).mono ?_
        rintro ee w1 ⟨rfl, hw⟩
        subst w1
        go_wp2_with fail
        go_ret
        exact ⟨by rw [unhide HCD]; go_num, rfl⟩
    · obtain rfl : n = 1 := by omega
      obtain rfl : c = 0 := by rw [hc, cntP_small (by omega)]
      clear hc ih h2
      go_enter Tryd.func43, Tryd.ntmps43
      go_wp2_with fail
      go_ret
      exact ⟨rfl, rfl⟩

set_option maxRecDepth 100000 in
set_option maxHeartbeats 1000000 in
theorem long_any (n : Nat) : ∀ (i c : Nat) (w : World), c = cntP n i → i < n → n ≤ 9223372036854775807 →
    Calls Tryd.prog 49 #[.int .i64 n, .int .i64 i] w fun e w' => e = .returned (.int .i64 c) ∧ w' = w := by
  induction n using Nat.strongRecOn with
  | ind n ih =>
    intro i c w hc hi hn
    by_cases h2 : 2 ≤ n
    · have h2i : ¬ (n : Int) < 2 := by omega
      obtain ⟨k, hk⟩ : ∃ k, k = tsplP n := ⟨_, rfl⟩
      have hk1 : 1 ≤ k := by rw [hk]; exact tsplP_pos h2
      have hk2 : k < n := by rw [hk]; exact tsplP_lt h2
      have HC := hide (rsplit_any n k w (by rw [Int.toNat_natCast]; exact hk) (by omega))
      by_cases hik : i < k
      · have hiki : (i : Int) < (k : Int) := by omega
        obtain ⟨d, hd⟩ : ∃ d, d = cntP k i := ⟨_, rfl⟩
        have HCD : Hid (c = d + 1) := hide (by rw [hc, cntP_left h2 (by rw [← hk]; exact hik), ← hk, hd])
        have hd63 : d ≤ 63 := by rw [hd]; exact cntP_le 63 k i (by omega)
        have hB := ih k (by omega) i d w hd (by omega) (by omega)
        have HB := hide hB
        clear hc hd hk ih h2 hik hB
        go_enter Tryd.func49, Tryd.ntmps49
        go_wp2_with fail
        refine (unhide HC).mono ?_
        rintro ee w1 ⟨rfl, hw⟩
        subst w1
        clear HC
        go_wp2_with fail
        refine (unhide HB).mono ?_
        rintro ee w1 ⟨rfl, hw⟩
        subst w1
        go_wp2_with fail
        go_ret
        exact ⟨by rw [unhide HCD]; go_num, rfl⟩
      · have hiki : ¬ (i : Int) < (k : Int) := by omega
        obtain ⟨d, hd⟩ : ∃ d, d = cntP (n - k) (i - k) := ⟨_, rfl⟩
        have HCD : Hid (c = d + 1) := hide (by rw [hc, cntP_right h2 (by rw [← hk]; exact hik), ← hk, hd])
        have hd63 : d ≤ 63 := by rw [hd]; exact cntP_le 63 (n - k) (i - k) (by omega)
        have hB := ih (n - k) (by omega) (i - k) d w hd (by omega) (by omega)
        rw [show ((i - k : Nat) : Int) = (i : Int) - (k : Int) by omega, show ((n - k : Nat) : Int) = (n : Int) - (k : Int) by omega] at hB
        have HB := hide hB
        clear hc hd hk ih h2 hik hB
        go_enter Tryd.func49, Tryd.ntmps49
        go_wp2_with fail
        refine (unhide HC).mono ?_
        rintro ee w1 ⟨rfl, hw⟩
        subst w1
        clear HC
        go_wp2_with fail
        refine (unhide HB).mono ?_
        rintro ee w1 ⟨rfl, hw⟩
        subst w1
        go_wp2_with fail
        go_ret
        exact ⟨by rw [unhide HCD]; go_num, rfl⟩
    · obtain rfl : n = 1 := by omega
      obtain rfl : c = 0 := by rw [hc, cntP_small (by omega)]
      clear hc ih h2
      go_enter Tryd.func49, Tryd.ntmps49
      go_wp2_with fail
      go_ret
      exact ⟨rfl, rfl⟩

set_option maxRecDepth 100000 in
set_option maxHeartbeats 1000000 in
theorem gcount_any (n : Nat) : ∀ (m c : Nat) (b : Bool) (w : World), c = lenP m n b → 1 ≤ m → m ≤ n → n ≤ 9223372036854775807 →
    Calls Tryd.prog 53 #[.int .i64 m, .int .i64 n, .bool b] w fun e w' => e = .returned (.int .i64 c) ∧ w' = w := by
  induction n using Nat.strongRecOn with
  | ind n ih =>
    intro m c b w hc h1 hm hn
    by_cases h2 : m = n
    · subst h2
      rw [lenP_same] at hc
      clear ih hm
      cases b with
      | true =>
        obtain rfl : c = 0 := hc
        go_enter Tryd.func53, Tryd.ntmps53
        go_wp2_with fail
        go_ret
        exact ⟨rfl, rfl⟩
      | false =>
        obtain rfl : c = 1 := hc
        go_enter Tryd.func53, Tryd.ntmps53
        go_wp2_with fail
        go_ret
        exact ⟨rfl, rfl⟩
    · have h2i : ¬ (m : Int) = (n : Int) := by omega
      have h2n : 2 ≤ n := by omega
      obtain ⟨k, hk⟩ : ∃ k, k = tsplP n := ⟨_, rfl⟩
      have hk1 : 1 ≤ k := by rw [hk]; exact tsplP_pos h2n
      have hk2 : k < n := by rw [hk]; exact tsplP_lt h2n
      have HC := hide (tsplit_any n k w (by rw [Int.toNat_natCast]; exact hk) (by omega))
      have h63 : n ≤ 2 ^ 63 := by omega
      by_cases hik : m ≤ k
      · have hiki : (m : Int) ≤ (k : Int) := by omega
        obtain ⟨d, hd⟩ : ∃ d, d = lenP m k b := ⟨_, rfl⟩
        have HCD : Hid (c = d + 1) := hide (by rw [hc, lenP_left h1 (by omega) hk hik, hd])
        have hd64 : d ≤ 64 := by rw [hd]; exact lenP_le 63 m k b (by omega) (by omega) (by omega)
        have hB := ih k (by omega) m d b w hd (by omega) (by omega) (by omega)
        have HB := hide hB
        clear hc hd hk ih h2 hik hB h63
        go_enter Tryd.func53, Tryd.ntmps53
        go_wp2_with fail
        refine (unhide HC).mono ?_
        rintro ee w1 ⟨rfl, hw⟩
        subst w1
        clear HC
        go_wp2_with fail
        refine (unhide HB).mono ?_
        rintro ee w1 ⟨rfl, hw⟩
        subst w1
        go_wp2_with fail
        go_ret
        exact ⟨by rw [unhide HCD]; go_num, rfl⟩
      · have hiki : ¬ (m : Int) ≤ (k : Int) := by omega
        obtain ⟨d, hd⟩ : ∃ d, d = lenP (m - k) (n - k) false := ⟨_, rfl⟩
        have HCD : Hid (c = d + 1) := hide (by rw [hc, lenP_right h1 (by omega) hk hik, hd])
        have hd64 : d ≤ 64 := by rw [hd]; exact lenP_le 63 (m - k) (n - k) false (by omega) (by omega) (by omega)
        have hB := ih (n - k) (by omega) (m - k) d false w hd (by omega) (by omega) (by omega)
        rw [show ((m - k : Nat) : Int) = (m : Int) - (k : Int) by omega, show ((n - k : Nat) : Int) = (n : Int) - (k : Int) by omega] at hB
        have HB := hide hB
        clear hc hd hk ih h2 hik hB h63
        go_enter Tryd.func53, Tryd.ntmps53
        go_wp2_with fail
        refine (unhide HC).mono ?_
        rintro ee w1 ⟨rfl, hw⟩
        subst w1
        clear HC
        go_wp2_with fail
        refine (unhide HB).mono ?_
        rintro ee w1 ⟨rfl, hw⟩
        subst w1
        go_wp2_with fail
        go_ret
        exact ⟨by rw [unhide HCD]; go_num, rfl⟩

set_option maxRecDepth 100000 in
set_option maxHeartbeats 1000000 in
theorem rlength_any (n : Nat) : ∀ (m c : Nat) (b : Bool) (w : World), c = lenP m n b → 1 ≤ m → m ≤ n → n ≤ 9223372036854775807 →
    Calls Tryd.prog 56 #[.int .i64 m, .int .i64 n, .bool b] w fun e w' => e = .returned (.int .i64 c) ∧ w' = w := by
  induction n using Nat.strongRecOn with
  | ind n ih =>
    intro m c b w hc h1 hm hn
    by_cases h2 : m = n
    · subst h2
      rw [lenP_same] at hc
      clear ih hm
      cases b with
      | true =>
        obtain rfl : c = 0 := hc
        go_enter Tryd.func56, Tryd.ntmps56
        go_wp2_with fail
        go_ret
        exact ⟨rfl, rfl⟩
      | false =>
        obtain rfl : c = 1 := hc
        go_enter Tryd.func56, Tryd.ntmps56
        go_wp2_with fail
        go_ret
        exact ⟨rfl, rfl⟩
    · have h2i : ¬ (m : Int) = (n : Int) := by omega
      have h2n : 2 ≤ n := by omega
      obtain ⟨k, hk⟩ : ∃ k, k = tsplP n := ⟨_, rfl⟩
      have hk1 : 1 ≤ k := by rw [hk]; exact tsplP_pos h2n
      have hk2 : k < n := by rw [hk]; exact tsplP_lt h2n
      have HC := hide (rsplit_any n k w (by rw [Int.toNat_natCast]; exact hk) (by omega))
      have h63 : n ≤ 2 ^ 63 := by omega
      by_cases hik : m ≤ k
      · have hiki : (m : Int) ≤ (k : Int) := by omega
        obtain ⟨d, hd⟩ : ∃ d, d = lenP m k b := ⟨_, rfl⟩
        have HCD : Hid (c = d + 1) := hide (by rw [hc, lenP_left h1 (by omega) hk hik, hd])
        have hd64 : d ≤ 64 := by rw [hd]; exact lenP_le 63 m k b (by omega) (by omega) (by omega)
        have hB := ih k (by omega) m d b w hd (by omega) (by omega) (by omega)
        have HB := hide hB
        clear hc hd hk ih h2 hik hB h63
        go_enter Tryd.func56, Tryd.ntmps56
        go_wp2_with fail
        refine (unhide HC).mono ?_
        rintro ee w1 ⟨rfl, hw⟩
        subst w1
        clear HC
        go_wp2_with fail
        refine (unhide HB).mono ?_
        rintro ee w1 ⟨rfl, hw⟩
        subst w1
        go_wp2_with fail
        go_ret
        exact ⟨by rw [unhide HCD]; go_num, rfl⟩
      · have hiki : ¬ (m : Int) ≤ (k : Int) := by omega
        obtain ⟨d, hd⟩ : ∃ d, d = lenP (m - k) (n - k) false := ⟨_, rfl⟩
        have HCD : Hid (c = d + 1) := hide (by rw [hc, lenP_right h1 (by omega) hk hik, hd])
        have hd64 : d ≤ 64 := by rw [hd]; exact lenP_le 63 (m - k) (n - k) false (by omega) (by omega) (by omega)
        have hB := ih (n - k) (by omega) (m - k) d false w hd (by omega) (by omega) (by omega)
        rw [show ((m - k : Nat) : Int) = (m : Int) - (k : Int) by omega, show ((n - k : Nat) : Int) = (n : Int) - (k : Int) by omega] at hB
        have HB := hide hB
        clear hc hd hk ih h2 hik hB h63
        go_enter Tryd.func56, Tryd.ntmps56
        go_wp2_with fail
        refine (unhide HC).mono ?_
        rintro ee w1 ⟨rfl, hw⟩
        subst w1
        clear HC
        go_wp2_with fail
        refine (unhide HB).mono ?_
        rintro ee w1 ⟨rfl, hw⟩
        subst w1
        go_wp2_with fail
        go_ret
        exact ⟨by rw [unhide HCD]; go_num, rfl⟩

end Go.Proofs.YtphhofgjnlfjmaaDoor
