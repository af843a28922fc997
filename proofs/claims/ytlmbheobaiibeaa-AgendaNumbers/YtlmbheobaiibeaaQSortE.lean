/-
  sort.partialInsertionSort over the queue.
-/
import Derived.Test.YtlmbheobaiibeaaQSortA
import Derived.Sort.WalkA6
namespace Go.Proofs.Ytlmbheobaiibeaa
open Go.RowKit Go.Sort Go.Lib

set_option maxHeartbeats 16000000 in
set_option maxRecDepth 1000000 in
theorem partialInsertionSort_st (g cap n a b : Nat) (d : Array En) (w : World) (hS : Ro g cap n w d) (hab : a < b) (hb : b ≤ n) (hn : n ≤ 1000000) :
    Calls Try.prog 41 #[.iface 47 (.slice (some ⟨g, 0, none⟩) n cap), .int .i64 a, .int .i64 b] w fun e w' =>
      e = .returned (.bool (Sort.partialInsertionSort ltE d a b).2) ∧ St g cap n w w' (Sort.partialInsertionSort ltE d a b).1 := by
  have mL := q_less (some ⟨g, 0, none⟩) n cap
  have mS := q_swap (some ⟨g, 0, none⟩) n cap
  have S0 := St.start hS
  clear hS
  go_enter Try.func41, Try.ntmps41
  go_wp2
  go_loopg [7, 8] 5 (fun g1 vi vs wr => ∃ (i s : Nat) (dk : Array En), vi = .int .i64 i ∧ vs = .int .i64 s ∧ s ≤ 5 ∧ 5 - s ≤ g1 ∧ a < i ∧ i ≤ b ∧ St g cap n w wr dk ∧ Hid (partialIns ltE a b (5 - s) i dk = partialIns ltE a b 5 (a + 1) d))
  case atStart => exact ⟨a + 1, 0, d, by go_num, rfl, by omega, by omega, by omega, by omega, S0, rfl⟩
  case round =>
    obtain ⟨i, s, dk, rfl, rfl, hs5, hg1, hai, hib, S1, HO⟩ := hrel
    clear S0
    by_cases hs : s < 5
    · have hsz5 : (s : Int) < 5 := by omega
      go_wp2
      go_loopg [7] (b - i) (fun g2 vi wr2 => ∃ kx : Nat, vi = .int .i64 kx ∧ i ≤ kx ∧ kx ≤ b ∧ b - kx ≤ g2 ∧ St g cap n w wr2 dk ∧ Hid (scanSorted ltE dk b kx = scanSorted ltE dk b i))
      case atStart => exact ⟨i, rfl, Nat.le_refl _, hib, Nat.le_refl _, S1, rfl⟩
      case round =>
        obtain ⟨kx, rfl, hik, hkb, hg2, S2, HSc⟩ := hrel
        clear S1
        by_cases hkb' : kx < b
        · have hkz : (kx : Int) < (b : Int) := by omega
          cases hlv : ltE dk[kx]! dk[kx - 1]! with
          | false =>
            have hl := less_st S2 kx (kx - 1) (by omega) (by omega); rw [hlv, show (((kx - 1 : Nat) : Int)) = (kx : Int) - 1 by omega] at hl
            clear S2
            go_wp2_with (go_at_call 67; refine hl.mono ?_; rintro e w2 ⟨rfl, S3⟩)
            go_roundg (b - (kx + 1))
            case measure => omega
            case rel => exact ⟨kx + 1, by go_num, by omega, by omega, Nat.le_refl _, S3, (show Hid _ from by rw [← HSc.out, scanSorted_go ltE dk b kx hkb' hlv]; exact rfl)⟩
          | true =>
            have hl := less_st S2 kx (kx - 1) (by omega) (by omega); rw [hlv, show (((kx - 1 : Nat) : Int)) = (kx : Int) - 1 by omega] at hl
            clear S2
            have HK : Hid (scanSorted ltE dk b i = kx) := by show _ = _; rw [← HSc.out, scanSorted_stop ltE dk b kx (Or.inr hlv)]
            have hkne : ((kx : Int) == (b : Int)) = false := beq_eq_false_iff_ne.2 (by omega)
            by_cases h50 : b - a < 50
            · have h50z : (b : Int) - (a : Int) < 50 := by omega
              go_wp2_with (go_at_call 67; refine hl.mono ?_; rintro e w2 ⟨rfl, S3⟩)
              have hv : Sort.partialInsertionSort ltE d a b = (dk, false) := by
                unfold Sort.partialInsertionSort
                rw [← HO.out, pi_short ltE a b s i dk hs (by rw [HK.out]; omega) h50]
              rw [hv]
              go_ret
              exact ⟨rfl, S3⟩
            · have h50z : ¬ ((b : Int) - (a : Int) < 50) := by omega
              by_cases hka : kx - a ≥ 2
              · have hkaz : (2 : Int) ≤ (kx : Int) - (a : Int) := by omega
                go_wp2_with (first | (go_at_call 67; refine hl.mono ?_; rintro e w2 ⟨rfl, S3⟩; clear hl; have hs1 := swap_st S3 kx (kx - 1) (by omega) (by omega); rw [show (((kx - 1 : Nat) : Int)) = (kx : Int) - 1 by omega] at hs1; clear S3) | (go_at_call 68; refine hs1.mono ?_; rintro e w3 ⟨rfl, S4⟩; clear hs1))
                go_loopg [9] (kx - 1) (fun g3 vj wr3 => ∃ (j : Nat) (dj : Array En), vj = .int .i64 j ∧ j ≤ kx - 1 ∧ j ≤ g3 ∧ St g cap n w wr3 dj ∧ Hid (shiftDown ltE j dj = shiftDown ltE (kx - 1) (swp dk kx (kx - 1))))
                case atStart => exact ⟨kx - 1, (swp dk kx (kx - 1)), by congr 1; omega, Nat.le_refl _, Nat.le_refl _, S4, rfl⟩
                case round =>
                  obtain ⟨j, dj, rfl, hjk, hg3, S5, HDn⟩ := hrel
                  clear S4
                  by_cases hj1 : 1 ≤ j
                  · have hj1z : (1 : Int) ≤ (j : Int) := by omega
                    cases hlv2 : ltE dj[j]! dj[j - 1]! with
                    | true =>
                      have hl2 := less_st S5 j (j - 1) (by omega) (by omega); rw [hlv2, show (((j - 1 : Nat) : Int)) = (j : Int) - 1 by omega] at hl2
                      clear S5
                      go_wp2_with (first | (go_at_call 67; refine hl2.mono ?_; rintro e w4 ⟨rfl, S6⟩; clear hl2; have hs2 := swap_st S6 j (j - 1) (by omega) (by omega); rw [show (((j - 1 : Nat) : Int)) = (j : Int) - 1 by omega] at hs2; clear S6) | (go_at_call 68; refine hs2.mono ?_; rintro e w5 ⟨rfl, S7⟩; clear hs2))
                      go_roundg (j - 1)
                      case measure => omega
                      case rel => exact ⟨j - 1, swp dj j (j - 1), by congr 1; omega, by omega, Nat.le_refl _, S7, (show Hid _ from by rw [← HDn.out, shiftDown_go ltE j dj hj1 hlv2]; exact rfl)⟩
                    | false =>
                      have hl2 := less_st S5 j (j - 1) (by omega) (by omega); rw [hlv2, show (((j - 1 : Nat) : Int)) = (j : Int) - 1 by omega] at hl2
                      clear S5
                      have HD : Hid (fixDown ltE a kx (swp dk kx (kx - 1)) = dj) := by show _ = _; unfold fixDown; rw [if_pos hka, ← HDn.out, shiftDown_stop ltE j dj (Or.inr hlv2)]
                      by_cases hbk : b - kx ≥ 2
                      · have hbkz : (2 : Int) ≤ (b : Int) - (kx : Int) := by omega
                        go_wp2_with (go_at_call 67; refine hl2.mono ?_; rintro e w4 ⟨rfl, S6⟩)
                        go_loopg [10] (b - (kx + 1)) (fun g4 vj wr4 => ∃ (ju : Nat) (du : Array En), vj = .int .i64 ju ∧ kx + 1 ≤ ju ∧ ju ≤ b ∧ b - ju ≤ g4 ∧ St g cap n w wr4 du ∧ Hid (shiftUp ltE b ju du = shiftUp ltE b (kx + 1) dj))
                        case atStart => exact ⟨kx + 1, dj, by go_num, Nat.le_refl _, by omega, Nat.le_refl _, S6, rfl⟩
                        case round =>
                          obtain ⟨ju, du, rfl, hkj, hjb, hg4, S7, HU⟩ := hrel
                          clear S6
                          by_cases hjb' : ju < b
                          · have hjz : (ju : Int) < (b : Int) := by omega
                            cases hlv3 : ltE du[ju]! du[ju - 1]! with
                            | true =>
                              have hl3 := less_st S7 ju (ju - 1) (by omega) (by omega); rw [hlv3, show (((ju - 1 : Nat) : Int)) = (ju : Int) - 1 by omega] at hl3
                              clear S7
                              go_wp2_with (first | (go_at_call 67; refine hl3.mono ?_; rintro e w7 ⟨rfl, S8⟩; clear hl3; have hs3 := swap_st S8 ju (ju - 1) (by omega) (by omega); rw [show (((ju - 1 : Nat) : Int)) = (ju : Int) - 1 by omega] at hs3; clear S8) | (go_at_call 68; refine hs3.mono ?_; rintro e w8 ⟨rfl, S9⟩; clear hs3))
                              go_roundg (b - (ju + 1))
                              case measure => omega
                              case rel => exact ⟨ju + 1, swp du ju (ju - 1), by go_num, by omega, by omega, Nat.le_refl _, S9, (show Hid _ from by rw [← HU.out, shiftUp_go ltE b ju du hjb' hlv3]; exact rfl)⟩
                            | false =>
                              have hl3 := less_st S7 ju (ju - 1) (by omega) (by omega); rw [hlv3, show (((ju - 1 : Nat) : Int)) = (ju : Int) - 1 by omega] at hl3
                              clear S7
                              go_wp2_with (go_at_call 67; refine hl3.mono ?_; rintro e w7 ⟨rfl, S8⟩)
                              go_roundg (5 - (s + 1))
                              case measure => omega
                              case rel => exact ⟨kx, s + 1, du, rfl, by go_num, by omega, Nat.le_refl _, by omega, by omega, S8, (show Hid _ from by rw [← HO.out, pi_go ltE a b s i kx dk hs HK.out (by omega) h50, HD.out, show fixUp ltE b kx dj = du from by unfold fixUp; rw [if_pos hbk, ← HU.out, shiftUp_stop ltE b ju du (Or.inr hlv3)]]; exact rfl)⟩
                          · have hjz : ¬ (ju : Int) < (b : Int) := by omega
                            go_wp2
                            go_roundg (5 - (s + 1))
                            case measure => omega
                            case rel => exact ⟨kx, s + 1, du, rfl, by go_num, by omega, Nat.le_refl _, by omega, by omega, S7, (show Hid _ from by rw [← HO.out, pi_go ltE a b s i kx dk hs HK.out (by omega) h50, HD.out, show fixUp ltE b kx dj = du from by unfold fixUp; rw [if_pos hbk, ← HU.out, shiftUp_stop ltE b ju du (Or.inl hjb')]]; exact rfl)⟩
                      · have hbkz : ¬ (2 : Int) ≤ (b : Int) - (kx : Int) := by omega
                        go_wp2_with (go_at_call 67; refine hl2.mono ?_; rintro e w4 ⟨rfl, S6⟩)
                        go_roundg (5 - (s + 1))
                        case measure => omega
                        case rel => exact ⟨kx, s + 1, dj, rfl, by go_num, by omega, Nat.le_refl _, by omega, by omega, S6, (show Hid _ from by rw [← HO.out, pi_go ltE a b s i kx dk hs HK.out (by omega) h50, HD.out, show fixUp ltE b kx dj = dj from by unfold fixUp; rw [if_neg hbk]]; exact rfl)⟩
                  · have hj1z : ¬ (1 : Int) ≤ (j : Int) := by omega
                    have HD : Hid (fixDown ltE a kx (swp dk kx (kx - 1)) = dj) := by show _ = _; unfold fixDown; rw [if_pos hka, ← HDn.out, shiftDown_stop ltE j dj (Or.inl (by omega))]
                    by_cases hbk : b - kx ≥ 2
                    · have hbkz : (2 : Int) ≤ (b : Int) - (kx : Int) := by omega
                      go_wp2
                      go_loopg [10] (b - (kx + 1)) (fun g4 vj wr4 => ∃ (ju : Nat) (du : Array En), vj = .int .i64 ju ∧ kx + 1 ≤ ju ∧ ju ≤ b ∧ b - ju ≤ g4 ∧ St g cap n w wr4 du ∧ Hid (shiftUp ltE b ju du = shiftUp ltE b (kx + 1) dj))
                      case atStart => exact ⟨kx + 1, dj, by go_num, Nat.le_refl _, by omega, Nat.le_refl _, S5, rfl⟩
                      case round =>
                        obtain ⟨ju, du, rfl, hkj, hjb, hg4, S7, HU⟩ := hrel
                        clear S5
                        by_cases hjb' : ju < b
                        · have hjz : (ju : Int) < (b : Int) := by omega
                          cases hlv3 : ltE du[ju]! du[ju - 1]! with
                          | true =>
                            have hl3 := less_st S7 ju (ju - 1) (by omega) (by omega); rw [hlv3, show (((ju - 1 : Nat) : Int)) = (ju : Int) - 1 by omega] at hl3
                            clear S7
                            go_wp2_with (first | (go_at_call 67; refine hl3.mono ?_; rintro e w7 ⟨rfl, S8⟩; clear hl3; have hs3 := swap_st S8 ju (ju - 1) (by omega) (by omega); rw [show (((ju - 1 : Nat) : Int)) = (ju : Int) - 1 by omega] at hs3; clear S8) | (go_at_call 68; refine hs3.mono ?_; rintro e w8 ⟨rfl, S9⟩; clear hs3))
                            go_roundg (b - (ju + 1))
                            case measure => omega
                            case rel => exact ⟨ju + 1, swp du ju (ju - 1), by go_num, by omega, by omega, Nat.le_refl _, S9, (show Hid _ from by rw [← HU.out, shiftUp_go ltE b ju du hjb' hlv3]; exact rfl)⟩
                          | false =>
                            have hl3 := less_st S7 ju (ju - 1) (by omega) (by omega); rw [hlv3, show (((ju - 1 : Nat) : Int)) = (ju : Int) - 1 by omega] at hl3
                            clear S7
                            go_wp2_with (go_at_call 67; refine hl3.mono ?_; rintro e w7 ⟨rfl, S8⟩)
                            go_roundg (5 - (s + 1))
                            case measure => omega
                            case rel => exact ⟨kx, s + 1, du, rfl, by go_num, by omega, Nat.le_refl _, by omega, by omega, S8, (show Hid _ from by rw [← HO.out, pi_go ltE a b s i kx dk hs HK.out (by omega) h50, HD.out, show fixUp ltE b kx dj = du from by unfold fixUp; rw [if_pos hbk, ← HU.out, shiftUp_stop ltE b ju du (Or.inr hlv3)]]; exact rfl)⟩
                        · have hjz : ¬ (ju : Int) < (b : Int) := by omega
                          go_wp2
                          go_roundg (5 - (s + 1))
                          case measure => omega
                          case rel => exact ⟨kx, s + 1, du, rfl, by go_num, by omega, Nat.le_refl _, by omega, by omega, S7, (show Hid _ from by rw [← HO.out, pi_go ltE a b s i kx dk hs HK.out (by omega) h50, HD.out, show fixUp ltE b kx dj = du from by unfold fixUp; rw [if_pos hbk, ← HU.out, shiftUp_stop ltE b ju du (Or.inl hjb')]]; exact rfl)⟩
                    · have hbkz : ¬ (2 : Int) ≤ (b : Int) - (kx : Int) := by omega
                      go_wp2
                      go_roundg (5 - (s + 1))
                      case measure => omega
                      case rel => exact ⟨kx, s + 1, dj, rfl, by go_num, by omega, Nat.le_refl _, by omega, by omega, S5, (show Hid _ from by rw [← HO.out, pi_go ltE a b s i kx dk hs HK.out (by omega) h50, HD.out, show fixUp ltE b kx dj = dj from by unfold fixUp; rw [if_neg hbk]]; exact rfl)⟩
              · have hkaz : ¬ (2 : Int) ≤ (kx : Int) - (a : Int) := by omega
                have HD : Hid (fixDown ltE a kx (swp dk kx (kx - 1)) = swp dk kx (kx - 1)) := by show _ = _; unfold fixDown; rw [if_neg hka]
                by_cases hbk : b - kx ≥ 2
                · have hbkz : (2 : Int) ≤ (b : Int) - (kx : Int) := by omega
                  go_wp2_with (first | (go_at_call 67; refine hl.mono ?_; rintro e w2 ⟨rfl, S3⟩; clear hl; have hs1 := swap_st S3 kx (kx - 1) (by omega) (by omega); rw [show (((kx - 1 : Nat) : Int)) = (kx : Int) - 1 by omega] at hs1; clear S3) | (go_at_call 68; refine hs1.mono ?_; rintro e w3 ⟨rfl, S4⟩; clear hs1))
                  go_loopg [10] (b - (kx + 1)) (fun g4 vj wr4 => ∃ (ju : Nat) (du : Array En), vj = .int .i64 ju ∧ kx + 1 ≤ ju ∧ ju ≤ b ∧ b - ju ≤ g4 ∧ St g cap n w wr4 du ∧ Hid (shiftUp ltE b ju du = shiftUp ltE b (kx + 1) (swp dk kx (kx - 1))))
                  case atStart => exact ⟨kx + 1, (swp dk kx (kx - 1)), by go_num, Nat.le_refl _, by omega, Nat.le_refl _, S4, rfl⟩
                  case round =>
                    obtain ⟨ju, du, rfl, hkj, hjb, hg4, S7, HU⟩ := hrel
                    clear S4
                    by_cases hjb' : ju < b
                    · have hjz : (ju : Int) < (b : Int) := by omega
                      cases hlv3 : ltE du[ju]! du[ju - 1]! with
                      | true =>
                        have hl3 := less_st S7 ju (ju - 1) (by omega) (by omega); rw [hlv3, show (((ju - 1 : Nat) : Int)) = (ju : Int) - 1 by omega] at hl3
                        clear S7
                        go_wp2_with (first | (go_at_call 67; refine hl3.mono ?_; rintro e w7 ⟨rfl, S8⟩; clear hl3; have hs3 := swap_st S8 ju (ju - 1) (by omega) (by omega); rw [show (((ju - 1 : Nat) : Int)) = (ju : Int) - 1 by omega] at hs3; clear S8) | (go_at_call 68; refine hs3.mono ?_; rintro e w8 ⟨rfl, S9⟩; clear hs3))
                        go_roundg (b - (ju + 1))
                        case measure => omega
                        case rel => exact ⟨ju + 1, swp du ju (ju - 1), by go_num, by omega, by omega, Nat.le_refl _, S9, (show Hid _ from by rw [← HU.out, shiftUp_go ltE b ju du hjb' hlv3]; exact rfl)⟩
                      | false =>
                        have hl3 := less_st S7 ju (ju - 1) (by omega) (by omega); rw [hlv3, show (((ju - 1 : Nat) : Int)) = (ju : Int) - 1 by omega] at hl3
                        clear S7
                        go_wp2_with (go_at_call 67; refine hl3.mono ?_; rintro e w7 ⟨rfl, S8⟩)
                        go_roundg (5 - (s + 1))
                        case measure => omega
                        case rel => exact ⟨kx, s + 1, du, rfl, by go_num, by omega, Nat.le_refl _, by omega, by omega, S8, (show Hid _ from by rw [← HO.out, pi_go ltE a b s i kx dk hs HK.out (by omega) h50, HD.out, show fixUp ltE b kx (swp dk kx (kx - 1)) = du from by unfold fixUp; rw [if_pos hbk, ← HU.out, shiftUp_stop ltE b ju du (Or.inr hlv3)]]; exact rfl)⟩
                    · have hjz : ¬ (ju : Int) < (b : Int) := by omega
                      go_wp2
                      go_roundg (5 - (s + 1))
                      case measure => omega
                      case rel => exact ⟨kx, s + 1, du, rfl, by go_num, by omega, Nat.le_refl _, by omega, by omega, S7, (show Hid _ from by rw [← HO.out, pi_go ltE a b s i kx dk hs HK.out (by omega) h50, HD.out, show fixUp ltE b kx (swp dk kx (kx - 1)) = du from by unfold fixUp; rw [if_pos hbk, ← HU.out, shiftUp_stop ltE b ju du (Or.inl hjb')]]; exact rfl)⟩
                · exfalso; omega
        · have hkz : ¬ (kx : Int) < (b : Int) := by omega
          have hkb2 : kx = b := by omega
          have hkne : ((kx : Int) == (b : Int)) = true := by simp [hkb2]
          have HV : Hid (Sort.partialInsertionSort ltE d a b = (dk, true)) := by
            show _ = _
            unfold Sort.partialInsertionSort
            rw [← HO.out, pi_true ltE a b s i dk hs (by rw [← HSc.out, scanSorted_stop ltE dk b kx (Or.inl hkb'), hkb2])]
          clear hkb2
          go_wp2
          rw [HV.out]
          go_ret
          exact ⟨rfl, S2⟩
    · have hsz5 : ¬ (s : Int) < 5 := by omega
      have hs5' : s = 5 := by omega
      have HV : Hid (Sort.partialInsertionSort ltE d a b = (dk, false)) := by
        show _ = _
        unfold Sort.partialInsertionSort
        rw [← HO.out, hs5', pi_end]
      clear hs5'
      go_wp2
      rw [HV.out]
      go_ret
      exact ⟨rfl, S1⟩
end Go.Proofs.Ytlmbheobaiibeaa
