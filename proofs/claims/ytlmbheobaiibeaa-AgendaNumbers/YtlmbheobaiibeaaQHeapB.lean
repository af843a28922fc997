/-
  container/heap's up, down and Init over the queue behind a pointer.
-/
import Derived.Test.YtlmbheobaiibeaaQHeapA
import Derived.Test.YtlmbheobaiibeaaQHeapP
import Derived.Sort.WalkB2
namespace Go.Proofs.Ytlmbheobaiibeaa
open Go.RowKit Go.Sort Go.Lib

set_option maxHeartbeats 2000000 in
set_option maxRecDepth 1000000 in
theorem up_st (p g cap n j0 : Nat) (d : Array En) (w : World) (hc : w.cell? ⟨p, 0, none⟩ = some (.slice (some ⟨g, 0, none⟩) n cap)) (hS : Ro g cap n w d) (hpg : p ≠ g) (hj : j0 < n) (hn : n ≤ 1000000) :
    Calls Try.prog 29 #[(.iface 51 (.pointer (some ⟨p, 0, none⟩))), .int .i64 j0] w fun e w' => e = .returned (.tuple #[]) ∧ St g cap n w w' (upP d j0) := by
  have S0 := St.start hS
  have CE : Hid (∀ {w' : World} {d' : Array En}, St g cap n w w' d' → w'.cell? ⟨p, 0, none⟩ = some (.slice (some ⟨g, 0, none⟩) n cap)) := fun s => s.kp.cell hc (by simpa using hpg)
  clear hS hc
  go_enter Try.func29, Try.ntmps29
  go_wp2
  go_loopg [1] (j0 + 1) (fun kx s1 wr => ∃ (j : Nat) (dk : Array En), s1 = .int .i64 j ∧ j + 1 ≤ kx ∧ j < n ∧ St g cap n w wr dk ∧ Hid (upP dk j = upP d j0))
  case atStart => exact ⟨j0, d, rfl, Nat.le_refl _, hj, S0, rfl⟩
  case round =>
    obtain ⟨j, dk, rfl, hkx, hjn, S1, HE⟩ := hrel
    clear S0
    have mL := pq_less (CE.out S1)
    by_cases h0 : j = 0
    · subst h0
      clear mL
      go_wp2
      go_end0
      refine ⟨rfl, ?_⟩
      rw [← HE.out, upP_zero]
      exact S1
    · obtain ⟨i, hi⟩ : ∃ i : Nat, i = (j - 1) / 2 := ⟨_, rfl⟩
      have hit : ((j : Int) - 1).tdiv 2 = (i : Int) := by
        rw [Int.tdiv_eq_ediv_of_nonneg (by omega)]; omega
      have hid : ((j : Int) - 1) / 2 = (i : Int) := by omega
      have hne : ((i : Int) == (j : Int)) = false := beq_eq_false_iff_ne.2 (by omega)
      have HI := hide hi
      have hil : i < j := by omega
      clear hi
      have hl := less_st S1 j i hjn (by omega)
      cases hlv : ltE dk[j]! dk[i]! with
      | true =>
        rw [hlv] at hl
        clear S1
        go_wp2_with (first | (go_at_call 67; refine hl.mono ?_; rintro e w1 ⟨rfl, S2⟩; clear hl; have mS := pq_swap (CE.out S2); have hs := swap_st S2 i j (by omega) hjn; clear S2) | (go_at_call 68; refine hs.mono ?_; rintro e w2 ⟨rfl, S3⟩; clear hs))
        go_roundg (i + 1)
        case measure => omega
        case rel => exact ⟨i, swp dk i j, by first | rfl | go_num, Nat.le_refl _, by omega, S3, (show Hid _ from by
          have e := upP_go dk j (by omega) (by rw [← HI.out]; exact hlv)
          rw [← HI.out] at e
          rw [← HE.out, e]; exact rfl)⟩
      | false =>
        rw [hlv] at hl
        clear S1
        go_wp2_with (go_at_call 67; refine hl.mono ?_; rintro e w1 ⟨rfl, S2⟩)
        go_end0
        refine ⟨rfl, ?_⟩
        rw [← HE.out, upP_stop dk j (by rw [← HI.out]; exact hlv)]
        exact S2

set_option maxHeartbeats 4000000 in
set_option maxRecDepth 1000000 in
theorem down_st (p g cap n i0 hi : Nat) (d : Array En) (w : World) (hc : w.cell? ⟨p, 0, none⟩ = some (.slice (some ⟨g, 0, none⟩) n cap)) (hS : Ro g cap n w d) (hpg : p ≠ g) (hi0 : i0 ≤ hi) (hhi : hi ≤ n) (hn : n ≤ 1000000) :
    Calls Try.prog 30 #[(.iface 51 (.pointer (some ⟨p, 0, none⟩))), .int .i64 i0, .int .i64 hi] w fun e w' => (∃ b, e = .returned (.bool b)) ∧ St g cap n w w' (siftDown gtE hi 0 i0 d) := by
  have S0 := St.start hS
  have CE : Hid (∀ {w' : World} {d' : Array En}, St g cap n w w' d' → w'.cell? ⟨p, 0, none⟩ = some (.slice (some ⟨g, 0, none⟩) n cap)) := fun s => s.kp.cell hc (by simpa using hpg)
  clear hS hc
  go_enter Try.func30, Try.ntmps30
  go_wp2
  go_loopg [7] (hi - i0) (fun kx s7 wr => ∃ (root : Nat) (dk : Array En), s7 = .int .i64 root ∧ root ≤ hi ∧ hi - root ≤ kx ∧ St g cap n w wr dk ∧ Hid (siftDown gtE hi 0 root dk = siftDown gtE hi 0 i0 d))
  case atStart => exact ⟨i0, d, rfl, hi0, Nat.le_refl _, S0, rfl⟩
  case round =>
    obtain ⟨root, dk, rfl, hr, hkx, S1, HE⟩ := hrel
    clear S0
    by_cases h0 : hi ≤ 2 * root + 1
    · have h0z : (hi : Int) ≤ 2 * (root : Int) + 1 := by omega
      go_wp2
      go_ret
      refine ⟨⟨_, rfl⟩, ?_⟩
      rw [← HE.out, sd_end gtE dk h0]
      exact S1
    · have h0z : ¬ ((hi : Int) ≤ 2 * (root : Int) + 1) := by omega
      have h0y : ¬ (2 * (root : Int) + 1 < 0) := by omega
      have E : Hid (((2 * root + 1 : Nat) : Int) = 2 * (root : Int) + 1 ∧ ((2 * root + 2 : Nat) : Int) = 2 * (root : Int) + 1 + 1) := ⟨by omega, by omega⟩
      by_cases h1 : 2 * root + 2 < hi
      · have h1z : 2 * (root : Int) + 1 + 1 < (hi : Int) := by omega
        have mL := pq_less (CE.out S1)
        have hl1 := less_st S1 (2 * root + 2) (2 * root + 1) (by omega) (by omega)
        rw [E.out.1, E.out.2] at hl1
        cases hL : ltE dk[2 * root + 2]! dk[2 * root + 1]! with
        | true =>
          rw [hL] at hl1
          cases hG : ltE dk[2 * root + 2]! dk[root]! with
          | true =>
            clear S1
            go_wp2_with (first | (go_at_call 67; refine hl1.mono ?_; rintro e w1 ⟨rfl, S2⟩; have mL := pq_less (CE.out S2); have hl2 := less_st S2 (2 * root + 2) root (by omega) (by omega); rw [hG, E.out.2] at hl2; clear S2; clear hl1) | (go_at_call 67; refine hl2.mono ?_; rintro e w2 ⟨rfl, S3⟩; clear hl2; have mS := pq_swap (CE.out S3); have hs := swap_st S3 root (2 * root + 2) (by omega) (by omega); rw [E.out.2] at hs; clear S3) | (go_at_call 68; refine hs.mono ?_; rintro e w3 ⟨rfl, S4⟩; clear hs))
            go_roundg (hi - (2 * root + 2))
            case measure => omega
            case rel => exact ⟨2 * root + 2, swp dk root (2 * root + 2), by go_num, by omega, Nat.le_refl _, S4, (show Hid _ from by rw [← HE.out, sd_right_go gtE dk h1 (by simpa [gtE] using hL) (by simpa [gtE] using hG), Nat.zero_add, Nat.zero_add]; exact rfl)⟩
          | false =>
            clear S1
            go_wp2_with (first | (go_at_call 67; refine hl1.mono ?_; rintro e w1 ⟨rfl, S2⟩; have mL := pq_less (CE.out S2); have hl2 := less_st S2 (2 * root + 2) root (by omega) (by omega); rw [hG, E.out.2] at hl2; clear S2; clear hl1) | (go_at_call 67; refine hl2.mono ?_; rintro e w2 ⟨rfl, S3⟩; clear hl2))
            go_ret
            refine ⟨⟨_, rfl⟩, ?_⟩
            rw [← HE.out, sd_right_stop gtE dk h1 (by simpa [gtE] using hL) (by simpa [gtE] using hG)]
            exact S3
        | false =>
          rw [hL] at hl1
          cases hG : ltE dk[2 * root + 1]! dk[root]! with
          | true =>
            clear S1
            go_wp2_with (first | (go_at_call 67; refine hl1.mono ?_; rintro e w1 ⟨rfl, S2⟩; have mL := pq_less (CE.out S2); have hl2 := less_st S2 (2 * root + 1) root (by omega) (by omega); rw [hG, E.out.1] at hl2; clear S2; clear hl1) | (go_at_call 67; refine hl2.mono ?_; rintro e w2 ⟨rfl, S3⟩; clear hl2; have mS := pq_swap (CE.out S3); have hs := swap_st S3 root (2 * root + 1) (by omega) (by omega); rw [E.out.1] at hs; clear S3) | (go_at_call 68; refine hs.mono ?_; rintro e w3 ⟨rfl, S4⟩; clear hs))
            go_roundg (hi - (2 * root + 1))
            case measure => omega
            case rel => exact ⟨2 * root + 1, swp dk root (2 * root + 1), by go_num, by omega, Nat.le_refl _, S4, (show Hid _ from by rw [← HE.out, sd_left_go gtE dk (by omega) (fun _ => (by simpa [gtE] using hL)) (by simpa [gtE] using hG), Nat.zero_add, Nat.zero_add]; exact rfl)⟩
          | false =>
            clear S1
            go_wp2_with (first | (go_at_call 67; refine hl1.mono ?_; rintro e w1 ⟨rfl, S2⟩; have mL := pq_less (CE.out S2); have hl2 := less_st S2 (2 * root + 1) root (by omega) (by omega); rw [hG, E.out.1] at hl2; clear S2; clear hl1) | (go_at_call 67; refine hl2.mono ?_; rintro e w2 ⟨rfl, S3⟩; clear hl2))
            go_ret
            refine ⟨⟨_, rfl⟩, ?_⟩
            rw [← HE.out, sd_left_stop gtE dk (by omega) (fun _ => (by simpa [gtE] using hL)) (by simpa [gtE] using hG)]
            exact S3
      · have h1z : ¬ (2 * (root : Int) + 1 + 1 < (hi : Int)) := by omega
        cases hG : ltE dk[2 * root + 1]! dk[root]! with
        | true =>
          have S2 := S1
          have mL := pq_less (CE.out S2); have hl2 := less_st S2 (2 * root + 1) root (by omega) (by omega); rw [hG, E.out.1] at hl2; clear S2
          clear S1
          go_wp2_with (first | (go_at_call 67; refine hl2.mono ?_; rintro e w2 ⟨rfl, S3⟩; clear hl2; have mS := pq_swap (CE.out S3); have hs := swap_st S3 root (2 * root + 1) (by omega) (by omega); rw [E.out.1] at hs; clear S3) | (go_at_call 68; refine hs.mono ?_; rintro e w3 ⟨rfl, S4⟩; clear hs))
          go_roundg (hi - (2 * root + 1))
          case measure => omega
          case rel => exact ⟨2 * root + 1, swp dk root (2 * root + 1), by go_num, by omega, Nat.le_refl _, S4, (show Hid _ from by rw [← HE.out, sd_left_go gtE dk (by omega) (fun h => absurd h h1) (by simpa [gtE] using hG), Nat.zero_add, Nat.zero_add]; exact rfl)⟩
        | false =>
          have S2 := S1
          have mL := pq_less (CE.out S2); have hl2 := less_st S2 (2 * root + 1) root (by omega) (by omega); rw [hG, E.out.1] at hl2; clear S2
          clear S1
          go_wp2_with (first | (go_at_call 67; refine hl2.mono ?_; rintro e w2 ⟨rfl, S3⟩; clear hl2))
          go_ret
          refine ⟨⟨_, rfl⟩, ?_⟩
          rw [← HE.out, sd_left_stop gtE dk (by omega) (fun h => absurd h h1) (by simpa [gtE] using hG)]
          exact S3

set_option maxHeartbeats 2000000 in
set_option maxRecDepth 1000000 in
theorem init_st (p g cap n : Nat) (d : Array En) (w : World) (hc : w.cell? ⟨p, 0, none⟩ = some (.slice (some ⟨g, 0, none⟩) n cap)) (hS : Ro g cap n w d) (hpg : p ≠ g) (hn : n ≤ 1000000) :
    Calls Try.prog 26 #[(.iface 51 (.pointer (some ⟨p, 0, none⟩)))] w fun e w' => e = .returned (.tuple #[]) ∧ St g cap n w w' (heapBuild gtE n 0 (n / 2) d) := by
  have S0 := St.start hS
  have mN := pq_len hc
  have CE : Hid (∀ {w' : World} {d' : Array En}, St g cap n w w' d' → w'.cell? ⟨p, 0, none⟩ = some (.slice (some ⟨g, 0, none⟩) n cap)) := fun s => s.kp.cell hc (by simpa using hpg)
  clear hS hc
  go_enter Try.func26, Try.ntmps26
  go_wp2_with (go_at_call 66; refine (len_any _ _ _ _).mono ?_; rintro e w' ⟨rfl, hw⟩; subst w')
  clear mN
  go_loopg [3] (n / 2) (fun kx s3 wr => s3 = .int .i64 ((kx : Int) - 1) ∧ kx ≤ n / 2 ∧ ∃ (dk : Array En), St g cap n w wr dk ∧ Hid (heapBuild gtE n 0 kx dk = heapBuild gtE n 0 (n / 2) d))
  case atStart => exact ⟨by first | rfl | go_num, Nat.le_refl _, d, S0, rfl⟩
  case round =>
    obtain ⟨rfl, hkk, dk, S1, HE⟩ := hrel
    clear S0
    cases gk with
    | zero =>
      go_wp2
      go_end0
      refine ⟨rfl, ?_⟩
      rw [← HE.out]
      exact S1
    | succ kx =>
      have hcl := down_st p g cap n kx n dk wr (CE.out S1) S1.ro hpg (by omega) (Nat.le_refl _) hn
      go_wp2_with (go_at_call 30; refine hcl.mono ?_; rintro e w1 ⟨⟨b, rfl⟩, S2⟩)
      go_roundg kx
      case measure => omega
      case rel => exact ⟨by simp, by omega, siftDown gtE n 0 kx dk, S1.then S2, HE⟩
end Go.Proofs.Ytlmbheobaiibeaa
