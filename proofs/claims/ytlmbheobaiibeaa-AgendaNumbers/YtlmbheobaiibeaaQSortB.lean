/-
  sort.siftDown, sort.heapSort over the queue.
-/
import Derived.Test.YtlmbheobaiibeaaQSortA
import Derived.Sort.WalkB2
import Derived.Sort.WalkB3
namespace Go.Proofs.Ytlmbheobaiibeaa
open Go.RowKit Go.Sort Go.Lib

set_option maxHeartbeats 4000000 in
set_option maxRecDepth 1000000 in
theorem siftDown_st (g cap n lo hi first : Nat) (d : Array En) (w : World) (hS : Ro g cap n w d) (hlo : lo ≤ hi) (hb : first + hi ≤ n) (hn : n ≤ 1000000) :
    Calls Try.prog 44 #[.iface 47 (.slice (some ⟨g, 0, none⟩) n cap), .int .i64 lo, .int .i64 hi, .int .i64 first] w fun e w' =>
      e = .returned (.tuple #[]) ∧ St g cap n w w' (siftDown ltE hi first lo d) := by
  have mL := q_less (some ⟨g, 0, none⟩) n cap
  have mS := q_swap (some ⟨g, 0, none⟩) n cap
  have S0 := St.start hS
  clear hS
  go_enter Try.func44, Try.ntmps44
  go_wp2
  go_loopg [8] (hi - lo) (fun kx s8 wr => ∃ (root : Nat) (dk : Array En), s8 = .int .i64 root ∧ root ≤ hi ∧ hi - root ≤ kx ∧ St g cap n w wr dk ∧ Hid (siftDown ltE hi first root dk = siftDown ltE hi first lo d))
  case atStart => exact ⟨lo, d, rfl, hlo, Nat.le_refl _, S0, rfl⟩
  case round =>
    obtain ⟨root, dk, rfl, hr, hkx, S1, HE⟩ := hrel
    clear S0
    by_cases h0 : hi ≤ 2 * root + 1
    · have h0z : (hi : Int) ≤ 2 * (root : Int) + 1 := by omega
      go_wp2
      go_end0
      refine ⟨rfl, ?_⟩
      rw [← HE.out, sd_end ltE dk h0]
      exact S1
    · have h0z : ¬ ((hi : Int) ≤ 2 * (root : Int) + 1) := by omega
      have e1 : ((first + (2 * root + 1) : Nat) : Int) = (first : Int) + (2 * (root : Int) + 1) := by omega
      have e2 : ((first + (2 * root + 2) : Nat) : Int) = (first : Int) + (2 * (root : Int) + 1) + 1 := by omega
      have e2' : ((first + (2 * root + 2) : Nat) : Int) = (first : Int) + (2 * (root : Int) + 1 + 1) := by omega
      have e0 : ((first + root : Nat) : Int) = (first : Int) + (root : Int) := by omega
      have E : Hid (((first + (2 * root + 1) : Nat) : Int) = (first : Int) + (2 * (root : Int) + 1) ∧ ((first + (2 * root + 2) : Nat) : Int) = (first : Int) + (2 * (root : Int) + 1) + 1 ∧ ((first + (2 * root + 2) : Nat) : Int) = (first : Int) + (2 * (root : Int) + 1 + 1) ∧ ((first + root : Nat) : Int) = (first : Int) + (root : Int)) := ⟨e1, e2, e2', e0⟩
      clear e1 e2 e2' e0
      by_cases h1 : 2 * root + 2 < hi
      · have h1z : 2 * (root : Int) + 1 + 1 < (hi : Int) := by omega
        have hl1 := less_st S1 (first + (2 * root + 1)) (first + (2 * root + 2)) (by omega) (by omega)
        rw [E.out.1, E.out.2.1] at hl1
        cases hL : ltE dk[first + (2 * root + 1)]! dk[first + (2 * root + 2)]! with
        | true =>
          rw [hL] at hl1
          cases hG : ltE dk[first + root]! dk[first + (2 * root + 2)]! with
          | true =>
            clear S1
            go_wp2_with (first | (go_at_call 67; refine hl1.mono ?_; rintro e w1 ⟨rfl, S2⟩; have hl2 := less_st S2 (first + root) (first + (2 * root + 2)) (by omega) (by omega); rw [hG, E.out.2.2.2, E.out.2.2.1] at hl2; clear S2; clear hl1) | (go_at_call 67; refine hl2.mono ?_; rintro e w2 ⟨rfl, S3⟩; clear hl2; have hs := swap_st S3 (first + root) (first + (2 * root + 2)) (by omega) (by omega); rw [E.out.2.2.2, E.out.2.2.1] at hs; clear S3) | (go_at_call 68; refine hs.mono ?_; rintro e w3 ⟨rfl, S4⟩))
            go_roundg (hi - (2 * root + 2))
            case measure => omega
            case rel => exact ⟨2 * root + 2, swp dk (first + root) (first + (2 * root + 2)), by go_num, by omega, Nat.le_refl _, S4, (show Hid _ from by rw [← HE.out, sd_right_go ltE dk h1 hL hG]; exact rfl)⟩
          | false =>
            clear S1
            go_wp2_with (first | (go_at_call 67; refine hl1.mono ?_; rintro e w1 ⟨rfl, S2⟩; have hl2 := less_st S2 (first + root) (first + (2 * root + 2)) (by omega) (by omega); rw [hG, E.out.2.2.2, E.out.2.2.1] at hl2; clear S2; clear hl1) | (go_at_call 67; refine hl2.mono ?_; rintro e w2 ⟨rfl, S3⟩; clear hl2))
            (try simp only [Exit.inBlock, Exit.then]); refine bodyPost_ret (results_none rfl _ _ _) rfl ?_
            refine ⟨rfl, ?_⟩
            rw [← HE.out, sd_right_stop ltE dk h1 hL hG]
            exact S3
        | false =>
          rw [hL] at hl1
          cases hG : ltE dk[first + root]! dk[first + (2 * root + 1)]! with
          | true =>
            clear S1
            go_wp2_with (first | (go_at_call 67; refine hl1.mono ?_; rintro e w1 ⟨rfl, S2⟩; have hl2 := less_st S2 (first + root) (first + (2 * root + 1)) (by omega) (by omega); rw [hG, E.out.2.2.2, E.out.1] at hl2; clear S2; clear hl1) | (go_at_call 67; refine hl2.mono ?_; rintro e w2 ⟨rfl, S3⟩; clear hl2; have hs := swap_st S3 (first + root) (first + (2 * root + 1)) (by omega) (by omega); rw [E.out.2.2.2, E.out.1] at hs; clear S3) | (go_at_call 68; refine hs.mono ?_; rintro e w3 ⟨rfl, S4⟩))
            go_roundg (hi - (2 * root + 1))
            case measure => omega
            case rel => exact ⟨2 * root + 1, swp dk (first + root) (first + (2 * root + 1)), by go_num, by omega, Nat.le_refl _, S4, (show Hid _ from by rw [← HE.out, sd_left_go ltE dk (by omega) (fun _ => hL) hG]; exact rfl)⟩
          | false =>
            clear S1
            go_wp2_with (first | (go_at_call 67; refine hl1.mono ?_; rintro e w1 ⟨rfl, S2⟩; have hl2 := less_st S2 (first + root) (first + (2 * root + 1)) (by omega) (by omega); rw [hG, E.out.2.2.2, E.out.1] at hl2; clear S2; clear hl1) | (go_at_call 67; refine hl2.mono ?_; rintro e w2 ⟨rfl, S3⟩; clear hl2))
            (try simp only [Exit.inBlock, Exit.then]); refine bodyPost_ret (results_none rfl _ _ _) rfl ?_
            refine ⟨rfl, ?_⟩
            rw [← HE.out, sd_left_stop ltE dk (by omega) (fun _ => hL) hG]
            exact S3
      · have h1z : ¬ (2 * (root : Int) + 1 + 1 < (hi : Int)) := by omega
        cases hG : ltE dk[first + root]! dk[first + (2 * root + 1)]! with
        | true =>
          have S2 := S1
          have hl2 := less_st S2 (first + root) (first + (2 * root + 1)) (by omega) (by omega); rw [hG, E.out.2.2.2, E.out.1] at hl2; clear S2
          clear S1
          go_wp2_with (first | (go_at_call 67; refine hl2.mono ?_; rintro e w2 ⟨rfl, S3⟩; clear hl2; have hs := swap_st S3 (first + root) (first + (2 * root + 1)) (by omega) (by omega); rw [E.out.2.2.2, E.out.1] at hs; clear S3) | (go_at_call 68; refine hs.mono ?_; rintro e w3 ⟨rfl, S4⟩))
          go_roundg (hi - (2 * root + 1))
          case measure => omega
          case rel => exact ⟨2 * root + 1, swp dk (first + root) (first + (2 * root + 1)), by go_num, by omega, Nat.le_refl _, S4, (show Hid _ from by rw [← HE.out, sd_left_go ltE dk (by omega) (fun h => absurd h h1) hG]; exact rfl)⟩
        | false =>
          have S2 := S1
          have hl2 := less_st S2 (first + root) (first + (2 * root + 1)) (by omega) (by omega); rw [hG, E.out.2.2.2, E.out.1] at hl2; clear S2
          clear S1
          go_wp2_with (first | (go_at_call 67; refine hl2.mono ?_; rintro e w2 ⟨rfl, S3⟩; clear hl2))
          (try simp only [Exit.inBlock, Exit.then]); refine bodyPost_ret (results_none rfl _ _ _) rfl ?_
          refine ⟨rfl, ?_⟩
          rw [← HE.out, sd_left_stop ltE dk (by omega) (fun h => absurd h h1) hG]
          exact S3

set_option maxHeartbeats 4000000 in
set_option maxRecDepth 1000000 in
theorem heapSort_st (g cap n a b : Nat) (d : Array En) (w : World) (hS : Ro g cap n w d) (hab : a ≤ b) (hb : b ≤ n) (hn : n ≤ 1000000) :
    Calls Try.prog 37 #[.iface 47 (.slice (some ⟨g, 0, none⟩) n cap), .int .i64 a, .int .i64 b] w fun e w' =>
      e = .returned (.tuple #[]) ∧ St g cap n w w' (heapSort ltE d a b) := by
  have mS := q_swap (some ⟨g, 0, none⟩) n cap
  have S0 := St.start hS
  clear hS
  have ecast : ((b - a : Nat) : Int) = (b : Int) - (a : Int) := by omega
  go_enter Try.func37, Try.ntmps37
  go_wp2
  go_loopg [9] ((b - a - 1) / 2 + 1) (fun kx s9 wr => s9 = .int .i64 ((kx : Int) - 1) ∧ kx ≤ (b - a - 1) / 2 + 1 ∧ ∃ (dk : Array En), St g cap n w wr dk ∧ Hid (heapBuild ltE (b - a) a kx dk = heapBuild ltE (b - a) a ((b - a - 1) / 2 + 1) d))
  case atStart => exact ⟨by rw [half_start hab], Nat.le_refl _, d, S0, rfl⟩
  case round =>
    obtain ⟨rfl, hkk, dk, S1, HE⟩ := hrel
    clear S0
    cases gk with
    | zero =>
      have HB : Hid (dk = heapBuild ltE (b - a) a ((b - a - 1) / 2 + 1) d) := HE.out
      clear HE hkk
      go_wp2
      go_loopg [10] (b - a) (fun kx s10 wr2 => s10 = .int .i64 ((kx : Int) - 1) ∧ kx ≤ b - a ∧ ∃ (dj : Array En), St g cap n w wr2 dj ∧ Hid (heapPop ltE a kx dj = heapPop ltE a (b - a) dk))
      case atStart => exact ⟨by rw [ecast], Nat.le_refl _, dk, S1, rfl⟩
      case round =>
        clear S1
        obtain ⟨rfl, hkk, dj, S1, HE2⟩ := hrel
        cases gk with
        | zero =>
          go_wp2
          go_end0
          have e : dj = heapSort ltE d a b := by rw [heapSort, ← HB.out, ← HE2.out]; rfl
          rw [← e]
          exact ⟨rfl, S1⟩
        | succ kx =>
          have hs := swap_st S1 a (a + kx) (by omega) (by omega)
          rw [show ((a + kx : Nat) : Int) = (a : Int) + (kx : Int) by omega] at hs
          clear S1
          go_wp2_with (first | (go_at_call 68; refine hs.mono ?_; rintro e w1 ⟨rfl, S2⟩; clear hs; have hc := siftDown_st g cap n 0 kx a _ w1 S2.ro (Nat.zero_le _) (by omega) hn) | (go_at_call 44; refine hc.mono ?_; rintro e w2 ⟨rfl, S3⟩))
          go_roundg kx
          case measure => omega
          case rel => exact ⟨by simp, by omega, siftDown ltE kx a 0 (swp dj a (a + kx)), S2.then S3, HE2⟩
    | succ kx =>
      have hc := siftDown_st g cap n kx (b - a) a dk wr S1.ro (by omega) (by omega) hn
      rw [ecast] at hc
      go_wp2_with (go_at_call 44; refine hc.mono ?_; rintro e w1 ⟨rfl, S2⟩)
      go_roundg kx
      case measure => omega
      case rel => exact ⟨by simp, by omega, siftDown ltE (b - a) a kx dk, S1.then S2, HE⟩
end Go.Proofs.Ytlmbheobaiibeaa
