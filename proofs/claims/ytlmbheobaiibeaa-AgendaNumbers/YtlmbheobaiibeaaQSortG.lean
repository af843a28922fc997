/-
  sort.pdqsort, sort.Sort over the queue: the entries are sorted.
-/
import Derived.Test.YtlmbheobaiibeaaQSortB
import Derived.Test.YtlmbheobaiibeaaQSortC
import Derived.Test.YtlmbheobaiibeaaQSortD
import Derived.Test.YtlmbheobaiibeaaQSortE
import Derived.Test.YtlmbheobaiibeaaQSortF
import Derived.Sort.Walk13a
import Derived.Sort.Walk13
import Derived.Sort.AssemblyPlain
import Derived.Deep.Cut
import Derived.Deep.CutRange
namespace Go.Proofs.Ytlmbheobaiibeaa
open Go.RowKit Go.Sort Go.Lib

theorem swoE : SWO ltE where
  irrefl := fun x => by simp [ltE]
  trans := fun x y z h1 h2 => by
    unfold ltE at *
    split at h1 <;> split at h2 <;> split <;> simp at * <;> omega
  ntrans := fun x y z h1 h2 => by
    unfold ltE at *
    split at h1 <;> split at h2 <;> split <;> simp at * <;> omega

set_option maxHeartbeats 12800000 in
set_option maxRecDepth 1000000 in
theorem pdqsort_st : ∀ (N g cap n a b limit : Nat) (d : Array En) (w : World), b - a < N → Ro g cap n w d → a ≤ b → b ≤ n → n < 256 → limit ≤ 1000 → Below ltE a b d →
    Calls Try.prog 33 #[.iface 47 (.slice (some ⟨g, 0, none⟩) n cap), .int .i64 a, .int .i64 b, .int .i64 limit] w fun e w' => e = .returned (.tuple #[]) ∧ St g cap n w w' (pdq ltE d a b limit true true) := by
  intro N
  induction N with
  | zero => intro _ _ _ _ _ _ _ _ h; exact absurd h (Nat.not_lt_zero _)
  | succ N ih =>
    intro g cap n a b limit d w hN hS hab hb hn hlimit hBel0
    have mL := q_less (some ⟨g, 0, none⟩) n cap
    have S0 := St.start hS
    clear hS
    go_enter Try.func33, Try.ntmps33
    go_wp2
    go_loopg [1, 2, 3, 8, 9] (b - a) (fun k s1 s2 s3 s8 s9 wr => ∃ (a' b' lim : Nat) (wb wp : Bool) (dk : Array En), s1 = .int .i64 a' ∧ s2 = .int .i64 b' ∧ s3 = .int .i64 lim ∧ s8 = .bool wb ∧ s9 = .bool wp ∧
      a' ≤ b' ∧ b' ≤ n ∧ b' - a' ≤ k ∧ k ≤ b - a ∧ lim ≤ limit ∧ Below ltE a' b' dk ∧ St g cap n w wr dk ∧ Hid (pdq ltE dk a' b' lim wb wp = pdq ltE d a b limit true true))
    case atStart => exact ⟨a, b, limit, true, true, d, rfl, rfl, rfl, rfl, rfl, hab, hb, Nat.le_refl _, Nat.le_refl _, Nat.le_refl _, hBel0, S0, rfl⟩
    case round =>
      obtain ⟨a', b', lim, wb, wp, dk, rfl, rfl, rfl, rfl, rfl, hab', hb', hk, hkN, hlim, hBel, S1, A⟩ := hrel
      clear S0 hBel0
      have hds := S1.ro.size
      by_cases h12 : b' - a' ≤ 12
      · have h12z : (b' : Int) - (a' : Int) ≤ 12 := by omega
        have hc := insertionSort_st g cap n a' b' dk wr S1.ro hab' hb' (by omega)
        clear hds hBel
        go_wp2_with (go_at_call 36; refine hc.mono ?_; rintro e w1 ⟨rfl, S2⟩)
        (try simp only [Exit.inBlock, Exit.then]); refine bodyPost_ret (results_none rfl _ _ _) rfl ?_
        refine ⟨rfl, ?_⟩
        rw [← A.out, pdq_small h12]
        exact S1.then S2
      · have h12z : ¬ ((b' : Int) - (a' : Int) ≤ 12) := by omega
        by_cases hl0 : lim = 0
        · subst hl0
          have hc := heapSort_st g cap n a' b' dk wr S1.ro hab' hb' (by omega)
          clear hds hBel
          go_wp2_with (go_at_call 37; refine hc.mono ?_; rintro e w1 ⟨rfl, S2⟩)
          (try simp only [Exit.inBlock, Exit.then]); refine bodyPost_ret (results_none rfl _ _ _) rfl ?_
          refine ⟨rfl, ?_⟩
          rw [← A.out, pdq_heap h12 rfl]
          exact S1.then S2
        · have hl0z : ¬ ((lim : Int) = 0) := by omega
          obtain ⟨s1, B1, hc1, s2, B2, hpv, s3, B3⟩ := rd_facts (lt := ltE) (limit := lim) (wb := wb) (wp := wp) swoE partialInsertionSort_holds reverseRange_holds (show a' < b' by omega) (show b' ≤ dk.size by omega) hBel
          have Z1 := hide (s1.trans hds)
          have Z2 := hide (s2.trans hds)
          have Z3 := hide (s3.trans hds)
          have HB3 := hide B3
          have HDS := hide hds
          clear s1 s2 s3 B1 B2 B3 hBel hds
          go_upto_if 35 with fail
          go_cut [3] from 19 (fun s3 wc => s3 = .int .i64 (rd ltE dk a' b' lim wb wp).lim ∧ St g cap n w wc (rd ltE dk a' b' lim wb wp).d1)
          case first =>
            cases wb
            · have hc := breakPatterns_st g cap n a' b' dk wr S1.ro hab' hb' hn
              go_wp2_with (go_at_call 38; refine hc.mono ?_; rintro e w1 ⟨rfl, S2⟩)
              go_meet
              case rel =>
                refine ⟨?_, S1.then S2⟩
                show Value.int .i64 ((lim : Int) - 1) = Value.int .i64 ((lim - 1 : Nat) : Int)
                congr 1
                omega
            · go_wp2_with fail
              go_meet
              case rel => exact ⟨rfl, S1⟩
          case rest =>
            clear S1
            obtain ⟨rfl, S1⟩ := hcut
            have hc17 : Calls Try.prog 39 #[.iface 47 (.slice (some ⟨g, 0, none⟩) n cap), .int .i64 a', .int .i64 b'] wc fun e w' => e = .returned (.tuple #[.int .i64 (rd ltE dk a' b' lim wb wp).c.1, .int .i64 (hintCode (rd ltE dk a' b' lim wb wp).c.2)]) ∧ Kp [] wc w' :=
              choosePivot_st g cap n (rd ltE dk a' b' lim wb wp).d1 wc S1.ro a' b' (by omega) hb' (by omega)
            go_upto_if 50 with (go_at_call 39; refine hc17.mono ?_; rintro e w2 ⟨rfl, k2⟩)
            have S2 := S1.on k2
            clear S1 k2 hc17
            go_cut [11, 12] from 19 (fun s11 s12 wc => s11 = .int .i64 (rd ltE dk a' b' lim wb wp).pivot ∧ s12 = .int .i64 (hintCode (rd ltE dk a' b' lim wb wp).hint) ∧ St g cap n w wc (rd ltE dk a' b' lim wb wp).d2)
            case first =>
              by_cases hh : (rd ltE dk a' b' lim wb wp).c.2 = .decreasing
              · have hcode : hintCode (rd ltE dk a' b' lim wb wp).c.2 = 2 := by rw [hh]; rfl
                obtain ⟨e2, epv, eht⟩ := rd_dec hh
                have hc18 := reverseRange_st g cap n a' b' (rd ltE dk a' b' lim wb wp).d1 w2 S2.ro hab' hb' (by omega)
                go_wp2_with (go_at_call 40; refine hc18.mono ?_; rintro e w3 ⟨rfl, S3⟩)
                go_meet
                case rel =>
                  refine ⟨?_, by rw [eht]; rfl, by rw [e2]; exact S2.then S3⟩
                  rw [epv]
                  congr 1
                  omega
              · have hcode : ¬ (hintCode (rd ltE dk a' b' lim wb wp).c.2 = 2) := fun h => hh (hintCode_two h)
                obtain ⟨e2, epv, eht⟩ := rd_not hh
                go_wp2_with fail
                go_meet
                case rel => exact ⟨by rw [epv], by rw [eht], by rw [e2]; exact S2⟩
            case rest =>
              clear S2
              obtain ⟨rfl, rfl, S3⟩ := hcut
              go_upto_region 15 with fail
              go_cut [12, 68] from 19 (fun s12 s68 wx => s12 = .int .i64 (hintCode (rd ltE dk a' b' lim wb wp).hint) ∧ s68 = .bool (wb && wp && decide ((rd ltE dk a' b' lim wb wp).hint = .increasing)) ∧ wx = wc)
              case first =>
                cases wb <;> cases wp <;> cases hh3 : (rd ltE dk a' b' lim _ _).hint <;>
                  (have hcode3 := congrArg hintCode hh3
                   simp only [hintCode] at hcode3
                   go_wp2_with fail
                   go_meet
                   exact ⟨by simp [hh3, hintCode], by simp [hh3, hintCode], rfl⟩)
              case rest =>
                obtain ⟨rfl, rfl, rfl⟩ := hcut
                go_upto_if 68 with fail
                go_cut [] from 19 (fun wx => (rd ltE dk a' b' lim wb wp).pi.2 = false ∧ St g cap n w wx (rd ltE dk a' b' lim wb wp).pi.1)
                case first =>
                  cases h68 : (wb && wp && decide ((rd ltE dk a' b' lim wb wp).hint = .increasing))
                  · have epi := rd_pi_no h68
                    go_wp2_with fail
                    go_meet
                    case rel => exact ⟨by rw [epi], by rw [epi]; exact S3⟩
                  · have epi := rd_pi_yes h68
                    have hc19 := partialInsertionSort_st g cap n a' b' (rd ltE dk a' b' lim wb wp).d2 wc S3.ro (by omega) hb' (by omega)
                    rw [← epi] at hc19
                    go_wp2_with (go_at_call 41; refine hc19.mono ?_; rintro e w4 ⟨rfl, S4⟩)
                    all_goals first
                      | (have hp2 : (rd ltE dk a' b' lim wb wp).pi.2 = false := by rw [epi]; assumption
                         go_meet
                         exact ⟨hp2, S3.then S4⟩)
                      | (have hp2 : (rd ltE dk a' b' lim wb wp).pi.2 = true := by rw [epi]; assumption
                         (try simp only [Exit.inBlock, Exit.then]); refine bodyPost_ret (results_none rfl _ _ _) rfl ?_
                         refine ⟨rfl, ?_⟩
                         rw [← A.out, pdq_done h12 hl0 hp2]
                         exact S3.then S4)
                case rest =>
                  clear S3
                  obtain ⟨hp2, S5⟩ := hcut
                  go_upto_region 17 with fail
                  go_cut [82] from 19 (fun s82 wx => s82 = .bool (decide (a' > 0) && !ltE (rd ltE dk a' b' lim wb wp).pi.1[a' - 1]! (rd ltE dk a' b' lim wb wp).pi.1[(rd ltE dk a' b' lim wb wp).pivot]!) ∧ St g cap n w wx (rd ltE dk a' b' lim wb wp).pi.1)
                  case first =>
                    rcases Nat.eq_zero_or_pos a' with ha0 | ha0
                    · have ha0z : decide ((a' : Int) > 0) = false := decide_eq_false (by omega)
                      go_wp2_with fail
                      go_meet
                      case rel => exact ⟨by simp [ha0], S5⟩
                    · have ha0z : (a' : Int) > 0 := by omega
                      have hl := less_st S5 (a' - 1) (rd ltE dk a' b' lim wb wp).pivot (by omega) (by omega)
                      rw [show ((a' - 1 : Nat) : Int) = (a' : Int) - 1 by omega] at hl
                      cases hlv : ltE (rd ltE dk a' b' lim wb wp).pi.1[a' - 1]! (rd ltE dk a' b' lim wb wp).pi.1[(rd ltE dk a' b' lim wb wp).pivot]! <;>
                        (rw [hlv] at hl
                         go_wp2_with (go_at_call 67; refine hl.mono ?_; rintro e w6 ⟨rfl, S6⟩)
                         go_meet
                         exact ⟨by simp [ha0, hlv], S6⟩)
                  case rest =>
                    clear S5
                    obtain ⟨rfl, S6⟩ := hcut
                    cases h87 : (decide (a' > 0) && !ltE (rd ltE dk a' b' lim wb wp).pi.1[a' - 1]! (rd ltE dk a' b' lim wb wp).pi.1[(rd ltE dk a' b' lim wb wp).pivot]!)
                    · obtain ⟨mid, ap, d4, hx⟩ : ∃ mid ap d4, partition ltE (rd ltE dk a' b' lim wb wp).pi.1 a' b' (rd ltE dk a' b' lim wb wp).pivot = (mid, ap, d4) := ⟨(partition ltE (rd ltE dk a' b' lim wb wp).pi.1 a' b' (rd ltE dk a' b' lim wb wp).pivot).1, (partition ltE (rd ltE dk a' b' lim wb wp).pi.1 a' b' (rd ltE dk a' b' lim wb wp).pivot).2.1, (partition ltE (rd ltE dk a' b' lim wb wp).pi.1 a' b' (rd ltE dk a' b' lim wb wp).pivot).2.2, rfl⟩
                      obtain ⟨r1, r2, r3, r4, r5, r6, r7⟩ := round_part swoE (partition_holds ltE) hpv.1 hpv.2 (show b' ≤ (rd ltE dk a' b' lim wb wp).pi.1.size by rw [Z3.out]; omega) HB3.out hx
                      have hc22 := partition_st g cap n a' b' (rd ltE dk a' b' lim wb wp).pivot (rd ltE dk a' b' lim wb wp).pi.1 wc S6.ro hpv.1 hpv.2 hb' (by omega)
                      rw [hx] at hc22
                      have X := hide hx
                      have R6 := hide r6
                      have R7 := hide r7
                      have R4 := hide r4
                      have R5 := hide r5
                      have hs4 := hide (r3.trans Z3.out)
                      clear hx r3 r4 r5 r6 r7
                      go_upto_if 108 with (go_at_call 43; refine hc22.mono ?_; rintro e w7 ⟨rfl, S7'⟩)
                      have S7 := S6.then S7'
                      clear S6 S7' hc22
                      by_cases h4 : mid - a' < b' - mid
                      · have h4z : (mid : Int) - (a' : Int) < (b' : Int) - (mid : Int) := by omega
                        have hih := ih g cap n a' mid (rd ltE dk a' b' lim wb wp).lim d4 w7 (by omega) S7.ro (by omega) (by omega) hn (Nat.le_trans rd_lim_le (Nat.le_trans hlim hlimit)) R4.out
                        go_wp2_with (go_at_call 33; refine hih.mono ?_; rintro e w8 ⟨rfl, S8⟩)
                        go_roundg (b' - (mid + 1))
                        case measure => omega
                        case rel =>
                          obtain ⟨pL, sL⟩ := pdq_sorts ltE swoE d4 a' mid (rd ltE dk a' b' lim wb wp).lim true true (by omega) (by rw [hs4.out]; omega) R4.out
                          refine ⟨mid + 1, b', (rd ltE dk a' b' lim wb wp).lim, decide (mid - a' ≥ (b' - a') / 8), ap, pdq ltE d4 a' mid (rd ltE dk a' b' lim wb wp).lim true true, by simp, rfl, rfl, ?_, rfl, by omega, by omega, Nat.le_refl _, by omega, Nat.le_trans rd_lim_le hlim, (R6.out _ pL sL).1, S7.then S8, ?_⟩
                          · exact congrArg Value.bool (eighth (by omega) (by omega))
                          · show _ = _
                            rw [← A.out, pdq_left h12 hl0 hp2 h87 (by rw [X.out]; exact ⟨r1, r2⟩) (by rw [X.out]; exact h4), X.out]
                      · have h4z : ¬ ((mid : Int) - (a' : Int) < (b' : Int) - (mid : Int)) := by omega
                        have hih := ih g cap n (mid + 1) b' (rd ltE dk a' b' lim wb wp).lim d4 w7 (by omega) S7.ro (by omega) (by omega) hn (Nat.le_trans rd_lim_le (Nat.le_trans hlim hlimit)) R5.out
                        rw [show ((mid + 1 : Nat) : Int) = (mid : Int) + 1 by omega] at hih
                        go_wp2_with (go_at_call 33; refine hih.mono ?_; rintro e w8 ⟨rfl, S8⟩)
                        go_roundg (mid - a')
                        case measure => omega
                        case rel =>
                          obtain ⟨pL, sL⟩ := pdq_sorts ltE swoE d4 (mid + 1) b' (rd ltE dk a' b' lim wb wp).lim true true (by omega) (by rw [hs4.out]; omega) R5.out
                          refine ⟨a', mid, (rd ltE dk a' b' lim wb wp).lim, decide (b' - mid ≥ (b' - a') / 8), ap, pdq ltE d4 (mid + 1) b' (rd ltE dk a' b' lim wb wp).lim true true, rfl, rfl, rfl, ?_, rfl, by omega, by omega, Nat.le_refl _, by omega, Nat.le_trans rd_lim_le hlim, (R7.out _ pL sL).1, S7.then S8, ?_⟩
                          · exact congrArg Value.bool (eighth (by omega) (by omega))
                          · show _ = _
                            rw [← A.out, pdq_right h12 hl0 hp2 h87 (by rw [X.out]; exact ⟨r1, r2⟩) (by rw [X.out]; exact h4), X.out]
                    · have h87' := h87
                      simp only [Bool.and_eq_true, decide_eq_true_eq, Bool.not_eq_true'] at h87'
                      obtain ⟨mid, d4, hx⟩ : ∃ mid d4, partitionEqual ltE (rd ltE dk a' b' lim wb wp).pi.1 a' b' (rd ltE dk a' b' lim wb wp).pivot = (mid, d4) := ⟨(partitionEqual ltE (rd ltE dk a' b' lim wb wp).pi.1 a' b' (rd ltE dk a' b' lim wb wp).pivot).1, (partitionEqual ltE (rd ltE dk a' b' lim wb wp).pi.1 a' b' (rd ltE dk a' b' lim wb wp).pivot).2, rfl⟩
                      obtain ⟨r1, r2, r3, r4, _⟩ := round_eq swoE (partitionEqual_holds ltE) h87'.1 hpv.1 hpv.2 (show b' ≤ (rd ltE dk a' b' lim wb wp).pi.1.size by rw [Z3.out]; omega) HB3.out h87'.2 hx
                      have hc21 := partitionEqual_st g cap n a' b' (rd ltE dk a' b' lim wb wp).pivot (rd ltE dk a' b' lim wb wp).pi.1 wc S6.ro hpv.1 hpv.2 hb' (by omega)
                      rw [hx] at hc21
                      have X := hide hx
                      have R4 := hide r4
                      clear hx h87' r3 r4
                      go_wp2_with (go_at_call 42; refine hc21.mono ?_; rintro e w7 ⟨rfl, S7⟩)
                      go_roundg (b' - mid)
                      case measure => omega
                      case rel => exact ⟨mid, b', (rd ltE dk a' b' lim wb wp).lim, wb, wp, d4, rfl, rfl, rfl, rfl, rfl, r2, hb', Nat.le_refl _, by omega, Nat.le_trans rd_lim_le hlim, R4.out, S6.then S7, by show _ = _; rw [← A.out, pdq_eq h12 hl0 hp2 h87 (by rw [X.out]; exact ⟨r1, r2⟩), X.out]⟩

/-- What sort.Sort leaves: the same entries, in order. -/
structure Sorted (d d' : Array En) : Prop where
  perm : d'.toList.Perm d.toList
  sorted : ∀ i j, i < j → j < d.size → ltE d'[j]! d'[i]! = false

set_option maxHeartbeats 1000000 in
set_option maxRecDepth 100000 in
theorem sort_any (g cap n : Nat) (d : Array En) (w : World) (hS : Ro g cap n w d) (hn : n < 256) :
    Calls Try.prog 28 #[.iface 47 (.slice (some ⟨g, 0, none⟩) n cap)] w fun e w' => e = .returned (.tuple #[]) ∧ ∃ d', Sorted d d' ∧ St g cap n w w' d' := by
  have mN := q_len (some ⟨g, 0, none⟩) n cap
  have hlen := fun w => len_any (some ⟨g, 0, none⟩) n cap w
  have hs := hS.size
  by_cases h1 : n ≤ 1
  · have h1z : (n : Int) ≤ 1 := by omega
    have S0 := St.start hS
    have SO : Hid (Sorted d d) := ⟨List.Perm.refl _, fun i j h h' => by omega⟩
    clear hS hs
    go_enter Try.func28, Try.ntmps28
    go_wp2_with (go_at_call 66; refine (hlen _).mono ?_; rintro e w' ⟨rfl, rfl⟩)
    (try simp only [Exit.inBlock, Exit.then]); refine bodyPost_ret (results_none rfl _ _ _) rfl ?_
    exact ⟨rfl, d, SO.out, S0⟩
  · have h1z : ¬ (n : Int) ≤ 1 := by omega
    have wr : IntKind.u64.wrap (n : Int) = n := by simp [IntKind.wrap, IntKind.bits, IntKind.signed]; omega
    have hL : bitsLen n ≤ 8 := (bitsLen_le_iff n 8).2 (by omega)
    have hp := pdqsort_st (n + 1) g cap n 0 n (bitsLen n) d w (by omega) hS (Nat.zero_le _) (Nat.le_refl _) hn (by omega) (Or.inl rfl)
    have PS := hide (pdq_sorts ltE swoE d 0 n (bitsLen n) true true (Nat.zero_le _) (by omega) (Or.inl rfl))
    clear hS
    have hb := fun w => len_small n w hn
    have HS := hide hs
    clear hs
    generalize bitsLen n = lim at hL hp PS hb
    go_enter Try.func28, Try.ntmps28
    go_wp2_with (first
      | (go_at_call 66; refine (hlen _).mono ?_; rintro e w' ⟨rfl, rfl⟩)
      | (go_at_call 32; refine (hb _).mono ?_; rintro e w' ⟨rfl, rfl⟩)
      | (go_at_call 33; refine hp.mono ?_; rintro e w1 ⟨rfl, S1⟩))
    go_end0
    refine ⟨rfl, _, ?_, S1⟩
    obtain ⟨⟨p1, p2, p3⟩, p4⟩ := PS.out
    have hs := HS.out
    refine ⟨?_, fun i j h h' => p4 i j (Nat.zero_le _) h (by omega)⟩
    rw [← hs, Array.extract_size] at p3
    rw [show (pdq ltE d 0 d.size lim true true).extract 0 d.size = pdq ltE d 0 d.size lim true true from by rw [← hs] at p1; exact (congrArg _ p1.symm).trans Array.extract_size] at p3
    rw [← hs]
    exact p3
end Go.Proofs.Ytlmbheobaiibeaa
