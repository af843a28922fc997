/-
  sort.partitionEqual, sort.partition over the queue.
-/
import Derived.Test.YtlmbheobaiibeaaQSortA
import Derived.Sort.WalkC
import Derived.Sort.WalkC4
namespace Go.Proofs.Ytlmbheobaiibeaa
open Go.RowKit Go.Sort Go.Lib

set_option maxHeartbeats 12800000 in
set_option maxRecDepth 100000 in
theorem partitionEqual_st (g cap n a b pivot : Nat) (d : Array En) (w : World) (hS : Ro g cap n w d) (hap : a ≤ pivot) (hpb : pivot < b) (hb : b ≤ n) (hn : n ≤ 1000000) :
    Calls Try.prog 42 #[.iface 47 (.slice (some ⟨g, 0, none⟩) n cap), .int .i64 a, .int .i64 b, .int .i64 pivot] w fun e w' =>
      e = .returned (.int .i64 (Sort.partitionEqual ltE d a b pivot).1) ∧ St g cap n w w' (Sort.partitionEqual ltE d a b pivot).2 := by
  have mL := q_less (some ⟨g, 0, none⟩) n cap
  have mS := q_swap (some ⟨g, 0, none⟩) n cap
  have hs0 := swap_st (St.start hS) a pivot (by omega) (by omega)
  clear hS
  go_enter Try.func42, Try.ntmps42
  go_wp2_with (go_at_call 68; refine hs0.mono ?_; rintro e w0 ⟨rfl, S0⟩; clear hs0)
  go_loopg [9, 10] (b - a) (fun kx vi vj wr => ∃ (i j : Nat) (dk : Array En), vi = .int .i64 i ∧ vj = .int .i64 j ∧ j + 1 - i ≤ kx ∧ a < i ∧ i ≤ j + 1 ∧ j < b ∧ St g cap n w wr dk ∧
      Hid (partEqLoop ltE a i j dk = partEqLoop ltE a (a + 1) (b - 1) (swp d a pivot)))
  case atStart => exact ⟨a + 1, b - 1, swp d a pivot, by go_num, by go_num, by omega, by omega, by omega, by omega, S0, rfl⟩
  case round =>
    obtain ⟨i, j, dk, rfl, rfl, hkx, hai, hij, hjb, S1, AE⟩ := hrel
    clear S0
    go_wp2
    go_loopg [9] (j + 1 - i) (fun ku vi w1 => ∃ i' : Nat, vi = .int .i64 i' ∧ j + 1 - i' ≤ ku ∧ i ≤ i' ∧ i' ≤ j + 1 ∧ St g cap n w w1 dk ∧ Hid (scanUp (fun x => !ltE dk[a]! x) dk j i' = scanUp (fun x => !ltE dk[a]! x) dk j i))
    case atStart => exact ⟨i, rfl, Nat.le_refl _, Nat.le_refl _, hij, S1, rfl⟩
    case round =>
      obtain ⟨i', rfl, hku, hii, hij', S2, hsc⟩ := hrel
      clear S1
      by_cases hle : i' ≤ j
      · have hl := less_st S2 a i' (by omega) (by omega)
        clear S2
        cases hlv : ltE dk[a]! dk[i']! with
        | false =>
          rw [hlv] at hl
          go_wp2_with (go_at_call 67; refine hl.mono ?_; rintro e w3 ⟨rfl, S3⟩)
          go_roundg (j + 1 - (i' + 1))
          case rel => exact ⟨i' + 1, by go_num, by omega, by omega, by omega, S3, (scanUp_go (fun x => !ltE dk[a]! x) dk j i' hle (by simp [hlv])).symm.trans hsc.out⟩
          case measure => omega
        | true =>
          rw [hlv] at hl
          have hi2 : Hid (i' = scanUp (fun x => !ltE dk[a]! x) dk j i) := (scanUp_end (fun x => !ltE dk[a]! x) dk j i' (Or.inr (by simp [hlv]))).symm.trans hsc.out
          clear hsc
          go_wp2_with (go_at_call 67; refine hl.mono ?_; rintro e w3 ⟨rfl, S3⟩)
          clear hl
          go_loopg [10] (j + 1) (fun kd vj w2 => ∃ j' : Nat, vj = .int .i64 j' ∧ j' + 1 ≤ kd ∧ j' ≤ j ∧ i' ≤ j' + 1 ∧ St g cap n w w2 dk ∧ Hid (scanDown (fun x => ltE dk[a]! x) dk i' j' = scanDown (fun x => ltE dk[a]! x) dk i' j))
          case atStart => exact ⟨j, rfl, Nat.le_refl _, Nat.le_refl _, hij', S3, rfl⟩
          case round =>
            obtain ⟨j', rfl, hkd, hjj, hij2, S4, hsd⟩ := hrel
            clear S3
            by_cases hle2 : i' ≤ j'
            · have hl := less_st S4 a j' (by omega) (by omega)
              cases hlv2 : ltE dk[a]! dk[j']! with
              | true =>
                rw [hlv2] at hl
                clear S4
                go_wp2_with (go_at_call 67; refine hl.mono ?_; rintro e w4 ⟨rfl, S5⟩)
                go_roundg j'
                case rel => exact ⟨j' - 1, by go_num, by omega, by omega, by omega, S5, (scanDown_go (fun x => ltE dk[a]! x) dk i' j' hle2 (by omega) hlv2).symm.trans hsd.out⟩
                case measure => omega
              | false =>
                rw [hlv2] at hl
                have hj2 : Hid (j' = scanDown (fun x => ltE dk[a]! x) dk i' j) := (scanDown_end (fun x => ltE dk[a]! x) dk i' j' (Or.inr hlv2)).symm.trans hsd.out
                have hlt3 := scans_lt ltE a i j dk (by omega) hi2.out hj2.out hle2
                clear hsd S4
                go_wp2_with (first | (go_at_call 67; refine hl.mono ?_; rintro e w4 ⟨rfl, S5⟩; clear hl; have hsw := swap_st S5 i' j' (by omega) (by omega); clear S5) | (go_at_call 68; refine hsw.mono ?_; rintro e w5 ⟨rfl, S6⟩; clear hsw))
                go_roundg (j' - 1 + 1 - (i' + 1))
                case rel => exact ⟨i' + 1, j' - 1, swp dk i' j', by go_num, by go_num, by omega, by omega, by omega, by omega, S6, by show _ = _; rw [← AE.out]; exact (partEq_go ltE a i j dk hi2.out hj2.out (by omega)).symm⟩
                case measure => omega
            · have hj2 : Hid (j' = scanDown (fun x => ltE dk[a]! x) dk i' j) := (scanDown_end (fun x => ltE dk[a]! x) dk i' j' (Or.inl hle2)).symm.trans hsd.out
              clear hsd
              go_wp2
              go_ret
              have e := partEq_break ltE a i j dk hi2.out hj2.out (by omega)
              unfold Sort.partitionEqual
              rw [← AE.out, e]
              exact ⟨rfl, S4⟩
      · have hi2 : Hid (i' = scanUp (fun x => !ltE dk[a]! x) dk j i) := (scanUp_end (fun x => !ltE dk[a]! x) dk j i' (Or.inl hle)).symm.trans hsc.out
        clear hsc
        go_wp2
        go_loopg [10] (j + 1) (fun kd vj w2 => ∃ j' : Nat, vj = .int .i64 j' ∧ j' + 1 ≤ kd ∧ j' ≤ j ∧ i' ≤ j' + 1 ∧ St g cap n w w2 dk ∧ Hid (scanDown (fun x => ltE dk[a]! x) dk i' j' = scanDown (fun x => ltE dk[a]! x) dk i' j))
        case atStart => exact ⟨j, rfl, Nat.le_refl _, Nat.le_refl _, hij', S2, rfl⟩
        case round =>
          obtain ⟨j', rfl, hkd, hjj, hij2, S4, hsd⟩ := hrel
          clear S2
          by_cases hle2 : i' ≤ j'
          · exfalso; omega
          · have hj2 : Hid (j' = scanDown (fun x => ltE dk[a]! x) dk i' j) := (scanDown_end (fun x => ltE dk[a]! x) dk i' j' (Or.inl hle2)).symm.trans hsd.out
            clear hsd
            go_wp2
            go_ret
            have e := partEq_break ltE a i j dk hi2.out hj2.out (by omega)
            unfold Sort.partitionEqual
            rw [← AE.out, e]
            exact ⟨rfl, S4⟩

set_option maxHeartbeats 12800000 in
set_option maxRecDepth 100000 in
theorem partition_st (g cap n a b pivot : Nat) (d : Array En) (w : World) (hS : Ro g cap n w d) (hap : a ≤ pivot) (hpb : pivot < b) (hb : b ≤ n) (hn : n ≤ 1000000) :
    Calls Try.prog 43 #[.iface 47 (.slice (some ⟨g, 0, none⟩) n cap), .int .i64 a, .int .i64 b, .int .i64 pivot] w fun e w' =>
      e = .returned (.tuple #[.int .i64 (Sort.partition ltE d a b pivot).1, .bool (Sort.partition ltE d a b pivot).2.1]) ∧ St g cap n w w' (Sort.partition ltE d a b pivot).2.2 := by
  have mL := q_less (some ⟨g, 0, none⟩) n cap
  have mS := q_swap (some ⟨g, 0, none⟩) n cap
  have hs0 := swap_st (St.start hS) a pivot (by omega) (by omega)
  clear hS
  obtain ⟨i, hi⟩ : ∃ i : Nat, i = a + 1 := ⟨_, rfl⟩
  obtain ⟨j, hj⟩ : ∃ j : Nat, j = b - 1 := ⟨_, rfl⟩
  obtain ⟨dk, hdk⟩ : ∃ dk : Array En, dk = swp d a pivot := ⟨_, rfl⟩
  have hai : a < i := by omega
  have hij : i ≤ j + 1 := by omega
  have hjb : j < b := by omega
  rw [← hdk] at hs0
  have Hi := hide hi
  have Hj := hide hj
  have Hdk := hide hdk
  clear hi hj hdk
  go_enter Try.func43, Try.ntmps43
  go_wp2_with (go_at_call 68; refine hs0.mono ?_; rintro e w0 ⟨rfl, S1⟩; clear hs0)
  rw [show ((a : Int) + 1) = (i : Int) by have := Hi.out; omega, show ((b : Int) - 1) = (j : Int) by have := Hj.out; omega]
  go_loopg [10] (j + 1 - i) (fun ku vi w1 => ∃ i' : Nat, vi = .int .i64 i' ∧ j + 1 - i' ≤ ku ∧ i ≤ i' ∧ i' ≤ j + 1 ∧ St g cap n w w1 dk ∧ Hid (scanUp (fun x => ltE x dk[a]!) dk j i' = scanUp (fun x => ltE x dk[a]!) dk j i))
  case atStart => exact ⟨i, rfl, Nat.le_refl _, Nat.le_refl _, hij, S1, rfl⟩
  case round =>
    obtain ⟨i', rfl, hku, hii, hij', S2, hsc⟩ := hrel
    clear S1
    by_cases hle : i' ≤ j
    · have hl := less_st S2 i' a (by omega) (by omega)
      clear S2
      cases hlv : ltE dk[i']! dk[a]! with
      | true =>
        rw [hlv] at hl
        go_wp2_with (go_at_call 67; refine hl.mono ?_; rintro e w3 ⟨rfl, S3⟩)
        go_roundg (j + 1 - (i' + 1))
        case rel => exact ⟨i' + 1, by go_num, by omega, by omega, by omega, S3, (scanUp_go (fun x => ltE x dk[a]!) dk j i' hle hlv).symm.trans hsc.out⟩
        case measure => omega
      | false =>
        rw [hlv] at hl
        have hi2 : Hid (i' = scanUp (fun x => ltE x dk[a]!) dk j i) := (scanUp_end (fun x => ltE x dk[a]!) dk j i' (Or.inr hlv)).symm.trans hsc.out
        clear hsc
        go_wp2_with (go_at_call 67; refine hl.mono ?_; rintro e w3 ⟨rfl, S3⟩)
        clear hl
        go_loopg [11] (j + 1) (fun kd vj w2 => ∃ j' : Nat, vj = .int .i64 j' ∧ j' + 1 ≤ kd ∧ j' ≤ j ∧ i' ≤ j' + 1 ∧ St g cap n w w2 dk ∧ Hid (scanDown (fun x => !ltE x dk[a]!) dk i' j' = scanDown (fun x => !ltE x dk[a]!) dk i' j))
        case atStart => exact ⟨j, rfl, Nat.le_refl _, Nat.le_refl _, hij', S3, rfl⟩
        case round =>
          obtain ⟨j', rfl, hkd, hjj, hij2, S4, hsd⟩ := hrel
          clear S3
          by_cases hle2 : i' ≤ j'
          · have hl := less_st S4 j' a (by omega) (by omega)
            cases hlv2 : ltE dk[j']! dk[a]! with
            | false =>
              rw [hlv2] at hl
              clear S4
              go_wp2_with (go_at_call 67; refine hl.mono ?_; rintro e w4 ⟨rfl, S5⟩)
              go_roundg j'
              case rel => exact ⟨j' - 1, by go_num, by omega, by omega, by omega, S5, (scanDown_go (fun x => !ltE x dk[a]!) dk i' j' hle2 (by omega) (by simp [hlv2])).symm.trans hsd.out⟩
              case measure => omega
            | true =>
              rw [hlv2] at hl
              have hj2 : Hid (j' = scanDown (fun x => !ltE x dk[a]!) dk i' j) := (scanDown_end (fun x => !ltE x dk[a]!) dk i' j' (Or.inr (by simp [hlv2]))).symm.trans hsd.out
              have hlt3 := part_scans_lt ltE a i j dk (by omega) hi2.out hj2.out hle2
              clear hsd S4
              go_wp2_with (first | (go_at_call 67; refine hl.mono ?_; rintro e w4 ⟨rfl, S5⟩; clear hl; have hsw := swap_st S5 i' j' (by omega) (by omega); clear S5) | (go_at_call 68; refine hsw.mono ?_; rintro e w5 ⟨rfl, S6⟩; clear hsw))
              (try rw [decide_eq_false (show ¬ j' < i' by omega)])
              obtain ⟨I0, hI0⟩ : ∃ I0 : Nat, I0 = i' + 1 := ⟨_, rfl⟩
              obtain ⟨J0, hJ0⟩ : ∃ J0 : Nat, J0 = j' - 1 := ⟨_, rfl⟩
              obtain ⟨D0, hD0⟩ : ∃ D0 : Array En, D0 = swp dk i' j' := ⟨_, rfl⟩
              have PF : Hid (Sort.partition ltE d a b pivot = ((partLoop ltE a I0 J0 D0).1, false, swp (partLoop ltE a I0 J0 D0).2 (partLoop ltE a I0 J0 D0).1 a)) := by
                rw [hI0, hJ0, hD0]; exact part_first_go ltE d a b pivot Hi.out Hj.out Hdk.out hi2.out hj2.out (by omega)
              go_loopg [10, 11] (b - a) (fun kx vi vj wr => ∃ (i j : Nat) (dk : Array En), vi = .int .i64 i ∧ vj = .int .i64 j ∧ j + 1 - i ≤ kx ∧ a < i ∧ i ≤ j + 1 ∧ j < b ∧ St g cap n w wr dk ∧ Hid (partLoop ltE a i j dk = partLoop ltE a I0 J0 D0))
              case atStart => exact ⟨i' + 1, j' - 1, swp dk i' j', by go_num, by go_num, by omega, by omega, by omega, by omega, S6, by show _ = _; rw [hI0, hJ0, hD0]⟩
              case round =>
                clear hI0 hJ0 hD0 hj2 hi2 hlt3 Hi Hj Hdk S6 hai hij hjb hlv hlv2 hle hle2 hku hkd hii hij' hij2 hjj
                obtain ⟨i, j, dk, rfl, rfl, hkx, hai, hij, hjb, S1, AE⟩ := hrel
                go_wp2
                go_loopg [10] (j + 1 - i) (fun kub vi w1 => ∃ i' : Nat, vi = .int .i64 i' ∧ j + 1 - i' ≤ kub ∧ i ≤ i' ∧ i' ≤ j + 1 ∧ St g cap n w w1 dk ∧ Hid (scanUp (fun x => ltE x dk[a]!) dk j i' = scanUp (fun x => ltE x dk[a]!) dk j i))
                case atStart => exact ⟨i, rfl, Nat.le_refl _, Nat.le_refl _, hij, S1, rfl⟩
                case round =>
                  obtain ⟨i', rfl, hku, hii, hij', S2, hsc⟩ := hrel
                  clear S1
                  by_cases hle : i' ≤ j
                  · have hl := less_st S2 i' a (by omega) (by omega)
                    clear S2
                    cases hlv : ltE dk[i']! dk[a]! with
                    | true =>
                      rw [hlv] at hl
                      go_wp2_with (go_at_call 67; refine hl.mono ?_; rintro e w3 ⟨rfl, S3⟩)
                      go_roundg (j + 1 - (i' + 1))
                      case rel => exact ⟨i' + 1, by go_num, by omega, by omega, by omega, S3, (scanUp_go (fun x => ltE x dk[a]!) dk j i' hle hlv).symm.trans hsc.out⟩
                      case measure => omega
                    | false =>
                      rw [hlv] at hl
                      have hi2 : Hid (i' = scanUp (fun x => ltE x dk[a]!) dk j i) := (scanUp_end (fun x => ltE x dk[a]!) dk j i' (Or.inr hlv)).symm.trans hsc.out
                      clear hsc
                      go_wp2_with (go_at_call 67; refine hl.mono ?_; rintro e w3 ⟨rfl, S3⟩)
                      clear hl
                      go_loopg [11] (j + 1) (fun kdb vj w2 => ∃ j' : Nat, vj = .int .i64 j' ∧ j' + 1 ≤ kdb ∧ j' ≤ j ∧ i' ≤ j' + 1 ∧ St g cap n w w2 dk ∧ Hid (scanDown (fun x => !ltE x dk[a]!) dk i' j' = scanDown (fun x => !ltE x dk[a]!) dk i' j))
                      case atStart => exact ⟨j, rfl, Nat.le_refl _, Nat.le_refl _, hij', S3, rfl⟩
                      case round =>
                        obtain ⟨j', rfl, hkd, hjj, hij2, S4, hsd⟩ := hrel
                        clear S3
                        by_cases hle2 : i' ≤ j'
                        · have hl := less_st S4 j' a (by omega) (by omega)
                          cases hlv2 : ltE dk[j']! dk[a]! with
                          | false =>
                            rw [hlv2] at hl
                            clear S4
                            go_wp2_with (go_at_call 67; refine hl.mono ?_; rintro e w4 ⟨rfl, S5⟩)
                            go_roundg j'
                            case rel => exact ⟨j' - 1, by go_num, by omega, by omega, by omega, S5, (scanDown_go (fun x => !ltE x dk[a]!) dk i' j' hle2 (by omega) (by simp [hlv2])).symm.trans hsd.out⟩
                            case measure => omega
                          | true =>
                            rw [hlv2] at hl
                            have hj2 : Hid (j' = scanDown (fun x => !ltE x dk[a]!) dk i' j) := (scanDown_end (fun x => !ltE x dk[a]!) dk i' j' (Or.inr (by simp [hlv2]))).symm.trans hsd.out
                            have hlt3 := part_scans_lt ltE a i j dk (by omega) hi2.out hj2.out hle2
                            clear hsd S4
                            go_wp2_with (first | (go_at_call 67; refine hl.mono ?_; rintro e w4 ⟨rfl, S5⟩; clear hl; have hsw := swap_st S5 i' j' (by omega) (by omega); clear S5) | (go_at_call 68; refine hsw.mono ?_; rintro e w5 ⟨rfl, S6⟩; clear hsw))
                            go_roundg (j' - 1 + 1 - (i' + 1))
                            case rel => exact ⟨i' + 1, j' - 1, swp dk i' j', by go_num, by go_num, by omega, by omega, by omega, by omega, S6, by show _ = _; rw [← AE.out]; exact (part_go ltE a i j dk hi2.out hj2.out (by omega)).symm⟩
                            case measure => omega
                        · have hj2 : Hid (j' = scanDown (fun x => !ltE x dk[a]!) dk i' j) := (scanDown_end (fun x => !ltE x dk[a]!) dk i' j' (Or.inl hle2)).symm.trans hsd.out
                          clear hsd
                          have hsw := swap_st S4 j' a (by omega) (by omega)
                          clear S4
                          go_wp2_with (go_at_call 68; refine hsw.mono ?_; rintro e w5 ⟨rfl, S6⟩)
                          go_ret2
                          have e := part_break ltE a i j dk hi2.out hj2.out (by omega)
                          rw [PF.out, ← AE.out, e]
                          exact ⟨rfl, S6⟩
                  · have hi2 : Hid (i' = scanUp (fun x => ltE x dk[a]!) dk j i) := (scanUp_end (fun x => ltE x dk[a]!) dk j i' (Or.inl hle)).symm.trans hsc.out
                    clear hsc
                    go_wp2
                    go_loopg [11] (j + 1) (fun kdb vj w2 => ∃ j' : Nat, vj = .int .i64 j' ∧ j' + 1 ≤ kdb ∧ j' ≤ j ∧ i' ≤ j' + 1 ∧ St g cap n w w2 dk ∧ Hid (scanDown (fun x => !ltE x dk[a]!) dk i' j' = scanDown (fun x => !ltE x dk[a]!) dk i' j))
                    case atStart => exact ⟨j, rfl, Nat.le_refl _, Nat.le_refl _, hij', S2, rfl⟩
                    case round =>
                      obtain ⟨j', rfl, hkd, hjj, hij2, S4, hsd⟩ := hrel
                      clear S2
                      by_cases hle2 : i' ≤ j'
                      · exfalso; omega
                      · have hj2 : Hid (j' = scanDown (fun x => !ltE x dk[a]!) dk i' j) := (scanDown_end (fun x => !ltE x dk[a]!) dk i' j' (Or.inl hle2)).symm.trans hsd.out
                        clear hsd
                        have hsw := swap_st S4 j' a (by omega) (by omega)
                        clear S4
                        go_wp2_with (go_at_call 68; refine hsw.mono ?_; rintro e w5 ⟨rfl, S6⟩)
                        go_ret2
                        have e := part_break ltE a i j dk hi2.out hj2.out (by omega)
                        rw [PF.out, ← AE.out, e]
                        exact ⟨rfl, S6⟩
          · have hj2 : Hid (j' = scanDown (fun x => !ltE x dk[a]!) dk i' j) := (scanDown_end (fun x => !ltE x dk[a]!) dk i' j' (Or.inl hle2)).symm.trans hsd.out
            clear hsd
            have hsw := swap_st S4 j' a (by omega) (by omega)
            clear S4
            go_wp2_with (go_at_call 68; refine hsw.mono ?_; rintro e w5 ⟨rfl, S6⟩)
            go_ret2
            have e := part_first_break ltE d a b pivot Hi.out Hj.out Hdk.out hi2.out hj2.out (by omega)
            rw [e]
            exact ⟨rfl, S6⟩
    · have hi2 : Hid (i' = scanUp (fun x => ltE x dk[a]!) dk j i) := (scanUp_end (fun x => ltE x dk[a]!) dk j i' (Or.inl hle)).symm.trans hsc.out
      clear hsc
      go_wp2
      go_loopg [11] (j + 1) (fun kd vj w2 => ∃ j' : Nat, vj = .int .i64 j' ∧ j' + 1 ≤ kd ∧ j' ≤ j ∧ i' ≤ j' + 1 ∧ St g cap n w w2 dk ∧ Hid (scanDown (fun x => !ltE x dk[a]!) dk i' j' = scanDown (fun x => !ltE x dk[a]!) dk i' j))
      case atStart => exact ⟨j, rfl, Nat.le_refl _, Nat.le_refl _, hij', S2, rfl⟩
      case round =>
        obtain ⟨j', rfl, hkd, hjj, hij2, S4, hsd⟩ := hrel
        clear S2
        by_cases hle2 : i' ≤ j'
        · exfalso; omega
        · have hj2 : Hid (j' = scanDown (fun x => !ltE x dk[a]!) dk i' j) := (scanDown_end (fun x => !ltE x dk[a]!) dk i' j' (Or.inl hle2)).symm.trans hsd.out
          clear hsd
          have hsw := swap_st S4 j' a (by omega) (by omega)
          clear S4
          go_wp2_with (go_at_call 68; refine hsw.mono ?_; rintro e w5 ⟨rfl, S6⟩)
          go_ret2
          have e := part_first_break ltE d a b pivot Hi.out Hj.out Hdk.out hi2.out hj2.out (by omega)
          rw [e]
          exact ⟨rfl, S6⟩
end Go.Proofs.Ytlmbheobaiibeaa
