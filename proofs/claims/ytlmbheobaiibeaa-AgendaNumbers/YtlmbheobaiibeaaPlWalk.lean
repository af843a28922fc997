/-
  The statements' own play: the agenda and the plain list go side by side.
-/
import Derived.Test.YtlmbheobaiibeaaPlBase
import Derived.Test.YtlmbheobaiibeaaATail
import Derived.Deep.CutRange
import Derived.Deep.CutBlock
namespace Go.Proofs.Ytlmbheobaiibeaa
open Go.RowKit Go.Sort Go.Lib

set_option maxHeartbeats 8000000 in
set_option maxRecDepth 100000 in
theorem play_any (vl : Value) (ks : List (Int × Int × Int)) (w : World) (hks : Asks3 w vl ks) :
    Calls Try.prog 9 #[vl] w fun e w' => e = .returned (.bool true) ∧ Kp [] w w' := by
  obtain ⟨i0, hi0, hz0, hz1, hz2⟩ := info_parts Try.infoInt
  obtain ⟨ao, c, rfl, hcc, hcell⟩ := hks
  obtain ⟨n0, hn0⟩ : ∃ n0, n0 = ks.length := ⟨_, rfl⟩
  have CELL : Hid (∀ w', Kp [] w w' → ∀ i : Nat, i < n0 → ∃ b off, ao = some ⟨b, off, none⟩ ∧ w'.cell? ⟨b, off + i * 3, none⟩ = some (.int .i64 (ks.getD i (0, 0, 0)).1) ∧ w'.cell? ⟨b, off + i * 3 + 1, none⟩ = some (.int .i64 (ks.getD i (0, 0, 0)).2.1) ∧ w'.cell? ⟨b, off + i * 3 + 2, none⟩ = some (.int .i64 (ks.getD i (0, 0, 0)).2.2)) := fun w' k i hi => by
    obtain ⟨b, off, e, c0, c1, c2⟩ := hcell i (by omega)
    exact ⟨b, off, e, k.cell c0 (by simp), k.cell c1 (by simp), k.cell c2 (by simp)⟩
  rw [← hn0] at hcc ⊢
  clear hcell hn0
  have hN := new_ag w
  go_enter Try.func9, Try.ntmps9
  go_wp2_with (go_at_call 11; refine hN.mono ?_; rintro e w1 ⟨p, rfl, A1, hp, k1⟩; clear hN)
  have INV : Hid (∃ v m k, k ≤ 0 ∧ Pl w w1 p v m k (.slice none 0 0) (m.map pr)) := ⟨_, _, _, Nat.le_refl _, pl_new A1 hp k1⟩
  clear A1 hp k1
  go_loopg [4, 5] 80 (fun kx s4 s5 wr => ∃ i : Nat, s5 = .int .i64 i ∧ i ≤ 80 ∧ i ≤ n0 ∧ 80 - i ≤ kx ∧ Hid (∃ v m k, k ≤ i ∧ Pl w wr p v m k s4 (m.map pr)))
  case atStart => exact ⟨0, rfl, by omega, Nat.zero_le _, by omega, INV⟩
  case round =>
    clear INV
    obtain ⟨i, rfl, hi, hin, hkx, HI⟩ := hrel
    obtain ⟨v, m, k, hk, PL⟩ := HI.out
    clear HI
    by_cases hgo : i < n0 ∧ i < 80
    · have hiz : (i : Int) < (n0 : Int) := by omega
      have hi4 : (i : Int) < 80 := by omega
      obtain ⟨b, off, rfl, c0, c1, c2⟩ := CELL.out wr PL.kp i hgo.1
      generalize (ks.getD i (0, 0, 0)).1 = kd at c0
      generalize (ks.getD i (0, 0, 0)).2.1 = now at c1
      generalize (ks.getD i (0, 0, 0)).2.2 = wh at c2
      obtain ⟨ao4, c4, h4, hc4, hn4⟩ := PL.shape
      subst h4
      rw [List.length_map] at PL hc4 ⊢
      obtain ⟨b0, b1, b2⟩ := boxA_cells wr kd now wh 24
      have PW : Hid (Pl w (wr.alloc (.cells #[.int .i64 kd, .int .i64 now, .int .i64 wh] 24)) p v m k (.slice ao4 m.length c4) (m.map pr)) := PL.on ((Kp.refl [] wr).alloc _)
      have hB : Hid (wr.heap.size ∉ fp p v) := fun h => by have := PL.ag.lt _ h; omega
      have hml : m.length ≤ k := PL.ag.cnt
      clear PL
      go_upto_block 2 with fail
      obtain ⟨W, hW⟩ : ∃ W, W = wr.alloc (.cells #[.int .i64 kd, .int .i64 now, .int .i64 wh] 24) := ⟨_, rfl⟩
      obtain ⟨B, hBB⟩ : ∃ B, B = wr.heap.size := ⟨_, rfl⟩
      rw [← hW] at b0 b1 b2 PW ⊢
      rw [← hBB] at b0 b1 b2 hB ⊢
      clear hW hBB c0 c1 c2 CELL
      go_cut [4] from 34 to 130 (fun s4 wc => Hid (∃ v m k, k ≤ i + 1 ∧ Pl w wc p v m k s4 (m.map pr)))
      case first =>
        by_cases h1 : kd = 1
        · have h1d : (kd == 1) = true := by simp [h1]
          clear h1
          have hadd := add_ag p v m k now wh W PW.out.ag (by omega)
          go_wp2_with (first
            | (go_at_call 12; refine hadd.mono ?_; rintro e w3 ⟨rfl, v', A3, T3⟩; clear hadd; have P3 := hide (PW.out.stepA A3 T3); have d1 := T3.1.cell b1 hB.out; have d2 := T3.1.cell b2 hB.out; have hput := put_any _ (m.map pr) now wh w3 P3.out.ref (by simp; omega))
            | (go_at_call 20; refine hput.mono ?_; rintro e w4 ⟨v4, rfl, M4⟩; clear hput))
          go_meet
          case rel =>
            have hmap : (insE m ⟨now, k, wh⟩).map pr = (m.map pr).take (plc (m.map pr) now (m.map pr).length) ++ [(now, wh)] ++ (m.map pr).drop (plc (m.map pr) now (m.map pr).length) := by
              rw [insE_pr (fun x hx => by have := PW.out.ag.num x hx; simpa using this), ← putA_plc _ _ (asc_of_srt PW.out.ag.srt)]; rfl
            exact ⟨v', insE m ⟨now, k, wh⟩, k + 1, by omega, by rw [hmap]; exact P3.out.made M4⟩
        · have h1d : (kd == 1) = false := by simp [h1]
          by_cases h2 : kd = 2
          · have h2d : (kd == 2) = true := by simp [h2]
            clear h1 h2
            have hdu := due_ag p v m k now W PW.out.ag (by omega)
            cases m with
            | nil =>
              simp only [dueP, List.isEmpty_nil, Bool.not_true, Bool.false_and, Bool.false_eq_true, if_false] at hdu
              simp only [List.length_nil] at PW hc4 hml ⊢
              go_wp2_with (first
                | (go_at_call 15; refine hdu.mono ?_; rintro e w3 ⟨rfl, v', A3, T3⟩; clear hdu; have P3 := hide (PW.out.stepA A3 T3); have d1 := T3.1.cell b1 hB.out))
              refine region_read Try.mixed (by kernel_rfl) ?_
              repeat (first | go_big_quiet_skip | (go_big_quiet_want; go_big_quiet_op; go_big_quiet_on))
              refine wpQuiet_nil ?_
              go_wp2_with fail
              go_meet
              case rel => exact ⟨v', [], k, by omega, P3.out.on (Kp.refl [] _).drew⟩
            | cons x l =>
              obtain ⟨bb, off4, rfl⟩ := ref_some PW.out.ref
              obtain ⟨n4, hn4'⟩ : ∃ n4, n4 = (x :: l).length := ⟨_, rfl⟩
              rw [← hn4'] at PW hc4 hml ⊢
              have hnz : (0 : Int) < (n4 : Int) := by rw [hn4', List.length_cons]; omega
              have hn1 : 1 ≤ n4 := by omega
              have hnd : decide (0 < n4) = true := decide_eq_true hn1
              clear hn4'
              by_cases hdue : x.at_ ≤ now
              · have hd : dueP (x :: l) now = true := by simp [dueP, hdue]
                simp only [hd, if_true, List.headD_cons, List.tail_cons] at hdu
                clear hd
                have hdd : decide (x.at_ ≤ now) = true := decide_eq_true hdue
                have hrun : ∀ w, (Instr.sliceAt 42 (.slice (some ⟨bb, off4, none⟩) n4 c4) (some (.int .i64 1)) none none).run Try.prog w = .ok (.slice (if c4 = 1 then some ⟨bb, off4, none⟩ else ((some ⟨bb, off4, none⟩) : Option Addr).map (·.add (1 * 2))) (n4 - 1) (c4 - 1)) w := fun w => run_rest 1 w hn1 hc4 (fun h => by cases h)
                have TL : Hid (∀ w' v', Pl w w' p v' l k (.slice (some ⟨bb, off4, none⟩) n4 c4) ((x :: l).map pr) → Pl w w' p v' l k (.slice (if c4 = 1 then some ⟨bb, off4, none⟩ else ((some ⟨bb, off4, none⟩) : Option Addr).map (·.add (1 * 2))) (n4 - 1) (c4 - 1)) (l.map pr)) := fun w' v' h => h.tail hn1
                generalize Value.slice (if c4 = 1 then some ⟨bb, off4, none⟩ else ((some ⟨bb, off4, none⟩) : Option Addr).map (·.add (1 * 2))) (n4 - 1) (c4 - 1) = V2 at hrun TL
                go_wp2_with (first
                  | (go_at_call 15; refine hdu.mono ?_; rintro e w3 ⟨rfl, v', A3, T3⟩; clear hdu; have P3 := hide (PW.out.stepA A3 T3); have d1 := T3.1.cell b1 hB.out; obtain ⟨q0, q1⟩ := ref_zero P3.out.ref; simp only [pr] at q0 q1))
                refine region_read Try.mixed (by kernel_rfl) ?_
                repeat (first | go_big_quiet_skip | (go_big_quiet_want; go_big_quiet_op; go_big_quiet_on))
                refine wpQuiet_nil ?_
                go_wp2_with fail
                go_meet
                case rel => exact ⟨v', l, k, by omega, TL.out _ _ (P3.out.on (Kp.refl [] _).drew)⟩
              · have hd : dueP (x :: l) now = false := by simp [dueP]; omega
                simp only [hd, Bool.false_eq_true, if_false] at hdu
                clear hd
                have hdd : decide (x.at_ ≤ now) = false := decide_eq_false hdue
                go_wp2_with (first
                  | (go_at_call 15; refine hdu.mono ?_; rintro e w3 ⟨rfl, v', A3, T3⟩; clear hdu; have P3 := hide (PW.out.stepA A3 T3); have d1 := T3.1.cell b1 hB.out; obtain ⟨q0, q1⟩ := ref_zero P3.out.ref; simp only [pr] at q0 q1))
                refine region_read Try.mixed (by kernel_rfl) ?_
                repeat (first | go_big_quiet_skip | (go_big_quiet_want; go_big_quiet_op; go_big_quiet_on))
                refine wpQuiet_nil ?_
                go_wp2_with fail
                go_meet
                case rel => exact ⟨v', x :: l, k, by omega, P3.out.on (Kp.refl [] _).drew⟩
          · have h2d : (kd == 2) = false := by simp [h2]
            by_cases h3 : kd = 3
            · have h3d : (kd == 3) = true := by simp [h3]
              clear h1 h2 h3
              obtain ⟨n, hn⟩ : ∃ n, n = m.length := ⟨_, rfl⟩
              obtain ⟨L, hL⟩ : ∃ L, L = m.map pr := ⟨_, rfl⟩
              have hLn : Hid (L.length = n) := by show _ = _; rw [hL, hn, List.length_map]
              rw [← hn] at PW hc4 hml ⊢
              rw [← hL] at PW
              have HN := hide hn
              have HL := hide hL
              have hn80 : n ≤ 80 := by omega
              clear hn hL
              go_wp2_with fail
              go_loopg [10, 11] n (fun kx s10 s11 wq => ∃ j : Nat, s11 = .int .i64 j ∧ j ≤ n ∧ n - j ≤ kx ∧ Hid (Mk W wq s10 ((L.take j).filter (keepP wh))))
              case atStart => exact ⟨0, rfl, Nat.zero_le _, by omega, Mk.none W⟩
              case round =>
                obtain ⟨j, rfl, hj, hkj, HM⟩ := hrel
                have e2 := HM.out.2.1.cell b2 (by simp)
                by_cases hjn : j < n
                · have hjz : (j : Int) < (n : Int) := by omega
                  obtain ⟨bb, off4, rfl, d0, d1⟩ := (PW.out.ref.keptN HM.out.2.1).at j (by have := hLn.out; omega)
                  have hsn := hide (keep_snoc L wh j (by have := hLn.out; omega))
                  have hll : ((L.take j).filter (keepP wh)).length ≤ 1000 := by
                    have := List.length_filter_le (keepP wh) (L.take j)
                    simp at this
                    omega
                  generalize L.getD j (0, 0) = yz at d0 d1 hsn
                  obtain ⟨y, z⟩ := yz
                  simp only at d0 d1 hsn
                  by_cases hz : z = wh
                  · have hsn' : Hid ((L.take (j + 1)).filter (keepP wh) = (L.take j).filter (keepP wh)) := by show _ = _; rw [hsn.out, if_pos hz, List.append_nil]
                    clear hsn
                    have hzd : (z != wh) = false := by simp [hz]
                    clear hz
                    go_wp2_with fail
                    refine region_read Try.mixed (by kernel_rfl) ?_
                    repeat (first | go_big_quiet_skip | (go_big_quiet_want; go_big_quiet_op; go_big_quiet_on))
                    refine wpQuiet_nil ?_
                    go_wp2_with fail
                    go_roundg (n - (j + 1))
                    case measure => omega
                    case rel => exact ⟨j + 1, by go_num, by omega, Nat.le_refl _, by show Mk _ _ _ _; rw [hsn'.out]; exact HM.out.drew⟩
                  · have hzd : (z != wh) = true := by simp [hz]
                    have hsn' : Hid ((L.take (j + 1)).filter (keepP wh) = (L.take j).filter (keepP wh) ++ [(y, z)]) := by show _ = _; rw [hsn.out, if_neg hz]
                    clear hsn
                    go_wp2_with fail
                    refine region_read Try.mixed (by kernel_rfl) ?_
                    repeat (first | go_big_quiet_skip | (go_big_quiet_want; go_big_quiet_op; go_big_quiet_on))
                    refine wpQuiet_nil ?_
                    have HMA := hide (HM.out.drew.alloc (.cells #[.int .i64 y, .int .i64 z] 45))
                    have LR := hide (lit_ref wr.drew y z)
                    go_wp2_with (at_builtin; refine wpList_app rfl (.tmp 113) (.tmp 118) rfl _ ((L.take j).filter (keepP wh)) rfl (by exact HMA.out.1) _ [(y, z)] rfl (by exact LR.out) (by simp; omega) ?_; intro ao5 m5 q5 w5 r5 s5)
                    go_roundg (n - (j + 1))
                    case measure => omega
                    case rel => exact ⟨j + 1, by go_num, by omega, Nat.le_refl _, by show Mk _ _ _ _; rw [hsn'.out]; exact HMA.out.step r5 s5⟩
                · have hjz : ¬ (j : Int) < (n : Int) := by omega
                  have hjn' : j = n := by omega
                  have HMM : Hid (Mk W wr u10 (L.filter (keepP wh))) := by
                    have h := HM.out
                    rw [hjn', List.take_of_length_le (by have := hLn.out; omega)] at h
                    exact h
                  clear HM hjn hjn'
                  obtain ⟨ao5, c5, h5⟩ := HMM.out.1.shape
                  have hcan := cancel_ag p v m k wh wr (PW.out.ag.keptN HMM.out.2.1) (by omega)
                  have hfl : (m.filter (keepW wh)).length = (L.filter (keepP wh)).length := by rw [HL.out, ← keep_pr, List.length_map]
                  rw [hfl, ← HN.out] at hcan
                  have hfr : (L.filter (keepP wh)).length ≤ n := by have := List.length_filter_le (keepP wh) L; have := hLn.out; omega
                  clear hfl
                  obtain ⟨r, hr⟩ : ∃ r, r = (L.filter (keepP wh)).length := ⟨_, rfl⟩
                  rw [← hr] at hcan hfr h5
                  clear hr
                  subst h5
                  go_wp2_with (go_at_call 17; refine hcan.mono ?_; rintro e w3 ⟨rfl, v', A3, T3⟩; clear hcan)
                  go_meet
                  case rel =>
                    refine ⟨v', m.filter (keepW wh), k, by omega, ?_⟩
                    rw [keep_pr, ← HL.out]
                    exact (PW.out.made HMM.out).stepA A3 T3
            · have h3d : (kd == 3) = false := by simp [h3]
              go_wp2_with fail
              go_meet
              case rel => exact ⟨v, m, k, by omega, PW.out⟩
      case rest =>
        clear PW hB hml hc4 hn4 b0 b1 b2 hk
        clear k m v
        obtain ⟨v, m, k, hk, PL⟩ := hcut.out
        clear hcut
        obtain ⟨ao4, c4, h4, hc4, hn4⟩ := PL.shape
        subst h4
        rw [List.length_map] at PL hc4 ⊢
        obtain ⟨n, hn⟩ : ∃ n, n = m.length := ⟨_, rfl⟩
        have hnk : n ≤ 80 := by have := PL.ag.cnt; omega
        rw [← hn] at PL hc4 ⊢
        have PW := hide PL
        have HN := hide hn
        clear hn PL
        go_wp2_with fail
        go_loopg [12, 13] n (fun kx s12 s13 wq => ∃ j : Nat, s13 = .int .i64 j ∧ j ≤ n ∧ n - j ≤ kx ∧ Hid (Kp [] wc wq ∧ Row3 wc wq s12 ((m.map En.what).take j)))
        case atStart => exact ⟨0, rfl, Nat.zero_le _, by omega, Kp.refl _ _, World.ownsRow_nil _ _ _ _, fun i h => by simp [Value.ownBlock] at h⟩
        case round =>
          obtain ⟨j, rfl, hj, hkj, HR⟩ := hrel
          by_cases hjn : j < n
          · have hjz : (j : Int) < (n : Int) := by omega
            obtain ⟨bb, off4, rfl, d0, d1⟩ := (PW.out.ref.keptN HR.out.1).at j (by have := HN.out; simp; omega)
            have hsn := hide (what_snoc m j (by have := HN.out; omega))
            generalize ((m.map pr).getD j (0, 0)).2 = z at d1 hsn
            clear d0
            obtain ⟨L, hL⟩ : ∃ L, L = (m.map En.what).take j := ⟨_, rfl⟩
            have hLl : L.length ≤ 80 := by rw [hL]; simp; omega
            rw [← hL] at hsn HR
            clear hL
            have K4 : Kp [] wr (wr.alloc (.cells #[.int .i64 z] 3)) := (Kp.refl [] wr).alloc _
            have o4 := (HR.out.2.keptN K4).own
            have news := cell_one_new wr (.int .i64 z) 3
            go_wp2_with (at_builtin; refine wpList_append_own_at _ rfl (.tmp 137) (.tmp 143) 27 rfl 0 3 i0 _ 1 8 Try.underlying27 hi0 hz0 hz1 hz2 rfl (by omega) u12 L.length _ rfl o4 ⟨wr.heap.size, 0, none⟩ 1 1 [.int .i64 z] rfl rfl news (by simp [Value.oneCell']) (by unfold maxLen; omega) (by omega) (Nat.zero_le _) ?_; intro vy' w5 o5 g5 n5 at5)
            go_roundg (n - (j + 1))
            case measure => omega
            case rel =>
              obtain ⟨r1, r2, r3⟩ := HR.out.2.app HR.out.1 K4 o5 g5 at5
              exact ⟨j + 1, by go_num, by omega, Nat.le_refl _, HR.out.1.then r2 (fun i hi => .inr (HR.out.2.fr i (by simpa using hi))), by rw [hsn.out]; exact r1⟩
          · have hjz : ¬ (j : Int) < (n : Int) := by omega
            have hjn' : j = n := by omega
            have HRN : Hid (Row3 wc wr u12 (m.map En.what)) := by
              have h := HR.out.2
              rw [hjn', List.take_of_length_le (by have := HN.out; simp; omega)] at h
              exact h
            have P := hide (PW.out.on HR.out.1)
            clear HR hjn hjn' PW
            have hnx := next_ag p v m k wr P.out.ag
            cases m with
            | nil =>
              simp only [List.isEmpty_nil, Bool.not_true, List.headD_nil] at hnx
              obtain rfl : n = 0 := HN.out
              clear HN
              go_wp2_with (first
                | (go_at_call 14; refine hnx.mono ?_; rintro e w3 ⟨rfl, K3⟩; clear hnx; have P3 := hide (P.out.on K3); have R3 := HRN.out.keptN K3; have hle := len_ag p v [] k w3 P3.out.ag; have hal := all_ag p v [] k w3 P3.out.ag (by omega))
                | (go_at_call 16; refine hle.mono ?_; rintro e w' ⟨rfl, hw⟩; subst w'; clear hle)
                | (go_at_call 19; refine hal.mono ?_; rintro e w4 ⟨v4, rfl, I4, K4⟩; clear hal; have hsm := same_any v4 u12 _ _ w4 I4 ((R3.keptN K4).ints (by simp)) (by simp) (by simp); rw [decide_eq_true rfl] at hsm)
                | (go_at_call 18; refine hsm.mono ?_; rintro e w5 ⟨rfl, K5⟩; clear hsm))
              go_roundg (80 - (i + 1))
              case measure => omega
              case rel => exact ⟨i + 1, by go_num, by omega, by omega, Nat.le_refl _, v, [], k, hk, (P3.out.on K4).on K5⟩
            | cons x l =>
              simp only [List.isEmpty_cons, Bool.not_false, List.headD_cons] at hnx
              obtain ⟨bb, off4, rfl⟩ := ref_some P.out.ref
              have hnz : (0 : Int) < (n : Int) := by rw [HN.out, List.length_cons]; omega
              have hn1 : 1 ≤ n := by omega
              have hnd : decide (0 < n) = true := decide_eq_true hn1
              go_wp2_with (first
                | (go_at_call 14; refine hnx.mono ?_; rintro e w3 ⟨rfl, K3⟩; clear hnx; have P3 := hide (P.out.on K3); have R3 := HRN.out.keptN K3; have hle := len_ag p v (x :: l) k w3 P3.out.ag; have hal := all_ag p v (x :: l) k w3 P3.out.ag (by omega); rw [← HN.out] at hle; obtain ⟨q0, q1⟩ := ref_zero P3.out.ref; simp only [pr] at q0 q1)
                | (go_at_call 16; refine hle.mono ?_; rintro e w' ⟨rfl, hw⟩; subst w'; clear hle)
                | (go_at_call 19; refine hal.mono ?_; rintro e w4 ⟨v4, rfl, I4, K4⟩; clear hal; have hsm := same_any v4 u12 _ _ w4 I4 ((R3.keptN K4).ints (by have := HN.out; simp only [List.length_map]; omega)) (by have := HN.out; simp only [List.length_map]; omega) (by have := HN.out; simp only [List.length_map]; omega); rw [decide_eq_true rfl] at hsm)
                | (go_at_call 18; refine hsm.mono ?_; rintro e w5 ⟨rfl, K5⟩; clear hsm))
              go_roundg (80 - (i + 1))
              case measure => omega
              case rel => exact ⟨i + 1, by go_num, by omega, by omega, Nat.le_refl _, v, x :: l, k, hk, (P3.out.on K4).on K5⟩
    · have hex : (¬ (i : Int) < (n0 : Int)) ∨ ((i : Int) < (n0 : Int) ∧ ¬ (i : Int) < 80) := by omega
      have KK := PL.kp
      clear PL
      rcases hex with h1 | ⟨h1, h2⟩
      all_goals
        go_wp2_with fail
        go_ret
        exact ⟨rfl, KK⟩
end Go.Proofs.Ytlmbheobaiibeaa
