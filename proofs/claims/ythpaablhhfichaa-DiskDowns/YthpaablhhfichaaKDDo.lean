/-
  The statements' own do: a call of both disks; both tell the same.
-/
import Derived.Test.YthpaablhhfichaaKDDuo
import Derived.Deep.CutRange
import Derived.Deep.CutBlock
namespace Go.Proofs.Ythpaablhhfichaa
open Go.RowKit
open Go.Proofs

set_option maxHeartbeats 8000000 in
set_option maxRecDepth 100000 in
theorem do_any (w0 : World) (p q : Nat) (v u : Value) (e : Dk) (kd n : Int) (vb : Value) (b : List Int) (w : World) (hD : Du w0 w p v e.nrm q u e) (hS : Sl w0 vb b) (hB : Bs b) (hn0 : -9223372036854775808 ≤ n) (hn1 : n ≤ 9223372036854775807) :
    Calls Try.prog 26 #[.pointer (some ⟨p, 0, none⟩), .pointer (some ⟨q, 0, none⟩), .agg #[.int .i64 kd, .int .i64 n, vb]] w fun r w' => r = .returned (.bool true) ∧ ∃ v' u' e', Du w0 w' p v' e'.nrm q u' e' := by
  obtain ⟨ab, cb, eb, hb1, hb2, hb3, -⟩ := id hS
  obtain ⟨nb, hnb⟩ : ∃ nb, nb = b.length := ⟨_, rfl⟩
  rw [← hnb] at eb hb1
  subst eb
  obtain ⟨W, hW⟩ : ∃ W, W = w.alloc (.cells #[.int .i64 kd, .int .i64 n, .slice ab nb cb] 30) := ⟨_, rfl⟩
  obtain ⟨B, hBB⟩ : ∃ B, B = w.heap.size := ⟨_, rfl⟩
  have hHB : W.heap[B]? = some (.cells #[.int .i64 kd, .int .i64 n, .slice ab nb cb] 30) := by rw [hW, hBB]; exact heap_alloc_new w _
  have DW := hide (hD.on ((Kp.refl [] w).alloc (.cells #[.int .i64 kd, .int .i64 n, .slice ab nb cb] 30)))
  rw [← hW] at DW
  have hlt := hD.lt (B := B) (by omega)
  have HP := hide hlt.1
  have HQ := hide hlt.2
  obtain ⟨b0, b1, b2⟩ := box_cells hHB
  have HS := hide hS
  have HB := hide hB
  have HNB := hide hnb
  clear hD hlt hnb hS hB
  go_enter Try.func26, Try.ntmps26
  rw [hW, hBB] at b0 b1 b2
  go_upto_block 0 with fail
  rw [← hW] at b0 b1 b2 ⊢
  rw [← hBB] at b0 b1 b2 ⊢
  have HBC : Hid (∀ (S : List Nat) (w' : World), Kp S W w' → B ∉ S → w'.cell? ⟨B, 0, none⟩ = some (.int .i64 kd) ∧ w'.cell? ⟨B, 1, none⟩ = some (.int .i64 n)) := fun S w' k hm => ⟨k.cell b0 hm, k.cell b1 hm⟩
  have HBL : Hid (B < W.heap.size) := lt_of_block hHB
  clear hW hBB hHB
  go_cut [7] from 8 to 115 (fun s7 wc => s7 = .bool true ∧ Hid (∃ v' u' e', Du w0 wc p v' e'.nrm q u' e'))
  case first =>
    by_cases h1 : kd = 1
    · have h1d : (kd == 1) = true := by simp [h1]
      clear h1
      obtain ⟨C, hC⟩ : ∃ C, C = b.take 50 := ⟨_, rfl⟩
      obtain ⟨mC, hmC⟩ : ∃ mC, mC = min nb 50 := ⟨_, rfl⟩
      have hCl : C.length = mC := by rw [hC, hmC, HNB.out]; simp; omega
      have hm5 : (mC : Int) ≤ 50 := by omega
      have HCB : Hid (Bs C) := by rw [hC]; exact HB.out.takes _
      have HSC : Hid (∀ w', Kp [] w0 w' → Sl w' (.slice ab mC cb) C) := fun w' k => by
        rw [hC, hmC]; exact cutv_sl 50 (HS.out.kept k (by simp))
      have HC : Hid (Calls Try.prog 19 #[.slice ab nb cb, .int .i64 50] W fun e w'' => e = .returned (.slice ab mC cb) ∧ w'' = W) := by
        rw [hmC]; exact cutv_any ab nb cb 50 b W (HS.out.kept DW.out.nw.kp (by simp))
      have HR := hide (roomy_any (.slice ab mC cb) C 165 W (HSC.out W DW.out.nw.kp) (by omega))
      obtain ⟨er, her⟩ : ∃ er, er = (e.app C).1 := ⟨_, rfl⟩
      obtain ⟨e', he'⟩ : ∃ e', e' = (e.app C).2 := ⟨_, rfl⟩
      have HA : Hid (e.nrm.app C = (er, e'.nrm)) := by show _ = _; rw [Dk.nrm_app, her, he']
      obtain ⟨en, hen⟩ : ∃ en : Int, en = if er then 0 else 13 := ⟨_, rfl⟩
      have HEN := hide hen
      have HER := hide her
      have HE' := hide he'
      have HCL := hide hCl
      have HF : Hid (∀ w, Calls Try.prog 24 #[.bool er] w fun e w' => e = .returned (.int .i64 en) ∧ w' = w) := fun w => by rw [hen]; exact full_any er w
      clear hC hmC hCl her he' hen
      go_wp2_with (first
        | (go_at_call 19; refine HC.out.mono ?_; rintro r w1 ⟨rfl, hw⟩; subst w1; clear HC)
        | (go_at_call 31; refine HR.out.mono ?_; rintro r w1 ⟨g, n1, rfl, hn1', R1, k1⟩; clear HR; have D1 := hide (DW.out.on k1); have hgW : Hid (W.heap.size ≤ g) := (R1.lt g rfl).1; have SF := hide (Sl.of_owns R1); have hmn : mC ≤ n1 := (by have := HCL.out; omega); have hrun : (∀ w, (Instr.sliceAt 28 (.slice (some ⟨g, 0, none⟩) n1 n1) none (some (.int .i64 (mC : Nat))) none).run Try.prog w = .ok (.slice (some ⟨g, 0, none⟩) mC n1) w) := (fun w => run_first (some ⟨g, 0, none⟩) n1 n1 mC w hmn (fun h => by cases h)); have S1 : Hid (Sl w1 (.slice (some ⟨g, 0, none⟩) mC n1) C) := (by have h1 := SF.out.take mC (by have := HCL.out; rw [List.length_append, List.length_replicate]; omega); rw [List.take_left' HCL.out] at h1; exact h1); have HA1 := hide (nw_append D1.out.nw S1.out HCB.out er HA.out en HEN.out); clear R1 k1 hn1')
        | (go_at_call 14; refine HA1.out.mono ?_; rintro r w2 ⟨rfl, v2, N2, T2⟩; clear HA1; have D2 := hide (D1.out.prog N2 T2); have SF2 := hide (SF.out.kept T2.1 (fun i hi hm => by have h1 := DW.out.nw.dk.lt i hm; have h2 := hgW.out; have h3 : g = i := by { simpa [Value.ownBlock] using hi }; omega)); have HB2 := hide (rappend_any q u e _ C w0.heap.size w2 D2.out.rf (HSC.out w2 N2.kp) HCB.out (by have := HCL.out; omega) N2.kp.size); clear N2 T2)
        | (go_at_call 32; refine HB2.out.mono ?_; rintro r w3 ⟨rfl, u3, R3, T3⟩; clear HB2; rw [← HE'.out] at R3; have D3 := hide (D2.out.ref R3 T3); have SF3 := hide (SF2.out.kept T3.1 (fun i hi hm => by have h1 := DW.out.rf.lt i hm; have h2 := hgW.out; have h3 : g = i := by { simpa [Value.ownBlock] using hi }; omega)); have HI := hide (intact_any _ _ C 165 w3 SF3.out (HSC.out w3 D3.out.nw.kp) (by have := HCL.out; omega)); refine Hid.out ?_; rw [← HER.out]; refine hide ?_; clear R3 T3)
        | (go_at_call 24; refine (HF.out _).mono ?_; rintro r w4 ⟨rfl, hw⟩; subst w4)
        | (go_at_call 33; refine HI.out.mono ?_; rintro r w5 ⟨rfl, k5⟩; clear HI))
      go_meet
      case rel => exact ⟨rfl, v2, u3, e', D3.out.on k5⟩
    · have h1d : (kd == 1) = false := by simp [h1]
      by_cases h2 : kd = 2
      · have h2d : (kd == 2) = true := by simp [h2]
        clear h1 h2
        obtain ⟨er, her⟩ : ∃ er, er = e.sync.1 := ⟨_, rfl⟩
        obtain ⟨e', he'⟩ : ∃ e', e' = e.sync.2 := ⟨_, rfl⟩
        have HA : Hid (e.nrm.sync = (er, e'.nrm)) := by show _ = _; rw [Dk.nrm_sync, her, he']
        obtain ⟨en, hen⟩ : ∃ en : Int, en = if er then 0 else 13 := ⟨_, rfl⟩
        have HA1 := hide (nw_sync DW.out.nw er HA.out en hen)
        have HER := hide her
        have HE' := hide he'
        have HF : Hid (∀ w, Calls Try.prog 24 #[.bool er] w fun e w' => e = .returned (.int .i64 en) ∧ w' = w) := fun w => by rw [hen]; exact full_any er w
        clear her he' hen
        go_wp2_with (first
          | (go_at_call 15; refine HA1.out.mono ?_; rintro r w2 ⟨rfl, N2, T2⟩; clear HA1; have D2 := hide (DW.out.prog N2 T2); have HB2 := hide (rsync_any q u e w0.heap.size w2 D2.out.rf); clear N2 T2)
          | (go_at_call 34; refine HB2.out.mono ?_; rintro r w3 ⟨rfl, R3, T3⟩; clear HB2; rw [← HE'.out] at R3; have D3 := hide (D2.out.ref R3 T3); refine Hid.out ?_; rw [← HER.out]; refine hide ?_; clear R3 T3)
          | (go_at_call 24; refine (HF.out _).mono ?_; rintro r w4 ⟨rfl, hw⟩; subst w4))
        go_meet
        case rel => exact ⟨rfl, v, u, e', D3.out⟩
      · have h2d : (kd == 2) = false := by simp [h2]
        by_cases h3 : kd = 3
        · have h3d : (kd == 3) = true := by simp [h3]
          clear h1 h2 h3
          have c4 := DW.out.rf.here.c4
          have HR := hide (rcut_any q u e n w0.heap.size W DW.out.rf)
          cases hd : e.down
          · rw [hd] at c4
            rw [Dk.rcut_up hd] at HR
            have HA : Hid (e.nrm.cut n = ((e.cut n).1, (e.cut n).2.nrm)) := Dk.nrm_cut e n
            generalize (e.cut n).1 = en at HR HA
            generalize (e.cut n).2 = e' at HR HA
            clear hd
            go_wp2_with (first
              | (go_at_call 35; refine HR.out.mono ?_; rintro r w2 ⟨rfl, u2, R2, T2⟩; clear HR; have D2 := hide (DW.out.ref R2 T2); have x1 := (HBC.out _ w2 T2.1 HQ.out).2; have HA1 := hide (nw_cut D2.out.nw n en HA.out); clear R2 T2)
              | (go_at_call 22; refine HA1.out.mono ?_; rintro r w3 ⟨rfl, v3, N3, T3⟩; clear HA1; have D3 := hide (D2.out.prog N3 T3); clear N3 T3))
            go_meet
            case rel => exact ⟨rfl, v3, u2, e', D3.out⟩
          · rw [hd] at c4
            rw [Dk.rcut_down hd] at HR
            have HA : Hid (e.nrm.cut n = (13, e.nrm)) := Dk.cut_down (show e.nrm.down = true from hd) n
            generalize (e.rcut n).1 = en at HR
            clear hd
            go_wp2_with (first
              | (go_at_call 35; refine HR.out.mono ?_; rintro r w2 ⟨rfl, u2, R2, T2⟩; clear HR; have D2 := hide (DW.out.ref R2 T2); have x1 := (HBC.out _ w2 T2.1 HQ.out).2; have HA1 := hide (nw_cut D2.out.nw n 13 HA.out); clear R2 T2)
              | (go_at_call 22; refine HA1.out.mono ?_; rintro r w3 ⟨rfl, v3, N3, T3⟩; clear HA1; have D3 := hide (D2.out.prog N3 T3); clear N3 T3))
            go_meet
            case rel => exact ⟨rfl, v3, u2, e, D3.out⟩
        · have h3d : (kd == 3) = false := by simp [h3]
          by_cases h4 : kd = 4
          · have h4d : (kd == 4) = true := by simp [h4]
            clear h1 h2 h3 h4
            have HA1 := hide (nw_arm DW.out.nw n hn1 (Dk.nrm_armed e n))
            have hft := DW.out.rf.fit.arms n hn0 hn1
            cases hd : e.down
            · have har : e.armed n = { e with arm := n } := by unfold Dk.armed; rw [hd]; rfl
              rw [har] at hft
              have HFT := hide hft
              have HAR := hide har
              have HDD := hide hd
              clear hft har hd
              go_wp2_with (first
                | (go_at_call 20; refine HA1.out.mono ?_; rintro r w2 ⟨rfl, N2, T2⟩; clear HA1; rw [HAR.out] at N2; have D2 := hide (DW.out.prog N2 T2); have x1 := (HBC.out _ w2 T2.1 HP.out).2; have y4 := D2.out.rf.here.c4; rw [HDD.out] at y4; have y3 := D2.out.rf.here.c3; have yf := D2.out.rf.here.f 3; have D3 := hide (D2.out.ref (D2.out.rf.poke (d' := { e with arm := n }) (kp_set w2 q 3 (.int .i64 n)) (D2.out.rf.here.s3 _) rfl HFT.out) (DSt.one u (kp_set w2 q 3 (.int .i64 n)))); clear N2 T2))
              go_meet
              case rel => exact ⟨rfl, v, u, _, D3.out⟩
            · have har : e.armed n = e := Dk.armed_down hd n
              rw [har] at HA1
              have HDD := hide hd
              clear hft har hd
              go_wp2_with (first
                | (go_at_call 20; refine HA1.out.mono ?_; rintro r w2 ⟨rfl, N2, T2⟩; clear HA1; have D2 := hide (DW.out.prog N2 T2); have x1 := (HBC.out _ w2 T2.1 HP.out).2; have y4 := D2.out.rf.here.c4; rw [HDD.out] at y4; clear N2 T2))
              go_meet
              case rel => exact ⟨rfl, v, u, _, D2.out⟩
          · have h4d : (kd == 4) = false := by simp [h4]
            by_cases h5 : kd = 5
            · have h5d : (kd == 5) = true := by simp [h5]
              clear h1 h2 h3 h4 h5
              have HA1 := hide (nw_crash DW.out.nw n (Dk.nrm_crash e n))
              go_wp2_with (first
                | (go_at_call 16; refine HA1.out.mono ?_; rintro r w2 ⟨rfl, v2, N2, T2⟩; clear HA1; have D2 := hide (DW.out.prog N2 T2); have x1 := (HBC.out _ w2 T2.1 HP.out).2; have HB2 := hide (rcrash_any q u e n w0.heap.size w2 D2.out.rf); clear N2 T2)
                | (go_at_call 36; refine HB2.out.mono ?_; rintro r w3 ⟨rfl, u3, R3, T3⟩; clear HB2; have D3 := hide (D2.out.ref R3 T3); clear R3 T3))
              go_meet
              case rel => exact ⟨rfl, v2, u3, _, D3.out⟩
            · have h5d : (kd == 5) = false := by simp [h5]
              by_cases h6 : kd = 6
              · have h6d : (kd == 6) = true := by simp [h6]
                clear h1 h2 h3 h4 h5 h6
                obtain ⟨au, cu, hu⟩ := DW.out.rf.shape
                obtain ⟨nu, hnu⟩ : ∃ nu, nu = e.bs.length := ⟨_, rfl⟩
                rw [← hnu] at hu
                subst hu
                have c0 := DW.out.rf.here.c0
                have D1 := hide (DW.out.on (kp_drew W))
                have x1 := (HBC.out [] W.drew (kp_drew W) (by simp)).2
                have x2 := D1.out.rf.here.c2
                have xf := D1.out.rf.here.f 2
                by_cases hg : (nu : Int) ≤ n ∧ n ≤ 1048576
                · have hgr : e.grow n = (true, { e with lim := n }) := by unfold Dk.grow; rw [if_pos (by omega)]
                  have hft := DW.out.rf.fit.grows n
                  rw [hgr] at hft
                  have HG : Hid (e.nrm.grow n = (true, Dk.nrm { e with lim := n })) := by show _ = _; rw [Dk.nrm_grow, hgr]
                  have HA1 := hide (nw_grow D1.out.nw n true HG.out)
                  have HFT := hide hft
                  obtain ⟨g1, g2⟩ := hg
                  have g1d : decide ((nu : Int) ≤ n) = true := decide_eq_true g1
                  have g2d : decide (n ≤ 1048576) = true := decide_eq_true g2
                  clear hgr hft hnu
                  go_wp2_with fail
                  refine region_read Try.mixed (by kernel_rfl) ?_
                  repeat (first | go_big_quiet_skip | (go_big_quiet_want; go_big_quiet_op; go_big_quiet_on))
                  refine wpQuiet_nil ?_
                  go_wp2_with (first
                    | (go_at_call 25; refine HA1.out.mono ?_; rintro r w2 ⟨rfl, N2, T2⟩; clear HA1; have D2 := hide (D1.out.prog N2 T2); have x1' := T2.1.cell x1 HP.out; have y2 := D2.out.rf.here.c2; have yf := D2.out.rf.here.f 2; have D3 := hide (D2.out.ref (D2.out.rf.poke (d' := { e with lim := n }) (kp_set w2 q 2 (.int .i64 n)) (D2.out.rf.here.s2 _) rfl HFT.out) (DSt.one _ (kp_set w2 q 2 (.int .i64 n)))); clear N2 T2))
                  go_meet
                  case rel => exact ⟨rfl, v, _, _, D3.out⟩
                · have hgr : e.grow n = (false, e) := by unfold Dk.grow; rw [if_neg (by omega)]
                  have HG : Hid (e.nrm.grow n = (false, e.nrm)) := by show _ = _; rw [Dk.nrm_grow, hgr]
                  have HA1 := hide (nw_grow D1.out.nw n false HG.out)
                  have hg' : ((nu : Int) ≤ n ∧ ¬ n ≤ 1048576) ∨ ¬ (nu : Int) ≤ n := by omega
                  clear hgr hnu hg
                  rcases hg' with ⟨g1, g2⟩ | g1
                  · have g1d : decide ((nu : Int) ≤ n) = true := decide_eq_true g1
                    have g2d : decide (n ≤ 1048576) = false := decide_eq_false g2
                    go_wp2_with fail
                    refine region_read Try.mixed (by kernel_rfl) ?_
                    repeat (first | go_big_quiet_skip | (go_big_quiet_want; go_big_quiet_op; go_big_quiet_on))
                    refine wpQuiet_nil ?_
                    go_wp2_with (first
                      | (go_at_call 25; refine HA1.out.mono ?_; rintro r w2 ⟨rfl, N2, T2⟩; clear HA1; have D2 := hide (D1.out.prog N2 T2); clear N2 T2))
                    go_meet
                    case rel => exact ⟨rfl, v, _, _, D2.out⟩
                  · have g1d : decide ((nu : Int) ≤ n) = false := decide_eq_false g1
                    go_wp2_with fail
                    refine region_read Try.mixed (by kernel_rfl) ?_
                    repeat (first | go_big_quiet_skip | (go_big_quiet_want; go_big_quiet_op; go_big_quiet_on))
                    refine wpQuiet_nil ?_
                    go_wp2_with (first
                      | (go_at_call 25; refine HA1.out.mono ?_; rintro r w2 ⟨rfl, N2, T2⟩; clear HA1; have D2 := hide (D1.out.prog N2 T2); clear N2 T2))
                    go_meet
                    case rel => exact ⟨rfl, v, _, _, D2.out⟩
              · have h6d : (kd == 6) = false := by simp [h6]
                clear h1 h2 h3 h4 h5 h6
                go_wp2_with fail
                go_meet
                case rel => exact ⟨rfl, v, u, e, DW.out⟩
  case rest =>
    obtain ⟨rfl, HI⟩ := hcut
    obtain ⟨v', u', e', D⟩ := HI.out
    clear HI
    obtain ⟨au, cu, hu⟩ := D.rf.shape
    obtain ⟨nu, hnu⟩ : ∃ nu, nu = e'.bs.length := ⟨_, rfl⟩
    rw [← hnu] at hu
    subst hu
    have HD := hide D
    obtain ⟨X, hX⟩ : ∃ X, X = e'.bs := ⟨_, rfl⟩
    obtain ⟨T, hT⟩ : ∃ T, T = strOfNums X := ⟨_, rfl⟩
    have HT := hide hT
    obtain ⟨sy, hsy⟩ : ∃ sy, sy = e'.syn := ⟨_, rfl⟩
    obtain ⟨dn, hdn⟩ : ∃ dn, dn = e'.down := ⟨_, rfl⟩
    have HKD : ∀ w', Kp [] wc.drew w' → Kp [] wc w' := fun w' k' => (kp_drew wc).trans k'
    have HBY : Hid (∀ w', Kp [] wc.drew w' → Calls Try.prog 17 #[.pointer (some ⟨p, 0, none⟩)] w' fun e w'' => ∃ ao m c, e = .returned (.slice ao m c) ∧ Row w'' w'.heap.size (.slice ao m c) X ∧ Kp [] w' w'') := fun w' k' => by
      rw [hX]; exact dbytes_any p v' e'.nrm _ w' (D.nw.dk.keptN (HKD w' k'))
    have HSI : Hid (∀ w', Kp [] wc.drew w' → Calls Try.prog 23 #[.pointer (some ⟨p, 0, none⟩)] w' fun e w'' => e = .returned (.int .i64 nu) ∧ w'' = w') := fun w' k' => sizen_any p v' _ _ w' (D.nw.dk.keptN (HKD w' k')) nu hnu.symm
    have HSN : Hid (∀ w', Kp [] wc.drew w' → Calls Try.prog 18 #[.pointer (some ⟨p, 0, none⟩)] w' fun e w'' => e = .returned (.int .i64 sy) ∧ w'' = w') := fun w' k' => by
      rw [hsy]; exact synced_any p v' e'.nrm _ w' (D.nw.dk.keptN (HKD w' k'))
    have HDO : Hid (∀ w', Kp [] wc.drew w' → Calls Try.prog 21 #[.pointer (some ⟨p, 0, none⟩)] w' fun e w'' => e = .returned (.bool dn) ∧ w'' = w') := fun w' k' => by
      rw [hdn]; exact down_any p v' e'.nrm _ w' (D.nw.dk.keptN (HKD w' k'))
    have HZU : Hid (∀ w', Kp [] wc.drew w' → Sl w' (.slice au nu cu) X) := fun w' k' => by
      rw [hX]; exact D.rf.sl.kept (HKD w' k') (by simp)
    obtain ⟨li, hli⟩ : ∃ li, li = e'.lim := ⟨_, rfl⟩
    obtain ⟨ar, har⟩ : ∃ ar, ar = e'.arm := ⟨_, rfl⟩
    have HRF : Hid (∀ w', Kp [] wc.drew w' → w'.heap[q]? = some (.cells #[.slice au nu cu, .int .i64 sy, .int .i64 li, .int .i64 ar, .bool dn] 55 (0, 0))) := fun w' k' => by
      rw [hsy, hdn, hli, har]; exact (D.rf.keptN (HKD w' k')).here
    clear D hnu hX hT hsy hdn hli har DW HBC HBL HP HQ b0 b1 b2 HKD
    go_wp2_with fail
    refine region_grow Try.mixed [Is (.bool true), Is (.bool true), Is (.pointer (some ⟨p, 0, none⟩)), SlT (X), Is (.string T), Is (.pointer (some ⟨q, 0, none⟩)), Is (.pointer (some ⟨q, 0, none⟩)), Is (.pointer (some ⟨q, 0, none⟩)), Is (.slice au nu cu), Is (.string T), Is (.bool true), Is (.bool true), Is (.bool true), Is (.pointer (some ⟨p, 0, none⟩)), Is (.int .i64 nu), Is (.pointer (some ⟨q, 0, none⟩)), Is (.pointer (some ⟨q, 0, none⟩)), Is (.pointer (some ⟨q, 0, none⟩)), Is (.slice au nu cu), Is (.int .i64 nu), Is (.bool true), Is (.bool true), Is (.bool true), Is (.pointer (some ⟨p, 0, none⟩)), Is (.int .i64 sy), Is (.pointer (some ⟨q, 0, none⟩)), Is (.pointer (some ⟨q, 0, none⟩)), Is (.pointer (some ⟨q, 1, none⟩)), Is (.int .i64 sy), Is (.bool true), Is (.bool true), Is (.bool true), Is (.pointer (some ⟨p, 0, none⟩)), Is (.bool dn), Is (.pointer (some ⟨q, 0, none⟩)), Is (.pointer (some ⟨q, 0, none⟩)), Is (.pointer (some ⟨q, 4, none⟩)), Is (.bool dn), Is (.bool true), Is (.bool true), Is (.bool true)] [[(7, none)], [(116, some 0)], [(0, none), (117, some 1)], [(118, some 2), (117, some 1)], [(119, some 3), (117, some 1)], [(1, none), (117, some 1)], [(121, some 5), (117, some 1)], [(122, some 6), (117, some 1)], [(123, some 7), (117, some 1)], [(124, some 8), (117, some 1)], [(120, some 4), (125, some 9), (117, some 1)], [(117, some 1), (126, some 10)], [(127, some 11)], [(0, none), (128, some 12)], [(129, some 13), (128, some 12)], [(1, none), (128, some 12)], [(131, some 15), (128, some 12)], [(132, some 16), (128, some 12)], [(133, some 17), (128, some 12)], [(134, some 18), (128, some 12)], [(130, some 14), (135, some 19), (128, some 12)], [(128, some 12), (136, some 20)], [(137, some 21)], [(0, none), (138, some 22)], [(139, some 23), (138, some 22)], [(1, none), (138, some 22)], [(141, some 25), (138, some 22)], [(142, some 26), (138, some 22)], [(143, some 27), (138, some 22)], [(140, some 24), (144, some 28), (138, some 22)], [(138, some 22), (145, some 29)], [(146, some 30)], [(0, none), (147, some 31)], [(148, some 32), (147, some 31)], [(1, none), (147, some 31)], [(150, some 34), (147, some 31)], [(151, some 35), (147, some 31)], [(152, some 36), (147, some 31)], [(149, some 33), (153, some 37), (147, some 31)], [(147, some 31), (154, some 38)], [(155, some 39)]] (by kernel_rfl) ?_ ?_ ?_
    · simp only [List.mem_cons, List.not_mem_nil, or_false]
      intro R hR
      rcases hR with rfl | rfl | rfl | rfl | rfl | rfl | rfl | rfl | rfl | rfl | rfl | rfl | rfl | rfl | rfl | rfl | rfl | rfl | rfl | rfl | rfl | rfl | rfl | rfl | rfl | rfl | rfl | rfl | rfl | rfl | rfl | rfl | rfl | rfl | rfl | rfl | rfl | rfl | rfl | rfl | rfl <;> first | exact stable_is _ | exact stable_sl _
    · refine steps_cons (fun a w hk hn => ?_) ?_
      · have h7 : a.eval (.tmp 7) = .bool true := hn.1
        clear hn
        refine wants_plain rfl ?_
        exact grown_move (.tmp 7) rfl h7
      refine steps_cons (fun a w hk hn => ?_) ?_
      · have h116 : a.eval (.tmp 116) = .bool true := hn.1
        clear hn
        refine wants_plain rfl ?_
        exact grown_move (.tmp 116) rfl h116
      refine steps_cons (fun a w hk hn => ?_) ?_
      · have h0 : a.eval (.tmp 0) = .pointer (some ⟨p, 0, none⟩) := hn.1
        have h117 : a.eval (.tmp 117) = .bool true := hn.2.1
        clear hn
        refine wants_guard (d := 117) rfl rfl h117 ?_
        exact grown_move (.tmp 0) rfl h0
      refine steps_cons (fun a w hk hn => ?_) ?_
      · have h118 : a.eval (.tmp 118) = .pointer (some ⟨p, 0, none⟩) := hn.1
        have h117 : a.eval (.tmp 117) = .bool true := hn.2.1
        clear hn
        refine wants_guard (d := 117) rfl rfl h117 ?_
        refine grown_call (f := 17) rfl Try.func17 (by kernel_rfl) (by kernel_rfl) ?_
        simp only [List.map_toArray, List.map_cons, List.map_nil, h118]
        refine (unhide HBY w hk).mono ?_
        rintro e w' ⟨ao, m, c, rfl, R, K⟩
        exact ⟨_, rfl, K, R.sl⟩
      refine steps_cons (fun a w hk hn => ?_) ?_
      · have h119 : Sl w (a.eval (.tmp 119)) (X) := hn.1
        have h117 : a.eval (.tmp 117) = .bool true := hn.2.1
        clear hn
        refine wants_guard (d := 117) rfl rfl h117 ?_
        exact grown_conv (.tmp 119) _ _ 5 _ rfl h119 Try.underlying28 Try.underlying5 Try.underlying9 (congrArg Value.string (unhide HT).symm)
      refine steps_cons (fun a w hk hn => ?_) ?_
      · have h1 : a.eval (.tmp 1) = .pointer (some ⟨q, 0, none⟩) := hn.1
        have h117 : a.eval (.tmp 117) = .bool true := hn.2.1
        clear hn
        refine wants_guard (d := 117) rfl rfl h117 ?_
        exact grown_move (.tmp 1) rfl h1
      refine steps_cons (fun a w hk hn => ?_) ?_
      · have h121 : a.eval (.tmp 121) = .pointer (some ⟨q, 0, none⟩) := hn.1
        have h117 : a.eval (.tmp 117) = .bool true := hn.2.1
        clear hn
        refine wants_guard (d := 117) rfl rfl h117 ?_
        refine grown_run (v := .pointer (some ⟨q, 0, none⟩)) ?_ (Kp.refl _ _) rfl
        obtain ⟨ρ, hρ, hc, hf, hg⟩ := eval_is a
        rw [hρ] at h121 ⊢
        simp [go_sem, h121]
      refine steps_cons (fun a w hk hn => ?_) ?_
      · have h122 : a.eval (.tmp 122) = .pointer (some ⟨q, 0, none⟩) := hn.1
        have h117 : a.eval (.tmp 117) = .bool true := hn.2.1
        clear hn
        refine wants_guard (d := 117) rfl rfl h117 ?_
        refine grown_run (v := .pointer (some ⟨q, 0, none⟩)) ?_ (Kp.refl _ _) rfl
        obtain ⟨ρ, hρ, hc, hf, hg⟩ := eval_is a
        rw [hρ] at h122 ⊢
        simp [go_sem, h122]
      refine steps_cons (fun a w hk hn => ?_) ?_
      · have h123 : a.eval (.tmp 123) = .pointer (some ⟨q, 0, none⟩) := hn.1
        have h117 : a.eval (.tmp 117) = .bool true := hn.2.1
        clear hn
        refine wants_guard (d := 117) rfl rfl h117 ?_
        refine grown_run (v := .slice au nu cu) ?_ (Kp.refl _ _) rfl
        have hcell : w.cell? ⟨q, 0, none⟩ = some (.slice au nu cu) := by rw [cell_of_row w q 0 _ _ _ (unhide HRF w hk)]; rfl
        obtain ⟨ρ, hρ, hc, hf, hg⟩ := eval_is a
        rw [hρ] at h123 ⊢
        simp [go_sem, h123, hcell]
      refine steps_cons (fun a w hk hn => ?_) ?_
      · have h124 : a.eval (.tmp 124) = .slice au nu cu := hn.1
        have h117 : a.eval (.tmp 117) = .bool true := hn.2.1
        clear hn
        refine wants_guard (d := 117) rfl rfl h117 ?_
        exact grown_conv (.tmp 124) _ _ 5 (X) rfl (by rw [h124]; exact unhide HZU w hk) Try.underlying28 Try.underlying5 Try.underlying9 (congrArg Value.string (unhide HT).symm)
      refine steps_cons (fun a w hk hn => ?_) ?_
      · have h120 : a.eval (.tmp 120) = .string T := hn.1
        have h125 : a.eval (.tmp 125) = .string T := hn.2.1
        have h117 : a.eval (.tmp 117) = .bool true := hn.2.2.1
        clear hn
        refine wants_guard (d := 117) rfl rfl h117 ?_
        refine grown_run (v := .bool true) ?_ (Kp.refl _ _) rfl
        obtain ⟨ρ, hρ, hc, hf, hg⟩ := eval_is a
        rw [hρ] at h120 h125 ⊢
        simp [go_sem, h120, h125]
      refine steps_cons (fun a w hk hn => ?_) ?_
      · have h117 : a.eval (.tmp 117) = .bool true := hn.1
        have h126 : a.eval (.tmp 126) = .bool true := hn.2.1
        clear hn
        refine wants_plain rfl ?_
        exact grown_pick _ _ _ true rfl h117 h126
      refine steps_cons (fun a w hk hn => ?_) ?_
      · have h127 : a.eval (.tmp 127) = .bool true := hn.1
        clear hn
        refine wants_plain rfl ?_
        exact grown_move (.tmp 127) rfl h127
      refine steps_cons (fun a w hk hn => ?_) ?_
      · have h0 : a.eval (.tmp 0) = .pointer (some ⟨p, 0, none⟩) := hn.1
        have h128 : a.eval (.tmp 128) = .bool true := hn.2.1
        clear hn
        refine wants_guard (d := 128) rfl rfl h128 ?_
        exact grown_move (.tmp 0) rfl h0
      refine steps_cons (fun a w hk hn => ?_) ?_
      · have h129 : a.eval (.tmp 129) = .pointer (some ⟨p, 0, none⟩) := hn.1
        have h128 : a.eval (.tmp 128) = .bool true := hn.2.1
        clear hn
        refine wants_guard (d := 128) rfl rfl h128 ?_
        refine grown_call (f := 23) rfl Try.func23 (by kernel_rfl) (by kernel_rfl) ?_
        simp only [List.map_toArray, List.map_cons, List.map_nil, h129]
        refine (unhide HSI w hk).mono ?_
        rintro e w' ⟨rfl, rfl⟩
        exact ⟨_, rfl, Kp.refl _ _, rfl⟩
      refine steps_cons (fun a w hk hn => ?_) ?_
      · have h1 : a.eval (.tmp 1) = .pointer (some ⟨q, 0, none⟩) := hn.1
        have h128 : a.eval (.tmp 128) = .bool true := hn.2.1
        clear hn
        refine wants_guard (d := 128) rfl rfl h128 ?_
        exact grown_move (.tmp 1) rfl h1
      refine steps_cons (fun a w hk hn => ?_) ?_
      · have h131 : a.eval (.tmp 131) = .pointer (some ⟨q, 0, none⟩) := hn.1
        have h128 : a.eval (.tmp 128) = .bool true := hn.2.1
        clear hn
        refine wants_guard (d := 128) rfl rfl h128 ?_
        refine grown_run (v := .pointer (some ⟨q, 0, none⟩)) ?_ (Kp.refl _ _) rfl
        obtain ⟨ρ, hρ, hc, hf, hg⟩ := eval_is a
        rw [hρ] at h131 ⊢
        simp [go_sem, h131]
      refine steps_cons (fun a w hk hn => ?_) ?_
      · have h132 : a.eval (.tmp 132) = .pointer (some ⟨q, 0, none⟩) := hn.1
        have h128 : a.eval (.tmp 128) = .bool true := hn.2.1
        clear hn
        refine wants_guard (d := 128) rfl rfl h128 ?_
        refine grown_run (v := .pointer (some ⟨q, 0, none⟩)) ?_ (Kp.refl _ _) rfl
        obtain ⟨ρ, hρ, hc, hf, hg⟩ := eval_is a
        rw [hρ] at h132 ⊢
        simp [go_sem, h132]
      refine steps_cons (fun a w hk hn => ?_) ?_
      · have h133 : a.eval (.tmp 133) = .pointer (some ⟨q, 0, none⟩) := hn.1
        have h128 : a.eval (.tmp 128) = .bool true := hn.2.1
        clear hn
        refine wants_guard (d := 128) rfl rfl h128 ?_
        refine grown_run (v := .slice au nu cu) ?_ (Kp.refl _ _) rfl
        have hcell : w.cell? ⟨q, 0, none⟩ = some (.slice au nu cu) := by rw [cell_of_row w q 0 _ _ _ (unhide HRF w hk)]; rfl
        obtain ⟨ρ, hρ, hc, hf, hg⟩ := eval_is a
        rw [hρ] at h133 ⊢
        simp [go_sem, h133, hcell]
      refine steps_cons (fun a w hk hn => ?_) ?_
      · have h134 : a.eval (.tmp 134) = .slice au nu cu := hn.1
        have h128 : a.eval (.tmp 128) = .bool true := hn.2.1
        clear hn
        refine wants_guard (d := 128) rfl rfl h128 ?_
        refine grown_run (v := .int .i64 nu) ?_ (Kp.refl _ _) rfl
        obtain ⟨ρ, hρ, hc, hf, hg⟩ := eval_is a
        rw [hρ] at h134 ⊢
        simp [go_sem, h134]
      refine steps_cons (fun a w hk hn => ?_) ?_
      · have h130 : a.eval (.tmp 130) = .int .i64 nu := hn.1
        have h135 : a.eval (.tmp 135) = .int .i64 nu := hn.2.1
        have h128 : a.eval (.tmp 128) = .bool true := hn.2.2.1
        clear hn
        refine wants_guard (d := 128) rfl rfl h128 ?_
        refine grown_run (v := .bool true) ?_ (Kp.refl _ _) rfl
        obtain ⟨ρ, hρ, hc, hf, hg⟩ := eval_is a
        rw [hρ] at h130 h135 ⊢
        simp [go_sem, h130, h135]
      refine steps_cons (fun a w hk hn => ?_) ?_
      · have h128 : a.eval (.tmp 128) = .bool true := hn.1
        have h136 : a.eval (.tmp 136) = .bool true := hn.2.1
        clear hn
        refine wants_plain rfl ?_
        exact grown_pick _ _ _ true rfl h128 h136
      refine steps_cons (fun a w hk hn => ?_) ?_
      · have h137 : a.eval (.tmp 137) = .bool true := hn.1
        clear hn
        refine wants_plain rfl ?_
        exact grown_move (.tmp 137) rfl h137
      refine steps_cons (fun a w hk hn => ?_) ?_
      · have h0 : a.eval (.tmp 0) = .pointer (some ⟨p, 0, none⟩) := hn.1
        have h138 : a.eval (.tmp 138) = .bool true := hn.2.1
        clear hn
        refine wants_guard (d := 138) rfl rfl h138 ?_
        exact grown_move (.tmp 0) rfl h0
      refine steps_cons (fun a w hk hn => ?_) ?_
      · have h139 : a.eval (.tmp 139) = .pointer (some ⟨p, 0, none⟩) := hn.1
        have h138 : a.eval (.tmp 138) = .bool true := hn.2.1
        clear hn
        refine wants_guard (d := 138) rfl rfl h138 ?_
        refine grown_call (f := 18) rfl Try.func18 (by kernel_rfl) (by kernel_rfl) ?_
        simp only [List.map_toArray, List.map_cons, List.map_nil, h139]
        refine (unhide HSN w hk).mono ?_
        rintro e w' ⟨rfl, rfl⟩
        exact ⟨_, rfl, Kp.refl _ _, rfl⟩
      refine steps_cons (fun a w hk hn => ?_) ?_
      · have h1 : a.eval (.tmp 1) = .pointer (some ⟨q, 0, none⟩) := hn.1
        have h138 : a.eval (.tmp 138) = .bool true := hn.2.1
        clear hn
        refine wants_guard (d := 138) rfl rfl h138 ?_
        exact grown_move (.tmp 1) rfl h1
      refine steps_cons (fun a w hk hn => ?_) ?_
      · have h141 : a.eval (.tmp 141) = .pointer (some ⟨q, 0, none⟩) := hn.1
        have h138 : a.eval (.tmp 138) = .bool true := hn.2.1
        clear hn
        refine wants_guard (d := 138) rfl rfl h138 ?_
        refine grown_run (v := .pointer (some ⟨q, 0, none⟩)) ?_ (Kp.refl _ _) rfl
        obtain ⟨ρ, hρ, hc, hf, hg⟩ := eval_is a
        rw [hρ] at h141 ⊢
        simp [go_sem, h141]
      refine steps_cons (fun a w hk hn => ?_) ?_
      · have h142 : a.eval (.tmp 142) = .pointer (some ⟨q, 0, none⟩) := hn.1
        have h138 : a.eval (.tmp 138) = .bool true := hn.2.1
        clear hn
        refine wants_guard (d := 138) rfl rfl h138 ?_
        refine grown_run (v := .pointer (some ⟨q, 1, none⟩)) ?_ (Kp.refl _ _) rfl
        obtain ⟨ρ, hρ, hc, hf, hg⟩ := eval_is a
        rw [hρ] at h142 ⊢
        simp [go_sem, h142]
      refine steps_cons (fun a w hk hn => ?_) ?_
      · have h143 : a.eval (.tmp 143) = .pointer (some ⟨q, 1, none⟩) := hn.1
        have h138 : a.eval (.tmp 138) = .bool true := hn.2.1
        clear hn
        refine wants_guard (d := 138) rfl rfl h138 ?_
        refine grown_run (v := .int .i64 sy) ?_ (Kp.refl _ _) rfl
        have hcell : w.cell? ⟨q, 1, none⟩ = some (.int .i64 sy) := by rw [cell_of_row w q 1 _ _ _ (unhide HRF w hk)]; rfl
        obtain ⟨ρ, hρ, hc, hf, hg⟩ := eval_is a
        rw [hρ] at h143 ⊢
        simp [go_sem, h143, hcell]
      refine steps_cons (fun a w hk hn => ?_) ?_
      · have h140 : a.eval (.tmp 140) = .int .i64 sy := hn.1
        have h144 : a.eval (.tmp 144) = .int .i64 sy := hn.2.1
        have h138 : a.eval (.tmp 138) = .bool true := hn.2.2.1
        clear hn
        refine wants_guard (d := 138) rfl rfl h138 ?_
        refine grown_run (v := .bool true) ?_ (Kp.refl _ _) rfl
        obtain ⟨ρ, hρ, hc, hf, hg⟩ := eval_is a
        rw [hρ] at h140 h144 ⊢
        simp [go_sem, h140, h144]
      refine steps_cons (fun a w hk hn => ?_) ?_
      · have h138 : a.eval (.tmp 138) = .bool true := hn.1
        have h145 : a.eval (.tmp 145) = .bool true := hn.2.1
        clear hn
        refine wants_plain rfl ?_
        exact grown_pick _ _ _ true rfl h138 h145
      refine steps_cons (fun a w hk hn => ?_) ?_
      · have h146 : a.eval (.tmp 146) = .bool true := hn.1
        clear hn
        refine wants_plain rfl ?_
        exact grown_move (.tmp 146) rfl h146
      refine steps_cons (fun a w hk hn => ?_) ?_
      · have h0 : a.eval (.tmp 0) = .pointer (some ⟨p, 0, none⟩) := hn.1
        have h147 : a.eval (.tmp 147) = .bool true := hn.2.1
        clear hn
        refine wants_guard (d := 147) rfl rfl h147 ?_
        exact grown_move (.tmp 0) rfl h0
      refine steps_cons (fun a w hk hn => ?_) ?_
      · have h148 : a.eval (.tmp 148) = .pointer (some ⟨p, 0, none⟩) := hn.1
        have h147 : a.eval (.tmp 147) = .bool true := hn.2.1
        clear hn
        refine wants_guard (d := 147) rfl rfl h147 ?_
        refine grown_call (f := 21) rfl Try.func21 (by kernel_rfl) (by kernel_rfl) ?_
        simp only [List.map_toArray, List.map_cons, List.map_nil, h148]
        refine (unhide HDO w hk).mono ?_
        rintro e w' ⟨rfl, rfl⟩
        exact ⟨_, rfl, Kp.refl _ _, rfl⟩
      refine steps_cons (fun a w hk hn => ?_) ?_
      · have h1 : a.eval (.tmp 1) = .pointer (some ⟨q, 0, none⟩) := hn.1
        have h147 : a.eval (.tmp 147) = .bool true := hn.2.1
        clear hn
        refine wants_guard (d := 147) rfl rfl h147 ?_
        exact grown_move (.tmp 1) rfl h1
      refine steps_cons (fun a w hk hn => ?_) ?_
      · have h150 : a.eval (.tmp 150) = .pointer (some ⟨q, 0, none⟩) := hn.1
        have h147 : a.eval (.tmp 147) = .bool true := hn.2.1
        clear hn
        refine wants_guard (d := 147) rfl rfl h147 ?_
        refine grown_run (v := .pointer (some ⟨q, 0, none⟩)) ?_ (Kp.refl _ _) rfl
        obtain ⟨ρ, hρ, hc, hf, hg⟩ := eval_is a
        rw [hρ] at h150 ⊢
        simp [go_sem, h150]
      refine steps_cons (fun a w hk hn => ?_) ?_
      · have h151 : a.eval (.tmp 151) = .pointer (some ⟨q, 0, none⟩) := hn.1
        have h147 : a.eval (.tmp 147) = .bool true := hn.2.1
        clear hn
        refine wants_guard (d := 147) rfl rfl h147 ?_
        refine grown_run (v := .pointer (some ⟨q, 4, none⟩)) ?_ (Kp.refl _ _) rfl
        obtain ⟨ρ, hρ, hc, hf, hg⟩ := eval_is a
        rw [hρ] at h151 ⊢
        simp [go_sem, h151]
      refine steps_cons (fun a w hk hn => ?_) ?_
      · have h152 : a.eval (.tmp 152) = .pointer (some ⟨q, 4, none⟩) := hn.1
        have h147 : a.eval (.tmp 147) = .bool true := hn.2.1
        clear hn
        refine wants_guard (d := 147) rfl rfl h147 ?_
        refine grown_run (v := .bool dn) ?_ (Kp.refl _ _) rfl
        have hcell : w.cell? ⟨q, 4, none⟩ = some (.bool dn) := by rw [cell_of_row w q 4 _ _ _ (unhide HRF w hk)]; rfl
        obtain ⟨ρ, hρ, hc, hf, hg⟩ := eval_is a
        rw [hρ] at h152 ⊢
        simp [go_sem, h152, hcell]
      refine steps_cons (fun a w hk hn => ?_) ?_
      · have h149 : a.eval (.tmp 149) = .bool dn := hn.1
        have h153 : a.eval (.tmp 153) = .bool dn := hn.2.1
        have h147 : a.eval (.tmp 147) = .bool true := hn.2.2.1
        clear hn
        refine wants_guard (d := 147) rfl rfl h147 ?_
        refine grown_run (v := .bool true) ?_ (Kp.refl _ _) rfl
        obtain ⟨ρ, hρ, hc, hf, hg⟩ := eval_is a
        rw [hρ] at h149 h153 ⊢
        simp [go_sem, h149, h153]
      refine steps_cons (fun a w hk hn => ?_) ?_
      · have h147 : a.eval (.tmp 147) = .bool true := hn.1
        have h154 : a.eval (.tmp 154) = .bool true := hn.2.1
        clear hn
        refine wants_plain rfl ?_
        exact grown_pick _ _ _ true rfl h147 h154
      refine steps_cons (fun a w hk hn => ?_) ?_
      · have h155 : a.eval (.tmp 155) = .bool true := hn.1
        clear hn
        refine wants_plain rfl ?_
        exact grown_assign (.tmp 155) rfl h155
      exact trivial
    intro W1 hkW1
    rintro _ rfl
    rintro _ rfl
    rintro _ rfl
    intro v119 h119
    rintro _ rfl
    rintro _ rfl
    rintro _ rfl
    rintro _ rfl
    rintro _ rfl
    rintro _ rfl
    rintro _ rfl
    rintro _ rfl
    rintro _ rfl
    rintro _ rfl
    rintro _ rfl
    rintro _ rfl
    rintro _ rfl
    rintro _ rfl
    rintro _ rfl
    rintro _ rfl
    rintro _ rfl
    rintro _ rfl
    rintro _ rfl
    rintro _ rfl
    rintro _ rfl
    rintro _ rfl
    rintro _ rfl
    rintro _ rfl
    rintro _ rfl
    rintro _ rfl
    rintro _ rfl
    rintro _ rfl
    rintro _ rfl
    rintro _ rfl
    rintro _ rfl
    rintro _ rfl
    rintro _ rfl
    rintro _ rfl
    rintro _ rfl
    rintro _ rfl
    rintro _ rfl
    refine fin_nil ?_
    simp only [Act.put, List.set_cons_zero, List.set_cons_succ, List.setIfInBounds_toArray]
    go_wp2_with fail
    go_ret
    exact ⟨rfl, v', _, e', HD.out.on ((kp_drew wc).trans hkW1)⟩
end Go.Proofs.Ythpaablhhfichaa
