/-
  The law's own play: any calls on a queue, beside the law's list.
-/
import Derived.Deep.CutBlock
import Derived.Test.YtfepkcjelecpkaaQOBatchPlays8
namespace Go.Proofs.Ytfepkcjelecpkaa
open Go.ChangeShapes Go.WideShapes Go.ChangeAt Go.RowKit
open Go.Proofs
open Go.Deep
set_option linter.unusedVariables false
set_option maxHeartbeats 16000000 in
set_option maxRecDepth 100000 in
theorem bplay_any (r s t : Int) (vl : Value) (l : List AskBE) (w : World) (hr0 : 1 ≤ r) (hr1 : r ≤ 16) (hs0 : 1 ≤ s) (hs1 : s ≤ 8) (ht0 : 0 ≤ t) (ht1 : t ≤ 1000) (hl : AskB w vl l) :
    Calls Try.prog 9 #[.int .i64 r, .int .i64 s, .int .i64 t, vl] w fun e w' => e = .returned (.bool true) ∧ Kp [] w w' := by
  have HN := hide (nb_new r s t w hr0 hr1 hs0 hs1 ht0 ht1)
  obtain ⟨al, cl, e0, hll, -⟩ := id hl
  have HS0 := hide hl
  obtain ⟨L, hL⟩ : ∃ L, L = l.length := ⟨_, rfl⟩
  rw [← hL] at e0 hll
  subst e0
  have HL := hide hL
  clear hl hL
  go_enter Try.func9, Try.ntmps9
  go_wp2_with (go_at_call 8; refine HN.out.mono ?_; rintro e w1 ⟨p, rfl, N1⟩; clear HN; have HP1 : Hid (Pb w w1 p r s t (.slice none 0 0) [] 0) := ⟨N1, RowT.nil _ _ _, (by simp), (by simp)⟩; clear N1)
  go_loopw [11, 12] (fun mv i wr => ∃ (k : Nat) (ms : List It), k ≤ 60 ∧ k ≤ L ∧ i = .int .i64 k ∧ Pb w wr p r s t mv ms k) (fun _ i _ => 60 - (intOf i).toNat)
  case atStart => exact ⟨0, [], by omega, Nat.zero_le _, rfl, HP1.out⟩
  case round =>
    obtain ⟨k, ms, hk, hkL, rfl, P⟩ := hrel
    obtain ⟨am, cm, rfl, hcm1, hcm2⟩ := P.shape
    have HP := hide P
    clear P HP1
    by_cases hgo : k < L ∧ k < 60
    · obtain ⟨hlt, hlt6⟩ := hgo
      have hlt2 : (k : Int) < (L : Int) := by omega
      have hlt3 : (k : Int) < 60 := by omega
      obtain ⟨ao', c', e', -, hcell⟩ := HS0.out
      injection e' with e1 e2 e3
      subst e1
      obtain ⟨b, off, rfl, hc, hS, hB, hb0, hb1⟩ := hcell k (by rw [← HL.out]; exact hlt)
      generalize l[k]'(by rw [← HL.out]; exact hlt) = x at hc hS hB hb0 hb1
      obtain ⟨kd, nn, vb, bs⟩ := x
      simp only at hc hS hB hb0 hb1
      have hr : ∀ j y, [Value.int .i64 kd, .int .i64 nn, vb][j]? = some y → wr.cell? ⟨b, off + k * 3 + j, none⟩ = some y := fun j y hy => HP.out.q.kp.cell (hc j y hy) (by simp)
      have r0 := hr 0 _ rfl
      rw [Nat.add_zero] at r0
      have r1 := hr 1 _ rfl
      have r2 := hr 2 _ rfl
      have hwi := wiP_ge nn 0 1073741824 (by omega)
      have HWI := hide (within_wi nn 0 1073741824 wr (by omega) (by omega) (by omega))
      obtain ⟨now, hnow⟩ : ∃ now, now = wiP nn 0 1073741824 := ⟨_, rfl⟩
      rw [← hnow] at hwi HWI
      have hnw0 := hwi.1
      have hnw1 := hwi.2
      obtain ⟨ax, cx, evb, -⟩ := id hS
      obtain ⟨nx, hnx⟩ : ∃ nx, nx = bs.length := ⟨_, rfl⟩
      rw [← hnx] at evb
      subst evb
      have hcut := cutv_any ax nx cx 20 bs wr (hS.kept HP.out.q.kp (by simp))
      have hcs := cutv_sl 20 hS
      obtain ⟨nb, hnb⟩ : ∃ nb, nb = min nx 20 := ⟨_, rfl⟩
      rw [← hnb] at hcut hcs
      have HCT := hide hcut
      have HSb : Hid (∀ w', Kp [] w w' → Sl w' (.slice ax nb cx) (bs.take 20)) := fun w' k' => hcs.kept k' (by simp)
      have HBb : Hid (Bs (bs.take 20)) := hB.takes 20
      have HLb : Hid ((bs.take 20).length ≤ 1000) := by show _ ≤ _; rw [List.length_take]; omega
      generalize bs.take 20 = bb at HSb HBb HLb
      obtain ⟨n, hn⟩ : ∃ n, n = ms.length := ⟨_, rfl⟩
      rw [← hn] at HP hcm1 ⊢
      have HNM := hide hn
      have hn136 : n ≤ 136 := by have := HP.out.len; omega
      have HCM2 := hide hcm2
      clear hcell e2 e3 hc hS hB hr hnow hwi hcut hcs hnb hnx hn hcm2
      go_upto_block 2 with (first
        | (go_at_call 11; refine HWI.out.mono ?_; rintro e w2 ⟨rfl, hw⟩; subst w2; clear HWI)
        | (go_at_call 17; refine HCT.out.mono ?_; rintro e w2 ⟨rfl, hw⟩; subst w2; clear HCT))
      go_cut [11, 15, 16, 17, 18] from 62 to 157 (fun mv _ _ _ _ wc => ∃ (a2 : Option Addr) (n2 c2 : Nat) (ms2 : List It), mv = .slice a2 n2 c2 ∧ Hid (n2 = ms2.length) ∧ Hid (Pb w wc p r s t (.slice a2 n2 c2) ms2 (k + 1)))
      case first =>
        have HSk := hide (HSb.out wr HP.out.q.kp)
        by_cases h1 : kd = 1
        · have h1d : (kd == 1) = true := by simp [h1]
          clear h1
          by_cases hf : r ≤ (n : Int)
          · have HPu := hide (nb_full HP.out.q (.slice ax nb cx) now (by show r ≤ (ms.length : Int); rw [← HNM.out]; exact hf))
            go_wp2_with (go_at_call 12; refine HPu.out.mono ?_; rintro e w3 ⟨rfl, k3, -⟩; clear HPu; have HP3 := hide (HP.out.kept k3).more; clear k3)
            go_meet
            case rel => exact ⟨am, n, cm, ms, rfl, HNM.out, HP3.out⟩
          · have hfd : decide (r ≤ (n : Int)) = false := decide_eq_false hf
            obtain ⟨S, hSS⟩ : ∃ S, S = strOfNums bb := ⟨_, rfl⟩
            have cvA := fun w' (k' : Kp [] wr w') => (HSb.out w' (HP.out.q.kp.trans k')).conv (P := Try.prog) 28 9 5 Try.underlying28 Try.underlying5 Try.underlying9
            rw [← hSS] at cvA
            have HCV := hide cvA
            have cv0 := cvA wr (Kp.refl _ _)
            have cv1 := cvA wr.drew (kp_drew _)
            have cv2 := cvA (wr.alloc (.cells #[] 49)) ((Kp.refl [] wr).alloc _)
            have cv3 := cvA (wr.alloc (.cells #[] 49)).drew ((Kp.refl [] wr).alloc _).drew
            have HM := hide HP.out.m
            have HSM : Hid (∀ w', Kp [] wr w' → SrcI w' (.slice am n cm) (ms.map nrmI)) := fun w' k' => (HM.out.keptN k').src
            have HML : Hid (ms.length ≤ 136) := by show _ ≤ _; rw [← HNM.out]; exact hn136
            have hfl : (flatI [It.mk bb now]).toArray = #[.string S, .int .i64 now] := by rw [hSS]; rfl
            have HLT : Hid (∀ w' : World, SrcI (w'.alloc (.cells #[.string S, .int .i64 now] 49)) (.slice (some ⟨w'.heap.size, 0, none⟩) 1 1) [It.mk bb now]) := fun w' => by
              have := src_lit w' 49 [It.mk bb now] 1 rfl
              rw [hfl] at this
              exact this
            have MKA := hide (MkT.made wr)
            have KWA := hide ((Kp.refl [] wr).alloc (.cells #[] 49))
            have MKB := hide (((MkT.made (wr.alloc (.cells #[.string S, .int .i64 now] 49))).base ((Kp.refl [] wr).alloc _)))
            have LB0 := hide (HLT.out wr)
            have LB1 := hide (HLT.out (wr.alloc (.cells #[] 49)))
            have hse : (wr.alloc (.cells #[] 49)).heap.size = wr.heap.size + 1 := by simp
            have hsf : (wr.alloc (.cells #[.string S, .int .i64 now] 49)).heap.size = wr.heap.size + 1 := by simp
            rw [hsf] at MKB
            rw [hse] at LB1
            clear hse hsf hfl hSS cvA
            go_wp2_with fail
            go_region_law (first
              | (refine step_mkT (w0 := wr) (by rfl) (.tmp 68) (.tmp 69) (by rfl) (.slice (some ⟨wr.heap.size, 0, none⟩) 0 0) [] (by rfl) (by exact MKA.out.on (kp_drew _)) (.slice am n cm) (ms.map nrmI) (by rfl) (by exact HSM.out _ KWA.out.drew) (by have := HML.out; simp; omega) ?_
                 intro ao1 m1 q1 w1 M1 k1
                 rw [List.nil_append] at M1
                 have cv4 := HCV.out w1 M1.2
                 have cv5 := HCV.out w1.drew M1.2.drew
                 have LIT := hide (HLT.out w1)
                 replace M1 := hide (M1.on ((Kp.refl [] w1).alloc (.cells #[.string S, .int .i64 now] 49)))
                 clear k1)
              | (refine step_mkT (w0 := wr) (by rfl) (.tmp 68) (.tmp 69) (by rfl) (.slice (some ⟨wr.heap.size, 0, none⟩) 0 0) [] (by rfl) (by exact (MKA.out.on ((Kp.refl [] _).alloc _).drew)) (.slice am n cm) (ms.map nrmI) (by rfl) (by exact HSM.out _ (KWA.out.alloc _).drew) (by have := HML.out; simp; omega) ?_
                 intro ao1 m1 q1 w1 M1 k1
                 rw [List.nil_append] at M1
                 have LIT := hide ((LB1.out.kept (kp_drew _) (by simp)).kept k1 (by simp [Value.ownBlock]))
                 replace M1 := hide M1
                 clear k1)
              | (refine step_mkT (w0 := wr) (by rfl) (.tmp 68) (.tmp 69) (by rfl) (.slice (some ⟨wr.heap.size + 1, 0, none⟩) 0 0) [] (by rfl) (by exact MKB.out.on (kp_drew _)) (.slice am n cm) (ms.map nrmI) (by rfl) (by exact HSM.out _ (((Kp.refl [] wr).alloc _).alloc _).drew) (by have := HML.out; simp; omega) ?_
                 intro ao1 m1 q1 w1 M1 k1
                 rw [List.nil_append] at M1
                 have LIT := hide ((LB0.out.kept (((Kp.refl [] _).alloc _).drew) (by simp)).kept k1 (by simp [Value.ownBlock]))
                 replace M1 := hide M1
                 clear k1)
              | (refine step_mkT (w0 := wr) (by rfl) (.tmp 70) (.tmp 75) (by rfl) (.slice ao1 m1 q1) (ms.map nrmI) (by rfl) (by exact M1.out) _ [It.mk bb now] (by rfl) (by exact LIT.out) (by have := HML.out; simp; omega) ?_
                 intro ao2 m2 q2 w2 M2 k2
                 clear k2
                 replace M2 := hide M2))
            all_goals
              have HML2 : Hid (m2 = (ms ++ [It.mk bb now]).length) := by
                have h5 := M2.out.1.len.1
                show _ = _
                rw [h5]; simp
              have HPu := hide (nb_put (HP.out.q.keptN M2.out.2) now (by show (ms.length : Int) < r; rw [← HNM.out]; omega) (HSb.out w2 (HP.out.q.kp.trans M2.out.2)) HBb.out HLb.out (by omega) (by omega) ⟨r, s, t, ms ++ [It.mk bb now]⟩ rfl)
              have HM2 := hide (M2.out.1.rebase (base' := w.heap.size) (fun i hi => Nat.le_trans HP.out.q.kp.size (M2.out.1.own hi)))
              go_wp2_with (go_at_call 12; refine HPu.out.mono ?_; rintro e w3 ⟨rfl, N3, O3⟩; clear HPu; have HP3 := hide (HP.out.put ⟨hnw0, hnw1⟩ N3 (HM2.out.keptO O3)); clear N3 O3)
              go_meet
              case rel => exact ⟨ao2, m2, q2, ms ++ [It.mk bb now], rfl, HML2.out, HP3.out⟩
        by_cases h2 : kd = 2
        · have h1d : (kd == 1) = false := by simp [h1]
          have h2d : (kd == 2) = true := by simp [h2]
          clear h1 h2
          by_cases hle : s ≤ (n : Int)
          · have hd : decide (s ≤ (n : Int)) = true := decide_eq_true hle
            have HD := hide (nb_due HP.out.q now (by omega) (by omega) true (by
              have hn1 := HNM.out
              cases ms with
              | nil => simp at hn1; omega
              | cons x l2 => have h5 : decide (s ≤ ((x :: l2).length : Int)) = true := decide_eq_true (by rw [← hn1]; exact hle)
                             simp only [Qd.due, h5, Bool.true_or]))
            go_wp2_with (go_at_call 16; refine HD.out.mono ?_; rintro e w3 ⟨rfl, k3, -⟩; clear HD; have HP3 := hide (HP.out.kept k3).more; clear k3)
            go_meet
            case rel => exact ⟨am, n, cm, ms, rfl, HNM.out, HP3.out⟩
          · have hd : decide (s ≤ (n : Int)) = false := decide_eq_false hle
            by_cases hz : n = 0
            · have HD := hide (nb_due HP.out.q now (by omega) (by omega) false (by
                have hn1 := HNM.out
                cases ms with
                | nil => rfl
                | cons x l2 => simp at hn1; omega))
              have hz0 : ¬ (0 : Int) < (n : Int) := by omega
              have hzd : decide ((0 : Int) < (n : Int)) = false := decide_eq_false hz0
              have hzn : decide (0 < n) = false := decide_eq_false (by omega)
              clear hz
              go_wp2_with (go_at_call 16; refine HD.out.mono ?_; rintro e w3 ⟨rfl, k3, -⟩; clear HD; have HP3 := hide (HP.out.kept k3).more; clear k3)
              go_meet
              case rel => exact ⟨am, n, cm, ms, rfl, HNM.out, HP3.out⟩
            · have hz0 : (0 : Int) < (n : Int) := by omega
              have hzn : 0 < n := by omega
              have hzd : decide ((0 : Int) < (n : Int)) = true := decide_eq_true hz0
              obtain ⟨x, l2, hms⟩ : ∃ x l2, ms = x :: l2 := by
                have hn1 := HNM.out
                cases ms with
                | nil => simp at hn1; omega
                | cons x l2 => exact ⟨x, l2, rfl⟩
              obtain ⟨g, off2, rfl, d0, d1⟩ := HP.out.m.at 0 (by rw [List.length_map, ← HNM.out]; omega)
              have hx0 : (ms.map nrmI)[0]'(by rw [List.length_map, ← HNM.out]; omega) = nrmI x := by simp [hms]
              rw [hx0] at d0 d1
              have hxt := HP.out.tm x (by rw [hms]; simp)
              have hxa := nrm_at x hxt
              obtain ⟨bo, hbo⟩ : ∃ bo, bo = decide ((nrmI x).at_ + t ≤ now) := ⟨_, rfl⟩
              have HD := hide (nb_due HP.out.q now (by omega) (by omega) bo (by rw [hbo, hms]; exact (due_law r s t now x l2 ht0 ht1 hnw0 hxt (by rw [← hms, ← HNM.out]; exact hle)).symm))
              obtain ⟨xa, hxa2⟩ : ∃ xa, xa = (nrmI x).at_ := ⟨_, rfl⟩
              rw [← hxa2] at d1 hbo hxa
              have hbo2 : decide (xa + t ≤ now) = bo := hbo.symm
              have hxa0 := hxa.1
              have hxa1 := hxa.2
              simp only [Nat.zero_mul, Nat.add_zero] at d0 d1
              clear hms hx0 hxt hxa hbo hxa2 hz
              go_wp2_with (go_at_call 16; refine HD.out.mono ?_; rintro e w3 ⟨rfl, k3, -⟩; clear HD; have f1 := k3.cell d1 (by simp); have HP3 := hide (HP.out.kept k3).more; clear k3)
              go_meet
              case rel => exact ⟨_, n, cm, ms, rfl, HNM.out, HP3.out⟩
        by_cases h3 : kd = 3
        · have h1d : (kd == 1) = false := by simp [h1]
          have h2d : (kd == 2) = false := by simp [h2]
          have h3d : (kd == 3) = true := by simp [h3]
          clear h1 h2 h3
          by_cases hsn : s > (n : Int)
          · have hsd : decide ((n : Int) < s) = true := decide_eq_true hsn
            have HKB : (n : Int) = (n : Int) := rfl

            have HT := hide (nb_take HP.out.q n (by have h5 := HNM.out; show n = min s.toNat ms.length; omega) ⟨r, s, t, ms.drop n⟩ rfl)
            have HKN : Hid (n ≤ n) := by show _ ≤ _; omega
            have run2 : ∀ w', (Instr.sliceAt 46 (.slice am n cm) (some (.int .i64 (n : Int))) none none).run Try.prog w' = .ok (.slice (if cm = n then am else am.map (·.add (n * 2))) (n - n) (cm - n)) w' := fun w' => by
              exact run_restI (ao := am) (n := n) (c := cm) n w' HKN.out hcm1 HCM2.out
            obtain ⟨a2, ha2⟩ : ∃ a2, a2 = (if cm = n then am else am.map (·.add (n * 2))) := ⟨_, rfl⟩
            obtain ⟨n2, hn2⟩ : ∃ n2, n2 = n - n := ⟨_, rfl⟩
            obtain ⟨c2, hc2⟩ : ∃ c2, c2 = cm - n := ⟨_, rfl⟩
            have HDR : Hid (∀ w', RowT 49 w' w.heap.size (.slice am n cm) (ms.map nrmI) → RowT 49 w' w.heap.size (.slice a2 n2 c2) ((ms.map nrmI).drop n)) := fun w' h5 => by rw [ha2, hn2, hc2]; exact h5.drop n HKN.out
            have HN2 : Hid (n2 = (ms.drop n).length) := by show _ = _; rw [hn2, List.length_drop, ← HNM.out]
            rw [← ha2, ← hn2, ← hc2] at run2
            have HTL : Hid (((ms.take n).map It.bs).length = n) := by have h5 := HNM.out; have h6 := HKN.out; show _ = _; rw [List.length_map, List.length_take]; omega
            clear ha2 hn2 hc2
            go_wp2_with (go_at_call 14; refine HT.out.mono ?_; rintro e w3 ⟨ao3, c3, rfl, T3, N3, O3⟩; clear HT; have HT3 := hide T3; have HN3 := hide N3; have HM3 := hide (HP.out.m.keptO O3); clear T3 N3 O3)
            clear HKB
            go_loopw [18] (fun i wq => ∃ j : Nat, j ≤ n ∧ i = .int .i64 j ∧ Kp [] w3 wq) (fun i _ => n - (intOf i).toNat)
            case atStart => exact ⟨0, by omega, rfl, Kp.refl _ _⟩
            case round =>
              obtain ⟨j, hj, rfl, KQ⟩ := hrel
              have HKQ := hide KQ
              clear KQ
              by_cases hjK : j < n
              · have hjB : (j : Int) < (n : Int) := by omega
                have hjK' : (j : Int) < (n : Int) := by omega
                have hjl : j < ((ms.take n).map It.bs).length := by rw [HTL.out]; exact hjK
                have hjm : j < (ms.map nrmI).length := by have h5 := HNM.out; have h6 := HKN.out; rw [List.length_map]; omega
                have hjn : (j : Int) < (n : Int) := by have h6 := HKN.out; omega
                obtain ⟨g, vx, rfl, c0, hSx⟩ := (HT3.out.keptN (HKQ.out.trans (kp_drew _))).at j hjl
                obtain ⟨g2, off2, rfl, d0, -⟩ := (HM3.out.keptN (HKQ.out.trans (kp_drew _))).at j hjm
                have hxy : ((ms.take n).map It.bs)[j] = (ms.map nrmI)[j].bs := by simp [nrmI]
                rw [hxy] at hSx
                generalize (ms.map nrmI)[j].bs = X at hSx d0
                obtain ⟨S, hSS⟩ : ∃ S, S = strOfNums X := ⟨_, rfl⟩
                have cv := hSx.conv (P := Try.prog) 28 9 5 Try.underlying28 Try.underlying5 Try.underlying9
                rw [← hSS] at cv d0
                obtain ⟨a9, c9, e9, -⟩ := hSx
                obtain ⟨n9, hn9⟩ : ∃ n9, n9 = X.length := ⟨_, rfl⟩
                rw [← hn9] at e9
                rw [e9] at c0 cv
                clear hSS e9 hn9 hxy hjl hjm
                go_wp2_with fail
                refine region_read Try.mixed (by kernel_rfl) ?_
                repeat (first | go_big_quiet_skip | (go_big_quiet_want; go_big_quiet_op; go_big_quiet_on))
                refine wpQuiet_nil ?_
                go_wp2_with fail
                go_roundw
                case rel => exact ⟨j + 1, by omega, by go_num, HKQ.out.trans (kp_drew _)⟩
                case measure => simp [intOf]; omega
              · have hjB : ¬ (j : Int) < (n : Int) := by omega
                have HP3 := hide (HP.out.take n (HN3.out.keptN HKQ.out) (HDR.out _ (HM3.out.keptN HKQ.out)))
                go_wp2_with fail
                go_meet
                case rel => exact ⟨a2, n2, c2, ms.drop n, rfl, HN2.out, HP3.out⟩

          · have hsd : decide ((n : Int) < s) = false := decide_eq_false hsn
            obtain ⟨K, hK⟩ : ∃ K : Nat, s = (K : Int) := ⟨s.toNat, by omega⟩
            have HKB : s = (K : Int) := hK
            have hne : ((K : Int) != s) = false := by rw [hK]; simp
            have HKi := hide hK

            have HT := hide (nb_take HP.out.q K (by have h5 := HNM.out; have h7 := HKi.out; show K = min s.toNat ms.length; omega) ⟨r, s, t, ms.drop K⟩ rfl)
            have HKN : Hid (K ≤ n) := by show _ ≤ _; omega
            have run2 : ∀ w', (Instr.sliceAt 46 (.slice am n cm) (some (.int .i64 s)) none none).run Try.prog w' = .ok (.slice (if cm = K then am else am.map (·.add (K * 2))) (n - K) (cm - K)) w' := fun w' => by
              rw [HKi.out]; exact run_restI (ao := am) (n := n) (c := cm) K w' HKN.out hcm1 HCM2.out
            obtain ⟨a2, ha2⟩ : ∃ a2, a2 = (if cm = K then am else am.map (·.add (K * 2))) := ⟨_, rfl⟩
            obtain ⟨n2, hn2⟩ : ∃ n2, n2 = n - K := ⟨_, rfl⟩
            obtain ⟨c2, hc2⟩ : ∃ c2, c2 = cm - K := ⟨_, rfl⟩
            have HDR : Hid (∀ w', RowT 49 w' w.heap.size (.slice am n cm) (ms.map nrmI) → RowT 49 w' w.heap.size (.slice a2 n2 c2) ((ms.map nrmI).drop K)) := fun w' h5 => by rw [ha2, hn2, hc2]; exact h5.drop K HKN.out
            have HN2 : Hid (n2 = (ms.drop K).length) := by show _ = _; rw [hn2, List.length_drop, ← HNM.out]
            rw [← ha2, ← hn2, ← hc2] at run2
            have HTL : Hid (((ms.take K).map It.bs).length = K) := by have h5 := HNM.out; have h6 := HKN.out; show _ = _; rw [List.length_map, List.length_take]; omega
            clear ha2 hn2 hc2
            clear HKB hK
            go_wp2_with (go_at_call 14; refine HT.out.mono ?_; rintro e w3 ⟨ao3, c3, rfl, T3, N3, O3⟩; clear HT; have HT3 := hide T3; have HN3 := hide N3; have HM3 := hide (HP.out.m.keptO O3); clear T3 N3 O3)
            go_loopw [18] (fun i wq => ∃ j : Nat, j ≤ K ∧ i = .int .i64 j ∧ Kp [] w3 wq) (fun i _ => K - (intOf i).toNat)
            case atStart => exact ⟨0, by omega, rfl, Kp.refl _ _⟩
            case round =>
              obtain ⟨j, hj, rfl, KQ⟩ := hrel
              have HKQ := hide KQ
              clear KQ
              by_cases hjK : j < K
              · have hjB : (j : Int) < s := by rw [HKi.out]; omega
                have hjK' : (j : Int) < (K : Int) := by omega
                have hjl : j < ((ms.take K).map It.bs).length := by rw [HTL.out]; exact hjK
                have hjm : j < (ms.map nrmI).length := by have h5 := HNM.out; have h6 := HKN.out; rw [List.length_map]; omega
                have hjn : (j : Int) < (n : Int) := by have h6 := HKN.out; omega
                obtain ⟨g, vx, rfl, c0, hSx⟩ := (HT3.out.keptN (HKQ.out.trans (kp_drew _))).at j hjl
                obtain ⟨g2, off2, rfl, d0, -⟩ := (HM3.out.keptN (HKQ.out.trans (kp_drew _))).at j hjm
                have hxy : ((ms.take K).map It.bs)[j] = (ms.map nrmI)[j].bs := by simp [nrmI]
                rw [hxy] at hSx
                generalize (ms.map nrmI)[j].bs = X at hSx d0
                obtain ⟨S, hSS⟩ : ∃ S, S = strOfNums X := ⟨_, rfl⟩
                have cv := hSx.conv (P := Try.prog) 28 9 5 Try.underlying28 Try.underlying5 Try.underlying9
                rw [← hSS] at cv d0
                obtain ⟨a9, c9, e9, -⟩ := hSx
                obtain ⟨n9, hn9⟩ : ∃ n9, n9 = X.length := ⟨_, rfl⟩
                rw [← hn9] at e9
                rw [e9] at c0 cv
                clear hSS e9 hn9 hxy hjl hjm
                go_wp2_with fail
                refine region_read Try.mixed (by kernel_rfl) ?_
                repeat (first | go_big_quiet_skip | (go_big_quiet_want; go_big_quiet_op; go_big_quiet_on))
                refine wpQuiet_nil ?_
                go_wp2_with fail
                go_roundw
                case rel => exact ⟨j + 1, by omega, by go_num, HKQ.out.trans (kp_drew _)⟩
                case measure => simp [intOf]; omega
              · have hjB : ¬ (j : Int) < s := by rw [HKi.out]; omega
                have HP3 := hide (HP.out.take K (HN3.out.keptN HKQ.out) (HDR.out _ (HM3.out.keptN HKQ.out)))
                go_wp2_with fail
                go_meet
                case rel => exact ⟨a2, n2, c2, ms.drop K, rfl, HN2.out, HP3.out⟩
        by_cases h4 : kd = 4
        · have h1d : (kd == 1) = false := by simp [h1]
          have h2d : (kd == 2) = false := by simp [h2]
          have h3d : (kd == 3) = false := by simp [h3]
          have h4d : (kd == 4) = true := by simp [h4]
          clear h1 h2 h3 h4
          obtain ⟨S, hSS⟩ : ∃ S, S = strOfNums bb := ⟨_, rfl⟩
          have HCV : Hid (∀ w' (k' : Kp [] w w'), (convert 28 9 (.slice ax nb cx)).run Try.prog w' = .ok (.string S) w') := fun w' k' => by
            rw [hSS]; exact (HSb.out w' k').conv (P := Try.prog) 28 9 5 Try.underlying28 Try.underlying5 Try.underlying9
          have hfl : (flatI [It.mk bb (-1125899906842624), It.mk bb (-1125899906842624)]).toArray = #[.string S, .int .i64 (-1125899906842624), .string S, .int .i64 (-1125899906842624)] := by rw [hSS]; rfl
          have HRL : Hid (∀ w' : World, RowT 49 (w'.alloc (.cells #[.string S, .int .i64 (-1125899906842624), .string S, .int .i64 (-1125899906842624)] 49)) w'.heap.size (.slice (some ⟨w'.heap.size, 0, none⟩) 2 2) [It.mk bb (-1125899906842624), It.mk bb (-1125899906842624)]) := fun w' => by
            have h5 := row_lit w' 49 [It.mk bb (-1125899906842624), It.mk bb (-1125899906842624)] 2 rfl (by omega)
            rw [hfl] at h5
            exact h5
          have HML : Hid (ms.length ≤ 136) := by show _ ≤ _; rw [← HNM.out]; exact hn136
          have HBk := hide (nb_back (HP.out.q.keptN ((Kp.refl [] wr).alloc (.cells #[.slice ax nb cx, .slice ax nb cx] 28))) [(.slice ax nb cx, bb), (.slice ax nb cx, bb)] (lists2 HSk.out HBb.out HSk.out HBb.out) (fun x hx => by
            have h5 : x = (.slice ax nb cx, bb) := by simpa using hx
            rw [h5]; exact HLb.out) (by have := HML.out; show ms.length + 2 ≤ 1000; omega) ⟨r, s, t, [evr bb, evr bb] ++ ms⟩ rfl)
          have HMA := hide (HP.out.m.keptN ((Kp.refl [] wr).alloc (.cells #[.slice ax nb cx, .slice ax nb cx] 28)))
          clear hSS hfl
          go_wp2_with (first
            | (go_at_call 15; refine HBk.out.mono ?_; rintro e w3 ⟨rfl, N3, O3⟩; clear HBk; have cv3 := HCV.out w3 N3.kp; have HN3 := hide N3; have HR3 := hide (HRL.out w3); have HA3 := hide ((Kp.refl [] w3).alloc (.cells #[.string S, .int .i64 (-1125899906842624), .string S, .int .i64 (-1125899906842624)] 49)); have HM3 := hide ((HMA.out.keptO O3).keptN HA3.out); clear N3 O3)
            | (at_builtin; refine wpList_appT rfl 49 46 Try.underlying46 Try.infoIm (.tmp 155) (.tmp 156) rfl w3.heap.size (.slice (some ⟨w3.heap.size, 0, none⟩) 2 2) _ rfl HR3.out (.slice am n cm) (ms.map nrmI) rfl HM3.out.src (by have := HML.out; simp; omega) HA3.out.size ?_; intro a4 m4 c4 w4 R4 S4; have HK4 : Hid (Kp [] w3 w4) := (HA3.out.then S4.1 (fun i hi => .inr (HR3.out.own (by simpa using hi)))); have HR4 := hide R4; clear R4 S4))
          have HP3 := hide (HP.out.back (b := bb) (HN3.out.keptN HK4.out) (HR4.out.rebase (fun i hi => Nat.le_trans HN3.out.kp.size (HR4.out.own hi))))
          have HML4 : Hid (m4 = ([evr bb, evr bb] ++ ms).length) := by
            have h5 := HR4.out.len.1
            show _ = _
            rw [h5]; simp
          go_meet
          case rel => exact ⟨a4, m4, c4, _, rfl, HML4.out, HP3.out⟩
        · have h1d : (kd == 1) = false := by simp [h1]
          have h2d : (kd == 2) = false := by simp [h2]
          have h3d : (kd == 3) = false := by simp [h3]
          have h4d : (kd == 4) = false := by simp [h4]
          clear h1 h2 h3 h4
          go_wp2_with fail
          go_meet
          case rel => exact ⟨am, n, cm, ms, rfl, HNM.out, HP.out.more⟩
      case rest =>
        clear HP HNM HCM2 hcm1 hn136
        clear ms
        obtain ⟨a2, n2, c2, ms, hmv, HNM, HP⟩ := hcut
        subst hmv
        have hnb : n2 ≤ 140 := by have h5 := HP.out.len; have h6 := HNM.out; omega
        have hnb' : (n2 : Int) ≤ 140 := by omega
        have HAll := hide (nb_all HP.out.q n2 HNM.out)
        go_wp2_with (first
          | (go_at_call 18; refine HAll.out.mono ?_; rintro e w3 ⟨ao3, c3, rfl, T3, K3, -⟩; clear HAll; have HT3 := hide T3; have HP3 := hide (HP.out.kept K3); clear T3 K3; have HLn := hide (nb_len HP3.out.q n2 HNM.out))
          | (go_at_call 13; refine HLn.out.mono ?_; rintro e w4 ⟨rfl, hw⟩; subst w4; clear HLn))
        go_loopw [20, 21] (fun hv i wq => ∃ (j : Nat) (hb : Bool), j ≤ n2 ∧ i = .int .i64 j ∧ hv = .bool hb ∧ Hid (hb = (ms.take j).any (sameI bb)) ∧ Kp [] w3 wq) (fun _ i _ => n2 - (intOf i).toNat)
        case atStart => exact ⟨0, false, by omega, rfl, rfl, by simp [Hid], Kp.refl _ _⟩
        case round =>
          obtain ⟨j, hb, hj, rfl, rfl, HB, KQ⟩ := hrel
          have HKQ := hide KQ
          clear KQ
          by_cases hjn : j < n2
          · have hjn' : (j : Int) < (n2 : Int) := by omega
            have hjs : j < ms.length := by rw [← HNM.out]; exact hjn
            have hjl : j < (ms.map It.bs).length := by rw [List.length_map]; exact hjs
            have hjm : j < (ms.map nrmI).length := by rw [List.length_map]; exact hjs
            obtain ⟨g, vx, rfl, c0, hSx⟩ := (HT3.out.keptN (HKQ.out.trans (kp_drew _))).at j hjl
            obtain ⟨g2, off2, rfl, d0, -⟩ := (HP3.out.m.keptN (HKQ.out.trans (kp_drew _))).at j hjm
            have f0 := (kp_drew wr.drew).cell d0 (by simp)
            have hxy : (ms.map It.bs)[j] = (ms.map nrmI)[j].bs := by simp [nrmI]
            rw [hxy] at hSx
            have hXB : Bs (ms.map nrmI)[j].bs := by
              have h5 : (ms.map nrmI)[j].bs = ms[j].bs := by simp [nrmI]
              rw [h5]; exact (HP3.out.q.fit.its ms[j] (List.getElem_mem hjs)).1
            have HNX : Hid ((ms.take (j + 1)).any (sameI bb) = ((ms.take j).any (sameI bb) || decide ((ms.map nrmI)[j].bs = bb))) := by
              show _ = _
              rw [List.take_succ_eq_append_getElem hjs, List.any_append]
              simp [sameI, nrmI]
            generalize (ms.map nrmI)[j].bs = X at hSx d0 f0 hXB HNX
            obtain ⟨S, hSS⟩ : ∃ S, S = strOfNums X := ⟨_, rfl⟩
            obtain ⟨T, hTT⟩ : ∃ T, T = strOfNums bb := ⟨_, rfl⟩
            have cv := hSx.conv (P := Try.prog) 28 9 5 Try.underlying28 Try.underlying5 Try.underlying9
            have cw := (HSb.out wr.drew.drew ((HP3.out.q.kp.trans HKQ.out).trans ((kp_drew _).trans (kp_drew _)))).conv (P := Try.prog) 28 9 5 Try.underlying28 Try.underlying5 Try.underlying9
            rw [← hSS] at cv d0 f0
            rw [← hTT] at cw
            have HST : Hid ((S.toList == T.toList) = decide (X = bb)) := by
              show _ = _
              rw [str_decB, hSS, hTT]
              exact decide_eq_decide.2 (str_eq_iff hXB HBb.out)
            obtain ⟨a9, c9, e9, -⟩ := hSx
            obtain ⟨n9, hn9⟩ : ∃ n9, n9 = X.length := ⟨_, rfl⟩
            rw [← hn9] at e9
            rw [e9] at c0 cv
            clear hSS hTT e9 hn9 hxy hjl hjm hXB hjs
            cases hb with
            | true =>
              have HNY : Hid (true = (ms.take (j + 1)).any (sameI bb)) := by show _ = _; rw [HNX.out, ← HB.out]; rfl
              go_wp2_with fail
              refine region_read Try.mixed (by kernel_rfl) ?_
              repeat (first | go_big_quiet_skip | (go_big_quiet_want; go_big_quiet_op; go_big_quiet_on))
              refine wpQuiet_nil ?_
              go_wp2_with fail
              refine region_read Try.mixed (by kernel_rfl) ?_
              repeat (first | go_big_quiet_skip | (go_big_quiet_want; go_big_quiet_op; go_big_quiet_on))
              refine wpQuiet_nil ?_
              go_wp2_with fail
              go_roundw
              case rel => exact ⟨j + 1, true, by omega, by go_num, rfl, HNY.out, HKQ.out.trans ((kp_drew _).trans (kp_drew _))⟩
              case measure => simp [intOf]; omega
            | false =>
              obtain ⟨hc, hhc⟩ : ∃ hc, hc = (S.toList == T.toList) := ⟨_, rfl⟩
              have HNY : Hid (hc = (ms.take (j + 1)).any (sameI bb)) := by show _ = _; rw [HNX.out, ← HB.out, hhc, HST.out]; rfl
              have hch : (S.toList == T.toList) = hc := hhc.symm
              clear hhc
              go_wp2_with fail
              refine region_read Try.mixed (by kernel_rfl) ?_
              repeat (first | go_big_quiet_skip | (go_big_quiet_want; go_big_quiet_op; go_big_quiet_on))
              refine wpQuiet_nil ?_
              go_wp2_with fail
              refine region_read Try.mixed (by kernel_rfl) ?_
              repeat (first | go_big_quiet_skip | (go_big_quiet_want; go_big_quiet_op; go_big_quiet_on))
              refine wpQuiet_nil ?_
              go_wp2_with fail
              go_roundw
              case rel => exact ⟨j + 1, hc, by omega, by go_num, rfl, HNY.out, HKQ.out.trans ((kp_drew _).trans (kp_drew _))⟩
              case measure => simp [intOf]; omega
          · have hjnn : ¬ (j : Int) < (n2 : Int) := by omega
            have hjn2 : j = n2 := by omega
            have HBF : Hid (hb = ms.any (sameI bb)) := by
              have h5 := HB.out
              rw [hjn2, HNM.out, List.take_length] at h5
              exact h5
            have HP4 := hide (HP3.out.kept HKQ.out)
            have HH := hide (nb_has HP4.out.q (HSb.out wr HP4.out.q.kp) HBb.out hb HBF.out)
            clear hjn2 HB
            go_wp2_with (go_at_call 19; refine HH.out.mono ?_; rintro e w5 ⟨rfl, K5, -⟩; clear HH; have HP5 := hide (HP4.out.kept K5); clear K5)
            go_roundw
            case rel => exact ⟨k + 1, ms, by omega, by omega, by go_num, HP5.out⟩
            case measure => simp [intOf]; omega
    · have hgo' : (¬ (k : Int) < (L : Int)) ∨ ((k : Int) < (L : Int) ∧ ¬ (k : Int) < 60) := by omega
      clear hgo
      rcases hgo' with hgo | ⟨hgo, hgo2⟩
      all_goals
        go_wp2_with fail
        go_ret
        exact ⟨rfl, HP.out.q.kp⟩
end Go.Proofs.Ytfepkcjelecpkaa
