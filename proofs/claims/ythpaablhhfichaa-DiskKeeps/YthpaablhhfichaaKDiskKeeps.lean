/-
  DiskKeeps: what was synced is there behind any crash, and of what was appended since just a beginning.
-/
import Derived.Test.YthpaablhhfichaaKDLoop
import Derived.ShutString
import Derived.ChangeOld
import Derived.Below
namespace Go.Proofs.Ythpaablhhfichaa.diskKeeps
open Go.ChangeShapes Go.WideShapes Go.ChangeAt Go.RowKit
open Go.Proofs.Ythpaablhhfichaa
set_option linter.unusedVariables false

theorem own : ownKnob Try.prog.godebug = none := by kernel_rfl
theorem laidOut : laidOutB Try.prog = true := by kernel_rfl
set_option maxHeartbeats 8000000 in
set_option maxRecDepth 100000 in
theorem walk (v0 : Value) (l0 : List (Value × List Int)) (v1 : Value) (l1 : List (Value × List Int)) (keep : Int) (w : World) (s0 : Lists w v0 l0) (s1 : Lists w v1 l1) (hkp : -9223372036854775808 ≤ keep ∧ keep ≤ 9223372036854775807) :
    Calls Try.prog 5 #[v0, v1, .int .i64 keep] w fun e w' => e = .returned (.bool true) ∧ Below w.heap.size w w' := by
  have hN := hide (nw_new 1048576 w (by omega) (by omega))
  have HS0 := hide s0
  have HS1 := hide s1
  clear s0 s1
  go_enter Try.func5, Try.ntmps5
  go_wp2_with (first
    | (go_at_call 9; refine hN.out.mono ?_; rintro e w1 ⟨p, rfl, N1⟩; clear hN; have HN1 := hide N1; clear N1)
    | (go_at_call 13; refine (few0_any v0 l0 20 40 w w1 HS0.out HN1.out.kp (by omega)).mono ?_; rintro e w2 ⟨o, rfl, F2⟩; obtain ⟨la, hla, hea, La⟩ := F2.lists HS0.out.bs (by omega); have k12 : Kp [] w1 w2 := F2.choose_spec.2.2.1; have N2 := HN1.out.on k12; obtain ⟨ol, oc, ho, -⟩ := La [] w2 (by simp) (Kp.refl _ _) N2.kp; have LB : Hid (∀ wr, Kp (dfp p (.slice none 0 0)) w2 wr → Kp [] w wr → Lists wr o la) := (fun wr kr k0 => La (dfp p (.slice none 0 0)) wr (HN1.out.dk.lt) kr k0); have LS := hide (cat_small la l0 _ 40 hea); have hll : (la.length : Int) ≤ 20 := (by omega); have HN2 := hide N2; obtain ⟨K, hK⟩ : ∃ K, K = la.length := ⟨_, rfl⟩; rw [← hK] at hll ho; have HKK := hide hK; subst ho; clear F2 La N2 HN1 k12 hla hea hK))
  go_loopw [9, 29] (fun x i wr => ∃ (k m c : Nat) (ao : Option Addr) (v : Value), k ≤ K ∧ x = .slice ao m c ∧ i = .int .i64 k ∧ Lp w w2 (.slice none 0 0) p wr v ⟨cat (la.take k), 0, 1048576, 0, false⟩ x (cat (la.take k))) (fun _ i _ => K - (intOf i).toNat)
  case atStart => exact ⟨0, 0, 0, none, .slice none 0 0, Nat.zero_le _, rfl, rfl, Lp.start HN2.out⟩
  case round =>
    obtain ⟨k, m, c, ao, v, hk, rfl, rfl, LP⟩ := hrel
    have HLP := hide LP
    clear LP
    by_cases hlt : k < K
    · have hlt2 : (k : Int) < (K : Int) := by omega
      obtain ⟨ao', c', e', -, hcell⟩ := LB.out wr HLP.out.st HLP.out.nw.kp
      injection e' with e1 e2 e3
      subst e1
      obtain ⟨b, off, rfl, hc, hS, hB⟩ := hcell k (by rw [← HKK.out]; exact hlt)
      have hxl := LS.out (la[k]'(by rw [← HKK.out]; exact hlt)) (List.getElem_mem _)
      have hE := cat_take la k (by rw [← HKK.out]; exact hlt)
      have hcl : (cat (la.take k)).length ≤ 20 * 40 := by
        have e1 := cat_len (la.take k) 40 (fun x hx => LS.out x (List.mem_of_mem_take hx))
        have e2 : (la.take k).length ≤ 20 := by simp; omega
        exact Nat.le_trans e1 (Nat.mul_le_mul_right _ e2)
      obtain ⟨x, hx⟩ : ∃ x, x = la[k]'(by rw [← HKK.out]; exact hlt) := ⟨_, rfl⟩
      rw [← hx] at hc hS hxl hE hB
      obtain ⟨P, hP⟩ : ∃ P, P = cat (la.take k) := ⟨_, rfl⟩
      obtain ⟨Q, hQ⟩ : ∃ Q, Q = cat (la.take (k + 1)) := ⟨_, rfl⟩
      rw [← hQ, ← hP] at hE
      have HQ := hide hQ
      rw [← hP] at hcl HLP
      have happ : Dk.app ⟨P, 0, 1048576, 0, false⟩ x.2 = (true, ⟨Q, 0, 1048576, 0, false⟩) := by
        rw [Dk.app_plain rfl (Int.le_refl 0) _ (by show ((P.length + x.2.length : Nat) : Int) ≤ 1048576; omega), hE]
      have HA := hide (nw_append HLP.out.nw hS hB true happ 0 rfl)
      have HSx : Hid (∀ wr, Kp (dfp p (.slice none 0 0)) w2 wr → Kp [] w wr → Sl wr x.1 x.2) := fun wr kr k0 => by
        obtain ⟨_, _, _, _, hcell⟩ := LB.out wr kr k0
        obtain ⟨_, _, _, _, hS, _⟩ := hcell k (by rw [← HKK.out]; exact hlt)
        rw [hx]; exact hS
      obtain ⟨ax, cx, hxv⟩ : ∃ ax cx, x.1 = .slice ax x.2.length cx := by obtain ⟨ax, cx, e, _⟩ := hS; exact ⟨ax, cx, e⟩
      obtain ⟨nx, hnx⟩ : ∃ nx, nx = x.2.length := ⟨_, rfl⟩
      rw [← hnx] at hxv
      rw [hxv] at hc HA HSx
      have HE := hide hE
      have HXL : Hid (P.length + x.2.length ≤ 140737488355328) := by show _ ≤ _; omega
      clear hE hx hS hB hcell hxv hnx hP hQ hcl hxl happ e2 e3
      go_wp2_with (first
        | (go_at_call 14; refine HA.out.mono ?_; rintro e w3 ⟨rfl, v3, N3, T3⟩; clear HA; have L3 := hide (HLP.out.disk N3 T3); have S3 := hide (HSx.out w3 L3.out.st N3.kp); clear N3 T3 HLP)
        | (at_builtin; refine wpList_append_row rfl (.tmp 37) (.tmp 38) rfl w2.heap.size _ _ rfl L3.out.row _ x.2 rfl S3.out HXL.out L3.out.st.size ?_; intro ao4 m4 c4 w4 r4 s4; have L4 := hide (L3.out.more (by rw [← HE.out] at r4; exact r4) s4 HN2.out.kp.size); clear r4 s4))
      go_roundw
      case rel => exact ⟨k + 1, m4, c4, ao4, v3, by omega, rfl, by go_num, by rw [← HQ.out]; exact L4.out⟩
      case measure => simp [intOf]; omega
    · obtain rfl : K = k := by omega
      have hX : la.take K = la := by rw [HKK.out]; exact List.take_length
      rw [hX] at HLP
      obtain ⟨X, hXX⟩ : ∃ X, X = cat la := ⟨_, rfl⟩
      have hXl : X.length ≤ 20 * 40 := by
        have e1 := cat_len la 40 LS.out
        rw [← HKK.out] at e1
        rw [hXX]
        exact Nat.le_trans e1 (Nat.mul_le_mul_right _ (by omega))
      rw [← hXX] at HLP
      have hXB : Hid (Bs X) := HLP.out.nw.dk.fit.bytes
      have HSY := hide (nw_sync HLP.out.nw true (d' := ⟨X, X.length, 1048576, 0, false⟩) (Dk.sync_plain rfl (Int.le_refl 0)) 0 rfl)
      have HXL := hide hXl
      have hm := HLP.out.row.len
      obtain ⟨k, hk'⟩ : ∃ k, k = m := ⟨_, rfl⟩
      rw [← hk'] at HLP ⊢
      have HMX : Hid (k = X.length) := by show _ = _; omega
      clear hX hXX hXl hm hk' hlt hk
      go_wp2_with (first
        | (go_at_call 15; refine HSY.out.mono ?_; rintro e w3 ⟨rfl, N3, T3⟩; clear HSY; have L3 := hide (HLP.out.disk N3 T3); clear N3 T3 HLP)
        | (go_at_call 13; refine (few0_any v1 l1 20 40 w w3 HS1.out L3.out.nw.kp (by omega)).mono ?_; rintro e w4 ⟨o, rfl, F4⟩; obtain ⟨lb, hlb, heb, Lb⟩ := F4.lists HS1.out.bs (by omega); have k34 : Kp [] w3 w4 := F4.choose_spec.2.2.1; have L4 := hide (L3.out.on k34); obtain ⟨ol4, oc4, ho, -⟩ := Lb [] w4 (by simp) (Kp.refl _ _) L4.out.nw.kp; have LB4 : Hid (∀ wr, Kp (dfp p v) w4 wr → Kp [] w wr → Lists wr o lb) := (fun wr kr k0 => Lb (dfp p v) wr (L3.out.nw.dk.lt) kr k0); have LS4 := hide (cat_small lb l1 _ 40 heb); have hll4 : (lb.length : Int) ≤ 20 := (by omega); obtain ⟨K4, hK4⟩ : ∃ K, K = lb.length := ⟨_, rfl⟩; rw [← hK4] at hll4 ho; have HKK4 := hide hK4; have HX : Hid (∀ wr, Kp (dfp p v) w4 wr → Sl wr (.slice ao k c) X) := (fun wr kr => L4.out.row.sl.kept kr L4.out.dj); subst ho; clear F4 Lb k34 hlb heb hK4 L3))
      go_loopw [10, 47] (fun y i wr => ∃ (k m5 c5 : Nat) (a5 : Option Addr) (v5 : Value), k ≤ K4 ∧ y = .slice a5 m5 c5 ∧ i = .int .i64 k ∧ Lp w w4 v p wr v5 ⟨X ++ cat (lb.take k), X.length, 1048576, 0, false⟩ y (cat (lb.take k))) (fun _ i _ => K4 - (intOf i).toNat)
      case atStart => exact ⟨0, 0, 0, none, v, Nat.zero_le _, rfl, rfl, by have := Lp.start L4.out.nw; simpa [cat] using this⟩
      case round =>
        obtain ⟨i5, m5, c5, a5, v5, hk5, rfl, rfl, LP5⟩ := hrel
        have HLP := hide LP5
        clear LP5
        by_cases hlt : i5 < K4
        · have hlt2 : (i5 : Int) < (K4 : Int) := by omega
          obtain ⟨ao', c', e', -, hcell⟩ := LB4.out wr HLP.out.st HLP.out.nw.kp
          injection e' with e1 e2 e3
          subst e1
          obtain ⟨b, off, rfl, hc, hS, hB⟩ := hcell i5 (by rw [← HKK4.out]; exact hlt)
          have hxl := LS4.out (lb[i5]'(by rw [← HKK4.out]; exact hlt)) (List.getElem_mem _)
          have hE := cat_take lb i5 (by rw [← HKK4.out]; exact hlt)
          have hcl : (cat (lb.take i5)).length ≤ 20 * 40 := by
            have e1 := cat_len (lb.take i5) 40 (fun x hx => LS4.out x (List.mem_of_mem_take hx))
            have e2 : (lb.take i5).length ≤ 20 := by simp; omega
            exact Nat.le_trans e1 (Nat.mul_le_mul_right _ e2)
          obtain ⟨x, hx⟩ : ∃ x, x = lb[i5]'(by rw [← HKK4.out]; exact hlt) := ⟨_, rfl⟩
          rw [← hx] at hc hS hxl hE hB
          obtain ⟨P, hP⟩ : ∃ P, P = cat (lb.take i5) := ⟨_, rfl⟩
          obtain ⟨Q, hQ⟩ : ∃ Q, Q = cat (lb.take (i5 + 1)) := ⟨_, rfl⟩
          rw [← hQ, ← hP] at hE
          have HQ := hide hQ
          rw [← hP] at hcl HLP
          have happ : Dk.app ⟨X ++ P, X.length, 1048576, 0, false⟩ x.2 = (true, ⟨X ++ Q, X.length, 1048576, 0, false⟩) := by
            rw [Dk.app_plain rfl (Int.le_refl 0) _ (by have := HXL.out; show (((X ++ P).length + x.2.length : Nat) : Int) ≤ 1048576; rw [List.length_append]; omega), hE]
            simp [List.append_assoc]
          have HA := hide (nw_append HLP.out.nw hS hB true happ 0 rfl)
          have HSx : Hid (∀ wr, Kp (dfp p v) w4 wr → Kp [] w wr → Sl wr x.1 x.2) := fun wr kr k0 => by
            obtain ⟨_, _, _, _, hcell⟩ := LB4.out wr kr k0
            obtain ⟨_, _, _, _, hS, _⟩ := hcell i5 (by rw [← HKK4.out]; exact hlt)
            rw [hx]; exact hS
          obtain ⟨ax, cx, hxv⟩ : ∃ ax cx, x.1 = .slice ax x.2.length cx := by obtain ⟨ax, cx, e, _⟩ := hS; exact ⟨ax, cx, e⟩
          obtain ⟨nx, hnx⟩ : ∃ nx, nx = x.2.length := ⟨_, rfl⟩
          rw [← hnx] at hxv
          rw [hxv] at hc HA HSx
          have HE := hide hE
          have HPL : Hid (P.length + x.2.length ≤ 140737488355328) := by show _ ≤ _; omega
          clear hE hx hS hB hcell hxv hnx hP hQ hcl hxl happ e2 e3
          go_wp2_with (first
            | (go_at_call 14; refine HA.out.mono ?_; rintro e w5 ⟨rfl, v6, N5, T5⟩; clear HA; have L5 := hide (HLP.out.disk N5 T5); have S5 := hide (HSx.out w5 L5.out.st N5.kp); clear N5 T5 HLP)
            | (at_builtin; refine wpList_append_row rfl (.tmp 55) (.tmp 56) rfl w4.heap.size _ _ rfl L5.out.row _ x.2 rfl S5.out HPL.out L5.out.st.size ?_; intro ao6 m6 c6 w6 r6 s6; have L6 := hide (L5.out.more (by rw [← HE.out] at r6; exact r6) s6 L4.out.nw.kp.size); clear r6 s6))
          go_roundw
          case rel => exact ⟨i5 + 1, m6, c6, ao6, v6, by omega, rfl, by go_num, by rw [← HQ.out]; exact L6.out⟩
          case measure => simp [intOf]; omega
        · obtain rfl : K4 = i5 := by omega
          have hX : lb.take K4 = lb := by rw [HKK4.out]; exact List.take_length
          rw [hX] at HLP
          obtain ⟨Y, hYY⟩ : ∃ Y, Y = cat lb := ⟨_, rfl⟩
          have hYl : Y.length ≤ 20 * 40 := by
            have e1 := cat_len lb 40 LS4.out
            rw [← HKK4.out] at e1
            rw [hYY]
            exact Nat.le_trans e1 (Nat.mul_le_mul_right _ (by omega))
          rw [← hYY] at HLP
          have hm5 := HLP.out.row.len
          obtain ⟨j, hj⟩ : ∃ j, j = min keep.toNat Y.length := ⟨_, rfl⟩
          obtain ⟨C, hC⟩ : ∃ C, C = Y.take j := ⟨_, rfl⟩
          obtain ⟨XC, hXC⟩ : ∃ XC, XC = X ++ C := ⟨_, rfl⟩
          obtain ⟨q, hq⟩ : ∃ q, q = X.length + j := ⟨_, rfl⟩
          have hCl : C.length = j := by rw [hC]; simp; omega
          have hXCl : XC.length = q := by rw [hXC, List.length_append, hCl, hq]
          have HCR : Hid (Dk.crash ⟨X ++ Y, X.length, 1048576, 0, false⟩ keep = ⟨XC, q, 1048576, 0, false⟩) := by
            show _ = _
            have hl : Dk.left ⟨X ++ Y, X.length, 1048576, 0, false⟩ keep = q := by
              show X.length + min keep.toNat ((X ++ Y).length - X.length) = q
              rw [List.length_append]; omega
            unfold Dk.crash
            rw [hl]
            show (⟨(X ++ Y).take q, min q (X ++ Y).length, 1048576, 0, false⟩ : Dk) = _
            rw [show min q (X ++ Y).length = q from by rw [List.length_append]; omega, hq, List.take_length_add_append, ← hC, ← hXC]
          have HCR2 : Hid (Dk.crash ⟨XC, q, 1048576, 0, false⟩ 0 = ⟨XC, q, 1048576, 0, false⟩) := by
            show _ = _
            have hl : Dk.left ⟨XC, q, 1048576, 0, false⟩ 0 = q := by show q + min (0 : Int).toNat (XC.length - q) = q; omega
            unfold Dk.crash
            rw [hl]
            show (⟨XC.take q, min q XC.length, 1048576, 0, false⟩ : Dk) = _
            rw [List.take_of_length_le (by omega), show min q XC.length = q from by omega]
          have HC7 := hide (nw_crash HLP.out.nw keep HCR.out)
          obtain ⟨SX, hSX⟩ : ∃ S, S = strOfNums X := ⟨_, rfl⟩
          obtain ⟨SC, hSC⟩ : ∃ S, S = strOfNums C := ⟨_, rfl⟩
          obtain ⟨T, hT⟩ : ∃ S, S = strOfNums XC := ⟨_, rfl⟩
          have HCAT : Hid (SX ++ SC = T) := by show _ = _; rw [hSX, hSC, hT, str_app, hXC]
          have HSZ : Hid (¬ 9223372036854775807 < SX.size + SC.size) := by
            have := HXL.out
            show ¬ _
            rw [hSX, hSC, str_size, str_size]; omega
          have HTX := hide hSX
          have HTC := hide hSC
          have HTT := hide hT
          have HQK : Hid (q = k + j) := by have := HMX.out; show _ = _; omega
          have HJY : Hid (j ≤ Y.length) := by show _ ≤ _; omega
          have HCC := hide hC
          have hYm : (m5 : Int) ≤ 800 := by omega
          have h3 : (keep < 0 ∧ j = 0) ∨ (¬ keep < 0 ∧ keep ≤ (m5 : Int) ∧ keep = (j : Int)) ∨ (¬ keep < 0 ∧ ¬ keep ≤ (m5 : Int) ∧ m5 = j) := by omega
          have H3 := hide h3
          clear hX hYY hYl hm5 hlt hk5 hj hC hXC hq hCl hXCl hSX hSC hT h3
          go_wp2_with (go_at_call 16; refine HC7.out.mono ?_; rintro e w7 ⟨rfl, v7, N7, T7⟩; clear HC7; have L7 := hide (HLP.out.disk N7 T7); refine Hid.out ?_; clear N7 T7 HLP)
          have HYC : Hid (∀ w', Kp [] w7 w' → Sl w' (.slice a5 j c5) C) := fun w' k' => by
            have := L7.out.row.sl.take j HJY.out
            rw [← HCC.out] at this
            exact this.kept k' (by simp)
          have hroom := L7.out.row.room
          have hsk : j ≤ c5 := by have := HJY.out; have := L7.out.row.len; omega
          have hnn := hroom.2
          clear hroom
          have hq3 := HQK.out
          have hqi : (q : Int) = (k : Int) + (j : Int) := by omega
          have hqb : (q : Int) ≤ 10000 := by have := HXL.out; have := HMX.out; have := HJY.out; have := L7.out.row.len; omega
          clear hq3
          refine hide ?_
          rcases H3.out with ⟨h3, hj⟩ | ⟨h3, h4, hj⟩ | ⟨h3, h4, hj⟩
          · subst hj
            go_wp2_with fail
            have HD : Hid (∀ w', Kp [] w7.drew w' → DskP w' w.heap.size p v7 ⟨XC, q, 1048576, 0, false⟩) := fun w' k' => L7.out.nw.dk.keptN ((kp_drew w7).trans k')
            have HZX : Hid (∀ w', Kp [] w7.drew w' → Sl w' (.slice ao k c) X) := fun w' k' => HX.out w' (L7.out.st.trans (((kp_drew w7).trans k').mono (by simp)))
            have HZY : Hid (∀ w', Kp [] w7.drew w' → Sl w' (.slice a5 0 c5) C) := fun w' k' => HYC.out w' ((kp_drew w7).trans k')
            refine region_grow Try.mixed [Is (.pointer (some ⟨p, 0, none⟩)), SlT (XC), Is (.string T), Is (.slice ao k c), Is (.string SX), Is (.slice a5 m5 c5), Is (.int .i64 0), Is (.slice a5 0 c5), Is (.string SC), Is (.string T), Is (.bool false), Is (.bool false), Is (.pointer (some ⟨p, 0, none⟩)), Is (.int .i64 q), Is (.slice ao k c), Is (.int .i64 k), Is (.int .i64 0), Is (.int .i64 q), Is (.bool false), Is (.bool false)] [[(7, none)], [(71, some 0)], [(72, some 1)], [(9, none)], [(74, some 3)], [(10, none)], [(15, none)], [(76, some 5), (77, some 6)], [(78, some 7)], [(75, some 4), (79, some 8)], [(73, some 2), (80, some 9)], [(81, some 10)], [(7, none), (82, some 11)], [(83, some 12), (82, some 11)], [(9, none), (82, some 11)], [(85, some 14), (82, some 11)], [(15, none), (82, some 11)], [(86, some 15), (87, some 16), (82, some 11)], [(84, some 13), (88, some 17), (82, some 11)], [(82, some 11), (89, some 18)]] (by kernel_rfl) ?_ ?_ ?_
            · simp only [List.mem_cons, List.not_mem_nil, or_false]
              intro R hR
              rcases hR with rfl | rfl | rfl | rfl | rfl | rfl | rfl | rfl | rfl | rfl | rfl | rfl | rfl | rfl | rfl | rfl | rfl | rfl | rfl | rfl <;> first | exact stable_is _ | exact stable_sl _
            · refine steps_cons (fun a w hk hn => ?_) ?_
              · have h7 : a.eval (.tmp 7) = .pointer (some ⟨p, 0, none⟩) := hn.1
                clear hn
                refine wants_plain rfl ?_
                exact grown_move (.tmp 7) rfl h7
              refine steps_cons (fun a w hk hn => ?_) ?_
              · have h71 : a.eval (.tmp 71) = .pointer (some ⟨p, 0, none⟩) := hn.1
                clear hn
                refine wants_plain rfl ?_
                refine grown_call (f := 17) rfl Try.func17 (by kernel_rfl) (by kernel_rfl) ?_
                simp only [List.map_toArray, List.map_cons, List.map_nil, h71]
                refine (dbytes_any p v7 _ _ w (unhide HD w hk)).mono ?_
                rintro e w' ⟨ao, m, c, rfl, R, K⟩
                exact ⟨_, rfl, K, R.sl⟩
              refine steps_cons (fun a w hk hn => ?_) ?_
              · have h72 : Sl w (a.eval (.tmp 72)) (XC) := hn.1
                clear hn
                refine wants_plain rfl ?_
                exact grown_conv (.tmp 72) _ _ 5 _ rfl h72 Try.underlying28 Try.underlying5 Try.underlying9 (congrArg Value.string (unhide HTT).symm)
              refine steps_cons (fun a w hk hn => ?_) ?_
              · have h9 : a.eval (.tmp 9) = .slice ao k c := hn.1
                clear hn
                refine wants_plain rfl ?_
                exact grown_move (.tmp 9) rfl h9
              refine steps_cons (fun a w hk hn => ?_) ?_
              · have h74 : a.eval (.tmp 74) = .slice ao k c := hn.1
                clear hn
                refine wants_plain rfl ?_
                exact grown_conv (.tmp 74) _ _ 5 (X) rfl (by rw [h74]; exact unhide HZX w hk) Try.underlying28 Try.underlying5 Try.underlying9 (congrArg Value.string (unhide HTX).symm)
              refine steps_cons (fun a w hk hn => ?_) ?_
              · have h10 : a.eval (.tmp 10) = .slice a5 m5 c5 := hn.1
                clear hn
                refine wants_plain rfl ?_
                exact grown_move (.tmp 10) rfl h10
              refine steps_cons (fun a w hk hn => ?_) ?_
              · have h15 : a.eval (.tmp 15) = .int .i64 0 := hn.1
                clear hn
                refine wants_plain rfl ?_
                exact grown_move (.tmp 15) rfl h15
              refine steps_cons (fun a w hk hn => ?_) ?_
              · have h76 : a.eval (.tmp 76) = .slice a5 m5 c5 := hn.1
                have h77 : a.eval (.tmp 77) = .int .i64 0 := hn.2.1
                clear hn
                refine wants_plain rfl ?_
                exact grown_bfirst (.tmp 76) (.tmp 77) rfl a5 _ c5 0 h76 h77 hsk hnn
              refine steps_cons (fun a w hk hn => ?_) ?_
              · have h78 : a.eval (.tmp 78) = .slice a5 0 c5 := hn.1
                clear hn
                refine wants_plain rfl ?_
                exact grown_conv (.tmp 78) _ _ 5 (C) rfl (by rw [h78]; exact unhide HZY w hk) Try.underlying28 Try.underlying5 Try.underlying9 (congrArg Value.string (unhide HTC).symm)
              refine steps_cons (fun a w hk hn => ?_) ?_
              · have h75 : a.eval (.tmp 75) = .string SX := hn.1
                have h79 : a.eval (.tmp 79) = .string SC := hn.2.1
                clear hn
                refine wants_plain rfl ?_
                refine grown_run (v := .string T) ?_ (Kp.refl _ _) rfl
                have hz := unhide HSZ
                have hca := unhide HCAT
                obtain ⟨ρ, hρ, hc, hf, hg⟩ := eval_is a
                rw [hρ] at h75 h79 ⊢
                simp [go_sem, h75, h79, hz, hca]
              refine steps_cons (fun a w hk hn => ?_) ?_
              · have h73 : a.eval (.tmp 73) = .string T := hn.1
                have h80 : a.eval (.tmp 80) = .string T := hn.2.1
                clear hn
                refine wants_plain rfl ?_
                refine grown_run (v := .bool false) ?_ (Kp.refl _ _) rfl
                obtain ⟨ρ, hρ, hc, hf, hg⟩ := eval_is a
                rw [hρ] at h73 h80 ⊢
                simp [go_sem, h73, h80]
              refine steps_cons (fun a w hk hn => ?_) ?_
              · have h81 : a.eval (.tmp 81) = .bool false := hn.1
                clear hn
                refine wants_plain rfl ?_
                exact grown_move (.tmp 81) rfl h81
              refine steps_cons (fun a w hk hn => ?_) ?_
              · have h7 : a.eval (.tmp 7) = .pointer (some ⟨p, 0, none⟩) := hn.1
                have h82 : a.eval (.tmp 82) = .bool false := hn.2.1
                clear hn
                refine wants_guard (d := 82) rfl rfl h82 ?_
                exact grown_move (.tmp 7) rfl h7
              refine steps_cons (fun a w hk hn => ?_) ?_
              · have h83 : a.eval (.tmp 83) = .pointer (some ⟨p, 0, none⟩) := hn.1
                have h82 : a.eval (.tmp 82) = .bool false := hn.2.1
                clear hn
                refine wants_guard (d := 82) rfl rfl h82 ?_
                refine grown_call (f := 18) rfl Try.func18 (by kernel_rfl) (by kernel_rfl) ?_
                simp only [List.map_toArray, List.map_cons, List.map_nil, h83]
                refine (synced_any p v7 _ _ w (unhide HD w hk)).mono ?_
                rintro e w' ⟨rfl, rfl⟩
                exact ⟨_, rfl, Kp.refl _ _, rfl⟩
              refine steps_cons (fun a w hk hn => ?_) ?_
              · have h9 : a.eval (.tmp 9) = .slice ao k c := hn.1
                have h82 : a.eval (.tmp 82) = .bool false := hn.2.1
                clear hn
                refine wants_guard (d := 82) rfl rfl h82 ?_
                exact grown_move (.tmp 9) rfl h9
              refine steps_cons (fun a w hk hn => ?_) ?_
              · have h85 : a.eval (.tmp 85) = .slice ao k c := hn.1
                have h82 : a.eval (.tmp 82) = .bool false := hn.2.1
                clear hn
                refine wants_guard (d := 82) rfl rfl h82 ?_
                refine grown_run (v := .int .i64 k) ?_ (Kp.refl _ _) rfl
                obtain ⟨ρ, hρ, hc, hf, hg⟩ := eval_is a
                rw [hρ] at h85 ⊢
                simp [go_sem, h85]
              refine steps_cons (fun a w hk hn => ?_) ?_
              · have h15 : a.eval (.tmp 15) = .int .i64 0 := hn.1
                have h82 : a.eval (.tmp 82) = .bool false := hn.2.1
                clear hn
                refine wants_guard (d := 82) rfl rfl h82 ?_
                exact grown_move (.tmp 15) rfl h15
              refine steps_cons (fun a w hk hn => ?_) ?_
              · have h86 : a.eval (.tmp 86) = .int .i64 k := hn.1
                have h87 : a.eval (.tmp 87) = .int .i64 0 := hn.2.1
                have h82 : a.eval (.tmp 82) = .bool false := hn.2.2.1
                clear hn
                refine wants_guard (d := 82) rfl rfl h82 ?_
                refine grown_run (v := .int .i64 q) ?_ (Kp.refl _ _) rfl
                obtain ⟨ρ, hρ, hc, hf, hg⟩ := eval_is a
                rw [hρ] at h86 h87 ⊢
                simp [go_sem, h86, h87]
                exact wrap_at (by omega) (by omega) (by omega)
              refine steps_cons (fun a w hk hn => ?_) ?_
              · have h84 : a.eval (.tmp 84) = .int .i64 q := hn.1
                have h88 : a.eval (.tmp 88) = .int .i64 q := hn.2.1
                have h82 : a.eval (.tmp 82) = .bool false := hn.2.2.1
                clear hn
                refine wants_guard (d := 82) rfl rfl h82 ?_
                refine grown_run (v := .bool false) ?_ (Kp.refl _ _) rfl
                obtain ⟨ρ, hρ, hc, hf, hg⟩ := eval_is a
                rw [hρ] at h84 h88 ⊢
                simp [go_sem, h84, h88]
              refine steps_cons (fun a w hk hn => ?_) ?_
              · have h82 : a.eval (.tmp 82) = .bool false := hn.1
                have h89 : a.eval (.tmp 89) = .bool false := hn.2.1
                clear hn
                refine wants_plain rfl ?_
                exact grown_pick _ _ _ false rfl h82 h89
              exact trivial
            intro W1 hkW1
            rintro _ rfl
            intro v72 h72
            rintro _ rfl
            rintro _ rfl
            rintro _ rfl
            rintro _ rfl
            rintro _ rfl
            rintro _ rfl
            rintro _ rfl
            rintro _ rfl
            rintro _ rfl
            rintro _ rfl
            rintro _ rfl
            rintro _ rfl
            rintro _ rfl
            rintro _ rfl
            rintro _ rfl
            rintro _ rfl
            rintro _ rfl
            rintro _ rfl
            refine fin_nil ?_
            simp only [Act.put, List.set_cons_zero, List.set_cons_succ, List.setIfInBounds_toArray]
            have L8 := hide (L7.out.on ((kp_drew w7).trans hkW1))
            have HC0 := hide (nw_crash L8.out.nw 0 HCR2.out)
            clear HD HZX HZY
            go_wp2_with (go_at_call 16; refine HC0.out.mono ?_; rintro e w9 ⟨rfl, v9, N9, T9⟩; clear HC0; have L9 := hide (L8.out.disk N9 T9); clear N9 T9)
            have HD : Hid (∀ w', Kp [] w9.drew w' → DskP w' w.heap.size p v9 ⟨XC, q, 1048576, 0, false⟩) := fun w' k' => L9.out.nw.dk.keptN ((kp_drew w9).trans k')
            have HZX : Hid (∀ w', Kp [] w9.drew w' → Sl w' (.slice ao k c) X) := fun w' k' => HX.out w' (L9.out.st.trans (((kp_drew w9).trans k').mono (by simp)))
            have HZY : Hid (∀ w', Kp [] w9.drew w' → Sl w' (.slice a5 0 c5) C) := fun w' k' => by
              have := L9.out.row.sl.take 0 (by have := HJY.out; omega)
              rw [← HCC.out] at this
              exact this.kept ((kp_drew w9).trans k') (by simp)
            refine region_grow Try.mixed [Is (.pointer (some ⟨p, 0, none⟩)), SlT (XC), Is (.string T), Is (.slice ao k c), Is (.string SX), Is (.slice a5 m5 c5), Is (.int .i64 0), Is (.slice a5 0 c5), Is (.string SC), Is (.string T), Is (.bool true), Is (.bool true), Is (.bool true), Is (.bool true), Is (.bool true)] [[(7, none)], [(93, some 0)], [(94, some 1)], [(9, none)], [(96, some 3)], [(10, none)], [(15, none)], [(98, some 5), (99, some 6)], [(100, some 7)], [(97, some 4), (101, some 8)], [(95, some 2), (102, some 9)], [(103, some 10)], [(104, some 11)], [(104, some 11), (105, some 12)], [(106, some 13)]] (by kernel_rfl) ?_ ?_ ?_
            · simp only [List.mem_cons, List.not_mem_nil, or_false]
              intro R hR
              rcases hR with rfl | rfl | rfl | rfl | rfl | rfl | rfl | rfl | rfl | rfl | rfl | rfl | rfl | rfl | rfl <;> first | exact stable_is _ | exact stable_sl _
            · refine steps_cons (fun a w hk hn => ?_) ?_
              · have h7 : a.eval (.tmp 7) = .pointer (some ⟨p, 0, none⟩) := hn.1
                clear hn
                refine wants_plain rfl ?_
                exact grown_move (.tmp 7) rfl h7
              refine steps_cons (fun a w hk hn => ?_) ?_
              · have h93 : a.eval (.tmp 93) = .pointer (some ⟨p, 0, none⟩) := hn.1
                clear hn
                refine wants_plain rfl ?_
                refine grown_call (f := 17) rfl Try.func17 (by kernel_rfl) (by kernel_rfl) ?_
                simp only [List.map_toArray, List.map_cons, List.map_nil, h93]
                refine (dbytes_any p v9 _ _ w (unhide HD w hk)).mono ?_
                rintro e w' ⟨ao, m, c, rfl, R, K⟩
                exact ⟨_, rfl, K, R.sl⟩
              refine steps_cons (fun a w hk hn => ?_) ?_
              · have h94 : Sl w (a.eval (.tmp 94)) (XC) := hn.1
                clear hn
                refine wants_plain rfl ?_
                exact grown_conv (.tmp 94) _ _ 5 _ rfl h94 Try.underlying28 Try.underlying5 Try.underlying9 (congrArg Value.string (unhide HTT).symm)
              refine steps_cons (fun a w hk hn => ?_) ?_
              · have h9 : a.eval (.tmp 9) = .slice ao k c := hn.1
                clear hn
                refine wants_plain rfl ?_
                exact grown_move (.tmp 9) rfl h9
              refine steps_cons (fun a w hk hn => ?_) ?_
              · have h96 : a.eval (.tmp 96) = .slice ao k c := hn.1
                clear hn
                refine wants_plain rfl ?_
                exact grown_conv (.tmp 96) _ _ 5 (X) rfl (by rw [h96]; exact unhide HZX w hk) Try.underlying28 Try.underlying5 Try.underlying9 (congrArg Value.string (unhide HTX).symm)
              refine steps_cons (fun a w hk hn => ?_) ?_
              · have h10 : a.eval (.tmp 10) = .slice a5 m5 c5 := hn.1
                clear hn
                refine wants_plain rfl ?_
                exact grown_move (.tmp 10) rfl h10
              refine steps_cons (fun a w hk hn => ?_) ?_
              · have h15 : a.eval (.tmp 15) = .int .i64 0 := hn.1
                clear hn
                refine wants_plain rfl ?_
                exact grown_move (.tmp 15) rfl h15
              refine steps_cons (fun a w hk hn => ?_) ?_
              · have h98 : a.eval (.tmp 98) = .slice a5 m5 c5 := hn.1
                have h99 : a.eval (.tmp 99) = .int .i64 0 := hn.2.1
                clear hn
                refine wants_plain rfl ?_
                exact grown_bfirst (.tmp 98) (.tmp 99) rfl a5 _ c5 0 h98 h99 hsk hnn
              refine steps_cons (fun a w hk hn => ?_) ?_
              · have h100 : a.eval (.tmp 100) = .slice a5 0 c5 := hn.1
                clear hn
                refine wants_plain rfl ?_
                exact grown_conv (.tmp 100) _ _ 5 (C) rfl (by rw [h100]; exact unhide HZY w hk) Try.underlying28 Try.underlying5 Try.underlying9 (congrArg Value.string (unhide HTC).symm)
              refine steps_cons (fun a w hk hn => ?_) ?_
              · have h97 : a.eval (.tmp 97) = .string SX := hn.1
                have h101 : a.eval (.tmp 101) = .string SC := hn.2.1
                clear hn
                refine wants_plain rfl ?_
                refine grown_run (v := .string T) ?_ (Kp.refl _ _) rfl
                have hz := unhide HSZ
                have hca := unhide HCAT
                obtain ⟨ρ, hρ, hc, hf, hg⟩ := eval_is a
                rw [hρ] at h97 h101 ⊢
                simp [go_sem, h97, h101, hz, hca]
              refine steps_cons (fun a w hk hn => ?_) ?_
              · have h95 : a.eval (.tmp 95) = .string T := hn.1
                have h102 : a.eval (.tmp 102) = .string T := hn.2.1
                clear hn
                refine wants_plain rfl ?_
                refine grown_run (v := .bool true) ?_ (Kp.refl _ _) rfl
                obtain ⟨ρ, hρ, hc, hf, hg⟩ := eval_is a
                rw [hρ] at h95 h102 ⊢
                simp [go_sem, h95, h102]
              refine steps_cons (fun a w hk hn => ?_) ?_
              · have h103 : a.eval (.tmp 103) = .bool true := hn.1
                clear hn
                refine wants_plain rfl ?_
                exact grown_move (.tmp 103) rfl h103
              refine steps_cons (fun a w hk hn => ?_) ?_
              · have h104 : a.eval (.tmp 104) = .bool true := hn.1
                clear hn
                refine wants_guard (d := 104) rfl rfl h104 ?_
                refine grown_call (f := 11) rfl Try.func11 (by kernel_rfl) (by kernel_rfl) ?_
                simp only [List.map_toArray, List.map_nil]
                refine (dknown_any w).mono ?_
                rintro e w' ⟨rfl, K⟩
                exact ⟨_, rfl, K, rfl⟩
              refine steps_cons (fun a w hk hn => ?_) ?_
              · have h104 : a.eval (.tmp 104) = .bool true := hn.1
                have h105 : a.eval (.tmp 105) = .bool true := hn.2.1
                clear hn
                refine wants_plain rfl ?_
                exact grown_pick _ _ _ true rfl h104 h105
              refine steps_cons (fun a w hk hn => ?_) ?_
              · have h106 : a.eval (.tmp 106) = .bool true := hn.1
                clear hn
                refine wants_plain rfl ?_
                exact grown_assign (.tmp 106) rfl h106
              exact trivial
            intro W2 hkW2
            rintro _ rfl
            intro v94 h94
            rintro _ rfl
            rintro _ rfl
            rintro _ rfl
            rintro _ rfl
            rintro _ rfl
            rintro _ rfl
            rintro _ rfl
            rintro _ rfl
            rintro _ rfl
            rintro _ rfl
            rintro _ rfl
            rintro _ rfl
            rintro _ rfl
            refine fin_nil ?_
            simp only [Act.put, List.set_cons_zero, List.set_cons_succ, List.setIfInBounds_toArray]
            go_wp2_with fail
            go_ret
            exact ⟨rfl, (L9.out.nw.kp.trans ((kp_drew w9).trans hkW2)).below (Nat.le_refl _) (by simp)⟩
          · subst hj
            go_wp2_with fail
            have HD : Hid (∀ w', Kp [] w7.drew w' → DskP w' w.heap.size p v7 ⟨XC, q, 1048576, 0, false⟩) := fun w' k' => L7.out.nw.dk.keptN ((kp_drew w7).trans k')
            have HZX : Hid (∀ w', Kp [] w7.drew w' → Sl w' (.slice ao k c) X) := fun w' k' => HX.out w' (L7.out.st.trans (((kp_drew w7).trans k').mono (by simp)))
            have HZY : Hid (∀ w', Kp [] w7.drew w' → Sl w' (.slice a5 j c5) C) := fun w' k' => HYC.out w' ((kp_drew w7).trans k')
            refine region_grow Try.mixed [Is (.pointer (some ⟨p, 0, none⟩)), SlT (XC), Is (.string T), Is (.slice ao k c), Is (.string SX), Is (.slice a5 m5 c5), Is (.int .i64 j), Is (.slice a5 j c5), Is (.string SC), Is (.string T), Is (.bool false), Is (.bool false), Is (.pointer (some ⟨p, 0, none⟩)), Is (.int .i64 q), Is (.slice ao k c), Is (.int .i64 k), Is (.int .i64 j), Is (.int .i64 q), Is (.bool false), Is (.bool false)] [[(7, none)], [(71, some 0)], [(72, some 1)], [(9, none)], [(74, some 3)], [(10, none)], [(15, none)], [(76, some 5), (77, some 6)], [(78, some 7)], [(75, some 4), (79, some 8)], [(73, some 2), (80, some 9)], [(81, some 10)], [(7, none), (82, some 11)], [(83, some 12), (82, some 11)], [(9, none), (82, some 11)], [(85, some 14), (82, some 11)], [(15, none), (82, some 11)], [(86, some 15), (87, some 16), (82, some 11)], [(84, some 13), (88, some 17), (82, some 11)], [(82, some 11), (89, some 18)]] (by kernel_rfl) ?_ ?_ ?_
            · simp only [List.mem_cons, List.not_mem_nil, or_false]
              intro R hR
              rcases hR with rfl | rfl | rfl | rfl | rfl | rfl | rfl | rfl | rfl | rfl | rfl | rfl | rfl | rfl | rfl | rfl | rfl | rfl | rfl | rfl <;> first | exact stable_is _ | exact stable_sl _
            · refine steps_cons (fun a w hk hn => ?_) ?_
              · have h7 : a.eval (.tmp 7) = .pointer (some ⟨p, 0, none⟩) := hn.1
                clear hn
                refine wants_plain rfl ?_
                exact grown_move (.tmp 7) rfl h7
              refine steps_cons (fun a w hk hn => ?_) ?_
              · have h71 : a.eval (.tmp 71) = .pointer (some ⟨p, 0, none⟩) := hn.1
                clear hn
                refine wants_plain rfl ?_
                refine grown_call (f := 17) rfl Try.func17 (by kernel_rfl) (by kernel_rfl) ?_
                simp only [List.map_toArray, List.map_cons, List.map_nil, h71]
                refine (dbytes_any p v7 _ _ w (unhide HD w hk)).mono ?_
                rintro e w' ⟨ao, m, c, rfl, R, K⟩
                exact ⟨_, rfl, K, R.sl⟩
              refine steps_cons (fun a w hk hn => ?_) ?_
              · have h72 : Sl w (a.eval (.tmp 72)) (XC) := hn.1
                clear hn
                refine wants_plain rfl ?_
                exact grown_conv (.tmp 72) _ _ 5 _ rfl h72 Try.underlying28 Try.underlying5 Try.underlying9 (congrArg Value.string (unhide HTT).symm)
              refine steps_cons (fun a w hk hn => ?_) ?_
              · have h9 : a.eval (.tmp 9) = .slice ao k c := hn.1
                clear hn
                refine wants_plain rfl ?_
                exact grown_move (.tmp 9) rfl h9
              refine steps_cons (fun a w hk hn => ?_) ?_
              · have h74 : a.eval (.tmp 74) = .slice ao k c := hn.1
                clear hn
                refine wants_plain rfl ?_
                exact grown_conv (.tmp 74) _ _ 5 (X) rfl (by rw [h74]; exact unhide HZX w hk) Try.underlying28 Try.underlying5 Try.underlying9 (congrArg Value.string (unhide HTX).symm)
              refine steps_cons (fun a w hk hn => ?_) ?_
              · have h10 : a.eval (.tmp 10) = .slice a5 m5 c5 := hn.1
                clear hn
                refine wants_plain rfl ?_
                exact grown_move (.tmp 10) rfl h10
              refine steps_cons (fun a w hk hn => ?_) ?_
              · have h15 : a.eval (.tmp 15) = .int .i64 j := hn.1
                clear hn
                refine wants_plain rfl ?_
                exact grown_move (.tmp 15) rfl h15
              refine steps_cons (fun a w hk hn => ?_) ?_
              · have h76 : a.eval (.tmp 76) = .slice a5 m5 c5 := hn.1
                have h77 : a.eval (.tmp 77) = .int .i64 j := hn.2.1
                clear hn
                refine wants_plain rfl ?_
                exact grown_bfirst (.tmp 76) (.tmp 77) rfl a5 _ c5 j h76 h77 hsk hnn
              refine steps_cons (fun a w hk hn => ?_) ?_
              · have h78 : a.eval (.tmp 78) = .slice a5 j c5 := hn.1
                clear hn
                refine wants_plain rfl ?_
                exact grown_conv (.tmp 78) _ _ 5 (C) rfl (by rw [h78]; exact unhide HZY w hk) Try.underlying28 Try.underlying5 Try.underlying9 (congrArg Value.string (unhide HTC).symm)
              refine steps_cons (fun a w hk hn => ?_) ?_
              · have h75 : a.eval (.tmp 75) = .string SX := hn.1
                have h79 : a.eval (.tmp 79) = .string SC := hn.2.1
                clear hn
                refine wants_plain rfl ?_
                refine grown_run (v := .string T) ?_ (Kp.refl _ _) rfl
                have hz := unhide HSZ
                have hca := unhide HCAT
                obtain ⟨ρ, hρ, hc, hf, hg⟩ := eval_is a
                rw [hρ] at h75 h79 ⊢
                simp [go_sem, h75, h79, hz, hca]
              refine steps_cons (fun a w hk hn => ?_) ?_
              · have h73 : a.eval (.tmp 73) = .string T := hn.1
                have h80 : a.eval (.tmp 80) = .string T := hn.2.1
                clear hn
                refine wants_plain rfl ?_
                refine grown_run (v := .bool false) ?_ (Kp.refl _ _) rfl
                obtain ⟨ρ, hρ, hc, hf, hg⟩ := eval_is a
                rw [hρ] at h73 h80 ⊢
                simp [go_sem, h73, h80]
              refine steps_cons (fun a w hk hn => ?_) ?_
              · have h81 : a.eval (.tmp 81) = .bool false := hn.1
                clear hn
                refine wants_plain rfl ?_
                exact grown_move (.tmp 81) rfl h81
              refine steps_cons (fun a w hk hn => ?_) ?_
              · have h7 : a.eval (.tmp 7) = .pointer (some ⟨p, 0, none⟩) := hn.1
                have h82 : a.eval (.tmp 82) = .bool false := hn.2.1
                clear hn
                refine wants_guard (d := 82) rfl rfl h82 ?_
                exact grown_move (.tmp 7) rfl h7
              refine steps_cons (fun a w hk hn => ?_) ?_
              · have h83 : a.eval (.tmp 83) = .pointer (some ⟨p, 0, none⟩) := hn.1
                have h82 : a.eval (.tmp 82) = .bool false := hn.2.1
                clear hn
                refine wants_guard (d := 82) rfl rfl h82 ?_
                refine grown_call (f := 18) rfl Try.func18 (by kernel_rfl) (by kernel_rfl) ?_
                simp only [List.map_toArray, List.map_cons, List.map_nil, h83]
                refine (synced_any p v7 _ _ w (unhide HD w hk)).mono ?_
                rintro e w' ⟨rfl, rfl⟩
                exact ⟨_, rfl, Kp.refl _ _, rfl⟩
              refine steps_cons (fun a w hk hn => ?_) ?_
              · have h9 : a.eval (.tmp 9) = .slice ao k c := hn.1
                have h82 : a.eval (.tmp 82) = .bool false := hn.2.1
                clear hn
                refine wants_guard (d := 82) rfl rfl h82 ?_
                exact grown_move (.tmp 9) rfl h9
              refine steps_cons (fun a w hk hn => ?_) ?_
              · have h85 : a.eval (.tmp 85) = .slice ao k c := hn.1
                have h82 : a.eval (.tmp 82) = .bool false := hn.2.1
                clear hn
                refine wants_guard (d := 82) rfl rfl h82 ?_
                refine grown_run (v := .int .i64 k) ?_ (Kp.refl _ _) rfl
                obtain ⟨ρ, hρ, hc, hf, hg⟩ := eval_is a
                rw [hρ] at h85 ⊢
                simp [go_sem, h85]
              refine steps_cons (fun a w hk hn => ?_) ?_
              · have h15 : a.eval (.tmp 15) = .int .i64 j := hn.1
                have h82 : a.eval (.tmp 82) = .bool false := hn.2.1
                clear hn
                refine wants_guard (d := 82) rfl rfl h82 ?_
                exact grown_move (.tmp 15) rfl h15
              refine steps_cons (fun a w hk hn => ?_) ?_
              · have h86 : a.eval (.tmp 86) = .int .i64 k := hn.1
                have h87 : a.eval (.tmp 87) = .int .i64 j := hn.2.1
                have h82 : a.eval (.tmp 82) = .bool false := hn.2.2.1
                clear hn
                refine wants_guard (d := 82) rfl rfl h82 ?_
                refine grown_run (v := .int .i64 q) ?_ (Kp.refl _ _) rfl
                obtain ⟨ρ, hρ, hc, hf, hg⟩ := eval_is a
                rw [hρ] at h86 h87 ⊢
                simp [go_sem, h86, h87]
                exact wrap_at (by omega) (by omega) (by omega)
              refine steps_cons (fun a w hk hn => ?_) ?_
              · have h84 : a.eval (.tmp 84) = .int .i64 q := hn.1
                have h88 : a.eval (.tmp 88) = .int .i64 q := hn.2.1
                have h82 : a.eval (.tmp 82) = .bool false := hn.2.2.1
                clear hn
                refine wants_guard (d := 82) rfl rfl h82 ?_
                refine grown_run (v := .bool false) ?_ (Kp.refl _ _) rfl
                obtain ⟨ρ, hρ, hc, hf, hg⟩ := eval_is a
                rw [hρ] at h84 h88 ⊢
                simp [go_sem, h84, h88]
              refine steps_cons (fun a w hk hn => ?_) ?_
              · have h82 : a.eval (.tmp 82) = .bool false := hn.1
                have h89 : a.eval (.tmp 89) = .bool false := hn.2.1
                clear hn
                refine wants_plain rfl ?_
                exact grown_pick _ _ _ false rfl h82 h89
              exact trivial
            intro W1 hkW1
            rintro _ rfl
            intro v72 h72
            rintro _ rfl
            rintro _ rfl
            rintro _ rfl
            rintro _ rfl
            rintro _ rfl
            rintro _ rfl
            rintro _ rfl
            rintro _ rfl
            rintro _ rfl
            rintro _ rfl
            rintro _ rfl
            rintro _ rfl
            rintro _ rfl
            rintro _ rfl
            rintro _ rfl
            rintro _ rfl
            rintro _ rfl
            rintro _ rfl
            refine fin_nil ?_
            simp only [Act.put, List.set_cons_zero, List.set_cons_succ, List.setIfInBounds_toArray]
            have L8 := hide (L7.out.on ((kp_drew w7).trans hkW1))
            have HC0 := hide (nw_crash L8.out.nw 0 HCR2.out)
            clear HD HZX HZY
            go_wp2_with (go_at_call 16; refine HC0.out.mono ?_; rintro e w9 ⟨rfl, v9, N9, T9⟩; clear HC0; have L9 := hide (L8.out.disk N9 T9); clear N9 T9)
            have HD : Hid (∀ w', Kp [] w9.drew w' → DskP w' w.heap.size p v9 ⟨XC, q, 1048576, 0, false⟩) := fun w' k' => L9.out.nw.dk.keptN ((kp_drew w9).trans k')
            have HZX : Hid (∀ w', Kp [] w9.drew w' → Sl w' (.slice ao k c) X) := fun w' k' => HX.out w' (L9.out.st.trans (((kp_drew w9).trans k').mono (by simp)))
            have HZY : Hid (∀ w', Kp [] w9.drew w' → Sl w' (.slice a5 j c5) C) := fun w' k' => by
              have := L9.out.row.sl.take j (by have := HJY.out; omega)
              rw [← HCC.out] at this
              exact this.kept ((kp_drew w9).trans k') (by simp)
            refine region_grow Try.mixed [Is (.pointer (some ⟨p, 0, none⟩)), SlT (XC), Is (.string T), Is (.slice ao k c), Is (.string SX), Is (.slice a5 m5 c5), Is (.int .i64 j), Is (.slice a5 j c5), Is (.string SC), Is (.string T), Is (.bool true), Is (.bool true), Is (.bool true), Is (.bool true), Is (.bool true)] [[(7, none)], [(93, some 0)], [(94, some 1)], [(9, none)], [(96, some 3)], [(10, none)], [(15, none)], [(98, some 5), (99, some 6)], [(100, some 7)], [(97, some 4), (101, some 8)], [(95, some 2), (102, some 9)], [(103, some 10)], [(104, some 11)], [(104, some 11), (105, some 12)], [(106, some 13)]] (by kernel_rfl) ?_ ?_ ?_
            · simp only [List.mem_cons, List.not_mem_nil, or_false]
              intro R hR
              rcases hR with rfl | rfl | rfl | rfl | rfl | rfl | rfl | rfl | rfl | rfl | rfl | rfl | rfl | rfl | rfl <;> first | exact stable_is _ | exact stable_sl _
            · refine steps_cons (fun a w hk hn => ?_) ?_
              · have h7 : a.eval (.tmp 7) = .pointer (some ⟨p, 0, none⟩) := hn.1
                clear hn
                refine wants_plain rfl ?_
                exact grown_move (.tmp 7) rfl h7
              refine steps_cons (fun a w hk hn => ?_) ?_
              · have h93 : a.eval (.tmp 93) = .pointer (some ⟨p, 0, none⟩) := hn.1
                clear hn
                refine wants_plain rfl ?_
                refine grown_call (f := 17) rfl Try.func17 (by kernel_rfl) (by kernel_rfl) ?_
                simp only [List.map_toArray, List.map_cons, List.map_nil, h93]
                refine (dbytes_any p v9 _ _ w (unhide HD w hk)).mono ?_
                rintro e w' ⟨ao, m, c, rfl, R, K⟩
                exact ⟨_, rfl, K, R.sl⟩
              refine steps_cons (fun a w hk hn => ?_) ?_
              · have h94 : Sl w (a.eval (.tmp 94)) (XC) := hn.1
                clear hn
                refine wants_plain rfl ?_
                exact grown_conv (.tmp 94) _ _ 5 _ rfl h94 Try.underlying28 Try.underlying5 Try.underlying9 (congrArg Value.string (unhide HTT).symm)
              refine steps_cons (fun a w hk hn => ?_) ?_
              · have h9 : a.eval (.tmp 9) = .slice ao k c := hn.1
                clear hn
                refine wants_plain rfl ?_
                exact grown_move (.tmp 9) rfl h9
              refine steps_cons (fun a w hk hn => ?_) ?_
              · have h96 : a.eval (.tmp 96) = .slice ao k c := hn.1
                clear hn
                refine wants_plain rfl ?_
                exact grown_conv (.tmp 96) _ _ 5 (X) rfl (by rw [h96]; exact unhide HZX w hk) Try.underlying28 Try.underlying5 Try.underlying9 (congrArg Value.string (unhide HTX).symm)
              refine steps_cons (fun a w hk hn => ?_) ?_
              · have h10 : a.eval (.tmp 10) = .slice a5 m5 c5 := hn.1
                clear hn
                refine wants_plain rfl ?_
                exact grown_move (.tmp 10) rfl h10
              refine steps_cons (fun a w hk hn => ?_) ?_
              · have h15 : a.eval (.tmp 15) = .int .i64 j := hn.1
                clear hn
                refine wants_plain rfl ?_
                exact grown_move (.tmp 15) rfl h15
              refine steps_cons (fun a w hk hn => ?_) ?_
              · have h98 : a.eval (.tmp 98) = .slice a5 m5 c5 := hn.1
                have h99 : a.eval (.tmp 99) = .int .i64 j := hn.2.1
                clear hn
                refine wants_plain rfl ?_
                exact grown_bfirst (.tmp 98) (.tmp 99) rfl a5 _ c5 j h98 h99 hsk hnn
              refine steps_cons (fun a w hk hn => ?_) ?_
              · have h100 : a.eval (.tmp 100) = .slice a5 j c5 := hn.1
                clear hn
                refine wants_plain rfl ?_
                exact grown_conv (.tmp 100) _ _ 5 (C) rfl (by rw [h100]; exact unhide HZY w hk) Try.underlying28 Try.underlying5 Try.underlying9 (congrArg Value.string (unhide HTC).symm)
              refine steps_cons (fun a w hk hn => ?_) ?_
              · have h97 : a.eval (.tmp 97) = .string SX := hn.1
                have h101 : a.eval (.tmp 101) = .string SC := hn.2.1
                clear hn
                refine wants_plain rfl ?_
                refine grown_run (v := .string T) ?_ (Kp.refl _ _) rfl
                have hz := unhide HSZ
                have hca := unhide HCAT
                obtain ⟨ρ, hρ, hc, hf, hg⟩ := eval_is a
                rw [hρ] at h97 h101 ⊢
                simp [go_sem, h97, h101, hz, hca]
              refine steps_cons (fun a w hk hn => ?_) ?_
              · have h95 : a.eval (.tmp 95) = .string T := hn.1
                have h102 : a.eval (.tmp 102) = .string T := hn.2.1
                clear hn
                refine wants_plain rfl ?_
                refine grown_run (v := .bool true) ?_ (Kp.refl _ _) rfl
                obtain ⟨ρ, hρ, hc, hf, hg⟩ := eval_is a
                rw [hρ] at h95 h102 ⊢
                simp [go_sem, h95, h102]
              refine steps_cons (fun a w hk hn => ?_) ?_
              · have h103 : a.eval (.tmp 103) = .bool true := hn.1
                clear hn
                refine wants_plain rfl ?_
                exact grown_move (.tmp 103) rfl h103
              refine steps_cons (fun a w hk hn => ?_) ?_
              · have h104 : a.eval (.tmp 104) = .bool true := hn.1
                clear hn
                refine wants_guard (d := 104) rfl rfl h104 ?_
                refine grown_call (f := 11) rfl Try.func11 (by kernel_rfl) (by kernel_rfl) ?_
                simp only [List.map_toArray, List.map_nil]
                refine (dknown_any w).mono ?_
                rintro e w' ⟨rfl, K⟩
                exact ⟨_, rfl, K, rfl⟩
              refine steps_cons (fun a w hk hn => ?_) ?_
              · have h104 : a.eval (.tmp 104) = .bool true := hn.1
                have h105 : a.eval (.tmp 105) = .bool true := hn.2.1
                clear hn
                refine wants_plain rfl ?_
                exact grown_pick _ _ _ true rfl h104 h105
              refine steps_cons (fun a w hk hn => ?_) ?_
              · have h106 : a.eval (.tmp 106) = .bool true := hn.1
                clear hn
                refine wants_plain rfl ?_
                exact grown_assign (.tmp 106) rfl h106
              exact trivial
            intro W2 hkW2
            rintro _ rfl
            intro v94 h94
            rintro _ rfl
            rintro _ rfl
            rintro _ rfl
            rintro _ rfl
            rintro _ rfl
            rintro _ rfl
            rintro _ rfl
            rintro _ rfl
            rintro _ rfl
            rintro _ rfl
            rintro _ rfl
            rintro _ rfl
            rintro _ rfl
            refine fin_nil ?_
            simp only [Act.put, List.set_cons_zero, List.set_cons_succ, List.setIfInBounds_toArray]
            go_wp2_with fail
            go_ret
            exact ⟨rfl, (L9.out.nw.kp.trans ((kp_drew w9).trans hkW2)).below (Nat.le_refl _) (by simp)⟩
          · subst hj
            go_wp2_with fail
            have HD : Hid (∀ w', Kp [] w7.drew w' → DskP w' w.heap.size p v7 ⟨XC, q, 1048576, 0, false⟩) := fun w' k' => L7.out.nw.dk.keptN ((kp_drew w7).trans k')
            have HZX : Hid (∀ w', Kp [] w7.drew w' → Sl w' (.slice ao k c) X) := fun w' k' => HX.out w' (L7.out.st.trans (((kp_drew w7).trans k').mono (by simp)))
            have HZY : Hid (∀ w', Kp [] w7.drew w' → Sl w' (.slice a5 m5 c5) C) := fun w' k' => HYC.out w' ((kp_drew w7).trans k')
            refine region_grow Try.mixed [Is (.pointer (some ⟨p, 0, none⟩)), SlT (XC), Is (.string T), Is (.slice ao k c), Is (.string SX), Is (.slice a5 m5 c5), Is (.int .i64 m5), Is (.slice a5 m5 c5), Is (.string SC), Is (.string T), Is (.bool false), Is (.bool false), Is (.pointer (some ⟨p, 0, none⟩)), Is (.int .i64 q), Is (.slice ao k c), Is (.int .i64 k), Is (.int .i64 m5), Is (.int .i64 q), Is (.bool false), Is (.bool false)] [[(7, none)], [(71, some 0)], [(72, some 1)], [(9, none)], [(74, some 3)], [(10, none)], [(15, none)], [(76, some 5), (77, some 6)], [(78, some 7)], [(75, some 4), (79, some 8)], [(73, some 2), (80, some 9)], [(81, some 10)], [(7, none), (82, some 11)], [(83, some 12), (82, some 11)], [(9, none), (82, some 11)], [(85, some 14), (82, some 11)], [(15, none), (82, some 11)], [(86, some 15), (87, some 16), (82, some 11)], [(84, some 13), (88, some 17), (82, some 11)], [(82, some 11), (89, some 18)]] (by kernel_rfl) ?_ ?_ ?_
            · simp only [List.mem_cons, List.not_mem_nil, or_false]
              intro R hR
              rcases hR with rfl | rfl | rfl | rfl | rfl | rfl | rfl | rfl | rfl | rfl | rfl | rfl | rfl | rfl | rfl | rfl | rfl | rfl | rfl | rfl <;> first | exact stable_is _ | exact stable_sl _
            · refine steps_cons (fun a w hk hn => ?_) ?_
              · have h7 : a.eval (.tmp 7) = .pointer (some ⟨p, 0, none⟩) := hn.1
                clear hn
                refine wants_plain rfl ?_
                exact grown_move (.tmp 7) rfl h7
              refine steps_cons (fun a w hk hn => ?_) ?_
              · have h71 : a.eval (.tmp 71) = .pointer (some ⟨p, 0, none⟩) := hn.1
                clear hn
                refine wants_plain rfl ?_
                refine grown_call (f := 17) rfl Try.func17 (by kernel_rfl) (by kernel_rfl) ?_
                simp only [List.map_toArray, List.map_cons, List.map_nil, h71]
                refine (dbytes_any p v7 _ _ w (unhide HD w hk)).mono ?_
                rintro e w' ⟨ao, m, c, rfl, R, K⟩
                exact ⟨_, rfl, K, R.sl⟩
              refine steps_cons (fun a w hk hn => ?_) ?_
              · have h72 : Sl w (a.eval (.tmp 72)) (XC) := hn.1
                clear hn
                refine wants_plain rfl ?_
                exact grown_conv (.tmp 72) _ _ 5 _ rfl h72 Try.underlying28 Try.underlying5 Try.underlying9 (congrArg Value.string (unhide HTT).symm)
              refine steps_cons (fun a w hk hn => ?_) ?_
              · have h9 : a.eval (.tmp 9) = .slice ao k c := hn.1
                clear hn
                refine wants_plain rfl ?_
                exact grown_move (.tmp 9) rfl h9
              refine steps_cons (fun a w hk hn => ?_) ?_
              · have h74 : a.eval (.tmp 74) = .slice ao k c := hn.1
                clear hn
                refine wants_plain rfl ?_
                exact grown_conv (.tmp 74) _ _ 5 (X) rfl (by rw [h74]; exact unhide HZX w hk) Try.underlying28 Try.underlying5 Try.underlying9 (congrArg Value.string (unhide HTX).symm)
              refine steps_cons (fun a w hk hn => ?_) ?_
              · have h10 : a.eval (.tmp 10) = .slice a5 m5 c5 := hn.1
                clear hn
                refine wants_plain rfl ?_
                exact grown_move (.tmp 10) rfl h10
              refine steps_cons (fun a w hk hn => ?_) ?_
              · have h15 : a.eval (.tmp 15) = .int .i64 m5 := hn.1
                clear hn
                refine wants_plain rfl ?_
                exact grown_move (.tmp 15) rfl h15
              refine steps_cons (fun a w hk hn => ?_) ?_
              · have h76 : a.eval (.tmp 76) = .slice a5 m5 c5 := hn.1
                have h77 : a.eval (.tmp 77) = .int .i64 m5 := hn.2.1
                clear hn
                refine wants_plain rfl ?_
                exact grown_bfirst (.tmp 76) (.tmp 77) rfl a5 _ c5 m5 h76 h77 hsk hnn
              refine steps_cons (fun a w hk hn => ?_) ?_
              · have h78 : a.eval (.tmp 78) = .slice a5 m5 c5 := hn.1
                clear hn
                refine wants_plain rfl ?_
                exact grown_conv (.tmp 78) _ _ 5 (C) rfl (by rw [h78]; exact unhide HZY w hk) Try.underlying28 Try.underlying5 Try.underlying9 (congrArg Value.string (unhide HTC).symm)
              refine steps_cons (fun a w hk hn => ?_) ?_
              · have h75 : a.eval (.tmp 75) = .string SX := hn.1
                have h79 : a.eval (.tmp 79) = .string SC := hn.2.1
                clear hn
                refine wants_plain rfl ?_
                refine grown_run (v := .string T) ?_ (Kp.refl _ _) rfl
                have hz := unhide HSZ
                have hca := unhide HCAT
                obtain ⟨ρ, hρ, hc, hf, hg⟩ := eval_is a
                rw [hρ] at h75 h79 ⊢
                simp [go_sem, h75, h79, hz, hca]
              refine steps_cons (fun a w hk hn => ?_) ?_
              · have h73 : a.eval (.tmp 73) = .string T := hn.1
                have h80 : a.eval (.tmp 80) = .string T := hn.2.1
                clear hn
                refine wants_plain rfl ?_
                refine grown_run (v := .bool false) ?_ (Kp.refl _ _) rfl
                obtain ⟨ρ, hρ, hc, hf, hg⟩ := eval_is a
                rw [hρ] at h73 h80 ⊢
                simp [go_sem, h73, h80]
              refine steps_cons (fun a w hk hn => ?_) ?_
              · have h81 : a.eval (.tmp 81) = .bool false := hn.1
                clear hn
                refine wants_plain rfl ?_
                exact grown_move (.tmp 81) rfl h81
              refine steps_cons (fun a w hk hn => ?_) ?_
              · have h7 : a.eval (.tmp 7) = .pointer (some ⟨p, 0, none⟩) := hn.1
                have h82 : a.eval (.tmp 82) = .bool false := hn.2.1
                clear hn
                refine wants_guard (d := 82) rfl rfl h82 ?_
                exact grown_move (.tmp 7) rfl h7
              refine steps_cons (fun a w hk hn => ?_) ?_
              · have h83 : a.eval (.tmp 83) = .pointer (some ⟨p, 0, none⟩) := hn.1
                have h82 : a.eval (.tmp 82) = .bool false := hn.2.1
                clear hn
                refine wants_guard (d := 82) rfl rfl h82 ?_
                refine grown_call (f := 18) rfl Try.func18 (by kernel_rfl) (by kernel_rfl) ?_
                simp only [List.map_toArray, List.map_cons, List.map_nil, h83]
                refine (synced_any p v7 _ _ w (unhide HD w hk)).mono ?_
                rintro e w' ⟨rfl, rfl⟩
                exact ⟨_, rfl, Kp.refl _ _, rfl⟩
              refine steps_cons (fun a w hk hn => ?_) ?_
              · have h9 : a.eval (.tmp 9) = .slice ao k c := hn.1
                have h82 : a.eval (.tmp 82) = .bool false := hn.2.1
                clear hn
                refine wants_guard (d := 82) rfl rfl h82 ?_
                exact grown_move (.tmp 9) rfl h9
              refine steps_cons (fun a w hk hn => ?_) ?_
              · have h85 : a.eval (.tmp 85) = .slice ao k c := hn.1
                have h82 : a.eval (.tmp 82) = .bool false := hn.2.1
                clear hn
                refine wants_guard (d := 82) rfl rfl h82 ?_
                refine grown_run (v := .int .i64 k) ?_ (Kp.refl _ _) rfl
                obtain ⟨ρ, hρ, hc, hf, hg⟩ := eval_is a
                rw [hρ] at h85 ⊢
                simp [go_sem, h85]
              refine steps_cons (fun a w hk hn => ?_) ?_
              · have h15 : a.eval (.tmp 15) = .int .i64 m5 := hn.1
                have h82 : a.eval (.tmp 82) = .bool false := hn.2.1
                clear hn
                refine wants_guard (d := 82) rfl rfl h82 ?_
                exact grown_move (.tmp 15) rfl h15
              refine steps_cons (fun a w hk hn => ?_) ?_
              · have h86 : a.eval (.tmp 86) = .int .i64 k := hn.1
                have h87 : a.eval (.tmp 87) = .int .i64 m5 := hn.2.1
                have h82 : a.eval (.tmp 82) = .bool false := hn.2.2.1
                clear hn
                refine wants_guard (d := 82) rfl rfl h82 ?_
                refine grown_run (v := .int .i64 q) ?_ (Kp.refl _ _) rfl
                obtain ⟨ρ, hρ, hc, hf, hg⟩ := eval_is a
                rw [hρ] at h86 h87 ⊢
                simp [go_sem, h86, h87]
                exact wrap_at (by omega) (by omega) (by omega)
              refine steps_cons (fun a w hk hn => ?_) ?_
              · have h84 : a.eval (.tmp 84) = .int .i64 q := hn.1
                have h88 : a.eval (.tmp 88) = .int .i64 q := hn.2.1
                have h82 : a.eval (.tmp 82) = .bool false := hn.2.2.1
                clear hn
                refine wants_guard (d := 82) rfl rfl h82 ?_
                refine grown_run (v := .bool false) ?_ (Kp.refl _ _) rfl
                obtain ⟨ρ, hρ, hc, hf, hg⟩ := eval_is a
                rw [hρ] at h84 h88 ⊢
                simp [go_sem, h84, h88]
              refine steps_cons (fun a w hk hn => ?_) ?_
              · have h82 : a.eval (.tmp 82) = .bool false := hn.1
                have h89 : a.eval (.tmp 89) = .bool false := hn.2.1
                clear hn
                refine wants_plain rfl ?_
                exact grown_pick _ _ _ false rfl h82 h89
              exact trivial
            intro W1 hkW1
            rintro _ rfl
            intro v72 h72
            rintro _ rfl
            rintro _ rfl
            rintro _ rfl
            rintro _ rfl
            rintro _ rfl
            rintro _ rfl
            rintro _ rfl
            rintro _ rfl
            rintro _ rfl
            rintro _ rfl
            rintro _ rfl
            rintro _ rfl
            rintro _ rfl
            rintro _ rfl
            rintro _ rfl
            rintro _ rfl
            rintro _ rfl
            rintro _ rfl
            refine fin_nil ?_
            simp only [Act.put, List.set_cons_zero, List.set_cons_succ, List.setIfInBounds_toArray]
            have L8 := hide (L7.out.on ((kp_drew w7).trans hkW1))
            have HC0 := hide (nw_crash L8.out.nw 0 HCR2.out)
            clear HD HZX HZY
            go_wp2_with (go_at_call 16; refine HC0.out.mono ?_; rintro e w9 ⟨rfl, v9, N9, T9⟩; clear HC0; have L9 := hide (L8.out.disk N9 T9); clear N9 T9)
            have HD : Hid (∀ w', Kp [] w9.drew w' → DskP w' w.heap.size p v9 ⟨XC, q, 1048576, 0, false⟩) := fun w' k' => L9.out.nw.dk.keptN ((kp_drew w9).trans k')
            have HZX : Hid (∀ w', Kp [] w9.drew w' → Sl w' (.slice ao k c) X) := fun w' k' => HX.out w' (L9.out.st.trans (((kp_drew w9).trans k').mono (by simp)))
            have HZY : Hid (∀ w', Kp [] w9.drew w' → Sl w' (.slice a5 m5 c5) C) := fun w' k' => by
              have := L9.out.row.sl.take m5 (by have := HJY.out; omega)
              rw [← HCC.out] at this
              exact this.kept ((kp_drew w9).trans k') (by simp)
            refine region_grow Try.mixed [Is (.pointer (some ⟨p, 0, none⟩)), SlT (XC), Is (.string T), Is (.slice ao k c), Is (.string SX), Is (.slice a5 m5 c5), Is (.int .i64 m5), Is (.slice a5 m5 c5), Is (.string SC), Is (.string T), Is (.bool true), Is (.bool true), Is (.bool true), Is (.bool true), Is (.bool true)] [[(7, none)], [(93, some 0)], [(94, some 1)], [(9, none)], [(96, some 3)], [(10, none)], [(15, none)], [(98, some 5), (99, some 6)], [(100, some 7)], [(97, some 4), (101, some 8)], [(95, some 2), (102, some 9)], [(103, some 10)], [(104, some 11)], [(104, some 11), (105, some 12)], [(106, some 13)]] (by kernel_rfl) ?_ ?_ ?_
            · simp only [List.mem_cons, List.not_mem_nil, or_false]
              intro R hR
              rcases hR with rfl | rfl | rfl | rfl | rfl | rfl | rfl | rfl | rfl | rfl | rfl | rfl | rfl | rfl | rfl <;> first | exact stable_is _ | exact stable_sl _
            · refine steps_cons (fun a w hk hn => ?_) ?_
              · have h7 : a.eval (.tmp 7) = .pointer (some ⟨p, 0, none⟩) := hn.1
                clear hn
                refine wants_plain rfl ?_
                exact grown_move (.tmp 7) rfl h7
              refine steps_cons (fun a w hk hn => ?_) ?_
              · have h93 : a.eval (.tmp 93) = .pointer (some ⟨p, 0, none⟩) := hn.1
                clear hn
                refine wants_plain rfl ?_
                refine grown_call (f := 17) rfl Try.func17 (by kernel_rfl) (by kernel_rfl) ?_
                simp only [List.map_toArray, List.map_cons, List.map_nil, h93]
                refine (dbytes_any p v9 _ _ w (unhide HD w hk)).mono ?_
                rintro e w' ⟨ao, m, c, rfl, R, K⟩
                exact ⟨_, rfl, K, R.sl⟩
              refine steps_cons (fun a w hk hn => ?_) ?_
              · have h94 : Sl w (a.eval (.tmp 94)) (XC) := hn.1
                clear hn
                refine wants_plain rfl ?_
                exact grown_conv (.tmp 94) _ _ 5 _ rfl h94 Try.underlying28 Try.underlying5 Try.underlying9 (congrArg Value.string (unhide HTT).symm)
              refine steps_cons (fun a w hk hn => ?_) ?_
              · have h9 : a.eval (.tmp 9) = .slice ao k c := hn.1
                clear hn
                refine wants_plain rfl ?_
                exact grown_move (.tmp 9) rfl h9
              refine steps_cons (fun a w hk hn => ?_) ?_
              · have h96 : a.eval (.tmp 96) = .slice ao k c := hn.1
                clear hn
                refine wants_plain rfl ?_
                exact grown_conv (.tmp 96) _ _ 5 (X) rfl (by rw [h96]; exact unhide HZX w hk) Try.underlying28 Try.underlying5 Try.underlying9 (congrArg Value.string (unhide HTX).symm)
              refine steps_cons (fun a w hk hn => ?_) ?_
              · have h10 : a.eval (.tmp 10) = .slice a5 m5 c5 := hn.1
                clear hn
                refine wants_plain rfl ?_
                exact grown_move (.tmp 10) rfl h10
              refine steps_cons (fun a w hk hn => ?_) ?_
              · have h15 : a.eval (.tmp 15) = .int .i64 m5 := hn.1
                clear hn
                refine wants_plain rfl ?_
                exact grown_move (.tmp 15) rfl h15
              refine steps_cons (fun a w hk hn => ?_) ?_
              · have h98 : a.eval (.tmp 98) = .slice a5 m5 c5 := hn.1
                have h99 : a.eval (.tmp 99) = .int .i64 m5 := hn.2.1
                clear hn
                refine wants_plain rfl ?_
                exact grown_bfirst (.tmp 98) (.tmp 99) rfl a5 _ c5 m5 h98 h99 hsk hnn
              refine steps_cons (fun a w hk hn => ?_) ?_
              · have h100 : a.eval (.tmp 100) = .slice a5 m5 c5 := hn.1
                clear hn
                refine wants_plain rfl ?_
                exact grown_conv (.tmp 100) _ _ 5 (C) rfl (by rw [h100]; exact unhide HZY w hk) Try.underlying28 Try.underlying5 Try.underlying9 (congrArg Value.string (unhide HTC).symm)
              refine steps_cons (fun a w hk hn => ?_) ?_
              · have h97 : a.eval (.tmp 97) = .string SX := hn.1
                have h101 : a.eval (.tmp 101) = .string SC := hn.2.1
                clear hn
                refine wants_plain rfl ?_
                refine grown_run (v := .string T) ?_ (Kp.refl _ _) rfl
                have hz := unhide HSZ
                have hca := unhide HCAT
                obtain ⟨ρ, hρ, hc, hf, hg⟩ := eval_is a
                rw [hρ] at h97 h101 ⊢
                simp [go_sem, h97, h101, hz, hca]
              refine steps_cons (fun a w hk hn => ?_) ?_
              · have h95 : a.eval (.tmp 95) = .string T := hn.1
                have h102 : a.eval (.tmp 102) = .string T := hn.2.1
                clear hn
                refine wants_plain rfl ?_
                refine grown_run (v := .bool true) ?_ (Kp.refl _ _) rfl
                obtain ⟨ρ, hρ, hc, hf, hg⟩ := eval_is a
                rw [hρ] at h95 h102 ⊢
                simp [go_sem, h95, h102]
              refine steps_cons (fun a w hk hn => ?_) ?_
              · have h103 : a.eval (.tmp 103) = .bool true := hn.1
                clear hn
                refine wants_plain rfl ?_
                exact grown_move (.tmp 103) rfl h103
              refine steps_cons (fun a w hk hn => ?_) ?_
              · have h104 : a.eval (.tmp 104) = .bool true := hn.1
                clear hn
                refine wants_guard (d := 104) rfl rfl h104 ?_
                refine grown_call (f := 11) rfl Try.func11 (by kernel_rfl) (by kernel_rfl) ?_
                simp only [List.map_toArray, List.map_nil]
                refine (dknown_any w).mono ?_
                rintro e w' ⟨rfl, K⟩
                exact ⟨_, rfl, K, rfl⟩
              refine steps_cons (fun a w hk hn => ?_) ?_
              · have h104 : a.eval (.tmp 104) = .bool true := hn.1
                have h105 : a.eval (.tmp 105) = .bool true := hn.2.1
                clear hn
                refine wants_plain rfl ?_
                exact grown_pick _ _ _ true rfl h104 h105
              refine steps_cons (fun a w hk hn => ?_) ?_
              · have h106 : a.eval (.tmp 106) = .bool true := hn.1
                clear hn
                refine wants_plain rfl ?_
                exact grown_assign (.tmp 106) rfl h106
              exact trivial
            intro W2 hkW2
            rintro _ rfl
            intro v94 h94
            rintro _ rfl
            rintro _ rfl
            rintro _ rfl
            rintro _ rfl
            rintro _ rfl
            rintro _ rfl
            rintro _ rfl
            rintro _ rfl
            rintro _ rfl
            rintro _ rfl
            rintro _ rfl
            rintro _ rfl
            rintro _ rfl
            refine fin_nil ?_
            simp only [Act.put, List.set_cons_zero, List.set_cons_succ, List.setIfInBounds_toArray]
            go_wp2_with fail
            go_ret
            exact ⟨rfl, (L9.out.nw.kp.trans ((kp_drew w9).trans hkW2)).below (Nat.le_refl _) (by simp)⟩

set_option maxRecDepth 100000 in
theorem lifted (os : Os) (started : os.Started) (H : Type) (enc : TypeId × Value → H) :
    ReturnsInHanded {} Try.checked os 5 .any (Rows.diskKeepsSpec.pre6 enc Try.prog Try.f5 Rows.diskKeepsRow.domain false) (Rows.diskKeepsSpec.post enc Try.prog Try.f5 false true false false) := by
  refine returnsInHanded_of_change (C := Try.checked) own started (by kernel_rfl) Try.func5
    (ChangeSpec.witness6 (enc := enc) (C := Try.checked) false ⟨#[], #[.slice none 0 0, .slice none 0 0, .int .i64 0], []⟩ 8 (by kernel_rfl) (by kernel_rfl) (by kernel_rfl) (by kernel_rfl)) ?_
  intro W base args ds gs before hval0 hW hcnd _
  have hval : ∀ (j : Nat) t v, Try.f5.params[j]? = some t → args[j]? = some v → Value.okWide Try.prog W .any base t v := hval0
  have hW' := hW
  obtain ⟨p, q, hA0, hV, rfl, hfz, hnd⟩ := hW
  have hA : DataW.TrodAll enc Try.prog W 0 (fun _ => true) true Try.f5.params.toList args.toList ds p := hA0
  rw [Try.params5] at hA hval
  obtain ⟨v0, vs0, d0, ds0, p0, q0, hargs, rfl, rfl, h0, r0⟩ := trodAll_cons hA
  obtain ⟨v1, vs1, d1, ds1, p1, q1, rfl, rfl, rfl, h1, r1⟩ := trodAll_cons r0
  obtain ⟨v2, vs2, d2, ds2, p2, q2, rfl, rfl, rfl, h2, r2⟩ := trodAll_cons r1
  obtain ⟨rfl, rfl, rfl⟩ := trodAll_nil r2
  obtain rfl : args = #[v0, v1, v2] := by cases args; simp_all
  obtain ⟨rfl, rfl⟩ := trodVars_none hV
  obtain ⟨a0, len0, cap0, rfl⟩ := okWide_slice Try.underlying34 (hval 0 34 v0 rfl rfl)
  have k0 := h0
  have lt0 : ∀ x ∈ p0, x.block < W.heap.size := by obtain ⟨m, hm⟩ := k0; exact DataW.trod_lt m _ _ _ hm
  obtain ⟨l0, s0⟩ : ∃ l, Lists W (.slice a0 len0 cap0) l := by
    obtain ⟨fuel, hf⟩ := h0
    exact lists_of_trod (by simpa [Value.cells] using hf)
  obtain ⟨a1, len1, cap1, rfl⟩ := okWide_slice Try.underlying34 (hval 1 34 v1 rfl rfl)
  have k1 := h1
  have lt1 : ∀ x ∈ p1, x.block < W.heap.size := by obtain ⟨m, hm⟩ := k1; exact DataW.trod_lt m _ _ _ hm
  obtain ⟨l1, s1⟩ : ∃ l, Lists W (.slice a1 len1 cap1) l := by
    obtain ⟨fuel, hf⟩ := h1
    exact lists_of_trod (by simpa [Value.cells] using hf)
  obtain ⟨a2, rfl, rfl, rfl, w2⟩ := open_int Try.underlying3 (hval 2 3 v2 rfl rfl) h2
  clear hA0 hval0
  refine (walk (.slice a0 len0 cap0) l0 (.slice a1 len1 cap1) l1 a2 W s0 s1 (bounds_i64 w2)).mono fun e W' ⟨he, bel⟩ => ?_
  subst he
  exact ⟨_, rfl, _, _, _, [], _, [], hW', trodAll_mk1 (shut_bool Try.underlying4 _), (trodAll_cons_mk (Below.trod laidOut (by kernel_rfl) (of_decide_eq_true (by kernel_rfl)) k0 bel lt0) (trodAll_cons_mk (Below.trod laidOut (by kernel_rfl) (of_decide_eq_true (by kernel_rfl)) k1 bel lt1) (trodAll_cons_mk (shut_int Try.underlying3 w2) trodAll_mk0))), rfl, bel.frame _, fun h => by cases h⟩

theorem over : Rows.diskKeepsRow.holds Try.pinned (OpenSpec.ofChange Rows.diskKeepsSpec) :=
  OpenClaim.holds_of_wide 5 Try.f5 rfl rfl rfl rfl rfl rfl rfl ⟨rfl, rfl, rfl, rfl, rfl⟩ rfl rfl rfl rfl rfl (by kernel_rfl) Try.func5 (by kernel_rfl)
    (of_decide_eq_true (by kernel_rfl)) (by unfold Func.isWrapper; first | (rw [if_pos (by decide +kernel)]; kernel_rfl) | (rw [if_neg (by decide +kernel)]; exact ⟨rfl, rfl⟩))
    (fun os started H enc _ => lifted os started H enc)
end Go.Proofs.Ythpaablhhfichaa.diskKeeps

namespace Go.Proofs.Ythpaablhhfichaa
/-- The given statement. -/
theorem DiskKeeps_holds : Rows.DiskKeepsSaid := diskKeeps.over
#print axioms DiskKeeps_holds
end Go.Proofs.Ythpaablhhfichaa
