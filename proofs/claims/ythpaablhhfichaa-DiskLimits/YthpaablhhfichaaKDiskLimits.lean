/-
  DiskLimits: a disk takes what fits, and nothing of what does not; grown, it takes that.
-/
import Derived.Test.YthpaablhhfichaaKDLoop
import Derived.ShutString
import Derived.ChangeOld
import Derived.Below
namespace Go.Proofs.Ythpaablhhfichaa.diskLimits
open Go.ChangeShapes Go.WideShapes Go.ChangeAt Go.RowKit
open Go.Proofs.Ythpaablhhfichaa
set_option linter.unusedVariables false

theorem own : ownKnob Try.prog.godebug = none := by kernel_rfl
theorem laidOut : laidOutB Try.prog = true := by kernel_rfl
set_option maxHeartbeats 8000000 in
set_option maxRecDepth 100000 in
theorem walk (limit : Int) (v0 : Value) (l0 : List (Value × List Int)) (w : World) (hkp : -9223372036854775808 ≤ limit ∧ limit ≤ 9223372036854775807) (s0 : Lists w v0 l0) :
    Calls Try.prog 7 #[.int .i64 limit, v0] w fun e w' => e = .returned (.bool true) ∧ Below w.heap.size w w' := by
  have hwi := wiP_ge limit 0 200 (by omega)
  obtain ⟨N, hN⟩ : ∃ N, N = wiP limit 0 200 := ⟨_, rfl⟩
  have HW : Hid (Calls Try.prog 12 #[.int .i64 limit, .int .i64 0, .int .i64 200] w fun e w'' => e = .returned (.int .i64 N) ∧ w'' = w) := by
    rw [hN]; exact within_wi limit 0 200 w (by omega) (by omega) (by omega)
  rw [← hN] at hwi
  obtain ⟨hN0, hN1⟩ := hwi
  have hNw := hide (nw_new N w hN0 (by omega))
  obtain ⟨al, cl, e0, hll, -⟩ := id s0
  have HS0 := hide s0
  obtain ⟨L, hL⟩ : ∃ L, L = l0.length := ⟨_, rfl⟩
  rw [← hL] at e0 hll
  subst e0
  have HL := hide hL
  clear s0 hN hL
  go_enter Try.func7, Try.ntmps7
  go_wp2_with (first
    | (go_at_call 12; refine HW.out.mono ?_; rintro e w1 ⟨rfl, hw⟩; subst w1; clear HW)
    | (go_at_call 9; refine hNw.out.mono ?_; rintro e w1 ⟨p, rfl, N1⟩; clear hNw; have HN1 := hide N1; clear N1))
  go_loopw [8, 9] (fun x i wr => ∃ (k m c : Nat) (ao : Option Addr) (v : Value) (X : List Int), k ≤ 20 ∧ k ≤ L ∧ x = .slice ao m c ∧ i = .int .i64 k ∧ Lp w w1 (.slice none 0 0) p wr v ⟨X, 0, N, 0, false⟩ x X) (fun _ i _ => 20 - (intOf i).toNat)
  case atStart => exact ⟨0, 0, 0, none, .slice none 0 0, [], by omega, Nat.zero_le _, rfl, rfl, Lp.start HN1.out⟩
  case round =>
    obtain ⟨k, m, c, ao, v, X, hk, hkL, rfl, rfl, LP⟩ := hrel
    have HLP := hide LP
    clear LP
    have hXN : (m : Int) ≤ N := by
      have h1 := HLP.out.nw.dk.fit.ok.fits
      have h2 := HLP.out.row.len
      rw [h2]; exact h1
    have HM : Hid (m = X.length) := HLP.out.row.len
    by_cases hgo : k < L ∧ k < 20
    · obtain ⟨hlt, hlt20⟩ := hgo
      have hlt2 : (k : Int) < (L : Int) := by omega
      have hlt3 : (k : Int) < 20 := by omega
      obtain ⟨ao', c', e', -, hcell⟩ := HS0.out
      injection e' with e1 e2 e3
      subst e1
      obtain ⟨b, off, rfl, hc, hS, hB⟩ := hcell k (by rw [← HL.out]; exact hlt)
      obtain ⟨x, hx⟩ : ∃ x, x = l0[k]'(by rw [← HL.out]; exact hlt) := ⟨_, rfl⟩
      rw [← hx] at hc hS hB
      have hcw := HLP.out.nw.kp.cell hc (by simp)
      obtain ⟨ax, cx, hxv⟩ : ∃ ax cx, x.1 = .slice ax x.2.length cx := by obtain ⟨ax, cx, e, _⟩ := hS; exact ⟨ax, cx, e⟩
      obtain ⟨nx, hnx⟩ : ∃ nx, nx = x.2.length := ⟨_, rfl⟩
      rw [← hnx] at hxv
      rw [hxv] at hcw hS
      obtain ⟨C, hC⟩ : ∃ C, C = x.2.take 60 := ⟨_, rfl⟩
      obtain ⟨mx, hmx⟩ : ∃ mx, mx = min nx 60 := ⟨_, rfl⟩
      have hCl : C.length = mx := by rw [hC, hmx, hnx]; simp; omega
      have HCB : Hid (Bs C) := by rw [hC]; exact hB.takes _
      have HSC : Hid (∀ w', Kp [] w w' → Sl w' (.slice ax mx cx) C) := fun w' k' => by
        rw [hC, hmx]; exact cutv_sl 60 (hS.kept k' (by simp))
      have HC : Hid (Calls Try.prog 19 #[.slice ax nx cx, .int .i64 60] wr fun e w'' => e = .returned (.slice ax mx cx) ∧ w'' = wr) := by
        rw [hmx]; exact cutv_any ax nx cx 60 x.2 wr (hS.kept HLP.out.nw.kp (by simp))
      have hmx6 : (mx : Int) ≤ 60 := by omega
      have HCL := hide hCl
      clear hx hc hS hB hcell hxv hnx e2 e3 hmx hC hCl
      by_cases hf : (m : Int) + (mx : Int) ≤ N
      · have happ : Dk.app ⟨X, 0, N, 0, false⟩ C = (true, ⟨X ++ C, 0, N, 0, false⟩) :=
          Dk.app_plain rfl (Int.le_refl 0) _ (by have h1 := HM.out; have h2 := HCL.out; show ((X.length + C.length : Nat) : Int) ≤ N; omega)
        have HA := hide (nw_append HLP.out.nw (HSC.out wr HLP.out.nw.kp) HCB.out true happ 0 rfl)
        have HF := hide (full_any true wr)
        have HPL : Hid (X.length + C.length ≤ 140737488355328) := by have h1 := HM.out; have h2 := HCL.out; show _ ≤ _; omega
        obtain ⟨T, hT⟩ : ∃ T, T = strOfNums (X ++ C) := ⟨_, rfl⟩
        have HT := hide hT
        clear happ hT
        go_wp2_with (first
          | (go_at_call 19; refine HC.out.mono ?_; rintro e w2 ⟨rfl, hw⟩; subst w2; clear HC)
          | (go_at_call 24; refine HF.out.mono ?_; rintro e w2 ⟨rfl, hw⟩; subst w2; clear HF)
          | (go_at_call 14; refine HA.out.mono ?_; rintro e w3 ⟨rfl, v3, N3, T3⟩; clear HA; have L3 := hide (HLP.out.disk N3 T3); have S3 := hide (HSC.out w3 N3.kp); clear N3 T3 HLP)
          | (at_builtin; refine wpList_append_row rfl (.tmp 55) (.tmp 56) rfl w1.heap.size _ _ rfl L3.out.row _ C rfl S3.out HPL.out L3.out.st.size ?_; intro ao4 m4 c4 w4 r4 s4; have L4 := hide (L3.out.more r4 s4 HN1.out.kp.size); clear r4 s4))
        have HD : Hid (∀ w', Kp [] w4.drew w' → DskP w' w.heap.size p v3 ⟨X ++ C, 0, N, 0, false⟩) := fun w' k' => L4.out.nw.dk.keptN ((kp_drew w4).trans k')
        have HZ : Hid (∀ w', Kp [] w4.drew w' → Sl w' (.slice ao4 m4 c4) (X ++ C)) := fun w' k' => L4.out.row.sl.kept ((kp_drew w4).trans k') (by simp)
        refine region_grow Try.mixed [Is (.pointer (some ⟨p, 0, none⟩)), SlT (X ++ C), Is (.string T), Is (.slice ao4 m4 c4), Is (.string T), Is (.bool false)] [[(6, none)], [(58, some 0)], [(59, some 1)], [(8, none)], [(61, some 3)], [(60, some 2), (62, some 4)]] (by kernel_rfl) ?_ ?_ ?_
        · simp only [List.mem_cons, List.not_mem_nil, or_false]
          intro R hR
          rcases hR with rfl | rfl | rfl | rfl | rfl | rfl <;> first | exact stable_is _ | exact stable_sl _
        · refine steps_cons (fun a w hk hn => ?_) ?_
          · have h6 : a.eval (.tmp 6) = .pointer (some ⟨p, 0, none⟩) := hn.1
            clear hn
            refine wants_plain rfl ?_
            exact grown_move (.tmp 6) rfl h6
          refine steps_cons (fun a w hk hn => ?_) ?_
          · have h58 : a.eval (.tmp 58) = .pointer (some ⟨p, 0, none⟩) := hn.1
            clear hn
            refine wants_plain rfl ?_
            refine grown_call (f := 17) rfl Try.func17 (by kernel_rfl) (by kernel_rfl) ?_
            simp only [List.map_toArray, List.map_cons, List.map_nil, h58]
            refine (dbytes_any p v3 _ _ w (unhide HD w hk)).mono ?_
            rintro e w' ⟨ao, m, c, rfl, R, K⟩
            exact ⟨_, rfl, K, R.sl⟩
          refine steps_cons (fun a w hk hn => ?_) ?_
          · have h59 : Sl w (a.eval (.tmp 59)) (X ++ C) := hn.1
            clear hn
            refine wants_plain rfl ?_
            exact grown_conv (.tmp 59) _ _ 5 _ rfl h59 Try.underlying28 Try.underlying5 Try.underlying9 (congrArg Value.string (unhide HT).symm)
          refine steps_cons (fun a w hk hn => ?_) ?_
          · have h8 : a.eval (.tmp 8) = .slice ao4 m4 c4 := hn.1
            clear hn
            refine wants_plain rfl ?_
            exact grown_move (.tmp 8) rfl h8
          refine steps_cons (fun a w hk hn => ?_) ?_
          · have h61 : a.eval (.tmp 61) = .slice ao4 m4 c4 := hn.1
            clear hn
            refine wants_plain rfl ?_
            exact grown_conv (.tmp 61) _ _ 5 (X ++ C) rfl (by rw [h61]; exact unhide HZ w hk) Try.underlying28 Try.underlying5 Try.underlying9 (congrArg Value.string (unhide HT).symm)
          refine steps_cons (fun a w hk hn => ?_) ?_
          · have h60 : a.eval (.tmp 60) = .string T := hn.1
            have h62 : a.eval (.tmp 62) = .string T := hn.2.1
            clear hn
            refine wants_plain rfl ?_
            refine grown_run (v := .bool false) ?_ (Kp.refl _ _) rfl
            obtain ⟨ρ, hρ, hc, hf, hg⟩ := eval_is a
            rw [hρ] at h60 h62 ⊢
            simp [go_sem, h60, h62]
          exact trivial
        intro W1 hkW1
        rintro _ rfl
        intro v59 h59
        rintro _ rfl
        rintro _ rfl
        rintro _ rfl
        rintro _ rfl
        refine fin_nil ?_
        simp only [Act.put, List.set_cons_zero, List.set_cons_succ, List.setIfInBounds_toArray]
        go_wp2_with fail
        go_roundw
        case rel => exact ⟨k + 1, m4, c4, ao4, v3, X ++ C, by omega, by omega, rfl, by go_num, L4.out.on ((kp_drew w4).trans hkW1)⟩
        case measure => simp [intOf]; omega
      · have happ : Dk.app ⟨X, 0, N, 0, false⟩ C = (false, ⟨X, 0, N, 0, false⟩) :=
          Dk.app_full rfl (Int.le_refl 0) _ (by have h1 := HM.out; have h2 := HCL.out; show N < ((X.length + C.length : Nat) : Int); omega)
        have HA := hide (nw_append HLP.out.nw (HSC.out wr HLP.out.nw.kp) HCB.out false happ 13 rfl)
        have HF := hide (full_any false wr)
        have hfd : decide ((m : Int) + (mx : Int) ≤ N) = false := decide_eq_false hf
        obtain ⟨T, hT⟩ : ∃ T, T = strOfNums X := ⟨_, rfl⟩
        have HT := hide hT
        clear happ hT
        go_wp2_with (first
          | (go_at_call 19; refine HC.out.mono ?_; rintro e w2 ⟨rfl, hw⟩; subst w2; clear HC)
          | (go_at_call 24; refine HF.out.mono ?_; rintro e w2 ⟨rfl, hw⟩; subst w2; clear HF)
          | (go_at_call 14; refine HA.out.mono ?_; rintro e w3 ⟨rfl, v3, N3, T3⟩; clear HA; have L3 := hide (HLP.out.disk N3 T3); clear N3 T3 HLP))
        have HD : Hid (∀ w', Kp [] w3.drew w' → DskP w' w.heap.size p v3 ⟨X, 0, N, 0, false⟩) := fun w' k' => L3.out.nw.dk.keptN ((kp_drew w3).trans k')
        have HZ : Hid (∀ w', Kp [] w3.drew w' → Sl w' (.slice ao m c) X) := fun w' k' => L3.out.row.sl.kept ((kp_drew w3).trans k') (by simp)
        refine region_grow Try.mixed [Is (.pointer (some ⟨p, 0, none⟩)), SlT (X), Is (.string T), Is (.slice ao m c), Is (.string T), Is (.bool false)] [[(6, none)], [(58, some 0)], [(59, some 1)], [(8, none)], [(61, some 3)], [(60, some 2), (62, some 4)]] (by kernel_rfl) ?_ ?_ ?_
        · simp only [List.mem_cons, List.not_mem_nil, or_false]
          intro R hR
          rcases hR with rfl | rfl | rfl | rfl | rfl | rfl <;> first | exact stable_is _ | exact stable_sl _
        · refine steps_cons (fun a w hk hn => ?_) ?_
          · have h6 : a.eval (.tmp 6) = .pointer (some ⟨p, 0, none⟩) := hn.1
            clear hn
            refine wants_plain rfl ?_
            exact grown_move (.tmp 6) rfl h6
          refine steps_cons (fun a w hk hn => ?_) ?_
          · have h58 : a.eval (.tmp 58) = .pointer (some ⟨p, 0, none⟩) := hn.1
            clear hn
            refine wants_plain rfl ?_
            refine grown_call (f := 17) rfl Try.func17 (by kernel_rfl) (by kernel_rfl) ?_
            simp only [List.map_toArray, List.map_cons, List.map_nil, h58]
            refine (dbytes_any p v3 _ _ w (unhide HD w hk)).mono ?_
            rintro e w' ⟨ao, m, c, rfl, R, K⟩
            exact ⟨_, rfl, K, R.sl⟩
          refine steps_cons (fun a w hk hn => ?_) ?_
          · have h59 : Sl w (a.eval (.tmp 59)) (X) := hn.1
            clear hn
            refine wants_plain rfl ?_
            exact grown_conv (.tmp 59) _ _ 5 _ rfl h59 Try.underlying28 Try.underlying5 Try.underlying9 (congrArg Value.string (unhide HT).symm)
          refine steps_cons (fun a w hk hn => ?_) ?_
          · have h8 : a.eval (.tmp 8) = .slice ao m c := hn.1
            clear hn
            refine wants_plain rfl ?_
            exact grown_move (.tmp 8) rfl h8
          refine steps_cons (fun a w hk hn => ?_) ?_
          · have h61 : a.eval (.tmp 61) = .slice ao m c := hn.1
            clear hn
            refine wants_plain rfl ?_
            exact grown_conv (.tmp 61) _ _ 5 (X) rfl (by rw [h61]; exact unhide HZ w hk) Try.underlying28 Try.underlying5 Try.underlying9 (congrArg Value.string (unhide HT).symm)
          refine steps_cons (fun a w hk hn => ?_) ?_
          · have h60 : a.eval (.tmp 60) = .string T := hn.1
            have h62 : a.eval (.tmp 62) = .string T := hn.2.1
            clear hn
            refine wants_plain rfl ?_
            refine grown_run (v := .bool false) ?_ (Kp.refl _ _) rfl
            obtain ⟨ρ, hρ, hc, hf, hg⟩ := eval_is a
            rw [hρ] at h60 h62 ⊢
            simp [go_sem, h60, h62]
          exact trivial
        intro W1 hkW1
        rintro _ rfl
        intro v59 h59
        rintro _ rfl
        rintro _ rfl
        rintro _ rfl
        rintro _ rfl
        refine fin_nil ?_
        simp only [Act.put, List.set_cons_zero, List.set_cons_succ, List.setIfInBounds_toArray]
        go_wp2_with fail
        go_roundw
        case rel => exact ⟨k + 1, m, c, ao, v3, X, by omega, by omega, rfl, by go_num, L3.out.on ((kp_drew w3).trans hkW1)⟩
        case measure => simp [intOf]; omega
    · have hm2 : (m : Int) ≤ 200 := by omega
      have hgo' : (¬ (k : Int) < (L : Int)) ∨ ((k : Int) < (L : Int) ∧ ¬ (k : Int) < 20) := by omega
      have hmw : wrap64 ((m : Int) - 1) = (m : Int) - 1 := by unfold wrap64; omega
      have hmw2 : wrap64 ((m : Int) + 1) = (m : Int) + 1 := by unfold wrap64; omega
      have g1 : Dk.grow ⟨X, 0, N, 0, false⟩ ((m : Int) - 1) = (false, ⟨X, 0, N, 0, false⟩) := by
        have h1 := HM.out
        unfold Dk.grow
        rw [if_neg]
        show ¬ (((X.length : Nat) : Int) ≤ _ ∧ _)
        omega
      have g2 : Dk.grow ⟨X, 0, N, 0, false⟩ m = (true, ⟨X, 0, m, 0, false⟩) := by
        have h1 := HM.out
        unfold Dk.grow
        rw [if_pos]
        show (((X.length : Nat) : Int) ≤ _ ∧ _)
        omega
      have g3 : Dk.app ⟨X, 0, m, 0, false⟩ [1] = (false, ⟨X, 0, m, 0, false⟩) := Dk.app_full rfl (Int.le_refl 0) _ (by have h1 := HM.out; show (m : Int) < ((X.length + 1 : Nat) : Int); omega)
      have g4 : Dk.grow ⟨X, 0, m, 0, false⟩ ((m : Int) + 1) = (true, ⟨X, 0, (m : Int) + 1, 0, false⟩) := by
        have h1 := HM.out
        unfold Dk.grow
        rw [if_pos]
        show (((X.length : Nat) : Int) ≤ _ ∧ _)
        omega
      have g5 : Dk.app ⟨X, 0, (m : Int) + 1, 0, false⟩ [1] = (true, ⟨X ++ [1], 0, (m : Int) + 1, 0, false⟩) := Dk.app_plain rfl (Int.le_refl 0) _ (by have h1 := HM.out; show ((X.length + 1 : Nat) : Int) ≤ (m : Int) + 1; omega)
      have HB1 : Hid (Bs [1]) := fun b hb => by simp at hb; omega
      have G1 := hide g1
      have G2 := hide g2
      have G3 := hide g3
      have G4 := hide g4
      have G5 := hide g5
      have HSZ : Hid ((X ++ [1]).length = m + 1) := by have h1 := HM.out; show _ = _; rw [List.length_append, ← h1]; rfl
      clear g1 g2 g3 g4 g5 hgo
      have HN0 := hide HLP.out.nw
      clear HLP
      rcases hgo' with hgo | ⟨hgo, hgo2⟩
      all_goals
        go_wp2_with (first
          | (go_at_call 25; refine (nw_grow HN0.out _ false G1.out).mono ?_; rintro e w2 ⟨rfl, N2, -⟩; have HN2 := hide N2; clear HN0 N2 G1)
          | (go_at_call 25; refine (nw_grow HN2.out _ true G2.out).mono ?_; rintro e w3 ⟨rfl, N3, -⟩; have HN3 := hide (N3.on ((Kp.refl [] w3).alloc (.cells #[.int .u8 1] 5))); clear HN2 N3 G2)
          | (go_at_call 14; refine (nw_append HN3.out (lit_sl w3 [1] 1 (0, 0) rfl (by omega)) HB1.out false G3.out 13 rfl).mono ?_; rintro e w4 ⟨rfl, v4, N4, -⟩; have HN4 := hide N4; clear HN3 N4 G3)
          | (go_at_call 25; refine (nw_grow HN4.out _ true G4.out).mono ?_; rintro e w5 ⟨rfl, N5, -⟩; have HN5 := hide (N5.on ((Kp.refl [] w5).alloc (.cells #[.int .u8 1] 5))); clear HN4 N5 G4)
          | (go_at_call 14; refine (nw_append HN5.out (lit_sl w5 [1] 1 (0, 0) rfl (by omega)) HB1.out true G5.out 0 rfl).mono ?_; rintro e w6 ⟨rfl, v6, N6, -⟩; have HN6 := hide N6; clear HN5 N6 G5)
          | (go_at_call 23; refine (sizen_any p _ _ _ _ HN6.out.dk (m + 1) HSZ.out).mono ?_; rintro e w7 ⟨rfl, hw⟩; subst w7)
          | (go_at_call 11; refine (dknown_any _).mono ?_; rintro e w8 ⟨rfl, k8⟩))
        go_ret
        exact ⟨rfl, (HN6.out.kp.trans k8).below (Nat.le_refl _) (by simp)⟩

set_option maxRecDepth 100000 in
theorem lifted (os : Os) (started : os.Started) (H : Type) (enc : TypeId × Value → H) :
    ReturnsInHanded {} Try.checked os 7 .any (Rows.diskLimitsSpec.pre6 enc Try.prog Try.f7 Rows.diskLimitsRow.domain false) (Rows.diskLimitsSpec.post enc Try.prog Try.f7 false true false false) := by
  refine returnsInHanded_of_change (C := Try.checked) own started (by kernel_rfl) Try.func7
    (ChangeSpec.witness6 (enc := enc) (C := Try.checked) false ⟨#[], #[.int .i64 0, .slice none 0 0], []⟩ 8 (by kernel_rfl) (by kernel_rfl) (by kernel_rfl) (by kernel_rfl)) ?_
  intro W base args ds gs before hval0 hW hcnd _
  have hval : ∀ (j : Nat) t v, Try.f7.params[j]? = some t → args[j]? = some v → Value.okWide Try.prog W .any base t v := hval0
  have hW' := hW
  obtain ⟨p, q, hA0, hV, rfl, hfz, hnd⟩ := hW
  have hA : DataW.TrodAll enc Try.prog W 0 (fun _ => true) true Try.f7.params.toList args.toList ds p := hA0
  rw [Try.params7] at hA hval
  obtain ⟨v0, vs0, d0, ds0, p0, q0, hargs, rfl, rfl, h0, r0⟩ := trodAll_cons hA
  obtain ⟨v1, vs1, d1, ds1, p1, q1, rfl, rfl, rfl, h1, r1⟩ := trodAll_cons r0
  obtain ⟨rfl, rfl, rfl⟩ := trodAll_nil r1
  obtain rfl : args = #[v0, v1] := by cases args; simp_all
  obtain ⟨rfl, rfl⟩ := trodVars_none hV
  obtain ⟨a0, rfl, rfl, rfl, w0⟩ := open_int Try.underlying3 (hval 0 3 v0 rfl rfl) h0
  obtain ⟨a1, len1, cap1, rfl⟩ := okWide_slice Try.underlying34 (hval 1 34 v1 rfl rfl)
  have k1 := h1
  have lt1 : ∀ x ∈ p1, x.block < W.heap.size := by obtain ⟨m, hm⟩ := k1; exact DataW.trod_lt m _ _ _ hm
  obtain ⟨l1, s1⟩ : ∃ l, Lists W (.slice a1 len1 cap1) l := by
    obtain ⟨fuel, hf⟩ := h1
    exact lists_of_trod (by simpa [Value.cells] using hf)
  clear hA0 hval0
  refine (walk a0 (.slice a1 len1 cap1) l1 W (bounds_i64 w0) s1).mono fun e W' ⟨he, bel⟩ => ?_
  subst he
  exact ⟨_, rfl, _, _, _, [], _, [], hW', trodAll_mk1 (shut_bool Try.underlying4 _), (trodAll_cons_mk (shut_int Try.underlying3 w0) (trodAll_cons_mk (Below.trod laidOut (by kernel_rfl) (of_decide_eq_true (by kernel_rfl)) k1 bel lt1) trodAll_mk0)), rfl, bel.frame _, fun h => by cases h⟩

theorem over : Rows.diskLimitsRow.holds Try.pinned (OpenSpec.ofChange Rows.diskLimitsSpec) :=
  OpenClaim.holds_of_wide 7 Try.f7 rfl rfl rfl rfl rfl rfl rfl ⟨rfl, rfl, rfl, rfl, rfl⟩ rfl rfl rfl rfl rfl (by kernel_rfl) Try.func7 (by kernel_rfl)
    (of_decide_eq_true (by kernel_rfl)) (by unfold Func.isWrapper; first | (rw [if_pos (by decide +kernel)]; kernel_rfl) | (rw [if_neg (by decide +kernel)]; exact ⟨rfl, rfl⟩))
    (fun os started H enc _ => lifted os started H enc)
end Go.Proofs.Ythpaablhhfichaa.diskLimits

namespace Go.Proofs.Ythpaablhhfichaa
/-- The given statement. -/
theorem DiskLimits_holds : Rows.DiskLimitsSaid := diskLimits.over
#print axioms DiskLimits_holds
end Go.Proofs.Ythpaablhhfichaa
