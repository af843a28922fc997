/-
  The contracts of the law package's leads and grows.
-/
import Derived.Test.YtphhofgjnlfjmaaDoorKPLeds
import Derived.Test.YtphhofgjnlfjmaaDoorKPProg
import Derived.Test.YtphhofgjnlfjmaaDoorKPRefL
namespace Go.Proofs.YtphhofgjnlfjmaaDoor
open Go.RowKit
open Go.Proofs

set_option maxRecDepth 100000 in
set_option maxHeartbeats 4000000 in
theorem lleads_any (v vx vr : Value) (i n : Int) (ps : List (List Int)) (x rt : List Int) (w : World) (hV : TV w v i n ps) (hS : Sl w vx x) (hB : Bs x) (hT : Sl w vr rt) (hn : n ≤ 9223372036854775807) (hG : Gl w) :
    Calls Tryd.prog 17 #[v, vx, vr] w fun e w' => e = .returned (.bool true) ∧ Kp [] w w' := by
  obtain ⟨ao, c, e, hL⟩ := hV.shape
  subst e
  obtain ⟨N, hN⟩ : ∃ N, N = ps.length := ⟨_, rfl⟩
  rw [← hN] at hL hV ⊢
  obtain ⟨ob, hob⟩ : ∃ o : Obj, o = (.cells #[.int .i64 i, .int .i64 n, .slice ao N c] 32) := ⟨_, rfl⟩
  have K1 : Kp [] w (w.alloc ob) := (Kp.refl [] w).alloc ob
  obtain ⟨w1, hw1⟩ : ∃ w1, w1 = w.alloc ob := ⟨_, rfl⟩
  obtain ⟨g0, hg0⟩ : ∃ g0, g0 = w.heap.size := ⟨_, rfl⟩
  rw [← hw1] at K1
  have HK1 := hide K1
  have hst : w1.heap[g0]? = some (.cells #[.int .i64 i, .int .i64 n, .slice ao N c] 32 (0, 0)) := by rw [hw1, hg0, hob]; exact heap_alloc_new w _
  have HST : Hid (∀ w', Kp [] w1 w' → w'.heap[g0]? = some (.cells #[.int .i64 i, .int .i64 n, .slice ao N c] 32 (0, 0))) := fun w' k => k.heap hst (by simp)
  obtain ⟨z0, z1, z2⟩ := cell_tri hst
  have HV : Hid (∀ w', Kp [] w1 w' → TV w' (.agg #[.int .i64 i, .int .i64 n, .slice ao N c]) i n ps) := fun w' k => hV.kept (K1.trans k)
  have HSL : Hid (∀ w', Kp [] w1 w' → Sl w' vx x) := fun w' k => hS.kept (K1.trans k) (by simp)
  have HTL : Hid (∀ w', Kp [] w1 w' → Sl w' vr rt) := fun w' k => hT.kept (K1.trans k) (by simp)
  have HLL : Hid (∀ w', Kp [] w1 w' → LcM ps (.slice ao N c) w') := fun w' k => hL.kept (K1.trans k)
  have HGL : Hid (∀ w', Kp [] w1 w' → Gl w') := fun w' k => hG.kept (K1.trans k) (by simp)
  have HBX := hide hB
  rw [hob] at hw1
  obtain ⟨b, hb⟩ : ∃ b, b = ledOk i n ps x := ⟨_, rfl⟩
  obtain ⟨C, hC⟩ : ∃ C, C = chkP i n ps x rt := ⟨_, rfl⟩
  have HCC := hide hC
  obtain ⟨r, hr⟩ : ∃ r, r = ledR i n ps x := ⟨_, rfl⟩
  obtain ⟨S1, hS1⟩ : ∃ S, S = strOfNums r := ⟨_, rfl⟩
  have HS1 := hide hS1
  obtain ⟨R, hR⟩ : ∃ R, R = rightP ps := ⟨_, rfl⟩
  have HRP := hide hR
  have HFF : Hid (b = chkP i n ps x r) := hide (by rw [hb, hr]; unfold chkP; rw [eqP_self, Bool.and_true])
  have HRR := hide hr
  have HBB := hide hb
  obtain ⟨ax, cx, hvx, -⟩ := hS
  obtain ⟨nx, hnx⟩ : ∃ nx, nx = x.length := ⟨_, rfl⟩
  rw [← hnx] at hvx
  subst hvx
  obtain ⟨ar, cr, hvr, -⟩ := hT
  obtain ⟨nr, hnr⟩ : ∃ nr, nr = rt.length := ⟨_, rfl⟩
  rw [← hnr] at hvr
  subst hvr
  clear hV hL hB hN hnx hnr K1 hob hst hG hb hC hr hS1 hR
  have hC := lead_any _ (.slice ax nx cx) i n ps x w1 (unhide HV w1 (Kp.refl _ _)) (unhide HSL w1 (Kp.refl _ _)) (unhide HBX) hn (unhide HGL w1 (Kp.refl _ _))
  rw [← unhide HBB, ← unhide HRR] at hC
  have HC := hide hC
  clear hC
  go_enter Tryd.func17, Tryd.ntmps17
  go_wp2_with fail
  rw [← hw1, ← hg0]
  clear hw1 hg0
  refine (unhide HC).mono ?_
  rintro ee w2 ⟨a3, m3, c3, rfl, S3, K2⟩
  have HS3 := hide S3
  have HK2 := hide K2
  clear S3 K2 HC z0 z1 z2
  obtain ⟨z0, z1, z2⟩ := cell_tri (unhide HST w2 (unhide HK2))
  have hC := rflead_any _ (.slice ax nx cx) i n ps x w2 (unhide HV w2 (unhide HK2)) (unhide HSL w2 (unhide HK2)) (unhide HBX) hn
  rw [← unhide HBB, ← unhide HRR] at hC
  have HC := hide hC
  clear hC
  go_wp2_with fail
  refine (unhide HC).mono ?_
  rintro ee w3 ⟨a5, m5, c5, rfl, S5, K3⟩
  have HT3 : Hid (∀ w', Kp [] w3.drew w' → Sl w' (.slice a3 m3 c3) r) := fun w' k => (unhide HS3).kept (K3.trans ((kp_drew w3).trans k)) (by simp)
  have HT5 : Hid (∀ w', Kp [] w3.drew w' → Sl w' (.slice a5 m5 c5) r) := fun w' k => S5.kept ((kp_drew w3).trans k) (by simp)
  have HD3 : Hid (∀ w', Kp [] w3.drew w' → Kp [] w1 w') := fun w' k => ((unhide HK2).trans K3).trans ((kp_drew w3).trans k)
  clear S5 K3 HC z0 z1 z2
  go_wp2_with fail
  refine region_grow Tryd.mixed [Is (.bool b), Is (.bool b), Is (.bool true), Is (.bool true), Is (.slice a3 m3 c3), Is (.string S1), Is (.slice a5 m5 c5), Is (.string S1), Is (.bool true), Is (.bool true), Is (.bool true), Is (.agg #[.int .i64 i, .int .i64 n, .slice ao N c]), Is (.slice ax nx cx), Is (.slice ar nr cr), Is (.bool C), Is (.agg #[.int .i64 i, .int .i64 n, .slice ao N c]), Is (.slice ax nx cx), Is (.slice ar nr cr), Is (.bool C), Is (.bool true), Is (.bool true), Is (.bool true), Is (.agg #[.int .i64 i, .int .i64 n, .slice ao N c]), Is (.slice ax nx cx), Is (.slice a5 m5 c5), Is (.bool b), Is (.bool b), Is (.bool true), Is (.bool true), Is (.bool true), Is (.pointer (some ⟨g0, 2, none⟩)), Is (.slice ao N c), Is (.bool R), Is (.pointer (some ⟨g0, 2, none⟩)), Is (.slice ao N c), Is (.bool R), Is (.bool true), Is (.bool true), Is (.bool true)] [[(8, none)], [(10, none)], [(23, some 0), (24, some 1)], [(25, some 2)], [(7, none), (26, some 3)], [(27, some 4), (26, some 3)], [(9, none), (26, some 3)], [(29, some 6), (26, some 3)], [(28, some 5), (30, some 7), (26, some 3)], [(26, some 3), (31, some 8)], [(32, some 9)], [(3, none), (33, some 10)], [(1, none), (33, some 10)], [(2, none), (33, some 10)], [(34, some 11), (35, some 12), (36, some 13), (33, some 10)], [(3, none), (33, some 10)], [(1, none), (33, some 10)], [(2, none), (33, some 10)], [(38, some 15), (39, some 16), (40, some 17), (33, some 10)], [(37, some 14), (41, some 18), (33, some 10)], [(33, some 10), (42, some 19)], [(43, some 20)], [(3, none), (44, some 21)], [(1, none), (44, some 21)], [(9, none), (44, some 21)], [(45, some 22), (46, some 23), (47, some 24), (44, some 21)], [(10, none), (44, some 21)], [(48, some 25), (49, some 26), (44, some 21)], [(44, some 21), (50, some 27)], [(51, some 28)], [(3, none), (52, some 29)], [(53, some 30), (52, some 29)], [(54, some 31), (52, some 29)], [(3, none), (52, some 29)], [(56, some 33), (52, some 29)], [(57, some 34), (52, some 29)], [(55, some 32), (58, some 35), (52, some 29)], [(52, some 29), (59, some 36)], [(60, some 37)]] (by kernel_rfl) ?_ ?_ ?_
  · simp only [List.mem_cons, List.not_mem_nil, or_false]
    intro R hR
    rcases hR with rfl | rfl | rfl | rfl | rfl | rfl | rfl | rfl | rfl | rfl | rfl | rfl | rfl | rfl | rfl | rfl | rfl | rfl | rfl | rfl | rfl | rfl | rfl | rfl | rfl | rfl | rfl | rfl | rfl | rfl | rfl | rfl | rfl | rfl | rfl | rfl | rfl | rfl | rfl <;> first | exact stable_is _
  · refine steps_cons (fun a w hk hn => ?_) ?_
    · have h8 : a.eval (.tmp 8) = .bool b := hn.1
      clear hn
      refine wants_plain rfl ?_
      exact grown_move (.tmp 8) rfl h8
    refine steps_cons (fun a w hk hn => ?_) ?_
    · have h10 : a.eval (.tmp 10) = .bool b := hn.1
      clear hn
      refine wants_plain rfl ?_
      exact grown_move (.tmp 10) rfl h10
    refine steps_cons (fun a w hk hn => ?_) ?_
    · have h23 : a.eval (.tmp 23) = .bool b := hn.1
      have h24 : a.eval (.tmp 24) = .bool b := hn.2.1
      clear hn
      refine wants_plain rfl ?_
      refine grown_run (v := .bool true) ?_ (Kp.refl _ _) rfl
      obtain ⟨ρ, hρ, hc, hf, hg⟩ := eval_is a
      rw [hρ] at h23 h24 ⊢
      simp [go_sem, h23, h24]
    refine steps_cons (fun a w hk hn => ?_) ?_
    · have h25 : a.eval (.tmp 25) = .bool true := hn.1
      clear hn
      refine wants_plain rfl ?_
      exact grown_move (.tmp 25) rfl h25
    refine steps_cons (fun a w hk hn => ?_) ?_
    · have h7 : a.eval (.tmp 7) = .slice a3 m3 c3 := hn.1
      have h26 : a.eval (.tmp 26) = .bool true := hn.2.1
      clear hn
      refine wants_guard (d := 26) rfl rfl h26 ?_
      exact grown_move (.tmp 7) rfl h7
    refine steps_cons (fun a w hk hn => ?_) ?_
    · have h27 : a.eval (.tmp 27) = .slice a3 m3 c3 := hn.1
      have h26 : a.eval (.tmp 26) = .bool true := hn.2.1
      clear hn
      refine wants_guard (d := 26) rfl rfl h26 ?_
      exact grown_conv (.tmp 27) _ _ 5 (r) rfl (by rw [h27]; exact unhide HT3 w hk) Tryd.underlying30 Tryd.underlying5 Tryd.underlying9 (congrArg Value.string (unhide HS1).symm)
    refine steps_cons (fun a w hk hn => ?_) ?_
    · have h9 : a.eval (.tmp 9) = .slice a5 m5 c5 := hn.1
      have h26 : a.eval (.tmp 26) = .bool true := hn.2.1
      clear hn
      refine wants_guard (d := 26) rfl rfl h26 ?_
      exact grown_move (.tmp 9) rfl h9
    refine steps_cons (fun a w hk hn => ?_) ?_
    · have h29 : a.eval (.tmp 29) = .slice a5 m5 c5 := hn.1
      have h26 : a.eval (.tmp 26) = .bool true := hn.2.1
      clear hn
      refine wants_guard (d := 26) rfl rfl h26 ?_
      exact grown_conv (.tmp 29) _ _ 5 (r) rfl (by rw [h29]; exact unhide HT5 w hk) Tryd.underlying30 Tryd.underlying5 Tryd.underlying9 (congrArg Value.string (unhide HS1).symm)
    refine steps_cons (fun a w hk hn => ?_) ?_
    · have h28 : a.eval (.tmp 28) = .string S1 := hn.1
      have h30 : a.eval (.tmp 30) = .string S1 := hn.2.1
      have h26 : a.eval (.tmp 26) = .bool true := hn.2.2.1
      clear hn
      refine wants_guard (d := 26) rfl rfl h26 ?_
      refine grown_run (v := .bool true) ?_ (Kp.refl _ _) rfl
      obtain ⟨ρ, hρ, hc, hf, hg⟩ := eval_is a
      rw [hρ] at h28 h30 ⊢
      simp [go_sem, h28, h30]
    refine steps_cons (fun a w hk hn => ?_) ?_
    · have h26 : a.eval (.tmp 26) = .bool true := hn.1
      have h31 : a.eval (.tmp 31) = .bool true := hn.2.1
      clear hn
      refine wants_plain rfl ?_
      exact grown_pick _ _ _ true rfl h26 h31
    refine steps_cons (fun a w hk hn => ?_) ?_
    · have h32 : a.eval (.tmp 32) = .bool true := hn.1
      clear hn
      refine wants_plain rfl ?_
      exact grown_move (.tmp 32) rfl h32
    refine steps_cons (fun a w hk hn => ?_) ?_
    · have h3 : a.eval (.tmp 3) = .pointer (some ⟨g0, 0, none⟩) := hn.1
      have h33 : a.eval (.tmp 33) = .bool true := hn.2.1
      clear hn
      refine wants_guard (d := 33) rfl rfl h33 ?_
      exact grown_loadtri triP (.tmp 3) rfl h3 ((fun w'' k => unhide HST w'' (unhide HD3 w'' k)) w hk) rfl
    refine steps_cons (fun a w hk hn => ?_) ?_
    · have h1 : a.eval (.tmp 1) = .slice ax nx cx := hn.1
      have h33 : a.eval (.tmp 33) = .bool true := hn.2.1
      clear hn
      refine wants_guard (d := 33) rfl rfl h33 ?_
      exact grown_move (.tmp 1) rfl h1
    refine steps_cons (fun a w hk hn => ?_) ?_
    · have h2 : a.eval (.tmp 2) = .slice ar nr cr := hn.1
      have h33 : a.eval (.tmp 33) = .bool true := hn.2.1
      clear hn
      refine wants_guard (d := 33) rfl rfl h33 ?_
      exact grown_move (.tmp 2) rfl h2
    refine steps_cons (fun a w hk hn => ?_) ?_
    · have h34 : a.eval (.tmp 34) = .agg #[.int .i64 i, .int .i64 n, .slice ao N c] := hn.1
      have h35 : a.eval (.tmp 35) = .slice ax nx cx := hn.2.1
      have h36 : a.eval (.tmp 36) = .slice ar nr cr := hn.2.2.1
      have h33 : a.eval (.tmp 33) = .bool true := hn.2.2.2.1
      clear hn
      refine wants_guard (d := 33) rfl rfl h33 ?_
      refine grown_call (f := 25) rfl Tryd.func25 (by kernel_rfl) (by kernel_rfl) ?_
      simp only [List.map_toArray, List.map_cons, List.map_nil, h34, h35, h36]
      refine (check_any _ _ _ i n ps x rt w (unhide HV w (unhide HD3 w hk)) (unhide HSL w (unhide HD3 w hk)) (unhide HBX) (unhide HTL w (unhide HD3 w hk)) hn (unhide HGL w (unhide HD3 w hk))).mono ?_
      rintro e w' ⟨rfl, K⟩
      exact ⟨_, rfl, K, congrArg Value.bool (unhide HCC).symm⟩
    refine steps_cons (fun a w hk hn => ?_) ?_
    · have h3 : a.eval (.tmp 3) = .pointer (some ⟨g0, 0, none⟩) := hn.1
      have h33 : a.eval (.tmp 33) = .bool true := hn.2.1
      clear hn
      refine wants_guard (d := 33) rfl rfl h33 ?_
      exact grown_loadtri triP (.tmp 3) rfl h3 ((fun w'' k => unhide HST w'' (unhide HD3 w'' k)) w hk) rfl
    refine steps_cons (fun a w hk hn => ?_) ?_
    · have h1 : a.eval (.tmp 1) = .slice ax nx cx := hn.1
      have h33 : a.eval (.tmp 33) = .bool true := hn.2.1
      clear hn
      refine wants_guard (d := 33) rfl rfl h33 ?_
      exact grown_move (.tmp 1) rfl h1
    refine steps_cons (fun a w hk hn => ?_) ?_
    · have h2 : a.eval (.tmp 2) = .slice ar nr cr := hn.1
      have h33 : a.eval (.tmp 33) = .bool true := hn.2.1
      clear hn
      refine wants_guard (d := 33) rfl rfl h33 ?_
      exact grown_move (.tmp 2) rfl h2
    refine steps_cons (fun a w hk hn => ?_) ?_
    · have h38 : a.eval (.tmp 38) = .agg #[.int .i64 i, .int .i64 n, .slice ao N c] := hn.1
      have h39 : a.eval (.tmp 39) = .slice ax nx cx := hn.2.1
      have h40 : a.eval (.tmp 40) = .slice ar nr cr := hn.2.2.1
      have h33 : a.eval (.tmp 33) = .bool true := hn.2.2.2.1
      clear hn
      refine wants_guard (d := 33) rfl rfl h33 ?_
      refine grown_call (f := 32) rfl Tryd.func32 (by kernel_rfl) (by kernel_rfl) ?_
      simp only [List.map_toArray, List.map_cons, List.map_nil, h38, h39, h40]
      refine (rfcheck_any _ _ _ i n ps x rt w (unhide HV w (unhide HD3 w hk)) (unhide HSL w (unhide HD3 w hk)) (unhide HBX) (unhide HTL w (unhide HD3 w hk)) hn).mono ?_
      rintro e w' ⟨rfl, K⟩
      exact ⟨_, rfl, K, congrArg Value.bool (unhide HCC).symm⟩
    refine steps_cons (fun a w hk hn => ?_) ?_
    · have h37 : a.eval (.tmp 37) = .bool C := hn.1
      have h41 : a.eval (.tmp 41) = .bool C := hn.2.1
      have h33 : a.eval (.tmp 33) = .bool true := hn.2.2.1
      clear hn
      refine wants_guard (d := 33) rfl rfl h33 ?_
      refine grown_run (v := .bool true) ?_ (Kp.refl _ _) rfl
      obtain ⟨ρ, hρ, hc, hf, hg⟩ := eval_is a
      rw [hρ] at h37 h41 ⊢
      simp [go_sem, h37, h41]
    refine steps_cons (fun a w hk hn => ?_) ?_
    · have h33 : a.eval (.tmp 33) = .bool true := hn.1
      have h42 : a.eval (.tmp 42) = .bool true := hn.2.1
      clear hn
      refine wants_plain rfl ?_
      exact grown_pick _ _ _ true rfl h33 h42
    refine steps_cons (fun a w hk hn => ?_) ?_
    · have h43 : a.eval (.tmp 43) = .bool true := hn.1
      clear hn
      refine wants_plain rfl ?_
      exact grown_move (.tmp 43) rfl h43
    refine steps_cons (fun a w hk hn => ?_) ?_
    · have h3 : a.eval (.tmp 3) = .pointer (some ⟨g0, 0, none⟩) := hn.1
      have h44 : a.eval (.tmp 44) = .bool true := hn.2.1
      clear hn
      refine wants_guard (d := 44) rfl rfl h44 ?_
      exact grown_loadtri triP (.tmp 3) rfl h3 ((fun w'' k => unhide HST w'' (unhide HD3 w'' k)) w hk) rfl
    refine steps_cons (fun a w hk hn => ?_) ?_
    · have h1 : a.eval (.tmp 1) = .slice ax nx cx := hn.1
      have h44 : a.eval (.tmp 44) = .bool true := hn.2.1
      clear hn
      refine wants_guard (d := 44) rfl rfl h44 ?_
      exact grown_move (.tmp 1) rfl h1
    refine steps_cons (fun a w hk hn => ?_) ?_
    · have h9 : a.eval (.tmp 9) = .slice a5 m5 c5 := hn.1
      have h44 : a.eval (.tmp 44) = .bool true := hn.2.1
      clear hn
      refine wants_guard (d := 44) rfl rfl h44 ?_
      exact grown_move (.tmp 9) rfl h9
    refine steps_cons (fun a w hk hn => ?_) ?_
    · have h45 : a.eval (.tmp 45) = .agg #[.int .i64 i, .int .i64 n, .slice ao N c] := hn.1
      have h46 : a.eval (.tmp 46) = .slice ax nx cx := hn.2.1
      have h47 : a.eval (.tmp 47) = .slice a5 m5 c5 := hn.2.2.1
      have h44 : a.eval (.tmp 44) = .bool true := hn.2.2.2.1
      clear hn
      refine wants_guard (d := 44) rfl rfl h44 ?_
      refine grown_call (f := 25) rfl Tryd.func25 (by kernel_rfl) (by kernel_rfl) ?_
      simp only [List.map_toArray, List.map_cons, List.map_nil, h45, h46, h47]
      refine (check_any _ _ _ i n ps x r w (unhide HV w (unhide HD3 w hk)) (unhide HSL w (unhide HD3 w hk)) (unhide HBX) (unhide HT5 w hk) hn (unhide HGL w (unhide HD3 w hk))).mono ?_
      rintro e w' ⟨rfl, K⟩
      exact ⟨_, rfl, K, congrArg Value.bool (unhide HFF).symm⟩
    refine steps_cons (fun a w hk hn => ?_) ?_
    · have h10 : a.eval (.tmp 10) = .bool b := hn.1
      have h44 : a.eval (.tmp 44) = .bool true := hn.2.1
      clear hn
      refine wants_guard (d := 44) rfl rfl h44 ?_
      exact grown_move (.tmp 10) rfl h10
    refine steps_cons (fun a w hk hn => ?_) ?_
    · have h48 : a.eval (.tmp 48) = .bool b := hn.1
      have h49 : a.eval (.tmp 49) = .bool b := hn.2.1
      have h44 : a.eval (.tmp 44) = .bool true := hn.2.2.1
      clear hn
      refine wants_guard (d := 44) rfl rfl h44 ?_
      refine grown_run (v := .bool true) ?_ (Kp.refl _ _) rfl
      obtain ⟨ρ, hρ, hc, hf, hg⟩ := eval_is a
      rw [hρ] at h48 h49 ⊢
      simp [go_sem, h48, h49]
    refine steps_cons (fun a w hk hn => ?_) ?_
    · have h44 : a.eval (.tmp 44) = .bool true := hn.1
      have h50 : a.eval (.tmp 50) = .bool true := hn.2.1
      clear hn
      refine wants_plain rfl ?_
      exact grown_pick _ _ _ true rfl h44 h50
    refine steps_cons (fun a w hk hn => ?_) ?_
    · have h51 : a.eval (.tmp 51) = .bool true := hn.1
      clear hn
      refine wants_plain rfl ?_
      exact grown_move (.tmp 51) rfl h51
    refine steps_cons (fun a w hk hn => ?_) ?_
    · have h3 : a.eval (.tmp 3) = .pointer (some ⟨g0, 0, none⟩) := hn.1
      have h52 : a.eval (.tmp 52) = .bool true := hn.2.1
      clear hn
      refine wants_guard (d := 52) rfl rfl h52 ?_
      exact grown_fld2 triP (.tmp 3) rfl h3
    refine steps_cons (fun a w hk hn => ?_) ?_
    · have h53 : a.eval (.tmp 53) = .pointer (some ⟨g0, 2, none⟩) := hn.1
      have h52 : a.eval (.tmp 52) = .bool true := hn.2.1
      clear hn
      refine wants_guard (d := 52) rfl rfl h52 ?_
      exact grown_ldl (.tmp 53) rfl 2 _ _ _ h53 (cell_tri ((fun w'' k => unhide HST w'' (unhide HD3 w'' k)) w hk)).2.2
    refine steps_cons (fun a w hk hn => ?_) ?_
    · have h54 : a.eval (.tmp 54) = .slice ao N c := hn.1
      have h52 : a.eval (.tmp 52) = .bool true := hn.2.1
      clear hn
      refine wants_guard (d := 52) rfl rfl h52 ?_
      refine grown_call (f := 33) rfl Tryd.func33 (by kernel_rfl) (by kernel_rfl) ?_
      simp only [List.map_toArray, List.map_cons, List.map_nil, h54]
      refine (pright_any _ ps w (unhide HLL w (unhide HD3 w hk))).mono ?_
      rintro e w' ⟨rfl, rfl⟩
      exact ⟨_, rfl, Kp.refl _ _, congrArg Value.bool (unhide HRP).symm⟩
    refine steps_cons (fun a w hk hn => ?_) ?_
    · have h3 : a.eval (.tmp 3) = .pointer (some ⟨g0, 0, none⟩) := hn.1
      have h52 : a.eval (.tmp 52) = .bool true := hn.2.1
      clear hn
      refine wants_guard (d := 52) rfl rfl h52 ?_
      exact grown_fld2 triP (.tmp 3) rfl h3
    refine steps_cons (fun a w hk hn => ?_) ?_
    · have h56 : a.eval (.tmp 56) = .pointer (some ⟨g0, 2, none⟩) := hn.1
      have h52 : a.eval (.tmp 52) = .bool true := hn.2.1
      clear hn
      refine wants_guard (d := 52) rfl rfl h52 ?_
      exact grown_ldl (.tmp 56) rfl 2 _ _ _ h56 (cell_tri ((fun w'' k => unhide HST w'' (unhide HD3 w'' k)) w hk)).2.2
    refine steps_cons (fun a w hk hn => ?_) ?_
    · have h57 : a.eval (.tmp 57) = .slice ao N c := hn.1
      have h52 : a.eval (.tmp 52) = .bool true := hn.2.1
      clear hn
      refine wants_guard (d := 52) rfl rfl h52 ?_
      refine grown_call (f := 34) rfl Tryd.func34 (by kernel_rfl) (by kernel_rfl) ?_
      simp only [List.map_toArray, List.map_cons, List.map_nil, h57]
      refine (prright_any _ ps w (unhide HLL w (unhide HD3 w hk))).mono ?_
      rintro e w' ⟨rfl, rfl⟩
      exact ⟨_, rfl, Kp.refl _ _, congrArg Value.bool (unhide HRP).symm⟩
    refine steps_cons (fun a w hk hn => ?_) ?_
    · have h55 : a.eval (.tmp 55) = .bool R := hn.1
      have h58 : a.eval (.tmp 58) = .bool R := hn.2.1
      have h52 : a.eval (.tmp 52) = .bool true := hn.2.2.1
      clear hn
      refine wants_guard (d := 52) rfl rfl h52 ?_
      refine grown_run (v := .bool true) ?_ (Kp.refl _ _) rfl
      obtain ⟨ρ, hρ, hc, hf, hg⟩ := eval_is a
      rw [hρ] at h55 h58 ⊢
      simp [go_sem, h55, h58]
    refine steps_cons (fun a w hk hn => ?_) ?_
    · have h52 : a.eval (.tmp 52) = .bool true := hn.1
      have h59 : a.eval (.tmp 59) = .bool true := hn.2.1
      clear hn
      refine wants_plain rfl ?_
      exact grown_pick _ _ _ true rfl h52 h59
    refine steps_cons (fun a w hk hn => ?_) ?_
    · have h60 : a.eval (.tmp 60) = .bool true := hn.1
      clear hn
      refine wants_plain rfl ?_
      exact grown_assign (.tmp 60) rfl h60
    exact trivial
  intro W1 hkW1
  rintro _ rfl
  rintro _ rfl
  rintro _ rfl
  rintro _ rfl
  rintro _ rfl
  rintro _ rfl
  rintro _ rfl
  rintro _ rfl
  rintro _ rfl
  rintro _ rfl
  rintro _ rfl
  rintro _ rfl
  rintro _ rfl
  rintro _ rfl
  rintro _ rfl
  rintro _ rfl
  rintro _ rfl
  rintro _ rfl
  rintro _ rfl
  rintro _ rfl
  rintro _ rfl
  rintro _ rfl
  rintro _ rfl
  rintro _ rfl
  rintro _ rfl
  rintro _ rfl
  rintro _ rfl
  rintro _ rfl
  rintro _ rfl
  rintro _ rfl
  rintro _ rfl
  rintro _ rfl
  rintro _ rfl
  rintro _ rfl
  rintro _ rfl
  rintro _ rfl
  rintro _ rfl
  rintro _ rfl
  rintro _ rfl
  refine fin_nil ?_
  simp only [Act.put, List.set_cons_zero, List.set_cons_succ, List.setIfInBounds_toArray]
  go_wp2_with fail
  go_ret
  exact ⟨rfl, (unhide HK1).trans (unhide HD3 W1 hkW1)⟩
set_option maxRecDepth 100000 in
set_option maxHeartbeats 4000000 in
theorem lgrows_any (v vx vr : Value) (i n : Int) (ps : List (List Int)) (x rt : List Int) (w : World) (hV : TV w v i n ps) (hS : Sl w vx x) (hB : Bs x) (hT : Sl w vr rt) (hn : n ≤ 9223372036854775807) (hG : Gl w) :
    Calls Tryd.prog 22 #[v, vx, vr] w fun e w' => e = .returned (.bool true) ∧ Kp [] w w' := by
  obtain ⟨ao, c, e, hL⟩ := hV.shape
  subst e
  obtain ⟨N, hN⟩ : ∃ N, N = ps.length := ⟨_, rfl⟩
  rw [← hN] at hL hV ⊢
  obtain ⟨ob, hob⟩ : ∃ o : Obj, o = (.cells #[.int .i64 i, .int .i64 n, .slice ao N c] 39) := ⟨_, rfl⟩
  have K1 : Kp [] w (w.alloc ob) := (Kp.refl [] w).alloc ob
  obtain ⟨w1, hw1⟩ : ∃ w1, w1 = w.alloc ob := ⟨_, rfl⟩
  obtain ⟨g0, hg0⟩ : ∃ g0, g0 = w.heap.size := ⟨_, rfl⟩
  rw [← hw1] at K1
  have HK1 := hide K1
  have hst : w1.heap[g0]? = some (.cells #[.int .i64 i, .int .i64 n, .slice ao N c] 39 (0, 0)) := by rw [hw1, hg0, hob]; exact heap_alloc_new w _
  have HST : Hid (∀ w', Kp [] w1 w' → w'.heap[g0]? = some (.cells #[.int .i64 i, .int .i64 n, .slice ao N c] 39 (0, 0))) := fun w' k => k.heap hst (by simp)
  obtain ⟨z0, z1, z2⟩ := cell_tri hst
  have HV : Hid (∀ w', Kp [] w1 w' → TV w' (.agg #[.int .i64 i, .int .i64 n, .slice ao N c]) i n ps) := fun w' k => hV.kept (K1.trans k)
  have HSL : Hid (∀ w', Kp [] w1 w' → Sl w' vx x) := fun w' k => hS.kept (K1.trans k) (by simp)
  have HTL : Hid (∀ w', Kp [] w1 w' → Sl w' vr rt) := fun w' k => hT.kept (K1.trans k) (by simp)
  have HLL : Hid (∀ w', Kp [] w1 w' → LcM ps (.slice ao N c) w') := fun w' k => hL.kept (K1.trans k)
  have HGL : Hid (∀ w', Kp [] w1 w' → Gl w') := fun w' k => hG.kept (K1.trans k) (by simp)
  have HBX := hide hB
  rw [hob] at hw1
  obtain ⟨b, hb⟩ : ∃ b, b = ldsOk i n ps x := ⟨_, rfl⟩
  obtain ⟨C, hC⟩ : ∃ C, C = cgrP i n ps x rt := ⟨_, rfl⟩
  have HCC := hide hC
  obtain ⟨r1, hr1⟩ : ∃ r, r = ldsR1 i n ps x := ⟨_, rfl⟩
  obtain ⟨r2, hr2⟩ : ∃ r, r = ldsR2 i n ps x := ⟨_, rfl⟩
  obtain ⟨S1, hS1⟩ : ∃ S, S = strOfNums r1 := ⟨_, rfl⟩
  obtain ⟨S2, hS2⟩ : ∃ S, S = strOfNums r2 := ⟨_, rfl⟩
  have HS1 := hide hS1
  have HS2 := hide hS2
  obtain ⟨F, hF⟩ : ∃ F, F = cgrP i n ps r1 r2 := ⟨_, rfl⟩
  have HFF := hide hF
  have HRB : Hid (Bs r1) := by rw [hr1]; exact (ldsR_bs hL.bs hB).1
  have HR1 := hide hr1
  have HR2 := hide hr2
  have HBB := hide hb
  obtain ⟨ax, cx, hvx, -⟩ := hS
  obtain ⟨nx, hnx⟩ : ∃ nx, nx = x.length := ⟨_, rfl⟩
  rw [← hnx] at hvx
  subst hvx
  obtain ⟨ar, cr, hvr, -⟩ := hT
  obtain ⟨nr, hnr⟩ : ∃ nr, nr = rt.length := ⟨_, rfl⟩
  rw [← hnr] at hvr
  subst hvr
  clear hV hL hB hN hnx hnr K1 hob hst hG hb hC hr1 hr2 hS1 hS2 hF
  have hC := leads_any _ (.slice ax nx cx) i n ps x w1 (unhide HV w1 (Kp.refl _ _)) (unhide HSL w1 (Kp.refl _ _)) (unhide HBX) hn (unhide HGL w1 (Kp.refl _ _))
  rw [← unhide HBB, ← unhide HR1, ← unhide HR2] at hC
  have HC := hide hC
  clear hC
  go_enter Tryd.func22, Tryd.ntmps22
  go_wp2_with fail
  rw [← hw1, ← hg0]
  clear hw1 hg0
  refine (unhide HC).mono ?_
  rintro ee w2 ⟨a3, m3, c3, a4, m4, c4, rfl, S3, S4, K2⟩
  have HS3 := hide S3
  have HS4 := hide S4
  have HK2 := hide K2
  clear S3 S4 K2 HC z0 z1 z2
  obtain ⟨z0, z1, z2⟩ := cell_tri (unhide HST w2 (unhide HK2))
  have hC := rfleads_any _ (.slice ax nx cx) i n ps x w2 (unhide HV w2 (unhide HK2)) (unhide HSL w2 (unhide HK2)) (unhide HBX) hn
  rw [← unhide HBB, ← unhide HR1, ← unhide HR2] at hC
  have HC := hide hC
  clear hC
  go_wp2_with fail
  refine (unhide HC).mono ?_
  rintro ee w3 ⟨a5, m5, c5, a6, m6, c6, rfl, S5, S6, K3⟩
  have HT3 : Hid (∀ w', Kp [] w3.drew w' → Sl w' (.slice a3 m3 c3) r1) := fun w' k => (unhide HS3).kept (K3.trans ((kp_drew w3).trans k)) (by simp)
  have HT4 : Hid (∀ w', Kp [] w3.drew w' → Sl w' (.slice a4 m4 c4) r2) := fun w' k => (unhide HS4).kept (K3.trans ((kp_drew w3).trans k)) (by simp)
  have HT5 : Hid (∀ w', Kp [] w3.drew w' → Sl w' (.slice a5 m5 c5) r1) := fun w' k => S5.kept ((kp_drew w3).trans k) (by simp)
  have HT6 : Hid (∀ w', Kp [] w3.drew w' → Sl w' (.slice a6 m6 c6) r2) := fun w' k => S6.kept ((kp_drew w3).trans k) (by simp)
  have HD3 : Hid (∀ w', Kp [] w3.drew w' → Kp [] w1 w') := fun w' k => ((unhide HK2).trans K3).trans ((kp_drew w3).trans k)
  clear S5 S6 K3 HC z0 z1 z2
  go_wp2_with fail
  refine region_grow Tryd.mixed [Is (.bool b), Is (.bool b), Is (.bool true), Is (.bool true), Is (.slice a3 m3 c3), Is (.string S1), Is (.slice a5 m5 c5), Is (.string S1), Is (.bool true), Is (.bool true), Is (.bool true), Is (.slice a4 m4 c4), Is (.string S2), Is (.slice a6 m6 c6), Is (.string S2), Is (.bool true), Is (.bool true), Is (.bool true), Is (.agg #[.int .i64 i, .int .i64 n, .slice ao N c]), Is (.slice ax nx cx), Is (.slice ar nr cr), Is (.bool C), Is (.agg #[.int .i64 i, .int .i64 n, .slice ao N c]), Is (.slice ax nx cx), Is (.slice ar nr cr), Is (.bool C), Is (.bool true), Is (.bool true), Is (.bool true), Is (.agg #[.int .i64 i, .int .i64 n, .slice ao N c]), Is (.slice a5 m5 c5), Is (.slice a6 m6 c6), Is (.bool F), Is (.agg #[.int .i64 i, .int .i64 n, .slice ao N c]), Is (.slice a5 m5 c5), Is (.slice a6 m6 c6), Is (.bool F), Is (.bool true), Is (.bool true), Is (.bool true)] [[(9, none)], [(12, none)], [(27, some 0), (28, some 1)], [(29, some 2)], [(7, none), (30, some 3)], [(31, some 4), (30, some 3)], [(10, none), (30, some 3)], [(33, some 6), (30, some 3)], [(32, some 5), (34, some 7), (30, some 3)], [(30, some 3), (35, some 8)], [(36, some 9)], [(8, none), (37, some 10)], [(38, some 11), (37, some 10)], [(11, none), (37, some 10)], [(40, some 13), (37, some 10)], [(39, some 12), (41, some 14), (37, some 10)], [(37, some 10), (42, some 15)], [(43, some 16)], [(3, none), (44, some 17)], [(1, none), (44, some 17)], [(2, none), (44, some 17)], [(45, some 18), (46, some 19), (47, some 20), (44, some 17)], [(3, none), (44, some 17)], [(1, none), (44, some 17)], [(2, none), (44, some 17)], [(49, some 22), (50, some 23), (51, some 24), (44, some 17)], [(48, some 21), (52, some 25), (44, some 17)], [(44, some 17), (53, some 26)], [(54, some 27)], [(3, none), (55, some 28)], [(10, none), (55, some 28)], [(11, none), (55, some 28)], [(56, some 29), (57, some 30), (58, some 31), (55, some 28)], [(3, none), (55, some 28)], [(10, none), (55, some 28)], [(11, none), (55, some 28)], [(60, some 33), (61, some 34), (62, some 35), (55, some 28)], [(59, some 32), (63, some 36), (55, some 28)], [(55, some 28), (64, some 37)], [(65, some 38)]] (by kernel_rfl) ?_ ?_ ?_
  · simp only [List.mem_cons, List.not_mem_nil, or_false]
    intro R hR
    rcases hR with rfl | rfl | rfl | rfl | rfl | rfl | rfl | rfl | rfl | rfl | rfl | rfl | rfl | rfl | rfl | rfl | rfl | rfl | rfl | rfl | rfl | rfl | rfl | rfl | rfl | rfl | rfl | rfl | rfl | rfl | rfl | rfl | rfl | rfl | rfl | rfl | rfl | rfl | rfl | rfl <;> first | exact stable_is _
  · refine steps_cons (fun a w hk hn => ?_) ?_
    · have h9 : a.eval (.tmp 9) = .bool b := hn.1
      clear hn
      refine wants_plain rfl ?_
      exact grown_move (.tmp 9) rfl h9
    refine steps_cons (fun a w hk hn => ?_) ?_
    · have h12 : a.eval (.tmp 12) = .bool b := hn.1
      clear hn
      refine wants_plain rfl ?_
      exact grown_move (.tmp 12) rfl h12
    refine steps_cons (fun a w hk hn => ?_) ?_
    · have h27 : a.eval (.tmp 27) = .bool b := hn.1
      have h28 : a.eval (.tmp 28) = .bool b := hn.2.1
      clear hn
      refine wants_plain rfl ?_
      refine grown_run (v := .bool true) ?_ (Kp.refl _ _) rfl
      obtain ⟨ρ, hρ, hc, hf, hg⟩ := eval_is a
      rw [hρ] at h27 h28 ⊢
      simp [go_sem, h27, h28]
    refine steps_cons (fun a w hk hn => ?_) ?_
    · have h29 : a.eval (.tmp 29) = .bool true := hn.1
      clear hn
      refine wants_plain rfl ?_
      exact grown_move (.tmp 29) rfl h29
    refine steps_cons (fun a w hk hn => ?_) ?_
    · have h7 : a.eval (.tmp 7) = .slice a3 m3 c3 := hn.1
      have h30 : a.eval (.tmp 30) = .bool true := hn.2.1
      clear hn
      refine wants_guard (d := 30) rfl rfl h30 ?_
      exact grown_move (.tmp 7) rfl h7
    refine steps_cons (fun a w hk hn => ?_) ?_
    · have h31 : a.eval (.tmp 31) = .slice a3 m3 c3 := hn.1
      have h30 : a.eval (.tmp 30) = .bool true := hn.2.1
      clear hn
      refine wants_guard (d := 30) rfl rfl h30 ?_
      exact grown_conv (.tmp 31) _ _ 5 (r1) rfl (by rw [h31]; exact unhide HT3 w hk) Tryd.underlying30 Tryd.underlying5 Tryd.underlying9 (congrArg Value.string (unhide HS1).symm)
    refine steps_cons (fun a w hk hn => ?_) ?_
    · have h10 : a.eval (.tmp 10) = .slice a5 m5 c5 := hn.1
      have h30 : a.eval (.tmp 30) = .bool true := hn.2.1
      clear hn
      refine wants_guard (d := 30) rfl rfl h30 ?_
      exact grown_move (.tmp 10) rfl h10
    refine steps_cons (fun a w hk hn => ?_) ?_
    · have h33 : a.eval (.tmp 33) = .slice a5 m5 c5 := hn.1
      have h30 : a.eval (.tmp 30) = .bool true := hn.2.1
      clear hn
      refine wants_guard (d := 30) rfl rfl h30 ?_
      exact grown_conv (.tmp 33) _ _ 5 (r1) rfl (by rw [h33]; exact unhide HT5 w hk) Tryd.underlying30 Tryd.underlying5 Tryd.underlying9 (congrArg Value.string (unhide HS1).symm)
    refine steps_cons (fun a w hk hn => ?_) ?_
    · have h32 : a.eval (.tmp 32) = .string S1 := hn.1
      have h34 : a.eval (.tmp 34) = .string S1 := hn.2.1
      have h30 : a.eval (.tmp 30) = .bool true := hn.2.2.1
      clear hn
      refine wants_guard (d := 30) rfl rfl h30 ?_
      refine grown_run (v := .bool true) ?_ (Kp.refl _ _) rfl
      obtain ⟨ρ, hρ, hc, hf, hg⟩ := eval_is a
      rw [hρ] at h32 h34 ⊢
      simp [go_sem, h32, h34]
    refine steps_cons (fun a w hk hn => ?_) ?_
    · have h30 : a.eval (.tmp 30) = .bool true := hn.1
      have h35 : a.eval (.tmp 35) = .bool true := hn.2.1
      clear hn
      refine wants_plain rfl ?_
      exact grown_pick _ _ _ true rfl h30 h35
    refine steps_cons (fun a w hk hn => ?_) ?_
    · have h36 : a.eval (.tmp 36) = .bool true := hn.1
      clear hn
      refine wants_plain rfl ?_
      exact grown_move (.tmp 36) rfl h36
    refine steps_cons (fun a w hk hn => ?_) ?_
    · have h8 : a.eval (.tmp 8) = .slice a4 m4 c4 := hn.1
      have h37 : a.eval (.tmp 37) = .bool true := hn.2.1
      clear hn
      refine wants_guard (d := 37) rfl rfl h37 ?_
      exact grown_move (.tmp 8) rfl h8
    refine steps_cons (fun a w hk hn => ?_) ?_
    · have h38 : a.eval (.tmp 38) = .slice a4 m4 c4 := hn.1
      have h37 : a.eval (.tmp 37) = .bool true := hn.2.1
      clear hn
      refine wants_guard (d := 37) rfl rfl h37 ?_
      exact grown_conv (.tmp 38) _ _ 5 (r2) rfl (by rw [h38]; exact unhide HT4 w hk) Tryd.underlying30 Tryd.underlying5 Tryd.underlying9 (congrArg Value.string (unhide HS2).symm)
    refine steps_cons (fun a w hk hn => ?_) ?_
    · have h11 : a.eval (.tmp 11) = .slice a6 m6 c6 := hn.1
      have h37 : a.eval (.tmp 37) = .bool true := hn.2.1
      clear hn
      refine wants_guard (d := 37) rfl rfl h37 ?_
      exact grown_move (.tmp 11) rfl h11
    refine steps_cons (fun a w hk hn => ?_) ?_
    · have h40 : a.eval (.tmp 40) = .slice a6 m6 c6 := hn.1
      have h37 : a.eval (.tmp 37) = .bool true := hn.2.1
      clear hn
      refine wants_guard (d := 37) rfl rfl h37 ?_
      exact grown_conv (.tmp 40) _ _ 5 (r2) rfl (by rw [h40]; exact unhide HT6 w hk) Tryd.underlying30 Tryd.underlying5 Tryd.underlying9 (congrArg Value.string (unhide HS2).symm)
    refine steps_cons (fun a w hk hn => ?_) ?_
    · have h39 : a.eval (.tmp 39) = .string S2 := hn.1
      have h41 : a.eval (.tmp 41) = .string S2 := hn.2.1
      have h37 : a.eval (.tmp 37) = .bool true := hn.2.2.1
      clear hn
      refine wants_guard (d := 37) rfl rfl h37 ?_
      refine grown_run (v := .bool true) ?_ (Kp.refl _ _) rfl
      obtain ⟨ρ, hρ, hc, hf, hg⟩ := eval_is a
      rw [hρ] at h39 h41 ⊢
      simp [go_sem, h39, h41]
    refine steps_cons (fun a w hk hn => ?_) ?_
    · have h37 : a.eval (.tmp 37) = .bool true := hn.1
      have h42 : a.eval (.tmp 42) = .bool true := hn.2.1
      clear hn
      refine wants_plain rfl ?_
      exact grown_pick _ _ _ true rfl h37 h42
    refine steps_cons (fun a w hk hn => ?_) ?_
    · have h43 : a.eval (.tmp 43) = .bool true := hn.1
      clear hn
      refine wants_plain rfl ?_
      exact grown_move (.tmp 43) rfl h43
    refine steps_cons (fun a w hk hn => ?_) ?_
    · have h3 : a.eval (.tmp 3) = .pointer (some ⟨g0, 0, none⟩) := hn.1
      have h44 : a.eval (.tmp 44) = .bool true := hn.2.1
      clear hn
      refine wants_guard (d := 44) rfl rfl h44 ?_
      exact grown_loadtri triG (.tmp 3) rfl h3 ((fun w'' k => unhide HST w'' (unhide HD3 w'' k)) w hk) rfl
    refine steps_cons (fun a w hk hn => ?_) ?_
    · have h1 : a.eval (.tmp 1) = .slice ax nx cx := hn.1
      have h44 : a.eval (.tmp 44) = .bool true := hn.2.1
      clear hn
      refine wants_guard (d := 44) rfl rfl h44 ?_
      exact grown_move (.tmp 1) rfl h1
    refine steps_cons (fun a w hk hn => ?_) ?_
    · have h2 : a.eval (.tmp 2) = .slice ar nr cr := hn.1
      have h44 : a.eval (.tmp 44) = .bool true := hn.2.1
      clear hn
      refine wants_guard (d := 44) rfl rfl h44 ?_
      exact grown_move (.tmp 2) rfl h2
    refine steps_cons (fun a w hk hn => ?_) ?_
    · have h45 : a.eval (.tmp 45) = .agg #[.int .i64 i, .int .i64 n, .slice ao N c] := hn.1
      have h46 : a.eval (.tmp 46) = .slice ax nx cx := hn.2.1
      have h47 : a.eval (.tmp 47) = .slice ar nr cr := hn.2.2.1
      have h44 : a.eval (.tmp 44) = .bool true := hn.2.2.2.1
      clear hn
      refine wants_guard (d := 44) rfl rfl h44 ?_
      refine grown_call (f := 27) rfl Tryd.func27 (by kernel_rfl) (by kernel_rfl) ?_
      simp only [List.map_toArray, List.map_cons, List.map_nil, h45, h46, h47]
      refine (cgrow_any _ _ _ i n ps x rt w (unhide HV w (unhide HD3 w hk)) (unhide HSL w (unhide HD3 w hk)) (unhide HBX) (unhide HTL w (unhide HD3 w hk)) hn (unhide HGL w (unhide HD3 w hk))).mono ?_
      rintro e w' ⟨rfl, K⟩
      exact ⟨_, rfl, K, congrArg Value.bool (unhide HCC).symm⟩
    refine steps_cons (fun a w hk hn => ?_) ?_
    · have h3 : a.eval (.tmp 3) = .pointer (some ⟨g0, 0, none⟩) := hn.1
      have h44 : a.eval (.tmp 44) = .bool true := hn.2.1
      clear hn
      refine wants_guard (d := 44) rfl rfl h44 ?_
      exact grown_loadtri triG (.tmp 3) rfl h3 ((fun w'' k => unhide HST w'' (unhide HD3 w'' k)) w hk) rfl
    refine steps_cons (fun a w hk hn => ?_) ?_
    · have h1 : a.eval (.tmp 1) = .slice ax nx cx := hn.1
      have h44 : a.eval (.tmp 44) = .bool true := hn.2.1
      clear hn
      refine wants_guard (d := 44) rfl rfl h44 ?_
      exact grown_move (.tmp 1) rfl h1
    refine steps_cons (fun a w hk hn => ?_) ?_
    · have h2 : a.eval (.tmp 2) = .slice ar nr cr := hn.1
      have h44 : a.eval (.tmp 44) = .bool true := hn.2.1
      clear hn
      refine wants_guard (d := 44) rfl rfl h44 ?_
      exact grown_move (.tmp 2) rfl h2
    refine steps_cons (fun a w hk hn => ?_) ?_
    · have h49 : a.eval (.tmp 49) = .agg #[.int .i64 i, .int .i64 n, .slice ao N c] := hn.1
      have h50 : a.eval (.tmp 50) = .slice ax nx cx := hn.2.1
      have h51 : a.eval (.tmp 51) = .slice ar nr cr := hn.2.2.1
      have h44 : a.eval (.tmp 44) = .bool true := hn.2.2.2.1
      clear hn
      refine wants_guard (d := 44) rfl rfl h44 ?_
      refine grown_call (f := 40) rfl Tryd.func40 (by kernel_rfl) (by kernel_rfl) ?_
      simp only [List.map_toArray, List.map_cons, List.map_nil, h49, h50, h51]
      refine (rfcgrow_any _ _ _ i n ps x rt w (unhide HV w (unhide HD3 w hk)) (unhide HSL w (unhide HD3 w hk)) (unhide HBX) (unhide HTL w (unhide HD3 w hk)) hn).mono ?_
      rintro e w' ⟨rfl, K⟩
      exact ⟨_, rfl, K, congrArg Value.bool (unhide HCC).symm⟩
    refine steps_cons (fun a w hk hn => ?_) ?_
    · have h48 : a.eval (.tmp 48) = .bool C := hn.1
      have h52 : a.eval (.tmp 52) = .bool C := hn.2.1
      have h44 : a.eval (.tmp 44) = .bool true := hn.2.2.1
      clear hn
      refine wants_guard (d := 44) rfl rfl h44 ?_
      refine grown_run (v := .bool true) ?_ (Kp.refl _ _) rfl
      obtain ⟨ρ, hρ, hc, hf, hg⟩ := eval_is a
      rw [hρ] at h48 h52 ⊢
      simp [go_sem, h48, h52]
    refine steps_cons (fun a w hk hn => ?_) ?_
    · have h44 : a.eval (.tmp 44) = .bool true := hn.1
      have h53 : a.eval (.tmp 53) = .bool true := hn.2.1
      clear hn
      refine wants_plain rfl ?_
      exact grown_pick _ _ _ true rfl h44 h53
    refine steps_cons (fun a w hk hn => ?_) ?_
    · have h54 : a.eval (.tmp 54) = .bool true := hn.1
      clear hn
      refine wants_plain rfl ?_
      exact grown_move (.tmp 54) rfl h54
    refine steps_cons (fun a w hk hn => ?_) ?_
    · have h3 : a.eval (.tmp 3) = .pointer (some ⟨g0, 0, none⟩) := hn.1
      have h55 : a.eval (.tmp 55) = .bool true := hn.2.1
      clear hn
      refine wants_guard (d := 55) rfl rfl h55 ?_
      exact grown_loadtri triG (.tmp 3) rfl h3 ((fun w'' k => unhide HST w'' (unhide HD3 w'' k)) w hk) rfl
    refine steps_cons (fun a w hk hn => ?_) ?_
    · have h10 : a.eval (.tmp 10) = .slice a5 m5 c5 := hn.1
      have h55 : a.eval (.tmp 55) = .bool true := hn.2.1
      clear hn
      refine wants_guard (d := 55) rfl rfl h55 ?_
      exact grown_move (.tmp 10) rfl h10
    refine steps_cons (fun a w hk hn => ?_) ?_
    · have h11 : a.eval (.tmp 11) = .slice a6 m6 c6 := hn.1
      have h55 : a.eval (.tmp 55) = .bool true := hn.2.1
      clear hn
      refine wants_guard (d := 55) rfl rfl h55 ?_
      exact grown_move (.tmp 11) rfl h11
    refine steps_cons (fun a w hk hn => ?_) ?_
    · have h56 : a.eval (.tmp 56) = .agg #[.int .i64 i, .int .i64 n, .slice ao N c] := hn.1
      have h57 : a.eval (.tmp 57) = .slice a5 m5 c5 := hn.2.1
      have h58 : a.eval (.tmp 58) = .slice a6 m6 c6 := hn.2.2.1
      have h55 : a.eval (.tmp 55) = .bool true := hn.2.2.2.1
      clear hn
      refine wants_guard (d := 55) rfl rfl h55 ?_
      refine grown_call (f := 27) rfl Tryd.func27 (by kernel_rfl) (by kernel_rfl) ?_
      simp only [List.map_toArray, List.map_cons, List.map_nil, h56, h57, h58]
      refine (cgrow_any _ _ _ i n ps r1 r2 w (unhide HV w (unhide HD3 w hk)) (unhide HT5 w hk) (unhide HRB) (unhide HT6 w hk) hn (unhide HGL w (unhide HD3 w hk))).mono ?_
      rintro e w' ⟨rfl, K⟩
      exact ⟨_, rfl, K, congrArg Value.bool (unhide HFF).symm⟩
    refine steps_cons (fun a w hk hn => ?_) ?_
    · have h3 : a.eval (.tmp 3) = .pointer (some ⟨g0, 0, none⟩) := hn.1
      have h55 : a.eval (.tmp 55) = .bool true := hn.2.1
      clear hn
      refine wants_guard (d := 55) rfl rfl h55 ?_
      exact grown_loadtri triG (.tmp 3) rfl h3 ((fun w'' k => unhide HST w'' (unhide HD3 w'' k)) w hk) rfl
    refine steps_cons (fun a w hk hn => ?_) ?_
    · have h10 : a.eval (.tmp 10) = .slice a5 m5 c5 := hn.1
      have h55 : a.eval (.tmp 55) = .bool true := hn.2.1
      clear hn
      refine wants_guard (d := 55) rfl rfl h55 ?_
      exact grown_move (.tmp 10) rfl h10
    refine steps_cons (fun a w hk hn => ?_) ?_
    · have h11 : a.eval (.tmp 11) = .slice a6 m6 c6 := hn.1
      have h55 : a.eval (.tmp 55) = .bool true := hn.2.1
      clear hn
      refine wants_guard (d := 55) rfl rfl h55 ?_
      exact grown_move (.tmp 11) rfl h11
    refine steps_cons (fun a w hk hn => ?_) ?_
    · have h60 : a.eval (.tmp 60) = .agg #[.int .i64 i, .int .i64 n, .slice ao N c] := hn.1
      have h61 : a.eval (.tmp 61) = .slice a5 m5 c5 := hn.2.1
      have h62 : a.eval (.tmp 62) = .slice a6 m6 c6 := hn.2.2.1
      have h55 : a.eval (.tmp 55) = .bool true := hn.2.2.2.1
      clear hn
      refine wants_guard (d := 55) rfl rfl h55 ?_
      refine grown_call (f := 40) rfl Tryd.func40 (by kernel_rfl) (by kernel_rfl) ?_
      simp only [List.map_toArray, List.map_cons, List.map_nil, h60, h61, h62]
      refine (rfcgrow_any _ _ _ i n ps r1 r2 w (unhide HV w (unhide HD3 w hk)) (unhide HT5 w hk) (unhide HRB) (unhide HT6 w hk) hn).mono ?_
      rintro e w' ⟨rfl, K⟩
      exact ⟨_, rfl, K, congrArg Value.bool (unhide HFF).symm⟩
    refine steps_cons (fun a w hk hn => ?_) ?_
    · have h59 : a.eval (.tmp 59) = .bool F := hn.1
      have h63 : a.eval (.tmp 63) = .bool F := hn.2.1
      have h55 : a.eval (.tmp 55) = .bool true := hn.2.2.1
      clear hn
      refine wants_guard (d := 55) rfl rfl h55 ?_
      refine grown_run (v := .bool true) ?_ (Kp.refl _ _) rfl
      obtain ⟨ρ, hρ, hc, hf, hg⟩ := eval_is a
      rw [hρ] at h59 h63 ⊢
      simp [go_sem, h59, h63]
    refine steps_cons (fun a w hk hn => ?_) ?_
    · have h55 : a.eval (.tmp 55) = .bool true := hn.1
      have h64 : a.eval (.tmp 64) = .bool true := hn.2.1
      clear hn
      refine wants_plain rfl ?_
      exact grown_pick _ _ _ true rfl h55 h64
    refine steps_cons (fun a w hk hn => ?_) ?_
    · have h65 : a.eval (.tmp 65) = .bool true := hn.1
      clear hn
      refine wants_plain rfl ?_
      exact grown_assign (.tmp 65) rfl h65
    exact trivial
  intro W1 hkW1
  rintro _ rfl
  rintro _ rfl
  rintro _ rfl
  rintro _ rfl
  rintro _ rfl
  rintro _ rfl
  rintro _ rfl
  rintro _ rfl
  rintro _ rfl
  rintro _ rfl
  rintro _ rfl
  rintro _ rfl
  rintro _ rfl
  rintro _ rfl
  rintro _ rfl
  rintro _ rfl
  rintro _ rfl
  rintro _ rfl
  rintro _ rfl
  rintro _ rfl
  rintro _ rfl
  rintro _ rfl
  rintro _ rfl
  rintro _ rfl
  rintro _ rfl
  rintro _ rfl
  rintro _ rfl
  rintro _ rfl
  rintro _ rfl
  rintro _ rfl
  rintro _ rfl
  rintro _ rfl
  rintro _ rfl
  rintro _ rfl
  rintro _ rfl
  rintro _ rfl
  rintro _ rfl
  rintro _ rfl
  rintro _ rfl
  rintro _ rfl
  refine fin_nil ?_
  simp only [Act.put, List.set_cons_zero, List.set_cons_succ, List.setIfInBounds_toArray]
  go_wp2_with fail
  go_ret
  exact ⟨rfl, (unhide HK1).trans (unhide HD3 W1 hkW1)⟩
end Go.Proofs.YtphhofgjnlfjmaaDoor
