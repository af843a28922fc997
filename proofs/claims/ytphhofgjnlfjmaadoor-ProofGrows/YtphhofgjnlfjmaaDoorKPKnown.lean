/-
  The contract of the law package's known.
-/
import Derived.Test.YtphhofgjnlfjmaaDoorKPLeds
import Derived.Test.YtphhofgjnlfjmaaDoorKPMake
import Derived.Test.YtphhofgjnlfjmaaDoorKPProg
import Derived.Test.YtphhofgjnlfjmaaDoorKTKeep
import Derived.Test.YtphhofgjnlfjmaaDoorKTRef
namespace Go.Proofs.YtphhofgjnlfjmaaDoor
open Go.RowKit
open Go.Proofs

/-- the law package's leaves. -/
theorem kl_any (N : Nat) (w : World) (hN : N ≤ 1000) :
    Calls Tryd.prog 9 #[.int .i64 N] w fun e w' => ∃ ao c, e = .returned (.slice ao N c) ∧ LcM (kleavesP N) (.slice ao N c) w' ∧ Kp [] w w' := by
  refine (kleaves_any N w hN).mono ?_
  rintro e w1 ⟨ao, m, c, rfl, A⟩
  have L := A.lc (by rw [kleavesP_len]; exact hN)
  obtain rfl : N = m := (A.cap.trans (kleavesP_len N)).symm
  exact ⟨ao, c, rfl, L, A.kp⟩
theorem cnt74 : cntP 7 4 = 3 := by decide
theorem chk_no : chkP 0 0 [] [] [] = false := by
  unfold chkP
  rw [ledOk_not (fun h => by have := h.2.1; simp at this)]; rfl

set_option maxRecDepth 100000 in
set_option maxHeartbeats 4000000 in
theorem pknown_any (w : World) (hG : Gl w) : Calls Tryd.prog 12 #[] w fun e w' => e = .returned (.bool true) ∧ Kp [] w w' := by
  have HG := hide hG
  have HC0 := hide (kleaves_any 7 w (by omega))
  clear hG
  go_enter Tryd.func12, Tryd.ntmps12
  go_wp2_with fail
  refine (unhide HC0).mono ?_
  rintro ee w1 ⟨al, ml, cl, rfl, A1⟩
  obtain ⟨ls, hls⟩ : ∃ ls, ls = kleavesP 7 := ⟨_, rfl⟩
  have hl7 : ls.length = 7 := by rw [hls]; exact kleavesP_len 7
  have h32 : ∀ x ∈ ls, x.length = 32 := by rw [hls]; exact kleavesP_all 7
  have hm : ∀ x ∈ ls, x.length ≤ 1000 := fun x hx => by have := h32 x hx; omega
  have hL : LcM ls (.slice al ml cl) w1 := by rw [hls]; exact A1.lc (by rw [kleavesP_len]; omega)
  have hml : ml = 7 := by obtain ⟨_, _, e, _⟩ := hL.shape; injection e with _ e2 _; omega
  subst hml
  have HK1 := hide A1.kp
  have hG1 : Gl w1 := (unhide HG).kept A1.kp (by simp)
  have HC := hide (include_ok _ ls 4 w1 hL (by omega) (by omega) hm hG1)
  obtain ⟨ps, hps⟩ : ∃ ps, ps = incP ls 4 := ⟨_, rfl⟩
  obtain ⟨r, hr⟩ : ∃ r, r = trootP ls := ⟨_, rfl⟩
  rw [← hps, hl7] at HC
  obtain ⟨x, hx⟩ : ∃ x, ls[4]? = some x := ⟨_, List.getElem?_eq_getElem (by omega)⟩
  have HX := hide hx
  have HXB := hide (hL.bs x (List.mem_of_getElem? hx))
  have HCP : Hid (chkP 4 7 ps x r = true) := by
    rw [hps, hr]
    have := chkP_inc h32 (by omega) hx
    rw [hl7] at this
    exact this
  have HPL : Hid (ps.length = 3) := by rw [hps, incP_len 7 ls 4 hl7]; exact cnt74
  have HNO : Hid (chkP 0 0 [] [] [] = false) := chk_no
  have HRR := hide hr
  have HL := hide hL
  have HG1 := hide hG1
  have HM := hide hm
  have HNL := hide hl7
  clear hL hG1 hm h32 hps hr hx hls hl7 A1 HC0 HG
  go_wp2_with fail
  refine (unhide HC).mono ?_
  rintro ee w2 ⟨v2, rfl, V2, K2⟩
  obtain ⟨a2, c2, e2, L2⟩ := V2.shape
  rw [unhide HPL] at e2 L2
  subst e2
  have HV2 := hide V2
  have HK2 := hide K2
  have G2 := heap_alloc_new w2 (.cells #[.int .i64 0, .int .i64 0, .slice none 0 0] 32)
  clear V2 L2 K2 HC
  go_wp2_with (refine wpList_store_tri triP rfl (.tmp 2) (.tmp 10) rfl w2.heap.size rfl _ _ _ _ _ _ G2 rfl ⟨rfl, rfl, rfl⟩ ?_; intro w3 G3 K3; refine Hid.out ?_)
  have K23 : Kp [] w2 w3 := ((Kp.refl [] w2).alloc _).then K3 (by simp)
  have HK3 := hide ((unhide HK2).trans K23)
  obtain ⟨g0, hg0⟩ : ∃ g, g = w2.heap.size := ⟨_, rfl⟩
  rw [← hg0] at G3 ⊢
  have HST : Hid (∀ w', Kp [] w3 w' → w'.heap[g0]? = some (.cells #[.int .i64 4, .int .i64 7, .slice a2 3 c2] 32 (0, 0))) := fun w' k => k.heap G3 (by simp)
  have HV3 : Hid (∀ w', Kp [] w3 w' → TV w' (.agg #[.int .i64 4, .int .i64 7, .slice a2 3 c2]) 4 7 ps) := fun w' k => (unhide HV2).kept (K23.trans k)
  have HLL : Hid (∀ w', Kp [] w3 w' → LcM ls (.slice al 7 cl) w') := fun w' k => (unhide HL).kept ((unhide HK3).trans k)
  have HGL : Hid (∀ w', Kp [] w3 w' → Gl w') := fun w' k => (unhide HG1).kept ((unhide HK3).trans k) (by simp)
  have HC := hide (include_no (.slice none 0 0) [] 0 w3 (lcm_nil w3) (by simp))
  clear G2 G3 K3 K23 hg0
  refine hide ?_
  go_wp2_with fail
  refine (unhide HC).mono ?_
  rintro ee w4 ⟨rfl, K4⟩
  have HK4 := hide K4
  have G4 := heap_alloc_new w4 (.cells #[.int .i64 0, .int .i64 0, .slice none 0 0] 32)
  clear K4 HC
  go_wp2_with (refine wpList_store_tri triP rfl (.tmp 4) (.tmp 14) rfl w4.heap.size rfl _ _ _ _ _ _ G4 rfl ⟨rfl, rfl, rfl⟩ ?_; intro w5 G5 K5; refine Hid.out ?_)
  have K45 : Kp [] w4 w5 := ((Kp.refl [] w4).alloc _).then K5 (by simp)
  have HK5 := hide ((unhide HK4).trans K45)
  have HD5 : Hid (∀ w', Kp [] w5.drew w' → Kp [] w3 w') := fun w' k => (unhide HK5).trans ((kp_drew w5).trans k)
  clear G4 G5 K5 K45
  refine hide ?_
  go_wp2_with fail
  refine region_grow Tryd.mixed [Is (.int .i64 0), Is (.bool true), Is (.bool true), Is (.pointer (some ⟨g0, 2, none⟩)), Is (.slice a2 3 c2), Is (.int .i64 3), Is (.bool true), Is (.bool true), Is (.bool true), Is (.agg #[.int .i64 4, .int .i64 7, .slice a2 3 c2]), Is (.slice al 7 cl), PtT (x), SlT (x), Is (.slice al 7 cl), SlT (r), Is (.bool true), Is (.bool true), Is (.bool true), Is (.int .i64 1), Is (.bool true), Is (.bool true), Is (.bool true), Is (.agg #[.int .i64 0, .int .i64 0, .slice none 0 0]), Is (.bool false), Is (.bool true), Is (.bool true), Is (.bool true)] [[(3, none)], [(16, some 0)], [(17, some 1)], [(2, none), (18, some 2)], [(19, some 3), (18, some 2)], [(20, some 4), (18, some 2)], [(21, some 5), (18, some 2)], [(18, some 2), (22, some 6)], [(23, some 7)], [(2, none), (24, some 8)], [(1, none), (24, some 8)], [(26, some 10), (24, some 8)], [(27, some 11), (24, some 8)], [(1, none), (24, some 8)], [(29, some 13), (24, some 8)], [(25, some 9), (28, some 12), (30, some 14), (24, some 8)], [(24, some 8), (31, some 15)], [(32, some 16)], [(5, none), (33, some 17)], [(34, some 18), (33, some 17)], [(33, some 17), (35, some 19)], [(36, some 20)], [(37, some 21)], [(38, some 22), (37, some 21)], [(39, some 23), (37, some 21)], [(37, some 21), (40, some 24)], [(41, some 25)]] (by kernel_rfl) ?_ ?_ ?_
  · simp only [List.mem_cons, List.not_mem_nil, or_false]
    intro R hR
    rcases hR with rfl | rfl | rfl | rfl | rfl | rfl | rfl | rfl | rfl | rfl | rfl | rfl | rfl | rfl | rfl | rfl | rfl | rfl | rfl | rfl | rfl | rfl | rfl | rfl | rfl | rfl | rfl <;> first | exact stable_is _ | exact stable_pt _ | exact stable_sl _
  · refine steps_cons (fun a w hk hn => ?_) ?_
    · have h3 : a.eval (.tmp 3) = .int .i64 0 := hn.1
      clear hn
      refine wants_plain rfl ?_
      exact grown_move (.tmp 3) rfl h3
    refine steps_cons (fun a w hk hn => ?_) ?_
    · have h16 : a.eval (.tmp 16) = .int .i64 0 := hn.1
      clear hn
      refine wants_plain rfl ?_
      refine grown_run (v := .bool true) ?_ (Kp.refl _ _) rfl
      obtain ⟨ρ, hρ, hc, hf, hg⟩ := eval_is a
      rw [hρ] at h16 ⊢
      simp [go_sem, hc, h16]
    refine steps_cons (fun a w hk hn => ?_) ?_
    · have h17 : a.eval (.tmp 17) = .bool true := hn.1
      clear hn
      refine wants_plain rfl ?_
      exact grown_move (.tmp 17) rfl h17
    refine steps_cons (fun a w hk hn => ?_) ?_
    · have h2 : a.eval (.tmp 2) = .pointer (some ⟨g0, 0, none⟩) := hn.1
      have h18 : a.eval (.tmp 18) = .bool true := hn.2.1
      clear hn
      refine wants_guard (d := 18) rfl rfl h18 ?_
      exact grown_fld2 triP (.tmp 2) rfl h2
    refine steps_cons (fun a w hk hn => ?_) ?_
    · have h19 : a.eval (.tmp 19) = .pointer (some ⟨g0, 2, none⟩) := hn.1
      have h18 : a.eval (.tmp 18) = .bool true := hn.2.1
      clear hn
      refine wants_guard (d := 18) rfl rfl h18 ?_
      exact grown_ldl (.tmp 19) rfl 2 _ _ _ h19 (cell_tri ((fun w'' k => unhide HST w'' (unhide HD5 w'' k)) w hk)).2.2
    refine steps_cons (fun a w hk hn => ?_) ?_
    · have h20 : a.eval (.tmp 20) = .slice a2 3 c2 := hn.1
      have h18 : a.eval (.tmp 18) = .bool true := hn.2.1
      clear hn
      refine wants_guard (d := 18) rfl rfl h18 ?_
      refine grown_run (v := .int .i64 3) ?_ (Kp.refl _ _) rfl
      obtain ⟨ρ, hρ, hc, hf, hg⟩ := eval_is a
      rw [hρ] at h20 ⊢
      simp [go_sem, h20]
    refine steps_cons (fun a w hk hn => ?_) ?_
    · have h21 : a.eval (.tmp 21) = .int .i64 3 := hn.1
      have h18 : a.eval (.tmp 18) = .bool true := hn.2.1
      clear hn
      refine wants_guard (d := 18) rfl rfl h18 ?_
      refine grown_run (v := .bool true) ?_ (Kp.refl _ _) rfl
      obtain ⟨ρ, hρ, hc, hf, hg⟩ := eval_is a
      rw [hρ] at h21 ⊢
      simp [go_sem, hc, h21]
    refine steps_cons (fun a w hk hn => ?_) ?_
    · have h18 : a.eval (.tmp 18) = .bool true := hn.1
      have h22 : a.eval (.tmp 22) = .bool true := hn.2.1
      clear hn
      refine wants_plain rfl ?_
      exact grown_pick _ _ _ true rfl h18 h22
    refine steps_cons (fun a w hk hn => ?_) ?_
    · have h23 : a.eval (.tmp 23) = .bool true := hn.1
      clear hn
      refine wants_plain rfl ?_
      exact grown_move (.tmp 23) rfl h23
    refine steps_cons (fun a w hk hn => ?_) ?_
    · have h2 : a.eval (.tmp 2) = .pointer (some ⟨g0, 0, none⟩) := hn.1
      have h24 : a.eval (.tmp 24) = .bool true := hn.2.1
      clear hn
      refine wants_guard (d := 24) rfl rfl h24 ?_
      exact grown_loadtri triP (.tmp 2) rfl h2 ((fun w'' k => unhide HST w'' (unhide HD5 w'' k)) w hk) rfl
    refine steps_cons (fun a w hk hn => ?_) ?_
    · have h1 : a.eval (.tmp 1) = .slice al 7 cl := hn.1
      have h24 : a.eval (.tmp 24) = .bool true := hn.2.1
      clear hn
      refine wants_guard (d := 24) rfl rfl h24 ?_
      exact grown_move (.tmp 1) rfl h1
    refine steps_cons (fun a w hk hn => ?_) ?_
    · have h26 : a.eval (.tmp 26) = .slice al 7 cl := hn.1
      have h24 : a.eval (.tmp 24) = .bool true := hn.2.1
      clear hn
      refine wants_guard (d := 24) rfl rfl h24 ?_
      exact grown_lindex (.tmp 26) _ (ls) 4 (x) rfl (by rw [h26]; exact (fun w'' k => unhide HLL w'' (unhide HD5 w'' k)) w hk) rfl (unhide HX)
    refine steps_cons (fun a w hk hn => ?_) ?_
    · have h27 : (PtT (x)) (a.eval (.tmp 27)) w := hn.1
      have h24 : a.eval (.tmp 24) = .bool true := hn.2.1
      clear hn
      refine wants_guard (d := 24) rfl rfl h24 ?_
      exact grown_lload (.tmp 27) _ rfl h27
    refine steps_cons (fun a w hk hn => ?_) ?_
    · have h1 : a.eval (.tmp 1) = .slice al 7 cl := hn.1
      have h24 : a.eval (.tmp 24) = .bool true := hn.2.1
      clear hn
      refine wants_guard (d := 24) rfl rfl h24 ?_
      exact grown_move (.tmp 1) rfl h1
    refine steps_cons (fun a w hk hn => ?_) ?_
    · have h29 : a.eval (.tmp 29) = .slice al 7 cl := hn.1
      have h24 : a.eval (.tmp 24) = .bool true := hn.2.1
      clear hn
      refine wants_guard (d := 24) rfl rfl h24 ?_
      refine grown_call (f := 18) rfl Tryd.func18 (by kernel_rfl) (by kernel_rfl) ?_
      simp only [List.map_toArray, List.map_cons, List.map_nil, h29]
      refine (rroot_any 7 _ ls r w (unhide HRR) (unhide HNL) (by omega) (unhide HLL w (unhide HD5 w hk)) (unhide HM)).mono ?_
      rintro e w' ⟨ao, m, c, rfl, R, K⟩
      exact ⟨_, rfl, K, R⟩
    refine steps_cons (fun a w hk hn => ?_) ?_
    · have h25 : a.eval (.tmp 25) = .agg #[.int .i64 4, .int .i64 7, .slice a2 3 c2] := hn.1
      have h28 : Sl w (a.eval (.tmp 28)) (x) := hn.2.1
      have h30 : Sl w (a.eval (.tmp 30)) (r) := hn.2.2.1
      have h24 : a.eval (.tmp 24) = .bool true := hn.2.2.2.1
      clear hn
      refine wants_guard (d := 24) rfl rfl h24 ?_
      refine grown_call (f := 25) rfl Tryd.func25 (by kernel_rfl) (by kernel_rfl) ?_
      simp only [List.map_toArray, List.map_cons, List.map_nil, h25]
      refine (check_any _ _ _ 4 7 ps x r w (unhide HV3 w (unhide HD5 w hk)) h28 (unhide HXB) h30 (by omega) (unhide HGL w (unhide HD5 w hk))).mono ?_
      rintro e w' ⟨rfl, K⟩
      exact ⟨_, rfl, K, congrArg Value.bool (unhide HCP)⟩
    refine steps_cons (fun a w hk hn => ?_) ?_
    · have h24 : a.eval (.tmp 24) = .bool true := hn.1
      have h31 : a.eval (.tmp 31) = .bool true := hn.2.1
      clear hn
      refine wants_plain rfl ?_
      exact grown_pick _ _ _ true rfl h24 h31
    refine steps_cons (fun a w hk hn => ?_) ?_
    · have h32 : a.eval (.tmp 32) = .bool true := hn.1
      clear hn
      refine wants_plain rfl ?_
      exact grown_move (.tmp 32) rfl h32
    refine steps_cons (fun a w hk hn => ?_) ?_
    · have h5 : a.eval (.tmp 5) = .int .i64 1 := hn.1
      have h33 : a.eval (.tmp 33) = .bool true := hn.2.1
      clear hn
      refine wants_guard (d := 33) rfl rfl h33 ?_
      exact grown_move (.tmp 5) rfl h5
    refine steps_cons (fun a w hk hn => ?_) ?_
    · have h34 : a.eval (.tmp 34) = .int .i64 1 := hn.1
      have h33 : a.eval (.tmp 33) = .bool true := hn.2.1
      clear hn
      refine wants_guard (d := 33) rfl rfl h33 ?_
      refine grown_run (v := .bool true) ?_ (Kp.refl _ _) rfl
      obtain ⟨ρ, hρ, hc, hf, hg⟩ := eval_is a
      rw [hρ] at h34 ⊢
      simp [go_sem, hc, h34]
    refine steps_cons (fun a w hk hn => ?_) ?_
    · have h33 : a.eval (.tmp 33) = .bool true := hn.1
      have h35 : a.eval (.tmp 35) = .bool true := hn.2.1
      clear hn
      refine wants_plain rfl ?_
      exact grown_pick _ _ _ true rfl h33 h35
    refine steps_cons (fun a w hk hn => ?_) ?_
    · have h36 : a.eval (.tmp 36) = .bool true := hn.1
      clear hn
      refine wants_plain rfl ?_
      exact grown_move (.tmp 36) rfl h36
    refine steps_cons (fun a w hk hn => ?_) ?_
    · have h37 : a.eval (.tmp 37) = .bool true := hn.1
      clear hn
      refine wants_guard (d := 37) rfl rfl h37 ?_
      refine grown_run (v := .agg #[.int .i64 0, .int .i64 0, .slice none 0 0]) ?_ (Kp.refl _ _) rfl
      obtain ⟨ρ, hρ, hc, hf, hg⟩ := eval_is a
      rw [hρ]
      simp [go_sem]
    refine steps_cons (fun a w hk hn => ?_) ?_
    · have h38 : a.eval (.tmp 38) = .agg #[.int .i64 0, .int .i64 0, .slice none 0 0] := hn.1
      have h37 : a.eval (.tmp 37) = .bool true := hn.2.1
      clear hn
      refine wants_guard (d := 37) rfl rfl h37 ?_
      refine grown_call (f := 25) rfl Tryd.func25 (by kernel_rfl) (by kernel_rfl) ?_
      simp only [List.map_toArray, List.map_cons, List.map_nil, h38]
      refine (check_any _ _ _ 0 0 [] [] [] w (tv_nil w) (Sl.nil w) (fun b hb => by cases hb) (Sl.nil w) (by omega) (unhide HGL w (unhide HD5 w hk))).mono ?_
      rintro e w' ⟨rfl, K⟩
      exact ⟨_, rfl, K, congrArg Value.bool (unhide HNO)⟩
    refine steps_cons (fun a w hk hn => ?_) ?_
    · have h39 : a.eval (.tmp 39) = .bool false := hn.1
      have h37 : a.eval (.tmp 37) = .bool true := hn.2.1
      clear hn
      refine wants_guard (d := 37) rfl rfl h37 ?_
      refine grown_run (v := .bool true) ?_ (Kp.refl _ _) rfl
      obtain ⟨ρ, hρ, hc, hf, hg⟩ := eval_is a
      rw [hρ] at h39 ⊢
      simp [go_sem, h39]
    refine steps_cons (fun a w hk hn => ?_) ?_
    · have h37 : a.eval (.tmp 37) = .bool true := hn.1
      have h40 : a.eval (.tmp 40) = .bool true := hn.2.1
      clear hn
      refine wants_plain rfl ?_
      exact grown_pick _ _ _ true rfl h37 h40
    refine steps_cons (fun a w hk hn => ?_) ?_
    · have h41 : a.eval (.tmp 41) = .bool true := hn.1
      clear hn
      refine wants_plain rfl ?_
      exact grown_assign (.tmp 41) rfl h41
    exact trivial
  intro W1 hkW1
  rintro _ rfl
  rintro _ rfl
  rintro _ rfl
  rintro _ rfl
  rintro _ rfl
  rintro _ rfl
  rintro _ rfl
  rintro _ rfl
  rintro _ rfl
  rintro _ rfl
  rintro _ rfl
  intro v27 h27
  intro v28 h28
  rintro _ rfl
  intro v30 h30
  rintro _ rfl
  rintro _ rfl
  rintro _ rfl
  rintro _ rfl
  rintro _ rfl
  rintro _ rfl
  rintro _ rfl
  rintro _ rfl
  rintro _ rfl
  rintro _ rfl
  rintro _ rfl
  rintro _ rfl
  refine fin_nil ?_
  simp only [Act.put, List.set_cons_zero, List.set_cons_succ, List.setIfInBounds_toArray]
  go_wp2_with fail
  go_ret
  exact ⟨rfl, ((unhide HK1).trans (unhide HK3)).trans (unhide HD5 W1 hkW1)⟩
end Go.Proofs.YtphhofgjnlfjmaaDoor
