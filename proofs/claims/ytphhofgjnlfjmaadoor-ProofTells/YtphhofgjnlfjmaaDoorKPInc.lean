/-
  The contracts of the law package's include and grow.
-/
import Derived.Test.YtphhofgjnlfjmaaDoorKPLeds
import Derived.Test.YtphhofgjnlfjmaaDoorKPMake
import Derived.Test.YtphhofgjnlfjmaaDoorKPProg
import Derived.Test.YtphhofgjnlfjmaaDoorKPRefP
import Derived.Test.YtphhofgjnlfjmaaDoorKLLs
namespace Go.Proofs.YtphhofgjnlfjmaaDoor
open Go.RowKit
open Go.Proofs

set_option maxRecDepth 100000 in
set_option maxHeartbeats 4000000 in
theorem linclude_any (v : Value) (ls : List (List Int)) (i : Int) (w : World) (hL : LcM ls v w) (h32 : ∀ x ∈ ls, x.length = 32) (hn : ls.length ≤ 1000) (hG : Gl w) :
    Calls Tryd.prog 10 #[v, .int .i64 i] w fun e w' => e = .returned (.bool true) ∧ Kp [] w w' := by
  have hm : ∀ x ∈ ls, x.length ≤ 1000 := fun x hx => by have := h32 x hx; omega
  by_cases hi : 0 ≤ i ∧ i < (ls.length : Int)
  · obtain ⟨p, rfl⟩ : ∃ p : Nat, i = p := ⟨i.toNat, by omega⟩
    have hp : p < ls.length := by omega
    have HC := hide (include_ok v ls p w hL hp hn hm hG)
    obtain ⟨ps, hps⟩ : ∃ ps, ps = incP ls p := ⟨_, rfl⟩
    obtain ⟨r, hr⟩ : ∃ r, r = trootP ls := ⟨_, rfl⟩
    rw [← hps] at HC
    obtain ⟨x, hx⟩ : ∃ x, ls[p]? = some x := ⟨_, List.getElem?_eq_getElem hp⟩
    have HX := hide hx
    have HXB := hide (hL.bs x (List.mem_of_getElem? hx))
    have HOK : Hid (ledOk p ls.length ps x = true) := by rw [hps]; exact ledOk_inc h32 hn hp (h32 x (List.mem_of_getElem? hx))
    have HLR : Hid (ledR p ls.length ps x = r) := by rw [hps, hr]; exact ledR_inc h32 hn hx
    have HCP : Hid (chkP p ls.length ps x r = true) := by rw [hps, hr]; exact chkP_inc h32 hn hx
    have HPL : Hid (ps.length ≤ 10) := by rw [hps]; exact incP_1000 hn
    have HPS := hide hps
    have HRR := hide hr
    have HL := hide hL
    have HG := hide hG
    have HM := hide hm
    obtain ⟨SR, hSR⟩ : ∃ S, S = strOfNums r := ⟨_, rfl⟩
    have HSR := hide hSR
    obtain ⟨n, hnn⟩ : ∃ n, n = ls.length := ⟨_, rfl⟩
    have HNL := hide hnn.symm
    have hpn : p < n := by omega
    have hn1 : n ≤ 1000 := by omega
    rw [← hnn] at HC HCP HOK HLR
    obtain ⟨al, cl, e, -⟩ := hL.shape
    rw [← hnn] at e
    subst e
    have hi1 : ¬ (p : Int) < 0 := by omega
    have hi2 : ¬ (n : Int) ≤ (p : Int) := by omega
    clear hL hG hm h32 hp hn hi hps hr hSR hnn hx
    go_enter Tryd.func10, Tryd.ntmps10
    go_wp2_with fail
    refine (unhide HC).mono ?_
    rintro ee w2 ⟨v2, rfl, V2, K2⟩
    obtain ⟨a2, c2, e2, L2⟩ := V2.shape
    obtain ⟨m2, hm2⟩ : ∃ m, m = ps.length := ⟨_, rfl⟩
    rw [← hm2] at e2 L2
    subst e2
    have HV2 := hide V2
    have HL2 := hide L2
    have HK2 := hide K2
    have G2 := heap_alloc_new w2 (.cells #[.int .i64 0, .int .i64 0, .slice none 0 0] 32)
    clear V2 L2 K2 HC hm2
    go_wp2_with (refine wpList_store_tri triP rfl (.tmp 5) (.tmp 13) rfl w2.heap.size rfl _ _ _ _ _ _ G2 rfl ⟨rfl, rfl, rfl⟩ ?_; intro w3 G3 K3; refine Hid.out ?_)
    have K23 : Kp [] w2 w3 := ((Kp.refl [] w2).alloc _).then K3 (by simp)
    have HK3 := hide ((unhide HK2).trans K23)
    obtain ⟨g0, hg0⟩ : ∃ g, g = w2.heap.size := ⟨_, rfl⟩
    rw [← hg0] at G3 ⊢
    have HST : Hid (∀ w', Kp [] w3 w' → w'.heap[g0]? = some (.cells #[.int .i64 p, .int .i64 n, .slice a2 m2 c2] 32 (0, 0))) := fun w' k => k.heap G3 (by simp)
    have HV3 : Hid (∀ w', Kp [] w3 w' → TV w' (.agg #[.int .i64 p, .int .i64 n, .slice a2 m2 c2]) p n ps) := fun w' k => (unhide HV2).kept (K23.trans k)
    have HP3 : Hid (∀ w', Kp [] w3 w' → LcM ps (.slice a2 m2 c2) w') := fun w' k => (unhide HL2).kept (K23.trans k)
    have HLL : Hid (∀ w', Kp [] w3 w' → LcM ls (.slice al n cl) w') := fun w' k => (unhide HL).kept ((unhide HK3).trans k)
    have HGL : Hid (∀ w', Kp [] w3 w' → Gl w') := fun w' k => (unhide HG).kept ((unhide HK3).trans k) (by simp)
    clear G2 G3 K3 K23 hg0
    refine hide ?_
    go_wp2_with fail
    have HD3 : Hid (∀ w', Kp [] w3.drew w' → Kp [] w3 w') := fun w' k => (kp_drew w3).trans k
    refine region_grow Tryd.mixed [Is (.agg #[.int .i64 p, .int .i64 n, .slice a2 m2 c2]), Is (.slice al n cl), Is (.int .i64 p), PtT (x), SlT (x), TwoT r true, TwoT r true, SlT (r), Is (.bool true), SlT (r), Is (.bool true)] [[(5, none)], [(0, none)], [(1, none)], [(43, some 1), (44, some 2)], [(45, some 3)], [(42, some 0), (46, some 4)], [(47, some 5)], [(41, some 6)], [(41, some 6)], [(48, some 7)], [(49, some 8)]] (by kernel_rfl) ?_ ?_ ?_
    · simp only [List.mem_cons, List.not_mem_nil, or_false]
      intro R hR
      rcases hR with rfl | rfl | rfl | rfl | rfl | rfl | rfl | rfl | rfl | rfl | rfl <;> first | exact stable_is _ | exact stable_pt _ | exact stable_sl _ | exact stable_two _ _
    · refine steps_cons (fun a w hk hn => ?_) ?_
      · have h5 : a.eval (.tmp 5) = .pointer (some ⟨g0, 0, none⟩) := hn.1
        clear hn
        refine wants_plain rfl ?_
        exact grown_loadtri triP (.tmp 5) rfl h5 ((fun w'' k => unhide HST w'' (unhide HD3 w'' k)) w hk) rfl
      refine steps_cons (fun a w hk hn => ?_) ?_
      · have h0 : a.eval (.tmp 0) = .slice al n cl := hn.1
        clear hn
        refine wants_plain rfl ?_
        exact grown_move (.tmp 0) rfl h0
      refine steps_cons (fun a w hk hn => ?_) ?_
      · have h1 : a.eval (.tmp 1) = .int .i64 p := hn.1
        clear hn
        refine wants_plain rfl ?_
        exact grown_move (.tmp 1) rfl h1
      refine steps_cons (fun a w hk hn => ?_) ?_
      · have h43 : a.eval (.tmp 43) = .slice al n cl := hn.1
        have h44 : a.eval (.tmp 44) = .int .i64 p := hn.2.1
        clear hn
        refine wants_plain rfl ?_
        exact grown_lindex (.tmp 43) (.tmp 44) (ls) p (x) rfl (by rw [h43]; exact (fun w'' k => unhide HLL w'' (unhide HD3 w'' k)) w hk) h44 (unhide HX)
      refine steps_cons (fun a w hk hn => ?_) ?_
      · have h45 : (PtT (x)) (a.eval (.tmp 45)) w := hn.1
        clear hn
        refine wants_plain rfl ?_
        exact grown_lload (.tmp 45) _ rfl h45
      refine steps_cons (fun a w hk hn => ?_) ?_
      · have h42 : a.eval (.tmp 42) = .agg #[.int .i64 p, .int .i64 n, .slice a2 m2 c2] := hn.1
        have h46 : Sl w (a.eval (.tmp 46)) (x) := hn.2.1
        clear hn
        refine wants_plain rfl ?_
        refine grown_call (f := 24) rfl Tryd.func24 (by kernel_rfl) (by kernel_rfl) ?_
        simp only [List.map_toArray, List.map_cons, List.map_nil, h42]
        refine (lead_any _ _ p n ps x w (unhide HV3 w (unhide HD3 w hk)) h46 (unhide HXB) (by omega) (unhide HGL w (unhide HD3 w hk))).mono ?_
        rintro e w' ⟨ao, m, c, rfl, S, K⟩
        rw [unhide HLR] at S
        exact ⟨_, rfl, K, ao, m, c, by rw [unhide HOK], S⟩
      refine steps_cons (fun a w hk hn => ?_) ?_
      · have h47 : (TwoT r true) (a.eval (.tmp 47)) w := hn.1
        clear hn
        refine wants_plain rfl ?_
        exact grown_move (.tmp 47) rfl h47
      refine steps_cons (fun a w hk hn => ?_) ?_
      · have h41 : (TwoT r true) (a.eval (.tmp 41)) w := hn.1
        clear hn
        refine wants_plain rfl ?_
        exact grown_ext0 (.tmp 41) rfl _ _ h41
      refine steps_cons (fun a w hk hn => ?_) ?_
      · have h41 : (TwoT r true) (a.eval (.tmp 41)) w := hn.1
        clear hn
        refine wants_plain rfl ?_
        exact grown_ext1 (.tmp 41) rfl _ _ h41
      refine steps_cons (fun a w hk hn => ?_) ?_
      · have h48 : Sl w (a.eval (.tmp 48)) (r) := hn.1
        clear hn
        refine wants_plain rfl ?_
        exact grown_assign (.tmp 48) rfl h48
      refine steps_cons (fun a w hk hn => ?_) ?_
      · have h49 : a.eval (.tmp 49) = .bool true := hn.1
        clear hn
        refine wants_plain rfl ?_
        exact grown_assign (.tmp 49) rfl h49
      exact trivial
    intro W1 hkW1
    rintro _ rfl
    rintro _ rfl
    rintro _ rfl
    intro v45 h45
    intro v46 h46
    intro v47 h47
    intro v41 h41
    intro v48 h48
    rintro _ rfl
    intro v7 h7
    rintro _ rfl
    refine fin_nil ?_
    simp only [Act.put, List.set_cons_zero, List.set_cons_succ, List.setIfInBounds_toArray]
    have HK4 := hide (unhide HD3 W1 hkW1)
    have HD4 : Hid (∀ w', Kp [] W1.drew w' → Kp [] w3 w') := fun w' k => (unhide HK4).trans ((kp_drew W1).trans k)
    have HS7 : Hid (∀ w', Kp [] W1.drew w' → Sl w' v7 r) := fun w' k => h7.kept ((kp_drew W1).trans k) (by simp)
    obtain ⟨a7, c7, e7, -⟩ := h7
    obtain ⟨m7, hm7⟩ : ∃ m, m = r.length := ⟨_, rfl⟩
    rw [← hm7] at e7
    subst e7
    clear hkW1 h41 h45 h46 h47 h48 hm7
    go_wp2_with fail
    refine region_grow Tryd.mixed [Is (.int .i64 0), Is (.bool true), Is (.bool true), Is (.pointer (some ⟨g0, 0, none⟩)), Is (.int .i64 p), Is (.int .i64 p), Is (.bool true), Is (.bool true), Is (.bool true), Is (.pointer (some ⟨g0, 1, none⟩)), Is (.int .i64 n), Is (.slice al n cl), Is (.int .i64 n), Is (.bool true), Is (.bool true), Is (.bool true), Is (.pointer (some ⟨g0, 2, none⟩)), Is (.slice a2 m2 c2), Is (.slice al n cl), Is (.int .i64 p), LcM ps, Is (.bool true), Is (.bool true), Is (.bool true), Is (.bool true), Is (.bool true), Is (.bool true), Is (.slice a7 m7 c7), Is (.string SR), Is (.slice al n cl), SlT (r), Is (.string SR), Is (.bool true), Is (.bool true), Is (.bool true), Is (.agg #[.int .i64 p, .int .i64 n, .slice a2 m2 c2]), Is (.slice al n cl), Is (.int .i64 p), PtT (x), SlT (x), Is (.slice a7 m7 c7), Is (.bool true), Is (.bool true), Is (.bool true)] [[(6, none)], [(50, some 0)], [(51, some 1)], [(5, none), (52, some 2)], [(53, some 3), (52, some 2)], [(1, none), (52, some 2)], [(54, some 4), (55, some 5), (52, some 2)], [(52, some 2), (56, some 6)], [(57, some 7)], [(5, none), (58, some 8)], [(59, some 9), (58, some 8)], [(0, none), (58, some 8)], [(61, some 11), (58, some 8)], [(60, some 10), (62, some 12), (58, some 8)], [(58, some 8), (63, some 13)], [(64, some 14)], [(5, none), (65, some 15)], [(66, some 16), (65, some 15)], [(0, none), (65, some 15)], [(1, none), (65, some 15)], [(68, some 18), (69, some 19), (65, some 15)], [(67, some 17), (70, some 20), (65, some 15)], [(65, some 15), (71, some 21)], [(72, some 22)], [(8, none), (73, some 23)], [(73, some 23), (74, some 24)], [(75, some 25)], [(7, none), (76, some 26)], [(77, some 27), (76, some 26)], [(0, none), (76, some 26)], [(79, some 29), (76, some 26)], [(80, some 30), (76, some 26)], [(78, some 28), (81, some 31), (76, some 26)], [(76, some 26), (82, some 32)], [(83, some 33)], [(5, none), (84, some 34)], [(0, none), (84, some 34)], [(1, none), (84, some 34)], [(86, some 36), (87, some 37), (84, some 34)], [(88, some 38), (84, some 34)], [(7, none), (84, some 34)], [(85, some 35), (89, some 39), (90, some 40), (84, some 34)], [(84, some 34), (91, some 41)], [(92, some 42)]] (by kernel_rfl) ?_ ?_ ?_
    · simp only [List.mem_cons, List.not_mem_nil, or_false]
      intro R hR
      rcases hR with rfl | rfl | rfl | rfl | rfl | rfl | rfl | rfl | rfl | rfl | rfl | rfl | rfl | rfl | rfl | rfl | rfl | rfl | rfl | rfl | rfl | rfl | rfl | rfl | rfl | rfl | rfl | rfl | rfl | rfl | rfl | rfl | rfl | rfl | rfl | rfl | rfl | rfl | rfl | rfl | rfl | rfl | rfl | rfl <;> first | exact stable_is _ | exact stable_lcm _ | exact stable_sl _ | exact stable_pt _
    · refine steps_cons (fun a w hk hn => ?_) ?_
      · have h6 : a.eval (.tmp 6) = .int .i64 0 := hn.1
        clear hn
        refine wants_plain rfl ?_
        exact grown_move (.tmp 6) rfl h6
      refine steps_cons (fun a w hk hn => ?_) ?_
      · have h50 : a.eval (.tmp 50) = .int .i64 0 := hn.1
        clear hn
        refine wants_plain rfl ?_
        refine grown_run (v := .bool true) ?_ (Kp.refl _ _) rfl
        obtain ⟨ρ, hρ, hc, hf, hg⟩ := eval_is a
        rw [hρ] at h50 ⊢
        simp [go_sem, hc, h50]
      refine steps_cons (fun a w hk hn => ?_) ?_
      · have h51 : a.eval (.tmp 51) = .bool true := hn.1
        clear hn
        refine wants_plain rfl ?_
        exact grown_move (.tmp 51) rfl h51
      refine steps_cons (fun a w hk hn => ?_) ?_
      · have h5 : a.eval (.tmp 5) = .pointer (some ⟨g0, 0, none⟩) := hn.1
        have h52 : a.eval (.tmp 52) = .bool true := hn.2.1
        clear hn
        refine wants_guard (d := 52) rfl rfl h52 ?_
        exact grown_fld0 triP (.tmp 5) rfl h5
      refine steps_cons (fun a w hk hn => ?_) ?_
      · have h53 : a.eval (.tmp 53) = .pointer (some ⟨g0, 0, none⟩) := hn.1
        have h52 : a.eval (.tmp 52) = .bool true := hn.2.1
        clear hn
        refine wants_guard (d := 52) rfl rfl h52 ?_
        exact grown_ldi (.tmp 53) rfl 0 _ h53 (cell_tri ((fun w'' k => unhide HST w'' (unhide HD4 w'' k)) w hk)).1
      refine steps_cons (fun a w hk hn => ?_) ?_
      · have h1 : a.eval (.tmp 1) = .int .i64 p := hn.1
        have h52 : a.eval (.tmp 52) = .bool true := hn.2.1
        clear hn
        refine wants_guard (d := 52) rfl rfl h52 ?_
        exact grown_move (.tmp 1) rfl h1
      refine steps_cons (fun a w hk hn => ?_) ?_
      · have h54 : a.eval (.tmp 54) = .int .i64 p := hn.1
        have h55 : a.eval (.tmp 55) = .int .i64 p := hn.2.1
        have h52 : a.eval (.tmp 52) = .bool true := hn.2.2.1
        clear hn
        refine wants_guard (d := 52) rfl rfl h52 ?_
        refine grown_run (v := .bool true) ?_ (Kp.refl _ _) rfl
        obtain ⟨ρ, hρ, hc, hf, hg⟩ := eval_is a
        rw [hρ] at h54 h55 ⊢
        simp [go_sem, h54, h55]
      refine steps_cons (fun a w hk hn => ?_) ?_
      · have h52 : a.eval (.tmp 52) = .bool true := hn.1
        have h56 : a.eval (.tmp 56) = .bool true := hn.2.1
        clear hn
        refine wants_plain rfl ?_
        exact grown_pick _ _ _ true rfl h52 h56
      refine steps_cons (fun a w hk hn => ?_) ?_
      · have h57 : a.eval (.tmp 57) = .bool true := hn.1
        clear hn
        refine wants_plain rfl ?_
        exact grown_move (.tmp 57) rfl h57
      refine steps_cons (fun a w hk hn => ?_) ?_
      · have h5 : a.eval (.tmp 5) = .pointer (some ⟨g0, 0, none⟩) := hn.1
        have h58 : a.eval (.tmp 58) = .bool true := hn.2.1
        clear hn
        refine wants_guard (d := 58) rfl rfl h58 ?_
        exact grown_fld1 triP (.tmp 5) rfl h5
      refine steps_cons (fun a w hk hn => ?_) ?_
      · have h59 : a.eval (.tmp 59) = .pointer (some ⟨g0, 1, none⟩) := hn.1
        have h58 : a.eval (.tmp 58) = .bool true := hn.2.1
        clear hn
        refine wants_guard (d := 58) rfl rfl h58 ?_
        exact grown_ldi (.tmp 59) rfl 1 _ h59 (cell_tri ((fun w'' k => unhide HST w'' (unhide HD4 w'' k)) w hk)).2.1
      refine steps_cons (fun a w hk hn => ?_) ?_
      · have h0 : a.eval (.tmp 0) = .slice al n cl := hn.1
        have h58 : a.eval (.tmp 58) = .bool true := hn.2.1
        clear hn
        refine wants_guard (d := 58) rfl rfl h58 ?_
        exact grown_move (.tmp 0) rfl h0
      refine steps_cons (fun a w hk hn => ?_) ?_
      · have h61 : a.eval (.tmp 61) = .slice al n cl := hn.1
        have h58 : a.eval (.tmp 58) = .bool true := hn.2.1
        clear hn
        refine wants_guard (d := 58) rfl rfl h58 ?_
        refine grown_run (v := .int .i64 n) ?_ (Kp.refl _ _) rfl
        obtain ⟨ρ, hρ, hc, hf, hg⟩ := eval_is a
        rw [hρ] at h61 ⊢
        simp [go_sem, h61]
      refine steps_cons (fun a w hk hn => ?_) ?_
      · have h60 : a.eval (.tmp 60) = .int .i64 n := hn.1
        have h62 : a.eval (.tmp 62) = .int .i64 n := hn.2.1
        have h58 : a.eval (.tmp 58) = .bool true := hn.2.2.1
        clear hn
        refine wants_guard (d := 58) rfl rfl h58 ?_
        refine grown_run (v := .bool true) ?_ (Kp.refl _ _) rfl
        obtain ⟨ρ, hρ, hc, hf, hg⟩ := eval_is a
        rw [hρ] at h60 h62 ⊢
        simp [go_sem, h60, h62]
      refine steps_cons (fun a w hk hn => ?_) ?_
      · have h58 : a.eval (.tmp 58) = .bool true := hn.1
        have h63 : a.eval (.tmp 63) = .bool true := hn.2.1
        clear hn
        refine wants_plain rfl ?_
        exact grown_pick _ _ _ true rfl h58 h63
      refine steps_cons (fun a w hk hn => ?_) ?_
      · have h64 : a.eval (.tmp 64) = .bool true := hn.1
        clear hn
        refine wants_plain rfl ?_
        exact grown_move (.tmp 64) rfl h64
      refine steps_cons (fun a w hk hn => ?_) ?_
      · have h5 : a.eval (.tmp 5) = .pointer (some ⟨g0, 0, none⟩) := hn.1
        have h65 : a.eval (.tmp 65) = .bool true := hn.2.1
        clear hn
        refine wants_guard (d := 65) rfl rfl h65 ?_
        exact grown_fld2 triP (.tmp 5) rfl h5
      refine steps_cons (fun a w hk hn => ?_) ?_
      · have h66 : a.eval (.tmp 66) = .pointer (some ⟨g0, 2, none⟩) := hn.1
        have h65 : a.eval (.tmp 65) = .bool true := hn.2.1
        clear hn
        refine wants_guard (d := 65) rfl rfl h65 ?_
        exact grown_ldl (.tmp 66) rfl 2 _ _ _ h66 (cell_tri ((fun w'' k => unhide HST w'' (unhide HD4 w'' k)) w hk)).2.2
      refine steps_cons (fun a w hk hn => ?_) ?_
      · have h0 : a.eval (.tmp 0) = .slice al n cl := hn.1
        have h65 : a.eval (.tmp 65) = .bool true := hn.2.1
        clear hn
        refine wants_guard (d := 65) rfl rfl h65 ?_
        exact grown_move (.tmp 0) rfl h0
      refine steps_cons (fun a w hk hn => ?_) ?_
      · have h1 : a.eval (.tmp 1) = .int .i64 p := hn.1
        have h65 : a.eval (.tmp 65) = .bool true := hn.2.1
        clear hn
        refine wants_guard (d := 65) rfl rfl h65 ?_
        exact grown_move (.tmp 1) rfl h1
      refine steps_cons (fun a w hk hn => ?_) ?_
      · have h68 : a.eval (.tmp 68) = .slice al n cl := hn.1
        have h69 : a.eval (.tmp 69) = .int .i64 p := hn.2.1
        have h65 : a.eval (.tmp 65) = .bool true := hn.2.2.1
        clear hn
        refine wants_guard (d := 65) rfl rfl h65 ?_
        refine grown_call (f := 16) rfl Tryd.func16 (by kernel_rfl) (by kernel_rfl) ?_
        simp only [List.map_toArray, List.map_cons, List.map_nil, h68, h69]
        refine (rinc_any n _ ls p ps w (unhide HPS) (unhide HNL) hpn (by omega) (unhide HLL w (unhide HD4 w hk)) (unhide HM)).mono ?_
        rintro e w' ⟨ao, m, c, rfl, A⟩
        exact ⟨_, rfl, A.kp, A.lcm (Nat.le_trans (unhide HPL) (by omega))⟩
      refine steps_cons (fun a w hk hn => ?_) ?_
      · have h67 : a.eval (.tmp 67) = .slice a2 m2 c2 := hn.1
        have h70 : (LcM ps) (a.eval (.tmp 70)) w := hn.2.1
        have h65 : a.eval (.tmp 65) = .bool true := hn.2.2.1
        clear hn
        refine wants_guard (d := 65) rfl rfl h65 ?_
        refine grown_call (f := 28) rfl Tryd.func28 (by kernel_rfl) (by kernel_rfl) ?_
        simp only [List.map_toArray, List.map_cons, List.map_nil, h67]
        refine (lists_lsm (unhide HP3 w (unhide HD4 w hk)).lsm h70.lsm).mono ?_
        rintro e w' ⟨rfl, K⟩
        exact ⟨_, rfl, K, rfl⟩
      refine steps_cons (fun a w hk hn => ?_) ?_
      · have h65 : a.eval (.tmp 65) = .bool true := hn.1
        have h71 : a.eval (.tmp 71) = .bool true := hn.2.1
        clear hn
        refine wants_plain rfl ?_
        exact grown_pick _ _ _ true rfl h65 h71
      refine steps_cons (fun a w hk hn => ?_) ?_
      · have h72 : a.eval (.tmp 72) = .bool true := hn.1
        clear hn
        refine wants_plain rfl ?_
        exact grown_move (.tmp 72) rfl h72
      refine steps_cons (fun a w hk hn => ?_) ?_
      · have h8 : a.eval (.tmp 8) = .bool true := hn.1
        have h73 : a.eval (.tmp 73) = .bool true := hn.2.1
        clear hn
        refine wants_guard (d := 73) rfl rfl h73 ?_
        exact grown_move (.tmp 8) rfl h8
      refine steps_cons (fun a w hk hn => ?_) ?_
      · have h73 : a.eval (.tmp 73) = .bool true := hn.1
        have h74 : a.eval (.tmp 74) = .bool true := hn.2.1
        clear hn
        refine wants_plain rfl ?_
        exact grown_pick _ _ _ true rfl h73 h74
      refine steps_cons (fun a w hk hn => ?_) ?_
      · have h75 : a.eval (.tmp 75) = .bool true := hn.1
        clear hn
        refine wants_plain rfl ?_
        exact grown_move (.tmp 75) rfl h75
      refine steps_cons (fun a w hk hn => ?_) ?_
      · have h7 : a.eval (.tmp 7) = .slice a7 m7 c7 := hn.1
        have h76 : a.eval (.tmp 76) = .bool true := hn.2.1
        clear hn
        refine wants_guard (d := 76) rfl rfl h76 ?_
        exact grown_move (.tmp 7) rfl h7
      refine steps_cons (fun a w hk hn => ?_) ?_
      · have h77 : a.eval (.tmp 77) = .slice a7 m7 c7 := hn.1
        have h76 : a.eval (.tmp 76) = .bool true := hn.2.1
        clear hn
        refine wants_guard (d := 76) rfl rfl h76 ?_
        exact grown_conv (.tmp 77) _ _ 5 (r) rfl (by rw [h77]; exact unhide HS7 w hk) Tryd.underlying30 Tryd.underlying5 Tryd.underlying9 (congrArg Value.string (unhide HSR).symm)
      refine steps_cons (fun a w hk hn => ?_) ?_
      · have h0 : a.eval (.tmp 0) = .slice al n cl := hn.1
        have h76 : a.eval (.tmp 76) = .bool true := hn.2.1
        clear hn
        refine wants_guard (d := 76) rfl rfl h76 ?_
        exact grown_move (.tmp 0) rfl h0
      refine steps_cons (fun a w hk hn => ?_) ?_
      · have h79 : a.eval (.tmp 79) = .slice al n cl := hn.1
        have h76 : a.eval (.tmp 76) = .bool true := hn.2.1
        clear hn
        refine wants_guard (d := 76) rfl rfl h76 ?_
        refine grown_call (f := 18) rfl Tryd.func18 (by kernel_rfl) (by kernel_rfl) ?_
        simp only [List.map_toArray, List.map_cons, List.map_nil, h79]
        refine (rroot_any n _ ls r w (unhide HRR) (unhide HNL) (by omega) (unhide HLL w (unhide HD4 w hk)) (unhide HM)).mono ?_
        rintro e w' ⟨ao, m, c, rfl, R, K⟩
        exact ⟨_, rfl, K, R⟩
      refine steps_cons (fun a w hk hn => ?_) ?_
      · have h80 : Sl w (a.eval (.tmp 80)) (r) := hn.1
        have h76 : a.eval (.tmp 76) = .bool true := hn.2.1
        clear hn
        refine wants_guard (d := 76) rfl rfl h76 ?_
        exact grown_conv (.tmp 80) _ _ 5 _ rfl h80 Tryd.underlying30 Tryd.underlying5 Tryd.underlying9 (congrArg Value.string (unhide HSR).symm)
      refine steps_cons (fun a w hk hn => ?_) ?_
      · have h78 : a.eval (.tmp 78) = .string SR := hn.1
        have h81 : a.eval (.tmp 81) = .string SR := hn.2.1
        have h76 : a.eval (.tmp 76) = .bool true := hn.2.2.1
        clear hn
        refine wants_guard (d := 76) rfl rfl h76 ?_
        refine grown_run (v := .bool true) ?_ (Kp.refl _ _) rfl
        obtain ⟨ρ, hρ, hc, hf, hg⟩ := eval_is a
        rw [hρ] at h78 h81 ⊢
        simp [go_sem, h78, h81]
      refine steps_cons (fun a w hk hn => ?_) ?_
      · have h76 : a.eval (.tmp 76) = .bool true := hn.1
        have h82 : a.eval (.tmp 82) = .bool true := hn.2.1
        clear hn
        refine wants_plain rfl ?_
        exact grown_pick _ _ _ true rfl h76 h82
      refine steps_cons (fun a w hk hn => ?_) ?_
      · have h83 : a.eval (.tmp 83) = .bool true := hn.1
        clear hn
        refine wants_plain rfl ?_
        exact grown_move (.tmp 83) rfl h83
      refine steps_cons (fun a w hk hn => ?_) ?_
      · have h5 : a.eval (.tmp 5) = .pointer (some ⟨g0, 0, none⟩) := hn.1
        have h84 : a.eval (.tmp 84) = .bool true := hn.2.1
        clear hn
        refine wants_guard (d := 84) rfl rfl h84 ?_
        exact grown_loadtri triP (.tmp 5) rfl h5 ((fun w'' k => unhide HST w'' (unhide HD4 w'' k)) w hk) rfl
      refine steps_cons (fun a w hk hn => ?_) ?_
      · have h0 : a.eval (.tmp 0) = .slice al n cl := hn.1
        have h84 : a.eval (.tmp 84) = .bool true := hn.2.1
        clear hn
        refine wants_guard (d := 84) rfl rfl h84 ?_
        exact grown_move (.tmp 0) rfl h0
      refine steps_cons (fun a w hk hn => ?_) ?_
      · have h1 : a.eval (.tmp 1) = .int .i64 p := hn.1
        have h84 : a.eval (.tmp 84) = .bool true := hn.2.1
        clear hn
        refine wants_guard (d := 84) rfl rfl h84 ?_
        exact grown_move (.tmp 1) rfl h1
      refine steps_cons (fun a w hk hn => ?_) ?_
      · have h86 : a.eval (.tmp 86) = .slice al n cl := hn.1
        have h87 : a.eval (.tmp 87) = .int .i64 p := hn.2.1
        have h84 : a.eval (.tmp 84) = .bool true := hn.2.2.1
        clear hn
        refine wants_guard (d := 84) rfl rfl h84 ?_
        exact grown_lindex (.tmp 86) (.tmp 87) (ls) p (x) rfl (by rw [h86]; exact (fun w'' k => unhide HLL w'' (unhide HD4 w'' k)) w hk) h87 (unhide HX)
      refine steps_cons (fun a w hk hn => ?_) ?_
      · have h88 : (PtT (x)) (a.eval (.tmp 88)) w := hn.1
        have h84 : a.eval (.tmp 84) = .bool true := hn.2.1
        clear hn
        refine wants_guard (d := 84) rfl rfl h84 ?_
        exact grown_lload (.tmp 88) _ rfl h88
      refine steps_cons (fun a w hk hn => ?_) ?_
      · have h7 : a.eval (.tmp 7) = .slice a7 m7 c7 := hn.1
        have h84 : a.eval (.tmp 84) = .bool true := hn.2.1
        clear hn
        refine wants_guard (d := 84) rfl rfl h84 ?_
        exact grown_move (.tmp 7) rfl h7
      refine steps_cons (fun a w hk hn => ?_) ?_
      · have h85 : a.eval (.tmp 85) = .agg #[.int .i64 p, .int .i64 n, .slice a2 m2 c2] := hn.1
        have h89 : Sl w (a.eval (.tmp 89)) (x) := hn.2.1
        have h90 : a.eval (.tmp 90) = .slice a7 m7 c7 := hn.2.2.1
        have h84 : a.eval (.tmp 84) = .bool true := hn.2.2.2.1
        clear hn
        refine wants_guard (d := 84) rfl rfl h84 ?_
        refine grown_call (f := 25) rfl Tryd.func25 (by kernel_rfl) (by kernel_rfl) ?_
        simp only [List.map_toArray, List.map_cons, List.map_nil, h85, h90]
        refine (check_any _ _ _ p n ps x r w (unhide HV3 w (unhide HD4 w hk)) h89 (unhide HXB) (unhide HS7 w hk) (by omega) (unhide HGL w (unhide HD4 w hk))).mono ?_
        rintro e w' ⟨rfl, K⟩
        exact ⟨_, rfl, K, congrArg Value.bool (unhide HCP)⟩
      refine steps_cons (fun a w hk hn => ?_) ?_
      · have h84 : a.eval (.tmp 84) = .bool true := hn.1
        have h91 : a.eval (.tmp 91) = .bool true := hn.2.1
        clear hn
        refine wants_plain rfl ?_
        exact grown_pick _ _ _ true rfl h84 h91
      refine steps_cons (fun a w hk hn => ?_) ?_
      · have h92 : a.eval (.tmp 92) = .bool true := hn.1
        clear hn
        refine wants_plain rfl ?_
        exact grown_assign (.tmp 92) rfl h92
      exact trivial
    intro W2 hkW2
    rintro _ rfl
    rintro _ rfl
    rintro _ rfl
    rintro _ rfl
    rintro _ rfl
    rintro _ rfl
    rintro _ rfl
    rintro _ rfl
    rintro _ rfl
    rintro _ rfl
    rintro _ rfl
    rintro _ rfl
    rintro _ rfl
    rintro _ rfl
    rintro _ rfl
    rintro _ rfl
    rintro _ rfl
    rintro _ rfl
    rintro _ rfl
    rintro _ rfl
    intro v70 h70
    rintro _ rfl
    rintro _ rfl
    rintro _ rfl
    rintro _ rfl
    rintro _ rfl
    rintro _ rfl
    rintro _ rfl
    rintro _ rfl
    rintro _ rfl
    intro v80 h80
    rintro _ rfl
    rintro _ rfl
    rintro _ rfl
    rintro _ rfl
    rintro _ rfl
    rintro _ rfl
    rintro _ rfl
    intro v88 h88
    intro v89 h89
    rintro _ rfl
    rintro _ rfl
    rintro _ rfl
    rintro _ rfl
    refine fin_nil ?_
    simp only [Act.put, List.set_cons_zero, List.set_cons_succ, List.setIfInBounds_toArray]
    go_wp2_with fail
    go_ret
    exact ⟨rfl, (unhide HK3).trans (unhide HD4 W2 hkW2)⟩
  · have HC := hide (include_no v ls i w hL hi)
    obtain ⟨n, hnn⟩ : ∃ n, n = ls.length := ⟨_, rfl⟩
    rw [← hnn] at hi
    obtain ⟨al, cl, e, -⟩ := hL.shape
    rw [← hnn] at e
    subst e
    clear hL hG hm h32 hn hnn
    by_cases hi1 : i < 0
    · clear hi
      go_enter Tryd.func10, Tryd.ntmps10
      go_wp2_with fail
      refine (unhide HC).mono ?_
      rintro ee w2 ⟨rfl, K2⟩
      have HK2 := hide K2
      have G2 := heap_alloc_new w2 (.cells #[.int .i64 0, .int .i64 0, .slice none 0 0] 32)
      clear K2 HC
      go_wp2_with (refine wpList_store_tri triP rfl (.tmp 5) (.tmp 13) rfl w2.heap.size rfl _ _ _ _ _ _ G2 rfl ⟨rfl, rfl, rfl⟩ ?_; intro w3 G3 K3; refine Hid.out ?_)
      have K23 : Kp [] w2 w3 := ((Kp.refl [] w2).alloc _).then K3 (by simp)
      have HK3 := hide ((unhide HK2).trans K23)
      obtain ⟨z0, z1, z2⟩ := cell_tri G3
      clear G2 G3 K3 K23
      refine hide ?_
      go_wp2_with fail
      go_ret
      exact ⟨rfl, unhide HK3⟩
    · have hi2 : (n : Int) ≤ i := by omega
      clear hi
      go_enter Tryd.func10, Tryd.ntmps10
      go_wp2_with fail
      refine (unhide HC).mono ?_
      rintro ee w2 ⟨rfl, K2⟩
      have HK2 := hide K2
      have G2 := heap_alloc_new w2 (.cells #[.int .i64 0, .int .i64 0, .slice none 0 0] 32)
      clear K2 HC
      go_wp2_with (refine wpList_store_tri triP rfl (.tmp 5) (.tmp 13) rfl w2.heap.size rfl _ _ _ _ _ _ G2 rfl ⟨rfl, rfl, rfl⟩ ?_; intro w3 G3 K3; refine Hid.out ?_)
      have K23 : Kp [] w2 w3 := ((Kp.refl [] w2).alloc _).then K3 (by simp)
      have HK3 := hide ((unhide HK2).trans K23)
      obtain ⟨z0, z1, z2⟩ := cell_tri G3
      clear G2 G3 K3 K23
      refine hide ?_
      go_wp2_with fail
      go_ret
      exact ⟨rfl, unhide HK3⟩
set_option maxRecDepth 100000 in
set_option maxHeartbeats 4000000 in
theorem lgrow_any (v : Value) (ls : List (List Int)) (i : Int) (w : World) (hL : LcM ls v w) (h32 : ∀ x ∈ ls, x.length = 32) (hn : ls.length ≤ 1000) (hG : Gl w) :
    Calls Tryd.prog 11 #[v, .int .i64 i] w fun e w' => e = .returned (.bool true) ∧ Kp [] w w' := by
  have hm : ∀ x ∈ ls, x.length ≤ 1000 := fun x hx => by have := h32 x hx; omega
  by_cases hi : 0 ≤ i ∧ i ≤ (ls.length : Int)
  · obtain ⟨p, rfl⟩ : ∃ p : Nat, i = p := ⟨i.toNat, by omega⟩
    have hp : p ≤ ls.length := by omega
    have HC := hide (grow_ok v ls p w hL hp hn hm hG)
    obtain ⟨ps, hps⟩ : ∃ ps, ps = growP p ls := ⟨_, rfl⟩
    obtain ⟨r, hr⟩ : ∃ r, r = trootP ls := ⟨_, rfl⟩
    rw [← hps] at HC
    obtain ⟨q, hq⟩ : ∃ q, q = trootP (ls.take p) := ⟨_, rfl⟩
    have HQ := hide hq
    have HQB : Hid (Bs q) := by rw [hq]; exact trootP_bs _ (fun x hx => hL.bs x (List.mem_of_mem_take hx))
    have HCP : Hid (cgrP p ls.length ps q r = true) := by rw [hps, hr, hq]; exact cgrP_grow h32 hn hp
    have HPL : Hid (ps.length ≤ 11) := by rw [hps]; exact growP_1000 hn hp
    have HMT : Hid (∀ x ∈ ls.take p, x.length ≤ 1000) := fun x hx => hm x (List.mem_of_mem_take hx)
    have HLT : Hid ((ls.take p).length = p) := hide (by rw [List.length_take]; omega)
    have HPS := hide hps
    have HRR := hide hr
    have HL := hide hL
    have HG := hide hG
    have HM := hide hm
    obtain ⟨SR, hSR⟩ : ∃ S, S = strOfNums r := ⟨_, rfl⟩
    have HSR := hide hSR
    obtain ⟨n, hnn⟩ : ∃ n, n = ls.length := ⟨_, rfl⟩
    have HNL := hide hnn.symm
    have hpn : p ≤ n := by omega
    have hn1 : n ≤ 1000 := by omega
    rw [← hnn] at HC HCP
    obtain ⟨al, cl, e, -⟩ := hL.shape
    rw [← hnn] at e
    subst e
    have hi1 : ¬ (p : Int) < 0 := by omega
    have hi2 : ¬ (n : Int) < (p : Int) := by omega
    clear hL hG hm h32 hp hn hi hps hr hSR hnn hq
    go_enter Tryd.func11, Tryd.ntmps11
    go_wp2_with fail
    refine (unhide HC).mono ?_
    rintro ee w2 ⟨v2, rfl, V2, K2⟩
    obtain ⟨a2, c2, e2, L2⟩ := V2.shape
    obtain ⟨m2, hm2⟩ : ∃ m, m = ps.length := ⟨_, rfl⟩
    rw [← hm2] at e2 L2
    subst e2
    have HV2 := hide V2
    have HL2 := hide L2
    have HK2 := hide K2
    have G2 := heap_alloc_new w2 (.cells #[.int .i64 0, .int .i64 0, .slice none 0 0] 39)
    clear V2 L2 K2 HC hm2
    go_wp2_with (refine wpList_store_tri triG rfl (.tmp 5) (.tmp 11) rfl w2.heap.size rfl _ _ _ _ _ _ G2 rfl ⟨rfl, rfl, rfl⟩ ?_; intro w3 G3 K3; refine Hid.out ?_)
    have K23 : Kp [] w2 w3 := ((Kp.refl [] w2).alloc _).then K3 (by simp)
    have HK3 := hide ((unhide HK2).trans K23)
    obtain ⟨g0, hg0⟩ : ∃ g, g = w2.heap.size := ⟨_, rfl⟩
    rw [← hg0] at G3 ⊢
    have HST : Hid (∀ w', Kp [] w3 w' → w'.heap[g0]? = some (.cells #[.int .i64 p, .int .i64 n, .slice a2 m2 c2] 39 (0, 0))) := fun w' k => k.heap G3 (by simp)
    have HV3 : Hid (∀ w', Kp [] w3 w' → TV w' (.agg #[.int .i64 p, .int .i64 n, .slice a2 m2 c2]) p n ps) := fun w' k => (unhide HV2).kept (K23.trans k)
    have HP3 : Hid (∀ w', Kp [] w3 w' → LcM ps (.slice a2 m2 c2) w') := fun w' k => (unhide HL2).kept (K23.trans k)
    have HLL : Hid (∀ w', Kp [] w3 w' → LcM ls (.slice al n cl) w') := fun w' k => (unhide HL).kept ((unhide HK3).trans k)
    have HGL : Hid (∀ w', Kp [] w3 w' → Gl w') := fun w' k => (unhide HG).kept ((unhide HK3).trans k) (by simp)
    clear G2 G3 K3 K23 hg0
    refine hide ?_
    go_wp2_with fail
    have HD3 : Hid (∀ w', Kp [] w3.drew w' → Kp [] w3 w') := fun w' k => (kp_drew w3).trans k
    refine region_grow Tryd.mixed [Is (.int .i64 0), Is (.bool true), Is (.bool true), Is (.pointer (some ⟨g0, 0, none⟩)), Is (.int .i64 p), Is (.int .i64 p), Is (.bool true), Is (.bool true), Is (.bool true), Is (.pointer (some ⟨g0, 1, none⟩)), Is (.int .i64 n), Is (.slice al n cl), Is (.int .i64 n), Is (.bool true), Is (.bool true), Is (.bool true), Is (.pointer (some ⟨g0, 2, none⟩)), Is (.slice a2 m2 c2), Is (.slice al n cl), Is (.int .i64 p), LcM ps, Is (.bool true), Is (.bool true), Is (.bool true), Is (.agg #[.int .i64 p, .int .i64 n, .slice a2 m2 c2]), Is (.slice al n cl), Is (.int .i64 p), LcM ((ls).take p), SlT (q), Is (.slice al n cl), SlT (r), Is (.bool true), Is (.bool true), Is (.bool true)] [[(6, none)], [(39, some 0)], [(40, some 1)], [(5, none), (41, some 2)], [(42, some 3), (41, some 2)], [(1, none), (41, some 2)], [(43, some 4), (44, some 5), (41, some 2)], [(41, some 2), (45, some 6)], [(46, some 7)], [(5, none), (47, some 8)], [(48, some 9), (47, some 8)], [(0, none), (47, some 8)], [(50, some 11), (47, some 8)], [(49, some 10), (51, some 12), (47, some 8)], [(47, some 8), (52, some 13)], [(53, some 14)], [(5, none), (54, some 15)], [(55, some 16), (54, some 15)], [(0, none), (54, some 15)], [(1, none), (54, some 15)], [(57, some 18), (58, some 19), (54, some 15)], [(56, some 17), (59, some 20), (54, some 15)], [(54, some 15), (60, some 21)], [(61, some 22)], [(5, none), (62, some 23)], [(0, none), (62, some 23)], [(1, none), (62, some 23)], [(64, some 25), (65, some 26), (62, some 23)], [(66, some 27), (62, some 23)], [(0, none), (62, some 23)], [(68, some 29), (62, some 23)], [(63, some 24), (67, some 28), (69, some 30), (62, some 23)], [(62, some 23), (70, some 31)], [(71, some 32)]] (by kernel_rfl) ?_ ?_ ?_
    · simp only [List.mem_cons, List.not_mem_nil, or_false]
      intro R hR
      rcases hR with rfl | rfl | rfl | rfl | rfl | rfl | rfl | rfl | rfl | rfl | rfl | rfl | rfl | rfl | rfl | rfl | rfl | rfl | rfl | rfl | rfl | rfl | rfl | rfl | rfl | rfl | rfl | rfl | rfl | rfl | rfl | rfl | rfl | rfl <;> first | exact stable_is _ | exact stable_lcm _ | exact stable_sl _
    · refine steps_cons (fun a w hk hn => ?_) ?_
      · have h6 : a.eval (.tmp 6) = .int .i64 0 := hn.1
        clear hn
        refine wants_plain rfl ?_
        exact grown_move (.tmp 6) rfl h6
      refine steps_cons (fun a w hk hn => ?_) ?_
      · have h39 : a.eval (.tmp 39) = .int .i64 0 := hn.1
        clear hn
        refine wants_plain rfl ?_
        refine grown_run (v := .bool true) ?_ (Kp.refl _ _) rfl
        obtain ⟨ρ, hρ, hc, hf, hg⟩ := eval_is a
        rw [hρ] at h39 ⊢
        simp [go_sem, hc, h39]
      refine steps_cons (fun a w hk hn => ?_) ?_
      · have h40 : a.eval (.tmp 40) = .bool true := hn.1
        clear hn
        refine wants_plain rfl ?_
        exact grown_move (.tmp 40) rfl h40
      refine steps_cons (fun a w hk hn => ?_) ?_
      · have h5 : a.eval (.tmp 5) = .pointer (some ⟨g0, 0, none⟩) := hn.1
        have h41 : a.eval (.tmp 41) = .bool true := hn.2.1
        clear hn
        refine wants_guard (d := 41) rfl rfl h41 ?_
        exact grown_fld0 triG (.tmp 5) rfl h5
      refine steps_cons (fun a w hk hn => ?_) ?_
      · have h42 : a.eval (.tmp 42) = .pointer (some ⟨g0, 0, none⟩) := hn.1
        have h41 : a.eval (.tmp 41) = .bool true := hn.2.1
        clear hn
        refine wants_guard (d := 41) rfl rfl h41 ?_
        exact grown_ldi (.tmp 42) rfl 0 _ h42 (cell_tri ((fun w'' k => unhide HST w'' (unhide HD3 w'' k)) w hk)).1
      refine steps_cons (fun a w hk hn => ?_) ?_
      · have h1 : a.eval (.tmp 1) = .int .i64 p := hn.1
        have h41 : a.eval (.tmp 41) = .bool true := hn.2.1
        clear hn
        refine wants_guard (d := 41) rfl rfl h41 ?_
        exact grown_move (.tmp 1) rfl h1
      refine steps_cons (fun a w hk hn => ?_) ?_
      · have h43 : a.eval (.tmp 43) = .int .i64 p := hn.1
        have h44 : a.eval (.tmp 44) = .int .i64 p := hn.2.1
        have h41 : a.eval (.tmp 41) = .bool true := hn.2.2.1
        clear hn
        refine wants_guard (d := 41) rfl rfl h41 ?_
        refine grown_run (v := .bool true) ?_ (Kp.refl _ _) rfl
        obtain ⟨ρ, hρ, hc, hf, hg⟩ := eval_is a
        rw [hρ] at h43 h44 ⊢
        simp [go_sem, h43, h44]
      refine steps_cons (fun a w hk hn => ?_) ?_
      · have h41 : a.eval (.tmp 41) = .bool true := hn.1
        have h45 : a.eval (.tmp 45) = .bool true := hn.2.1
        clear hn
        refine wants_plain rfl ?_
        exact grown_pick _ _ _ true rfl h41 h45
      refine steps_cons (fun a w hk hn => ?_) ?_
      · have h46 : a.eval (.tmp 46) = .bool true := hn.1
        clear hn
        refine wants_plain rfl ?_
        exact grown_move (.tmp 46) rfl h46
      refine steps_cons (fun a w hk hn => ?_) ?_
      · have h5 : a.eval (.tmp 5) = .pointer (some ⟨g0, 0, none⟩) := hn.1
        have h47 : a.eval (.tmp 47) = .bool true := hn.2.1
        clear hn
        refine wants_guard (d := 47) rfl rfl h47 ?_
        exact grown_fld1 triG (.tmp 5) rfl h5
      refine steps_cons (fun a w hk hn => ?_) ?_
      · have h48 : a.eval (.tmp 48) = .pointer (some ⟨g0, 1, none⟩) := hn.1
        have h47 : a.eval (.tmp 47) = .bool true := hn.2.1
        clear hn
        refine wants_guard (d := 47) rfl rfl h47 ?_
        exact grown_ldi (.tmp 48) rfl 1 _ h48 (cell_tri ((fun w'' k => unhide HST w'' (unhide HD3 w'' k)) w hk)).2.1
      refine steps_cons (fun a w hk hn => ?_) ?_
      · have h0 : a.eval (.tmp 0) = .slice al n cl := hn.1
        have h47 : a.eval (.tmp 47) = .bool true := hn.2.1
        clear hn
        refine wants_guard (d := 47) rfl rfl h47 ?_
        exact grown_move (.tmp 0) rfl h0
      refine steps_cons (fun a w hk hn => ?_) ?_
      · have h50 : a.eval (.tmp 50) = .slice al n cl := hn.1
        have h47 : a.eval (.tmp 47) = .bool true := hn.2.1
        clear hn
        refine wants_guard (d := 47) rfl rfl h47 ?_
        refine grown_run (v := .int .i64 n) ?_ (Kp.refl _ _) rfl
        obtain ⟨ρ, hρ, hc, hf, hg⟩ := eval_is a
        rw [hρ] at h50 ⊢
        simp [go_sem, h50]
      refine steps_cons (fun a w hk hn => ?_) ?_
      · have h49 : a.eval (.tmp 49) = .int .i64 n := hn.1
        have h51 : a.eval (.tmp 51) = .int .i64 n := hn.2.1
        have h47 : a.eval (.tmp 47) = .bool true := hn.2.2.1
        clear hn
        refine wants_guard (d := 47) rfl rfl h47 ?_
        refine grown_run (v := .bool true) ?_ (Kp.refl _ _) rfl
        obtain ⟨ρ, hρ, hc, hf, hg⟩ := eval_is a
        rw [hρ] at h49 h51 ⊢
        simp [go_sem, h49, h51]
      refine steps_cons (fun a w hk hn => ?_) ?_
      · have h47 : a.eval (.tmp 47) = .bool true := hn.1
        have h52 : a.eval (.tmp 52) = .bool true := hn.2.1
        clear hn
        refine wants_plain rfl ?_
        exact grown_pick _ _ _ true rfl h47 h52
      refine steps_cons (fun a w hk hn => ?_) ?_
      · have h53 : a.eval (.tmp 53) = .bool true := hn.1
        clear hn
        refine wants_plain rfl ?_
        exact grown_move (.tmp 53) rfl h53
      refine steps_cons (fun a w hk hn => ?_) ?_
      · have h5 : a.eval (.tmp 5) = .pointer (some ⟨g0, 0, none⟩) := hn.1
        have h54 : a.eval (.tmp 54) = .bool true := hn.2.1
        clear hn
        refine wants_guard (d := 54) rfl rfl h54 ?_
        exact grown_fld2 triG (.tmp 5) rfl h5
      refine steps_cons (fun a w hk hn => ?_) ?_
      · have h55 : a.eval (.tmp 55) = .pointer (some ⟨g0, 2, none⟩) := hn.1
        have h54 : a.eval (.tmp 54) = .bool true := hn.2.1
        clear hn
        refine wants_guard (d := 54) rfl rfl h54 ?_
        exact grown_ldl (.tmp 55) rfl 2 _ _ _ h55 (cell_tri ((fun w'' k => unhide HST w'' (unhide HD3 w'' k)) w hk)).2.2
      refine steps_cons (fun a w hk hn => ?_) ?_
      · have h0 : a.eval (.tmp 0) = .slice al n cl := hn.1
        have h54 : a.eval (.tmp 54) = .bool true := hn.2.1
        clear hn
        refine wants_guard (d := 54) rfl rfl h54 ?_
        exact grown_move (.tmp 0) rfl h0
      refine steps_cons (fun a w hk hn => ?_) ?_
      · have h1 : a.eval (.tmp 1) = .int .i64 p := hn.1
        have h54 : a.eval (.tmp 54) = .bool true := hn.2.1
        clear hn
        refine wants_guard (d := 54) rfl rfl h54 ?_
        exact grown_move (.tmp 1) rfl h1
      refine steps_cons (fun a w hk hn => ?_) ?_
      · have h57 : a.eval (.tmp 57) = .slice al n cl := hn.1
        have h58 : a.eval (.tmp 58) = .int .i64 p := hn.2.1
        have h54 : a.eval (.tmp 54) = .bool true := hn.2.2.1
        clear hn
        refine wants_guard (d := 54) rfl rfl h54 ?_
        refine grown_call (f := 21) rfl Tryd.func21 (by kernel_rfl) (by kernel_rfl) ?_
        simp only [List.map_toArray, List.map_cons, List.map_nil, h57, h58]
        refine (rgrow_any _ ls p ps w (unhide HPS) (by rw [unhide HNL]; exact hpn) (by rw [unhide HNL]; omega) (unhide HLL w (unhide HD3 w hk)) (unhide HM)).mono ?_
        rintro e w' ⟨ao, m, c, rfl, A⟩
        exact ⟨_, rfl, A.kp, A.lcm (Nat.le_trans (unhide HPL) (by omega))⟩
      refine steps_cons (fun a w hk hn => ?_) ?_
      · have h56 : a.eval (.tmp 56) = .slice a2 m2 c2 := hn.1
        have h59 : (LcM ps) (a.eval (.tmp 59)) w := hn.2.1
        have h54 : a.eval (.tmp 54) = .bool true := hn.2.2.1
        clear hn
        refine wants_guard (d := 54) rfl rfl h54 ?_
        refine grown_call (f := 28) rfl Tryd.func28 (by kernel_rfl) (by kernel_rfl) ?_
        simp only [List.map_toArray, List.map_cons, List.map_nil, h56]
        refine (lists_lsm (unhide HP3 w (unhide HD3 w hk)).lsm h59.lsm).mono ?_
        rintro e w' ⟨rfl, K⟩
        exact ⟨_, rfl, K, rfl⟩
      refine steps_cons (fun a w hk hn => ?_) ?_
      · have h54 : a.eval (.tmp 54) = .bool true := hn.1
        have h60 : a.eval (.tmp 60) = .bool true := hn.2.1
        clear hn
        refine wants_plain rfl ?_
        exact grown_pick _ _ _ true rfl h54 h60
      refine steps_cons (fun a w hk hn => ?_) ?_
      · have h61 : a.eval (.tmp 61) = .bool true := hn.1
        clear hn
        refine wants_plain rfl ?_
        exact grown_move (.tmp 61) rfl h61
      refine steps_cons (fun a w hk hn => ?_) ?_
      · have h5 : a.eval (.tmp 5) = .pointer (some ⟨g0, 0, none⟩) := hn.1
        have h62 : a.eval (.tmp 62) = .bool true := hn.2.1
        clear hn
        refine wants_guard (d := 62) rfl rfl h62 ?_
        exact grown_loadtri triG (.tmp 5) rfl h5 ((fun w'' k => unhide HST w'' (unhide HD3 w'' k)) w hk) rfl
      refine steps_cons (fun a w hk hn => ?_) ?_
      · have h0 : a.eval (.tmp 0) = .slice al n cl := hn.1
        have h62 : a.eval (.tmp 62) = .bool true := hn.2.1
        clear hn
        refine wants_guard (d := 62) rfl rfl h62 ?_
        exact grown_move (.tmp 0) rfl h0
      refine steps_cons (fun a w hk hn => ?_) ?_
      · have h1 : a.eval (.tmp 1) = .int .i64 p := hn.1
        have h62 : a.eval (.tmp 62) = .bool true := hn.2.1
        clear hn
        refine wants_guard (d := 62) rfl rfl h62 ?_
        exact grown_move (.tmp 1) rfl h1
      refine steps_cons (fun a w hk hn => ?_) ?_
      · have h64 : a.eval (.tmp 64) = .slice al n cl := hn.1
        have h65 : a.eval (.tmp 65) = .int .i64 p := hn.2.1
        have h62 : a.eval (.tmp 62) = .bool true := hn.2.2.1
        clear hn
        refine wants_guard (d := 62) rfl rfl h62 ?_
        exact grown_lhead (.tmp 64) (.tmp 65) (ls) p rfl (by rw [h64]; exact (fun w'' k => unhide HLL w'' (unhide HD3 w'' k)) w hk) h65 (by rw [unhide HNL]; exact hpn)
      refine steps_cons (fun a w hk hn => ?_) ?_
      · have h66 : (LcM ((ls).take p)) (a.eval (.tmp 66)) w := hn.1
        have h62 : a.eval (.tmp 62) = .bool true := hn.2.1
        clear hn
        refine wants_guard (d := 62) rfl rfl h62 ?_
        refine grown_call (f := 18) rfl Tryd.func18 (by kernel_rfl) (by kernel_rfl) ?_
        simp only [List.map_toArray, List.map_cons, List.map_nil]
        refine (rroot_any p _ (ls.take p) q w (unhide HQ) (unhide HLT) (by omega) h66 (unhide HMT)).mono ?_
        rintro e w' ⟨ao, m, c, rfl, R, K⟩
        exact ⟨_, rfl, K, R⟩
      refine steps_cons (fun a w hk hn => ?_) ?_
      · have h0 : a.eval (.tmp 0) = .slice al n cl := hn.1
        have h62 : a.eval (.tmp 62) = .bool true := hn.2.1
        clear hn
        refine wants_guard (d := 62) rfl rfl h62 ?_
        exact grown_move (.tmp 0) rfl h0
      refine steps_cons (fun a w hk hn => ?_) ?_
      · have h68 : a.eval (.tmp 68) = .slice al n cl := hn.1
        have h62 : a.eval (.tmp 62) = .bool true := hn.2.1
        clear hn
        refine wants_guard (d := 62) rfl rfl h62 ?_
        refine grown_call (f := 18) rfl Tryd.func18 (by kernel_rfl) (by kernel_rfl) ?_
        simp only [List.map_toArray, List.map_cons, List.map_nil, h68]
        refine (rroot_any n _ ls r w (unhide HRR) (unhide HNL) (by omega) (unhide HLL w (unhide HD3 w hk)) (unhide HM)).mono ?_
        rintro e w' ⟨ao, m, c, rfl, R, K⟩
        exact ⟨_, rfl, K, R⟩
      refine steps_cons (fun a w hk hn => ?_) ?_
      · have h63 : a.eval (.tmp 63) = .agg #[.int .i64 p, .int .i64 n, .slice a2 m2 c2] := hn.1
        have h67 : Sl w (a.eval (.tmp 67)) (q) := hn.2.1
        have h69 : Sl w (a.eval (.tmp 69)) (r) := hn.2.2.1
        have h62 : a.eval (.tmp 62) = .bool true := hn.2.2.2.1
        clear hn
        refine wants_guard (d := 62) rfl rfl h62 ?_
        refine grown_call (f := 27) rfl Tryd.func27 (by kernel_rfl) (by kernel_rfl) ?_
        simp only [List.map_toArray, List.map_cons, List.map_nil, h63]
        refine (cgrow_any _ _ _ p n ps q r w (unhide HV3 w (unhide HD3 w hk)) h67 (unhide HQB) h69 (by omega) (unhide HGL w (unhide HD3 w hk))).mono ?_
        rintro e w' ⟨rfl, K⟩
        exact ⟨_, rfl, K, congrArg Value.bool (unhide HCP)⟩
      refine steps_cons (fun a w hk hn => ?_) ?_
      · have h62 : a.eval (.tmp 62) = .bool true := hn.1
        have h70 : a.eval (.tmp 70) = .bool true := hn.2.1
        clear hn
        refine wants_plain rfl ?_
        exact grown_pick _ _ _ true rfl h62 h70
      refine steps_cons (fun a w hk hn => ?_) ?_
      · have h71 : a.eval (.tmp 71) = .bool true := hn.1
        clear hn
        refine wants_plain rfl ?_
        exact grown_assign (.tmp 71) rfl h71
      exact trivial
    intro W1 hkW1
    rintro _ rfl
    rintro _ rfl
    rintro _ rfl
    rintro _ rfl
    rintro _ rfl
    rintro _ rfl
    rintro _ rfl
    rintro _ rfl
    rintro _ rfl
    rintro _ rfl
    rintro _ rfl
    rintro _ rfl
    rintro _ rfl
    rintro _ rfl
    rintro _ rfl
    rintro _ rfl
    rintro _ rfl
    rintro _ rfl
    rintro _ rfl
    rintro _ rfl
    intro v59 h59
    rintro _ rfl
    rintro _ rfl
    rintro _ rfl
    rintro _ rfl
    rintro _ rfl
    rintro _ rfl
    intro v66 h66
    intro v67 h67
    rintro _ rfl
    intro v69 h69
    rintro _ rfl
    rintro _ rfl
    rintro _ rfl
    refine fin_nil ?_
    simp only [Act.put, List.set_cons_zero, List.set_cons_succ, List.setIfInBounds_toArray]
    go_wp2_with fail
    go_ret
    exact ⟨rfl, (unhide HK3).trans (unhide HD3 W1 hkW1)⟩
  · have HC := hide (grow_no v ls i w hL hi)
    obtain ⟨n, hnn⟩ : ∃ n, n = ls.length := ⟨_, rfl⟩
    rw [← hnn] at hi
    obtain ⟨al, cl, e, -⟩ := hL.shape
    rw [← hnn] at e
    subst e
    clear hL hG hm h32 hn hnn
    by_cases hi1 : i < 0
    · clear hi
      go_enter Tryd.func11, Tryd.ntmps11
      go_wp2_with fail
      refine (unhide HC).mono ?_
      rintro ee w2 ⟨rfl, K2⟩
      have HK2 := hide K2
      have G2 := heap_alloc_new w2 (.cells #[.int .i64 0, .int .i64 0, .slice none 0 0] 39)
      clear K2 HC
      go_wp2_with (refine wpList_store_tri triG rfl (.tmp 5) (.tmp 11) rfl w2.heap.size rfl _ _ _ _ _ _ G2 rfl ⟨rfl, rfl, rfl⟩ ?_; intro w3 G3 K3; refine Hid.out ?_)
      have K23 : Kp [] w2 w3 := ((Kp.refl [] w2).alloc _).then K3 (by simp)
      have HK3 := hide ((unhide HK2).trans K23)
      obtain ⟨z0, z1, z2⟩ := cell_tri G3
      clear G2 G3 K3 K23
      refine hide ?_
      go_wp2_with fail
      go_ret
      exact ⟨rfl, unhide HK3⟩
    · have hi2 : (n : Int) < i := by omega
      clear hi
      go_enter Tryd.func11, Tryd.ntmps11
      go_wp2_with fail
      refine (unhide HC).mono ?_
      rintro ee w2 ⟨rfl, K2⟩
      have HK2 := hide K2
      have G2 := heap_alloc_new w2 (.cells #[.int .i64 0, .int .i64 0, .slice none 0 0] 39)
      clear K2 HC
      go_wp2_with (refine wpList_store_tri triG rfl (.tmp 5) (.tmp 11) rfl w2.heap.size rfl _ _ _ _ _ _ G2 rfl ⟨rfl, rfl, rfl⟩ ?_; intro w3 G3 K3; refine Hid.out ?_)
      have K23 : Kp [] w2 w3 := ((Kp.refl [] w2).alloc _).then K3 (by simp)
      have HK3 := hide ((unhide HK2).trans K23)
      obtain ⟨z0, z1, z2⟩ := cell_tri G3
      clear G2 G3 K3 K23
      refine hide ?_
      go_wp2_with fail
      go_ret
      exact ⟨rfl, unhide HK3⟩
end Go.Proofs.YtphhofgjnlfjmaaDoor
