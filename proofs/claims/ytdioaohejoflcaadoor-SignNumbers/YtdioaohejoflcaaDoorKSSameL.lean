/-
  The contract of the law package's same.
-/
import Derived.Test.YtdioaohejoflcaaDoorKSKnown
namespace Go.Proofs.YtdioaohejoflcaaDoor
open Go.RowKit
open Go.Proofs

set_option maxRecDepth 100000 in
set_option maxHeartbeats 4000000 in
theorem lsame_any (vpub : Value) (pub : List Int) (vm : Value) (ms : List Int) (v : Value) (i : Int) (ps qs : List (List Int)) (w : World) (hP : Sl w vpub pub) (hPB : Bs pub) (hM : Sl w vm ms) (hMB : Bs ms) (hml : ms.length ≤ 1000) (hV : SigV w v i ps qs) (hi : -9223372036854775808 ≤ i ∧ i ≤ 9223372036854775807) (hG : Gl w) :
    Calls Tryd.prog 17 #[vpub, vm, v] w fun e w' => e = .returned (.bool true) ∧ Kp [] w w' := by
  obtain ⟨c, hc⟩ : ∃ c, c = rgtP i ps qs := ⟨_, rfl⟩
  obtain ⟨b, hb⟩ : ∃ b, b = verP pub ms i ps qs := ⟨_, rfl⟩
  obtain ⟨ap, np, cp, aq, nq, cq, lp, lq, rfl, hLP, hp, hLQ, hq, hnp, hnq⟩ := hV.shape
  clear hLP hp hLQ hq hnp hnq
  obtain ⟨ob, hob⟩ : ∃ o : Obj, o = (.cells #[.int .i64 i, .slice ap np cp, .slice aq nq cq] 33) := ⟨_, rfl⟩
  have K1 : Kp [] w (w.alloc ob) := (Kp.refl [] w).alloc ob
  have HE1 := hide (fun (h : rgtP i ps qs = true) => encode_any _ i ps qs h (w.alloc ob) (hV.kept K1))
  have HE0 := hide (fun (h : rgtP i ps qs = false) => encode_no _ i ps qs h (w.alloc ob) (hV.kept K1))
  have HR := hide (fun w' (k' : Kp [] w w') => refright_any _ i ps qs c hc w' (hV.kept k') hi)
  have hl1 := load_sig (w.alloc ob) w.heap.size (.int .i64 i) (.slice ap np cp) (.slice aq nq cq) (0, 0) (by rw [hob]; exact heap_alloc_new w _)
  have G1 : Hid ((w.alloc ob).heap[w.heap.size]? = some (.cells #[.int .i64 i, .slice ap np cp, .slice aq nq cq] 33 (0, 0))) := by rw [hob]; exact heap_alloc_new w _
  rw [hob] at K1 HE1 HE0 hl1 G1
  have HK1 := hide K1
  have HPu := hide hP
  have HPB := hide hPB
  have HM := hide hM
  have HMB := hide hMB
  have HG := hide hG
  have HVw := hide hV
  have HI := hide hi
  have HB := hide hb
  have HCC := hide hc
  obtain ⟨au, cu, hvu, _⟩ := hP
  obtain ⟨nu, hnu⟩ : ∃ n, n = pub.length := ⟨_, rfl⟩
  rw [← hnu] at hvu
  subst hvu
  obtain ⟨am, cm, hvm, _⟩ := hM
  obtain ⟨nm, hnm⟩ : ∃ n, n = ms.length := ⟨_, rfl⟩
  rw [← hnm] at hvm
  subst hvm
  clear hob K1 hPB hMB hV hG hnu hnm hb hc hi
  cases c
  · have HE := hide (unhide HE0 (unhide HCC).symm)
    clear HE0 HE1
    go_enter Tryd.func17, Tryd.ntmps17
    go_wp2_with fail
    refine (unhide HE).mono ?_
    rintro ee w2 ⟨rfl, K2⟩
    have HK2 := hide ((unhide HK1).trans K2)
    have G2 := K2.heap (unhide G1) (by simp)
    have HG2 := hide G2
    have HC2 := hide (unhide HR w2 (unhide HK2))
    clear K2 HE HK1 G1 G2 hl1 HR
    go_wp2_with (refine wpList_load_row rfl 33 (.tmp 5) rfl w.heap.size rfl 33 _ (0, 0) _ (unhide HG2) Tryd.underlying33 rfl Tryd.sigSize ?_)
    refine (unhide HC2).mono ?_
    rintro ee w3 ⟨rfl, K3⟩
    have HK3 := hide ((unhide HK2).trans K3)
    have HG3 : Hid (∀ w', Kp [] w3.drew w' → w'.heap[w.heap.size]? = some (.cells #[.int .i64 i, .slice ap np cp, .slice aq nq cq] 33 (0, 0))) := fun w' k' => (K3.trans ((kp_drew w3).trans k')).heap (unhide HG2) (by simp)
    have HVV : Hid (∀ w', Kp [] w3.drew w' → SigV w' (.agg #[.int .i64 i, .slice ap np cp, .slice aq nq cq]) i ps qs) := fun w' k' => (unhide HVw).kept ((unhide HK3).trans ((kp_drew w3).trans k'))
    have HPP : Hid (∀ w', Kp [] w3.drew w' → Sl w' (.slice au nu cu) pub) := fun w' k' => (unhide HPu).kept ((unhide HK3).trans ((kp_drew w3).trans k')) (by simp)
    have HMM : Hid (∀ w', Kp [] w3.drew w' → Sl w' (.slice am nm cm) ms) := fun w' k' => (unhide HM).kept ((unhide HK3).trans ((kp_drew w3).trans k')) (by simp)
    have HGL : Hid (∀ w', Kp [] w3.drew w' → Gl w') := fun w' k' => (unhide HG).kept ((unhide HK3).trans ((kp_drew w3).trans k')) (by simp)
    clear K3 HC2 HG2 HK2
    go_wp2_with fail
    obtain ⟨g0, hg0⟩ : ∃ g, g = w.heap.size := ⟨_, rfl⟩
    rw [← hg0] at HG3 ⊢
    clear hg0
    refine region_grow Tryd.mixed [Is (.agg #[.int .i64 i, .slice ap np cp, .slice aq nq cq]), Is (.bool false), Is (.bool false), Is (.bool false), Is (.bool false), Is (.slice au nu cu), Is (.slice am nm cm), Is (.agg #[.int .i64 i, .slice ap np cp, .slice aq nq cq]), Is (.bool b), Is (.slice au nu cu), Is (.slice am nm cm), Is (.agg #[.int .i64 i, .slice ap np cp, .slice aq nq cq]), Is (.bool b), Is (.bool false), Is (.bool false), Is (.bool false), Is (.int .i64 12), Is (.bool false), Is (.bool false), Is (.bool false), Is (.bool false)] [[(5, none)], [(17, some 0)], [(9, none)], [(18, some 1), (19, some 2)], [(20, some 3)], [(0, none), (21, some 4)], [(1, none), (21, some 4)], [(5, none), (21, some 4)], [(22, some 5), (23, some 6), (24, some 7), (21, some 4)], [(0, none), (21, some 4)], [(1, none), (21, some 4)], [(5, none), (21, some 4)], [(26, some 9), (27, some 10), (28, some 11), (21, some 4)], [(25, some 8), (29, some 12), (21, some 4)], [(21, some 4), (30, some 13)], [(31, some 14)], [(8, none), (32, some 15)], [(33, some 16), (32, some 15)], [(9, none), (32, some 15)], [(34, some 17), (35, some 18), (32, some 15)], [(32, some 15), (36, some 19)]] (by kernel_rfl) ?_ ?_ ?_
    · simp only [List.mem_cons, List.not_mem_nil, or_false]
      intro R hR
      rcases hR with rfl | rfl | rfl | rfl | rfl | rfl | rfl | rfl | rfl | rfl | rfl | rfl | rfl | rfl | rfl | rfl | rfl | rfl | rfl | rfl | rfl <;> first | exact stable_is _
    · refine steps_cons (fun a w hk hn => ?_) ?_
      · have h5 : a.eval (.tmp 5) = .pointer (some ⟨g0, 0, none⟩) := hn.1
        clear hn
        refine wants_plain rfl ?_
        exact grown_loadsig (.tmp 5) rfl _ _ _ _ _ h5 (unhide HG3 w hk) rfl
      refine steps_cons (fun a w hk hn => ?_) ?_
      · have h17 : a.eval (.tmp 17) = .agg #[.int .i64 i, .slice ap np cp, .slice aq nq cq] := hn.1
        clear hn
        refine wants_plain rfl ?_
        refine grown_call (f := 37) rfl Tryd.func37 (by kernel_rfl) (by kernel_rfl) ?_
        simp only [List.map_toArray, List.map_cons, List.map_nil, h17]
        refine (sright_any _ i ps qs false (unhide HCC) w (unhide HVV w hk)).mono ?_
        rintro e w' ⟨rfl, K⟩
        exact ⟨_, rfl, K, rfl⟩
      refine steps_cons (fun a w hk hn => ?_) ?_
      · have h9 : a.eval (.tmp 9) = .bool false := hn.1
        clear hn
        refine wants_plain rfl ?_
        exact grown_move (.tmp 9) rfl h9
      refine steps_cons (fun a w hk hn => ?_) ?_
      · have h18 : a.eval (.tmp 18) = .bool false := hn.1
        have h19 : a.eval (.tmp 19) = .bool false := hn.2.1
        clear hn
        refine wants_plain rfl ?_
        refine grown_run (v := .bool false) ?_ (Kp.refl _ _) rfl
        obtain ⟨ρ, hρ, hc, hf, hg⟩ := eval_is a
        rw [hρ] at h18 h19 ⊢
        simp [go_sem, h18, h19]
      refine steps_cons (fun a w hk hn => ?_) ?_
      · have h20 : a.eval (.tmp 20) = .bool false := hn.1
        clear hn
        refine wants_plain rfl ?_
        exact grown_move (.tmp 20) rfl h20
      refine steps_cons (fun a w hk hn => ?_) ?_
      · have h0 : a.eval (.tmp 0) = .slice au nu cu := hn.1
        have h21 : a.eval (.tmp 21) = .bool false := hn.2.1
        clear hn
        refine wants_guard (d := 21) rfl rfl h21 ?_
        exact grown_move (.tmp 0) rfl h0
      refine steps_cons (fun a w hk hn => ?_) ?_
      · have h1 : a.eval (.tmp 1) = .slice am nm cm := hn.1
        have h21 : a.eval (.tmp 21) = .bool false := hn.2.1
        clear hn
        refine wants_guard (d := 21) rfl rfl h21 ?_
        exact grown_move (.tmp 1) rfl h1
      refine steps_cons (fun a w hk hn => ?_) ?_
      · have h5 : a.eval (.tmp 5) = .pointer (some ⟨g0, 0, none⟩) := hn.1
        have h21 : a.eval (.tmp 21) = .bool false := hn.2.1
        clear hn
        refine wants_guard (d := 21) rfl rfl h21 ?_
        exact grown_loadsig (.tmp 5) rfl _ _ _ _ _ h5 (unhide HG3 w hk) rfl
      refine steps_cons (fun a w hk hn => ?_) ?_
      · have h22 : a.eval (.tmp 22) = .slice au nu cu := hn.1
        have h23 : a.eval (.tmp 23) = .slice am nm cm := hn.2.1
        have h24 : a.eval (.tmp 24) = .agg #[.int .i64 i, .slice ap np cp, .slice aq nq cq] := hn.2.2.1
        have h21 : a.eval (.tmp 21) = .bool false := hn.2.2.2.1
        clear hn
        refine wants_guard (d := 21) rfl rfl h21 ?_
        refine grown_call (f := 16) rfl Tryd.func16 (by kernel_rfl) (by kernel_rfl) ?_
        simp only [List.map_toArray, List.map_cons, List.map_nil, h22, h23, h24]
        refine (sverify_any _ pub _ ms _ i ps qs b (unhide HB) w (unhide HPP w hk) (unhide HPB) (unhide HMM w hk) (unhide HMB) hml (unhide HVV w hk) (unhide HGL w hk)).mono ?_
        rintro e w' ⟨rfl, K⟩
        exact ⟨_, rfl, K, rfl⟩
      refine steps_cons (fun a w hk hn => ?_) ?_
      · have h0 : a.eval (.tmp 0) = .slice au nu cu := hn.1
        have h21 : a.eval (.tmp 21) = .bool false := hn.2.1
        clear hn
        refine wants_guard (d := 21) rfl rfl h21 ?_
        exact grown_move (.tmp 0) rfl h0
      refine steps_cons (fun a w hk hn => ?_) ?_
      · have h1 : a.eval (.tmp 1) = .slice am nm cm := hn.1
        have h21 : a.eval (.tmp 21) = .bool false := hn.2.1
        clear hn
        refine wants_guard (d := 21) rfl rfl h21 ?_
        exact grown_move (.tmp 1) rfl h1
      refine steps_cons (fun a w hk hn => ?_) ?_
      · have h5 : a.eval (.tmp 5) = .pointer (some ⟨g0, 0, none⟩) := hn.1
        have h21 : a.eval (.tmp 21) = .bool false := hn.2.1
        clear hn
        refine wants_guard (d := 21) rfl rfl h21 ?_
        exact grown_loadsig (.tmp 5) rfl _ _ _ _ _ h5 (unhide HG3 w hk) rfl
      refine steps_cons (fun a w hk hn => ?_) ?_
      · have h26 : a.eval (.tmp 26) = .slice au nu cu := hn.1
        have h27 : a.eval (.tmp 27) = .slice am nm cm := hn.2.1
        have h28 : a.eval (.tmp 28) = .agg #[.int .i64 i, .slice ap np cp, .slice aq nq cq] := hn.2.2.1
        have h21 : a.eval (.tmp 21) = .bool false := hn.2.2.2.1
        clear hn
        refine wants_guard (d := 21) rfl rfl h21 ?_
        refine grown_call (f := 27) rfl Tryd.func27 (by kernel_rfl) (by kernel_rfl) ?_
        simp only [List.map_toArray, List.map_cons, List.map_nil, h26, h27, h28]
        refine (refverify_any _ pub _ ms _ i ps qs b (unhide HB) w (unhide HPP w hk) (unhide HPB) (unhide HMM w hk) (unhide HMB) hml (unhide HVV w hk) (unhide HI)).mono ?_
        rintro e w' ⟨rfl, K⟩
        exact ⟨_, rfl, K, rfl⟩
      refine steps_cons (fun a w hk hn => ?_) ?_
      · have h25 : a.eval (.tmp 25) = .bool b := hn.1
        have h29 : a.eval (.tmp 29) = .bool b := hn.2.1
        have h21 : a.eval (.tmp 21) = .bool false := hn.2.2.1
        clear hn
        refine wants_guard (d := 21) rfl rfl h21 ?_
        refine grown_run (v := .bool false) ?_ (Kp.refl _ _) rfl
        obtain ⟨ρ, hρ, hc, hf, hg⟩ := eval_is a
        rw [hρ] at h25 h29 ⊢
        simp [go_sem, h25, h29]
      refine steps_cons (fun a w hk hn => ?_) ?_
      · have h21 : a.eval (.tmp 21) = .bool false := hn.1
        have h30 : a.eval (.tmp 30) = .bool false := hn.2.1
        clear hn
        refine wants_plain rfl ?_
        exact grown_pick _ _ _ false rfl h21 h30
      refine steps_cons (fun a w hk hn => ?_) ?_
      · have h31 : a.eval (.tmp 31) = .bool false := hn.1
        clear hn
        refine wants_plain rfl ?_
        exact grown_move (.tmp 31) rfl h31
      refine steps_cons (fun a w hk hn => ?_) ?_
      · have h8 : a.eval (.tmp 8) = .int .i64 12 := hn.1
        have h32 : a.eval (.tmp 32) = .bool false := hn.2.1
        clear hn
        refine wants_guard (d := 32) rfl rfl h32 ?_
        exact grown_move (.tmp 8) rfl h8
      refine steps_cons (fun a w hk hn => ?_) ?_
      · have h33 : a.eval (.tmp 33) = .int .i64 12 := hn.1
        have h32 : a.eval (.tmp 32) = .bool false := hn.2.1
        clear hn
        refine wants_guard (d := 32) rfl rfl h32 ?_
        refine grown_run (v := .bool false) ?_ (Kp.refl _ _) rfl
        obtain ⟨ρ, hρ, hc, hf, hg⟩ := eval_is a
        rw [hρ] at h33 ⊢
        simp [go_sem, hc, h33]
      refine steps_cons (fun a w hk hn => ?_) ?_
      · have h9 : a.eval (.tmp 9) = .bool false := hn.1
        have h32 : a.eval (.tmp 32) = .bool false := hn.2.1
        clear hn
        refine wants_guard (d := 32) rfl rfl h32 ?_
        exact grown_move (.tmp 9) rfl h9
      refine steps_cons (fun a w hk hn => ?_) ?_
      · have h34 : a.eval (.tmp 34) = .bool false := hn.1
        have h35 : a.eval (.tmp 35) = .bool false := hn.2.1
        have h32 : a.eval (.tmp 32) = .bool false := hn.2.2.1
        clear hn
        refine wants_guard (d := 32) rfl rfl h32 ?_
        refine grown_run (v := .bool false) ?_ (Kp.refl _ _) rfl
        obtain ⟨ρ, hρ, hc, hf, hg⟩ := eval_is a
        rw [hρ] at h34 h35 ⊢
        simp [go_sem, h34, h35]
      refine steps_cons (fun a w hk hn => ?_) ?_
      · have h32 : a.eval (.tmp 32) = .bool false := hn.1
        have h36 : a.eval (.tmp 36) = .bool false := hn.2.1
        clear hn
        refine wants_plain rfl ?_
        exact grown_pick _ _ _ false rfl h32 h36
      exact trivial
    intro W1 hkW1
    rintro _ rfl
    rintro _ rfl
    rintro _ rfl
    rintro _ rfl
    rintro _ rfl
    rintro _ rfl
    rintro _ rfl
    rintro _ rfl
    rintro _ rfl
    rintro _ rfl
    rintro _ rfl
    rintro _ rfl
    rintro _ rfl
    rintro _ rfl
    rintro _ rfl
    rintro _ rfl
    rintro _ rfl
    rintro _ rfl
    rintro _ rfl
    rintro _ rfl
    rintro _ rfl
    refine fin_nil ?_
    simp only [Act.put, List.set_cons_zero, List.set_cons_succ, List.setIfInBounds_toArray]
    go_wp2_with fail
    refine region_grow Tryd.mixed [Is (.bool false), Is (.bool false), Is (undef), Is (undef), Is (undef), Is (undef), Is (undef), Is (undef), Is (.bool false), Is (.bool false), Is (.bool false), Is (.bool true), Is (.bool true), Is (.int .i64 12), Is (.bool true), Is (.bool true), Is (.bool true), Is (.slice none 0 0), Is (.int .i64 0), Is (.bool true), Is (.bool true), Is (.bool true), Is (.bool true)] [[(9, none)], [(38, some 0)], [(7, none), (39, some 1)], [(40, some 2), (39, some 1)], [(5, none), (39, some 1)], [(42, some 4), (39, some 1)], [(43, some 5), (39, some 1)], [(41, some 3), (44, some 6), (39, some 1)], [(39, some 1), (45, some 7)], [(46, some 8)], [(9, none), (47, some 9)], [(48, some 10), (47, some 9)], [(49, some 11), (47, some 9)], [(8, none), (50, some 12)], [(51, some 13), (50, some 12)], [(50, some 12), (52, some 14), (47, some 9)], [(53, some 15), (47, some 9)], [(7, none), (54, some 16)], [(55, some 17), (54, some 16)], [(56, some 18), (54, some 16)], [(54, some 16), (57, some 19), (47, some 9)], [(47, some 9), (58, some 20)], [(59, some 21)]] (by kernel_rfl) ?_ ?_ ?_
    · simp only [List.mem_cons, List.not_mem_nil, or_false]
      intro R hR
      rcases hR with rfl | rfl | rfl | rfl | rfl | rfl | rfl | rfl | rfl | rfl | rfl | rfl | rfl | rfl | rfl | rfl | rfl | rfl | rfl | rfl | rfl | rfl | rfl <;> first | exact stable_is _
    · refine steps_cons (fun a w hk hn => ?_) ?_
      · have h9 : a.eval (.tmp 9) = .bool false := hn.1
        clear hn
        refine wants_plain rfl ?_
        exact grown_move (.tmp 9) rfl h9
      refine steps_cons (fun a w hk hn => ?_) ?_
      · have h38 : a.eval (.tmp 38) = .bool false := hn.1
        clear hn
        refine wants_plain rfl ?_
        exact grown_move (.tmp 38) rfl h38
      refine steps_cons (fun a w hk hn => ?_) ?_
      · have h7 : a.eval (.tmp 7) = .slice none 0 0 := hn.1
        have h39 : a.eval (.tmp 39) = .bool false := hn.2.1
        clear hn
        exact wants_not (d := 39) rfl rfl h39 rfl
      refine steps_cons (fun a w hk hn => ?_) ?_
      · have h40 : a.eval (.tmp 40) = undef := hn.1
        have h39 : a.eval (.tmp 39) = .bool false := hn.2.1
        clear hn
        exact wants_not (d := 39) rfl rfl h39 rfl
      refine steps_cons (fun a w hk hn => ?_) ?_
      · have h5 : a.eval (.tmp 5) = .pointer (some ⟨g0, 0, none⟩) := hn.1
        have h39 : a.eval (.tmp 39) = .bool false := hn.2.1
        clear hn
        exact wants_not (d := 39) rfl rfl h39 rfl
      refine steps_cons (fun a w hk hn => ?_) ?_
      · have h42 : a.eval (.tmp 42) = undef := hn.1
        have h39 : a.eval (.tmp 39) = .bool false := hn.2.1
        clear hn
        exact wants_not (d := 39) rfl rfl h39 rfl
      refine steps_cons (fun a w hk hn => ?_) ?_
      · have h43 : a.eval (.tmp 43) = undef := hn.1
        have h39 : a.eval (.tmp 39) = .bool false := hn.2.1
        clear hn
        exact wants_not (d := 39) rfl rfl h39 rfl
      refine steps_cons (fun a w hk hn => ?_) ?_
      · have h41 : a.eval (.tmp 41) = undef := hn.1
        have h44 : a.eval (.tmp 44) = undef := hn.2.1
        have h39 : a.eval (.tmp 39) = .bool false := hn.2.2.1
        clear hn
        exact wants_not (d := 39) rfl rfl h39 rfl
      refine steps_cons (fun a w hk hn => ?_) ?_
      · have h39 : a.eval (.tmp 39) = .bool false := hn.1
        have h45 : a.eval (.tmp 45) = undef := hn.2.1
        clear hn
        refine wants_plain rfl ?_
        exact grown_pick _ _ _ false rfl h39 rfl
      refine steps_cons (fun a w hk hn => ?_) ?_
      · have h46 : a.eval (.tmp 46) = .bool false := hn.1
        clear hn
        refine wants_plain rfl ?_
        exact grown_move (.tmp 46) rfl h46
      refine steps_cons (fun a w hk hn => ?_) ?_
      · have h9 : a.eval (.tmp 9) = .bool false := hn.1
        have h47 : a.eval (.tmp 47) = .bool false := hn.2.1
        clear hn
        refine wants_guard (d := 47) rfl rfl h47 ?_
        exact grown_move (.tmp 9) rfl h9
      refine steps_cons (fun a w hk hn => ?_) ?_
      · have h48 : a.eval (.tmp 48) = .bool false := hn.1
        have h47 : a.eval (.tmp 47) = .bool false := hn.2.1
        clear hn
        refine wants_guard (d := 47) rfl rfl h47 ?_
        refine grown_run (v := .bool true) ?_ (Kp.refl _ _) rfl
        obtain ⟨ρ, hρ, hc, hf, hg⟩ := eval_is a
        rw [hρ] at h48 ⊢
        simp [go_sem, h48]
      refine steps_cons (fun a w hk hn => ?_) ?_
      · have h49 : a.eval (.tmp 49) = .bool true := hn.1
        have h47 : a.eval (.tmp 47) = .bool false := hn.2.1
        clear hn
        refine wants_guard (d := 47) rfl rfl h47 ?_
        exact grown_move (.tmp 49) rfl h49
      refine steps_cons (fun a w hk hn => ?_) ?_
      · have h8 : a.eval (.tmp 8) = .int .i64 12 := hn.1
        have h50 : a.eval (.tmp 50) = .bool true := hn.2.1
        clear hn
        refine wants_guard (d := 50) rfl rfl h50 ?_
        exact grown_move (.tmp 8) rfl h8
      refine steps_cons (fun a w hk hn => ?_) ?_
      · have h51 : a.eval (.tmp 51) = .int .i64 12 := hn.1
        have h50 : a.eval (.tmp 50) = .bool true := hn.2.1
        clear hn
        refine wants_guard (d := 50) rfl rfl h50 ?_
        refine grown_run (v := .bool true) ?_ (Kp.refl _ _) rfl
        obtain ⟨ρ, hρ, hc, hf, hg⟩ := eval_is a
        rw [hρ] at h51 ⊢
        simp [go_sem, hc, h51]
      refine steps_cons (fun a w hk hn => ?_) ?_
      · have h50 : a.eval (.tmp 50) = .bool true := hn.1
        have h52 : a.eval (.tmp 52) = .bool true := hn.2.1
        have h47 : a.eval (.tmp 47) = .bool false := hn.2.2.1
        clear hn
        refine wants_guard (d := 47) rfl rfl h47 ?_
        exact grown_pick _ _ _ true rfl h50 h52
      refine steps_cons (fun a w hk hn => ?_) ?_
      · have h53 : a.eval (.tmp 53) = .bool true := hn.1
        have h47 : a.eval (.tmp 47) = .bool false := hn.2.1
        clear hn
        refine wants_guard (d := 47) rfl rfl h47 ?_
        exact grown_move (.tmp 53) rfl h53
      refine steps_cons (fun a w hk hn => ?_) ?_
      · have h7 : a.eval (.tmp 7) = .slice none 0 0 := hn.1
        have h54 : a.eval (.tmp 54) = .bool true := hn.2.1
        clear hn
        refine wants_guard (d := 54) rfl rfl h54 ?_
        exact grown_move (.tmp 7) rfl h7
      refine steps_cons (fun a w hk hn => ?_) ?_
      · have h55 : a.eval (.tmp 55) = .slice none 0 0 := hn.1
        have h54 : a.eval (.tmp 54) = .bool true := hn.2.1
        clear hn
        refine wants_guard (d := 54) rfl rfl h54 ?_
        refine grown_run (v := .int .i64 0) ?_ (Kp.refl _ _) rfl
        obtain ⟨ρ, hρ, hc, hf, hg⟩ := eval_is a
        rw [hρ] at h55 ⊢
        simp [go_sem, h55]
      refine steps_cons (fun a w hk hn => ?_) ?_
      · have h56 : a.eval (.tmp 56) = .int .i64 0 := hn.1
        have h54 : a.eval (.tmp 54) = .bool true := hn.2.1
        clear hn
        refine wants_guard (d := 54) rfl rfl h54 ?_
        refine grown_run (v := .bool true) ?_ (Kp.refl _ _) rfl
        obtain ⟨ρ, hρ, hc, hf, hg⟩ := eval_is a
        rw [hρ] at h56 ⊢
        simp [go_sem, hc, h56]
      refine steps_cons (fun a w hk hn => ?_) ?_
      · have h54 : a.eval (.tmp 54) = .bool true := hn.1
        have h57 : a.eval (.tmp 57) = .bool true := hn.2.1
        have h47 : a.eval (.tmp 47) = .bool false := hn.2.2.1
        clear hn
        refine wants_guard (d := 47) rfl rfl h47 ?_
        exact grown_pick _ _ _ true rfl h54 h57
      refine steps_cons (fun a w hk hn => ?_) ?_
      · have h47 : a.eval (.tmp 47) = .bool false := hn.1
        have h58 : a.eval (.tmp 58) = .bool true := hn.2.1
        clear hn
        refine wants_plain rfl ?_
        exact grown_pick _ _ _ false rfl h47 h58
      refine steps_cons (fun a w hk hn => ?_) ?_
      · have h59 : a.eval (.tmp 59) = .bool true := hn.1
        clear hn
        refine wants_plain rfl ?_
        exact grown_assign (.tmp 59) rfl h59
      exact trivial
    intro W2 hkW2
    rintro _ rfl
    rintro _ rfl
    rintro _ rfl
    rintro _ rfl
    rintro _ rfl
    rintro _ rfl
    rintro _ rfl
    rintro _ rfl
    rintro _ rfl
    rintro _ rfl
    rintro _ rfl
    rintro _ rfl
    rintro _ rfl
    rintro _ rfl
    rintro _ rfl
    rintro _ rfl
    rintro _ rfl
    rintro _ rfl
    rintro _ rfl
    rintro _ rfl
    rintro _ rfl
    rintro _ rfl
    rintro _ rfl
    refine fin_nil ?_
    simp only [Act.put, List.set_cons_zero, List.set_cons_succ, List.setIfInBounds_toArray]
    go_wp2_with fail
    go_ret
    exact ⟨rfl, ((unhide HK3).trans ((kp_drew w3).trans hkW1)).trans ((kp_drew W1).trans hkW2)⟩
  · have HRT : Hid (rgtP i ps qs = true) := hide (unhide HCC).symm
    have HE := hide (unhide HE1 (unhide HRT))
    clear HE0 HE1
    go_enter Tryd.func17, Tryd.ntmps17
    go_wp2_with fail
    refine (unhide HE).mono ?_
    rintro ee w2 ⟨a2, m2, c2, rfl, R2, K2⟩
    have HK2 := hide ((unhide HK1).trans K2)
    have G2 := K2.heap (unhide G1) (by simp)
    have HG2 := hide G2
    have HC2 := hide (unhide HR w2 (unhide HK2))
    obtain ⟨en, hen⟩ : ∃ e, e = encP i ps qs := ⟨_, rfl⟩
    rw [← hen] at R2
    have HS2 := hide R2.sl
    have HEN := hide hen
    clear K2 HE HK1 G1 G2 hl1 HR R2 hen
    go_wp2_with (refine wpList_load_row rfl 33 (.tmp 5) rfl w.heap.size rfl 33 _ (0, 0) _ (unhide HG2) Tryd.underlying33 rfl Tryd.sigSize ?_)
    refine (unhide HC2).mono ?_
    rintro ee w3 ⟨rfl, K3⟩
    have HK3 := hide ((unhide HK2).trans K3)
    have HG3 : Hid (∀ w', Kp [] w3.drew w' → w'.heap[w.heap.size]? = some (.cells #[.int .i64 i, .slice ap np cp, .slice aq nq cq] 33 (0, 0))) := fun w' k' => (K3.trans ((kp_drew w3).trans k')).heap (unhide HG2) (by simp)
    have HVV : Hid (∀ w', Kp [] w3.drew w' → SigV w' (.agg #[.int .i64 i, .slice ap np cp, .slice aq nq cq]) i ps qs) := fun w' k' => (unhide HVw).kept ((unhide HK3).trans ((kp_drew w3).trans k'))
    have HPP : Hid (∀ w', Kp [] w3.drew w' → Sl w' (.slice au nu cu) pub) := fun w' k' => (unhide HPu).kept ((unhide HK3).trans ((kp_drew w3).trans k')) (by simp)
    have HMM : Hid (∀ w', Kp [] w3.drew w' → Sl w' (.slice am nm cm) ms) := fun w' k' => (unhide HM).kept ((unhide HK3).trans ((kp_drew w3).trans k')) (by simp)
    have HGL : Hid (∀ w', Kp [] w3.drew w' → Gl w') := fun w' k' => (unhide HG).kept ((unhide HK3).trans ((kp_drew w3).trans k')) (by simp)
    have HSB : Hid (∀ w', Kp [] w3.drew w' → Sl w' (.slice a2 m2 c2) en) := fun w' k' => (unhide HS2).kept (K3.trans ((kp_drew w3).trans k')) (by simp)
    obtain ⟨SE, hSE⟩ : ∃ S, S = strOfNums en := ⟨_, rfl⟩
    have HSE := hide hSE
    clear K3 HC2 HG2 HK2 HS2 hSE
    go_wp2_with fail
    obtain ⟨g0, hg0⟩ : ∃ g, g = w.heap.size := ⟨_, rfl⟩
    rw [← hg0] at HG3 ⊢
    clear hg0
    refine region_grow Tryd.mixed [Is (.agg #[.int .i64 i, .slice ap np cp, .slice aq nq cq]), Is (.bool true), Is (.bool true), Is (.bool false), Is (.bool false), Is (.slice au nu cu), Is (.slice am nm cm), Is (.agg #[.int .i64 i, .slice ap np cp, .slice aq nq cq]), Is (.bool b), Is (.slice au nu cu), Is (.slice am nm cm), Is (.agg #[.int .i64 i, .slice ap np cp, .slice aq nq cq]), Is (.bool b), Is (.bool false), Is (.bool false), Is (.bool false), Is (.int .i64 0), Is (.bool true), Is (.bool true), Is (.bool false), Is (.bool false)] [[(5, none)], [(17, some 0)], [(9, none)], [(18, some 1), (19, some 2)], [(20, some 3)], [(0, none), (21, some 4)], [(1, none), (21, some 4)], [(5, none), (21, some 4)], [(22, some 5), (23, some 6), (24, some 7), (21, some 4)], [(0, none), (21, some 4)], [(1, none), (21, some 4)], [(5, none), (21, some 4)], [(26, some 9), (27, some 10), (28, some 11), (21, some 4)], [(25, some 8), (29, some 12), (21, some 4)], [(21, some 4), (30, some 13)], [(31, some 14)], [(8, none), (32, some 15)], [(33, some 16), (32, some 15)], [(9, none), (32, some 15)], [(34, some 17), (35, some 18), (32, some 15)], [(32, some 15), (36, some 19)]] (by kernel_rfl) ?_ ?_ ?_
    · simp only [List.mem_cons, List.not_mem_nil, or_false]
      intro R hR
      rcases hR with rfl | rfl | rfl | rfl | rfl | rfl | rfl | rfl | rfl | rfl | rfl | rfl | rfl | rfl | rfl | rfl | rfl | rfl | rfl | rfl | rfl <;> first | exact stable_is _
    · refine steps_cons (fun a w hk hn => ?_) ?_
      · have h5 : a.eval (.tmp 5) = .pointer (some ⟨g0, 0, none⟩) := hn.1
        clear hn
        refine wants_plain rfl ?_
        exact grown_loadsig (.tmp 5) rfl _ _ _ _ _ h5 (unhide HG3 w hk) rfl
      refine steps_cons (fun a w hk hn => ?_) ?_
      · have h17 : a.eval (.tmp 17) = .agg #[.int .i64 i, .slice ap np cp, .slice aq nq cq] := hn.1
        clear hn
        refine wants_plain rfl ?_
        refine grown_call (f := 37) rfl Tryd.func37 (by kernel_rfl) (by kernel_rfl) ?_
        simp only [List.map_toArray, List.map_cons, List.map_nil, h17]
        refine (sright_any _ i ps qs true (unhide HCC) w (unhide HVV w hk)).mono ?_
        rintro e w' ⟨rfl, K⟩
        exact ⟨_, rfl, K, rfl⟩
      refine steps_cons (fun a w hk hn => ?_) ?_
      · have h9 : a.eval (.tmp 9) = .bool true := hn.1
        clear hn
        refine wants_plain rfl ?_
        exact grown_move (.tmp 9) rfl h9
      refine steps_cons (fun a w hk hn => ?_) ?_
      · have h18 : a.eval (.tmp 18) = .bool true := hn.1
        have h19 : a.eval (.tmp 19) = .bool true := hn.2.1
        clear hn
        refine wants_plain rfl ?_
        refine grown_run (v := .bool false) ?_ (Kp.refl _ _) rfl
        obtain ⟨ρ, hρ, hc, hf, hg⟩ := eval_is a
        rw [hρ] at h18 h19 ⊢
        simp [go_sem, h18, h19]
      refine steps_cons (fun a w hk hn => ?_) ?_
      · have h20 : a.eval (.tmp 20) = .bool false := hn.1
        clear hn
        refine wants_plain rfl ?_
        exact grown_move (.tmp 20) rfl h20
      refine steps_cons (fun a w hk hn => ?_) ?_
      · have h0 : a.eval (.tmp 0) = .slice au nu cu := hn.1
        have h21 : a.eval (.tmp 21) = .bool false := hn.2.1
        clear hn
        refine wants_guard (d := 21) rfl rfl h21 ?_
        exact grown_move (.tmp 0) rfl h0
      refine steps_cons (fun a w hk hn => ?_) ?_
      · have h1 : a.eval (.tmp 1) = .slice am nm cm := hn.1
        have h21 : a.eval (.tmp 21) = .bool false := hn.2.1
        clear hn
        refine wants_guard (d := 21) rfl rfl h21 ?_
        exact grown_move (.tmp 1) rfl h1
      refine steps_cons (fun a w hk hn => ?_) ?_
      · have h5 : a.eval (.tmp 5) = .pointer (some ⟨g0, 0, none⟩) := hn.1
        have h21 : a.eval (.tmp 21) = .bool false := hn.2.1
        clear hn
        refine wants_guard (d := 21) rfl rfl h21 ?_
        exact grown_loadsig (.tmp 5) rfl _ _ _ _ _ h5 (unhide HG3 w hk) rfl
      refine steps_cons (fun a w hk hn => ?_) ?_
      · have h22 : a.eval (.tmp 22) = .slice au nu cu := hn.1
        have h23 : a.eval (.tmp 23) = .slice am nm cm := hn.2.1
        have h24 : a.eval (.tmp 24) = .agg #[.int .i64 i, .slice ap np cp, .slice aq nq cq] := hn.2.2.1
        have h21 : a.eval (.tmp 21) = .bool false := hn.2.2.2.1
        clear hn
        refine wants_guard (d := 21) rfl rfl h21 ?_
        refine grown_call (f := 16) rfl Tryd.func16 (by kernel_rfl) (by kernel_rfl) ?_
        simp only [List.map_toArray, List.map_cons, List.map_nil, h22, h23, h24]
        refine (sverify_any _ pub _ ms _ i ps qs b (unhide HB) w (unhide HPP w hk) (unhide HPB) (unhide HMM w hk) (unhide HMB) hml (unhide HVV w hk) (unhide HGL w hk)).mono ?_
        rintro e w' ⟨rfl, K⟩
        exact ⟨_, rfl, K, rfl⟩
      refine steps_cons (fun a w hk hn => ?_) ?_
      · have h0 : a.eval (.tmp 0) = .slice au nu cu := hn.1
        have h21 : a.eval (.tmp 21) = .bool false := hn.2.1
        clear hn
        refine wants_guard (d := 21) rfl rfl h21 ?_
        exact grown_move (.tmp 0) rfl h0
      refine steps_cons (fun a w hk hn => ?_) ?_
      · have h1 : a.eval (.tmp 1) = .slice am nm cm := hn.1
        have h21 : a.eval (.tmp 21) = .bool false := hn.2.1
        clear hn
        refine wants_guard (d := 21) rfl rfl h21 ?_
        exact grown_move (.tmp 1) rfl h1
      refine steps_cons (fun a w hk hn => ?_) ?_
      · have h5 : a.eval (.tmp 5) = .pointer (some ⟨g0, 0, none⟩) := hn.1
        have h21 : a.eval (.tmp 21) = .bool false := hn.2.1
        clear hn
        refine wants_guard (d := 21) rfl rfl h21 ?_
        exact grown_loadsig (.tmp 5) rfl _ _ _ _ _ h5 (unhide HG3 w hk) rfl
      refine steps_cons (fun a w hk hn => ?_) ?_
      · have h26 : a.eval (.tmp 26) = .slice au nu cu := hn.1
        have h27 : a.eval (.tmp 27) = .slice am nm cm := hn.2.1
        have h28 : a.eval (.tmp 28) = .agg #[.int .i64 i, .slice ap np cp, .slice aq nq cq] := hn.2.2.1
        have h21 : a.eval (.tmp 21) = .bool false := hn.2.2.2.1
        clear hn
        refine wants_guard (d := 21) rfl rfl h21 ?_
        refine grown_call (f := 27) rfl Tryd.func27 (by kernel_rfl) (by kernel_rfl) ?_
        simp only [List.map_toArray, List.map_cons, List.map_nil, h26, h27, h28]
        refine (refverify_any _ pub _ ms _ i ps qs b (unhide HB) w (unhide HPP w hk) (unhide HPB) (unhide HMM w hk) (unhide HMB) hml (unhide HVV w hk) (unhide HI)).mono ?_
        rintro e w' ⟨rfl, K⟩
        exact ⟨_, rfl, K, rfl⟩
      refine steps_cons (fun a w hk hn => ?_) ?_
      · have h25 : a.eval (.tmp 25) = .bool b := hn.1
        have h29 : a.eval (.tmp 29) = .bool b := hn.2.1
        have h21 : a.eval (.tmp 21) = .bool false := hn.2.2.1
        clear hn
        refine wants_guard (d := 21) rfl rfl h21 ?_
        refine grown_run (v := .bool false) ?_ (Kp.refl _ _) rfl
        obtain ⟨ρ, hρ, hc, hf, hg⟩ := eval_is a
        rw [hρ] at h25 h29 ⊢
        simp [go_sem, h25, h29]
      refine steps_cons (fun a w hk hn => ?_) ?_
      · have h21 : a.eval (.tmp 21) = .bool false := hn.1
        have h30 : a.eval (.tmp 30) = .bool false := hn.2.1
        clear hn
        refine wants_plain rfl ?_
        exact grown_pick _ _ _ false rfl h21 h30
      refine steps_cons (fun a w hk hn => ?_) ?_
      · have h31 : a.eval (.tmp 31) = .bool false := hn.1
        clear hn
        refine wants_plain rfl ?_
        exact grown_move (.tmp 31) rfl h31
      refine steps_cons (fun a w hk hn => ?_) ?_
      · have h8 : a.eval (.tmp 8) = .int .i64 0 := hn.1
        have h32 : a.eval (.tmp 32) = .bool false := hn.2.1
        clear hn
        refine wants_guard (d := 32) rfl rfl h32 ?_
        exact grown_move (.tmp 8) rfl h8
      refine steps_cons (fun a w hk hn => ?_) ?_
      · have h33 : a.eval (.tmp 33) = .int .i64 0 := hn.1
        have h32 : a.eval (.tmp 32) = .bool false := hn.2.1
        clear hn
        refine wants_guard (d := 32) rfl rfl h32 ?_
        refine grown_run (v := .bool true) ?_ (Kp.refl _ _) rfl
        obtain ⟨ρ, hρ, hc, hf, hg⟩ := eval_is a
        rw [hρ] at h33 ⊢
        simp [go_sem, hc, h33]
      refine steps_cons (fun a w hk hn => ?_) ?_
      · have h9 : a.eval (.tmp 9) = .bool true := hn.1
        have h32 : a.eval (.tmp 32) = .bool false := hn.2.1
        clear hn
        refine wants_guard (d := 32) rfl rfl h32 ?_
        exact grown_move (.tmp 9) rfl h9
      refine steps_cons (fun a w hk hn => ?_) ?_
      · have h34 : a.eval (.tmp 34) = .bool true := hn.1
        have h35 : a.eval (.tmp 35) = .bool true := hn.2.1
        have h32 : a.eval (.tmp 32) = .bool false := hn.2.2.1
        clear hn
        refine wants_guard (d := 32) rfl rfl h32 ?_
        refine grown_run (v := .bool false) ?_ (Kp.refl _ _) rfl
        obtain ⟨ρ, hρ, hc, hf, hg⟩ := eval_is a
        rw [hρ] at h34 h35 ⊢
        simp [go_sem, h34, h35]
      refine steps_cons (fun a w hk hn => ?_) ?_
      · have h32 : a.eval (.tmp 32) = .bool false := hn.1
        have h36 : a.eval (.tmp 36) = .bool false := hn.2.1
        clear hn
        refine wants_plain rfl ?_
        exact grown_pick _ _ _ false rfl h32 h36
      exact trivial
    intro W1 hkW1
    rintro _ rfl
    rintro _ rfl
    rintro _ rfl
    rintro _ rfl
    rintro _ rfl
    rintro _ rfl
    rintro _ rfl
    rintro _ rfl
    rintro _ rfl
    rintro _ rfl
    rintro _ rfl
    rintro _ rfl
    rintro _ rfl
    rintro _ rfl
    rintro _ rfl
    rintro _ rfl
    rintro _ rfl
    rintro _ rfl
    rintro _ rfl
    rintro _ rfl
    rintro _ rfl
    refine fin_nil ?_
    simp only [Act.put, List.set_cons_zero, List.set_cons_succ, List.setIfInBounds_toArray]
    have HSW : ∀ w', Kp [] W1.drew w' → Sl w' (.slice a2 m2 c2) en := fun w' k' => unhide HSB w' (hkW1.trans ((kp_drew W1).trans k'))
    have HGW : Hid (∀ w', Kp [] W1.drew w' → w'.heap[g0]? = some (.cells #[.int .i64 i, .slice ap np cp, .slice aq nq cq] 33 (0, 0))) := fun w' k' => unhide HG3 w' (hkW1.trans ((kp_drew W1).trans k'))
    have HVW : Hid (∀ w', Kp [] W1.drew w' → SigV w' (.agg #[.int .i64 i, .slice ap np cp, .slice aq nq cq]) i ps qs) := fun w' k' => unhide HVV w' (hkW1.trans ((kp_drew W1).trans k'))
    go_wp2_with fail
    refine region_grow Tryd.mixed [Is (.bool true), Is (.bool true), Is (.slice a2 m2 c2), Is (.string SE), Is (.agg #[.int .i64 i, .slice ap np cp, .slice aq nq cq]), SlT (en), Is (.string SE), Is (.bool true), Is (.bool true), Is (.bool true), Is (undef), Is (undef), Is (undef), Is (undef), Is (undef), Is (undef), Is (undef), Is (undef), Is (undef), Is (undef), Is (undef), Is (.bool true), Is (.bool true)] [[(9, none)], [(38, some 0)], [(7, none), (39, some 1)], [(40, some 2), (39, some 1)], [(5, none), (39, some 1)], [(42, some 4), (39, some 1)], [(43, some 5), (39, some 1)], [(41, some 3), (44, some 6), (39, some 1)], [(39, some 1), (45, some 7)], [(46, some 8)], [(9, none), (47, some 9)], [(48, some 10), (47, some 9)], [(49, some 11), (47, some 9)], [(8, none), (50, some 12)], [(51, some 13), (50, some 12)], [(50, some 12), (52, some 14), (47, some 9)], [(53, some 15), (47, some 9)], [(7, none), (54, some 16)], [(55, some 17), (54, some 16)], [(56, some 18), (54, some 16)], [(54, some 16), (57, some 19), (47, some 9)], [(47, some 9), (58, some 20)], [(59, some 21)]] (by kernel_rfl) ?_ ?_ ?_
    · simp only [List.mem_cons, List.not_mem_nil, or_false]
      intro R hR
      rcases hR with rfl | rfl | rfl | rfl | rfl | rfl | rfl | rfl | rfl | rfl | rfl | rfl | rfl | rfl | rfl | rfl | rfl | rfl | rfl | rfl | rfl | rfl | rfl <;> first | exact stable_is _ | exact stable_sl _
    · refine steps_cons (fun a w hk hn => ?_) ?_
      · have h9 : a.eval (.tmp 9) = .bool true := hn.1
        clear hn
        refine wants_plain rfl ?_
        exact grown_move (.tmp 9) rfl h9
      refine steps_cons (fun a w hk hn => ?_) ?_
      · have h38 : a.eval (.tmp 38) = .bool true := hn.1
        clear hn
        refine wants_plain rfl ?_
        exact grown_move (.tmp 38) rfl h38
      refine steps_cons (fun a w hk hn => ?_) ?_
      · have h7 : a.eval (.tmp 7) = .slice a2 m2 c2 := hn.1
        have h39 : a.eval (.tmp 39) = .bool true := hn.2.1
        clear hn
        refine wants_guard (d := 39) rfl rfl h39 ?_
        exact grown_move (.tmp 7) rfl h7
      refine steps_cons (fun a w hk hn => ?_) ?_
      · have h40 : a.eval (.tmp 40) = .slice a2 m2 c2 := hn.1
        have h39 : a.eval (.tmp 39) = .bool true := hn.2.1
        clear hn
        refine wants_guard (d := 39) rfl rfl h39 ?_
        exact grown_conv (.tmp 40) _ _ 5 (en) rfl (by rw [h40]; exact HSW w hk) Tryd.underlying24 Tryd.underlying5 Tryd.underlying9 (congrArg Value.string (unhide HSE).symm)
      refine steps_cons (fun a w hk hn => ?_) ?_
      · have h5 : a.eval (.tmp 5) = .pointer (some ⟨g0, 0, none⟩) := hn.1
        have h39 : a.eval (.tmp 39) = .bool true := hn.2.1
        clear hn
        refine wants_guard (d := 39) rfl rfl h39 ?_
        exact grown_loadsig (.tmp 5) rfl _ _ _ _ _ h5 (unhide HGW w hk) rfl
      refine steps_cons (fun a w hk hn => ?_) ?_
      · have h42 : a.eval (.tmp 42) = .agg #[.int .i64 i, .slice ap np cp, .slice aq nq cq] := hn.1
        have h39 : a.eval (.tmp 39) = .bool true := hn.2.1
        clear hn
        refine wants_guard (d := 39) rfl rfl h39 ?_
        refine grown_call (f := 42) rfl Tryd.func42 (by kernel_rfl) (by kernel_rfl) ?_
        simp only [List.map_toArray, List.map_cons, List.map_nil, h42]
        refine (refencode_any _ i ps qs (unhide HRT) w (unhide HVW w hk)).mono ?_
        rintro e w' ⟨ao, m, c, rfl, R, K⟩
        rw [← unhide HEN] at R
        exact ⟨_, rfl, K, R.sl⟩
      refine steps_cons (fun a w hk hn => ?_) ?_
      · have h43 : Sl w (a.eval (.tmp 43)) (en) := hn.1
        have h39 : a.eval (.tmp 39) = .bool true := hn.2.1
        clear hn
        refine wants_guard (d := 39) rfl rfl h39 ?_
        exact grown_conv (.tmp 43) _ _ 5 _ rfl h43 Tryd.underlying24 Tryd.underlying5 Tryd.underlying9 (congrArg Value.string (unhide HSE).symm)
      refine steps_cons (fun a w hk hn => ?_) ?_
      · have h41 : a.eval (.tmp 41) = .string SE := hn.1
        have h44 : a.eval (.tmp 44) = .string SE := hn.2.1
        have h39 : a.eval (.tmp 39) = .bool true := hn.2.2.1
        clear hn
        refine wants_guard (d := 39) rfl rfl h39 ?_
        refine grown_run (v := .bool true) ?_ (Kp.refl _ _) rfl
        obtain ⟨ρ, hρ, hc, hf, hg⟩ := eval_is a
        rw [hρ] at h41 h44 ⊢
        simp [go_sem, h41, h44]
      refine steps_cons (fun a w hk hn => ?_) ?_
      · have h39 : a.eval (.tmp 39) = .bool true := hn.1
        have h45 : a.eval (.tmp 45) = .bool true := hn.2.1
        clear hn
        refine wants_plain rfl ?_
        exact grown_pick _ _ _ true rfl h39 h45
      refine steps_cons (fun a w hk hn => ?_) ?_
      · have h46 : a.eval (.tmp 46) = .bool true := hn.1
        clear hn
        refine wants_plain rfl ?_
        exact grown_move (.tmp 46) rfl h46
      refine steps_cons (fun a w hk hn => ?_) ?_
      · have h9 : a.eval (.tmp 9) = .bool true := hn.1
        have h47 : a.eval (.tmp 47) = .bool true := hn.2.1
        clear hn
        exact wants_not (d := 47) rfl rfl h47 rfl
      refine steps_cons (fun a w hk hn => ?_) ?_
      · have h48 : a.eval (.tmp 48) = undef := hn.1
        have h47 : a.eval (.tmp 47) = .bool true := hn.2.1
        clear hn
        exact wants_not (d := 47) rfl rfl h47 rfl
      refine steps_cons (fun a w hk hn => ?_) ?_
      · have h49 : a.eval (.tmp 49) = undef := hn.1
        have h47 : a.eval (.tmp 47) = .bool true := hn.2.1
        clear hn
        exact wants_not (d := 47) rfl rfl h47 rfl
      refine steps_cons (fun a w hk hn => ?_) ?_
      · have h8 : a.eval (.tmp 8) = .int .i64 0 := hn.1
        have h50 : a.eval (.tmp 50) = undef := hn.2.1
        clear hn
        exact wants_none (d := 50) rfl rfl h50 rfl
      refine steps_cons (fun a w hk hn => ?_) ?_
      · have h51 : a.eval (.tmp 51) = undef := hn.1
        have h50 : a.eval (.tmp 50) = undef := hn.2.1
        clear hn
        exact wants_none (d := 50) rfl rfl h50 rfl
      refine steps_cons (fun a w hk hn => ?_) ?_
      · have h50 : a.eval (.tmp 50) = undef := hn.1
        have h52 : a.eval (.tmp 52) = undef := hn.2.1
        have h47 : a.eval (.tmp 47) = .bool true := hn.2.2.1
        clear hn
        exact wants_not (d := 47) rfl rfl h47 rfl
      refine steps_cons (fun a w hk hn => ?_) ?_
      · have h53 : a.eval (.tmp 53) = undef := hn.1
        have h47 : a.eval (.tmp 47) = .bool true := hn.2.1
        clear hn
        exact wants_not (d := 47) rfl rfl h47 rfl
      refine steps_cons (fun a w hk hn => ?_) ?_
      · have h7 : a.eval (.tmp 7) = .slice a2 m2 c2 := hn.1
        have h54 : a.eval (.tmp 54) = undef := hn.2.1
        clear hn
        exact wants_none (d := 54) rfl rfl h54 rfl
      refine steps_cons (fun a w hk hn => ?_) ?_
      · have h55 : a.eval (.tmp 55) = undef := hn.1
        have h54 : a.eval (.tmp 54) = undef := hn.2.1
        clear hn
        exact wants_none (d := 54) rfl rfl h54 rfl
      refine steps_cons (fun a w hk hn => ?_) ?_
      · have h56 : a.eval (.tmp 56) = undef := hn.1
        have h54 : a.eval (.tmp 54) = undef := hn.2.1
        clear hn
        exact wants_none (d := 54) rfl rfl h54 rfl
      refine steps_cons (fun a w hk hn => ?_) ?_
      · have h54 : a.eval (.tmp 54) = undef := hn.1
        have h57 : a.eval (.tmp 57) = undef := hn.2.1
        have h47 : a.eval (.tmp 47) = .bool true := hn.2.2.1
        clear hn
        exact wants_not (d := 47) rfl rfl h47 rfl
      refine steps_cons (fun a w hk hn => ?_) ?_
      · have h47 : a.eval (.tmp 47) = .bool true := hn.1
        have h58 : a.eval (.tmp 58) = undef := hn.2.1
        clear hn
        refine wants_plain rfl ?_
        exact grown_pick _ _ _ true rfl h47 rfl
      refine steps_cons (fun a w hk hn => ?_) ?_
      · have h59 : a.eval (.tmp 59) = .bool true := hn.1
        clear hn
        refine wants_plain rfl ?_
        exact grown_assign (.tmp 59) rfl h59
      exact trivial
    intro W2 hkW2
    rintro _ rfl
    rintro _ rfl
    rintro _ rfl
    rintro _ rfl
    rintro _ rfl
    intro v43 h43
    rintro _ rfl
    rintro _ rfl
    rintro _ rfl
    rintro _ rfl
    rintro _ rfl
    rintro _ rfl
    rintro _ rfl
    rintro _ rfl
    rintro _ rfl
    rintro _ rfl
    rintro _ rfl
    rintro _ rfl
    rintro _ rfl
    rintro _ rfl
    rintro _ rfl
    rintro _ rfl
    rintro _ rfl
    refine fin_nil ?_
    simp only [Act.put, List.set_cons_zero, List.set_cons_succ, List.setIfInBounds_toArray]
    go_wp2_with fail
    go_ret
    exact ⟨rfl, ((unhide HK3).trans ((kp_drew w3).trans hkW1)).trans ((kp_drew W1).trans hkW2)⟩
end Go.Proofs.YtdioaohejoflcaaDoor
