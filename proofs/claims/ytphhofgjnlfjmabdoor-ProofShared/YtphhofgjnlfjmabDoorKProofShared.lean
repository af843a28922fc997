/-
  The statement ProofSharedCardSaid: for all numbers the law function ProofShared returns true; the table hash.roundWords starts as the program's text lays it (tied). No other condition.
-/
import Derived.Test.YtphhofgjnlfjmabDoorKPKnown
import Derived.Test.YtphhofgjnlfjmabDoorTie
import Derived.Test.YtphhofgjnlfjmabDoorCards
import Derived.SevenTiedAt
namespace Go.Proofs.YtphhofgjnlfjmabDoor.proofShared
open Go.ChangeShapes Go.WideShapes Go.ChangeAt Go.RowKit
open Go.Proofs.YtphhofgjnlfjmabDoor
set_option linter.unusedVariables false

set_option maxRecDepth 100000 in
set_option maxHeartbeats 1500000 in
theorem walk (n m i : Int) (w : World) (hG : Gl w) (hn : -9223372036854775808 ≤ n ∧ n ≤ 9223372036854775807) (hm : -9223372036854775808 ≤ m ∧ m ≤ 9223372036854775807) (hi : -9223372036854775808 ≤ i ∧ i ≤ 9223372036854775807) :
    Calls Tryd.prog 5 #[.int .i64 n, .int .i64 m, .int .i64 i] w fun e w' => e = .returned (.bool true) ∧ Below w.heap.size w w' := by
  have HG := hide hG
  have HC := hide (within_any n 1 100 w (by omega) (by omega) (by omega) hn)
  clear hG hn
  go_enter Tryd.func5, Tryd.ntmps5
  go_wp2_with fail
  refine (unhide HC).mono ?_
  rintro ee w9 ⟨xk, rfl, hx0, hx1, hw⟩
  subst w9
  obtain ⟨k, rfl⟩ := Int.eq_ofNat_of_zero_le (by omega : 0 ≤ xk)
  have hk1 : 1 ≤ k := by omega
  have hk100 : k ≤ 100 := by omega
  clear HC hx0 hx1
  have HC := hide (within_any m 1 k w (by omega) (by omega) (by omega) hm)
  go_wp2_with fail
  refine (unhide HC).mono ?_
  rintro ee w9 ⟨xj, rfl, hx0, hx1, hw⟩
  subst w9
  obtain ⟨j, rfl⟩ := Int.eq_ofNat_of_zero_le (by omega : 0 ≤ xj)
  have hj1 : 1 ≤ j := by omega
  have hjk : j ≤ k := by omega
  clear HC hx0 hx1 hm
  have HC := hide (kl_any k w (by omega))
  go_wp2_with fail
  refine (unhide HC).mono ?_
  rintro ee w1 ⟨al, cl, rfl, L1, K1⟩
  obtain ⟨ls, hls⟩ : ∃ ls, ls = kleavesP k := ⟨_, rfl⟩
  rw [← hls] at L1
  have hll : ls.length = k := by rw [hls, kleavesP_len]
  have h32 : ∀ x ∈ ls, x.length = 32 := by rw [hls]; exact kleavesP_all k
  have hml : ∀ x ∈ ls, x.length ≤ 1000 := fun x hx => by have := h32 x hx; omega
  have HK1 := hide K1
  have hG1 : Gl w1 := (unhide HG).kept K1 (by simp)
  obtain ⟨_, _, e_, hcl, -⟩ := L1.shape
  injection e_ with ea eb ec
  subst ea
  subst ec
  have hjc : j ≤ cl := by omega
  have hrun := run_lhead al k cl j w1 hjc
  have hLj := L1.take j (by rw [hll]; exact hjk)
  have HL1 := hide L1
  have HG1 := hide hG1
  clear HC hls K1
  have HC := hide (within_any i 0 ((j : Int) - 1) w1 (by omega) (by omega) (by omega) hi)
  have HNL := hide hll
  have H32 := hide h32
  have HML := hide hml
  have HLj := hide hLj
  clear eb hll h32 hml hLj L1 hG1 hcl
  go_wp2_with fail
  refine (unhide HC).mono ?_
  rintro ee w9 ⟨xx, rfl, hx0, hx1, hw⟩
  subst w9
  have hll := unhide HNL
  have h32 := unhide H32
  have hml := unhide HML
  have hLj := unhide HLj
  have L1 := unhide HL1
  have hG1 := unhide HG1
  have htl : (ls.take j).length = j := by rw [List.length_take, hll]; omega
  have h32t : ∀ x ∈ ls.take j, x.length = 32 := fun x hx => h32 x (List.mem_of_mem_take hx)
  obtain ⟨x, rfl⟩ := Int.eq_ofNat_of_zero_le hx0
  have hxj : x < j := by omega
  clear HC hx0 hx1 hi
  have hC := include_ok _ (ls.take j) x w1 hLj (by rw [htl]; exact hxj) (by rw [htl]; omega) (fun y hy => hml y (List.mem_of_mem_take hy)) hG1
  obtain ⟨ps, hps⟩ : ∃ ps, ps = incP (ls.take j) x := ⟨_, rfl⟩
  obtain ⟨qs, hqs⟩ : ∃ qs, qs = incP ls x := ⟨_, rfl⟩
  obtain ⟨gs, hgs⟩ : ∃ gs, gs = growP j ls := ⟨_, rfl⟩
  obtain ⟨ra, hra⟩ : ∃ r, r = trootP (ls.take j) := ⟨_, rfl⟩
  obtain ⟨rb, hrb⟩ : ∃ r, r = trootP ls := ⟨_, rfl⟩
  obtain ⟨y, hy⟩ : ∃ y, ls[x]? = some y := ⟨_, List.getElem?_eq_getElem (by omega)⟩
  have hyt : (ls.take j)[x]? = some y := by rw [List.getElem?_take, if_pos hxj]; exact hy
  have hyl : y.length = 32 := h32 y (List.mem_of_getElem? hy)
  have ho1 := ledOk_inc (x := y) h32t (by rw [htl]; omega) (i := x) (by rw [htl]; exact hxj) hyl
  have hr1 := ledR_inc h32t (by rw [htl]; omega) hyt
  have ho2 := ledOk_inc (x := y) h32 (by rw [hll]; omega) (i := x) (by rw [hll]; omega) hyl
  have hr2 := ledR_inc h32 (by rw [hll]; omega) hy
  have hcg := cgrP_grow (m := j) h32 (by rw [hll]; omega) (by rw [hll]; exact hjk)
  rw [htl, ← hps] at ho1
  rw [htl, ← hps, ← hra] at hr1
  rw [hll, ← hqs] at ho2
  rw [hll, ← hqs, ← hrb] at hr2
  rw [hll, ← hgs, ← hra, ← hrb] at hcg
  rw [htl, ← hps] at hC
  have HO1 := hide ho1
  have HR1 := hide hr1
  have HO2 := hide ho2
  have HR2 := hide hr2
  have HCG := hide hcg
  have HRA : Hid (Bs ra) := by rw [hra]; exact trootP_bs _ (fun z hz => L1.bs z (List.mem_of_mem_take hz))
  have HX := hide hy
  have HXB := hide (L1.bs y (List.mem_of_getElem? hy))
  have HQS := hide hqs
  have HGS := hide hgs
  have HC := hide hC
  clear hC hps hqs hgs hra hrb hy hyt hyl ho1 hr1 ho2 hr2 hcg htl h32t h32 hml hll L1 hG1 hLj
  go_wp2_with fail
  refine (unhide HC).mono ?_
  rintro ee w2 ⟨v2, rfl, V2, K2⟩
  obtain ⟨a2, c2, e_, -⟩ := V2.shape
  obtain ⟨m2, hm_⟩ : ∃ m, m = ps.length := ⟨_, rfl⟩
  rw [← hm_] at e_
  subst e_
  clear hm_
  have HV2 := hide V2
  have HK2 := hide K2
  clear V2 K2 HC hrun hjc
  have G_ := heap_alloc_new w2 (.cells #[.int .i64 0, .int .i64 0, .slice none 0 0] 26)
  go_wp2_with (refine wpList_store_tri triP rfl (.tmp 11) (.tmp 38) rfl w2.heap.size rfl _ _ _ _ _ _ G_ rfl ⟨rfl, rfl, rfl⟩ ?_; intro w3 Go_ Ko_; refine Hid.out ?_)
  have HK_w3 : Hid (Kp [] w2 w3) := ((Kp.refl [] w2).alloc _).then Ko_ (by simp)
  obtain ⟨g1, hg_⟩ : ∃ g, g = w2.heap.size := ⟨_, rfl⟩
  rw [← hg_] at Go_ ⊢
  have HG_g1 : Hid (∀ w', Kp [] w3 w' → w'.heap[g1]? = some (.cells #[.int .i64 x, .int .i64 j, .slice a2 m2 c2] 26 (0, 0))) := fun w' k => k.heap Go_ (by simp)
  clear G_ Go_ Ko_ hg_
  refine hide ?_
  have HK3 := hide ((unhide HK2).trans (unhide HK_w3))
  have hC := include_ok _ ls x w3 ((unhide HL1).kept (unhide HK3)) (by rw [unhide HNL]; omega) (by rw [unhide HNL]; omega) (unhide HML) ((unhide HG1).kept (unhide HK3) (by simp))
  rw [← unhide HQS, unhide HNL] at hC
  have HC := hide hC
  clear hC
  go_wp2_with fail
  refine (unhide HC).mono ?_
  rintro ee w4 ⟨v4, rfl, V4, K4⟩
  obtain ⟨a4, c4, e_, -⟩ := V4.shape
  obtain ⟨m4, hm_⟩ : ∃ m, m = qs.length := ⟨_, rfl⟩
  rw [← hm_] at e_
  subst e_
  clear hm_
  have HV4 := hide V4
  have HK4 := hide K4
  clear V4 K4 HC
  have G_ := heap_alloc_new w4 (.cells #[.int .i64 0, .int .i64 0, .slice none 0 0] 26)
  go_wp2_with (refine wpList_store_tri triP rfl (.tmp 13) (.tmp 44) rfl w4.heap.size rfl _ _ _ _ _ _ G_ rfl ⟨rfl, rfl, rfl⟩ ?_; intro w5 Go_ Ko_; refine Hid.out ?_)
  have HK_w5 : Hid (Kp [] w4 w5) := ((Kp.refl [] w4).alloc _).then Ko_ (by simp)
  obtain ⟨g2, hg_⟩ : ∃ g, g = w4.heap.size := ⟨_, rfl⟩
  rw [← hg_] at Go_ ⊢
  have HG_g2 : Hid (∀ w', Kp [] w5 w' → w'.heap[g2]? = some (.cells #[.int .i64 x, .int .i64 k, .slice a4 m4 c4] 26 (0, 0))) := fun w' k => k.heap Go_ (by simp)
  clear G_ Go_ Ko_ hg_
  refine hide ?_
  have HK5 := hide ((unhide HK3).trans ((unhide HK4).trans (unhide HK_w5)))
  have hC := grow_ok _ ls j w5 ((unhide HL1).kept (unhide HK5)) (by rw [unhide HNL]; exact hjk) (by rw [unhide HNL]; omega) (unhide HML) ((unhide HG1).kept (unhide HK5) (by simp))
  rw [← unhide HGS, unhide HNL] at hC
  have HC := hide hC
  clear hC
  go_wp2_with fail
  refine (unhide HC).mono ?_
  rintro ee w6 ⟨v6, rfl, V6, K6⟩
  obtain ⟨a6, c6, e_, -⟩ := V6.shape
  obtain ⟨m6, hm_⟩ : ∃ m, m = gs.length := ⟨_, rfl⟩
  rw [← hm_] at e_
  subst e_
  clear hm_
  have HV6 := hide V6
  have HK6 := hide K6
  clear V6 K6 HC
  have G_ := heap_alloc_new w6 (.cells #[.int .i64 0, .int .i64 0, .slice none 0 0] 36)
  go_wp2_with (refine wpList_store_tri triG rfl (.tmp 15) (.tmp 50) rfl w6.heap.size rfl _ _ _ _ _ _ G_ rfl ⟨rfl, rfl, rfl⟩ ?_; intro w7 Go_ Ko_; refine Hid.out ?_)
  have HK_w7 : Hid (Kp [] w6 w7) := ((Kp.refl [] w6).alloc _).then Ko_ (by simp)
  obtain ⟨g3, hg_⟩ : ∃ g, g = w6.heap.size := ⟨_, rfl⟩
  rw [← hg_] at Go_ ⊢
  have HG_g3 : Hid (∀ w', Kp [] w7 w' → w'.heap[g3]? = some (.cells #[.int .i64 j, .int .i64 k, .slice a6 m6 c6] 36 (0, 0))) := fun w' k => k.heap Go_ (by simp)
  clear G_ Go_ Ko_ hg_
  refine hide ?_
  have K57 : Kp [] w5 w7 := (unhide HK6).trans (unhide HK_w7)
  have HK7 := hide ((unhide HK5).trans K57)
  have K37 : Kp [] w3 w7 := ((unhide HK4).trans (unhide HK_w5)).trans K57
  have HS1 : Hid (∀ w', Kp [] w7 w' → w'.heap[g1]? = some (.cells #[.int .i64 x, .int .i64 j, .slice a2 m2 c2] 26 (0, 0))) := fun w' k' => unhide HG_g1 w' (K37.trans k')
  have HS2 : Hid (∀ w', Kp [] w7 w' → w'.heap[g2]? = some (.cells #[.int .i64 x, .int .i64 k, .slice a4 m4 c4] 26 (0, 0))) := fun w' k' => unhide HG_g2 w' (K57.trans k')
  have HW2 : Hid (∀ w', Kp [] w7 w' → TV w' (.agg #[.int .i64 x, .int .i64 j, .slice a2 m2 c2]) x j ps) := fun w' k' => (unhide HV2).kept ((unhide HK_w3).trans (K37.trans k'))
  have HW4 : Hid (∀ w', Kp [] w7 w' → TV w' (.agg #[.int .i64 x, .int .i64 k, .slice a4 m4 c4]) x k qs) := fun w' k' => (unhide HV4).kept ((unhide HK_w5).trans (K57.trans k'))
  have HW6 : Hid (∀ w', Kp [] w7 w' → TV w' (.agg #[.int .i64 j, .int .i64 k, .slice a6 m6 c6]) j k gs) := fun w' k' => (unhide HV6).kept ((unhide HK_w7).trans k')
  have HLL : Hid (∀ w', Kp [] w7 w' → LcM ls (.slice al k cl) w') := fun w' k' => (unhide HL1).kept ((unhide HK7).trans k')
  have HGL : Hid (∀ w', Kp [] w7 w' → Gl w') := fun w' k' => (unhide HG1).kept ((unhide HK7).trans k') (by simp)
  have HD7 : Hid (∀ w', Kp [] w7.drew w' → Kp [] w7 w') := fun w' k' => (kp_drew w7).trans k'
  clear K57 K37
  go_wp2_with fail
  refine region_grow Tryd.mixed [Is (.agg #[.int .i64 x, .int .i64 j, .slice a2 m2 c2]), Is (.slice al k cl), Is (.int .i64 x), PtT (y), SlT (y), TwoT ra true, TwoT ra true, SlT (ra), Is (.bool true), SlT (ra), Is (.bool true)] [[(11, none)], [(9, none)], [(10, none)], [(54, some 1), (55, some 2)], [(56, some 3)], [(53, some 0), (57, some 4)], [(58, some 5)], [(52, some 6)], [(52, some 6)], [(59, some 7)], [(60, some 8)]] (by kernel_rfl) ?_ ?_ ?_
  · simp only [List.mem_cons, List.not_mem_nil, or_false]
    intro R hR
    rcases hR with rfl | rfl | rfl | rfl | rfl | rfl | rfl | rfl | rfl | rfl | rfl <;> first | exact stable_is _ | exact stable_pt _ | exact stable_sl _ | exact stable_two _ _
  · refine steps_cons (fun a w hk hn => ?_) ?_
    · have h11 : a.eval (.tmp 11) = .pointer (some ⟨g1, 0, none⟩) := hn.1
      clear hn
      refine wants_plain rfl ?_
      exact grown_loadtri triP (.tmp 11) rfl h11 ((fun w'' k' => unhide HS1 w'' (unhide HD7 w'' k')) w hk) rfl
    refine steps_cons (fun a w hk hn => ?_) ?_
    · have h9 : a.eval (.tmp 9) = .slice al k cl := hn.1
      clear hn
      refine wants_plain rfl ?_
      exact grown_move (.tmp 9) rfl h9
    refine steps_cons (fun a w hk hn => ?_) ?_
    · have h10 : a.eval (.tmp 10) = .int .i64 x := hn.1
      clear hn
      refine wants_plain rfl ?_
      exact grown_move (.tmp 10) rfl h10
    refine steps_cons (fun a w hk hn => ?_) ?_
    · have h54 : a.eval (.tmp 54) = .slice al k cl := hn.1
      have h55 : a.eval (.tmp 55) = .int .i64 x := hn.2.1
      clear hn
      refine wants_plain rfl ?_
      exact grown_lindex (.tmp 54) (.tmp 55) (ls) x (y) rfl (by rw [h54]; exact (fun w'' k' => unhide HLL w'' (unhide HD7 w'' k')) w hk) h55 (unhide HX)
    refine steps_cons (fun a w hk hn => ?_) ?_
    · have h56 : (PtT (y)) (a.eval (.tmp 56)) w := hn.1
      clear hn
      refine wants_plain rfl ?_
      exact grown_lload (.tmp 56) _ rfl h56
    refine steps_cons (fun a w hk hn => ?_) ?_
    · have h53 : a.eval (.tmp 53) = .agg #[.int .i64 x, .int .i64 j, .slice a2 m2 c2] := hn.1
      have h57 : Sl w (a.eval (.tmp 57)) (y) := hn.2.1
      clear hn
      refine wants_plain rfl ?_
      refine grown_call (f := 16) rfl Tryd.func16 (by kernel_rfl) (by kernel_rfl) ?_
      simp only [List.map_toArray, List.map_cons, List.map_nil, h53]
      refine (lead_any _ _ x j ps y w (unhide HW2 w (unhide HD7 w hk)) h57 (unhide HXB) (by omega) (unhide HGL w (unhide HD7 w hk))).mono ?_
      rintro e w' ⟨ao, m, c, rfl, S, K⟩
      rw [unhide HR1] at S
      exact ⟨_, rfl, K, ao, m, c, by rw [unhide HO1], S⟩
    refine steps_cons (fun a w hk hn => ?_) ?_
    · have h58 : (TwoT ra true) (a.eval (.tmp 58)) w := hn.1
      clear hn
      refine wants_plain rfl ?_
      exact grown_move (.tmp 58) rfl h58
    refine steps_cons (fun a w hk hn => ?_) ?_
    · have h52 : (TwoT ra true) (a.eval (.tmp 52)) w := hn.1
      clear hn
      refine wants_plain rfl ?_
      exact grown_ext0 (.tmp 52) rfl _ _ h52
    refine steps_cons (fun a w hk hn => ?_) ?_
    · have h52 : (TwoT ra true) (a.eval (.tmp 52)) w := hn.1
      clear hn
      refine wants_plain rfl ?_
      exact grown_ext1 (.tmp 52) rfl _ _ h52
    refine steps_cons (fun a w hk hn => ?_) ?_
    · have h59 : Sl w (a.eval (.tmp 59)) (ra) := hn.1
      clear hn
      refine wants_plain rfl ?_
      exact grown_assign (.tmp 59) rfl h59
    refine steps_cons (fun a w hk hn => ?_) ?_
    · have h60 : a.eval (.tmp 60) = .bool true := hn.1
      clear hn
      refine wants_plain rfl ?_
      exact grown_assign (.tmp 60) rfl h60
    exact trivial
  intro W1 hkW1
  rintro _ rfl
  rintro _ rfl
  rintro _ rfl
  intro v56 h56
  intro v57 h57
  intro v58 h58
  intro v52 h52
  intro v59 h59
  rintro _ rfl
  intro v17 h17
  rintro _ rfl
  refine fin_nil ?_
  simp only [Act.put, List.set_cons_zero, List.set_cons_succ, List.setIfInBounds_toArray]
  have HKA := hide (unhide HD7 W1 hkW1)
  have HDA : Hid (∀ w', Kp [] W1.drew w' → Kp [] w7 w') := fun w' k' => (unhide HKA).trans ((kp_drew W1).trans k')
  have HS17 : Hid (∀ w', Kp [] W1 w' → Sl w' v17 ra) := fun w' k' => h17.kept k' (by simp)
  obtain ⟨a17, c17, e17, -⟩ := h17
  obtain ⟨m17, hm17⟩ : ∃ m, m = ra.length := ⟨_, rfl⟩
  rw [← hm17] at e17
  subst e17
  clear hkW1 h52 h56 h57 h58 h59 hm17
  go_wp2_with fail
  refine region_grow Tryd.mixed [Is (.agg #[.int .i64 x, .int .i64 k, .slice a4 m4 c4]), Is (.slice al k cl), Is (.int .i64 x), PtT (y), SlT (y), TwoT rb true, TwoT rb true, SlT (rb), Is (.bool true), SlT (rb), Is (.bool true)] [[(13, none)], [(9, none)], [(10, none)], [(63, some 1), (64, some 2)], [(65, some 3)], [(62, some 0), (66, some 4)], [(67, some 5)], [(61, some 6)], [(61, some 6)], [(68, some 7)], [(69, some 8)]] (by kernel_rfl) ?_ ?_ ?_
  · simp only [List.mem_cons, List.not_mem_nil, or_false]
    intro R hR
    rcases hR with rfl | rfl | rfl | rfl | rfl | rfl | rfl | rfl | rfl | rfl | rfl <;> first | exact stable_is _ | exact stable_pt _ | exact stable_sl _ | exact stable_two _ _
  · refine steps_cons (fun a w hk hn => ?_) ?_
    · have h13 : a.eval (.tmp 13) = .pointer (some ⟨g2, 0, none⟩) := hn.1
      clear hn
      refine wants_plain rfl ?_
      exact grown_loadtri triP (.tmp 13) rfl h13 ((fun w'' k' => unhide HS2 w'' (unhide HDA w'' k')) w hk) rfl
    refine steps_cons (fun a w hk hn => ?_) ?_
    · have h9 : a.eval (.tmp 9) = .slice al k cl := hn.1
      clear hn
      refine wants_plain rfl ?_
      exact grown_move (.tmp 9) rfl h9
    refine steps_cons (fun a w hk hn => ?_) ?_
    · have h10 : a.eval (.tmp 10) = .int .i64 x := hn.1
      clear hn
      refine wants_plain rfl ?_
      exact grown_move (.tmp 10) rfl h10
    refine steps_cons (fun a w hk hn => ?_) ?_
    · have h63 : a.eval (.tmp 63) = .slice al k cl := hn.1
      have h64 : a.eval (.tmp 64) = .int .i64 x := hn.2.1
      clear hn
      refine wants_plain rfl ?_
      exact grown_lindex (.tmp 63) (.tmp 64) (ls) x (y) rfl (by rw [h63]; exact (fun w'' k' => unhide HLL w'' (unhide HDA w'' k')) w hk) h64 (unhide HX)
    refine steps_cons (fun a w hk hn => ?_) ?_
    · have h65 : (PtT (y)) (a.eval (.tmp 65)) w := hn.1
      clear hn
      refine wants_plain rfl ?_
      exact grown_lload (.tmp 65) _ rfl h65
    refine steps_cons (fun a w hk hn => ?_) ?_
    · have h62 : a.eval (.tmp 62) = .agg #[.int .i64 x, .int .i64 k, .slice a4 m4 c4] := hn.1
      have h66 : Sl w (a.eval (.tmp 66)) (y) := hn.2.1
      clear hn
      refine wants_plain rfl ?_
      refine grown_call (f := 16) rfl Tryd.func16 (by kernel_rfl) (by kernel_rfl) ?_
      simp only [List.map_toArray, List.map_cons, List.map_nil, h62]
      refine (lead_any _ _ x k qs y w (unhide HW4 w (unhide HDA w hk)) h66 (unhide HXB) (by omega) (unhide HGL w (unhide HDA w hk))).mono ?_
      rintro e w' ⟨ao, m, c, rfl, S, K⟩
      rw [unhide HR2] at S
      exact ⟨_, rfl, K, ao, m, c, by rw [unhide HO2], S⟩
    refine steps_cons (fun a w hk hn => ?_) ?_
    · have h67 : (TwoT rb true) (a.eval (.tmp 67)) w := hn.1
      clear hn
      refine wants_plain rfl ?_
      exact grown_move (.tmp 67) rfl h67
    refine steps_cons (fun a w hk hn => ?_) ?_
    · have h61 : (TwoT rb true) (a.eval (.tmp 61)) w := hn.1
      clear hn
      refine wants_plain rfl ?_
      exact grown_ext0 (.tmp 61) rfl _ _ h61
    refine steps_cons (fun a w hk hn => ?_) ?_
    · have h61 : (TwoT rb true) (a.eval (.tmp 61)) w := hn.1
      clear hn
      refine wants_plain rfl ?_
      exact grown_ext1 (.tmp 61) rfl _ _ h61
    refine steps_cons (fun a w hk hn => ?_) ?_
    · have h68 : Sl w (a.eval (.tmp 68)) (rb) := hn.1
      clear hn
      refine wants_plain rfl ?_
      exact grown_assign (.tmp 68) rfl h68
    refine steps_cons (fun a w hk hn => ?_) ?_
    · have h69 : a.eval (.tmp 69) = .bool true := hn.1
      clear hn
      refine wants_plain rfl ?_
      exact grown_assign (.tmp 69) rfl h69
    exact trivial
  intro W2 hkW2
  rintro _ rfl
  rintro _ rfl
  rintro _ rfl
  intro v65 h65
  intro v66 h66
  intro v67 h67
  intro v61 h61
  intro v68 h68
  rintro _ rfl
  intro v19 h19
  rintro _ rfl
  refine fin_nil ?_
  simp only [Act.put, List.set_cons_zero, List.set_cons_succ, List.setIfInBounds_toArray]
  have HKB := hide (unhide HDA W2 hkW2)
  have HS17b := hide (unhide HS17 W2 ((kp_drew W1).trans hkW2))
  have HS19 := hide h19
  obtain ⟨a19, c19, e19, -⟩ := h19
  obtain ⟨m19, hm19⟩ : ∃ m, m = rb.length := ⟨_, rfl⟩
  rw [← hm19] at e19
  subst e19
  obtain ⟨z0, z1, z2⟩ := cell_tri (unhide HG_g3 W2 (unhide HKB))
  have hC := cgrow_any _ (.slice a17 m17 c17) (.slice a19 m19 c19) j k gs ra rb W2 (unhide HW6 W2 (unhide HKB)) (unhide HS17b) (unhide HRA) (unhide HS19) (by omega) (unhide HGL W2 (unhide HKB))
  rw [unhide HCG] at hC
  have HC := hide hC
  clear hC hkW2 h61 h65 h66 h67 h68 hm19
  go_wp2_with fail
  refine (unhide HC).mono ?_
  rintro ee w8 ⟨rfl, K8⟩
  have HK8 := hide ((unhide HKB).trans K8)
  clear K8 HC z0 z1 z2
  have HC := hide (pknown_any w8 (unhide HGL w8 (unhide HK8)))
  go_wp2_with fail
  refine (unhide HC).mono ?_
  rintro ee w9 ⟨rfl, K9⟩
  have HK9 := hide ((unhide HK8).trans K9)
  clear K9 HC
  go_wp2_with fail
  go_ret
  exact ⟨rfl, ((unhide HK1).trans ((unhide HK7).trans (unhide HK9))).below (Nat.le_refl _) (by simp)⟩

set_option maxRecDepth 100000 in
theorem lifted (os : Os) (started : os.Started) (H : Type) (enc : TypeId × Value → H) :
    ReturnsInHanded {} Tryd.checked os 5 .any (fun w args => (Rows.proofSharedSpec.pre enc Tryd.prog Tryd.f5 [] false w args ∧ laidMetH Tryd.prog laid1 w) ∧ sizedMet enc Tryd.prog Tryd.f5 (OpenSpec.ofChange Rows.proofSharedSpec) false w args) (Rows.proofSharedSpec.post enc Tryd.prog Tryd.f5 false true false false) := by
  refine returnsInHanded_of_change_and (C := Tryd.checked) (X := fun w _ => laidMetH Tryd.prog laid1 w) (fun _ _ _ hh h => h.of_heap hh) own started (by kernel_rfl) Tryd.func5
    (ChangeSpec.witness_shaped (enc := enc) (C := Tryd.checked) (os := os) (X := fun w _ => laidMetH Tryd.prog laid1 w) false (World.doorLaid Tryd.prog 400 os) #[.int .i64 0, .int .i64 0, .int .i64 0] 8 rfl (World.shaped_of_RefB (by kernel_rfl) (by kernel_rfl)) (by kernel_rfl) (by kernel_rfl) (by kernel_rfl) (door_met os _)) ?_
  intro W base args ds gs before hval0 hW hcnd hsz0 hL _
  have hG := gl_of_laid hL
  have hval : ∀ (j : Nat) t v, Tryd.f5.params[j]? = some t → args[j]? = some v → Value.okWide Tryd.prog W .any base t v := hval0
  have hW' := hW
  obtain ⟨p, q, hA0, hV, rfl, hfz, hnd⟩ := hW
  have hA : DataW.TrodAll enc Tryd.prog W 0 (fun _ => true) true Tryd.f5.params.toList args.toList ds p := hA0
  rw [Tryd.params5] at hA hval
  obtain ⟨v0, vs0, d0, ds0, p0, q0, hargs, rfl, rfl, h0, r0⟩ := trodAll_cons hA
  obtain ⟨v1, vs1, d1, ds1, p1, q1, rfl, rfl, rfl, h1, r1⟩ := trodAll_cons r0
  obtain ⟨v2, vs2, d2, ds2, p2, q2, rfl, rfl, rfl, h2, r2⟩ := trodAll_cons r1
  obtain ⟨rfl, rfl, rfl⟩ := trodAll_nil r2
  obtain rfl : args = #[v0, v1, v2] := by cases args; simp_all
  obtain ⟨rfl, rfl⟩ := trodVars_none hV
  obtain ⟨a0, rfl, rfl, rfl, w0⟩ := open_int Tryd.underlying3 (hval 0 3 v0 rfl rfl) h0
  obtain ⟨a1, rfl, rfl, rfl, w1⟩ := open_int Tryd.underlying3 (hval 1 3 v1 rfl rfl) h1
  obtain ⟨a2, rfl, rfl, rfl, w2⟩ := open_int Tryd.underlying3 (hval 2 3 v2 rfl rfl) h2
  clear hA0 hval0
  refine (walk a0 a1 a2 W hG (bounds_i64 w0) (bounds_i64 w1) (bounds_i64 w2)).mono fun e W' ⟨he, bel⟩ => ?_
  subst he
  exact ⟨_, rfl, _, _, _, [], _, [], hW', trodAll_mk1 (shut_bool Tryd.underlying4 _), (trodAll_cons_mk (shut_int Tryd.underlying3 w0) (trodAll_cons_mk (shut_int Tryd.underlying3 w1) (trodAll_cons_mk (shut_int Tryd.underlying3 w2) trodAll_mk0))), rfl, bel.frame _, fun h => by cases h⟩

theorem over : Rows.proofSharedRow.holds Tryd.pinned (OpenSpec.ofChange Rows.proofSharedSpec) :=
  OpenClaim.holds_of_wide 5 Tryd.f5 rfl rfl rfl rfl rfl rfl rfl ⟨rfl, rfl, rfl, rfl, rfl⟩ rfl rfl rfl rfl rfl (by kernel_rfl) Tryd.func5 (by kernel_rfl)
    (of_decide_eq_true (by kernel_rfl)) (by unfold Func.isWrapper; first | (rw [if_pos (by decide +kernel)]; kernel_rfl) | (rw [if_neg (by decide +kernel)]; exact ⟨rfl, rfl⟩))
    (fun os started H enc _ => lifted os started H enc)
end Go.Proofs.YtphhofgjnlfjmabDoor.proofShared

namespace Go.Proofs.YtphhofgjnlfjmabDoor
/-- The given statement: the tied card. -/
theorem ProofShared_holds : Rows.ProofSharedCardSaid :=
  Claim7.holds_tied_plain_at .later [] [.data] true Rows.proofSharedCard.stood.harness false
    proofShared.over (fun _ h => by cases h) (by kernel_rfl) (fun _ h => by cases h) proofShared_row_tie rfl ⟨rfl, rfl⟩ (by kernel_rfl) rfl
    (fun f fn hf hfn => by
      obtain rfl : f = 5 := Option.some.inj ((show Tryd.prog.funcNamed "broadsheet/broadsheetlaw8.ProofShared" = some 5 by kernel_rfl).symm.trans hf) |>.symm
      obtain rfl : fn = Tryd.f5 := (Option.some.inj (Tryd.func5.symm.trans hfn)).symm
      exact ⟨by kernel_rfl, fun j t ht => by
        rw [Tryd.params5] at ht
        have hm : t ∈ ([3, 3, 3] : List TypeId) := by simpa using Array.mem_of_getElem? ht
        have hall : (([3, 3, 3] : List TypeId).all fun u => !Tryd.prog.wantsStandIn u) = true := by kernel_rfl
        exact (show Tryd.prog.wantsStandIn t = false by simpa using List.all_eq_true.1 hall t hm)⟩)
    (by kernel_rfl)
#print axioms ProofShared_holds
end Go.Proofs.YtphhofgjnlfjmabDoor
