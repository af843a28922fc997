/-
  The statement SignOthersCardSaid: for all numbers and messages the law function SignOthers returns true and leaves its arguments as they were; the table hash.roundWords starts as the program's text lays it (tied). No other condition.
-/
import Derived.Test.YtdioaohejoflcaaDoorKSKnown
import Derived.Test.YtdioaohejoflcaaDoorTie
import Derived.Test.YtdioaohejoflcaaDoorCards
import Derived.SevenTiedAt
namespace Go.Proofs.YtdioaohejoflcaaDoor.signOthers
open Go.ChangeShapes Go.WideShapes Go.ChangeAt Go.RowKit
open Go.Proofs.YtdioaohejoflcaaDoor
set_option linter.unusedVariables false

set_option maxRecDepth 100000 in
set_option maxHeartbeats 4000000 in
theorem walk (n m ix : Int) (v3 : Value) (ms0 : List Int) (v4 : Value) (os0 : List Int) (w : World) (hG : Gl w) (hn : -9223372036854775808 ≤ n ∧ n ≤ 9223372036854775807) (hm : -9223372036854775808 ≤ m ∧ m ≤ 9223372036854775807) (hix : -9223372036854775808 ≤ ix ∧ ix ≤ 9223372036854775807) (hm0 : Sl w v3 ms0) (hM0 : Bs ms0) (ho0 : Sl w v4 os0) (hO0 : Bs os0) :
    Calls Tryd.prog 8 #[.int .i64 n, .int .i64 m, .int .i64 ix, v3, v4] w fun e w' => e = .returned (.bool true) ∧ Below w.heap.size w w' := by
  have HG := hide hG
  obtain ⟨ms, hms⟩ : ∃ ms, ms = ms0.take 60 := ⟨_, rfl⟩
  have hml : ms.length ≤ 60 := by rw [hms]; simp; omega
  have HBm : Hid (Bs ms) := by rw [hms]; exact hM0.take _
  obtain ⟨os, hos⟩ : ∃ ms, ms = os0.take 60 := ⟨_, rfl⟩
  have hol : os.length ≤ 60 := by rw [hos]; simp; omega
  have HBo : Hid (Bs os) := by rw [hos]; exact hO0.take _
  have HC1 := hide (seed_any n w hn)
  have HC2 := hide (fun w => seed_any m w hm)
  have HCW := hide (fun w => within_any ix 0 15 w (by omega) (by omega) (by omega) hix)
  have HKC := hide (fun w' (k : Kp [] w w') => by have := cut_any v3 ms0 60 w' (hm0.kept k (by simp)); rw [← hms] at this; exact this)
  have HKO := hide (fun w' (k : Kp [] w w') => by have := cut_any v4 os0 60 w' (ho0.kept k (by simp)); rw [← hos] at this; exact this)
  have HM0 := hide hm0
  have HO0 := hide ho0
  clear hG hm0 hM0 hn hms hm hix ho0 hO0 hos
  go_enter Tryd.func8, Tryd.ntmps8
  go_wp2_with fail
  refine (unhide HC1).mono ?_
  rintro ee w1 ⟨a1, m1, c1, sd, rfl, R1, hsl, hsb, K1⟩
  have HC := hide (new_own (.slice a1 m1 c1) sd w1 R1.sl hsb hsl)
  have HK1 := hide K1
  have HSB := hide hsb
  have HSL := hide hsl
  clear R1 K1 hsb hsl HC1
  go_wp2_with fail
  refine (unhide HC).mono ?_
  rintro ee w2 ⟨g1, bs1, rfl, O1, K2⟩
  have HO1 := hide O1
  have HK2 := hide ((unhide HK1).trans K2)
  clear O1 K2 HC
  go_wp2_with fail
  refine (unhide HC2 w2).mono ?_
  rintro ee w3 ⟨a3, m3, c3, sd2, rfl, R3, hsl2, hsb2, K3⟩
  have HC := hide (new_own (.slice a3 m3 c3) sd2 w3 R3.sl hsb2 hsl2)
  have HK3 := hide K3
  clear R3 K3 hsb2 hsl2 HC2
  go_wp2_with fail
  refine (unhide HC).mono ?_
  rintro ee w4 ⟨g2, bs2, rfl, O2, K4⟩
  have HO2 := hide O2
  have HK24 := hide ((unhide HK3).trans K4)
  have HK4 := hide ((unhide HK2).trans (unhide HK24))
  clear O2 K4 HC HK3
  go_wp2_with fail
  refine (unhide HKC w4 (unhide HK4)).mono ?_
  rintro ee w5 ⟨am, cm, rfl, hT, hw⟩
  subst w5
  have HM4 : Hid (Sl w4 (.slice am ms.length cm) ms) := hT _ ((unhide HM0).kept (unhide HK4) (by simp))
  obtain ⟨mm, hmm⟩ : ∃ m, m = ms.length := ⟨_, rfl⟩
  rw [← hmm] at HM4 ⊢
  clear hT HKC HM0 hmm
  go_wp2_with fail
  refine (unhide HKO w4 (unhide HK4)).mono ?_
  rintro ee w5 ⟨ao, co, rfl, hT, hw⟩
  subst w5
  have HS4 : Hid (Sl w4 (.slice ao os.length co) os) := hT _ ((unhide HO0).kept (unhide HK4) (by simp))
  obtain ⟨mo, hmo⟩ : ∃ m, m = os.length := ⟨_, rfl⟩
  rw [← hmo] at HS4 ⊢
  clear hT HKO HO0 hmo
  go_wp2_with fail
  refine (unhide HCW w4).mono ?_
  rintro ee w5 ⟨xi, rfl, hx0, hx1, hw⟩
  subst w5
  obtain ⟨i, rfl⟩ := Int.eq_ofNat_of_zero_le hx0
  have hi16 : i < 16 := by omega
  obtain ⟨d, hd⟩ : ∃ d, d = digP ms := ⟨_, rfl⟩
  have HD := hide hd
  have HC := hide (own_sign g1 bs1 sd i (.slice am mm cm) ms d hd w4 ((unhide HO1).kept (unhide HK24)) (unhide HSB) (unhide HSL) hi16 (unhide HM4) (unhide HBm) (by omega))
  clear hd HCW
  go_wp2_with fail
  refine (unhide HC).mono ?_
  rintro ee w5 ⟨v5, rfl, V5, K5⟩
  obtain ⟨ap, np, cp, aq, nq, cq, lp, lq, hv5, hLP, hp, hLQ, hq, hnp, hnq⟩ := V5.shape
  subst hv5
  have HV5 := hide V5
  have HK5 := hide K5
  have Ga := heap_alloc_new w5 (.cells #[.int .i64 0, .slice none 0 0, .slice none 0 0] 33)
  clear hLP hp hLQ hq hnp hnq V5 K5 HC
  go_wp2_with (refine wpList_store_sig rfl (.tmp 13) (.tmp 28) rfl w5.heap.size rfl _ _ _ _ _ _ Ga rfl ⟨rfl, rfl, rfl⟩ ?_; intro w6 G6 K6)
  have Kb : Kp [] w5 w6 := ((Kp.refl [] w5).alloc (.cells #[.int .i64 0, .slice none 0 0, .slice none 0 0] 33)).then K6 (by simp)
  have K46 : Kp [] w4 w6 := (unhide HK5).trans Kb
  obtain ⟨gs, hgs⟩ : ∃ g, g = w5.heap.size := ⟨_, rfl⟩
  rw [← hgs] at G6 ⊢
  have HGS : Hid (∀ w', Kp [] w6.drew w' → w'.heap[gs]? = some (.cells #[.int .i64 i, .slice ap np cp, .slice aq nq cq] 33 (0, 0))) := fun w' k' => ((kp_drew w6).trans k').heap G6 (by simp)
  have HVV : Hid (∀ w', Kp [] w6.drew w' → SigV w' (.agg #[.int .i64 i, .slice ap np cp, .slice aq nq cq]) i (sgnP sd i d) (pthP sd i 4)) := fun w' k' => (unhide HV5).kept (Kb.trans ((kp_drew w6).trans k'))
  have HMM : Hid (∀ w', Kp [] w6.drew w' → Sl w' (.slice am mm cm) ms) := fun w' k' => (unhide HM4).kept (K46.trans ((kp_drew w6).trans k')) (by simp)
  have HSS : Hid (∀ w', Kp [] w6.drew w' → Sl w' (.slice ao mo co) os) := fun w' k' => (unhide HS4).kept (K46.trans ((kp_drew w6).trans k')) (by simp)
  have HOA : Hid (∀ w', Kp [] w6.drew w' → Ow w' bs1 g1 sd 5) := fun w' k' => (unhide HO1).kept ((unhide HK24).trans (K46.trans ((kp_drew w6).trans k')))
  have HOB : Hid (∀ w', Kp [] w6.drew w' → Ow w' bs2 g2 sd2 5) := fun w' k' => (unhide HO2).kept (K46.trans ((kp_drew w6).trans k'))
  have HGL : Hid (∀ w', Kp [] w6.drew w' → Gl w') := fun w' k' => (unhide HG).kept ((unhide HK4).trans (K46.trans ((kp_drew w6).trans k'))) (by simp)
  have HK6 := hide (((unhide HK4).trans K46).trans (kp_drew w6))
  obtain ⟨tp, htp⟩ : ∃ t, t = topP sd := ⟨_, rfl⟩
  obtain ⟨tq, htq⟩ : ∃ t, t = topP sd2 := ⟨_, rfl⟩
  have HTP := hide htp
  have HTQ := hide htq
  have HTB : Hid (Bs tp) := by rw [htp]; exact (topP_ok sd).2
  have HQB : Hid (Bs tq) := by rw [htq]; exact (topP_ok sd2).2
  obtain ⟨b1, hb1⟩ : ∃ b, b = verP tq ms i (sgnP sd i d) (pthP sd i 4) := ⟨_, rfl⟩
  obtain ⟨b2, hb2⟩ : ∃ b, b = verP tp os i (sgnP sd i d) (pthP sd i 4) := ⟨_, rfl⟩
  have HB1 := hide hb1
  have HB2 := hide hb2
  have HVT : Hid (true = verP tp ms i (sgnP sd i d) (pthP sd i 4)) := by rw [htp, unhide HD]; exact (verP_sgn sd ms i hi16).symm
  have HVN : Hid (false = verP [] ms i (sgnP sd i d) (pthP sd i 4)) := by
    have h1 := verP_sgn sd ms i hi16
    unfold verP at h1
    simp only [Bool.and_eq_true, decide_eq_true_eq] at h1
    refine hide (Eq.symm ?_)
    unfold verP
    rw [unhide HD, h1.2]
    have hne : topP sd ≠ [] := fun e => by have := (topP_ok sd).1; rw [e] at this; cases this
    simp [hne]
  have hib : -9223372036854775808 ≤ (i : Int) ∧ (i : Int) ≤ 9223372036854775807 := by omega
  have HIB := hide hib
  clear Ga K6 G6 hgs Kb K46 htp htq hb1 hb2 HV5 HM4 HS4 HO1 HO2 HK24 HK5 HK4 hib
  go_wp2_with fail
  refine region_grow Tryd.mixed [Is (.pointer (some ⟨g2, 0, none⟩)), SlT (tq), Is (.slice am mm cm), Is (.agg #[.int .i64 i, .slice ap np cp, .slice aq nq cq]), Is (.bool b1), Is (.pointer (some ⟨g2, 0, none⟩)), SlT (tq), Is (.slice am mm cm), Is (.agg #[.int .i64 i, .slice ap np cp, .slice aq nq cq]), Is (.bool b1), Is (.bool true), Is (.bool true), Is (.pointer (some ⟨g1, 0, none⟩)), SlT (tp), Is (.slice ao mo co), Is (.agg #[.int .i64 i, .slice ap np cp, .slice aq nq cq]), Is (.bool b2), Is (.pointer (some ⟨g1, 0, none⟩)), SlT (tp), Is (.slice ao mo co), Is (.agg #[.int .i64 i, .slice ap np cp, .slice aq nq cq]), Is (.bool b2), Is (.bool true), Is (.bool true), Is (.bool true), Is (.pointer (some ⟨g1, 0, none⟩)), SlT (tp), Is (.slice am mm cm), Is (.agg #[.int .i64 i, .slice ap np cp, .slice aq nq cq]), Is (.bool true), Is (.bool true), Is (.bool true), Is (.slice am mm cm), Is (.agg #[.int .i64 i, .slice ap np cp, .slice aq nq cq]), Is (.bool false), Is (.bool true), Is (.bool true), Is (.bool true), Is (.bool true), Is (.bool true), Is (.bool true)] [[(12, none)], [(29, some 0)], [(3, none)], [(13, none)], [(30, some 1), (31, some 2), (32, some 3)], [(12, none)], [(34, some 5)], [(3, none)], [(13, none)], [(35, some 6), (36, some 7), (37, some 8)], [(33, some 4), (38, some 9)], [(39, some 10)], [(11, none), (40, some 11)], [(41, some 12), (40, some 11)], [(4, none), (40, some 11)], [(13, none), (40, some 11)], [(42, some 13), (43, some 14), (44, some 15), (40, some 11)], [(11, none), (40, some 11)], [(46, some 17), (40, some 11)], [(4, none), (40, some 11)], [(13, none), (40, some 11)], [(47, some 18), (48, some 19), (49, some 20), (40, some 11)], [(45, some 16), (50, some 21), (40, some 11)], [(40, some 11), (51, some 22)], [(52, some 23)], [(11, none), (53, some 24)], [(54, some 25), (53, some 24)], [(3, none), (53, some 24)], [(13, none), (53, some 24)], [(55, some 26), (56, some 27), (57, some 28), (53, some 24)], [(53, some 24), (58, some 29)], [(59, some 30)], [(3, none), (60, some 31)], [(13, none), (60, some 31)], [(61, some 32), (62, some 33), (60, some 31)], [(63, some 34), (60, some 31)], [(60, some 31), (64, some 35)], [(65, some 36)], [(66, some 37)], [(66, some 37), (67, some 38)], [(68, some 39)]] (by kernel_rfl) ?_ ?_ ?_
  · simp only [List.mem_cons, List.not_mem_nil, or_false]
    intro R hR
    rcases hR with rfl | rfl | rfl | rfl | rfl | rfl | rfl | rfl | rfl | rfl | rfl | rfl | rfl | rfl | rfl | rfl | rfl | rfl | rfl | rfl | rfl | rfl | rfl | rfl | rfl | rfl | rfl | rfl | rfl | rfl | rfl | rfl | rfl | rfl | rfl | rfl | rfl | rfl | rfl | rfl | rfl <;> first | exact stable_is _ | exact stable_sl _
  · refine steps_cons (fun a w hk hn => ?_) ?_
    · have h12 : a.eval (.tmp 12) = .pointer (some ⟨g2, 0, none⟩) := hn.1
      clear hn
      refine wants_plain rfl ?_
      exact grown_move (.tmp 12) rfl h12
    refine steps_cons (fun a w hk hn => ?_) ?_
    · have h29 : a.eval (.tmp 29) = .pointer (some ⟨g2, 0, none⟩) := hn.1
      clear hn
      refine wants_plain rfl ?_
      refine grown_call (f := 12) rfl Tryd.func12 (by kernel_rfl) (by kernel_rfl) ?_
      simp only [List.map_toArray, List.map_cons, List.map_nil, h29]
      refine (own_public _ bs2 sd2 tq (unhide HTQ) w (unhide HOB w hk)).mono ?_
      rintro e w' ⟨ao, m, c, rfl, R, hw⟩
      subst w'
      exact ⟨_, rfl, Kp.refl _ _, R⟩
    refine steps_cons (fun a w hk hn => ?_) ?_
    · have h3 : a.eval (.tmp 3) = .slice am mm cm := hn.1
      clear hn
      refine wants_plain rfl ?_
      exact grown_move (.tmp 3) rfl h3
    refine steps_cons (fun a w hk hn => ?_) ?_
    · have h13 : a.eval (.tmp 13) = .pointer (some ⟨gs, 0, none⟩) := hn.1
      clear hn
      refine wants_plain rfl ?_
      exact grown_loadsig (.tmp 13) rfl gs _ _ _ _ h13 (unhide HGS w hk) rfl
    refine steps_cons (fun a w hk hn => ?_) ?_
    · have h30 : Sl w (a.eval (.tmp 30)) (tq) := hn.1
      have h31 : a.eval (.tmp 31) = .slice am mm cm := hn.2.1
      have h32 : a.eval (.tmp 32) = .agg #[.int .i64 i, .slice ap np cp, .slice aq nq cq] := hn.2.2.1
      clear hn
      refine wants_plain rfl ?_
      refine grown_call (f := 16) rfl Tryd.func16 (by kernel_rfl) (by kernel_rfl) ?_
      simp only [List.map_toArray, List.map_cons, List.map_nil, h31, h32]
      refine (sverify_any _ tq _ ms _ _ _ _ b1 (unhide HB1) w h30 (unhide HQB) (unhide HMM w hk) (unhide HBm) (by omega) (unhide HVV w hk) (unhide HGL w hk)).mono ?_
      rintro e w' ⟨rfl, K⟩
      exact ⟨_, rfl, K, rfl⟩
    refine steps_cons (fun a w hk hn => ?_) ?_
    · have h12 : a.eval (.tmp 12) = .pointer (some ⟨g2, 0, none⟩) := hn.1
      clear hn
      refine wants_plain rfl ?_
      exact grown_move (.tmp 12) rfl h12
    refine steps_cons (fun a w hk hn => ?_) ?_
    · have h34 : a.eval (.tmp 34) = .pointer (some ⟨g2, 0, none⟩) := hn.1
      clear hn
      refine wants_plain rfl ?_
      refine grown_call (f := 12) rfl Tryd.func12 (by kernel_rfl) (by kernel_rfl) ?_
      simp only [List.map_toArray, List.map_cons, List.map_nil, h34]
      refine (own_public _ bs2 sd2 tq (unhide HTQ) w (unhide HOB w hk)).mono ?_
      rintro e w' ⟨ao, m, c, rfl, R, hw⟩
      subst w'
      exact ⟨_, rfl, Kp.refl _ _, R⟩
    refine steps_cons (fun a w hk hn => ?_) ?_
    · have h3 : a.eval (.tmp 3) = .slice am mm cm := hn.1
      clear hn
      refine wants_plain rfl ?_
      exact grown_move (.tmp 3) rfl h3
    refine steps_cons (fun a w hk hn => ?_) ?_
    · have h13 : a.eval (.tmp 13) = .pointer (some ⟨gs, 0, none⟩) := hn.1
      clear hn
      refine wants_plain rfl ?_
      exact grown_loadsig (.tmp 13) rfl gs _ _ _ _ h13 (unhide HGS w hk) rfl
    refine steps_cons (fun a w hk hn => ?_) ?_
    · have h35 : Sl w (a.eval (.tmp 35)) (tq) := hn.1
      have h36 : a.eval (.tmp 36) = .slice am mm cm := hn.2.1
      have h37 : a.eval (.tmp 37) = .agg #[.int .i64 i, .slice ap np cp, .slice aq nq cq] := hn.2.2.1
      clear hn
      refine wants_plain rfl ?_
      refine grown_call (f := 27) rfl Tryd.func27 (by kernel_rfl) (by kernel_rfl) ?_
      simp only [List.map_toArray, List.map_cons, List.map_nil, h36, h37]
      refine (refverify_any _ tq _ ms _ _ _ _ b1 (unhide HB1) w h35 (unhide HQB) (unhide HMM w hk) (unhide HBm) (by omega) (unhide HVV w hk) (unhide HIB)).mono ?_
      rintro e w' ⟨rfl, K⟩
      exact ⟨_, rfl, K, rfl⟩
    refine steps_cons (fun a w hk hn => ?_) ?_
    · have h33 : a.eval (.tmp 33) = .bool b1 := hn.1
      have h38 : a.eval (.tmp 38) = .bool b1 := hn.2.1
      clear hn
      refine wants_plain rfl ?_
      refine grown_run (v := .bool true) ?_ (Kp.refl _ _) rfl
      obtain ⟨ρ, hρ, hc, hf, hg⟩ := eval_is a
      rw [hρ] at h33 h38 ⊢
      simp [go_sem, h33, h38]
    refine steps_cons (fun a w hk hn => ?_) ?_
    · have h39 : a.eval (.tmp 39) = .bool true := hn.1
      clear hn
      refine wants_plain rfl ?_
      exact grown_move (.tmp 39) rfl h39
    refine steps_cons (fun a w hk hn => ?_) ?_
    · have h11 : a.eval (.tmp 11) = .pointer (some ⟨g1, 0, none⟩) := hn.1
      have h40 : a.eval (.tmp 40) = .bool true := hn.2.1
      clear hn
      refine wants_guard (d := 40) rfl rfl h40 ?_
      exact grown_move (.tmp 11) rfl h11
    refine steps_cons (fun a w hk hn => ?_) ?_
    · have h41 : a.eval (.tmp 41) = .pointer (some ⟨g1, 0, none⟩) := hn.1
      have h40 : a.eval (.tmp 40) = .bool true := hn.2.1
      clear hn
      refine wants_guard (d := 40) rfl rfl h40 ?_
      refine grown_call (f := 12) rfl Tryd.func12 (by kernel_rfl) (by kernel_rfl) ?_
      simp only [List.map_toArray, List.map_cons, List.map_nil, h41]
      refine (own_public _ bs1 sd tp (unhide HTP) w (unhide HOA w hk)).mono ?_
      rintro e w' ⟨ao, m, c, rfl, R, hw⟩
      subst w'
      exact ⟨_, rfl, Kp.refl _ _, R⟩
    refine steps_cons (fun a w hk hn => ?_) ?_
    · have h4 : a.eval (.tmp 4) = .slice ao mo co := hn.1
      have h40 : a.eval (.tmp 40) = .bool true := hn.2.1
      clear hn
      refine wants_guard (d := 40) rfl rfl h40 ?_
      exact grown_move (.tmp 4) rfl h4
    refine steps_cons (fun a w hk hn => ?_) ?_
    · have h13 : a.eval (.tmp 13) = .pointer (some ⟨gs, 0, none⟩) := hn.1
      have h40 : a.eval (.tmp 40) = .bool true := hn.2.1
      clear hn
      refine wants_guard (d := 40) rfl rfl h40 ?_
      exact grown_loadsig (.tmp 13) rfl gs _ _ _ _ h13 (unhide HGS w hk) rfl
    refine steps_cons (fun a w hk hn => ?_) ?_
    · have h42 : Sl w (a.eval (.tmp 42)) (tp) := hn.1
      have h43 : a.eval (.tmp 43) = .slice ao mo co := hn.2.1
      have h44 : a.eval (.tmp 44) = .agg #[.int .i64 i, .slice ap np cp, .slice aq nq cq] := hn.2.2.1
      have h40 : a.eval (.tmp 40) = .bool true := hn.2.2.2.1
      clear hn
      refine wants_guard (d := 40) rfl rfl h40 ?_
      refine grown_call (f := 16) rfl Tryd.func16 (by kernel_rfl) (by kernel_rfl) ?_
      simp only [List.map_toArray, List.map_cons, List.map_nil, h43, h44]
      refine (sverify_any _ tp _ os _ _ _ _ b2 (unhide HB2) w h42 (unhide HTB) (unhide HSS w hk) (unhide HBo) (by omega) (unhide HVV w hk) (unhide HGL w hk)).mono ?_
      rintro e w' ⟨rfl, K⟩
      exact ⟨_, rfl, K, rfl⟩
    refine steps_cons (fun a w hk hn => ?_) ?_
    · have h11 : a.eval (.tmp 11) = .pointer (some ⟨g1, 0, none⟩) := hn.1
      have h40 : a.eval (.tmp 40) = .bool true := hn.2.1
      clear hn
      refine wants_guard (d := 40) rfl rfl h40 ?_
      exact grown_move (.tmp 11) rfl h11
    refine steps_cons (fun a w hk hn => ?_) ?_
    · have h46 : a.eval (.tmp 46) = .pointer (some ⟨g1, 0, none⟩) := hn.1
      have h40 : a.eval (.tmp 40) = .bool true := hn.2.1
      clear hn
      refine wants_guard (d := 40) rfl rfl h40 ?_
      refine grown_call (f := 12) rfl Tryd.func12 (by kernel_rfl) (by kernel_rfl) ?_
      simp only [List.map_toArray, List.map_cons, List.map_nil, h46]
      refine (own_public _ bs1 sd tp (unhide HTP) w (unhide HOA w hk)).mono ?_
      rintro e w' ⟨ao, m, c, rfl, R, hw⟩
      subst w'
      exact ⟨_, rfl, Kp.refl _ _, R⟩
    refine steps_cons (fun a w hk hn => ?_) ?_
    · have h4 : a.eval (.tmp 4) = .slice ao mo co := hn.1
      have h40 : a.eval (.tmp 40) = .bool true := hn.2.1
      clear hn
      refine wants_guard (d := 40) rfl rfl h40 ?_
      exact grown_move (.tmp 4) rfl h4
    refine steps_cons (fun a w hk hn => ?_) ?_
    · have h13 : a.eval (.tmp 13) = .pointer (some ⟨gs, 0, none⟩) := hn.1
      have h40 : a.eval (.tmp 40) = .bool true := hn.2.1
      clear hn
      refine wants_guard (d := 40) rfl rfl h40 ?_
      exact grown_loadsig (.tmp 13) rfl gs _ _ _ _ h13 (unhide HGS w hk) rfl
    refine steps_cons (fun a w hk hn => ?_) ?_
    · have h47 : Sl w (a.eval (.tmp 47)) (tp) := hn.1
      have h48 : a.eval (.tmp 48) = .slice ao mo co := hn.2.1
      have h49 : a.eval (.tmp 49) = .agg #[.int .i64 i, .slice ap np cp, .slice aq nq cq] := hn.2.2.1
      have h40 : a.eval (.tmp 40) = .bool true := hn.2.2.2.1
      clear hn
      refine wants_guard (d := 40) rfl rfl h40 ?_
      refine grown_call (f := 27) rfl Tryd.func27 (by kernel_rfl) (by kernel_rfl) ?_
      simp only [List.map_toArray, List.map_cons, List.map_nil, h48, h49]
      refine (refverify_any _ tp _ os _ _ _ _ b2 (unhide HB2) w h47 (unhide HTB) (unhide HSS w hk) (unhide HBo) (by omega) (unhide HVV w hk) (unhide HIB)).mono ?_
      rintro e w' ⟨rfl, K⟩
      exact ⟨_, rfl, K, rfl⟩
    refine steps_cons (fun a w hk hn => ?_) ?_
    · have h45 : a.eval (.tmp 45) = .bool b2 := hn.1
      have h50 : a.eval (.tmp 50) = .bool b2 := hn.2.1
      have h40 : a.eval (.tmp 40) = .bool true := hn.2.2.1
      clear hn
      refine wants_guard (d := 40) rfl rfl h40 ?_
      refine grown_run (v := .bool true) ?_ (Kp.refl _ _) rfl
      obtain ⟨ρ, hρ, hc, hf, hg⟩ := eval_is a
      rw [hρ] at h45 h50 ⊢
      simp [go_sem, h45, h50]
    refine steps_cons (fun a w hk hn => ?_) ?_
    · have h40 : a.eval (.tmp 40) = .bool true := hn.1
      have h51 : a.eval (.tmp 51) = .bool true := hn.2.1
      clear hn
      refine wants_plain rfl ?_
      exact grown_pick _ _ _ true rfl h40 h51
    refine steps_cons (fun a w hk hn => ?_) ?_
    · have h52 : a.eval (.tmp 52) = .bool true := hn.1
      clear hn
      refine wants_plain rfl ?_
      exact grown_move (.tmp 52) rfl h52
    refine steps_cons (fun a w hk hn => ?_) ?_
    · have h11 : a.eval (.tmp 11) = .pointer (some ⟨g1, 0, none⟩) := hn.1
      have h53 : a.eval (.tmp 53) = .bool true := hn.2.1
      clear hn
      refine wants_guard (d := 53) rfl rfl h53 ?_
      exact grown_move (.tmp 11) rfl h11
    refine steps_cons (fun a w hk hn => ?_) ?_
    · have h54 : a.eval (.tmp 54) = .pointer (some ⟨g1, 0, none⟩) := hn.1
      have h53 : a.eval (.tmp 53) = .bool true := hn.2.1
      clear hn
      refine wants_guard (d := 53) rfl rfl h53 ?_
      refine grown_call (f := 12) rfl Tryd.func12 (by kernel_rfl) (by kernel_rfl) ?_
      simp only [List.map_toArray, List.map_cons, List.map_nil, h54]
      refine (own_public _ bs1 sd tp (unhide HTP) w (unhide HOA w hk)).mono ?_
      rintro e w' ⟨ao, m, c, rfl, R, hw⟩
      subst w'
      exact ⟨_, rfl, Kp.refl _ _, R⟩
    refine steps_cons (fun a w hk hn => ?_) ?_
    · have h3 : a.eval (.tmp 3) = .slice am mm cm := hn.1
      have h53 : a.eval (.tmp 53) = .bool true := hn.2.1
      clear hn
      refine wants_guard (d := 53) rfl rfl h53 ?_
      exact grown_move (.tmp 3) rfl h3
    refine steps_cons (fun a w hk hn => ?_) ?_
    · have h13 : a.eval (.tmp 13) = .pointer (some ⟨gs, 0, none⟩) := hn.1
      have h53 : a.eval (.tmp 53) = .bool true := hn.2.1
      clear hn
      refine wants_guard (d := 53) rfl rfl h53 ?_
      exact grown_loadsig (.tmp 13) rfl gs _ _ _ _ h13 (unhide HGS w hk) rfl
    refine steps_cons (fun a w hk hn => ?_) ?_
    · have h55 : Sl w (a.eval (.tmp 55)) (tp) := hn.1
      have h56 : a.eval (.tmp 56) = .slice am mm cm := hn.2.1
      have h57 : a.eval (.tmp 57) = .agg #[.int .i64 i, .slice ap np cp, .slice aq nq cq] := hn.2.2.1
      have h53 : a.eval (.tmp 53) = .bool true := hn.2.2.2.1
      clear hn
      refine wants_guard (d := 53) rfl rfl h53 ?_
      refine grown_call (f := 16) rfl Tryd.func16 (by kernel_rfl) (by kernel_rfl) ?_
      simp only [List.map_toArray, List.map_cons, List.map_nil, h56, h57]
      refine (sverify_any _ tp _ ms _ _ _ _ true (unhide HVT) w h55 (unhide HTB) (unhide HMM w hk) (unhide HBm) (by omega) (unhide HVV w hk) (unhide HGL w hk)).mono ?_
      rintro e w' ⟨rfl, K⟩
      exact ⟨_, rfl, K, rfl⟩
    refine steps_cons (fun a w hk hn => ?_) ?_
    · have h53 : a.eval (.tmp 53) = .bool true := hn.1
      have h58 : a.eval (.tmp 58) = .bool true := hn.2.1
      clear hn
      refine wants_plain rfl ?_
      exact grown_pick _ _ _ true rfl h53 h58
    refine steps_cons (fun a w hk hn => ?_) ?_
    · have h59 : a.eval (.tmp 59) = .bool true := hn.1
      clear hn
      refine wants_plain rfl ?_
      exact grown_move (.tmp 59) rfl h59
    refine steps_cons (fun a w hk hn => ?_) ?_
    · have h3 : a.eval (.tmp 3) = .slice am mm cm := hn.1
      have h60 : a.eval (.tmp 60) = .bool true := hn.2.1
      clear hn
      refine wants_guard (d := 60) rfl rfl h60 ?_
      exact grown_move (.tmp 3) rfl h3
    refine steps_cons (fun a w hk hn => ?_) ?_
    · have h13 : a.eval (.tmp 13) = .pointer (some ⟨gs, 0, none⟩) := hn.1
      have h60 : a.eval (.tmp 60) = .bool true := hn.2.1
      clear hn
      refine wants_guard (d := 60) rfl rfl h60 ?_
      exact grown_loadsig (.tmp 13) rfl gs _ _ _ _ h13 (unhide HGS w hk) rfl
    refine steps_cons (fun a w hk hn => ?_) ?_
    · have h61 : a.eval (.tmp 61) = .slice am mm cm := hn.1
      have h62 : a.eval (.tmp 62) = .agg #[.int .i64 i, .slice ap np cp, .slice aq nq cq] := hn.2.1
      have h60 : a.eval (.tmp 60) = .bool true := hn.2.2.1
      clear hn
      refine wants_guard (d := 60) rfl rfl h60 ?_
      refine grown_call (f := 16) rfl Tryd.func16 (by kernel_rfl) (by kernel_rfl) ?_
      simp only [List.map_toArray, List.map_cons, List.map_nil, h61, h62]
      refine (sverify_any _ [] _ ms _ _ _ _ false (unhide HVN) w (Sl.nil w) (fun b hb => by cases hb) (unhide HMM w hk) (unhide HBm) (by omega) (unhide HVV w hk) (unhide HGL w hk)).mono ?_
      rintro e w' ⟨rfl, K⟩
      exact ⟨_, rfl, K, rfl⟩
    refine steps_cons (fun a w hk hn => ?_) ?_
    · have h63 : a.eval (.tmp 63) = .bool false := hn.1
      have h60 : a.eval (.tmp 60) = .bool true := hn.2.1
      clear hn
      refine wants_guard (d := 60) rfl rfl h60 ?_
      refine grown_run (v := .bool true) ?_ (Kp.refl _ _) rfl
      obtain ⟨ρ, hρ, hc, hf, hg⟩ := eval_is a
      rw [hρ] at h63 ⊢
      simp [go_sem, h63]
    refine steps_cons (fun a w hk hn => ?_) ?_
    · have h60 : a.eval (.tmp 60) = .bool true := hn.1
      have h64 : a.eval (.tmp 64) = .bool true := hn.2.1
      clear hn
      refine wants_plain rfl ?_
      exact grown_pick _ _ _ true rfl h60 h64
    refine steps_cons (fun a w hk hn => ?_) ?_
    · have h65 : a.eval (.tmp 65) = .bool true := hn.1
      clear hn
      refine wants_plain rfl ?_
      exact grown_move (.tmp 65) rfl h65
    refine steps_cons (fun a w hk hn => ?_) ?_
    · have h66 : a.eval (.tmp 66) = .bool true := hn.1
      clear hn
      refine wants_guard (d := 66) rfl rfl h66 ?_
      refine grown_call (f := 20) rfl Tryd.func20 (by kernel_rfl) (by kernel_rfl) ?_
      simp only [List.map_toArray, List.map_nil]
      refine (sknown_any w (unhide HGL w hk)).mono ?_
      rintro e w' ⟨rfl, K⟩
      exact ⟨_, rfl, K, rfl⟩
    refine steps_cons (fun a w hk hn => ?_) ?_
    · have h66 : a.eval (.tmp 66) = .bool true := hn.1
      have h67 : a.eval (.tmp 67) = .bool true := hn.2.1
      clear hn
      refine wants_plain rfl ?_
      exact grown_pick _ _ _ true rfl h66 h67
    refine steps_cons (fun a w hk hn => ?_) ?_
    · have h68 : a.eval (.tmp 68) = .bool true := hn.1
      clear hn
      refine wants_plain rfl ?_
      exact grown_assign (.tmp 68) rfl h68
    exact trivial
  intro W1 hkW1
  rintro _ rfl
  intro v30 h30
  rintro _ rfl
  rintro _ rfl
  rintro _ rfl
  rintro _ rfl
  intro v35 h35
  rintro _ rfl
  rintro _ rfl
  rintro _ rfl
  rintro _ rfl
  rintro _ rfl
  rintro _ rfl
  intro v42 h42
  rintro _ rfl
  rintro _ rfl
  rintro _ rfl
  rintro _ rfl
  intro v47 h47
  rintro _ rfl
  rintro _ rfl
  rintro _ rfl
  rintro _ rfl
  rintro _ rfl
  rintro _ rfl
  rintro _ rfl
  intro v55 h55
  rintro _ rfl
  rintro _ rfl
  rintro _ rfl
  rintro _ rfl
  rintro _ rfl
  rintro _ rfl
  rintro _ rfl
  rintro _ rfl
  rintro _ rfl
  rintro _ rfl
  rintro _ rfl
  rintro _ rfl
  rintro _ rfl
  rintro _ rfl
  refine fin_nil ?_
  simp only [Act.put, List.set_cons_zero, List.set_cons_succ, List.setIfInBounds_toArray]
  go_wp2_with fail
  go_ret
  exact ⟨rfl, ((unhide HK6).trans hkW1).below (Nat.le_refl _) (by simp)⟩

set_option maxRecDepth 100000 in
theorem lifted (os : Os) (started : os.Started) (H : Type) (enc : TypeId × Value → H) :
    ReturnsInHanded {} Tryd.checked os 8 .any (fun w args => (Rows.signOthersSpec.pre enc Tryd.prog Tryd.f8 [] false w args ∧ laidMetH Tryd.prog laid1 w) ∧ sizedMet enc Tryd.prog Tryd.f8 (OpenSpec.ofChange Rows.signOthersSpec) false w args) (Rows.signOthersSpec.post enc Tryd.prog Tryd.f8 false true false false) := by
  refine returnsInHanded_of_change_and (C := Tryd.checked) (X := fun w _ => laidMetH Tryd.prog laid1 w) (fun _ _ _ hh h => h.of_heap hh) own started (by kernel_rfl) Tryd.func8
    (ChangeSpec.witness_shaped (enc := enc) (C := Tryd.checked) (os := os) (X := fun w _ => laidMetH Tryd.prog laid1 w) false (World.doorLaid Tryd.prog 400 os) #[.int .i64 0, .int .i64 0, .int .i64 0, .slice none 0 0, .slice none 0 0] 8 rfl (World.shaped_of_RefB (by kernel_rfl) (by kernel_rfl)) (by kernel_rfl) (by kernel_rfl) (by kernel_rfl) (door_met os _)) ?_
  intro W base args ds gs before hval0 hW hcnd hsz0 hL _
  have hG := gl_of_laid hL
  have hval : ∀ (j : Nat) t v, Tryd.f8.params[j]? = some t → args[j]? = some v → Value.okWide Tryd.prog W .any base t v := hval0
  have hW' := hW
  obtain ⟨p, q, hA0, hV, rfl, hfz, hnd⟩ := hW
  have hA : DataW.TrodAll enc Tryd.prog W 0 (fun _ => true) true Tryd.f8.params.toList args.toList ds p := hA0
  rw [Tryd.params8] at hA hval
  obtain ⟨v0, vs0, d0, ds0, p0, q0, hargs, rfl, rfl, h0, r0⟩ := trodAll_cons hA
  obtain ⟨v1, vs1, d1, ds1, p1, q1, rfl, rfl, rfl, h1, r1⟩ := trodAll_cons r0
  obtain ⟨v2, vs2, d2, ds2, p2, q2, rfl, rfl, rfl, h2, r2⟩ := trodAll_cons r1
  obtain ⟨v3, vs3, d3, ds3, p3, q3, rfl, rfl, rfl, h3, r3⟩ := trodAll_cons r2
  obtain ⟨v4, vs4, d4, ds4, p4, q4, rfl, rfl, rfl, h4, r4⟩ := trodAll_cons r3
  obtain ⟨rfl, rfl, rfl⟩ := trodAll_nil r4
  obtain rfl : args = #[v0, v1, v2, v3, v4] := by cases args; simp_all
  obtain ⟨rfl, rfl⟩ := trodVars_none hV
  obtain ⟨a0, rfl, rfl, rfl, w0⟩ := open_int Tryd.underlying3 (hval 0 3 v0 rfl rfl) h0
  obtain ⟨a1, rfl, rfl, rfl, w1⟩ := open_int Tryd.underlying3 (hval 1 3 v1 rfl rfl) h1
  obtain ⟨a2, rfl, rfl, rfl, w2⟩ := open_int Tryd.underlying3 (hval 2 3 v2 rfl rfl) h2
  obtain ⟨a3, len3, cap3, rfl⟩ := okWide_slice Tryd.underlying24 (hval 3 24 v3 rfl rfl)
  have k3 := h3
  have lt3 : ∀ x ∈ p3, x.block < W.heap.size := by obtain ⟨m, hm⟩ := k3; exact DataW.trod_lt m _ _ _ hm
  obtain ⟨l3, s3, b3⟩ : ∃ bs, Sl W (.slice a3 len3 cap3) bs ∧ Bs bs := by
    obtain ⟨fuel, hf⟩ := h3
    exact bytes_of_trod (by simpa [Value.cells] using hf)
  obtain ⟨a4, len4, cap4, rfl⟩ := okWide_slice Tryd.underlying24 (hval 4 24 v4 rfl rfl)
  have k4 := h4
  have lt4 : ∀ x ∈ p4, x.block < W.heap.size := by obtain ⟨m, hm⟩ := k4; exact DataW.trod_lt m _ _ _ hm
  obtain ⟨l4, s4, b4⟩ : ∃ bs, Sl W (.slice a4 len4 cap4) bs ∧ Bs bs := by
    obtain ⟨fuel, hf⟩ := h4
    exact bytes_of_trod (by simpa [Value.cells] using hf)
  clear hA0 hval0
  refine (walk a0 a1 a2 (.slice a3 len3 cap3) l3 (.slice a4 len4 cap4) l4 W hG (bounds_i64 w0) (bounds_i64 w1) (bounds_i64 w2) s3 b3 s4 b4).mono fun e W' ⟨he, bel⟩ => ?_
  subst he
  exact ⟨_, rfl, _, _, _, [], _, [], hW', trodAll_mk1 (shut_bool Tryd.underlying4 _), (trodAll_cons_mk (shut_int Tryd.underlying3 w0) (trodAll_cons_mk (shut_int Tryd.underlying3 w1) (trodAll_cons_mk (shut_int Tryd.underlying3 w2) (trodAll_cons_mk (Below.trod laidOut (by kernel_rfl) (of_decide_eq_true (by kernel_rfl)) k3 bel lt3) (trodAll_cons_mk (Below.trod laidOut (by kernel_rfl) (of_decide_eq_true (by kernel_rfl)) k4 bel lt4) trodAll_mk0))))), rfl, bel.frame _, fun h => by cases h⟩

theorem over : Rows.signOthersRow.holds Tryd.pinned (OpenSpec.ofChange Rows.signOthersSpec) :=
  OpenClaim.holds_of_wide 8 Tryd.f8 rfl rfl rfl rfl rfl rfl rfl ⟨rfl, rfl, rfl, rfl, rfl⟩ rfl rfl rfl rfl rfl (by kernel_rfl) Tryd.func8 (by kernel_rfl)
    (of_decide_eq_true (by kernel_rfl)) (by unfold Func.isWrapper; first | (rw [if_pos (by decide +kernel)]; kernel_rfl) | (rw [if_neg (by decide +kernel)]; exact ⟨rfl, rfl⟩))
    (fun os started H enc _ => lifted os started H enc)
end Go.Proofs.YtdioaohejoflcaaDoor.signOthers

namespace Go.Proofs.YtdioaohejoflcaaDoor
/-- The given statement: the tied card. -/
theorem SignOthers_holds : Rows.SignOthersCardSaid :=
  Claim7.holds_tied_plain_at .later [] [.data] true Rows.signOthersCard.stood.harness false
    signOthers.over (fun _ h => by cases h) (by kernel_rfl) (fun _ h => by cases h) signOthers_row_tie rfl ⟨rfl, rfl⟩ (by kernel_rfl) rfl
    (fun f fn hf hfn => by
      obtain rfl : f = 8 := Option.some.inj ((show Tryd.prog.funcNamed "broadsheet/broadsheetlaw5.SignOthers" = some 8 by kernel_rfl).symm.trans hf) |>.symm
      obtain rfl : fn = Tryd.f8 := (Option.some.inj (Tryd.func8.symm.trans hfn)).symm
      exact ⟨by kernel_rfl, fun j t ht => by
        rw [Tryd.params8] at ht
        have hm : t ∈ ([3, 3, 3, 24, 24] : List TypeId) := by simpa using Array.mem_of_getElem? ht
        have hall : (([3, 3, 3, 24, 24] : List TypeId).all fun u => !Tryd.prog.wantsStandIn u) = true := by kernel_rfl
        exact (show Tryd.prog.wantsStandIn t = false by simpa using List.all_eq_true.1 hall t hm)⟩)
    (by kernel_rfl)
#print axioms SignOthers_holds
end Go.Proofs.YtdioaohejoflcaaDoor
