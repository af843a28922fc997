/-
  The statement SignTellsCardSaid: for all seeds, numbers and messages the law function SignTells returns true and leaves its arguments as they were; the table hash.roundWords starts as the program's text lays it (tied). No other condition.
-/
import Derived.Test.YtdioaohejoflcaaDoorKSSameL
import Derived.Test.YtdioaohejoflcaaDoorKOMore
import Derived.Test.YtdioaohejoflcaaDoorTie
import Derived.Test.YtdioaohejoflcaaDoorCards
import Derived.SevenTiedAt
namespace Go.Proofs.YtdioaohejoflcaaDoor.signTells
open Go.ChangeShapes Go.WideShapes Go.ChangeAt Go.RowKit
open Go.Proofs.YtdioaohejoflcaaDoor
set_option linter.unusedVariables false

/-- The value is a signature. -/
def SigT (i : Int) (ps qs : List (List Int)) : Tell := fun v w => SigV w v i ps qs
theorem stable_sig (i : Int) (ps qs : List (List Int)) : Tell.stable (SigT i ps qs) := fun _ _ _ k h => h.kept k

set_option maxRecDepth 100000 in
set_option maxHeartbeats 8000000 in
theorem walk (v0 : Value) (sd0 : List Int) (ix : Int) (v2 : Value) (ms0 : List Int) (v3 : Value) (os0 : List Int) (w : World) (hG : Gl w) (hs0 : Sl w v0 sd0) (hS0 : Bs sd0) (hix : -9223372036854775808 ≤ ix ∧ ix ≤ 9223372036854775807) (hm0 : Sl w v2 ms0) (hM0 : Bs ms0) (ho0 : Sl w v3 os0) (hO0 : Bs os0) :
    Calls Tryd.prog 4 #[v0, .int .i64 ix, v2, v3] w fun e w' => e = .returned (.bool true) ∧ Below w.heap.size w w' := by
  have HG := hide hG
  obtain ⟨ms, hms⟩ : ∃ ms, ms = ms0.take 200 := ⟨_, rfl⟩
  have hml : ms.length ≤ 200 := by rw [hms]; simp; omega
  have HBm : Hid (Bs ms) := by rw [hms]; exact hM0.take _
  obtain ⟨os, hos⟩ : ∃ ms, ms = os0.take 100 := ⟨_, rfl⟩
  have hol : os.length ≤ 100 := by rw [hos]; simp; omega
  have HBo : Hid (Bs os) := by rw [hos]; exact hO0.take _
  have HC1 := hide (sized_any v0 sd0 w hs0 hS0)
  have HCW := hide (fun w => within_any ix 0 15 w (by omega) (by omega) (by omega) hix)
  have HKC := hide (fun w' (k : Kp [] w w') => by have := cut_any v2 ms0 200 w' (hm0.kept k (by simp)); rw [← hms] at this; exact this)
  have HKO := hide (fun w' (k : Kp [] w w') => by have := cut_any v3 os0 100 w' (ho0.kept k (by simp)); rw [← hos] at this; exact this)
  have HM0 := hide hm0
  have HO0 := hide ho0
  clear hG hm0 hM0 hms ho0 hO0 hos hs0 hS0
  go_enter Tryd.func4, Tryd.ntmps4
  go_wp2_with fail
  refine (unhide HC1).mono ?_
  rintro ee w1 ⟨ga, sd, rfl, hsl, hsb, R1, K1⟩
  have HS1 := hide R1.sl
  have HK1 := hide K1
  have HSB := hide hsb
  have HSL := hide hsl
  clear R1 K1 hsb hsl HC1
  go_wp2_with fail
  refine (unhide HKC w1 (unhide HK1)).mono ?_
  rintro ee w2 ⟨am, cm, rfl, hT, hw⟩
  subst w2
  have HM1 : Hid (Sl w1 (.slice am ms.length cm) ms) := hT _ ((unhide HM0).kept (unhide HK1) (by simp))
  obtain ⟨mm, hmm⟩ : ∃ m, m = ms.length := ⟨_, rfl⟩
  rw [← hmm] at HM1 ⊢
  clear hT HKC HM0 hmm
  go_wp2_with fail
  refine (unhide HKO w1 (unhide HK1)).mono ?_
  rintro ee w2 ⟨ao, co, rfl, hT, hw⟩
  subst w2
  have HO1 : Hid (Sl w1 (.slice ao os.length co) os) := hT _ ((unhide HO0).kept (unhide HK1) (by simp))
  obtain ⟨mo, hmo⟩ : ∃ m, m = os.length := ⟨_, rfl⟩
  rw [← hmo] at HO1 ⊢
  clear hT HKO HO0 hmo
  have HC := hide (new_own (.slice (some ⟨ga, 0, none⟩) 32 32) sd w1 (unhide HS1) (unhide HSB) (unhide HSL))
  go_wp2_with fail
  refine (unhide HC).mono ?_
  rintro ee w2 ⟨g1, bs1, rfl, O2, K2⟩
  have HO2 := hide O2
  have HK2 := hide K2
  clear O2 K2 HC
  go_wp2_with fail
  refine (unhide HCW w2).mono ?_
  rintro ee w3 ⟨xi, rfl, hx0, hx1, hw⟩
  subst w3
  obtain ⟨i, rfl⟩ := Int.eq_ofNat_of_zero_le hx0
  have hi16 : i < 16 := by omega
  obtain ⟨d, hd⟩ : ∃ d, d = digP ms := ⟨_, rfl⟩
  have HD := hide hd
  have HC := hide (ssign_any (.slice (some ⟨ga, 0, none⟩) 32 32) sd i (.slice am mm cm) ms d hd w2 ((unhide HS1).kept (unhide HK2) (by simp)) (unhide HSB) (unhide HSL) hi16 ((unhide HM1).kept (unhide HK2) (by simp)) (unhide HBm) (by omega) ((unhide HG).kept ((unhide HK1).trans (unhide HK2)) (by simp)))
  clear hd HCW
  go_wp2_with fail
  refine (unhide HC).mono ?_
  rintro ee w3 ⟨v3', rfl, V3, K3⟩
  obtain ⟨ap, np, cp, aq, nq, cq, lp, lq, hv3, hLP, hp, hLQ, hq, hnp, hnq⟩ := V3.shape
  subst hv3
  have HV3 := hide V3
  have HK3 := hide ((unhide HK2).trans K3)
  have HK23 := hide K3
  have Ga := heap_alloc_new w3 (.cells #[.int .i64 0, .slice none 0 0, .slice none 0 0] 33)
  clear hLP hp hLQ hq hnp hnq V3 K3 HC
  go_wp2_with (refine wpList_store_sig rfl (.tmp 11) (.tmp 30) rfl w3.heap.size rfl _ _ _ _ _ _ Ga rfl ⟨rfl, rfl, rfl⟩ ?_; intro w4 G4 K4; refine Hid.out ?_)
  have Kb : Kp [] w3 w4 := ((Kp.refl [] w3).alloc (.cells #[.int .i64 0, .slice none 0 0, .slice none 0 0] 33)).then K4 (by simp)
  obtain ⟨gs, hgs⟩ : ∃ g, g = w3.heap.size := ⟨_, rfl⟩
  rw [← hgs] at G4 ⊢
  have HK34 := hide Kb
  have HK14 := hide ((unhide HK3).trans Kb)
  have HG4 := hide G4
  clear Ga K4 G4 Kb hgs
  refine hide ?_
  obtain ⟨tp, htp⟩ : ∃ t, t = topP sd := ⟨_, rfl⟩
  have HTP := hide htp
  have HTB : Hid (Bs tp) := by rw [htp]; exact (topP_ok sd).2
  obtain ⟨ST, hST⟩ : ∃ S, S = strOfNums tp := ⟨_, rfl⟩
  have HST := hide hST
  have hib : -9223372036854775808 ≤ (i : Int) ∧ (i : Int) ≤ 9223372036854775807 := by omega
  have HIB := hide hib
  clear htp hST hib
  by_cases hin : 0 ≤ ix ∧ ix < 16
  · obtain ⟨hge, hlt16⟩ := hin
    obtain ⟨j, hj⟩ := Int.eq_ofNat_of_zero_le hge
    have HC := hide (ssign_any (.slice (some ⟨ga, 0, none⟩) 32 32) sd j (.slice am mm cm) ms d (unhide HD) w4 ((unhide HS1).kept (unhide HK14) (by simp)) (unhide HSB) (unhide HSL) (by omega) ((unhide HM1).kept (unhide HK14) (by simp)) (unhide HBm) (by omega) ((unhide HG).kept ((unhide HK1).trans (unhide HK14)) (by simp)))
    rw [← hj] at HC
    have HJ := hide hj
    clear hj
    go_wp2_with fail
    refine (unhide HC).mono ?_
    rintro ee w5 ⟨v5, rfl, V5, K5⟩
    obtain ⟨bp, np2, bcp, bq, nq2, bcq, l5, l6, hv5, z1, z2, z3, z4, z5, z6⟩ := V5.shape
    clear z1 z2 z3 z4 z5 z6
    subst hv5
    have HK45 := hide K5
    clear V5 K5 HC
    have Ga := heap_alloc_new w5 (.cells #[.int .i64 0, .slice none 0 0, .slice none 0 0] 33)
    go_wp2_with (refine wpList_store_sig rfl (.tmp 13) (.tmp 37) rfl w5.heap.size rfl _ _ _ _ _ _ Ga rfl ⟨rfl, rfl, rfl⟩ ?_; intro w6 G6 K6)
    have Kb : Kp [] w5 w6 := ((Kp.refl [] w5).alloc (.cells #[.int .i64 0, .slice none 0 0, .slice none 0 0] 33)).then K6 (by simp)
    obtain ⟨gt, hgt⟩ : ∃ g, g = w5.heap.size := ⟨_, rfl⟩
    rw [← hgt] at G6 ⊢
    have K46 : Kp [] w4 w6.drew := ((unhide HK45).trans Kb).trans (kp_drew w6)
    have HGS : Hid (∀ w', Kp [] w6.drew w' → w'.heap[gs]? = some (.cells #[.int .i64 i, .slice ap np cp, .slice aq nq cq] 33 (0, 0))) := fun w' k' => (K46.trans k').heap (unhide HG4) (by simp)
    have HVV : Hid (∀ w', Kp [] w6.drew w' → SigV w' (.agg #[.int .i64 i, .slice ap np cp, .slice aq nq cq]) i (sgnP sd i d) (pthP sd i 4)) := fun w' k' => (unhide HV3).kept ((unhide HK34).trans (K46.trans k'))
    have HMM : Hid (∀ w', Kp [] w6.drew w' → Sl w' (.slice am mm cm) ms) := fun w' k' => (unhide HM1).kept ((unhide HK14).trans (K46.trans k')) (by simp)
    have HSS : Hid (∀ w', Kp [] w6.drew w' → Sl w' (.slice ao mo co) os) := fun w' k' => (unhide HO1).kept ((unhide HK14).trans (K46.trans k')) (by simp)
    have HSD : Hid (∀ w', Kp [] w6.drew w' → Sl w' (.slice (some ⟨ga, 0, none⟩) 32 32) sd) := fun w' k' => (unhide HS1).kept ((unhide HK14).trans (K46.trans k')) (by simp)
    have HOW : Hid (∀ w', Kp [] w6.drew w' → Ow w' bs1 g1 sd 5) := fun w' k' => (unhide HO2).kept ((unhide HK23).trans ((unhide HK34).trans (K46.trans k')))
    have HGL : Hid (∀ w', Kp [] w6.drew w' → Gl w') := fun w' k' => (unhide HG).kept ((unhide HK1).trans ((unhide HK14).trans (K46.trans k'))) (by simp)
    have HCT : Hid (∀ w', Kp [] w6.drew w' → w'.cell? ⟨gt, 1, none⟩ = some (.slice bp np2 bcp)) := fun w' k' => by rw [cell_of_row w' gt 1 _ _ _ (((kp_drew w6).trans k').heap G6 (by simp))]; rfl
    have HK6 := hide ((unhide HK1).trans ((unhide HK14).trans K46))
    clear Ga K6 G6 Kb K46 hgt
    go_wp2_with fail
    refine region_grow Tryd.mixed [Is (.int .i64 0), Is (.bool false), Is (.bool false), Is (.agg #[.int .i64 i, .slice ap np cp, .slice aq nq cq]), Is (.pointer (some ⟨g1, 0, none⟩)), Is (.int .i64 i), Is (.slice am mm cm), SigT i (sgnP sd i d) (pthP sd i 4), Is (.bool true), Is (.bool false), Is (.bool false), Is (.bool false), Is (.int .i64 0), Is (.bool true), Is (.int .i64 ix), Is (.bool true), Is (.bool true), Is (.int .i64 ix), Is (.bool true), Is (.bool true), Is (.bool false), Is (.bool false), Is (.bool false), Is (.int .i64 0), Is (.bool false), Is (.bool false), Is (undef), Is (undef), Is (undef), Is (undef), Is (undef), Is (undef), Is (undef), Is (undef), Is (.bool false), Is (.bool false)] [[(12, none)], [(39, some 0)], [(40, some 1)], [(11, none), (41, some 2)], [(9, none), (41, some 2)], [(10, none), (41, some 2)], [(2, none), (41, some 2)], [(43, some 4), (44, some 5), (45, some 6), (41, some 2)], [(42, some 3), (46, some 7), (41, some 2)], [(47, some 8), (41, some 2)], [(41, some 2), (48, some 9)], [(49, some 10)], [(14, none), (50, some 11)], [(51, some 12), (50, some 11)], [(1, none), (50, some 11)], [(53, some 14), (50, some 11)], [(54, some 15), (50, some 11)], [(1, none), (55, some 16)], [(56, some 17), (55, some 16)], [(55, some 16), (57, some 18), (50, some 11)], [(52, some 13), (58, some 19), (50, some 11)], [(50, some 11), (59, some 20)], [(60, some 21)], [(14, none), (61, some 22)], [(62, some 23), (61, some 22)], [(63, some 24), (61, some 22)], [(14, none), (64, some 25)], [(65, some 26), (64, some 25)], [(66, some 27), (64, some 25)], [(13, none), (67, some 28)], [(68, some 29), (67, some 28)], [(69, some 30), (67, some 28)], [(70, some 31), (67, some 28)], [(67, some 28), (71, some 32), (64, some 25)], [(64, some 25), (72, some 33), (61, some 22)], [(61, some 22), (73, some 34)]] (by kernel_rfl) ?_ ?_ ?_
    · simp only [List.mem_cons, List.not_mem_nil, or_false]
      intro R hR
      rcases hR with rfl | rfl | rfl | rfl | rfl | rfl | rfl | rfl | rfl | rfl | rfl | rfl | rfl | rfl | rfl | rfl | rfl | rfl | rfl | rfl | rfl | rfl | rfl | rfl | rfl | rfl | rfl | rfl | rfl | rfl | rfl | rfl | rfl | rfl | rfl | rfl <;> first | exact stable_is _ | exact stable_sig _ _ _
    · refine steps_cons (fun a w hk hn => ?_) ?_
      · have h12 : a.eval (.tmp 12) = .int .i64 0 := hn.1
        clear hn
        refine wants_plain rfl ?_
        exact grown_move (.tmp 12) rfl h12
      refine steps_cons (fun a w hk hn => ?_) ?_
      · have h39 : a.eval (.tmp 39) = .int .i64 0 := hn.1
        clear hn
        refine wants_plain rfl ?_
        refine grown_run (v := .bool false) ?_ (Kp.refl _ _) rfl
        obtain ⟨ρ, hρ, hc, hf, hg⟩ := eval_is a
        rw [hρ] at h39 ⊢
        simp [go_sem, hc, h39]
      refine steps_cons (fun a w hk hn => ?_) ?_
      · have h40 : a.eval (.tmp 40) = .bool false := hn.1
        clear hn
        refine wants_plain rfl ?_
        exact grown_move (.tmp 40) rfl h40
      refine steps_cons (fun a w hk hn => ?_) ?_
      · have h11 : a.eval (.tmp 11) = .pointer (some ⟨gs, 0, none⟩) := hn.1
        have h41 : a.eval (.tmp 41) = .bool false := hn.2.1
        clear hn
        refine wants_guard (d := 41) rfl rfl h41 ?_
        exact grown_loadsig (.tmp 11) rfl gs _ _ _ _ h11 (unhide HGS w hk) rfl
      refine steps_cons (fun a w hk hn => ?_) ?_
      · have h9 : a.eval (.tmp 9) = .pointer (some ⟨g1, 0, none⟩) := hn.1
        have h41 : a.eval (.tmp 41) = .bool false := hn.2.1
        clear hn
        refine wants_guard (d := 41) rfl rfl h41 ?_
        exact grown_move (.tmp 9) rfl h9
      refine steps_cons (fun a w hk hn => ?_) ?_
      · have h10 : a.eval (.tmp 10) = .int .i64 i := hn.1
        have h41 : a.eval (.tmp 41) = .bool false := hn.2.1
        clear hn
        refine wants_guard (d := 41) rfl rfl h41 ?_
        exact grown_move (.tmp 10) rfl h10
      refine steps_cons (fun a w hk hn => ?_) ?_
      · have h2 : a.eval (.tmp 2) = .slice am mm cm := hn.1
        have h41 : a.eval (.tmp 41) = .bool false := hn.2.1
        clear hn
        refine wants_guard (d := 41) rfl rfl h41 ?_
        exact grown_move (.tmp 2) rfl h2
      refine steps_cons (fun a w hk hn => ?_) ?_
      · have h43 : a.eval (.tmp 43) = .pointer (some ⟨g1, 0, none⟩) := hn.1
        have h44 : a.eval (.tmp 44) = .int .i64 i := hn.2.1
        have h45 : a.eval (.tmp 45) = .slice am mm cm := hn.2.2.1
        have h41 : a.eval (.tmp 41) = .bool false := hn.2.2.2.1
        clear hn
        refine wants_guard (d := 41) rfl rfl h41 ?_
        refine grown_call (f := 15) rfl Tryd.func15 (by kernel_rfl) (by kernel_rfl) ?_
        simp only [List.map_toArray, List.map_cons, List.map_nil, h43, h44, h45]
        refine (own_sign _ bs1 sd i _ ms d (unhide HD) w (unhide HOW w hk) (unhide HSB) (unhide HSL) hi16 (unhide HMM w hk) (unhide HBm) (by omega)).mono ?_
        rintro e w' ⟨v, rfl, V, K⟩
        exact ⟨_, rfl, K, V⟩
      refine steps_cons (fun a w hk hn => ?_) ?_
      · have h42 : a.eval (.tmp 42) = .agg #[.int .i64 i, .slice ap np cp, .slice aq nq cq] := hn.1
        have h46 : (SigT i (sgnP sd i d) (pthP sd i 4)) (a.eval (.tmp 46)) w := hn.2.1
        have h41 : a.eval (.tmp 41) = .bool false := hn.2.2.1
        clear hn
        refine wants_guard (d := 41) rfl rfl h41 ?_
        refine grown_call (f := 14) rfl Tryd.func14 (by kernel_rfl) (by kernel_rfl) ?_
        simp only [List.map_toArray, List.map_cons, List.map_nil, h42]
        refine (refsame_any _ _ i _ _ w (unhide HVV w hk) h46).mono ?_
        rintro e w' ⟨rfl, K⟩
        exact ⟨_, rfl, K, rfl⟩
      refine steps_cons (fun a w hk hn => ?_) ?_
      · have h47 : a.eval (.tmp 47) = .bool true := hn.1
        have h41 : a.eval (.tmp 41) = .bool false := hn.2.1
        clear hn
        refine wants_guard (d := 41) rfl rfl h41 ?_
        refine grown_run (v := .bool false) ?_ (Kp.refl _ _) rfl
        obtain ⟨ρ, hρ, hc, hf, hg⟩ := eval_is a
        rw [hρ] at h47 ⊢
        simp [go_sem, h47]
      refine steps_cons (fun a w hk hn => ?_) ?_
      · have h41 : a.eval (.tmp 41) = .bool false := hn.1
        have h48 : a.eval (.tmp 48) = .bool false := hn.2.1
        clear hn
        refine wants_plain rfl ?_
        exact grown_pick _ _ _ false rfl h41 h48
      refine steps_cons (fun a w hk hn => ?_) ?_
      · have h49 : a.eval (.tmp 49) = .bool false := hn.1
        clear hn
        refine wants_plain rfl ?_
        exact grown_move (.tmp 49) rfl h49
      refine steps_cons (fun a w hk hn => ?_) ?_
      · have h14 : a.eval (.tmp 14) = .int .i64 0 := hn.1
        have h50 : a.eval (.tmp 50) = .bool false := hn.2.1
        clear hn
        refine wants_guard (d := 50) rfl rfl h50 ?_
        exact grown_move (.tmp 14) rfl h14
      refine steps_cons (fun a w hk hn => ?_) ?_
      · have h51 : a.eval (.tmp 51) = .int .i64 0 := hn.1
        have h50 : a.eval (.tmp 50) = .bool false := hn.2.1
        clear hn
        refine wants_guard (d := 50) rfl rfl h50 ?_
        refine grown_run (v := .bool true) ?_ (Kp.refl _ _) rfl
        obtain ⟨ρ, hρ, hc, hf, hg⟩ := eval_is a
        rw [hρ] at h51 ⊢
        simp [go_sem, hc, h51]
      refine steps_cons (fun a w hk hn => ?_) ?_
      · have h1 : a.eval (.tmp 1) = .int .i64 ix := hn.1
        have h50 : a.eval (.tmp 50) = .bool false := hn.2.1
        clear hn
        refine wants_guard (d := 50) rfl rfl h50 ?_
        exact grown_move (.tmp 1) rfl h1
      refine steps_cons (fun a w hk hn => ?_) ?_
      · have h53 : a.eval (.tmp 53) = .int .i64 ix := hn.1
        have h50 : a.eval (.tmp 50) = .bool false := hn.2.1
        clear hn
        refine wants_guard (d := 50) rfl rfl h50 ?_
        refine grown_run (v := .bool true) ?_ (Kp.refl _ _) rfl
        obtain ⟨ρ, hρ, hc, hf, hg⟩ := eval_is a
        rw [hρ] at h53 ⊢
        simp [go_sem, hc, h53, hge]
      refine steps_cons (fun a w hk hn => ?_) ?_
      · have h54 : a.eval (.tmp 54) = .bool true := hn.1
        have h50 : a.eval (.tmp 50) = .bool false := hn.2.1
        clear hn
        refine wants_guard (d := 50) rfl rfl h50 ?_
        exact grown_move (.tmp 54) rfl h54
      refine steps_cons (fun a w hk hn => ?_) ?_
      · have h1 : a.eval (.tmp 1) = .int .i64 ix := hn.1
        have h55 : a.eval (.tmp 55) = .bool true := hn.2.1
        clear hn
        refine wants_guard (d := 55) rfl rfl h55 ?_
        exact grown_move (.tmp 1) rfl h1
      refine steps_cons (fun a w hk hn => ?_) ?_
      · have h56 : a.eval (.tmp 56) = .int .i64 ix := hn.1
        have h55 : a.eval (.tmp 55) = .bool true := hn.2.1
        clear hn
        refine wants_guard (d := 55) rfl rfl h55 ?_
        refine grown_run (v := .bool true) ?_ (Kp.refl _ _) rfl
        obtain ⟨ρ, hρ, hc, hf, hg⟩ := eval_is a
        rw [hρ] at h56 ⊢
        simp [go_sem, hc, h56, hlt16]
      refine steps_cons (fun a w hk hn => ?_) ?_
      · have h55 : a.eval (.tmp 55) = .bool true := hn.1
        have h57 : a.eval (.tmp 57) = .bool true := hn.2.1
        have h50 : a.eval (.tmp 50) = .bool false := hn.2.2.1
        clear hn
        refine wants_guard (d := 50) rfl rfl h50 ?_
        exact grown_pick _ _ _ true rfl h55 h57
      refine steps_cons (fun a w hk hn => ?_) ?_
      · have h52 : a.eval (.tmp 52) = .bool true := hn.1
        have h58 : a.eval (.tmp 58) = .bool true := hn.2.1
        have h50 : a.eval (.tmp 50) = .bool false := hn.2.2.1
        clear hn
        refine wants_guard (d := 50) rfl rfl h50 ?_
        refine grown_run (v := .bool false) ?_ (Kp.refl _ _) rfl
        obtain ⟨ρ, hρ, hc, hf, hg⟩ := eval_is a
        rw [hρ] at h52 h58 ⊢
        simp [go_sem, h52, h58]
      refine steps_cons (fun a w hk hn => ?_) ?_
      · have h50 : a.eval (.tmp 50) = .bool false := hn.1
        have h59 : a.eval (.tmp 59) = .bool false := hn.2.1
        clear hn
        refine wants_plain rfl ?_
        exact grown_pick _ _ _ false rfl h50 h59
      refine steps_cons (fun a w hk hn => ?_) ?_
      · have h60 : a.eval (.tmp 60) = .bool false := hn.1
        clear hn
        refine wants_plain rfl ?_
        exact grown_move (.tmp 60) rfl h60
      refine steps_cons (fun a w hk hn => ?_) ?_
      · have h14 : a.eval (.tmp 14) = .int .i64 0 := hn.1
        have h61 : a.eval (.tmp 61) = .bool false := hn.2.1
        clear hn
        refine wants_guard (d := 61) rfl rfl h61 ?_
        exact grown_move (.tmp 14) rfl h14
      refine steps_cons (fun a w hk hn => ?_) ?_
      · have h62 : a.eval (.tmp 62) = .int .i64 0 := hn.1
        have h61 : a.eval (.tmp 61) = .bool false := hn.2.1
        clear hn
        refine wants_guard (d := 61) rfl rfl h61 ?_
        refine grown_run (v := .bool false) ?_ (Kp.refl _ _) rfl
        obtain ⟨ρ, hρ, hc, hf, hg⟩ := eval_is a
        rw [hρ] at h62 ⊢
        simp [go_sem, hc, h62]
      refine steps_cons (fun a w hk hn => ?_) ?_
      · have h63 : a.eval (.tmp 63) = .bool false := hn.1
        have h61 : a.eval (.tmp 61) = .bool false := hn.2.1
        clear hn
        refine wants_guard (d := 61) rfl rfl h61 ?_
        exact grown_move (.tmp 63) rfl h63
      refine steps_cons (fun a w hk hn => ?_) ?_
      · have h14 : a.eval (.tmp 14) = .int .i64 0 := hn.1
        have h64 : a.eval (.tmp 64) = .bool false := hn.2.1
        clear hn
        exact wants_not (d := 64) rfl rfl h64 rfl
      refine steps_cons (fun a w hk hn => ?_) ?_
      · have h65 : a.eval (.tmp 65) = undef := hn.1
        have h64 : a.eval (.tmp 64) = .bool false := hn.2.1
        clear hn
        exact wants_not (d := 64) rfl rfl h64 rfl
      refine steps_cons (fun a w hk hn => ?_) ?_
      · have h66 : a.eval (.tmp 66) = undef := hn.1
        have h64 : a.eval (.tmp 64) = .bool false := hn.2.1
        clear hn
        exact wants_not (d := 64) rfl rfl h64 rfl
      refine steps_cons (fun a w hk hn => ?_) ?_
      · have h13 : a.eval (.tmp 13) = .pointer (some ⟨gt, 0, none⟩) := hn.1
        have h67 : a.eval (.tmp 67) = undef := hn.2.1
        clear hn
        exact wants_none (d := 67) rfl rfl h67 rfl
      refine steps_cons (fun a w hk hn => ?_) ?_
      · have h68 : a.eval (.tmp 68) = undef := hn.1
        have h67 : a.eval (.tmp 67) = undef := hn.2.1
        clear hn
        exact wants_none (d := 67) rfl rfl h67 rfl
      refine steps_cons (fun a w hk hn => ?_) ?_
      · have h69 : a.eval (.tmp 69) = undef := hn.1
        have h67 : a.eval (.tmp 67) = undef := hn.2.1
        clear hn
        exact wants_none (d := 67) rfl rfl h67 rfl
      refine steps_cons (fun a w hk hn => ?_) ?_
      · have h70 : a.eval (.tmp 70) = undef := hn.1
        have h67 : a.eval (.tmp 67) = undef := hn.2.1
        clear hn
        exact wants_none (d := 67) rfl rfl h67 rfl
      refine steps_cons (fun a w hk hn => ?_) ?_
      · have h67 : a.eval (.tmp 67) = undef := hn.1
        have h71 : a.eval (.tmp 71) = undef := hn.2.1
        have h64 : a.eval (.tmp 64) = .bool false := hn.2.2.1
        clear hn
        exact wants_not (d := 64) rfl rfl h64 rfl
      refine steps_cons (fun a w hk hn => ?_) ?_
      · have h64 : a.eval (.tmp 64) = .bool false := hn.1
        have h72 : a.eval (.tmp 72) = undef := hn.2.1
        have h61 : a.eval (.tmp 61) = .bool false := hn.2.2.1
        clear hn
        refine wants_guard (d := 61) rfl rfl h61 ?_
        exact grown_pick _ _ _ false rfl h64 rfl
      refine steps_cons (fun a w hk hn => ?_) ?_
      · have h61 : a.eval (.tmp 61) = .bool false := hn.1
        have h73 : a.eval (.tmp 73) = .bool false := hn.2.1
        clear hn
        refine wants_plain rfl ?_
        exact grown_pick _ _ _ false rfl h61 h73
      exact trivial
    intro W1 hkW1
    rintro _ rfl
    rintro _ rfl
    rintro _ rfl
    rintro _ rfl
    rintro _ rfl
    rintro _ rfl
    rintro _ rfl
    intro v46 h46
    rintro _ rfl
    rintro _ rfl
    rintro _ rfl
    rintro _ rfl
    rintro _ rfl
    rintro _ rfl
    rintro _ rfl
    rintro _ rfl
    rintro _ rfl
    rintro _ rfl
    rintro _ rfl
    rintro _ rfl
    rintro _ rfl
    rintro _ rfl
    rintro _ rfl
    rintro _ rfl
    rintro _ rfl
    rintro _ rfl
    rintro _ rfl
    rintro _ rfl
    rintro _ rfl
    rintro _ rfl
    rintro _ rfl
    rintro _ rfl
    rintro _ rfl
    rintro _ rfl
    rintro _ rfl
    rintro _ rfl
    refine fin_nil ?_
    simp only [Act.put, List.set_cons_zero, List.set_cons_succ, List.setIfInBounds_toArray]
    have kkW := hkW1.trans (kp_drew W1)
    have HGS2 : Hid (∀ w', Kp [] W1.drew w' → w'.heap[gs]? = some (.cells #[.int .i64 i, .slice ap np cp, .slice aq nq cq] 33 (0, 0))) := fun w' k' => unhide HGS w' (kkW.trans k')
    have HVV2 : Hid (∀ w', Kp [] W1.drew w' → SigV w' (.agg #[.int .i64 i, .slice ap np cp, .slice aq nq cq]) i (sgnP sd i d) (pthP sd i 4)) := fun w' k' => unhide HVV w' (kkW.trans k')
    have HMM2 : Hid (∀ w', Kp [] W1.drew w' → Sl w' (.slice am mm cm) ms) := fun w' k' => unhide HMM w' (kkW.trans k')
    have HSS2 : Hid (∀ w', Kp [] W1.drew w' → Sl w' (.slice ao mo co) os) := fun w' k' => unhide HSS w' (kkW.trans k')
    have HSD2 : Hid (∀ w', Kp [] W1.drew w' → Sl w' (.slice (some ⟨ga, 0, none⟩) 32 32) sd) := fun w' k' => unhide HSD w' (kkW.trans k')
    have HOW2 : Hid (∀ w', Kp [] W1.drew w' → Ow w' bs1 g1 sd 5) := fun w' k' => unhide HOW w' (kkW.trans k')
    have HGL2 : Hid (∀ w', Kp [] W1.drew w' → Gl w') := fun w' k' => unhide HGL w' (kkW.trans k')
    have HKW := hide ((unhide HK6).trans kkW)
    clear kkW HGS HVV HMM HSS HSD HOW HGL HCT
    go_wp2_with fail
    refine region_grow Tryd.mixed [Is (.slice (some ⟨ga, 0, none⟩) 32 32), SlT (tp), Is (.string ST), Is (.pointer (some ⟨g1, 0, none⟩)), SlT (tp), Is (.string ST), Is (.bool true), Is (.bool true), Is (.pointer (some ⟨g1, 0, none⟩)), SlT (tp), Is (.slice am mm cm), Is (.agg #[.int .i64 i, .slice ap np cp, .slice aq nq cq]), Is (.bool true), Is (.bool true), Is (.bool true), Is (.pointer (some ⟨g1, 0, none⟩)), SlT (tp), Is (.slice ao mo co), Is (.agg #[.int .i64 i, .slice ap np cp, .slice aq nq cq]), Is (.bool true), Is (.bool true), Is (.bool true), Is (.slice ao mo co), Is (.slice am mm cm), Is (.agg #[.int .i64 i, .slice ap np cp, .slice aq nq cq]), Is (.bool true), Is (.bool true), Is (.bool true), Is (.bool true), Is (.bool true), Is (.bool true)] [[(0, none)], [(75, some 0)], [(76, some 1)], [(9, none)], [(78, some 3)], [(79, some 4)], [(77, some 2), (80, some 5)], [(81, some 6)], [(9, none), (82, some 7)], [(83, some 8), (82, some 7)], [(2, none), (82, some 7)], [(11, none), (82, some 7)], [(84, some 9), (85, some 10), (86, some 11), (82, some 7)], [(82, some 7), (87, some 12)], [(88, some 13)], [(9, none), (89, some 14)], [(90, some 15), (89, some 14)], [(3, none), (89, some 14)], [(11, none), (89, some 14)], [(91, some 16), (92, some 17), (93, some 18), (89, some 14)], [(89, some 14), (94, some 19)], [(95, some 20)], [(3, none), (96, some 21)], [(2, none), (96, some 21)], [(11, none), (96, some 21)], [(97, some 22), (98, some 23), (99, some 24), (96, some 21)], [(96, some 21), (100, some 25)], [(101, some 26)], [(102, some 27)], [(102, some 27), (103, some 28)], [(104, some 29)]] (by kernel_rfl) ?_ ?_ ?_
    · simp only [List.mem_cons, List.not_mem_nil, or_false]
      intro R hR
      rcases hR with rfl | rfl | rfl | rfl | rfl | rfl | rfl | rfl | rfl | rfl | rfl | rfl | rfl | rfl | rfl | rfl | rfl | rfl | rfl | rfl | rfl | rfl | rfl | rfl | rfl | rfl | rfl | rfl | rfl | rfl | rfl <;> first | exact stable_is _ | exact stable_sl _
    · refine steps_cons (fun a w hk hn => ?_) ?_
      · have h0 : a.eval (.tmp 0) = .slice (some ⟨ga, 0, none⟩) 32 32 := hn.1
        clear hn
        refine wants_plain rfl ?_
        exact grown_move (.tmp 0) rfl h0
      refine steps_cons (fun a w hk hn => ?_) ?_
      · have h75 : a.eval (.tmp 75) = .slice (some ⟨ga, 0, none⟩) 32 32 := hn.1
        clear hn
        refine wants_plain rfl ?_
        refine grown_call (f := 11) rfl Tryd.func11 (by kernel_rfl) (by kernel_rfl) ?_
        simp only [List.map_toArray, List.map_cons, List.map_nil, h75]
        refine (spublic_any _ sd tp (unhide HTP) w (unhide HSD2 w hk) (unhide HSB) (unhide HSL) (unhide HGL2 w hk)).mono ?_
        rintro e w' ⟨ao, m, c, rfl, R, K⟩
        exact ⟨_, rfl, K, R⟩
      refine steps_cons (fun a w hk hn => ?_) ?_
      · have h76 : Sl w (a.eval (.tmp 76)) (tp) := hn.1
        clear hn
        refine wants_plain rfl ?_
        exact grown_conv (.tmp 76) _ _ 5 _ rfl h76 Tryd.underlying24 Tryd.underlying5 Tryd.underlying9 (congrArg Value.string (unhide HST).symm)
      refine steps_cons (fun a w hk hn => ?_) ?_
      · have h9 : a.eval (.tmp 9) = .pointer (some ⟨g1, 0, none⟩) := hn.1
        clear hn
        refine wants_plain rfl ?_
        exact grown_move (.tmp 9) rfl h9
      refine steps_cons (fun a w hk hn => ?_) ?_
      · have h78 : a.eval (.tmp 78) = .pointer (some ⟨g1, 0, none⟩) := hn.1
        clear hn
        refine wants_plain rfl ?_
        refine grown_call (f := 12) rfl Tryd.func12 (by kernel_rfl) (by kernel_rfl) ?_
        simp only [List.map_toArray, List.map_cons, List.map_nil, h78]
        refine (own_public _ bs1 sd tp (unhide HTP) w (unhide HOW2 w hk)).mono ?_
        rintro e w' ⟨ao, m, c, rfl, R, hw⟩
        subst w'
        exact ⟨_, rfl, Kp.refl _ _, R⟩
      refine steps_cons (fun a w hk hn => ?_) ?_
      · have h79 : Sl w (a.eval (.tmp 79)) (tp) := hn.1
        clear hn
        refine wants_plain rfl ?_
        exact grown_conv (.tmp 79) _ _ 5 _ rfl h79 Tryd.underlying24 Tryd.underlying5 Tryd.underlying9 (congrArg Value.string (unhide HST).symm)
      refine steps_cons (fun a w hk hn => ?_) ?_
      · have h77 : a.eval (.tmp 77) = .string ST := hn.1
        have h80 : a.eval (.tmp 80) = .string ST := hn.2.1
        clear hn
        refine wants_plain rfl ?_
        refine grown_run (v := .bool true) ?_ (Kp.refl _ _) rfl
        obtain ⟨ρ, hρ, hc, hf, hg⟩ := eval_is a
        rw [hρ] at h77 h80 ⊢
        simp [go_sem, h77, h80]
      refine steps_cons (fun a w hk hn => ?_) ?_
      · have h81 : a.eval (.tmp 81) = .bool true := hn.1
        clear hn
        refine wants_plain rfl ?_
        exact grown_move (.tmp 81) rfl h81
      refine steps_cons (fun a w hk hn => ?_) ?_
      · have h9 : a.eval (.tmp 9) = .pointer (some ⟨g1, 0, none⟩) := hn.1
        have h82 : a.eval (.tmp 82) = .bool true := hn.2.1
        clear hn
        refine wants_guard (d := 82) rfl rfl h82 ?_
        exact grown_move (.tmp 9) rfl h9
      refine steps_cons (fun a w hk hn => ?_) ?_
      · have h83 : a.eval (.tmp 83) = .pointer (some ⟨g1, 0, none⟩) := hn.1
        have h82 : a.eval (.tmp 82) = .bool true := hn.2.1
        clear hn
        refine wants_guard (d := 82) rfl rfl h82 ?_
        refine grown_call (f := 12) rfl Tryd.func12 (by kernel_rfl) (by kernel_rfl) ?_
        simp only [List.map_toArray, List.map_cons, List.map_nil, h83]
        refine (own_public _ bs1 sd tp (unhide HTP) w (unhide HOW2 w hk)).mono ?_
        rintro e w' ⟨ao, m, c, rfl, R, hw⟩
        subst w'
        exact ⟨_, rfl, Kp.refl _ _, R⟩
      refine steps_cons (fun a w hk hn => ?_) ?_
      · have h2 : a.eval (.tmp 2) = .slice am mm cm := hn.1
        have h82 : a.eval (.tmp 82) = .bool true := hn.2.1
        clear hn
        refine wants_guard (d := 82) rfl rfl h82 ?_
        exact grown_move (.tmp 2) rfl h2
      refine steps_cons (fun a w hk hn => ?_) ?_
      · have h11 : a.eval (.tmp 11) = .pointer (some ⟨gs, 0, none⟩) := hn.1
        have h82 : a.eval (.tmp 82) = .bool true := hn.2.1
        clear hn
        refine wants_guard (d := 82) rfl rfl h82 ?_
        exact grown_loadsig (.tmp 11) rfl gs _ _ _ _ h11 (unhide HGS2 w hk) rfl
      refine steps_cons (fun a w hk hn => ?_) ?_
      · have h84 : Sl w (a.eval (.tmp 84)) (tp) := hn.1
        have h85 : a.eval (.tmp 85) = .slice am mm cm := hn.2.1
        have h86 : a.eval (.tmp 86) = .agg #[.int .i64 i, .slice ap np cp, .slice aq nq cq] := hn.2.2.1
        have h82 : a.eval (.tmp 82) = .bool true := hn.2.2.2.1
        clear hn
        refine wants_guard (d := 82) rfl rfl h82 ?_
        refine grown_call (f := 17) rfl Tryd.func17 (by kernel_rfl) (by kernel_rfl) ?_
        simp only [List.map_toArray, List.map_cons, List.map_nil, h85, h86]
        refine (lsame_any _ tp _ ms _ i _ _ w h84 (unhide HTB) (unhide HMM2 w hk) (unhide HBm) (by omega) (unhide HVV2 w hk) (unhide HIB) (unhide HGL2 w hk)).mono ?_
        rintro e w' ⟨rfl, K⟩
        exact ⟨_, rfl, K, rfl⟩
      refine steps_cons (fun a w hk hn => ?_) ?_
      · have h82 : a.eval (.tmp 82) = .bool true := hn.1
        have h87 : a.eval (.tmp 87) = .bool true := hn.2.1
        clear hn
        refine wants_plain rfl ?_
        exact grown_pick _ _ _ true rfl h82 h87
      refine steps_cons (fun a w hk hn => ?_) ?_
      · have h88 : a.eval (.tmp 88) = .bool true := hn.1
        clear hn
        refine wants_plain rfl ?_
        exact grown_move (.tmp 88) rfl h88
      refine steps_cons (fun a w hk hn => ?_) ?_
      · have h9 : a.eval (.tmp 9) = .pointer (some ⟨g1, 0, none⟩) := hn.1
        have h89 : a.eval (.tmp 89) = .bool true := hn.2.1
        clear hn
        refine wants_guard (d := 89) rfl rfl h89 ?_
        exact grown_move (.tmp 9) rfl h9
      refine steps_cons (fun a w hk hn => ?_) ?_
      · have h90 : a.eval (.tmp 90) = .pointer (some ⟨g1, 0, none⟩) := hn.1
        have h89 : a.eval (.tmp 89) = .bool true := hn.2.1
        clear hn
        refine wants_guard (d := 89) rfl rfl h89 ?_
        refine grown_call (f := 12) rfl Tryd.func12 (by kernel_rfl) (by kernel_rfl) ?_
        simp only [List.map_toArray, List.map_cons, List.map_nil, h90]
        refine (own_public _ bs1 sd tp (unhide HTP) w (unhide HOW2 w hk)).mono ?_
        rintro e w' ⟨ao, m, c, rfl, R, hw⟩
        subst w'
        exact ⟨_, rfl, Kp.refl _ _, R⟩
      refine steps_cons (fun a w hk hn => ?_) ?_
      · have h3 : a.eval (.tmp 3) = .slice ao mo co := hn.1
        have h89 : a.eval (.tmp 89) = .bool true := hn.2.1
        clear hn
        refine wants_guard (d := 89) rfl rfl h89 ?_
        exact grown_move (.tmp 3) rfl h3
      refine steps_cons (fun a w hk hn => ?_) ?_
      · have h11 : a.eval (.tmp 11) = .pointer (some ⟨gs, 0, none⟩) := hn.1
        have h89 : a.eval (.tmp 89) = .bool true := hn.2.1
        clear hn
        refine wants_guard (d := 89) rfl rfl h89 ?_
        exact grown_loadsig (.tmp 11) rfl gs _ _ _ _ h11 (unhide HGS2 w hk) rfl
      refine steps_cons (fun a w hk hn => ?_) ?_
      · have h91 : Sl w (a.eval (.tmp 91)) (tp) := hn.1
        have h92 : a.eval (.tmp 92) = .slice ao mo co := hn.2.1
        have h93 : a.eval (.tmp 93) = .agg #[.int .i64 i, .slice ap np cp, .slice aq nq cq] := hn.2.2.1
        have h89 : a.eval (.tmp 89) = .bool true := hn.2.2.2.1
        clear hn
        refine wants_guard (d := 89) rfl rfl h89 ?_
        refine grown_call (f := 17) rfl Tryd.func17 (by kernel_rfl) (by kernel_rfl) ?_
        simp only [List.map_toArray, List.map_cons, List.map_nil, h92, h93]
        refine (lsame_any _ tp _ os _ i _ _ w h91 (unhide HTB) (unhide HSS2 w hk) (unhide HBo) (by omega) (unhide HVV2 w hk) (unhide HIB) (unhide HGL2 w hk)).mono ?_
        rintro e w' ⟨rfl, K⟩
        exact ⟨_, rfl, K, rfl⟩
      refine steps_cons (fun a w hk hn => ?_) ?_
      · have h89 : a.eval (.tmp 89) = .bool true := hn.1
        have h94 : a.eval (.tmp 94) = .bool true := hn.2.1
        clear hn
        refine wants_plain rfl ?_
        exact grown_pick _ _ _ true rfl h89 h94
      refine steps_cons (fun a w hk hn => ?_) ?_
      · have h95 : a.eval (.tmp 95) = .bool true := hn.1
        clear hn
        refine wants_plain rfl ?_
        exact grown_move (.tmp 95) rfl h95
      refine steps_cons (fun a w hk hn => ?_) ?_
      · have h3 : a.eval (.tmp 3) = .slice ao mo co := hn.1
        have h96 : a.eval (.tmp 96) = .bool true := hn.2.1
        clear hn
        refine wants_guard (d := 96) rfl rfl h96 ?_
        exact grown_move (.tmp 3) rfl h3
      refine steps_cons (fun a w hk hn => ?_) ?_
      · have h2 : a.eval (.tmp 2) = .slice am mm cm := hn.1
        have h96 : a.eval (.tmp 96) = .bool true := hn.2.1
        clear hn
        refine wants_guard (d := 96) rfl rfl h96 ?_
        exact grown_move (.tmp 2) rfl h2
      refine steps_cons (fun a w hk hn => ?_) ?_
      · have h11 : a.eval (.tmp 11) = .pointer (some ⟨gs, 0, none⟩) := hn.1
        have h96 : a.eval (.tmp 96) = .bool true := hn.2.1
        clear hn
        refine wants_guard (d := 96) rfl rfl h96 ?_
        exact grown_loadsig (.tmp 11) rfl gs _ _ _ _ h11 (unhide HGS2 w hk) rfl
      refine steps_cons (fun a w hk hn => ?_) ?_
      · have h97 : a.eval (.tmp 97) = .slice ao mo co := hn.1
        have h98 : a.eval (.tmp 98) = .slice am mm cm := hn.2.1
        have h99 : a.eval (.tmp 99) = .agg #[.int .i64 i, .slice ap np cp, .slice aq nq cq] := hn.2.2.1
        have h96 : a.eval (.tmp 96) = .bool true := hn.2.2.2.1
        clear hn
        refine wants_guard (d := 96) rfl rfl h96 ?_
        refine grown_call (f := 17) rfl Tryd.func17 (by kernel_rfl) (by kernel_rfl) ?_
        simp only [List.map_toArray, List.map_cons, List.map_nil, h97, h98, h99]
        refine (lsame_any _ os _ ms _ i _ _ w (unhide HSS2 w hk) (unhide HBo) (unhide HMM2 w hk) (unhide HBm) (by omega) (unhide HVV2 w hk) (unhide HIB) (unhide HGL2 w hk)).mono ?_
        rintro e w' ⟨rfl, K⟩
        exact ⟨_, rfl, K, rfl⟩
      refine steps_cons (fun a w hk hn => ?_) ?_
      · have h96 : a.eval (.tmp 96) = .bool true := hn.1
        have h100 : a.eval (.tmp 100) = .bool true := hn.2.1
        clear hn
        refine wants_plain rfl ?_
        exact grown_pick _ _ _ true rfl h96 h100
      refine steps_cons (fun a w hk hn => ?_) ?_
      · have h101 : a.eval (.tmp 101) = .bool true := hn.1
        clear hn
        refine wants_plain rfl ?_
        exact grown_move (.tmp 101) rfl h101
      refine steps_cons (fun a w hk hn => ?_) ?_
      · have h102 : a.eval (.tmp 102) = .bool true := hn.1
        clear hn
        refine wants_guard (d := 102) rfl rfl h102 ?_
        refine grown_call (f := 20) rfl Tryd.func20 (by kernel_rfl) (by kernel_rfl) ?_
        simp only [List.map_toArray, List.map_nil]
        refine (sknown_any w (unhide HGL2 w hk)).mono ?_
        rintro e w' ⟨rfl, K⟩
        exact ⟨_, rfl, K, rfl⟩
      refine steps_cons (fun a w hk hn => ?_) ?_
      · have h102 : a.eval (.tmp 102) = .bool true := hn.1
        have h103 : a.eval (.tmp 103) = .bool true := hn.2.1
        clear hn
        refine wants_plain rfl ?_
        exact grown_pick _ _ _ true rfl h102 h103
      refine steps_cons (fun a w hk hn => ?_) ?_
      · have h104 : a.eval (.tmp 104) = .bool true := hn.1
        clear hn
        refine wants_plain rfl ?_
        exact grown_assign (.tmp 104) rfl h104
      exact trivial
    intro W2 hkW2
    rintro _ rfl
    intro v76 h76
    rintro _ rfl
    rintro _ rfl
    intro v79 h79
    rintro _ rfl
    rintro _ rfl
    rintro _ rfl
    rintro _ rfl
    intro v84 h84
    rintro _ rfl
    rintro _ rfl
    rintro _ rfl
    rintro _ rfl
    rintro _ rfl
    rintro _ rfl
    intro v91 h91
    rintro _ rfl
    rintro _ rfl
    rintro _ rfl
    rintro _ rfl
    rintro _ rfl
    rintro _ rfl
    rintro _ rfl
    rintro _ rfl
    rintro _ rfl
    rintro _ rfl
    rintro _ rfl
    rintro _ rfl
    rintro _ rfl
    rintro _ rfl
    refine fin_nil ?_
    simp only [Act.put, List.set_cons_zero, List.set_cons_succ, List.setIfInBounds_toArray]
    go_wp2_with fail
    go_ret
    exact ⟨rfl, ((unhide HKW).trans hkW2).below (Nat.le_refl _) (by simp)⟩
  · rcases (by omega : ix < 0 ∨ 16 ≤ ix) with hneg | hbig
    · have hge : ¬ 0 ≤ ix := by omega
      have HC := hide (ssign_used (.slice (some ⟨ga, 0, none⟩) 32 32) sd ix (.slice am mm cm) w4 ((unhide HS1).kept (unhide HK14) (by simp)) (unhide HSL) hin)
      clear hin
      go_wp2_with fail
      refine (unhide HC).mono ?_
      rintro ee w5 ⟨rfl, K5⟩
      have HK45 := hide K5
      clear K5 HC
      have Ga := heap_alloc_new w5 (.cells #[.int .i64 0, .slice none 0 0, .slice none 0 0] 33)
      go_wp2_with (refine wpList_store_sig rfl (.tmp 13) (.tmp 37) rfl w5.heap.size rfl _ _ _ _ _ _ Ga rfl ⟨rfl, rfl, rfl⟩ ?_; intro w6 G6 K6)
      have Kb : Kp [] w5 w6 := ((Kp.refl [] w5).alloc (.cells #[.int .i64 0, .slice none 0 0, .slice none 0 0] 33)).then K6 (by simp)
      obtain ⟨gt, hgt⟩ : ∃ g, g = w5.heap.size := ⟨_, rfl⟩
      rw [← hgt] at G6 ⊢
      have K46 : Kp [] w4 w6.drew := ((unhide HK45).trans Kb).trans (kp_drew w6)
      have HGS : Hid (∀ w', Kp [] w6.drew w' → w'.heap[gs]? = some (.cells #[.int .i64 i, .slice ap np cp, .slice aq nq cq] 33 (0, 0))) := fun w' k' => (K46.trans k').heap (unhide HG4) (by simp)
      have HVV : Hid (∀ w', Kp [] w6.drew w' → SigV w' (.agg #[.int .i64 i, .slice ap np cp, .slice aq nq cq]) i (sgnP sd i d) (pthP sd i 4)) := fun w' k' => (unhide HV3).kept ((unhide HK34).trans (K46.trans k'))
      have HMM : Hid (∀ w', Kp [] w6.drew w' → Sl w' (.slice am mm cm) ms) := fun w' k' => (unhide HM1).kept ((unhide HK14).trans (K46.trans k')) (by simp)
      have HSS : Hid (∀ w', Kp [] w6.drew w' → Sl w' (.slice ao mo co) os) := fun w' k' => (unhide HO1).kept ((unhide HK14).trans (K46.trans k')) (by simp)
      have HSD : Hid (∀ w', Kp [] w6.drew w' → Sl w' (.slice (some ⟨ga, 0, none⟩) 32 32) sd) := fun w' k' => (unhide HS1).kept ((unhide HK14).trans (K46.trans k')) (by simp)
      have HOW : Hid (∀ w', Kp [] w6.drew w' → Ow w' bs1 g1 sd 5) := fun w' k' => (unhide HO2).kept ((unhide HK23).trans ((unhide HK34).trans (K46.trans k')))
      have HGL : Hid (∀ w', Kp [] w6.drew w' → Gl w') := fun w' k' => (unhide HG).kept ((unhide HK1).trans ((unhide HK14).trans (K46.trans k'))) (by simp)
      have HCT : Hid (∀ w', Kp [] w6.drew w' → w'.cell? ⟨gt, 1, none⟩ = some (.slice none 0 0)) := fun w' k' => by rw [cell_of_row w' gt 1 _ _ _ (((kp_drew w6).trans k').heap G6 (by simp))]; rfl
      have HK6 := hide ((unhide HK1).trans ((unhide HK14).trans K46))
      clear Ga K6 G6 Kb K46 hgt
      go_wp2_with fail
      refine region_grow Tryd.mixed [Is (.int .i64 0), Is (.bool false), Is (.bool false), Is (.agg #[.int .i64 i, .slice ap np cp, .slice aq nq cq]), Is (.pointer (some ⟨g1, 0, none⟩)), Is (.int .i64 i), Is (.slice am mm cm), SigT i (sgnP sd i d) (pthP sd i 4), Is (.bool true), Is (.bool false), Is (.bool false), Is (.bool false), Is (.int .i64 23), Is (.bool false), Is (.int .i64 ix), Is (.bool false), Is (.bool false), Is (undef), Is (undef), Is (.bool false), Is (.bool false), Is (.bool false), Is (.bool false), Is (.int .i64 23), Is (.bool true), Is (.bool true), Is (.int .i64 23), Is (.bool false), Is (.bool false), Is (.pointer (some ⟨gt, 1, none⟩)), Is (.slice none 0 0), Is (.int .i64 0), Is (.bool false), Is (.bool false), Is (.bool false), Is (.bool false)] [[(12, none)], [(39, some 0)], [(40, some 1)], [(11, none), (41, some 2)], [(9, none), (41, some 2)], [(10, none), (41, some 2)], [(2, none), (41, some 2)], [(43, some 4), (44, some 5), (45, some 6), (41, some 2)], [(42, some 3), (46, some 7), (41, some 2)], [(47, some 8), (41, some 2)], [(41, some 2), (48, some 9)], [(49, some 10)], [(14, none), (50, some 11)], [(51, some 12), (50, some 11)], [(1, none), (50, some 11)], [(53, some 14), (50, some 11)], [(54, some 15), (50, some 11)], [(1, none), (55, some 16)], [(56, some 17), (55, some 16)], [(55, some 16), (57, some 18), (50, some 11)], [(52, some 13), (58, some 19), (50, some 11)], [(50, some 11), (59, some 20)], [(60, some 21)], [(14, none), (61, some 22)], [(62, some 23), (61, some 22)], [(63, some 24), (61, some 22)], [(14, none), (64, some 25)], [(65, some 26), (64, some 25)], [(66, some 27), (64, some 25)], [(13, none), (67, some 28)], [(68, some 29), (67, some 28)], [(69, some 30), (67, some 28)], [(70, some 31), (67, some 28)], [(67, some 28), (71, some 32), (64, some 25)], [(64, some 25), (72, some 33), (61, some 22)], [(61, some 22), (73, some 34)]] (by kernel_rfl) ?_ ?_ ?_
      · simp only [List.mem_cons, List.not_mem_nil, or_false]
        intro R hR
        rcases hR with rfl | rfl | rfl | rfl | rfl | rfl | rfl | rfl | rfl | rfl | rfl | rfl | rfl | rfl | rfl | rfl | rfl | rfl | rfl | rfl | rfl | rfl | rfl | rfl | rfl | rfl | rfl | rfl | rfl | rfl | rfl | rfl | rfl | rfl | rfl | rfl <;> first | exact stable_is _ | exact stable_sig _ _ _
      · refine steps_cons (fun a w hk hn => ?_) ?_
        · have h12 : a.eval (.tmp 12) = .int .i64 0 := hn.1
          clear hn
          refine wants_plain rfl ?_
          exact grown_move (.tmp 12) rfl h12
        refine steps_cons (fun a w hk hn => ?_) ?_
        · have h39 : a.eval (.tmp 39) = .int .i64 0 := hn.1
          clear hn
          refine wants_plain rfl ?_
          refine grown_run (v := .bool false) ?_ (Kp.refl _ _) rfl
          obtain ⟨ρ, hρ, hc, hf, hg⟩ := eval_is a
          rw [hρ] at h39 ⊢
          simp [go_sem, hc, h39]
        refine steps_cons (fun a w hk hn => ?_) ?_
        · have h40 : a.eval (.tmp 40) = .bool false := hn.1
          clear hn
          refine wants_plain rfl ?_
          exact grown_move (.tmp 40) rfl h40
        refine steps_cons (fun a w hk hn => ?_) ?_
        · have h11 : a.eval (.tmp 11) = .pointer (some ⟨gs, 0, none⟩) := hn.1
          have h41 : a.eval (.tmp 41) = .bool false := hn.2.1
          clear hn
          refine wants_guard (d := 41) rfl rfl h41 ?_
          exact grown_loadsig (.tmp 11) rfl gs _ _ _ _ h11 (unhide HGS w hk) rfl
        refine steps_cons (fun a w hk hn => ?_) ?_
        · have h9 : a.eval (.tmp 9) = .pointer (some ⟨g1, 0, none⟩) := hn.1
          have h41 : a.eval (.tmp 41) = .bool false := hn.2.1
          clear hn
          refine wants_guard (d := 41) rfl rfl h41 ?_
          exact grown_move (.tmp 9) rfl h9
        refine steps_cons (fun a w hk hn => ?_) ?_
        · have h10 : a.eval (.tmp 10) = .int .i64 i := hn.1
          have h41 : a.eval (.tmp 41) = .bool false := hn.2.1
          clear hn
          refine wants_guard (d := 41) rfl rfl h41 ?_
          exact grown_move (.tmp 10) rfl h10
        refine steps_cons (fun a w hk hn => ?_) ?_
        · have h2 : a.eval (.tmp 2) = .slice am mm cm := hn.1
          have h41 : a.eval (.tmp 41) = .bool false := hn.2.1
          clear hn
          refine wants_guard (d := 41) rfl rfl h41 ?_
          exact grown_move (.tmp 2) rfl h2
        refine steps_cons (fun a w hk hn => ?_) ?_
        · have h43 : a.eval (.tmp 43) = .pointer (some ⟨g1, 0, none⟩) := hn.1
          have h44 : a.eval (.tmp 44) = .int .i64 i := hn.2.1
          have h45 : a.eval (.tmp 45) = .slice am mm cm := hn.2.2.1
          have h41 : a.eval (.tmp 41) = .bool false := hn.2.2.2.1
          clear hn
          refine wants_guard (d := 41) rfl rfl h41 ?_
          refine grown_call (f := 15) rfl Tryd.func15 (by kernel_rfl) (by kernel_rfl) ?_
          simp only [List.map_toArray, List.map_cons, List.map_nil, h43, h44, h45]
          refine (own_sign _ bs1 sd i _ ms d (unhide HD) w (unhide HOW w hk) (unhide HSB) (unhide HSL) hi16 (unhide HMM w hk) (unhide HBm) (by omega)).mono ?_
          rintro e w' ⟨v, rfl, V, K⟩
          exact ⟨_, rfl, K, V⟩
        refine steps_cons (fun a w hk hn => ?_) ?_
        · have h42 : a.eval (.tmp 42) = .agg #[.int .i64 i, .slice ap np cp, .slice aq nq cq] := hn.1
          have h46 : (SigT i (sgnP sd i d) (pthP sd i 4)) (a.eval (.tmp 46)) w := hn.2.1
          have h41 : a.eval (.tmp 41) = .bool false := hn.2.2.1
          clear hn
          refine wants_guard (d := 41) rfl rfl h41 ?_
          refine grown_call (f := 14) rfl Tryd.func14 (by kernel_rfl) (by kernel_rfl) ?_
          simp only [List.map_toArray, List.map_cons, List.map_nil, h42]
          refine (refsame_any _ _ i _ _ w (unhide HVV w hk) h46).mono ?_
          rintro e w' ⟨rfl, K⟩
          exact ⟨_, rfl, K, rfl⟩
        refine steps_cons (fun a w hk hn => ?_) ?_
        · have h47 : a.eval (.tmp 47) = .bool true := hn.1
          have h41 : a.eval (.tmp 41) = .bool false := hn.2.1
          clear hn
          refine wants_guard (d := 41) rfl rfl h41 ?_
          refine grown_run (v := .bool false) ?_ (Kp.refl _ _) rfl
          obtain ⟨ρ, hρ, hc, hf, hg⟩ := eval_is a
          rw [hρ] at h47 ⊢
          simp [go_sem, h47]
        refine steps_cons (fun a w hk hn => ?_) ?_
        · have h41 : a.eval (.tmp 41) = .bool false := hn.1
          have h48 : a.eval (.tmp 48) = .bool false := hn.2.1
          clear hn
          refine wants_plain rfl ?_
          exact grown_pick _ _ _ false rfl h41 h48
        refine steps_cons (fun a w hk hn => ?_) ?_
        · have h49 : a.eval (.tmp 49) = .bool false := hn.1
          clear hn
          refine wants_plain rfl ?_
          exact grown_move (.tmp 49) rfl h49
        refine steps_cons (fun a w hk hn => ?_) ?_
        · have h14 : a.eval (.tmp 14) = .int .i64 23 := hn.1
          have h50 : a.eval (.tmp 50) = .bool false := hn.2.1
          clear hn
          refine wants_guard (d := 50) rfl rfl h50 ?_
          exact grown_move (.tmp 14) rfl h14
        refine steps_cons (fun a w hk hn => ?_) ?_
        · have h51 : a.eval (.tmp 51) = .int .i64 23 := hn.1
          have h50 : a.eval (.tmp 50) = .bool false := hn.2.1
          clear hn
          refine wants_guard (d := 50) rfl rfl h50 ?_
          refine grown_run (v := .bool false) ?_ (Kp.refl _ _) rfl
          obtain ⟨ρ, hρ, hc, hf, hg⟩ := eval_is a
          rw [hρ] at h51 ⊢
          simp [go_sem, hc, h51]
        refine steps_cons (fun a w hk hn => ?_) ?_
        · have h1 : a.eval (.tmp 1) = .int .i64 ix := hn.1
          have h50 : a.eval (.tmp 50) = .bool false := hn.2.1
          clear hn
          refine wants_guard (d := 50) rfl rfl h50 ?_
          exact grown_move (.tmp 1) rfl h1
        refine steps_cons (fun a w hk hn => ?_) ?_
        · have h53 : a.eval (.tmp 53) = .int .i64 ix := hn.1
          have h50 : a.eval (.tmp 50) = .bool false := hn.2.1
          clear hn
          refine wants_guard (d := 50) rfl rfl h50 ?_
          refine grown_run (v := .bool false) ?_ (Kp.refl _ _) rfl
          obtain ⟨ρ, hρ, hc, hf, hg⟩ := eval_is a
          rw [hρ] at h53 ⊢
          simp [go_sem, hc, h53, hge]
        refine steps_cons (fun a w hk hn => ?_) ?_
        · have h54 : a.eval (.tmp 54) = .bool false := hn.1
          have h50 : a.eval (.tmp 50) = .bool false := hn.2.1
          clear hn
          refine wants_guard (d := 50) rfl rfl h50 ?_
          exact grown_move (.tmp 54) rfl h54
        refine steps_cons (fun a w hk hn => ?_) ?_
        · have h1 : a.eval (.tmp 1) = .int .i64 ix := hn.1
          have h55 : a.eval (.tmp 55) = .bool false := hn.2.1
          clear hn
          exact wants_not (d := 55) rfl rfl h55 rfl
        refine steps_cons (fun a w hk hn => ?_) ?_
        · have h56 : a.eval (.tmp 56) = undef := hn.1
          have h55 : a.eval (.tmp 55) = .bool false := hn.2.1
          clear hn
          exact wants_not (d := 55) rfl rfl h55 rfl
        refine steps_cons (fun a w hk hn => ?_) ?_
        · have h55 : a.eval (.tmp 55) = .bool false := hn.1
          have h57 : a.eval (.tmp 57) = undef := hn.2.1
          have h50 : a.eval (.tmp 50) = .bool false := hn.2.2.1
          clear hn
          refine wants_guard (d := 50) rfl rfl h50 ?_
          exact grown_pick _ _ _ false rfl h55 rfl
        refine steps_cons (fun a w hk hn => ?_) ?_
        · have h52 : a.eval (.tmp 52) = .bool false := hn.1
          have h58 : a.eval (.tmp 58) = .bool false := hn.2.1
          have h50 : a.eval (.tmp 50) = .bool false := hn.2.2.1
          clear hn
          refine wants_guard (d := 50) rfl rfl h50 ?_
          refine grown_run (v := .bool false) ?_ (Kp.refl _ _) rfl
          obtain ⟨ρ, hρ, hc, hf, hg⟩ := eval_is a
          rw [hρ] at h52 h58 ⊢
          simp [go_sem, h52, h58]
        refine steps_cons (fun a w hk hn => ?_) ?_
        · have h50 : a.eval (.tmp 50) = .bool false := hn.1
          have h59 : a.eval (.tmp 59) = .bool false := hn.2.1
          clear hn
          refine wants_plain rfl ?_
          exact grown_pick _ _ _ false rfl h50 h59
        refine steps_cons (fun a w hk hn => ?_) ?_
        · have h60 : a.eval (.tmp 60) = .bool false := hn.1
          clear hn
          refine wants_plain rfl ?_
          exact grown_move (.tmp 60) rfl h60
        refine steps_cons (fun a w hk hn => ?_) ?_
        · have h14 : a.eval (.tmp 14) = .int .i64 23 := hn.1
          have h61 : a.eval (.tmp 61) = .bool false := hn.2.1
          clear hn
          refine wants_guard (d := 61) rfl rfl h61 ?_
          exact grown_move (.tmp 14) rfl h14
        refine steps_cons (fun a w hk hn => ?_) ?_
        · have h62 : a.eval (.tmp 62) = .int .i64 23 := hn.1
          have h61 : a.eval (.tmp 61) = .bool false := hn.2.1
          clear hn
          refine wants_guard (d := 61) rfl rfl h61 ?_
          refine grown_run (v := .bool true) ?_ (Kp.refl _ _) rfl
          obtain ⟨ρ, hρ, hc, hf, hg⟩ := eval_is a
          rw [hρ] at h62 ⊢
          simp [go_sem, hc, h62]
        refine steps_cons (fun a w hk hn => ?_) ?_
        · have h63 : a.eval (.tmp 63) = .bool true := hn.1
          have h61 : a.eval (.tmp 61) = .bool false := hn.2.1
          clear hn
          refine wants_guard (d := 61) rfl rfl h61 ?_
          exact grown_move (.tmp 63) rfl h63
        refine steps_cons (fun a w hk hn => ?_) ?_
        · have h14 : a.eval (.tmp 14) = .int .i64 23 := hn.1
          have h64 : a.eval (.tmp 64) = .bool true := hn.2.1
          clear hn
          refine wants_guard (d := 64) rfl rfl h64 ?_
          exact grown_move (.tmp 14) rfl h14
        refine steps_cons (fun a w hk hn => ?_) ?_
        · have h65 : a.eval (.tmp 65) = .int .i64 23 := hn.1
          have h64 : a.eval (.tmp 64) = .bool true := hn.2.1
          clear hn
          refine wants_guard (d := 64) rfl rfl h64 ?_
          refine grown_run (v := .bool false) ?_ (Kp.refl _ _) rfl
          obtain ⟨ρ, hρ, hc, hf, hg⟩ := eval_is a
          rw [hρ] at h65 ⊢
          simp [go_sem, hc, h65]
        refine steps_cons (fun a w hk hn => ?_) ?_
        · have h66 : a.eval (.tmp 66) = .bool false := hn.1
          have h64 : a.eval (.tmp 64) = .bool true := hn.2.1
          clear hn
          refine wants_guard (d := 64) rfl rfl h64 ?_
          exact grown_move (.tmp 66) rfl h66
        refine steps_cons (fun a w hk hn => ?_) ?_
        · have h13 : a.eval (.tmp 13) = .pointer (some ⟨gt, 0, none⟩) := hn.1
          have h67 : a.eval (.tmp 67) = .bool false := hn.2.1
          clear hn
          refine wants_guard (d := 67) rfl rfl h67 ?_
          refine grown_run (v := .pointer (some ⟨gt, 1, none⟩)) ?_ (Kp.refl _ _) rfl
          obtain ⟨ρ, hρ, hc, hf, hg⟩ := eval_is a
          rw [hρ] at h13 ⊢
          simp [go_sem, h13]
        refine steps_cons (fun a w hk hn => ?_) ?_
        · have h68 : a.eval (.tmp 68) = .pointer (some ⟨gt, 1, none⟩) := hn.1
          have h67 : a.eval (.tmp 67) = .bool false := hn.2.1
          clear hn
          refine wants_guard (d := 67) rfl rfl h67 ?_
          refine grown_run (v := .slice none 0 0) ?_ (Kp.refl _ _) rfl
          have hcell := unhide HCT w hk
          obtain ⟨ρ, hρ, hc, hf, hg⟩ := eval_is a
          rw [hρ] at h68 ⊢
          simp [go_sem, h68, hcell]
        refine steps_cons (fun a w hk hn => ?_) ?_
        · have h69 : a.eval (.tmp 69) = .slice none 0 0 := hn.1
          have h67 : a.eval (.tmp 67) = .bool false := hn.2.1
          clear hn
          refine wants_guard (d := 67) rfl rfl h67 ?_
          refine grown_run (v := .int .i64 0) ?_ (Kp.refl _ _) rfl
          obtain ⟨ρ, hρ, hc, hf, hg⟩ := eval_is a
          rw [hρ] at h69 ⊢
          simp [go_sem, h69]
        refine steps_cons (fun a w hk hn => ?_) ?_
        · have h70 : a.eval (.tmp 70) = .int .i64 0 := hn.1
          have h67 : a.eval (.tmp 67) = .bool false := hn.2.1
          clear hn
          refine wants_guard (d := 67) rfl rfl h67 ?_
          refine grown_run (v := .bool false) ?_ (Kp.refl _ _) rfl
          obtain ⟨ρ, hρ, hc, hf, hg⟩ := eval_is a
          rw [hρ] at h70 ⊢
          simp [go_sem, hc, h70]
        refine steps_cons (fun a w hk hn => ?_) ?_
        · have h67 : a.eval (.tmp 67) = .bool false := hn.1
          have h71 : a.eval (.tmp 71) = .bool false := hn.2.1
          have h64 : a.eval (.tmp 64) = .bool true := hn.2.2.1
          clear hn
          refine wants_guard (d := 64) rfl rfl h64 ?_
          exact grown_pick _ _ _ false rfl h67 h71
        refine steps_cons (fun a w hk hn => ?_) ?_
        · have h64 : a.eval (.tmp 64) = .bool true := hn.1
          have h72 : a.eval (.tmp 72) = .bool false := hn.2.1
          have h61 : a.eval (.tmp 61) = .bool false := hn.2.2.1
          clear hn
          refine wants_guard (d := 61) rfl rfl h61 ?_
          exact grown_pick _ _ _ true rfl h64 h72
        refine steps_cons (fun a w hk hn => ?_) ?_
        · have h61 : a.eval (.tmp 61) = .bool false := hn.1
          have h73 : a.eval (.tmp 73) = .bool false := hn.2.1
          clear hn
          refine wants_plain rfl ?_
          exact grown_pick _ _ _ false rfl h61 h73
        exact trivial
      intro W1 hkW1
      rintro _ rfl
      rintro _ rfl
      rintro _ rfl
      rintro _ rfl
      rintro _ rfl
      rintro _ rfl
      rintro _ rfl
      intro v46 h46
      rintro _ rfl
      rintro _ rfl
      rintro _ rfl
      rintro _ rfl
      rintro _ rfl
      rintro _ rfl
      rintro _ rfl
      rintro _ rfl
      rintro _ rfl
      rintro _ rfl
      rintro _ rfl
      rintro _ rfl
      rintro _ rfl
      rintro _ rfl
      rintro _ rfl
      rintro _ rfl
      rintro _ rfl
      rintro _ rfl
      rintro _ rfl
      rintro _ rfl
      rintro _ rfl
      rintro _ rfl
      rintro _ rfl
      rintro _ rfl
      rintro _ rfl
      rintro _ rfl
      rintro _ rfl
      rintro _ rfl
      refine fin_nil ?_
      simp only [Act.put, List.set_cons_zero, List.set_cons_succ, List.setIfInBounds_toArray]
      have kkW := hkW1.trans (kp_drew W1)
      have HGS2 : Hid (∀ w', Kp [] W1.drew w' → w'.heap[gs]? = some (.cells #[.int .i64 i, .slice ap np cp, .slice aq nq cq] 33 (0, 0))) := fun w' k' => unhide HGS w' (kkW.trans k')
      have HVV2 : Hid (∀ w', Kp [] W1.drew w' → SigV w' (.agg #[.int .i64 i, .slice ap np cp, .slice aq nq cq]) i (sgnP sd i d) (pthP sd i 4)) := fun w' k' => unhide HVV w' (kkW.trans k')
      have HMM2 : Hid (∀ w', Kp [] W1.drew w' → Sl w' (.slice am mm cm) ms) := fun w' k' => unhide HMM w' (kkW.trans k')
      have HSS2 : Hid (∀ w', Kp [] W1.drew w' → Sl w' (.slice ao mo co) os) := fun w' k' => unhide HSS w' (kkW.trans k')
      have HSD2 : Hid (∀ w', Kp [] W1.drew w' → Sl w' (.slice (some ⟨ga, 0, none⟩) 32 32) sd) := fun w' k' => unhide HSD w' (kkW.trans k')
      have HOW2 : Hid (∀ w', Kp [] W1.drew w' → Ow w' bs1 g1 sd 5) := fun w' k' => unhide HOW w' (kkW.trans k')
      have HGL2 : Hid (∀ w', Kp [] W1.drew w' → Gl w') := fun w' k' => unhide HGL w' (kkW.trans k')
      have HKW := hide ((unhide HK6).trans kkW)
      clear kkW HGS HVV HMM HSS HSD HOW HGL HCT
      go_wp2_with fail
      refine region_grow Tryd.mixed [Is (.slice (some ⟨ga, 0, none⟩) 32 32), SlT (tp), Is (.string ST), Is (.pointer (some ⟨g1, 0, none⟩)), SlT (tp), Is (.string ST), Is (.bool true), Is (.bool true), Is (.pointer (some ⟨g1, 0, none⟩)), SlT (tp), Is (.slice am mm cm), Is (.agg #[.int .i64 i, .slice ap np cp, .slice aq nq cq]), Is (.bool true), Is (.bool true), Is (.bool true), Is (.pointer (some ⟨g1, 0, none⟩)), SlT (tp), Is (.slice ao mo co), Is (.agg #[.int .i64 i, .slice ap np cp, .slice aq nq cq]), Is (.bool true), Is (.bool true), Is (.bool true), Is (.slice ao mo co), Is (.slice am mm cm), Is (.agg #[.int .i64 i, .slice ap np cp, .slice aq nq cq]), Is (.bool true), Is (.bool true), Is (.bool true), Is (.bool true), Is (.bool true), Is (.bool true)] [[(0, none)], [(75, some 0)], [(76, some 1)], [(9, none)], [(78, some 3)], [(79, some 4)], [(77, some 2), (80, some 5)], [(81, some 6)], [(9, none), (82, some 7)], [(83, some 8), (82, some 7)], [(2, none), (82, some 7)], [(11, none), (82, some 7)], [(84, some 9), (85, some 10), (86, some 11), (82, some 7)], [(82, some 7), (87, some 12)], [(88, some 13)], [(9, none), (89, some 14)], [(90, some 15), (89, some 14)], [(3, none), (89, some 14)], [(11, none), (89, some 14)], [(91, some 16), (92, some 17), (93, some 18), (89, some 14)], [(89, some 14), (94, some 19)], [(95, some 20)], [(3, none), (96, some 21)], [(2, none), (96, some 21)], [(11, none), (96, some 21)], [(97, some 22), (98, some 23), (99, some 24), (96, some 21)], [(96, some 21), (100, some 25)], [(101, some 26)], [(102, some 27)], [(102, some 27), (103, some 28)], [(104, some 29)]] (by kernel_rfl) ?_ ?_ ?_
      · simp only [List.mem_cons, List.not_mem_nil, or_false]
        intro R hR
        rcases hR with rfl | rfl | rfl | rfl | rfl | rfl | rfl | rfl | rfl | rfl | rfl | rfl | rfl | rfl | rfl | rfl | rfl | rfl | rfl | rfl | rfl | rfl | rfl | rfl | rfl | rfl | rfl | rfl | rfl | rfl | rfl <;> first | exact stable_is _ | exact stable_sl _
      · refine steps_cons (fun a w hk hn => ?_) ?_
        · have h0 : a.eval (.tmp 0) = .slice (some ⟨ga, 0, none⟩) 32 32 := hn.1
          clear hn
          refine wants_plain rfl ?_
          exact grown_move (.tmp 0) rfl h0
        refine steps_cons (fun a w hk hn => ?_) ?_
        · have h75 : a.eval (.tmp 75) = .slice (some ⟨ga, 0, none⟩) 32 32 := hn.1
          clear hn
          refine wants_plain rfl ?_
          refine grown_call (f := 11) rfl Tryd.func11 (by kernel_rfl) (by kernel_rfl) ?_
          simp only [List.map_toArray, List.map_cons, List.map_nil, h75]
          refine (spublic_any _ sd tp (unhide HTP) w (unhide HSD2 w hk) (unhide HSB) (unhide HSL) (unhide HGL2 w hk)).mono ?_
          rintro e w' ⟨ao, m, c, rfl, R, K⟩
          exact ⟨_, rfl, K, R⟩
        refine steps_cons (fun a w hk hn => ?_) ?_
        · have h76 : Sl w (a.eval (.tmp 76)) (tp) := hn.1
          clear hn
          refine wants_plain rfl ?_
          exact grown_conv (.tmp 76) _ _ 5 _ rfl h76 Tryd.underlying24 Tryd.underlying5 Tryd.underlying9 (congrArg Value.string (unhide HST).symm)
        refine steps_cons (fun a w hk hn => ?_) ?_
        · have h9 : a.eval (.tmp 9) = .pointer (some ⟨g1, 0, none⟩) := hn.1
          clear hn
          refine wants_plain rfl ?_
          exact grown_move (.tmp 9) rfl h9
        refine steps_cons (fun a w hk hn => ?_) ?_
        · have h78 : a.eval (.tmp 78) = .pointer (some ⟨g1, 0, none⟩) := hn.1
          clear hn
          refine wants_plain rfl ?_
          refine grown_call (f := 12) rfl Tryd.func12 (by kernel_rfl) (by kernel_rfl) ?_
          simp only [List.map_toArray, List.map_cons, List.map_nil, h78]
          refine (own_public _ bs1 sd tp (unhide HTP) w (unhide HOW2 w hk)).mono ?_
          rintro e w' ⟨ao, m, c, rfl, R, hw⟩
          subst w'
          exact ⟨_, rfl, Kp.refl _ _, R⟩
        refine steps_cons (fun a w hk hn => ?_) ?_
        · have h79 : Sl w (a.eval (.tmp 79)) (tp) := hn.1
          clear hn
          refine wants_plain rfl ?_
          exact grown_conv (.tmp 79) _ _ 5 _ rfl h79 Tryd.underlying24 Tryd.underlying5 Tryd.underlying9 (congrArg Value.string (unhide HST).symm)
        refine steps_cons (fun a w hk hn => ?_) ?_
        · have h77 : a.eval (.tmp 77) = .string ST := hn.1
          have h80 : a.eval (.tmp 80) = .string ST := hn.2.1
          clear hn
          refine wants_plain rfl ?_
          refine grown_run (v := .bool true) ?_ (Kp.refl _ _) rfl
          obtain ⟨ρ, hρ, hc, hf, hg⟩ := eval_is a
          rw [hρ] at h77 h80 ⊢
          simp [go_sem, h77, h80]
        refine steps_cons (fun a w hk hn => ?_) ?_
        · have h81 : a.eval (.tmp 81) = .bool true := hn.1
          clear hn
          refine wants_plain rfl ?_
          exact grown_move (.tmp 81) rfl h81
        refine steps_cons (fun a w hk hn => ?_) ?_
        · have h9 : a.eval (.tmp 9) = .pointer (some ⟨g1, 0, none⟩) := hn.1
          have h82 : a.eval (.tmp 82) = .bool true := hn.2.1
          clear hn
          refine wants_guard (d := 82) rfl rfl h82 ?_
          exact grown_move (.tmp 9) rfl h9
        refine steps_cons (fun a w hk hn => ?_) ?_
        · have h83 : a.eval (.tmp 83) = .pointer (some ⟨g1, 0, none⟩) := hn.1
          have h82 : a.eval (.tmp 82) = .bool true := hn.2.1
          clear hn
          refine wants_guard (d := 82) rfl rfl h82 ?_
          refine grown_call (f := 12) rfl Tryd.func12 (by kernel_rfl) (by kernel_rfl) ?_
          simp only [List.map_toArray, List.map_cons, List.map_nil, h83]
          refine (own_public _ bs1 sd tp (unhide HTP) w (unhide HOW2 w hk)).mono ?_
          rintro e w' ⟨ao, m, c, rfl, R, hw⟩
          subst w'
          exact ⟨_, rfl, Kp.refl _ _, R⟩
        refine steps_cons (fun a w hk hn => ?_) ?_
        · have h2 : a.eval (.tmp 2) = .slice am mm cm := hn.1
          have h82 : a.eval (.tmp 82) = .bool true := hn.2.1
          clear hn
          refine wants_guard (d := 82) rfl rfl h82 ?_
          exact grown_move (.tmp 2) rfl h2
        refine steps_cons (fun a w hk hn => ?_) ?_
        · have h11 : a.eval (.tmp 11) = .pointer (some ⟨gs, 0, none⟩) := hn.1
          have h82 : a.eval (.tmp 82) = .bool true := hn.2.1
          clear hn
          refine wants_guard (d := 82) rfl rfl h82 ?_
          exact grown_loadsig (.tmp 11) rfl gs _ _ _ _ h11 (unhide HGS2 w hk) rfl
        refine steps_cons (fun a w hk hn => ?_) ?_
        · have h84 : Sl w (a.eval (.tmp 84)) (tp) := hn.1
          have h85 : a.eval (.tmp 85) = .slice am mm cm := hn.2.1
          have h86 : a.eval (.tmp 86) = .agg #[.int .i64 i, .slice ap np cp, .slice aq nq cq] := hn.2.2.1
          have h82 : a.eval (.tmp 82) = .bool true := hn.2.2.2.1
          clear hn
          refine wants_guard (d := 82) rfl rfl h82 ?_
          refine grown_call (f := 17) rfl Tryd.func17 (by kernel_rfl) (by kernel_rfl) ?_
          simp only [List.map_toArray, List.map_cons, List.map_nil, h85, h86]
          refine (lsame_any _ tp _ ms _ i _ _ w h84 (unhide HTB) (unhide HMM2 w hk) (unhide HBm) (by omega) (unhide HVV2 w hk) (unhide HIB) (unhide HGL2 w hk)).mono ?_
          rintro e w' ⟨rfl, K⟩
          exact ⟨_, rfl, K, rfl⟩
        refine steps_cons (fun a w hk hn => ?_) ?_
        · have h82 : a.eval (.tmp 82) = .bool true := hn.1
          have h87 : a.eval (.tmp 87) = .bool true := hn.2.1
          clear hn
          refine wants_plain rfl ?_
          exact grown_pick _ _ _ true rfl h82 h87
        refine steps_cons (fun a w hk hn => ?_) ?_
        · have h88 : a.eval (.tmp 88) = .bool true := hn.1
          clear hn
          refine wants_plain rfl ?_
          exact grown_move (.tmp 88) rfl h88
        refine steps_cons (fun a w hk hn => ?_) ?_
        · have h9 : a.eval (.tmp 9) = .pointer (some ⟨g1, 0, none⟩) := hn.1
          have h89 : a.eval (.tmp 89) = .bool true := hn.2.1
          clear hn
          refine wants_guard (d := 89) rfl rfl h89 ?_
          exact grown_move (.tmp 9) rfl h9
        refine steps_cons (fun a w hk hn => ?_) ?_
        · have h90 : a.eval (.tmp 90) = .pointer (some ⟨g1, 0, none⟩) := hn.1
          have h89 : a.eval (.tmp 89) = .bool true := hn.2.1
          clear hn
          refine wants_guard (d := 89) rfl rfl h89 ?_
          refine grown_call (f := 12) rfl Tryd.func12 (by kernel_rfl) (by kernel_rfl) ?_
          simp only [List.map_toArray, List.map_cons, List.map_nil, h90]
          refine (own_public _ bs1 sd tp (unhide HTP) w (unhide HOW2 w hk)).mono ?_
          rintro e w' ⟨ao, m, c, rfl, R, hw⟩
          subst w'
          exact ⟨_, rfl, Kp.refl _ _, R⟩
        refine steps_cons (fun a w hk hn => ?_) ?_
        · have h3 : a.eval (.tmp 3) = .slice ao mo co := hn.1
          have h89 : a.eval (.tmp 89) = .bool true := hn.2.1
          clear hn
          refine wants_guard (d := 89) rfl rfl h89 ?_
          exact grown_move (.tmp 3) rfl h3
        refine steps_cons (fun a w hk hn => ?_) ?_
        · have h11 : a.eval (.tmp 11) = .pointer (some ⟨gs, 0, none⟩) := hn.1
          have h89 : a.eval (.tmp 89) = .bool true := hn.2.1
          clear hn
          refine wants_guard (d := 89) rfl rfl h89 ?_
          exact grown_loadsig (.tmp 11) rfl gs _ _ _ _ h11 (unhide HGS2 w hk) rfl
        refine steps_cons (fun a w hk hn => ?_) ?_
        · have h91 : Sl w (a.eval (.tmp 91)) (tp) := hn.1
          have h92 : a.eval (.tmp 92) = .slice ao mo co := hn.2.1
          have h93 : a.eval (.tmp 93) = .agg #[.int .i64 i, .slice ap np cp, .slice aq nq cq] := hn.2.2.1
          have h89 : a.eval (.tmp 89) = .bool true := hn.2.2.2.1
          clear hn
          refine wants_guard (d := 89) rfl rfl h89 ?_
          refine grown_call (f := 17) rfl Tryd.func17 (by kernel_rfl) (by kernel_rfl) ?_
          simp only [List.map_toArray, List.map_cons, List.map_nil, h92, h93]
          refine (lsame_any _ tp _ os _ i _ _ w h91 (unhide HTB) (unhide HSS2 w hk) (unhide HBo) (by omega) (unhide HVV2 w hk) (unhide HIB) (unhide HGL2 w hk)).mono ?_
          rintro e w' ⟨rfl, K⟩
          exact ⟨_, rfl, K, rfl⟩
        refine steps_cons (fun a w hk hn => ?_) ?_
        · have h89 : a.eval (.tmp 89) = .bool true := hn.1
          have h94 : a.eval (.tmp 94) = .bool true := hn.2.1
          clear hn
          refine wants_plain rfl ?_
          exact grown_pick _ _ _ true rfl h89 h94
        refine steps_cons (fun a w hk hn => ?_) ?_
        · have h95 : a.eval (.tmp 95) = .bool true := hn.1
          clear hn
          refine wants_plain rfl ?_
          exact grown_move (.tmp 95) rfl h95
        refine steps_cons (fun a w hk hn => ?_) ?_
        · have h3 : a.eval (.tmp 3) = .slice ao mo co := hn.1
          have h96 : a.eval (.tmp 96) = .bool true := hn.2.1
          clear hn
          refine wants_guard (d := 96) rfl rfl h96 ?_
          exact grown_move (.tmp 3) rfl h3
        refine steps_cons (fun a w hk hn => ?_) ?_
        · have h2 : a.eval (.tmp 2) = .slice am mm cm := hn.1
          have h96 : a.eval (.tmp 96) = .bool true := hn.2.1
          clear hn
          refine wants_guard (d := 96) rfl rfl h96 ?_
          exact grown_move (.tmp 2) rfl h2
        refine steps_cons (fun a w hk hn => ?_) ?_
        · have h11 : a.eval (.tmp 11) = .pointer (some ⟨gs, 0, none⟩) := hn.1
          have h96 : a.eval (.tmp 96) = .bool true := hn.2.1
          clear hn
          refine wants_guard (d := 96) rfl rfl h96 ?_
          exact grown_loadsig (.tmp 11) rfl gs _ _ _ _ h11 (unhide HGS2 w hk) rfl
        refine steps_cons (fun a w hk hn => ?_) ?_
        · have h97 : a.eval (.tmp 97) = .slice ao mo co := hn.1
          have h98 : a.eval (.tmp 98) = .slice am mm cm := hn.2.1
          have h99 : a.eval (.tmp 99) = .agg #[.int .i64 i, .slice ap np cp, .slice aq nq cq] := hn.2.2.1
          have h96 : a.eval (.tmp 96) = .bool true := hn.2.2.2.1
          clear hn
          refine wants_guard (d := 96) rfl rfl h96 ?_
          refine grown_call (f := 17) rfl Tryd.func17 (by kernel_rfl) (by kernel_rfl) ?_
          simp only [List.map_toArray, List.map_cons, List.map_nil, h97, h98, h99]
          refine (lsame_any _ os _ ms _ i _ _ w (unhide HSS2 w hk) (unhide HBo) (unhide HMM2 w hk) (unhide HBm) (by omega) (unhide HVV2 w hk) (unhide HIB) (unhide HGL2 w hk)).mono ?_
          rintro e w' ⟨rfl, K⟩
          exact ⟨_, rfl, K, rfl⟩
        refine steps_cons (fun a w hk hn => ?_) ?_
        · have h96 : a.eval (.tmp 96) = .bool true := hn.1
          have h100 : a.eval (.tmp 100) = .bool true := hn.2.1
          clear hn
          refine wants_plain rfl ?_
          exact grown_pick _ _ _ true rfl h96 h100
        refine steps_cons (fun a w hk hn => ?_) ?_
        · have h101 : a.eval (.tmp 101) = .bool true := hn.1
          clear hn
          refine wants_plain rfl ?_
          exact grown_move (.tmp 101) rfl h101
        refine steps_cons (fun a w hk hn => ?_) ?_
        · have h102 : a.eval (.tmp 102) = .bool true := hn.1
          clear hn
          refine wants_guard (d := 102) rfl rfl h102 ?_
          refine grown_call (f := 20) rfl Tryd.func20 (by kernel_rfl) (by kernel_rfl) ?_
          simp only [List.map_toArray, List.map_nil]
          refine (sknown_any w (unhide HGL2 w hk)).mono ?_
          rintro e w' ⟨rfl, K⟩
          exact ⟨_, rfl, K, rfl⟩
        refine steps_cons (fun a w hk hn => ?_) ?_
        · have h102 : a.eval (.tmp 102) = .bool true := hn.1
          have h103 : a.eval (.tmp 103) = .bool true := hn.2.1
          clear hn
          refine wants_plain rfl ?_
          exact grown_pick _ _ _ true rfl h102 h103
        refine steps_cons (fun a w hk hn => ?_) ?_
        · have h104 : a.eval (.tmp 104) = .bool true := hn.1
          clear hn
          refine wants_plain rfl ?_
          exact grown_assign (.tmp 104) rfl h104
        exact trivial
      intro W2 hkW2
      rintro _ rfl
      intro v76 h76
      rintro _ rfl
      rintro _ rfl
      intro v79 h79
      rintro _ rfl
      rintro _ rfl
      rintro _ rfl
      rintro _ rfl
      intro v84 h84
      rintro _ rfl
      rintro _ rfl
      rintro _ rfl
      rintro _ rfl
      rintro _ rfl
      rintro _ rfl
      intro v91 h91
      rintro _ rfl
      rintro _ rfl
      rintro _ rfl
      rintro _ rfl
      rintro _ rfl
      rintro _ rfl
      rintro _ rfl
      rintro _ rfl
      rintro _ rfl
      rintro _ rfl
      rintro _ rfl
      rintro _ rfl
      rintro _ rfl
      rintro _ rfl
      refine fin_nil ?_
      simp only [Act.put, List.set_cons_zero, List.set_cons_succ, List.setIfInBounds_toArray]
      go_wp2_with fail
      go_ret
      exact ⟨rfl, ((unhide HKW).trans hkW2).below (Nat.le_refl _) (by simp)⟩
    · have hge : 0 ≤ ix := by omega
      have hlt16 : ¬ ix < 16 := by omega
      have HC := hide (ssign_used (.slice (some ⟨ga, 0, none⟩) 32 32) sd ix (.slice am mm cm) w4 ((unhide HS1).kept (unhide HK14) (by simp)) (unhide HSL) hin)
      clear hin
      go_wp2_with fail
      refine (unhide HC).mono ?_
      rintro ee w5 ⟨rfl, K5⟩
      have HK45 := hide K5
      clear K5 HC
      have Ga := heap_alloc_new w5 (.cells #[.int .i64 0, .slice none 0 0, .slice none 0 0] 33)
      go_wp2_with (refine wpList_store_sig rfl (.tmp 13) (.tmp 37) rfl w5.heap.size rfl _ _ _ _ _ _ Ga rfl ⟨rfl, rfl, rfl⟩ ?_; intro w6 G6 K6)
      have Kb : Kp [] w5 w6 := ((Kp.refl [] w5).alloc (.cells #[.int .i64 0, .slice none 0 0, .slice none 0 0] 33)).then K6 (by simp)
      obtain ⟨gt, hgt⟩ : ∃ g, g = w5.heap.size := ⟨_, rfl⟩
      rw [← hgt] at G6 ⊢
      have K46 : Kp [] w4 w6.drew := ((unhide HK45).trans Kb).trans (kp_drew w6)
      have HGS : Hid (∀ w', Kp [] w6.drew w' → w'.heap[gs]? = some (.cells #[.int .i64 i, .slice ap np cp, .slice aq nq cq] 33 (0, 0))) := fun w' k' => (K46.trans k').heap (unhide HG4) (by simp)
      have HVV : Hid (∀ w', Kp [] w6.drew w' → SigV w' (.agg #[.int .i64 i, .slice ap np cp, .slice aq nq cq]) i (sgnP sd i d) (pthP sd i 4)) := fun w' k' => (unhide HV3).kept ((unhide HK34).trans (K46.trans k'))
      have HMM : Hid (∀ w', Kp [] w6.drew w' → Sl w' (.slice am mm cm) ms) := fun w' k' => (unhide HM1).kept ((unhide HK14).trans (K46.trans k')) (by simp)
      have HSS : Hid (∀ w', Kp [] w6.drew w' → Sl w' (.slice ao mo co) os) := fun w' k' => (unhide HO1).kept ((unhide HK14).trans (K46.trans k')) (by simp)
      have HSD : Hid (∀ w', Kp [] w6.drew w' → Sl w' (.slice (some ⟨ga, 0, none⟩) 32 32) sd) := fun w' k' => (unhide HS1).kept ((unhide HK14).trans (K46.trans k')) (by simp)
      have HOW : Hid (∀ w', Kp [] w6.drew w' → Ow w' bs1 g1 sd 5) := fun w' k' => (unhide HO2).kept ((unhide HK23).trans ((unhide HK34).trans (K46.trans k')))
      have HGL : Hid (∀ w', Kp [] w6.drew w' → Gl w') := fun w' k' => (unhide HG).kept ((unhide HK1).trans ((unhide HK14).trans (K46.trans k'))) (by simp)
      have HCT : Hid (∀ w', Kp [] w6.drew w' → w'.cell? ⟨gt, 1, none⟩ = some (.slice none 0 0)) := fun w' k' => by rw [cell_of_row w' gt 1 _ _ _ (((kp_drew w6).trans k').heap G6 (by simp))]; rfl
      have HK6 := hide ((unhide HK1).trans ((unhide HK14).trans K46))
      clear Ga K6 G6 Kb K46 hgt
      go_wp2_with fail
      refine region_grow Tryd.mixed [Is (.int .i64 0), Is (.bool false), Is (.bool false), Is (.agg #[.int .i64 i, .slice ap np cp, .slice aq nq cq]), Is (.pointer (some ⟨g1, 0, none⟩)), Is (.int .i64 i), Is (.slice am mm cm), SigT i (sgnP sd i d) (pthP sd i 4), Is (.bool true), Is (.bool false), Is (.bool false), Is (.bool false), Is (.int .i64 23), Is (.bool false), Is (.int .i64 ix), Is (.bool true), Is (.bool true), Is (.int .i64 ix), Is (.bool false), Is (.bool false), Is (.bool false), Is (.bool false), Is (.bool false), Is (.int .i64 23), Is (.bool true), Is (.bool true), Is (.int .i64 23), Is (.bool false), Is (.bool false), Is (.pointer (some ⟨gt, 1, none⟩)), Is (.slice none 0 0), Is (.int .i64 0), Is (.bool false), Is (.bool false), Is (.bool false), Is (.bool false)] [[(12, none)], [(39, some 0)], [(40, some 1)], [(11, none), (41, some 2)], [(9, none), (41, some 2)], [(10, none), (41, some 2)], [(2, none), (41, some 2)], [(43, some 4), (44, some 5), (45, some 6), (41, some 2)], [(42, some 3), (46, some 7), (41, some 2)], [(47, some 8), (41, some 2)], [(41, some 2), (48, some 9)], [(49, some 10)], [(14, none), (50, some 11)], [(51, some 12), (50, some 11)], [(1, none), (50, some 11)], [(53, some 14), (50, some 11)], [(54, some 15), (50, some 11)], [(1, none), (55, some 16)], [(56, some 17), (55, some 16)], [(55, some 16), (57, some 18), (50, some 11)], [(52, some 13), (58, some 19), (50, some 11)], [(50, some 11), (59, some 20)], [(60, some 21)], [(14, none), (61, some 22)], [(62, some 23), (61, some 22)], [(63, some 24), (61, some 22)], [(14, none), (64, some 25)], [(65, some 26), (64, some 25)], [(66, some 27), (64, some 25)], [(13, none), (67, some 28)], [(68, some 29), (67, some 28)], [(69, some 30), (67, some 28)], [(70, some 31), (67, some 28)], [(67, some 28), (71, some 32), (64, some 25)], [(64, some 25), (72, some 33), (61, some 22)], [(61, some 22), (73, some 34)]] (by kernel_rfl) ?_ ?_ ?_
      · simp only [List.mem_cons, List.not_mem_nil, or_false]
        intro R hR
        rcases hR with rfl | rfl | rfl | rfl | rfl | rfl | rfl | rfl | rfl | rfl | rfl | rfl | rfl | rfl | rfl | rfl | rfl | rfl | rfl | rfl | rfl | rfl | rfl | rfl | rfl | rfl | rfl | rfl | rfl | rfl | rfl | rfl | rfl | rfl | rfl | rfl <;> first | exact stable_is _ | exact stable_sig _ _ _
      · refine steps_cons (fun a w hk hn => ?_) ?_
        · have h12 : a.eval (.tmp 12) = .int .i64 0 := hn.1
          clear hn
          refine wants_plain rfl ?_
          exact grown_move (.tmp 12) rfl h12
        refine steps_cons (fun a w hk hn => ?_) ?_
        · have h39 : a.eval (.tmp 39) = .int .i64 0 := hn.1
          clear hn
          refine wants_plain rfl ?_
          refine grown_run (v := .bool false) ?_ (Kp.refl _ _) rfl
          obtain ⟨ρ, hρ, hc, hf, hg⟩ := eval_is a
          rw [hρ] at h39 ⊢
          simp [go_sem, hc, h39]
        refine steps_cons (fun a w hk hn => ?_) ?_
        · have h40 : a.eval (.tmp 40) = .bool false := hn.1
          clear hn
          refine wants_plain rfl ?_
          exact grown_move (.tmp 40) rfl h40
        refine steps_cons (fun a w hk hn => ?_) ?_
        · have h11 : a.eval (.tmp 11) = .pointer (some ⟨gs, 0, none⟩) := hn.1
          have h41 : a.eval (.tmp 41) = .bool false := hn.2.1
          clear hn
          refine wants_guard (d := 41) rfl rfl h41 ?_
          exact grown_loadsig (.tmp 11) rfl gs _ _ _ _ h11 (unhide HGS w hk) rfl
        refine steps_cons (fun a w hk hn => ?_) ?_
        · have h9 : a.eval (.tmp 9) = .pointer (some ⟨g1, 0, none⟩) := hn.1
          have h41 : a.eval (.tmp 41) = .bool false := hn.2.1
          clear hn
          refine wants_guard (d := 41) rfl rfl h41 ?_
          exact grown_move (.tmp 9) rfl h9
        refine steps_cons (fun a w hk hn => ?_) ?_
        · have h10 : a.eval (.tmp 10) = .int .i64 i := hn.1
          have h41 : a.eval (.tmp 41) = .bool false := hn.2.1
          clear hn
          refine wants_guard (d := 41) rfl rfl h41 ?_
          exact grown_move (.tmp 10) rfl h10
        refine steps_cons (fun a w hk hn => ?_) ?_
        · have h2 : a.eval (.tmp 2) = .slice am mm cm := hn.1
          have h41 : a.eval (.tmp 41) = .bool false := hn.2.1
          clear hn
          refine wants_guard (d := 41) rfl rfl h41 ?_
          exact grown_move (.tmp 2) rfl h2
        refine steps_cons (fun a w hk hn => ?_) ?_
        · have h43 : a.eval (.tmp 43) = .pointer (some ⟨g1, 0, none⟩) := hn.1
          have h44 : a.eval (.tmp 44) = .int .i64 i := hn.2.1
          have h45 : a.eval (.tmp 45) = .slice am mm cm := hn.2.2.1
          have h41 : a.eval (.tmp 41) = .bool false := hn.2.2.2.1
          clear hn
          refine wants_guard (d := 41) rfl rfl h41 ?_
          refine grown_call (f := 15) rfl Tryd.func15 (by kernel_rfl) (by kernel_rfl) ?_
          simp only [List.map_toArray, List.map_cons, List.map_nil, h43, h44, h45]
          refine (own_sign _ bs1 sd i _ ms d (unhide HD) w (unhide HOW w hk) (unhide HSB) (unhide HSL) hi16 (unhide HMM w hk) (unhide HBm) (by omega)).mono ?_
          rintro e w' ⟨v, rfl, V, K⟩
          exact ⟨_, rfl, K, V⟩
        refine steps_cons (fun a w hk hn => ?_) ?_
        · have h42 : a.eval (.tmp 42) = .agg #[.int .i64 i, .slice ap np cp, .slice aq nq cq] := hn.1
          have h46 : (SigT i (sgnP sd i d) (pthP sd i 4)) (a.eval (.tmp 46)) w := hn.2.1
          have h41 : a.eval (.tmp 41) = .bool false := hn.2.2.1
          clear hn
          refine wants_guard (d := 41) rfl rfl h41 ?_
          refine grown_call (f := 14) rfl Tryd.func14 (by kernel_rfl) (by kernel_rfl) ?_
          simp only [List.map_toArray, List.map_cons, List.map_nil, h42]
          refine (refsame_any _ _ i _ _ w (unhide HVV w hk) h46).mono ?_
          rintro e w' ⟨rfl, K⟩
          exact ⟨_, rfl, K, rfl⟩
        refine steps_cons (fun a w hk hn => ?_) ?_
        · have h47 : a.eval (.tmp 47) = .bool true := hn.1
          have h41 : a.eval (.tmp 41) = .bool false := hn.2.1
          clear hn
          refine wants_guard (d := 41) rfl rfl h41 ?_
          refine grown_run (v := .bool false) ?_ (Kp.refl _ _) rfl
          obtain ⟨ρ, hρ, hc, hf, hg⟩ := eval_is a
          rw [hρ] at h47 ⊢
          simp [go_sem, h47]
        refine steps_cons (fun a w hk hn => ?_) ?_
        · have h41 : a.eval (.tmp 41) = .bool false := hn.1
          have h48 : a.eval (.tmp 48) = .bool false := hn.2.1
          clear hn
          refine wants_plain rfl ?_
          exact grown_pick _ _ _ false rfl h41 h48
        refine steps_cons (fun a w hk hn => ?_) ?_
        · have h49 : a.eval (.tmp 49) = .bool false := hn.1
          clear hn
          refine wants_plain rfl ?_
          exact grown_move (.tmp 49) rfl h49
        refine steps_cons (fun a w hk hn => ?_) ?_
        · have h14 : a.eval (.tmp 14) = .int .i64 23 := hn.1
          have h50 : a.eval (.tmp 50) = .bool false := hn.2.1
          clear hn
          refine wants_guard (d := 50) rfl rfl h50 ?_
          exact grown_move (.tmp 14) rfl h14
        refine steps_cons (fun a w hk hn => ?_) ?_
        · have h51 : a.eval (.tmp 51) = .int .i64 23 := hn.1
          have h50 : a.eval (.tmp 50) = .bool false := hn.2.1
          clear hn
          refine wants_guard (d := 50) rfl rfl h50 ?_
          refine grown_run (v := .bool false) ?_ (Kp.refl _ _) rfl
          obtain ⟨ρ, hρ, hc, hf, hg⟩ := eval_is a
          rw [hρ] at h51 ⊢
          simp [go_sem, hc, h51]
        refine steps_cons (fun a w hk hn => ?_) ?_
        · have h1 : a.eval (.tmp 1) = .int .i64 ix := hn.1
          have h50 : a.eval (.tmp 50) = .bool false := hn.2.1
          clear hn
          refine wants_guard (d := 50) rfl rfl h50 ?_
          exact grown_move (.tmp 1) rfl h1
        refine steps_cons (fun a w hk hn => ?_) ?_
        · have h53 : a.eval (.tmp 53) = .int .i64 ix := hn.1
          have h50 : a.eval (.tmp 50) = .bool false := hn.2.1
          clear hn
          refine wants_guard (d := 50) rfl rfl h50 ?_
          refine grown_run (v := .bool true) ?_ (Kp.refl _ _) rfl
          obtain ⟨ρ, hρ, hc, hf, hg⟩ := eval_is a
          rw [hρ] at h53 ⊢
          simp [go_sem, hc, h53, hge]
        refine steps_cons (fun a w hk hn => ?_) ?_
        · have h54 : a.eval (.tmp 54) = .bool true := hn.1
          have h50 : a.eval (.tmp 50) = .bool false := hn.2.1
          clear hn
          refine wants_guard (d := 50) rfl rfl h50 ?_
          exact grown_move (.tmp 54) rfl h54
        refine steps_cons (fun a w hk hn => ?_) ?_
        · have h1 : a.eval (.tmp 1) = .int .i64 ix := hn.1
          have h55 : a.eval (.tmp 55) = .bool true := hn.2.1
          clear hn
          refine wants_guard (d := 55) rfl rfl h55 ?_
          exact grown_move (.tmp 1) rfl h1
        refine steps_cons (fun a w hk hn => ?_) ?_
        · have h56 : a.eval (.tmp 56) = .int .i64 ix := hn.1
          have h55 : a.eval (.tmp 55) = .bool true := hn.2.1
          clear hn
          refine wants_guard (d := 55) rfl rfl h55 ?_
          refine grown_run (v := .bool false) ?_ (Kp.refl _ _) rfl
          obtain ⟨ρ, hρ, hc, hf, hg⟩ := eval_is a
          rw [hρ] at h56 ⊢
          simp [go_sem, hc, h56, hlt16]
        refine steps_cons (fun a w hk hn => ?_) ?_
        · have h55 : a.eval (.tmp 55) = .bool true := hn.1
          have h57 : a.eval (.tmp 57) = .bool false := hn.2.1
          have h50 : a.eval (.tmp 50) = .bool false := hn.2.2.1
          clear hn
          refine wants_guard (d := 50) rfl rfl h50 ?_
          exact grown_pick _ _ _ true rfl h55 h57
        refine steps_cons (fun a w hk hn => ?_) ?_
        · have h52 : a.eval (.tmp 52) = .bool false := hn.1
          have h58 : a.eval (.tmp 58) = .bool false := hn.2.1
          have h50 : a.eval (.tmp 50) = .bool false := hn.2.2.1
          clear hn
          refine wants_guard (d := 50) rfl rfl h50 ?_
          refine grown_run (v := .bool false) ?_ (Kp.refl _ _) rfl
          obtain ⟨ρ, hρ, hc, hf, hg⟩ := eval_is a
          rw [hρ] at h52 h58 ⊢
          simp [go_sem, h52, h58]
        refine steps_cons (fun a w hk hn => ?_) ?_
        · have h50 : a.eval (.tmp 50) = .bool false := hn.1
          have h59 : a.eval (.tmp 59) = .bool false := hn.2.1
          clear hn
          refine wants_plain rfl ?_
          exact grown_pick _ _ _ false rfl h50 h59
        refine steps_cons (fun a w hk hn => ?_) ?_
        · have h60 : a.eval (.tmp 60) = .bool false := hn.1
          clear hn
          refine wants_plain rfl ?_
          exact grown_move (.tmp 60) rfl h60
        refine steps_cons (fun a w hk hn => ?_) ?_
        · have h14 : a.eval (.tmp 14) = .int .i64 23 := hn.1
          have h61 : a.eval (.tmp 61) = .bool false := hn.2.1
          clear hn
          refine wants_guard (d := 61) rfl rfl h61 ?_
          exact grown_move (.tmp 14) rfl h14
        refine steps_cons (fun a w hk hn => ?_) ?_
        · have h62 : a.eval (.tmp 62) = .int .i64 23 := hn.1
          have h61 : a.eval (.tmp 61) = .bool false := hn.2.1
          clear hn
          refine wants_guard (d := 61) rfl rfl h61 ?_
          refine grown_run (v := .bool true) ?_ (Kp.refl _ _) rfl
          obtain ⟨ρ, hρ, hc, hf, hg⟩ := eval_is a
          rw [hρ] at h62 ⊢
          simp [go_sem, hc, h62]
        refine steps_cons (fun a w hk hn => ?_) ?_
        · have h63 : a.eval (.tmp 63) = .bool true := hn.1
          have h61 : a.eval (.tmp 61) = .bool false := hn.2.1
          clear hn
          refine wants_guard (d := 61) rfl rfl h61 ?_
          exact grown_move (.tmp 63) rfl h63
        refine steps_cons (fun a w hk hn => ?_) ?_
        · have h14 : a.eval (.tmp 14) = .int .i64 23 := hn.1
          have h64 : a.eval (.tmp 64) = .bool true := hn.2.1
          clear hn
          refine wants_guard (d := 64) rfl rfl h64 ?_
          exact grown_move (.tmp 14) rfl h14
        refine steps_cons (fun a w hk hn => ?_) ?_
        · have h65 : a.eval (.tmp 65) = .int .i64 23 := hn.1
          have h64 : a.eval (.tmp 64) = .bool true := hn.2.1
          clear hn
          refine wants_guard (d := 64) rfl rfl h64 ?_
          refine grown_run (v := .bool false) ?_ (Kp.refl _ _) rfl
          obtain ⟨ρ, hρ, hc, hf, hg⟩ := eval_is a
          rw [hρ] at h65 ⊢
          simp [go_sem, hc, h65]
        refine steps_cons (fun a w hk hn => ?_) ?_
        · have h66 : a.eval (.tmp 66) = .bool false := hn.1
          have h64 : a.eval (.tmp 64) = .bool true := hn.2.1
          clear hn
          refine wants_guard (d := 64) rfl rfl h64 ?_
          exact grown_move (.tmp 66) rfl h66
        refine steps_cons (fun a w hk hn => ?_) ?_
        · have h13 : a.eval (.tmp 13) = .pointer (some ⟨gt, 0, none⟩) := hn.1
          have h67 : a.eval (.tmp 67) = .bool false := hn.2.1
          clear hn
          refine wants_guard (d := 67) rfl rfl h67 ?_
          refine grown_run (v := .pointer (some ⟨gt, 1, none⟩)) ?_ (Kp.refl _ _) rfl
          obtain ⟨ρ, hρ, hc, hf, hg⟩ := eval_is a
          rw [hρ] at h13 ⊢
          simp [go_sem, h13]
        refine steps_cons (fun a w hk hn => ?_) ?_
        · have h68 : a.eval (.tmp 68) = .pointer (some ⟨gt, 1, none⟩) := hn.1
          have h67 : a.eval (.tmp 67) = .bool false := hn.2.1
          clear hn
          refine wants_guard (d := 67) rfl rfl h67 ?_
          refine grown_run (v := .slice none 0 0) ?_ (Kp.refl _ _) rfl
          have hcell := unhide HCT w hk
          obtain ⟨ρ, hρ, hc, hf, hg⟩ := eval_is a
          rw [hρ] at h68 ⊢
          simp [go_sem, h68, hcell]
        refine steps_cons (fun a w hk hn => ?_) ?_
        · have h69 : a.eval (.tmp 69) = .slice none 0 0 := hn.1
          have h67 : a.eval (.tmp 67) = .bool false := hn.2.1
          clear hn
          refine wants_guard (d := 67) rfl rfl h67 ?_
          refine grown_run (v := .int .i64 0) ?_ (Kp.refl _ _) rfl
          obtain ⟨ρ, hρ, hc, hf, hg⟩ := eval_is a
          rw [hρ] at h69 ⊢
          simp [go_sem, h69]
        refine steps_cons (fun a w hk hn => ?_) ?_
        · have h70 : a.eval (.tmp 70) = .int .i64 0 := hn.1
          have h67 : a.eval (.tmp 67) = .bool false := hn.2.1
          clear hn
          refine wants_guard (d := 67) rfl rfl h67 ?_
          refine grown_run (v := .bool false) ?_ (Kp.refl _ _) rfl
          obtain ⟨ρ, hρ, hc, hf, hg⟩ := eval_is a
          rw [hρ] at h70 ⊢
          simp [go_sem, hc, h70]
        refine steps_cons (fun a w hk hn => ?_) ?_
        · have h67 : a.eval (.tmp 67) = .bool false := hn.1
          have h71 : a.eval (.tmp 71) = .bool false := hn.2.1
          have h64 : a.eval (.tmp 64) = .bool true := hn.2.2.1
          clear hn
          refine wants_guard (d := 64) rfl rfl h64 ?_
          exact grown_pick _ _ _ false rfl h67 h71
        refine steps_cons (fun a w hk hn => ?_) ?_
        · have h64 : a.eval (.tmp 64) = .bool true := hn.1
          have h72 : a.eval (.tmp 72) = .bool false := hn.2.1
          have h61 : a.eval (.tmp 61) = .bool false := hn.2.2.1
          clear hn
          refine wants_guard (d := 61) rfl rfl h61 ?_
          exact grown_pick _ _ _ true rfl h64 h72
        refine steps_cons (fun a w hk hn => ?_) ?_
        · have h61 : a.eval (.tmp 61) = .bool false := hn.1
          have h73 : a.eval (.tmp 73) = .bool false := hn.2.1
          clear hn
          refine wants_plain rfl ?_
          exact grown_pick _ _ _ false rfl h61 h73
        exact trivial
      intro W1 hkW1
      rintro _ rfl
      rintro _ rfl
      rintro _ rfl
      rintro _ rfl
      rintro _ rfl
      rintro _ rfl
      rintro _ rfl
      intro v46 h46
      rintro _ rfl
      rintro _ rfl
      rintro _ rfl
      rintro _ rfl
      rintro _ rfl
      rintro _ rfl
      rintro _ rfl
      rintro _ rfl
      rintro _ rfl
      rintro _ rfl
      rintro _ rfl
      rintro _ rfl
      rintro _ rfl
      rintro _ rfl
      rintro _ rfl
      rintro _ rfl
      rintro _ rfl
      rintro _ rfl
      rintro _ rfl
      rintro _ rfl
      rintro _ rfl
      rintro _ rfl
      rintro _ rfl
      rintro _ rfl
      rintro _ rfl
      rintro _ rfl
      rintro _ rfl
      rintro _ rfl
      refine fin_nil ?_
      simp only [Act.put, List.set_cons_zero, List.set_cons_succ, List.setIfInBounds_toArray]
      have kkW := hkW1.trans (kp_drew W1)
      have HGS2 : Hid (∀ w', Kp [] W1.drew w' → w'.heap[gs]? = some (.cells #[.int .i64 i, .slice ap np cp, .slice aq nq cq] 33 (0, 0))) := fun w' k' => unhide HGS w' (kkW.trans k')
      have HVV2 : Hid (∀ w', Kp [] W1.drew w' → SigV w' (.agg #[.int .i64 i, .slice ap np cp, .slice aq nq cq]) i (sgnP sd i d) (pthP sd i 4)) := fun w' k' => unhide HVV w' (kkW.trans k')
      have HMM2 : Hid (∀ w', Kp [] W1.drew w' → Sl w' (.slice am mm cm) ms) := fun w' k' => unhide HMM w' (kkW.trans k')
      have HSS2 : Hid (∀ w', Kp [] W1.drew w' → Sl w' (.slice ao mo co) os) := fun w' k' => unhide HSS w' (kkW.trans k')
      have HSD2 : Hid (∀ w', Kp [] W1.drew w' → Sl w' (.slice (some ⟨ga, 0, none⟩) 32 32) sd) := fun w' k' => unhide HSD w' (kkW.trans k')
      have HOW2 : Hid (∀ w', Kp [] W1.drew w' → Ow w' bs1 g1 sd 5) := fun w' k' => unhide HOW w' (kkW.trans k')
      have HGL2 : Hid (∀ w', Kp [] W1.drew w' → Gl w') := fun w' k' => unhide HGL w' (kkW.trans k')
      have HKW := hide ((unhide HK6).trans kkW)
      clear kkW HGS HVV HMM HSS HSD HOW HGL HCT
      go_wp2_with fail
      refine region_grow Tryd.mixed [Is (.slice (some ⟨ga, 0, none⟩) 32 32), SlT (tp), Is (.string ST), Is (.pointer (some ⟨g1, 0, none⟩)), SlT (tp), Is (.string ST), Is (.bool true), Is (.bool true), Is (.pointer (some ⟨g1, 0, none⟩)), SlT (tp), Is (.slice am mm cm), Is (.agg #[.int .i64 i, .slice ap np cp, .slice aq nq cq]), Is (.bool true), Is (.bool true), Is (.bool true), Is (.pointer (some ⟨g1, 0, none⟩)), SlT (tp), Is (.slice ao mo co), Is (.agg #[.int .i64 i, .slice ap np cp, .slice aq nq cq]), Is (.bool true), Is (.bool true), Is (.bool true), Is (.slice ao mo co), Is (.slice am mm cm), Is (.agg #[.int .i64 i, .slice ap np cp, .slice aq nq cq]), Is (.bool true), Is (.bool true), Is (.bool true), Is (.bool true), Is (.bool true), Is (.bool true)] [[(0, none)], [(75, some 0)], [(76, some 1)], [(9, none)], [(78, some 3)], [(79, some 4)], [(77, some 2), (80, some 5)], [(81, some 6)], [(9, none), (82, some 7)], [(83, some 8), (82, some 7)], [(2, none), (82, some 7)], [(11, none), (82, some 7)], [(84, some 9), (85, some 10), (86, some 11), (82, some 7)], [(82, some 7), (87, some 12)], [(88, some 13)], [(9, none), (89, some 14)], [(90, some 15), (89, some 14)], [(3, none), (89, some 14)], [(11, none), (89, some 14)], [(91, some 16), (92, some 17), (93, some 18), (89, some 14)], [(89, some 14), (94, some 19)], [(95, some 20)], [(3, none), (96, some 21)], [(2, none), (96, some 21)], [(11, none), (96, some 21)], [(97, some 22), (98, some 23), (99, some 24), (96, some 21)], [(96, some 21), (100, some 25)], [(101, some 26)], [(102, some 27)], [(102, some 27), (103, some 28)], [(104, some 29)]] (by kernel_rfl) ?_ ?_ ?_
      · simp only [List.mem_cons, List.not_mem_nil, or_false]
        intro R hR
        rcases hR with rfl | rfl | rfl | rfl | rfl | rfl | rfl | rfl | rfl | rfl | rfl | rfl | rfl | rfl | rfl | rfl | rfl | rfl | rfl | rfl | rfl | rfl | rfl | rfl | rfl | rfl | rfl | rfl | rfl | rfl | rfl <;> first | exact stable_is _ | exact stable_sl _
      · refine steps_cons (fun a w hk hn => ?_) ?_
        · have h0 : a.eval (.tmp 0) = .slice (some ⟨ga, 0, none⟩) 32 32 := hn.1
          clear hn
          refine wants_plain rfl ?_
          exact grown_move (.tmp 0) rfl h0
        refine steps_cons (fun a w hk hn => ?_) ?_
        · have h75 : a.eval (.tmp 75) = .slice (some ⟨ga, 0, none⟩) 32 32 := hn.1
          clear hn
          refine wants_plain rfl ?_
          refine grown_call (f := 11) rfl Tryd.func11 (by kernel_rfl) (by kernel_rfl) ?_
          simp only [List.map_toArray, List.map_cons, List.map_nil, h75]
          refine (spublic_any _ sd tp (unhide HTP) w (unhide HSD2 w hk) (unhide HSB) (unhide HSL) (unhide HGL2 w hk)).mono ?_
          rintro e w' ⟨ao, m, c, rfl, R, K⟩
          exact ⟨_, rfl, K, R⟩
        refine steps_cons (fun a w hk hn => ?_) ?_
        · have h76 : Sl w (a.eval (.tmp 76)) (tp) := hn.1
          clear hn
          refine wants_plain rfl ?_
          exact grown_conv (.tmp 76) _ _ 5 _ rfl h76 Tryd.underlying24 Tryd.underlying5 Tryd.underlying9 (congrArg Value.string (unhide HST).symm)
        refine steps_cons (fun a w hk hn => ?_) ?_
        · have h9 : a.eval (.tmp 9) = .pointer (some ⟨g1, 0, none⟩) := hn.1
          clear hn
          refine wants_plain rfl ?_
          exact grown_move (.tmp 9) rfl h9
        refine steps_cons (fun a w hk hn => ?_) ?_
        · have h78 : a.eval (.tmp 78) = .pointer (some ⟨g1, 0, none⟩) := hn.1
          clear hn
          refine wants_plain rfl ?_
          refine grown_call (f := 12) rfl Tryd.func12 (by kernel_rfl) (by kernel_rfl) ?_
          simp only [List.map_toArray, List.map_cons, List.map_nil, h78]
          refine (own_public _ bs1 sd tp (unhide HTP) w (unhide HOW2 w hk)).mono ?_
          rintro e w' ⟨ao, m, c, rfl, R, hw⟩
          subst w'
          exact ⟨_, rfl, Kp.refl _ _, R⟩
        refine steps_cons (fun a w hk hn => ?_) ?_
        · have h79 : Sl w (a.eval (.tmp 79)) (tp) := hn.1
          clear hn
          refine wants_plain rfl ?_
          exact grown_conv (.tmp 79) _ _ 5 _ rfl h79 Tryd.underlying24 Tryd.underlying5 Tryd.underlying9 (congrArg Value.string (unhide HST).symm)
        refine steps_cons (fun a w hk hn => ?_) ?_
        · have h77 : a.eval (.tmp 77) = .string ST := hn.1
          have h80 : a.eval (.tmp 80) = .string ST := hn.2.1
          clear hn
          refine wants_plain rfl ?_
          refine grown_run (v := .bool true) ?_ (Kp.refl _ _) rfl
          obtain ⟨ρ, hρ, hc, hf, hg⟩ := eval_is a
          rw [hρ] at h77 h80 ⊢
          simp [go_sem, h77, h80]
        refine steps_cons (fun a w hk hn => ?_) ?_
        · have h81 : a.eval (.tmp 81) = .bool true := hn.1
          clear hn
          refine wants_plain rfl ?_
          exact grown_move (.tmp 81) rfl h81
        refine steps_cons (fun a w hk hn => ?_) ?_
        · have h9 : a.eval (.tmp 9) = .pointer (some ⟨g1, 0, none⟩) := hn.1
          have h82 : a.eval (.tmp 82) = .bool true := hn.2.1
          clear hn
          refine wants_guard (d := 82) rfl rfl h82 ?_
          exact grown_move (.tmp 9) rfl h9
        refine steps_cons (fun a w hk hn => ?_) ?_
        · have h83 : a.eval (.tmp 83) = .pointer (some ⟨g1, 0, none⟩) := hn.1
          have h82 : a.eval (.tmp 82) = .bool true := hn.2.1
          clear hn
          refine wants_guard (d := 82) rfl rfl h82 ?_
          refine grown_call (f := 12) rfl Tryd.func12 (by kernel_rfl) (by kernel_rfl) ?_
          simp only [List.map_toArray, List.map_cons, List.map_nil, h83]
          refine (own_public _ bs1 sd tp (unhide HTP) w (unhide HOW2 w hk)).mono ?_
          rintro e w' ⟨ao, m, c, rfl, R, hw⟩
          subst w'
          exact ⟨_, rfl, Kp.refl _ _, R⟩
        refine steps_cons (fun a w hk hn => ?_) ?_
        · have h2 : a.eval (.tmp 2) = .slice am mm cm := hn.1
          have h82 : a.eval (.tmp 82) = .bool true := hn.2.1
          clear hn
          refine wants_guard (d := 82) rfl rfl h82 ?_
          exact grown_move (.tmp 2) rfl h2
        refine steps_cons (fun a w hk hn => ?_) ?_
        · have h11 : a.eval (.tmp 11) = .pointer (some ⟨gs, 0, none⟩) := hn.1
          have h82 : a.eval (.tmp 82) = .bool true := hn.2.1
          clear hn
          refine wants_guard (d := 82) rfl rfl h82 ?_
          exact grown_loadsig (.tmp 11) rfl gs _ _ _ _ h11 (unhide HGS2 w hk) rfl
        refine steps_cons (fun a w hk hn => ?_) ?_
        · have h84 : Sl w (a.eval (.tmp 84)) (tp) := hn.1
          have h85 : a.eval (.tmp 85) = .slice am mm cm := hn.2.1
          have h86 : a.eval (.tmp 86) = .agg #[.int .i64 i, .slice ap np cp, .slice aq nq cq] := hn.2.2.1
          have h82 : a.eval (.tmp 82) = .bool true := hn.2.2.2.1
          clear hn
          refine wants_guard (d := 82) rfl rfl h82 ?_
          refine grown_call (f := 17) rfl Tryd.func17 (by kernel_rfl) (by kernel_rfl) ?_
          simp only [List.map_toArray, List.map_cons, List.map_nil, h85, h86]
          refine (lsame_any _ tp _ ms _ i _ _ w h84 (unhide HTB) (unhide HMM2 w hk) (unhide HBm) (by omega) (unhide HVV2 w hk) (unhide HIB) (unhide HGL2 w hk)).mono ?_
          rintro e w' ⟨rfl, K⟩
          exact ⟨_, rfl, K, rfl⟩
        refine steps_cons (fun a w hk hn => ?_) ?_
        · have h82 : a.eval (.tmp 82) = .bool true := hn.1
          have h87 : a.eval (.tmp 87) = .bool true := hn.2.1
          clear hn
          refine wants_plain rfl ?_
          exact grown_pick _ _ _ true rfl h82 h87
        refine steps_cons (fun a w hk hn => ?_) ?_
        · have h88 : a.eval (.tmp 88) = .bool true := hn.1
          clear hn
          refine wants_plain rfl ?_
          exact grown_move (.tmp 88) rfl h88
        refine steps_cons (fun a w hk hn => ?_) ?_
        · have h9 : a.eval (.tmp 9) = .pointer (some ⟨g1, 0, none⟩) := hn.1
          have h89 : a.eval (.tmp 89) = .bool true := hn.2.1
          clear hn
          refine wants_guard (d := 89) rfl rfl h89 ?_
          exact grown_move (.tmp 9) rfl h9
        refine steps_cons (fun a w hk hn => ?_) ?_
        · have h90 : a.eval (.tmp 90) = .pointer (some ⟨g1, 0, none⟩) := hn.1
          have h89 : a.eval (.tmp 89) = .bool true := hn.2.1
          clear hn
          refine wants_guard (d := 89) rfl rfl h89 ?_
          refine grown_call (f := 12) rfl Tryd.func12 (by kernel_rfl) (by kernel_rfl) ?_
          simp only [List.map_toArray, List.map_cons, List.map_nil, h90]
          refine (own_public _ bs1 sd tp (unhide HTP) w (unhide HOW2 w hk)).mono ?_
          rintro e w' ⟨ao, m, c, rfl, R, hw⟩
          subst w'
          exact ⟨_, rfl, Kp.refl _ _, R⟩
        refine steps_cons (fun a w hk hn => ?_) ?_
        · have h3 : a.eval (.tmp 3) = .slice ao mo co := hn.1
          have h89 : a.eval (.tmp 89) = .bool true := hn.2.1
          clear hn
          refine wants_guard (d := 89) rfl rfl h89 ?_
          exact grown_move (.tmp 3) rfl h3
        refine steps_cons (fun a w hk hn => ?_) ?_
        · have h11 : a.eval (.tmp 11) = .pointer (some ⟨gs, 0, none⟩) := hn.1
          have h89 : a.eval (.tmp 89) = .bool true := hn.2.1
          clear hn
          refine wants_guard (d := 89) rfl rfl h89 ?_
          exact grown_loadsig (.tmp 11) rfl gs _ _ _ _ h11 (unhide HGS2 w hk) rfl
        refine steps_cons (fun a w hk hn => ?_) ?_
        · have h91 : Sl w (a.eval (.tmp 91)) (tp) := hn.1
          have h92 : a.eval (.tmp 92) = .slice ao mo co := hn.2.1
          have h93 : a.eval (.tmp 93) = .agg #[.int .i64 i, .slice ap np cp, .slice aq nq cq] := hn.2.2.1
          have h89 : a.eval (.tmp 89) = .bool true := hn.2.2.2.1
          clear hn
          refine wants_guard (d := 89) rfl rfl h89 ?_
          refine grown_call (f := 17) rfl Tryd.func17 (by kernel_rfl) (by kernel_rfl) ?_
          simp only [List.map_toArray, List.map_cons, List.map_nil, h92, h93]
          refine (lsame_any _ tp _ os _ i _ _ w h91 (unhide HTB) (unhide HSS2 w hk) (unhide HBo) (by omega) (unhide HVV2 w hk) (unhide HIB) (unhide HGL2 w hk)).mono ?_
          rintro e w' ⟨rfl, K⟩
          exact ⟨_, rfl, K, rfl⟩
        refine steps_cons (fun a w hk hn => ?_) ?_
        · have h89 : a.eval (.tmp 89) = .bool true := hn.1
          have h94 : a.eval (.tmp 94) = .bool true := hn.2.1
          clear hn
          refine wants_plain rfl ?_
          exact grown_pick _ _ _ true rfl h89 h94
        refine steps_cons (fun a w hk hn => ?_) ?_
        · have h95 : a.eval (.tmp 95) = .bool true := hn.1
          clear hn
          refine wants_plain rfl ?_
          exact grown_move (.tmp 95) rfl h95
        refine steps_cons (fun a w hk hn => ?_) ?_
        · have h3 : a.eval (.tmp 3) = .slice ao mo co := hn.1
          have h96 : a.eval (.tmp 96) = .bool true := hn.2.1
          clear hn
          refine wants_guard (d := 96) rfl rfl h96 ?_
          exact grown_move (.tmp 3) rfl h3
        refine steps_cons (fun a w hk hn => ?_) ?_
        · have h2 : a.eval (.tmp 2) = .slice am mm cm := hn.1
          have h96 : a.eval (.tmp 96) = .bool true := hn.2.1
          clear hn
          refine wants_guard (d := 96) rfl rfl h96 ?_
          exact grown_move (.tmp 2) rfl h2
        refine steps_cons (fun a w hk hn => ?_) ?_
        · have h11 : a.eval (.tmp 11) = .pointer (some ⟨gs, 0, none⟩) := hn.1
          have h96 : a.eval (.tmp 96) = .bool true := hn.2.1
          clear hn
          refine wants_guard (d := 96) rfl rfl h96 ?_
          exact grown_loadsig (.tmp 11) rfl gs _ _ _ _ h11 (unhide HGS2 w hk) rfl
        refine steps_cons (fun a w hk hn => ?_) ?_
        · have h97 : a.eval (.tmp 97) = .slice ao mo co := hn.1
          have h98 : a.eval (.tmp 98) = .slice am mm cm := hn.2.1
          have h99 : a.eval (.tmp 99) = .agg #[.int .i64 i, .slice ap np cp, .slice aq nq cq] := hn.2.2.1
          have h96 : a.eval (.tmp 96) = .bool true := hn.2.2.2.1
          clear hn
          refine wants_guard (d := 96) rfl rfl h96 ?_
          refine grown_call (f := 17) rfl Tryd.func17 (by kernel_rfl) (by kernel_rfl) ?_
          simp only [List.map_toArray, List.map_cons, List.map_nil, h97, h98, h99]
          refine (lsame_any _ os _ ms _ i _ _ w (unhide HSS2 w hk) (unhide HBo) (unhide HMM2 w hk) (unhide HBm) (by omega) (unhide HVV2 w hk) (unhide HIB) (unhide HGL2 w hk)).mono ?_
          rintro e w' ⟨rfl, K⟩
          exact ⟨_, rfl, K, rfl⟩
        refine steps_cons (fun a w hk hn => ?_) ?_
        · have h96 : a.eval (.tmp 96) = .bool true := hn.1
          have h100 : a.eval (.tmp 100) = .bool true := hn.2.1
          clear hn
          refine wants_plain rfl ?_
          exact grown_pick _ _ _ true rfl h96 h100
        refine steps_cons (fun a w hk hn => ?_) ?_
        · have h101 : a.eval (.tmp 101) = .bool true := hn.1
          clear hn
          refine wants_plain rfl ?_
          exact grown_move (.tmp 101) rfl h101
        refine steps_cons (fun a w hk hn => ?_) ?_
        · have h102 : a.eval (.tmp 102) = .bool true := hn.1
          clear hn
          refine wants_guard (d := 102) rfl rfl h102 ?_
          refine grown_call (f := 20) rfl Tryd.func20 (by kernel_rfl) (by kernel_rfl) ?_
          simp only [List.map_toArray, List.map_nil]
          refine (sknown_any w (unhide HGL2 w hk)).mono ?_
          rintro e w' ⟨rfl, K⟩
          exact ⟨_, rfl, K, rfl⟩
        refine steps_cons (fun a w hk hn => ?_) ?_
        · have h102 : a.eval (.tmp 102) = .bool true := hn.1
          have h103 : a.eval (.tmp 103) = .bool true := hn.2.1
          clear hn
          refine wants_plain rfl ?_
          exact grown_pick _ _ _ true rfl h102 h103
        refine steps_cons (fun a w hk hn => ?_) ?_
        · have h104 : a.eval (.tmp 104) = .bool true := hn.1
          clear hn
          refine wants_plain rfl ?_
          exact grown_assign (.tmp 104) rfl h104
        exact trivial
      intro W2 hkW2
      rintro _ rfl
      intro v76 h76
      rintro _ rfl
      rintro _ rfl
      intro v79 h79
      rintro _ rfl
      rintro _ rfl
      rintro _ rfl
      rintro _ rfl
      intro v84 h84
      rintro _ rfl
      rintro _ rfl
      rintro _ rfl
      rintro _ rfl
      rintro _ rfl
      rintro _ rfl
      intro v91 h91
      rintro _ rfl
      rintro _ rfl
      rintro _ rfl
      rintro _ rfl
      rintro _ rfl
      rintro _ rfl
      rintro _ rfl
      rintro _ rfl
      rintro _ rfl
      rintro _ rfl
      rintro _ rfl
      rintro _ rfl
      rintro _ rfl
      rintro _ rfl
      refine fin_nil ?_
      simp only [Act.put, List.set_cons_zero, List.set_cons_succ, List.setIfInBounds_toArray]
      go_wp2_with fail
      go_ret
      exact ⟨rfl, ((unhide HKW).trans hkW2).below (Nat.le_refl _) (by simp)⟩

set_option maxRecDepth 100000 in
theorem lifted (os : Os) (started : os.Started) (H : Type) (enc : TypeId × Value → H) :
    ReturnsInHanded {} Tryd.checked os 4 .any (fun w args => (Rows.signTellsSpec.pre enc Tryd.prog Tryd.f4 [] false w args ∧ laidMetH Tryd.prog laid1 w) ∧ sizedMet enc Tryd.prog Tryd.f4 (OpenSpec.ofChange Rows.signTellsSpec) false w args) (Rows.signTellsSpec.post enc Tryd.prog Tryd.f4 false true false false) := by
  refine returnsInHanded_of_change_and (C := Tryd.checked) (X := fun w _ => laidMetH Tryd.prog laid1 w) (fun _ _ _ hh h => h.of_heap hh) own started (by kernel_rfl) Tryd.func4
    (ChangeSpec.witness_shaped (enc := enc) (C := Tryd.checked) (os := os) (X := fun w _ => laidMetH Tryd.prog laid1 w) false (World.doorLaid Tryd.prog 400 os) #[.slice none 0 0, .int .i64 0, .slice none 0 0, .slice none 0 0] 8 rfl (World.shaped_of_RefB (by kernel_rfl) (by kernel_rfl)) (by kernel_rfl) (by kernel_rfl) (by kernel_rfl) (door_met os _)) ?_
  intro W base args ds gs before hval0 hW hcnd hsz0 hL _
  have hG := gl_of_laid hL
  have hval : ∀ (j : Nat) t v, Tryd.f4.params[j]? = some t → args[j]? = some v → Value.okWide Tryd.prog W .any base t v := hval0
  have hW' := hW
  obtain ⟨p, q, hA0, hV, rfl, hfz, hnd⟩ := hW
  have hA : DataW.TrodAll enc Tryd.prog W 0 (fun _ => true) true Tryd.f4.params.toList args.toList ds p := hA0
  rw [Tryd.params4] at hA hval
  obtain ⟨v0, vs0, d0, ds0, p0, q0, hargs, rfl, rfl, h0, r0⟩ := trodAll_cons hA
  obtain ⟨v1, vs1, d1, ds1, p1, q1, rfl, rfl, rfl, h1, r1⟩ := trodAll_cons r0
  obtain ⟨v2, vs2, d2, ds2, p2, q2, rfl, rfl, rfl, h2, r2⟩ := trodAll_cons r1
  obtain ⟨v3, vs3, d3, ds3, p3, q3, rfl, rfl, rfl, h3, r3⟩ := trodAll_cons r2
  obtain ⟨rfl, rfl, rfl⟩ := trodAll_nil r3
  obtain rfl : args = #[v0, v1, v2, v3] := by cases args; simp_all
  obtain ⟨rfl, rfl⟩ := trodVars_none hV
  obtain ⟨a0, len0, cap0, rfl⟩ := okWide_slice Tryd.underlying24 (hval 0 24 v0 rfl rfl)
  have k0 := h0
  have lt0 : ∀ x ∈ p0, x.block < W.heap.size := by obtain ⟨m, hm⟩ := k0; exact DataW.trod_lt m _ _ _ hm
  obtain ⟨l0, s0, b0⟩ : ∃ bs, Sl W (.slice a0 len0 cap0) bs ∧ Bs bs := by
    obtain ⟨fuel, hf⟩ := h0
    exact bytes_of_trod (by simpa [Value.cells] using hf)
  obtain ⟨a1, rfl, rfl, rfl, w1⟩ := open_int Tryd.underlying3 (hval 1 3 v1 rfl rfl) h1
  obtain ⟨a2, len2, cap2, rfl⟩ := okWide_slice Tryd.underlying24 (hval 2 24 v2 rfl rfl)
  have k2 := h2
  have lt2 : ∀ x ∈ p2, x.block < W.heap.size := by obtain ⟨m, hm⟩ := k2; exact DataW.trod_lt m _ _ _ hm
  obtain ⟨l2, s2, b2⟩ : ∃ bs, Sl W (.slice a2 len2 cap2) bs ∧ Bs bs := by
    obtain ⟨fuel, hf⟩ := h2
    exact bytes_of_trod (by simpa [Value.cells] using hf)
  obtain ⟨a3, len3, cap3, rfl⟩ := okWide_slice Tryd.underlying24 (hval 3 24 v3 rfl rfl)
  have k3 := h3
  have lt3 : ∀ x ∈ p3, x.block < W.heap.size := by obtain ⟨m, hm⟩ := k3; exact DataW.trod_lt m _ _ _ hm
  obtain ⟨l3, s3, b3⟩ : ∃ bs, Sl W (.slice a3 len3 cap3) bs ∧ Bs bs := by
    obtain ⟨fuel, hf⟩ := h3
    exact bytes_of_trod (by simpa [Value.cells] using hf)
  clear hA0 hval0
  refine (walk (.slice a0 len0 cap0) l0 a1 (.slice a2 len2 cap2) l2 (.slice a3 len3 cap3) l3 W hG s0 b0 (bounds_i64 w1) s2 b2 s3 b3).mono fun e W' ⟨he, bel⟩ => ?_
  subst he
  exact ⟨_, rfl, _, _, _, [], _, [], hW', trodAll_mk1 (shut_bool Tryd.underlying4 _), (trodAll_cons_mk (Below.trod laidOut (by kernel_rfl) (of_decide_eq_true (by kernel_rfl)) k0 bel lt0) (trodAll_cons_mk (shut_int Tryd.underlying3 w1) (trodAll_cons_mk (Below.trod laidOut (by kernel_rfl) (of_decide_eq_true (by kernel_rfl)) k2 bel lt2) (trodAll_cons_mk (Below.trod laidOut (by kernel_rfl) (of_decide_eq_true (by kernel_rfl)) k3 bel lt3) trodAll_mk0)))), rfl, bel.frame _, fun h => by cases h⟩

theorem over : Rows.signTellsRow.holds Tryd.pinned (OpenSpec.ofChange Rows.signTellsSpec) :=
  OpenClaim.holds_of_wide 4 Tryd.f4 rfl rfl rfl rfl rfl rfl rfl ⟨rfl, rfl, rfl, rfl, rfl⟩ rfl rfl rfl rfl rfl (by kernel_rfl) Tryd.func4 (by kernel_rfl)
    (of_decide_eq_true (by kernel_rfl)) (by unfold Func.isWrapper; first | (rw [if_pos (by decide +kernel)]; kernel_rfl) | (rw [if_neg (by decide +kernel)]; exact ⟨rfl, rfl⟩))
    (fun os started H enc _ => lifted os started H enc)
end Go.Proofs.YtdioaohejoflcaaDoor.signTells

namespace Go.Proofs.YtdioaohejoflcaaDoor
/-- The given statement: the tied card. -/
theorem SignTells_holds : Rows.SignTellsCardSaid :=
  Claim7.holds_tied_plain_at .later [] [.data] true Rows.signTellsCard.stood.harness false
    signTells.over (fun _ h => by cases h) (by kernel_rfl) (fun _ h => by cases h) signTells_row_tie rfl ⟨rfl, rfl⟩ (by kernel_rfl) rfl
    (fun f fn hf hfn => by
      obtain rfl : f = 4 := Option.some.inj ((show Tryd.prog.funcNamed "broadsheet/broadsheetlaw5.SignTells" = some 4 by kernel_rfl).symm.trans hf) |>.symm
      obtain rfl : fn = Tryd.f4 := (Option.some.inj (Tryd.func4.symm.trans hfn)).symm
      exact ⟨by kernel_rfl, fun j t ht => by
        rw [Tryd.params4] at ht
        have hm : t ∈ ([24, 3, 24, 24] : List TypeId) := by simpa using Array.mem_of_getElem? ht
        have hall : (([24, 3, 24, 24] : List TypeId).all fun u => !Tryd.prog.wantsStandIn u) = true := by kernel_rfl
        exact (show Tryd.prog.wantsStandIn t = false by simpa using List.all_eq_true.1 hall t hm)⟩)
    (by kernel_rfl)
#print axioms SignTells_holds
end Go.Proofs.YtdioaohejoflcaaDoor
