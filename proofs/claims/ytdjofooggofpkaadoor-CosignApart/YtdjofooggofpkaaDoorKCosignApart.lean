/-
  The statement CosignApartCardSaid: for all numbers the law function CosignApart returns true and leaves its arguments as they were; the table hash.roundWords starts as the program's text lays it (tied). No other condition.
-/
import Derived.Test.YtdjofooggofpkaaDoorKYKnown
import Derived.Test.YtdjofooggofpkaaDoorKYRefs
import Derived.Test.YtdjofooggofpkaaDoorKYMixs
import Derived.Test.YtdjofooggofpkaaDoorKHSmalls
import Derived.Test.YtdjofooggofpkaaDoorTie
import Derived.Test.YtdjofooggofpkaaDoorCards
import Derived.SevenTiedAt
namespace Go.Proofs.YtdjofooggofpkaaDoor.cosignApart
open Go.ChangeShapes Go.WideShapes Go.ChangeAt Go.RowKit
open Go.Proofs.YtdjofooggofpkaaDoor
set_option linter.unusedVariables false

set_option maxRecDepth 100000 in
set_option maxHeartbeats 8000000 in
theorem walk (xn xs xr : Int) (w : World) (hG : Gl w) (hn : -9223372036854775808 ≤ xn ∧ xn ≤ 9223372036854775807) (hs : -9223372036854775808 ≤ xs ∧ xs ≤ 9223372036854775807) (hr0 : -9223372036854775808 ≤ xr ∧ xr ≤ 9223372036854775807) :
    Calls Tryd.prog 7 #[.int .i64 xn, .int .i64 xs, .int .i64 xr] w fun e w' => e = .returned (.bool true) ∧ Below w.heap.size w w' := by
  have HG := hide hG
  have HW1 := hide (fun w => within_wi xs 0 256 w (by omega) (by omega) (by omega))
  have HW2 := hide (fun w => within_wi xn 0 1 w (by omega) (by omega) (by omega))
  obtain ⟨sz, hsz⟩ : ∃ x, x = wiP xs 0 256 := ⟨_, rfl⟩
  obtain ⟨kn, hkn⟩ : ∃ k : Nat, (k : Int) = wiP xn 0 1 := ⟨(wiP xn 0 1).toNat, by have := wiP_ge xn 0 1 (by omega); omega⟩
  have hk2 : (kn : Int) < 2 := by have := wiP_ge xn 0 1 (by omega); omega
  obtain ⟨r, hr⟩ : ∃ r, r = hashX xr := ⟨_, rfl⟩
  have HRC : Hid (rgtC sz r = true) := hide (by rw [rgtC_iff, hsz, hr]; have := wiP_ge xs 0 256 (by omega); exact ⟨by omega, hashX_len xr⟩)
  have HRB : Hid (Bs r) := hide (by rw [hr]; exact hashX_bs xr)
  rw [← hsz] at HW1
  rw [← hkn] at HW2
  have HH := hide (fun w => xhash_any xr w)
  rw [← hr] at HH
  obtain ⟨B1, hB1⟩ : ∃ B, B = bodW sz r := ⟨_, rfl⟩
  obtain ⟨B2, hB2⟩ : ∃ B, B = bodC sz r := ⟨_, rfl⟩
  have HB1 := hide hB1
  have HB2 := hide hB2
  have HBS2 : Hid (Bs B2) := hide (by rw [hB2]; exact bodC_bs sz r (unhide HRB))
  have HBL2 : Hid (B2.length ≤ 1000) := hide (by rw [hB2]; have := bodC_le sz r; omega)
  have HL1 : Hid (B1.length = 53) := hide (by rw [hB1]; exact bodW_len (unhide HRC))
  obtain ⟨S1, hS1⟩ : ∃ S, S = strOfNums B1 := ⟨_, rfl⟩
  obtain ⟨S2, hS2⟩ : ∃ S, S = strOfNums B2 := ⟨_, rfl⟩
  have hSS : (S1.toList == S2.toList) = false := by
    rw [hS1, hS2, str_beq B1 B2 (by rw [hB1]; exact bodW_bs sz r (unhide HRB)) (unhide HBS2)]
    exact decide_eq_false (by rw [hB1, hB2]; exact bodW_ne (unhide HRC))
  have HS1 := hide hS1
  have HS2 := hide hS2
  clear hG hn hs hr0 hsz hkn hr hB1 hB2 hS1 hS2
  go_enter Tryd.func7, Tryd.ntmps7
  go_wp2_with fail
  refine (owners_any 2 (by omega) w).mono ?_
  rintro ee w1 ⟨ao, co, rfl, R1⟩
  have HO1 := hide R1.owl
  have HK1 := hide R1.kp
  clear R1
  go_wp2_with fail
  refine (unhide HW1 w1).mono ?_
  rintro ee wx ⟨rfl, hw⟩
  subst wx
  go_wp2_with fail
  refine (unhide HH w1).mono ?_
  rintro ee w2 ⟨ar, mr, cr, rfl, R2, K2⟩
  have HS2' := hide R2.sl
  have HK2 := hide ((unhide HK1).trans K2)
  have HO2 := hide ((unhide HO1).kept K2)
  have Ga := heap_alloc_new w2 (.cells #[.int .i64 0, .slice none 0 0] 27)
  have HKa : Hid (Kp [] w2 (w2.alloc (.cells #[.int .i64 0, .slice none 0 0] 27))) := (Kp.refl [] w2).alloc _
  clear R2 K2 HO1 HK1 HW1 HH
  go_wp2_with (refine wpList_store_flat rfl 27 (.tmp 8) (.tmp 17) rfl w2.heap.size 0 rfl _ _ [.int .i64 sz, .slice ar mr cr] Ga rfl (by simp) Tryd.chkSize (by simp [Value.oneCell']) #[.int .i64 sz, .slice ar mr cr] rfl ?_; intro w3 G3 K3; refine Hid.out ?_)
  obtain ⟨g8, hg8⟩ : ∃ g, g = w2.heap.size := ⟨_, rfl⟩
  have K23 : Kp [] w2 w3 := (unhide HKa).then K3 (fun i hi => .inr (by simp at hi; omega))
  rw [← hg8] at G3 ⊢
  have HK3 := hide ((unhide HK2).trans K23)
  have HO3 := hide ((unhide HO2).kept K23)
  have HG3 := hide G3
  have HC3 : Hid (CkV w3 (.agg #[.int .i64 sz, .slice ar mr cr]) sz r) := ⟨ar, mr, cr, rfl, (unhide HS2').kept K23 (by simp), unhide HRB⟩
  have HP := hide (policy_any _ 2 1 w3 (unhide HO3) (by omega))
  clear Ga HKa G3 K3 K23 hg8 HO2 HK2 HS2'
  refine hide ?_
  go_wp2_with fail
  refine (unhide HP).mono ?_
  rintro ee w4 ⟨al, ml, cl, aw, mw, cw, rfl, S4, A4⟩
  have HP4 := hide (pol_v (q := 1) (by omega) S4 A4)
  have HK4 := hide ((unhide HK3).trans A4.kp)
  have HO4 := hide ((unhide HO3).kept A4.kp)
  have HG4 := hide (A4.kp.heap (unhide HG3) (by simp))
  have HC4 := hide ((unhide HC3).kept A4.kp)
  have Ga := heap_alloc_new w4 (.cells #[.slice none 0 0, .slice none 0 0, .int .i64 0] 42)
  have HKa : Hid (Kp [] w4 (w4.alloc (.cells #[.slice none 0 0, .slice none 0 0, .int .i64 0] 42))) := (Kp.refl [] w4).alloc _
  clear HP S4 A4 HO3 HG3 HC3 HK3
  go_wp2_with (refine wpList_store_flat rfl 42 (.tmp 9) (.tmp 19) rfl w4.heap.size 0 rfl _ _ [.slice al ml cl, .slice aw mw cw, .int .i64 1] Ga rfl (by simp) Tryd.polSize (by simp [Value.oneCell']) #[.slice al ml cl, .slice aw mw cw, .int .i64 1] rfl ?_; intro w6 G6 K6; refine Hid.out ?_)
  obtain ⟨g9, hg9⟩ : ∃ g, g = w4.heap.size := ⟨_, rfl⟩
  have K46 : Kp [] w4 w6 := (unhide HKa).then K6 (fun i hi => .inr (by simp at hi; omega))
  rw [← hg9] at G6 ⊢
  have HK6 := hide ((unhide HK4).trans K46)
  have HO6 := hide ((unhide HO4).kept K46)
  have HP6 := hide ((unhide HP4).kept K46)
  have HG86 := hide (K46.heap (unhide HG4) (by simp))
  have HG96 := hide G6
  have HC6 := hide ((unhide HC4).kept K46)
  clear Ga HKa G6 K6 K46 hg9 HO4 HP4 HG4 HC4 HK4
  refine hide ?_
  go_wp2_with fail
  refine (unhide HW2 w6).mono ?_
  rintro ee wx ⟨rfl, hw⟩
  subst wx
  obtain ⟨ao', co', e', -, hcell⟩ := unhide HO6
  injection e' with e1 e2 e3
  subst e1
  obtain ⟨bo, oo, go, base, rfl, hx, hOw⟩ := hcell kn (by omega)
  have HX6 := hide hx
  have HOw6 := hide hOw
  have HD : Hid (∀ w', Kp [] w6.drew w' → Kp [] w6 w') := fun w' k' => (kp_drew w6).trans k'
  have HT8 : Hid (∀ w', Kp [] w6.drew w' → w'.heap[g8]? = some (.cells #[.int .i64 sz, .slice ar mr cr] 27 (0, 0))) := fun w' k' => (unhide HD w' k').heap (unhide HG86) (by simp)
  have HXO : Hid (∀ w', Kp [] w6.drew w' → w'.cell? ⟨bo, oo + kn, none⟩ = some (.pointer (some ⟨go, 0, none⟩))) := fun w' k' => (unhide HD w' k').cell (unhide HX6) (by simp)
  have HOW : Hid (∀ w', Kp [] w6.drew w' → Ow w' base go (seedX kn) 5) := fun w' k' => (unhide HOw6).kept (unhide HD w' k')
  have HCK : Hid (∀ w', Kp [] w6.drew w' → CkV w' (.agg #[.int .i64 sz, .slice ar mr cr]) sz r) := fun w' k' => (unhide HC6).kept (unhide HD w' k')
  clear hcell hx hOw e2 e3 HW2 HO6
  go_wp2_with fail
  refine region_grow_tail 10 Tryd.mixed [Is (.int .i64 kn), Is (.slice (some ⟨bo, oo, none⟩) 2 co), Is (.int .i64 kn), Is (.pointer (some ⟨bo, oo + kn, none⟩)), Is (.pointer (some ⟨go, 0, none⟩)), Is (.agg #[.int .i64 sz, .slice ar mr cr]), SlT (B2), SgT go 2 (sgnP (seedX kn) 2 (digP B2)) (pthP (seedX kn) 2 4), CoAT go ⟨kn, 2, sgnP (seedX kn) 2 (digP B2), pthP (seedX kn) 2 4⟩, NewX w6.drew.heap.size] [[(10, none)], [(7, none)], [(10, none)], [(23, some 1), (24, some 2)], [(25, some 3)], [(8, none)], [(27, some 5)], [(26, some 4), (28, some 6)], [(22, some 0), (29, some 7)], []] (by kernel_rfl) ?_ ?_ ?_
  all_goals try simp only [List.take_succ_cons, List.take_zero, List.drop_succ_cons, List.drop_zero]
  · simp only [List.mem_cons, List.not_mem_nil, or_false]
    intro R hR
    rcases hR with rfl | rfl | rfl | rfl | rfl | rfl | rfl | rfl | rfl | rfl <;> first | exact stable_is _ | exact stable_sl _ | exact stable_sgt _ _ _ _ | exact stable_coat _ _ | exact stable_newx _
  · refine steps_cons (fun a w hk hn => ?_) ?_
    · have h10 : a.eval (.tmp 10) = .int .i64 kn := hn.1
      clear hn
      refine wants_plain rfl ?_
      exact grown_move (.tmp 10) rfl h10
    refine steps_cons (fun a w hk hn => ?_) ?_
    · have h7 : a.eval (.tmp 7) = .slice (some ⟨bo, oo, none⟩) 2 co := hn.1
      clear hn
      refine wants_plain rfl ?_
      exact grown_move (.tmp 7) rfl h7
    refine steps_cons (fun a w hk hn => ?_) ?_
    · have h10 : a.eval (.tmp 10) = .int .i64 kn := hn.1
      clear hn
      refine wants_plain rfl ?_
      exact grown_move (.tmp 10) rfl h10
    refine steps_cons (fun a w hk hn => ?_) ?_
    · have h23 : a.eval (.tmp 23) = .slice (some ⟨bo, oo, none⟩) 2 co := hn.1
      have h24 : a.eval (.tmp 24) = .int .i64 kn := hn.2.1
      clear hn
      refine wants_plain rfl ?_
      refine grown_run (v := .pointer (some ⟨bo, oo + kn, none⟩)) ?_ (Kp.refl _ _) rfl
      obtain ⟨ρ, hρ, hc, hf, hg⟩ := eval_is a
      rw [hρ] at h23 h24 ⊢
      simp [go_sem, h23, h24, hk2]
    refine steps_cons (fun a w hk hn => ?_) ?_
    · have h25 : a.eval (.tmp 25) = .pointer (some ⟨bo, oo + kn, none⟩) := hn.1
      clear hn
      refine wants_plain rfl ?_
      refine grown_run (v := .pointer (some ⟨go, 0, none⟩)) ?_ (Kp.refl _ _) rfl
      have hcell := unhide HXO w hk
      obtain ⟨ρ, hρ, hc, hf, hg⟩ := eval_is a
      rw [hρ] at h25 ⊢
      simp [go_sem, h25, hcell]
    refine steps_cons (fun a w hk hn => ?_) ?_
    · have h8 : a.eval (.tmp 8) = .pointer (some ⟨g8, 0, none⟩) := hn.1
      clear hn
      refine wants_plain rfl ?_
      exact grown_loadf 27 (.tmp 8) rfl g8 0 h8 _ _ _ _ (unhide HT8 w hk) [.int .i64 sz, .slice ar mr cr] (flat_in rfl) Tryd.underlying27 rfl Tryd.chkSize rfl
    refine steps_cons (fun a w hk hn => ?_) ?_
    · have h27 : a.eval (.tmp 27) = .agg #[.int .i64 sz, .slice ar mr cr] := hn.1
      clear hn
      refine wants_plain rfl ?_
      refine grown_call (f := 28) rfl Tryd.func28 (by kernel_rfl) (by kernel_rfl) ?_
      simp only [List.map_toArray, List.map_cons, List.map_nil, h27]
      refine (rckbody_any _ sz r B2 (unhide HB2) w (unhide HCK w hk)).mono ?_
      rintro e w' ⟨ao, m, c, rfl, R, K⟩
      exact ⟨_, rfl, K, R⟩
    refine steps_cons (fun a w hk hn => ?_) ?_
    · have h26 : a.eval (.tmp 26) = .pointer (some ⟨go, 0, none⟩) := hn.1
      have h28 : Sl w (a.eval (.tmp 28)) (B2) := hn.2.1
      clear hn
      refine wants_plain rfl ?_
      refine grown_call (f := 27) rfl Tryd.func27 (by kernel_rfl) (by kernel_rfl) ?_
      simp only [List.map_toArray, List.map_cons, List.map_nil, h26]
      refine (own_signA go base (seedX kn) 2 _ B2 _ rfl w (unhide HOW w hk) (seedX_bs _) (seedX_len _) (by omega) h28 (unhide HBS2) (unhide HBL2)).mono ?_
      rintro e w' ⟨v, rfl, V, K⟩
      exact ⟨_, rfl, K, V⟩
    refine steps_cons (fun a w hk hn => ?_) ?_
    · have h22 : a.eval (.tmp 22) = .int .i64 kn := hn.1
      have h29 : (SgT go 2 (sgnP (seedX kn) 2 (digP B2)) (pthP (seedX kn) 2 4)) (a.eval (.tmp 29)) w := hn.2.1
      clear hn
      refine wants_plain rfl ?_
      exact grown_bco (.tmp 22) (.tmp 29) rfl h22 h29
    refine steps_cons (fun a w hk hn => ?_) ?_
    · clear hn
      refine wants_plain rfl ?_
      exact grown_newx _ hk.size rfl
    exact trivial
  intro W1 hkW1
  rintro _ rfl
  rintro _ rfl
  rintro _ rfl
  rintro _ rfl
  rintro _ rfl
  rintro _ rfl
  intro v28 h28
  intro v29 h29
  intro v30 h30
  intro v11 h11
  refine fin_nil ?_
  simp only [Act.put, List.set_cons_zero, List.set_cons_succ, List.setIfInBounds_toArray]
  have K61 := unhide HD W1 hkW1
  have hV := CoA.v h30
  obtain ⟨ap, np, cp, aq, nq, cq, ev, -⟩ := id hV
  simp only at ev
  subst ev
  obtain ⟨g11, e11, hIs, hge⟩ := h11
  subst e11
  obtain ⟨ix, iy, a2, n2, c2, a3, n3, c3, G11⟩ := id hIs
  have hbig : Co.big ⟨kn, 2, sgnP (seedX kn) 2 (digP B2), pthP (seedX kn) 2 4⟩ := by
    have h := (rgtP_iff _ _ _).1 (rgtP_sgn (seedX kn) 2 (by omega) (digP B2))
    refine ⟨.inr ?_, .inr ?_⟩
    · show 3 ≤ (sgnP (seedX kn) ((2 : Nat) : Int) (digP B2)).length
      rw [h.2.1.1]; omega
    · show 3 ≤ (pthP (seedX kn) 2 4).length
      rw [h.2.2.1]; omega
  have HV1 := hide hV
  have HIS := hide hIs
  have HBIG := hide hbig
  have HK61 := hide K61
  have HGE := hide hge
  clear h28 h29 h30 hV hIs hbig K61 hge HXO HT8 HOW HCK
  go_wp2_with (refine wpList_store_flat rfl 33 (.tmp 11) (.tmp 30) rfl g11 0 rfl _ _ [.int .i64 kn, .int .i64 2, .slice ap np cp, .slice aq nq cq] G11 rfl (by simp) Tryd.cosSize (by simp [Value.oneCell']) #[.int .i64 kn, .int .i64 2, .slice ap np cp, .slice aq nq cq] rfl ?_; intro w7 G7 K7; refine Hid.out ?_)
  have K67 : Kp [] w6 w7 := (unhide HK61).then K7 (fun i hi => .inr (by simp at hi; have := unhide HGE; have e : w6.drew.heap.size = w6.heap.size := rfl; omega))
  have hV7 := (unhide HV1).off4 (unhide HBIG) (unhide HIS) K7
  have HKD : Hid (∀ w', Kp [] w7.drew w' → Kp [] w w') := fun w' k' => ((unhide HK6).trans K67).trans ((kp_drew w7).trans k')
  have HK7 : Hid (∀ w', Kp [] w7.drew w' → Kp [] w6 w') := fun w' k' => K67.trans ((kp_drew w7).trans k')
  have HU8 : Hid (∀ w', Kp [] w7.drew w' → w'.heap[g8]? = some (.cells #[.int .i64 sz, .slice ar mr cr] 27 (0, 0))) := fun w' k' => (unhide HK7 w' k').heap (unhide HG86) (by simp)
  have HU9 : Hid (∀ w', Kp [] w7.drew w' → w'.heap[g9]? = some (.cells #[.slice al ml cl, .slice aw mw cw, .int .i64 1] 42 (0, 0))) := fun w' k' => (unhide HK7 w' k').heap (unhide HG96) (by simp)
  have HU11 : Hid (∀ w', Kp [] w7.drew w' → w'.heap[g11]? = some (.cells #[.int .i64 kn, .int .i64 2, .slice ap np cp, .slice aq nq cq] 33 (0, 0))) := fun w' k' => ((kp_drew w7).trans k').heap G7 (by simp)
  have HCK2 : Hid (∀ w', Kp [] w7.drew w' → CkV w' (.agg #[.int .i64 sz, .slice ar mr cr]) sz r) := fun w' k' => (unhide HC6).kept (unhide HK7 w' k')
  have HPO : Hid (∀ w', Kp [] w7.drew w' → PoV w' (.agg #[.slice al ml cl, .slice aw mw cw, .int .i64 1]) (polK 2 1)) := fun w' k' => (unhide HP6).kept (unhide HK7 w' k')
  have HVG : Hid (∀ w', Kp [] w7.drew w' → CoV w' (.agg #[.int .i64 kn, .int .i64 2, .slice ap np cp, .slice aq nq cq]) ⟨kn, 2, sgnP (seedX kn) 2 (digP B2), pthP (seedX kn) 2 4⟩) := fun w' k' => hV7.kept ((kp_drew w7).trans k')
  have HGW : Hid (∀ w', Kp [] w7.drew w' → Gl w') := fun w' k' => (unhide HG).kept (unhide HKD w' k') (by simp)
  obtain ⟨bv, hbv⟩ : ∃ b, b = verW (polK 2 1) sz r ⟨kn, 2, sgnP (seedX kn) 2 (digP B2), pthP (seedX kn) 2 4⟩ := ⟨_, rfl⟩
  have HBV := hide hbv
  clear G11 G7 K7 K67 hV7 hbv HV1 HIS HBIG HK61 HGE hkW1 HD HX6 HOw6 HC6 HG86 HG96 HP6 HK6
  refine hide ?_
  go_wp2_with fail
  refine region_grow Tryd.mixed [Is (.agg #[.int .i64 sz, .slice ar mr cr]), SlT (B1), Is (.string S1), Is (.agg #[.int .i64 sz, .slice ar mr cr]), SlT (B2), Is (.string S2), Is (.bool true), Is (.bool true), Is (.agg #[.slice al ml cl, .slice aw mw cw, .int .i64 1]), Is (.agg #[.int .i64 sz, .slice ar mr cr]), Is (.agg #[.int .i64 kn, .int .i64 2, .slice ap np cp, .slice aq nq cq]), Is (.bool bv), Is (.agg #[.slice al ml cl, .slice aw mw cw, .int .i64 1]), Is (.agg #[.int .i64 sz, .slice ar mr cr]), Is (.agg #[.int .i64 kn, .int .i64 2, .slice ap np cp, .slice aq nq cq]), Is (.bool bv), Is (.bool true), Is (.bool true), Is (.bool true), Is (.agg #[.int .i64 sz, .slice ar mr cr]), SlT (B1), Is (.int .i64 53), Is (.bool true), Is (.bool true), Is (.bool true), Is (.bool true), Is (.bool true), Is (.bool true)] [[(8, none)], [(31, some 0)], [(32, some 1)], [(8, none)], [(34, some 3)], [(35, some 4)], [(33, some 2), (36, some 5)], [(37, some 6)], [(9, none), (38, some 7)], [(8, none), (38, some 7)], [(11, none), (38, some 7)], [(39, some 8), (40, some 9), (41, some 10), (38, some 7)], [(9, none), (38, some 7)], [(8, none), (38, some 7)], [(11, none), (38, some 7)], [(43, some 12), (44, some 13), (45, some 14), (38, some 7)], [(42, some 11), (46, some 15), (38, some 7)], [(38, some 7), (47, some 16)], [(48, some 17)], [(8, none), (49, some 18)], [(50, some 19), (49, some 18)], [(51, some 20), (49, some 18)], [(52, some 21), (49, some 18)], [(49, some 18), (53, some 22)], [(54, some 23)], [(55, some 24)], [(55, some 24), (56, some 25)], [(57, some 26)]] (by kernel_rfl) ?_ ?_ ?_
  · simp only [List.mem_cons, List.not_mem_nil, or_false]
    intro R hR
    rcases hR with rfl | rfl | rfl | rfl | rfl | rfl | rfl | rfl | rfl | rfl | rfl | rfl | rfl | rfl | rfl | rfl | rfl | rfl | rfl | rfl | rfl | rfl | rfl | rfl | rfl | rfl | rfl | rfl <;> first | exact stable_is _ | exact stable_sl _
  · refine steps_cons (fun a w hk hn => ?_) ?_
    · have h8 : a.eval (.tmp 8) = .pointer (some ⟨g8, 0, none⟩) := hn.1
      clear hn
      refine wants_plain rfl ?_
      exact grown_loadf 27 (.tmp 8) rfl g8 0 h8 _ _ _ _ (unhide HU8 w hk) [.int .i64 sz, .slice ar mr cr] (flat_in rfl) Tryd.underlying27 rfl Tryd.chkSize rfl
    refine steps_cons (fun a w hk hn => ?_) ?_
    · have h31 : a.eval (.tmp 31) = .agg #[.int .i64 sz, .slice ar mr cr] := hn.1
      clear hn
      refine wants_plain rfl ?_
      refine grown_call (f := 15) rfl Tryd.func15 (by kernel_rfl) (by kernel_rfl) ?_
      simp only [List.map_toArray, List.map_cons, List.map_nil, h31]
      refine (cbody_any _ sz r B1 (unhide HB1) w (unhide HCK2 w hk)).mono ?_
      rintro e w' ⟨ao, m, c, rfl, R, K⟩
      exact ⟨_, rfl, K, R⟩
    refine steps_cons (fun a w hk hn => ?_) ?_
    · have h32 : Sl w (a.eval (.tmp 32)) (B1) := hn.1
      clear hn
      refine wants_plain rfl ?_
      exact grown_conv (.tmp 32) _ _ 5 _ rfl h32 Tryd.underlying24 Tryd.underlying5 Tryd.underlying9 (congrArg Value.string (unhide HS1).symm)
    refine steps_cons (fun a w hk hn => ?_) ?_
    · have h8 : a.eval (.tmp 8) = .pointer (some ⟨g8, 0, none⟩) := hn.1
      clear hn
      refine wants_plain rfl ?_
      exact grown_loadf 27 (.tmp 8) rfl g8 0 h8 _ _ _ _ (unhide HU8 w hk) [.int .i64 sz, .slice ar mr cr] (flat_in rfl) Tryd.underlying27 rfl Tryd.chkSize rfl
    refine steps_cons (fun a w hk hn => ?_) ?_
    · have h34 : a.eval (.tmp 34) = .agg #[.int .i64 sz, .slice ar mr cr] := hn.1
      clear hn
      refine wants_plain rfl ?_
      refine grown_call (f := 28) rfl Tryd.func28 (by kernel_rfl) (by kernel_rfl) ?_
      simp only [List.map_toArray, List.map_cons, List.map_nil, h34]
      refine (rckbody_any _ sz r B2 (unhide HB2) w (unhide HCK2 w hk)).mono ?_
      rintro e w' ⟨ao, m, c, rfl, R, K⟩
      exact ⟨_, rfl, K, R⟩
    refine steps_cons (fun a w hk hn => ?_) ?_
    · have h35 : Sl w (a.eval (.tmp 35)) (B2) := hn.1
      clear hn
      refine wants_plain rfl ?_
      exact grown_conv (.tmp 35) _ _ 5 _ rfl h35 Tryd.underlying24 Tryd.underlying5 Tryd.underlying9 (congrArg Value.string (unhide HS2).symm)
    refine steps_cons (fun a w hk hn => ?_) ?_
    · have h33 : a.eval (.tmp 33) = .string S1 := hn.1
      have h36 : a.eval (.tmp 36) = .string S2 := hn.2.1
      clear hn
      refine wants_plain rfl ?_
      refine grown_run (v := .bool true) ?_ (Kp.refl _ _) rfl
      obtain ⟨ρ, hρ, hc, hf, hg⟩ := eval_is a
      rw [hρ] at h33 h36 ⊢
      simp [go_sem, h33, h36, hSS]
    refine steps_cons (fun a w hk hn => ?_) ?_
    · have h37 : a.eval (.tmp 37) = .bool true := hn.1
      clear hn
      refine wants_plain rfl ?_
      exact grown_move (.tmp 37) rfl h37
    refine steps_cons (fun a w hk hn => ?_) ?_
    · have h9 : a.eval (.tmp 9) = .pointer (some ⟨g9, 0, none⟩) := hn.1
      have h38 : a.eval (.tmp 38) = .bool true := hn.2.1
      clear hn
      refine wants_guard (d := 38) rfl rfl h38 ?_
      exact grown_loadf 42 (.tmp 9) rfl g9 0 h9 _ _ _ _ (unhide HU9 w hk) [.slice al ml cl, .slice aw mw cw, .int .i64 1] (flat_in rfl) Tryd.underlying42 rfl Tryd.polSize rfl
    refine steps_cons (fun a w hk hn => ?_) ?_
    · have h8 : a.eval (.tmp 8) = .pointer (some ⟨g8, 0, none⟩) := hn.1
      have h38 : a.eval (.tmp 38) = .bool true := hn.2.1
      clear hn
      refine wants_guard (d := 38) rfl rfl h38 ?_
      exact grown_loadf 27 (.tmp 8) rfl g8 0 h8 _ _ _ _ (unhide HU8 w hk) [.int .i64 sz, .slice ar mr cr] (flat_in rfl) Tryd.underlying27 rfl Tryd.chkSize rfl
    refine steps_cons (fun a w hk hn => ?_) ?_
    · have h11 : a.eval (.tmp 11) = .pointer (some ⟨g11, 0, none⟩) := hn.1
      have h38 : a.eval (.tmp 38) = .bool true := hn.2.1
      clear hn
      refine wants_guard (d := 38) rfl rfl h38 ?_
      exact grown_loadf 33 (.tmp 11) rfl g11 0 h11 _ _ _ _ (unhide HU11 w hk) [.int .i64 kn, .int .i64 2, .slice ap np cp, .slice aq nq cq] (flat_in rfl) Tryd.underlying33 rfl Tryd.cosSize rfl
    refine steps_cons (fun a w hk hn => ?_) ?_
    · have h39 : a.eval (.tmp 39) = .agg #[.slice al ml cl, .slice aw mw cw, .int .i64 1] := hn.1
      have h40 : a.eval (.tmp 40) = .agg #[.int .i64 sz, .slice ar mr cr] := hn.2.1
      have h41 : a.eval (.tmp 41) = .agg #[.int .i64 kn, .int .i64 2, .slice ap np cp, .slice aq nq cq] := hn.2.2.1
      have h38 : a.eval (.tmp 38) = .bool true := hn.2.2.2.1
      clear hn
      refine wants_guard (d := 38) rfl rfl h38 ?_
      refine grown_call (f := 20) rfl Tryd.func20 (by kernel_rfl) (by kernel_rfl) ?_
      simp only [List.map_toArray, List.map_cons, List.map_nil, h39, h40, h41]
      refine (cverify_any _ (polK 2 1) _ sz r _ _ bv (unhide HBV) w (unhide HPO w hk) (unhide HCK2 w hk) (unhide HVG w hk) (unhide HGW w hk)).mono ?_
      rintro e w' ⟨rfl, K⟩
      exact ⟨_, rfl, K, rfl⟩
    refine steps_cons (fun a w hk hn => ?_) ?_
    · have h9 : a.eval (.tmp 9) = .pointer (some ⟨g9, 0, none⟩) := hn.1
      have h38 : a.eval (.tmp 38) = .bool true := hn.2.1
      clear hn
      refine wants_guard (d := 38) rfl rfl h38 ?_
      exact grown_loadf 42 (.tmp 9) rfl g9 0 h9 _ _ _ _ (unhide HU9 w hk) [.slice al ml cl, .slice aw mw cw, .int .i64 1] (flat_in rfl) Tryd.underlying42 rfl Tryd.polSize rfl
    refine steps_cons (fun a w hk hn => ?_) ?_
    · have h8 : a.eval (.tmp 8) = .pointer (some ⟨g8, 0, none⟩) := hn.1
      have h38 : a.eval (.tmp 38) = .bool true := hn.2.1
      clear hn
      refine wants_guard (d := 38) rfl rfl h38 ?_
      exact grown_loadf 27 (.tmp 8) rfl g8 0 h8 _ _ _ _ (unhide HU8 w hk) [.int .i64 sz, .slice ar mr cr] (flat_in rfl) Tryd.underlying27 rfl Tryd.chkSize rfl
    refine steps_cons (fun a w hk hn => ?_) ?_
    · have h11 : a.eval (.tmp 11) = .pointer (some ⟨g11, 0, none⟩) := hn.1
      have h38 : a.eval (.tmp 38) = .bool true := hn.2.1
      clear hn
      refine wants_guard (d := 38) rfl rfl h38 ?_
      exact grown_loadf 33 (.tmp 11) rfl g11 0 h11 _ _ _ _ (unhide HU11 w hk) [.int .i64 kn, .int .i64 2, .slice ap np cp, .slice aq nq cq] (flat_in rfl) Tryd.underlying33 rfl Tryd.cosSize rfl
    refine steps_cons (fun a w hk hn => ?_) ?_
    · have h43 : a.eval (.tmp 43) = .agg #[.slice al ml cl, .slice aw mw cw, .int .i64 1] := hn.1
      have h44 : a.eval (.tmp 44) = .agg #[.int .i64 sz, .slice ar mr cr] := hn.2.1
      have h45 : a.eval (.tmp 45) = .agg #[.int .i64 kn, .int .i64 2, .slice ap np cp, .slice aq nq cq] := hn.2.2.1
      have h38 : a.eval (.tmp 38) = .bool true := hn.2.2.2.1
      clear hn
      refine wants_guard (d := 38) rfl rfl h38 ?_
      refine grown_call (f := 21) rfl Tryd.func21 (by kernel_rfl) (by kernel_rfl) ?_
      simp only [List.map_toArray, List.map_cons, List.map_nil, h43, h44, h45]
      refine (rcosigned_any _ (polK 2 1) _ sz r _ _ bv (unhide HBV) w (unhide HPO w hk) (unhide HCK2 w hk) (unhide HVG w hk) (by show _ ≤ (2 : Int) ∧ (2 : Int) ≤ _; omega)).mono ?_
      rintro e w' ⟨rfl, K⟩
      exact ⟨_, rfl, K, rfl⟩
    refine steps_cons (fun a w hk hn => ?_) ?_
    · have h42 : a.eval (.tmp 42) = .bool bv := hn.1
      have h46 : a.eval (.tmp 46) = .bool bv := hn.2.1
      have h38 : a.eval (.tmp 38) = .bool true := hn.2.2.1
      clear hn
      refine wants_guard (d := 38) rfl rfl h38 ?_
      refine grown_run (v := .bool true) ?_ (Kp.refl _ _) rfl
      obtain ⟨ρ, hρ, hc, hf, hg⟩ := eval_is a
      rw [hρ] at h42 h46 ⊢
      simp [go_sem, h42, h46]
    refine steps_cons (fun a w hk hn => ?_) ?_
    · have h38 : a.eval (.tmp 38) = .bool true := hn.1
      have h47 : a.eval (.tmp 47) = .bool true := hn.2.1
      clear hn
      refine wants_plain rfl ?_
      exact grown_pick _ _ _ true rfl h38 h47
    refine steps_cons (fun a w hk hn => ?_) ?_
    · have h48 : a.eval (.tmp 48) = .bool true := hn.1
      clear hn
      refine wants_plain rfl ?_
      exact grown_move (.tmp 48) rfl h48
    refine steps_cons (fun a w hk hn => ?_) ?_
    · have h8 : a.eval (.tmp 8) = .pointer (some ⟨g8, 0, none⟩) := hn.1
      have h49 : a.eval (.tmp 49) = .bool true := hn.2.1
      clear hn
      refine wants_guard (d := 49) rfl rfl h49 ?_
      exact grown_loadf 27 (.tmp 8) rfl g8 0 h8 _ _ _ _ (unhide HU8 w hk) [.int .i64 sz, .slice ar mr cr] (flat_in rfl) Tryd.underlying27 rfl Tryd.chkSize rfl
    refine steps_cons (fun a w hk hn => ?_) ?_
    · have h50 : a.eval (.tmp 50) = .agg #[.int .i64 sz, .slice ar mr cr] := hn.1
      have h49 : a.eval (.tmp 49) = .bool true := hn.2.1
      clear hn
      refine wants_guard (d := 49) rfl rfl h49 ?_
      refine grown_call (f := 15) rfl Tryd.func15 (by kernel_rfl) (by kernel_rfl) ?_
      simp only [List.map_toArray, List.map_cons, List.map_nil, h50]
      refine (cbody_any _ sz r B1 (unhide HB1) w (unhide HCK2 w hk)).mono ?_
      rintro e w' ⟨ao, m, c, rfl, R, K⟩
      exact ⟨_, rfl, K, R⟩
    refine steps_cons (fun a w hk hn => ?_) ?_
    · have h51 : Sl w (a.eval (.tmp 51)) (B1) := hn.1
      have h49 : a.eval (.tmp 49) = .bool true := hn.2.1
      clear hn
      refine wants_guard (d := 49) rfl rfl h49 ?_
      exact grown_blen (.tmp 51) (B1) 53 rfl h51 (unhide HL1)
    refine steps_cons (fun a w hk hn => ?_) ?_
    · have h52 : a.eval (.tmp 52) = .int .i64 53 := hn.1
      have h49 : a.eval (.tmp 49) = .bool true := hn.2.1
      clear hn
      refine wants_guard (d := 49) rfl rfl h49 ?_
      refine grown_run (v := .bool true) ?_ (Kp.refl _ _) rfl
      obtain ⟨ρ, hρ, hc, hf, hg⟩ := eval_is a
      rw [hρ] at h52 ⊢
      simp [go_sem, hc, h52]
    refine steps_cons (fun a w hk hn => ?_) ?_
    · have h49 : a.eval (.tmp 49) = .bool true := hn.1
      have h53 : a.eval (.tmp 53) = .bool true := hn.2.1
      clear hn
      refine wants_plain rfl ?_
      exact grown_pick _ _ _ true rfl h49 h53
    refine steps_cons (fun a w hk hn => ?_) ?_
    · have h54 : a.eval (.tmp 54) = .bool true := hn.1
      clear hn
      refine wants_plain rfl ?_
      exact grown_move (.tmp 54) rfl h54
    refine steps_cons (fun a w hk hn => ?_) ?_
    · have h55 : a.eval (.tmp 55) = .bool true := hn.1
      clear hn
      refine wants_guard (d := 55) rfl rfl h55 ?_
      refine grown_call (f := 17) rfl Tryd.func17 (by kernel_rfl) (by kernel_rfl) ?_
      simp only [List.map_toArray, List.map_nil]
      refine (known_any w (unhide HGW w hk)).mono ?_
      rintro e w' ⟨rfl, K⟩
      exact ⟨_, rfl, K, rfl⟩
    refine steps_cons (fun a w hk hn => ?_) ?_
    · have h55 : a.eval (.tmp 55) = .bool true := hn.1
      have h56 : a.eval (.tmp 56) = .bool true := hn.2.1
      clear hn
      refine wants_plain rfl ?_
      exact grown_pick _ _ _ true rfl h55 h56
    refine steps_cons (fun a w hk hn => ?_) ?_
    · have h57 : a.eval (.tmp 57) = .bool true := hn.1
      clear hn
      refine wants_plain rfl ?_
      exact grown_assign (.tmp 57) rfl h57
    exact trivial
  intro W2 hkW2
  rintro _ rfl
  intro v32 h32
  rintro _ rfl
  rintro _ rfl
  intro v35 h35
  rintro _ rfl
  rintro _ rfl
  rintro _ rfl
  rintro _ rfl
  rintro _ rfl
  rintro _ rfl
  rintro _ rfl
  rintro _ rfl
  rintro _ rfl
  rintro _ rfl
  rintro _ rfl
  rintro _ rfl
  rintro _ rfl
  rintro _ rfl
  rintro _ rfl
  intro v51 h51
  rintro _ rfl
  rintro _ rfl
  rintro _ rfl
  rintro _ rfl
  rintro _ rfl
  rintro _ rfl
  rintro _ rfl
  refine fin_nil ?_
  simp only [Act.put, List.set_cons_zero, List.set_cons_succ, List.setIfInBounds_toArray]
  go_wp2_with fail
  go_ret
  exact ⟨rfl, (unhide HKD W2 hkW2).below (Nat.le_refl _) (by simp)⟩

set_option maxRecDepth 100000 in
theorem lifted (os : Os) (started : os.Started) (H : Type) (enc : TypeId × Value → H) :
    ReturnsInHanded {} Tryd.checked os 7 .any (fun w args => (Rows.cosignApartSpec.pre enc Tryd.prog Tryd.f7 [] false w args ∧ laidMetH Tryd.prog laid1 w) ∧ sizedMet enc Tryd.prog Tryd.f7 (OpenSpec.ofChange Rows.cosignApartSpec) false w args) (Rows.cosignApartSpec.post enc Tryd.prog Tryd.f7 false true false false) := by
  refine returnsInHanded_of_change_and (C := Tryd.checked) (X := fun w _ => laidMetH Tryd.prog laid1 w) (fun _ _ _ hh h => h.of_heap hh) own started (by kernel_rfl) Tryd.func7
    (ChangeSpec.witness_shaped (enc := enc) (C := Tryd.checked) (os := os) (X := fun w _ => laidMetH Tryd.prog laid1 w) false (World.doorLaid Tryd.prog 400 os) #[.int .i64 0, .int .i64 0, .int .i64 0] 8 rfl (World.shaped_of_RefB (by kernel_rfl) (by kernel_rfl)) (by kernel_rfl) (by kernel_rfl) (by kernel_rfl) (door_met os _)) ?_
  intro W base args ds gs before hval0 hW hcnd hsz0 hL _
  have hG := gl_of_laid hL
  have hval : ∀ (j : Nat) t v, Tryd.f7.params[j]? = some t → args[j]? = some v → Value.okWide Tryd.prog W .any base t v := hval0
  have hW' := hW
  obtain ⟨p, q, hA0, hV, rfl, hfz, hnd⟩ := hW
  have hA : DataW.TrodAll enc Tryd.prog W 0 (fun _ => true) true Tryd.f7.params.toList args.toList ds p := hA0
  rw [Tryd.params7] at hA hval
  obtain ⟨v0, vs0, d0, ds0, p0, q0, hargs, rfl, rfl, h0, r0⟩ := trodAll_cons hA
  obtain ⟨v1, vs1, d1, ds1, p1, q1, rfl, rfl, rfl, h1, r1⟩ := trodAll_cons r0
  obtain ⟨v2, vs2, d2, ds2, p2, q2, rfl, rfl, rfl, h2, r2⟩ := trodAll_cons r1
  obtain ⟨rfl, rfl, rfl⟩ := trodAll_nil r2
  obtain rfl : args = #[v0, v1, v2] := by cases args; simp_all
  obtain ⟨rfl, rfl⟩ := trodVars_none hV
  obtain ⟨a0, rfl, rfl, rfl, w0⟩ := open_int Tryd.underlying3 (hval 0 3 v0 rfl rfl) h0
  obtain ⟨a1, rfl, rfl, rfl, w1⟩ := open_int Tryd.underlying3 (hval 1 3 v1 rfl rfl) h1
  obtain ⟨a2, rfl, rfl, rfl, w2⟩ := open_int Tryd.underlying3 (hval 2 3 v2 rfl rfl) h2
  clear hA0 hval0
  refine (walk a0 a1 a2 W hG (bounds_i64 w0) (bounds_i64 w1) (bounds_i64 w2)).mono fun e W' ⟨he, bel⟩ => ?_
  subst he
  exact ⟨_, rfl, _, _, _, [], _, [], hW', trodAll_mk1 (shut_bool Tryd.underlying4 _), (trodAll_cons_mk (shut_int Tryd.underlying3 w0) (trodAll_cons_mk (shut_int Tryd.underlying3 w1) (trodAll_cons_mk (shut_int Tryd.underlying3 w2) trodAll_mk0))), rfl, bel.frame _, fun h => by cases h⟩

theorem over : Rows.cosignApartRow.holds Tryd.pinned (OpenSpec.ofChange Rows.cosignApartSpec) :=
  OpenClaim.holds_of_wide 7 Tryd.f7 rfl rfl rfl rfl rfl rfl rfl ⟨rfl, rfl, rfl, rfl, rfl⟩ rfl rfl rfl rfl rfl (by kernel_rfl) Tryd.func7 (by kernel_rfl)
    (of_decide_eq_true (by kernel_rfl)) (by unfold Func.isWrapper; first | (rw [if_pos (by decide +kernel)]; kernel_rfl) | (rw [if_neg (by decide +kernel)]; exact ⟨rfl, rfl⟩))
    (fun os started H enc _ => lifted os started H enc)
end Go.Proofs.YtdjofooggofpkaaDoor.cosignApart

namespace Go.Proofs.YtdjofooggofpkaaDoor
/-- The given statement: the tied card. -/
theorem CosignApart_holds : Rows.CosignApartCardSaid :=
  Claim7.holds_tied_plain_at .later [] [.data] true Rows.cosignApartCard.stood.harness false
    cosignApart.over (fun _ h => by cases h) (by kernel_rfl) (fun _ h => by cases h) cosignApart_row_tie rfl ⟨rfl, rfl⟩ (by kernel_rfl) rfl
    (fun f fn hf hfn => by
      obtain rfl : f = 7 := Option.some.inj ((show Tryd.prog.funcNamed "broadsheet/broadsheetlaw11.CosignApart" = some 7 by kernel_rfl).symm.trans hf) |>.symm
      obtain rfl : fn = Tryd.f7 := (Option.some.inj (Tryd.func7.symm.trans hfn)).symm
      exact ⟨by kernel_rfl, fun j t ht => by
        rw [Tryd.params7] at ht
        have hm : t ∈ ([3, 3, 3] : List TypeId) := by simpa using Array.mem_of_getElem? ht
        have hall : (([3, 3, 3] : List TypeId).all fun u => !Tryd.prog.wantsStandIn u) = true := by kernel_rfl
        exact (show Tryd.prog.wantsStandIn t = false by simpa using List.all_eq_true.1 hall t hm)⟩)
    (by kernel_rfl)
#print axioms CosignApart_holds
end Go.Proofs.YtdjofooggofpkaaDoor
