/-
  The contract of the law package's known, and what it stands on: the public keys of the first two seeds are unlike.
-/
import Derived.Test.YtdjofooggofpkaaGreatDoorKYOwn
import Derived.Test.YtdjofooggofpkaaGreatDoorKYProg
import Derived.Test.YtdjofooggofpkaaGreatDoorKYMixs
import Derived.Test.YtdjofooggofpkaaGreatDoorKHTopAs
namespace Go.Proofs.YtdjofooggofpkaaGreatDoor
open Go.RowKit
open Go.Proofs

/-- a cosignature in the name of k with a seed's key i. -/
def sgW (seed : List Int) (i : Nat) (k n : Int) (r : List Int) : Co := ⟨k, i, sgnP seed i (digP (bodW n r)), pthP seed i 4⟩
theorem sgW_big (seed : List Int) (i : Nat) (hi : i < 16) (k n : Int) (r : List Int) : (sgW seed i k n r).big := by
  have h := (rgtP_iff _ _ _).1 (rgtP_sgn seed i hi (digP (bodW n r)))
  refine ⟨.inr ?_, .inr ?_⟩
  · show 3 ≤ (sgnP seed i (digP (bodW n r))).length
    rw [h.2.1.1]; omega
  · show 3 ≤ (pthP seed i 4).length
    rw [h.2.2.1]; omega
theorem getD_range {α : Type} (f : Nat → α) (d : α) {n i : Nat} (h : i < n) : ((List.range n).map f).getD i d = f i := by simp [List.getD, h]
theorem ownK_at {n i : Nat} (h : i < n) : (ownK n).getD i [] = topP (seedX (i : Nat)) := getD_range (fun i : Nat => topP (seedX (i : Nat))) [] h
theorem keysK_own {n : Nat} (hd : ∀ i, i < n → ∀ j, j < i → topP (seedX (j : Nat)) ≠ topP (seedX (i : Nat))) : keysK (ownK n) n := fun i hi => by
  rw [ownK_at hi]
  refine ⟨(topP_ok _).1, fun j hj => ?_⟩
  rw [ownK_at (by omega)]
  exact hd i hi j hj
theorem polK_rgt {n : Nat} (hn : n ≤ 4) (q : Int) (hd : ∀ i, i < n → ∀ j, j < i → topP (seedX (j : Nat)) ≠ topP (seedX (i : Nat))) : (polK n q).rgt = decide (1 ≤ q ∧ q ≤ n) := by
  unfold Po.rgt polK
  simp only [ownK_len, hashX_len]
  rw [decide_eq_true (keysK_own hd), decide_eq_true hn]
  by_cases h1 : 1 ≤ q <;> by_cases h2 : q ≤ n <;> simp [h1, h2]
theorem verW_sg {p : Po} {seed : List Int} {i k : Nat} {n : Int} {r : List Int} (hp : p.rgt = true) (hr : rgtC n r = true) (hi : i < 16) (hk : k < p.ws.length) (he : p.ws.getD k [] = topP seed) : verW p n r (sgW seed i k n r) = true := by
  unfold verW sgW
  simp only [hp, hr, Int.toNat_natCast, he, verP_sgn seed (bodW n r) i hi]
  simp
  omega
theorem t01 : topP (seedX 0) ≠ topP (seedX 1) := by rw [topX0, topX1]; decide
theorem unl2 : ∀ i, i < 2 → ∀ j, j < i → topP (seedX (j : Nat)) ≠ topP (seedX (i : Nat)) := fun i hi j hj => by
  obtain rfl : i = 1 := by omega
  obtain rfl : j = 0 := by omega
  exact t01
theorem ck1_rgt : rgtC 1 (hashX 1) = true := (rgtC_iff _ _).2 ⟨by omega, hashX_len 1⟩
theorem kn_ver : verW (polK 2 2) 1 (hashX 1) (sgW (seedX 1) 0 1 1 (hashX 1)) = true := verW_sg (k := 1) (by rw [polK_rgt (by omega) 2 unl2]; decide) ck1_rgt (by omega) (by show 1 < (ownK 2).length; rw [ownK_len]; omega) (ownK_at (by omega))
theorem seen_two {p : Po} {n : Int} {r : List Int} {c : Co} (h : verW p n r c = true) (j : Int) : seenW p n r [c, c] j = decide (c.k = j) := by simp [seenW, h]
theorem cnt_two {p : Po} {n : Int} {r : List Int} {c : Co} (h : verW p n r c = true) (hk : c.k = 1) : cntW p n r [c, c] = 1 := by
  unfold cntW
  simp only [seen_two h, hk]
  rfl
theorem sgW_k (seed : List Int) (i : Nat) (k n : Int) (r : List Int) : (sgW seed i k n r).k = k := rfl
theorem kn_cnt : cntW (polK 2 2) 1 (hashX 1) [(sgW (seedX 1) 0 1 1 (hashX 1)), (sgW (seedX 1) 0 1 1 (hashX 1))] = 1 := cnt_two kn_ver (sgW_k _ _ _ _ _)
theorem kn_met : false = ((polK 2 2).rgt && decide ((polK 2 2).q ≤ (cntW (polK 2 2) 1 (hashX 1) [(sgW (seedX 1) 0 1 1 (hashX 1)), (sgW (seedX 1) 0 1 1 (hashX 1))] : Nat))) := by
  rw [kn_cnt]
  have : decide ((polK 2 2).q ≤ ((1 : Nat) : Int)) = false := decide_eq_false (by show ¬ (2 : Int) ≤ ((1 : Nat) : Int); omega)
  rw [this, Bool.and_false]
theorem kn_met0 (l : List Co) : false = ((polK 2 0).rgt && decide ((polK 2 0).q ≤ (cntW (polK 2 0) 1 (hashX 1) l : Nat))) := by
  rw [polK_rgt (by omega) 0 unl2, decide_eq_false (by omega), Bool.false_and]
theorem col_one {w : World} {g : Nat} {k i : Int} {ap aq : Option Addr} {np cp nq cq : Nat} {t : TypeId} {fr : Nat × Nat} {c : Co} (hg : w.heap[g]? = some (.cells #[.int .i64 k, .int .i64 i, .slice ap np cp, .slice aq nq cq] t fr)) (h : CoV w (.agg #[.int .i64 k, .int .i64 i, .slice ap np cp, .slice aq nq cq]) c) : CoL w (.slice (some ⟨g, 0, none⟩) 1 1) [c] := by
  refine ⟨_, _, rfl, by simp, fun j hj => ?_⟩
  obtain rfl : j = 0 := by simp at hj; omega
  obtain ⟨ap', np', cp', aq', nq', cq', e, hs⟩ := h
  simp only [Value.agg.injEq, Array.mk.injEq, List.cons.injEq, and_true] at e
  obtain ⟨e0, e1, e2, e3⟩ := e
  rw [e0, e1, e2, e3] at hg
  exact ⟨g, 0, ap', np', cp', aq', nq', cq', rfl, flat_range hg _ _ (flat_in rfl), hs⟩
theorem col_two {w : World} {g : Nat} {k i : Int} {ap aq : Option Addr} {np cp nq cq : Nat} {t : TypeId} {fr : Nat × Nat} {c : Co} (hg : w.heap[g]? = some (.cells #[.int .i64 k, .int .i64 i, .slice ap np cp, .slice aq nq cq, .int .i64 k, .int .i64 i, .slice ap np cp, .slice aq nq cq] t fr)) (h : CoV w (.agg #[.int .i64 k, .int .i64 i, .slice ap np cp, .slice aq nq cq]) c) : CoL w (.slice (some ⟨g, 0, none⟩) 2 2) [c, c] := by
  refine ⟨_, _, rfl, by simp, fun j hj => ?_⟩
  obtain ⟨ap', np', cp', aq', nq', cq', e, hs⟩ := h
  simp only [Value.agg.injEq, Array.mk.injEq, List.cons.injEq, and_true] at e
  obtain ⟨e0, e1, e2, e3⟩ := e
  rw [e0, e1, e2, e3] at hg
  have : j = 0 ∨ j = 1 := by simp at hj; omega
  rcases this with rfl | rfl
  · exact ⟨g, 0, ap', np', cp', aq', nq', cq', rfl, flat_range hg _ _ (flat_in rfl), hs⟩
  · exact ⟨g, 0, ap', np', cp', aq', nq', cq', rfl, flat_range hg _ _ (flat_in rfl), hs⟩

set_option maxRecDepth 100000 in
set_option maxHeartbeats 8000000 in
theorem known_any (w : World) (hG : Gl w) :
    Calls Tryz.prog 21 #[] w fun e w' => e = .returned (.bool true) ∧ Kp [] w w' := by
  have HG := hide hG
  clear hG
  go_enter Tryz.func21, Tryz.ntmps21
  go_wp2_with fail
  refine (owners_any 2 (by omega) w).mono ?_
  rintro ee w1 ⟨ao, co, rfl, R1⟩
  have HO1 := hide R1.owl
  have HK1 := hide R1.kp
  have HC := hide (policy_any _ 2 2 w1 R1.owl (by omega))
  clear R1
  go_wp2_with fail
  refine (unhide HC).mono ?_
  rintro ee w2 ⟨al, ml, cl, aw, mw, cw, rfl, S2, A2⟩
  have HK2 := hide ((unhide HK1).trans A2.kp)
  have HP2 := hide (pol_v (q := 2) (by omega) S2 A2)
  have HQ2 := hide (pol_v (q := 0) (by omega) S2 A2)
  have HO2 := hide ((unhide HO1).kept A2.kp)
  have Ga := heap_alloc_new w2 (.cells #[.slice none 0 0, .slice none 0 0, .int .i64 0] 83)
  have HKa : Hid (Kp [] w2 (w2.alloc (.cells #[.slice none 0 0, .slice none 0 0, .int .i64 0] 83))) := (Kp.refl [] w2).alloc _
  clear HC HO1 HK1 S2 A2
  go_wp2_with (refine wpList_store_flat rfl 83 (.tmp 2) (.tmp 11) rfl w2.heap.size 0 rfl _ _ [.slice al ml cl, .slice aw mw cw, .int .i64 2] Ga rfl (by simp) Tryz.polSize (by simp [Value.oneCell']) #[.slice al ml cl, .slice aw mw cw, .int .i64 2] rfl ?_; intro w3 G3 K3; refine Hid.out ?_)
  obtain ⟨g2, hg2⟩ : ∃ g, g = w2.heap.size := ⟨_, rfl⟩
  have K23 : Kp [] w2 w3 := (unhide HKa).then K3 (fun i hi => .inr (by simp at hi; omega))
  rw [← hg2] at G3 ⊢
  have HK3 := hide ((unhide HK2).trans K23)
  have HP3 := hide ((unhide HP2).kept K23)
  have HQ3 := hide ((unhide HQ2).kept K23)
  have HO3 := hide ((unhide HO2).kept K23)
  have HG3 := hide G3
  clear Ga HKa G3 K3 K23 hg2 HP2 HQ2 HO2 HK2
  refine hide ?_
  go_wp2_with fail
  refine (xhash_any 1 w3).mono ?_
  rintro ee w4 ⟨ar, mr, cr, rfl, R4, K4⟩
  have HS4 := hide R4.sl
  have HK4 := hide K4
  have Ga := heap_alloc_new w4 (.cells #[.int .i64 0, .slice none 0 0] 33)
  have HKa : Hid (Kp [] w4 (w4.alloc (.cells #[.int .i64 0, .slice none 0 0] 33))) := (Kp.refl [] w4).alloc _
  clear R4 K4
  go_wp2_with (refine wpList_store_flat rfl 33 (.tmp 3) (.tmp 13) rfl w4.heap.size 0 rfl _ _ [.int .i64 1, .slice ar mr cr] Ga rfl (by simp) Tryz.chkSize (by simp [Value.oneCell']) #[.int .i64 1, .slice ar mr cr] rfl ?_; intro w6 G6 K6; refine Hid.out ?_)
  obtain ⟨g3, hg3⟩ : ∃ g, g = w4.heap.size := ⟨_, rfl⟩
  have K46 : Kp [] w4 w6 := (unhide HKa).then K6 (fun i hi => .inr (by simp at hi; omega))
  rw [← hg3] at G6 ⊢
  have K36 := (unhide HK4).trans K46
  have HK6 := hide ((unhide HK3).trans K36)
  have HP6 := hide ((unhide HP3).kept K36)
  have HQ6 := hide ((unhide HQ3).kept K36)
  have HO6 := hide ((unhide HO3).kept K36)
  have HG26 := hide (K36.heap (unhide HG3) (by simp))
  have HG36 := hide G6
  have HC6 : Hid (CkV w6 (.agg #[.int .i64 1, .slice ar mr cr]) 1 (hashX 1)) := ⟨ar, mr, cr, rfl, (unhide HS4).kept K46 (by simp), hashX_bs 1⟩
  clear Ga HKa G6 K6 K46 K36 hg3 HP3 HQ3 HO3 HK3 HG3 HS4 HK4
  refine hide ?_
  obtain ⟨ao', co', e', -, hcell⟩ := unhide HO6
  injection e' with e1 e2 e3
  subst e1
  obtain ⟨bo, oo, go, base, rfl, hx, hOw⟩ := hcell 1 (by omega)
  obtain ⟨sa, sn, sc, gl, c5, hs0, -, hSs, -⟩ := hOw.open
  have HX6 := hide hx
  have HS6 := hide hs0
  have HSS6 := hide hSs
  have HD : Hid (∀ w', Kp [] w6.drew w' → Kp [] w6 w') := fun w' k' => (kp_drew w6).trans k'
  have HT3 : Hid (∀ w', Kp [] w6.drew w' → w'.heap[g3]? = some (.cells #[.int .i64 1, .slice ar mr cr] 33 (0, 0))) := fun w' k' => (unhide HD w' k').heap (unhide HG36) (by simp)
  have HXO : Hid (∀ w', Kp [] w6.drew w' → w'.cell? ⟨bo, oo + 1, none⟩ = some (.pointer (some ⟨go, 0, none⟩))) := fun w' k' => (unhide HD w' k').cell (unhide HX6) (by simp)
  have HXS : Hid (∀ w', Kp [] w6.drew w' → w'.cell? ⟨go, 0, none⟩ = some (.slice sa sn sc)) := fun w' k' => (unhide HD w' k').cell (unhide HS6) (by simp)
  have HSS : Hid (∀ w', Kp [] w6.drew w' → Sl w' (.slice sa sn sc) (seedX 1)) := fun w' k' => (unhide HSS6).kept (unhide HD w' k') (by simp)
  have HCV : Hid (∀ w', Kp [] w6.drew w' → CkV w' (.agg #[.int .i64 1, .slice ar mr cr]) 1 (hashX 1)) := fun w' k' => (unhide HC6).kept (unhide HD w' k')
  have HGW : Hid (∀ w', Kp [] w6.drew w' → Gl w') := fun w' k' => (unhide HG).kept ((unhide HK6).trans (unhide HD w' k')) (by simp)
  clear hcell hx hOw hs0 hSs e2 e3
  go_wp2_with fail
  refine region_growL (K := KN w6.drew.heap.size) (G := GN w6.drew 12 4 23) Tryz.mixed [Is (.slice (some ⟨bo, oo, none⟩) 2 co), Is (.pointer (some ⟨bo, oo + 1, none⟩)), Is (.pointer (some ⟨go, 0, none⟩)), Is (.pointer (some ⟨go, 0, none⟩)), Is (.pointer (some ⟨go, 0, none⟩)), Is (.slice sa sn sc), Is (.agg #[.int .i64 1, .slice ar mr cr]), PrT w6.drew.heap.size (sgW (seedX 1) 0 1 1 (hashX 1)) 0, PrT w6.drew.heap.size (sgW (seedX 1) 0 1 1 (hashX 1)) 0, CoAT w6.drew.heap.size (sgW (seedX 1) 0 1 1 (hashX 1)), Is (.int .i64 0), NewX w6.drew.heap.size, AnyT, Is (.int .i64 0)] [[(1, none)], [(15, some 0)], [(16, some 1)], [(17, some 2)], [(18, some 3)], [(19, some 4)], [(3, none)], [(20, some 5), (21, some 6)], [(22, some 7)], [(14, some 8)], [(14, some 8)], [], [(4, some 11), (23, some 9)], [(24, some 10)]] (by kernel_rfl) ?_ ?_ ?_ ?_ ?_
  · intro k R hR hd w'
    have hk : k < 14 := by have := (List.getElem?_eq_some_iff.1 hR).1; simpa using this
    rcases (by omega : k = 0 ∨ k = 1 ∨ k = 2 ∨ k = 3 ∨ k = 4 ∨ k = 5 ∨ k = 6 ∨ k = 7 ∨ k = 8 ∨ k = 9 ∨ k = 10 ∨ k = 11 ∨ k = 12 ∨ k = 13) with rfl | rfl | rfl | rfl | rfl | rfl | rfl | rfl | rfl | rfl | rfl | rfl | rfl | rfl <;> first | (cases hR; exact trivial) | cases hd
  · simp only [List.mem_cons, List.not_mem_nil, or_false]
    intro R hR
    rcases hR with rfl | rfl | rfl | rfl | rfl | rfl | rfl | rfl | rfl | rfl | rfl | rfl | rfl | rfl <;> first | exact stableN_is _ | exact stableN_sl _ | exact stableN_any | exact stableN_new _ | exact stableN_coat _ (sgW_big _ _ (by omega) _ _ _) (Nat.le_refl _) | exact stableN_prt _ _ (sgW_big _ _ (by omega) _ _ _) (Nat.le_refl _)
  · exact ⟨Kp.refl _ _, fun h => by simp at h⟩
  · refine steps_consL (fun listed a w hnot hdep hcl hsz hg hn => ?_) ?_
    · have h1 : a.eval (.tmp 1) = .slice (some ⟨bo, oo, none⟩) 2 co := hn.1
      clear hn
      have hk := hg.1
      refine wantsG_of1M (fun _ k => .inl k) (fun v w' k => hg.free 0 (by decide) 15 (fun h => absurd h (by decide)) v k) ?_
      refine wants_plain rfl ?_
      exact grown_move (.tmp 1) rfl h1
    refine steps_consL (fun listed a w hnot hdep hcl hsz hg hn => ?_) ?_
    · have h15 : a.eval (.tmp 15) = .slice (some ⟨bo, oo, none⟩) 2 co := hn.1
      clear hn
      have hk := hg.1
      refine wantsG_of1M (fun _ k => .inl k) (fun v w' k => hg.free 1 (by decide) 16 (fun h => absurd h (by decide)) v k) ?_
      refine wants_plain rfl ?_
      refine grown_run (v := .pointer (some ⟨bo, oo + 1, none⟩)) ?_ (Kp.refl _ _) rfl
      obtain ⟨ρ, hρ, hc, hf, hg⟩ := eval_is a
      rw [hρ] at h15 ⊢
      simp [go_sem, hc, h15]
    refine steps_consL (fun listed a w hnot hdep hcl hsz hg hn => ?_) ?_
    · have h16 : a.eval (.tmp 16) = .pointer (some ⟨bo, oo + 1, none⟩) := hn.1
      clear hn
      have hk := hg.1
      refine wantsG_of1M (fun _ k => .inl k) (fun v w' k => hg.free 2 (by decide) 17 (fun h => absurd h (by decide)) v k) ?_
      refine wants_plain rfl ?_
      refine grown_run (v := .pointer (some ⟨go, 0, none⟩)) ?_ (Kp.refl _ _) rfl
      have hcell := unhide HXO w hk
      obtain ⟨ρ, hρ, hc, hf, hg⟩ := eval_is a
      rw [hρ] at h16 ⊢
      simp [go_sem, h16, hcell]
    refine steps_consL (fun listed a w hnot hdep hcl hsz hg hn => ?_) ?_
    · have h17 : a.eval (.tmp 17) = .pointer (some ⟨go, 0, none⟩) := hn.1
      clear hn
      have hk := hg.1
      refine wantsG_of1M (fun _ k => .inl k) (fun v w' k => hg.free 3 (by decide) 18 (fun h => absurd h (by decide)) v k) ?_
      refine wants_plain rfl ?_
      refine grown_run (v := .pointer (some ⟨go, 0, none⟩)) ?_ (Kp.refl _ _) rfl
      obtain ⟨ρ, hρ, hc, hf, hg⟩ := eval_is a
      rw [hρ] at h17 ⊢
      simp [go_sem, h17]
    refine steps_consL (fun listed a w hnot hdep hcl hsz hg hn => ?_) ?_
    · have h18 : a.eval (.tmp 18) = .pointer (some ⟨go, 0, none⟩) := hn.1
      clear hn
      have hk := hg.1
      refine wantsG_of1M (fun _ k => .inl k) (fun v w' k => hg.free 4 (by decide) 19 (fun h => absurd h (by decide)) v k) ?_
      refine wants_plain rfl ?_
      refine grown_run (v := .pointer (some ⟨go, 0, none⟩)) ?_ (Kp.refl _ _) rfl
      obtain ⟨ρ, hρ, hc, hf, hg⟩ := eval_is a
      rw [hρ] at h18 ⊢
      simp [go_sem, h18]
    refine steps_consL (fun listed a w hnot hdep hcl hsz hg hn => ?_) ?_
    · have h19 : a.eval (.tmp 19) = .pointer (some ⟨go, 0, none⟩) := hn.1
      clear hn
      have hk := hg.1
      refine wantsG_of1M (fun _ k => .inl k) (fun v w' k => hg.free 5 (by decide) 20 (fun h => absurd h (by decide)) v k) ?_
      refine wants_plain rfl ?_
      refine grown_run (v := .slice sa sn sc) ?_ (Kp.refl _ _) rfl
      have hcell := unhide HXS w hk
      obtain ⟨ρ, hρ, hc, hf, hg⟩ := eval_is a
      rw [hρ] at h19 ⊢
      simp [go_sem, h19, hcell]
    refine steps_consL (fun listed a w hnot hdep hcl hsz hg hn => ?_) ?_
    · have h3 : a.eval (.tmp 3) = .pointer (some ⟨g3, 0, none⟩) := hn.1
      clear hn
      have hk := hg.1
      refine wantsG_of1M (fun _ k => .inl k) (fun v w' k => hg.free 6 (by decide) 21 (fun h => absurd h (by decide)) v k) ?_
      refine wants_plain rfl ?_
      exact grown_loadf 33 (.tmp 3) rfl g3 0 h3 _ _ _ _ (unhide HT3 w hk) [.int .i64 1, .slice ar mr cr] (flat_in rfl) Tryz.underlying33 rfl Tryz.chkSize rfl
    refine steps_consL (fun listed a w hnot hdep hcl hsz hg hn => ?_) ?_
    · have h20 : a.eval (.tmp 20) = .slice sa sn sc := hn.1
      have h21 : a.eval (.tmp 21) = .agg #[.int .i64 1, .slice ar mr cr] := hn.2.1
      clear hn
      have hk := hg.1
      refine wantsG_of1M (fun _ k => .inl k) (fun v w' k => hg.free 7 (by decide) 22 (fun h => absurd h (by decide)) v k) ?_
      refine wants_plain rfl ?_
      refine grown_call (f := 37) rfl Tryz.func37 (by kernel_rfl) (by kernel_rfl) ?_
      simp only [List.map_toArray, List.map_cons, List.map_nil, h20, h21]
      refine (csign_ok _ (seedX 1) 0 1 _ 1 (hashX 1) w (unhide HSS w hk) (seedX_bs 1) (seedX_len 1) (by omega) (by omega) ck1_rgt (unhide HGW w hk) (unhide HCV w hk)).mono ?_
      rintro e w' ⟨v, rfl, V, K⟩
      exact ⟨_, rfl, K, ⟨v, rfl, V.low hk.size⟩⟩
    refine steps_consL (fun listed a w hnot hdep hcl hsz hg hn => ?_) ?_
    · have h22 : (PrT w6.drew.heap.size (sgW (seedX 1) 0 1 1 (hashX 1)) 0) (a.eval (.tmp 22)) w := hn.1
      clear hn
      have hk := hg.1
      refine wantsG_of1M (fun _ k => .inl k) (fun v w' k => hg.free 8 (by decide) 14 (fun h => absurd h (by decide)) v k) ?_
      refine wants_plain rfl ?_
      exact grown_move (.tmp 22) rfl h22
    refine steps_consL (fun listed a w hnot hdep hcl hsz hg hn => ?_) ?_
    · have h14 : (PrT w6.drew.heap.size (sgW (seedX 1) 0 1 1 (hashX 1)) 0) (a.eval (.tmp 14)) w := hn.1
      clear hn
      have hk := hg.1
      refine wantsG_of1M (fun _ k => .inl k) (fun v w' k => hg.free 9 (by decide) 23 (fun _ => lstM hcl 12 9 rfl (by decide) hnot) v k) ?_
      refine wants_plain rfl ?_
      exact grown_x0 (.tmp 14) rfl _ _ _ h14
    refine steps_consL (fun listed a w hnot hdep hcl hsz hg hn => ?_) ?_
    · have h14 : (PrT w6.drew.heap.size (sgW (seedX 1) 0 1 1 (hashX 1)) 0) (a.eval (.tmp 14)) w := hn.1
      clear hn
      have hk := hg.1
      refine wantsG_of1M (fun _ k => .inl k) (fun v w' k => hg.free 10 (by decide) 24 (fun h => absurd h (by decide)) v k) ?_
      refine wants_plain rfl ?_
      exact grown_x1 (.tmp 14) rfl _ _ _ h14
    refine steps_consL (fun listed a w hnot hdep hcl hsz hg hn => ?_) ?_
    · clear hn
      have hk := hg.1
      refine wantsG_of1M (fun _ k => .inl k) (fun v w' k => hg.free 11 (by decide) 4 (fun _ => lstM hcl 12 11 rfl (by decide) hnot) v k) ?_
      refine wants_plain rfl ?_
      exact grown_newx _ hk.size rfl
    refine steps_consL (fun listed a w hnot hdep hcl hsz hg hn => ?_) ?_
    · have h4 : (NewX w6.drew.heap.size) (a.eval (.tmp 4)) w := hn.1
      have h23 : (CoAT w6.drew.heap.size (sgW (seedX 1) 0 1 1 (hashX 1))) (a.eval (.tmp 23)) w := hn.2.1
      clear hn
      exact hg.st hsz rfl rfl rfl h4 h23
    refine steps_consL (fun listed a w hnot hdep hcl hsz hg hn => ?_) ?_
    · have h24 : a.eval (.tmp 24) = .int .i64 0 := hn.1
      clear hn
      have hk := hg.1
      refine wantsG_of1M (fun _ k => .inl k) (fun v w' k => hg.free 13 (by decide) 5 (fun h => absurd h (by decide)) v k) ?_
      refine wants_plain rfl ?_
      exact grown_assign (.tmp 24) rfl h24
    exact trivial
  intro W4
  rintro _ rfl
  rintro _ rfl
  rintro _ rfl
  rintro _ rfl
  rintro _ rfl
  rintro _ rfl
  rintro _ rfl
  intro v22 h22
  intro v14 h14
  intro v23 h23
  rintro _ rfl
  intro v4 h4
  intro _ _
  rintro _ rfl
  refine fin_nil ?_
  intro listed hall hgg
  obtain ⟨hkW4, hst⟩ := hgg
  obtain ⟨gst, cst, est, evt, Gst⟩ := hst (hall 12 (by decide))
  simp only [Act.put, List.set_cons_zero, List.set_cons_succ, List.setIfInBounds_toArray] at est evt ⊢
  obtain ⟨w8, hw8⟩ : ∃ x, x = W4 := ⟨_, rfl⟩
  have K68 := unhide HD W4 hkW4
  have hV8 := CoA.v h23
  obtain ⟨ap, np, cp, aq, nq, cq, ev, -⟩ := id hV8
  simp only [sgW] at ev
  subst ev
  obtain ⟨g4, e4, -, -⟩ := h4
  subst e4
  have eg : g4 = gst := by
    have e := est
    simp [Act.eval] at e
    exact e
  have ecs : cst = #[.int .i64 1, .int .i64 0, .slice ap np cp, .slice aq nq cq] := by
    have e := evt
    simp [Act.eval] at e
    exact e.symm
  subst eg
  subst ecs
  rw [← hw8] at K68 hV8 Gst ⊢
  have HV8 := hide hV8
  have HG48 := hide Gst
  have HK8 := hide ((unhide HK6).trans K68)
  have HP8 := hide ((unhide HP6).kept K68)
  have HQ8 := hide ((unhide HQ6).kept K68)
  have HG28 := hide (K68.heap (unhide HG26) (by simp))
  have HG38 := hide (K68.heap (unhide HG36) (by simp))
  have HC8 := hide ((unhide HC6).kept K68)
  have HX8 := hide (K68.cell (unhide HX6) (by simp))
  have HS8 := hide (K68.cell (unhide HS6) (by simp))
  have HSS8 := hide ((unhide HSS6).kept K68 (by simp))
  clear hw8 K68 hV8 Gst est evt hkW4 hall hst h22 h14 h23 HD HT3 HXO HXS HSS HCV HGW HK6 HP6 HQ6 HG26 HG36 HC6 HX6 HS6 HSS6 HO6
  have HD : Hid (∀ w', Kp [] w8.drew w' → Kp [] w8 w') := fun w' k' => (kp_drew w8).trans k'
  have HT3 : Hid (∀ w', Kp [] w8.drew w' → w'.heap[g3]? = some (.cells #[.int .i64 1, .slice ar mr cr] 33 (0, 0))) := fun w' k' => (unhide HD w' k').heap (unhide HG38) (by simp)
  have HXO : Hid (∀ w', Kp [] w8.drew w' → w'.cell? ⟨bo, oo + 1, none⟩ = some (.pointer (some ⟨go, 0, none⟩))) := fun w' k' => (unhide HD w' k').cell (unhide HX8) (by simp)
  have HXS : Hid (∀ w', Kp [] w8.drew w' → w'.cell? ⟨go, 0, none⟩ = some (.slice sa sn sc)) := fun w' k' => (unhide HD w' k').cell (unhide HS8) (by simp)
  have HSS : Hid (∀ w', Kp [] w8.drew w' → Sl w' (.slice sa sn sc) (seedX 1)) := fun w' k' => (unhide HSS8).kept (unhide HD w' k') (by simp)
  have HCV : Hid (∀ w', Kp [] w8.drew w' → CkV w' (.agg #[.int .i64 1, .slice ar mr cr]) 1 (hashX 1)) := fun w' k' => (unhide HC8).kept (unhide HD w' k')
  go_wp2_with fail
  refine region_growL (K := KN w8.drew.heap.size) (G := GN w8.drew 12 6 34) Tryz.mixed [Is (.slice (some ⟨bo, oo, none⟩) 2 co), Is (.pointer (some ⟨bo, oo + 1, none⟩)), Is (.pointer (some ⟨go, 0, none⟩)), Is (.pointer (some ⟨go, 0, none⟩)), Is (.pointer (some ⟨go, 0, none⟩)), Is (.slice sa sn sc), Is (.agg #[.int .i64 1, .slice ar mr cr]), PrT w8.drew.heap.size co0 1, PrT w8.drew.heap.size co0 1, CoAT w8.drew.heap.size co0, Is (.int .i64 1), NewX w8.drew.heap.size, AnyT, Is (.int .i64 1)] [[(1, none)], [(26, some 0)], [(27, some 1)], [(28, some 2)], [(29, some 3)], [(30, some 4)], [(3, none)], [(31, some 5), (32, some 6)], [(33, some 7)], [(25, some 8)], [(25, some 8)], [], [(6, some 11), (34, some 9)], [(35, some 10)]] (by kernel_rfl) ?_ ?_ ?_ ?_ ?_
  · intro k R hR hd w'
    have hk : k < 14 := by have := (List.getElem?_eq_some_iff.1 hR).1; simpa using this
    rcases (by omega : k = 0 ∨ k = 1 ∨ k = 2 ∨ k = 3 ∨ k = 4 ∨ k = 5 ∨ k = 6 ∨ k = 7 ∨ k = 8 ∨ k = 9 ∨ k = 10 ∨ k = 11 ∨ k = 12 ∨ k = 13) with rfl | rfl | rfl | rfl | rfl | rfl | rfl | rfl | rfl | rfl | rfl | rfl | rfl | rfl <;> first | (cases hR; exact trivial) | cases hd
  · simp only [List.mem_cons, List.not_mem_nil, or_false]
    intro R hR
    rcases hR with rfl | rfl | rfl | rfl | rfl | rfl | rfl | rfl | rfl | rfl | rfl | rfl | rfl | rfl <;> first | exact stableN_is _ | exact stableN_sl _ | exact stableN_any | exact stableN_new _ | exact stableN_coat _ co0_big (Nat.le_refl _) | exact stableN_prt _ _ co0_big (Nat.le_refl _)
  · exact ⟨Kp.refl _ _, fun h => by simp at h⟩
  · refine steps_consL (fun listed a w hnot hdep hcl hsz hg hn => ?_) ?_
    · have h1 : a.eval (.tmp 1) = .slice (some ⟨bo, oo, none⟩) 2 co := hn.1
      clear hn
      have hk := hg.1
      refine wantsG_of1M (fun _ k => .inl k) (fun v w' k => hg.free 0 (by decide) 26 (fun h => absurd h (by decide)) v k) ?_
      refine wants_plain rfl ?_
      exact grown_move (.tmp 1) rfl h1
    refine steps_consL (fun listed a w hnot hdep hcl hsz hg hn => ?_) ?_
    · have h26 : a.eval (.tmp 26) = .slice (some ⟨bo, oo, none⟩) 2 co := hn.1
      clear hn
      have hk := hg.1
      refine wantsG_of1M (fun _ k => .inl k) (fun v w' k => hg.free 1 (by decide) 27 (fun h => absurd h (by decide)) v k) ?_
      refine wants_plain rfl ?_
      refine grown_run (v := .pointer (some ⟨bo, oo + 1, none⟩)) ?_ (Kp.refl _ _) rfl
      obtain ⟨ρ, hρ, hc, hf, hg⟩ := eval_is a
      rw [hρ] at h26 ⊢
      simp [go_sem, hc, h26]
    refine steps_consL (fun listed a w hnot hdep hcl hsz hg hn => ?_) ?_
    · have h27 : a.eval (.tmp 27) = .pointer (some ⟨bo, oo + 1, none⟩) := hn.1
      clear hn
      have hk := hg.1
      refine wantsG_of1M (fun _ k => .inl k) (fun v w' k => hg.free 2 (by decide) 28 (fun h => absurd h (by decide)) v k) ?_
      refine wants_plain rfl ?_
      refine grown_run (v := .pointer (some ⟨go, 0, none⟩)) ?_ (Kp.refl _ _) rfl
      have hcell := unhide HXO w hk
      obtain ⟨ρ, hρ, hc, hf, hg⟩ := eval_is a
      rw [hρ] at h27 ⊢
      simp [go_sem, h27, hcell]
    refine steps_consL (fun listed a w hnot hdep hcl hsz hg hn => ?_) ?_
    · have h28 : a.eval (.tmp 28) = .pointer (some ⟨go, 0, none⟩) := hn.1
      clear hn
      have hk := hg.1
      refine wantsG_of1M (fun _ k => .inl k) (fun v w' k => hg.free 3 (by decide) 29 (fun h => absurd h (by decide)) v k) ?_
      refine wants_plain rfl ?_
      refine grown_run (v := .pointer (some ⟨go, 0, none⟩)) ?_ (Kp.refl _ _) rfl
      obtain ⟨ρ, hρ, hc, hf, hg⟩ := eval_is a
      rw [hρ] at h28 ⊢
      simp [go_sem, h28]
    refine steps_consL (fun listed a w hnot hdep hcl hsz hg hn => ?_) ?_
    · have h29 : a.eval (.tmp 29) = .pointer (some ⟨go, 0, none⟩) := hn.1
      clear hn
      have hk := hg.1
      refine wantsG_of1M (fun _ k => .inl k) (fun v w' k => hg.free 4 (by decide) 30 (fun h => absurd h (by decide)) v k) ?_
      refine wants_plain rfl ?_
      refine grown_run (v := .pointer (some ⟨go, 0, none⟩)) ?_ (Kp.refl _ _) rfl
      obtain ⟨ρ, hρ, hc, hf, hg⟩ := eval_is a
      rw [hρ] at h29 ⊢
      simp [go_sem, h29]
    refine steps_consL (fun listed a w hnot hdep hcl hsz hg hn => ?_) ?_
    · have h30 : a.eval (.tmp 30) = .pointer (some ⟨go, 0, none⟩) := hn.1
      clear hn
      have hk := hg.1
      refine wantsG_of1M (fun _ k => .inl k) (fun v w' k => hg.free 5 (by decide) 31 (fun h => absurd h (by decide)) v k) ?_
      refine wants_plain rfl ?_
      refine grown_run (v := .slice sa sn sc) ?_ (Kp.refl _ _) rfl
      have hcell := unhide HXS w hk
      obtain ⟨ρ, hρ, hc, hf, hg⟩ := eval_is a
      rw [hρ] at h30 ⊢
      simp [go_sem, h30, hcell]
    refine steps_consL (fun listed a w hnot hdep hcl hsz hg hn => ?_) ?_
    · have h3 : a.eval (.tmp 3) = .pointer (some ⟨g3, 0, none⟩) := hn.1
      clear hn
      have hk := hg.1
      refine wantsG_of1M (fun _ k => .inl k) (fun v w' k => hg.free 6 (by decide) 32 (fun h => absurd h (by decide)) v k) ?_
      refine wants_plain rfl ?_
      exact grown_loadf 33 (.tmp 3) rfl g3 0 h3 _ _ _ _ (unhide HT3 w hk) [.int .i64 1, .slice ar mr cr] (flat_in rfl) Tryz.underlying33 rfl Tryz.chkSize rfl
    refine steps_consL (fun listed a w hnot hdep hcl hsz hg hn => ?_) ?_
    · have h31 : a.eval (.tmp 31) = .slice sa sn sc := hn.1
      have h32 : a.eval (.tmp 32) = .agg #[.int .i64 1, .slice ar mr cr] := hn.2.1
      clear hn
      have hk := hg.1
      refine wantsG_of1M (fun _ k => .inl k) (fun v w' k => hg.free 7 (by decide) 33 (fun h => absurd h (by decide)) v k) ?_
      refine wants_plain rfl ?_
      refine grown_call (f := 37) rfl Tryz.func37 (by kernel_rfl) (by kernel_rfl) ?_
      simp only [List.map_toArray, List.map_cons, List.map_nil, h31, h32]
      refine (csign_arg _ (seedX 1) 0 4 _ 1 (hashX 1) w (unhide HSS w hk) (by omega) (unhide HCV w hk)).mono ?_
      rintro e w' ⟨rfl, K⟩
      exact ⟨_, rfl, K, ⟨_, rfl, coA_zero _ _⟩⟩
    refine steps_consL (fun listed a w hnot hdep hcl hsz hg hn => ?_) ?_
    · have h33 : (PrT w8.drew.heap.size co0 1) (a.eval (.tmp 33)) w := hn.1
      clear hn
      have hk := hg.1
      refine wantsG_of1M (fun _ k => .inl k) (fun v w' k => hg.free 8 (by decide) 25 (fun h => absurd h (by decide)) v k) ?_
      refine wants_plain rfl ?_
      exact grown_move (.tmp 33) rfl h33
    refine steps_consL (fun listed a w hnot hdep hcl hsz hg hn => ?_) ?_
    · have h25 : (PrT w8.drew.heap.size co0 1) (a.eval (.tmp 25)) w := hn.1
      clear hn
      have hk := hg.1
      refine wantsG_of1M (fun _ k => .inl k) (fun v w' k => hg.free 9 (by decide) 34 (fun _ => lstM hcl 12 9 rfl (by decide) hnot) v k) ?_
      refine wants_plain rfl ?_
      exact grown_x0 (.tmp 25) rfl _ _ _ h25
    refine steps_consL (fun listed a w hnot hdep hcl hsz hg hn => ?_) ?_
    · have h25 : (PrT w8.drew.heap.size co0 1) (a.eval (.tmp 25)) w := hn.1
      clear hn
      have hk := hg.1
      refine wantsG_of1M (fun _ k => .inl k) (fun v w' k => hg.free 10 (by decide) 35 (fun h => absurd h (by decide)) v k) ?_
      refine wants_plain rfl ?_
      exact grown_x1 (.tmp 25) rfl _ _ _ h25
    refine steps_consL (fun listed a w hnot hdep hcl hsz hg hn => ?_) ?_
    · clear hn
      have hk := hg.1
      refine wantsG_of1M (fun _ k => .inl k) (fun v w' k => hg.free 11 (by decide) 6 (fun _ => lstM hcl 12 11 rfl (by decide) hnot) v k) ?_
      refine wants_plain rfl ?_
      exact grown_newx _ hk.size rfl
    refine steps_consL (fun listed a w hnot hdep hcl hsz hg hn => ?_) ?_
    · have h6 : (NewX w8.drew.heap.size) (a.eval (.tmp 6)) w := hn.1
      have h34 : (CoAT w8.drew.heap.size co0) (a.eval (.tmp 34)) w := hn.2.1
      clear hn
      exact hg.st hsz rfl rfl rfl h6 h34
    refine steps_consL (fun listed a w hnot hdep hcl hsz hg hn => ?_) ?_
    · have h35 : a.eval (.tmp 35) = .int .i64 1 := hn.1
      clear hn
      have hk := hg.1
      refine wantsG_of1M (fun _ k => .inl k) (fun v w' k => hg.free 13 (by decide) 7 (fun h => absurd h (by decide)) v k) ?_
      refine wants_plain rfl ?_
      exact grown_assign (.tmp 35) rfl h35
    exact trivial
  intro W5
  rintro _ rfl
  rintro _ rfl
  rintro _ rfl
  rintro _ rfl
  rintro _ rfl
  rintro _ rfl
  rintro _ rfl
  intro v33 h33
  intro v25 h25
  intro v34 h34
  rintro _ rfl
  intro v6 h6
  intro _ _
  rintro _ rfl
  refine fin_nil ?_
  intro listed hall hgg
  obtain ⟨hkW5, hst⟩ := hgg
  obtain ⟨gst, cst, est, evt, Gst⟩ := hst (hall 12 (by decide))
  simp only [Act.put, List.set_cons_zero, List.set_cons_succ, List.setIfInBounds_toArray] at est evt ⊢
  obtain ⟨wA, hwA⟩ : ∃ x, x = W5 := ⟨_, rfl⟩
  have K8A := unhide HD W5 hkW5
  obtain ⟨g6, e6, -, -⟩ := h6
  subst e6
  rw [← hwA] at K8A ⊢
  have HKA := hide ((unhide HK8).trans K8A)
  have HPA := hide ((unhide HP8).kept K8A)
  have HQA := hide ((unhide HQ8).kept K8A)
  have HG2A := hide (K8A.heap (unhide HG28) (by simp))
  have HG3A := hide (K8A.heap (unhide HG38) (by simp))
  have HG4A := hide (K8A.heap (unhide HG48) (by simp))
  have HCA := hide ((unhide HC8).kept K8A)
  have HVA := hide ((unhide HV8).kept K8A)
  clear hwA K8A hkW5 hall hst h33 h25 h34 est evt Gst HD HT3 HXO HXS HSS HCV HK8 HP8 HQ8 HG28 HG38 HG48 HC8 HV8 HX8 HS8 HSS8
  have c0 : wA.cell? ⟨g2, 0, none⟩ = some (.slice al ml cl) := by rw [cell_of_row wA g2 0 _ _ _ (unhide HG2A)]; rfl
  have c1 : wA.cell? ⟨g2, 1, none⟩ = some (.slice aw mw cw) := by rw [cell_of_row wA g2 1 _ _ _ (unhide HG2A)]; rfl
  have c2 : wA.cell? ⟨g2, 2, none⟩ = some (.int .i64 2) := by rw [cell_of_row wA g2 2 _ _ _ (unhide HG2A)]; rfl
  have Ga := heap_alloc_new wA (.cells #[.slice none 0 0, .slice none 0 0, .int .i64 0] 83)
  have HKa : Hid (Kp [] wA (wA.alloc (.cells #[.slice none 0 0, .slice none 0 0, .int .i64 0] 83))) := (Kp.refl [] wA).alloc _
  go_wp2_with (refine wpList_store_flat rfl 83 (.tmp 8) (.tmp 36) rfl wA.heap.size 0 rfl _ _ [.slice al ml cl, .slice aw mw cw, .int .i64 2] Ga rfl (by simp) Tryz.polSize (by simp [Value.oneCell']) #[.slice al ml cl, .slice aw mw cw, .int .i64 2] rfl ?_; intro wB GB KB; refine Hid.out ?_)
  obtain ⟨g8, hg8⟩ : ∃ g, g = wA.heap.size := ⟨_, rfl⟩
  have KAB : Kp [] wA wB := (unhide HKa).then KB (fun i hi => .inr (by simp at hi; omega))
  rw [← hg8] at GB ⊢
  have hc8 : wB.cell? ⟨g8, 2, none⟩ = some (.int .i64 2) := by rw [cell_of_row wB g8 2 _ _ _ GB]; rfl
  have hf8 : wB.frozen? ⟨g8, 2, none⟩ = false := frozen_of_row wB g8 2 _ _ GB
  obtain ⟨wC, hwC⟩ : ∃ wC, wC = wB.setCell ⟨g8, 2, none⟩ (.int .i64 0) := ⟨_, rfl⟩
  have GC8 : wC.heap[g8]? = some (.cells #[.slice al ml cl, .slice aw mw cw, .int .i64 0] 83 (0, 0)) := by
    rw [hwC]
    have := heap_setCell_same wB g8 2 _ _ (.int .i64 0) GB
    simpa using this
  have KAC : Kp [] wA wC := KAB.then (by rw [hwC]; exact setCell_kp wB g8 2 _) (fun i hi => .inr (by simp at hi; omega))
  have HKC := hide ((unhide HKA).trans KAC)
  have HPC := hide ((unhide HPA).kept KAC)
  have HQC := hide ((unhide HQA).kept KAC)
  have HG2C := hide (KAC.heap (unhide HG2A) (by simp))
  have HG3C := hide (KAC.heap (unhide HG3A) (by simp))
  have HG4C := hide (KAC.heap (unhide HG4A) (by simp))
  have HCC := hide ((unhide HCA).kept KAC)
  have HVC := hide ((unhide HVA).kept KAC)
  have HG8C := hide GC8
  have HWC := hide hwC
  have n2 : g2 ≠ g8 := by have := lt_of_block (unhide HG2A); omega
  have n4 : g4 ≠ g8 := by have := lt_of_block (unhide HG4A); omega
  have x0wB : wB.cell? ⟨g2, 0, none⟩ = some (.slice al ml cl) := by rw [cell_of_row wB g2 0 _ _ _ (KAB.heap (unhide HG2A) (by simp))]; rfl
  have x1wB : wB.cell? ⟨g2, 1, none⟩ = some (.slice aw mw cw) := by rw [cell_of_row wB g2 1 _ _ _ (KAB.heap (unhide HG2A) (by simp))]; rfl
  have x2wB : wB.cell? ⟨g2, 2, none⟩ = some (.int .i64 2) := by rw [cell_of_row wB g2 2 _ _ _ (KAB.heap (unhide HG2A) (by simp))]; rfl
  have y0wB : wB.cell? ⟨g3, 0, none⟩ = some (.int .i64 1) := by rw [cell_of_row wB g3 0 _ _ _ (KAB.heap (unhide HG3A) (by simp))]; rfl
  have y1wB : wB.cell? ⟨g3, 1, none⟩ = some (.slice ar mr cr) := by rw [cell_of_row wB g3 1 _ _ _ (KAB.heap (unhide HG3A) (by simp))]; rfl
  have z0wB : wB.cell? ⟨g4, 0, none⟩ = some (.int .i64 1) := by rw [cell_of_row wB g4 0 _ _ _ (KAB.heap (unhide HG4A) (by simp))]; rfl
  have z1wB : wB.cell? ⟨g4, 1, none⟩ = some (.int .i64 0) := by rw [cell_of_row wB g4 1 _ _ _ (KAB.heap (unhide HG4A) (by simp))]; rfl
  have z2wB : wB.cell? ⟨g4, 2, none⟩ = some (.slice ap np cp) := by rw [cell_of_row wB g4 2 _ _ _ (KAB.heap (unhide HG4A) (by simp))]; rfl
  have z3wB : wB.cell? ⟨g4, 3, none⟩ = some (.slice aq nq cq) := by rw [cell_of_row wB g4 3 _ _ _ (KAB.heap (unhide HG4A) (by simp))]; rfl
  have HVf := hide (cverify_any _ (polK 2 2) _ 1 (hashX 1) _ _ true kn_ver.symm wC (unhide HPC) (unhide HCC) (unhide HVC) ((unhide HG).kept (unhide HKC) (by simp)))
  clear Ga HKa GB KB KAB KAC hg8 hwC GC8 c0 c1 c2 HKA HPA HQA HG2A HG3A HG4A HCA HVA
  refine hide ?_
  go_wp2_with fail
  rw [← unhide HWC]
  refine (unhide HVf).mono ?_
  rintro ee wD ⟨rfl, KD⟩
  have HPD := hide ((unhide HPC).kept KD)
  have HQD := hide ((unhide HQC).kept KD)
  have HCD := hide ((unhide HCC).kept KD)
  have HVD := hide ((unhide HVC).kept KD)
  have HG2D := hide (KD.heap (unhide HG2C) (by simp))
  have HG3D := hide (KD.heap (unhide HG3C) (by simp))
  have HG4D := hide (KD.heap (unhide HG4C) (by simp))
  have HG8D := hide (KD.heap (unhide HG8C) (by simp))
  have HKD := hide ((unhide HKC).trans KD)
  clear KD HVf x0wB x1wB x2wB y0wB y1wB z0wB z1wB z2wB z3wB hc8 hf8 n2 n4 HWC HPC HQC HCC HVC HG2C HG3C HG4C HG8C HKC
  have x0wD : wD.cell? ⟨g2, 0, none⟩ = some (.slice al ml cl) := by rw [cell_of_row wD g2 0 _ _ _ (unhide HG2D)]; rfl
  have x1wD : wD.cell? ⟨g2, 1, none⟩ = some (.slice aw mw cw) := by rw [cell_of_row wD g2 1 _ _ _ (unhide HG2D)]; rfl
  have x2wD : wD.cell? ⟨g2, 2, none⟩ = some (.int .i64 2) := by rw [cell_of_row wD g2 2 _ _ _ (unhide HG2D)]; rfl
  have y0wD : wD.cell? ⟨g3, 0, none⟩ = some (.int .i64 1) := by rw [cell_of_row wD g3 0 _ _ _ (unhide HG3D)]; rfl
  have y1wD : wD.cell? ⟨g3, 1, none⟩ = some (.slice ar mr cr) := by rw [cell_of_row wD g3 1 _ _ _ (unhide HG3D)]; rfl
  have z0wD : wD.cell? ⟨g4, 0, none⟩ = some (.int .i64 1) := by rw [cell_of_row wD g4 0 _ _ _ (unhide HG4D)]; rfl
  have z1wD : wD.cell? ⟨g4, 1, none⟩ = some (.int .i64 0) := by rw [cell_of_row wD g4 1 _ _ _ (unhide HG4D)]; rfl
  have z2wD : wD.cell? ⟨g4, 2, none⟩ = some (.slice ap np cp) := by rw [cell_of_row wD g4 2 _ _ _ (unhide HG4D)]; rfl
  have z3wD : wD.cell? ⟨g4, 3, none⟩ = some (.slice aq nq cq) := by rw [cell_of_row wD g4 3 _ _ _ (unhide HG4D)]; rfl
  obtain ⟨wE, hwE⟩ : ∃ x, x = wD.alloc (.cells #[.int .i64 1, .int .i64 0, .slice ap np cp, .slice aq nq cq, .int .i64 1, .int .i64 0, .slice ap np cp, .slice aq nq cq] 26) := ⟨_, rfl⟩
  have KE : Kp [] wD wE := by rw [hwE]; exact (Kp.refl [] wD).alloc _
  have GE : wE.heap[wD.heap.size]? = some (.cells #[.int .i64 1, .int .i64 0, .slice ap np cp, .slice aq nq cq, .int .i64 1, .int .i64 0, .slice ap np cp, .slice aq nq cq] 26 (0, 0)) := by rw [hwE]; exact heap_alloc_new wD _
  have HPE := hide ((unhide HPD).kept KE)
  have HQE := hide ((unhide HQD).kept KE)
  have HCE := hide ((unhide HCD).kept KE)
  have HVE := hide ((unhide HVD).kept KE)
  have HG2E := hide (KE.heap (unhide HG2D) (by simp))
  have HG3E := hide (KE.heap (unhide HG3D) (by simp))
  have HG4E := hide (KE.heap (unhide HG4D) (by simp))
  have HG8E := hide (KE.heap (unhide HG8D) (by simp))
  have HKE := hide ((unhide HKD).trans KE)
  have HLL := hide (col_two GE (unhide HVE))
  have HCt := hide (ccount_any _ (polK 2 2) _ 1 (hashX 1) _ _ 1 kn_cnt.symm wE (unhide HPE) (unhide HCE) (unhide HLL) ((unhide HG).kept (unhide HKE) (by simp)))
  have HWE := hide hwE
  clear hwE KE GE HPD HQD HCD HVD HG2D HG3D HG4D HG8D HKD
  go_wp2_with fail
  rw [← unhide HWE]
  refine (unhide HCt).mono ?_
  rintro ee wH ⟨rfl, KH⟩
  have HPH := hide ((unhide HPE).kept KH)
  have HQH := hide ((unhide HQE).kept KH)
  have HCH := hide ((unhide HCE).kept KH)
  have HVH := hide ((unhide HVE).kept KH)
  have HG2H := hide (KH.heap (unhide HG2E) (by simp))
  have HG3H := hide (KH.heap (unhide HG3E) (by simp))
  have HG4H := hide (KH.heap (unhide HG4E) (by simp))
  have HG8H := hide (KH.heap (unhide HG8E) (by simp))
  have HKH := hide ((unhide HKE).trans KH)
  clear KH HCt HLL HWE x0wD x1wD x2wD y0wD y1wD z0wD z1wD z2wD z3wD HPE HQE HCE HVE HG2E HG3E HG4E HG8E HKE
  have x0wH : wH.cell? ⟨g2, 0, none⟩ = some (.slice al ml cl) := by rw [cell_of_row wH g2 0 _ _ _ (unhide HG2H)]; rfl
  have x1wH : wH.cell? ⟨g2, 1, none⟩ = some (.slice aw mw cw) := by rw [cell_of_row wH g2 1 _ _ _ (unhide HG2H)]; rfl
  have x2wH : wH.cell? ⟨g2, 2, none⟩ = some (.int .i64 2) := by rw [cell_of_row wH g2 2 _ _ _ (unhide HG2H)]; rfl
  have y0wH : wH.cell? ⟨g3, 0, none⟩ = some (.int .i64 1) := by rw [cell_of_row wH g3 0 _ _ _ (unhide HG3H)]; rfl
  have y1wH : wH.cell? ⟨g3, 1, none⟩ = some (.slice ar mr cr) := by rw [cell_of_row wH g3 1 _ _ _ (unhide HG3H)]; rfl
  have z0wH : wH.cell? ⟨g4, 0, none⟩ = some (.int .i64 1) := by rw [cell_of_row wH g4 0 _ _ _ (unhide HG4H)]; rfl
  have z1wH : wH.cell? ⟨g4, 1, none⟩ = some (.int .i64 0) := by rw [cell_of_row wH g4 1 _ _ _ (unhide HG4H)]; rfl
  have z2wH : wH.cell? ⟨g4, 2, none⟩ = some (.slice ap np cp) := by rw [cell_of_row wH g4 2 _ _ _ (unhide HG4H)]; rfl
  have z3wH : wH.cell? ⟨g4, 3, none⟩ = some (.slice aq nq cq) := by rw [cell_of_row wH g4 3 _ _ _ (unhide HG4H)]; rfl
  obtain ⟨wI, hwI⟩ : ∃ x, x = wH.alloc (.cells #[.int .i64 1, .int .i64 0, .slice ap np cp, .slice aq nq cq, .int .i64 1, .int .i64 0, .slice ap np cp, .slice aq nq cq] 26) := ⟨_, rfl⟩
  have KI : Kp [] wH wI := by rw [hwI]; exact (Kp.refl [] wH).alloc _
  have GI : wI.heap[wH.heap.size]? = some (.cells #[.int .i64 1, .int .i64 0, .slice ap np cp, .slice aq nq cq, .int .i64 1, .int .i64 0, .slice ap np cp, .slice aq nq cq] 26 (0, 0)) := by rw [hwI]; exact heap_alloc_new wH _
  have HPI := hide ((unhide HPH).kept KI)
  have HQI := hide ((unhide HQH).kept KI)
  have HCI := hide ((unhide HCH).kept KI)
  have HVI := hide ((unhide HVH).kept KI)
  have HG2I := hide (KI.heap (unhide HG2H) (by simp))
  have HG3I := hide (KI.heap (unhide HG3H) (by simp))
  have HG4I := hide (KI.heap (unhide HG4H) (by simp))
  have HG8I := hide (KI.heap (unhide HG8H) (by simp))
  have HKI := hide ((unhide HKH).trans KI)
  have HLL := hide (col_two GI (unhide HVI))
  have HCt := hide (cmet_any _ (polK 2 2) _ 1 (hashX 1) _ _ false kn_met wI (unhide HPI) (unhide HCI) (unhide HLL) ((unhide HG).kept (unhide HKI) (by simp)))
  have HWI := hide hwI
  clear hwI KI GI HPH HQH HCH HVH HG2H HG3H HG4H HG8H HKH
  go_wp2_with fail
  rw [← unhide HWI]
  refine (unhide HCt).mono ?_
  rintro ee wJ ⟨rfl, KJ⟩
  have HPJ := hide ((unhide HPI).kept KJ)
  have HQJ := hide ((unhide HQI).kept KJ)
  have HCJ := hide ((unhide HCI).kept KJ)
  have HVJ := hide ((unhide HVI).kept KJ)
  have HG2J := hide (KJ.heap (unhide HG2I) (by simp))
  have HG3J := hide (KJ.heap (unhide HG3I) (by simp))
  have HG4J := hide (KJ.heap (unhide HG4I) (by simp))
  have HG8J := hide (KJ.heap (unhide HG8I) (by simp))
  have HKJ := hide ((unhide HKI).trans KJ)
  clear KJ HCt HLL HWI x0wH x1wH x2wH y0wH y1wH z0wH z1wH z2wH z3wH HPI HQI HCI HVI HG2I HG3I HG4I HG8I HKI
  have x0wJ : wJ.cell? ⟨g8, 0, none⟩ = some (.slice al ml cl) := by rw [cell_of_row wJ g8 0 _ _ _ (unhide HG8J)]; rfl
  have x1wJ : wJ.cell? ⟨g8, 1, none⟩ = some (.slice aw mw cw) := by rw [cell_of_row wJ g8 1 _ _ _ (unhide HG8J)]; rfl
  have x2wJ : wJ.cell? ⟨g8, 2, none⟩ = some (.int .i64 0) := by rw [cell_of_row wJ g8 2 _ _ _ (unhide HG8J)]; rfl
  have y0wJ : wJ.cell? ⟨g3, 0, none⟩ = some (.int .i64 1) := by rw [cell_of_row wJ g3 0 _ _ _ (unhide HG3J)]; rfl
  have y1wJ : wJ.cell? ⟨g3, 1, none⟩ = some (.slice ar mr cr) := by rw [cell_of_row wJ g3 1 _ _ _ (unhide HG3J)]; rfl
  have z0wJ : wJ.cell? ⟨g4, 0, none⟩ = some (.int .i64 1) := by rw [cell_of_row wJ g4 0 _ _ _ (unhide HG4J)]; rfl
  have z1wJ : wJ.cell? ⟨g4, 1, none⟩ = some (.int .i64 0) := by rw [cell_of_row wJ g4 1 _ _ _ (unhide HG4J)]; rfl
  have z2wJ : wJ.cell? ⟨g4, 2, none⟩ = some (.slice ap np cp) := by rw [cell_of_row wJ g4 2 _ _ _ (unhide HG4J)]; rfl
  have z3wJ : wJ.cell? ⟨g4, 3, none⟩ = some (.slice aq nq cq) := by rw [cell_of_row wJ g4 3 _ _ _ (unhide HG4J)]; rfl
  obtain ⟨wL, hwL⟩ : ∃ x, x = wJ.alloc (.cells #[.int .i64 1, .int .i64 0, .slice ap np cp, .slice aq nq cq] 26) := ⟨_, rfl⟩
  have KL : Kp [] wJ wL := by rw [hwL]; exact (Kp.refl [] wJ).alloc _
  have GL : wL.heap[wJ.heap.size]? = some (.cells #[.int .i64 1, .int .i64 0, .slice ap np cp, .slice aq nq cq] 26 (0, 0)) := by rw [hwL]; exact heap_alloc_new wJ _
  have HPL := hide ((unhide HPJ).kept KL)
  have HQL := hide ((unhide HQJ).kept KL)
  have HCL := hide ((unhide HCJ).kept KL)
  have HVL := hide ((unhide HVJ).kept KL)
  have HG2L := hide (KL.heap (unhide HG2J) (by simp))
  have HG3L := hide (KL.heap (unhide HG3J) (by simp))
  have HG4L := hide (KL.heap (unhide HG4J) (by simp))
  have HG8L := hide (KL.heap (unhide HG8J) (by simp))
  have HKL := hide ((unhide HKJ).trans KL)
  have HLL := hide (col_one GL (unhide HVL))
  have HCt := hide (cmet_any _ (polK 2 0) _ 1 (hashX 1) _ _ false (kn_met0 _) wL (unhide HQL) (unhide HCL) (unhide HLL) ((unhide HG).kept (unhide HKL) (by simp)))
  have HWL := hide hwL
  clear hwL KL GL HPJ HQJ HCJ HVJ HG2J HG3J HG4J HG8J HKJ
  go_wp2_with fail
  rw [← unhide HWL]
  refine (unhide HCt).mono ?_
  rintro ee wM ⟨rfl, KM⟩
  have HPM := hide ((unhide HPL).kept KM)
  have HQM := hide ((unhide HQL).kept KM)
  have HCM := hide ((unhide HCL).kept KM)
  have HVM := hide ((unhide HVL).kept KM)
  have HG2M := hide (KM.heap (unhide HG2L) (by simp))
  have HG3M := hide (KM.heap (unhide HG3L) (by simp))
  have HG4M := hide (KM.heap (unhide HG4L) (by simp))
  have HG8M := hide (KM.heap (unhide HG8L) (by simp))
  have HKM := hide ((unhide HKL).trans KM)
  clear KM HCt HLL HWL x0wJ x1wJ x2wJ y0wJ y1wJ z0wJ z1wJ z2wJ z3wJ HPL HQL HCL HVL HG2L HG3L HG4L HG8L HKL
  go_wp2_with fail
  go_ret
  exact ⟨rfl, unhide HKM⟩
end Go.Proofs.YtdjofooggofpkaaGreatDoor
