/-
  The contracts of package ledger: Find, signNow, Publish, Last.
-/
import Derived.Test.YtillhpgdlmeajaaGreatDoorQC24
import Derived.Test.YtillhpgdlmeajaaGreatDoorQOLedgerCrashes8
namespace Go.Proofs.YtillhpgdlmeajaaGreatDoor
open Go.RowKit
open Go.Proofs
open Go.Proofs.YtillhpgdlmeajaaGreatDoor.umix
set_option linter.unusedVariables false
section
variable {w0 w : World} {l pd pk : Nat} {S : LS} {f : Fps}
theorem usign_used (h : Lg w0 w l pd pk S f) (hn : S.n = 16) : Calls Tryz.prog 77 #[.pointer (some ⟨l, 0, none⟩)] w fun e w' => e = .returned (.int .i64 23) ∧ w' = w := by
  obtain ⟨j, s, q, vs, pv, hx⟩ := h
  have hc := hx.at_.c2
  have hb := hx.bf.bx
  rw [hn] at hb
  have HT := hide (take_used hb)
  clear hx hb hn
  go_enter Tryz.func77, Tryz.ntmps77
  go_wp2_with fail
  refine HT.out.mono ?_
  rintro ee w1 ⟨rfl, hw⟩
  subst w1
  clear HT
  go_wp2_with fail
  go_ret
  exact ⟨rfl, rfl⟩
set_option maxRecDepth 100000 in
set_option maxHeartbeats 4000000 in
theorem upub_usedN (h : Lg w0 w l pd pk S f) (hla : S.la = none) (hn : S.n = 16) : Calls Tryz.prog 33 #[.pointer (some ⟨l, 0, none⟩)] w fun e w' => e = .returned (.tuple #[sgd0, .int .i64 23]) ∧ Kp [] w w' := by
  obtain ⟨j, s, q, vs, pv, hx⟩ := h
  have hla2 := hx.la
  rw [hla] at hla2
  obtain rfl : pv = .pointer none := hla2
  obtain ⟨av, cv, hvs, -⟩ := hx.sd
  obtain ⟨nv, hnv⟩ : ∃ n, n = S.seed.length := ⟨_, rfl⟩
  rw [← hnv] at hvs
  subst hvs
  obtain ⟨g0, hg⟩ : ∃ g, g = w.heap.size := ⟨_, rfl⟩
  obtain ⟨w1, hw1⟩ : ∃ w1, w1 = w.alloc (.cells #[.int .i64 0, .slice none 0 0, .int .i64 0, .slice none 0 0, .slice none 0 0] 72) := ⟨_, rfl⟩
  have K1 : Kp [] w w1 := by rw [hw1]; exact (Kp.refl [] w).alloc _
  have G0 : w1.heap[g0]? = some (.cells #[.int .i64 0, .slice none 0 0, .int .i64 0, .slice none 0 0, .slice none 0 0] 72 (0, 0)) := by rw [hw1, hg]; exact heap_alloc_new w _
  have hX1 := hx.on K1
  have HD : Hid (∀ w', Kp [] w1.drew w' → Kp [] w1 w') := fun w' k' => (kp_drew w1).trans k'
  have HAt : Hid (∀ w', Kp [] w1.drew w' → Fv 99 w' l (.func (.func 44) #[.pointer (some ⟨j, 0, none⟩)] #[]) (.pointer (some ⟨s, 0, none⟩)) (.pointer (some ⟨q, 0, none⟩)) (.slice av nv cv) (.pointer none)) := fun w' k => hX1.at_.kept (HD.out w' k) (by simp)
  have HX1 := hide hX1
  have HK1 := hide K1
  have HGe := hide hg
  have HW1 := hide hw1
  have HG0 := hide G0
  have HN := hide hn
  clear hn
  clear hx hla K1 hg hw1 hX1 hnv G0
  go_enter Tryz.func33, Tryz.ntmps33
  go_wp2_with fail
  rw [← HW1.out, ← HGe.out]
  refine region_grow Tryz.mixed [Is (.pointer (some ⟨l, 0, none⟩)), Is (.pointer (some ⟨l, 0, none⟩)), Is (.pointer (some ⟨l, 4, none⟩)), Is (.pointer none), Is (.bool true), Is (.bool true), Is (undef), Is (undef), Is (undef), Is (undef), Is (undef), Is (undef), Is (undef), Is (undef), Is (undef), Is (undef), Is (undef), Is (.bool true)] [[(0, none)], [(5, some 0)], [(6, some 1)], [(7, some 2)], [(8, some 3)], [(9, some 4)], [(0, none), (10, some 5)], [(11, some 6), (10, some 5)], [(12, some 7), (10, some 5)], [(13, some 8), (10, some 5)], [(14, some 9), (10, some 5)], [(15, some 10), (10, some 5)], [(16, some 11), (10, some 5)], [(17, some 12), (10, some 5)], [(0, none), (10, some 5)], [(19, some 14), (10, some 5)], [(18, some 13), (20, some 15), (10, some 5)], [(10, some 5), (21, some 16)]] (by kernel_rfl) ?_ ?_ ?_
  · simp only [List.mem_cons, List.not_mem_nil, or_false]
    intro R hR
    rcases hR with rfl | rfl | rfl | rfl | rfl | rfl | rfl | rfl | rfl | rfl | rfl | rfl | rfl | rfl | rfl | rfl | rfl | rfl <;> first | exact stable_is _
  · refine steps_cons (fun a w hk hn => ?_) ?_
    · have h0 : a.eval (.tmp 0) = .pointer (some ⟨l, 0, none⟩) := hn.1
      clear hn
      refine wants_plain rfl ?_
      exact grown_move (.tmp 0) rfl h0
    refine steps_cons (fun a w hk hn => ?_) ?_
    · have h5 : a.eval (.tmp 5) = .pointer (some ⟨l, 0, none⟩) := hn.1
      clear hn
      refine wants_plain rfl ?_
      refine grown_run (v := .pointer (some ⟨l, 0, none⟩)) ?_ (Kp.refl _ _) rfl
      obtain ⟨ρ, hρ, hc, hf, hg⟩ := eval_is a
      rw [hρ] at h5 ⊢
      simp [go_sem, h5]
    refine steps_cons (fun a w hk hn => ?_) ?_
    · have h6 : a.eval (.tmp 6) = .pointer (some ⟨l, 0, none⟩) := hn.1
      clear hn
      refine wants_plain rfl ?_
      refine grown_run (v := .pointer (some ⟨l, 4, none⟩)) ?_ (Kp.refl _ _) rfl
      obtain ⟨ρ, hρ, hc, hf, hg⟩ := eval_is a
      rw [hρ] at h6 ⊢
      simp [go_sem, h6]
    refine steps_cons (fun a w hk hn => ?_) ?_
    · have h7 : a.eval (.tmp 7) = .pointer (some ⟨l, 4, none⟩) := hn.1
      clear hn
      refine wants_plain rfl ?_
      refine grown_run (v := .pointer none) ?_ (Kp.refl _ _) rfl
      have hcell : w.cell? ⟨l, 4, none⟩ = some (.pointer none) := by rw [cell_of_row w l 4 _ _ _ (HAt.out w hk)]; rfl
      obtain ⟨ρ, hρ, hc, hf, hg⟩ := eval_is a
      rw [hρ] at h7 ⊢
      simp [go_sem, h7, hcell]
    refine steps_cons (fun a w hk hn => ?_) ?_
    · have h8 : a.eval (.tmp 8) = .pointer none := hn.1
      clear hn
      refine wants_plain rfl ?_
      refine grown_run (v := .bool true) ?_ (Kp.refl _ _) rfl
      obtain ⟨ρ, hρ, hc, hf, hg⟩ := eval_is a
      rw [hρ] at h8 ⊢
      simp [go_sem, hc, h8]
    refine steps_cons (fun a w hk hn => ?_) ?_
    · have h9 : a.eval (.tmp 9) = .bool true := hn.1
      clear hn
      refine wants_plain rfl ?_
      exact grown_move (.tmp 9) rfl h9
    refine steps_cons (fun a w hk hn => ?_) ?_
    · have h0 : a.eval (.tmp 0) = .pointer (some ⟨l, 0, none⟩) := hn.1
      have h10 : a.eval (.tmp 10) = .bool true := hn.2.1
      clear hn
      exact wants_not (d := 10) rfl rfl h10 rfl
    refine steps_cons (fun a w hk hn => ?_) ?_
    · have h11 : a.eval (.tmp 11) = undef := hn.1
      have h10 : a.eval (.tmp 10) = .bool true := hn.2.1
      clear hn
      exact wants_not (d := 10) rfl rfl h10 rfl
    refine steps_cons (fun a w hk hn => ?_) ?_
    · have h12 : a.eval (.tmp 12) = undef := hn.1
      have h10 : a.eval (.tmp 10) = .bool true := hn.2.1
      clear hn
      exact wants_not (d := 10) rfl rfl h10 rfl
    refine steps_cons (fun a w hk hn => ?_) ?_
    · have h13 : a.eval (.tmp 13) = undef := hn.1
      have h10 : a.eval (.tmp 10) = .bool true := hn.2.1
      clear hn
      exact wants_not (d := 10) rfl rfl h10 rfl
    refine steps_cons (fun a w hk hn => ?_) ?_
    · have h14 : a.eval (.tmp 14) = undef := hn.1
      have h10 : a.eval (.tmp 10) = .bool true := hn.2.1
      clear hn
      exact wants_not (d := 10) rfl rfl h10 rfl
    refine steps_cons (fun a w hk hn => ?_) ?_
    · have h15 : a.eval (.tmp 15) = undef := hn.1
      have h10 : a.eval (.tmp 10) = .bool true := hn.2.1
      clear hn
      exact wants_not (d := 10) rfl rfl h10 rfl
    refine steps_cons (fun a w hk hn => ?_) ?_
    · have h16 : a.eval (.tmp 16) = undef := hn.1
      have h10 : a.eval (.tmp 10) = .bool true := hn.2.1
      clear hn
      exact wants_not (d := 10) rfl rfl h10 rfl
    refine steps_cons (fun a w hk hn => ?_) ?_
    · have h17 : a.eval (.tmp 17) = undef := hn.1
      have h10 : a.eval (.tmp 10) = .bool true := hn.2.1
      clear hn
      exact wants_not (d := 10) rfl rfl h10 rfl
    refine steps_cons (fun a w hk hn => ?_) ?_
    · have h0 : a.eval (.tmp 0) = .pointer (some ⟨l, 0, none⟩) := hn.1
      have h10 : a.eval (.tmp 10) = .bool true := hn.2.1
      clear hn
      exact wants_not (d := 10) rfl rfl h10 rfl
    refine steps_cons (fun a w hk hn => ?_) ?_
    · have h19 : a.eval (.tmp 19) = undef := hn.1
      have h10 : a.eval (.tmp 10) = .bool true := hn.2.1
      clear hn
      exact wants_not (d := 10) rfl rfl h10 rfl
    refine steps_cons (fun a w hk hn => ?_) ?_
    · have h18 : a.eval (.tmp 18) = undef := hn.1
      have h20 : a.eval (.tmp 20) = undef := hn.2.1
      have h10 : a.eval (.tmp 10) = .bool true := hn.2.2.1
      clear hn
      exact wants_not (d := 10) rfl rfl h10 rfl
    refine steps_cons (fun a w hk hn => ?_) ?_
    · have h10 : a.eval (.tmp 10) = .bool true := hn.1
      have h21 : a.eval (.tmp 21) = undef := hn.2.1
      clear hn
      refine wants_plain rfl ?_
      exact grown_pick _ _ _ true rfl h10 rfl
    exact trivial
  intro W1 hkW1
  rintro _ rfl
  rintro _ rfl
  rintro _ rfl
  rintro _ rfl
  rintro _ rfl
  rintro _ rfl
  rintro _ rfl
  rintro _ rfl
  rintro _ rfl
  rintro _ rfl
  rintro _ rfl
  rintro _ rfl
  rintro _ rfl
  rintro _ rfl
  rintro _ rfl
  rintro _ rfl
  rintro _ rfl
  rintro _ rfl
  refine fin_nil ?_
  simp only [Act.put, List.set_cons_zero, List.set_cons_succ, List.setIfInBounds_toArray]
  have K12 := HD.out W1 hkW1
  have HX2 := hide (HX1.out.on K12)
  have HG2 := hide (K12.heap HG0.out (by simp))
  have HK12 := hide (HK1.out.trans K12)
  clear K12 hkW1 HG0
  have HSn := hide (usign_used ⟨j, s, q, _, _, HX2.out⟩ HN.out)
  go_wp2_with fail
  refine HSn.out.mono ?_
  rintro ee w3 ⟨rfl, hw⟩
  subst w3
  have G3 := HG2.out
  clear HSn
  go_wp2_with (refine wpList_store_flat rfl 72 (.tmp 2) (.tmp 27) rfl g0 0 rfl _ _ [.int .i64 0, .slice none 0 0, .int .i64 0, .slice none 0 0, .slice none 0 0] G3 rfl (by simp) Tryz.sgdSize (by simp [Value.oneCell']) #[.int .i64 0, .slice none 0 0, .int .i64 0, .slice none 0 0, .slice none 0 0] rfl ?_; intro w7 G7 K7)
  refine bodyPost_ret (results_flat2 rfl _ rfl G7 Tryz.underlying72 rfl Tryz.sgdSize) rfl ?_
  exact ⟨rfl, HK12.out.then K7 (fun i hi => .inr (by simp at hi; have := HGe.out; omega))⟩
set_option maxRecDepth 100000 in
set_option maxHeartbeats 4000000 in
theorem upub_usedS (h : Lg w0 w l pd pk S f) (a1 a2 : Nat) (hla : S.la = some (a1, a2)) (ha : a1 ≠ S.its.length) (hn : S.n = 16) : Calls Tryz.prog 33 #[.pointer (some ⟨l, 0, none⟩)] w fun e w' => e = .returned (.tuple #[sgd0, .int .i64 23]) ∧ Kp [] w w' := by
  obtain ⟨j, s, q, vs, pv, hx⟩ := h
  have hla2 := hx.la
  rw [hla] at hla2
  obtain ⟨hle, ha16, tt, vr, vp, vq, rfl, hFt, hFv, hSF⟩ := hla2
  obtain ⟨ar, mr, cr, ap, np, cp, aq, nq, cq, e2, -, -⟩ := hSF.v.shape
  simp only [Value.agg.injEq, Array.mk.injEq, List.cons.injEq, and_true] at e2
  obtain ⟨-, rfl, -, rfl, rfl⟩ := e2
  obtain ⟨av, cv, hvs, -⟩ := hx.sd
  obtain ⟨nv, hnv⟩ : ∃ n, n = S.seed.length := ⟨_, rfl⟩
  rw [← hnv] at hvs
  subst hvs
  obtain ⟨g0, hg⟩ : ∃ g, g = w.heap.size := ⟨_, rfl⟩
  obtain ⟨w1, hw1⟩ : ∃ w1, w1 = w.alloc (.cells #[.int .i64 0, .slice none 0 0, .int .i64 0, .slice none 0 0, .slice none 0 0] 72) := ⟨_, rfl⟩
  have K1 : Kp [] w w1 := by rw [hw1]; exact (Kp.refl [] w).alloc _
  have G0 : w1.heap[g0]? = some (.cells #[.int .i64 0, .slice none 0 0, .int .i64 0, .slice none 0 0, .slice none 0 0] 72 (0, 0)) := by rw [hw1, hg]; exact heap_alloc_new w _
  have hX1 := hx.on K1
  have HD : Hid (∀ w', Kp [] w1.drew w' → Kp [] w1 w') := fun w' k' => (kp_drew w1).trans k'
  have HAt : Hid (∀ w', Kp [] w1.drew w' → Fv 99 w' l (.func (.func 44) #[.pointer (some ⟨j, 0, none⟩)] #[]) (.pointer (some ⟨s, 0, none⟩)) (.pointer (some ⟨q, 0, none⟩)) (.slice av nv cv) (.pointer (some ⟨tt, 0, none⟩))) := fun w' k => hX1.at_.kept (HD.out w' k) (by simp)
  have HTt : Hid (∀ w', Kp [] w1.drew w' → Fv 72 w' tt (.int .i64 (a1 : Int)) (.slice ar mr cr) (.int .i64 (a2 : Int)) (.slice ap np cp) (.slice aq nq cq)) := fun w' k => hFv.kept (K1.trans (HD.out w' k)) (by simp)
  have HLg : Hid (∀ w', Kp [] w1.drew w' → Lg w0 w' l pd pk S f) := fun w' k => ⟨j, s, q, _, _, hX1.on (HD.out w' k)⟩
  obtain ⟨il, hil⟩ : ∃ k, k = S.its.length := ⟨_, rfl⟩
  have HIl : Hid ((il : Int) = (S.its.length : Int)) := hide (by rw [hil])
  have HCmp : Hid (¬ (a1 : Int) = (il : Int)) := hide (by rw [hil]; omega)
  have HX1 := hide hX1
  have HK1 := hide K1
  have HGe := hide hg
  have HW1 := hide hw1
  have HG0 := hide G0
  have HN := hide hn
  clear hn
  clear hx hla hFv hSF hle hFt K1 hg hw1 hX1 ha hnv hil G0 ha16
  go_enter Tryz.func33, Tryz.ntmps33
  go_wp2_with fail
  rw [← HW1.out, ← HGe.out]
  refine region_grow Tryz.mixed [Is (.pointer (some ⟨l, 0, none⟩)), Is (.pointer (some ⟨l, 0, none⟩)), Is (.pointer (some ⟨l, 4, none⟩)), Is (.pointer (some ⟨tt, 0, none⟩)), Is (.bool false), Is (.bool false), Is (.pointer (some ⟨l, 0, none⟩)), Is (.pointer (some ⟨l, 0, none⟩)), Is (.pointer (some ⟨l, 4, none⟩)), Is (.pointer (some ⟨tt, 0, none⟩)), Is (.pointer (some ⟨tt, 0, none⟩)), Is (.pointer (some ⟨tt, 0, none⟩)), Is (.pointer (some ⟨tt, 0, none⟩)), Is (.int .i64 (a1 : Int)), Is (.pointer (some ⟨l, 0, none⟩)), Is (.int .i64 (il : Int)), Is (.bool true), Is (.bool true)] [[(0, none)], [(5, some 0)], [(6, some 1)], [(7, some 2)], [(8, some 3)], [(9, some 4)], [(0, none), (10, some 5)], [(11, some 6), (10, some 5)], [(12, some 7), (10, some 5)], [(13, some 8), (10, some 5)], [(14, some 9), (10, some 5)], [(15, some 10), (10, some 5)], [(16, some 11), (10, some 5)], [(17, some 12), (10, some 5)], [(0, none), (10, some 5)], [(19, some 14), (10, some 5)], [(18, some 13), (20, some 15), (10, some 5)], [(10, some 5), (21, some 16)]] (by kernel_rfl) ?_ ?_ ?_
  · simp only [List.mem_cons, List.not_mem_nil, or_false]
    intro R hR
    rcases hR with rfl | rfl | rfl | rfl | rfl | rfl | rfl | rfl | rfl | rfl | rfl | rfl | rfl | rfl | rfl | rfl | rfl | rfl <;> first | exact stable_is _
  · refine steps_cons (fun a w hk hn => ?_) ?_
    · have h0 : a.eval (.tmp 0) = .pointer (some ⟨l, 0, none⟩) := hn.1
      clear hn
      refine wants_plain rfl ?_
      exact grown_move (.tmp 0) rfl h0
    refine steps_cons (fun a w hk hn => ?_) ?_
    · have h5 : a.eval (.tmp 5) = .pointer (some ⟨l, 0, none⟩) := hn.1
      clear hn
      refine wants_plain rfl ?_
      refine grown_run (v := .pointer (some ⟨l, 0, none⟩)) ?_ (Kp.refl _ _) rfl
      obtain ⟨ρ, hρ, hc, hf, hg⟩ := eval_is a
      rw [hρ] at h5 ⊢
      simp [go_sem, h5]
    refine steps_cons (fun a w hk hn => ?_) ?_
    · have h6 : a.eval (.tmp 6) = .pointer (some ⟨l, 0, none⟩) := hn.1
      clear hn
      refine wants_plain rfl ?_
      refine grown_run (v := .pointer (some ⟨l, 4, none⟩)) ?_ (Kp.refl _ _) rfl
      obtain ⟨ρ, hρ, hc, hf, hg⟩ := eval_is a
      rw [hρ] at h6 ⊢
      simp [go_sem, h6]
    refine steps_cons (fun a w hk hn => ?_) ?_
    · have h7 : a.eval (.tmp 7) = .pointer (some ⟨l, 4, none⟩) := hn.1
      clear hn
      refine wants_plain rfl ?_
      refine grown_run (v := .pointer (some ⟨tt, 0, none⟩)) ?_ (Kp.refl _ _) rfl
      have hcell : w.cell? ⟨l, 4, none⟩ = some (.pointer (some ⟨tt, 0, none⟩)) := by rw [cell_of_row w l 4 _ _ _ (HAt.out w hk)]; rfl
      obtain ⟨ρ, hρ, hc, hf, hg⟩ := eval_is a
      rw [hρ] at h7 ⊢
      simp [go_sem, h7, hcell]
    refine steps_cons (fun a w hk hn => ?_) ?_
    · have h8 : a.eval (.tmp 8) = .pointer (some ⟨tt, 0, none⟩) := hn.1
      clear hn
      refine wants_plain rfl ?_
      refine grown_run (v := .bool false) ?_ (Kp.refl _ _) rfl
      obtain ⟨ρ, hρ, hc, hf, hg⟩ := eval_is a
      rw [hρ] at h8 ⊢
      simp [go_sem, hc, h8]
    refine steps_cons (fun a w hk hn => ?_) ?_
    · have h9 : a.eval (.tmp 9) = .bool false := hn.1
      clear hn
      refine wants_plain rfl ?_
      exact grown_move (.tmp 9) rfl h9
    refine steps_cons (fun a w hk hn => ?_) ?_
    · have h0 : a.eval (.tmp 0) = .pointer (some ⟨l, 0, none⟩) := hn.1
      have h10 : a.eval (.tmp 10) = .bool false := hn.2.1
      clear hn
      refine wants_guard (d := 10) rfl rfl h10 ?_
      exact grown_move (.tmp 0) rfl h0
    refine steps_cons (fun a w hk hn => ?_) ?_
    · have h11 : a.eval (.tmp 11) = .pointer (some ⟨l, 0, none⟩) := hn.1
      have h10 : a.eval (.tmp 10) = .bool false := hn.2.1
      clear hn
      refine wants_guard (d := 10) rfl rfl h10 ?_
      refine grown_run (v := .pointer (some ⟨l, 0, none⟩)) ?_ (Kp.refl _ _) rfl
      obtain ⟨ρ, hρ, hc, hf, hg⟩ := eval_is a
      rw [hρ] at h11 ⊢
      simp [go_sem, h11]
    refine steps_cons (fun a w hk hn => ?_) ?_
    · have h12 : a.eval (.tmp 12) = .pointer (some ⟨l, 0, none⟩) := hn.1
      have h10 : a.eval (.tmp 10) = .bool false := hn.2.1
      clear hn
      refine wants_guard (d := 10) rfl rfl h10 ?_
      refine grown_run (v := .pointer (some ⟨l, 4, none⟩)) ?_ (Kp.refl _ _) rfl
      obtain ⟨ρ, hρ, hc, hf, hg⟩ := eval_is a
      rw [hρ] at h12 ⊢
      simp [go_sem, h12]
    refine steps_cons (fun a w hk hn => ?_) ?_
    · have h13 : a.eval (.tmp 13) = .pointer (some ⟨l, 4, none⟩) := hn.1
      have h10 : a.eval (.tmp 10) = .bool false := hn.2.1
      clear hn
      refine wants_guard (d := 10) rfl rfl h10 ?_
      refine grown_run (v := .pointer (some ⟨tt, 0, none⟩)) ?_ (Kp.refl _ _) rfl
      have hcell : w.cell? ⟨l, 4, none⟩ = some (.pointer (some ⟨tt, 0, none⟩)) := by rw [cell_of_row w l 4 _ _ _ (HAt.out w hk)]; rfl
      obtain ⟨ρ, hρ, hc, hf, hg⟩ := eval_is a
      rw [hρ] at h13 ⊢
      simp [go_sem, h13, hcell]
    refine steps_cons (fun a w hk hn => ?_) ?_
    · have h14 : a.eval (.tmp 14) = .pointer (some ⟨tt, 0, none⟩) := hn.1
      have h10 : a.eval (.tmp 10) = .bool false := hn.2.1
      clear hn
      refine wants_guard (d := 10) rfl rfl h10 ?_
      refine grown_run (v := .pointer (some ⟨tt, 0, none⟩)) ?_ (Kp.refl _ _) rfl
      obtain ⟨ρ, hρ, hc, hf, hg⟩ := eval_is a
      rw [hρ] at h14 ⊢
      simp [go_sem, h14]
    refine steps_cons (fun a w hk hn => ?_) ?_
    · have h15 : a.eval (.tmp 15) = .pointer (some ⟨tt, 0, none⟩) := hn.1
      have h10 : a.eval (.tmp 10) = .bool false := hn.2.1
      clear hn
      refine wants_guard (d := 10) rfl rfl h10 ?_
      refine grown_run (v := .pointer (some ⟨tt, 0, none⟩)) ?_ (Kp.refl _ _) rfl
      obtain ⟨ρ, hρ, hc, hf, hg⟩ := eval_is a
      rw [hρ] at h15 ⊢
      simp [go_sem, h15]
    refine steps_cons (fun a w hk hn => ?_) ?_
    · have h16 : a.eval (.tmp 16) = .pointer (some ⟨tt, 0, none⟩) := hn.1
      have h10 : a.eval (.tmp 10) = .bool false := hn.2.1
      clear hn
      refine wants_guard (d := 10) rfl rfl h10 ?_
      refine grown_run (v := .pointer (some ⟨tt, 0, none⟩)) ?_ (Kp.refl _ _) rfl
      obtain ⟨ρ, hρ, hc, hf, hg⟩ := eval_is a
      rw [hρ] at h16 ⊢
      simp [go_sem, h16]
    refine steps_cons (fun a w hk hn => ?_) ?_
    · have h17 : a.eval (.tmp 17) = .pointer (some ⟨tt, 0, none⟩) := hn.1
      have h10 : a.eval (.tmp 10) = .bool false := hn.2.1
      clear hn
      refine wants_guard (d := 10) rfl rfl h10 ?_
      refine grown_run (v := .int .i64 (a1 : Int)) ?_ (Kp.refl _ _) rfl
      have hcell : w.cell? ⟨tt, 0, none⟩ = some (.int .i64 (a1 : Int)) := by rw [cell_of_row w tt 0 _ _ _ (HTt.out w hk)]; rfl
      obtain ⟨ρ, hρ, hc, hf, hg⟩ := eval_is a
      rw [hρ] at h17 ⊢
      simp [go_sem, h17, hcell]
    refine steps_cons (fun a w hk hn => ?_) ?_
    · have h0 : a.eval (.tmp 0) = .pointer (some ⟨l, 0, none⟩) := hn.1
      have h10 : a.eval (.tmp 10) = .bool false := hn.2.1
      clear hn
      refine wants_guard (d := 10) rfl rfl h10 ?_
      exact grown_move (.tmp 0) rfl h0
    refine steps_cons (fun a w hk hn => ?_) ?_
    · have h19 : a.eval (.tmp 19) = .pointer (some ⟨l, 0, none⟩) := hn.1
      have h10 : a.eval (.tmp 10) = .bool false := hn.2.1
      clear hn
      refine wants_guard (d := 10) rfl rfl h10 ?_
      refine grown_call (f := 16) rfl Tryz.func16 (by kernel_rfl) (by kernel_rfl) ?_
      simp only [List.map_toArray, List.map_cons, List.map_nil, h19]
      refine (usize_any (HLg.out w hk) (il : Int) HIl.out).mono ?_
      rintro e w' ⟨rfl, rfl⟩
      exact ⟨_, rfl, Kp.refl _ _, rfl⟩
    refine steps_cons (fun a w hk hn => ?_) ?_
    · have h18 : a.eval (.tmp 18) = .int .i64 (a1 : Int) := hn.1
      have h20 : a.eval (.tmp 20) = .int .i64 (il : Int) := hn.2.1
      have h10 : a.eval (.tmp 10) = .bool false := hn.2.2.1
      clear hn
      refine wants_guard (d := 10) rfl rfl h10 ?_
      refine grown_run (v := .bool true) ?_ (Kp.refl _ _) rfl
      obtain ⟨ρ, hρ, hc, hf, hg⟩ := eval_is a
      rw [hρ] at h18 h20 ⊢
      simp [go_sem, h18, h20, HCmp.out]
    refine steps_cons (fun a w hk hn => ?_) ?_
    · have h10 : a.eval (.tmp 10) = .bool false := hn.1
      have h21 : a.eval (.tmp 21) = .bool true := hn.2.1
      clear hn
      refine wants_plain rfl ?_
      exact grown_pick _ _ _ false rfl h10 h21
    exact trivial
  intro W1 hkW1
  rintro _ rfl
  rintro _ rfl
  rintro _ rfl
  rintro _ rfl
  rintro _ rfl
  rintro _ rfl
  rintro _ rfl
  rintro _ rfl
  rintro _ rfl
  rintro _ rfl
  rintro _ rfl
  rintro _ rfl
  rintro _ rfl
  rintro _ rfl
  rintro _ rfl
  rintro _ rfl
  rintro _ rfl
  rintro _ rfl
  refine fin_nil ?_
  simp only [Act.put, List.set_cons_zero, List.set_cons_succ, List.setIfInBounds_toArray]
  have K12 := HD.out W1 hkW1
  have HX2 := hide (HX1.out.on K12)
  have HG2 := hide (K12.heap HG0.out (by simp))
  have HK12 := hide (HK1.out.trans K12)
  clear K12 hkW1 HG0
  have HSn := hide (usign_used ⟨j, s, q, _, _, HX2.out⟩ HN.out)
  go_wp2_with fail
  refine HSn.out.mono ?_
  rintro ee w3 ⟨rfl, hw⟩
  subst w3
  have G3 := HG2.out
  clear HSn
  go_wp2_with (refine wpList_store_flat rfl 72 (.tmp 2) (.tmp 27) rfl g0 0 rfl _ _ [.int .i64 0, .slice none 0 0, .int .i64 0, .slice none 0 0, .slice none 0 0] G3 rfl (by simp) Tryz.sgdSize (by simp [Value.oneCell']) #[.int .i64 0, .slice none 0 0, .int .i64 0, .slice none 0 0, .slice none 0 0] rfl ?_; intro w7 G7 K7)
  refine bodyPost_ret (results_flat2 rfl _ rfl G7 Tryz.underlying72 rfl Tryz.sgdSize) rfl ?_
  exact ⟨rfl, HK12.out.then K7 (fun i hi => .inr (by simp at hi; have := HGe.out; omega))⟩
end
end Go.Proofs.YtillhpgdlmeajaaGreatDoor

/-
  The contracts of package ledger: gathered, Open.
-/
namespace Go.Proofs.YtillhpgdlmeajaaGreatDoor
open Go.RowKit
open Go.Proofs
set_option linter.unusedVariables false
theorem opnP_len (b : List Int) : lenU (opnP b).1 ≤ b.length := by
  induction hl : b.length using Nat.strongRecOn generalizing b with
  | ind n ih =>
    subst hl
    rw [opnP_eq]
    split
    · simp [lenU]
    · split
      · simp [lenU]
      · split
        · simp [lenU]
        · have := ih (b.drop (8 + (num1 b).toNat)).length (by rw [List.length_drop]; omega) _ rfl
          rw [List.length_drop] at this
          have e : lenU (((b.drop 8).take (num1 b).toNat) :: (opnP (b.drop (8 + (num1 b).toNat))).1) = ((b.drop 8).take (num1 b).toNat).length + lenU (opnP (b.drop (8 + (num1 b).toNat))).1 := by simp [lenU]
          simp only []
          rw [e, List.length_take, List.length_drop]
          omega
section
variable {w0 w : World} {pd pk n at_ : Nat} {dd dk dk' dd' : Dk} {f : Fps}
end
end Go.Proofs.YtillhpgdlmeajaaGreatDoor
