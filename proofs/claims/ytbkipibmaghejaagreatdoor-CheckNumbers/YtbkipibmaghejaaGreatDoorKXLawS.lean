/-
  The contract of the law package's same.
-/
import Derived.Test.YtbkipibmaghejaaGreatDoorKXEncs
import Derived.Test.YtbkipibmaghejaaGreatDoorKXRefP
import Derived.Test.YtbkipibmaghejaaGreatDoorKXRefV
import Derived.Test.YtbkipibmaghejaaGreatDoorKXProg
import Derived.Test.YtbkipibmaghejaaGreatDoorKLSmalls
import Derived.Test.YtbkipibmaghejaaGreatDoorKXLaws
namespace Go.Proofs.YtbkipibmaghejaaGreatDoor
open Go.RowKit
open Go.Proofs

theorem str_cons7 (L : List Int) : (⟨#[7]⟩ : ByteArray) ++ strOfNums L = strOfNums ([7] ++ L) := by
  unfold strOfNums
  apply ByteArray.ext
  simp [ByteArray.data_append]

set_option maxRecDepth 100000 in
set_option maxHeartbeats 8000000 in
theorem lsame_any (vpub : Value) (pub : List Int) (vs : Value) (s : Sg) (w : World) (hP : Sl w vpub pub) (hPB : Bs pub) (hV : SgV w vs s) (hi : -9223372036854775808 ≤ s.i ∧ s.i ≤ 9223372036854775807) (hG : Gl w) :
    Calls Tryz.prog 7 #[vpub, vs] w fun e w' => e = .returned (.bool true) ∧ Kp [] w w' := by
  obtain ⟨n, r, i, ps, qs⟩ := s
  obtain ⟨ar, mr, cr, ap, np, cp, aq, nq, cq, rfl, ⟨hSr, hBr⟩, hSig⟩ := hV.shape
  simp only at hSr hBr hSig hi hV ⊢
  have HPu := hide hP
  obtain ⟨av, cv, rfl, -⟩ := hP
  obtain ⟨nv, hnv⟩ : ∃ k, k = pub.length := ⟨_, rfl⟩
  rw [← hnv] at HPu ⊢
  obtain ⟨g1, hg1⟩ : ∃ g, g = w.heap.size := ⟨_, rfl⟩
  obtain ⟨w0, hw0⟩ : ∃ w0, w0 = w.alloc (.cells #[.int .i64 n, .slice ar mr cr, .int .i64 i, .slice ap np cp, .slice aq nq cq] 30) := ⟨_, rfl⟩
  have K0 : Kp [] w w0 := by rw [hw0]; exact (Kp.refl [] w).alloc _
  have G0 : w0.heap[g1]? = some (.cells #[.int .i64 n, .slice ar mr cr, .int .i64 i, .slice ap np cp, .slice aq nq cq] 30 (0, 0)) := by rw [hw0, hg1]; exact heap_alloc_new w _
  have HV := hide (fun w' (k : Kp [] w w') => hV.kept k)
  have HD : Hid (∀ w', Kp [] w0.drew w' → Kp [] w w') := fun w' k' => K0.trans ((kp_drew w0).trans k')
  have HST : Hid (∀ w', Kp [] w0.drew w' → w'.heap[g1]? = some (.cells #[.int .i64 n, .slice ar mr cr, .int .i64 i, .slice ap np cp, .slice aq nq cq] 30 (0, 0))) := fun w' k' => ((kp_drew w0).trans k').heap G0 (by simp)
  have HCK : Hid (∀ w', Kp [] w0.drew w' → CkV w' (.agg #[.int .i64 n, .slice ar mr cr]) n r) := fun w' k' => ⟨ar, mr, cr, rfl, hSr.kept (unhide HD w' k') (by simp), hBr⟩
  have HVW : Hid (∀ w', Kp [] w0.drew w' → SgV w' (.agg #[.int .i64 n, .slice ar mr cr, .int .i64 i, .slice ap np cp, .slice aq nq cq]) ⟨n, r, i, ps, qs⟩) := fun w' k' => unhide HV w' (unhide HD w' k')
  have HPW : Hid (∀ w', Kp [] w0.drew w' → Sl w' (.slice av nv cv) pub) := fun w' k' => (unhide HPu).kept (unhide HD w' k') (by simp)
  have HGW : Hid (∀ w', Kp [] w0.drew w' → Gl w') := fun w' k' => hG.kept (unhide HD w' k') (by simp)
  obtain ⟨q, hq⟩ : ∃ q, q = rgtC n r := ⟨_, rfl⟩
  obtain ⟨B, hB⟩ : ∃ B, B = bodC n r := ⟨_, rfl⟩
  obtain ⟨SB, hSB⟩ : ∃ S, S = strOfNums B := ⟨_, rfl⟩
  obtain ⟨vb, hvb⟩ : ∃ x, x = (Sg.mk n r i ps qs).ver pub := ⟨_, rfl⟩
  have HQ := hide hq
  have HBB := hide hB
  have HSB := hide hSB
  have HVB := hide hvb
  have HPB := hide hPB
  have HI := hide hi
  have HW0 := hide hw0
  have HG1 := hide hg1
  clear hq hB hSB hvb hSr hBr hSig hPB hV hnv hw0 hg1 K0 G0 HPu hi hG
  go_enter Tryz.func7, Tryz.ntmps7
  go_wp2_with fail
  rw [← unhide HW0, ← unhide HG1]
  refine region_grow Tryz.mixed [Is (.pointer (some ⟨g1, 0, none⟩)), Is (.agg #[.int .i64 n, .slice ar mr cr]), Is (.bool q), Is (.pointer (some ⟨g1, 0, none⟩)), Is (.agg #[.int .i64 n, .slice ar mr cr]), Is (.bool q), Is (.bool false), Is (.bool false), Is (.pointer (some ⟨g1, 0, none⟩)), Is (.agg #[.int .i64 n, .slice ar mr cr]), SlT (B), Is (.string SB), Is (.pointer (some ⟨g1, 0, none⟩)), Is (.agg #[.int .i64 n, .slice ar mr cr]), SlT (B), Is (.string SB), Is (.bool false), Is (.bool false), Is (.bool false), Is (.slice av nv cv), Is (.agg #[.int .i64 n, .slice ar mr cr, .int .i64 i, .slice ap np cp, .slice aq nq cq]), Is (.bool vb), Is (.slice av nv cv), Is (.agg #[.int .i64 n, .slice ar mr cr, .int .i64 i, .slice ap np cp, .slice aq nq cq]), Is (.bool vb), Is (.bool false), Is (.bool false)] [[(3, none)], [(11, some 0)], [(12, some 1)], [(3, none)], [(14, some 3)], [(15, some 4)], [(13, some 2), (16, some 5)], [(17, some 6)], [(3, none), (18, some 7)], [(19, some 8), (18, some 7)], [(20, some 9), (18, some 7)], [(21, some 10), (18, some 7)], [(3, none), (18, some 7)], [(23, some 12), (18, some 7)], [(24, some 13), (18, some 7)], [(25, some 14), (18, some 7)], [(22, some 11), (26, some 15), (18, some 7)], [(18, some 7), (27, some 16)], [(28, some 17)], [(0, none), (29, some 18)], [(3, none), (29, some 18)], [(30, some 19), (31, some 20), (29, some 18)], [(0, none), (29, some 18)], [(3, none), (29, some 18)], [(33, some 22), (34, some 23), (29, some 18)], [(32, some 21), (35, some 24), (29, some 18)], [(29, some 18), (36, some 25)]] (by kernel_rfl) ?_ ?_ ?_
  · simp only [List.mem_cons, List.not_mem_nil, or_false]
    intro R hR
    rcases hR with rfl | rfl | rfl | rfl | rfl | rfl | rfl | rfl | rfl | rfl | rfl | rfl | rfl | rfl | rfl | rfl | rfl | rfl | rfl | rfl | rfl | rfl | rfl | rfl | rfl | rfl | rfl <;> first | exact stable_is _ | exact stable_sl _
  · refine steps_cons (fun a w hk hn => ?_) ?_
    · have h3 : a.eval (.tmp 3) = .pointer (some ⟨g1, 0, none⟩) := hn.1
      clear hn
      refine wants_plain rfl ?_
      refine grown_run (v := .pointer (some ⟨g1, 0, none⟩)) ?_ (Kp.refl _ _) rfl
      obtain ⟨ρ, hρ, hc, hf, hg⟩ := eval_is a
      rw [hρ] at h3 ⊢
      simp [go_sem, h3]
    refine steps_cons (fun a w hk hn => ?_) ?_
    · have h11 : a.eval (.tmp 11) = .pointer (some ⟨g1, 0, none⟩) := hn.1
      clear hn
      refine wants_plain rfl ?_
      exact grown_loadf 25 (.tmp 11) rfl g1 0 h11 _ _ _ _ (unhide HST w hk) [.int .i64 n, .slice ar mr cr] (flat_in rfl) Tryz.underlying25 rfl Tryz.chkSize rfl
    refine steps_cons (fun a w hk hn => ?_) ?_
    · have h12 : a.eval (.tmp 12) = .agg #[.int .i64 n, .slice ar mr cr] := hn.1
      clear hn
      refine wants_plain rfl ?_
      refine grown_call (f := 27) rfl Tryz.func27 (by kernel_rfl) (by kernel_rfl) ?_
      simp only [List.map_toArray, List.map_cons, List.map_nil, h12]
      refine (ckright_any _ n r q (unhide HQ) w (unhide HCK w hk)).mono ?_
      rintro e w' ⟨rfl, K⟩
      exact ⟨_, rfl, K, rfl⟩
    refine steps_cons (fun a w hk hn => ?_) ?_
    · have h3 : a.eval (.tmp 3) = .pointer (some ⟨g1, 0, none⟩) := hn.1
      clear hn
      refine wants_plain rfl ?_
      refine grown_run (v := .pointer (some ⟨g1, 0, none⟩)) ?_ (Kp.refl _ _) rfl
      obtain ⟨ρ, hρ, hc, hf, hg⟩ := eval_is a
      rw [hρ] at h3 ⊢
      simp [go_sem, h3]
    refine steps_cons (fun a w hk hn => ?_) ?_
    · have h14 : a.eval (.tmp 14) = .pointer (some ⟨g1, 0, none⟩) := hn.1
      clear hn
      refine wants_plain rfl ?_
      exact grown_loadf 25 (.tmp 14) rfl g1 0 h14 _ _ _ _ (unhide HST w hk) [.int .i64 n, .slice ar mr cr] (flat_in rfl) Tryz.underlying25 rfl Tryz.chkSize rfl
    refine steps_cons (fun a w hk hn => ?_) ?_
    · have h15 : a.eval (.tmp 15) = .agg #[.int .i64 n, .slice ar mr cr] := hn.1
      clear hn
      refine wants_plain rfl ?_
      refine grown_call (f := 16) rfl Tryz.func16 (by kernel_rfl) (by kernel_rfl) ?_
      simp only [List.map_toArray, List.map_cons, List.map_nil, h15]
      refine (rckright_any _ n r q (unhide HQ) w (unhide HCK w hk)).mono ?_
      rintro e w' ⟨rfl, K⟩
      exact ⟨_, rfl, K, rfl⟩
    refine steps_cons (fun a w hk hn => ?_) ?_
    · have h13 : a.eval (.tmp 13) = .bool q := hn.1
      have h16 : a.eval (.tmp 16) = .bool q := hn.2.1
      clear hn
      refine wants_plain rfl ?_
      refine grown_run (v := .bool false) ?_ (Kp.refl _ _) rfl
      obtain ⟨ρ, hρ, hc, hf, hg⟩ := eval_is a
      rw [hρ] at h13 h16 ⊢
      simp [go_sem, h13, h16]
    refine steps_cons (fun a w hk hn => ?_) ?_
    · have h17 : a.eval (.tmp 17) = .bool false := hn.1
      clear hn
      refine wants_plain rfl ?_
      exact grown_move (.tmp 17) rfl h17
    refine steps_cons (fun a w hk hn => ?_) ?_
    · have h3 : a.eval (.tmp 3) = .pointer (some ⟨g1, 0, none⟩) := hn.1
      have h18 : a.eval (.tmp 18) = .bool false := hn.2.1
      clear hn
      refine wants_guard (d := 18) rfl rfl h18 ?_
      refine grown_run (v := .pointer (some ⟨g1, 0, none⟩)) ?_ (Kp.refl _ _) rfl
      obtain ⟨ρ, hρ, hc, hf, hg⟩ := eval_is a
      rw [hρ] at h3 ⊢
      simp [go_sem, h3]
    refine steps_cons (fun a w hk hn => ?_) ?_
    · have h19 : a.eval (.tmp 19) = .pointer (some ⟨g1, 0, none⟩) := hn.1
      have h18 : a.eval (.tmp 18) = .bool false := hn.2.1
      clear hn
      refine wants_guard (d := 18) rfl rfl h18 ?_
      exact grown_loadf 25 (.tmp 19) rfl g1 0 h19 _ _ _ _ (unhide HST w hk) [.int .i64 n, .slice ar mr cr] (flat_in rfl) Tryz.underlying25 rfl Tryz.chkSize rfl
    refine steps_cons (fun a w hk hn => ?_) ?_
    · have h20 : a.eval (.tmp 20) = .agg #[.int .i64 n, .slice ar mr cr] := hn.1
      have h18 : a.eval (.tmp 18) = .bool false := hn.2.1
      clear hn
      refine wants_guard (d := 18) rfl rfl h18 ?_
      refine grown_call (f := 28) rfl Tryz.func28 (by kernel_rfl) (by kernel_rfl) ?_
      simp only [List.map_toArray, List.map_cons, List.map_nil, h20]
      refine (ckbody_any _ n r B (unhide HBB) w (unhide HCK w hk)).mono ?_
      rintro e w' ⟨ao, m, c, rfl, R, K⟩
      exact ⟨_, rfl, K, R⟩
    refine steps_cons (fun a w hk hn => ?_) ?_
    · have h21 : Sl w (a.eval (.tmp 21)) (B) := hn.1
      have h18 : a.eval (.tmp 18) = .bool false := hn.2.1
      clear hn
      refine wants_guard (d := 18) rfl rfl h18 ?_
      exact grown_conv (.tmp 21) _ _ 5 _ rfl h21 Tryz.underlying23 Tryz.underlying5 Tryz.underlying9 (congrArg Value.string (unhide HSB).symm)
    refine steps_cons (fun a w hk hn => ?_) ?_
    · have h3 : a.eval (.tmp 3) = .pointer (some ⟨g1, 0, none⟩) := hn.1
      have h18 : a.eval (.tmp 18) = .bool false := hn.2.1
      clear hn
      refine wants_guard (d := 18) rfl rfl h18 ?_
      refine grown_run (v := .pointer (some ⟨g1, 0, none⟩)) ?_ (Kp.refl _ _) rfl
      obtain ⟨ρ, hρ, hc, hf, hg⟩ := eval_is a
      rw [hρ] at h3 ⊢
      simp [go_sem, h3]
    refine steps_cons (fun a w hk hn => ?_) ?_
    · have h23 : a.eval (.tmp 23) = .pointer (some ⟨g1, 0, none⟩) := hn.1
      have h18 : a.eval (.tmp 18) = .bool false := hn.2.1
      clear hn
      refine wants_guard (d := 18) rfl rfl h18 ?_
      exact grown_loadf 25 (.tmp 23) rfl g1 0 h23 _ _ _ _ (unhide HST w hk) [.int .i64 n, .slice ar mr cr] (flat_in rfl) Tryz.underlying25 rfl Tryz.chkSize rfl
    refine steps_cons (fun a w hk hn => ?_) ?_
    · have h24 : a.eval (.tmp 24) = .agg #[.int .i64 n, .slice ar mr cr] := hn.1
      have h18 : a.eval (.tmp 18) = .bool false := hn.2.1
      clear hn
      refine wants_guard (d := 18) rfl rfl h18 ?_
      refine grown_call (f := 25) rfl Tryz.func25 (by kernel_rfl) (by kernel_rfl) ?_
      simp only [List.map_toArray, List.map_cons, List.map_nil, h24]
      refine (rckbody_any _ n r B (unhide HBB) w (unhide HCK w hk)).mono ?_
      rintro e w' ⟨ao, m, c, rfl, R, K⟩
      exact ⟨_, rfl, K, R⟩
    refine steps_cons (fun a w hk hn => ?_) ?_
    · have h25 : Sl w (a.eval (.tmp 25)) (B) := hn.1
      have h18 : a.eval (.tmp 18) = .bool false := hn.2.1
      clear hn
      refine wants_guard (d := 18) rfl rfl h18 ?_
      exact grown_conv (.tmp 25) _ _ 5 _ rfl h25 Tryz.underlying23 Tryz.underlying5 Tryz.underlying9 (congrArg Value.string (unhide HSB).symm)
    refine steps_cons (fun a w hk hn => ?_) ?_
    · have h22 : a.eval (.tmp 22) = .string SB := hn.1
      have h26 : a.eval (.tmp 26) = .string SB := hn.2.1
      have h18 : a.eval (.tmp 18) = .bool false := hn.2.2.1
      clear hn
      refine wants_guard (d := 18) rfl rfl h18 ?_
      refine grown_run (v := .bool false) ?_ (Kp.refl _ _) rfl
      obtain ⟨ρ, hρ, hc, hf, hg⟩ := eval_is a
      rw [hρ] at h22 h26 ⊢
      simp [go_sem, h22, h26]
    refine steps_cons (fun a w hk hn => ?_) ?_
    · have h18 : a.eval (.tmp 18) = .bool false := hn.1
      have h27 : a.eval (.tmp 27) = .bool false := hn.2.1
      clear hn
      refine wants_plain rfl ?_
      exact grown_pick _ _ _ false rfl h18 h27
    refine steps_cons (fun a w hk hn => ?_) ?_
    · have h28 : a.eval (.tmp 28) = .bool false := hn.1
      clear hn
      refine wants_plain rfl ?_
      exact grown_move (.tmp 28) rfl h28
    refine steps_cons (fun a w hk hn => ?_) ?_
    · have h0 : a.eval (.tmp 0) = .slice av nv cv := hn.1
      have h29 : a.eval (.tmp 29) = .bool false := hn.2.1
      clear hn
      refine wants_guard (d := 29) rfl rfl h29 ?_
      exact grown_move (.tmp 0) rfl h0
    refine steps_cons (fun a w hk hn => ?_) ?_
    · have h3 : a.eval (.tmp 3) = .pointer (some ⟨g1, 0, none⟩) := hn.1
      have h29 : a.eval (.tmp 29) = .bool false := hn.2.1
      clear hn
      refine wants_guard (d := 29) rfl rfl h29 ?_
      exact grown_loadf 30 (.tmp 3) rfl g1 0 h3 _ _ _ _ (unhide HST w hk) [.int .i64 n, .slice ar mr cr, .int .i64 i, .slice ap np cp, .slice aq nq cq] (flat_in rfl) Tryz.underlying30 rfl Tryz.sgdSize rfl
    refine steps_cons (fun a w hk hn => ?_) ?_
    · have h30 : a.eval (.tmp 30) = .slice av nv cv := hn.1
      have h31 : a.eval (.tmp 31) = .agg #[.int .i64 n, .slice ar mr cr, .int .i64 i, .slice ap np cp, .slice aq nq cq] := hn.2.1
      have h29 : a.eval (.tmp 29) = .bool false := hn.2.2.1
      clear hn
      refine wants_guard (d := 29) rfl rfl h29 ?_
      refine grown_call (f := 22) rfl Tryz.func22 (by kernel_rfl) (by kernel_rfl) ?_
      simp only [List.map_toArray, List.map_cons, List.map_nil, h30, h31]
      refine (ckverify_any _ pub _ ⟨n, r, i, ps, qs⟩ vb (unhide HVB) w (unhide HPW w hk) (unhide HPB) (unhide HVW w hk) (unhide HGW w hk)).mono ?_
      rintro e w' ⟨rfl, K⟩
      exact ⟨_, rfl, K, rfl⟩
    refine steps_cons (fun a w hk hn => ?_) ?_
    · have h0 : a.eval (.tmp 0) = .slice av nv cv := hn.1
      have h29 : a.eval (.tmp 29) = .bool false := hn.2.1
      clear hn
      refine wants_guard (d := 29) rfl rfl h29 ?_
      exact grown_move (.tmp 0) rfl h0
    refine steps_cons (fun a w hk hn => ?_) ?_
    · have h3 : a.eval (.tmp 3) = .pointer (some ⟨g1, 0, none⟩) := hn.1
      have h29 : a.eval (.tmp 29) = .bool false := hn.2.1
      clear hn
      refine wants_guard (d := 29) rfl rfl h29 ?_
      exact grown_loadf 30 (.tmp 3) rfl g1 0 h3 _ _ _ _ (unhide HST w hk) [.int .i64 n, .slice ar mr cr, .int .i64 i, .slice ap np cp, .slice aq nq cq] (flat_in rfl) Tryz.underlying30 rfl Tryz.sgdSize rfl
    refine steps_cons (fun a w hk hn => ?_) ?_
    · have h33 : a.eval (.tmp 33) = .slice av nv cv := hn.1
      have h34 : a.eval (.tmp 34) = .agg #[.int .i64 n, .slice ar mr cr, .int .i64 i, .slice ap np cp, .slice aq nq cq] := hn.2.1
      have h29 : a.eval (.tmp 29) = .bool false := hn.2.2.1
      clear hn
      refine wants_guard (d := 29) rfl rfl h29 ?_
      refine grown_call (f := 29) rfl Tryz.func29 (by kernel_rfl) (by kernel_rfl) ?_
      simp only [List.map_toArray, List.map_cons, List.map_nil, h33, h34]
      refine (rckverify_any _ pub _ ⟨n, r, i, ps, qs⟩ vb (unhide HVB) w (unhide HPW w hk) (unhide HPB) (unhide HVW w hk) (unhide HI)).mono ?_
      rintro e w' ⟨rfl, K⟩
      exact ⟨_, rfl, K, rfl⟩
    refine steps_cons (fun a w hk hn => ?_) ?_
    · have h32 : a.eval (.tmp 32) = .bool vb := hn.1
      have h35 : a.eval (.tmp 35) = .bool vb := hn.2.1
      have h29 : a.eval (.tmp 29) = .bool false := hn.2.2.1
      clear hn
      refine wants_guard (d := 29) rfl rfl h29 ?_
      refine grown_run (v := .bool false) ?_ (Kp.refl _ _) rfl
      obtain ⟨ρ, hρ, hc, hf, hg⟩ := eval_is a
      rw [hρ] at h32 h35 ⊢
      simp [go_sem, h32, h35]
    refine steps_cons (fun a w hk hn => ?_) ?_
    · have h29 : a.eval (.tmp 29) = .bool false := hn.1
      have h36 : a.eval (.tmp 36) = .bool false := hn.2.1
      clear hn
      refine wants_plain rfl ?_
      exact grown_pick _ _ _ false rfl h29 h36
    exact trivial
  intro W1 hkW1
  rintro _ rfl
  rintro _ rfl
  rintro _ rfl
  rintro _ rfl
  rintro _ rfl
  rintro _ rfl
  rintro _ rfl
  rintro _ rfl
  rintro _ rfl
  rintro _ rfl
  intro v21 h21
  rintro _ rfl
  rintro _ rfl
  rintro _ rfl
  intro v25 h25
  rintro _ rfl
  rintro _ rfl
  rintro _ rfl
  rintro _ rfl
  rintro _ rfl
  rintro _ rfl
  rintro _ rfl
  rintro _ rfl
  rintro _ rfl
  rintro _ rfl
  rintro _ rfl
  rintro _ rfl
  refine fin_nil ?_
  simp only [Act.put, List.set_cons_zero, List.set_cons_succ, List.setIfInBounds_toArray]
  have G1 := unhide HST W1 hkW1
  have HK1 := hide (unhide HD W1 hkW1)
  have HV1 := hide (unhide HVW W1 hkW1)
  have c0 : W1.cell? ⟨g1, 0, none⟩ = some (.int .i64 n) := by rw [cell_of_row _ g1 0 _ _ _ (G1)]; rfl
  have c1 : W1.cell? ⟨g1, 1, none⟩ = some (.slice ar mr cr) := by rw [cell_of_row _ g1 1 _ _ _ (G1)]; rfl
  have c2 : W1.cell? ⟨g1, 2, none⟩ = some (.int .i64 i) := by rw [cell_of_row _ g1 2 _ _ _ (G1)]; rfl
  have c3 : W1.cell? ⟨g1, 3, none⟩ = some (.slice ap np cp) := by rw [cell_of_row _ g1 3 _ _ _ (G1)]; rfl
  have c4 : W1.cell? ⟨g1, 4, none⟩ = some (.slice aq nq cq) := by rw [cell_of_row _ g1 4 _ _ _ (G1)]; rfl
  have HGb := hide G1
  clear h21 h25 hkW1 HD HST HCK HVW HPW HGW G1
  cases hr : (Sg.mk n r i ps qs).rgt with
  | true =>
    have HE := hide (ckenc_ok _ _ W1 (unhide HV1) hr)
    have HR := hide hr
    obtain ⟨L, hL⟩ : ∃ L, L = (Sg.mk n r i ps qs).lay := ⟨_, rfl⟩
    have hLn : L.length = 2216 := by rw [hL]; exact Sg.lay_len hr
    rw [← hL] at HE
    have HLL := hide hL
    have HLn := hide hLn
    clear hr hL hLn
    go_wp2_with fail
    refine (unhide HE).mono ?_
    rintro ee w5 ⟨a5, m5, c5, rfl, R5, K5⟩
    have HR5 := hide R5
    have HK5 := hide ((unhide HK1).trans K5)
    have G5 := K5.heap (unhide HGb) (by simp)
    have d0 : w5.cell? ⟨g1, 0, none⟩ = some (.int .i64 n) := by rw [cell_of_row _ g1 0 _ _ _ (G5)]; rfl
    have d1 : w5.cell? ⟨g1, 1, none⟩ = some (.slice ar mr cr) := by rw [cell_of_row _ g1 1 _ _ _ (G5)]; rfl
    have d2 : w5.cell? ⟨g1, 2, none⟩ = some (.int .i64 i) := by rw [cell_of_row _ g1 2 _ _ _ (G5)]; rfl
    have d3 : w5.cell? ⟨g1, 3, none⟩ = some (.slice ap np cp) := by rw [cell_of_row _ g1 3 _ _ _ (G5)]; rfl
    have d4 : w5.cell? ⟨g1, 4, none⟩ = some (.slice aq nq cq) := by rw [cell_of_row _ g1 4 _ _ _ (G5)]; rfl
    have HG5 := hide G5
    have hC := refput_ok _ _ w5 (unhide HV w5 (unhide HK5)) (unhide HR) (unhide HI)
    rw [← unhide HLL] at hC
    have HP := hide hC
    clear HE R5 K5 G5 hC HGb c0 c1 c2 c3 c4
    go_wp2_with fail
    refine (unhide HP).mono ?_
    rintro ee w6 ⟨a6, m6, c6, rfl, R6, K6⟩
    have HK6 := hide ((unhide HK5).trans K6)
    have HS56 := hide ((unhide HR5).sl.kept K6 (by simp))
    have HR6 := hide R6.sl
    have HG6 := hide (K6.heap (unhide HG5) (by simp))
    clear HP R6 K6 d0 d1 d2 d3 d4 HR5 HG5
    go_wp2_with fail
    refine (new_abs w6).mono ?_
    rintro ee w7 ⟨p, rfl, W7, hp7, K7⟩
    have HW7 : Hid (Wn w6 w7 p (.slice none 0 0) []) := ⟨W7, K7, hp7, fun k hk => by cases hk⟩
    have HBy := hide (wbyte_any p 7 _ [] w7 W7 (by simp) (by omega) (by omega))
    clear W7 hp7 K7
    go_wp2_with fail
    refine (unhide HBy).mono ?_
    rintro ee w8 ⟨rfl, v8, W8, S8⟩
    have HW8 := hide ((unhide HW7).step W8 S8)
    rw [List.nil_append] at HW8
    have G8 := (unhide HW8).2.1.heap (unhide HG6) (by simp)
    have e0 : w8.cell? ⟨g1, 0, none⟩ = some (.int .i64 n) := by rw [cell_of_row _ g1 0 _ _ _ (G8)]; rfl
    have e1 : w8.cell? ⟨g1, 1, none⟩ = some (.slice ar mr cr) := by rw [cell_of_row _ g1 1 _ _ _ (G8)]; rfl
    have e2 : w8.cell? ⟨g1, 2, none⟩ = some (.int .i64 i) := by rw [cell_of_row _ g1 2 _ _ _ (G8)]; rfl
    have e3 : w8.cell? ⟨g1, 3, none⟩ = some (.slice ap np cp) := by rw [cell_of_row _ g1 3 _ _ _ (G8)]; rfl
    have e4 : w8.cell? ⟨g1, 4, none⟩ = some (.slice aq nq cq) := by rw [cell_of_row _ g1 4 _ _ _ (G8)]; rfl
    have hC := ckput_ok p v8 [7] _ _ w8 (unhide HW8).1 (by simp) (unhide HV w8 ((unhide HK6).trans (unhide HW8).2.1)) (fun w' k' => unhide HV w' ((unhide HK6).trans ((unhide HW8).kp k'))) (unhide HR)
    rw [← unhide HLL] at hC
    have HPt := hide hC
    clear HBy W8 S8 HW7 G8 hC
    go_wp2_with fail
    refine (unhide HPt).mono ?_
    rintro ee w9 ⟨rfl, v9, W9, S9⟩
    have HW9 := hide ((unhide HW8).step W9 S9)
    have HD9 : Hid (∀ w', Kp [] w9.drew w' → Kp [] w9 w') := fun w' k' => (kp_drew w9).trans k'
    have HWR : Hid (∀ w', Kp [] w9.drew w' → Wr w' p v9 ([7] ++ L)) := fun w' k' => (unhide HW9).1.kept (unhide HD9 w' k') (by simp) (by simp)
    have HS5 : Hid (∀ w', Kp [] w9.drew w' → Sl w' (.slice a5 m5 c5) L) := fun w' k' => (unhide HS56).kept ((unhide HW9).2.1.trans (unhide HD9 w' k')) (by simp)
    have HS6 : Hid (∀ w', Kp [] w9.drew w' → Sl w' (.slice a6 m6 c6) L) := fun w' k' => (unhide HR6).kept ((unhide HW9).2.1.trans (unhide HD9 w' k')) (by simp)
    obtain ⟨SL, hSL⟩ : ∃ S, S = strOfNums L := ⟨_, rfl⟩
    obtain ⟨S7, hS7⟩ : ∃ S, S = strOfNums ([7] ++ L) := ⟨_, rfl⟩
    have HSL := hide hSL
    have HS7 := hide hS7
    have HS7E : Hid ((⟨#[7]⟩ : ByteArray) ++ SL = S7) := by
      show (⟨#[7]⟩ : ByteArray) ++ SL = S7
      rw [hSL, hS7]
      exact str_cons7 L
    have HSZ : Hid (1 + SL.size ≤ 9223372036854775807) := hide (by rw [hSL, str_size, unhide HLn]; omega)
    have HLN : Hid (([7] ++ L).length ≤ 140737488355328) := hide (by rw [List.length_append, unhide HLn]; simp)
    have HKF := hide ((unhide HK6).trans (unhide HW9).2.1)
    clear HPt W9 S9 HW8 e0 e1 e2 e3 e4 hSL hS7 HS56 HR6 HW9 HG6
    go_wp2_with fail
    refine region_grow Tryz.mixed [Is (.int .i64 0), Is (.bool true), Is (.bool true), Is (.bool false), Is (.bool false), Is (.bool true), Is (.bool true), Is (.bool false), Is (.bool false), Is (.bool false), Is (.bool true), Is (.bool true), Is (.slice a5 m5 c5), Is (.string SL), Is (.slice a6 m6 c6), Is (.string SL), Is (.bool false), Is (.bool false), Is (.pointer (some ⟨p, 0, none⟩)), SlT ([7] ++ L), Is (.string S7), Is (.slice a6 m6 c6), Is (.string SL), Is (.string S7), Is (.bool false), Is (.bool false), Is (.bool false), Is (.bool false), Is (.bool false), Is (.bool true), Is (.bool false), Is (.bool false), Is (undef), Is (undef), Is (undef), Is (undef), Is (undef), Is (undef), Is (undef), Is (undef), Is (undef), Is (undef), Is (undef), Is (undef), Is (undef), Is (.bool false), Is (.bool false)] [[(6, none)], [(56, some 0)], [(8, none)], [(57, some 1), (58, some 2)], [(59, some 3)], [(10, none), (60, some 4)], [(8, none), (60, some 4)], [(61, some 5), (62, some 6), (60, some 4)], [(60, some 4), (63, some 7)], [(64, some 8)], [(8, none), (65, some 9)], [(66, some 10), (65, some 9)], [(5, none), (67, some 11)], [(68, some 12), (67, some 11)], [(7, none), (67, some 11)], [(70, some 14), (67, some 11)], [(69, some 13), (71, some 15), (67, some 11)], [(72, some 16), (67, some 11)], [(9, none), (73, some 17)], [(74, some 18), (73, some 17)], [(75, some 19), (73, some 17)], [(7, none), (73, some 17)], [(77, some 21), (73, some 17)], [(78, some 22), (73, some 17)], [(76, some 20), (79, some 23), (73, some 17)], [(73, some 17), (80, some 24), (67, some 11)], [(67, some 11), (81, some 25), (65, some 9)], [(65, some 9), (82, some 26)], [(83, some 27)], [(8, none), (84, some 28)], [(85, some 29), (84, some 28)], [(86, some 30), (84, some 28)], [(6, none), (87, some 31)], [(88, some 32), (87, some 31)], [(89, some 33), (87, some 31)], [(5, none), (90, some 34)], [(91, some 35), (90, some 34)], [(92, some 36), (90, some 34)], [(90, some 34), (93, some 37), (87, some 31)], [(94, some 38), (87, some 31)], [(9, none), (95, some 39)], [(96, some 40), (95, some 39)], [(97, some 41), (95, some 39)], [(98, some 42), (95, some 39)], [(95, some 39), (99, some 43), (87, some 31)], [(87, some 31), (100, some 44), (84, some 28)], [(84, some 28), (101, some 45)]] (by kernel_rfl) ?_ ?_ ?_
    · simp only [List.mem_cons, List.not_mem_nil, or_false]
      intro R hR
      rcases hR with rfl | rfl | rfl | rfl | rfl | rfl | rfl | rfl | rfl | rfl | rfl | rfl | rfl | rfl | rfl | rfl | rfl | rfl | rfl | rfl | rfl | rfl | rfl | rfl | rfl | rfl | rfl | rfl | rfl | rfl | rfl | rfl | rfl | rfl | rfl | rfl | rfl | rfl | rfl | rfl | rfl | rfl | rfl | rfl | rfl | rfl | rfl <;> first | exact stable_is _ | exact stable_sl _
    · refine steps_cons (fun a w hk hn => ?_) ?_
      · have h6 : a.eval (.tmp 6) = .int .i64 0 := hn.1
        clear hn
        refine wants_plain rfl ?_
        exact grown_move (.tmp 6) rfl h6
      refine steps_cons (fun a w hk hn => ?_) ?_
      · have h56 : a.eval (.tmp 56) = .int .i64 0 := hn.1
        clear hn
        refine wants_plain rfl ?_
        refine grown_run (v := .bool true) ?_ (Kp.refl _ _) rfl
        obtain ⟨ρ, hρ, hc, hf, hg⟩ := eval_is a
        rw [hρ] at h56 ⊢
        simp [go_sem, hc, h56]
      refine steps_cons (fun a w hk hn => ?_) ?_
      · have h8 : a.eval (.tmp 8) = .bool true := hn.1
        clear hn
        refine wants_plain rfl ?_
        exact grown_move (.tmp 8) rfl h8
      refine steps_cons (fun a w hk hn => ?_) ?_
      · have h57 : a.eval (.tmp 57) = .bool true := hn.1
        have h58 : a.eval (.tmp 58) = .bool true := hn.2.1
        clear hn
        refine wants_plain rfl ?_
        refine grown_run (v := .bool false) ?_ (Kp.refl _ _) rfl
        obtain ⟨ρ, hρ, hc, hf, hg⟩ := eval_is a
        rw [hρ] at h57 h58 ⊢
        simp [go_sem, h57, h58]
      refine steps_cons (fun a w hk hn => ?_) ?_
      · have h59 : a.eval (.tmp 59) = .bool false := hn.1
        clear hn
        refine wants_plain rfl ?_
        exact grown_move (.tmp 59) rfl h59
      refine steps_cons (fun a w hk hn => ?_) ?_
      · have h10 : a.eval (.tmp 10) = .bool true := hn.1
        have h60 : a.eval (.tmp 60) = .bool false := hn.2.1
        clear hn
        refine wants_guard (d := 60) rfl rfl h60 ?_
        exact grown_move (.tmp 10) rfl h10
      refine steps_cons (fun a w hk hn => ?_) ?_
      · have h8 : a.eval (.tmp 8) = .bool true := hn.1
        have h60 : a.eval (.tmp 60) = .bool false := hn.2.1
        clear hn
        refine wants_guard (d := 60) rfl rfl h60 ?_
        exact grown_move (.tmp 8) rfl h8
      refine steps_cons (fun a w hk hn => ?_) ?_
      · have h61 : a.eval (.tmp 61) = .bool true := hn.1
        have h62 : a.eval (.tmp 62) = .bool true := hn.2.1
        have h60 : a.eval (.tmp 60) = .bool false := hn.2.2.1
        clear hn
        refine wants_guard (d := 60) rfl rfl h60 ?_
        refine grown_run (v := .bool false) ?_ (Kp.refl _ _) rfl
        obtain ⟨ρ, hρ, hc, hf, hg⟩ := eval_is a
        rw [hρ] at h61 h62 ⊢
        simp [go_sem, h61, h62]
      refine steps_cons (fun a w hk hn => ?_) ?_
      · have h60 : a.eval (.tmp 60) = .bool false := hn.1
        have h63 : a.eval (.tmp 63) = .bool false := hn.2.1
        clear hn
        refine wants_plain rfl ?_
        exact grown_pick _ _ _ false rfl h60 h63
      refine steps_cons (fun a w hk hn => ?_) ?_
      · have h64 : a.eval (.tmp 64) = .bool false := hn.1
        clear hn
        refine wants_plain rfl ?_
        exact grown_move (.tmp 64) rfl h64
      refine steps_cons (fun a w hk hn => ?_) ?_
      · have h8 : a.eval (.tmp 8) = .bool true := hn.1
        have h65 : a.eval (.tmp 65) = .bool false := hn.2.1
        clear hn
        refine wants_guard (d := 65) rfl rfl h65 ?_
        exact grown_move (.tmp 8) rfl h8
      refine steps_cons (fun a w hk hn => ?_) ?_
      · have h66 : a.eval (.tmp 66) = .bool true := hn.1
        have h65 : a.eval (.tmp 65) = .bool false := hn.2.1
        clear hn
        refine wants_guard (d := 65) rfl rfl h65 ?_
        exact grown_move (.tmp 66) rfl h66
      refine steps_cons (fun a w hk hn => ?_) ?_
      · have h5 : a.eval (.tmp 5) = .slice a5 m5 c5 := hn.1
        have h67 : a.eval (.tmp 67) = .bool true := hn.2.1
        clear hn
        refine wants_guard (d := 67) rfl rfl h67 ?_
        exact grown_move (.tmp 5) rfl h5
      refine steps_cons (fun a w hk hn => ?_) ?_
      · have h68 : a.eval (.tmp 68) = .slice a5 m5 c5 := hn.1
        have h67 : a.eval (.tmp 67) = .bool true := hn.2.1
        clear hn
        refine wants_guard (d := 67) rfl rfl h67 ?_
        exact grown_conv (.tmp 68) _ _ 5 (L) rfl (by rw [h68]; exact unhide HS5 w hk) Tryz.underlying23 Tryz.underlying5 Tryz.underlying9 (congrArg Value.string (unhide HSL).symm)
      refine steps_cons (fun a w hk hn => ?_) ?_
      · have h7 : a.eval (.tmp 7) = .slice a6 m6 c6 := hn.1
        have h67 : a.eval (.tmp 67) = .bool true := hn.2.1
        clear hn
        refine wants_guard (d := 67) rfl rfl h67 ?_
        exact grown_move (.tmp 7) rfl h7
      refine steps_cons (fun a w hk hn => ?_) ?_
      · have h70 : a.eval (.tmp 70) = .slice a6 m6 c6 := hn.1
        have h67 : a.eval (.tmp 67) = .bool true := hn.2.1
        clear hn
        refine wants_guard (d := 67) rfl rfl h67 ?_
        exact grown_conv (.tmp 70) _ _ 5 (L) rfl (by rw [h70]; exact unhide HS6 w hk) Tryz.underlying23 Tryz.underlying5 Tryz.underlying9 (congrArg Value.string (unhide HSL).symm)
      refine steps_cons (fun a w hk hn => ?_) ?_
      · have h69 : a.eval (.tmp 69) = .string SL := hn.1
        have h71 : a.eval (.tmp 71) = .string SL := hn.2.1
        have h67 : a.eval (.tmp 67) = .bool true := hn.2.2.1
        clear hn
        refine wants_guard (d := 67) rfl rfl h67 ?_
        refine grown_run (v := .bool false) ?_ (Kp.refl _ _) rfl
        obtain ⟨ρ, hρ, hc, hf, hg⟩ := eval_is a
        rw [hρ] at h69 h71 ⊢
        simp [go_sem, h69, h71]
      refine steps_cons (fun a w hk hn => ?_) ?_
      · have h72 : a.eval (.tmp 72) = .bool false := hn.1
        have h67 : a.eval (.tmp 67) = .bool true := hn.2.1
        clear hn
        refine wants_guard (d := 67) rfl rfl h67 ?_
        exact grown_move (.tmp 72) rfl h72
      refine steps_cons (fun a w hk hn => ?_) ?_
      · have h9 : a.eval (.tmp 9) = .pointer (some ⟨p, 0, none⟩) := hn.1
        have h73 : a.eval (.tmp 73) = .bool false := hn.2.1
        clear hn
        refine wants_guard (d := 73) rfl rfl h73 ?_
        exact grown_move (.tmp 9) rfl h9
      refine steps_cons (fun a w hk hn => ?_) ?_
      · have h74 : a.eval (.tmp 74) = .pointer (some ⟨p, 0, none⟩) := hn.1
        have h73 : a.eval (.tmp 73) = .bool false := hn.2.1
        clear hn
        refine wants_guard (d := 73) rfl rfl h73 ?_
        refine grown_call (f := 33) rfl Tryz.func33 (by kernel_rfl) (by kernel_rfl) ?_
        simp only [List.map_toArray, List.map_cons, List.map_nil, h74]
        refine (done_any p v9 ([7] ++ L) w (unhide HWR w hk) (unhide HLN)).mono ?_
        rintro e w' ⟨ao, c, rfl, R, K⟩
        exact ⟨_, rfl, K, Sl.of_owns R⟩
      refine steps_cons (fun a w hk hn => ?_) ?_
      · have h75 : Sl w (a.eval (.tmp 75)) ([7] ++ L) := hn.1
        have h73 : a.eval (.tmp 73) = .bool false := hn.2.1
        clear hn
        refine wants_guard (d := 73) rfl rfl h73 ?_
        exact grown_conv (.tmp 75) _ _ 5 _ rfl h75 Tryz.underlying23 Tryz.underlying5 Tryz.underlying9 (congrArg Value.string (unhide HS7).symm)
      refine steps_cons (fun a w hk hn => ?_) ?_
      · have h7 : a.eval (.tmp 7) = .slice a6 m6 c6 := hn.1
        have h73 : a.eval (.tmp 73) = .bool false := hn.2.1
        clear hn
        refine wants_guard (d := 73) rfl rfl h73 ?_
        exact grown_move (.tmp 7) rfl h7
      refine steps_cons (fun a w hk hn => ?_) ?_
      · have h77 : a.eval (.tmp 77) = .slice a6 m6 c6 := hn.1
        have h73 : a.eval (.tmp 73) = .bool false := hn.2.1
        clear hn
        refine wants_guard (d := 73) rfl rfl h73 ?_
        exact grown_conv (.tmp 77) _ _ 5 (L) rfl (by rw [h77]; exact unhide HS6 w hk) Tryz.underlying23 Tryz.underlying5 Tryz.underlying9 (congrArg Value.string (unhide HSL).symm)
      refine steps_cons (fun a w hk hn => ?_) ?_
      · have h78 : a.eval (.tmp 78) = .string SL := hn.1
        have h73 : a.eval (.tmp 73) = .bool false := hn.2.1
        clear hn
        refine wants_guard (d := 73) rfl rfl h73 ?_
        refine grown_run (v := .string S7) ?_ (Kp.refl _ _) rfl
        have hE := unhide HS7E
        obtain ⟨ρ, hρ, hc, hf, hg⟩ := eval_is a
        rw [hρ] at h78 ⊢
        simp [go_sem, hc, h78, hE]
        exact unhide HSZ
      refine steps_cons (fun a w hk hn => ?_) ?_
      · have h76 : a.eval (.tmp 76) = .string S7 := hn.1
        have h79 : a.eval (.tmp 79) = .string S7 := hn.2.1
        have h73 : a.eval (.tmp 73) = .bool false := hn.2.2.1
        clear hn
        refine wants_guard (d := 73) rfl rfl h73 ?_
        refine grown_run (v := .bool false) ?_ (Kp.refl _ _) rfl
        obtain ⟨ρ, hρ, hc, hf, hg⟩ := eval_is a
        rw [hρ] at h76 h79 ⊢
        simp [go_sem, h76, h79]
      refine steps_cons (fun a w hk hn => ?_) ?_
      · have h73 : a.eval (.tmp 73) = .bool false := hn.1
        have h80 : a.eval (.tmp 80) = .bool false := hn.2.1
        have h67 : a.eval (.tmp 67) = .bool true := hn.2.2.1
        clear hn
        refine wants_guard (d := 67) rfl rfl h67 ?_
        exact grown_pick _ _ _ false rfl h73 h80
      refine steps_cons (fun a w hk hn => ?_) ?_
      · have h67 : a.eval (.tmp 67) = .bool true := hn.1
        have h81 : a.eval (.tmp 81) = .bool false := hn.2.1
        have h65 : a.eval (.tmp 65) = .bool false := hn.2.2.1
        clear hn
        refine wants_guard (d := 65) rfl rfl h65 ?_
        exact grown_pick _ _ _ true rfl h67 h81
      refine steps_cons (fun a w hk hn => ?_) ?_
      · have h65 : a.eval (.tmp 65) = .bool false := hn.1
        have h82 : a.eval (.tmp 82) = .bool false := hn.2.1
        clear hn
        refine wants_plain rfl ?_
        exact grown_pick _ _ _ false rfl h65 h82
      refine steps_cons (fun a w hk hn => ?_) ?_
      · have h83 : a.eval (.tmp 83) = .bool false := hn.1
        clear hn
        refine wants_plain rfl ?_
        exact grown_move (.tmp 83) rfl h83
      refine steps_cons (fun a w hk hn => ?_) ?_
      · have h8 : a.eval (.tmp 8) = .bool true := hn.1
        have h84 : a.eval (.tmp 84) = .bool false := hn.2.1
        clear hn
        refine wants_guard (d := 84) rfl rfl h84 ?_
        exact grown_move (.tmp 8) rfl h8
      refine steps_cons (fun a w hk hn => ?_) ?_
      · have h85 : a.eval (.tmp 85) = .bool true := hn.1
        have h84 : a.eval (.tmp 84) = .bool false := hn.2.1
        clear hn
        refine wants_guard (d := 84) rfl rfl h84 ?_
        refine grown_run (v := .bool false) ?_ (Kp.refl _ _) rfl
        obtain ⟨ρ, hρ, hc, hf, hg⟩ := eval_is a
        rw [hρ] at h85 ⊢
        simp [go_sem, h85]
      refine steps_cons (fun a w hk hn => ?_) ?_
      · have h86 : a.eval (.tmp 86) = .bool false := hn.1
        have h84 : a.eval (.tmp 84) = .bool false := hn.2.1
        clear hn
        refine wants_guard (d := 84) rfl rfl h84 ?_
        exact grown_move (.tmp 86) rfl h86
      refine steps_cons (fun a w hk hn => ?_) ?_
      · have h6 : a.eval (.tmp 6) = .int .i64 0 := hn.1
        have h87 : a.eval (.tmp 87) = .bool false := hn.2.1
        clear hn
        exact wants_not (d := 87) rfl rfl h87 rfl
      refine steps_cons (fun a w hk hn => ?_) ?_
      · have h88 : a.eval (.tmp 88) = undef := hn.1
        have h87 : a.eval (.tmp 87) = .bool false := hn.2.1
        clear hn
        exact wants_not (d := 87) rfl rfl h87 rfl
      refine steps_cons (fun a w hk hn => ?_) ?_
      · have h89 : a.eval (.tmp 89) = undef := hn.1
        have h87 : a.eval (.tmp 87) = .bool false := hn.2.1
        clear hn
        exact wants_not (d := 87) rfl rfl h87 rfl
      refine steps_cons (fun a w hk hn => ?_) ?_
      · have h5 : a.eval (.tmp 5) = .slice a5 m5 c5 := hn.1
        have h90 : a.eval (.tmp 90) = undef := hn.2.1
        clear hn
        exact wants_none (d := 90) rfl rfl h90 rfl
      refine steps_cons (fun a w hk hn => ?_) ?_
      · have h91 : a.eval (.tmp 91) = undef := hn.1
        have h90 : a.eval (.tmp 90) = undef := hn.2.1
        clear hn
        exact wants_none (d := 90) rfl rfl h90 rfl
      refine steps_cons (fun a w hk hn => ?_) ?_
      · have h92 : a.eval (.tmp 92) = undef := hn.1
        have h90 : a.eval (.tmp 90) = undef := hn.2.1
        clear hn
        exact wants_none (d := 90) rfl rfl h90 rfl
      refine steps_cons (fun a w hk hn => ?_) ?_
      · have h90 : a.eval (.tmp 90) = undef := hn.1
        have h93 : a.eval (.tmp 93) = undef := hn.2.1
        have h87 : a.eval (.tmp 87) = .bool false := hn.2.2.1
        clear hn
        exact wants_not (d := 87) rfl rfl h87 rfl
      refine steps_cons (fun a w hk hn => ?_) ?_
      · have h94 : a.eval (.tmp 94) = undef := hn.1
        have h87 : a.eval (.tmp 87) = .bool false := hn.2.1
        clear hn
        exact wants_not (d := 87) rfl rfl h87 rfl
      refine steps_cons (fun a w hk hn => ?_) ?_
      · have h9 : a.eval (.tmp 9) = .pointer (some ⟨p, 0, none⟩) := hn.1
        have h95 : a.eval (.tmp 95) = undef := hn.2.1
        clear hn
        exact wants_none (d := 95) rfl rfl h95 rfl
      refine steps_cons (fun a w hk hn => ?_) ?_
      · have h96 : a.eval (.tmp 96) = undef := hn.1
        have h95 : a.eval (.tmp 95) = undef := hn.2.1
        clear hn
        exact wants_none (d := 95) rfl rfl h95 rfl
      refine steps_cons (fun a w hk hn => ?_) ?_
      · have h97 : a.eval (.tmp 97) = undef := hn.1
        have h95 : a.eval (.tmp 95) = undef := hn.2.1
        clear hn
        exact wants_none (d := 95) rfl rfl h95 rfl
      refine steps_cons (fun a w hk hn => ?_) ?_
      · have h98 : a.eval (.tmp 98) = undef := hn.1
        have h95 : a.eval (.tmp 95) = undef := hn.2.1
        clear hn
        exact wants_none (d := 95) rfl rfl h95 rfl
      refine steps_cons (fun a w hk hn => ?_) ?_
      · have h95 : a.eval (.tmp 95) = undef := hn.1
        have h99 : a.eval (.tmp 99) = undef := hn.2.1
        have h87 : a.eval (.tmp 87) = .bool false := hn.2.2.1
        clear hn
        exact wants_not (d := 87) rfl rfl h87 rfl
      refine steps_cons (fun a w hk hn => ?_) ?_
      · have h87 : a.eval (.tmp 87) = .bool false := hn.1
        have h100 : a.eval (.tmp 100) = undef := hn.2.1
        have h84 : a.eval (.tmp 84) = .bool false := hn.2.2.1
        clear hn
        refine wants_guard (d := 84) rfl rfl h84 ?_
        exact grown_pick _ _ _ false rfl h87 rfl
      refine steps_cons (fun a w hk hn => ?_) ?_
      · have h84 : a.eval (.tmp 84) = .bool false := hn.1
        have h101 : a.eval (.tmp 101) = .bool false := hn.2.1
        clear hn
        refine wants_plain rfl ?_
        exact grown_pick _ _ _ false rfl h84 h101
      exact trivial
    intro W2 hkW2
    rintro _ rfl
    rintro _ rfl
    rintro _ rfl
    rintro _ rfl
    rintro _ rfl
    rintro _ rfl
    rintro _ rfl
    rintro _ rfl
    rintro _ rfl
    rintro _ rfl
    rintro _ rfl
    rintro _ rfl
    rintro _ rfl
    rintro _ rfl
    rintro _ rfl
    rintro _ rfl
    rintro _ rfl
    rintro _ rfl
    rintro _ rfl
    intro v75 h75
    rintro _ rfl
    rintro _ rfl
    rintro _ rfl
    rintro _ rfl
    rintro _ rfl
    rintro _ rfl
    rintro _ rfl
    rintro _ rfl
    rintro _ rfl
    rintro _ rfl
    rintro _ rfl
    rintro _ rfl
    rintro _ rfl
    rintro _ rfl
    rintro _ rfl
    rintro _ rfl
    rintro _ rfl
    rintro _ rfl
    rintro _ rfl
    rintro _ rfl
    rintro _ rfl
    rintro _ rfl
    rintro _ rfl
    rintro _ rfl
    rintro _ rfl
    rintro _ rfl
    rintro _ rfl
    refine fin_nil ?_
    simp only [Act.put, List.set_cons_zero, List.set_cons_succ, List.setIfInBounds_toArray]
    go_wp2_with fail
    go_ret
    exact ⟨rfl, (unhide HKF).trans (unhide HD9 W2 hkW2)⟩
  | false =>
    have HE := hide (ckenc_no _ _ W1 (unhide HV1) hr)
    have HR := hide hr
    clear hr
    go_wp2_with fail
    refine (unhide HE).mono ?_
    rintro ee w5 ⟨rfl, K5⟩
    have HK5 := hide ((unhide HK1).trans K5)
    have G5 := K5.heap (unhide HGb) (by simp)
    have d0 : w5.cell? ⟨g1, 0, none⟩ = some (.int .i64 n) := by rw [cell_of_row _ g1 0 _ _ _ (G5)]; rfl
    have d1 : w5.cell? ⟨g1, 1, none⟩ = some (.slice ar mr cr) := by rw [cell_of_row _ g1 1 _ _ _ (G5)]; rfl
    have d2 : w5.cell? ⟨g1, 2, none⟩ = some (.int .i64 i) := by rw [cell_of_row _ g1 2 _ _ _ (G5)]; rfl
    have d3 : w5.cell? ⟨g1, 3, none⟩ = some (.slice ap np cp) := by rw [cell_of_row _ g1 3 _ _ _ (G5)]; rfl
    have d4 : w5.cell? ⟨g1, 4, none⟩ = some (.slice aq nq cq) := by rw [cell_of_row _ g1 4 _ _ _ (G5)]; rfl
    have HG5 := hide G5
    have HP := hide (refput_no _ _ w5 (unhide HV w5 (unhide HK5)) (unhide HR) (unhide HI))
    clear HE K5 G5 HGb c0 c1 c2 c3 c4
    go_wp2_with fail
    refine (unhide HP).mono ?_
    rintro ee w6 ⟨rfl, K6⟩
    have HK6 := hide ((unhide HK5).trans K6)
    have HG6 := hide (K6.heap (unhide HG5) (by simp))
    clear HP K6 d0 d1 d2 d3 d4 HG5
    go_wp2_with fail
    refine (new_abs w6).mono ?_
    rintro ee w7 ⟨p, rfl, W7, hp7, K7⟩
    have HW7 : Hid (Wn w6 w7 p (.slice none 0 0) []) := ⟨W7, K7, hp7, fun k hk => by cases hk⟩
    have HBy := hide (wbyte_any p 7 _ [] w7 W7 (by simp) (by omega) (by omega))
    clear W7 hp7 K7
    go_wp2_with fail
    refine (unhide HBy).mono ?_
    rintro ee w8 ⟨rfl, v8, W8, S8⟩
    have HW8 := hide ((unhide HW7).step W8 S8)
    rw [List.nil_append] at HW8
    have G8 := (unhide HW8).2.1.heap (unhide HG6) (by simp)
    have e0 : w8.cell? ⟨g1, 0, none⟩ = some (.int .i64 n) := by rw [cell_of_row _ g1 0 _ _ _ (G8)]; rfl
    have e1 : w8.cell? ⟨g1, 1, none⟩ = some (.slice ar mr cr) := by rw [cell_of_row _ g1 1 _ _ _ (G8)]; rfl
    have e2 : w8.cell? ⟨g1, 2, none⟩ = some (.int .i64 i) := by rw [cell_of_row _ g1 2 _ _ _ (G8)]; rfl
    have e3 : w8.cell? ⟨g1, 3, none⟩ = some (.slice ap np cp) := by rw [cell_of_row _ g1 3 _ _ _ (G8)]; rfl
    have e4 : w8.cell? ⟨g1, 4, none⟩ = some (.slice aq nq cq) := by rw [cell_of_row _ g1 4 _ _ _ (G8)]; rfl
    have HPt := hide (ckput_no p _ _ w8 (unhide HV w8 ((unhide HK6).trans (unhide HW8).2.1)) (unhide HR))
    clear HBy W8 S8 HW7 G8
    go_wp2_with fail
    refine (unhide HPt).mono ?_
    rintro ee w9 ⟨rfl, K9⟩
    have HD9 : Hid (∀ w', Kp [] w9.drew w' → Kp [] w8 w') := fun w' k' => K9.trans ((kp_drew w9).trans k')
    have HWR : Hid (∀ w', Kp [] w9.drew w' → Wr w' p v8 [7]) := fun w' k' => (unhide HW8).1.kept (unhide HD9 w' k') (by simp) (by simp)
    have HKF := hide ((unhide HK6).trans (unhide HW8).2.1)
    clear HPt K9 HW8 e0 e1 e2 e3 e4 HG6
    go_wp2_with fail
    refine region_grow Tryz.mixed [Is (.int .i64 12), Is (.bool false), Is (.bool false), Is (.bool false), Is (.bool false), Is (.bool false), Is (.bool false), Is (.bool false), Is (.bool false), Is (.bool false), Is (.bool false), Is (.bool false), Is (undef), Is (undef), Is (undef), Is (undef), Is (undef), Is (undef), Is (undef), Is (undef), Is (undef), Is (undef), Is (undef), Is (undef), Is (undef), Is (undef), Is (.bool false), Is (.bool false), Is (.bool false), Is (.bool false), Is (.bool true), Is (.bool true), Is (.int .i64 12), Is (.bool false), Is (.bool false), Is (.slice none 0 0), Is (.int .i64 0), Is (.bool false), Is (.bool false), Is (.bool false), Is (.pointer (some ⟨p, 0, none⟩)), SlT ([7]), Is (.int .i64 1), Is (.bool false), Is (.bool false), Is (.bool false), Is (.bool false)] [[(6, none)], [(56, some 0)], [(8, none)], [(57, some 1), (58, some 2)], [(59, some 3)], [(10, none), (60, some 4)], [(8, none), (60, some 4)], [(61, some 5), (62, some 6), (60, some 4)], [(60, some 4), (63, some 7)], [(64, some 8)], [(8, none), (65, some 9)], [(66, some 10), (65, some 9)], [(5, none), (67, some 11)], [(68, some 12), (67, some 11)], [(7, none), (67, some 11)], [(70, some 14), (67, some 11)], [(69, some 13), (71, some 15), (67, some 11)], [(72, some 16), (67, some 11)], [(9, none), (73, some 17)], [(74, some 18), (73, some 17)], [(75, some 19), (73, some 17)], [(7, none), (73, some 17)], [(77, some 21), (73, some 17)], [(78, some 22), (73, some 17)], [(76, some 20), (79, some 23), (73, some 17)], [(73, some 17), (80, some 24), (67, some 11)], [(67, some 11), (81, some 25), (65, some 9)], [(65, some 9), (82, some 26)], [(83, some 27)], [(8, none), (84, some 28)], [(85, some 29), (84, some 28)], [(86, some 30), (84, some 28)], [(6, none), (87, some 31)], [(88, some 32), (87, some 31)], [(89, some 33), (87, some 31)], [(5, none), (90, some 34)], [(91, some 35), (90, some 34)], [(92, some 36), (90, some 34)], [(90, some 34), (93, some 37), (87, some 31)], [(94, some 38), (87, some 31)], [(9, none), (95, some 39)], [(96, some 40), (95, some 39)], [(97, some 41), (95, some 39)], [(98, some 42), (95, some 39)], [(95, some 39), (99, some 43), (87, some 31)], [(87, some 31), (100, some 44), (84, some 28)], [(84, some 28), (101, some 45)]] (by kernel_rfl) ?_ ?_ ?_
    · simp only [List.mem_cons, List.not_mem_nil, or_false]
      intro R hR
      rcases hR with rfl | rfl | rfl | rfl | rfl | rfl | rfl | rfl | rfl | rfl | rfl | rfl | rfl | rfl | rfl | rfl | rfl | rfl | rfl | rfl | rfl | rfl | rfl | rfl | rfl | rfl | rfl | rfl | rfl | rfl | rfl | rfl | rfl | rfl | rfl | rfl | rfl | rfl | rfl | rfl | rfl | rfl | rfl | rfl | rfl | rfl | rfl <;> first | exact stable_is _ | exact stable_sl _
    · refine steps_cons (fun a w hk hn => ?_) ?_
      · have h6 : a.eval (.tmp 6) = .int .i64 12 := hn.1
        clear hn
        refine wants_plain rfl ?_
        exact grown_move (.tmp 6) rfl h6
      refine steps_cons (fun a w hk hn => ?_) ?_
      · have h56 : a.eval (.tmp 56) = .int .i64 12 := hn.1
        clear hn
        refine wants_plain rfl ?_
        refine grown_run (v := .bool false) ?_ (Kp.refl _ _) rfl
        obtain ⟨ρ, hρ, hc, hf, hg⟩ := eval_is a
        rw [hρ] at h56 ⊢
        simp [go_sem, hc, h56]
      refine steps_cons (fun a w hk hn => ?_) ?_
      · have h8 : a.eval (.tmp 8) = .bool false := hn.1
        clear hn
        refine wants_plain rfl ?_
        exact grown_move (.tmp 8) rfl h8
      refine steps_cons (fun a w hk hn => ?_) ?_
      · have h57 : a.eval (.tmp 57) = .bool false := hn.1
        have h58 : a.eval (.tmp 58) = .bool false := hn.2.1
        clear hn
        refine wants_plain rfl ?_
        refine grown_run (v := .bool false) ?_ (Kp.refl _ _) rfl
        obtain ⟨ρ, hρ, hc, hf, hg⟩ := eval_is a
        rw [hρ] at h57 h58 ⊢
        simp [go_sem, h57, h58]
      refine steps_cons (fun a w hk hn => ?_) ?_
      · have h59 : a.eval (.tmp 59) = .bool false := hn.1
        clear hn
        refine wants_plain rfl ?_
        exact grown_move (.tmp 59) rfl h59
      refine steps_cons (fun a w hk hn => ?_) ?_
      · have h10 : a.eval (.tmp 10) = .bool false := hn.1
        have h60 : a.eval (.tmp 60) = .bool false := hn.2.1
        clear hn
        refine wants_guard (d := 60) rfl rfl h60 ?_
        exact grown_move (.tmp 10) rfl h10
      refine steps_cons (fun a w hk hn => ?_) ?_
      · have h8 : a.eval (.tmp 8) = .bool false := hn.1
        have h60 : a.eval (.tmp 60) = .bool false := hn.2.1
        clear hn
        refine wants_guard (d := 60) rfl rfl h60 ?_
        exact grown_move (.tmp 8) rfl h8
      refine steps_cons (fun a w hk hn => ?_) ?_
      · have h61 : a.eval (.tmp 61) = .bool false := hn.1
        have h62 : a.eval (.tmp 62) = .bool false := hn.2.1
        have h60 : a.eval (.tmp 60) = .bool false := hn.2.2.1
        clear hn
        refine wants_guard (d := 60) rfl rfl h60 ?_
        refine grown_run (v := .bool false) ?_ (Kp.refl _ _) rfl
        obtain ⟨ρ, hρ, hc, hf, hg⟩ := eval_is a
        rw [hρ] at h61 h62 ⊢
        simp [go_sem, h61, h62]
      refine steps_cons (fun a w hk hn => ?_) ?_
      · have h60 : a.eval (.tmp 60) = .bool false := hn.1
        have h63 : a.eval (.tmp 63) = .bool false := hn.2.1
        clear hn
        refine wants_plain rfl ?_
        exact grown_pick _ _ _ false rfl h60 h63
      refine steps_cons (fun a w hk hn => ?_) ?_
      · have h64 : a.eval (.tmp 64) = .bool false := hn.1
        clear hn
        refine wants_plain rfl ?_
        exact grown_move (.tmp 64) rfl h64
      refine steps_cons (fun a w hk hn => ?_) ?_
      · have h8 : a.eval (.tmp 8) = .bool false := hn.1
        have h65 : a.eval (.tmp 65) = .bool false := hn.2.1
        clear hn
        refine wants_guard (d := 65) rfl rfl h65 ?_
        exact grown_move (.tmp 8) rfl h8
      refine steps_cons (fun a w hk hn => ?_) ?_
      · have h66 : a.eval (.tmp 66) = .bool false := hn.1
        have h65 : a.eval (.tmp 65) = .bool false := hn.2.1
        clear hn
        refine wants_guard (d := 65) rfl rfl h65 ?_
        exact grown_move (.tmp 66) rfl h66
      refine steps_cons (fun a w hk hn => ?_) ?_
      · have h5 : a.eval (.tmp 5) = .slice none 0 0 := hn.1
        have h67 : a.eval (.tmp 67) = .bool false := hn.2.1
        clear hn
        exact wants_not (d := 67) rfl rfl h67 rfl
      refine steps_cons (fun a w hk hn => ?_) ?_
      · have h68 : a.eval (.tmp 68) = undef := hn.1
        have h67 : a.eval (.tmp 67) = .bool false := hn.2.1
        clear hn
        exact wants_not (d := 67) rfl rfl h67 rfl
      refine steps_cons (fun a w hk hn => ?_) ?_
      · have h7 : a.eval (.tmp 7) = .slice none 0 0 := hn.1
        have h67 : a.eval (.tmp 67) = .bool false := hn.2.1
        clear hn
        exact wants_not (d := 67) rfl rfl h67 rfl
      refine steps_cons (fun a w hk hn => ?_) ?_
      · have h70 : a.eval (.tmp 70) = undef := hn.1
        have h67 : a.eval (.tmp 67) = .bool false := hn.2.1
        clear hn
        exact wants_not (d := 67) rfl rfl h67 rfl
      refine steps_cons (fun a w hk hn => ?_) ?_
      · have h69 : a.eval (.tmp 69) = undef := hn.1
        have h71 : a.eval (.tmp 71) = undef := hn.2.1
        have h67 : a.eval (.tmp 67) = .bool false := hn.2.2.1
        clear hn
        exact wants_not (d := 67) rfl rfl h67 rfl
      refine steps_cons (fun a w hk hn => ?_) ?_
      · have h72 : a.eval (.tmp 72) = undef := hn.1
        have h67 : a.eval (.tmp 67) = .bool false := hn.2.1
        clear hn
        exact wants_not (d := 67) rfl rfl h67 rfl
      refine steps_cons (fun a w hk hn => ?_) ?_
      · have h9 : a.eval (.tmp 9) = .pointer (some ⟨p, 0, none⟩) := hn.1
        have h73 : a.eval (.tmp 73) = undef := hn.2.1
        clear hn
        exact wants_none (d := 73) rfl rfl h73 rfl
      refine steps_cons (fun a w hk hn => ?_) ?_
      · have h74 : a.eval (.tmp 74) = undef := hn.1
        have h73 : a.eval (.tmp 73) = undef := hn.2.1
        clear hn
        exact wants_none (d := 73) rfl rfl h73 rfl
      refine steps_cons (fun a w hk hn => ?_) ?_
      · have h75 : a.eval (.tmp 75) = undef := hn.1
        have h73 : a.eval (.tmp 73) = undef := hn.2.1
        clear hn
        exact wants_none (d := 73) rfl rfl h73 rfl
      refine steps_cons (fun a w hk hn => ?_) ?_
      · have h7 : a.eval (.tmp 7) = .slice none 0 0 := hn.1
        have h73 : a.eval (.tmp 73) = undef := hn.2.1
        clear hn
        exact wants_none (d := 73) rfl rfl h73 rfl
      refine steps_cons (fun a w hk hn => ?_) ?_
      · have h77 : a.eval (.tmp 77) = undef := hn.1
        have h73 : a.eval (.tmp 73) = undef := hn.2.1
        clear hn
        exact wants_none (d := 73) rfl rfl h73 rfl
      refine steps_cons (fun a w hk hn => ?_) ?_
      · have h78 : a.eval (.tmp 78) = undef := hn.1
        have h73 : a.eval (.tmp 73) = undef := hn.2.1
        clear hn
        exact wants_none (d := 73) rfl rfl h73 rfl
      refine steps_cons (fun a w hk hn => ?_) ?_
      · have h76 : a.eval (.tmp 76) = undef := hn.1
        have h79 : a.eval (.tmp 79) = undef := hn.2.1
        have h73 : a.eval (.tmp 73) = undef := hn.2.2.1
        clear hn
        exact wants_none (d := 73) rfl rfl h73 rfl
      refine steps_cons (fun a w hk hn => ?_) ?_
      · have h73 : a.eval (.tmp 73) = undef := hn.1
        have h80 : a.eval (.tmp 80) = undef := hn.2.1
        have h67 : a.eval (.tmp 67) = .bool false := hn.2.2.1
        clear hn
        exact wants_not (d := 67) rfl rfl h67 rfl
      refine steps_cons (fun a w hk hn => ?_) ?_
      · have h67 : a.eval (.tmp 67) = .bool false := hn.1
        have h81 : a.eval (.tmp 81) = undef := hn.2.1
        have h65 : a.eval (.tmp 65) = .bool false := hn.2.2.1
        clear hn
        refine wants_guard (d := 65) rfl rfl h65 ?_
        exact grown_pick _ _ _ false rfl h67 rfl
      refine steps_cons (fun a w hk hn => ?_) ?_
      · have h65 : a.eval (.tmp 65) = .bool false := hn.1
        have h82 : a.eval (.tmp 82) = .bool false := hn.2.1
        clear hn
        refine wants_plain rfl ?_
        exact grown_pick _ _ _ false rfl h65 h82
      refine steps_cons (fun a w hk hn => ?_) ?_
      · have h83 : a.eval (.tmp 83) = .bool false := hn.1
        clear hn
        refine wants_plain rfl ?_
        exact grown_move (.tmp 83) rfl h83
      refine steps_cons (fun a w hk hn => ?_) ?_
      · have h8 : a.eval (.tmp 8) = .bool false := hn.1
        have h84 : a.eval (.tmp 84) = .bool false := hn.2.1
        clear hn
        refine wants_guard (d := 84) rfl rfl h84 ?_
        exact grown_move (.tmp 8) rfl h8
      refine steps_cons (fun a w hk hn => ?_) ?_
      · have h85 : a.eval (.tmp 85) = .bool false := hn.1
        have h84 : a.eval (.tmp 84) = .bool false := hn.2.1
        clear hn
        refine wants_guard (d := 84) rfl rfl h84 ?_
        refine grown_run (v := .bool true) ?_ (Kp.refl _ _) rfl
        obtain ⟨ρ, hρ, hc, hf, hg⟩ := eval_is a
        rw [hρ] at h85 ⊢
        simp [go_sem, h85]
      refine steps_cons (fun a w hk hn => ?_) ?_
      · have h86 : a.eval (.tmp 86) = .bool true := hn.1
        have h84 : a.eval (.tmp 84) = .bool false := hn.2.1
        clear hn
        refine wants_guard (d := 84) rfl rfl h84 ?_
        exact grown_move (.tmp 86) rfl h86
      refine steps_cons (fun a w hk hn => ?_) ?_
      · have h6 : a.eval (.tmp 6) = .int .i64 12 := hn.1
        have h87 : a.eval (.tmp 87) = .bool true := hn.2.1
        clear hn
        refine wants_guard (d := 87) rfl rfl h87 ?_
        exact grown_move (.tmp 6) rfl h6
      refine steps_cons (fun a w hk hn => ?_) ?_
      · have h88 : a.eval (.tmp 88) = .int .i64 12 := hn.1
        have h87 : a.eval (.tmp 87) = .bool true := hn.2.1
        clear hn
        refine wants_guard (d := 87) rfl rfl h87 ?_
        refine grown_run (v := .bool false) ?_ (Kp.refl _ _) rfl
        obtain ⟨ρ, hρ, hc, hf, hg⟩ := eval_is a
        rw [hρ] at h88 ⊢
        simp [go_sem, hc, h88]
      refine steps_cons (fun a w hk hn => ?_) ?_
      · have h89 : a.eval (.tmp 89) = .bool false := hn.1
        have h87 : a.eval (.tmp 87) = .bool true := hn.2.1
        clear hn
        refine wants_guard (d := 87) rfl rfl h87 ?_
        exact grown_move (.tmp 89) rfl h89
      refine steps_cons (fun a w hk hn => ?_) ?_
      · have h5 : a.eval (.tmp 5) = .slice none 0 0 := hn.1
        have h90 : a.eval (.tmp 90) = .bool false := hn.2.1
        clear hn
        refine wants_guard (d := 90) rfl rfl h90 ?_
        exact grown_move (.tmp 5) rfl h5
      refine steps_cons (fun a w hk hn => ?_) ?_
      · have h91 : a.eval (.tmp 91) = .slice none 0 0 := hn.1
        have h90 : a.eval (.tmp 90) = .bool false := hn.2.1
        clear hn
        refine wants_guard (d := 90) rfl rfl h90 ?_
        refine grown_run (v := .int .i64 0) ?_ (Kp.refl _ _) rfl
        obtain ⟨ρ, hρ, hc, hf, hg⟩ := eval_is a
        rw [hρ] at h91 ⊢
        simp [go_sem, h91]
      refine steps_cons (fun a w hk hn => ?_) ?_
      · have h92 : a.eval (.tmp 92) = .int .i64 0 := hn.1
        have h90 : a.eval (.tmp 90) = .bool false := hn.2.1
        clear hn
        refine wants_guard (d := 90) rfl rfl h90 ?_
        refine grown_run (v := .bool false) ?_ (Kp.refl _ _) rfl
        obtain ⟨ρ, hρ, hc, hf, hg⟩ := eval_is a
        rw [hρ] at h92 ⊢
        simp [go_sem, hc, h92]
      refine steps_cons (fun a w hk hn => ?_) ?_
      · have h90 : a.eval (.tmp 90) = .bool false := hn.1
        have h93 : a.eval (.tmp 93) = .bool false := hn.2.1
        have h87 : a.eval (.tmp 87) = .bool true := hn.2.2.1
        clear hn
        refine wants_guard (d := 87) rfl rfl h87 ?_
        exact grown_pick _ _ _ false rfl h90 h93
      refine steps_cons (fun a w hk hn => ?_) ?_
      · have h94 : a.eval (.tmp 94) = .bool false := hn.1
        have h87 : a.eval (.tmp 87) = .bool true := hn.2.1
        clear hn
        refine wants_guard (d := 87) rfl rfl h87 ?_
        exact grown_move (.tmp 94) rfl h94
      refine steps_cons (fun a w hk hn => ?_) ?_
      · have h9 : a.eval (.tmp 9) = .pointer (some ⟨p, 0, none⟩) := hn.1
        have h95 : a.eval (.tmp 95) = .bool false := hn.2.1
        clear hn
        refine wants_guard (d := 95) rfl rfl h95 ?_
        exact grown_move (.tmp 9) rfl h9
      refine steps_cons (fun a w hk hn => ?_) ?_
      · have h96 : a.eval (.tmp 96) = .pointer (some ⟨p, 0, none⟩) := hn.1
        have h95 : a.eval (.tmp 95) = .bool false := hn.2.1
        clear hn
        refine wants_guard (d := 95) rfl rfl h95 ?_
        refine grown_call (f := 33) rfl Tryz.func33 (by kernel_rfl) (by kernel_rfl) ?_
        simp only [List.map_toArray, List.map_cons, List.map_nil, h96]
        refine (done_any p v8 [7] w (unhide HWR w hk) (by simp)).mono ?_
        rintro e w' ⟨ao, c, rfl, R, K⟩
        exact ⟨_, rfl, K, Sl.of_owns R⟩
      refine steps_cons (fun a w hk hn => ?_) ?_
      · have h97 : Sl w (a.eval (.tmp 97)) ([7]) := hn.1
        have h95 : a.eval (.tmp 95) = .bool false := hn.2.1
        clear hn
        refine wants_guard (d := 95) rfl rfl h95 ?_
        exact grown_blenX (.tmp 97) [7] 1 rfl h97 rfl
      refine steps_cons (fun a w hk hn => ?_) ?_
      · have h98 : a.eval (.tmp 98) = .int .i64 1 := hn.1
        have h95 : a.eval (.tmp 95) = .bool false := hn.2.1
        clear hn
        refine wants_guard (d := 95) rfl rfl h95 ?_
        refine grown_run (v := .bool false) ?_ (Kp.refl _ _) rfl
        obtain ⟨ρ, hρ, hc, hf, hg⟩ := eval_is a
        rw [hρ] at h98 ⊢
        simp [go_sem, hc, h98]
      refine steps_cons (fun a w hk hn => ?_) ?_
      · have h95 : a.eval (.tmp 95) = .bool false := hn.1
        have h99 : a.eval (.tmp 99) = .bool false := hn.2.1
        have h87 : a.eval (.tmp 87) = .bool true := hn.2.2.1
        clear hn
        refine wants_guard (d := 87) rfl rfl h87 ?_
        exact grown_pick _ _ _ false rfl h95 h99
      refine steps_cons (fun a w hk hn => ?_) ?_
      · have h87 : a.eval (.tmp 87) = .bool true := hn.1
        have h100 : a.eval (.tmp 100) = .bool false := hn.2.1
        have h84 : a.eval (.tmp 84) = .bool false := hn.2.2.1
        clear hn
        refine wants_guard (d := 84) rfl rfl h84 ?_
        exact grown_pick _ _ _ true rfl h87 h100
      refine steps_cons (fun a w hk hn => ?_) ?_
      · have h84 : a.eval (.tmp 84) = .bool false := hn.1
        have h101 : a.eval (.tmp 101) = .bool false := hn.2.1
        clear hn
        refine wants_plain rfl ?_
        exact grown_pick _ _ _ false rfl h84 h101
      exact trivial
    intro W2 hkW2
    rintro _ rfl
    rintro _ rfl
    rintro _ rfl
    rintro _ rfl
    rintro _ rfl
    rintro _ rfl
    rintro _ rfl
    rintro _ rfl
    rintro _ rfl
    rintro _ rfl
    rintro _ rfl
    rintro _ rfl
    rintro _ rfl
    rintro _ rfl
    rintro _ rfl
    rintro _ rfl
    rintro _ rfl
    rintro _ rfl
    rintro _ rfl
    rintro _ rfl
    rintro _ rfl
    rintro _ rfl
    rintro _ rfl
    rintro _ rfl
    rintro _ rfl
    rintro _ rfl
    rintro _ rfl
    rintro _ rfl
    rintro _ rfl
    rintro _ rfl
    rintro _ rfl
    rintro _ rfl
    rintro _ rfl
    rintro _ rfl
    rintro _ rfl
    rintro _ rfl
    rintro _ rfl
    rintro _ rfl
    rintro _ rfl
    rintro _ rfl
    rintro _ rfl
    intro v97 h97
    rintro _ rfl
    rintro _ rfl
    rintro _ rfl
    rintro _ rfl
    rintro _ rfl
    refine fin_nil ?_
    simp only [Act.put, List.set_cons_zero, List.set_cons_succ, List.setIfInBounds_toArray]
    go_wp2_with fail
    go_ret
    exact ⟨rfl, (unhide HKF).trans (unhide HD9 W2 hkW2)⟩
end Go.Proofs.YtbkipibmaghejaaGreatDoor
