/-
  The contract of the reference's Verify of a signed checkpoint.
-/
import Derived.Test.YtillhpgdlmeajaaGreatDoorKXRefB
import Derived.Test.YtillhpgdlmeajaaGreatDoorKSRefV
import Derived.Test.YtillhpgdlmeajaaGreatDoorKXSig
namespace Go.Proofs.YtillhpgdlmeajaaGreatDoor
open Go.RowKit
open Go.Proofs

set_option maxRecDepth 100000 in
set_option maxHeartbeats 4000000 in
theorem rckverify_any (vpub : Value) (pub : List Int) (v : Value) (s : Sg) (b : Bool) (hb : b = s.ver pub) (w : World) (hP : Sl w vpub pub) (hPB : Bs pub) (hV : SgV w v s) (hi : -9223372036854775808 ≤ s.i ∧ s.i ≤ 9223372036854775807) :
    Calls Tryz.prog 38 #[vpub, v] w fun e w' => e = .returned (.bool b) ∧ Kp [] w w' := by
  obtain ⟨n, r, i, ps, qs⟩ := s
  obtain ⟨ar, mr, cr, ap, np, cp, aq, nq, cq, rfl, ⟨hS, hBr⟩, hSig⟩ := hV.shape
  simp only at hS hBr hSig hb hi ⊢
  have HPu := hide hP
  obtain ⟨av, cv, rfl, -⟩ := hP
  obtain ⟨nv, hnv⟩ : ∃ k, k = pub.length := ⟨_, rfl⟩
  rw [← hnv] at HPu ⊢
  obtain ⟨g1, hg1⟩ : ∃ g, g = w.heap.size := ⟨_, rfl⟩
  obtain ⟨w0, hw0⟩ : ∃ w0, w0 = w.alloc (.cells #[.int .i64 n, .slice ar mr cr, .int .i64 i, .slice ap np cp, .slice aq nq cq] 72) := ⟨_, rfl⟩
  have K0 : Kp [] w w0 := by rw [hw0]; exact (Kp.refl [] w).alloc _
  have G0 : w0.heap[g1]? = some (.cells #[.int .i64 n, .slice ar mr cr, .int .i64 i, .slice ap np cp, .slice aq nq cq] 72 (0, 0)) := by rw [hw0, hg1]; exact heap_alloc_new w _
  have HD : Hid (∀ w', Kp [] w0.drew w' → Kp [] w w') := fun w' k' => K0.trans ((kp_drew w0).trans k')
  have HST : Hid (∀ w', Kp [] w0.drew w' → w'.heap[g1]? = some (.cells #[.int .i64 n, .slice ar mr cr, .int .i64 i, .slice ap np cp, .slice aq nq cq] 72 (0, 0))) := fun w' k' => ((kp_drew w0).trans k').heap G0 (by simp)
  have HCK : Hid (∀ w', Kp [] w0.drew w' → CkV w' (.agg #[.int .i64 n, .slice ar mr cr]) n r) := fun w' k' => ⟨ar, mr, cr, rfl, hS.kept (unhide HD w' k') (by simp), hBr⟩
  have HSV : Hid (∀ w', Kp [] w0.drew w' → SigV w' (.agg #[.int .i64 i, .slice ap np cp, .slice aq nq cq]) i ps qs) := fun w' k' => hSig.kept (unhide HD w' k')
  have HPW : Hid (∀ w', Kp [] w0.drew w' → Sl w' (.slice av nv cv) pub) := fun w' k' => (unhide HPu).kept (unhide HD w' k') (by simp)

  obtain ⟨q, hq⟩ : ∃ q, q = rgtC n r := ⟨_, rfl⟩
  obtain ⟨B, hB⟩ : ∃ B, B = bodC n r := ⟨_, rfl⟩
  obtain ⟨bb, hbb⟩ : ∃ x, x = verP pub B i ps qs := ⟨_, rfl⟩
  have hb2 : b = (q && bb) := by rw [hb, hbb, hB, hq]; rfl
  have HB := hide hb2
  have HQ := hide hq
  have HBB := hide hB
  have HVB := hide hbb
  have HBS : Hid (Bs B) := hide (by rw [hB]; exact bodC_bs n r hBr)
  have HBL : Hid (B.length ≤ 1000) := hide (by rw [hB]; have := bodC_le n r; omega)
  have HPB := hide hPB
  have HI := hide hi
  have HW0 := hide hw0
  have HG1 := hide hg1
  clear hb hb2 hq hB hbb hS hBr hSig hPB hV hnv hw0 hg1 K0 G0 HPu hi
  cases q
  · have HE : Hid (b = false) := hide (by rw [unhide HB]; rfl)
    clear HB
    go_enter Tryz.func38, Tryz.ntmps38
    go_wp2_with fail
    rw [← unhide HW0, ← unhide HG1]
    refine region_grow Tryz.mixed [Is (.pointer (some ⟨g1, 0, none⟩)), Is (.agg #[.int .i64 n, .slice ar mr cr]), Is (.bool false), Is (.bool false), Is (undef), Is (undef), Is (undef), Is (undef), Is (undef), Is (undef), Is (undef), Is (.bool false), Is (.bool false)] [[(3, none)], [(5, some 0)], [(6, some 1)], [(7, some 2)], [(0, none), (8, some 3)], [(3, none), (8, some 3)], [(10, some 5), (8, some 3)], [(11, some 6), (8, some 3)], [(3, none), (8, some 3)], [(13, some 8), (8, some 3)], [(9, some 4), (12, some 7), (14, some 9), (8, some 3)], [(8, some 3), (15, some 10)], [(16, some 11)]] (by kernel_rfl) ?_ ?_ ?_
    · simp only [List.mem_cons, List.not_mem_nil, or_false]
      intro R hR
      rcases hR with rfl | rfl | rfl | rfl | rfl | rfl | rfl | rfl | rfl | rfl | rfl | rfl | rfl <;> first | exact stable_is _
    · refine steps_cons (fun a w hk hn => ?_) ?_
      · have h3 : a.eval (.tmp 3) = .pointer (some ⟨g1, 0, none⟩) := hn.1
        clear hn
        refine wants_plain rfl ?_
        refine grown_run (v := .pointer (some ⟨g1, 0, none⟩)) ?_ (Kp.refl _ _) rfl
        obtain ⟨ρ, hρ, hc, hf, hg⟩ := eval_is a
        rw [hρ] at h3 ⊢
        simp [go_sem, h3]
      refine steps_cons (fun a w hk hn => ?_) ?_
      · have h5 : a.eval (.tmp 5) = .pointer (some ⟨g1, 0, none⟩) := hn.1
        clear hn
        refine wants_plain rfl ?_
        exact grown_loadf 68 (.tmp 5) rfl g1 0 h5 _ _ _ _ (unhide HST w hk) [.int .i64 n, .slice ar mr cr] (flat_in rfl) Tryz.underlying68 rfl Tryz.chkSize rfl
      refine steps_cons (fun a w hk hn => ?_) ?_
      · have h6 : a.eval (.tmp 6) = .agg #[.int .i64 n, .slice ar mr cr] := hn.1
        clear hn
        refine wants_plain rfl ?_
        refine grown_call (f := 81) rfl Tryz.func81 (by kernel_rfl) (by kernel_rfl) ?_
        simp only [List.map_toArray, List.map_cons, List.map_nil, h6]
        refine (rckright_any _ n r false (unhide HQ) w (unhide HCK w hk)).mono ?_
        rintro e w' ⟨rfl, K⟩
        exact ⟨_, rfl, K, rfl⟩
      refine steps_cons (fun a w hk hn => ?_) ?_
      · have h7 : a.eval (.tmp 7) = .bool false := hn.1
        clear hn
        refine wants_plain rfl ?_
        exact grown_move (.tmp 7) rfl h7
      refine steps_cons (fun a w hk hn => ?_) ?_
      · have h0 : a.eval (.tmp 0) = .slice av nv cv := hn.1
        have h8 : a.eval (.tmp 8) = .bool false := hn.2.1
        clear hn
        exact wants_not (d := 8) rfl rfl h8 rfl
      refine steps_cons (fun a w hk hn => ?_) ?_
      · have h3 : a.eval (.tmp 3) = .pointer (some ⟨g1, 0, none⟩) := hn.1
        have h8 : a.eval (.tmp 8) = .bool false := hn.2.1
        clear hn
        exact wants_not (d := 8) rfl rfl h8 rfl
      refine steps_cons (fun a w hk hn => ?_) ?_
      · have h10 : a.eval (.tmp 10) = undef := hn.1
        have h8 : a.eval (.tmp 8) = .bool false := hn.2.1
        clear hn
        exact wants_not (d := 8) rfl rfl h8 rfl
      refine steps_cons (fun a w hk hn => ?_) ?_
      · have h11 : a.eval (.tmp 11) = undef := hn.1
        have h8 : a.eval (.tmp 8) = .bool false := hn.2.1
        clear hn
        exact wants_not (d := 8) rfl rfl h8 rfl
      refine steps_cons (fun a w hk hn => ?_) ?_
      · have h3 : a.eval (.tmp 3) = .pointer (some ⟨g1, 0, none⟩) := hn.1
        have h8 : a.eval (.tmp 8) = .bool false := hn.2.1
        clear hn
        exact wants_not (d := 8) rfl rfl h8 rfl
      refine steps_cons (fun a w hk hn => ?_) ?_
      · have h13 : a.eval (.tmp 13) = undef := hn.1
        have h8 : a.eval (.tmp 8) = .bool false := hn.2.1
        clear hn
        exact wants_not (d := 8) rfl rfl h8 rfl
      refine steps_cons (fun a w hk hn => ?_) ?_
      · have h9 : a.eval (.tmp 9) = undef := hn.1
        have h12 : a.eval (.tmp 12) = undef := hn.2.1
        have h14 : a.eval (.tmp 14) = undef := hn.2.2.1
        have h8 : a.eval (.tmp 8) = .bool false := hn.2.2.2.1
        clear hn
        exact wants_not (d := 8) rfl rfl h8 rfl
      refine steps_cons (fun a w hk hn => ?_) ?_
      · have h8 : a.eval (.tmp 8) = .bool false := hn.1
        have h15 : a.eval (.tmp 15) = undef := hn.2.1
        clear hn
        refine wants_plain rfl ?_
        exact grown_pick _ _ _ false rfl h8 rfl
      refine steps_cons (fun a w hk hn => ?_) ?_
      · have h16 : a.eval (.tmp 16) = .bool false := hn.1
        clear hn
        refine wants_plain rfl ?_
        exact grown_assign (.tmp 16) rfl h16
      exact trivial
    intro W1 hkW1
    rintro _ rfl
    rintro _ rfl
    rintro _ rfl
    rintro _ rfl
    rintro _ rfl
    rintro _ rfl
    rintro _ rfl
    rintro _ rfl
    rintro _ rfl
    rintro _ rfl
    rintro _ rfl
    rintro _ rfl
    rintro _ rfl
    refine fin_nil ?_
    simp only [Act.put, List.set_cons_zero, List.set_cons_succ, List.setIfInBounds_toArray]
    go_wp2_with fail
    go_ret
    exact ⟨by rw [unhide HE]; rfl, unhide HD W1 hkW1⟩
  · have HE : Hid (b = bb) := hide (by rw [unhide HB]; rfl)
    clear HB
    go_enter Tryz.func38, Tryz.ntmps38
    go_wp2_with fail
    rw [← unhide HW0, ← unhide HG1]
    refine region_grow Tryz.mixed [Is (.pointer (some ⟨g1, 0, none⟩)), Is (.agg #[.int .i64 n, .slice ar mr cr]), Is (.bool true), Is (.bool true), Is (.slice av nv cv), Is (.pointer (some ⟨g1, 0, none⟩)), Is (.agg #[.int .i64 n, .slice ar mr cr]), SlT (B), Is (.pointer (some ⟨g1, 2, none⟩)), Is (.agg #[.int .i64 i, .slice ap np cp, .slice aq nq cq]), Is (.bool bb), Is (.bool bb), Is (.bool bb)] [[(3, none)], [(5, some 0)], [(6, some 1)], [(7, some 2)], [(0, none), (8, some 3)], [(3, none), (8, some 3)], [(10, some 5), (8, some 3)], [(11, some 6), (8, some 3)], [(3, none), (8, some 3)], [(13, some 8), (8, some 3)], [(9, some 4), (12, some 7), (14, some 9), (8, some 3)], [(8, some 3), (15, some 10)], [(16, some 11)]] (by kernel_rfl) ?_ ?_ ?_
    · simp only [List.mem_cons, List.not_mem_nil, or_false]
      intro R hR
      rcases hR with rfl | rfl | rfl | rfl | rfl | rfl | rfl | rfl | rfl | rfl | rfl | rfl | rfl <;> first | exact stable_is _ | exact stable_sl _
    · refine steps_cons (fun a w hk hn => ?_) ?_
      · have h3 : a.eval (.tmp 3) = .pointer (some ⟨g1, 0, none⟩) := hn.1
        clear hn
        refine wants_plain rfl ?_
        refine grown_run (v := .pointer (some ⟨g1, 0, none⟩)) ?_ (Kp.refl _ _) rfl
        obtain ⟨ρ, hρ, hc, hf, hg⟩ := eval_is a
        rw [hρ] at h3 ⊢
        simp [go_sem, h3]
      refine steps_cons (fun a w hk hn => ?_) ?_
      · have h5 : a.eval (.tmp 5) = .pointer (some ⟨g1, 0, none⟩) := hn.1
        clear hn
        refine wants_plain rfl ?_
        exact grown_loadf 68 (.tmp 5) rfl g1 0 h5 _ _ _ _ (unhide HST w hk) [.int .i64 n, .slice ar mr cr] (flat_in rfl) Tryz.underlying68 rfl Tryz.chkSize rfl
      refine steps_cons (fun a w hk hn => ?_) ?_
      · have h6 : a.eval (.tmp 6) = .agg #[.int .i64 n, .slice ar mr cr] := hn.1
        clear hn
        refine wants_plain rfl ?_
        refine grown_call (f := 81) rfl Tryz.func81 (by kernel_rfl) (by kernel_rfl) ?_
        simp only [List.map_toArray, List.map_cons, List.map_nil, h6]
        refine (rckright_any _ n r true (unhide HQ) w (unhide HCK w hk)).mono ?_
        rintro e w' ⟨rfl, K⟩
        exact ⟨_, rfl, K, rfl⟩
      refine steps_cons (fun a w hk hn => ?_) ?_
      · have h7 : a.eval (.tmp 7) = .bool true := hn.1
        clear hn
        refine wants_plain rfl ?_
        exact grown_move (.tmp 7) rfl h7
      refine steps_cons (fun a w hk hn => ?_) ?_
      · have h0 : a.eval (.tmp 0) = .slice av nv cv := hn.1
        have h8 : a.eval (.tmp 8) = .bool true := hn.2.1
        clear hn
        refine wants_guard (d := 8) rfl rfl h8 ?_
        exact grown_move (.tmp 0) rfl h0
      refine steps_cons (fun a w hk hn => ?_) ?_
      · have h3 : a.eval (.tmp 3) = .pointer (some ⟨g1, 0, none⟩) := hn.1
        have h8 : a.eval (.tmp 8) = .bool true := hn.2.1
        clear hn
        refine wants_guard (d := 8) rfl rfl h8 ?_
        refine grown_run (v := .pointer (some ⟨g1, 0, none⟩)) ?_ (Kp.refl _ _) rfl
        obtain ⟨ρ, hρ, hc, hf, hg⟩ := eval_is a
        rw [hρ] at h3 ⊢
        simp [go_sem, h3]
      refine steps_cons (fun a w hk hn => ?_) ?_
      · have h10 : a.eval (.tmp 10) = .pointer (some ⟨g1, 0, none⟩) := hn.1
        have h8 : a.eval (.tmp 8) = .bool true := hn.2.1
        clear hn
        refine wants_guard (d := 8) rfl rfl h8 ?_
        exact grown_loadf 68 (.tmp 10) rfl g1 0 h10 _ _ _ _ (unhide HST w hk) [.int .i64 n, .slice ar mr cr] (flat_in rfl) Tryz.underlying68 rfl Tryz.chkSize rfl
      refine steps_cons (fun a w hk hn => ?_) ?_
      · have h11 : a.eval (.tmp 11) = .agg #[.int .i64 n, .slice ar mr cr] := hn.1
        have h8 : a.eval (.tmp 8) = .bool true := hn.2.1
        clear hn
        refine wants_guard (d := 8) rfl rfl h8 ?_
        refine grown_call (f := 83) rfl Tryz.func83 (by kernel_rfl) (by kernel_rfl) ?_
        simp only [List.map_toArray, List.map_cons, List.map_nil, h11]
        refine (rckbody_any _ n r B (unhide HBB) w (unhide HCK w hk)).mono ?_
        rintro e w' ⟨ao, m, c, rfl, R, K⟩
        exact ⟨_, rfl, K, R⟩
      refine steps_cons (fun a w hk hn => ?_) ?_
      · have h3 : a.eval (.tmp 3) = .pointer (some ⟨g1, 0, none⟩) := hn.1
        have h8 : a.eval (.tmp 8) = .bool true := hn.2.1
        clear hn
        refine wants_guard (d := 8) rfl rfl h8 ?_
        refine grown_run (v := .pointer (some ⟨g1, 2, none⟩)) ?_ (Kp.refl _ _) rfl
        obtain ⟨ρ, hρ, hc, hf, hg⟩ := eval_is a
        rw [hρ] at h3 ⊢
        simp [go_sem, h3]
      refine steps_cons (fun a w hk hn => ?_) ?_
      · have h13 : a.eval (.tmp 13) = .pointer (some ⟨g1, 2, none⟩) := hn.1
        have h8 : a.eval (.tmp 8) = .bool true := hn.2.1
        clear hn
        refine wants_guard (d := 8) rfl rfl h8 ?_
        exact grown_loadf 70 (.tmp 13) rfl g1 2 h13 _ _ _ _ (unhide HST w hk) [.int .i64 i, .slice ap np cp, .slice aq nq cq] (flat_in rfl) Tryz.underlying70 rfl Tryz.sigSize rfl
      refine steps_cons (fun a w hk hn => ?_) ?_
      · have h9 : a.eval (.tmp 9) = .slice av nv cv := hn.1
        have h12 : Sl w (a.eval (.tmp 12)) (B) := hn.2.1
        have h14 : a.eval (.tmp 14) = .agg #[.int .i64 i, .slice ap np cp, .slice aq nq cq] := hn.2.2.1
        have h8 : a.eval (.tmp 8) = .bool true := hn.2.2.2.1
        clear hn
        refine wants_guard (d := 8) rfl rfl h8 ?_
        refine grown_call (f := 82) rfl Tryz.func82 (by kernel_rfl) (by kernel_rfl) ?_
        simp only [List.map_toArray, List.map_cons, List.map_nil, h9, h14]
        refine (refverify_any _ pub _ B _ i ps qs bb (unhide HVB) w (unhide HPW w hk) (unhide HPB) h12 (unhide HBS) (unhide HBL) (unhide HSV w hk) (unhide HI)).mono ?_
        rintro e w' ⟨rfl, K⟩
        exact ⟨_, rfl, K, rfl⟩
      refine steps_cons (fun a w hk hn => ?_) ?_
      · have h8 : a.eval (.tmp 8) = .bool true := hn.1
        have h15 : a.eval (.tmp 15) = .bool bb := hn.2.1
        clear hn
        refine wants_plain rfl ?_
        exact grown_pick _ _ _ true rfl h8 h15
      refine steps_cons (fun a w hk hn => ?_) ?_
      · have h16 : a.eval (.tmp 16) = .bool bb := hn.1
        clear hn
        refine wants_plain rfl ?_
        exact grown_assign (.tmp 16) rfl h16
      exact trivial
    intro W1 hkW1
    rintro _ rfl
    rintro _ rfl
    rintro _ rfl
    rintro _ rfl
    rintro _ rfl
    rintro _ rfl
    rintro _ rfl
    intro v12 h12
    rintro _ rfl
    rintro _ rfl
    rintro _ rfl
    rintro _ rfl
    rintro _ rfl
    refine fin_nil ?_
    simp only [Act.put, List.set_cons_zero, List.set_cons_succ, List.setIfInBounds_toArray]
    go_wp2_with fail
    go_ret
    exact ⟨by rw [unhide HE]; rfl, unhide HD W1 hkW1⟩
end Go.Proofs.YtillhpgdlmeajaaGreatDoor
