/-
  The contract of the reference's Put of a signed checkpoint, behind nothing.
-/
import Derived.Test.YtbkipibmaghejaaGreatDoorKXRefB
import Derived.Test.YtbkipibmaghejaaGreatDoorKXSig
import Derived.Test.YtbkipibmaghejaaGreatDoorKSRefV
namespace Go.Proofs.YtbkipibmaghejaaGreatDoor
open Go.RowKit
open Go.Proofs

set_option maxRecDepth 100000 in
set_option maxHeartbeats 2000000 in
theorem refput_no (vs : Value) (s : Sg) (w : World) (hV : SgV w vs s) (hr : s.rgt = false) (hi : -9223372036854775808 ≤ s.i ∧ s.i ≤ 9223372036854775807) :
    Calls Tryz.prog 8 #[.slice none 0 0, vs] w fun e w' => e = .returned (.tuple #[.slice none 0 0, .bool false]) ∧ Kp [] w w' := by
  obtain ⟨n, r, i, ps, qs⟩ := s
  obtain ⟨ar, mr, cr, ap, np, cp, aq, nq, cq, rfl, ⟨hSr, hBr⟩, hSig⟩ := hV.shape
  simp only at hSr hBr hSig hr hi ⊢
  obtain ⟨g1, hg1⟩ : ∃ g, g = w.heap.size := ⟨_, rfl⟩
  obtain ⟨w1, hw1⟩ : ∃ w1, w1 = w.alloc (.cells #[.int .i64 n, .slice ar mr cr, .int .i64 i, .slice ap np cp, .slice aq nq cq] 30) := ⟨_, rfl⟩
  have K1 : Kp [] w w1 := by rw [hw1]; exact (Kp.refl [] w).alloc _
  have G1 : w1.heap[g1]? = some (.cells #[.int .i64 n, .slice ar mr cr, .int .i64 i, .slice ap np cp, .slice aq nq cq] 30 (0, 0)) := by rw [hw1, hg1]; exact heap_alloc_new w _
  have HCK : Hid (∀ w', Kp [] w w' → CkV w' (.agg #[.int .i64 n, .slice ar mr cr]) n r) := fun w' k' => ⟨ar, mr, cr, rfl, hSr.kept k' (by simp), hBr⟩
  have HSr : Hid (∀ w', Kp [] w w' → Sl w' (.slice ar mr cr) r) := fun w' k' => hSr.kept k' (by simp)
  have HSV : Hid (∀ w', Kp [] w w' → SigV w' (.agg #[.int .i64 i, .slice ap np cp, .slice aq nq cq]) i ps qs) := fun w' k' => hSig.kept k'
  have HK1 := hide K1
  have HG1 := hide G1
  have HW1 := hide hw1
  have H1 := hide hg1
  have HI := hide hi
  cases hc : rgtC n r with
  | false =>
    have HE := hide (rckright_any _ n r false hc.symm w1 (unhide HCK w1 K1))
    clear hr hSr hBr hSig hV K1 G1 hw1 hg1 hc hi
    go_enter Tryz.func8, Tryz.ntmps8
    go_wp2_with fail
    rw [← unhide HW1, ← unhide H1]
    refine (unhide HE).mono ?_
    rintro ee w2 ⟨rfl, K2⟩
    have HK2 := hide ((unhide HK1).trans K2)
    clear HE K2 HW1
    go_wp2_with fail
    go_ret2
    exact ⟨rfl, unhide HK2⟩
  | true =>
    have hq : rgtP i ps qs = false := by simpa [Sg.rgt, hc] using hr
    have HE := hide (rckright_any _ n r true hc.symm w1 (unhide HCK w1 K1))
    have HQ := hide hq
    clear hr hSr hBr hSig hV K1 G1 hw1 hg1 hq hc hi
    go_enter Tryz.func8, Tryz.ntmps8
    go_wp2_with fail
    rw [← unhide HW1, ← unhide H1]
    refine (unhide HE).mono ?_
    rintro ee w2 ⟨rfl, K2⟩
    have HK2 := hide ((unhide HK1).trans K2)
    have G2 := K2.heap (unhide HG1) (by simp)
    have e0 : w2.cell? ⟨g1, 0, none⟩ = some (.int .i64 n) := by rw [cell_of_row _ g1 0 _ _ _ (G2)]; rfl
    have e1 : w2.cell? ⟨g1, 1, none⟩ = some (.slice ar mr cr) := by rw [cell_of_row _ g1 1 _ _ _ (G2)]; rfl
    have e2 : w2.cell? ⟨g1, 2, none⟩ = some (.int .i64 i) := by rw [cell_of_row _ g1 2 _ _ _ (G2)]; rfl
    have e3 : w2.cell? ⟨g1, 3, none⟩ = some (.slice ap np cp) := by rw [cell_of_row _ g1 3 _ _ _ (G2)]; rfl
    have e4 : w2.cell? ⟨g1, 4, none⟩ = some (.slice aq nq cq) := by rw [cell_of_row _ g1 4 _ _ _ (G2)]; rfl
    have HR := hide (refright_any _ i ps qs false (unhide HQ).symm w2 (unhide HSV w2 (unhide HK2)) (unhide HI))
    clear HE K2 HW1 G2
    go_wp2_with fail
    refine (unhide HR).mono ?_
    rintro ee w3 ⟨rfl, K3⟩
    have HK3 := hide ((unhide HK2).trans K3)
    clear HR K3 e0 e1 e2 e3 e4
    go_wp2_with fail
    go_ret2
    exact ⟨rfl, unhide HK3⟩

set_option maxRecDepth 100000 in
set_option maxHeartbeats 8000000 in
theorem refput_ok (vs : Value) (s : Sg) (w : World) (hV : SgV w vs s) (hr : s.rgt = true) (hi : -9223372036854775808 ≤ s.i ∧ s.i ≤ 9223372036854775807) :
    Calls Tryz.prog 8 #[.slice none 0 0, vs] w fun e w' => ∃ ao m c, e = .returned (.tuple #[.slice ao m c, .bool true]) ∧ Row w' w.heap.size (.slice ao m c) s.lay ∧ Kp [] w w' := by
  have HLY : Hid (s.lay = be4 s.n ++ s.r ++ encP s.i s.ps s.qs) := hide (by unfold Sg.lay; rw [List.append_assoc])
  obtain ⟨n, r, i, ps, qs⟩ := s
  obtain ⟨ar, mr, cr, ap, np, cp, aq, nq, cq, rfl, ⟨hSr, hBr⟩, hSig⟩ := hV.shape
  simp only at hSr hBr hSig hr hi ⊢
  obtain ⟨g1, hg1⟩ : ∃ g, g = w.heap.size := ⟨_, rfl⟩
  obtain ⟨w1, hw1⟩ : ∃ w1, w1 = w.alloc (.cells #[.int .i64 n, .slice ar mr cr, .int .i64 i, .slice ap np cp, .slice aq nq cq] 30) := ⟨_, rfl⟩
  have K1 : Kp [] w w1 := by rw [hw1]; exact (Kp.refl [] w).alloc _
  have G1 : w1.heap[g1]? = some (.cells #[.int .i64 n, .slice ar mr cr, .int .i64 i, .slice ap np cp, .slice aq nq cq] 30 (0, 0)) := by rw [hw1, hg1]; exact heap_alloc_new w _
  have HCK : Hid (∀ w', Kp [] w w' → CkV w' (.agg #[.int .i64 n, .slice ar mr cr]) n r) := fun w' k' => ⟨ar, mr, cr, rfl, hSr.kept k' (by simp), hBr⟩
  have HSr : Hid (∀ w', Kp [] w w' → Sl w' (.slice ar mr cr) r) := fun w' k' => hSr.kept k' (by simp)
  have HSV : Hid (∀ w', Kp [] w w' → SigV w' (.agg #[.int .i64 i, .slice ap np cp, .slice aq nq cq]) i ps qs) := fun w' k' => hSig.kept k'
  have HK1 := hide K1
  have HG1 := hide G1
  have HW1 := hide hw1
  have H1 := hide hg1
  have HI := hide hi
  simp only at HLY
  simp only [Sg.rgt, Bool.and_eq_true] at hr
  have HLE := hide (encP_len i ps qs hr.2)
  have hq := (rgtC_iff n r).1 hr.1
  have HLR := hide hq.2
  have hwrap : IntKind.u32.wrap n = n := by simp [IntKind.wrap, IntKind.signed, IntKind.bits]; omega
  have HE := hide (rckright_any _ n r true hr.1.symm w1 (unhide HCK w1 K1))
  have HQ := hide hr.2
  clear hr hSr hBr hSig hV K1 G1 hw1 hg1 hq hi
  go_enter Tryz.func8, Tryz.ntmps8
  go_wp2_with fail
  rw [← unhide HW1, ← unhide H1]
  refine (unhide HE).mono ?_
  rintro ee w2 ⟨rfl, K2⟩
  have HK2 := hide ((unhide HK1).trans K2)
  have HG2 := hide (K2.heap (unhide HG1) (by simp))
  have e0 : w2.cell? ⟨g1, 0, none⟩ = some (.int .i64 n) := by rw [cell_of_row _ g1 0 _ _ _ (unhide HG2)]; rfl
  have e1 : w2.cell? ⟨g1, 1, none⟩ = some (.slice ar mr cr) := by rw [cell_of_row _ g1 1 _ _ _ (unhide HG2)]; rfl
  have e2 : w2.cell? ⟨g1, 2, none⟩ = some (.int .i64 i) := by rw [cell_of_row _ g1 2 _ _ _ (unhide HG2)]; rfl
  have e3 : w2.cell? ⟨g1, 3, none⟩ = some (.slice ap np cp) := by rw [cell_of_row _ g1 3 _ _ _ (unhide HG2)]; rfl
  have e4 : w2.cell? ⟨g1, 4, none⟩ = some (.slice aq nq cq) := by rw [cell_of_row _ g1 4 _ _ _ (unhide HG2)]; rfl
  have HR := hide (refright_any _ i ps qs true (unhide HQ).symm w2 (unhide HSV w2 (unhide HK2)) (unhide HI))
  clear HE K2 HW1
  go_wp2_with fail
  refine (unhide HR).mono ?_
  rintro ee w3 ⟨rfl, K3⟩
  have G3 := K3.heap (unhide HG2) (by simp)
  have f0 : w3.cell? ⟨g1, 0, none⟩ = some (.int .i64 n) := by rw [cell_of_row _ g1 0 _ _ _ (G3)]; rfl
  have f1 : w3.cell? ⟨g1, 1, none⟩ = some (.slice ar mr cr) := by rw [cell_of_row _ g1 1 _ _ _ (G3)]; rfl
  have f2 : w3.cell? ⟨g1, 2, none⟩ = some (.int .i64 i) := by rw [cell_of_row _ g1 2 _ _ _ (G3)]; rfl
  have f3 : w3.cell? ⟨g1, 3, none⟩ = some (.slice ap np cp) := by rw [cell_of_row _ g1 3 _ _ _ (G3)]; rfl
  have f4 : w3.cell? ⟨g1, 4, none⟩ = some (.slice aq nq cq) := by rw [cell_of_row _ g1 4 _ _ _ (G3)]; rfl
  have hg3 : g1 < w3.heap.size := lt_of_block G3
  have HKD := hide (((unhide HK2).trans K3).trans (kp_drew w3))
  have HGW := unhide H1
  obtain ⟨B, hB⟩ : ∃ B, B = w3.heap.size := ⟨_, rfl⟩
  have hBd : w3.drew.heap.size = B := by rw [hB]; rfl
  have HNum := hide (refnum_any n w3.drew)
  rw [hBd] at HNum
  have hgB : g1 < B := by omega
  have hwB : w.heap.size ≤ B := by omega
  have HEq := hide hB
  clear HR K3 e0 e1 e2 e3 e4 G3 HG2 hB HGW
  go_wp2_with fail
  go_region_held3 (fun W => W.cell? ⟨g1, 0, none⟩ = some (.int .i64 n) ∧ W.cell? ⟨g1, 1, none⟩ = some (.slice ar mr cr) ∧ W.cell? ⟨g1, 2, none⟩ = some (.int .i64 i) ∧ W.cell? ⟨g1, 3, none⟩ = some (.slice ap np cp) ∧ W.cell? ⟨g1, 4, none⟩ = some (.slice aq nq cq))
    (first
      | go_keep
      | (go_split_ands
         refine ⟨?_, ?_, ?_, ?_, ?_⟩ <;> exact K34.cell (by assumption) (by simp))
      | (go_split_ands
         refine ⟨?_, ?_, ?_, ?_, ?_⟩ <;> exact S5.1.cell (by assumption) (fun hm => by have := (R4.own g1 (by simpa using hm)); omega))
      | (go_split_ands
         refine ⟨?_, ?_, ?_, ?_, ?_⟩ <;> exact K6.cell (by assumption) (by simp))
      | (go_split_ands
         refine ⟨?_, ?_, ?_, ?_, ?_⟩ <;> exact S7.1.cell (by assumption) (fun hm => by have := (R5.own g1 (by simpa using hm)); omega))
      | (go_split_ands
         refine ⟨?_, ?_, ?_, ?_, ?_⟩ <;> exact K5b.cell (by assumption) (by simp))
      | (go_split_ands
         refine ⟨?_, ?_, ?_, ?_, ?_⟩ <;> exact S6b.1.cell (by assumption) (fun hm => by have := (R4.own g1 (by simpa using hm)); omega))
      | (go_split_ands
         refine ⟨?_, ?_, ?_, ?_, ?_⟩ <;> exact S7.1.cell (by assumption) (fun hm => by have := (R6b.own g1 (by simpa using hm)); omega)))
    (first
      | (refine step_callX (by rfl) (by rfl) Tryz.func35 (by kernel_rfl) (by kernel_rfl) ?_; simp only [List.map_toArray, List.map_cons, List.map_nil]; refine (unhide HNum).mono ?_; rintro ee w4 ⟨a4, m4, c4, rfl, R4, K34⟩; refine ⟨_, rfl, ?_⟩; have K4 : Kp [] w w4 := (unhide HKD).trans K34; have hB4 : B ≤ w4.heap.size := Nat.le_trans (Nat.le_of_eq hBd.symm) K34.size)
      | (refine step_append_row (by rfl) (.tmp 22) (.tmp 25) (by rfl) B (.slice a4 m4 c4) (be4 n) (by rfl) R4 (.slice ar mr cr) r (by rfl) (unhide HSr w4 K4) (by have := unhide HLR; rw [be4_len]; omega) hB4 ?_; intro a5 m5 c5 w5 R5 S5; have K5 : Kp [] w w5 := K4.then S5.1 (fun k hk => .inr (by have := R4.own k (by simpa using hk); omega)); have hB5 : B ≤ w5.heap.size := Nat.le_trans hB4 S5.1.size)
      | (refine step_callX (by rfl) (by rfl) Tryz.func36 (by kernel_rfl) (by kernel_rfl) ?_; simp only [List.map_toArray, List.map_cons, List.map_nil]; refine (refencode_any _ i ps qs (unhide HQ) w5 (unhide HSV w5 K5)).mono ?_; rintro ee w6 ⟨a6, m6, c6, rfl, R6, K6⟩; refine ⟨_, rfl, ?_⟩; have hB6 : B ≤ w6.heap.size := Nat.le_trans hB5 K6.size; have R56 := R5.kept K6 (by simp); have K6w : Kp [] w w6 := K5.trans K6)
      | (refine step_append_row (by rfl) (.tmp 26) (.tmp 29) (by rfl) B (.slice a5 m5 c5) (be4 n ++ r) (by rfl) R56 (.slice a6 m6 c6) (encP i ps qs) (by rfl) R6.sl (by have := unhide HLR; have := unhide HLE; rw [List.length_append, be4_len]; omega) hB6 ?_; intro a7 m7 c7 w7 R7 S7; have K7 : Kp [] w w7 := K6w.then S7.1 (fun k hk => .inr (by have := R56.own k (by simpa using hk); omega)))
      | (refine step_callX (by rfl) (by rfl) Tryz.func36 (by kernel_rfl) (by kernel_rfl) ?_; simp only [List.map_toArray, List.map_cons, List.map_nil]; refine (refencode_any _ i ps qs (unhide HQ) w4 (unhide HSV w4 K4)).mono ?_; rintro ee w5b ⟨a5b, m5b, c5b, rfl, R5b, K5b⟩; refine ⟨_, rfl, ?_⟩; have hB5b : B ≤ w5b.heap.size := Nat.le_trans hB4 K5b.size; have R4b := R4.kept K5b (by simp); have K5w : Kp [] w w5b := K4.trans K5b)
      | (refine step_append_row (by rfl) (.tmp 22) (.tmp 25) (by rfl) B (.slice a4 m4 c4) (be4 n) (by rfl) R4b (.slice ar mr cr) r (by rfl) (unhide HSr w5b K5w) (by have := unhide HLR; rw [be4_len]; omega) hB5b ?_; intro a6b m6b c6b w6b R6b S6b; have K6w : Kp [] w w6b := K5w.then S6b.1 (fun k hk => .inr (by have := R4b.own k (by simpa using hk); omega)); have hB6b : B ≤ w6b.heap.size := Nat.le_trans hB5b S6b.1.size; have hSg : Sl w6b (.slice a5b m5b c5b) (encP i ps qs) := R5b.sl.kept S6b.1 (fun k hk hm => by have h1 := R5b.own k hk; have h2 := R4.1; have h3 : k < w4.heap.size := (R4.lt (by simpa using hm)); omega))
      | (refine step_append_row (by rfl) (.tmp 26) (.tmp 29) (by rfl) B (.slice a6b m6b c6b) (be4 n ++ r) (by rfl) R6b (.slice a5b m5b c5b) (encP i ps qs) (by rfl) hSg (by have := unhide HLR; have := unhide HLE; rw [List.length_append, be4_len]; omega) hB6b ?_; intro a7 m7 c7 w7 R7 S7; have K7 : Kp [] w w7 := K6w.then S7.1 (fun k hk => .inr (by have := R6b.own k (by simpa using hk); omega))))
  all_goals
   go_wp2_with fail
   go_ret2
   exact ⟨a7, m7, c7, rfl, by rw [unhide HLY]; exact owns_rebase R7 (fun k hk => by have := R7.own k hk; omega), K7⟩
end Go.Proofs.YtbkipibmaghejaaGreatDoor
