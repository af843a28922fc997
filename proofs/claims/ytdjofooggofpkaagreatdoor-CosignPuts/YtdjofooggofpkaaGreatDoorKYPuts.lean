/-
  The contract of package cosign's Put.
-/
import Derived.Test.YtdjofooggofpkaaGreatDoorKYSpecs
import Derived.Test.YtdjofooggofpkaaGreatDoorKYProg
import Derived.Test.YtdjofooggofpkaaGreatDoorKXVlt
import Derived.Test.YtdjofooggofpkaaGreatDoorKLByte
import Derived.Test.YtdjofooggofpkaaGreatDoorKSCode
import Derived.Test.YtdjofooggofpkaaGreatDoorKSBackA
import Derived.Test.YtdjofooggofpkaaGreatDoorKYMixs
import Derived.Test.YtdjofooggofpkaaGreatDoorKRGrowApp
import Derived.Test.YtdjofooggofpkaaGreatDoorKLOff3
import Derived.Test.YtdjofooggofpkaaGreatDoorKHSmalls
import Derived.Test.YtdjofooggofpkaaGreatDoorKLMore
import Derived.Lib.SmallJoins
namespace Go.Proofs.YtdjofooggofpkaaGreatDoor
open Go.RowKit
open Go.Proofs

set_option maxRecDepth 100000 in
set_option maxHeartbeats 2000000 in
theorem coput_no (p : Nat) (vs : Value) (s : Co) (w : World) (hV : CoV w vs s) (hr : s.ok = false) :
    Calls Tryz.prog 12 #[.pointer (some ⟨p, 0, none⟩), vs] w fun e w' => e = .returned (.bool false) ∧ Kp [] w w' := by
  obtain ⟨k, i, ps, qs⟩ := s
  obtain ⟨ap, np, cp, aq, nq, cq, rfl, hSig⟩ := hV
  simp only at hSig hr ⊢
  obtain ⟨g1, hg1⟩ : ∃ g, g = w.heap.size := ⟨_, rfl⟩
  obtain ⟨w1, hw1⟩ : ∃ w1, w1 = w.alloc (.cells #[.int .i64 k, .int .i64 i, .slice ap np cp, .slice aq nq cq] 26) := ⟨_, rfl⟩
  have K1 : Kp [] w w1 := by rw [hw1]; exact (Kp.refl [] w).alloc _
  have G1 : w1.heap[g1]? = some (.cells #[.int .i64 k, .int .i64 i, .slice ap np cp, .slice aq nq cq] 26 (0, 0)) := by rw [hw1, hg1]; exact heap_alloc_new w _
  have HK1 := hide K1
  have HG1 := hide G1
  have HW1 := hide hw1
  have H1 := hide hg1
  cases hq : rgtP i ps qs with
  | false =>
    have HE := hide (encode_no _ i ps qs hq w1 (hSig.kept K1))
    clear hr hSig K1 G1 hw1 hg1 hq
    go_enter Tryz.func12, Tryz.ntmps12
    go_wp2_with fail
    rw [← unhide HW1, ← unhide H1]
    refine (unhide HE).mono ?_
    rintro ee w2 ⟨rfl, K2⟩
    have HK2 := hide ((unhide HK1).trans K2)
    clear HE K2 HW1
    go_wp2_with fail
    go_ret
    exact ⟨rfl, unhide HK2⟩
  | true =>
    have hc : false = decide (0 ≤ k ∧ k < 4) := by simp only [Co.ok, hq, Bool.and_true] at hr; exact hr.symm
    have HE := hide (encode_any _ i ps qs hq w1 (hSig.kept K1))
    have HI := hide (fun w => ciswit_any k false hc w)
    clear hr hSig K1 G1 hw1 hg1 hq hc
    go_enter Tryz.func12, Tryz.ntmps12
    go_wp2_with fail
    rw [← unhide HW1, ← unhide H1]
    refine (unhide HE).mono ?_
    rintro ee w2 ⟨a2, m2, c2, rfl, R2, K2⟩
    have HK2 := hide ((unhide HK1).trans K2)
    have HGw2 := hide (K2.heap (unhide HG1) (by simp))
    have e0 : w2.cell? ⟨g1, 0, none⟩ = some (.int .i64 k) := by rw [cell_of_row w2 g1 0 _ _ _ (unhide HGw2)]; rfl
    clear HE K2 HW1 R2
    go_wp2_with fail
    refine (unhide HI w2).mono ?_
    rintro ee w3 ⟨rfl, h3⟩
    subst w3
    clear HI e0
    go_wp2_with fail
    go_ret
    exact ⟨rfl, unhide HK2⟩

set_option maxRecDepth 100000 in
set_option maxHeartbeats 2000000 in
theorem coput_ok (p : Nat) (v : Value) (bs : List Int) (vs : Value) (s : Co) (w : World) (hw : Wr w p v bs) (hb : bs.length ≤ 900000) (hV : CoV w vs s) (hr : s.ok = true) :
    Calls Tryz.prog 12 #[.pointer (some ⟨p, 0, none⟩), vs] w fun e w' => e = .returned (.bool true) ∧ ∃ v', Wr w' p v' (bs ++ s.lay) ∧ Step p w v w' v' := by
  have HLY : Hid (s.lay = [s.k] ++ encP s.i s.ps s.qs) := hide rfl
  obtain ⟨k, i, ps, qs⟩ := s
  obtain ⟨ap, np, cp, aq, nq, cq, rfl, hSig⟩ := hV
  simp only at hSig hr ⊢
  obtain ⟨g1, hg1⟩ : ∃ g, g = w.heap.size := ⟨_, rfl⟩
  obtain ⟨w1, hw1⟩ : ∃ w1, w1 = w.alloc (.cells #[.int .i64 k, .int .i64 i, .slice ap np cp, .slice aq nq cq] 26) := ⟨_, rfl⟩
  have K1 : Kp [] w w1 := by rw [hw1]; exact (Kp.refl [] w).alloc _
  have G1 : w1.heap[g1]? = some (.cells #[.int .i64 k, .int .i64 i, .slice ap np cp, .slice aq nq cq] 26 (0, 0)) := by rw [hw1, hg1]; exact heap_alloc_new w _
  have HK1 := hide K1
  have HG1 := hide G1
  have HW1 := hide hw1
  have H1 := hide hg1
  simp only at HLY
  simp only [Co.ok, Bool.and_eq_true, decide_eq_true_eq] at hr
  obtain ⟨⟨hk0, hk4⟩, hrp⟩ := hr
  have HLE := hide (encP_len i ps qs hrp)
  have HE := hide (encode_any _ i ps qs hrp w1 (hSig.kept K1))
  have HI := hide (fun w => ciswit_any k true (decide_eq_true ⟨hk0, hk4⟩).symm w)
  have HW := hide hw
  have HP := hide hw.lt
  have HVL := hide hw.vlt
  have HBL := hide hb
  have hw8 : IntKind.u8.wrap k = k := by simp [IntKind.wrap, IntKind.signed, IntKind.bits]; omega
  clear hSig K1 G1 hw1 hg1 hw hb hrp
  go_enter Tryz.func12, Tryz.ntmps12
  go_wp2_with fail
  rw [← unhide HW1, ← unhide H1]
  refine (unhide HE).mono ?_
  rintro ee w2 ⟨a2, m2, c2, rfl, R2, K2⟩
  have HK2 := hide ((unhide HK1).trans K2)
  have HGw2 := hide (K2.heap (unhide HG1) (by simp))
  have e0 : w2.cell? ⟨g1, 0, none⟩ = some (.int .i64 k) := by rw [cell_of_row w2 g1 0 _ _ _ (unhide HGw2)]; rfl
  have HR2 := hide R2
  have how : ∀ k, (Value.slice a2 m2 c2).ownBlock = some k → w.heap.size ≤ k := fun k hk => Nat.le_trans (unhide HK1).size ((unhide HR2).own k hk)
  have HOW := hide how
  have HBy := hide (wbyte_any p k v bs w2 ((unhide HW).kept (unhide HK2) (by simp) (by simp)) (by have := unhide HBL; omega) hk0 (by omega))
  clear HE K2 HW1 R2 how
  go_wp2_with fail
  refine (unhide HI w2).mono ?_
  rintro ee w3 ⟨rfl, h3⟩
  subst w3
  clear HI
  go_wp2_with fail
  refine (unhide HBy).mono ?_
  rintro ee w4 ⟨rfl, v4, W4, S4⟩
  have hap : ∀ k, (Value.slice a2 m2 c2).ownBlock = some k → k ∉ p :: v.ownBlock.toList := by
    intro k hk hm
    have h1 := unhide HOW k hk
    simp only [List.mem_cons, Option.mem_toList] at hm
    rcases hm with e | e
    · have := unhide HP; omega
    · have := unhide HVL k e; omega
  have HRw := hide (raw_any p v4 _ (.slice a2 m2 c2) (encP i ps qs) w4 W4 ((unhide HR2).sl.kept S4.1 hap) (by have := unhide HBL; have := unhide HLE; rw [List.length_append]; simp; omega))
  have HS4 : Hid (Step p w v w4 v4) := ⟨((unhide HK2).mono (by simp)).trans S4.1, fun k hk => (S4.2 k hk).elim .inl (fun h => .inr (Nat.le_trans (unhide HK2).size h))⟩
  clear HBy e0 W4 S4 hap
  go_wp2_with fail
  refine (unhide HRw).mono ?_
  rintro ee w5 ⟨rfl, v5, W5, S5⟩
  have HW5 := hide W5
  have HS5 := hide S5
  clear HRw W5 S5
  go_wp2_with fail
  go_ret
  refine ⟨rfl, v5, ?_, (unhide HS4).trans (unhide HS5)⟩
  have := unhide HW5
  rw [unhide HLY, ← List.append_assoc]
  exact this
end Go.Proofs.YtdjofooggofpkaaGreatDoor

/-
  The contract of package cosign's Get.
-/
namespace Go.Proofs.YtdjofooggofpkaaGreatDoor
open Go.RowKit
open Go.Proofs

/-- While a cosignature is read: the reader at q, the result's place at g0, made behind it. -/
structure GtK (w : World) (g0 q : Nat) (v0 r : Value) (s : Bool × List Int) (wr : World) : Prop where
  rd : Rd wr q r s.1 s.2
  own : ∀ k, r.ownBlock = some k → v0.ownBlock = some k
  res : wr.heap[g0]? = some (.cells #[.int .i64 0, .int .i64 0, .slice none 0 0, .slice none 0 0] 26 (0, 0))
  kp : Kp [q] w wr
  o1 : w.heap.size = g0
  o2 : q < g0
  o3 : ∀ k, v0.ownBlock = some k → k < g0
section
variable {w w1 w' : World} {g0 q : Nat} {v0 r : Value} {s s' : Bool × List Int}
theorem GtK.call (h : GtK w g0 q v0 r s w1) (L : Left w1 q r s' w') : ∃ r', GtK w g0 q v0 r' s' w' := by
  obtain ⟨⟨r', R, O⟩, K⟩ := L
  have := h.o2
  exact ⟨r', R, fun k hk => h.own k (O k hk), K.heap h.res (by simp; omega), h.kp.trans K, h.o1, h.o2, h.o3⟩
theorem GtK.kept (h : GtK w g0 q v0 r s w1) (K : Kp [] w1 w') : GtK w g0 q v0 r s w' :=
  ⟨h.rd.kept K (by simp) (by simp), h.own, K.heap h.res (by simp), h.kp.trans (K.mono (by simp)), h.o1, h.o2, h.o3⟩
theorem GtK.left (h : GtK w g0 q v0 r s w1) (K : Kp [g0] w1 w') : Left w q v0 s w' := by
  have := h.o2
  have h1 := h.o1
  exact ⟨⟨r, h.rd.kept K (by simp; omega) (fun i hi => by have := h.o3 i (h.own i hi); simp; omega), h.own⟩, h.kp.then K (fun i hi => .inr (by simp at hi; omega))⟩
end
theorem decd_noK {b : List Int} {v : Value} {e : Int} {w : World} (h : Decd b v e w) (hd : decOk b = false) : v = sig0 ∧ e = 12 := by
  unfold Decd at h
  rw [hd] at h
  exact h

set_option maxRecDepth 100000 in
set_option maxHeartbeats 4000000 in
theorem coget_any (q : Nat) (v : Value) (s : Bool × List Int) (w : World) (hR : Rd w q v s.1 s.2) (hv : ∀ k, v.ownBlock = some k → k < w.heap.size) (hB : Bs s.2) (hl : s.2.length ≤ 140737488355328) :
    Calls Tryz.prog 16 #[.pointer (some ⟨q, 0, none⟩)] w fun e w' => ∃ vs, e = .returned (.tuple #[vs, .bool (okK s)]) ∧ CoV w' vs (ansK s) ∧ Left w q v (k2 s).2 w' := by
  obtain ⟨ok, hok⟩ : ∃ b, b = okK s := ⟨_, rfl⟩
  rw [← hok]
  have HOKE := hide hok
  clear hok
  obtain ⟨g0, hg0⟩ : ∃ g, g = w.heap.size := ⟨_, rfl⟩
  obtain ⟨w1, hw1⟩ : ∃ w1, w1 = w.alloc (.cells #[.int .i64 0, .int .i64 0, .slice none 0 0, .slice none 0 0] 26) := ⟨_, rfl⟩
  have K1 : Kp [] w w1 := by rw [hw1]; exact (Kp.refl [] w).alloc _
  have D1 : GtK w g0 q v v s w1 := ⟨hR.kept K1 (by simp) (by simp), fun k hk => hk, by rw [hw1, hg0]; exact heap_alloc_new w _, K1.mono (by simp), hg0.symm, by rw [hg0]; exact lt_of_block hR.1, fun k hk => by rw [hg0]; exact hv k hk⟩
  have HD1 := hide D1
  have HBS := hide (ks_bs hB)
  have HGL := hide (ks_len s)
  have HLN := hide hl
  have hvx := k1_val hB
  have hC := rbyte_any q v s.1 s.2 w1 D1.rd hB
  rw [← k1_eq] at hC
  obtain ⟨x, hx⟩ : ∃ x, x = val (k1 s).1 := ⟨_, rfl⟩
  rw [← hx] at hC hvx
  have hwrap : IntKind.i64.wrap x = x := by simp [IntKind.wrap, IntKind.signed, IntKind.bits]; omega
  have HX := hide hx
  have HX0 := hide hvx
  have HC := hide hC
  have HW1 := hide hw1
  have H0 := hide hg0
  clear hg0 hw1 K1 D1 hR hv hB hl hC hx hvx
  go_enter Tryz.func16, Tryz.ntmps16
  go_wp2_with fail
  rw [← unhide HW1, ← unhide H0]
  refine (unhide HC).mono ?_
  rintro ee w2 ⟨rfl, L2⟩
  obtain ⟨r2, D2⟩ := (unhide HD1).call L2
  have hC := raw_ok q r2 (k1 s).2.1 (k1 s).2.2 2180 w2 D2.rd (by have := (unhide HGL).1; have := unhide HLN; omega)
  rw [← k2_eq] at hC
  obtain ⟨mw, hmw⟩ : ∃ k, k = (k2 s).1.length := ⟨_, rfl⟩
  rw [← hmw] at hC
  have HC2 := hide hC
  have HD2 := hide D2
  clear L2 D2 hC HC HD1 hmw HW1
  go_wp2_with fail
  refine (unhide HC2).mono ?_
  rintro ee w5 ⟨aw, cw, rfl, O5, L5⟩
  obtain ⟨r5, D5⟩ := (unhide HD2).call L5
  have HD5 := hide D5
  have HO5 := hide O5
  clear HC2 O5 L5 D5 HD2
  have hok := unhide HOKE
  obtain ⟨rb, hrb⟩ : ∃ b, b = decide (0 ≤ x ∧ x < 4) := ⟨_, rfl⟩
  cases hd : decOk (k2 s).1 with
  | false =>
    have h0 : ok = false := by rw [hok]; unfold okK; rw [hd, Bool.and_false]
    have HOK := hide (show okK s = false from hok.symm.trans h0)
    clear HOKE
    subst h0
    have HC5 := hide (decode_any (.slice aw mw cw) (k2 s).1 w5 (unhide HO5).1 (unhide HBS).2.2.1)
    have HDD := hide hd
    clear hok hrb hd
    go_wp2_with fail
    refine (unhide HC5).mono ?_
    rintro ee w6 ⟨v6, x6, rfl, d6, K6⟩
    obtain ⟨rfl, rfl⟩ := decd_noK d6 (unhide HDD)
    have HD6 := hide ((unhide HD5).kept K6)
    have Ga := heap_alloc_new w6 (.cells #[.int .i64 0, .slice none 0 0, .slice none 0 0] 24)
    have HKa : Hid (Kp [] w6 (w6.alloc (.cells #[.int .i64 0, .slice none 0 0, .slice none 0 0] 24))) := (Kp.refl [] w6).alloc _
    clear HC5 d6 K6 HD5
    go_wp2_with (refine wpList_store_flat rfl 24 (.tmp 5) (.tmp 17) rfl w6.heap.size 0 rfl _ _ [.int .i64 0, .slice none 0 0, .slice none 0 0] Ga rfl (by simp) Tryz.sigSize (by simp [Value.oneCell']) #[.int .i64 0, .slice none 0 0, .slice none 0 0] rfl ?_; intro w7 G7 K7; refine Hid.out ?_)
    have K67 : Kp [] w6 w7 := (unhide HKa).then K7 (fun i hi => .inr (by simp at hi; omega))
    have D7 := (unhide HD6).kept K67
    have Gz := D7.res
    have HD7 := hide D7
    clear Ga HKa G7 K7 K67 D7 HD6
    refine hide ?_
    go_wp2_with (refine wpList_store_flat rfl 26 (.tmp 2) (.tmp 26) rfl g0 0 rfl _ _ [.int .i64 0, .int .i64 0, .slice none 0 0, .slice none 0 0] Gz rfl (by simp) Tryz.cosSize (by simp [Value.oneCell']) #[.int .i64 0, .int .i64 0, .slice none 0 0, .slice none 0 0] rfl ?_; intro w8 G8 K8)
    refine bodyPost_ret (results_flat2 rfl _ rfl G8 Tryz.underlying26 rfl Tryz.cosSize) rfl ?_
    exact ⟨_, rfl, by rw [ansK_no (unhide HOK)]; exact cos0_v _, (unhide HD7).left K8⟩
  | true =>
    have h0 : ok = rb := by rw [hok, hrb]; unfold okK; rw [hd, Bool.and_true, ← unhide HX]; simp [(unhide HX0).1]
    have HC5 := hide (decode_apart (.slice aw mw cw) (k2 s).1 w5 (unhide HO5).1 (unhide HBS).2.2.1 hd)
    have HOK := hide (hok.symm.trans h0)
    have HI := hide (fun w => ciswit_any x rb hrb w)
    obtain ⟨ix, hix⟩ : ∃ k, k = val ((k2 s).1.take 4) := ⟨_, rfl⟩
    rw [← hix] at HC5
    have HIX := hide hix
    clear HOKE
    subst h0
    clear hok hrb hd hix
    go_wp2_with fail
    refine (unhide HC5).mono ?_
    rintro ee w6 ⟨v6, rfl, V6, K6⟩
    obtain ⟨ap, np, cp, aq, nq, cq, lp, lq, rfl, -⟩ := (V6 [] w6 (by simp) (Kp.refl _ _)).shape
    have HV6 := hide V6
    have HD6 := hide ((unhide HD5).kept K6)
    have hz5 : g0 < w5.heap.size := lt_of_block (unhide HD5).res
    have Ga := heap_alloc_new w6 (.cells #[.int .i64 0, .slice none 0 0, .slice none 0 0] 24)
    have HKa : Hid (Kp [] w6 (w6.alloc (.cells #[.int .i64 0, .slice none 0 0, .slice none 0 0] 24))) := (Kp.refl [] w6).alloc _
    clear HC5 V6 K6 HD5
    go_wp2_with (refine wpList_store_flat rfl 24 (.tmp 5) (.tmp 17) rfl w6.heap.size 0 rfl _ _ [.int .i64 ix, .slice ap np cp, .slice aq nq cq] Ga rfl (by simp) Tryz.sigSize (by simp [Value.oneCell']) #[.int .i64 ix, .slice ap np cp, .slice aq nq cq] rfl ?_; intro w7 G7 K7; refine Hid.out ?_)
    obtain ⟨g5, hg5⟩ : ∃ g, g = w6.heap.size := ⟨_, rfl⟩
    have K67 : Kp [] w6 w7 := (unhide HKa).then K7 (fun i hi => .inr (by simp at hi; omega))
    rw [← hg5] at G7 ⊢
    have D7 := (unhide HD6).kept K67
    have Gz := D7.res
    have HD7 := hide D7
    have HK67 := hide K67
    have HF7 := hide G7
    clear Ga HKa G7 K7 K67 hg5 HD6 D7
    refine hide ?_
    go_wp2_with fail
    refine (unhide HI w7).mono ?_
    rintro ee w8 ⟨rfl, h8⟩
    subst w8
    clear HI
    cases ok
    · go_wp2_with (refine wpList_store_flat rfl 26 (.tmp 2) (.tmp 26) rfl g0 0 rfl _ _ [.int .i64 0, .int .i64 0, .slice none 0 0, .slice none 0 0] Gz rfl (by simp) Tryz.cosSize (by simp [Value.oneCell']) #[.int .i64 0, .int .i64 0, .slice none 0 0, .slice none 0 0] rfl ?_; intro w9 G9 K9)
      refine bodyPost_ret (results_flat2 rfl _ rfl G9 Tryz.underlying26 rfl Tryz.cosSize) rfl ?_
      exact ⟨_, rfl, by rw [ansK_no (unhide HOK)]; exact cos0_v _, (unhide HD7).left K9⟩
    · have f0 : w7.cell? ⟨g5, 0, none⟩ = some (.int .i64 ix) := by rw [cell_of_row w7 g5 0 _ _ _ (unhide HF7)]; rfl
      have f1 : w7.cell? ⟨g5, 1, none⟩ = some (.slice ap np cp) := by rw [cell_of_row w7 g5 1 _ _ _ (unhide HF7)]; rfl
      have f2 : w7.cell? ⟨g5, 2, none⟩ = some (.slice aq nq cq) := by rw [cell_of_row w7 g5 2 _ _ _ (unhide HF7)]; rfl
      go_wp2_with (refine wpList_store_flat rfl 26 (.tmp 2) (.tmp 29) rfl g0 0 rfl _ _ [.int .i64 x, .int .i64 ix, .slice ap np cp, .slice aq nq cq] Gz rfl (by simp) Tryz.cosSize (by simp [Value.oneCell']) #[.int .i64 x, .int .i64 ix, .slice ap np cp, .slice aq nq cq] rfl ?_; intro w9 G9 K9)
      refine bodyPost_ret (results_flat2 rfl _ rfl G9 Tryz.underlying26 rfl Tryz.cosSize) rfl ?_
      refine ⟨_, rfl, ?_, (unhide HD7).left K9⟩
      rw [ansK_yes (unhide HOK)]
      have h9 := unhide HV6 [g0] w9 (fun k hk => by simp at hk; omega) (((unhide HK67).mono (by simp)).trans K9)
      refine ⟨ap, np, cp, aq, nq, cq, ?_, ?_⟩
      · show Value.agg #[.int .i64 x, .int .i64 ix, _, _] = .agg #[.int .i64 (val (k1 s).1), .int .i64 (val ((k2 s).1.take 4)), _, _]
        rw [unhide HX, unhide HIX]
      · show SigV w9 (.agg #[.int .i64 (val ((k2 s).1.take 4)), _, _]) (val ((k2 s).1.take 4)) _ _
        rw [← unhide HIX]
        exact h9
end Go.Proofs.YtdjofooggofpkaaGreatDoor

/-
  Small things about cosignatures that are laid down and read.
-/
namespace Go.Proofs.YtdjofooggofpkaaGreatDoor
open Go.RowKit
open Go.Proofs

/-- what is laid down of a cosignature, if it may be. -/
def Co.out (c : Co) : List Int := if c.ok then c.lay else []
theorem Co.out_yes {c : Co} (h : c.ok = true) : c.out = c.lay := by unfold Co.out; rw [if_pos h]
theorem Co.out_no {c : Co} (h : c.ok = false) : c.out = [] := by unfold Co.out; rw [h]; rfl
/-- what was laid down last. -/
def outK (c0 c1 : Co) : Nat → List Int
  | 0 => []
  | 1 => c0.out
  | _ => c1.out
theorem Co.ok_lo {c : Co} (h : c.k < 0) : c.ok = false := by
  unfold Co.ok
  rw [decide_eq_false (by omega)]
  rfl
theorem Co.ok_hi {c : Co} (h : 4 ≤ c.k) : c.ok = false := by
  unfold Co.ok
  rw [decide_eq_false (by omega)]
  rfl
theorem Co.ok_in {c : Co} (h0 : 0 ≤ c.k) (h4 : c.k < 4) : c.ok = rgtP c.i c.ps c.qs := by
  unfold Co.ok
  rw [decide_eq_true (⟨h0, h4⟩ : 0 ≤ c.k ∧ c.k < 4)]
  rfl
theorem grown_b1 {o : Oper} {a : Act} {w : World} (x : Operand) (ho : o.op = .buildSlice 27 1 #[(0, x)]) (b : Int) (hx : a.eval x = .int .u8 b) : grown Tryz.prog w (Full [b]) ((execOp a.eval o).run Tryz.prog w) := by
  refine grown_run (v := .slice (some ⟨w.heap.size, 0, none⟩) 1 1) (w' := w.alloc (.cells #[.int .u8 b] 5)) ?_ ((Kp.refl [] w).alloc _) ⟨⟨_, rfl⟩, ?_⟩
  · obtain ⟨ρ, hρ, _⟩ := eval_is a
    rw [hρ] at hx ⊢
    unfold execOp
    simp only [ho]
    simp [go_sem, hx]
  · refine Row.sl (base := w.heap.size) (bs := [b]) ⟨rfl, .inr ⟨w.heap.size, 1, #[.int .u8 b], rfl, Nat.le_refl _, heap_alloc_new w _, by simp, by unfold maxLen; omega, rfl, rfl⟩⟩
theorem co_off3 {w w' : World} {g : Nat} {x : Int} {b0 : Bool} {a1 : Option Addr} {n1 c1 : Nat} {t : TypeId} {fr : Nat × Nat} (hg : w.heap[g]? = some (.cells #[.slice a1 n1 c1, .int .i64 x, .bool b0] t fr)) (k : Kp [g] w w') {v : Value} {s : Bool × List Int} (h : CoV w v (ansK s)) : CoV w' v (ansK s) := by
  have hl : ((ansK s).ps.length = 0 ∨ 2 ≤ (ansK s).ps.length) ∧ ((ansK s).qs.length = 0 ∨ 2 ≤ (ansK s).qs.length) := by
    cases ho : okK s with
    | true => rw [ansK_yes ho]; exact ⟨.inr (by show 2 ≤ (chP 64 _).length; rw [chP_len]; omega), .inr (by show 2 ≤ (chP 4 _).length; rw [chP_len]; omega)⟩
    | false => rw [ansK_no ho]; exact ⟨.inl rfl, .inl rfl⟩
  obtain ⟨ap, np, cp, aq, nq, cq, e, vp', vq', lp, lq, e', k1, k2, k3, k4⟩ := h
  refine ⟨ap, np, cp, aq, nq, cq, e, vp', vq', lp, lq, e', lists_off3 hg k k1 ?_, k2, lists_off3 hg k k3 ?_, k4⟩
  · rw [← List.length_map (f := (·.2)), k2]; exact hl.1
  · rw [← List.length_map (f := (·.2)), k4]; exact hl.2
theorem CoV.sig {w : World} {k i : Int} {ap aq : Option Addr} {np cp nq cq : Nat} {c : Co} (h : CoV w (.agg #[.int .i64 k, .int .i64 i, .slice ap np cp, .slice aq nq cq]) c) : SigV w (.agg #[.int .i64 c.i, .slice ap np cp, .slice aq nq cq]) c.i c.ps c.qs := by
  obtain ⟨a, n, d, b, m, f, e, h1⟩ := h
  simp only [Value.agg.injEq, Array.mk.injEq, List.cons.injEq, and_true] at e
  obtain ⟨_, _, e3, e4⟩ := e
  rw [e3, e4]
  exact h1
theorem CoV.zero {w : World} {k i : Int} {ap aq : Option Addr} {np cp nq cq : Nat} (h : CoV w (.agg #[.int .i64 k, .int .i64 i, .slice ap np cp, .slice aq nq cq]) co0) : k = 0 ∧ np = 0 := by
  obtain ⟨a, n, d, b, m, f, e, vp, vq, lp, lq, e2, ⟨ao, c, rfl, _⟩, h2, _⟩ := h
  simp only [Value.agg.injEq, Array.mk.injEq, List.cons.injEq, and_true] at e e2
  obtain ⟨e0, _, e3, _⟩ := e
  have hl : lp = [] := List.map_eq_nil_iff.1 h2
  subst hl
  have e4 := e3.trans e2.2.1
  injection e0 with _ e0
  injection e4 with _ e4 _
  exact ⟨e0, e4⟩
theorem k2_bad {s : Bool × List Int} (h : s.1 = true → s.2 = []) (hd : decOk (k2 s).1 = true) : (k2 s).2.1 = false := by
  have h3 := tk_full (bad := (k1 s).2.1) (bs := (k1 s).2.2) (n := 2180) (by omega) (decOk_len hd)
  have h1 := tk_rest (bad := s.1) (bs := s.2) (n := 1) (by show 0 < (k1 s).2.2.length; omega)
  have hb : s.1 = false := by
    cases hs : s.1 with
    | false => rfl
    | true => have := h hs; rw [this] at h1; simp at h1
  have e1 : (k1 s).2.1 = false := by
    have : k1 s = _ := h1.2
    rw [this, hb]
  have : k2 s = _ := h3.2
  rw [this, e1]
end Go.Proofs.YtdjofooggofpkaaGreatDoor

/-
  A cosignature that is handed in, whatever it is.
-/
namespace Go.Proofs.YtdjofooggofpkaaGreatDoor
open Go.ChangeShapes Go.WideShapes Go.ChangeAt Go.RowKit
open Go.Deep
/-- a cosignature that is handed in, whatever it is. -/
def RawCo (w : World) (v : Value) (c : Co) : Prop :=
  ∃ ap np cp aq nq cq lp lq, v = .agg #[.int .i64 c.k, .int .i64 c.i, .slice ap np cp, .slice aq nq cq] ∧ (np ≤ cp ∧ (ap = none → cp = 0)) ∧ (Lists w (.slice ap np cp) lp ∧ lp.map (·.2) = c.ps) ∧ (Lists w (.slice aq nq cq) lq ∧ lq.map (·.2) = c.qs) ∧ (-9223372036854775808 ≤ c.k ∧ c.k ≤ 9223372036854775807) ∧ (-9223372036854775808 ≤ c.i ∧ c.i ≤ 9223372036854775807)
section
variable {H : Type} {enc : TypeId × Value → H} {w : World}
set_option maxRecDepth 100000 in
theorem capK_of_trod {v : Value} {fuel : Nat} {x : DataW H × List MemPlace} (h : DataW.trod enc Tryz.prog w 0 (fun _ => true) true fuel 22 [v] = some x) : ∃ ao n c, v = .slice ao n c ∧ n ≤ c ∧ (ao = none → c = 0) := by
  rcases open_slice1 Tryz.underlying22 (by kernel_rfl) h with ⟨hcs, _⟩ | ⟨a, len, cap, m, n, V, D, Pl, hcs, _, hl, hm, hmm, _, hx⟩
  · simp only [List.cons.injEq, and_true] at hcs
    exact ⟨none, 0, 0, hcs, Nat.le_refl _, fun _ => rfl⟩
  · simp only [List.cons.injEq, and_true] at hcs
    exact ⟨some a, len, cap, hcs, hl, fun h => by cases h⟩
theorem Tryz.cosFields : ∃ f0 f1, Tryz.prog.underlying 26 = some (.struct #[f0, f1]) ∧ (f0.offset = 0 ∧ f1.offset = 1) ∧ (f0.type = 3 ∧ f1.type = 24) :=
  ⟨_, _, Tryz.underlying26, ⟨rfl, rfl⟩, ⟨rfl, rfl⟩⟩
theorem Tryz.sigFields : ∃ f0 f1 f2, Tryz.prog.underlying 24 = some (.struct #[f0, f1, f2]) ∧ (f0.offset = 0 ∧ f1.offset = 1 ∧ f2.offset = 2) ∧ (f0.type = 3 ∧ f1.type = 22 ∧ f2.type = 22) :=
  ⟨_, _, _, Tryz.underlying24, ⟨rfl, rfl, rfl⟩, ⟨rfl, rfl, rfl⟩⟩
theorem Tryz.cellsCos : Tryz.prog.cellsOf 26 = 4 := by kernel_rfl
theorem Tryz.cellsSig3 : Tryz.prog.cellsOf 24 = 3 := by kernel_rfl
theorem Tryz.cellsI1 : Tryz.prog.cellsOf 3 = 1 := by kernel_rfl
theorem Tryz.cellsL1 : Tryz.prog.cellsOf 22 = 1 := by kernel_rfl
set_option maxRecDepth 100000 in
theorem cos_open {base : Nat} {v : Value} {d : DataW H} {p : List MemPlace} (hv : Value.okWide Tryz.prog w .any base 26 v) (h : DataW.Trod enc Tryz.prog w 0 (fun _ => true) true 26 v d p) : ∃ c, RawCo w v c := by
  obtain ⟨f0, f1, hu, ⟨o0, o1⟩, ⟨t0, t1⟩⟩ := Tryz.cosFields
  obtain ⟨g0, g1, g2, gu, ⟨q0, q1, q2⟩, ⟨u0, u1, u2⟩⟩ := Tryz.sigFields
  obtain ⟨cs, rfl, hsz⟩ := okWide_struct hu hv
  obtain ⟨c0, c1, c2, c3, rfl⟩ := Go.Joins.array4 (hsz.trans Tryz.cellsCos)
  obtain ⟨fuel, hf⟩ := h
  obtain ⟨y0, y1, n, _, _, h0, h1⟩ := trod_struct2 hu hf
  rw [o0, t0, Tryz.cellsI1] at h0
  rw [o1, t1, Tryz.cellsSig3] at h1
  simp only [Value.cells, List.drop_zero, List.drop_succ_cons, List.take_succ_cons, List.take_zero] at h0 h1
  obtain ⟨z0, z1, z2, m, _, _, k0, k1, k2⟩ := trod_struct3 gu h1
  rw [q0, u0, Tryz.cellsI1] at k0
  rw [q1, u1, Tryz.cellsL1] at k1
  rw [q2, u2, Tryz.cellsL1] at k2
  simp only [List.drop_zero, List.drop_succ_cons, List.take_succ_cons, List.take_zero] at k0 k1 k2
  obtain ⟨x0, e0, _, w0⟩ := DataW.trod_int Tryz.underlying3 h0
  obtain ⟨x1, e1, _, w1⟩ := DataW.trod_int Tryz.underlying3 k0
  obtain ⟨ap, np, cp, ep, p1, p2⟩ := capK_of_trod k1
  obtain ⟨lp, sp⟩ := lists_of_trod k1
  obtain ⟨lq, sq⟩ := lists_of_trod k2
  obtain ⟨aq, nq, cq, eq, _, _⟩ := capK_of_trod k2
  simp only [List.cons.injEq, and_true] at e0 e1
  subst e0
  subst e1
  subst ep
  subst eq
  exact ⟨⟨x0, x1, lp.map (·.2), lq.map (·.2)⟩, ap, np, cp, aq, nq, cq, lp, lq, rfl, ⟨p1, p2⟩, ⟨sp, rfl⟩, ⟨sq, rfl⟩, bounds_i64 w0, bounds_i64 w1⟩
end
end Go.Proofs.YtdjofooggofpkaaGreatDoor
