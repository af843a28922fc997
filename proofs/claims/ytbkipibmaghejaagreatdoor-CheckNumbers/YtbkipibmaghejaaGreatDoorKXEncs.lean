/-
  The contract of the reference's Get of a signed checkpoint.
-/
import Derived.Test.YtbkipibmaghejaaGreatDoorKXLaws
import Derived.Test.YtbkipibmaghejaaGreatDoorKSRefD
import Derived.Test.YtbkipibmaghejaaGreatDoorKMRd
import Derived.Test.YtbkipibmaghejaaGreatDoorKXProg
import Derived.Test.YtbkipibmaghejaaGreatDoorKMWire
import Derived.Test.YtbkipibmaghejaaGreatDoorKSRefReader
import Derived.Test.YtbkipibmaghejaaGreatDoorKSWire
namespace Go.Proofs.YtbkipibmaghejaaGreatDoor
open Go.RowKit
open Go.Proofs

section
variable {w w' : World} {g : Nat} {x y : Int} {a1 a2 a3 : Option Addr} {n1 c1 n2 c2 n3 c3 : Nat} {t : TypeId} {fr : Nat × Nat}
/-- a list of three slices or more does not lie in a signed checkpoint's block. -/
theorem lists_off5 (hg : w.heap[g]? = some (.cells #[.int .i64 x, .slice a1 n1 c1, .int .i64 y, .slice a2 n2 c2, .slice a3 n3 c3] t fr)) (k : Kp [g] w w') {v : Value} {l : List (Value × List Int)} (h : Lists w v l) (hl : 3 ≤ l.length) : Lists w' v l := by
  obtain ⟨ao, c, rfl, h1, h2⟩ := h
  refine ⟨ao, c, rfl, h1, fun i hi => ?_⟩
  obtain ⟨b, off, e, h3, h4, h5⟩ := h2 i hi
  refine ⟨b, off, e, ?_, ?_, h5⟩
  · by_cases hb : b = g
    · exfalso
      subst hb
      subst e
      have at' : ∀ j (hj : j < l.length), ∃ p q r, (#[Value.int .i64 x, .slice a1 n1 c1, .int .i64 y, .slice a2 n2 c2, .slice a3 n3 c3])[off + j]? = some (.slice p q r) := fun j hj => by
        obtain ⟨b', off', e', h3', h4', _⟩ := h2 j hj
        injection e' with e'
        injection e' with e1 e2
        subst e1
        subst e2
        obtain ⟨p, r, es, _⟩ := h4'
        rw [cell_of_row w b (off + j) _ _ _ hg, es] at h3'
        exact ⟨p, _, r, h3'⟩
      obtain ⟨p0, q0, r0, e0⟩ := at' 0 (by omega)
      obtain ⟨p1, q1, r1, e1⟩ := at' 1 (by omega)
      obtain ⟨p2, q2, r2, e2⟩ := at' 2 (by omega)
      have : off = 0 ∨ off = 1 ∨ off = 2 ∨ 3 ≤ off := by omega
      rcases this with rfl | rfl | rfl | h
      · simp at e0
      · simp at e1
      · simp at e0
      · rw [Array.getElem?_eq_none (by simp; omega)] at e2
        cases e2
    · exact k.cell h3 (by simpa using hb)
  · obtain ⟨p, q, es, _⟩ := id h4
    rw [es] at h4 ⊢
    exact Sl.offBy h4 (noBy_sgd hg) k
theorem sig_off5 (hg : w.heap[g]? = some (.cells #[.int .i64 x, .slice a1 n1 c1, .int .i64 y, .slice a2 n2 c2, .slice a3 n3 c3] t fr)) (k : Kp [g] w w') {v : Value} {i : Int} {ps qs : List (List Int)} (h : SigV w v i ps qs) (hp : 3 ≤ ps.length) (hq : 3 ≤ qs.length) : SigV w' v i ps qs := by
  obtain ⟨vp, vq, lp, lq, e, h1, h2, h3, h4⟩ := h
  exact ⟨vp, vq, lp, lq, e, lists_off5 hg k h1 (by rw [← List.length_map (f := (·.2)), h2]; exact hp), h2, lists_off5 hg k h3 (by rw [← List.length_map (f := (·.2)), h4]; exact hq), h4⟩
end
/-- While a signed checkpoint is read: the reader at q, the result's place at g0. -/
structure GrS (w : World) (g0 q : Nat) (v : Value) (B : List Int) (s : Bool × List Int) (wr : World) : Prop where
  rr : ∃ j bad, RR wr q v j bad B ∧ s = (bad, rest j bad B)
  res : wr.heap[g0]? = some (.cells #[.int .i64 0, .slice none 0 0, .int .i64 0, .slice none 0 0, .slice none 0 0] 30 (0, 0))
  kp : Kp [q] w wr
  o1 : w.heap.size = g0
  o2 : q < g0
  o3 : ∀ k, v.ownBlock = some k → k < g0
section
variable {w w1 w' : World} {g0 q : Nat} {v : Value} {B : List Int} {s s' : Bool × List Int}
theorem GrS.call (h : GrS w g0 q v B s w1) (L : RLeft w1 q v B s' w') : GrS w g0 q v B s' w' := by
  obtain ⟨j, bad, R, e, K⟩ := L
  have := h.o2
  exact ⟨⟨j, bad, R, e⟩, K.heap h.res (by simp; omega), h.kp.trans K, h.o1, h.o2, h.o3⟩
theorem GrS.kept (h : GrS w g0 q v B s w1) (K : Kp [] w1 w') : GrS w g0 q v B s w' := by
  obtain ⟨j, bad, R, e⟩ := h.rr
  exact ⟨⟨j, bad, R.kept K (by simp) (by simp), e⟩, K.heap h.res (by simp), h.kp.trans (K.mono (by simp)), h.o1, h.o2, h.o3⟩
theorem GrS.left (h : GrS w g0 q v B s w1) (K : Kp [g0] w1 w') : RLeft w q v B s w' := by
  have := h.o2
  have h1 := h.o1
  obtain ⟨j, bad, R, e⟩ := h.rr
  exact ⟨j, bad, R.kept K (by simp; omega) (fun i hi => by have := h.o3 i hi; simp; omega), e, h.kp.then K (fun i hi => .inr (by simp at hi; omega))⟩
end

set_option maxRecDepth 100000 in
set_option maxHeartbeats 8000000 in
theorem refget_any (q : Nat) (v : Value) (B : List Int) (s : Bool × List Int) (w : World) (j0 : Nat) (bad0 : Bool) (hR : RR w q v j0 bad0 B) (hs : s = (bad0, rest j0 bad0 B)) (hv : ∀ k, v.ownBlock = some k → k < w.heap.size) (hB : Bs B) (hl : B.length ≤ 140737488355328) :
    Calls Tryz.prog 39 #[.pointer (some ⟨q, 0, none⟩)] w fun e w' => ∃ vs, e = .returned (.tuple #[vs, .bool (okG s)]) ∧ SgV w' vs (ansG s) ∧ RLeft w q v B (g3 s).2 w' := by
  have hsB : Bs s.2 := by rw [hs]; exact rest_bs hB
  have hst : s.1 = true → s.2 = [] := by rw [hs]; intro h; simp only at h; subst h; rfl
  obtain ⟨ok, hok⟩ : ∃ b, b = okG s := ⟨_, rfl⟩
  rw [← hok]
  have hok2 := hok.trans (okG_ref hst hsB)
  have HOKE := hide hok
  obtain ⟨g0, hg0⟩ : ∃ g, g = w.heap.size := ⟨_, rfl⟩
  obtain ⟨w1, hw1⟩ : ∃ w1, w1 = w.alloc (.cells #[.int .i64 0, .slice none 0 0, .int .i64 0, .slice none 0 0, .slice none 0 0] 30) := ⟨_, rfl⟩
  have K1 : Kp [] w w1 := by rw [hw1]; exact (Kp.refl [] w).alloc _
  have R1 := hR.kept K1 (by simp) (by simp)
  have D1 : GrS w g0 q v B s w1 := ⟨⟨j0, bad0, R1, hs⟩, by rw [hw1, hg0]; exact heap_alloc_new w _, K1.mono (by simp), hg0.symm, by rw [hg0]; exact lt_of_block hR.1, fun k hk => by rw [hg0]; exact hv k hk⟩
  have HD1 := hide D1
  have HBS := hide (gs_bs hsB)
  have HLN := hide hl
  have HB := hide hB
  have hvx := g1_val hsB
  have hC := rnumb_any q v j0 bad0 B 4 w1 R1 hl (by omega) hB
  have e1 : tk bad0 (rest j0 bad0 B) ((4 : Nat) : Int) = g1 s := by rw [hs]; rfl
  rw [e1] at hC
  simp only [show ((4 : Nat) : Int) = 4 from rfl] at hC
  obtain ⟨x, hx⟩ : ∃ x, x = val (g1 s).1 := ⟨_, rfl⟩
  rw [← hx] at hC hvx hok2
  have hwrap : IntKind.i64.wrap x = x := by simp [IntKind.wrap, IntKind.signed, IntKind.bits]; omega
  have HX := hide hx
  have HC := hide hC
  have HW1 := hide hw1
  have H0 := hide hg0
  have HOK2 := hide hok2
  clear hg0 hw1 K1 D1 hR hv hB hl hC hx hvx R1 hs hsB hst hok hok2 e1
  go_enter Tryz.func39, Tryz.ntmps39
  go_wp2_with fail
  rw [← unhide HW1, ← unhide H0]
  refine (unhide HC).mono ?_
  rintro ee w2 ⟨rfl, L2⟩
  have D2 := (unhide HD1).call L2
  obtain ⟨j2, b2, R2, e2⟩ := D2.rr
  have hC := rraw_any q v j2 b2 B 32 w2 R2 (unhide HLN) (by omega)
  rw [show tk b2 (rest j2 b2 B) 32 = g2 s from by rw [g2_eq, e2]] at hC
  have HC2 := hide hC
  have HD2 := hide D2
  clear L2 D2 hC HC HD1 R2 e2 HW1
  go_wp2_with fail
  refine (unhide HC2).mono ?_
  rintro ee w3 ⟨ar, mr, cr, rfl, O3, L3⟩
  have D3 := (unhide HD2).call L3
  obtain ⟨j3, b3, R3, e3⟩ := D3.rr
  have HO3 := hide O3
  have hz2 : g0 < w2.heap.size := lt_of_block (unhide HD2).res
  have hC := rraw_any q v j3 b3 B 2180 w3 R3 (unhide HLN) (by omega)
  rw [show tk b3 (rest j3 b3 B) 2180 = g3 s from by rw [g3_eq, e3]] at hC
  have HC3 := hide hC
  have HD3 := hide D3
  clear L3 D3 O3 HC2 HD2 hC R3 e3
  go_wp2_with fail
  refine (unhide HC3).mono ?_
  rintro ee w5 ⟨aw, mw, cw, rfl, O5, L5⟩
  have D5 := (unhide HD3).call L5
  have HD5 := hide D5
  have KL5 : Kp [q] w3 w5 := by obtain ⟨_, _, _, _, K⟩ := L5; exact K
  have HS5 := hide ((unhide HO3).1.kept KL5 (fun k hk => by have := (unhide HO3).2 k hk; have := (unhide HD3).o2; simp; omega))
  have HRO := hide (unhide HO3).2
  have HBr := hide (unhide HBS).2.2.1
  have HC5 := hide (refdecode_any (.slice aw mw cw) (g3 s).1 w5 O5.1 (unhide HBS).2.2.2.2.1)
  clear HC3 O5 L5 D5 HO3 HD3 KL5
  go_wp2_with fail
  refine (unhide HC5).mono ?_
  rintro ee w6 ⟨v6, dk, rfl, d6, K6⟩
  have hshape : ∃ ix ap np cp aq nq cq, v6 = .agg #[.int .i64 ix, .slice ap np cp, .slice aq nq cq] := by
    unfold RDecd at d6
    cases hd : decOk (g3 s).1 with
    | true =>
      rw [hd] at d6
      obtain ⟨ap, np, cp, aq, nq, cq, lp, lq, e, -⟩ := d6.1.shape
      exact ⟨_, ap, np, cp, aq, nq, cq, e⟩
    | false =>
      rw [hd] at d6
      exact ⟨0, none, 0, 0, none, 0, 0, d6.1⟩
  obtain ⟨ix, ap, np, cp, aq, nq, cq, rfl⟩ := hshape
  have hdk : dk = decOk (g3 s).1 := by
    unfold RDecd at d6
    cases hd : decOk (g3 s).1 <;> rw [hd] at d6 <;> exact d6.2
  have HDC := hide d6
  have HDK := hide hdk
  have HD6 := hide ((unhide HD5).kept K6)
  have HS6 := hide ((unhide HS5).kept K6 (by simp))
  have Ga := heap_alloc_new w6 (.cells #[.int .i64 0, .slice none 0 0, .slice none 0 0] 28)
  have HKa : Hid (Kp [] w6 (w6.alloc (.cells #[.int .i64 0, .slice none 0 0, .slice none 0 0] 28))) := (Kp.refl [] w6).alloc _
  clear HC5 d6 K6 HD5 HS5 hdk
  go_wp2_with (refine wpList_store_flat rfl 28 (.tmp 6) (.tmp 16) rfl w6.heap.size 0 rfl _ _ [.int .i64 ix, .slice ap np cp, .slice aq nq cq] Ga rfl (by simp) Tryz.sigSize (by simp [Value.oneCell']) #[.int .i64 ix, .slice ap np cp, .slice aq nq cq] rfl ?_; intro w7 G7 K7; refine Hid.out ?_)
  obtain ⟨g5, hg5⟩ : ∃ g, g = w6.heap.size := ⟨_, rfl⟩
  have K67 : Kp [] w6 w7 := (unhide HKa).then K7 (fun i hi => .inr (by simp at hi; omega))
  rw [← hg5] at G7 ⊢
  have D7 := (unhide HD6).kept K67
  have Gz := D7.res
  have HD7 := hide D7
  have HS7 := hide ((unhide HS6).kept K67 (by simp))
  have HK67 := hide K67
  obtain ⟨j7, bad7, R7, e7⟩ := D7.rr
  have hb7 : w7.cell? ⟨q, 2, none⟩ = some (.bool bad7) := (cell_of_three R7.1).2.2
  have e8 : (g3 s).2.1 = bad7 := by rw [e7]
  have hok3 := unhide HOK2
  rw [e8, ← unhide HDK] at hok3
  have f0 : w7.cell? ⟨g5, 0, none⟩ = some (.int .i64 ix) := by rw [cell_of_row w7 g5 0 _ _ _ G7]; rfl
  have f1 : w7.cell? ⟨g5, 1, none⟩ = some (.slice ap np cp) := by rw [cell_of_row w7 g5 1 _ _ _ G7]; rfl
  have f2 : w7.cell? ⟨g5, 2, none⟩ = some (.slice aq nq cq) := by rw [cell_of_row w7 g5 2 _ _ _ G7]; rfl
  have HOK3 := hide hok3
  clear Ga HKa G7 K7 K67 hg5 HD6 HS6 D7 R7 e7 e8 hok3 HOK2
  refine hide ?_
  cases bad7
  · cases dk
    · have h0 : ok = false := by rw [unhide HOK3]; rfl
      have HNO := hide ((unhide HOKE).symm.trans h0)
      clear HOKE HOK3
      subst h0
      clear f0 f1 f2
      go_wp2_with (refine wpList_store_flat rfl 30 (.tmp 2) (.tmp 30) rfl g0 0 rfl _ _ [.int .i64 0, .slice none 0 0, .int .i64 0, .slice none 0 0, .slice none 0 0] Gz rfl (by simp) Tryz.sgdSize (by simp [Value.oneCell']) #[.int .i64 0, .slice none 0 0, .int .i64 0, .slice none 0 0, .slice none 0 0] rfl ?_; intro w8 G8 K8)
      refine bodyPost_ret (results_flat2 rfl _ rfl G8 Tryz.underlying30 rfl Tryz.sgdSize) rfl ?_
      exact ⟨_, rfl, by rw [ansG_no (unhide HNO)]; exact sgd0_v _, (unhide HD7).left K8⟩
    · by_cases hn : x ≤ 256
      · have h0 : ok = true := by rw [unhide HOK3]; simp [hn]
        have HYES := hide ((unhide HOKE).symm.trans h0)
        clear HOKE HOK3
        subst h0
        have hn2 : ¬ 256 < x := by omega
        have hd : decOk (g3 s).1 = true := (unhide HDK).symm
        have hV6 := unhide HDC
        unfold RDecd at hV6
        rw [hd] at hV6
        have hV7 := hV6.1.kept (unhide HK67)
        have HV7 := hide hV7
        obtain ⟨_, _, _, _, e9, -⟩ := hV7
        have hix : ix = val ((g3 s).1.take 4) := by
          simp only [Value.agg.injEq, Array.mk.injEq, List.cons.injEq, Value.int.injEq, true_and] at e9
          exact e9.1
        have HIX := hide hix
        clear hV6 e9 hix hd
        go_wp2_with (refine wpList_store_flat rfl 30 (.tmp 2) (.tmp 36) rfl g0 0 rfl _ _ [.int .i64 x, .slice ar mr cr, .int .i64 ix, .slice ap np cp, .slice aq nq cq] Gz rfl (by simp) Tryz.sgdSize (by simp [Value.oneCell']) #[.int .i64 x, .slice ar mr cr, .int .i64 ix, .slice ap np cp, .slice aq nq cq] rfl ?_; intro w8 G8 K8)
        refine bodyPost_ret (results_flat2 rfl _ rfl G8 Tryz.underlying30 rfl Tryz.sgdSize) rfl ?_
        refine ⟨_, rfl, ?_, (unhide HD7).left K8⟩
        rw [ansG_yes (unhide HYES)]
        have h9 := sig_off5 Gz K8 (unhide HV7) (by rw [chP_len]; omega) (by rw [chP_len]; omega)
        refine ⟨ar, mr, cr, .slice ap np cp, .slice aq nq cq, ?_, ⟨(unhide HS7).kept K8 (fun k hk => ?_), unhide HBr⟩, ?_⟩
        · show Value.agg #[.int .i64 x, _, .int .i64 ix, _, _] = .agg #[.int .i64 (val (g1 s).1), _, .int .i64 (val ((g3 s).1.take 4)), _, _]
          rw [unhide HX, unhide HIX]
        · have := unhide HRO k hk
          simp
          omega
        · show SigV w8 (.agg #[.int .i64 (val ((g3 s).1.take 4)), _, _]) (val ((g3 s).1.take 4)) _ _
          rw [unhide HIX] at h9
          exact h9
      · have h0 : ok = false := by rw [unhide HOK3]; simp [hn]
        have HNO := hide ((unhide HOKE).symm.trans h0)
        clear HOKE HOK3
        subst h0
        have hn2 : 256 < x := by omega
        clear f0 f1 f2
        go_wp2_with (refine wpList_store_flat rfl 30 (.tmp 2) (.tmp 30) rfl g0 0 rfl _ _ [.int .i64 0, .slice none 0 0, .int .i64 0, .slice none 0 0, .slice none 0 0] Gz rfl (by simp) Tryz.sgdSize (by simp [Value.oneCell']) #[.int .i64 0, .slice none 0 0, .int .i64 0, .slice none 0 0, .slice none 0 0] rfl ?_; intro w8 G8 K8)
        refine bodyPost_ret (results_flat2 rfl _ rfl G8 Tryz.underlying30 rfl Tryz.sgdSize) rfl ?_
        exact ⟨_, rfl, by rw [ansG_no (unhide HNO)]; exact sgd0_v _, (unhide HD7).left K8⟩
  · have h0 : ok = false := by rw [unhide HOK3]; rfl
    have HNO := hide ((unhide HOKE).symm.trans h0)
    clear HOKE HOK3
    subst h0
    clear f0 f1 f2
    go_wp2_with (refine wpList_store_flat rfl 30 (.tmp 2) (.tmp 30) rfl g0 0 rfl _ _ [.int .i64 0, .slice none 0 0, .int .i64 0, .slice none 0 0, .slice none 0 0] Gz rfl (by simp) Tryz.sgdSize (by simp [Value.oneCell']) #[.int .i64 0, .slice none 0 0, .int .i64 0, .slice none 0 0, .slice none 0 0] rfl ?_; intro w8 G8 K8)
    refine bodyPost_ret (results_flat2 rfl _ rfl G8 Tryz.underlying30 rfl Tryz.sgdSize) rfl ?_
    exact ⟨_, rfl, by rw [ansG_no (unhide HNO)]; exact sgd0_v _, (unhide HD7).left K8⟩
end Go.Proofs.YtbkipibmaghejaaGreatDoor

/-
  The contracts of package check's Encode and Decode.
-/
namespace Go.Proofs.YtbkipibmaghejaaGreatDoor
open Go.RowKit
open Go.Proofs

set_option maxRecDepth 100000 in
theorem told_ok (p : Nat) (v : Value) (bs : List Int) (w : World) (hw : Wr w p v bs) (hb : bs.length ≤ 1000000) :
    Calls Tryz.prog 48 #[.bool true, .func (.func 33) #[.pointer (some ⟨p, 0, none⟩)] #[]] w fun e w' => ∃ ao m c, e = .returned (.tuple #[.slice ao m c, .int .i64 0]) ∧ Row w' w.heap.size (.slice ao m c) bs ∧ Kp [] w w' := by
  have HD := hide (done_any p v bs w hw (by omega))
  obtain ⟨k, hk⟩ : ∃ k, k = bs.length := ⟨_, rfl⟩
  rw [← hk] at HD
  have HK := hide hk
  clear hw hb hk
  go_enter Tryz.func48, Tryz.ntmps48
  go_wp2_with fail
  refine (unhide HD).mono ?_
  rintro ee w2 ⟨a2, c2, rfl, R2, K2⟩
  rw [unhide HK] at R2
  have HR : Hid (Row w2 w.heap.size (.slice a2 bs.length c2) bs) := R2
  rw [← unhide HK] at HR
  have HK2 := hide K2
  clear HD R2 K2
  go_wp2_with fail
  go_ret2
  exact ⟨a2, k, c2, rfl, unhide HR, unhide HK2⟩
set_option maxRecDepth 100000 in
theorem told_no (f : Value) (w : World) :
    Calls Tryz.prog 48 #[.bool false, f] w fun e w' => e = .returned (.tuple #[.slice none 0 0, .int .i64 12]) ∧ w' = w := by
  go_enter Tryz.func48, Tryz.ntmps48
  go_wp2_with fail
  go_ret2
  exact ⟨rfl, rfl⟩

set_option maxRecDepth 100000 in
set_option maxHeartbeats 2000000 in
theorem ckenc_ok (vs : Value) (s : Sg) (w : World) (hV : SgV w vs s) (hr : s.rgt = true) :
    Calls Tryz.prog 20 #[vs] w fun e w' => ∃ ao m c, e = .returned (.tuple #[.slice ao m c, .int .i64 0]) ∧ Row w' w.heap.size (.slice ao m c) s.lay ∧ Kp [] w w' := by
  have HR := hide hr
  have HV := hide (fun w' (k : Kp [] w w') => hV.kept k)
  obtain ⟨ar, mr, cr, ap, np, cp, aq, nq, cq, rfl, -, -⟩ := hV.shape
  obtain ⟨n, hn⟩ : ∃ n, n = s.n := ⟨_, rfl⟩
  obtain ⟨i, hi⟩ : ∃ n, n = s.i := ⟨_, rfl⟩
  rw [← hn, ← hi] at HV ⊢
  obtain ⟨g1, hg1⟩ : ∃ g, g = w.heap.size := ⟨_, rfl⟩
  obtain ⟨w1, hw1⟩ : ∃ w1, w1 = w.alloc (.cells #[.int .i64 n, .slice ar mr cr, .int .i64 i, .slice ap np cp, .slice aq nq cq] 30) := ⟨_, rfl⟩
  have K1 : Kp [] w w1 := by rw [hw1]; exact (Kp.refl [] w).alloc _
  have G1 : w1.heap[g1]? = some (.cells #[.int .i64 n, .slice ar mr cr, .int .i64 i, .slice ap np cp, .slice aq nq cq] 30 (0, 0)) := by rw [hw1, hg1]; exact heap_alloc_new w _
  have HK1 := hide K1
  have HG1 := hide G1
  have HW1 := hide hw1
  have H1 := hide hg1
  clear hr hV hw1 hg1 K1 G1 hn hi
  go_enter Tryz.func20, Tryz.ntmps20
  go_wp2_with fail
  rw [← unhide HW1, ← unhide H1]
  refine (new_abs w1).mono ?_
  rintro ee w3 ⟨p, rfl, W3, hp3, K3⟩
  have HWn : Hid (Wn w1 w3 p (.slice none 0 0) []) := ⟨W3, K3, hp3, fun k hk => by cases hk⟩
  have G3 := K3.heap (unhide HG1) (by simp)
  have c0 : w3.cell? ⟨g1, 0, none⟩ = some (.int .i64 n) := by rw [cell_of_row _ g1 0 _ _ _ (G3)]; rfl
  have c1 : w3.cell? ⟨g1, 1, none⟩ = some (.slice ar mr cr) := by rw [cell_of_row _ g1 1 _ _ _ (G3)]; rfl
  have c2 : w3.cell? ⟨g1, 2, none⟩ = some (.int .i64 i) := by rw [cell_of_row _ g1 2 _ _ _ (G3)]; rfl
  have c3 : w3.cell? ⟨g1, 3, none⟩ = some (.slice ap np cp) := by rw [cell_of_row _ g1 3 _ _ _ (G3)]; rfl
  have c4 : w3.cell? ⟨g1, 4, none⟩ = some (.slice aq nq cq) := by rw [cell_of_row _ g1 4 _ _ _ (G3)]; rfl
  have HK3 := hide ((unhide HK1).trans K3)
  have HP := hide (ckput_ok p _ [] _ _ w3 (unhide HWn).1 (by simp) (unhide HV w3 (unhide HK3)) (fun w' k' => unhide HV w' ((unhide HK1).trans ((unhide HWn).kp k'))) (unhide HR))
  clear W3 hp3 K3 G3 HW1
  go_wp2_with fail
  refine (unhide HP).mono ?_
  rintro ee w4 ⟨rfl, v4, W4, S4⟩
  have HW4 := hide ((unhide HWn).step W4 S4)
  rw [List.nil_append] at HW4
  have HT := hide (told_ok p v4 s.lay w4 (unhide HW4).1 (by have := Sg.lay_len (unhide HR); omega))
  clear HP W4 S4 c0 c1 c2 c3 c4
  go_wp2_with fail
  refine (unhide HT).mono ?_
  rintro ee w5 ⟨a5, m5, c5, rfl, R5, K5⟩
  have HR5 := hide (row_new R5 ((unhide HK1).trans (unhide HW4).2.1))
  have HK5 := hide (((unhide HK1).trans (unhide HW4).2.1).trans K5)
  clear HT R5 K5
  go_wp2_with fail
  go_ret2
  exact ⟨a5, m5, c5, rfl, unhide HR5, unhide HK5⟩

set_option maxRecDepth 100000 in
set_option maxHeartbeats 2000000 in
theorem ckenc_no (vs : Value) (s : Sg) (w : World) (hV : SgV w vs s) (hr : s.rgt = false) :
    Calls Tryz.prog 20 #[vs] w fun e w' => e = .returned (.tuple #[.slice none 0 0, .int .i64 12]) ∧ Kp [] w w' := by
  have HR := hide hr
  have HV := hide (fun w' (k : Kp [] w w') => hV.kept k)
  obtain ⟨ar, mr, cr, ap, np, cp, aq, nq, cq, rfl, -, -⟩ := hV.shape
  obtain ⟨n, hn⟩ : ∃ n, n = s.n := ⟨_, rfl⟩
  obtain ⟨i, hi⟩ : ∃ n, n = s.i := ⟨_, rfl⟩
  rw [← hn, ← hi] at HV ⊢
  obtain ⟨g1, hg1⟩ : ∃ g, g = w.heap.size := ⟨_, rfl⟩
  obtain ⟨w1, hw1⟩ : ∃ w1, w1 = w.alloc (.cells #[.int .i64 n, .slice ar mr cr, .int .i64 i, .slice ap np cp, .slice aq nq cq] 30) := ⟨_, rfl⟩
  have K1 : Kp [] w w1 := by rw [hw1]; exact (Kp.refl [] w).alloc _
  have G1 : w1.heap[g1]? = some (.cells #[.int .i64 n, .slice ar mr cr, .int .i64 i, .slice ap np cp, .slice aq nq cq] 30 (0, 0)) := by rw [hw1, hg1]; exact heap_alloc_new w _
  have HK1 := hide K1
  have HG1 := hide G1
  have HW1 := hide hw1
  have H1 := hide hg1
  clear hr hV hw1 hg1 K1 G1 hn hi
  go_enter Tryz.func20, Tryz.ntmps20
  go_wp2_with fail
  rw [← unhide HW1, ← unhide H1]
  refine (new_abs w1).mono ?_
  rintro ee w3 ⟨p, rfl, W3, hp3, K3⟩
  have HWn : Hid (Wn w1 w3 p (.slice none 0 0) []) := ⟨W3, K3, hp3, fun k hk => by cases hk⟩
  have G3 := K3.heap (unhide HG1) (by simp)
  have c0 : w3.cell? ⟨g1, 0, none⟩ = some (.int .i64 n) := by rw [cell_of_row _ g1 0 _ _ _ (G3)]; rfl
  have c1 : w3.cell? ⟨g1, 1, none⟩ = some (.slice ar mr cr) := by rw [cell_of_row _ g1 1 _ _ _ (G3)]; rfl
  have c2 : w3.cell? ⟨g1, 2, none⟩ = some (.int .i64 i) := by rw [cell_of_row _ g1 2 _ _ _ (G3)]; rfl
  have c3 : w3.cell? ⟨g1, 3, none⟩ = some (.slice ap np cp) := by rw [cell_of_row _ g1 3 _ _ _ (G3)]; rfl
  have c4 : w3.cell? ⟨g1, 4, none⟩ = some (.slice aq nq cq) := by rw [cell_of_row _ g1 4 _ _ _ (G3)]; rfl
  have HK3 := hide ((unhide HK1).trans K3)
  have HP := hide (ckput_no p _ _ w3 (unhide HV w3 (unhide HK3)) (unhide HR))
  clear W3 hp3 K3 G3 HW1
  go_wp2_with fail
  refine (unhide HP).mono ?_
  rintro ee w4 ⟨rfl, K4⟩
  have HK4 := hide ((unhide HK3).trans K4)
  have HT := hide (told_no (.func (.func 33) #[.pointer (some ⟨p, 0, none⟩)] #[]) w4)
  clear HP K4 c0 c1 c2 c3 c4
  go_wp2_with fail
  refine (unhide HT).mono ?_
  rintro ee w5 ⟨rfl, hw⟩
  subst w5
  clear HT
  go_wp2_with fail
  go_ret2
  exact ⟨rfl, unhide HK4⟩

theorem sg_off5 {w w' : World} {g : Nat} {x y : Int} {a1 a2 a3 : Option Addr} {n1 c1 n2 c2 n3 c3 : Nat} {t : TypeId} {fr : Nat × Nat} (hg : w.heap[g]? = some (.cells #[.int .i64 x, .slice a1 n1 c1, .int .i64 y, .slice a2 n2 c2, .slice a3 n3 c3] t fr)) (k : Kp [g] w w') {v : Value} {s : Sg} (h : SgV w v s) (hp : 3 ≤ s.ps.length) (hq : 3 ≤ s.qs.length) : SgV w' v s := by
  obtain ⟨a, m, c, vp, vq, e, h1, h2⟩ := h
  exact ⟨a, m, c, vp, vq, e, ⟨Sl.offBy h1.1 (noBy_sgd hg) k, h1.2⟩, sig_off5 hg k h2 hp hq⟩
/-- OK, or ErrForm. -/
def errX (b : Bool) : Int := if b then 0 else 12
theorem errX_t : errX true = 0 := rfl
theorem errX_f : errX false = 12 := rfl

set_option maxRecDepth 100000 in
set_option maxHeartbeats 4000000 in
theorem ckdec_any (vb : Value) (B : List Int) (w : World) (hS : Sl w vb B) (hB : Bs B) (hl : B.length ≤ 140737488355328) :
    Calls Tryz.prog 21 #[vb] w fun e w' => ∃ v, e = .returned (.tuple #[v, .int .i64 (errX (okD B))]) ∧ SgV w' v (ansD B) ∧ Kp [] w w' := by
  obtain ⟨ok, hok⟩ : ∃ b, b = okD B := ⟨_, rfl⟩
  rw [← hok]
  have HOK := hide hok
  obtain ⟨g0, hg0⟩ : ∃ g, g = w.heap.size := ⟨_, rfl⟩
  obtain ⟨w1, hw1⟩ : ∃ w1, w1 = w.alloc (.cells #[.int .i64 0, .slice none 0 0, .int .i64 0, .slice none 0 0, .slice none 0 0] 30) := ⟨_, rfl⟩
  have K1 : Kp [] w w1 := by rw [hw1]; exact (Kp.refl [] w).alloc _
  have G1 : w1.heap[g0]? = some (.cells #[.int .i64 0, .slice none 0 0, .int .i64 0, .slice none 0 0, .slice none 0 0] 30 (0, 0)) := by rw [hw1, hg0]; exact heap_alloc_new w _
  have HRd := hide (read_any vb B w1 (hS.kept K1 (by simp)) hl)
  have HB := hide hB
  have HL := hide hl
  have HK1 := hide K1
  have HG1 := hide G1
  have HW1 := hide hw1
  have H0 := hide hg0
  obtain ⟨ab, cb, hvb, -⟩ := hS
  obtain ⟨nb, hnb⟩ : ∃ n, n = B.length := ⟨_, rfl⟩
  rw [← hnb] at hvb
  subst hvb
  clear hok hg0 hw1 K1 G1 hB hl hnb
  go_enter Tryz.func21, Tryz.ntmps21
  go_wp2_with fail
  rw [← unhide HW1, ← unhide H0]
  refine (unhide HRd).mono ?_
  rintro ee w2 ⟨q, v2, rfl, hq2, R2, hv2, K2⟩
  have HGt := hide (ckget_any q v2 (false, B) w2 R2 (fun k hk => (hv2 k hk).2) (unhide HB) (unhide HL))
  obtain ⟨og, hog⟩ : ∃ b, b = okG (false, B) := ⟨_, rfl⟩
  rw [← hog] at HGt
  have HOG := hide hog
  have HK2 := hide ((unhide HK1).trans K2)
  have HG2 := hide (K2.heap (unhide HG1) (by simp))
  have HQ2 := hide hq2
  clear HRd R2 hv2 K2 hog hq2 HW1
  go_wp2_with fail
  refine (unhide HGt).mono ?_
  rintro ee w3 ⟨v3, rfl, V3, L3⟩
  obtain ⟨ar, mr, cr, ap, np, cp, aq, nq, cq, rfl, -, -⟩ := V3.shape
  have HV3 := hide V3
  obtain ⟨n, hn⟩ : ∃ n, n = (ansG (false, B)).n := ⟨_, rfl⟩
  obtain ⟨i, hi⟩ : ∃ n, n = (ansG (false, B)).i := ⟨_, rfl⟩
  rw [← hn, ← hi] at HV3 ⊢
  have hz1 : w.heap.size ≤ w1.heap.size := (unhide HK1).size
  have hg01 : g0 < w1.heap.size := lt_of_block (unhide HG1)
  have hq2 := unhide HQ2
  have HK3 := hide ((unhide HK2).then L3.2 (fun i hi => .inr (by simp at hi; omega)))
  have HG3 := hide (L3.2.heap (unhide HG2) (by simp; omega))
  obtain ⟨⟨r3, R3, -⟩, -⟩ := L3
  have HR3 := hide R3
  have Ga := heap_alloc_new w3 (.cells #[.int .i64 0, .slice none 0 0, .int .i64 0, .slice none 0 0, .slice none 0 0] 30)
  have HKa : Hid (Kp [] w3 (w3.alloc (.cells #[.int .i64 0, .slice none 0 0, .int .i64 0, .slice none 0 0, .slice none 0 0] 30))) := (Kp.refl [] w3).alloc _
  clear HGt V3 R3 hn hi hz1 hg01 hq2 HG2 HK2
  go_wp2_with (refine wpList_store_flat rfl 30 (.tmp 5) (.tmp 12) rfl w3.heap.size 0 rfl _ _ [.int .i64 n, .slice ar mr cr, .int .i64 i, .slice ap np cp, .slice aq nq cq] Ga rfl (by simp) Tryz.sgdSize (by simp [Value.oneCell']) #[.int .i64 n, .slice ar mr cr, .int .i64 i, .slice ap np cp, .slice aq nq cq] rfl ?_; intro w4 G4 K4; refine Hid.out ?_)
  obtain ⟨g5, hg5⟩ : ∃ g, g = w3.heap.size := ⟨_, rfl⟩
  have K34 : Kp [] w3 w4 := (unhide HKa).then K4 (fun i hi => .inr (by simp at hi; omega))
  rw [← hg5] at G4 ⊢
  have HV4 := hide ((unhide HV3).kept K34)
  have Gz := K34.heap (unhide HG3) (by simp)
  have HK4 := hide ((unhide HK3).trans K34)
  have HE := hide (end_any q r3 _ _ w4 ((unhide HR3).kept K34 (by simp) (by simp)))
  have f0 : w4.cell? ⟨g5, 0, none⟩ = some (.int .i64 n) := by rw [cell_of_row _ g5 0 _ _ _ (G4)]; rfl
  have f1 : w4.cell? ⟨g5, 1, none⟩ = some (.slice ar mr cr) := by rw [cell_of_row _ g5 1 _ _ _ (G4)]; rfl
  have f2 : w4.cell? ⟨g5, 2, none⟩ = some (.int .i64 i) := by rw [cell_of_row _ g5 2 _ _ _ (G4)]; rfl
  have f3 : w4.cell? ⟨g5, 3, none⟩ = some (.slice ap np cp) := by rw [cell_of_row _ g5 3 _ _ _ (G4)]; rfl
  have f4 : w4.cell? ⟨g5, 4, none⟩ = some (.slice aq nq cq) := by rw [cell_of_row _ g5 4 _ _ _ (G4)]; rfl
  clear Ga HKa G4 K4 K34 hg5 HV3 HG3 HR3 HK3
  refine hide ?_
  have HLAST : Hid (∀ w8, w8.heap[g0]? = some (.cells #[.int .i64 0, .slice none 0 0, .int .i64 0, .slice none 0 0, .slice none 0 0] 30 (0, 0)) → ∀ w9, Kp [g0] w8 w9 → Kp [] w w8 → Kp [] w w9) := fun w8 _ w9 k9 k8 => k8.then k9 (fun i hi => .inr (by simp at hi; have := unhide H0; omega))
  cases og
  · have h0 : ok = false := by rw [unhide HOK]; unfold okD; rw [← unhide HOG]; rfl
    have HNO := hide ((unhide HOK).symm.trans h0)
    subst h0
    clear HE f0 f1 f2 f3 f4
    go_wp2_with (refine wpList_store_flat rfl 30 (.tmp 2) (.tmp 21) rfl g0 0 rfl _ _ [.int .i64 0, .slice none 0 0, .int .i64 0, .slice none 0 0, .slice none 0 0] Gz rfl (by simp) Tryz.sgdSize (by simp [Value.oneCell']) #[.int .i64 0, .slice none 0 0, .int .i64 0, .slice none 0 0, .slice none 0 0] rfl ?_; intro w9 G9 K9)
    refine bodyPost_ret (results_flat2 rfl _ rfl G9 Tryz.underlying30 rfl Tryz.sgdSize) rfl ?_
    exact ⟨_, rfl, by rw [ansD_no (unhide HNO)]; exact sgd0_v _, unhide HLAST w4 Gz w9 K9 (unhide HK4)⟩
  · have hb0 := okD_end (unhide HOG).symm
    obtain ⟨es, hes⟩ : ∃ b, b = (g3 (false, B)).2.2.isEmpty := ⟨_, rfl⟩
    rw [hb0, ← hes] at HE
    simp only [Bool.not_false, Bool.true_and] at HE
    have h0 : ok = es := by rw [unhide HOK, hes]; unfold okD; rw [← unhide HOG]; rfl
    have HOKK := hide ((unhide HOK).symm.trans h0)
    clear hb0 hes HOK
    subst h0
    go_wp2_with fail
    refine (unhide HE).mono ?_
    rintro ee w5 ⟨rfl, hw5⟩
    subst w5
    clear HE
    cases ok
    · clear f0 f1 f2 f3 f4
      go_wp2_with (refine wpList_store_flat rfl 30 (.tmp 2) (.tmp 21) rfl g0 0 rfl _ _ [.int .i64 0, .slice none 0 0, .int .i64 0, .slice none 0 0, .slice none 0 0] Gz rfl (by simp) Tryz.sgdSize (by simp [Value.oneCell']) #[.int .i64 0, .slice none 0 0, .int .i64 0, .slice none 0 0, .slice none 0 0] rfl ?_; intro w9 G9 K9)
      refine bodyPost_ret (results_flat2 rfl _ rfl G9 Tryz.underlying30 rfl Tryz.sgdSize) rfl ?_
      exact ⟨_, rfl, by rw [ansD_no (unhide HOKK)]; exact sgd0_v _, unhide HLAST w4 Gz w9 K9 (unhide HK4)⟩
    · go_wp2_with (refine wpList_store_flat rfl 30 (.tmp 2) (.tmp 22) rfl g0 0 rfl _ _ [.int .i64 n, .slice ar mr cr, .int .i64 i, .slice ap np cp, .slice aq nq cq] Gz rfl (by simp) Tryz.sgdSize (by simp [Value.oneCell']) #[.int .i64 n, .slice ar mr cr, .int .i64 i, .slice ap np cp, .slice aq nq cq] rfl ?_; intro w9 G9 K9)
      refine bodyPost_ret (results_flat2 rfl _ rfl G9 Tryz.underlying30 rfl Tryz.sgdSize) rfl ?_
      refine ⟨_, rfl, ?_, unhide HLAST w4 Gz w9 K9 (unhide HK4)⟩
      rw [ansD_yes (unhide HOKK)]
      have h4 := unhide HV4
      rw [ansG_yes (unhide HOG).symm] at h4
      exact sg_off5 Gz K9 h4 (by show 3 ≤ (chP 64 _).length; rw [chP_len]; omega) (by show 3 ≤ (chP 4 _).length; rw [chP_len]; omega)
end Go.Proofs.YtbkipibmaghejaaGreatDoor

/-
  What is left of a reader: package wire's Left, and the reference's.
-/
namespace Go.Proofs.YtbkipibmaghejaaGreatDoor
open Go.RowKit
open Go.Proofs

theorem left_any (q : Nat) (v : Value) (bad : Bool) (bs : List Int) (w : World) (h : Rd w q v bad bs) :
    Calls Tryz.prog 41 #[.pointer (some ⟨q, 0, none⟩)] w fun e w' => e = .returned (.int .i64 bs.length) ∧ w' = w := by
  obtain ⟨ao, c, rfl, h1, h2, h3, h4⟩ := h.2.1
  have hc0 := (cell_of_two h.1).1
  clear h4 h3 h
  go_enter Tryz.func41, Tryz.ntmps41
  go_wp2
  go_ret
  exact ⟨rfl, rfl⟩
theorem rleft_any (q : Nat) (v : Value) (i : Nat) (bad : Bool) (B : List Int) (w : World) (hR : RR w q v i bad B) :
    Calls Tryz.prog 42 #[.pointer (some ⟨q, 0, none⟩)] w fun e w' => e = .returned (.int .i64 (rest i bad B).length) ∧ ∃ n, w' = w.drewN n := by
  obtain ⟨ao, c, rfl, h1, h2, h3, h4⟩ := hR.2.1
  obtain ⟨hc0, hc1, hc2⟩ := cell_of_three hR.1
  have hi := hR.2.2.2
  unfold maxLen at h2
  clear h4 h3 hR
  cases bad with
  | true =>
    go_enter Tryz.func42, Tryz.ntmps42
    go_wp2_with fail
    go_ret
    exact ⟨rfl, 0, rfl⟩
  | false =>
    have HE : Hid (((rest i false B).length : Int) = (B.length : Int) - (i : Int)) := by
      show ((B.drop i).length : Int) = _
      rw [List.length_drop]; omega
    rw [HE.out]
    clear HE
    have hi2 : (i : Int) ≤ (B.length : Int) := by omega
    go_enter Tryz.func42, Tryz.ntmps42
    go_wp2_with fail
    go_quiet (fail)
    go_wp2_with fail
    go_ret
    exact ⟨rfl, nq, rfl⟩
end Go.Proofs.YtbkipibmaghejaaGreatDoor
