/-
  The statement CosignNumbersCardSaid: the law function CosignNumbers returns true; the table hash.roundWords starts as the program's text lays it (tied). No other condition.
-/
import Derived.Test.YtdjofooggofpkaaDoorKYKnown
import Derived.Test.YtdjofooggofpkaaDoorKYRefP
import Derived.Test.YtdjofooggofpkaaDoorKYOff
import Derived.Test.YtdjofooggofpkaaDoorKHTopBs
import Derived.Test.YtdjofooggofpkaaDoorKHSmalls
import Derived.Test.YtdjofooggofpkaaDoorTie
import Derived.Test.YtdjofooggofpkaaDoorCards
import Derived.SevenTiedAt
namespace Go.Proofs.YtdjofooggofpkaaDoor.cosignNumbers
open Go.ChangeShapes Go.WideShapes Go.ChangeAt Go.RowKit
open Go.Proofs.YtdjofooggofpkaaDoor
set_option linter.unusedVariables false

theorem t02 : topP (seedX 0) ≠ topP (seedX 2) := by rw [topX0, topX2]; decide
theorem t03 : topP (seedX 0) ≠ topP (seedX 3) := by rw [topX0, topX3]; decide
theorem t12 : topP (seedX 1) ≠ topP (seedX 2) := by rw [topX1, topX2]; decide
theorem t13 : topP (seedX 1) ≠ topP (seedX 3) := by rw [topX1, topX3]; decide
theorem t23 : topP (seedX 2) ≠ topP (seedX 3) := by rw [topX2, topX3]; decide
theorem unl4 : ∀ i, i < 4 → ∀ j, j < i → topP (seedX (j : Nat)) ≠ topP (seedX (i : Nat)) := fun i hi j hj => by
  have : (i = 1 ∧ j = 0) ∨ (i = 2 ∧ j = 0) ∨ (i = 2 ∧ j = 1) ∨ (i = 3 ∧ j = 0) ∨ (i = 3 ∧ j = 1) ∨ (i = 3 ∧ j = 2) := by omega
  rcases this with ⟨rfl, rfl⟩ | ⟨rfl, rfl⟩ | ⟨rfl, rfl⟩ | ⟨rfl, rfl⟩ | ⟨rfl, rfl⟩ | ⟨rfl, rfl⟩
  · exact t01
  · exact t02
  · exact t12
  · exact t03
  · exact t13
  · exact t23
theorem ck2_rgt : rgtC 2 (hashX 3) = true := (rgtC_iff _ _).2 ⟨by omega, hashX_len 3⟩
def sgI (i : Nat) : Co := sgW (seedX (i : Nat)) i (i : Nat) 2 (hashX 3)
def sgL (n : Nat) : List Co := (List.range n).map sgI
theorem sgL_len (n : Nat) : (sgL n).length = n := by simp [sgL]
theorem sgL_at {n j : Nat} (h : j < n) : (sgL n).getD j co0 = sgI j := getD_range sgI co0 h
theorem sgL_succ (n : Nat) : sgL (n + 1) = sgL n ++ [sgI n] := by simp [sgL, List.range_succ]
theorem sgI_k (i : Nat) : (sgI i).k = (i : Nat) := rfl
theorem sgI_ver (i : Nat) (hi : i < 4) (q : Int) (hq : 1 ≤ q ∧ q ≤ 4) : verW (polK 4 q) 2 (hashX 3) (sgI i) = true :=
  verW_sg (k := i) (by rw [polK_rgt (by omega) q unl4]; exact decide_eq_true hq) ck2_rgt (by omega) (by show i < (ownK 4).length; rw [ownK_len]; omega) (ownK_at hi)
theorem sgL_seen (p : Po) (m : Int) (r : List Int) (n : Nat) : seenW p m r (sgL n) (sgI n).k = false := by
  unfold seenW
  rw [List.any_eq_false]
  intro c hc
  obtain ⟨i, hi, rfl⟩ := List.mem_map.1 hc
  have h := List.mem_range.1 hi
  have : ¬ (sgI i).k = (sgI n).k := by rw [sgI_k, sgI_k]; omega
  simp [this]
theorem sgL_cnt (n : Nat) (hn : n ≤ 4) (q : Int) (hq : 1 ≤ q ∧ q ≤ 4) : cntW (polK 4 q) 2 (hashX 3) (sgL n) = n := by
  induction n with
  | zero => rfl
  | succ n ih => rw [sgL_succ, cntW_yes (sgI_ver n (by omega) q hq) (sgL_seen _ _ _ n), ih (by omega)]
theorem stableN_ck {B : Nat} (n : Int) (r : List Int) : Tell.stableG (KN B) (CkT n r) := fun v w w' k h => by
  have h0 : CkV w v n r := h
  rcases k with k | ⟨g, _, hs, _, k⟩
  · exact h0.kept k
  · obtain ⟨x, y, a2, n2, c2, a3, n3, c3, hg⟩ := hs
    obtain ⟨a, m, c, e, h1, h2⟩ := h0
    exact ⟨a, m, c, e, Sl.offBy h1 (noBy_cos hg) k, h2⟩
theorem grown_bck {o : Oper} {a : Act} {w : World} (n : Int) {x1 : Operand} {bs : List Int} (ho : o.op = .build 27 #[(0, .const (.int .i64 n)), (1, x1)]) (h : Sl w (a.eval x1) bs) (hB : Bs bs) : grown Tryd.prog w (CkT n bs) ((execOp a.eval o).run Tryd.prog w) := by
  obtain ⟨ao, c, e, hr⟩ := id h
  refine grown_run (v := .agg #[.int .i64 n, .slice ao bs.length c]) ?_ (Kp.refl _ _) ⟨ao, _, c, rfl, by rw [← e]; exact h, hB⟩
  obtain ⟨ρ, hρ, hc, _⟩ := eval_is a
  rw [hρ] at e ⊢
  unfold execOp
  simp only [ho]
  simp [go_sem, e, hc]
theorem ar_offT {w w' : World} {g : Nat} {a1 a2 : Option Addr} {n1 c1 n2 c2 : Nat} {q : Int} {B : Nat} {ls : List (List Int)} {v : Value} (h : ARt B ls v w) (hg : w.heap[g]? = some (.cells #[.slice a1 n1 c1, .slice a2 n2 c2, .int .i64 q] 42 (0, 0))) (k : Kp [g] w w') : ARt B ls v w' := by
  obtain ⟨ao, m, c, l, e, h1, h2⟩ := h
  refine ⟨ao, m, c, l, e, ⟨h1.1.kept k (fun i hi hm => ?_), fun x hx => ⟨(h1.2 x hx).1.offBy' (noBy_pol hg) k, (h1.2 x hx).2⟩⟩, h2⟩
  have ei : i = g := by simpa using hm
  obtain ⟨cc, hcc⟩ := rowv_ty h1.1 hi
  rw [ei, hg] at hcc
  injection hcc with hcc
  injection hcc with _ hcc
  cases hcc
theorem p5_no (ws : List (List Int)) (h : ws.length = 5) (lg : List Int) (q : Int) : (⟨lg, ws, q⟩ : Po).rgt = false := by
  unfold Po.rgt
  simp only [h]
  simp
theorem p2_no (ws : List (List Int)) (h : 2 ≤ ws.length) (he : ws.getD 0 [] = ws.getD 1 []) (lg : List Int) (q : Int) : (⟨lg, ws, q⟩ : Po).rgt = false := by
  unfold Po.rgt
  have : decide (keysK ws ws.length) = false := decide_eq_false (keysK_two (k := 1) (j := 0) (by omega) (by omega) he)
  simp only [this, Bool.and_false]
theorem p1_no (ws : List (List Int)) (q : Int) : (⟨[], ws, q⟩ : Po).rgt = false := rfl
theorem t_succ (t : Nat) : Value.int .i64 (t : Int) = .int .i64 (((t + 1 : Nat) : Int) - 1) := by
  have e : ((t + 1 : Nat) : Int) - 1 = (t : Int) := by omega
  rw [e]
theorem p0_no : (⟨[], [], 0⟩ : Po).rgt = false := rfl
theorem p0_v (w : World) : PoV w (.agg #[.slice none 0 0, .slice none 0 0, .int .i64 0]) ⟨[], [], 0⟩ := ⟨none, 0, 0, none, 0, 0, [], rfl, ⟨Sl.nil w, fun b hb => by cases hb⟩, lc_nil w, rfl⟩

set_option maxRecDepth 100000 in
set_option maxHeartbeats 32000000 in
theorem walk (w : World) (hG : Gl w) :
    Calls Tryd.prog 3 #[] w fun e w' => e = .returned (.bool true) ∧ Below w.heap.size w w' := by
  have HG := hide hG
  clear hG
  go_enter Tryd.func3, Tryd.ntmps3
  go_wp2_with fail
  refine (owners_any 4 (by omega) w).mono ?_
  rintro ee w1 ⟨ao, co, rfl, R1⟩
  have HO1 := hide R1.owl
  have HK1 := hide R1.kp
  clear R1
  go_wp2_with fail
  refine (xhash_any 3 w1).mono ?_
  rintro ee w2 ⟨ar, mr, cr, rfl, R2, K2⟩
  have HS2 := hide R2.sl
  have HK2 := hide ((unhide HK1).trans K2)
  have HO2 := hide ((unhide HO1).kept K2)
  clear R2 K2 HO1 HK1
  have Ga := heap_alloc_new w2 (.cells #[.int .i64 0, .slice none 0 0] 27)
  have HKa : Hid (Kp [] w2 (w2.alloc (.cells #[.int .i64 0, .slice none 0 0] 27))) := (Kp.refl [] w2).alloc _
  go_wp2_with (refine wpList_store_flat rfl 27 (.tmp 2) (.tmp 20) rfl w2.heap.size 0 rfl _ _ [.int .i64 2, .slice ar mr cr] Ga rfl (by simp) Tryd.chkSize (by simp [Value.oneCell']) #[.int .i64 2, .slice ar mr cr] rfl ?_; intro w4 Gw4 Kw4; refine Hid.out ?_)
  obtain ⟨g2, hg2⟩ : ∃ g, g = w2.heap.size := ⟨_, rfl⟩
  have Kw2w4 : Kp [] w2 w4 := (unhide HKa).then Kw4 (fun i hi => .inr (by simp at hi; omega))
  rw [← hg2] at Gw4 ⊢
  have HK4 := hide ((unhide HK2).trans Kw2w4)
  have HO4 := hide ((unhide HO2).kept Kw2w4)
  have HG24 := hide Gw4
  have HC4 : Hid (CkV w4 (.agg #[.int .i64 2, .slice ar mr cr]) 2 (hashX 3)) := ⟨ar, mr, cr, rfl, (unhide HS2).kept Kw2w4 (by simp), hashX_bs 3⟩
  clear Ga HKa Gw4 Kw4 Kw2w4 hg2 HK2 HO2 HS2
  refine hide ?_
  obtain ⟨ao', co', e', hco, hcell⟩ := unhide HO4
  injection e' with e1 e2 e3
  subst e1
  subst e3
  obtain ⟨bo, oo, -, -, rfl, -, -⟩ := hcell 0 (by omega)
  have HCELL : Hid (∀ j, j < 4 → ∃ g base, w4.cell? ⟨bo, oo + j, none⟩ = some (.pointer (some ⟨g, 0, none⟩)) ∧ Ow w4 base g (seedX j) 5) := hide (fun j hj => by
    obtain ⟨b', o', g, base, eb, h1, h2⟩ := hcell j hj
    injection eb with eb
    injection eb with eb1 eb2
    subst eb1
    subst eb2
    exact ⟨g, base, h1, h2⟩)
  have hco4 : (4 : Int) ≤ (co : Int) := by omega
  clear hcell e2 hco
  go_wp2_with fail
  go_loopw [3] (fun vi wr => ∃ n : Nat, n ≤ 5 ∧ vi = .int .i64 n ∧ Kp [] w4 wr) (fun vi _ => 5 - (intOf vi).toNat)
  case atStart => exact ⟨0, by omega, rfl, Kp.refl _ _⟩
  case round =>
    obtain ⟨n, hn5, rfl, hKr⟩ := hrel
    obtain ⟨wo, hwo⟩ : ∃ wo, wo = wr := ⟨_, rfl⟩
    subst hwo
    have HKr := hide hKr
    have HKo := hide ((unhide HK4).trans hKr)
    clear hKr
    by_cases hn4 : n ≤ 4
    · have hn4i : (n : Int) ≤ 4 := by omega
      have HI : Hid (RowQ 33 4 (CoP (sgL 4)) 0 wo (.slice none 0 0) wo) := RowQ.nil wo
      go_wp2_with fail
      go_loopw [4, 5] (fun vu vi wr => ∃ (k : Nat) (ao : Option Addr) (m c : Nat), k ≤ n ∧ vi = .int .i64 k ∧ vu = .slice ao m c ∧ m = k ∧ RowQ 33 4 (CoP (sgL 4)) k wo (.slice ao m c) wr) (fun _ vi _ => n - (intOf vi).toNat)
      case atStart => exact ⟨0, none, 0, 0, by omega, rfl, rfl, rfl, unhide HI⟩
      case round =>
        clear HI
        obtain ⟨k, ax, m, c, hk, rfl, rfl, hmk, hR⟩ := hrel
        have HR := hide hR
        have HMK := hide hmk
        have HKl := hide hR.kp
        clear hR hmk
        by_cases hlt : k < n
        · have hlti : (k : Int) < (n : Int) := by omega
          have hk4i : (k : Int) < 4 := by omega
          obtain ⟨go, base, hx, hOw⟩ := unhide HCELL k (by omega)
          obtain ⟨sa, sn, sc, gl5, c5, hs0, -, hSs, -⟩ := hOw.open
          have K4r := (unhide HKr).trans (unhide HKl)
          have HXs := hide (K4r.cell hx (by simp))
          have HSs := hide (K4r.cell hs0 (by simp))
          have HSSs := hide (hSs.kept K4r (by simp))
          have HCs := hide ((unhide HC4).kept K4r)
          have HKs := hide ((unhide HK4).trans K4r)
          have HG2s := hide (K4r.heap (unhide HG24) (by simp))
          clear hx hOw hs0 hSs K4r
          have HD : Hid (∀ w', Kp [] wr.drew w' → Kp [] wr w') := fun w' k' => (kp_drew wr).trans k'
          have HT2 : Hid (∀ w', Kp [] wr.drew w' → w'.heap[g2]? = some (.cells #[.int .i64 2, .slice ar mr cr] 27 (0, 0))) := fun w' k' => (unhide HD w' k').heap (unhide HG2s) (by simp)
          have HXO : Hid (∀ w', Kp [] wr.drew w' → w'.cell? ⟨bo, oo + k, none⟩ = some (.pointer (some ⟨go, 0, none⟩))) := fun w' k' => (unhide HD w' k').cell (unhide HXs) (by simp)
          have HXS : Hid (∀ w', Kp [] wr.drew w' → w'.cell? ⟨go, 0, none⟩ = some (.slice sa sn sc)) := fun w' k' => (unhide HD w' k').cell (unhide HSs) (by simp)
          have HSS : Hid (∀ w', Kp [] wr.drew w' → Sl w' (.slice sa sn sc) (seedX k)) := fun w' k' => (unhide HSSs).kept (unhide HD w' k') (by simp)
          have HCV : Hid (∀ w', Kp [] wr.drew w' → CkV w' (.agg #[.int .i64 2, .slice ar mr cr]) 2 (hashX 3)) := fun w' k' => (unhide HCs).kept (unhide HD w' k')
          have HGW : Hid (∀ w', Kp [] wr.drew w' → Gl w') := fun w' k' => (unhide HG).kept ((unhide HKs).trans (unhide HD w' k')) (by simp)
          go_wp2_with fail
          refine region_growL (K := KN wr.drew.heap.size) (G := GN wr.drew 15 6 42) Tryd.mixed [Is (.slice (some ⟨bo, oo, none⟩) 4 co), Is (.int .i64 k), Is (.pointer (some ⟨bo, oo + k, none⟩)), Is (.pointer (some ⟨go, 0, none⟩)), Is (.pointer (some ⟨go, 0, none⟩)), Is (.pointer (some ⟨go, 0, none⟩)), Is (.slice sa sn sc), Is (.int .i64 k), Is (.int .i64 k), Is (.agg #[.int .i64 2, .slice ar mr cr]), PrT wr.drew.heap.size (sgW (seedX (k : Nat)) k (k : Nat) 2 (hashX 3)) 0, PrT wr.drew.heap.size (sgW (seedX (k : Nat)) k (k : Nat) 2 (hashX 3)) 0, CoAT wr.drew.heap.size (sgW (seedX (k : Nat)) k (k : Nat) 2 (hashX 3)), Is (.int .i64 0), NewX wr.drew.heap.size, AnyT, Is (.int .i64 0)] [[(1, none)], [(5, none)], [(31, some 0), (32, some 1)], [(33, some 2)], [(34, some 3)], [(35, some 4)], [(36, some 5)], [(5, none)], [(5, none)], [(2, none)], [(37, some 6), (38, some 7), (39, some 8), (40, some 9)], [(41, some 10)], [(30, some 11)], [(30, some 11)], [], [(6, some 14), (42, some 12)], [(43, some 13)]] (by kernel_rfl) ?_ ?_ ?_ ?_ ?_
          · intro k R hR hd w'
            have hk : k < 17 := by have := (List.getElem?_eq_some_iff.1 hR).1; simpa using this
            rcases (by omega : k = 0 ∨ k = 1 ∨ k = 2 ∨ k = 3 ∨ k = 4 ∨ k = 5 ∨ k = 6 ∨ k = 7 ∨ k = 8 ∨ k = 9 ∨ k = 10 ∨ k = 11 ∨ k = 12 ∨ k = 13 ∨ k = 14 ∨ k = 15 ∨ k = 16) with rfl | rfl | rfl | rfl | rfl | rfl | rfl | rfl | rfl | rfl | rfl | rfl | rfl | rfl | rfl | rfl | rfl <;> first | (cases hR; exact trivial) | cases hd
          · simp only [List.mem_cons, List.not_mem_nil, or_false]
            intro R hR
            rcases hR with rfl | rfl | rfl | rfl | rfl | rfl | rfl | rfl | rfl | rfl | rfl | rfl | rfl | rfl | rfl | rfl | rfl <;> first | exact stableN_is _ | exact stableN_sl _ | exact stableN_any | exact stableN_new _ | exact stableN_coat _ (sgW_big _ _ (by omega) _ _ _) (Nat.le_refl _) | exact stableN_prt _ _ (sgW_big _ _ (by omega) _ _ _) (Nat.le_refl _) | exact stableN_ck _ _
          · exact ⟨Kp.refl _ _, fun h => by simp at h⟩
          · refine steps_consL (fun listed a w hnot hdep hcl hsz hg hn => ?_) ?_
            · have h1 : a.eval (.tmp 1) = .slice (some ⟨bo, oo, none⟩) 4 co := hn.1
              clear hn
              have hk := hg.1
              refine wantsG_of1M (fun _ k => .inl k) (fun v w' k => hg.free 0 (by decide) 31 (fun h => absurd h (by decide)) v k) ?_
              refine wants_plain rfl ?_
              exact grown_move (.tmp 1) rfl h1
            refine steps_consL (fun listed a w hnot hdep hcl hsz hg hn => ?_) ?_
            · have h5 : a.eval (.tmp 5) = .int .i64 k := hn.1
              clear hn
              have hk := hg.1
              refine wantsG_of1M (fun _ k => .inl k) (fun v w' k => hg.free 1 (by decide) 32 (fun h => absurd h (by decide)) v k) ?_
              refine wants_plain rfl ?_
              exact grown_move (.tmp 5) rfl h5
            refine steps_consL (fun listed a w hnot hdep hcl hsz hg hn => ?_) ?_
            · have h31 : a.eval (.tmp 31) = .slice (some ⟨bo, oo, none⟩) 4 co := hn.1
              have h32 : a.eval (.tmp 32) = .int .i64 k := hn.2.1
              clear hn
              have hk := hg.1
              refine wantsG_of1M (fun _ k => .inl k) (fun v w' k => hg.free 2 (by decide) 33 (fun h => absurd h (by decide)) v k) ?_
              refine wants_plain rfl ?_
              refine grown_run (v := .pointer (some ⟨bo, oo + k, none⟩)) ?_ (Kp.refl _ _) rfl
              obtain ⟨ρ, hρ, hc, hf, hg⟩ := eval_is a
              rw [hρ] at h31 h32 ⊢
              simp [go_sem, h31, h32, hk4i]
            refine steps_consL (fun listed a w hnot hdep hcl hsz hg hn => ?_) ?_
            · have h33 : a.eval (.tmp 33) = .pointer (some ⟨bo, oo + k, none⟩) := hn.1
              clear hn
              have hk := hg.1
              refine wantsG_of1M (fun _ k => .inl k) (fun v w' k => hg.free 3 (by decide) 34 (fun h => absurd h (by decide)) v k) ?_
              refine wants_plain rfl ?_
              refine grown_run (v := .pointer (some ⟨go, 0, none⟩)) ?_ (Kp.refl _ _) rfl
              have hcell := unhide HXO w hk
              obtain ⟨ρ, hρ, hc, hf, hg⟩ := eval_is a
              rw [hρ] at h33 ⊢
              simp [go_sem, h33, hcell]
            refine steps_consL (fun listed a w hnot hdep hcl hsz hg hn => ?_) ?_
            · have h34 : a.eval (.tmp 34) = .pointer (some ⟨go, 0, none⟩) := hn.1
              clear hn
              have hk := hg.1
              refine wantsG_of1M (fun _ k => .inl k) (fun v w' k => hg.free 4 (by decide) 35 (fun h => absurd h (by decide)) v k) ?_
              refine wants_plain rfl ?_
              refine grown_run (v := .pointer (some ⟨go, 0, none⟩)) ?_ (Kp.refl _ _) rfl
              obtain ⟨ρ, hρ, hc, hf, hg⟩ := eval_is a
              rw [hρ] at h34 ⊢
              simp [go_sem, h34]
            refine steps_consL (fun listed a w hnot hdep hcl hsz hg hn => ?_) ?_
            · have h35 : a.eval (.tmp 35) = .pointer (some ⟨go, 0, none⟩) := hn.1
              clear hn
              have hk := hg.1
              refine wantsG_of1M (fun _ k => .inl k) (fun v w' k => hg.free 5 (by decide) 36 (fun h => absurd h (by decide)) v k) ?_
              refine wants_plain rfl ?_
              refine grown_run (v := .pointer (some ⟨go, 0, none⟩)) ?_ (Kp.refl _ _) rfl
              obtain ⟨ρ, hρ, hc, hf, hg⟩ := eval_is a
              rw [hρ] at h35 ⊢
              simp [go_sem, h35]
            refine steps_consL (fun listed a w hnot hdep hcl hsz hg hn => ?_) ?_
            · have h36 : a.eval (.tmp 36) = .pointer (some ⟨go, 0, none⟩) := hn.1
              clear hn
              have hk := hg.1
              refine wantsG_of1M (fun _ k => .inl k) (fun v w' k => hg.free 6 (by decide) 37 (fun h => absurd h (by decide)) v k) ?_
              refine wants_plain rfl ?_
              refine grown_run (v := .slice sa sn sc) ?_ (Kp.refl _ _) rfl
              have hcell := unhide HXS w hk
              obtain ⟨ρ, hρ, hc, hf, hg⟩ := eval_is a
              rw [hρ] at h36 ⊢
              simp [go_sem, h36, hcell]
            refine steps_consL (fun listed a w hnot hdep hcl hsz hg hn => ?_) ?_
            · have h5 : a.eval (.tmp 5) = .int .i64 k := hn.1
              clear hn
              have hk := hg.1
              refine wantsG_of1M (fun _ k => .inl k) (fun v w' k => hg.free 7 (by decide) 38 (fun h => absurd h (by decide)) v k) ?_
              refine wants_plain rfl ?_
              exact grown_move (.tmp 5) rfl h5
            refine steps_consL (fun listed a w hnot hdep hcl hsz hg hn => ?_) ?_
            · have h5 : a.eval (.tmp 5) = .int .i64 k := hn.1
              clear hn
              have hk := hg.1
              refine wantsG_of1M (fun _ k => .inl k) (fun v w' k => hg.free 8 (by decide) 39 (fun h => absurd h (by decide)) v k) ?_
              refine wants_plain rfl ?_
              exact grown_move (.tmp 5) rfl h5
            refine steps_consL (fun listed a w hnot hdep hcl hsz hg hn => ?_) ?_
            · have h2 : a.eval (.tmp 2) = .pointer (some ⟨g2, 0, none⟩) := hn.1
              clear hn
              have hk := hg.1
              refine wantsG_of1M (fun _ k => .inl k) (fun v w' k => hg.free 9 (by decide) 40 (fun h => absurd h (by decide)) v k) ?_
              refine wants_plain rfl ?_
              exact grown_loadf 27 (.tmp 2) rfl g2 0 h2 _ _ _ _ (unhide HT2 w hk) [.int .i64 2, .slice ar mr cr] (flat_in rfl) Tryd.underlying27 rfl Tryd.chkSize rfl
            refine steps_consL (fun listed a w hnot hdep hcl hsz hg hn => ?_) ?_
            · have h37 : a.eval (.tmp 37) = .slice sa sn sc := hn.1
              have h38 : a.eval (.tmp 38) = .int .i64 k := hn.2.1
              have h39 : a.eval (.tmp 39) = .int .i64 k := hn.2.2.1
              have h40 : a.eval (.tmp 40) = .agg #[.int .i64 2, .slice ar mr cr] := hn.2.2.2.1
              clear hn
              have hk := hg.1
              refine wantsG_of1M (fun _ k => .inl k) (fun v w' k => hg.free 10 (by decide) 41 (fun h => absurd h (by decide)) v k) ?_
              refine wants_plain rfl ?_
              refine grown_call (f := 10) rfl Tryd.func10 (by kernel_rfl) (by kernel_rfl) ?_
              simp only [List.map_toArray, List.map_cons, List.map_nil, h37, h38, h39, h40]
              refine (csign_ok _ (seedX (k : Nat)) k (k : Nat) _ 2 (hashX 3) w (unhide HSS w hk) (seedX_bs _) (seedX_len _) (by omega) (by omega) ck2_rgt (unhide HGW w hk) (unhide HCV w hk)).mono ?_
              rintro e w' ⟨v, rfl, V, K⟩
              exact ⟨_, rfl, K, ⟨v, rfl, V.low hk.size⟩⟩
            refine steps_consL (fun listed a w hnot hdep hcl hsz hg hn => ?_) ?_
            · have h41 : (PrT wr.drew.heap.size (sgW (seedX (k : Nat)) k (k : Nat) 2 (hashX 3)) 0) (a.eval (.tmp 41)) w := hn.1
              clear hn
              have hk := hg.1
              refine wantsG_of1M (fun _ k => .inl k) (fun v w' k => hg.free 11 (by decide) 30 (fun h => absurd h (by decide)) v k) ?_
              refine wants_plain rfl ?_
              exact grown_move (.tmp 41) rfl h41
            refine steps_consL (fun listed a w hnot hdep hcl hsz hg hn => ?_) ?_
            · have h30 : (PrT wr.drew.heap.size (sgW (seedX (k : Nat)) k (k : Nat) 2 (hashX 3)) 0) (a.eval (.tmp 30)) w := hn.1
              clear hn
              have hk := hg.1
              refine wantsG_of1M (fun _ k => .inl k) (fun v w' k => hg.free 12 (by decide) 42 (fun _ => lstM hcl 15 12 rfl (by decide) hnot) v k) ?_
              refine wants_plain rfl ?_
              exact grown_x0 (.tmp 30) rfl _ _ _ h30
            refine steps_consL (fun listed a w hnot hdep hcl hsz hg hn => ?_) ?_
            · have h30 : (PrT wr.drew.heap.size (sgW (seedX (k : Nat)) k (k : Nat) 2 (hashX 3)) 0) (a.eval (.tmp 30)) w := hn.1
              clear hn
              have hk := hg.1
              refine wantsG_of1M (fun _ k => .inl k) (fun v w' k => hg.free 13 (by decide) 43 (fun h => absurd h (by decide)) v k) ?_
              refine wants_plain rfl ?_
              exact grown_x1 (.tmp 30) rfl _ _ _ h30
            refine steps_consL (fun listed a w hnot hdep hcl hsz hg hn => ?_) ?_
            · clear hn
              have hk := hg.1
              refine wantsG_of1M (fun _ k => .inl k) (fun v w' k => hg.free 14 (by decide) 6 (fun _ => lstM hcl 15 14 rfl (by decide) hnot) v k) ?_
              refine wants_plain rfl ?_
              exact grown_newx _ hk.size rfl
            refine steps_consL (fun listed a w hnot hdep hcl hsz hg hn => ?_) ?_
            · have h6 : (NewX wr.drew.heap.size) (a.eval (.tmp 6)) w := hn.1
              have h42 : (CoAT wr.drew.heap.size (sgW (seedX (k : Nat)) k (k : Nat) 2 (hashX 3))) (a.eval (.tmp 42)) w := hn.2.1
              clear hn
              exact hg.st hsz rfl rfl rfl h6 h42
            refine steps_consL (fun listed a w hnot hdep hcl hsz hg hn => ?_) ?_
            · have h43 : a.eval (.tmp 43) = .int .i64 0 := hn.1
              clear hn
              have hk := hg.1
              refine wantsG_of1M (fun _ k => .inl k) (fun v w' k => hg.free 16 (by decide) 7 (fun h => absurd h (by decide)) v k) ?_
              refine wants_plain rfl ?_
              exact grown_assign (.tmp 43) rfl h43
            exact trivial
          intro W10
          rintro _ rfl
          rintro _ rfl
          rintro _ rfl
          rintro _ rfl
          rintro _ rfl
          rintro _ rfl
          rintro _ rfl
          rintro _ rfl
          rintro _ rfl
          rintro _ rfl
          intro v41 h41
          intro v30 h30
          intro v42 h42
          rintro _ rfl
          intro v6 h6
          intro _ _
          rintro _ rfl
          refine fin_nil ?_
          intro listed hall hgg
          obtain ⟨hkW10, hst⟩ := hgg
          obtain ⟨gst, cst, est, evt, Gst⟩ := hst (hall 15 (by decide))
          simp only [Act.put, List.set_cons_zero, List.set_cons_succ, List.setIfInBounds_toArray] at est evt ⊢
          obtain ⟨wA, hwA⟩ : ∃ x, x = W10 := ⟨_, rfl⟩
          have KrA := unhide HD W10 hkW10
          have hV8 := CoA.v h42
          obtain ⟨ap, np, cp, aq, nq, cq, ev, -⟩ := id hV8
          simp only [sgW] at ev
          have hA42 : CoA wr.heap.size W10 v42 (sgW (seedX (k : Nat)) k (k : Nat) 2 (hashX 3)) := h42
          subst ev
          obtain ⟨g6, e6, -, -⟩ := h6
          subst e6
          have eg : g6 = gst := by
            have e := est
            simp [Act.eval] at e
            exact e
          have ecs : cst = #[.int .i64 (k : Nat), .int .i64 (k : Nat), .slice ap np cp, .slice aq nq cq] := by
            have e := evt
            simp [Act.eval] at e
            exact e.symm
          subst eg
          subst ecs
          rw [← hwA] at KrA hA42 Gst ⊢
          have HA42 := hide hA42
          have HKrA := hide KrA
          have x0 : wA.cell? ⟨g6, 0, none⟩ = some (.int .i64 (k : Nat)) := by rw [cell_of_row wA g6 0 _ _ _ Gst]; rfl
          have x1 : wA.cell? ⟨g6, 1, none⟩ = some (.int .i64 (k : Nat)) := by rw [cell_of_row wA g6 1 _ _ _ Gst]; rfl
          have x2 : wA.cell? ⟨g6, 2, none⟩ = some (.slice ap np cp) := by rw [cell_of_row wA g6 2 _ _ _ Gst]; rfl
          have x3 : wA.cell? ⟨g6, 3, none⟩ = some (.slice aq nq cq) := by rw [cell_of_row wA g6 3 _ _ _ Gst]; rfl
          have Gb := heap_alloc_new wA (.cells #[.int .i64 (k : Nat), .int .i64 (k : Nat), .slice ap np cp, .slice aq nq cq] 33)
          have hKb : Kp [] wA (wA.alloc (.cells #[.int .i64 (k : Nat), .int .i64 (k : Nat), .slice ap np cp, .slice aq nq cq] 33)) := (Kp.refl [] wA).alloc _
          have HP2 : Hid (∀ w3, Kp (Value.slice ax m c).ownBlock.toList (wA.alloc (.cells #[.int .i64 (k : Nat), .int .i64 (k : Nat), .slice ap np cp, .slice aq nq cq] 33)) w3 → CoP (sgL 4) k w3 [.int .i64 (k : Nat), .int .i64 (k : Nat), .slice ap np cp, .slice aq nq cq]) := fun w3 k3 => by
            show CoV w3 _ ((sgL 4).getD k co0)
            rw [sgL_at (by omega)]
            exact unhide HA42 _ w3 (fun q hq => ((unhide HR).own q (by simpa using hq)).2) ((hKb.mono (by simp)).trans k3)
          have HKrb := hide ((unhide HKrA).trans hKb)
          clear hwA KrA hV8 hA42 Gst est evt hkW10 hall hst h41 h30 h42 HD HT2 HXO HXS HSS HCV HGW HKs HG2s HCs HXs HSs HSSs hKb
          go_wp2_with (at_builtin; refine wpList_rowq Tryd.infoCos rfl (by decide) (by decide) Tryd.underlying28 rfl (.tmp 46) (.tmp 48) rfl rfl (unhide HR) (unhide HKrb) ⟨wA.heap.size, 0, none⟩ 1 1 [[.int .i64 (k : Nat), .int .i64 (k : Nat), .slice ap np cp, .slice aq nq cq]] rfl rfl (by simp) (news_one _ _ _ _ _ Gb) (by simp [Value.oneCell']) (by omega) (fun j hj w3 k3 => one_at hj (unhide HP2 w3 k3)) ?_; intro a5 m5 c5 w5 hm5 R5; refine Hid.out ?_)
          subst hm5
          have HR5 := hide R5
          clear R5 HP2 HKrb Gb x0 x1 x2 x3
          refine hide ?_
          go_wp2_with fail
          go_roundw
          case rel => exact ⟨k + 1, a5, k + 1, c5, by omega, by go_num, rfl, rfl, unhide HR5⟩
          case measure => simp [intOf]; omega
        · obtain rfl : k = n := by omega
          have hmn := unhide HMK
          subst hmn
          have hlti : ¬ (m : Int) < (m : Int) := by omega
          obtain ⟨n, hnm⟩ : ∃ n, n = m := ⟨_, rfl⟩
          subst hnm
          obtain ⟨wl, hwl⟩ : ∃ x, x = wr := ⟨_, rfl⟩
          subst hwl
          have HKw := hide ((unhide HKo).trans (unhide HKl))
          have HLl : Hid (CoL wl (.slice ax n c) (sgL n)) := hide (by
            have h := (unhide HR).imp (P' := CoP (sgL n)) (fun j w x hj hp => by
              show CoV w _ ((sgL n).getD j co0)
              rw [sgL_at hj]
              have : CoV w _ ((sgL 4).getD j co0) := hp
              rw [sgL_at (by omega)] at this
              exact this)
            have h2 : RowQ 33 4 (CoP (sgL n)) (sgL n).length wo (.slice ax n c) wl := by rw [sgL_len]; exact h
            exact h2.col (by rw [sgL_len]; omega))
          clear HR HMK
          go_wp2_with fail
          go_loopw [8] (fun vi wr => ∃ t : Nat, t ≤ 7 ∧ vi = .int .i64 ((t : Int) - 1) ∧ Kp [] wl wr) (fun vi _ => 7 - (intOf vi + 1).toNat)
          case atStart => exact ⟨0, by omega, rfl, Kp.refl _ _⟩
          case round =>
            obtain ⟨t, ht, rfl, hKq⟩ := hrel
            obtain ⟨wq, hwq⟩ : ∃ x, x = wr := ⟨_, rfl⟩
            subst hwq
            have HKm := hide ((unhide HKw).trans hKq)
            have HOm := hide ((unhide HO4).kept ((unhide HKr).trans ((unhide HKl).trans hKq)))
            obtain ⟨q, hq⟩ : ∃ q : Int, q = (t : Int) - 1 := ⟨_, rfl⟩
            have hqb : -1 ≤ q ∧ q ≤ 6 := by omega
            have HQ := hide hq
            rw [← hq]
            have HKq := hide hKq
            clear hKq hq
            by_cases ht7 : ¬ q ≤ 5
            · have HOUT := hide ((unhide HKl).trans (unhide HKq))
              go_wp2_with fail
              go_roundw
              case rel => exact ⟨n + 1, by omega, by go_num, (unhide HKr).trans (unhide HOUT)⟩
              case measure => simp [intOf]; omega
            replace ht7 : q ≤ 5 := by omega
            have HPl := hide (policy_any _ 4 q wq (unhide HOm) (by omega))
            go_wp2_with fail
            refine (unhide HPl).mono ?_
            rintro ee w4p ⟨al, ml, cl, aw, mw, cw, rfl, S4, A4⟩
            have HP4 := hide (pol_v (q := q) (by omega) S4 A4)
            have HKp4 := hide A4.kp
            clear HPl S4 A4
            have Ga := heap_alloc_new w4p (.cells #[.slice none 0 0, .slice none 0 0, .int .i64 0] 42)
            have HKa : Hid (Kp [] w4p (w4p.alloc (.cells #[.slice none 0 0, .slice none 0 0, .int .i64 0] 42))) := (Kp.refl [] w4p).alloc _
            go_wp2_with (refine wpList_store_flat rfl 42 (.tmp 9) (.tmp 56) rfl w4p.heap.size 0 rfl _ _ [.slice al ml cl, .slice aw mw cw, .int .i64 q] Ga rfl (by simp) Tryd.polSize (by simp [Value.oneCell']) #[.slice al ml cl, .slice aw mw cw, .int .i64 q] rfl ?_; intro w5 Gw5 Kw5; refine Hid.out ?_)
            obtain ⟨g9, hg9⟩ : ∃ g, g = w4p.heap.size := ⟨_, rfl⟩
            have Kw4pw5 : Kp [] w4p w5 := (unhide HKa).then Kw5 (fun i hi => .inr (by simp at hi; omega))
            rw [← hg9] at Gw5 ⊢
            have HP5 := hide ((unhide HP4).kept Kw4pw5)
            have HKq5 := hide ((unhide HKp4).trans Kw4pw5)
            have HK5 := hide ((unhide HKm).trans (unhide HKq5))
            have HKqq := hide ((unhide HKq).trans (unhide HKq5))
            have HL5 := hide ((unhide HLl).kept (unhide HKqq))
            have HC5 := hide ((unhide HC4).kept ((unhide HKr).trans ((unhide HKl).trans (unhide HKqq))))
            have HG25 := hide (((unhide HKr).trans ((unhide HKl).trans (unhide HKqq))).heap (unhide HG24) (by simp))
            have HG95 := hide Gw5
            clear Ga HKa Gw5 Kw5 Kw4pw5 hg9 HP4 HKp4
            refine hide ?_
            obtain ⟨rp, hrp⟩ : ∃ b, b = decide (1 ≤ q ∧ q ≤ 4) := ⟨_, rfl⟩
            have HRP : Hid (rp = (polK 4 q).rgt) := hide (by rw [hrp, polK_rgt (by omega) q unl4]; rfl)
            have HRt := hide (cright_any _ (polK 4 q) rp (unhide HRP) w5 (unhide HP5))
            have y0 : w5.cell? ⟨g9, 0, none⟩ = some (.slice al ml cl) := by rw [cell_of_row w5 g9 0 _ _ _ (unhide HG95)]; rfl
            have y1 : w5.cell? ⟨g9, 1, none⟩ = some (.slice aw mw cw) := by rw [cell_of_row w5 g9 1 _ _ _ (unhide HG95)]; rfl
            have y2 : w5.cell? ⟨g9, 2, none⟩ = some (.int .i64 q) := by rw [cell_of_row w5 g9 2 _ _ _ (unhide HG95)]; rfl
            by_cases hok : ¬ (1 ≤ q ∧ q ≤ 4)
            · obtain rfl : rp = false := by rw [hrp]; exact decide_eq_false hok
              have HBM : Hid (false = ((polK 4 q).rgt && decide ((polK 4 q).q ≤ (cntW (polK 4 q) 2 (hashX 3) (sgL n) : Nat)))) := hide (by rw [← unhide HRP]; rfl)
              clear hrp
              by_cases hq1 : 1 ≤ q
              · have hq4 : ¬ q ≤ 4 := fun h => hok ⟨hq1, h⟩
                clear hok
                go_wp2_with fail
                refine (unhide HRt).mono ?_
                rintro ee w6 ⟨rfl, K6⟩
                have HG9x := hide (K6.heap (unhide HG95) (by simp))
                have HG2x := hide (K6.heap (unhide HG25) (by simp))
                have HK6 := hide K6
                have u0 : w6.cell? ⟨g9, 0, none⟩ = some (.slice al ml cl) := by rw [cell_of_row w6 g9 0 _ _ _ (unhide HG9x)]; rfl
                have u1 : w6.cell? ⟨g9, 1, none⟩ = some (.slice aw mw cw) := by rw [cell_of_row w6 g9 1 _ _ _ (unhide HG9x)]; rfl
                have u2 : w6.cell? ⟨g9, 2, none⟩ = some (.int .i64 q) := by rw [cell_of_row w6 g9 2 _ _ _ (unhide HG9x)]; rfl
                have v0 : w6.cell? ⟨g2, 0, none⟩ = some (.int .i64 2) := by rw [cell_of_row w6 g2 0 _ _ _ (unhide HG2x)]; rfl
                have v1 : w6.cell? ⟨g2, 1, none⟩ = some (.slice ar mr cr) := by rw [cell_of_row w6 g2 1 _ _ _ (unhide HG2x)]; rfl
                have HMt := hide (cmet_any _ (polK 4 q) _ 2 (hashX 3) _ (sgL n) false (unhide HBM) w6 ((unhide HP5).kept K6) ((unhide HC5).kept K6) ((unhide HL5).kept K6) ((unhide HG).kept ((unhide HK5).trans K6) (by simp)))
                clear K6 y0 y1 y2 HRt
                go_wp2_with fail
                refine (unhide HMt).mono ?_
                rintro ee w7 ⟨rfl, K7⟩
                have HK7 := hide ((unhide HK6).trans K7)
                have HG9y := hide (K7.heap (unhide HG9x) (by simp))
                have HG2y := hide (K7.heap (unhide HG2x) (by simp))
                clear u0 u1 u2 v0 v1 HMt K7
                have HOUT := hide ((unhide HKqq).trans (unhide HK7))
                have HQE := unhide HQ
                go_wp2_with fail
                go_roundw
                case rel => exact ⟨t + 1, by omega, t_succ t, unhide HOUT⟩
                case measure => simp [intOf]; omega
              · clear hok
                go_wp2_with fail
                refine (unhide HRt).mono ?_
                rintro ee w6 ⟨rfl, K6⟩
                have HG9x := hide (K6.heap (unhide HG95) (by simp))
                have HG2x := hide (K6.heap (unhide HG25) (by simp))
                have HK6 := hide K6
                have u0 : w6.cell? ⟨g9, 0, none⟩ = some (.slice al ml cl) := by rw [cell_of_row w6 g9 0 _ _ _ (unhide HG9x)]; rfl
                have u1 : w6.cell? ⟨g9, 1, none⟩ = some (.slice aw mw cw) := by rw [cell_of_row w6 g9 1 _ _ _ (unhide HG9x)]; rfl
                have u2 : w6.cell? ⟨g9, 2, none⟩ = some (.int .i64 q) := by rw [cell_of_row w6 g9 2 _ _ _ (unhide HG9x)]; rfl
                have v0 : w6.cell? ⟨g2, 0, none⟩ = some (.int .i64 2) := by rw [cell_of_row w6 g2 0 _ _ _ (unhide HG2x)]; rfl
                have v1 : w6.cell? ⟨g2, 1, none⟩ = some (.slice ar mr cr) := by rw [cell_of_row w6 g2 1 _ _ _ (unhide HG2x)]; rfl
                have HMt := hide (cmet_any _ (polK 4 q) _ 2 (hashX 3) _ (sgL n) false (unhide HBM) w6 ((unhide HP5).kept K6) ((unhide HC5).kept K6) ((unhide HL5).kept K6) ((unhide HG).kept ((unhide HK5).trans K6) (by simp)))
                clear K6 y0 y1 y2 HRt
                go_wp2_with fail
                refine (unhide HMt).mono ?_
                rintro ee w7 ⟨rfl, K7⟩
                have HK7 := hide ((unhide HK6).trans K7)
                have HG9y := hide (K7.heap (unhide HG9x) (by simp))
                have HG2y := hide (K7.heap (unhide HG2x) (by simp))
                clear u0 u1 u2 v0 v1 HMt K7
                have HOUT := hide ((unhide HKqq).trans (unhide HK7))
                have HQE := unhide HQ
                go_wp2_with fail
                go_roundw
                case rel => exact ⟨t + 1, by omega, t_succ t, unhide HOUT⟩
                case measure => simp [intOf]; omega
            have hq14 : 1 ≤ q ∧ q ≤ 4 := by omega
            obtain rfl : rp = true := by rw [hrp]; exact decide_eq_true hq14
            have hq1 := hq14.1
            have hq4 := hq14.2
            have hcn := sgL_cnt n (by omega) q hq14
            clear hrp hok
            by_cases hqn : q ≤ (n : Int)
            · have HBM : Hid (true = ((polK 4 q).rgt && decide ((polK 4 q).q ≤ (cntW (polK 4 q) 2 (hashX 3) (sgL n) : Nat)))) := hide (by rw [← unhide HRP, hcn]; show true = (true && decide (q ≤ (n : Int))); simp [hqn])
              clear hcn
              go_wp2_with fail
              refine (unhide HRt).mono ?_
              rintro ee w6 ⟨rfl, K6⟩
              have HG9x := hide (K6.heap (unhide HG95) (by simp))
              have HG2x := hide (K6.heap (unhide HG25) (by simp))
              have HK6 := hide K6
              have u0 : w6.cell? ⟨g9, 0, none⟩ = some (.slice al ml cl) := by rw [cell_of_row w6 g9 0 _ _ _ (unhide HG9x)]; rfl
              have u1 : w6.cell? ⟨g9, 1, none⟩ = some (.slice aw mw cw) := by rw [cell_of_row w6 g9 1 _ _ _ (unhide HG9x)]; rfl
              have u2 : w6.cell? ⟨g9, 2, none⟩ = some (.int .i64 q) := by rw [cell_of_row w6 g9 2 _ _ _ (unhide HG9x)]; rfl
              have v0 : w6.cell? ⟨g2, 0, none⟩ = some (.int .i64 2) := by rw [cell_of_row w6 g2 0 _ _ _ (unhide HG2x)]; rfl
              have v1 : w6.cell? ⟨g2, 1, none⟩ = some (.slice ar mr cr) := by rw [cell_of_row w6 g2 1 _ _ _ (unhide HG2x)]; rfl
              have HMt := hide (cmet_any _ (polK 4 q) _ 2 (hashX 3) _ (sgL n) true (unhide HBM) w6 ((unhide HP5).kept K6) ((unhide HC5).kept K6) ((unhide HL5).kept K6) ((unhide HG).kept ((unhide HK5).trans K6) (by simp)))
              clear K6 y0 y1 y2 HRt
              go_wp2_with fail
              refine (unhide HMt).mono ?_
              rintro ee w7 ⟨rfl, K7⟩
              have HK7 := hide ((unhide HK6).trans K7)
              have HG9y := hide (K7.heap (unhide HG9x) (by simp))
              have HG2y := hide (K7.heap (unhide HG2x) (by simp))
              clear u0 u1 u2 v0 v1 HMt K7
              have u0 : w7.cell? ⟨g9, 0, none⟩ = some (.slice al ml cl) := by rw [cell_of_row w7 g9 0 _ _ _ (unhide HG9y)]; rfl
              have u1 : w7.cell? ⟨g9, 1, none⟩ = some (.slice aw mw cw) := by rw [cell_of_row w7 g9 1 _ _ _ (unhide HG9y)]; rfl
              have u2 : w7.cell? ⟨g9, 2, none⟩ = some (.int .i64 q) := by rw [cell_of_row w7 g9 2 _ _ _ (unhide HG9y)]; rfl
              have v0 : w7.cell? ⟨g2, 0, none⟩ = some (.int .i64 2) := by rw [cell_of_row w7 g2 0 _ _ _ (unhide HG2y)]; rfl
              have v1 : w7.cell? ⟨g2, 1, none⟩ = some (.slice ar mr cr) := by rw [cell_of_row w7 g2 1 _ _ _ (unhide HG2y)]; rfl
              have HCt := hide (ccount_any _ (polK 4 q) _ 2 (hashX 3) _ (sgL n) n (sgL_cnt n (by omega) q hq14).symm w7 ((unhide HP5).kept (unhide HK7)) ((unhide HC5).kept (unhide HK7)) ((unhide HL5).kept (unhide HK7)) ((unhide HG).kept ((unhide HK5).trans (unhide HK7)) (by simp)))
              go_wp2_with fail
              refine (unhide HCt).mono ?_
              rintro ee w8 ⟨rfl, K8⟩
              have HK8 := hide ((unhide HK7).trans K8)
              clear u0 u1 u2 v0 v1 HCt K8
              have HOUT := hide ((unhide HKqq).trans (unhide HK8))
              have HQE := unhide HQ
              go_wp2_with fail
              go_roundw
              case rel => exact ⟨t + 1, by omega, t_succ t, unhide HOUT⟩
              case measure => simp [intOf]; omega
            · have HBM : Hid (false = ((polK 4 q).rgt && decide ((polK 4 q).q ≤ (cntW (polK 4 q) 2 (hashX 3) (sgL n) : Nat)))) := hide (by rw [← unhide HRP, hcn]; show false = (true && decide (q ≤ (n : Int))); simp; omega)
              clear hcn
              go_wp2_with fail
              refine (unhide HRt).mono ?_
              rintro ee w6 ⟨rfl, K6⟩
              have HG9x := hide (K6.heap (unhide HG95) (by simp))
              have HG2x := hide (K6.heap (unhide HG25) (by simp))
              have HK6 := hide K6
              have u0 : w6.cell? ⟨g9, 0, none⟩ = some (.slice al ml cl) := by rw [cell_of_row w6 g9 0 _ _ _ (unhide HG9x)]; rfl
              have u1 : w6.cell? ⟨g9, 1, none⟩ = some (.slice aw mw cw) := by rw [cell_of_row w6 g9 1 _ _ _ (unhide HG9x)]; rfl
              have u2 : w6.cell? ⟨g9, 2, none⟩ = some (.int .i64 q) := by rw [cell_of_row w6 g9 2 _ _ _ (unhide HG9x)]; rfl
              have v0 : w6.cell? ⟨g2, 0, none⟩ = some (.int .i64 2) := by rw [cell_of_row w6 g2 0 _ _ _ (unhide HG2x)]; rfl
              have v1 : w6.cell? ⟨g2, 1, none⟩ = some (.slice ar mr cr) := by rw [cell_of_row w6 g2 1 _ _ _ (unhide HG2x)]; rfl
              have HMt := hide (cmet_any _ (polK 4 q) _ 2 (hashX 3) _ (sgL n) false (unhide HBM) w6 ((unhide HP5).kept K6) ((unhide HC5).kept K6) ((unhide HL5).kept K6) ((unhide HG).kept ((unhide HK5).trans K6) (by simp)))
              clear K6 y0 y1 y2 HRt
              go_wp2_with fail
              refine (unhide HMt).mono ?_
              rintro ee w7 ⟨rfl, K7⟩
              have HK7 := hide ((unhide HK6).trans K7)
              have HG9y := hide (K7.heap (unhide HG9x) (by simp))
              have HG2y := hide (K7.heap (unhide HG2x) (by simp))
              clear u0 u1 u2 v0 v1 HMt K7
              have u0 : w7.cell? ⟨g9, 0, none⟩ = some (.slice al ml cl) := by rw [cell_of_row w7 g9 0 _ _ _ (unhide HG9y)]; rfl
              have u1 : w7.cell? ⟨g9, 1, none⟩ = some (.slice aw mw cw) := by rw [cell_of_row w7 g9 1 _ _ _ (unhide HG9y)]; rfl
              have u2 : w7.cell? ⟨g9, 2, none⟩ = some (.int .i64 q) := by rw [cell_of_row w7 g9 2 _ _ _ (unhide HG9y)]; rfl
              have v0 : w7.cell? ⟨g2, 0, none⟩ = some (.int .i64 2) := by rw [cell_of_row w7 g2 0 _ _ _ (unhide HG2y)]; rfl
              have v1 : w7.cell? ⟨g2, 1, none⟩ = some (.slice ar mr cr) := by rw [cell_of_row w7 g2 1 _ _ _ (unhide HG2y)]; rfl
              have HCt := hide (ccount_any _ (polK 4 q) _ 2 (hashX 3) _ (sgL n) n (sgL_cnt n (by omega) q hq14).symm w7 ((unhide HP5).kept (unhide HK7)) ((unhide HC5).kept (unhide HK7)) ((unhide HL5).kept (unhide HK7)) ((unhide HG).kept ((unhide HK5).trans (unhide HK7)) (by simp)))
              go_wp2_with fail
              refine (unhide HCt).mono ?_
              rintro ee w8 ⟨rfl, K8⟩
              have HK8 := hide ((unhide HK7).trans K8)
              clear u0 u1 u2 v0 v1 HCt K8
              have HOUT := hide ((unhide HKqq).trans (unhide HK8))
              have HQE := unhide HQ
              go_wp2_with fail
              go_roundw
              case rel => exact ⟨t + 1, by omega, t_succ t, unhide HOUT⟩
              case measure => simp [intOf]; omega
    obtain rfl : n = 5 := by omega
    have HOo := hide ((unhide HO4).kept (unhide HKr))
    have HPl := hide (policy_any _ 4 1 wo (unhide HOo) (by omega))
    clear hn4
    go_wp2_with fail
    refine (unhide HPl).mono ?_
    rintro ee wa ⟨pl, pm, pk, aw, mw0, cw0, rfl, Sa, Aa⟩
    have HSa := hide Sa
    have HAa := hide Aa
    have HZa := hide Aa.kp.size
    clear HPl Sa Aa
    have Ga := heap_alloc_new wa (.cells #[.slice none 0 0, .slice none 0 0, .int .i64 0] 42)
    have HKa : Hid (Kp [] wa (wa.alloc (.cells #[.slice none 0 0, .slice none 0 0, .int .i64 0] 42))) := (Kp.refl [] wa).alloc _
    go_wp2_with (refine wpList_store_flat rfl 42 (.tmp 11) (.tmp 92) rfl wa.heap.size 0 rfl _ _ [.slice pl pm pk, .slice aw mw0 cw0, .int .i64 1] Ga rfl (by simp) Tryd.polSize (by simp [Value.oneCell']) #[.slice pl pm pk, .slice aw mw0 cw0, .int .i64 1] rfl ?_; intro wb Gwb Kwb; refine Hid.out ?_)
    obtain ⟨g11, hg11⟩ : ∃ g, g = wa.heap.size := ⟨_, rfl⟩
    have Kwawb : Kp [] wa wb := (unhide HKa).then Kwb (fun i hi => .inr (by simp at hi; omega))
    rw [← hg11] at Gwb ⊢
    have HSb := hide ((unhide HSa).kept Kwawb (by simp))
    have HAb : Hid (ARt wo.heap.size (ownK 4) (.slice aw mw0 cw0) wb) := stable_ar _ _ _ _ _ Kwawb ((unhide HAa).ar (Nat.le_refl _))
    have HKob := hide ((unhide HAa).kp.trans Kwawb)
    have HG11b := hide Gwb
    have HHg11 := hide hg11
    clear Ga HKa Gwb Kwb Kwawb HSa HAa hg11
    refine hide ?_
    obtain ⟨a', m', c', lw, el, hRS, hll⟩ := unhide HAb
    injection el with q1 q2 q3
    subst q1
    subst q2
    subst q3
    have hlwn : lw.length = 4 := by rw [← List.length_map (f := (·.2)), hll, ownK_len]
    obtain ⟨gp, rfl, hgp, -, hmw4, -, -⟩ := hRS.spot (by have := hRS.1.len; simp at this; omega)
    obtain rfl : mw0 = 4 := by omega
    have hcells : ∀ j u, (lw.map (·.1))[j]? = some u → wb.cell? ((⟨gp, 0, none⟩ : Addr).add j) = some u := fun j u hu => World.ownsRow.cells hRS.1 (g := gp) rfl j u hu
    have z1 : wb.cell? ⟨g11, 1, none⟩ = some (.slice (some ⟨gp, 0, none⟩) 4 cw0) := by rw [cell_of_row wb g11 1 _ _ _ (unhide HG11b)]; rfl
    have HLsb := hide (hRS.lists (by omega))
    have Ge := heap_alloc_new wb (.cells #[] 24)
    have Ke : Kp [] wb (wb.alloc (.cells #[] 24)) := (Kp.refl [] wb).alloc _
    have hgr11 : g11 < wb.heap.size := lt_of_block (unhide HG11b)
    have hgn11 : g11 ≠ wb.heap.size := by omega
    have z2 : (wb.alloc (.cells #[] 24)).cell? ⟨g11, 1, none⟩ = some (.slice (some ⟨gp, 0, none⟩) 4 cw0) := Ke.cell z1 (by simp)
    have hR0 : RowV (wb.alloc (.cells #[] 24)) wb.heap.size (.slice (some ⟨wb.heap.size, 0, none⟩) 0 0) [] := ⟨rfl, .inr ⟨wb.heap.size, 0, #[], rfl, Nat.le_refl _, Ge, Nat.le_refl _, by unfold maxLen; omega, rfl, rfl⟩⟩
    have hone : ∀ u ∈ lw.map (·.1), u.oneCell' = true := fun u hu => by
      obtain ⟨x, hx, rfl⟩ := List.mem_map.1 hu
      obtain ⟨_, _, e, _⟩ := (hRS.2 x hx).1
      rw [e]; rfl
    have hlm : (lw.map (·.1)).length = 4 := by simp [hlwn]
    have hxe : (Value.slice (some ⟨gp, 0, none⟩) 4 cw0) = .slice (some ⟨gp, 0, none⟩) (lw.map (·.1)).length cw0 := by rw [hlm]
    have HLL := hide hll
    obtain ⟨ys, hys⟩ : ∃ ys : List Value, ys = lw.map (·.1) := ⟨_, rfl⟩
    rw [← hys] at hcells hone hlm hxe
    have hcells2 : ∀ j u, ys[j]? = some u → (wb.alloc (.cells #[] 24)).cell? ((⟨gp, 0, none⟩ : Addr).add j) = some u := fun j u hu => Ke.cell (hcells j u hu) (by simp)
    have HYS := hide hys
    have hyl0 : ([] : List Value).length + ys.length ≤ 1000000000 := by simp [hlm]
    have HXE0 := hide hxe
    clear hll hRS hmw4 hys hcells hlm hxe
    go_wp2_with (at_builtin; (refine wpList_append_rowv rfl (.tmp 93) (.tmp 95) rfl wb.heap.size (.slice (some ⟨wb.heap.size, 0, none⟩) 0 0) [] rfl hR0 ⟨gp, 0, none⟩ cw0 ys (Eq.trans rfl (unhide HXE0)) hcells2 hone hyl0 Ke.size ?_; intro a6 m6 c6 w6 R6 S6; refine Hid.out ?_))
    have K6 : Kp [] wb w6 := Ke.then S6.1 (fun i hi => .inr (Nat.le_of_eq (Eq.symm (by simpa [Value.ownBlock] using hi))))
    have HRS6 : Hid (ARt wb.heap.size (ownK 4) (.slice a6 m6 c6) w6) := hide (by
      have hL := unhide HLsb
      rw [show (4 : Nat) = lw.length from hlwn.symm] at hL
      exact ⟨a6, m6, c6, lw, rfl, rowS_copy hL (by rw [← unhide HYS]; simpa using R6) K6, unhide HLL⟩)
    have HK6 := hide K6
    have HHs := hide (xhash_any 1 w6)
    clear R6 S6 K6 hR0 Ge Ke hcells2 hone hyl0 z1 z2 HXE0
    refine hide ?_
    go_wp2_with fail
    refine (unhide HHs).mono ?_
    rintro ee w7 ⟨ah, mh, ch, rfl, R7, K7⟩
    have HK7 := hide ((unhide HK6).trans K7)
    have hOne : OneT wb.heap.size (hashX 1) (.slice (some ⟨w7.heap.size, 0, none⟩) 1 1) (w7.alloc (.cells #[.slice ah mh ch] 24)) :=
      ⟨w7.heap.size, _, rfl, by rw [cell_of_row _ _ 0 _ _ _ (heap_alloc_new w7 _)]; rfl, stable_rt _ _ _ _ _ ((Kp.refl [] w7).alloc _) ⟨ah, mh, ch, rfl, R7.sl, ap_row R7⟩⟩
    have hK8 : Kp [] w7 (w7.alloc (.cells #[.slice ah mh ch] 24)) := (Kp.refl [] w7).alloc _
    have hAR8 : ARt wb.heap.size (ownK 4) (.slice a6 m6 c6) (w7.alloc (.cells #[.slice ah mh ch] 24)) := stable_ar _ _ _ _ _ (K7.trans hK8) (unhide HRS6)
    have hz8 : wb.heap.size ≤ (w7.alloc (.cells #[.slice ah mh ch] 24)).heap.size := Nat.le_trans (unhide HK7).size hK8.size
    have HKb8 := hide ((unhide HK7).trans hK8)
    clear HHs R7 K7 hK8
    go_wp2_with (at_builtin; refine wpList_accpB rfl (.tmp 96) (.tmp 98) rfl (.slice a6 m6 c6) _ rfl rfl (ownK 4) wb.heap.size hAR8 (by rw [ownK_len]; omega) (hashX 1) hOne (hashX_bs 1) hz8 ?_; intro pw pn po w8 A8 S8; refine Hid.out ?_)
    have hb11 : g11 < wb.heap.size := lt_of_block (unhide HG11b)
    have K8b : Kp [] wb w8 := (unhide HKb8).then S8.1 (fun i hi => .inr (by
      obtain ⟨a', m', c', l', e', h1, _⟩ := hAR8
      exact h1.1.own i (by rw [← e']; simpa using hi)))
    have G8 := K8b.heap (unhide HG11b) (by simp)
    have c8 : w8.cell? ⟨g11, 1, none⟩ = some (.slice (some ⟨gp, 0, none⟩) 4 cw0) := by rw [cell_of_row w8 g11 1 _ _ _ G8]; rfl
    have f8 : w8.frozen? ⟨g11, 1, none⟩ = false := frozen_of_row w8 g11 1 _ _ G8
    obtain ⟨w9, hw9⟩ : ∃ x, x = w8.setCell ⟨g11, 1, none⟩ (.slice pw pn po) := ⟨_, rfl⟩
    have K89 : Kp [g11] w8 w9 := by rw [hw9]; exact setCell_kp w8 g11 1 _
    have HG119 : Hid (w9.heap[g11]? = some (.cells #[.slice pl pm pk, .slice pw pn po, .int .i64 1] 42 (0, 0))) := hide (by
      rw [hw9]
      have := heap_setCell_same w8 g11 1 _ _ (.slice pw pn po) G8
      simpa using this)
    have A9 := ar_off A8 G8 K89 hb11
    obtain ⟨p5, hp5⟩ : ∃ p : Po, p = ⟨hashX 9, ownK 4 ++ [hashX 1], 1⟩ := ⟨_, rfl⟩
    have HP59 : Hid (PoV w9 (.agg #[.slice pl pm pk, .slice pw pn po, .int .i64 1]) p5) := hide (by
      rw [hp5]
      obtain ⟨a', m', c', l5, el, h1, h2⟩ := A9
      cases el
      exact ⟨pl, pm, pk, pw, pn, po, l5, rfl, ⟨((unhide HSb).kept K8b (by simp)).offBy' (noBy_pol G8) K89, hashX_bs 9⟩, lc_of_owns h1.1 (h1.lists (by rw [← List.length_map (f := (·.2)), h2]; simp [ownK_len])), h2⟩)
    have Hp5R : Hid (false = p5.rgt) := hide (by rw [hp5]; exact (p5_no _ (by simp [ownK_len]) _ _).symm)
    have ho11 : wo.heap.size ≤ g11 := by rw [unhide HHg11]; exact unhide HZa
    have HKo9 : Hid (Kp [] wo w9) := ((unhide HKob).trans K8b).then K89 (fun i hi => .inr (by simp at hi; omega))
    have HO9 := hide ((unhide HOo).kept (unhide HKo9))
    have HW9 := hide hw9
    have HPl := hide (policy_row _ 2 1 w9 ((unhide HO9).take (by omega)) (by omega))
    have hco2 : (2 : Int) ≤ (co : Int) := by omega
    have hco1 : (1 : Int) ≤ (co : Int) := by omega
    clear A8 S8 A9 K89 K8b G8 hw9 hp5 hAR8 hOne hz8 HKb8 HRS6 HK6 HK7 HSb HAb HLsb HLL HG11b HKob
    refine hide ?_
    go_wp2_with fail
    rw [← unhide HW9]
    refine (unhide HPl).mono ?_
    rintro ee wc ⟨bl, bm, bk, aw2, mw, cw, rfl, Sc, Ac⟩
    have HSc := hide Sc.sl
    have HLOG0 := hide Sc
    have HAc := hide Ac
    clear HPl Sc Ac c8 f8
    have Ga := heap_alloc_new wc (.cells #[.slice none 0 0, .slice none 0 0, .int .i64 0] 42)
    have HKa : Hid (Kp [] wc (wc.alloc (.cells #[.slice none 0 0, .slice none 0 0, .int .i64 0] 42))) := (Kp.refl [] wc).alloc _
    go_wp2_with (refine wpList_store_flat rfl 42 (.tmp 12) (.tmp 103) rfl wc.heap.size 0 rfl _ _ [.slice bl bm bk, .slice aw2 mw cw, .int .i64 1] Ga rfl (by simp) Tryd.polSize (by simp [Value.oneCell']) #[.slice bl bm bk, .slice aw2 mw cw, .int .i64 1] rfl ?_; intro wd Gwd Kwd; refine Hid.out ?_)
    obtain ⟨g12, hg12⟩ : ∃ g, g = wc.heap.size := ⟨_, rfl⟩
    have Kwcwd : Kp [] wc wd := (unhide HKa).then Kwd (fun i hi => .inr (by simp at hi; omega))
    rw [← hg12] at Gwd ⊢
    have HSd := hide ((unhide HSc).kept Kwcwd (by simp))
    have HLOG := hide ((unhide HLOG0).kept Kwcwd (by simp))
    have HAd : Hid (ARt w9.heap.size (ownK 2) (.slice aw2 mw cw) wd) := stable_ar _ _ _ _ _ Kwcwd ((unhide HAc).ar (Nat.le_refl _))
    have HK9d := hide ((unhide HAc).kp.trans Kwcwd)
    have HG12d := hide Gwd
    have HHg12 := hide hg12
    have HZc := hide (unhide HAc).kp.size
    clear Ga HKa Gwd Kwd Kwcwd HSc HAc hg12
    refine hide ?_
    obtain ⟨a', m', c', l2, el, hRS, hll⟩ := unhide HAd
    injection el with q1 q2 q3
    subst q1
    subst q2
    subst q3
    have hl2n : l2.length = 2 := by rw [← List.length_map (f := (·.2)), hll, ownK_len]
    have hmw2 : mw = 2 := by have := hRS.1.len; simp at this; omega
    obtain ⟨gw, rfl, hgw, hgwz, -, -, -⟩ := hRS.spot (by omega)
    have hml0 : (0 : Int) < (mw : Int) := by omega
    have hml1 : (1 : Int) < (mw : Int) := by omega
    have hmp : 0 < mw := by omega
    obtain ⟨_, _, ex, _, hcx⟩ := hRS.lists (by omega)
    injection ex with ex1
    obtain ⟨bx, ox, ex2, hx, hSx, hBx⟩ := hcx 0 (by omega)
    rw [← ex1] at ex2
    injection ex2 with ex2
    injection ex2 with ex3 ex4
    subst ex3
    subst ex4
    have hap := (hRS.2 _ (List.getElem_mem (show 0 < l2.length by omega))).2.2
    obtain ⟨x, hxe⟩ : ∃ x, x = l2[0]'(by omega) := ⟨_, rfl⟩
    rw [← hxe] at hx hSx hBx hap
    have HRS := hide hRS
    have HSx := hide hSx
    have HBx := hide hBx
    have HAP := hide hap
    have HXE := hide hxe
    obtain ⟨ax, cx, hxv, -⟩ := hSx
    obtain ⟨nx, hnx⟩ : ∃ n, n = x.2.length := ⟨_, rfl⟩
    rw [← hnx] at hxv
    have HXV := hide hxv
    rw [hxv] at hx
    have HT12 : Hid (∀ w', Kp [] wd.drew w' → w'.heap[g12]? = some (.cells #[.slice bl bm bk, .slice (some ⟨gw, 0, none⟩) mw cw, .int .i64 1] 42 (0, 0))) := fun w' k' => ((kp_drew wd).trans k').heap (unhide HG12d) (by simp)
    have HXC : Hid (∀ w', Kp [] wd.drew w' → w'.cell? ⟨gw, 0, none⟩ = some (.slice ax nx cx)) := fun w' k' => ((kp_drew wd).trans k').cell (by simpa using hx) (by simp)
    have hg129 : w9.heap.size ≤ g12 := by rw [unhide HHg12]; exact unhide HZc
    clear hx hBx hap hRS hll hxe hnx hxv hcx ex1
    go_wp2_with fail
    refine region_grow_tail 6 Tryd.mixed [Is (.pointer (some ⟨g12, 1, none⟩)), Is (.slice (some ⟨gw, 0, none⟩) mw cw), Is (.pointer (some ⟨g12, 1, none⟩)), Is (.slice (some ⟨gw, 0, none⟩) mw cw), Is (.pointer (some ⟨gw, 0, none⟩)), Is (.slice ax nx cx)] [[(12, none)], [(104, some 0)], [(12, none)], [(106, some 2)], [(107, some 3)], [(108, some 4)]] (by kernel_rfl) ?_ ?_ ?_
    all_goals try simp only [List.take_succ_cons, List.take_zero, List.drop_succ_cons, List.drop_zero]
    · simp only [List.mem_cons, List.not_mem_nil, or_false]
      intro R hR
      rcases hR with rfl | rfl | rfl | rfl | rfl | rfl <;> first | exact stable_is _
    · refine steps_cons (fun a w hk hn => ?_) ?_
      · have h12 : a.eval (.tmp 12) = .pointer (some ⟨g12, 0, none⟩) := hn.1
        clear hn
        refine wants_plain rfl ?_
        refine grown_run (v := .pointer (some ⟨g12, 1, none⟩)) ?_ (Kp.refl _ _) rfl
        obtain ⟨ρ, hρ, hc, hf, hg⟩ := eval_is a
        rw [hρ] at h12 ⊢
        simp [go_sem, h12]
      refine steps_cons (fun a w hk hn => ?_) ?_
      · have h104 : a.eval (.tmp 104) = .pointer (some ⟨g12, 1, none⟩) := hn.1
        clear hn
        refine wants_plain rfl ?_
        refine grown_run (v := .slice (some ⟨gw, 0, none⟩) mw cw) ?_ (Kp.refl _ _) rfl
        have hcell : w.cell? ⟨g12, 1, none⟩ = some (.slice (some ⟨gw, 0, none⟩) mw cw) := by rw [cell_of_row w g12 1 _ _ _ (unhide HT12 w hk)]; rfl
        obtain ⟨ρ, hρ, hc, hf, hg⟩ := eval_is a
        rw [hρ] at h104 ⊢
        simp [go_sem, h104, hcell]
      refine steps_cons (fun a w hk hn => ?_) ?_
      · have h12 : a.eval (.tmp 12) = .pointer (some ⟨g12, 0, none⟩) := hn.1
        clear hn
        refine wants_plain rfl ?_
        refine grown_run (v := .pointer (some ⟨g12, 1, none⟩)) ?_ (Kp.refl _ _) rfl
        obtain ⟨ρ, hρ, hc, hf, hg⟩ := eval_is a
        rw [hρ] at h12 ⊢
        simp [go_sem, h12]
      refine steps_cons (fun a w hk hn => ?_) ?_
      · have h106 : a.eval (.tmp 106) = .pointer (some ⟨g12, 1, none⟩) := hn.1
        clear hn
        refine wants_plain rfl ?_
        refine grown_run (v := .slice (some ⟨gw, 0, none⟩) mw cw) ?_ (Kp.refl _ _) rfl
        have hcell : w.cell? ⟨g12, 1, none⟩ = some (.slice (some ⟨gw, 0, none⟩) mw cw) := by rw [cell_of_row w g12 1 _ _ _ (unhide HT12 w hk)]; rfl
        obtain ⟨ρ, hρ, hc, hf, hg⟩ := eval_is a
        rw [hρ] at h106 ⊢
        simp [go_sem, h106, hcell]
      refine steps_cons (fun a w hk hn => ?_) ?_
      · have h107 : a.eval (.tmp 107) = .slice (some ⟨gw, 0, none⟩) mw cw := hn.1
        clear hn
        refine wants_plain rfl ?_
        refine grown_run (v := .pointer (some ⟨gw, 0, none⟩)) ?_ (Kp.refl _ _) rfl
        obtain ⟨ρ, hρ, hc, hf, hg⟩ := eval_is a
        rw [hρ] at h107 ⊢
        simp [go_sem, hc, h107, hmp]
      refine steps_cons (fun a w hk hn => ?_) ?_
      · have h108 : a.eval (.tmp 108) = .pointer (some ⟨gw, 0, none⟩) := hn.1
        clear hn
        refine wants_plain rfl ?_
        refine grown_run (v := .slice ax nx cx) ?_ (Kp.refl _ _) rfl
        have hcell := unhide HXC w hk
        obtain ⟨ρ, hρ, hc, hf, hg⟩ := eval_is a
        rw [hρ] at h108 ⊢
        simp [go_sem, h108, hcell]
      exact trivial
    intro W1 hkW1
    rintro _ rfl
    rintro _ rfl
    rintro _ rfl
    rintro _ rfl
    rintro _ rfl
    rintro _ rfl
    refine fin_nil ?_
    simp only [Act.put, List.set_cons_zero, List.set_cons_succ, List.setIfInBounds_toArray]
    obtain ⟨wD, hwD⟩ : ∃ x, x = W1 := ⟨_, rfl⟩
    have KdD : Kp [] wd W1 := (kp_drew wd).trans hkW1
    have RSD := (unhide HRS).kept KdD
    obtain ⟨gx, egx, -, -, -, hcx, hfx⟩ := RSD.spot (by omega)
    injection egx with egx
    injection egx with egx
    subst egx
    obtain ⟨u1, hu1⟩ := hcx 1 (by omega)
    have hf1 := hfx 1
    rw [← hwD] at hu1 hf1 KdD RSD ⊢
    have HRSD := hide RSD
    have HKdD := hide KdD
    clear hwD hkW1 RSD KdD hcx hfx HT12 HXC
    obtain ⟨wE, hwE⟩ : ∃ x, x = wD.setCell ⟨gw, 1, none⟩ (.slice ax nx cx) := ⟨_, rfl⟩
    have KS : Kp [gw] wD wE := by rw [hwE]; exact setCell_kp wD gw 1 _
    have hSetR : RowS wE w9.heap.size (.slice (some ⟨gw, 0, none⟩) mw cw) (l2.set 1 x) := by
      have := RowS.set (unhide HRSD) 1 x ((unhide HSx).kept (unhide HKdD) (by simp)) (unhide HBx) (fun h => unhide HAP gw h rfl)
      rw [unhide HXV] at this
      rw [hwE]
      exact this
    have hgw12 : g12 ≠ gw := fun e => by
      have h1 := (unhide HKdD).heap (unhide HG12d) (by simp)
      obtain ⟨cc, hcc⟩ := rowv_ty (unhide HRSD).1 (k := gw) rfl
      rw [← e, h1] at hcc
      injection hcc with hcc
      injection hcc with _ hcc
      cases hcc
    have HKdE : Hid (Kp [] w9 wE) := ((unhide HK9d).trans (unhide HKdD)).then KS (fun i hi => .inr (by simp at hi; omega))
    have HG12E : Hid (wE.heap[g12]? = some (.cells #[.slice bl bm bk, .slice (some ⟨gw, 0, none⟩) mw cw, .int .i64 1] 42 (0, 0))) := hide (KS.heap ((unhide HKdD).heap (unhide HG12d) (by simp)) (by simp; omega))
    obtain ⟨p2, hp2⟩ : ∃ p : Po, p = ⟨hashX 9, (l2.set 1 x).map (·.2), 1⟩ := ⟨_, rfl⟩
    have hSlE : Sl wE (.slice bl bm bk) (hashX 9) := by
      refine Sl.apart ((unhide HSd).kept (unhide HKdD) (by simp)) KS (fun i hi hm => ?_)
      have e : i = gw := by simpa using hm
      subst e
      exfalso
      have hne : hashX 9 ≠ [] := fun e => by have := hashX_len 9; rw [e] at this; simp at this
      obtain ⟨cc, hcc⟩ := rowv_ty (unhide HRSD).1 (k := i) rfl
      obtain ⟨cc2, hcc2⟩ := row_ty (unhide HLOG) hi
      rw [(unhide HKdD).heap hcc2 (by simp)] at hcc
      injection hcc with hcc
      injection hcc with _ hcc
      cases hcc
    have HP2E : Hid (PoV wE (.agg #[.slice bl bm bk, .slice (some ⟨gw, 0, none⟩) mw cw, .int .i64 1]) p2) := hide (by
      rw [hp2]
      exact ⟨bl, bm, bk, _, mw, cw, l2.set 1 x, rfl, ⟨hSlE, hashX_bs 9⟩, lc_of_owns hSetR.1 (hSetR.lists (by rw [List.length_set]; omega)), rfl⟩)
    have Hp2R : Hid (false = p2.rgt) := hide (by
      rw [hp2]
      refine (p2_no _ (by simp [hl2n]) ?_ _ _).symm
      have h0 : ((l2.set 1 x).map (·.2)).getD 0 [] = x.2 := by
        rw [unhide HXE]
        match l2, hl2n with
        | [p, q], _ => rfl
      have h1 : ((l2.set 1 x).map (·.2)).getD 1 [] = x.2 := by
        match l2, hl2n with
        | [p, q], _ => rfl
      rw [h0, h1])
    have HWE := hide hwE
    clear hwE KS hSetR hSlE hp2 HRSD HKdD HG12d HSd HAd HRS HSx HBx HAP
    have HOE := hide ((unhide HO9).kept (unhide HKdE))
    have HPl := hide (policy_any _ 1 1 wE ((unhide HOE).take (by omega)) (by omega))
    go_wp2_with fail
    rw [← unhide HWE]
    refine (unhide HPl).mono ?_
    rintro ee wf ⟨sl, sm0, sk0, sw, sm, sk, rfl, Sf, Af⟩
    have HAf := hide Af
    clear HPl Sf Af hu1 hf1
    have Ga := heap_alloc_new wf (.cells #[.slice none 0 0, .slice none 0 0, .int .i64 0] 42)
    have HKa : Hid (Kp [] wf (wf.alloc (.cells #[.slice none 0 0, .slice none 0 0, .int .i64 0] 42))) := (Kp.refl [] wf).alloc _
    go_wp2_with (refine wpList_store_flat rfl 42 (.tmp 13) (.tmp 113) rfl wf.heap.size 0 rfl _ _ [.slice sl sm0 sk0, .slice sw sm sk, .int .i64 1] Ga rfl (by simp) Tryd.polSize (by simp [Value.oneCell']) #[.slice sl sm0 sk0, .slice sw sm sk, .int .i64 1] rfl ?_; intro wg Gwg Kwg; refine Hid.out ?_)
    obtain ⟨g13, hg13⟩ : ∃ g, g = wf.heap.size := ⟨_, rfl⟩
    have Kwfwg : Kp [] wf wg := (unhide HKa).then Kwg (fun i hi => .inr (by simp at hi; omega))
    rw [← hg13] at Gwg ⊢
    have HHg13 := hide hg13
    clear hg13
    have HAg : Hid (ARt wE.heap.size (ownK 1) (.slice sw sm sk) wg) := stable_ar _ _ _ _ _ Kwfwg ((unhide HAf).ar (Nat.le_refl _))
    have HKEg := hide ((unhide HAf).kp.trans Kwfwg)
    have d0 : wg.cell? ⟨g13, 0, none⟩ = some (.slice sl sm0 sk0) := by rw [cell_of_row wg g13 0 _ _ _ Gwg]; rfl
    have b0 : wg.frozen? ⟨g13, 0, none⟩ = false := frozen_of_row wg g13 0 _ _ Gwg
    obtain ⟨wF, hwF⟩ : ∃ x, x = wg.setCell ⟨g13, 0, none⟩ (.slice none 0 0) := ⟨_, rfl⟩
    have KgF : Kp [g13] wg wF := by rw [hwF]; exact setCell_kp wg g13 0 _
    have HG13F : Hid (wF.heap[g13]? = some (.cells #[.slice none 0 0, .slice sw sm sk, .int .i64 1] 42 (0, 0))) := hide (by
      rw [hwF]
      have := heap_setCell_same wg g13 0 _ _ (.slice none 0 0) Gwg
      simpa using this)
    have hgE13 : wE.heap.size ≤ g13 := by rw [unhide HHg13]; exact (unhide HAf).kp.size
    have HAf2 : Hid (ARt wE.heap.size (ownK 1) (.slice sw sm sk) wF) := hide (ar_offT (unhide HAg) Gwg KgF)
    have HKEF : Hid (Kp [] wE wF) := (unhide HKEg).then KgF (fun i hi => .inr (by simp at hi; omega))
    obtain ⟨p1, hp1⟩ : ∃ p : Po, p = ⟨[], ownK 1, 1⟩ := ⟨_, rfl⟩
    have HP1F : Hid (PoV wF (.agg #[.slice none 0 0, .slice sw sm sk, .int .i64 1]) p1) := hide (by
      rw [hp1]
      obtain ⟨a', m', c', l1, el, h1, h2⟩ := unhide HAf2
      cases el
      exact ⟨none, 0, 0, sw, sm, sk, l1, rfl, ⟨Sl.nil _, fun b hb => by cases hb⟩, lc_of_owns h1.1 (h1.lists (by rw [← List.length_map (f := (·.2)), h2, ownK_len]; omega)), h2⟩)
    have Hp1R : Hid (false = p1.rgt) := hide (by rw [hp1]; exact (p1_no _ _).symm)
    have HWF := hide hwF
    clear Ga HKa Kwg Kwfwg hwF KgF hp1 HAf HKEg HAg
    refine hide ?_
    have K9F := (unhide HKdE).trans (unhide HKEF)
    have HG11F := hide (K9F.heap (unhide HG119) (by simp))
    have HG12F := hide ((unhide HKEF).heap (unhide HG12E) (by simp))
    have Hp5F := hide ((unhide HP59).kept K9F)
    have Hp2F := hide ((unhide HP2E).kept (unhide HKEF))
    have Hp1F := hide (unhide HP1F)
    have K4F := (unhide HKr).trans ((unhide HKo9).trans K9F)
    obtain ⟨go, base, hx, hOw⟩ := unhide HCELL 0 (by omega)
    obtain ⟨sa, sn, sc, gl5, c5, hs0, -, hSs, -⟩ := hOw.open
    rw [Nat.add_zero] at hx
    have HXs := hide (K4F.cell hx (by simp))
    have HSs := hide (K4F.cell hs0 (by simp))
    have HSSs : Hid (Sl wF (.slice sa sn sc) (seedX 0)) := hide (hSs.kept K4F (by simp))
    have HCs := hide ((unhide HC4).kept K4F)
    have HKs := hide ((unhide HK4).trans K4F)
    have HG2s := hide (K4F.heap (unhide HG24) (by simp))
    clear hx hOw hs0 hSs K4F K9F
    have HD : Hid (∀ w', Kp [] wF.drew w' → Kp [] wF w') := fun w' k' => (kp_drew wF).trans k'
    have HT2 : Hid (∀ w', Kp [] wF.drew w' → w'.heap[g2]? = some (.cells #[.int .i64 2, .slice ar mr cr] 27 (0, 0))) := fun w' k' => (unhide HD w' k').heap (unhide HG2s) (by simp)
    have HXO : Hid (∀ w', Kp [] wF.drew w' → w'.cell? ⟨bo, oo, none⟩ = some (.pointer (some ⟨go, 0, none⟩))) := fun w' k' => (unhide HD w' k').cell (unhide HXs) (by simp)
    have HXS : Hid (∀ w', Kp [] wF.drew w' → w'.cell? ⟨go, 0, none⟩ = some (.slice sa sn sc)) := fun w' k' => (unhide HD w' k').cell (unhide HSs) (by simp)
    have HSS : Hid (∀ w', Kp [] wF.drew w' → Sl w' (.slice sa sn sc) (seedX 0)) := fun w' k' => (unhide HSSs).kept (unhide HD w' k') (by simp)
    have HCV : Hid (∀ w', Kp [] wF.drew w' → CkV w' (.agg #[.int .i64 2, .slice ar mr cr]) 2 (hashX 3)) := fun w' k' => (unhide HCs).kept (unhide HD w' k')
    have HGW : Hid (∀ w', Kp [] wF.drew w' → Gl w') := fun w' k' => (unhide HG).kept ((unhide HKs).trans (unhide HD w' k')) (by simp)
    go_wp2_with fail
    rw [← unhide HWF]
    clear d0 b0
    refine region_growL (K := KN wF.drew.heap.size) (G := GN wF.drew 13 14 125) Tryd.mixed [Is (.slice (some ⟨bo, oo, none⟩) 4 co), Is (.pointer (some ⟨bo, oo, none⟩)), Is (.pointer (some ⟨go, 0, none⟩)), Is (.pointer (some ⟨go, 0, none⟩)), Is (.pointer (some ⟨go, 0, none⟩)), Is (.slice sa sn sc), SlT (hashX 1), CkT (-1) (hashX 1), PrT wF.drew.heap.size co0 12, PrT wF.drew.heap.size co0 12, CoAT wF.drew.heap.size co0, Is (.int .i64 12), NewX wF.drew.heap.size, AnyT, Is (.int .i64 12)] [[(1, none)], [(116, some 0)], [(117, some 1)], [(118, some 2)], [(119, some 3)], [(120, some 4)], [], [(122, some 6)], [(121, some 5), (123, some 7)], [(124, some 8)], [(115, some 9)], [(115, some 9)], [], [(14, some 12), (125, some 10)], [(126, some 11)]] (by kernel_rfl) ?_ ?_ ?_ ?_ ?_
    · intro k R hR hd w'
      have hk : k < 15 := by have := (List.getElem?_eq_some_iff.1 hR).1; simpa using this
      rcases (by omega : k = 0 ∨ k = 1 ∨ k = 2 ∨ k = 3 ∨ k = 4 ∨ k = 5 ∨ k = 6 ∨ k = 7 ∨ k = 8 ∨ k = 9 ∨ k = 10 ∨ k = 11 ∨ k = 12 ∨ k = 13 ∨ k = 14) with rfl | rfl | rfl | rfl | rfl | rfl | rfl | rfl | rfl | rfl | rfl | rfl | rfl | rfl | rfl <;> first | (cases hR; exact trivial) | cases hd
    · simp only [List.mem_cons, List.not_mem_nil, or_false]
      intro R hR
      rcases hR with rfl | rfl | rfl | rfl | rfl | rfl | rfl | rfl | rfl | rfl | rfl | rfl | rfl | rfl | rfl <;> first | exact stableN_is _ | exact stableN_sl _ | exact stableN_any | exact stableN_new _ | exact stableN_coat _ co0_big (Nat.le_refl _) | exact stableN_prt _ _ co0_big (Nat.le_refl _) | exact stableN_ck _ _
    · exact ⟨Kp.refl _ _, fun h => by simp at h⟩
    · refine steps_consL (fun listed a w hnot hdep hcl hsz hg hn => ?_) ?_
      · have h1 : a.eval (.tmp 1) = .slice (some ⟨bo, oo, none⟩) 4 co := hn.1
        clear hn
        have hk := hg.1
        refine wantsG_of1M (fun _ k => .inl k) (fun v w' k => hg.free 0 (by decide) 116 (fun h => absurd h (by decide)) v k) ?_
        refine wants_plain rfl ?_
        exact grown_move (.tmp 1) rfl h1
      refine steps_consL (fun listed a w hnot hdep hcl hsz hg hn => ?_) ?_
      · have h116 : a.eval (.tmp 116) = .slice (some ⟨bo, oo, none⟩) 4 co := hn.1
        clear hn
        have hk := hg.1
        refine wantsG_of1M (fun _ k => .inl k) (fun v w' k => hg.free 1 (by decide) 117 (fun h => absurd h (by decide)) v k) ?_
        refine wants_plain rfl ?_
        refine grown_run (v := .pointer (some ⟨bo, oo, none⟩)) ?_ (Kp.refl _ _) rfl
        obtain ⟨ρ, hρ, hc, hf, hg⟩ := eval_is a
        rw [hρ] at h116 ⊢
        simp [go_sem, hc, h116]
      refine steps_consL (fun listed a w hnot hdep hcl hsz hg hn => ?_) ?_
      · have h117 : a.eval (.tmp 117) = .pointer (some ⟨bo, oo, none⟩) := hn.1
        clear hn
        have hk := hg.1
        refine wantsG_of1M (fun _ k => .inl k) (fun v w' k => hg.free 2 (by decide) 118 (fun h => absurd h (by decide)) v k) ?_
        refine wants_plain rfl ?_
        refine grown_run (v := .pointer (some ⟨go, 0, none⟩)) ?_ (Kp.refl _ _) rfl
        have hcell := unhide HXO w hk
        obtain ⟨ρ, hρ, hc, hf, hg⟩ := eval_is a
        rw [hρ] at h117 ⊢
        simp [go_sem, h117, hcell]
      refine steps_consL (fun listed a w hnot hdep hcl hsz hg hn => ?_) ?_
      · have h118 : a.eval (.tmp 118) = .pointer (some ⟨go, 0, none⟩) := hn.1
        clear hn
        have hk := hg.1
        refine wantsG_of1M (fun _ k => .inl k) (fun v w' k => hg.free 3 (by decide) 119 (fun h => absurd h (by decide)) v k) ?_
        refine wants_plain rfl ?_
        refine grown_run (v := .pointer (some ⟨go, 0, none⟩)) ?_ (Kp.refl _ _) rfl
        obtain ⟨ρ, hρ, hc, hf, hg⟩ := eval_is a
        rw [hρ] at h118 ⊢
        simp [go_sem, h118]
      refine steps_consL (fun listed a w hnot hdep hcl hsz hg hn => ?_) ?_
      · have h119 : a.eval (.tmp 119) = .pointer (some ⟨go, 0, none⟩) := hn.1
        clear hn
        have hk := hg.1
        refine wantsG_of1M (fun _ k => .inl k) (fun v w' k => hg.free 4 (by decide) 120 (fun h => absurd h (by decide)) v k) ?_
        refine wants_plain rfl ?_
        refine grown_run (v := .pointer (some ⟨go, 0, none⟩)) ?_ (Kp.refl _ _) rfl
        obtain ⟨ρ, hρ, hc, hf, hg⟩ := eval_is a
        rw [hρ] at h119 ⊢
        simp [go_sem, h119]
      refine steps_consL (fun listed a w hnot hdep hcl hsz hg hn => ?_) ?_
      · have h120 : a.eval (.tmp 120) = .pointer (some ⟨go, 0, none⟩) := hn.1
        clear hn
        have hk := hg.1
        refine wantsG_of1M (fun _ k => .inl k) (fun v w' k => hg.free 5 (by decide) 121 (fun h => absurd h (by decide)) v k) ?_
        refine wants_plain rfl ?_
        refine grown_run (v := .slice sa sn sc) ?_ (Kp.refl _ _) rfl
        have hcell := unhide HXS w hk
        obtain ⟨ρ, hρ, hc, hf, hg⟩ := eval_is a
        rw [hρ] at h120 ⊢
        simp [go_sem, h120, hcell]
      refine steps_consL (fun listed a w hnot hdep hcl hsz hg hn => ?_) ?_
      · clear hn
        have hk := hg.1
        refine wantsG_of1M (fun _ k => .inl k) (fun v w' k => hg.free 6 (by decide) 122 (fun h => absurd h (by decide)) v k) ?_
        refine wants_plain rfl ?_
        refine grown_call (f := 9) rfl Tryd.func9 (by kernel_rfl) (by kernel_rfl) ?_
        simp only [List.map_toArray, List.map_cons, List.map_nil]
        refine (xhash_any 1 w).mono ?_
        rintro e w' ⟨ao, m, c, rfl, R, K⟩
        exact ⟨_, rfl, K, R.sl⟩
      refine steps_consL (fun listed a w hnot hdep hcl hsz hg hn => ?_) ?_
      · have h122 : Sl w (a.eval (.tmp 122)) (hashX 1) := hn.1
        clear hn
        have hk := hg.1
        refine wantsG_of1M (fun _ k => .inl k) (fun v w' k => hg.free 7 (by decide) 123 (fun h => absurd h (by decide)) v k) ?_
        refine wants_plain rfl ?_
        exact grown_bck (-1) rfl h122 (hashX_bs 1)
      refine steps_consL (fun listed a w hnot hdep hcl hsz hg hn => ?_) ?_
      · have h121 : a.eval (.tmp 121) = .slice sa sn sc := hn.1
        have h123 : (CkT (-1) (hashX 1)) (a.eval (.tmp 123)) w := hn.2.1
        clear hn
        have hk := hg.1
        refine wantsG_of1M (fun _ k => .inl k) (fun v w' k => hg.free 8 (by decide) 124 (fun h => absurd h (by decide)) v k) ?_
        refine wants_plain rfl ?_
        refine grown_call (f := 10) rfl Tryd.func10 (by kernel_rfl) (by kernel_rfl) ?_
        simp only [List.map_toArray, List.map_cons, List.map_nil, h121]
        refine (csign_form _ (seedX 0) 0 0 _ (-1) (hashX 1) w (unhide HSS w hk) (by omega) (by decide) h123).mono ?_
        rintro e w' ⟨rfl, K⟩
        exact ⟨_, rfl, K, ⟨_, rfl, coA_zero _ _⟩⟩
      refine steps_consL (fun listed a w hnot hdep hcl hsz hg hn => ?_) ?_
      · have h124 : (PrT wF.drew.heap.size co0 12) (a.eval (.tmp 124)) w := hn.1
        clear hn
        have hk := hg.1
        refine wantsG_of1M (fun _ k => .inl k) (fun v w' k => hg.free 9 (by decide) 115 (fun h => absurd h (by decide)) v k) ?_
        refine wants_plain rfl ?_
        exact grown_move (.tmp 124) rfl h124
      refine steps_consL (fun listed a w hnot hdep hcl hsz hg hn => ?_) ?_
      · have h115 : (PrT wF.drew.heap.size co0 12) (a.eval (.tmp 115)) w := hn.1
        clear hn
        have hk := hg.1
        refine wantsG_of1M (fun _ k => .inl k) (fun v w' k => hg.free 10 (by decide) 125 (fun _ => lstM hcl 13 10 rfl (by decide) hnot) v k) ?_
        refine wants_plain rfl ?_
        exact grown_x0 (.tmp 115) rfl _ _ _ h115
      refine steps_consL (fun listed a w hnot hdep hcl hsz hg hn => ?_) ?_
      · have h115 : (PrT wF.drew.heap.size co0 12) (a.eval (.tmp 115)) w := hn.1
        clear hn
        have hk := hg.1
        refine wantsG_of1M (fun _ k => .inl k) (fun v w' k => hg.free 11 (by decide) 126 (fun h => absurd h (by decide)) v k) ?_
        refine wants_plain rfl ?_
        exact grown_x1 (.tmp 115) rfl _ _ _ h115
      refine steps_consL (fun listed a w hnot hdep hcl hsz hg hn => ?_) ?_
      · clear hn
        have hk := hg.1
        refine wantsG_of1M (fun _ k => .inl k) (fun v w' k => hg.free 12 (by decide) 14 (fun _ => lstM hcl 13 12 rfl (by decide) hnot) v k) ?_
        refine wants_plain rfl ?_
        exact grown_newx _ hk.size rfl
      refine steps_consL (fun listed a w hnot hdep hcl hsz hg hn => ?_) ?_
      · have h14 : (NewX wF.drew.heap.size) (a.eval (.tmp 14)) w := hn.1
        have h125 : (CoAT wF.drew.heap.size co0) (a.eval (.tmp 125)) w := hn.2.1
        clear hn
        exact hg.st hsz rfl rfl rfl h14 h125
      refine steps_consL (fun listed a w hnot hdep hcl hsz hg hn => ?_) ?_
      · have h126 : a.eval (.tmp 126) = .int .i64 12 := hn.1
        clear hn
        have hk := hg.1
        refine wantsG_of1M (fun _ k => .inl k) (fun v w' k => hg.free 14 (by decide) 15 (fun h => absurd h (by decide)) v k) ?_
        refine wants_plain rfl ?_
        exact grown_assign (.tmp 126) rfl h126
      exact trivial
    intro W27
    rintro _ rfl
    rintro _ rfl
    rintro _ rfl
    rintro _ rfl
    rintro _ rfl
    rintro _ rfl
    intro v122 h122
    intro v123 h123
    intro v124 h124
    intro v115 h115
    intro v125 h125
    rintro _ rfl
    intro v14 h14
    intro _ _
    rintro _ rfl
    refine fin_nil ?_
    intro listed hall hgg
    obtain ⟨hkW27, hst⟩ := hgg
    obtain ⟨gst, cst, est, evt, Gst⟩ := hst (hall 13 (by decide))
    simp only [Act.put, List.set_cons_zero, List.set_cons_succ, List.setIfInBounds_toArray] at est evt ⊢
    obtain ⟨wG, hwG⟩ : ∃ x, x = W27 := ⟨_, rfl⟩
    have KFG := unhide HD W27 hkW27
    obtain ⟨g14, e14, -, -⟩ := h14
    subst e14
    rw [← hwG] at KFG ⊢
    have HG11G := hide (KFG.heap (unhide HG11F) (by simp))
    have Hp5G := hide ((unhide Hp5F).kept KFG)
    have HG12G := hide (KFG.heap (unhide HG12F) (by simp))
    have Hp2G := hide ((unhide Hp2F).kept KFG)
    have HG13G := hide (KFG.heap (unhide HG13F) (by simp))
    have Hp1G := hide ((unhide Hp1F).kept KFG)
    have XXs := hide (KFG.cell (unhide HXs) (by simp))
    have SSs := hide (KFG.cell (unhide HSs) (by simp))
    have SSSs := hide ((unhide HSSs).kept KFG (by simp))
    have CCs := hide ((unhide HCs).kept KFG)
    have KKs := hide ((unhide HKs).trans KFG)
    have G2G := hide (KFG.heap (unhide HG2s) (by simp))
    clear hwG KFG hkW27 hall hst h122 h123 h124 h115 h125 est evt Gst HD HT2 HXO HXS HSS HCV HGW HXs HSs HSSs HCs HKs HG2s HG11F HG12F HG13F Hp5F Hp2F Hp1F
    have HXs := hide (unhide XXs)
    have HSs := hide (unhide SSs)
    have HSSs := hide (unhide SSSs)
    have HCs := hide (unhide CCs)
    have HKs := hide (unhide KKs)
    have HG2s := hide (unhide G2G)
    clear XXs SSs SSSs CCs KKs G2G
    have HD : Hid (∀ w', Kp [] wG.drew w' → Kp [] wG w') := fun w' k' => (kp_drew wG).trans k'
    have HT2 : Hid (∀ w', Kp [] wG.drew w' → w'.heap[g2]? = some (.cells #[.int .i64 2, .slice ar mr cr] 27 (0, 0))) := fun w' k' => (unhide HD w' k').heap (unhide HG2s) (by simp)
    have HXO : Hid (∀ w', Kp [] wG.drew w' → w'.cell? ⟨bo, oo, none⟩ = some (.pointer (some ⟨go, 0, none⟩))) := fun w' k' => (unhide HD w' k').cell (unhide HXs) (by simp)
    have HXS : Hid (∀ w', Kp [] wG.drew w' → w'.cell? ⟨go, 0, none⟩ = some (.slice sa sn sc)) := fun w' k' => (unhide HD w' k').cell (unhide HSs) (by simp)
    have HSS : Hid (∀ w', Kp [] wG.drew w' → Sl w' (.slice sa sn sc) (seedX 0)) := fun w' k' => (unhide HSSs).kept (unhide HD w' k') (by simp)
    have HCV : Hid (∀ w', Kp [] wG.drew w' → CkV w' (.agg #[.int .i64 2, .slice ar mr cr]) 2 (hashX 3)) := fun w' k' => (unhide HCs).kept (unhide HD w' k')
    have HGW : Hid (∀ w', Kp [] wG.drew w' → Gl w') := fun w' k' => (unhide HG).kept ((unhide HKs).trans (unhide HD w' k')) (by simp)
    go_wp2_with fail
    refine region_growL (K := KN wG.drew.heap.size) (G := GN wG.drew 12 16 136) Tryd.mixed [Is (.slice (some ⟨bo, oo, none⟩) 4 co), Is (.pointer (some ⟨bo, oo, none⟩)), Is (.pointer (some ⟨go, 0, none⟩)), Is (.pointer (some ⟨go, 0, none⟩)), Is (.pointer (some ⟨go, 0, none⟩)), Is (.slice sa sn sc), Is (.agg #[.int .i64 2, .slice ar mr cr]), PrT wG.drew.heap.size co0 23, PrT wG.drew.heap.size co0 23, CoAT wG.drew.heap.size co0, Is (.int .i64 23), NewX wG.drew.heap.size, AnyT, Is (.int .i64 23)] [[(1, none)], [(128, some 0)], [(129, some 1)], [(130, some 2)], [(131, some 3)], [(132, some 4)], [(2, none)], [(133, some 5), (134, some 6)], [(135, some 7)], [(127, some 8)], [(127, some 8)], [], [(16, some 11), (136, some 9)], [(137, some 10)]] (by kernel_rfl) ?_ ?_ ?_ ?_ ?_
    · intro k R hR hd w'
      have hk : k < 14 := by have := (List.getElem?_eq_some_iff.1 hR).1; simpa using this
      rcases (by omega : k = 0 ∨ k = 1 ∨ k = 2 ∨ k = 3 ∨ k = 4 ∨ k = 5 ∨ k = 6 ∨ k = 7 ∨ k = 8 ∨ k = 9 ∨ k = 10 ∨ k = 11 ∨ k = 12 ∨ k = 13) with rfl | rfl | rfl | rfl | rfl | rfl | rfl | rfl | rfl | rfl | rfl | rfl | rfl | rfl <;> first | (cases hR; exact trivial) | cases hd
    · simp only [List.mem_cons, List.not_mem_nil, or_false]
      intro R hR
      rcases hR with rfl | rfl | rfl | rfl | rfl | rfl | rfl | rfl | rfl | rfl | rfl | rfl | rfl | rfl <;> first | exact stableN_is _ | exact stableN_sl _ | exact stableN_any | exact stableN_new _ | exact stableN_coat _ co0_big (Nat.le_refl _) | exact stableN_prt _ _ co0_big (Nat.le_refl _) | exact stableN_ck _ _
    · exact ⟨Kp.refl _ _, fun h => by simp at h⟩
    · refine steps_consL (fun listed a w hnot hdep hcl hsz hg hn => ?_) ?_
      · have h1 : a.eval (.tmp 1) = .slice (some ⟨bo, oo, none⟩) 4 co := hn.1
        clear hn
        have hk := hg.1
        refine wantsG_of1M (fun _ k => .inl k) (fun v w' k => hg.free 0 (by decide) 128 (fun h => absurd h (by decide)) v k) ?_
        refine wants_plain rfl ?_
        exact grown_move (.tmp 1) rfl h1
      refine steps_consL (fun listed a w hnot hdep hcl hsz hg hn => ?_) ?_
      · have h128 : a.eval (.tmp 128) = .slice (some ⟨bo, oo, none⟩) 4 co := hn.1
        clear hn
        have hk := hg.1
        refine wantsG_of1M (fun _ k => .inl k) (fun v w' k => hg.free 1 (by decide) 129 (fun h => absurd h (by decide)) v k) ?_
        refine wants_plain rfl ?_
        refine grown_run (v := .pointer (some ⟨bo, oo, none⟩)) ?_ (Kp.refl _ _) rfl
        obtain ⟨ρ, hρ, hc, hf, hg⟩ := eval_is a
        rw [hρ] at h128 ⊢
        simp [go_sem, hc, h128]
      refine steps_consL (fun listed a w hnot hdep hcl hsz hg hn => ?_) ?_
      · have h129 : a.eval (.tmp 129) = .pointer (some ⟨bo, oo, none⟩) := hn.1
        clear hn
        have hk := hg.1
        refine wantsG_of1M (fun _ k => .inl k) (fun v w' k => hg.free 2 (by decide) 130 (fun h => absurd h (by decide)) v k) ?_
        refine wants_plain rfl ?_
        refine grown_run (v := .pointer (some ⟨go, 0, none⟩)) ?_ (Kp.refl _ _) rfl
        have hcell := unhide HXO w hk
        obtain ⟨ρ, hρ, hc, hf, hg⟩ := eval_is a
        rw [hρ] at h129 ⊢
        simp [go_sem, h129, hcell]
      refine steps_consL (fun listed a w hnot hdep hcl hsz hg hn => ?_) ?_
      · have h130 : a.eval (.tmp 130) = .pointer (some ⟨go, 0, none⟩) := hn.1
        clear hn
        have hk := hg.1
        refine wantsG_of1M (fun _ k => .inl k) (fun v w' k => hg.free 3 (by decide) 131 (fun h => absurd h (by decide)) v k) ?_
        refine wants_plain rfl ?_
        refine grown_run (v := .pointer (some ⟨go, 0, none⟩)) ?_ (Kp.refl _ _) rfl
        obtain ⟨ρ, hρ, hc, hf, hg⟩ := eval_is a
        rw [hρ] at h130 ⊢
        simp [go_sem, h130]
      refine steps_consL (fun listed a w hnot hdep hcl hsz hg hn => ?_) ?_
      · have h131 : a.eval (.tmp 131) = .pointer (some ⟨go, 0, none⟩) := hn.1
        clear hn
        have hk := hg.1
        refine wantsG_of1M (fun _ k => .inl k) (fun v w' k => hg.free 4 (by decide) 132 (fun h => absurd h (by decide)) v k) ?_
        refine wants_plain rfl ?_
        refine grown_run (v := .pointer (some ⟨go, 0, none⟩)) ?_ (Kp.refl _ _) rfl
        obtain ⟨ρ, hρ, hc, hf, hg⟩ := eval_is a
        rw [hρ] at h131 ⊢
        simp [go_sem, h131]
      refine steps_consL (fun listed a w hnot hdep hcl hsz hg hn => ?_) ?_
      · have h132 : a.eval (.tmp 132) = .pointer (some ⟨go, 0, none⟩) := hn.1
        clear hn
        have hk := hg.1
        refine wantsG_of1M (fun _ k => .inl k) (fun v w' k => hg.free 5 (by decide) 133 (fun h => absurd h (by decide)) v k) ?_
        refine wants_plain rfl ?_
        refine grown_run (v := .slice sa sn sc) ?_ (Kp.refl _ _) rfl
        have hcell := unhide HXS w hk
        obtain ⟨ρ, hρ, hc, hf, hg⟩ := eval_is a
        rw [hρ] at h132 ⊢
        simp [go_sem, h132, hcell]
      refine steps_consL (fun listed a w hnot hdep hcl hsz hg hn => ?_) ?_
      · have h2 : a.eval (.tmp 2) = .pointer (some ⟨g2, 0, none⟩) := hn.1
        clear hn
        have hk := hg.1
        refine wantsG_of1M (fun _ k => .inl k) (fun v w' k => hg.free 6 (by decide) 134 (fun h => absurd h (by decide)) v k) ?_
        refine wants_plain rfl ?_
        exact grown_loadf 27 (.tmp 2) rfl g2 0 h2 _ _ _ _ (unhide HT2 w hk) [.int .i64 2, .slice ar mr cr] (flat_in rfl) Tryd.underlying27 rfl Tryd.chkSize rfl
      refine steps_consL (fun listed a w hnot hdep hcl hsz hg hn => ?_) ?_
      · have h133 : a.eval (.tmp 133) = .slice sa sn sc := hn.1
        have h134 : a.eval (.tmp 134) = .agg #[.int .i64 2, .slice ar mr cr] := hn.2.1
        clear hn
        have hk := hg.1
        refine wantsG_of1M (fun _ k => .inl k) (fun v w' k => hg.free 7 (by decide) 135 (fun h => absurd h (by decide)) v k) ?_
        refine wants_plain rfl ?_
        refine grown_call (f := 10) rfl Tryd.func10 (by kernel_rfl) (by kernel_rfl) ?_
        simp only [List.map_toArray, List.map_cons, List.map_nil, h133, h134]
        refine (csign_used _ (seedX 0) 16 0 _ 2 (hashX 3) w (unhide HSS w hk) (seedX_len _) (by omega) (by omega) ck2_rgt (unhide HCV w hk)).mono ?_
        rintro e w' ⟨rfl, K⟩
        exact ⟨_, rfl, K, ⟨_, rfl, coA_zero _ _⟩⟩
      refine steps_consL (fun listed a w hnot hdep hcl hsz hg hn => ?_) ?_
      · have h135 : (PrT wG.drew.heap.size co0 23) (a.eval (.tmp 135)) w := hn.1
        clear hn
        have hk := hg.1
        refine wantsG_of1M (fun _ k => .inl k) (fun v w' k => hg.free 8 (by decide) 127 (fun h => absurd h (by decide)) v k) ?_
        refine wants_plain rfl ?_
        exact grown_move (.tmp 135) rfl h135
      refine steps_consL (fun listed a w hnot hdep hcl hsz hg hn => ?_) ?_
      · have h127 : (PrT wG.drew.heap.size co0 23) (a.eval (.tmp 127)) w := hn.1
        clear hn
        have hk := hg.1
        refine wantsG_of1M (fun _ k => .inl k) (fun v w' k => hg.free 9 (by decide) 136 (fun _ => lstM hcl 12 9 rfl (by decide) hnot) v k) ?_
        refine wants_plain rfl ?_
        exact grown_x0 (.tmp 127) rfl _ _ _ h127
      refine steps_consL (fun listed a w hnot hdep hcl hsz hg hn => ?_) ?_
      · have h127 : (PrT wG.drew.heap.size co0 23) (a.eval (.tmp 127)) w := hn.1
        clear hn
        have hk := hg.1
        refine wantsG_of1M (fun _ k => .inl k) (fun v w' k => hg.free 10 (by decide) 137 (fun h => absurd h (by decide)) v k) ?_
        refine wants_plain rfl ?_
        exact grown_x1 (.tmp 127) rfl _ _ _ h127
      refine steps_consL (fun listed a w hnot hdep hcl hsz hg hn => ?_) ?_
      · clear hn
        have hk := hg.1
        refine wantsG_of1M (fun _ k => .inl k) (fun v w' k => hg.free 11 (by decide) 16 (fun _ => lstM hcl 12 11 rfl (by decide) hnot) v k) ?_
        refine wants_plain rfl ?_
        exact grown_newx _ hk.size rfl
      refine steps_consL (fun listed a w hnot hdep hcl hsz hg hn => ?_) ?_
      · have h16 : (NewX wG.drew.heap.size) (a.eval (.tmp 16)) w := hn.1
        have h136 : (CoAT wG.drew.heap.size co0) (a.eval (.tmp 136)) w := hn.2.1
        clear hn
        exact hg.st hsz rfl rfl rfl h16 h136
      refine steps_consL (fun listed a w hnot hdep hcl hsz hg hn => ?_) ?_
      · have h137 : a.eval (.tmp 137) = .int .i64 23 := hn.1
        clear hn
        have hk := hg.1
        refine wantsG_of1M (fun _ k => .inl k) (fun v w' k => hg.free 13 (by decide) 17 (fun h => absurd h (by decide)) v k) ?_
        refine wants_plain rfl ?_
        exact grown_assign (.tmp 137) rfl h137
      exact trivial
    intro W28
    rintro _ rfl
    rintro _ rfl
    rintro _ rfl
    rintro _ rfl
    rintro _ rfl
    rintro _ rfl
    rintro _ rfl
    intro v135 h135
    intro v127 h127
    intro v136 h136
    rintro _ rfl
    intro v16 h16
    intro _ _
    rintro _ rfl
    refine fin_nil ?_
    intro listed hall hgg
    obtain ⟨hkW28, hst⟩ := hgg
    obtain ⟨gst, cst, est, evt, Gst⟩ := hst (hall 12 (by decide))
    simp only [Act.put, List.set_cons_zero, List.set_cons_succ, List.setIfInBounds_toArray] at est evt ⊢
    obtain ⟨wH, hwH⟩ : ∃ x, x = W28 := ⟨_, rfl⟩
    have KGH := unhide HD W28 hkW28
    obtain ⟨g16, e16, -, -⟩ := h16
    subst e16
    rw [← hwH] at KGH ⊢
    have HG11H := hide (KGH.heap (unhide HG11G) (by simp))
    have Hp5H := hide ((unhide Hp5G).kept KGH)
    have HG12H := hide (KGH.heap (unhide HG12G) (by simp))
    have Hp2H := hide ((unhide Hp2G).kept KGH)
    have HG13H := hide (KGH.heap (unhide HG13G) (by simp))
    have Hp1H := hide ((unhide Hp1G).kept KGH)
    have XXs := hide (KGH.cell (unhide HXs) (by simp))
    have SSs := hide (KGH.cell (unhide HSs) (by simp))
    have SSSs := hide ((unhide HSSs).kept KGH (by simp))
    have CCs := hide ((unhide HCs).kept KGH)
    have KKs := hide ((unhide HKs).trans KGH)
    have G2G := hide (KGH.heap (unhide HG2s) (by simp))
    clear hwH KGH hkW28 hall hst h135 h127 h136 est evt Gst HD HT2 HXO HXS HSS HCV HGW HXs HSs HSSs HCs HKs HG2s HG11G HG12G HG13G Hp5G Hp2G Hp1G
    have HKD : Hid (∀ w', Kp [] wH.drew w' → Kp [] w w') := fun w' k' => (unhide KKs).trans ((kp_drew wH).trans k')
    have HDH : Hid (∀ w', Kp [] wH.drew w' → Kp [] wH w') := fun w' k' => (kp_drew wH).trans k'
    have HU2 : Hid (∀ w', Kp [] wH.drew w' → w'.heap[g2]? = some (.cells #[.int .i64 2, .slice ar mr cr] 27 (0, 0))) := fun w' k' => (unhide HDH w' k').heap (unhide G2G) (by simp)
    have HCV : Hid (∀ w', Kp [] wH.drew w' → CkV w' (.agg #[.int .i64 2, .slice ar mr cr]) 2 (hashX 3)) := fun w' k' => (unhide CCs).kept (unhide HDH w' k')
    have HGW : Hid (∀ w', Kp [] wH.drew w' → Gl w') := fun w' k' => (unhide HG).kept (unhide HKD w' k') (by simp)
    obtain ⟨p0, hp0⟩ : ∃ p : Po, p = ⟨[], [], 0⟩ := ⟨_, rfl⟩
    have Hp0 : Hid (∀ w', Kp [] wH.drew w' → PoV w' (.agg #[.slice none 0 0, .slice none 0 0, .int .i64 0]) p0) := fun w' k' => by rw [hp0]; exact p0_v w'
    have Hp0R : Hid (false = p0.rgt) := hide (by rw [hp0]; exact p0_no.symm)
    have HU11 : Hid (∀ w', Kp [] wH.drew w' → w'.heap[g11]? = some (.cells #[.slice pl pm pk, .slice pw pn po, .int .i64 1] 42 (0, 0))) := fun w' k' => (unhide HDH w' k').heap (unhide HG11H) (by simp)
    have Hp5 : Hid (∀ w', Kp [] wH.drew w' → PoV w' (.agg #[.slice pl pm pk, .slice pw pn po, .int .i64 1]) p5) := fun w' k' => (unhide Hp5H).kept (unhide HDH w' k')
    have HU12 : Hid (∀ w', Kp [] wH.drew w' → w'.heap[g12]? = some (.cells #[.slice bl bm bk, .slice (some ⟨gw, 0, none⟩) mw cw, .int .i64 1] 42 (0, 0))) := fun w' k' => (unhide HDH w' k').heap (unhide HG12H) (by simp)
    have Hp2 : Hid (∀ w', Kp [] wH.drew w' → PoV w' (.agg #[.slice bl bm bk, .slice (some ⟨gw, 0, none⟩) mw cw, .int .i64 1]) p2) := fun w' k' => (unhide Hp2H).kept (unhide HDH w' k')
    have HU13 : Hid (∀ w', Kp [] wH.drew w' → w'.heap[g13]? = some (.cells #[.slice none 0 0, .slice sw sm sk, .int .i64 1] 42 (0, 0))) := fun w' k' => (unhide HDH w' k').heap (unhide HG13H) (by simp)
    have Hp1 : Hid (∀ w', Kp [] wH.drew w' → PoV w' (.agg #[.slice none 0 0, .slice sw sm sk, .int .i64 1]) p1) := fun w' k' => (unhide Hp1H).kept (unhide HDH w' k')
    obtain ⟨B, hB⟩ : ∃ B, B = bodW 2 (hashX 3) := ⟨_, rfl⟩
    have HBB := hide hB
    obtain ⟨S1, hS1⟩ : ∃ S, S = strOfNums B := ⟨_, rfl⟩
    have HS1 := hide hS1
    clear hp0 hB hS1
    go_wp2_with fail
    refine region_grow Tryd.mixed [Is (.agg #[.slice pl pm pk, .slice pw pn po, .int .i64 1]), Is (.bool false), Is (.bool true), Is (.bool true), Is (.agg #[.slice bl bm bk, .slice (some ⟨gw, 0, none⟩) mw cw, .int .i64 1]), Is (.bool false), Is (.bool true), Is (.bool true), Is (.bool true), Is (.agg #[.slice none 0 0, .slice sw sm sk, .int .i64 1]), Is (.bool false), Is (.bool true), Is (.bool true), Is (.bool true), Is (.agg #[.slice none 0 0, .slice none 0 0, .int .i64 0]), Is (.bool false), Is (.bool true), Is (.bool true), Is (.bool true), Is (.int .i64 12), Is (.bool true), Is (.bool true), Is (.bool true), Is (.int .i64 23), Is (.bool true), Is (.bool true), Is (.bool true), Is (.agg #[.int .i64 2, .slice ar mr cr]), SlT (B), Is (.string S1), Is (.agg #[.int .i64 2, .slice ar mr cr]), SlT (B), Is (.string S1), Is (.bool true), Is (.bool true), Is (.bool true), Is (.bool true), Is (.bool true), Is (.bool true)] [[(11, none)], [(138, some 0)], [(139, some 1)], [(140, some 2)], [(12, none), (141, some 3)], [(142, some 4), (141, some 3)], [(143, some 5), (141, some 3)], [(141, some 3), (144, some 6)], [(145, some 7)], [(13, none), (146, some 8)], [(147, some 9), (146, some 8)], [(148, some 10), (146, some 8)], [(146, some 8), (149, some 11)], [(150, some 12)], [(151, some 13)], [(152, some 14), (151, some 13)], [(153, some 15), (151, some 13)], [(151, some 13), (154, some 16)], [(155, some 17)], [(15, none), (156, some 18)], [(157, some 19), (156, some 18)], [(156, some 18), (158, some 20)], [(159, some 21)], [(17, none), (160, some 22)], [(161, some 23), (160, some 22)], [(160, some 22), (162, some 24)], [(163, some 25)], [(2, none), (164, some 26)], [(165, some 27), (164, some 26)], [(166, some 28), (164, some 26)], [(2, none), (164, some 26)], [(168, some 30), (164, some 26)], [(169, some 31), (164, some 26)], [(167, some 29), (170, some 32), (164, some 26)], [(164, some 26), (171, some 33)], [(172, some 34)], [(173, some 35)], [(173, some 35), (174, some 36)], [(175, some 37)]] (by kernel_rfl) ?_ ?_ ?_
    · simp only [List.mem_cons, List.not_mem_nil, or_false]
      intro R hR
      rcases hR with rfl | rfl | rfl | rfl | rfl | rfl | rfl | rfl | rfl | rfl | rfl | rfl | rfl | rfl | rfl | rfl | rfl | rfl | rfl | rfl | rfl | rfl | rfl | rfl | rfl | rfl | rfl | rfl | rfl | rfl | rfl | rfl | rfl | rfl | rfl | rfl | rfl | rfl | rfl <;> first | exact stable_is _ | exact stable_sl _
    · refine steps_cons (fun a w hk hn => ?_) ?_
      · have h11 : a.eval (.tmp 11) = .pointer (some ⟨g11, 0, none⟩) := hn.1
        clear hn
        refine wants_plain rfl ?_
        exact grown_loadf 42 (.tmp 11) rfl g11 0 h11 _ _ _ _ (unhide HU11 w hk) [.slice pl pm pk, .slice pw pn po, .int .i64 1] (flat_in rfl) Tryd.underlying42 rfl Tryd.polSize rfl
      refine steps_cons (fun a w hk hn => ?_) ?_
      · have h138 : a.eval (.tmp 138) = .agg #[.slice pl pm pk, .slice pw pn po, .int .i64 1] := hn.1
        clear hn
        refine wants_plain rfl ?_
        refine grown_call (f := 12) rfl Tryd.func12 (by kernel_rfl) (by kernel_rfl) ?_
        simp only [List.map_toArray, List.map_cons, List.map_nil, h138]
        refine (cright_any _ p5 false (unhide Hp5R) w (unhide Hp5 w hk)).mono ?_
        rintro e w' ⟨rfl, K⟩
        exact ⟨_, rfl, K, rfl⟩
      refine steps_cons (fun a w hk hn => ?_) ?_
      · have h139 : a.eval (.tmp 139) = .bool false := hn.1
        clear hn
        refine wants_plain rfl ?_
        refine grown_run (v := .bool true) ?_ (Kp.refl _ _) rfl
        obtain ⟨ρ, hρ, hc, hf, hg⟩ := eval_is a
        rw [hρ] at h139 ⊢
        simp [go_sem, h139]
      refine steps_cons (fun a w hk hn => ?_) ?_
      · have h140 : a.eval (.tmp 140) = .bool true := hn.1
        clear hn
        refine wants_plain rfl ?_
        exact grown_move (.tmp 140) rfl h140
      refine steps_cons (fun a w hk hn => ?_) ?_
      · have h12 : a.eval (.tmp 12) = .pointer (some ⟨g12, 0, none⟩) := hn.1
        have h141 : a.eval (.tmp 141) = .bool true := hn.2.1
        clear hn
        refine wants_guard (d := 141) rfl rfl h141 ?_
        exact grown_loadf 42 (.tmp 12) rfl g12 0 h12 _ _ _ _ (unhide HU12 w hk) [.slice bl bm bk, .slice (some ⟨gw, 0, none⟩) mw cw, .int .i64 1] (flat_in rfl) Tryd.underlying42 rfl Tryd.polSize rfl
      refine steps_cons (fun a w hk hn => ?_) ?_
      · have h142 : a.eval (.tmp 142) = .agg #[.slice bl bm bk, .slice (some ⟨gw, 0, none⟩) mw cw, .int .i64 1] := hn.1
        have h141 : a.eval (.tmp 141) = .bool true := hn.2.1
        clear hn
        refine wants_guard (d := 141) rfl rfl h141 ?_
        refine grown_call (f := 12) rfl Tryd.func12 (by kernel_rfl) (by kernel_rfl) ?_
        simp only [List.map_toArray, List.map_cons, List.map_nil, h142]
        refine (cright_any _ p2 false (unhide Hp2R) w (unhide Hp2 w hk)).mono ?_
        rintro e w' ⟨rfl, K⟩
        exact ⟨_, rfl, K, rfl⟩
      refine steps_cons (fun a w hk hn => ?_) ?_
      · have h143 : a.eval (.tmp 143) = .bool false := hn.1
        have h141 : a.eval (.tmp 141) = .bool true := hn.2.1
        clear hn
        refine wants_guard (d := 141) rfl rfl h141 ?_
        refine grown_run (v := .bool true) ?_ (Kp.refl _ _) rfl
        obtain ⟨ρ, hρ, hc, hf, hg⟩ := eval_is a
        rw [hρ] at h143 ⊢
        simp [go_sem, h143]
      refine steps_cons (fun a w hk hn => ?_) ?_
      · have h141 : a.eval (.tmp 141) = .bool true := hn.1
        have h144 : a.eval (.tmp 144) = .bool true := hn.2.1
        clear hn
        refine wants_plain rfl ?_
        exact grown_pick _ _ _ true rfl h141 h144
      refine steps_cons (fun a w hk hn => ?_) ?_
      · have h145 : a.eval (.tmp 145) = .bool true := hn.1
        clear hn
        refine wants_plain rfl ?_
        exact grown_move (.tmp 145) rfl h145
      refine steps_cons (fun a w hk hn => ?_) ?_
      · have h13 : a.eval (.tmp 13) = .pointer (some ⟨g13, 0, none⟩) := hn.1
        have h146 : a.eval (.tmp 146) = .bool true := hn.2.1
        clear hn
        refine wants_guard (d := 146) rfl rfl h146 ?_
        exact grown_loadf 42 (.tmp 13) rfl g13 0 h13 _ _ _ _ (unhide HU13 w hk) [.slice none 0 0, .slice sw sm sk, .int .i64 1] (flat_in rfl) Tryd.underlying42 rfl Tryd.polSize rfl
      refine steps_cons (fun a w hk hn => ?_) ?_
      · have h147 : a.eval (.tmp 147) = .agg #[.slice none 0 0, .slice sw sm sk, .int .i64 1] := hn.1
        have h146 : a.eval (.tmp 146) = .bool true := hn.2.1
        clear hn
        refine wants_guard (d := 146) rfl rfl h146 ?_
        refine grown_call (f := 12) rfl Tryd.func12 (by kernel_rfl) (by kernel_rfl) ?_
        simp only [List.map_toArray, List.map_cons, List.map_nil, h147]
        refine (cright_any _ p1 false (unhide Hp1R) w (unhide Hp1 w hk)).mono ?_
        rintro e w' ⟨rfl, K⟩
        exact ⟨_, rfl, K, rfl⟩
      refine steps_cons (fun a w hk hn => ?_) ?_
      · have h148 : a.eval (.tmp 148) = .bool false := hn.1
        have h146 : a.eval (.tmp 146) = .bool true := hn.2.1
        clear hn
        refine wants_guard (d := 146) rfl rfl h146 ?_
        refine grown_run (v := .bool true) ?_ (Kp.refl _ _) rfl
        obtain ⟨ρ, hρ, hc, hf, hg⟩ := eval_is a
        rw [hρ] at h148 ⊢
        simp [go_sem, h148]
      refine steps_cons (fun a w hk hn => ?_) ?_
      · have h146 : a.eval (.tmp 146) = .bool true := hn.1
        have h149 : a.eval (.tmp 149) = .bool true := hn.2.1
        clear hn
        refine wants_plain rfl ?_
        exact grown_pick _ _ _ true rfl h146 h149
      refine steps_cons (fun a w hk hn => ?_) ?_
      · have h150 : a.eval (.tmp 150) = .bool true := hn.1
        clear hn
        refine wants_plain rfl ?_
        exact grown_move (.tmp 150) rfl h150
      refine steps_cons (fun a w hk hn => ?_) ?_
      · have h151 : a.eval (.tmp 151) = .bool true := hn.1
        clear hn
        refine wants_guard (d := 151) rfl rfl h151 ?_
        refine grown_run (v := .agg #[.slice none 0 0, .slice none 0 0, .int .i64 0]) ?_ (Kp.refl _ _) rfl
        obtain ⟨ρ, hρ, hc, hf, hg⟩ := eval_is a
        rw [hρ]
        simp [go_sem]
      refine steps_cons (fun a w hk hn => ?_) ?_
      · have h152 : a.eval (.tmp 152) = .agg #[.slice none 0 0, .slice none 0 0, .int .i64 0] := hn.1
        have h151 : a.eval (.tmp 151) = .bool true := hn.2.1
        clear hn
        refine wants_guard (d := 151) rfl rfl h151 ?_
        refine grown_call (f := 12) rfl Tryd.func12 (by kernel_rfl) (by kernel_rfl) ?_
        simp only [List.map_toArray, List.map_cons, List.map_nil, h152]
        refine (cright_any _ p0 false (unhide Hp0R) w (unhide Hp0 w hk)).mono ?_
        rintro e w' ⟨rfl, K⟩
        exact ⟨_, rfl, K, rfl⟩
      refine steps_cons (fun a w hk hn => ?_) ?_
      · have h153 : a.eval (.tmp 153) = .bool false := hn.1
        have h151 : a.eval (.tmp 151) = .bool true := hn.2.1
        clear hn
        refine wants_guard (d := 151) rfl rfl h151 ?_
        refine grown_run (v := .bool true) ?_ (Kp.refl _ _) rfl
        obtain ⟨ρ, hρ, hc, hf, hg⟩ := eval_is a
        rw [hρ] at h153 ⊢
        simp [go_sem, h153]
      refine steps_cons (fun a w hk hn => ?_) ?_
      · have h151 : a.eval (.tmp 151) = .bool true := hn.1
        have h154 : a.eval (.tmp 154) = .bool true := hn.2.1
        clear hn
        refine wants_plain rfl ?_
        exact grown_pick _ _ _ true rfl h151 h154
      refine steps_cons (fun a w hk hn => ?_) ?_
      · have h155 : a.eval (.tmp 155) = .bool true := hn.1
        clear hn
        refine wants_plain rfl ?_
        exact grown_move (.tmp 155) rfl h155
      refine steps_cons (fun a w hk hn => ?_) ?_
      · have h15 : a.eval (.tmp 15) = .int .i64 12 := hn.1
        have h156 : a.eval (.tmp 156) = .bool true := hn.2.1
        clear hn
        refine wants_guard (d := 156) rfl rfl h156 ?_
        exact grown_move (.tmp 15) rfl h15
      refine steps_cons (fun a w hk hn => ?_) ?_
      · have h157 : a.eval (.tmp 157) = .int .i64 12 := hn.1
        have h156 : a.eval (.tmp 156) = .bool true := hn.2.1
        clear hn
        refine wants_guard (d := 156) rfl rfl h156 ?_
        refine grown_run (v := .bool true) ?_ (Kp.refl _ _) rfl
        obtain ⟨ρ, hρ, hc, hf, hg⟩ := eval_is a
        rw [hρ] at h157 ⊢
        simp [go_sem, hc, h157]
      refine steps_cons (fun a w hk hn => ?_) ?_
      · have h156 : a.eval (.tmp 156) = .bool true := hn.1
        have h158 : a.eval (.tmp 158) = .bool true := hn.2.1
        clear hn
        refine wants_plain rfl ?_
        exact grown_pick _ _ _ true rfl h156 h158
      refine steps_cons (fun a w hk hn => ?_) ?_
      · have h159 : a.eval (.tmp 159) = .bool true := hn.1
        clear hn
        refine wants_plain rfl ?_
        exact grown_move (.tmp 159) rfl h159
      refine steps_cons (fun a w hk hn => ?_) ?_
      · have h17 : a.eval (.tmp 17) = .int .i64 23 := hn.1
        have h160 : a.eval (.tmp 160) = .bool true := hn.2.1
        clear hn
        refine wants_guard (d := 160) rfl rfl h160 ?_
        exact grown_move (.tmp 17) rfl h17
      refine steps_cons (fun a w hk hn => ?_) ?_
      · have h161 : a.eval (.tmp 161) = .int .i64 23 := hn.1
        have h160 : a.eval (.tmp 160) = .bool true := hn.2.1
        clear hn
        refine wants_guard (d := 160) rfl rfl h160 ?_
        refine grown_run (v := .bool true) ?_ (Kp.refl _ _) rfl
        obtain ⟨ρ, hρ, hc, hf, hg⟩ := eval_is a
        rw [hρ] at h161 ⊢
        simp [go_sem, hc, h161]
      refine steps_cons (fun a w hk hn => ?_) ?_
      · have h160 : a.eval (.tmp 160) = .bool true := hn.1
        have h162 : a.eval (.tmp 162) = .bool true := hn.2.1
        clear hn
        refine wants_plain rfl ?_
        exact grown_pick _ _ _ true rfl h160 h162
      refine steps_cons (fun a w hk hn => ?_) ?_
      · have h163 : a.eval (.tmp 163) = .bool true := hn.1
        clear hn
        refine wants_plain rfl ?_
        exact grown_move (.tmp 163) rfl h163
      refine steps_cons (fun a w hk hn => ?_) ?_
      · have h2 : a.eval (.tmp 2) = .pointer (some ⟨g2, 0, none⟩) := hn.1
        have h164 : a.eval (.tmp 164) = .bool true := hn.2.1
        clear hn
        refine wants_guard (d := 164) rfl rfl h164 ?_
        exact grown_loadf 27 (.tmp 2) rfl g2 0 h2 _ _ _ _ (unhide HU2 w hk) [.int .i64 2, .slice ar mr cr] (flat_in rfl) Tryd.underlying27 rfl Tryd.chkSize rfl
      refine steps_cons (fun a w hk hn => ?_) ?_
      · have h165 : a.eval (.tmp 165) = .agg #[.int .i64 2, .slice ar mr cr] := hn.1
        have h164 : a.eval (.tmp 164) = .bool true := hn.2.1
        clear hn
        refine wants_guard (d := 164) rfl rfl h164 ?_
        refine grown_call (f := 15) rfl Tryd.func15 (by kernel_rfl) (by kernel_rfl) ?_
        simp only [List.map_toArray, List.map_cons, List.map_nil, h165]
        refine (cbody_any _ 2 (hashX 3) B (unhide HBB) w (unhide HCV w hk)).mono ?_
        rintro e w' ⟨ao, m, c, rfl, R, K⟩
        exact ⟨_, rfl, K, R⟩
      refine steps_cons (fun a w hk hn => ?_) ?_
      · have h166 : Sl w (a.eval (.tmp 166)) (B) := hn.1
        have h164 : a.eval (.tmp 164) = .bool true := hn.2.1
        clear hn
        refine wants_guard (d := 164) rfl rfl h164 ?_
        exact grown_conv (.tmp 166) _ _ 5 _ rfl h166 Tryd.underlying24 Tryd.underlying5 Tryd.underlying9 (congrArg Value.string (unhide HS1).symm)
      refine steps_cons (fun a w hk hn => ?_) ?_
      · have h2 : a.eval (.tmp 2) = .pointer (some ⟨g2, 0, none⟩) := hn.1
        have h164 : a.eval (.tmp 164) = .bool true := hn.2.1
        clear hn
        refine wants_guard (d := 164) rfl rfl h164 ?_
        exact grown_loadf 27 (.tmp 2) rfl g2 0 h2 _ _ _ _ (unhide HU2 w hk) [.int .i64 2, .slice ar mr cr] (flat_in rfl) Tryd.underlying27 rfl Tryd.chkSize rfl
      refine steps_cons (fun a w hk hn => ?_) ?_
      · have h168 : a.eval (.tmp 168) = .agg #[.int .i64 2, .slice ar mr cr] := hn.1
        have h164 : a.eval (.tmp 164) = .bool true := hn.2.1
        clear hn
        refine wants_guard (d := 164) rfl rfl h164 ?_
        refine grown_call (f := 16) rfl Tryd.func16 (by kernel_rfl) (by kernel_rfl) ?_
        simp only [List.map_toArray, List.map_cons, List.map_nil, h168]
        refine (rcosign_any _ 2 (hashX 3) B (unhide HBB) w (unhide HCV w hk)).mono ?_
        rintro e w' ⟨ao, m, c, rfl, R, K⟩
        exact ⟨_, rfl, K, R⟩
      refine steps_cons (fun a w hk hn => ?_) ?_
      · have h169 : Sl w (a.eval (.tmp 169)) (B) := hn.1
        have h164 : a.eval (.tmp 164) = .bool true := hn.2.1
        clear hn
        refine wants_guard (d := 164) rfl rfl h164 ?_
        exact grown_conv (.tmp 169) _ _ 5 _ rfl h169 Tryd.underlying24 Tryd.underlying5 Tryd.underlying9 (congrArg Value.string (unhide HS1).symm)
      refine steps_cons (fun a w hk hn => ?_) ?_
      · have h167 : a.eval (.tmp 167) = .string S1 := hn.1
        have h170 : a.eval (.tmp 170) = .string S1 := hn.2.1
        have h164 : a.eval (.tmp 164) = .bool true := hn.2.2.1
        clear hn
        refine wants_guard (d := 164) rfl rfl h164 ?_
        refine grown_run (v := .bool true) ?_ (Kp.refl _ _) rfl
        obtain ⟨ρ, hρ, hc, hf, hg⟩ := eval_is a
        rw [hρ] at h167 h170 ⊢
        simp [go_sem, h167, h170]
      refine steps_cons (fun a w hk hn => ?_) ?_
      · have h164 : a.eval (.tmp 164) = .bool true := hn.1
        have h171 : a.eval (.tmp 171) = .bool true := hn.2.1
        clear hn
        refine wants_plain rfl ?_
        exact grown_pick _ _ _ true rfl h164 h171
      refine steps_cons (fun a w hk hn => ?_) ?_
      · have h172 : a.eval (.tmp 172) = .bool true := hn.1
        clear hn
        refine wants_plain rfl ?_
        exact grown_move (.tmp 172) rfl h172
      refine steps_cons (fun a w hk hn => ?_) ?_
      · have h173 : a.eval (.tmp 173) = .bool true := hn.1
        clear hn
        refine wants_guard (d := 173) rfl rfl h173 ?_
        refine grown_call (f := 17) rfl Tryd.func17 (by kernel_rfl) (by kernel_rfl) ?_
        simp only [List.map_toArray, List.map_nil]
        refine (known_any w (unhide HGW w hk)).mono ?_
        rintro e w' ⟨rfl, K⟩
        exact ⟨_, rfl, K, rfl⟩
      refine steps_cons (fun a w hk hn => ?_) ?_
      · have h173 : a.eval (.tmp 173) = .bool true := hn.1
        have h174 : a.eval (.tmp 174) = .bool true := hn.2.1
        clear hn
        refine wants_plain rfl ?_
        exact grown_pick _ _ _ true rfl h173 h174
      refine steps_cons (fun a w hk hn => ?_) ?_
      · have h175 : a.eval (.tmp 175) = .bool true := hn.1
        clear hn
        refine wants_plain rfl ?_
        exact grown_assign (.tmp 175) rfl h175
      exact trivial
    intro W9 hkW9
    rintro _ rfl
    rintro _ rfl
    rintro _ rfl
    rintro _ rfl
    rintro _ rfl
    rintro _ rfl
    rintro _ rfl
    rintro _ rfl
    rintro _ rfl
    rintro _ rfl
    rintro _ rfl
    rintro _ rfl
    rintro _ rfl
    rintro _ rfl
    rintro _ rfl
    rintro _ rfl
    rintro _ rfl
    rintro _ rfl
    rintro _ rfl
    rintro _ rfl
    rintro _ rfl
    rintro _ rfl
    rintro _ rfl
    rintro _ rfl
    rintro _ rfl
    rintro _ rfl
    rintro _ rfl
    rintro _ rfl
    intro v166 h166
    rintro _ rfl
    rintro _ rfl
    intro v169 h169
    rintro _ rfl
    rintro _ rfl
    rintro _ rfl
    rintro _ rfl
    rintro _ rfl
    rintro _ rfl
    rintro _ rfl
    refine fin_nil ?_
    simp only [Act.put, List.set_cons_zero, List.set_cons_succ, List.setIfInBounds_toArray]
    go_wp2_with fail
    go_ret
    exact ⟨rfl, (unhide HKD W9 hkW9).below (Nat.le_refl _) (by simp)⟩

set_option maxRecDepth 100000 in
theorem lifted (os : Os) (started : os.Started) (H : Type) (enc : TypeId × Value → H) :
    ReturnsInHanded {} Tryd.checked os 3 .any (fun w args => (Rows.cosignNumbersSpec.pre enc Tryd.prog Tryd.f3 [] false w args ∧ laidMetH Tryd.prog laid1 w) ∧ sizedMet enc Tryd.prog Tryd.f3 (OpenSpec.ofChange Rows.cosignNumbersSpec) false w args) (Rows.cosignNumbersSpec.post enc Tryd.prog Tryd.f3 false true false false) := by
  refine returnsInHanded_of_change_and (C := Tryd.checked) (X := fun w _ => laidMetH Tryd.prog laid1 w) (fun _ _ _ hh h => h.of_heap hh) own started (by kernel_rfl) Tryd.func3
    (ChangeSpec.witness_shaped (enc := enc) (C := Tryd.checked) (os := os) (X := fun w _ => laidMetH Tryd.prog laid1 w) false (World.doorLaid Tryd.prog 400 os) #[] 8 rfl (World.shaped_of_RefB (by kernel_rfl) (by kernel_rfl)) (by kernel_rfl) (by kernel_rfl) (by kernel_rfl) (door_met os _)) ?_
  intro W base args ds gs before hval0 hW hcnd hsz0 hL _
  have hG := gl_of_laid hL
  have hval : ∀ (j : Nat) t v, Tryd.f3.params[j]? = some t → args[j]? = some v → Value.okWide Tryd.prog W .any base t v := hval0
  have hW' := hW
  obtain ⟨p, q, hA0, hV, rfl, hfz, hnd⟩ := hW
  have hA : DataW.TrodAll enc Tryd.prog W 0 (fun _ => true) true Tryd.f3.params.toList args.toList ds p := hA0
  rw [Tryd.params3] at hA hval
  obtain ⟨hargs, rfl, rfl⟩ := trodAll_nil hA
  obtain rfl : args = #[] := by cases args; simp_all
  obtain ⟨rfl, rfl⟩ := trodVars_none hV
  clear hA0 hval0
  refine (walk  W hG).mono fun e W' ⟨he, bel⟩ => ?_
  subst he
  exact ⟨_, rfl, _, _, _, [], _, [], hW', trodAll_mk1 (shut_bool Tryd.underlying4 _), trodAll_mk0, rfl, bel.frame _, fun h => by cases h⟩

theorem over : Rows.cosignNumbersRow.holds Tryd.pinned (OpenSpec.ofChange Rows.cosignNumbersSpec) :=
  OpenClaim.holds_of_wide 3 Tryd.f3 rfl rfl rfl rfl rfl rfl rfl ⟨rfl, rfl, rfl, rfl, rfl⟩ rfl rfl rfl rfl rfl (by kernel_rfl) Tryd.func3 (by kernel_rfl)
    (of_decide_eq_true (by kernel_rfl)) (by unfold Func.isWrapper; first | (rw [if_pos (by decide +kernel)]; kernel_rfl) | (rw [if_neg (by decide +kernel)]; exact ⟨rfl, rfl⟩))
    (fun os started H enc _ => lifted os started H enc)
end Go.Proofs.YtdjofooggofpkaaDoor.cosignNumbers

namespace Go.Proofs.YtdjofooggofpkaaDoor
/-- The given statement: the tied card. -/
theorem CosignNumbers_holds : Rows.CosignNumbersCardSaid :=
  Claim7.holds_tied_plain_at .later [] [.data] true Rows.cosignNumbersCard.stood.harness false
    cosignNumbers.over (fun _ h => by cases h) (by kernel_rfl) (fun _ h => by cases h) cosignNumbers_row_tie rfl ⟨rfl, rfl⟩ (by kernel_rfl) rfl
    (fun f fn hf hfn => by
      obtain rfl : f = 3 := Option.some.inj ((show Tryd.prog.funcNamed "broadsheet/broadsheetlaw11.CosignNumbers" = some 3 by kernel_rfl).symm.trans hf) |>.symm
      obtain rfl : fn = Tryd.f3 := (Option.some.inj (Tryd.func3.symm.trans hfn)).symm
      exact ⟨by kernel_rfl, fun j t ht => by
        rw [Tryd.params3] at ht
        have hm : t ∈ ([] : List TypeId) := by simpa using Array.mem_of_getElem? ht
        have hall : (([] : List TypeId).all fun u => !Tryd.prog.wantsStandIn u) = true := by kernel_rfl
        exact (show Tryd.prog.wantsStandIn t = false by simpa using List.all_eq_true.1 hall t hm)⟩)
    (by kernel_rfl)
#print axioms CosignNumbers_holds
end Go.Proofs.YtdjofooggofpkaaDoor
