/-
  The statement CheckBackCardSaid: for all numbers, bytes and texts the law function CheckBack returns true and leaves its arguments as they were; the table hash.roundWords starts as the program's text lays it (tied). No other condition.
-/
import Derived.Test.YtbkipibmaghejaaGreatDoorKXLawR
import Derived.Test.YtbkipibmaghejaaGreatDoorKXLaws
import Derived.Test.YtbkipibmaghejaaGreatDoorKLReach
import Derived.Test.YtbkipibmaghejaaGreatDoorKLSpot
import Derived.Test.YtbkipibmaghejaaGreatDoorKLMarks
import Derived.Test.YtbkipibmaghejaaGreatDoorKHSmalls
import Derived.Test.YtbkipibmaghejaaGreatDoorTie
import Derived.Test.YtbkipibmaghejaaGreatDoorCards
import Derived.SevenTiedAt
namespace Go.Proofs.YtbkipibmaghejaaGreatDoor.checkBack
open Go.ChangeShapes Go.WideShapes Go.ChangeAt Go.RowKit
open Go.Proofs.YtbkipibmaghejaaGreatDoor
set_option linter.unusedVariables false

theorem xor_b (x y : Int) : 0 ≤ bits .xor .u8 x y ∧ bits .xor .u8 x y ≤ 255 := by
  show 0 ≤ IntKind.u8.wrap _ ∧ IntKind.u8.wrap _ ≤ 255
  simp [IntKind.wrap, IntKind.signed, IntKind.bits]
  omega
theorem bs_take {bs : List Int} (n : Nat) (h : Bs bs) : Bs (bs.take n) := fun b hb => h b (List.mem_of_mem_take hb)
theorem wp_append_run {o : Oper} {a : Act} {w w' : World} {K : Act → World → Prop} {Q : Exit → Act → World → Prop} {v vx u : Value} (s x : Operand) (ho : o.op = .call { callee := .builtin .append, args := #[s, x], argTypes := #[23, 23] }) (hs : a.eval s = v) (hx : a.eval x = vx) (hr : (Builtin.append_ #[23, 23] o.type #[v, vx]).run Tryz.prog w = .ok u w') (h : K (a.put o.dst u) w') : o.wp Tryz.prog a w K Q := by
  unfold Oper.wp execOp
  simp only [ho, resolve, invoke, builtin, Sem.run_bind, Sem.run_pure, Result.andThen_ok, List.map_toArray, List.map_cons, List.map_nil, hs, hx, hr]
  exact h
theorem row_m {w : World} {base : Nat} {v : Value} {bs : List Int} (h : Row w base v bs) (hne : 0 < bs.length) : RowM w base v bs := by
  rcases h.2 with ⟨_, h0⟩ | ⟨g, cap, cur, e, hb, hg, h1, h2, h3, h4⟩
  · omega
  · refine ⟨g, cap, e, hb, lt_of_block hg, h1, h2, fun j u hu => ?_, fun j hj => ⟨?_, frozen_of_row w g j _ _ hg⟩⟩
    · rw [cell_of_row w g j _ _ _ hg]
      have hj : j < (bs.map (Value.int .u8)).length := (List.getElem?_eq_some_iff.1 hu).1
      rw [← h4, List.getElem?_take] at hu
      split at hu
      · simpa using hu
      · cases hu
    · rw [cell_of_row w g j _ _ _ hg, Array.getElem?_eq_getElem (by omega)]
      rfl

set_option maxRecDepth 100000 in
set_option maxHeartbeats 8000000 in
theorem walk (xn xi xs xr xt : Int) (turn : Int) (vm : Value) (ms : List Int) (w : World) (hG : Gl w) (hn : -9223372036854775808 ≤ xn ∧ xn ≤ 9223372036854775807) (hi : -9223372036854775808 ≤ xi ∧ xi ≤ 9223372036854775807) (hs : -9223372036854775808 ≤ xs ∧ xs ≤ 9223372036854775807) (hr : -9223372036854775808 ≤ xr ∧ xr ≤ 9223372036854775807) (ht : -9223372036854775808 ≤ xt ∧ xt ≤ 9223372036854775807) (hturn : 0 ≤ turn ∧ turn ≤ 255) (hM : Sl w vm ms) (hMB : Bs ms) (hMl : ms.length ≤ 140737488351232) :
    Calls Tryz.prog 5 #[.int .i64 xn, .int .i64 xi, .int .i64 xs, .int .i64 xr, .int .i64 xt, .int .u8 turn, vm] w fun e w' => e = .returned (.bool true) ∧ Below w.heap.size w w' := by
  have HG := hide hG
  have HM := hide (fun w' (k : Kp [] w w') => hM.kept k (by simp))
  have HMB := hide hMB
  have HT := hide ht
  obtain ⟨am, cm, hvm, -⟩ := id hM
  obtain ⟨nm, hnm⟩ : ∃ k, k = ms.length := ⟨_, rfl⟩
  rw [← hnm] at hvm
  subst hvm
  obtain ⟨s, hsg⟩ : ∃ s, s = sgdX xn xi xs xr := ⟨_, rfl⟩
  have HRg : Hid (s.rgt = true) := hide (by rw [hsg]; exact sgdX_rgt xn xi xs xr)
  have HVr : Hid (true = s.ver (topP (seedX xn))) := hide (by rw [hsg]; exact (sgdX_ver xn xi xs xr).symm)
  have hC := lsigned_any xn xi xs xr w
  rw [← hsg] at hC
  have HC := hide hC
  obtain ⟨tp, htp⟩ : ∃ t, t = topP (seedX xn) := ⟨_, rfl⟩
  rw [← htp] at HVr HC
  have HTB : Hid (Bs tp) := hide (by rw [htp]; exact (topP_ok _).2)
  clear hG hn hi hs hr ht hturn hM hMB hMl hnm hsg hC htp
  go_enter Tryz.func5, Tryz.ntmps5
  go_wp2_with fail
  refine (unhide HC).mono ?_
  rintro ee w1 ⟨v1, at', mt, ct, rfl, V1, T1, K1⟩
  have hV1 := V1.v
  obtain ⟨a1, m1, c1, ap1, np1, cp1, aq1, nq1, cq1, rfl, -, -⟩ := hV1.shape
  obtain ⟨n, hn⟩ : ∃ n, n = s.n := ⟨_, rfl⟩
  obtain ⟨i, hi⟩ : ∃ n, n = s.i := ⟨_, rfl⟩
  rw [← hn, ← hi] at hV1 ⊢
  have HN := hide hn
  have HI := hide hi
  have HV1 := hide hV1
  have HT1 := hide T1
  have HK1 := hide K1
  have Ga := heap_alloc_new w1 (.cells #[.int .i64 0, .slice none 0 0, .int .i64 0, .slice none 0 0, .slice none 0 0] 30)
  have HKa : Hid (Kp [] w1 (w1.alloc (.cells #[.int .i64 0, .slice none 0 0, .int .i64 0, .slice none 0 0, .slice none 0 0] 30))) := (Kp.refl [] w1).alloc _
  clear HC V1 T1 K1 hV1 hn hi
  go_wp2_with (refine wpList_store_flat rfl 30 (.tmp 15) (.tmp 27) rfl w1.heap.size 0 rfl _ _ [.int .i64 n, .slice a1 m1 c1, .int .i64 i, .slice ap1 np1 cp1, .slice aq1 nq1 cq1] Ga rfl (by simp) Tryz.sgdSize (by simp [Value.oneCell']) #[.int .i64 n, .slice a1 m1 c1, .int .i64 i, .slice ap1 np1 cp1, .slice aq1 nq1 cq1] rfl ?_; intro w2 Gw2 Kw2; refine Hid.out ?_)
  obtain ⟨g15, hg15⟩ : ∃ g, g = w1.heap.size := ⟨_, rfl⟩
  have Kw1w2 : Kp [] w1 w2 := (unhide HKa).then Kw2 (fun i hi => .inr (by simp at hi; omega))
  rw [← hg15] at Gw2 ⊢
  clear hg15
  have HV2 := hide ((unhide HV1).kept Kw1w2)
  have HT2 := hide ((unhide HT1).kept Kw1w2 (by simp))
  have HK2 := hide ((unhide HK1).trans Kw1w2)
  have HBASE := hide (unhide HK2).size
  have HG2 := hide Gw2
  have HEn := hide (ckenc_ok _ s w2 (unhide HV2) (unhide HRg))
  obtain ⟨L, hL⟩ : ∃ L, L = s.lay := ⟨_, rfl⟩
  rw [← hL] at HEn
  have hLn : L.length = 2216 := by rw [hL]; exact Sg.lay_len (unhide HRg)
  have HLn := hide hLn
  have HLL := hide hL
  have HLB : Hid (Bs L) := hide (by rw [hL]; exact Sg.lay_bs (unhide HRg) (unhide HV2).bs.1 (unhide HV2).bs.2.1 (unhide HV2).bs.2.2)
  have x0 : w2.cell? ⟨g15, 0, none⟩ = some (.int .i64 n) := by rw [cell_of_row _ g15 0 _ _ _ (Gw2)]; rfl
  have x1 : w2.cell? ⟨g15, 1, none⟩ = some (.slice a1 m1 c1) := by rw [cell_of_row _ g15 1 _ _ _ (Gw2)]; rfl
  have x2 : w2.cell? ⟨g15, 2, none⟩ = some (.int .i64 i) := by rw [cell_of_row _ g15 2 _ _ _ (Gw2)]; rfl
  have x3 : w2.cell? ⟨g15, 3, none⟩ = some (.slice ap1 np1 cp1) := by rw [cell_of_row _ g15 3 _ _ _ (Gw2)]; rfl
  have x4 : w2.cell? ⟨g15, 4, none⟩ = some (.slice aq1 nq1 cq1) := by rw [cell_of_row _ g15 4 _ _ _ (Gw2)]; rfl
  clear Ga HKa Gw2 Kw2 Kw1w2 HV1 HT1 HK1 hL hLn
  refine hide ?_
  go_wp2_with fail
  refine (unhide HEn).mono ?_
  rintro ee w3 ⟨a3, m3, c3, rfl, R3, K3⟩
  have hm3 : m3 = 2216 := by rw [R3.len, unhide HLn]
  subst hm3
  have HR3 := hide R3
  have HV3 := hide ((unhide HV2).kept K3)
  have HT3 := hide ((unhide HT2).kept K3 (by simp))
  have HK3 := hide ((unhide HK2).trans K3)
  have HG3 := hide (K3.heap (unhide HG2) (by simp))
  have hC := ckdec_any (.slice a3 2216 c3) L w3 R3.sl (unhide HLB) (by have := unhide HLn; omega)
  have hback := okD_lay (unhide HRg)
  rw [← unhide HLL] at hback
  rw [hback.1, hback.2] at hC
  have HDc := hide hC
  clear HEn R3 K3 HV2 HT2 HK2 HG2 hC hback x0 x1 x2 x3 x4
  go_wp2_with fail
  refine (unhide HDc).mono ?_
  rintro ee w4 ⟨v4, rfl, V4, K4⟩
  obtain ⟨a2, m2, c2, ap2, np2, cp2, aq2, nq2, cq2, rfl, -, -⟩ := V4.shape
  rw [← unhide HN, ← unhide HI] at V4 ⊢
  have HV4 := hide V4
  have HV34 := hide ((unhide HV3).kept K4)
  have HR4 := hide ((unhide HR3).kept K4 (by simp))
  have HT4 := hide ((unhide HT3).kept K4 (by simp))
  have HK4 := hide ((unhide HK3).trans K4)
  have HG4 := hide (K4.heap (unhide HG3) (by simp))
  simp only [errX_t]
  have Ga := heap_alloc_new w4 (.cells #[.int .i64 0, .slice none 0 0, .int .i64 0, .slice none 0 0, .slice none 0 0] 30)
  have HKa : Hid (Kp [] w4 (w4.alloc (.cells #[.int .i64 0, .slice none 0 0, .int .i64 0, .slice none 0 0, .slice none 0 0] 30))) := (Kp.refl [] w4).alloc _
  clear HDc V4 K4 HV3 HR3 HT3 HK3 HG3
  go_wp2_with (refine wpList_store_flat rfl 30 (.tmp 19) (.tmp 37) rfl w4.heap.size 0 rfl _ _ [.int .i64 n, .slice a2 m2 c2, .int .i64 i, .slice ap2 np2 cp2, .slice aq2 nq2 cq2] Ga rfl (by simp) Tryz.sgdSize (by simp [Value.oneCell']) #[.int .i64 n, .slice a2 m2 c2, .int .i64 i, .slice ap2 np2 cp2, .slice aq2 nq2 cq2] rfl ?_; intro w5 Gw5 Kw5; refine Hid.out ?_)
  obtain ⟨g19, hg19⟩ : ∃ g, g = w4.heap.size := ⟨_, rfl⟩
  have Kw4w5 : Kp [] w4 w5 := (unhide HKa).then Kw5 (fun i hi => .inr (by simp at hi; omega))
  rw [← hg19] at Gw5 ⊢
  clear hg19
  have HV5 := hide ((unhide HV4).kept Kw4w5)
  have HV35 := hide ((unhide HV34).kept Kw4w5)
  have HR5 := hide ((unhide HR4).kept Kw4w5 (by simp))
  have HT5 := hide ((unhide HT4).kept Kw4w5 (by simp))
  have HK5 := hide ((unhide HK4).trans Kw4w5)
  have hG5 := Kw4w5.heap (unhide HG4) (by simp)
  have HG195 := hide Gw5
  have x0 : w5.cell? ⟨g15, 0, none⟩ = some (.int .i64 n) := by rw [cell_of_row _ g15 0 _ _ _ (hG5)]; rfl
  have x1 : w5.cell? ⟨g15, 1, none⟩ = some (.slice a1 m1 c1) := by rw [cell_of_row _ g15 1 _ _ _ (hG5)]; rfl
  have x2 : w5.cell? ⟨g15, 2, none⟩ = some (.int .i64 i) := by rw [cell_of_row _ g15 2 _ _ _ (hG5)]; rfl
  have x3 : w5.cell? ⟨g15, 3, none⟩ = some (.slice ap1 np1 cp1) := by rw [cell_of_row _ g15 3 _ _ _ (hG5)]; rfl
  have x4 : w5.cell? ⟨g15, 4, none⟩ = some (.slice aq1 nq1 cq1) := by rw [cell_of_row _ g15 4 _ _ _ (hG5)]; rfl
  have y0 : w5.cell? ⟨g19, 0, none⟩ = some (.int .i64 n) := by rw [cell_of_row _ g19 0 _ _ _ (Gw5)]; rfl
  have y1 : w5.cell? ⟨g19, 1, none⟩ = some (.slice a2 m2 c2) := by rw [cell_of_row _ g19 1 _ _ _ (Gw5)]; rfl
  have y2 : w5.cell? ⟨g19, 2, none⟩ = some (.int .i64 i) := by rw [cell_of_row _ g19 2 _ _ _ (Gw5)]; rfl
  have y3 : w5.cell? ⟨g19, 3, none⟩ = some (.slice ap2 np2 cp2) := by rw [cell_of_row _ g19 3 _ _ _ (Gw5)]; rfl
  have y4 : w5.cell? ⟨g19, 4, none⟩ = some (.slice aq2 nq2 cq2) := by rw [cell_of_row _ g19 4 _ _ _ (Gw5)]; rfl
  have HE := hide (lequal_any _ _ s w5 (unhide HV35) (unhide HV5))
  clear Ga HKa Gw5 Kw5 Kw4w5 hG5 HV4 HV34 HR4 HT4 HK4 HG4
  refine hide ?_
  go_wp2_with fail
  refine (unhide HE).mono ?_
  rintro ee w6 ⟨rfl, K6⟩
  have HR6 := hide ((unhide HR5).kept K6 (by simp))
  have HK6 := hide ((unhide HK5).trans K6)
  have hG6 := K6.heap (unhide HG195) (by simp)
  have z0 : w6.cell? ⟨g19, 0, none⟩ = some (.int .i64 n) := by rw [cell_of_row _ g19 0 _ _ _ (hG6)]; rfl
  have z1 : w6.cell? ⟨g19, 1, none⟩ = some (.slice a2 m2 c2) := by rw [cell_of_row _ g19 1 _ _ _ (hG6)]; rfl
  have z2 : w6.cell? ⟨g19, 2, none⟩ = some (.int .i64 i) := by rw [cell_of_row _ g19 2 _ _ _ (hG6)]; rfl
  have z3 : w6.cell? ⟨g19, 3, none⟩ = some (.slice ap2 np2 cp2) := by rw [cell_of_row _ g19 3 _ _ _ (hG6)]; rfl
  have z4 : w6.cell? ⟨g19, 4, none⟩ = some (.slice aq2 nq2 cq2) := by rw [cell_of_row _ g19 4 _ _ _ (hG6)]; rfl
  have HVf := hide (ckverify_any (.slice at' mt ct) tp _ s true (unhide HVr) w6 ((unhide HT5).kept K6 (by simp)) (unhide HTB) ((unhide HV5).kept K6) ((unhide HG).kept (unhide HK6) (by simp)))
  clear HE K6 hG6 HR5 HT5 HK5 HV5 HV35 HG195 x0 x1 x2 x3 x4 y0 y1 y2 y3 y4
  go_wp2_with fail
  refine (unhide HVf).mono ?_
  rintro ee w7 ⟨rfl, K7⟩
  have R7 := (unhide HR6).kept K7 (by simp)
  have HK7 := hide ((unhide HK6).trans K7)
  have HC7 := hide (within_any xt 0 2215 w7 (by omega) (by omega) (by omega) (unhide HT))
  obtain ⟨gx, hgx, hgx0, hgx1, hcells, hfz, hset⟩ := R7.spot (by omega)
  subst hgx
  have HCE := hide hcells
  have HFZ := hide hfz
  have HSET := hide hset
  have HK3W := unhide HK7
  clear HVf K7 HR6 z0 z1 z2 z3 z4 hcells hfz hset R7
  go_wp2_with fail
  refine (unhide HC7).mono ?_
  rintro ee wz ⟨xk, rfl, hx0, hx1, hwz⟩
  subst wz
  obtain ⟨k, rfl⟩ := Int.eq_ofNat_of_zero_le hx0
  have hkLi : (k : Int) < 2216 := by omega
  have hkB : k < L.length := by have := unhide HLn; omega
  have hck := unhide HCE k hkB
  have hfk := unhide HFZ k
  obtain ⟨y, hy⟩ : ∃ y, y = L[k] := ⟨_, rfl⟩
  rw [← hy] at hck
  obtain ⟨z, hz⟩ : ∃ z, z = bits .xor .u8 y turn := ⟨_, rfl⟩
  have hzb : 0 ≤ z ∧ z ≤ 255 := by rw [hz]; exact xor_b y turn
  obtain ⟨w8, hw8⟩ : ∃ w8, w8 = w7.setCell ⟨gx, k, none⟩ (.int .u8 z) := ⟨_, rfl⟩
  have K8 : Kp [gx] w7 w8 := by rw [hw8]; exact kp_fcell w7 gx k _
  have R8 := unhide HSET k z
  rw [← hw8] at R8
  obtain ⟨L2, hL2⟩ : ∃ l, l = L.set k z := ⟨_, rfl⟩
  rw [← hL2] at R8
  have HB2 : Hid (Bs L2) := hide (fun b hb => by
    rw [hL2] at hb
    rcases List.mem_or_eq_of_mem_set hb with h | h
    · exact unhide HLB b h
    · rw [h]; exact hzb)
  have HLn2 : Hid (L2.length = 2216) := hide (by rw [hL2, List.length_set]; exact unhide HLn)
  have HK8 := hide ((unhide HK7).then K8 (fun i hi => .inr (by have := unhide HBASE; simp at hi; omega)))
  have HR8 := hide R8
  have HRd := hide (lreads_any (.slice (some ⟨gx, 0, none⟩) 2216 c3) L2 w8 R8.sl (unhide HB2) (by have := unhide HLn2; omega) (fun j hj => (R8.lt hj)))
  have HW8 := hide hw8
  have HZ := hide hz
  clear HC7 hx0 hx1 hkB hy hz hzb hw8 K8 R8 HCE HFZ HSET hL2 HK3W HK7 hgx1
  go_wp2_with fail
  rw [← unhide HZ, ← unhide HW8]
  refine (unhide HRd).mono ?_
  rintro ee w9 ⟨rfl, K9⟩
  have R9 := (unhide HR8).kept K9 (by simp)
  have HK9 := hide ((unhide HK8).trans K9)
  have hM9 := unhide HM w9 (unhide HK9)
  obtain ⟨k9, hk9⟩ : ∃ k, k = min nm 9 := ⟨_, rfl⟩
  have hC := cut_val am nm cm 9 ms w9 hM9
  rw [← hk9] at hC
  have HCu := hide hC
  have hCs : Sl w9 (.slice am k9 cm) (ms.take 9) := by rw [hk9]; exact cut_sl 9 hM9
  obtain ⟨aa, ma, ca, wa, hap, Ra, Sa⟩ := append_m w9 _ _ L2 _ (ms.take 9) 23 (row_m R9 (by have := unhide HLn2; omega)) hCs (by have := unhide HLn2; rw [List.length_take]; omega) (Nat.le_trans hgx0 (Nat.le_of_lt (R9.lt rfl)))
  have HSa := hide Sa
  have HRa := hide Ra
  clear HRd K9 hC hk9 hM9 HR8 HK8 Ra Sa hCs HW8 HZ hck hfk
  have HLT2 : Hid ((L2 ++ ms.take 9).length ≤ 140737488351232) := hide (by have := unhide HLn2; rw [List.length_append, List.length_take]; omega)
  have HBT : Hid (Bs (L2 ++ ms.take 9)) := hide ((unhide HB2).append (bs_take 9 (unhide HMB)))
  have HKA := hide ((unhide HK9).then (unhide HSa).1 (fun i hi => .inr (by have := unhide HBASE; have := R9.own i (by simpa using hi); omega)))
  have HR2 := hide (lreads_any (.slice aa ma ca) _ wa (unhide HRa).sl (unhide HBT) (unhide HLT2) (fun j hj => ((unhide HRa).own j hj).2))
  clear HRa HSa R9 hgx0
  go_wp2_with fail
  refine (unhide HCu).mono ?_
  rintro ee wz ⟨rfl, hwz⟩
  subst wz
  clear HCu
  go_wp2_with fail
  rename_i KK hKK
  refine wp_append_run (.tmp 76) (.tmp 78) rfl rfl rfl hap (hKK _ _ ?_)
  go_wp2_with fail
  refine (unhide HR2).mono ?_
  rintro ee wb ⟨rfl, Kb⟩
  have HKb := hide ((unhide HKA).trans Kb)
  have HKn := hide (xknown_any wb ((unhide HG).kept (unhide HKb) (by simp)))
  clear HR2 Kb hap
  go_wp2_with fail
  refine (unhide HKn).mono ?_
  rintro ee wc ⟨rfl, Kc⟩
  have HKc := hide ((unhide HKb).trans Kc)
  clear HKn Kc
  go_wp2_with fail
  go_ret
  exact ⟨rfl, (unhide HKc).below (Nat.le_refl _) (by simp)⟩

set_option maxRecDepth 100000 in
theorem lifted (os : Os) (started : os.Started) (H : Type) (enc : TypeId × Value → H) :
    ReturnsInHanded {} Tryz.checked os 5 .any (fun w args => (Rows.checkBackSpec.pre enc Tryz.prog Tryz.f5 [] false w args ∧ laidMetH Tryz.prog laid1 w) ∧ sizedMet enc Tryz.prog Tryz.f5 (OpenSpec.ofChange Rows.checkBackSpec) false w args) (Rows.checkBackSpec.post enc Tryz.prog Tryz.f5 false true false false) := by
  refine returnsInHanded_of_change_and (C := Tryz.checked) (X := fun w _ => laidMetH Tryz.prog laid1 w) (fun _ _ _ hh h => h.of_heap hh) own started (by kernel_rfl) Tryz.func5
    (ChangeSpec.witness_shaped (enc := enc) (C := Tryz.checked) (os := os) (X := fun w _ => laidMetH Tryz.prog laid1 w) false (World.doorLaid Tryz.prog 400 os) #[.int .i64 0, .int .i64 0, .int .i64 0, .int .i64 0, .int .i64 0, .int .u8 0, .slice none 0 0] 8 rfl (World.shaped_of_RefB (by kernel_rfl) (by kernel_rfl)) (by kernel_rfl) (by kernel_rfl) (by kernel_rfl) (door_met os _)) ?_
  intro W base args ds gs before hval0 hW hcnd hsz0 hL _
  have hG := gl_of_laid hL
  have hsz : (DataW.weightsEach Tryz.prog (Tryz.f5.params.toList ++ Rows.checkBackSpec.plain.varTypes Tryz.prog) (ds ++ gs)).all (· ≤ reachBytes) = true := hsz0
  have hval : ∀ (j : Nat) t v, Tryz.f5.params[j]? = some t → args[j]? = some v → Value.okWide Tryz.prog W .any base t v := hval0
  have hW' := hW
  obtain ⟨p, q, hA0, hV, rfl, hfz, hnd⟩ := hW
  have hA : DataW.TrodAll enc Tryz.prog W 0 (fun _ => true) true Tryz.f5.params.toList args.toList ds p := hA0
  rw [Tryz.params5] at hA hval hsz
  obtain ⟨v0, vs0, d0, ds0, p0, q0, hargs, rfl, rfl, h0, r0⟩ := trodAll_cons hA
  obtain ⟨v1, vs1, d1, ds1, p1, q1, rfl, rfl, rfl, h1, r1⟩ := trodAll_cons r0
  obtain ⟨v2, vs2, d2, ds2, p2, q2, rfl, rfl, rfl, h2, r2⟩ := trodAll_cons r1
  obtain ⟨v3, vs3, d3, ds3, p3, q3, rfl, rfl, rfl, h3, r3⟩ := trodAll_cons r2
  obtain ⟨v4, vs4, d4, ds4, p4, q4, rfl, rfl, rfl, h4, r4⟩ := trodAll_cons r3
  obtain ⟨v5, vs5, d5, ds5, p5, q5, rfl, rfl, rfl, h5, r5⟩ := trodAll_cons r4
  obtain ⟨v6, vs6, d6, ds6, p6, q6, rfl, rfl, rfl, h6, r6⟩ := trodAll_cons r5
  obtain ⟨rfl, rfl, rfl⟩ := trodAll_nil r6
  obtain rfl : args = #[v0, v1, v2, v3, v4, v5, v6] := by cases args; simp_all
  obtain ⟨rfl, rfl⟩ := trodVars_none hV
  obtain ⟨a0, rfl, rfl, rfl, w0⟩ := open_int Tryz.underlying3 (hval 0 3 v0 rfl rfl) h0
  obtain ⟨a1, rfl, rfl, rfl, w1⟩ := open_int Tryz.underlying3 (hval 1 3 v1 rfl rfl) h1
  obtain ⟨a2, rfl, rfl, rfl, w2⟩ := open_int Tryz.underlying3 (hval 2 3 v2 rfl rfl) h2
  obtain ⟨a3, rfl, rfl, rfl, w3⟩ := open_int Tryz.underlying3 (hval 3 3 v3 rfl rfl) h3
  obtain ⟨a4, rfl, rfl, rfl, w4⟩ := open_int Tryz.underlying3 (hval 4 3 v4 rfl rfl) h4
  obtain ⟨a5, rfl, rfl, rfl, w5⟩ := open_int Tryz.underlying5 (hval 5 5 v5 rfl rfl) h5
  obtain ⟨a6, len6, cap6, rfl⟩ := okWide_slice Tryz.underlying23 (hval 6 23 v6 rfl rfl)
  have k6 := h6
  have lt6 : ∀ x ∈ p6, x.block < W.heap.size := by obtain ⟨m, hm⟩ := k6; exact DataW.trod_lt m _ _ _ hm
  obtain ⟨l6, s6, b6⟩ : ∃ bs, Sl W (.slice a6 len6 cap6) bs ∧ Bs bs := by
    obtain ⟨fuel, hf⟩ := h6
    exact bytes_of_trod (by simpa [Value.cells] using hf)
  have z6 : l6.length ≤ 140737488351232 := by
    obtain ⟨fuel, hf⟩ := k6
    exact sl_len s6 (reach_bytes (j := 6) (by simpa [Value.cells] using hf) hsz rfl rfl)
  clear hA0 hval0
  refine (walk a0 a1 a2 a3 a4 a5 (.slice a6 len6 cap6) l6 W hG (bounds_i64 w0) (bounds_i64 w1) (bounds_i64 w2) (bounds_i64 w3) (bounds_i64 w4) (bounds_u8 w5) s6 b6 z6).mono fun e W' ⟨he, bel⟩ => ?_
  subst he
  exact ⟨_, rfl, _, _, _, [], _, [], hW', trodAll_mk1 (shut_bool Tryz.underlying4 _), (trodAll_cons_mk (shut_int Tryz.underlying3 w0) (trodAll_cons_mk (shut_int Tryz.underlying3 w1) (trodAll_cons_mk (shut_int Tryz.underlying3 w2) (trodAll_cons_mk (shut_int Tryz.underlying3 w3) (trodAll_cons_mk (shut_int Tryz.underlying3 w4) (trodAll_cons_mk (shut_int Tryz.underlying5 w5) (trodAll_cons_mk (Below.trod laidOut (by kernel_rfl) (of_decide_eq_true (by kernel_rfl)) k6 bel lt6) trodAll_mk0))))))), rfl, bel.frame _, fun h => by cases h⟩

theorem over : Rows.checkBackRow.holds Tryz.pinned (OpenSpec.ofChange Rows.checkBackSpec) :=
  OpenClaim.holds_of_wide 5 Tryz.f5 rfl rfl rfl rfl rfl rfl rfl ⟨rfl, rfl, rfl, rfl, rfl⟩ rfl rfl rfl rfl rfl (by kernel_rfl) Tryz.func5 (by kernel_rfl)
    (of_decide_eq_true (by kernel_rfl)) (by unfold Func.isWrapper; first | (rw [if_pos (by decide +kernel)]; kernel_rfl) | (rw [if_neg (by decide +kernel)]; exact ⟨rfl, rfl⟩))
    (fun os started H enc _ => lifted os started H enc)
end Go.Proofs.YtbkipibmaghejaaGreatDoor.checkBack

namespace Go.Proofs.YtbkipibmaghejaaGreatDoor
/-- The given statement: the tied card. -/
theorem CheckBack_holds : Rows.CheckBackCardSaid :=
  Claim7.holds_tied_plain_at .later [] [.data] true Rows.checkBackCard.stood.harness false
    checkBack.over (fun _ h => by cases h) (by kernel_rfl) (fun _ h => by cases h) checkBack_row_tie rfl ⟨rfl, rfl⟩ (by kernel_rfl) rfl
    (fun f fn hf hfn => by
      obtain rfl : f = 5 := Option.some.inj ((show Tryz.prog.funcNamed "broadsheet/broadsheetlaw10.CheckBack" = some 5 by kernel_rfl).symm.trans hf) |>.symm
      obtain rfl : fn = Tryz.f5 := (Option.some.inj (Tryz.func5.symm.trans hfn)).symm
      exact ⟨by kernel_rfl, fun j t ht => by
        rw [Tryz.params5] at ht
        have hm : t ∈ ([3, 3, 3, 3, 3, 5, 23] : List TypeId) := by simpa using Array.mem_of_getElem? ht
        have hall : (([3, 3, 3, 3, 3, 5, 23] : List TypeId).all fun u => !Tryz.prog.wantsStandIn u) = true := by kernel_rfl
        exact (show Tryz.prog.wantsStandIn t = false by simpa using List.all_eq_true.1 hall t hm)⟩)
    (by kernel_rfl)
#print axioms CheckBack_holds
end Go.Proofs.YtbkipibmaghejaaGreatDoor
