/-
  The statement CosignPutsCardSaid: for all numbers, cosignatures and bytes the law function CosignPuts returns true and leaves its arguments as they were; the table hash.roundWords starts as the program's text lays it (tied). No other condition.
-/
import Derived.Test.YtdjofooggofpkaaGreatDoorKYKnown
import Derived.Test.YtdjofooggofpkaaGreatDoorKYMixs
import Derived.Test.YtdjofooggofpkaaGreatDoorKYRefP
import Derived.Test.YtdjofooggofpkaaGreatDoorKYPuts
import Derived.Test.YtdjofooggofpkaaGreatDoorKRGrowO
import Derived.Test.YtdjofooggofpkaaGreatDoorKSRefV
import Derived.Test.YtdjofooggofpkaaGreatDoorKSRefD
import Derived.Test.YtdjofooggofpkaaGreatDoorKXOwn
import Derived.Test.YtdjofooggofpkaaGreatDoorKLSpots
import Derived.Test.YtdjofooggofpkaaGreatDoorKLSmalls
import Derived.Test.YtdjofooggofpkaaGreatDoorKHSmalls
import Derived.Deep.Cut
import Derived.Deep.CutRange
import Derived.Test.YtdjofooggofpkaaGreatDoorTie
import Derived.Test.YtdjofooggofpkaaGreatDoorCards
import Derived.SevenTiedAt
namespace Go.Proofs.YtdjofooggofpkaaGreatDoor.cosignPuts
open Go.ChangeShapes Go.WideShapes Go.ChangeAt Go.RowKit
open Go.Proofs.YtdjofooggofpkaaGreatDoor
set_option linter.unusedVariables false

theorem xor_b (x y : Int) : 0 ≤ bits .xor .u8 x y ∧ bits .xor .u8 x y ≤ 255 := by
  show 0 ≤ IntKind.u8.wrap _ ∧ IntKind.u8.wrap _ ≤ 255
  simp [IntKind.wrap, IntKind.signed, IntKind.bits]
  omega
set_option maxRecDepth 100000 in
set_option maxHeartbeats 16000000 in
theorem walk (xn xw xs : Int) (vr : Value) (cr0 : Co) (vb : Value) (bs : List Int) (xt turn : Int) (w : World) (hG : Gl w) (hn : -9223372036854775808 ≤ xn ∧ xn ≤ 9223372036854775807) (hw0 : -9223372036854775808 ≤ xw ∧ xw ≤ 9223372036854775807) (hs : -9223372036854775808 ≤ xs ∧ xs ≤ 9223372036854775807) (hC : RawCo w vr cr0) (hS : Sl w vb bs) (hB : Bs bs) (hl : bs.length ≤ 140737488351232) (hbo : ∀ k, vb.ownBlock = some k → k < w.heap.size) (ht : -9223372036854775808 ≤ xt ∧ xt ≤ 9223372036854775807) (hturn : 0 ≤ turn ∧ turn ≤ 255) :
    Calls Tryz.prog 3 #[.int .i64 xn, .int .i64 xw, .int .i64 xs, vr, vb, .int .i64 xt, .int .u8 turn] w fun e w' => e = .returned (.bool true) ∧ Below w.heap.size w w' := by
  have HG := hide hG
  have HT := hide ht
  have HSb := hide (fun w' (k : Kp [] w w') => hS.kept k (by simp))
  have HBb := hide hB
  have HBl := hide hl
  have HBo := hide hbo
  obtain ⟨ab, cb, hvb, -⟩ := id hS
  obtain ⟨nb, hnb⟩ : ∃ k, k = bs.length := ⟨_, rfl⟩
  rw [← hnb] at hvb
  subst hvb
  obtain ⟨zk, zi, zps, zqs⟩ := cr0
  obtain ⟨zp, zpn, zpc, zq, zqn, zqc, lp, lq, rfl, hz1, ⟨hLP, hlp⟩, ⟨hLQ, hlq⟩, hzk, hzi⟩ := hC
  simp only at hlp hlq hzk hzi ⊢
  have HRAW : Hid (∃ lp lq, zpn = lp.length ∧ Lists w (.slice zp zpn zpc) lp ∧ lp.map (·.2) = zps ∧ Lists w (.slice zq zqn zqc) lq ∧ lq.map (·.2) = zqs) := ⟨lp, lq, by obtain ⟨_, _, e, _⟩ := hLP; injection e, hLP, hlp, hLQ, hlq⟩
  have HZB : Hid ((-9223372036854775808 ≤ zk ∧ zk ≤ 9223372036854775807) ∧ (-9223372036854775808 ≤ zi ∧ zi ≤ 9223372036854775807)) := ⟨hzk, hzi⟩
  have HZ1 := hide hz1
  have hzn : zpn ≤ 9223372036854775807 := by obtain ⟨_, _, e, h1, _⟩ := hLP; injection e; omega
  obtain ⟨g10, hg10⟩ : ∃ g, g = w.heap.size := ⟨_, rfl⟩
  obtain ⟨w1, hw1⟩ : ∃ x, x = w.alloc (.cells #[.int .i64 zk, .int .i64 zi, .slice zp zpn zpc, .slice zq zqn zqc] 26) := ⟨_, rfl⟩
  have K1 : Kp [] w w1 := by rw [hw1]; exact (Kp.refl [] w).alloc _
  have G1 : w1.heap[g10]? = some (.cells #[.int .i64 zk, .int .i64 zi, .slice zp zpn zpc, .slice zq zqn zqc] 26 (0, 0)) := by rw [hw1, hg10]; exact heap_alloc_new w _
  have HK1 := hide K1
  have HG1 := hide G1
  have HWw := hide hw1
  have H10 := hide hg10
  obtain ⟨sd, hsd⟩ : ∃ x, x = seedX xn := ⟨_, rfl⟩
  have HSB : Hid (Bs sd) := hide (by rw [hsd]; exact seedX_bs xn)
  have HSL : Hid (sd.length = 32) := hide (by rw [hsd]; exact seedX_len xn)
  have HSd := hide (xseed_any xn w1)
  rw [← hsd] at HSd
  obtain ⟨sz, hsz⟩ : ∃ x, x = wiP xs 0 256 := ⟨_, rfl⟩
  obtain ⟨gk, hgk⟩ : ∃ x, x = wiP xw (-1) 5 := ⟨_, rfl⟩
  have HGK : Hid (-9223372036854775808 ≤ gk ∧ gk ≤ 9223372036854775807) := hide (by rw [hgk]; have := wiP_ge xw (-1) 5 (by omega); omega)
  have HW2 := hide (fun w => within_wi xs 0 256 w (by omega) (by omega) (by omega))
  have HW3 := hide (fun w => within_wi xw (-1) 5 w (by omega) (by omega) (by omega))
  rw [← hsz] at HW2
  rw [← hgk] at HW3
  obtain ⟨r, hr⟩ : ∃ r, r = hashX xn := ⟨_, rfl⟩
  have HRB : Hid (Bs r) := hide (by rw [hr]; exact hashX_bs xn)
  have HH := hide (fun w => xhash_any xn w)
  rw [← hr] at HH
  obtain ⟨B, hBB⟩ : ∃ B, B = bodW sz r := ⟨_, rfl⟩
  have HBB := hide hBB
  have HBS : Hid (Bs B) := hide (by rw [hBB]; exact bodW_bs sz r (unhide HRB))
  have HBL : Hid (B.length ≤ 1000) := hide (by rw [hBB]; have := bodW_le sz r; omega)
  clear hG hn hw0 hs hS hB hl hbo ht hturn hnb hz1 hLP hlp hLQ hlq hzk hzi hg10 hw1 K1 G1 hsd hsz hgk hr hBB
  go_enter Tryz.func3, Tryz.ntmps3
  go_wp2_with fail
  rw [← unhide HWw, ← unhide H10]
  refine (unhide HSd).mono ?_
  rintro ee w2 ⟨sa0, sm0, sc0, rfl, R2, K2⟩
  have HNw := hide (new_ownA _ sd w2 R2.sl (unhide HSB) (unhide HSL))
  have HK2 := hide ((unhide HK1).trans K2)
  have HG2 := hide (K2.heap (unhide HG1) (by simp))
  clear HSd R2 K2 HK1 HG1
  go_wp2_with fail
  refine (unhide HNw).mono ?_
  rintro ee w3 ⟨go, base, rfl, O3, K3, hgo⟩
  have HO3 := hide O3
  have HK3 := hide ((unhide HK2).trans K3)
  have HG3 := hide (K3.heap (unhide HG2) (by simp))
  have HGO : Hid (g10 < go) := hide (Nat.lt_of_lt_of_le (lt_of_block (unhide HG2)) hgo)
  clear HNw O3 K3 HK2 HG2 hgo
  go_wp2_with fail
  refine (unhide HW2 w3).mono ?_
  rintro ee wx ⟨rfl, hwx⟩
  subst wx
  go_wp2_with fail
  refine (unhide HH w3).mono ?_
  rintro ee w4 ⟨ar, mr, cr, rfl, R4, K4⟩
  have HS4 := hide R4.sl
  have HO4 := hide ((unhide HO3).kept K4)
  have HK4 := hide ((unhide HK3).trans K4)
  have HG4 := hide (K4.heap (unhide HG3) (by simp))
  clear R4 K4 HH HW2 HO3 HK3 HG3
  have Ga := heap_alloc_new w4 (.cells #[.int .i64 0, .slice none 0 0] 33)
  have HKa : Hid (Kp [] w4 (w4.alloc (.cells #[.int .i64 0, .slice none 0 0] 33))) := (Kp.refl [] w4).alloc _
  go_wp2_with (refine wpList_store_flat rfl 33 (.tmp 16) (.tmp 39) rfl w4.heap.size 0 rfl _ _ [.int .i64 sz, .slice ar mr cr] Ga rfl (by simp) Tryz.chkSize (by simp [Value.oneCell']) #[.int .i64 sz, .slice ar mr cr] rfl ?_; intro w6 Gw6 Kw6; refine Hid.out ?_)
  obtain ⟨g16, hg16⟩ : ∃ g, g = w4.heap.size := ⟨_, rfl⟩
  have Kw4w6 : Kp [] w4 w6 := (unhide HKa).then Kw6 (fun i hi => .inr (by simp at hi; omega))
  rw [← hg16] at Gw6 ⊢
  have HK6 := hide ((unhide HK4).trans Kw4w6)
  have HO6 := hide ((unhide HO4).kept Kw4w6)
  have HG106 := hide (Kw4w6.heap (unhide HG4) (by simp))
  have HG166 := hide Gw6
  have HC6 : Hid (CkV w6 (.agg #[.int .i64 sz, .slice ar mr cr]) sz r) := ⟨ar, mr, cr, rfl, (unhide HS4).kept Kw4w6 (by simp), unhide HRB⟩
  have HD : Hid (∀ w', Kp [] w6.drew w' → Kp [] w6 w') := fun w' k' => (kp_drew w6).trans k'
  have HT16 : Hid (∀ w', Kp [] w6.drew w' → w'.heap[g16]? = some (.cells #[.int .i64 sz, .slice ar mr cr] 33 (0, 0))) := fun w' k' => (unhide HD w' k').heap (unhide HG166) (by simp)
  have HOW : Hid (∀ w', Kp [] w6.drew w' → Ow w' base go sd 5) := fun w' k' => (unhide HO6).kept (unhide HD w' k')
  have HCK : Hid (∀ w', Kp [] w6.drew w' → CkV w' (.agg #[.int .i64 sz, .slice ar mr cr]) sz r) := fun w' k' => (unhide HC6).kept (unhide HD w' k')
  clear Ga HKa Gw6 Kw6 Kw4w6 hg16 HS4 HO4 HK4 HG4
  refine hide ?_
  go_wp2_with fail
  refine region_grow_tail 8 Tryz.mixed [Is (.int .i64 xw), Is (.int .i64 gk), Is (.pointer (some ⟨go, 0, none⟩)), Is (.agg #[.int .i64 sz, .slice ar mr cr]), SlT (B), SgT go 3 (sgnP sd 3 (digP B)) (pthP sd 3 4), CoAT go ⟨gk, 3, sgnP sd 3 (digP B), pthP sd 3 4⟩, NewX w6.drew.heap.size] [[(1, none)], [(40, some 0)], [(15, none)], [(16, none)], [(43, some 3)], [(42, some 2), (44, some 4)], [(41, some 1), (45, some 5)], []] (by kernel_rfl) ?_ ?_ ?_
  all_goals try simp only [List.take_succ_cons, List.take_zero, List.drop_succ_cons, List.drop_zero]
  · simp only [List.mem_cons, List.not_mem_nil, or_false]
    intro R hR
    rcases hR with rfl | rfl | rfl | rfl | rfl | rfl | rfl | rfl <;> first | exact stable_is _ | exact stable_sl _ | exact stable_sgt _ _ _ _ | exact stable_coat _ _ | exact stable_newx _
  · refine steps_cons (fun a w hk hn => ?_) ?_
    · have h1 : a.eval (.tmp 1) = .int .i64 xw := hn.1
      clear hn
      refine wants_plain rfl ?_
      exact grown_move (.tmp 1) rfl h1
    refine steps_cons (fun a w hk hn => ?_) ?_
    · have h40 : a.eval (.tmp 40) = .int .i64 xw := hn.1
      clear hn
      refine wants_plain rfl ?_
      refine grown_call (f := 6) rfl Tryz.func6 (by kernel_rfl) (by kernel_rfl) ?_
      simp only [List.map_toArray, List.map_cons, List.map_nil, h40]
      refine (unhide HW3 w).mono ?_
      rintro e w' ⟨rfl, rfl⟩
      exact ⟨_, rfl, Kp.refl _ _, rfl⟩
    refine steps_cons (fun a w hk hn => ?_) ?_
    · have h15 : a.eval (.tmp 15) = .pointer (some ⟨go, 0, none⟩) := hn.1
      clear hn
      refine wants_plain rfl ?_
      exact grown_move (.tmp 15) rfl h15
    refine steps_cons (fun a w hk hn => ?_) ?_
    · have h16 : a.eval (.tmp 16) = .pointer (some ⟨g16, 0, none⟩) := hn.1
      clear hn
      refine wants_plain rfl ?_
      exact grown_loadf 33 (.tmp 16) rfl g16 0 h16 _ _ _ _ (unhide HT16 w hk) [.int .i64 sz, .slice ar mr cr] (flat_in rfl) Tryz.underlying33 rfl Tryz.chkSize rfl
    refine steps_cons (fun a w hk hn => ?_) ?_
    · have h43 : a.eval (.tmp 43) = .agg #[.int .i64 sz, .slice ar mr cr] := hn.1
      clear hn
      refine wants_plain rfl ?_
      refine grown_call (f := 9) rfl Tryz.func9 (by kernel_rfl) (by kernel_rfl) ?_
      simp only [List.map_toArray, List.map_cons, List.map_nil, h43]
      refine (rcosign_any _ sz r B (unhide HBB) w (unhide HCK w hk)).mono ?_
      rintro e w' ⟨ao, m, c, rfl, R, K⟩
      exact ⟨_, rfl, K, R⟩
    refine steps_cons (fun a w hk hn => ?_) ?_
    · have h42 : a.eval (.tmp 42) = .pointer (some ⟨go, 0, none⟩) := hn.1
      have h44 : Sl w (a.eval (.tmp 44)) (B) := hn.2.1
      clear hn
      refine wants_plain rfl ?_
      refine grown_call (f := 8) rfl Tryz.func8 (by kernel_rfl) (by kernel_rfl) ?_
      simp only [List.map_toArray, List.map_cons, List.map_nil, h42]
      refine (own_signA go base sd 3 _ B _ rfl w (unhide HOW w hk) (unhide HSB) (unhide HSL) (by omega) h44 (unhide HBS) (unhide HBL)).mono ?_
      rintro e w' ⟨v, rfl, V, K⟩
      exact ⟨_, rfl, K, V⟩
    refine steps_cons (fun a w hk hn => ?_) ?_
    · have h41 : a.eval (.tmp 41) = .int .i64 gk := hn.1
      have h45 : (SgT go 3 (sgnP sd 3 (digP B)) (pthP sd 3 4)) (a.eval (.tmp 45)) w := hn.2.1
      clear hn
      refine wants_plain rfl ?_
      exact grown_bco (.tmp 41) (.tmp 45) rfl h41 h45
    refine steps_cons (fun a w hk hn => ?_) ?_
    · clear hn
      refine wants_plain rfl ?_
      exact grown_newx _ hk.size rfl
    exact trivial
  intro W1 hkW1
  rintro _ rfl
  rintro _ rfl
  rintro _ rfl
  rintro _ rfl
  intro v44 h44
  intro v45 h45
  intro v46 h46
  intro v17 h17
  refine fin_nil ?_
  simp only [Act.put, List.set_cons_zero, List.set_cons_succ, List.setIfInBounds_toArray]
  have K61 := unhide HD W1 hkW1
  have hV := CoA.v h46
  obtain ⟨ap, np, cp, aq, nq, cq, ev, -⟩ := id hV
  simp only at ev
  subst ev
  obtain ⟨g17, e17, hIs, hge⟩ := h17
  subst e17
  obtain ⟨ix, iy, a2, n2, c2, a3, n3, c3, G17⟩ := id hIs
  have hrg := rgtP_sgn sd 3 (by omega) (digP B)
  have hbig : Co.big ⟨gk, 3, sgnP sd 3 (digP B), pthP sd 3 4⟩ := by
    have h := (rgtP_iff _ _ _).1 hrg
    refine ⟨.inr ?_, .inr ?_⟩
    · show 3 ≤ (sgnP sd ((3 : Nat) : Int) (digP B)).length
      rw [h.2.1.1]; omega
    · show 3 ≤ (pthP sd 3 4).length
      rw [h.2.2.1]; omega
  obtain ⟨d1, hd1⟩ : ∃ d : Co, d = ⟨gk, 3, sgnP sd 3 (digP B), pthP sd 3 4⟩ := ⟨_, rfl⟩
  rw [← hd1] at hV hbig
  have HPB : Hid ((∀ x ∈ d1.ps, Bs x) ∧ ∀ x ∈ d1.qs, Bs x) := hide (CoV.sig hV).bs
  have HD1 := hide hd1
  have HV1 := hide hV
  have HIS := hide hIs
  have HBIG := hide hbig
  have HK61 := hide K61
  have HGE := hide hge
  clear h44 h45 h46 hV hIs hbig K61 hge HT16 HOW HCK hd1 hrg
  go_wp2_with (refine wpList_store_flat rfl 26 (.tmp 17) (.tmp 46) rfl g17 0 rfl _ _ [.int .i64 gk, .int .i64 3, .slice ap np cp, .slice aq nq cq] G17 rfl (by simp) Tryz.cosSize (by simp [Value.oneCell']) #[.int .i64 gk, .int .i64 3, .slice ap np cp, .slice aq nq cq] rfl ?_; intro w8 G8 K8; refine Hid.out ?_)
  have hdr : w6.drew.heap.size = w6.heap.size := rfl
  have K68 : Kp [] w6 w8 := (unhide HK61).then K8 (fun i hi => .inr (by simp at hi; have := unhide HGE; omega))
  have hV8 := (unhide HV1).off4 (unhide HBIG) (unhide HIS) K8
  have hne17 : g17 ≠ g10 := by have := unhide HGE; have := lt_of_block (unhide HG106); omega
  have HV18 := hide hV8
  have HK8 := hide ((unhide HK6).trans K68)
  have HG108 := hide (K68.heap (unhide HG106) (by simp))
  have HG178 := hide G8
  clear G17 G8 K8 K68 hV8 HV1 HIS HK61 HGE hkW1 HD HO6 HC6 HG166 HG106 HK6 hdr HGO
  refine hide ?_
  have c2c : w8.cell? ⟨g10, 2, none⟩ = some (.slice zp zpn zpc) := by rw [cell_of_row _ g10 2 _ _ _ (unhide HG108)]; rfl
  go_upto_if 51 with fail
  go_cut [] from 47 to 57 (fun wc => Hid (∃ (n : Nat) (d0 : Co), wc.heap[g10]? = some (.cells #[.int .i64 zk, .int .i64 zi, .slice zp n zpc, .slice zq zqn zqc] 26 (0, 0)) ∧ wc.heap[g17]? = some (.cells #[.int .i64 gk, .int .i64 3, .slice ap np cp, .slice aq nq cq] 26 (0, 0)) ∧ (∀ w', Kp [] wc w' → CoV w' (.agg #[.int .i64 zk, .int .i64 zi, .slice zp n zpc, .slice zq zqn zqc]) d0) ∧ CoV wc (.agg #[.int .i64 gk, .int .i64 3, .slice ap np cp, .slice aq nq cq]) d1 ∧ (d0.k = zk ∧ d0.i = zi) ∧ Kp [] w wc))
  case first =>
    by_cases hcut : 70 < zpn
    · have h70 : (70 : Int) < (zpn : Int) := by omega
      have hrs := run_lhead zp zpn zpc 70 w8 (by have := (unhide HZ1).1; omega)
      have hrs1 : (Instr.sliceAt 22 (.slice zp zpn zpc) none (some (.int .i64 70)) none).run Tryz.prog w8 = .ok (.slice zp 70 zpc) w8 := hrs
      have kP := setCell_kp w8 g10 2 (.slice zp 70 zpc)
      have gP := heap_setCell_same w8 g10 2 _ _ (.slice zp 70 zpc) (unhide HG108)
      have f2 : w8.frozen? ⟨g10, 2, none⟩ = false := frozen_of_row w8 g10 2 _ _ (unhide HG108)
      obtain ⟨w9, hw9⟩ : ∃ x, x = w8.setCell ⟨g10, 2, none⟩ (.slice zp 70 zpc) := ⟨_, rfl⟩
      have K9 : Kp [] w w9 := (unhide HK8).then (by rw [hw9]; exact kP) (fun i hi => .inr (by simp at hi; have := unhide H10; omega))
      have HC : Hid (∃ (n : Nat) (d0 : Co), w9.heap[g10]? = some (.cells #[.int .i64 zk, .int .i64 zi, .slice zp n zpc, .slice zq zqn zqc] 26 (0, 0)) ∧ w9.heap[g17]? = some (.cells #[.int .i64 gk, .int .i64 3, .slice ap np cp, .slice aq nq cq] 26 (0, 0)) ∧ (∀ w', Kp [] w9 w' → CoV w' (.agg #[.int .i64 zk, .int .i64 zi, .slice zp n zpc, .slice zq zqn zqc]) d0) ∧ CoV w9 (.agg #[.int .i64 gk, .int .i64 3, .slice ap np cp, .slice aq nq cq]) d1 ∧ (d0.k = zk ∧ d0.i = zi) ∧ Kp [] w w9) := by
        obtain ⟨lp, lq, h0, h1, h2, h3, h4⟩ := unhide HRAW
        refine ⟨70, ⟨zk, zi, zps.take 70, zqs⟩, by rw [hw9]; simpa using gP, by rw [hw9]; exact kP.heap (unhide HG178) (by simp; exact hne17), fun w' k' => ⟨zp, 70, zpc, zq, zqn, zqc, rfl, _, _, lp.take 70, lq, rfl, (h1.take (by omega)).kept (K9.trans k'), by rw [List.map_take, h2], h3.kept (K9.trans k'), h4⟩, ?_, ⟨rfl, rfl⟩, K9⟩
        rw [hw9]
        exact (unhide HV18).off4 (unhide HBIG) ⟨_, _, _, _, _, _, _, _, unhide HG108⟩ kP
      have HW9 := hide hw9
      clear hrs kP gP K9 hw9
      go_wp2_with fail
      go_meet
      case rel => rw [← unhide HW9]; exact HC
    · have h70 : ¬ (70 : Int) < (zpn : Int) := by omega
      have HC : Hid (∃ (n : Nat) (d0 : Co), w8.heap[g10]? = some (.cells #[.int .i64 zk, .int .i64 zi, .slice zp n zpc, .slice zq zqn zqc] 26 (0, 0)) ∧ w8.heap[g17]? = some (.cells #[.int .i64 gk, .int .i64 3, .slice ap np cp, .slice aq nq cq] 26 (0, 0)) ∧ (∀ w', Kp [] w8 w' → CoV w' (.agg #[.int .i64 zk, .int .i64 zi, .slice zp n zpc, .slice zq zqn zqc]) d0) ∧ CoV w8 (.agg #[.int .i64 gk, .int .i64 3, .slice ap np cp, .slice aq nq cq]) d1 ∧ (d0.k = zk ∧ d0.i = zi) ∧ Kp [] w w8) := by
        obtain ⟨lp, lq, h0, h1, h2, h3, h4⟩ := unhide HRAW
        have K8 := unhide HK8
        exact ⟨zpn, ⟨zk, zi, zps, zqs⟩, unhide HG108, unhide HG178, fun w' k' => ⟨zp, zpn, zpc, zq, zqn, zqc, rfl, _, _, lp, lq, rfl, h1.kept (K8.trans k'), h2, h3.kept (K8.trans k'), h4⟩, unhide HV18, ⟨rfl, rfl⟩, K8⟩
      go_wp2_with fail
      go_meet
      case rel => exact HC
  case rest =>
    obtain ⟨n0, d0, hg10, hg17, hV0, hV1, hd0, hKc⟩ := unhide hcut
    obtain ⟨w9, hw9⟩ : ∃ x, x = wc := ⟨_, rfl⟩
    subst hw9
    obtain ⟨wA, hwA⟩ : ∃ x, x = w9.alloc (.cells #[.int .i64 zk, .int .i64 zi, .slice zp n0 zpc, .slice zq zqn zqc, .int .i64 gk, .int .i64 3, .slice ap np cp, .slice aq nq cq] 26) := ⟨_, rfl⟩
    obtain ⟨g60, hg60⟩ : ∃ g, g = w9.heap.size := ⟨_, rfl⟩
    have KA : Kp [] w9 wA := by rw [hwA]; exact (Kp.refl [] _).alloc _
    have GA : wA.heap[g60]? = some (.cells #[.int .i64 zk, .int .i64 zi, .slice zp n0 zpc, .slice zq zqn zqc, .int .i64 gk, .int .i64 3, .slice ap np cp, .slice aq nq cq] 26 (0, 0)) := by rw [hwA, hg60]; exact heap_alloc_new w9 _
    have HKA : Hid (Kp [] w wA) := hKc.trans KA
    have HR0 : Hid (∀ (i : Nat) u, [.int .i64 d0.k, .int .i64 d0.i, .slice zp n0 zpc, .slice zq zqn zqc][i]? = some u → wA.cell? ⟨g60, i, none⟩ = some u) := hide (fun i u hu => by
      have hi : i < 4 := by have := (List.getElem?_eq_some_iff.1 hu).1; simpa using this
      rw [cell_of_row wA g60 i _ _ _ GA]
      rw [hd0.1, hd0.2] at hu
      rcases (by omega : i = 0 ∨ i = 1 ∨ i = 2 ∨ i = 3) with rfl | rfl | rfl | rfl <;> simpa using hu)
    have HR1 : Hid (∀ (i : Nat) u, [.int .i64 d1.k, .int .i64 d1.i, .slice ap np cp, .slice aq nq cq][i]? = some u → wA.cell? ⟨g60, 4 + i, none⟩ = some u) := hide (fun i u hu => by
      have hi : i < 4 := by have := (List.getElem?_eq_some_iff.1 hu).1; simpa using this
      rw [cell_of_row wA g60 (4 + i) _ _ _ GA]
      rw [unhide HD1] at hu
      rcases (by omega : i = 0 ∨ i = 1 ∨ i = 2 ∨ i = 3) with rfl | rfl | rfl | rfl <;> simpa using hu)
    have HV0 : Hid (∀ w', Kp [] wA w' → CoV w' (.agg #[.int .i64 d0.k, .int .i64 d0.i, .slice zp n0 zpc, .slice zq zqn zqc]) d0) := fun w' k' => by
      have h := hV0 w' (KA.trans k')
      rw [hd0.1, hd0.2]
      exact h
    have HV1 : Hid (∀ w', Kp [] wA w' → CoV w' (.agg #[.int .i64 d1.k, .int .i64 d1.i, .slice ap np cp, .slice aq nq cq]) d1) := fun w' k' => by
      have h := hV1.kept (KA.trans k')
      rw [unhide HD1] at h ⊢
      exact h
    have HB0 : Hid ((-9223372036854775808 ≤ d0.k ∧ d0.k ≤ 9223372036854775807) ∧ (-9223372036854775808 ≤ d0.i ∧ d0.i ≤ 9223372036854775807)) := hide (by rw [hd0.1, hd0.2]; exact unhide HZB)
    have HB1 : Hid ((-9223372036854775808 ≤ d1.k ∧ d1.k ≤ 9223372036854775807) ∧ (-9223372036854775808 ≤ d1.i ∧ d1.i ≤ 9223372036854775807)) := hide (by rw [unhide HD1]; exact ⟨unhide HGK, by show _ ≤ (3 : Int) ∧ (3 : Int) ≤ _; omega⟩)
    have HWA := hide hwA
    have H60 := hide hg60
    have c0 : w9.cell? ⟨g10, 0, none⟩ = some (.int .i64 zk) := by rw [cell_of_row _ g10 0 _ _ _ (hg10)]; rfl
    have c1 : w9.cell? ⟨g10, 1, none⟩ = some (.int .i64 zi) := by rw [cell_of_row _ g10 1 _ _ _ (hg10)]; rfl
    have c2 : w9.cell? ⟨g10, 2, none⟩ = some (.slice zp n0 zpc) := by rw [cell_of_row _ g10 2 _ _ _ (hg10)]; rfl
    have c3 : w9.cell? ⟨g10, 3, none⟩ = some (.slice zq zqn zqc) := by rw [cell_of_row _ g10 3 _ _ _ (hg10)]; rfl
    have f0 : w9.cell? ⟨g17, 0, none⟩ = some (.int .i64 gk) := by rw [cell_of_row _ g17 0 _ _ _ (hg17)]; rfl
    have f1 : w9.cell? ⟨g17, 1, none⟩ = some (.int .i64 3) := by rw [cell_of_row _ g17 1 _ _ _ (hg17)]; rfl
    have f2 : w9.cell? ⟨g17, 2, none⟩ = some (.slice ap np cp) := by rw [cell_of_row _ g17 2 _ _ _ (hg17)]; rfl
    have f3 : w9.cell? ⟨g17, 3, none⟩ = some (.slice aq nq cq) := by rw [cell_of_row _ g17 3 _ _ _ (hg17)]; rfl
    have HRN : Hid (Row wA wA.heap.size (.slice none 0 0) (outK d0 d1 0)) := hide (row_nil _ _)
    clear hwA hg60 KA GA hcut hg10 hg17 hV0 hV1 hd0 hKc HV18 HG108 HG178 HK8 HRAW HZ1 HZB HBIG H10 hzn hne17 c2c
    go_wp2_with fail
    rw [← unhide HWA, ← unhide H60]
    clear c0 c1 c2 c3 f0 f1 f2 f3 HWA H60
    go_loopw [18, 62] (fun vx vi wr => ∃ (j : Nat) (ax : Option Addr) (mx cx : Nat), j ≤ 2 ∧ vi = .int .i64 j ∧ vx = .slice ax mx cx ∧ Row wr wA.heap.size (.slice ax mx cx) (outK d0 d1 j) ∧ Kp [] wA wr) (fun _ vi _ => 2 - (intOf vi).toNat)
    case atStart => exact ⟨0, none, 0, 0, by omega, rfl, rfl, unhide HRN, Kp.refl _ _⟩
    case round =>
      clear HRN
      obtain ⟨j, ax, mx, cx, hj, rfl, rfl, hR, hKr⟩ := hrel
      have HR := hide hR
      have HKr := hide hKr
      clear hR hKr
      by_cases hlt : j < 2
      · have hlti : (j : Int) < 2 := by omega
        obtain ⟨c, pa, pn, pc, ra, rn, rc, hOUT, hrange, hCV, hBk, hBi⟩ : ∃ (c : Co) (pa : Option Addr) (pn pc : Nat) (ra : Option Addr) (rn rc : Nat), outK d0 d1 (j + 1) = c.out ∧ (∀ (i : Nat) u, [.int .i64 c.k, .int .i64 c.i, .slice pa pn pc, .slice ra rn rc][i]? = some u → wA.cell? ⟨g60, j * 4 + i, none⟩ = some u) ∧ (∀ w', Kp [] wA w' → CoV w' (.agg #[.int .i64 c.k, .int .i64 c.i, .slice pa pn pc, .slice ra rn rc]) c) ∧ (-9223372036854775808 ≤ c.k ∧ c.k ≤ 9223372036854775807) ∧ (-9223372036854775808 ≤ c.i ∧ c.i ≤ 9223372036854775807) := by
          have : j = 0 ∨ j = 1 := by omega
          rcases this with rfl | rfl
          · exact ⟨d0, zp, _, zpc, zq, zqn, zqc, rfl, fun i u hu => by have h := unhide HR0 i u hu; simpa using h, unhide HV0, unhide HB0⟩
          · exact ⟨d1, ap, np, cp, aq, nq, cq, rfl, fun i u hu => by have h := unhide HR1 i u hu; simpa using h, unhide HV1, unhide HB1⟩
        have HOUT := hide hOUT
        obtain ⟨ck, hck⟩ : ∃ x, x = c.k := ⟨_, rfl⟩
        obtain ⟨ci, hci⟩ : ∃ x, x = c.i := ⟨_, rfl⟩
        rw [← hck, ← hci] at hrange hCV
        rw [← hck] at hBk
        rw [← hci] at hBi
        have HCK4 := hide hck
        have HCI := hide hci
        have HCV := hide hCV
        have HBI := hide hBi
        have x0 : wr.cell? ⟨g60, j * 4, none⟩ = some (.int .i64 ck) := (unhide HKr).cell (hrange 0 _ rfl) (by simp)
        have x1 : wr.cell? ⟨g60, j * 4 + 1, none⟩ = some (.int .i64 ci) := (unhide HKr).cell (hrange 1 _ rfl) (by simp)
        have x2 : wr.cell? ⟨g60, j * 4 + 2, none⟩ = some (.slice pa pn pc) := (unhide HKr).cell (hrange 2 _ rfl) (by simp)
        have x3 : wr.cell? ⟨g60, j * 4 + 3, none⟩ = some (.slice ra rn rc) := (unhide HKr).cell (hrange 3 _ rfl) (by simp)
        clear hOUT hck hci hrange hCV hBi
        have Ga := heap_alloc_new wr (.cells #[.int .i64 0, .int .i64 0, .slice none 0 0, .slice none 0 0] 26)
        have HKa : Hid (Kp [] wr (wr.alloc (.cells #[.int .i64 0, .int .i64 0, .slice none 0 0, .slice none 0 0] 26))) := (Kp.refl [] wr).alloc _
        go_wp2_with (refine wpList_store_flat rfl 26 (.tmp 20) (.tmp 65) rfl wr.heap.size 0 rfl _ _ [.int .i64 ck, .int .i64 ci, .slice pa pn pc, .slice ra rn rc] Ga rfl (by simp) Tryz.cosSize (by simp [Value.oneCell']) #[.int .i64 ck, .int .i64 ci, .slice pa pn pc, .slice ra rn rc] rfl ?_; intro w10 Gw10 Kw10; refine Hid.out ?_)
        obtain ⟨g20, hg20⟩ : ∃ g, g = wr.heap.size := ⟨_, rfl⟩
        have Kwrw10 : Kp [] wr w10 := (unhide HKa).then Kw10 (fun i hi => .inr (by simp at hi; omega))
        rw [← hg20] at Gw10 ⊢
        have HK10 := hide ((unhide HKr).trans Kwrw10)
        have HG10 := hide Gw10
        have HG20 : Hid (g20 < w10.heap.size) := hide (lt_of_block Gw10)
        clear Ga HKa Gw10 Kw10 Kwrw10 hg20 x0 x1 x2 x3 HR
        refine hide ?_
        go_wp2_with fail
        refine (new_abs w10).mono ?_
        rintro ee w11 ⟨p, rfl, W11, hp, K11⟩
        have HP10 := hide hp
        have HGP : Hid (g20 < p) := hide (Nat.lt_of_lt_of_le (unhide HG20) hp)
        have HK11 := hide ((unhide HK10).trans K11)
        have HG11 := hide (K11.heap (unhide HG10) (by simp))
        have t0 : w11.cell? ⟨g20, 0, none⟩ = some (.int .i64 ck) := by rw [cell_of_row _ g20 0 _ _ _ (unhide HG11)]; rfl
        clear hp K11
        by_cases hk0 : ¬ 0 ≤ ck
        · have HOK : Hid (c.ok = false) := hide (Co.ok_lo (by rw [← unhide HCK4]; omega))
          have HKq := HK11
          have HK11q : Hid (Kp [] w11 w11) := Kp.refl _ _
          have HGq := HG11
          clear t0
          have HPut := hide (coput_no p _ c w11 (unhide HCV w11 (unhide HKq)) (unhide HOK))
          have HWq := hide (Wr.kept W11 (unhide HK11q) (by simp) (by simp))
          have z0 : w11.cell? ⟨g20, 0, none⟩ = some (.int .i64 ck) := by rw [cell_of_row _ g20 0 _ _ _ (unhide HGq)]; rfl
          have z1 : w11.cell? ⟨g20, 1, none⟩ = some (.int .i64 ci) := by rw [cell_of_row _ g20 1 _ _ _ (unhide HGq)]; rfl
          have z2 : w11.cell? ⟨g20, 2, none⟩ = some (.slice pa pn pc) := by rw [cell_of_row _ g20 2 _ _ _ (unhide HGq)]; rfl
          have z3 : w11.cell? ⟨g20, 3, none⟩ = some (.slice ra rn rc) := by rw [cell_of_row _ g20 3 _ _ _ (unhide HGq)]; rfl
          clear W11
          go_wp2_with fail
          refine (unhide HPut).mono ?_
          rintro ee w13 ⟨rfl, K13⟩
          have HDn := hide (done_any p _ [] w13 ((unhide HWq).kept K13 (by simp) (by simp)) (by simp))
          have HK13 := hide ((unhide HKq).trans K13)
          clear HPut K13 z0 z1 z2 z3
          go_wp2_with fail
          refine (unhide HDn).mono ?_
          rintro ee w14 ⟨a2, c2, rfl, R14, K14⟩
          have HR14 : Hid (Row w14 wA.heap.size (.slice a2 0 c2) []) := hide (owns_rebase R14 (fun i hi => Nat.le_trans (unhide HK13).size (Row.own R14 i hi)))
          have HK14 := hide ((unhide HK13).trans K14)
          simp only [List.length_nil]
          clear HDn R14 K14
          go_wp2_with fail
          refine region_grow Tryz.mixed [Is (.bool false), Is (.bool false), Is (undef), Is (undef), Is (undef), Is (undef), Is (undef), Is (undef), Is (undef), Is (undef), Is (undef), Is (undef), Is (undef), Is (undef), Is (.bool false), Is (.bool false), Is (.bool false), Is (.bool true), Is (.bool true), Is (.slice a2 0 c2), Is (.int .i64 0), Is (.bool false), Is (.bool false), Is (.bool false)] [[(22, none)], [(89, some 0)], [(18, none), (90, some 1)], [(91, some 2), (90, some 1)], [(20, none), (90, some 1)], [(93, some 4), (90, some 1)], [(94, some 5), (90, some 1)], [(95, some 6), (90, some 1)], [(20, none), (90, some 1)], [(97, some 8), (90, some 1)], [(98, some 9), (90, some 1)], [(96, some 7), (99, some 10), (90, some 1)], [(100, some 11), (90, some 1)], [(92, some 3), (101, some 12), (90, some 1)], [(90, some 1), (102, some 13)], [(103, some 14)], [(22, none), (104, some 15)], [(105, some 16), (104, some 15)], [(106, some 17), (104, some 15)], [(18, none), (107, some 18)], [(108, some 19), (107, some 18)], [(109, some 20), (107, some 18)], [(107, some 18), (110, some 21), (104, some 15)], [(104, some 15), (111, some 22)]] (by kernel_rfl) ?_ ?_ ?_
          · simp only [List.mem_cons, List.not_mem_nil, or_false]
            intro R hR
            rcases hR with rfl | rfl | rfl | rfl | rfl | rfl | rfl | rfl | rfl | rfl | rfl | rfl | rfl | rfl | rfl | rfl | rfl | rfl | rfl | rfl | rfl | rfl | rfl | rfl <;> first | exact stable_is _
          · refine steps_cons (fun a w hk hn => ?_) ?_
            · have h22 : a.eval (.tmp 22) = .bool false := hn.1
              clear hn
              refine wants_plain rfl ?_
              exact grown_move (.tmp 22) rfl h22
            refine steps_cons (fun a w hk hn => ?_) ?_
            · have h89 : a.eval (.tmp 89) = .bool false := hn.1
              clear hn
              refine wants_plain rfl ?_
              exact grown_move (.tmp 89) rfl h89
            refine steps_cons (fun a w hk hn => ?_) ?_
            · have h18 : a.eval (.tmp 18) = .slice a2 0 c2 := hn.1
              have h90 : a.eval (.tmp 90) = .bool false := hn.2.1
              clear hn
              exact wants_not (d := 90) rfl rfl h90 rfl
            refine steps_cons (fun a w hk hn => ?_) ?_
            · have h91 : a.eval (.tmp 91) = undef := hn.1
              have h90 : a.eval (.tmp 90) = .bool false := hn.2.1
              clear hn
              exact wants_not (d := 90) rfl rfl h90 rfl
            refine steps_cons (fun a w hk hn => ?_) ?_
            · have h20 : a.eval (.tmp 20) = .pointer (some ⟨g20, 0, none⟩) := hn.1
              have h90 : a.eval (.tmp 90) = .bool false := hn.2.1
              clear hn
              exact wants_not (d := 90) rfl rfl h90 rfl
            refine steps_cons (fun a w hk hn => ?_) ?_
            · have h93 : a.eval (.tmp 93) = undef := hn.1
              have h90 : a.eval (.tmp 90) = .bool false := hn.2.1
              clear hn
              exact wants_not (d := 90) rfl rfl h90 rfl
            refine steps_cons (fun a w hk hn => ?_) ?_
            · have h94 : a.eval (.tmp 94) = undef := hn.1
              have h90 : a.eval (.tmp 90) = .bool false := hn.2.1
              clear hn
              exact wants_not (d := 90) rfl rfl h90 rfl
            refine steps_cons (fun a w hk hn => ?_) ?_
            · have h95 : a.eval (.tmp 95) = undef := hn.1
              have h90 : a.eval (.tmp 90) = .bool false := hn.2.1
              clear hn
              exact wants_not (d := 90) rfl rfl h90 rfl
            refine steps_cons (fun a w hk hn => ?_) ?_
            · have h20 : a.eval (.tmp 20) = .pointer (some ⟨g20, 0, none⟩) := hn.1
              have h90 : a.eval (.tmp 90) = .bool false := hn.2.1
              clear hn
              exact wants_not (d := 90) rfl rfl h90 rfl
            refine steps_cons (fun a w hk hn => ?_) ?_
            · have h97 : a.eval (.tmp 97) = undef := hn.1
              have h90 : a.eval (.tmp 90) = .bool false := hn.2.1
              clear hn
              exact wants_not (d := 90) rfl rfl h90 rfl
            refine steps_cons (fun a w hk hn => ?_) ?_
            · have h98 : a.eval (.tmp 98) = undef := hn.1
              have h90 : a.eval (.tmp 90) = .bool false := hn.2.1
              clear hn
              exact wants_not (d := 90) rfl rfl h90 rfl
            refine steps_cons (fun a w hk hn => ?_) ?_
            · have h96 : a.eval (.tmp 96) = undef := hn.1
              have h99 : a.eval (.tmp 99) = undef := hn.2.1
              have h90 : a.eval (.tmp 90) = .bool false := hn.2.2.1
              clear hn
              exact wants_not (d := 90) rfl rfl h90 rfl
            refine steps_cons (fun a w hk hn => ?_) ?_
            · have h100 : a.eval (.tmp 100) = undef := hn.1
              have h90 : a.eval (.tmp 90) = .bool false := hn.2.1
              clear hn
              exact wants_not (d := 90) rfl rfl h90 rfl
            refine steps_cons (fun a w hk hn => ?_) ?_
            · have h92 : a.eval (.tmp 92) = undef := hn.1
              have h101 : a.eval (.tmp 101) = undef := hn.2.1
              have h90 : a.eval (.tmp 90) = .bool false := hn.2.2.1
              clear hn
              exact wants_not (d := 90) rfl rfl h90 rfl
            refine steps_cons (fun a w hk hn => ?_) ?_
            · have h90 : a.eval (.tmp 90) = .bool false := hn.1
              have h102 : a.eval (.tmp 102) = undef := hn.2.1
              clear hn
              refine wants_plain rfl ?_
              exact grown_pick _ _ _ false rfl h90 rfl
            refine steps_cons (fun a w hk hn => ?_) ?_
            · have h103 : a.eval (.tmp 103) = .bool false := hn.1
              clear hn
              refine wants_plain rfl ?_
              exact grown_move (.tmp 103) rfl h103
            refine steps_cons (fun a w hk hn => ?_) ?_
            · have h22 : a.eval (.tmp 22) = .bool false := hn.1
              have h104 : a.eval (.tmp 104) = .bool false := hn.2.1
              clear hn
              refine wants_guard (d := 104) rfl rfl h104 ?_
              exact grown_move (.tmp 22) rfl h22
            refine steps_cons (fun a w hk hn => ?_) ?_
            · have h105 : a.eval (.tmp 105) = .bool false := hn.1
              have h104 : a.eval (.tmp 104) = .bool false := hn.2.1
              clear hn
              refine wants_guard (d := 104) rfl rfl h104 ?_
              refine grown_run (v := .bool true) ?_ (Kp.refl _ _) rfl
              obtain ⟨ρ, hρ, hc, hf, hg⟩ := eval_is a
              rw [hρ] at h105 ⊢
              simp [go_sem, h105]
            refine steps_cons (fun a w hk hn => ?_) ?_
            · have h106 : a.eval (.tmp 106) = .bool true := hn.1
              have h104 : a.eval (.tmp 104) = .bool false := hn.2.1
              clear hn
              refine wants_guard (d := 104) rfl rfl h104 ?_
              exact grown_move (.tmp 106) rfl h106
            refine steps_cons (fun a w hk hn => ?_) ?_
            · have h18 : a.eval (.tmp 18) = .slice a2 0 c2 := hn.1
              have h107 : a.eval (.tmp 107) = .bool true := hn.2.1
              clear hn
              refine wants_guard (d := 107) rfl rfl h107 ?_
              exact grown_move (.tmp 18) rfl h18
            refine steps_cons (fun a w hk hn => ?_) ?_
            · have h108 : a.eval (.tmp 108) = .slice a2 0 c2 := hn.1
              have h107 : a.eval (.tmp 107) = .bool true := hn.2.1
              clear hn
              refine wants_guard (d := 107) rfl rfl h107 ?_
              refine grown_run (v := .int .i64 0) ?_ (Kp.refl _ _) rfl
              obtain ⟨ρ, hρ, hc, hf, hg⟩ := eval_is a
              rw [hρ] at h108 ⊢
              simp [go_sem, h108]
            refine steps_cons (fun a w hk hn => ?_) ?_
            · have h109 : a.eval (.tmp 109) = .int .i64 0 := hn.1
              have h107 : a.eval (.tmp 107) = .bool true := hn.2.1
              clear hn
              refine wants_guard (d := 107) rfl rfl h107 ?_
              refine grown_run (v := .bool false) ?_ (Kp.refl _ _) rfl
              obtain ⟨ρ, hρ, hc, hf, hg⟩ := eval_is a
              rw [hρ] at h109 ⊢
              simp [go_sem, hc, h109]
            refine steps_cons (fun a w hk hn => ?_) ?_
            · have h107 : a.eval (.tmp 107) = .bool true := hn.1
              have h110 : a.eval (.tmp 110) = .bool false := hn.2.1
              have h104 : a.eval (.tmp 104) = .bool false := hn.2.2.1
              clear hn
              refine wants_guard (d := 104) rfl rfl h104 ?_
              exact grown_pick _ _ _ true rfl h107 h110
            refine steps_cons (fun a w hk hn => ?_) ?_
            · have h104 : a.eval (.tmp 104) = .bool false := hn.1
              have h111 : a.eval (.tmp 111) = .bool false := hn.2.1
              clear hn
              refine wants_plain rfl ?_
              exact grown_pick _ _ _ false rfl h104 h111
            exact trivial
          intro W2 hkW2
          rintro _ rfl
          rintro _ rfl
          rintro _ rfl
          rintro _ rfl
          rintro _ rfl
          rintro _ rfl
          rintro _ rfl
          rintro _ rfl
          rintro _ rfl
          rintro _ rfl
          rintro _ rfl
          rintro _ rfl
          rintro _ rfl
          rintro _ rfl
          rintro _ rfl
          rintro _ rfl
          rintro _ rfl
          rintro _ rfl
          rintro _ rfl
          rintro _ rfl
          rintro _ rfl
          rintro _ rfl
          rintro _ rfl
          rintro _ rfl
          refine fin_nil ?_
          simp only [Act.put, List.set_cons_zero, List.set_cons_succ, List.setIfInBounds_toArray]
          have HKW := hide ((unhide HK14).trans ((kp_drew w14).trans hkW2))
          have HRW := hide ((unhide HR14).kept ((kp_drew w14).trans hkW2) (by simp))
          go_wp2_with fail
          go_roundw
          case rel => exact ⟨j + 1, a2, 0, c2, by omega, by go_num, rfl, by rw [unhide HOUT, Co.out_no (unhide HOK)]; exact unhide HRW, unhide HKW⟩
          case measure => simp [intOf]; omega
        replace hk0 : 0 ≤ ck := by omega
        by_cases hk4 : ¬ ck < 4
        · have HOK : Hid (c.ok = false) := hide (Co.ok_hi (by rw [← unhide HCK4]; omega))
          have HKq := HK11
          have HK11q : Hid (Kp [] w11 w11) := Kp.refl _ _
          have HGq := HG11
          clear t0
          have HPut := hide (coput_no p _ c w11 (unhide HCV w11 (unhide HKq)) (unhide HOK))
          have HWq := hide (Wr.kept W11 (unhide HK11q) (by simp) (by simp))
          have z0 : w11.cell? ⟨g20, 0, none⟩ = some (.int .i64 ck) := by rw [cell_of_row _ g20 0 _ _ _ (unhide HGq)]; rfl
          have z1 : w11.cell? ⟨g20, 1, none⟩ = some (.int .i64 ci) := by rw [cell_of_row _ g20 1 _ _ _ (unhide HGq)]; rfl
          have z2 : w11.cell? ⟨g20, 2, none⟩ = some (.slice pa pn pc) := by rw [cell_of_row _ g20 2 _ _ _ (unhide HGq)]; rfl
          have z3 : w11.cell? ⟨g20, 3, none⟩ = some (.slice ra rn rc) := by rw [cell_of_row _ g20 3 _ _ _ (unhide HGq)]; rfl
          clear W11
          go_wp2_with fail
          refine (unhide HPut).mono ?_
          rintro ee w13 ⟨rfl, K13⟩
          have HDn := hide (done_any p _ [] w13 ((unhide HWq).kept K13 (by simp) (by simp)) (by simp))
          have HK13 := hide ((unhide HKq).trans K13)
          clear HPut K13 z0 z1 z2 z3
          go_wp2_with fail
          refine (unhide HDn).mono ?_
          rintro ee w14 ⟨a2, c2, rfl, R14, K14⟩
          have HR14 : Hid (Row w14 wA.heap.size (.slice a2 0 c2) []) := hide (owns_rebase R14 (fun i hi => Nat.le_trans (unhide HK13).size (Row.own R14 i hi)))
          have HK14 := hide ((unhide HK13).trans K14)
          simp only [List.length_nil]
          clear HDn R14 K14
          go_wp2_with fail
          refine region_grow Tryz.mixed [Is (.bool false), Is (.bool false), Is (undef), Is (undef), Is (undef), Is (undef), Is (undef), Is (undef), Is (undef), Is (undef), Is (undef), Is (undef), Is (undef), Is (undef), Is (.bool false), Is (.bool false), Is (.bool false), Is (.bool true), Is (.bool true), Is (.slice a2 0 c2), Is (.int .i64 0), Is (.bool false), Is (.bool false), Is (.bool false)] [[(22, none)], [(89, some 0)], [(18, none), (90, some 1)], [(91, some 2), (90, some 1)], [(20, none), (90, some 1)], [(93, some 4), (90, some 1)], [(94, some 5), (90, some 1)], [(95, some 6), (90, some 1)], [(20, none), (90, some 1)], [(97, some 8), (90, some 1)], [(98, some 9), (90, some 1)], [(96, some 7), (99, some 10), (90, some 1)], [(100, some 11), (90, some 1)], [(92, some 3), (101, some 12), (90, some 1)], [(90, some 1), (102, some 13)], [(103, some 14)], [(22, none), (104, some 15)], [(105, some 16), (104, some 15)], [(106, some 17), (104, some 15)], [(18, none), (107, some 18)], [(108, some 19), (107, some 18)], [(109, some 20), (107, some 18)], [(107, some 18), (110, some 21), (104, some 15)], [(104, some 15), (111, some 22)]] (by kernel_rfl) ?_ ?_ ?_
          · simp only [List.mem_cons, List.not_mem_nil, or_false]
            intro R hR
            rcases hR with rfl | rfl | rfl | rfl | rfl | rfl | rfl | rfl | rfl | rfl | rfl | rfl | rfl | rfl | rfl | rfl | rfl | rfl | rfl | rfl | rfl | rfl | rfl | rfl <;> first | exact stable_is _
          · refine steps_cons (fun a w hk hn => ?_) ?_
            · have h22 : a.eval (.tmp 22) = .bool false := hn.1
              clear hn
              refine wants_plain rfl ?_
              exact grown_move (.tmp 22) rfl h22
            refine steps_cons (fun a w hk hn => ?_) ?_
            · have h89 : a.eval (.tmp 89) = .bool false := hn.1
              clear hn
              refine wants_plain rfl ?_
              exact grown_move (.tmp 89) rfl h89
            refine steps_cons (fun a w hk hn => ?_) ?_
            · have h18 : a.eval (.tmp 18) = .slice a2 0 c2 := hn.1
              have h90 : a.eval (.tmp 90) = .bool false := hn.2.1
              clear hn
              exact wants_not (d := 90) rfl rfl h90 rfl
            refine steps_cons (fun a w hk hn => ?_) ?_
            · have h91 : a.eval (.tmp 91) = undef := hn.1
              have h90 : a.eval (.tmp 90) = .bool false := hn.2.1
              clear hn
              exact wants_not (d := 90) rfl rfl h90 rfl
            refine steps_cons (fun a w hk hn => ?_) ?_
            · have h20 : a.eval (.tmp 20) = .pointer (some ⟨g20, 0, none⟩) := hn.1
              have h90 : a.eval (.tmp 90) = .bool false := hn.2.1
              clear hn
              exact wants_not (d := 90) rfl rfl h90 rfl
            refine steps_cons (fun a w hk hn => ?_) ?_
            · have h93 : a.eval (.tmp 93) = undef := hn.1
              have h90 : a.eval (.tmp 90) = .bool false := hn.2.1
              clear hn
              exact wants_not (d := 90) rfl rfl h90 rfl
            refine steps_cons (fun a w hk hn => ?_) ?_
            · have h94 : a.eval (.tmp 94) = undef := hn.1
              have h90 : a.eval (.tmp 90) = .bool false := hn.2.1
              clear hn
              exact wants_not (d := 90) rfl rfl h90 rfl
            refine steps_cons (fun a w hk hn => ?_) ?_
            · have h95 : a.eval (.tmp 95) = undef := hn.1
              have h90 : a.eval (.tmp 90) = .bool false := hn.2.1
              clear hn
              exact wants_not (d := 90) rfl rfl h90 rfl
            refine steps_cons (fun a w hk hn => ?_) ?_
            · have h20 : a.eval (.tmp 20) = .pointer (some ⟨g20, 0, none⟩) := hn.1
              have h90 : a.eval (.tmp 90) = .bool false := hn.2.1
              clear hn
              exact wants_not (d := 90) rfl rfl h90 rfl
            refine steps_cons (fun a w hk hn => ?_) ?_
            · have h97 : a.eval (.tmp 97) = undef := hn.1
              have h90 : a.eval (.tmp 90) = .bool false := hn.2.1
              clear hn
              exact wants_not (d := 90) rfl rfl h90 rfl
            refine steps_cons (fun a w hk hn => ?_) ?_
            · have h98 : a.eval (.tmp 98) = undef := hn.1
              have h90 : a.eval (.tmp 90) = .bool false := hn.2.1
              clear hn
              exact wants_not (d := 90) rfl rfl h90 rfl
            refine steps_cons (fun a w hk hn => ?_) ?_
            · have h96 : a.eval (.tmp 96) = undef := hn.1
              have h99 : a.eval (.tmp 99) = undef := hn.2.1
              have h90 : a.eval (.tmp 90) = .bool false := hn.2.2.1
              clear hn
              exact wants_not (d := 90) rfl rfl h90 rfl
            refine steps_cons (fun a w hk hn => ?_) ?_
            · have h100 : a.eval (.tmp 100) = undef := hn.1
              have h90 : a.eval (.tmp 90) = .bool false := hn.2.1
              clear hn
              exact wants_not (d := 90) rfl rfl h90 rfl
            refine steps_cons (fun a w hk hn => ?_) ?_
            · have h92 : a.eval (.tmp 92) = undef := hn.1
              have h101 : a.eval (.tmp 101) = undef := hn.2.1
              have h90 : a.eval (.tmp 90) = .bool false := hn.2.2.1
              clear hn
              exact wants_not (d := 90) rfl rfl h90 rfl
            refine steps_cons (fun a w hk hn => ?_) ?_
            · have h90 : a.eval (.tmp 90) = .bool false := hn.1
              have h102 : a.eval (.tmp 102) = undef := hn.2.1
              clear hn
              refine wants_plain rfl ?_
              exact grown_pick _ _ _ false rfl h90 rfl
            refine steps_cons (fun a w hk hn => ?_) ?_
            · have h103 : a.eval (.tmp 103) = .bool false := hn.1
              clear hn
              refine wants_plain rfl ?_
              exact grown_move (.tmp 103) rfl h103
            refine steps_cons (fun a w hk hn => ?_) ?_
            · have h22 : a.eval (.tmp 22) = .bool false := hn.1
              have h104 : a.eval (.tmp 104) = .bool false := hn.2.1
              clear hn
              refine wants_guard (d := 104) rfl rfl h104 ?_
              exact grown_move (.tmp 22) rfl h22
            refine steps_cons (fun a w hk hn => ?_) ?_
            · have h105 : a.eval (.tmp 105) = .bool false := hn.1
              have h104 : a.eval (.tmp 104) = .bool false := hn.2.1
              clear hn
              refine wants_guard (d := 104) rfl rfl h104 ?_
              refine grown_run (v := .bool true) ?_ (Kp.refl _ _) rfl
              obtain ⟨ρ, hρ, hc, hf, hg⟩ := eval_is a
              rw [hρ] at h105 ⊢
              simp [go_sem, h105]
            refine steps_cons (fun a w hk hn => ?_) ?_
            · have h106 : a.eval (.tmp 106) = .bool true := hn.1
              have h104 : a.eval (.tmp 104) = .bool false := hn.2.1
              clear hn
              refine wants_guard (d := 104) rfl rfl h104 ?_
              exact grown_move (.tmp 106) rfl h106
            refine steps_cons (fun a w hk hn => ?_) ?_
            · have h18 : a.eval (.tmp 18) = .slice a2 0 c2 := hn.1
              have h107 : a.eval (.tmp 107) = .bool true := hn.2.1
              clear hn
              refine wants_guard (d := 107) rfl rfl h107 ?_
              exact grown_move (.tmp 18) rfl h18
            refine steps_cons (fun a w hk hn => ?_) ?_
            · have h108 : a.eval (.tmp 108) = .slice a2 0 c2 := hn.1
              have h107 : a.eval (.tmp 107) = .bool true := hn.2.1
              clear hn
              refine wants_guard (d := 107) rfl rfl h107 ?_
              refine grown_run (v := .int .i64 0) ?_ (Kp.refl _ _) rfl
              obtain ⟨ρ, hρ, hc, hf, hg⟩ := eval_is a
              rw [hρ] at h108 ⊢
              simp [go_sem, h108]
            refine steps_cons (fun a w hk hn => ?_) ?_
            · have h109 : a.eval (.tmp 109) = .int .i64 0 := hn.1
              have h107 : a.eval (.tmp 107) = .bool true := hn.2.1
              clear hn
              refine wants_guard (d := 107) rfl rfl h107 ?_
              refine grown_run (v := .bool false) ?_ (Kp.refl _ _) rfl
              obtain ⟨ρ, hρ, hc, hf, hg⟩ := eval_is a
              rw [hρ] at h109 ⊢
              simp [go_sem, hc, h109]
            refine steps_cons (fun a w hk hn => ?_) ?_
            · have h107 : a.eval (.tmp 107) = .bool true := hn.1
              have h110 : a.eval (.tmp 110) = .bool false := hn.2.1
              have h104 : a.eval (.tmp 104) = .bool false := hn.2.2.1
              clear hn
              refine wants_guard (d := 104) rfl rfl h104 ?_
              exact grown_pick _ _ _ true rfl h107 h110
            refine steps_cons (fun a w hk hn => ?_) ?_
            · have h104 : a.eval (.tmp 104) = .bool false := hn.1
              have h111 : a.eval (.tmp 111) = .bool false := hn.2.1
              clear hn
              refine wants_plain rfl ?_
              exact grown_pick _ _ _ false rfl h104 h111
            exact trivial
          intro W2 hkW2
          rintro _ rfl
          rintro _ rfl
          rintro _ rfl
          rintro _ rfl
          rintro _ rfl
          rintro _ rfl
          rintro _ rfl
          rintro _ rfl
          rintro _ rfl
          rintro _ rfl
          rintro _ rfl
          rintro _ rfl
          rintro _ rfl
          rintro _ rfl
          rintro _ rfl
          rintro _ rfl
          rintro _ rfl
          rintro _ rfl
          rintro _ rfl
          rintro _ rfl
          rintro _ rfl
          rintro _ rfl
          rintro _ rfl
          rintro _ rfl
          refine fin_nil ?_
          simp only [Act.put, List.set_cons_zero, List.set_cons_succ, List.setIfInBounds_toArray]
          have HKW := hide ((unhide HK14).trans ((kp_drew w14).trans hkW2))
          have HRW := hide ((unhide HR14).kept ((kp_drew w14).trans hkW2) (by simp))
          go_wp2_with fail
          go_roundw
          case rel => exact ⟨j + 1, a2, 0, c2, by omega, by go_num, rfl, by rw [unhide HOUT, Co.out_no (unhide HOK)]; exact unhide HRW, unhide HKW⟩
          case measure => simp [intOf]; omega
        replace hk4 : ck < 4 := by omega
        obtain ⟨ok, hok⟩ : ∃ b, b = c.ok := ⟨_, rfl⟩
        have hkr : ok = rgtP c.i c.ps c.qs := by rw [hok]; exact Co.ok_in (by rw [← unhide HCK4]; exact hk0) (by rw [← unhide HCK4]; exact hk4)
        have HRt := hide (refright_any (.agg #[.int .i64 ci, .slice pa pn pc, .slice ra rn rc]) c.i c.ps c.qs ok hkr w11 (by have h := (unhide HCV w11 (unhide HK11)).sig; rw [unhide HCI]; exact h) (by rw [← unhide HCI]; exact unhide HBI))
        have t1 : w11.cell? ⟨g20, 1, none⟩ = some (.int .i64 ci) := by rw [cell_of_row _ g20 1 _ _ _ (unhide HG11)]; rfl
        have t2 : w11.cell? ⟨g20, 2, none⟩ = some (.slice pa pn pc) := by rw [cell_of_row _ g20 2 _ _ _ (unhide HG11)]; rfl
        have t3 : w11.cell? ⟨g20, 3, none⟩ = some (.slice ra rn rc) := by rw [cell_of_row _ g20 3 _ _ _ (unhide HG11)]; rfl
        have HOKE := hide hok
        clear hok hkr
        go_wp2_with fail
        refine (unhide HRt).mono ?_
        rintro ee w12 ⟨rfl, K12⟩
        have HKq := hide ((unhide HK11).trans K12)
        have HK11q := hide K12
        have HGq := hide (K12.heap (unhide HG11) (by simp))
        clear HRt K12 t0 t1 t2 t3
        cases ok
        · have HOK : Hid (c.ok = false) := hide (unhide HOKE).symm
          have HPut := hide (coput_no p _ c w12 (unhide HCV w12 (unhide HKq)) (unhide HOK))
          have HWq := hide (Wr.kept W11 (unhide HK11q) (by simp) (by simp))
          have z0 : w12.cell? ⟨g20, 0, none⟩ = some (.int .i64 ck) := by rw [cell_of_row _ g20 0 _ _ _ (unhide HGq)]; rfl
          have z1 : w12.cell? ⟨g20, 1, none⟩ = some (.int .i64 ci) := by rw [cell_of_row _ g20 1 _ _ _ (unhide HGq)]; rfl
          have z2 : w12.cell? ⟨g20, 2, none⟩ = some (.slice pa pn pc) := by rw [cell_of_row _ g20 2 _ _ _ (unhide HGq)]; rfl
          have z3 : w12.cell? ⟨g20, 3, none⟩ = some (.slice ra rn rc) := by rw [cell_of_row _ g20 3 _ _ _ (unhide HGq)]; rfl
          clear W11
          go_wp2_with fail
          refine (unhide HPut).mono ?_
          rintro ee w13 ⟨rfl, K13⟩
          have HDn := hide (done_any p _ [] w13 ((unhide HWq).kept K13 (by simp) (by simp)) (by simp))
          have HK13 := hide ((unhide HKq).trans K13)
          clear HPut K13 z0 z1 z2 z3
          go_wp2_with fail
          refine (unhide HDn).mono ?_
          rintro ee w14 ⟨a2, c2, rfl, R14, K14⟩
          have HR14 : Hid (Row w14 wA.heap.size (.slice a2 0 c2) []) := hide (owns_rebase R14 (fun i hi => Nat.le_trans (unhide HK13).size (Row.own R14 i hi)))
          have HK14 := hide ((unhide HK13).trans K14)
          simp only [List.length_nil]
          clear HDn R14 K14
          go_wp2_with fail
          refine region_grow Tryz.mixed [Is (.bool false), Is (.bool false), Is (undef), Is (undef), Is (undef), Is (undef), Is (undef), Is (undef), Is (undef), Is (undef), Is (undef), Is (undef), Is (undef), Is (undef), Is (.bool false), Is (.bool false), Is (.bool false), Is (.bool true), Is (.bool true), Is (.slice a2 0 c2), Is (.int .i64 0), Is (.bool false), Is (.bool false), Is (.bool false)] [[(22, none)], [(89, some 0)], [(18, none), (90, some 1)], [(91, some 2), (90, some 1)], [(20, none), (90, some 1)], [(93, some 4), (90, some 1)], [(94, some 5), (90, some 1)], [(95, some 6), (90, some 1)], [(20, none), (90, some 1)], [(97, some 8), (90, some 1)], [(98, some 9), (90, some 1)], [(96, some 7), (99, some 10), (90, some 1)], [(100, some 11), (90, some 1)], [(92, some 3), (101, some 12), (90, some 1)], [(90, some 1), (102, some 13)], [(103, some 14)], [(22, none), (104, some 15)], [(105, some 16), (104, some 15)], [(106, some 17), (104, some 15)], [(18, none), (107, some 18)], [(108, some 19), (107, some 18)], [(109, some 20), (107, some 18)], [(107, some 18), (110, some 21), (104, some 15)], [(104, some 15), (111, some 22)]] (by kernel_rfl) ?_ ?_ ?_
          · simp only [List.mem_cons, List.not_mem_nil, or_false]
            intro R hR
            rcases hR with rfl | rfl | rfl | rfl | rfl | rfl | rfl | rfl | rfl | rfl | rfl | rfl | rfl | rfl | rfl | rfl | rfl | rfl | rfl | rfl | rfl | rfl | rfl | rfl <;> first | exact stable_is _
          · refine steps_cons (fun a w hk hn => ?_) ?_
            · have h22 : a.eval (.tmp 22) = .bool false := hn.1
              clear hn
              refine wants_plain rfl ?_
              exact grown_move (.tmp 22) rfl h22
            refine steps_cons (fun a w hk hn => ?_) ?_
            · have h89 : a.eval (.tmp 89) = .bool false := hn.1
              clear hn
              refine wants_plain rfl ?_
              exact grown_move (.tmp 89) rfl h89
            refine steps_cons (fun a w hk hn => ?_) ?_
            · have h18 : a.eval (.tmp 18) = .slice a2 0 c2 := hn.1
              have h90 : a.eval (.tmp 90) = .bool false := hn.2.1
              clear hn
              exact wants_not (d := 90) rfl rfl h90 rfl
            refine steps_cons (fun a w hk hn => ?_) ?_
            · have h91 : a.eval (.tmp 91) = undef := hn.1
              have h90 : a.eval (.tmp 90) = .bool false := hn.2.1
              clear hn
              exact wants_not (d := 90) rfl rfl h90 rfl
            refine steps_cons (fun a w hk hn => ?_) ?_
            · have h20 : a.eval (.tmp 20) = .pointer (some ⟨g20, 0, none⟩) := hn.1
              have h90 : a.eval (.tmp 90) = .bool false := hn.2.1
              clear hn
              exact wants_not (d := 90) rfl rfl h90 rfl
            refine steps_cons (fun a w hk hn => ?_) ?_
            · have h93 : a.eval (.tmp 93) = undef := hn.1
              have h90 : a.eval (.tmp 90) = .bool false := hn.2.1
              clear hn
              exact wants_not (d := 90) rfl rfl h90 rfl
            refine steps_cons (fun a w hk hn => ?_) ?_
            · have h94 : a.eval (.tmp 94) = undef := hn.1
              have h90 : a.eval (.tmp 90) = .bool false := hn.2.1
              clear hn
              exact wants_not (d := 90) rfl rfl h90 rfl
            refine steps_cons (fun a w hk hn => ?_) ?_
            · have h95 : a.eval (.tmp 95) = undef := hn.1
              have h90 : a.eval (.tmp 90) = .bool false := hn.2.1
              clear hn
              exact wants_not (d := 90) rfl rfl h90 rfl
            refine steps_cons (fun a w hk hn => ?_) ?_
            · have h20 : a.eval (.tmp 20) = .pointer (some ⟨g20, 0, none⟩) := hn.1
              have h90 : a.eval (.tmp 90) = .bool false := hn.2.1
              clear hn
              exact wants_not (d := 90) rfl rfl h90 rfl
            refine steps_cons (fun a w hk hn => ?_) ?_
            · have h97 : a.eval (.tmp 97) = undef := hn.1
              have h90 : a.eval (.tmp 90) = .bool false := hn.2.1
              clear hn
              exact wants_not (d := 90) rfl rfl h90 rfl
            refine steps_cons (fun a w hk hn => ?_) ?_
            · have h98 : a.eval (.tmp 98) = undef := hn.1
              have h90 : a.eval (.tmp 90) = .bool false := hn.2.1
              clear hn
              exact wants_not (d := 90) rfl rfl h90 rfl
            refine steps_cons (fun a w hk hn => ?_) ?_
            · have h96 : a.eval (.tmp 96) = undef := hn.1
              have h99 : a.eval (.tmp 99) = undef := hn.2.1
              have h90 : a.eval (.tmp 90) = .bool false := hn.2.2.1
              clear hn
              exact wants_not (d := 90) rfl rfl h90 rfl
            refine steps_cons (fun a w hk hn => ?_) ?_
            · have h100 : a.eval (.tmp 100) = undef := hn.1
              have h90 : a.eval (.tmp 90) = .bool false := hn.2.1
              clear hn
              exact wants_not (d := 90) rfl rfl h90 rfl
            refine steps_cons (fun a w hk hn => ?_) ?_
            · have h92 : a.eval (.tmp 92) = undef := hn.1
              have h101 : a.eval (.tmp 101) = undef := hn.2.1
              have h90 : a.eval (.tmp 90) = .bool false := hn.2.2.1
              clear hn
              exact wants_not (d := 90) rfl rfl h90 rfl
            refine steps_cons (fun a w hk hn => ?_) ?_
            · have h90 : a.eval (.tmp 90) = .bool false := hn.1
              have h102 : a.eval (.tmp 102) = undef := hn.2.1
              clear hn
              refine wants_plain rfl ?_
              exact grown_pick _ _ _ false rfl h90 rfl
            refine steps_cons (fun a w hk hn => ?_) ?_
            · have h103 : a.eval (.tmp 103) = .bool false := hn.1
              clear hn
              refine wants_plain rfl ?_
              exact grown_move (.tmp 103) rfl h103
            refine steps_cons (fun a w hk hn => ?_) ?_
            · have h22 : a.eval (.tmp 22) = .bool false := hn.1
              have h104 : a.eval (.tmp 104) = .bool false := hn.2.1
              clear hn
              refine wants_guard (d := 104) rfl rfl h104 ?_
              exact grown_move (.tmp 22) rfl h22
            refine steps_cons (fun a w hk hn => ?_) ?_
            · have h105 : a.eval (.tmp 105) = .bool false := hn.1
              have h104 : a.eval (.tmp 104) = .bool false := hn.2.1
              clear hn
              refine wants_guard (d := 104) rfl rfl h104 ?_
              refine grown_run (v := .bool true) ?_ (Kp.refl _ _) rfl
              obtain ⟨ρ, hρ, hc, hf, hg⟩ := eval_is a
              rw [hρ] at h105 ⊢
              simp [go_sem, h105]
            refine steps_cons (fun a w hk hn => ?_) ?_
            · have h106 : a.eval (.tmp 106) = .bool true := hn.1
              have h104 : a.eval (.tmp 104) = .bool false := hn.2.1
              clear hn
              refine wants_guard (d := 104) rfl rfl h104 ?_
              exact grown_move (.tmp 106) rfl h106
            refine steps_cons (fun a w hk hn => ?_) ?_
            · have h18 : a.eval (.tmp 18) = .slice a2 0 c2 := hn.1
              have h107 : a.eval (.tmp 107) = .bool true := hn.2.1
              clear hn
              refine wants_guard (d := 107) rfl rfl h107 ?_
              exact grown_move (.tmp 18) rfl h18
            refine steps_cons (fun a w hk hn => ?_) ?_
            · have h108 : a.eval (.tmp 108) = .slice a2 0 c2 := hn.1
              have h107 : a.eval (.tmp 107) = .bool true := hn.2.1
              clear hn
              refine wants_guard (d := 107) rfl rfl h107 ?_
              refine grown_run (v := .int .i64 0) ?_ (Kp.refl _ _) rfl
              obtain ⟨ρ, hρ, hc, hf, hg⟩ := eval_is a
              rw [hρ] at h108 ⊢
              simp [go_sem, h108]
            refine steps_cons (fun a w hk hn => ?_) ?_
            · have h109 : a.eval (.tmp 109) = .int .i64 0 := hn.1
              have h107 : a.eval (.tmp 107) = .bool true := hn.2.1
              clear hn
              refine wants_guard (d := 107) rfl rfl h107 ?_
              refine grown_run (v := .bool false) ?_ (Kp.refl _ _) rfl
              obtain ⟨ρ, hρ, hc, hf, hg⟩ := eval_is a
              rw [hρ] at h109 ⊢
              simp [go_sem, hc, h109]
            refine steps_cons (fun a w hk hn => ?_) ?_
            · have h107 : a.eval (.tmp 107) = .bool true := hn.1
              have h110 : a.eval (.tmp 110) = .bool false := hn.2.1
              have h104 : a.eval (.tmp 104) = .bool false := hn.2.2.1
              clear hn
              refine wants_guard (d := 104) rfl rfl h104 ?_
              exact grown_pick _ _ _ true rfl h107 h110
            refine steps_cons (fun a w hk hn => ?_) ?_
            · have h104 : a.eval (.tmp 104) = .bool false := hn.1
              have h111 : a.eval (.tmp 111) = .bool false := hn.2.1
              clear hn
              refine wants_plain rfl ?_
              exact grown_pick _ _ _ false rfl h104 h111
            exact trivial
          intro W2 hkW2
          rintro _ rfl
          rintro _ rfl
          rintro _ rfl
          rintro _ rfl
          rintro _ rfl
          rintro _ rfl
          rintro _ rfl
          rintro _ rfl
          rintro _ rfl
          rintro _ rfl
          rintro _ rfl
          rintro _ rfl
          rintro _ rfl
          rintro _ rfl
          rintro _ rfl
          rintro _ rfl
          rintro _ rfl
          rintro _ rfl
          rintro _ rfl
          rintro _ rfl
          rintro _ rfl
          rintro _ rfl
          rintro _ rfl
          rintro _ rfl
          refine fin_nil ?_
          simp only [Act.put, List.set_cons_zero, List.set_cons_succ, List.setIfInBounds_toArray]
          have HKW := hide ((unhide HK14).trans ((kp_drew w14).trans hkW2))
          have HRW := hide ((unhide HR14).kept ((kp_drew w14).trans hkW2) (by simp))
          go_wp2_with fail
          go_roundw
          case rel => exact ⟨j + 1, a2, 0, c2, by omega, by go_num, rfl, by rw [unhide HOUT, Co.out_no (unhide HOK)]; exact unhide HRW, unhide HKW⟩
          case measure => simp [intOf]; omega
        · have HOK : Hid (c.ok = true) := hide (unhide HOKE).symm
          have HPut := hide (coput_ok p _ [] _ c w12 (Wr.kept W11 (unhide HK11q) (by simp) (by simp)) (by simp) (unhide HCV w12 (unhide HKq)) (unhide HOK))
          have z0 : w12.cell? ⟨g20, 0, none⟩ = some (.int .i64 ck) := by rw [cell_of_row _ g20 0 _ _ _ (unhide HGq)]; rfl
          have z1 : w12.cell? ⟨g20, 1, none⟩ = some (.int .i64 ci) := by rw [cell_of_row _ g20 1 _ _ _ (unhide HGq)]; rfl
          have z2 : w12.cell? ⟨g20, 2, none⟩ = some (.slice pa pn pc) := by rw [cell_of_row _ g20 2 _ _ _ (unhide HGq)]; rfl
          have z3 : w12.cell? ⟨g20, 3, none⟩ = some (.slice ra rn rc) := by rw [cell_of_row _ g20 3 _ _ _ (unhide HGq)]; rfl
          clear W11
          go_wp2_with fail
          refine (unhide HPut).mono ?_
          rintro ee w13 ⟨rfl, v13, W13, S13⟩
          rw [List.nil_append] at W13
          have hSp : Kp [p] w12 w13 := S13.1.mono (by simp [Value.ownBlock])
          have hpA : wA.heap.size ≤ p := Nat.le_trans (unhide HK10).size (unhide HP10)
          have HK13 : Hid (Kp [] wA w13) := (unhide HKq).then hSp (fun i hi => .inr (by simp at hi; omega))
          have HG13 := hide (hSp.heap (unhide HGq) (by have := unhide HGP; simp; omega))
          obtain ⟨L, hL⟩ : ∃ L, L = c.lay := ⟨_, rfl⟩
          rw [← hL] at W13
          have hLn : L.length = 2181 := by rw [hL]; exact Co.lay_len (unhide HOK)
          have hDn := done_any p v13 L w13 W13 (by omega)
          obtain ⟨m2, hm2⟩ : ∃ m, m = L.length := ⟨_, rfl⟩
          rw [← hm2] at hDn
          have HDn := hide hDn
          have HLL := hide hL
          have HM2 := hide hm2
          clear HPut z0 z1 z2 z3 W13 S13 hSp hpA hL hDn hm2
          go_wp2_with fail
          refine (unhide HDn).mono ?_
          rintro ee w14 ⟨a2, c2, rfl, R14, K14⟩
          have HR14 : Hid (Row w14 wA.heap.size (.slice a2 m2 c2) L) := hide (by rw [unhide HM2] at R14 ⊢; exact owns_rebase R14 (fun i hi => Nat.le_trans (unhide HK13).size (Row.own R14 i hi)))
          have HK14 := hide ((unhide HK13).trans K14)
          have HG14 := hide (K14.heap (unhide HG13) (by simp))
          have HAd : Hid (∀ w', Kp [] w14.drew w' → Kp [] wA w') := fun w' k' => (unhide HK14).trans ((kp_drew w14).trans k')
          have HT20 : Hid (∀ w', Kp [] w14.drew w' → w'.heap[g20]? = some (.cells #[.int .i64 ck, .int .i64 ci, .slice pa pn pc, .slice ra rn rc] 26 (0, 0))) := fun w' k' => ((kp_drew w14).trans k').heap (unhide HG14) (by simp)
          have HSX : Hid (∀ w', Kp [] w14.drew w' → Sl w' (.slice a2 m2 c2) L) := fun w' k' => (unhide HR14).sl.kept ((kp_drew w14).trans k') (by simp)
          obtain ⟨ps, hps⟩ : ∃ x, x = c.ps := ⟨_, rfl⟩
          obtain ⟨qs, hqs⟩ : ∃ x, x = c.qs := ⟨_, rfl⟩
          have HSG : Hid (∀ w', Kp [] w14.drew w' → SigV w' (.agg #[.int .i64 ci, .slice pa pn pc, .slice ra rn rc]) ci ps qs) := fun w' k' => by
            have h := (unhide HCV w' (unhide HAd w' k')).sig
            rw [hps, hqs]
            rw [← unhide HCI] at h
            exact h
          have HRP : Hid (rgtP ci ps qs = true) := hide (by rw [hps, hqs, unhide HCI, ← Co.ok_in (by rw [← unhide HCK4]; exact hk0) (by rw [← unhide HCK4]; exact hk4)]; exact unhide HOK)
          obtain ⟨E, hE⟩ : ∃ E, E = encP ci ps qs := ⟨_, rfl⟩
          have HEE := hide hE
          have HLE : Hid (L = [ck] ++ E) := hide (by rw [unhide HLL, hE, hps, hqs, unhide HCI, unhide HCK4]; rfl)
          have HEB : Hid ([ck].length + E.length ≤ 140737488355328) := hide (by rw [hE, encP_len _ _ _ (unhide HRP)]; simp)
          obtain ⟨SX, hSX⟩ : ∃ S, S = strOfNums L := ⟨_, rfl⟩
          have HXS := hide hSX
          have hw8 : IntKind.u8.wrap ck = ck := by simp [IntKind.wrap, IntKind.signed, IntKind.bits]; omega
          clear HDn R14 K14 hLn hps hqs hE hSX
          go_wp2_with fail
          refine region_grow Tryz.mixed [Is (.bool true), Is (.bool true), Is (.slice a2 m2 c2), Is (.string SX), Is (.pointer (some ⟨g20, 0, none⟩)), Is (.int .i64 ck), Is (.int .u8 ck), Full [ck], Is (.pointer (some ⟨g20, 1, none⟩)), Is (.agg #[.int .i64 ci, .slice pa pn pc, .slice ra rn rc]), SlT (E), SlT (L), Is (.string SX), Is (.bool false), Is (.bool false), Is (.bool false), Is (.bool true), Is (.bool false), Is (.bool false), Is (undef), Is (undef), Is (undef), Is (.bool false), Is (.bool false)] [[(22, none)], [(89, some 0)], [(18, none), (90, some 1)], [(91, some 2), (90, some 1)], [(20, none), (90, some 1)], [(93, some 4), (90, some 1)], [(94, some 5), (90, some 1)], [(95, some 6), (90, some 1)], [(20, none), (90, some 1)], [(97, some 8), (90, some 1)], [(98, some 9), (90, some 1)], [(96, some 7), (99, some 10), (90, some 1)], [(100, some 11), (90, some 1)], [(92, some 3), (101, some 12), (90, some 1)], [(90, some 1), (102, some 13)], [(103, some 14)], [(22, none), (104, some 15)], [(105, some 16), (104, some 15)], [(106, some 17), (104, some 15)], [(18, none), (107, some 18)], [(108, some 19), (107, some 18)], [(109, some 20), (107, some 18)], [(107, some 18), (110, some 21), (104, some 15)], [(104, some 15), (111, some 22)]] (by kernel_rfl) ?_ ?_ ?_
          · simp only [List.mem_cons, List.not_mem_nil, or_false]
            intro R hR
            rcases hR with rfl | rfl | rfl | rfl | rfl | rfl | rfl | rfl | rfl | rfl | rfl | rfl | rfl | rfl | rfl | rfl | rfl | rfl | rfl | rfl | rfl | rfl | rfl | rfl <;> first | exact stable_is _ | exact stable_full _ | exact stable_sl _
          · refine steps_cons (fun a w hk hn => ?_) ?_
            · have h22 : a.eval (.tmp 22) = .bool true := hn.1
              clear hn
              refine wants_plain rfl ?_
              exact grown_move (.tmp 22) rfl h22
            refine steps_cons (fun a w hk hn => ?_) ?_
            · have h89 : a.eval (.tmp 89) = .bool true := hn.1
              clear hn
              refine wants_plain rfl ?_
              exact grown_move (.tmp 89) rfl h89
            refine steps_cons (fun a w hk hn => ?_) ?_
            · have h18 : a.eval (.tmp 18) = .slice a2 m2 c2 := hn.1
              have h90 : a.eval (.tmp 90) = .bool true := hn.2.1
              clear hn
              refine wants_guard (d := 90) rfl rfl h90 ?_
              exact grown_move (.tmp 18) rfl h18
            refine steps_cons (fun a w hk hn => ?_) ?_
            · have h91 : a.eval (.tmp 91) = .slice a2 m2 c2 := hn.1
              have h90 : a.eval (.tmp 90) = .bool true := hn.2.1
              clear hn
              refine wants_guard (d := 90) rfl rfl h90 ?_
              exact grown_conv (.tmp 91) _ _ 5 (L) rfl (by rw [h91]; exact unhide HSX w hk) Tryz.underlying27 Tryz.underlying5 Tryz.underlying9 (congrArg Value.string (unhide HXS).symm)
            refine steps_cons (fun a w hk hn => ?_) ?_
            · have h20 : a.eval (.tmp 20) = .pointer (some ⟨g20, 0, none⟩) := hn.1
              have h90 : a.eval (.tmp 90) = .bool true := hn.2.1
              clear hn
              refine wants_guard (d := 90) rfl rfl h90 ?_
              refine grown_run (v := .pointer (some ⟨g20, 0, none⟩)) ?_ (Kp.refl _ _) rfl
              obtain ⟨ρ, hρ, hc, hf, hg⟩ := eval_is a
              rw [hρ] at h20 ⊢
              simp [go_sem, h20]
            refine steps_cons (fun a w hk hn => ?_) ?_
            · have h93 : a.eval (.tmp 93) = .pointer (some ⟨g20, 0, none⟩) := hn.1
              have h90 : a.eval (.tmp 90) = .bool true := hn.2.1
              clear hn
              refine wants_guard (d := 90) rfl rfl h90 ?_
              refine grown_run (v := .int .i64 ck) ?_ (Kp.refl _ _) rfl
              have hcell : w.cell? ⟨g20, 0, none⟩ = some (.int .i64 ck) := by rw [cell_of_row w g20 0 _ _ _ (unhide HT20 w hk)]; rfl
              obtain ⟨ρ, hρ, hc, hf, hg⟩ := eval_is a
              rw [hρ] at h93 ⊢
              simp [go_sem, h93, hcell]
            refine steps_cons (fun a w hk hn => ?_) ?_
            · have h94 : a.eval (.tmp 94) = .int .i64 ck := hn.1
              have h90 : a.eval (.tmp 90) = .bool true := hn.2.1
              clear hn
              refine wants_guard (d := 90) rfl rfl h90 ?_
              refine grown_run (v := .int .u8 ck) ?_ (Kp.refl _ _) rfl
              obtain ⟨ρ, hρ, hc, hf, hg⟩ := eval_is a
              rw [hρ] at h94 ⊢
              simp [go_sem, h94, hw8]
            refine steps_cons (fun a w hk hn => ?_) ?_
            · have h95 : a.eval (.tmp 95) = .int .u8 ck := hn.1
              have h90 : a.eval (.tmp 90) = .bool true := hn.2.1
              clear hn
              refine wants_guard (d := 90) rfl rfl h90 ?_
              exact grown_b1 (.tmp 95) rfl ck h95
            refine steps_cons (fun a w hk hn => ?_) ?_
            · have h20 : a.eval (.tmp 20) = .pointer (some ⟨g20, 0, none⟩) := hn.1
              have h90 : a.eval (.tmp 90) = .bool true := hn.2.1
              clear hn
              refine wants_guard (d := 90) rfl rfl h90 ?_
              refine grown_run (v := .pointer (some ⟨g20, 1, none⟩)) ?_ (Kp.refl _ _) rfl
              obtain ⟨ρ, hρ, hc, hf, hg⟩ := eval_is a
              rw [hρ] at h20 ⊢
              simp [go_sem, h20]
            refine steps_cons (fun a w hk hn => ?_) ?_
            · have h97 : a.eval (.tmp 97) = .pointer (some ⟨g20, 1, none⟩) := hn.1
              have h90 : a.eval (.tmp 90) = .bool true := hn.2.1
              clear hn
              refine wants_guard (d := 90) rfl rfl h90 ?_
              exact grown_loadf 24 (.tmp 97) rfl g20 1 h97 _ _ _ _ (unhide HT20 w hk) [.int .i64 ci, .slice pa pn pc, .slice ra rn rc] (flat_in rfl) Tryz.underlying24 rfl Tryz.sigSize rfl
            refine steps_cons (fun a w hk hn => ?_) ?_
            · have h98 : a.eval (.tmp 98) = .agg #[.int .i64 ci, .slice pa pn pc, .slice ra rn rc] := hn.1
              have h90 : a.eval (.tmp 90) = .bool true := hn.2.1
              clear hn
              refine wants_guard (d := 90) rfl rfl h90 ?_
              refine grown_call (f := 14) rfl Tryz.func14 (by kernel_rfl) (by kernel_rfl) ?_
              simp only [List.map_toArray, List.map_cons, List.map_nil, h98]
              refine (refencode_any _ ci ps qs (unhide HRP) w (unhide HSG w hk)).mono ?_
              rintro e w' ⟨ao, m, c, rfl, R, K⟩
              exact ⟨_, rfl, K, by rw [unhide HEE]; exact R.sl⟩
            refine steps_cons (fun a w hk hn => ?_) ?_
            · have h96 : (Full [ck]) (a.eval (.tmp 96)) w := hn.1
              have h99 : Sl w (a.eval (.tmp 99)) (E) := hn.2.1
              have h90 : a.eval (.tmp 90) = .bool true := hn.2.2.1
              clear hn
              refine wants_guard (d := 90) rfl rfl h90 ?_
              exact grown_append_full (.tmp 96) (.tmp 99) [ck] E rfl h96 h99 (unhide HEB) (fun v w' h => by rw [unhide HLE]; exact h)
            refine steps_cons (fun a w hk hn => ?_) ?_
            · have h100 : Sl w (a.eval (.tmp 100)) (L) := hn.1
              have h90 : a.eval (.tmp 90) = .bool true := hn.2.1
              clear hn
              refine wants_guard (d := 90) rfl rfl h90 ?_
              exact grown_conv (.tmp 100) _ _ 5 _ rfl h100 Tryz.underlying27 Tryz.underlying5 Tryz.underlying9 (congrArg Value.string (unhide HXS).symm)
            refine steps_cons (fun a w hk hn => ?_) ?_
            · have h92 : a.eval (.tmp 92) = .string SX := hn.1
              have h101 : a.eval (.tmp 101) = .string SX := hn.2.1
              have h90 : a.eval (.tmp 90) = .bool true := hn.2.2.1
              clear hn
              refine wants_guard (d := 90) rfl rfl h90 ?_
              refine grown_run (v := .bool false) ?_ (Kp.refl _ _) rfl
              obtain ⟨ρ, hρ, hc, hf, hg⟩ := eval_is a
              rw [hρ] at h92 h101 ⊢
              simp [go_sem, h92, h101]
            refine steps_cons (fun a w hk hn => ?_) ?_
            · have h90 : a.eval (.tmp 90) = .bool true := hn.1
              have h102 : a.eval (.tmp 102) = .bool false := hn.2.1
              clear hn
              refine wants_plain rfl ?_
              exact grown_pick _ _ _ true rfl h90 h102
            refine steps_cons (fun a w hk hn => ?_) ?_
            · have h103 : a.eval (.tmp 103) = .bool false := hn.1
              clear hn
              refine wants_plain rfl ?_
              exact grown_move (.tmp 103) rfl h103
            refine steps_cons (fun a w hk hn => ?_) ?_
            · have h22 : a.eval (.tmp 22) = .bool true := hn.1
              have h104 : a.eval (.tmp 104) = .bool false := hn.2.1
              clear hn
              refine wants_guard (d := 104) rfl rfl h104 ?_
              exact grown_move (.tmp 22) rfl h22
            refine steps_cons (fun a w hk hn => ?_) ?_
            · have h105 : a.eval (.tmp 105) = .bool true := hn.1
              have h104 : a.eval (.tmp 104) = .bool false := hn.2.1
              clear hn
              refine wants_guard (d := 104) rfl rfl h104 ?_
              refine grown_run (v := .bool false) ?_ (Kp.refl _ _) rfl
              obtain ⟨ρ, hρ, hc, hf, hg⟩ := eval_is a
              rw [hρ] at h105 ⊢
              simp [go_sem, h105]
            refine steps_cons (fun a w hk hn => ?_) ?_
            · have h106 : a.eval (.tmp 106) = .bool false := hn.1
              have h104 : a.eval (.tmp 104) = .bool false := hn.2.1
              clear hn
              refine wants_guard (d := 104) rfl rfl h104 ?_
              exact grown_move (.tmp 106) rfl h106
            refine steps_cons (fun a w hk hn => ?_) ?_
            · have h18 : a.eval (.tmp 18) = .slice a2 m2 c2 := hn.1
              have h107 : a.eval (.tmp 107) = .bool false := hn.2.1
              clear hn
              exact wants_not (d := 107) rfl rfl h107 rfl
            refine steps_cons (fun a w hk hn => ?_) ?_
            · have h108 : a.eval (.tmp 108) = undef := hn.1
              have h107 : a.eval (.tmp 107) = .bool false := hn.2.1
              clear hn
              exact wants_not (d := 107) rfl rfl h107 rfl
            refine steps_cons (fun a w hk hn => ?_) ?_
            · have h109 : a.eval (.tmp 109) = undef := hn.1
              have h107 : a.eval (.tmp 107) = .bool false := hn.2.1
              clear hn
              exact wants_not (d := 107) rfl rfl h107 rfl
            refine steps_cons (fun a w hk hn => ?_) ?_
            · have h107 : a.eval (.tmp 107) = .bool false := hn.1
              have h110 : a.eval (.tmp 110) = undef := hn.2.1
              have h104 : a.eval (.tmp 104) = .bool false := hn.2.2.1
              clear hn
              refine wants_guard (d := 104) rfl rfl h104 ?_
              exact grown_pick _ _ _ false rfl h107 rfl
            refine steps_cons (fun a w hk hn => ?_) ?_
            · have h104 : a.eval (.tmp 104) = .bool false := hn.1
              have h111 : a.eval (.tmp 111) = .bool false := hn.2.1
              clear hn
              refine wants_plain rfl ?_
              exact grown_pick _ _ _ false rfl h104 h111
            exact trivial
          intro W2 hkW2
          rintro _ rfl
          rintro _ rfl
          rintro _ rfl
          rintro _ rfl
          rintro _ rfl
          rintro _ rfl
          rintro _ rfl
          intro v96 h96
          rintro _ rfl
          rintro _ rfl
          intro v99 h99
          intro v100 h100
          rintro _ rfl
          rintro _ rfl
          rintro _ rfl
          rintro _ rfl
          rintro _ rfl
          rintro _ rfl
          rintro _ rfl
          rintro _ rfl
          rintro _ rfl
          rintro _ rfl
          rintro _ rfl
          rintro _ rfl
          refine fin_nil ?_
          simp only [Act.put, List.set_cons_zero, List.set_cons_succ, List.setIfInBounds_toArray]
          have HKW := hide (unhide HAd W2 hkW2)
          have HRW := hide ((unhide HR14).kept ((kp_drew w14).trans hkW2) (by simp))
          go_wp2_with fail
          go_roundw
          case rel => exact ⟨j + 1, a2, m2, c2, by omega, by go_num, rfl, by rw [unhide HOUT, Co.out_yes (unhide HOK), ← unhide HLL]; exact unhide HRW, unhide HKW⟩
          case measure => simp [intOf]; omega
      · have hj2 : j = 2 := by omega
        have hnlt : ¬ (j : Int) < 2 := by omega
        have HRx : Hid (Row wr wA.heap.size (.slice ax mx cx) (outK d0 d1 2)) := hide (by rw [← hj2]; exact unhide HR)
        clear HR
        have HR := HRx
        clear HRx hj2
        have HKR := hide ((unhide HKA).trans (unhide HKr))
        obtain ⟨wq, hwq⟩ : ∃ x, x = wr := ⟨_, rfl⟩
        subst hwq
        clear hlt hj HR0 HR1 HV0 HV1 HB0 HB1
        go_upto_if 116 with fail
        clear hnlt
        go_cut [] from 114 to 127 (fun wc => Hid (∃ X2 : List Int, Sl wc (.slice ax mx cx) X2 ∧ Bs X2 ∧ X2.length ≤ 140737488351232 ∧ (∀ k, (Value.slice ax mx cx).ownBlock = some k → k < wc.heap.size) ∧ Kp [] w wc))
        case first =>
          cases hok : d1.ok with
          | true =>
            obtain ⟨L, hL⟩ : ∃ L, L = d1.lay := ⟨_, rfl⟩
            have R7 : Row wq wA.heap.size (.slice ax mx cx) L := by have h : Row wq wA.heap.size (.slice ax mx cx) d1.out := unhide HR; rw [Co.out_yes hok, ← hL] at h; exact h
            have hLn : L.length = 2181 := by rw [hL]; exact Co.lay_len hok
            have hLB : Bs L := by rw [hL]; exact Co.lay_bs hok (unhide HPB).1 (unhide HPB).2
            have hmx : mx = 2181 := by rw [R7.len, hLn]
            subst hmx
            have HLn := hide hLn
            have HLB := hide hLB
            have HC7 := hide (within_any xt 0 2180 wq (by omega) (by omega) (by omega) (unhide HT))
            obtain ⟨gx, hgx, hgx0, hgx1, hcells, hfz, hset⟩ := R7.spot (by omega)
            subst hgx
            have HCE := hide hcells
            have HFZ := hide hfz
            have HSET := hide hset
            have HGX := hide hgx0
            clear hcells hfz hset R7 hok hL hLn hLB hgx0 hgx1
            go_wp2_with fail
            refine (unhide HC7).mono ?_
            rintro ee wz ⟨xk, rfl, hx0, hx1, hwz⟩
            subst wz
            obtain ⟨k, rfl⟩ := Int.eq_ofNat_of_zero_le hx0
            have hkLi : (k : Int) < 2181 := by omega
            have hkB : k < L.length := by have := unhide HLn; omega
            have hck := unhide HCE k hkB
            have hfk := unhide HFZ k
            obtain ⟨y, hy⟩ : ∃ y, y = L[k] := ⟨_, rfl⟩
            rw [← hy] at hck
            obtain ⟨z, hz⟩ : ∃ z, z = bits .xor .u8 y turn := ⟨_, rfl⟩
            have hzb : 0 ≤ z ∧ z ≤ 255 := by rw [hz]; exact xor_b y turn
            obtain ⟨w8, hw8⟩ : ∃ w8, w8 = wq.setCell ⟨gx, k, none⟩ (.int .u8 z) := ⟨_, rfl⟩
            have K8 : Kp [gx] wq w8 := by rw [hw8]; exact kp_fcell wq gx k _
            have R8 := unhide HSET k z
            rw [← hw8] at R8
            have HC : Hid (∃ X2 : List Int, Sl w8 (.slice (some ⟨gx, 0, none⟩) 2181 cx) X2 ∧ Bs X2 ∧ X2.length ≤ 140737488351232 ∧ (∀ k, (Value.slice (some ⟨gx, 0, none⟩) 2181 cx).ownBlock = some k → k < w8.heap.size) ∧ Kp [] w w8) := ⟨L.set k z, R8.sl, (unhide HLB).set k z hzb.1 hzb.2, by rw [List.length_set, unhide HLn]; omega, fun j hj => R8.lt hj, (unhide HKR).then K8 (fun i hi => .inr (by simp at hi; have := unhide HGX; have := (unhide HKA).size; omega))⟩
            have HW8 := hide hw8
            have HZ := hide hz
            clear HC7 hx0 hx1 hkB hy hz hzb hw8 K8 R8 HCE HFZ HSET
            go_wp2_with fail
            go_meet
            case rel => rw [← unhide HZ, ← unhide HW8]; exact HC
          | false =>
            have R7 : Row wq wA.heap.size (.slice ax mx cx) [] := by have h : Row wq wA.heap.size (.slice ax mx cx) d1.out := unhide HR; rw [Co.out_no hok] at h; exact h
            have hmx : mx = 0 := R7.len
            subst hmx
            have HC : Hid (∃ X2 : List Int, Sl wq (.slice ax 0 cx) X2 ∧ Bs X2 ∧ X2.length ≤ 140737488351232 ∧ (∀ k, (Value.slice ax 0 cx).ownBlock = some k → k < wq.heap.size) ∧ Kp [] w wq) := ⟨[], R7.sl, fun b hb => (by cases hb), by simp, fun j hj => R7.lt hj, unhide HKR⟩
            clear R7 hok
            go_wp2_with fail
            go_meet
            case rel => exact HC
        case rest =>
          obtain ⟨X2, hSx, hBx, hlx, hox, hKc⟩ := unhide hcut
          obtain ⟨wm, hwm⟩ : ∃ x, x = wc := ⟨_, rfl⟩
          subst hwm
          obtain ⟨wL, hwL⟩ : ∃ x, x = wm.alloc (.cells #[.slice ax mx cx, .slice ab nb cb] 27) := ⟨_, rfl⟩
          obtain ⟨gL, hgL⟩ : ∃ g, g = wm.heap.size := ⟨_, rfl⟩
          have KL : Kp [] wm wL := by rw [hwL]; exact (Kp.refl [] _).alloc _
          have GL : wL.heap[gL]? = some (.cells #[.slice ax mx cx, .slice ab nb cb] 27 (0, 0)) := by rw [hwL, hgL]; exact heap_alloc_new wm _
          have HKL : Hid (Kp [] w wL) := hKc.trans KL
          have HC0 : Hid (wL.cell? ⟨gL, 0, none⟩ = some (.slice ax mx cx)) := hide (by rw [cell_of_row _ gL 0 _ _ _ GL]; rfl)
          have HC1 : Hid (wL.cell? ⟨gL, 1, none⟩ = some (.slice ab nb cb)) := hide (by rw [cell_of_row _ gL 1 _ _ _ GL]; rfl)
          have HY0 : Hid ((∀ w', Kp [] wL w' → Sl w' (.slice ax mx cx) X2) ∧ Bs X2 ∧ X2.length ≤ 140737488351232 ∧ ∀ k, (Value.slice ax mx cx).ownBlock = some k → k < wL.heap.size) := ⟨fun w' k' => hSx.kept (KL.trans k') (by simp), hBx, hlx, fun k hk => Nat.lt_of_lt_of_le (hox k hk) KL.size⟩
          have HY1 : Hid ((∀ w', Kp [] wL w' → Sl w' (.slice ab nb cb) bs) ∧ Bs bs ∧ bs.length ≤ 140737488351232 ∧ ∀ k, (Value.slice ab nb cb).ownBlock = some k → k < wL.heap.size) := ⟨fun w' k' => unhide HSb w' ((unhide HKL).trans k'), unhide HBb, unhide HBl, fun k hk => Nat.lt_of_lt_of_le (unhide HBo k hk) (unhide HKL).size⟩
          have HWL := hide hwL
          have HgL := hide hgL
          clear hcut hSx hBx hlx hox hKc KL GL hwL hgL HR HKr HKR HSb HBb HBl HBo
          go_wp2_with fail
          rw [← unhide HWL, ← unhide HgL]
          clear HWL HgL
          go_loopw [132] (fun vi wr => ∃ j : Nat, j ≤ 2 ∧ vi = .int .i64 j ∧ Kp [] wL wr) (fun vi _ => 2 - (intOf vi).toNat)
          case atStart => exact ⟨0, by omega, rfl, Kp.refl _ _⟩
          case round =>
            obtain ⟨j, hj, rfl, hKr⟩ := hrel
            have HKr := hide hKr
            clear hKr
            by_cases hlt : j < 2
            · have hlti : (j : Int) < 2 := by omega
              obtain ⟨ay, ny, cy, Y, hcell, hSY, hBY, hlY, hoY⟩ : ∃ (ay : Option Addr) (ny cy : Nat) (Y : List Int), wL.cell? ⟨gL, j, none⟩ = some (.slice ay ny cy) ∧ (∀ w', Kp [] wL w' → Sl w' (.slice ay ny cy) Y) ∧ Bs Y ∧ Y.length ≤ 140737488351232 ∧ ∀ k, (Value.slice ay ny cy).ownBlock = some k → k < wL.heap.size := by
                have : j = 0 ∨ j = 1 := by omega
                rcases this with rfl | rfl
                · exact ⟨_, _, _, _, unhide HC0, unhide HY0⟩
                · exact ⟨_, _, _, _, unhide HC1, unhide HY1⟩
              have x0 : wr.cell? ⟨gL, j, none⟩ = some (.slice ay ny cy) := (unhide HKr).cell hcell (by simp)
              have HS := hide (fun w' (k : Kp [] wr w') => hSY w' ((unhide HKr).trans k))
              have HB := hide hBY
              have HL := hide hlY
              have HV := hide (fun k hk => Nat.lt_of_lt_of_le (hoY k hk) (unhide HKr).size)
              have HRd := hide (read_any (.slice ay ny cy) Y wr (unhide HS wr (Kp.refl _ _)) (by omega))
              obtain ⟨og, hog⟩ : ∃ b, b = okK (false, Y) := ⟨_, rfl⟩
              have HOG := hide hog
              clear hcell hSY hBY hlY hoY hog
              go_wp2_with fail
              refine (unhide HRd).mono ?_
              rintro ee w2 ⟨q, v2, rfl, hq2, R2, hv2, K2⟩
              obtain ⟨w3, hw3⟩ : ∃ w3, w3 = w2.alloc (.cells #[.slice ay ny cy, .int .i64 0, .bool false] 47) := ⟨_, rfl⟩
              obtain ⟨qr, hqr⟩ : ∃ g, g = w2.heap.size := ⟨_, rfl⟩
              have K3 : Kp [] w2 w3 := by rw [hw3]; exact (Kp.refl [] w2).alloc _
              have Gr3 : w3.heap[qr]? = some (.cells #[.slice ay ny cy, .int .i64 0, .bool false] 47 (0, 0)) := by rw [hw3, hqr]; exact heap_alloc_new w2 _
              have hqlt : q < w2.heap.size := lt_of_block R2.1
              have HGt := hide (coget_any q v2 (false, Y) w3 (R2.kept K3 (by simp) (by simp)) (fun k hk => Nat.lt_of_lt_of_le (hv2 k hk).2 K3.size) (unhide HB) (by have := unhide HL; show Y.length ≤ _; omega))
              rw [← unhide HOG] at HGt
              have HK3 := hide (K2.trans K3)
              have HGr3 := hide Gr3
              have HQQ : Hid (wr.heap.size ≤ q ∧ q < qr) := hide (by omega)
              have HW3 := hide hw3
              have HQR := hide hqr
              clear HRd R2 hv2 K2 K3 Gr3 hq2 hqlt hw3 hqr x0
              go_wp2_with fail
              rw [← unhide HW3, ← unhide HQR]
              refine (unhide HGt).mono ?_
              rintro ee w4 ⟨v4, rfl, V4, L4⟩
              obtain ⟨ja, jn, jc, la, ln, lc, ev4, -⟩ := id V4
              subst ev4
              obtain ⟨kq, hhk⟩ : ∃ n, n = (ansK (false, Y)).k := ⟨_, rfl⟩
              obtain ⟨hi, hhi⟩ : ∃ n, n = (ansK (false, Y)).i := ⟨_, rfl⟩
              rw [← hhk, ← hhi] at V4 ⊢
              have HHK := hide hhk
              have HHI := hide hhi
              have HK4 := hide ((unhide HK3).then L4.2 (fun k hk => .inr (by simp at hk; have := unhide HQQ; omega)))
              have HGr4 := hide (L4.2.heap (unhide HGr3) (by have := unhide HQQ; simp; omega))
              have HV4 := hide V4
              clear HGt V4 L4 hhk hhi HGr3 HK3 HW3 HQR
              have Ga := heap_alloc_new w4 (.cells #[.int .i64 0, .int .i64 0, .slice none 0 0, .slice none 0 0] 26)
              have HKa : Hid (Kp [] w4 (w4.alloc (.cells #[.int .i64 0, .int .i64 0, .slice none 0 0, .slice none 0 0] 26))) := (Kp.refl [] w4).alloc _
              go_wp2_with (refine wpList_store_flat rfl 26 (.tmp 27) (.tmp 146) rfl w4.heap.size 0 rfl _ _ [.int .i64 kq, .int .i64 hi, .slice ja jn jc, .slice la ln lc] Ga rfl (by simp) Tryz.cosSize (by simp [Value.oneCell']) #[.int .i64 kq, .int .i64 hi, .slice ja jn jc, .slice la ln lc] rfl ?_; intro w5 Gw5 Kw5; refine Hid.out ?_)
              obtain ⟨g27, hg27⟩ : ∃ g, g = w4.heap.size := ⟨_, rfl⟩
              have Kw4w5 : Kp [] w4 w5 := (unhide HKa).then Kw5 (fun i hi => .inr (by simp at hi; omega))
              rw [← hg27] at Gw5 ⊢
              have HV5 := hide ((unhide HV4).kept Kw4w5)
              have hGr5 := Kw4w5.heap (unhide HGr4) (by simp)
              have HGr5 := hide hGr5
              have HK5 := hide ((unhide HK4).trans Kw4w5)
              have HG5 := hide Gw5
              have hg5q : g27 ≠ qr := by
                intro e
                have h1 := hGr5
                rw [← e, Gw5] at h1
                simp at h1
              have hne : (Value.slice ay ny cy).ownBlock ≠ some qr := fun e => by have := unhide HV qr e; have := unhide HQQ; omega
              have hRR5 : RR w5 qr (.slice ay ny cy) 0 false Y := ⟨hGr5, unhide HS w5 (unhide HK5), hne, by omega⟩
              have hNb := rnumb_any qr (.slice ay ny cy) 0 false Y 1 w5 hRR5 (by have := unhide HL; omega) (by omega) (unhide HB)
              have hk1 : tk false (rest 0 false Y) ((1 : Nat) : Int) = k1 (false, Y) := rfl
              rw [hk1] at hNb
              have hkv := k1_val (s := (false, Y)) (unhide HB)
              obtain ⟨kv, hkv1⟩ : ∃ x, x = val (k1 (false, Y)).1 := ⟨_, rfl⟩
              rw [← hkv1] at hNb hkv
              have HNb := hide hNb
              have HKV := hide hkv1
              have HG5Q := hide hg5q
              have HKVB := hide hkv
              clear Ga HKa Gw5 Kw5 Kw4w5 HV4 HGr4 HK4 hGr5 hne hRR5 hNb hk1 hkv1 hkv hg27 hg5q
              refine hide ?_
              go_wp2_with fail
              refine (unhide HNb).mono ?_
              rintro ee w6 ⟨rfl, i6, bad6, RR6, e6, K6⟩
              have HV6 := hide (co_off3 (unhide HGr5) K6 (unhide HV5))
              have HG6 := hide (K6.heap (unhide HG5) (by simpa using unhide HG5Q))
              have HK6 := hide ((unhide HK5).then K6 (fun k hk => .inr (by simp at hk; have := unhide HQQ; omega)))
              have hRw := rraw_any qr (.slice ay ny cy) i6 bad6 Y 2180 w6 RR6 (by have := unhide HL; omega) (by omega)
              have hk2 : tk bad6 (rest i6 bad6 Y) 2180 = k2 (false, Y) := by rw [k2_eq, e6]
              rw [hk2] at hRw
              have HRw := hide hRw
              have HRR6 := hide RR6
              clear HNb RR6 e6 K6 hRw hk2 HV5 HG5 HK5 HGr5
              go_wp2_with fail
              refine (unhide HRw).mono ?_
              rintro ee w7 ⟨aw, mw, cw, rfl, O7, i7, bad7, RR7, e7, K7⟩
              obtain ⟨v27, h27⟩ : ∃ v : Value, v = .agg #[.int .i64 kq, .int .i64 hi, .slice ja jn jc, .slice la ln lc] := ⟨_, rfl⟩
              have HV7 := hide (co_off3 (v := .agg #[.int .i64 kq, .int .i64 hi, .slice ja jn jc, .slice la ln lc]) (unhide HRR6).1 K7 (unhide HV6))
              have HG7 := hide (K7.heap (unhide HG6) (by simpa using unhide HG5Q))
              have HK7 := hide ((unhide HK6).then K7 (fun k hk => .inr (by simp at hk; have := unhide HQQ; omega)))
              have HDc := hide (refdecode_any (.slice aw mw cw) (k2 (false, Y)).1 w7 O7.1 (ks_bs (unhide HB)).2.2.1)
              have HRR7 := hide RR7
              have HE7 := hide e7
              clear HRw O7 RR7 e7 K7 HV6 HG6 HK6 HRR6 h27 v27
              go_wp2_with fail
              refine (unhide HDc).mono ?_
              rintro ee w8 ⟨v8, ok8, rfl, hRD, K8⟩
              have HK8 := hide ((unhide HK7).trans K8)
              have HV8 := hide ((unhide HV7).kept K8)
              have HG8 := hide (K8.heap (unhide HG7) (by simp))
              have HRR8 := hide (K8.heap (unhide HRR7).1 (by simp))
              clear HDc K8 HK7 HV7 HG7
              have hog2 := okK_ref (s := (false, Y)) (fun h => by cases h)
              rw [← unhide HOG, ← unhide HKV] at hog2
              cases hdd : decOk (k2 (false, Y)).1 with
              | false =>
                rw [hdd] at hog2
                have hogf : og = false := by rw [hog2]; rfl
                unfold RDecd at hRD
                rw [hdd] at hRD
                obtain ⟨rfl, rfl⟩ := hRD
                have han : ansK (false, Y) = co0 := ansK_no (by rw [← unhide HOG]; exact hogf)
                have hz := unhide HV8
                rw [han] at hz
                obtain ⟨hk0, hn0⟩ := hz.zero
                clear HOG hog2 hdd hz han
                subst hogf
                subst hk0
                subst hn0
                have Ga := heap_alloc_new w8 (.cells #[.int .i64 0, .slice none 0 0, .slice none 0 0] 24)
                have HKa : Hid (Kp [] w8 (w8.alloc (.cells #[.int .i64 0, .slice none 0 0, .slice none 0 0] 24))) := (Kp.refl [] w8).alloc _
                go_wp2_with (refine wpList_store_flat rfl 24 (.tmp 30) (.tmp 154) rfl w8.heap.size 0 rfl _ _ [.int .i64 0, .slice none 0 0, .slice none 0 0] Ga rfl (by simp) Tryz.sigSize (by simp [Value.oneCell']) #[.int .i64 0, .slice none 0 0, .slice none 0 0] rfl ?_; intro w9 Gw9 Kw9; refine Hid.out ?_)
                obtain ⟨g30, hg30⟩ : ∃ g, g = w8.heap.size := ⟨_, rfl⟩
                have Kw8w9 : Kp [] w8 w9 := (unhide HKa).then Kw9 (fun i hi => .inr (by simp at hi; omega))
                rw [← hg30] at Gw9 ⊢
                have HK9 := hide ((unhide HK8).trans Kw8w9)
                have HG9 := hide (Kw8w9.heap (unhide HG8) (by simp))
                have HT27 : Hid (∀ w', Kp [] w9 w' → w'.heap[g27]? = some (.cells #[.int .i64 0, .int .i64 hi, .slice ja 0 jc, .slice la ln lc] 26 (0, 0))) := fun w' k' => k'.heap (unhide HG9) (by simp)
                clear Ga HKa Gw9 Kw9 Kw8w9 hg30
                refine hide ?_
                go_upto_region 32 with fail
                refine region_growO [Is (.bool false), Is (.bool false), Is (.bool false), Is (.bool false), Is (.bool false), Is (.bool false), Is (undef), Is (undef), Is (undef), Is (undef), Is (undef), Is (undef), Is (undef), Is (undef), Is (undef), Is (undef), Is (undef), Is (undef), Is (.bool false), Is (.bool false), Is (.bool false), Is (.bool false), Is (.bool true), Is (.bool true), Is (.pointer (some ⟨g27, 0, none⟩)), Is (.int .i64 0), Is (.bool false), Is (.bool false), Is (.pointer (some ⟨g27, 1, none⟩)), Is (.pointer (some ⟨g27, 2, none⟩)), Is (.slice ja 0 jc), Is (.int .i64 0), Is (.bool false), Is (.bool false), Is (.bool false), Is (.bool false)] [[(28, none)], [(31, none)], [(168, some 0), (169, some 1)], [(170, some 2)], [(28, none), (171, some 3)], [(172, some 4), (171, some 3)], [(27, none), (173, some 5)], [(174, some 6), (173, some 5)], [(29, none), (173, some 5)], [(176, some 8), (173, some 5)], [(175, some 7), (177, some 9), (173, some 5)], [(178, some 10), (173, some 5)], [(27, none), (179, some 11)], [(180, some 12), (179, some 11)], [(30, none), (179, some 11)], [(181, some 13), (182, some 14), (179, some 11)], [(183, some 15), (179, some 11)], [(179, some 11), (184, some 16), (173, some 5)], [(173, some 5), (185, some 17), (171, some 3)], [(171, some 3), (186, some 18)], [(187, some 19)], [(28, none), (188, some 20)], [(189, some 21), (188, some 20)], [(190, some 22), (188, some 20)], [(27, none), (191, some 23)], [(192, some 24), (191, some 23)], [(193, some 25), (191, some 23)], [(194, some 26), (191, some 23)], [(27, none), (195, some 27)], [(196, some 28), (195, some 27)], [(197, some 29), (195, some 27)], [(198, some 30), (195, some 27)], [(199, some 31), (195, some 27)], [(195, some 27), (200, some 32), (191, some 23)], [(191, some 23), (201, some 33), (188, some 20)], [(188, some 20), (202, some 34)]] (by kernel_rfl) ?_ ?_ ?_
                · simp only [List.mem_cons, List.not_mem_nil, or_false]
                  intro R hR
                  rcases hR with rfl | rfl | rfl | rfl | rfl | rfl | rfl | rfl | rfl | rfl | rfl | rfl | rfl | rfl | rfl | rfl | rfl | rfl | rfl | rfl | rfl | rfl | rfl | rfl | rfl | rfl | rfl | rfl | rfl | rfl | rfl | rfl | rfl | rfl | rfl | rfl <;> first | exact stable_is _
                · refine steps_cons (fun a w hk hn => ?_) ?_
                  · have h28 : a.eval (.tmp 28) = .bool false := hn.1
                    clear hn
                    refine wants_plain rfl ?_
                    exact grown_move (.tmp 28) rfl h28
                  refine steps_cons (fun a w hk hn => ?_) ?_
                  · have h31 : a.eval (.tmp 31) = .bool false := hn.1
                    clear hn
                    refine wants_plain rfl ?_
                    exact grown_move (.tmp 31) rfl h31
                  refine steps_cons (fun a w hk hn => ?_) ?_
                  · have h168 : a.eval (.tmp 168) = .bool false := hn.1
                    have h169 : a.eval (.tmp 169) = .bool false := hn.2.1
                    clear hn
                    refine wants_plain rfl ?_
                    refine grown_run (v := .bool false) ?_ (Kp.refl _ _) rfl
                    obtain ⟨ρ, hρ, hc, hf, hg⟩ := eval_is a
                    rw [hρ] at h168 h169 ⊢
                    simp [go_sem, h168, h169]
                  refine steps_cons (fun a w hk hn => ?_) ?_
                  · have h170 : a.eval (.tmp 170) = .bool false := hn.1
                    clear hn
                    refine wants_plain rfl ?_
                    exact grown_move (.tmp 170) rfl h170
                  refine steps_cons (fun a w hk hn => ?_) ?_
                  · have h28 : a.eval (.tmp 28) = .bool false := hn.1
                    have h171 : a.eval (.tmp 171) = .bool false := hn.2.1
                    clear hn
                    refine wants_guard (d := 171) rfl rfl h171 ?_
                    exact grown_move (.tmp 28) rfl h28
                  refine steps_cons (fun a w hk hn => ?_) ?_
                  · have h172 : a.eval (.tmp 172) = .bool false := hn.1
                    have h171 : a.eval (.tmp 171) = .bool false := hn.2.1
                    clear hn
                    refine wants_guard (d := 171) rfl rfl h171 ?_
                    exact grown_move (.tmp 172) rfl h172
                  refine steps_cons (fun a w hk hn => ?_) ?_
                  · have h27 : a.eval (.tmp 27) = .pointer (some ⟨g27, 0, none⟩) := hn.1
                    have h173 : a.eval (.tmp 173) = .bool false := hn.2.1
                    clear hn
                    exact wants_not (d := 173) rfl rfl h173 rfl
                  refine steps_cons (fun a w hk hn => ?_) ?_
                  · have h174 : a.eval (.tmp 174) = undef := hn.1
                    have h173 : a.eval (.tmp 173) = .bool false := hn.2.1
                    clear hn
                    exact wants_not (d := 173) rfl rfl h173 rfl
                  refine steps_cons (fun a w hk hn => ?_) ?_
                  · have h29 : a.eval (.tmp 29) = .int .u32 kv := hn.1
                    have h173 : a.eval (.tmp 173) = .bool false := hn.2.1
                    clear hn
                    exact wants_not (d := 173) rfl rfl h173 rfl
                  refine steps_cons (fun a w hk hn => ?_) ?_
                  · have h176 : a.eval (.tmp 176) = undef := hn.1
                    have h173 : a.eval (.tmp 173) = .bool false := hn.2.1
                    clear hn
                    exact wants_not (d := 173) rfl rfl h173 rfl
                  refine steps_cons (fun a w hk hn => ?_) ?_
                  · have h175 : a.eval (.tmp 175) = undef := hn.1
                    have h177 : a.eval (.tmp 177) = undef := hn.2.1
                    have h173 : a.eval (.tmp 173) = .bool false := hn.2.2.1
                    clear hn
                    exact wants_not (d := 173) rfl rfl h173 rfl
                  refine steps_cons (fun a w hk hn => ?_) ?_
                  · have h178 : a.eval (.tmp 178) = undef := hn.1
                    have h173 : a.eval (.tmp 173) = .bool false := hn.2.1
                    clear hn
                    exact wants_not (d := 173) rfl rfl h173 rfl
                  refine steps_cons (fun a w hk hn => ?_) ?_
                  · have h27 : a.eval (.tmp 27) = .pointer (some ⟨g27, 0, none⟩) := hn.1
                    have h179 : a.eval (.tmp 179) = undef := hn.2.1
                    clear hn
                    exact wants_none (d := 179) rfl rfl h179 rfl
                  refine steps_cons (fun a w hk hn => ?_) ?_
                  · have h180 : a.eval (.tmp 180) = undef := hn.1
                    have h179 : a.eval (.tmp 179) = undef := hn.2.1
                    clear hn
                    exact wants_none (d := 179) rfl rfl h179 rfl
                  refine steps_cons (fun a w hk hn => ?_) ?_
                  · have h30 : a.eval (.tmp 30) = .pointer (some ⟨g30, 0, none⟩) := hn.1
                    have h179 : a.eval (.tmp 179) = undef := hn.2.1
                    clear hn
                    exact wants_none (d := 179) rfl rfl h179 rfl
                  refine steps_cons (fun a w hk hn => ?_) ?_
                  · have h181 : a.eval (.tmp 181) = undef := hn.1
                    have h182 : a.eval (.tmp 182) = undef := hn.2.1
                    have h179 : a.eval (.tmp 179) = undef := hn.2.2.1
                    clear hn
                    exact wants_none (d := 179) rfl rfl h179 rfl
                  refine steps_cons (fun a w hk hn => ?_) ?_
                  · have h183 : a.eval (.tmp 183) = undef := hn.1
                    have h179 : a.eval (.tmp 179) = undef := hn.2.1
                    clear hn
                    exact wants_none (d := 179) rfl rfl h179 rfl
                  refine steps_cons (fun a w hk hn => ?_) ?_
                  · have h179 : a.eval (.tmp 179) = undef := hn.1
                    have h184 : a.eval (.tmp 184) = undef := hn.2.1
                    have h173 : a.eval (.tmp 173) = .bool false := hn.2.2.1
                    clear hn
                    exact wants_not (d := 173) rfl rfl h173 rfl
                  refine steps_cons (fun a w hk hn => ?_) ?_
                  · have h173 : a.eval (.tmp 173) = .bool false := hn.1
                    have h185 : a.eval (.tmp 185) = undef := hn.2.1
                    have h171 : a.eval (.tmp 171) = .bool false := hn.2.2.1
                    clear hn
                    refine wants_guard (d := 171) rfl rfl h171 ?_
                    exact grown_pick _ _ _ false rfl h173 rfl
                  refine steps_cons (fun a w hk hn => ?_) ?_
                  · have h171 : a.eval (.tmp 171) = .bool false := hn.1
                    have h186 : a.eval (.tmp 186) = .bool false := hn.2.1
                    clear hn
                    refine wants_plain rfl ?_
                    exact grown_pick _ _ _ false rfl h171 h186
                  refine steps_cons (fun a w hk hn => ?_) ?_
                  · have h187 : a.eval (.tmp 187) = .bool false := hn.1
                    clear hn
                    refine wants_plain rfl ?_
                    exact grown_move (.tmp 187) rfl h187
                  refine steps_cons (fun a w hk hn => ?_) ?_
                  · have h28 : a.eval (.tmp 28) = .bool false := hn.1
                    have h188 : a.eval (.tmp 188) = .bool false := hn.2.1
                    clear hn
                    refine wants_guard (d := 188) rfl rfl h188 ?_
                    exact grown_move (.tmp 28) rfl h28
                  refine steps_cons (fun a w hk hn => ?_) ?_
                  · have h189 : a.eval (.tmp 189) = .bool false := hn.1
                    have h188 : a.eval (.tmp 188) = .bool false := hn.2.1
                    clear hn
                    refine wants_guard (d := 188) rfl rfl h188 ?_
                    refine grown_run (v := .bool true) ?_ (Kp.refl _ _) rfl
                    obtain ⟨ρ, hρ, hc, hf, hg⟩ := eval_is a
                    rw [hρ] at h189 ⊢
                    simp [go_sem, h189]
                  refine steps_cons (fun a w hk hn => ?_) ?_
                  · have h190 : a.eval (.tmp 190) = .bool true := hn.1
                    have h188 : a.eval (.tmp 188) = .bool false := hn.2.1
                    clear hn
                    refine wants_guard (d := 188) rfl rfl h188 ?_
                    exact grown_move (.tmp 190) rfl h190
                  refine steps_cons (fun a w hk hn => ?_) ?_
                  · have h27 : a.eval (.tmp 27) = .pointer (some ⟨g27, 0, none⟩) := hn.1
                    have h191 : a.eval (.tmp 191) = .bool true := hn.2.1
                    clear hn
                    refine wants_guard (d := 191) rfl rfl h191 ?_
                    refine grown_run (v := .pointer (some ⟨g27, 0, none⟩)) ?_ (Kp.refl _ _) rfl
                    obtain ⟨ρ, hρ, hc, hf, hg⟩ := eval_is a
                    rw [hρ] at h27 ⊢
                    simp [go_sem, h27]
                  refine steps_cons (fun a w hk hn => ?_) ?_
                  · have h192 : a.eval (.tmp 192) = .pointer (some ⟨g27, 0, none⟩) := hn.1
                    have h191 : a.eval (.tmp 191) = .bool true := hn.2.1
                    clear hn
                    refine wants_guard (d := 191) rfl rfl h191 ?_
                    refine grown_run (v := .int .i64 0) ?_ (Kp.refl _ _) rfl
                    have hcell : w.cell? ⟨g27, 0, none⟩ = some (.int .i64 0) := by rw [cell_of_row w g27 0 _ _ _ (unhide HT27 w hk)]; rfl
                    obtain ⟨ρ, hρ, hc, hf, hg⟩ := eval_is a
                    rw [hρ] at h192 ⊢
                    simp [go_sem, h192, hcell]
                  refine steps_cons (fun a w hk hn => ?_) ?_
                  · have h193 : a.eval (.tmp 193) = .int .i64 0 := hn.1
                    have h191 : a.eval (.tmp 191) = .bool true := hn.2.1
                    clear hn
                    refine wants_guard (d := 191) rfl rfl h191 ?_
                    refine grown_run (v := .bool false) ?_ (Kp.refl _ _) rfl
                    obtain ⟨ρ, hρ, hc, hf, hg⟩ := eval_is a
                    rw [hρ] at h193 ⊢
                    simp [go_sem, hc, h193]
                  refine steps_cons (fun a w hk hn => ?_) ?_
                  · have h194 : a.eval (.tmp 194) = .bool false := hn.1
                    have h191 : a.eval (.tmp 191) = .bool true := hn.2.1
                    clear hn
                    refine wants_guard (d := 191) rfl rfl h191 ?_
                    exact grown_move (.tmp 194) rfl h194
                  refine steps_cons (fun a w hk hn => ?_) ?_
                  · have h27 : a.eval (.tmp 27) = .pointer (some ⟨g27, 0, none⟩) := hn.1
                    have h195 : a.eval (.tmp 195) = .bool false := hn.2.1
                    clear hn
                    refine wants_guard (d := 195) rfl rfl h195 ?_
                    refine grown_run (v := .pointer (some ⟨g27, 1, none⟩)) ?_ (Kp.refl _ _) rfl
                    obtain ⟨ρ, hρ, hc, hf, hg⟩ := eval_is a
                    rw [hρ] at h27 ⊢
                    simp [go_sem, h27]
                  refine steps_cons (fun a w hk hn => ?_) ?_
                  · have h196 : a.eval (.tmp 196) = .pointer (some ⟨g27, 1, none⟩) := hn.1
                    have h195 : a.eval (.tmp 195) = .bool false := hn.2.1
                    clear hn
                    refine wants_guard (d := 195) rfl rfl h195 ?_
                    refine grown_run (v := .pointer (some ⟨g27, 2, none⟩)) ?_ (Kp.refl _ _) rfl
                    obtain ⟨ρ, hρ, hc, hf, hg⟩ := eval_is a
                    rw [hρ] at h196 ⊢
                    simp [go_sem, h196]
                  refine steps_cons (fun a w hk hn => ?_) ?_
                  · have h197 : a.eval (.tmp 197) = .pointer (some ⟨g27, 2, none⟩) := hn.1
                    have h195 : a.eval (.tmp 195) = .bool false := hn.2.1
                    clear hn
                    refine wants_guard (d := 195) rfl rfl h195 ?_
                    refine grown_run (v := .slice ja 0 jc) ?_ (Kp.refl _ _) rfl
                    have hcell : w.cell? ⟨g27, 2, none⟩ = some (.slice ja 0 jc) := by rw [cell_of_row w g27 2 _ _ _ (unhide HT27 w hk)]; rfl
                    obtain ⟨ρ, hρ, hc, hf, hg⟩ := eval_is a
                    rw [hρ] at h197 ⊢
                    simp [go_sem, h197, hcell]
                  refine steps_cons (fun a w hk hn => ?_) ?_
                  · have h198 : a.eval (.tmp 198) = .slice ja 0 jc := hn.1
                    have h195 : a.eval (.tmp 195) = .bool false := hn.2.1
                    clear hn
                    refine wants_guard (d := 195) rfl rfl h195 ?_
                    refine grown_run (v := .int .i64 0) ?_ (Kp.refl _ _) rfl
                    obtain ⟨ρ, hρ, hc, hf, hg⟩ := eval_is a
                    rw [hρ] at h198 ⊢
                    simp [go_sem, h198]
                  refine steps_cons (fun a w hk hn => ?_) ?_
                  · have h199 : a.eval (.tmp 199) = .int .i64 0 := hn.1
                    have h195 : a.eval (.tmp 195) = .bool false := hn.2.1
                    clear hn
                    refine wants_guard (d := 195) rfl rfl h195 ?_
                    refine grown_run (v := .bool false) ?_ (Kp.refl _ _) rfl
                    obtain ⟨ρ, hρ, hc, hf, hg⟩ := eval_is a
                    rw [hρ] at h199 ⊢
                    simp [go_sem, hc, h199]
                  refine steps_cons (fun a w hk hn => ?_) ?_
                  · have h195 : a.eval (.tmp 195) = .bool false := hn.1
                    have h200 : a.eval (.tmp 200) = .bool false := hn.2.1
                    have h191 : a.eval (.tmp 191) = .bool true := hn.2.2.1
                    clear hn
                    refine wants_guard (d := 191) rfl rfl h191 ?_
                    exact grown_pick _ _ _ false rfl h195 h200
                  refine steps_cons (fun a w hk hn => ?_) ?_
                  · have h191 : a.eval (.tmp 191) = .bool true := hn.1
                    have h201 : a.eval (.tmp 201) = .bool false := hn.2.1
                    have h188 : a.eval (.tmp 188) = .bool false := hn.2.2.1
                    clear hn
                    refine wants_guard (d := 188) rfl rfl h188 ?_
                    exact grown_pick _ _ _ true rfl h191 h201
                  refine steps_cons (fun a w hk hn => ?_) ?_
                  · have h188 : a.eval (.tmp 188) = .bool false := hn.1
                    have h202 : a.eval (.tmp 202) = .bool false := hn.2.1
                    clear hn
                    refine wants_plain rfl ?_
                    exact grown_pick _ _ _ false rfl h188 h202
                  exact trivial
                intro W3 hkW3
                rintro _ rfl
                rintro _ rfl
                rintro _ rfl
                rintro _ rfl
                rintro _ rfl
                rintro _ rfl
                rintro _ rfl
                rintro _ rfl
                rintro _ rfl
                rintro _ rfl
                rintro _ rfl
                rintro _ rfl
                rintro _ rfl
                rintro _ rfl
                rintro _ rfl
                rintro _ rfl
                rintro _ rfl
                rintro _ rfl
                rintro _ rfl
                rintro _ rfl
                rintro _ rfl
                rintro _ rfl
                rintro _ rfl
                rintro _ rfl
                rintro _ rfl
                rintro _ rfl
                rintro _ rfl
                rintro _ rfl
                rintro _ rfl
                rintro _ rfl
                rintro _ rfl
                rintro _ rfl
                rintro _ rfl
                rintro _ rfl
                rintro _ rfl
                rintro _ rfl
                refine fin_nil ?_
                simp only [Act.put, List.set_cons_zero, List.set_cons_succ, List.setIfInBounds_toArray]
                have HKW3 := hide hkW3
                clear hkW3
                go_wp2_with fail
                go_roundw
                case rel => exact ⟨j + 1, by omega, by go_num, (unhide HKr).trans ((unhide HK9).trans (unhide HKW3))⟩
                case measure => simp [intOf]; omega
              | true =>
                have hbad : bad7 = false := by
                  have h := k2_bad (s := (false, Y)) (fun h => by cases h) hdd
                  rw [unhide HE7] at h
                  exact h
                rw [hdd, unhide HE7, hbad] at hog2
                simp only [Bool.true_and, Bool.not_false] at hog2
                subst hbad
                unfold RDecd at hRD
                rw [hdd] at hRD
                obtain ⟨hS8, rfl⟩ := hRD
                by_cases hk4 : kv < 4
                · have hogt : og = true := by rw [hog2]; exact decide_eq_true hk4
                  have han : ansK (false, Y) = coK (false, Y) := ansK_yes (by rw [← unhide HOG]; exact hogt)
                  have hkk : kq = kv := by rw [unhide HHK, han, unhide HKV]; rfl
                  have hii : val ((k2 (false, Y)).1.take 4) = hi := by rw [unhide HHI, han]; rfl
                  have hSh := CoV.sig (unhide HV8)
                  rw [han] at hSh
                  obtain ⟨P8, hP8⟩ : ∃ P, P = chP 64 ((k2 (false, Y)).1.drop 4) := ⟨_, rfl⟩
                  obtain ⟨Q8, hQ8⟩ : ∃ Q, Q = chP 4 ((k2 (false, Y)).1.drop 2052) := ⟨_, rfl⟩
                  have hSh2 : SigV w8 (.agg #[.int .i64 hi, .slice ja jn jc, .slice la ln lc]) hi P8 Q8 := by rw [← hii, hP8, hQ8]; exact hSh
                  rw [hii, ← hP8, ← hQ8] at hS8
                  obtain ⟨sa, sn, sc, ta, tn, tc, -, -, ev8, -⟩ := hS8.shape
                  rw [ev8] at hS8 ⊢
                  have HS8 := hide hS8
                  have HSh := hide hSh2
                  have hwv : IntKind.i64.wrap kv = kv := by have := unhide HKVB; simp [IntKind.wrap, IntKind.signed, IntKind.bits]; omega
                  clear HOG hog2 hdd han hii hSh hP8 hQ8 hSh2 hS8 ev8
                  subst hogt
                  subst hkk
                  have Ga := heap_alloc_new w8 (.cells #[.int .i64 0, .slice none 0 0, .slice none 0 0] 24)
                  have HKa : Hid (Kp [] w8 (w8.alloc (.cells #[.int .i64 0, .slice none 0 0, .slice none 0 0] 24))) := (Kp.refl [] w8).alloc _
                  go_wp2_with (refine wpList_store_flat rfl 24 (.tmp 30) (.tmp 154) rfl w8.heap.size 0 rfl _ _ [.int .i64 hi, .slice sa sn sc, .slice ta tn tc] Ga rfl (by simp) Tryz.sigSize (by simp [Value.oneCell']) #[.int .i64 hi, .slice sa sn sc, .slice ta tn tc] rfl ?_; intro w9 Gw9 Kw9; refine Hid.out ?_)
                  obtain ⟨g30, hg30⟩ : ∃ g, g = w8.heap.size := ⟨_, rfl⟩
                  have Kw8w9 : Kp [] w8 w9 := (unhide HKa).then Kw9 (fun i hi => .inr (by simp at hi; omega))
                  rw [← hg30] at Gw9 ⊢
                  have HK9 := hide ((unhide HK8).trans Kw8w9)
                  have HG9 := hide (Kw8w9.heap (unhide HG8) (by simp))
                  have HG309 := hide Gw9
                  have HRR9 := hide (Kw8w9.heap (unhide HRR8) (by simp))
                  have hSh9 := (unhide HSh).kept Kw8w9
                  have hS89 := (unhide HS8).kept Kw8w9
                  clear HSh HS8
                  have HSh := hide (fun w' (k' : Kp [] w9 w') => hSh9.kept k')
                  have HS8 := hide (fun w' (k' : Kp [] w9 w') => hS89.kept k')
                  have HT27 : Hid (∀ w', Kp [] w9 w' → w'.heap[g27]? = some (.cells #[.int .i64 kq, .int .i64 hi, .slice ja jn jc, .slice la ln lc] 26 (0, 0))) := fun w' k' => k'.heap (unhide HG9) (by simp)
                  have HT30 : Hid (∀ w', Kp [] w9 w' → w'.heap[g30]? = some (.cells #[.int .i64 hi, .slice sa sn sc, .slice ta tn tc] 24 (0, 0))) := fun w' k' => k'.heap (unhide HG309) (by simp)
                  have b2 : w9.cell? ⟨qr, 2, none⟩ = some (.bool false) := by rw [cell_of_row _ qr 2 _ _ _ (unhide HRR9)]; rfl
                  have HWV := hide hwv
                  clear Ga HKa Gw9 Kw9 Kw8w9 hg30 hSh9 hS89 hwv
                  refine hide ?_
                  go_upto_region 32 with fail
                  refine region_growO [Is (.bool true), Is (.bool true), Is (.bool false), Is (.bool false), Is (.bool true), Is (.bool true), Is (.pointer (some ⟨g27, 0, none⟩)), Is (.int .i64 kq), Is (.int .u32 kq), Is (.int .i64 kq), Is (.bool false), Is (.bool false), Is (.pointer (some ⟨g27, 1, none⟩)), Is (.agg #[.int .i64 hi, .slice ja jn jc, .slice la ln lc]), Is (.agg #[.int .i64 hi, .slice sa sn sc, .slice ta tn tc]), Is (.bool true), Is (.bool false), Is (.bool false), Is (.bool false), Is (.bool false), Is (.bool false), Is (.bool true), Is (.bool false), Is (.bool false), Is (undef), Is (undef), Is (undef), Is (undef), Is (undef), Is (undef), Is (undef), Is (undef), Is (undef), Is (undef), Is (.bool false), Is (.bool false)] [[(28, none)], [(31, none)], [(168, some 0), (169, some 1)], [(170, some 2)], [(28, none), (171, some 3)], [(172, some 4), (171, some 3)], [(27, none), (173, some 5)], [(174, some 6), (173, some 5)], [(29, none), (173, some 5)], [(176, some 8), (173, some 5)], [(175, some 7), (177, some 9), (173, some 5)], [(178, some 10), (173, some 5)], [(27, none), (179, some 11)], [(180, some 12), (179, some 11)], [(30, none), (179, some 11)], [(181, some 13), (182, some 14), (179, some 11)], [(183, some 15), (179, some 11)], [(179, some 11), (184, some 16), (173, some 5)], [(173, some 5), (185, some 17), (171, some 3)], [(171, some 3), (186, some 18)], [(187, some 19)], [(28, none), (188, some 20)], [(189, some 21), (188, some 20)], [(190, some 22), (188, some 20)], [(27, none), (191, some 23)], [(192, some 24), (191, some 23)], [(193, some 25), (191, some 23)], [(194, some 26), (191, some 23)], [(27, none), (195, some 27)], [(196, some 28), (195, some 27)], [(197, some 29), (195, some 27)], [(198, some 30), (195, some 27)], [(199, some 31), (195, some 27)], [(195, some 27), (200, some 32), (191, some 23)], [(191, some 23), (201, some 33), (188, some 20)], [(188, some 20), (202, some 34)]] (by kernel_rfl) ?_ ?_ ?_
                  · simp only [List.mem_cons, List.not_mem_nil, or_false]
                    intro R hR
                    rcases hR with rfl | rfl | rfl | rfl | rfl | rfl | rfl | rfl | rfl | rfl | rfl | rfl | rfl | rfl | rfl | rfl | rfl | rfl | rfl | rfl | rfl | rfl | rfl | rfl | rfl | rfl | rfl | rfl | rfl | rfl | rfl | rfl | rfl | rfl | rfl | rfl <;> first | exact stable_is _
                  · refine steps_cons (fun a w hk hn => ?_) ?_
                    · have h28 : a.eval (.tmp 28) = .bool true := hn.1
                      clear hn
                      refine wants_plain rfl ?_
                      exact grown_move (.tmp 28) rfl h28
                    refine steps_cons (fun a w hk hn => ?_) ?_
                    · have h31 : a.eval (.tmp 31) = .bool true := hn.1
                      clear hn
                      refine wants_plain rfl ?_
                      exact grown_move (.tmp 31) rfl h31
                    refine steps_cons (fun a w hk hn => ?_) ?_
                    · have h168 : a.eval (.tmp 168) = .bool true := hn.1
                      have h169 : a.eval (.tmp 169) = .bool true := hn.2.1
                      clear hn
                      refine wants_plain rfl ?_
                      refine grown_run (v := .bool false) ?_ (Kp.refl _ _) rfl
                      obtain ⟨ρ, hρ, hc, hf, hg⟩ := eval_is a
                      rw [hρ] at h168 h169 ⊢
                      simp [go_sem, h168, h169]
                    refine steps_cons (fun a w hk hn => ?_) ?_
                    · have h170 : a.eval (.tmp 170) = .bool false := hn.1
                      clear hn
                      refine wants_plain rfl ?_
                      exact grown_move (.tmp 170) rfl h170
                    refine steps_cons (fun a w hk hn => ?_) ?_
                    · have h28 : a.eval (.tmp 28) = .bool true := hn.1
                      have h171 : a.eval (.tmp 171) = .bool false := hn.2.1
                      clear hn
                      refine wants_guard (d := 171) rfl rfl h171 ?_
                      exact grown_move (.tmp 28) rfl h28
                    refine steps_cons (fun a w hk hn => ?_) ?_
                    · have h172 : a.eval (.tmp 172) = .bool true := hn.1
                      have h171 : a.eval (.tmp 171) = .bool false := hn.2.1
                      clear hn
                      refine wants_guard (d := 171) rfl rfl h171 ?_
                      exact grown_move (.tmp 172) rfl h172
                    refine steps_cons (fun a w hk hn => ?_) ?_
                    · have h27 : a.eval (.tmp 27) = .pointer (some ⟨g27, 0, none⟩) := hn.1
                      have h173 : a.eval (.tmp 173) = .bool true := hn.2.1
                      clear hn
                      refine wants_guard (d := 173) rfl rfl h173 ?_
                      refine grown_run (v := .pointer (some ⟨g27, 0, none⟩)) ?_ (Kp.refl _ _) rfl
                      obtain ⟨ρ, hρ, hc, hf, hg⟩ := eval_is a
                      rw [hρ] at h27 ⊢
                      simp [go_sem, h27]
                    refine steps_cons (fun a w hk hn => ?_) ?_
                    · have h174 : a.eval (.tmp 174) = .pointer (some ⟨g27, 0, none⟩) := hn.1
                      have h173 : a.eval (.tmp 173) = .bool true := hn.2.1
                      clear hn
                      refine wants_guard (d := 173) rfl rfl h173 ?_
                      refine grown_run (v := .int .i64 kq) ?_ (Kp.refl _ _) rfl
                      have hcell : w.cell? ⟨g27, 0, none⟩ = some (.int .i64 kq) := by rw [cell_of_row w g27 0 _ _ _ (unhide HT27 w hk)]; rfl
                      obtain ⟨ρ, hρ, hc, hf, hg⟩ := eval_is a
                      rw [hρ] at h174 ⊢
                      simp [go_sem, h174, hcell]
                    refine steps_cons (fun a w hk hn => ?_) ?_
                    · have h29 : a.eval (.tmp 29) = .int .u32 kq := hn.1
                      have h173 : a.eval (.tmp 173) = .bool true := hn.2.1
                      clear hn
                      refine wants_guard (d := 173) rfl rfl h173 ?_
                      exact grown_move (.tmp 29) rfl h29
                    refine steps_cons (fun a w hk hn => ?_) ?_
                    · have h176 : a.eval (.tmp 176) = .int .u32 kq := hn.1
                      have h173 : a.eval (.tmp 173) = .bool true := hn.2.1
                      clear hn
                      refine wants_guard (d := 173) rfl rfl h173 ?_
                      refine grown_run (v := .int .i64 kq) ?_ (Kp.refl _ _) rfl
                      obtain ⟨ρ, hρ, hc, hf, hg⟩ := eval_is a
                      rw [hρ] at h176 ⊢
                      simp [go_sem, h176, unhide HWV]
                    refine steps_cons (fun a w hk hn => ?_) ?_
                    · have h175 : a.eval (.tmp 175) = .int .i64 kq := hn.1
                      have h177 : a.eval (.tmp 177) = .int .i64 kq := hn.2.1
                      have h173 : a.eval (.tmp 173) = .bool true := hn.2.2.1
                      clear hn
                      refine wants_guard (d := 173) rfl rfl h173 ?_
                      refine grown_run (v := .bool false) ?_ (Kp.refl _ _) rfl
                      obtain ⟨ρ, hρ, hc, hf, hg⟩ := eval_is a
                      rw [hρ] at h175 h177 ⊢
                      simp [go_sem, h175, h177]
                    refine steps_cons (fun a w hk hn => ?_) ?_
                    · have h178 : a.eval (.tmp 178) = .bool false := hn.1
                      have h173 : a.eval (.tmp 173) = .bool true := hn.2.1
                      clear hn
                      refine wants_guard (d := 173) rfl rfl h173 ?_
                      exact grown_move (.tmp 178) rfl h178
                    refine steps_cons (fun a w hk hn => ?_) ?_
                    · have h27 : a.eval (.tmp 27) = .pointer (some ⟨g27, 0, none⟩) := hn.1
                      have h179 : a.eval (.tmp 179) = .bool false := hn.2.1
                      clear hn
                      refine wants_guard (d := 179) rfl rfl h179 ?_
                      refine grown_run (v := .pointer (some ⟨g27, 1, none⟩)) ?_ (Kp.refl _ _) rfl
                      obtain ⟨ρ, hρ, hc, hf, hg⟩ := eval_is a
                      rw [hρ] at h27 ⊢
                      simp [go_sem, h27]
                    refine steps_cons (fun a w hk hn => ?_) ?_
                    · have h180 : a.eval (.tmp 180) = .pointer (some ⟨g27, 1, none⟩) := hn.1
                      have h179 : a.eval (.tmp 179) = .bool false := hn.2.1
                      clear hn
                      refine wants_guard (d := 179) rfl rfl h179 ?_
                      exact grown_loadf 24 (.tmp 180) rfl g27 1 h180 _ _ _ _ (unhide HT27 w hk) [.int .i64 hi, .slice ja jn jc, .slice la ln lc] (flat_in rfl) Tryz.underlying24 rfl Tryz.sigSize rfl
                    refine steps_cons (fun a w hk hn => ?_) ?_
                    · have h30 : a.eval (.tmp 30) = .pointer (some ⟨g30, 0, none⟩) := hn.1
                      have h179 : a.eval (.tmp 179) = .bool false := hn.2.1
                      clear hn
                      refine wants_guard (d := 179) rfl rfl h179 ?_
                      exact grown_loadf 24 (.tmp 30) rfl g30 0 h30 _ _ _ _ (unhide HT30 w hk) [.int .i64 hi, .slice sa sn sc, .slice ta tn tc] (flat_in rfl) Tryz.underlying24 rfl Tryz.sigSize rfl
                    refine steps_cons (fun a w hk hn => ?_) ?_
                    · have h181 : a.eval (.tmp 181) = .agg #[.int .i64 hi, .slice ja jn jc, .slice la ln lc] := hn.1
                      have h182 : a.eval (.tmp 182) = .agg #[.int .i64 hi, .slice sa sn sc, .slice ta tn tc] := hn.2.1
                      have h179 : a.eval (.tmp 179) = .bool false := hn.2.2.1
                      clear hn
                      refine wants_guard (d := 179) rfl rfl h179 ?_
                      refine grown_call (f := 20) rfl Tryz.func20 (by kernel_rfl) (by kernel_rfl) ?_
                      simp only [List.map_toArray, List.map_cons, List.map_nil, h181, h182]
                      refine (refsame_any _ _ hi P8 Q8 w (unhide HSh w hk) (unhide HS8 w hk)).mono ?_
                      rintro e w' ⟨rfl, K⟩
                      exact ⟨_, rfl, K, rfl⟩
                    refine steps_cons (fun a w hk hn => ?_) ?_
                    · have h183 : a.eval (.tmp 183) = .bool true := hn.1
                      have h179 : a.eval (.tmp 179) = .bool false := hn.2.1
                      clear hn
                      refine wants_guard (d := 179) rfl rfl h179 ?_
                      refine grown_run (v := .bool false) ?_ (Kp.refl _ _) rfl
                      obtain ⟨ρ, hρ, hc, hf, hg⟩ := eval_is a
                      rw [hρ] at h183 ⊢
                      simp [go_sem, h183]
                    refine steps_cons (fun a w hk hn => ?_) ?_
                    · have h179 : a.eval (.tmp 179) = .bool false := hn.1
                      have h184 : a.eval (.tmp 184) = .bool false := hn.2.1
                      have h173 : a.eval (.tmp 173) = .bool true := hn.2.2.1
                      clear hn
                      refine wants_guard (d := 173) rfl rfl h173 ?_
                      exact grown_pick _ _ _ false rfl h179 h184
                    refine steps_cons (fun a w hk hn => ?_) ?_
                    · have h173 : a.eval (.tmp 173) = .bool true := hn.1
                      have h185 : a.eval (.tmp 185) = .bool false := hn.2.1
                      have h171 : a.eval (.tmp 171) = .bool false := hn.2.2.1
                      clear hn
                      refine wants_guard (d := 171) rfl rfl h171 ?_
                      exact grown_pick _ _ _ true rfl h173 h185
                    refine steps_cons (fun a w hk hn => ?_) ?_
                    · have h171 : a.eval (.tmp 171) = .bool false := hn.1
                      have h186 : a.eval (.tmp 186) = .bool false := hn.2.1
                      clear hn
                      refine wants_plain rfl ?_
                      exact grown_pick _ _ _ false rfl h171 h186
                    refine steps_cons (fun a w hk hn => ?_) ?_
                    · have h187 : a.eval (.tmp 187) = .bool false := hn.1
                      clear hn
                      refine wants_plain rfl ?_
                      exact grown_move (.tmp 187) rfl h187
                    refine steps_cons (fun a w hk hn => ?_) ?_
                    · have h28 : a.eval (.tmp 28) = .bool true := hn.1
                      have h188 : a.eval (.tmp 188) = .bool false := hn.2.1
                      clear hn
                      refine wants_guard (d := 188) rfl rfl h188 ?_
                      exact grown_move (.tmp 28) rfl h28
                    refine steps_cons (fun a w hk hn => ?_) ?_
                    · have h189 : a.eval (.tmp 189) = .bool true := hn.1
                      have h188 : a.eval (.tmp 188) = .bool false := hn.2.1
                      clear hn
                      refine wants_guard (d := 188) rfl rfl h188 ?_
                      refine grown_run (v := .bool false) ?_ (Kp.refl _ _) rfl
                      obtain ⟨ρ, hρ, hc, hf, hg⟩ := eval_is a
                      rw [hρ] at h189 ⊢
                      simp [go_sem, h189]
                    refine steps_cons (fun a w hk hn => ?_) ?_
                    · have h190 : a.eval (.tmp 190) = .bool false := hn.1
                      have h188 : a.eval (.tmp 188) = .bool false := hn.2.1
                      clear hn
                      refine wants_guard (d := 188) rfl rfl h188 ?_
                      exact grown_move (.tmp 190) rfl h190
                    refine steps_cons (fun a w hk hn => ?_) ?_
                    · have h27 : a.eval (.tmp 27) = .pointer (some ⟨g27, 0, none⟩) := hn.1
                      have h191 : a.eval (.tmp 191) = .bool false := hn.2.1
                      clear hn
                      exact wants_not (d := 191) rfl rfl h191 rfl
                    refine steps_cons (fun a w hk hn => ?_) ?_
                    · have h192 : a.eval (.tmp 192) = undef := hn.1
                      have h191 : a.eval (.tmp 191) = .bool false := hn.2.1
                      clear hn
                      exact wants_not (d := 191) rfl rfl h191 rfl
                    refine steps_cons (fun a w hk hn => ?_) ?_
                    · have h193 : a.eval (.tmp 193) = undef := hn.1
                      have h191 : a.eval (.tmp 191) = .bool false := hn.2.1
                      clear hn
                      exact wants_not (d := 191) rfl rfl h191 rfl
                    refine steps_cons (fun a w hk hn => ?_) ?_
                    · have h194 : a.eval (.tmp 194) = undef := hn.1
                      have h191 : a.eval (.tmp 191) = .bool false := hn.2.1
                      clear hn
                      exact wants_not (d := 191) rfl rfl h191 rfl
                    refine steps_cons (fun a w hk hn => ?_) ?_
                    · have h27 : a.eval (.tmp 27) = .pointer (some ⟨g27, 0, none⟩) := hn.1
                      have h195 : a.eval (.tmp 195) = undef := hn.2.1
                      clear hn
                      exact wants_none (d := 195) rfl rfl h195 rfl
                    refine steps_cons (fun a w hk hn => ?_) ?_
                    · have h196 : a.eval (.tmp 196) = undef := hn.1
                      have h195 : a.eval (.tmp 195) = undef := hn.2.1
                      clear hn
                      exact wants_none (d := 195) rfl rfl h195 rfl
                    refine steps_cons (fun a w hk hn => ?_) ?_
                    · have h197 : a.eval (.tmp 197) = undef := hn.1
                      have h195 : a.eval (.tmp 195) = undef := hn.2.1
                      clear hn
                      exact wants_none (d := 195) rfl rfl h195 rfl
                    refine steps_cons (fun a w hk hn => ?_) ?_
                    · have h198 : a.eval (.tmp 198) = undef := hn.1
                      have h195 : a.eval (.tmp 195) = undef := hn.2.1
                      clear hn
                      exact wants_none (d := 195) rfl rfl h195 rfl
                    refine steps_cons (fun a w hk hn => ?_) ?_
                    · have h199 : a.eval (.tmp 199) = undef := hn.1
                      have h195 : a.eval (.tmp 195) = undef := hn.2.1
                      clear hn
                      exact wants_none (d := 195) rfl rfl h195 rfl
                    refine steps_cons (fun a w hk hn => ?_) ?_
                    · have h195 : a.eval (.tmp 195) = undef := hn.1
                      have h200 : a.eval (.tmp 200) = undef := hn.2.1
                      have h191 : a.eval (.tmp 191) = .bool false := hn.2.2.1
                      clear hn
                      exact wants_not (d := 191) rfl rfl h191 rfl
                    refine steps_cons (fun a w hk hn => ?_) ?_
                    · have h191 : a.eval (.tmp 191) = .bool false := hn.1
                      have h201 : a.eval (.tmp 201) = undef := hn.2.1
                      have h188 : a.eval (.tmp 188) = .bool false := hn.2.2.1
                      clear hn
                      refine wants_guard (d := 188) rfl rfl h188 ?_
                      exact grown_pick _ _ _ false rfl h191 rfl
                    refine steps_cons (fun a w hk hn => ?_) ?_
                    · have h188 : a.eval (.tmp 188) = .bool false := hn.1
                      have h202 : a.eval (.tmp 202) = .bool false := hn.2.1
                      clear hn
                      refine wants_plain rfl ?_
                      exact grown_pick _ _ _ false rfl h188 h202
                    exact trivial
                  intro W3 hkW3
                  rintro _ rfl
                  rintro _ rfl
                  rintro _ rfl
                  rintro _ rfl
                  rintro _ rfl
                  rintro _ rfl
                  rintro _ rfl
                  rintro _ rfl
                  rintro _ rfl
                  rintro _ rfl
                  rintro _ rfl
                  rintro _ rfl
                  rintro _ rfl
                  rintro _ rfl
                  rintro _ rfl
                  rintro _ rfl
                  rintro _ rfl
                  rintro _ rfl
                  rintro _ rfl
                  rintro _ rfl
                  rintro _ rfl
                  rintro _ rfl
                  rintro _ rfl
                  rintro _ rfl
                  rintro _ rfl
                  rintro _ rfl
                  rintro _ rfl
                  rintro _ rfl
                  rintro _ rfl
                  rintro _ rfl
                  rintro _ rfl
                  rintro _ rfl
                  rintro _ rfl
                  rintro _ rfl
                  rintro _ rfl
                  rintro _ rfl
                  refine fin_nil ?_
                  simp only [Act.put, List.set_cons_zero, List.set_cons_succ, List.setIfInBounds_toArray]
                  have HKW3 := hide hkW3
                  clear hkW3 b2
                  go_wp2_with fail
                  go_roundw
                  case rel => exact ⟨j + 1, by omega, by go_num, (unhide HKr).trans ((unhide HK9).trans (unhide HKW3))⟩
                  case measure => simp [intOf]; omega
                · have hogf : og = false := by rw [hog2]; exact decide_eq_false hk4
                  obtain ⟨sa, sn, sc, ta, tn, tc, -, -, ev8, -⟩ := hS8.shape
                  obtain ⟨si, hsi⟩ : ∃ x, x = val ((k2 (false, Y)).1.take 4) := ⟨_, rfl⟩
                  rw [← hsi] at ev8
                  rw [ev8]
                  clear hS8 ev8 hsi
                  have HD4 := hide (decide_eq_false hk4)
                  have han : ansK (false, Y) = co0 := ansK_no (by rw [← unhide HOG]; exact hogf)
                  have hz := unhide HV8
                  rw [han] at hz
                  obtain ⟨hk0, hn0⟩ := hz.zero
                  clear HOG hog2 hdd hz han
                  subst hogf
                  subst hk0
                  subst hn0
                  have Ga := heap_alloc_new w8 (.cells #[.int .i64 0, .slice none 0 0, .slice none 0 0] 24)
                  have HKa : Hid (Kp [] w8 (w8.alloc (.cells #[.int .i64 0, .slice none 0 0, .slice none 0 0] 24))) := (Kp.refl [] w8).alloc _
                  go_wp2_with (refine wpList_store_flat rfl 24 (.tmp 30) (.tmp 154) rfl w8.heap.size 0 rfl _ _ [.int .i64 si, .slice sa sn sc, .slice ta tn tc] Ga rfl (by simp) Tryz.sigSize (by simp [Value.oneCell']) #[.int .i64 si, .slice sa sn sc, .slice ta tn tc] rfl ?_; intro w9 Gw9 Kw9; refine Hid.out ?_)
                  obtain ⟨g30, hg30⟩ : ∃ g, g = w8.heap.size := ⟨_, rfl⟩
                  have Kw8w9 : Kp [] w8 w9 := (unhide HKa).then Kw9 (fun i hi => .inr (by simp at hi; omega))
                  rw [← hg30] at Gw9 ⊢
                  have HK9 := hide ((unhide HK8).trans Kw8w9)
                  have HG9 := hide (Kw8w9.heap (unhide HG8) (by simp))
                  have HRR9 := hide (Kw8w9.heap (unhide HRR8) (by simp))
                  have b2 : w9.cell? ⟨qr, 2, none⟩ = some (.bool false) := by rw [cell_of_row _ qr 2 _ _ _ (unhide HRR9)]; rfl
                  have HT27 : Hid (∀ w', Kp [] w9 w' → w'.heap[g27]? = some (.cells #[.int .i64 0, .int .i64 hi, .slice ja 0 jc, .slice la ln lc] 26 (0, 0))) := fun w' k' => k'.heap (unhide HG9) (by simp)
                  clear Ga HKa Gw9 Kw9 Kw8w9 hg30
                  refine hide ?_
                  go_upto_region 32 with fail
                  rw [unhide HD4]
                  refine region_growO [Is (.bool false), Is (.bool false), Is (.bool false), Is (.bool false), Is (.bool false), Is (.bool false), Is (undef), Is (undef), Is (undef), Is (undef), Is (undef), Is (undef), Is (undef), Is (undef), Is (undef), Is (undef), Is (undef), Is (undef), Is (.bool false), Is (.bool false), Is (.bool false), Is (.bool false), Is (.bool true), Is (.bool true), Is (.pointer (some ⟨g27, 0, none⟩)), Is (.int .i64 0), Is (.bool false), Is (.bool false), Is (.pointer (some ⟨g27, 1, none⟩)), Is (.pointer (some ⟨g27, 2, none⟩)), Is (.slice ja 0 jc), Is (.int .i64 0), Is (.bool false), Is (.bool false), Is (.bool false), Is (.bool false)] [[(28, none)], [(31, none)], [(168, some 0), (169, some 1)], [(170, some 2)], [(28, none), (171, some 3)], [(172, some 4), (171, some 3)], [(27, none), (173, some 5)], [(174, some 6), (173, some 5)], [(29, none), (173, some 5)], [(176, some 8), (173, some 5)], [(175, some 7), (177, some 9), (173, some 5)], [(178, some 10), (173, some 5)], [(27, none), (179, some 11)], [(180, some 12), (179, some 11)], [(30, none), (179, some 11)], [(181, some 13), (182, some 14), (179, some 11)], [(183, some 15), (179, some 11)], [(179, some 11), (184, some 16), (173, some 5)], [(173, some 5), (185, some 17), (171, some 3)], [(171, some 3), (186, some 18)], [(187, some 19)], [(28, none), (188, some 20)], [(189, some 21), (188, some 20)], [(190, some 22), (188, some 20)], [(27, none), (191, some 23)], [(192, some 24), (191, some 23)], [(193, some 25), (191, some 23)], [(194, some 26), (191, some 23)], [(27, none), (195, some 27)], [(196, some 28), (195, some 27)], [(197, some 29), (195, some 27)], [(198, some 30), (195, some 27)], [(199, some 31), (195, some 27)], [(195, some 27), (200, some 32), (191, some 23)], [(191, some 23), (201, some 33), (188, some 20)], [(188, some 20), (202, some 34)]] (by kernel_rfl) ?_ ?_ ?_
                  · simp only [List.mem_cons, List.not_mem_nil, or_false]
                    intro R hR
                    rcases hR with rfl | rfl | rfl | rfl | rfl | rfl | rfl | rfl | rfl | rfl | rfl | rfl | rfl | rfl | rfl | rfl | rfl | rfl | rfl | rfl | rfl | rfl | rfl | rfl | rfl | rfl | rfl | rfl | rfl | rfl | rfl | rfl | rfl | rfl | rfl | rfl <;> first | exact stable_is _
                  · refine steps_cons (fun a w hk hn => ?_) ?_
                    · have h28 : a.eval (.tmp 28) = .bool false := hn.1
                      clear hn
                      refine wants_plain rfl ?_
                      exact grown_move (.tmp 28) rfl h28
                    refine steps_cons (fun a w hk hn => ?_) ?_
                    · have h31 : a.eval (.tmp 31) = .bool false := hn.1
                      clear hn
                      refine wants_plain rfl ?_
                      exact grown_move (.tmp 31) rfl h31
                    refine steps_cons (fun a w hk hn => ?_) ?_
                    · have h168 : a.eval (.tmp 168) = .bool false := hn.1
                      have h169 : a.eval (.tmp 169) = .bool false := hn.2.1
                      clear hn
                      refine wants_plain rfl ?_
                      refine grown_run (v := .bool false) ?_ (Kp.refl _ _) rfl
                      obtain ⟨ρ, hρ, hc, hf, hg⟩ := eval_is a
                      rw [hρ] at h168 h169 ⊢
                      simp [go_sem, h168, h169]
                    refine steps_cons (fun a w hk hn => ?_) ?_
                    · have h170 : a.eval (.tmp 170) = .bool false := hn.1
                      clear hn
                      refine wants_plain rfl ?_
                      exact grown_move (.tmp 170) rfl h170
                    refine steps_cons (fun a w hk hn => ?_) ?_
                    · have h28 : a.eval (.tmp 28) = .bool false := hn.1
                      have h171 : a.eval (.tmp 171) = .bool false := hn.2.1
                      clear hn
                      refine wants_guard (d := 171) rfl rfl h171 ?_
                      exact grown_move (.tmp 28) rfl h28
                    refine steps_cons (fun a w hk hn => ?_) ?_
                    · have h172 : a.eval (.tmp 172) = .bool false := hn.1
                      have h171 : a.eval (.tmp 171) = .bool false := hn.2.1
                      clear hn
                      refine wants_guard (d := 171) rfl rfl h171 ?_
                      exact grown_move (.tmp 172) rfl h172
                    refine steps_cons (fun a w hk hn => ?_) ?_
                    · have h27 : a.eval (.tmp 27) = .pointer (some ⟨g27, 0, none⟩) := hn.1
                      have h173 : a.eval (.tmp 173) = .bool false := hn.2.1
                      clear hn
                      exact wants_not (d := 173) rfl rfl h173 rfl
                    refine steps_cons (fun a w hk hn => ?_) ?_
                    · have h174 : a.eval (.tmp 174) = undef := hn.1
                      have h173 : a.eval (.tmp 173) = .bool false := hn.2.1
                      clear hn
                      exact wants_not (d := 173) rfl rfl h173 rfl
                    refine steps_cons (fun a w hk hn => ?_) ?_
                    · have h29 : a.eval (.tmp 29) = .int .u32 kv := hn.1
                      have h173 : a.eval (.tmp 173) = .bool false := hn.2.1
                      clear hn
                      exact wants_not (d := 173) rfl rfl h173 rfl
                    refine steps_cons (fun a w hk hn => ?_) ?_
                    · have h176 : a.eval (.tmp 176) = undef := hn.1
                      have h173 : a.eval (.tmp 173) = .bool false := hn.2.1
                      clear hn
                      exact wants_not (d := 173) rfl rfl h173 rfl
                    refine steps_cons (fun a w hk hn => ?_) ?_
                    · have h175 : a.eval (.tmp 175) = undef := hn.1
                      have h177 : a.eval (.tmp 177) = undef := hn.2.1
                      have h173 : a.eval (.tmp 173) = .bool false := hn.2.2.1
                      clear hn
                      exact wants_not (d := 173) rfl rfl h173 rfl
                    refine steps_cons (fun a w hk hn => ?_) ?_
                    · have h178 : a.eval (.tmp 178) = undef := hn.1
                      have h173 : a.eval (.tmp 173) = .bool false := hn.2.1
                      clear hn
                      exact wants_not (d := 173) rfl rfl h173 rfl
                    refine steps_cons (fun a w hk hn => ?_) ?_
                    · have h27 : a.eval (.tmp 27) = .pointer (some ⟨g27, 0, none⟩) := hn.1
                      have h179 : a.eval (.tmp 179) = undef := hn.2.1
                      clear hn
                      exact wants_none (d := 179) rfl rfl h179 rfl
                    refine steps_cons (fun a w hk hn => ?_) ?_
                    · have h180 : a.eval (.tmp 180) = undef := hn.1
                      have h179 : a.eval (.tmp 179) = undef := hn.2.1
                      clear hn
                      exact wants_none (d := 179) rfl rfl h179 rfl
                    refine steps_cons (fun a w hk hn => ?_) ?_
                    · have h30 : a.eval (.tmp 30) = .pointer (some ⟨g30, 0, none⟩) := hn.1
                      have h179 : a.eval (.tmp 179) = undef := hn.2.1
                      clear hn
                      exact wants_none (d := 179) rfl rfl h179 rfl
                    refine steps_cons (fun a w hk hn => ?_) ?_
                    · have h181 : a.eval (.tmp 181) = undef := hn.1
                      have h182 : a.eval (.tmp 182) = undef := hn.2.1
                      have h179 : a.eval (.tmp 179) = undef := hn.2.2.1
                      clear hn
                      exact wants_none (d := 179) rfl rfl h179 rfl
                    refine steps_cons (fun a w hk hn => ?_) ?_
                    · have h183 : a.eval (.tmp 183) = undef := hn.1
                      have h179 : a.eval (.tmp 179) = undef := hn.2.1
                      clear hn
                      exact wants_none (d := 179) rfl rfl h179 rfl
                    refine steps_cons (fun a w hk hn => ?_) ?_
                    · have h179 : a.eval (.tmp 179) = undef := hn.1
                      have h184 : a.eval (.tmp 184) = undef := hn.2.1
                      have h173 : a.eval (.tmp 173) = .bool false := hn.2.2.1
                      clear hn
                      exact wants_not (d := 173) rfl rfl h173 rfl
                    refine steps_cons (fun a w hk hn => ?_) ?_
                    · have h173 : a.eval (.tmp 173) = .bool false := hn.1
                      have h185 : a.eval (.tmp 185) = undef := hn.2.1
                      have h171 : a.eval (.tmp 171) = .bool false := hn.2.2.1
                      clear hn
                      refine wants_guard (d := 171) rfl rfl h171 ?_
                      exact grown_pick _ _ _ false rfl h173 rfl
                    refine steps_cons (fun a w hk hn => ?_) ?_
                    · have h171 : a.eval (.tmp 171) = .bool false := hn.1
                      have h186 : a.eval (.tmp 186) = .bool false := hn.2.1
                      clear hn
                      refine wants_plain rfl ?_
                      exact grown_pick _ _ _ false rfl h171 h186
                    refine steps_cons (fun a w hk hn => ?_) ?_
                    · have h187 : a.eval (.tmp 187) = .bool false := hn.1
                      clear hn
                      refine wants_plain rfl ?_
                      exact grown_move (.tmp 187) rfl h187
                    refine steps_cons (fun a w hk hn => ?_) ?_
                    · have h28 : a.eval (.tmp 28) = .bool false := hn.1
                      have h188 : a.eval (.tmp 188) = .bool false := hn.2.1
                      clear hn
                      refine wants_guard (d := 188) rfl rfl h188 ?_
                      exact grown_move (.tmp 28) rfl h28
                    refine steps_cons (fun a w hk hn => ?_) ?_
                    · have h189 : a.eval (.tmp 189) = .bool false := hn.1
                      have h188 : a.eval (.tmp 188) = .bool false := hn.2.1
                      clear hn
                      refine wants_guard (d := 188) rfl rfl h188 ?_
                      refine grown_run (v := .bool true) ?_ (Kp.refl _ _) rfl
                      obtain ⟨ρ, hρ, hc, hf, hg⟩ := eval_is a
                      rw [hρ] at h189 ⊢
                      simp [go_sem, h189]
                    refine steps_cons (fun a w hk hn => ?_) ?_
                    · have h190 : a.eval (.tmp 190) = .bool true := hn.1
                      have h188 : a.eval (.tmp 188) = .bool false := hn.2.1
                      clear hn
                      refine wants_guard (d := 188) rfl rfl h188 ?_
                      exact grown_move (.tmp 190) rfl h190
                    refine steps_cons (fun a w hk hn => ?_) ?_
                    · have h27 : a.eval (.tmp 27) = .pointer (some ⟨g27, 0, none⟩) := hn.1
                      have h191 : a.eval (.tmp 191) = .bool true := hn.2.1
                      clear hn
                      refine wants_guard (d := 191) rfl rfl h191 ?_
                      refine grown_run (v := .pointer (some ⟨g27, 0, none⟩)) ?_ (Kp.refl _ _) rfl
                      obtain ⟨ρ, hρ, hc, hf, hg⟩ := eval_is a
                      rw [hρ] at h27 ⊢
                      simp [go_sem, h27]
                    refine steps_cons (fun a w hk hn => ?_) ?_
                    · have h192 : a.eval (.tmp 192) = .pointer (some ⟨g27, 0, none⟩) := hn.1
                      have h191 : a.eval (.tmp 191) = .bool true := hn.2.1
                      clear hn
                      refine wants_guard (d := 191) rfl rfl h191 ?_
                      refine grown_run (v := .int .i64 0) ?_ (Kp.refl _ _) rfl
                      have hcell : w.cell? ⟨g27, 0, none⟩ = some (.int .i64 0) := by rw [cell_of_row w g27 0 _ _ _ (unhide HT27 w hk)]; rfl
                      obtain ⟨ρ, hρ, hc, hf, hg⟩ := eval_is a
                      rw [hρ] at h192 ⊢
                      simp [go_sem, h192, hcell]
                    refine steps_cons (fun a w hk hn => ?_) ?_
                    · have h193 : a.eval (.tmp 193) = .int .i64 0 := hn.1
                      have h191 : a.eval (.tmp 191) = .bool true := hn.2.1
                      clear hn
                      refine wants_guard (d := 191) rfl rfl h191 ?_
                      refine grown_run (v := .bool false) ?_ (Kp.refl _ _) rfl
                      obtain ⟨ρ, hρ, hc, hf, hg⟩ := eval_is a
                      rw [hρ] at h193 ⊢
                      simp [go_sem, hc, h193]
                    refine steps_cons (fun a w hk hn => ?_) ?_
                    · have h194 : a.eval (.tmp 194) = .bool false := hn.1
                      have h191 : a.eval (.tmp 191) = .bool true := hn.2.1
                      clear hn
                      refine wants_guard (d := 191) rfl rfl h191 ?_
                      exact grown_move (.tmp 194) rfl h194
                    refine steps_cons (fun a w hk hn => ?_) ?_
                    · have h27 : a.eval (.tmp 27) = .pointer (some ⟨g27, 0, none⟩) := hn.1
                      have h195 : a.eval (.tmp 195) = .bool false := hn.2.1
                      clear hn
                      refine wants_guard (d := 195) rfl rfl h195 ?_
                      refine grown_run (v := .pointer (some ⟨g27, 1, none⟩)) ?_ (Kp.refl _ _) rfl
                      obtain ⟨ρ, hρ, hc, hf, hg⟩ := eval_is a
                      rw [hρ] at h27 ⊢
                      simp [go_sem, h27]
                    refine steps_cons (fun a w hk hn => ?_) ?_
                    · have h196 : a.eval (.tmp 196) = .pointer (some ⟨g27, 1, none⟩) := hn.1
                      have h195 : a.eval (.tmp 195) = .bool false := hn.2.1
                      clear hn
                      refine wants_guard (d := 195) rfl rfl h195 ?_
                      refine grown_run (v := .pointer (some ⟨g27, 2, none⟩)) ?_ (Kp.refl _ _) rfl
                      obtain ⟨ρ, hρ, hc, hf, hg⟩ := eval_is a
                      rw [hρ] at h196 ⊢
                      simp [go_sem, h196]
                    refine steps_cons (fun a w hk hn => ?_) ?_
                    · have h197 : a.eval (.tmp 197) = .pointer (some ⟨g27, 2, none⟩) := hn.1
                      have h195 : a.eval (.tmp 195) = .bool false := hn.2.1
                      clear hn
                      refine wants_guard (d := 195) rfl rfl h195 ?_
                      refine grown_run (v := .slice ja 0 jc) ?_ (Kp.refl _ _) rfl
                      have hcell : w.cell? ⟨g27, 2, none⟩ = some (.slice ja 0 jc) := by rw [cell_of_row w g27 2 _ _ _ (unhide HT27 w hk)]; rfl
                      obtain ⟨ρ, hρ, hc, hf, hg⟩ := eval_is a
                      rw [hρ] at h197 ⊢
                      simp [go_sem, h197, hcell]
                    refine steps_cons (fun a w hk hn => ?_) ?_
                    · have h198 : a.eval (.tmp 198) = .slice ja 0 jc := hn.1
                      have h195 : a.eval (.tmp 195) = .bool false := hn.2.1
                      clear hn
                      refine wants_guard (d := 195) rfl rfl h195 ?_
                      refine grown_run (v := .int .i64 0) ?_ (Kp.refl _ _) rfl
                      obtain ⟨ρ, hρ, hc, hf, hg⟩ := eval_is a
                      rw [hρ] at h198 ⊢
                      simp [go_sem, h198]
                    refine steps_cons (fun a w hk hn => ?_) ?_
                    · have h199 : a.eval (.tmp 199) = .int .i64 0 := hn.1
                      have h195 : a.eval (.tmp 195) = .bool false := hn.2.1
                      clear hn
                      refine wants_guard (d := 195) rfl rfl h195 ?_
                      refine grown_run (v := .bool false) ?_ (Kp.refl _ _) rfl
                      obtain ⟨ρ, hρ, hc, hf, hg⟩ := eval_is a
                      rw [hρ] at h199 ⊢
                      simp [go_sem, hc, h199]
                    refine steps_cons (fun a w hk hn => ?_) ?_
                    · have h195 : a.eval (.tmp 195) = .bool false := hn.1
                      have h200 : a.eval (.tmp 200) = .bool false := hn.2.1
                      have h191 : a.eval (.tmp 191) = .bool true := hn.2.2.1
                      clear hn
                      refine wants_guard (d := 191) rfl rfl h191 ?_
                      exact grown_pick _ _ _ false rfl h195 h200
                    refine steps_cons (fun a w hk hn => ?_) ?_
                    · have h191 : a.eval (.tmp 191) = .bool true := hn.1
                      have h201 : a.eval (.tmp 201) = .bool false := hn.2.1
                      have h188 : a.eval (.tmp 188) = .bool false := hn.2.2.1
                      clear hn
                      refine wants_guard (d := 188) rfl rfl h188 ?_
                      exact grown_pick _ _ _ true rfl h191 h201
                    refine steps_cons (fun a w hk hn => ?_) ?_
                    · have h188 : a.eval (.tmp 188) = .bool false := hn.1
                      have h202 : a.eval (.tmp 202) = .bool false := hn.2.1
                      clear hn
                      refine wants_plain rfl ?_
                      exact grown_pick _ _ _ false rfl h188 h202
                    exact trivial
                  intro W3 hkW3
                  rintro _ rfl
                  rintro _ rfl
                  rintro _ rfl
                  rintro _ rfl
                  rintro _ rfl
                  rintro _ rfl
                  rintro _ rfl
                  rintro _ rfl
                  rintro _ rfl
                  rintro _ rfl
                  rintro _ rfl
                  rintro _ rfl
                  rintro _ rfl
                  rintro _ rfl
                  rintro _ rfl
                  rintro _ rfl
                  rintro _ rfl
                  rintro _ rfl
                  rintro _ rfl
                  rintro _ rfl
                  rintro _ rfl
                  rintro _ rfl
                  rintro _ rfl
                  rintro _ rfl
                  rintro _ rfl
                  rintro _ rfl
                  rintro _ rfl
                  rintro _ rfl
                  rintro _ rfl
                  rintro _ rfl
                  rintro _ rfl
                  rintro _ rfl
                  rintro _ rfl
                  rintro _ rfl
                  rintro _ rfl
                  rintro _ rfl
                  refine fin_nil ?_
                  simp only [Act.put, List.set_cons_zero, List.set_cons_succ, List.setIfInBounds_toArray]
                  have HKW3 := hide hkW3
                  clear hkW3
                  go_wp2_with fail
                  go_roundw
                  case rel => exact ⟨j + 1, by omega, by go_num, (unhide HKr).trans ((unhide HK9).trans (unhide HKW3))⟩
                  case measure => simp [intOf]; omega
            · have hlti : ¬ (j : Int) < 2 := by omega
              have HKf := hide ((unhide HKL).trans (unhide HKr))
              have HKn := hide (known_any wr ((unhide HG).kept (unhide HKf) (by simp)))
              go_wp2_with fail
              refine (unhide HKn).mono ?_
              rintro ee wz ⟨rfl, Kz⟩
              have HKz := hide ((unhide HKf).trans Kz)
              clear HKn Kz
              go_wp2_with fail
              go_ret
              exact ⟨rfl, (unhide HKz).below (Nat.le_refl _) (by simp)⟩

set_option maxRecDepth 100000 in
theorem lifted (os : Os) (started : os.Started) (H : Type) (enc : TypeId × Value → H) :
    ReturnsInHanded {} Tryz.checked os 3 .any (fun w args => (Rows.cosignPutsSpec.pre enc Tryz.prog Tryz.f3 [] false w args ∧ laidMetH Tryz.prog laid1 w) ∧ sizedMet enc Tryz.prog Tryz.f3 (OpenSpec.ofChange Rows.cosignPutsSpec) false w args) (Rows.cosignPutsSpec.post enc Tryz.prog Tryz.f3 false true false false) := by
  refine returnsInHanded_of_change_and (C := Tryz.checked) (X := fun w _ => laidMetH Tryz.prog laid1 w) (fun _ _ _ hh h => h.of_heap hh) own started (by kernel_rfl) Tryz.func3
    (ChangeSpec.witness_shaped (enc := enc) (C := Tryz.checked) (os := os) (X := fun w _ => laidMetH Tryz.prog laid1 w) false (World.doorLaid Tryz.prog 400 os) #[.int .i64 0, .int .i64 0, .int .i64 0, .agg #[.int .i64 0, .int .i64 0, .slice none 0 0, .slice none 0 0], .slice none 0 0, .int .i64 0, .int .u8 0] 8 rfl (World.shaped_of_RefB (by kernel_rfl) (by kernel_rfl)) (by kernel_rfl) (by kernel_rfl) (by kernel_rfl) (door_met os _)) ?_
  intro W base args ds gs before hval0 hW hcnd hsz0 hL _
  have hG := gl_of_laid hL
  have hsz : (DataW.weightsEach Tryz.prog (Tryz.f3.params.toList ++ Rows.cosignPutsSpec.plain.varTypes Tryz.prog) (ds ++ gs)).all (· ≤ reachBytes) = true := hsz0
  have hval : ∀ (j : Nat) t v, Tryz.f3.params[j]? = some t → args[j]? = some v → Value.okWide Tryz.prog W .any base t v := hval0
  have hW' := hW
  obtain ⟨p, q, hA0, hV, rfl, hfz, hnd⟩ := hW
  have hA : DataW.TrodAll enc Tryz.prog W 0 (fun _ => true) true Tryz.f3.params.toList args.toList ds p := hA0
  rw [Tryz.params3] at hA hval hsz
  obtain ⟨v0, vs0, d0, ds0, p0, q0, hargs, rfl, rfl, h0, r0⟩ := trodAll_cons hA
  obtain ⟨v1, vs1, d1, ds1, p1, q1, rfl, rfl, rfl, h1, r1⟩ := trodAll_cons r0
  obtain ⟨v2, vs2, d2, ds2, p2, q2, rfl, rfl, rfl, h2, r2⟩ := trodAll_cons r1
  obtain ⟨v3, vs3, d3, ds3, p3, q3, rfl, rfl, rfl, h3, r3⟩ := trodAll_cons r2
  obtain ⟨v4, vs4, d4, ds4, p4, q4, rfl, rfl, rfl, h4, r4⟩ := trodAll_cons r3
  obtain ⟨v5, vs5, d5, ds5, p5, q5, rfl, rfl, rfl, h5, r5⟩ := trodAll_cons r4
  obtain ⟨v6, vs6, d6, ds6, p6, q6, rfl, rfl, rfl, h6, r6⟩ := trodAll_cons r5
  obtain ⟨rfl, rfl, rfl⟩ := trodAll_nil r6
  obtain rfl : args = #[v0, v1, v2, v3, v4, v5, v6] := by cases args; simp_all
  obtain ⟨rfl, rfl⟩ := trodVars_none hV
  obtain ⟨a0, rfl, rfl, rfl, w0⟩ := open_int Tryz.underlying3 (hval 0 3 v0 rfl rfl) h0
  obtain ⟨a1, rfl, rfl, rfl, w1⟩ := open_int Tryz.underlying3 (hval 1 3 v1 rfl rfl) h1
  obtain ⟨a2, rfl, rfl, rfl, w2⟩ := open_int Tryz.underlying3 (hval 2 3 v2 rfl rfl) h2
  have k3 := h3
  have lt3 : ∀ x ∈ p3, x.block < W.heap.size := by obtain ⟨m, hm⟩ := k3; exact DataW.trod_lt m _ _ _ hm
  obtain ⟨l3, s3⟩ := cos_open (hval 3 26 v3 rfl rfl) h3
  obtain ⟨a4, len4, cap4, rfl⟩ := okWide_slice Tryz.underlying27 (hval 4 27 v4 rfl rfl)
  have k4 := h4
  have lt4 : ∀ x ∈ p4, x.block < W.heap.size := by obtain ⟨m, hm⟩ := k4; exact DataW.trod_lt m _ _ _ hm
  obtain ⟨l4, s4, b4⟩ : ∃ bs, Sl W (.slice a4 len4 cap4) bs ∧ Bs bs := by
    obtain ⟨fuel, hf⟩ := h4
    exact bytes_of_trod (by simpa [Value.cells] using hf)
  have z4 : l4.length ≤ 140737488351232 := by
    obtain ⟨fuel, hf⟩ := k4
    exact sl_len s4 (reach_bytes (j := 4) (by simpa [Value.cells] using hf) hsz rfl rfl)
  have ow4 := own_lt (hval 4 27 (.slice a4 len4 cap4) rfl rfl)
  obtain ⟨a5, rfl, rfl, rfl, w5⟩ := open_int Tryz.underlying3 (hval 5 3 v5 rfl rfl) h5
  obtain ⟨a6, rfl, rfl, rfl, w6⟩ := open_int Tryz.underlying5 (hval 6 5 v6 rfl rfl) h6
  clear hA0 hval0
  refine (walk a0 a1 a2 v3 l3 (.slice a4 len4 cap4) l4 a5 a6 W hG (bounds_i64 w0) (bounds_i64 w1) (bounds_i64 w2) s3 s4 b4 z4 ow4 (bounds_i64 w5) (bounds_u8 w6)).mono fun e W' ⟨he, bel⟩ => ?_
  subst he
  exact ⟨_, rfl, _, _, _, [], _, [], hW', trodAll_mk1 (shut_bool Tryz.underlying4 _), (trodAll_cons_mk (shut_int Tryz.underlying3 w0) (trodAll_cons_mk (shut_int Tryz.underlying3 w1) (trodAll_cons_mk (shut_int Tryz.underlying3 w2) (trodAll_cons_mk (Below.trod laidOut (by kernel_rfl) (of_decide_eq_true (by kernel_rfl)) k3 bel lt3) (trodAll_cons_mk (Below.trod laidOut (by kernel_rfl) (of_decide_eq_true (by kernel_rfl)) k4 bel lt4) (trodAll_cons_mk (shut_int Tryz.underlying3 w5) (trodAll_cons_mk (shut_int Tryz.underlying5 w6) trodAll_mk0))))))), rfl, bel.frame _, fun h => by cases h⟩

theorem over : Rows.cosignPutsRow.holds Tryz.pinned (OpenSpec.ofChange Rows.cosignPutsSpec) :=
  OpenClaim.holds_of_wide 3 Tryz.f3 rfl rfl rfl rfl rfl rfl rfl ⟨rfl, rfl, rfl, rfl, rfl⟩ rfl rfl rfl rfl rfl (by kernel_rfl) Tryz.func3 (by kernel_rfl)
    (of_decide_eq_true (by kernel_rfl)) (by unfold Func.isWrapper; first | (rw [if_pos (by decide +kernel)]; kernel_rfl) | (rw [if_neg (by decide +kernel)]; exact ⟨rfl, rfl⟩))
    (fun os started H enc _ => lifted os started H enc)
end Go.Proofs.YtdjofooggofpkaaGreatDoor.cosignPuts

namespace Go.Proofs.YtdjofooggofpkaaGreatDoor
/-- The given statement: the tied card. -/
theorem CosignPuts_holds : Rows.CosignPutsCardSaid :=
  Claim7.holds_tied_plain_at .later [] [.data] true Rows.cosignPutsCard.stood.harness false
    cosignPuts.over (fun _ h => by cases h) (by kernel_rfl) (fun _ h => by cases h) cosignPuts_row_tie rfl ⟨rfl, rfl⟩ (by kernel_rfl) rfl
    (fun f fn hf hfn => by
      obtain rfl : f = 3 := Option.some.inj ((show Tryz.prog.funcNamed "broadsheet/broadsheetlaw11.CosignPuts" = some 3 by kernel_rfl).symm.trans hf) |>.symm
      obtain rfl : fn = Tryz.f3 := (Option.some.inj (Tryz.func3.symm.trans hfn)).symm
      exact ⟨by kernel_rfl, fun j t ht => by
        rw [Tryz.params3] at ht
        have hm : t ∈ ([3, 3, 3, 26, 27, 3, 5] : List TypeId) := by simpa using Array.mem_of_getElem? ht
        have hall : (([3, 3, 3, 26, 27, 3, 5] : List TypeId).all fun u => !Tryz.prog.wantsStandIn u) = true := by kernel_rfl
        exact (show Tryz.prog.wantsStandIn t = false by simpa using List.all_eq_true.1 hall t hm)⟩)
    (by kernel_rfl)
#print axioms CosignPuts_holds
end Go.Proofs.YtdjofooggofpkaaGreatDoor
