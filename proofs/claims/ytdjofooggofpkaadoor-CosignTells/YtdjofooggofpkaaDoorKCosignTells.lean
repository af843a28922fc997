/-
  The statement CosignTellsCardSaid: for all numbers, lists of draws and policies the law function CosignTells returns true and leaves its arguments as they were; the table hash.roundWords starts as the program's text lays it (tied). No other condition.
-/
import Derived.Test.YtdjofooggofpkaaDoorKYMades
import Derived.Test.YtdjofooggofpkaaDoorKYOff
import Derived.Test.YtdjofooggofpkaaDoorKYRefs
import Derived.Test.YtdjofooggofpkaaDoorKHSmalls
import Derived.Test.YtdjofooggofpkaaDoorTie
import Derived.Test.YtdjofooggofpkaaDoorCards
import Derived.SevenTiedAt
namespace Go.Proofs.YtdjofooggofpkaaDoor.cosignTells
open Go.ChangeShapes Go.WideShapes Go.ChangeAt Go.RowKit
open Go.Proofs.YtdjofooggofpkaaDoor
set_option linter.unusedVariables false

set_option maxRecDepth 100000 in
set_option maxHeartbeats 16000000 in
theorem walk (xn xq xs xr : Int) (vl : Value) (l : List Dr) (vp : Value) (w : World) (hG : Gl w) (hb0 : -9223372036854775808 ≤ xn ∧ xn ≤ 9223372036854775807) (hb1 : -9223372036854775808 ≤ xq ∧ xq ≤ 9223372036854775807) (hb2 : -9223372036854775808 ≤ xs ∧ xs ≤ 9223372036854775807) (hb3 : -9223372036854775808 ≤ xr ∧ xr ≤ 9223372036854775807) (hD : DrL w vl l) (hP : PoR w vp) :
    Calls Tryd.prog 4 #[.int .i64 xn, .int .i64 xq, .int .i64 xs, .int .i64 xr, vl, vp] w fun e w' => e = .returned (.bool true) ∧ Below w.heap.size w w' := by
  have HG := hide hG
  have HD0 := hide hD
  obtain ⟨ad, cd, rfl, -, -⟩ := hD
  obtain ⟨nd, hnd⟩ : ∃ n, n = l.length := ⟨_, rfl⟩
  rw [← hnd] at HD0 ⊢
  obtain ⟨rl, rm, rk, ew, em, ek, rq, lg, lw, rfl, ⟨hSl, hBl⟩, hLw⟩ := hP
  have HSl := hide hSl
  have HBl := hide hBl
  have HLw := hide hLw
  obtain ⟨g11, hg11⟩ : ∃ g, g = w.heap.size := ⟨_, rfl⟩
  obtain ⟨w1, hw1⟩ : ∃ x, x = w.alloc (.cells #[.slice rl rm rk, .slice ew em ek, .int .i64 rq] 42) := ⟨_, rfl⟩
  have K1 : Kp [] w w1 := by rw [hw1]; exact (Kp.refl [] w).alloc _
  have G1 : w1.heap[g11]? = some (.cells #[.slice rl rm rk, .slice ew em ek, .int .i64 rq] 42 (0, 0)) := by rw [hw1, hg11]; exact heap_alloc_new w _
  obtain ⟨no, hno⟩ : ∃ k : Nat, (k : Int) = wiP xn 1 4 := ⟨(wiP xn 1 4).toNat, by have := wiP_ge xn 1 4 (by omega); omega⟩
  have hno1 : 1 ≤ no ∧ no ≤ 4 := by have := wiP_ge xn 1 4 (by omega); omega
  obtain ⟨q, hq⟩ : ∃ q, q = wiP xq 0 5 := ⟨_, rfl⟩
  obtain ⟨sz, hsz⟩ : ∃ q, q = wiP xs (-1) 260 := ⟨_, rfl⟩
  obtain ⟨r, hr⟩ : ∃ r, r = hashX xr := ⟨_, rfl⟩
  have HW1 := hide (within_wi xn 1 4 w1 (by omega) (by omega) (by omega))
  have HW2 := hide (fun w => within_wi xq 0 5 w (by omega) (by omega) (by omega))
  have HW3 := hide (fun w => within_wi xs (-1) 260 w (by omega) (by omega) (by omega))
  have HH := hide (fun w => xhash_any xr w)
  rw [← hno] at HW1
  rw [← hq] at HW2
  rw [← hsz] at HW3
  rw [← hr] at HH
  have HRB : Hid (Bs r) := hide (by rw [hr]; exact hashX_bs xr)
  have HNO := hide hno1
  have HK1 := hide K1
  have HG1 := hide G1
  have HWw := hide hw1
  have H11 := hide hg11
  have HOWN := hide (owners_any no hno1.2 w1)
  clear hG hb0 hb1 hb2 hb3 hnd hSl hBl hLw hw1 hg11 K1 G1 hno hq hsz hr hno1
  go_enter Tryd.func4, Tryd.ntmps4
  go_wp2_with fail
  rw [← unhide HWw, ← unhide H11]
  refine (unhide HW1).mono ?_
  rintro ee wx ⟨rfl, hwx⟩
  subst wx
  go_wp2_with fail
  refine (unhide HOWN).mono ?_
  rintro ee w2 ⟨ao, co, rfl, R2⟩
  have HO2 := hide R2.owl
  have HK2 := hide ((unhide HK1).trans R2.kp)
  have HG2 := hide (R2.kp.heap (unhide HG1) (by simp))
  clear R2 HW1 HOWN HG1
  go_wp2_with fail
  refine (unhide HW2 w2).mono ?_
  rintro ee wx ⟨rfl, hwx⟩
  subst wx
  have HPl := hide (policy_any _ no q w2 (unhide HO2) (unhide HNO).2)
  clear HW2
  go_wp2_with fail
  refine (unhide HPl).mono ?_
  rintro ee w3 ⟨al, ml, cl, aw, mw, cw, rfl, S3, A3⟩
  have HP3 := hide (pol_v (q := q) (unhide HNO).2 S3 A3)
  have HAR3 : Hid (ARt w2.heap.size (ownK no) (.slice aw mw cw) w3 ∧ Sl w3 (.slice al ml cl) (hashX 9)) := ⟨A3.ar (Nat.le_refl _), S3⟩
  have h112 : g11 < w2.heap.size := lt_of_block (unhide HG2)
  have HK3 := hide ((unhide HK2).trans A3.kp)
  have HO3 := hide ((unhide HO2).kept A3.kp)
  have HG3 := hide (A3.kp.heap (unhide HG2) (by simp))
  have Ga := heap_alloc_new w3 (.cells #[.slice none 0 0, .slice none 0 0, .int .i64 0] 42)
  have HKa : Hid (Kp [] w3 (w3.alloc (.cells #[.slice none 0 0, .slice none 0 0, .int .i64 0] 42))) := (Kp.refl [] w3).alloc _
  clear HPl S3 A3 HO2 HK2 HG2
  go_wp2_with (refine wpList_store_flat rfl 42 (.tmp 14) (.tmp 25) rfl w3.heap.size 0 rfl _ _ [.slice al ml cl, .slice aw mw cw, .int .i64 q] Ga rfl (by simp) Tryd.polSize (by simp [Value.oneCell']) #[.slice al ml cl, .slice aw mw cw, .int .i64 q] rfl ?_; intro w4 G4 K4; refine Hid.out ?_)
  obtain ⟨g14, hg14⟩ : ∃ g, g = w3.heap.size := ⟨_, rfl⟩
  have K34 : Kp [] w3 w4 := (unhide HKa).then K4 (fun i hi => .inr (by simp at hi; omega))
  rw [← hg14] at G4 ⊢
  have HK4 := hide ((unhide HK3).trans K34)
  have HP4 := hide ((unhide HP3).kept K34)
  have HAR4 : Hid (ARt w2.heap.size (ownK no) (.slice aw mw cw) w4 ∧ Sl w4 (.slice al ml cl) (hashX 9)) := ⟨stable_ar _ _ _ _ _ K34 (unhide HAR3).1, (unhide HAR3).2.kept K34 (by simp)⟩
  have HO4 := hide ((unhide HO3).kept K34)
  have HG114 := hide (K34.heap (unhide HG3) (by simp))
  have HG144 := hide G4
  have hn14 : g11 < g14 := by rw [hg14]; exact lt_of_block (unhide HG3)
  clear Ga HKa G4 K4 K34 hg14 HP3 HO3 HG3 HK3
  refine hide ?_
  go_wp2_with fail
  refine (unhide HW3 w4).mono ?_
  rintro ee wx ⟨rfl, hwx⟩
  subst wx
  go_wp2_with fail
  refine (unhide HH w4).mono ?_
  rintro ee w5 ⟨ar, mr, cr, rfl, R5, K5⟩
  have HS5 := hide R5.sl
  have HK5 := hide K5
  have Ga := heap_alloc_new w5 (.cells #[.int .i64 0, .slice none 0 0] 27)
  have HKa : Hid (Kp [] w5 (w5.alloc (.cells #[.int .i64 0, .slice none 0 0] 27))) := (Kp.refl [] w5).alloc _
  clear R5 K5 HW3 HH
  go_wp2_with (refine wpList_store_flat rfl 27 (.tmp 15) (.tmp 30) rfl w5.heap.size 0 rfl _ _ [.int .i64 sz, .slice ar mr cr] Ga rfl (by simp) Tryd.chkSize (by simp [Value.oneCell']) #[.int .i64 sz, .slice ar mr cr] rfl ?_; intro w6 G6 K6; refine Hid.out ?_)
  obtain ⟨g15, hg15⟩ : ∃ g, g = w5.heap.size := ⟨_, rfl⟩
  have K56 : Kp [] w5 w6 := (unhide HKa).then K6 (fun i hi => .inr (by simp at hi; omega))
  rw [← hg15] at G6 ⊢
  have K46 := (unhide HK5).trans K56
  have HK6 := hide ((unhide HK4).trans K46)
  have HP6 := hide ((unhide HP4).kept K46)
  have HAR6 : Hid (ARt w2.heap.size (ownK no) (.slice aw mw cw) w6 ∧ Sl w6 (.slice al ml cl) (hashX 9)) := ⟨stable_ar _ _ _ _ _ K46 (unhide HAR4).1, (unhide HAR4).2.kept K46 (by simp)⟩
  have HO6 := hide ((unhide HO4).kept K46)
  have HG116 := hide (K46.heap (unhide HG114) (by simp))
  have HG146 := hide (K46.heap (unhide HG144) (by simp))
  have h116 : g11 < w6.heap.size := lt_of_block (unhide HG116)
  have HG156 := hide G6
  have HC6 : Hid (CkV w6 (.agg #[.int .i64 sz, .slice ar mr cr]) sz r) := ⟨ar, mr, cr, rfl, (unhide HS5).kept K56 (by simp), unhide HRB⟩
  have hn15 : g11 < g15 := by rw [hg15]; have := lt_of_block (unhide HG114); have := (unhide HK5).size; omega
  have c0 : w6.cell? ⟨g15, 0, none⟩ = some (.int .i64 sz) := by rw [cell_of_row w6 g15 0 _ _ _ (unhide HG156)]; rfl
  have c1 : w6.cell? ⟨g15, 1, none⟩ = some (.slice ar mr cr) := by rw [cell_of_row w6 g15 1 _ _ _ (unhide HG156)]; rfl
  have HMd := hide (made_any _ l _ no _ sz r w6 ((unhide HD0).kept (unhide HK6)) (unhide HO6) (unhide HNO) (unhide HC6))
  clear Ga HKa G6 K6 K56 K46 hg15 HP4 HO4 HG114 HG144 HS5 HK5 HK4
  refine hide ?_
  go_wp2_with fail
  refine (unhide HMd).mono ?_
  rintro ee w7 ⟨ag, ng, cg, rfl, hng, R7⟩
  obtain ⟨gl, hgl⟩ : ∃ x, x = mdW no sz r l := ⟨_, rfl⟩
  have HIG : Hid (∀ c ∈ gl, -9223372036854775808 ≤ c.i ∧ c.i ≤ 9223372036854775807) := hide (fun c hc => by rw [hgl] at hc; exact mdW_i hc)
  rw [← hgl] at R7 hng
  have hlen : gl.length ≤ 6 := by rw [hgl, mdW_len]; omega
  have HL7 := hide (R7.col (by omega))
  have HR7 := hide R7
  have HBG : Hid (∀ c ∈ gl, c.big) := hide (fun c hc => by rw [hgl] at hc; obtain ⟨d, _, rfl⟩ := List.mem_map.1 hc; exact drW_big _ _ _ _)
  have HNG := hide hng
  have K67 := R7.kp
  have HK7 := hide ((unhide HK6).trans K67)
  have HP7 := hide ((unhide HP6).kept K67)
  have HAR7 : Hid (ARt w2.heap.size (ownK no) (.slice aw mw cw) w7 ∧ Sl w7 (.slice al ml cl) (hashX 9)) := ⟨stable_ar _ _ _ _ _ K67 (unhide HAR6).1, (unhide HAR6).2.kept K67 (by simp)⟩
  have HG117 := hide (K67.heap (unhide HG116) (by simp))
  have HG147 := hide (K67.heap (unhide HG146) (by simp))
  have HG157 := hide (K67.heap (unhide HG156) (by simp))
  have HC7 := hide ((unhide HC6).kept K67)
  clear HMd R7 K67 HP6 HO6 HG116 HG146 HG156 HC6 HK6 c0 c1 hgl HD0 hng
  go_wp2_with fail
  go_loopw [17] (fun vi wr => ∃ k : Nat, k ≤ ng ∧ vi = .int .i64 k ∧ Kp [] w7 wr) (fun vi _ => ng - (intOf vi).toNat)
  case atStart => exact ⟨0, by omega, rfl, Kp.refl _ _⟩
  case round =>
    obtain ⟨k, hk, rfl, hKr⟩ := hrel
    have HKr := hide hKr
    clear hKr
    by_cases hlt : k < ng
    · have hlt2 : (k : Int) < (ng : Int) := by omega
      have hkl : k < gl.length := by have := unhide HNG; omega
      obtain ⟨ag', cg', eg', -, hcell⟩ := unhide HL7
      injection eg' with e1 e2 e3
      subst e1
      obtain ⟨bg, og, ap, np, cp, aq, nq, cq, rfl, hr0, hsig⟩ := hcell k hkl
      obtain ⟨c, hc⟩ : ∃ c, c = gl[k]'hkl := ⟨_, rfl⟩
      rw [← hc] at hr0 hsig
      have HIB := hide (unhide HIG c (by rw [hc]; exact List.getElem_mem hkl))
      obtain ⟨ck, hck⟩ : ∃ x, x = c.k := ⟨_, rfl⟩
      obtain ⟨ci, hci⟩ : ∃ x, x = c.i := ⟨_, rfl⟩
      rw [← hck, ← hci] at hr0
      have HDr : Hid (∀ w', Kp [] wr.drew w' → Kp [] w7 w') := fun w' k' => (unhide HKr).trans ((kp_drew wr).trans k')
      have HLD : Hid (∀ w', Kp [] wr.drew w' → (loadVar 33 ⟨bg, og + k * 4, none⟩).run Tryd.prog w' = .ok (.agg #[.int .i64 ck, .int .i64 ci, .slice ap np cp, .slice aq nq cq]) w') := fun w' k' => run_loadVar_mid w' bg (og + k * 4) 33 [.int .i64 ck, .int .i64 ci, .slice ap np cp, .slice aq nq cq] _ (fun j u hu => (unhide HDr w' k').cell (hr0 j u hu) (by simp)) Tryd.underlying33 rfl Tryd.cosSize
      have HV : Hid (∀ w', Kp [] wr.drew w' → CoV w' (.agg #[.int .i64 ck, .int .i64 ci, .slice ap np cp, .slice aq nq cq]) c) := fun w' k' => ⟨ap, np, cp, aq, nq, cq, by rw [hck, hci], by have := hsig.kept (unhide HDr w' k'); rw [← hci] at this ⊢; exact this⟩
      have HT14 : Hid (∀ w', Kp [] wr.drew w' → w'.heap[g14]? = some (.cells #[.slice al ml cl, .slice aw mw cw, .int .i64 q] 42 (0, 0))) := fun w' k' => (unhide HDr w' k').heap (unhide HG147) (by simp)
      have HT15 : Hid (∀ w', Kp [] wr.drew w' → w'.heap[g15]? = some (.cells #[.int .i64 sz, .slice ar mr cr] 27 (0, 0))) := fun w' k' => (unhide HDr w' k').heap (unhide HG157) (by simp)
      have HPO : Hid (∀ w', Kp [] wr.drew w' → PoV w' (.agg #[.slice al ml cl, .slice aw mw cw, .int .i64 q]) (polK no q)) := fun w' k' => (unhide HP7).kept (unhide HDr w' k')
      have HCK : Hid (∀ w', Kp [] wr.drew w' → CkV w' (.agg #[.int .i64 sz, .slice ar mr cr]) sz r) := fun w' k' => (unhide HC7).kept (unhide HDr w' k')
      have HGW : Hid (∀ w', Kp [] wr.drew w' → Gl w') := fun w' k' => (unhide HG).kept ((unhide HK7).trans (unhide HDr w' k')) (by simp)
      obtain ⟨bv, hbv⟩ : ∃ b, b = verW (polK no q) sz r c := ⟨_, rfl⟩
      have HBV := hide hbv
      clear hcell hr0 hsig hc hck hci hbv e2 e3 HL7
      go_wp2_with fail
      refine region_grow Tryd.mixed [Is (.agg #[.slice al ml cl, .slice aw mw cw, .int .i64 q]), Is (.agg #[.int .i64 sz, .slice ar mr cr]), Is (.slice (some ⟨bg, og, none⟩) ng cg), Is (.int .i64 k), Is (.pointer (some ⟨bg, og + k * 4, none⟩)), Is (.agg #[.int .i64 ck, .int .i64 ci, .slice ap np cp, .slice aq nq cq]), Is (.bool bv), Is (.agg #[.slice al ml cl, .slice aw mw cw, .int .i64 q]), Is (.agg #[.int .i64 sz, .slice ar mr cr]), Is (.slice (some ⟨bg, og, none⟩) ng cg), Is (.int .i64 k), Is (.pointer (some ⟨bg, og + k * 4, none⟩)), Is (.agg #[.int .i64 ck, .int .i64 ci, .slice ap np cp, .slice aq nq cq]), Is (.bool bv), Is (.bool false)] [[(14, none)], [(15, none)], [(16, none)], [(17, none)], [(43, some 2), (44, some 3)], [(45, some 4)], [(41, some 0), (42, some 1), (46, some 5)], [(14, none)], [(15, none)], [(16, none)], [(17, none)], [(50, some 9), (51, some 10)], [(52, some 11)], [(48, some 7), (49, some 8), (53, some 12)], [(47, some 6), (54, some 13)]] (by kernel_rfl) ?_ ?_ ?_
      · simp only [List.mem_cons, List.not_mem_nil, or_false]
        intro R hR
        rcases hR with rfl | rfl | rfl | rfl | rfl | rfl | rfl | rfl | rfl | rfl | rfl | rfl | rfl | rfl | rfl <;> first | exact stable_is _
      · refine steps_cons (fun a w hk hn => ?_) ?_
        · have h14 : a.eval (.tmp 14) = .pointer (some ⟨g14, 0, none⟩) := hn.1
          clear hn
          refine wants_plain rfl ?_
          exact grown_loadf 42 (.tmp 14) rfl g14 0 h14 _ _ _ _ (unhide HT14 w hk) [.slice al ml cl, .slice aw mw cw, .int .i64 q] (flat_in rfl) Tryd.underlying42 rfl Tryd.polSize rfl
        refine steps_cons (fun a w hk hn => ?_) ?_
        · have h15 : a.eval (.tmp 15) = .pointer (some ⟨g15, 0, none⟩) := hn.1
          clear hn
          refine wants_plain rfl ?_
          exact grown_loadf 27 (.tmp 15) rfl g15 0 h15 _ _ _ _ (unhide HT15 w hk) [.int .i64 sz, .slice ar mr cr] (flat_in rfl) Tryd.underlying27 rfl Tryd.chkSize rfl
        refine steps_cons (fun a w hk hn => ?_) ?_
        · have h16 : a.eval (.tmp 16) = .slice (some ⟨bg, og, none⟩) ng cg := hn.1
          clear hn
          refine wants_plain rfl ?_
          exact grown_move (.tmp 16) rfl h16
        refine steps_cons (fun a w hk hn => ?_) ?_
        · have h17 : a.eval (.tmp 17) = .int .i64 k := hn.1
          clear hn
          refine wants_plain rfl ?_
          exact grown_move (.tmp 17) rfl h17
        refine steps_cons (fun a w hk hn => ?_) ?_
        · have h43 : a.eval (.tmp 43) = .slice (some ⟨bg, og, none⟩) ng cg := hn.1
          have h44 : a.eval (.tmp 44) = .int .i64 k := hn.2.1
          clear hn
          refine wants_plain rfl ?_
          refine grown_run (v := .pointer (some ⟨bg, og + k * 4, none⟩)) ?_ (Kp.refl _ _) rfl
          obtain ⟨ρ, hρ, hc, hf, hg⟩ := eval_is a
          rw [hρ] at h43 h44 ⊢
          simp [go_sem, h43, h44, hlt2]
        refine steps_cons (fun a w hk hn => ?_) ?_
        · have h45 : a.eval (.tmp 45) = .pointer (some ⟨bg, og + k * 4, none⟩) := hn.1
          clear hn
          refine wants_plain rfl ?_
          exact grown_loadm 33 (.tmp 45) rfl bg (og + k * 4) h45 _ (unhide HLD w hk) rfl
        refine steps_cons (fun a w hk hn => ?_) ?_
        · have h41 : a.eval (.tmp 41) = .agg #[.slice al ml cl, .slice aw mw cw, .int .i64 q] := hn.1
          have h42 : a.eval (.tmp 42) = .agg #[.int .i64 sz, .slice ar mr cr] := hn.2.1
          have h46 : a.eval (.tmp 46) = .agg #[.int .i64 ck, .int .i64 ci, .slice ap np cp, .slice aq nq cq] := hn.2.2.1
          clear hn
          refine wants_plain rfl ?_
          refine grown_call (f := 20) rfl Tryd.func20 (by kernel_rfl) (by kernel_rfl) ?_
          simp only [List.map_toArray, List.map_cons, List.map_nil, h41, h42, h46]
          refine (cverify_any _ (polK no q) _ sz r _ c bv (unhide HBV) w (unhide HPO w hk) (unhide HCK w hk) (unhide HV w hk) (unhide HGW w hk)).mono ?_
          rintro e w' ⟨rfl, K⟩
          exact ⟨_, rfl, K, rfl⟩
        refine steps_cons (fun a w hk hn => ?_) ?_
        · have h14 : a.eval (.tmp 14) = .pointer (some ⟨g14, 0, none⟩) := hn.1
          clear hn
          refine wants_plain rfl ?_
          exact grown_loadf 42 (.tmp 14) rfl g14 0 h14 _ _ _ _ (unhide HT14 w hk) [.slice al ml cl, .slice aw mw cw, .int .i64 q] (flat_in rfl) Tryd.underlying42 rfl Tryd.polSize rfl
        refine steps_cons (fun a w hk hn => ?_) ?_
        · have h15 : a.eval (.tmp 15) = .pointer (some ⟨g15, 0, none⟩) := hn.1
          clear hn
          refine wants_plain rfl ?_
          exact grown_loadf 27 (.tmp 15) rfl g15 0 h15 _ _ _ _ (unhide HT15 w hk) [.int .i64 sz, .slice ar mr cr] (flat_in rfl) Tryd.underlying27 rfl Tryd.chkSize rfl
        refine steps_cons (fun a w hk hn => ?_) ?_
        · have h16 : a.eval (.tmp 16) = .slice (some ⟨bg, og, none⟩) ng cg := hn.1
          clear hn
          refine wants_plain rfl ?_
          exact grown_move (.tmp 16) rfl h16
        refine steps_cons (fun a w hk hn => ?_) ?_
        · have h17 : a.eval (.tmp 17) = .int .i64 k := hn.1
          clear hn
          refine wants_plain rfl ?_
          exact grown_move (.tmp 17) rfl h17
        refine steps_cons (fun a w hk hn => ?_) ?_
        · have h50 : a.eval (.tmp 50) = .slice (some ⟨bg, og, none⟩) ng cg := hn.1
          have h51 : a.eval (.tmp 51) = .int .i64 k := hn.2.1
          clear hn
          refine wants_plain rfl ?_
          refine grown_run (v := .pointer (some ⟨bg, og + k * 4, none⟩)) ?_ (Kp.refl _ _) rfl
          obtain ⟨ρ, hρ, hc, hf, hg⟩ := eval_is a
          rw [hρ] at h50 h51 ⊢
          simp [go_sem, h50, h51, hlt2]
        refine steps_cons (fun a w hk hn => ?_) ?_
        · have h52 : a.eval (.tmp 52) = .pointer (some ⟨bg, og + k * 4, none⟩) := hn.1
          clear hn
          refine wants_plain rfl ?_
          exact grown_loadm 33 (.tmp 52) rfl bg (og + k * 4) h52 _ (unhide HLD w hk) rfl
        refine steps_cons (fun a w hk hn => ?_) ?_
        · have h48 : a.eval (.tmp 48) = .agg #[.slice al ml cl, .slice aw mw cw, .int .i64 q] := hn.1
          have h49 : a.eval (.tmp 49) = .agg #[.int .i64 sz, .slice ar mr cr] := hn.2.1
          have h53 : a.eval (.tmp 53) = .agg #[.int .i64 ck, .int .i64 ci, .slice ap np cp, .slice aq nq cq] := hn.2.2.1
          clear hn
          refine wants_plain rfl ?_
          refine grown_call (f := 21) rfl Tryd.func21 (by kernel_rfl) (by kernel_rfl) ?_
          simp only [List.map_toArray, List.map_cons, List.map_nil, h48, h49, h53]
          refine (rcosigned_any _ (polK no q) _ sz r _ c bv (unhide HBV) w (unhide HPO w hk) (unhide HCK w hk) (unhide HV w hk) (unhide HIB)).mono ?_
          rintro e w' ⟨rfl, K⟩
          exact ⟨_, rfl, K, rfl⟩
        refine steps_cons (fun a w hk hn => ?_) ?_
        · have h47 : a.eval (.tmp 47) = .bool bv := hn.1
          have h54 : a.eval (.tmp 54) = .bool bv := hn.2.1
          clear hn
          refine wants_plain rfl ?_
          refine grown_run (v := .bool false) ?_ (Kp.refl _ _) rfl
          obtain ⟨ρ, hρ, hc, hf, hg⟩ := eval_is a
          rw [hρ] at h47 h54 ⊢
          simp [go_sem, h47, h54]
        exact trivial
      intro W1 hkW1
      rintro _ rfl
      rintro _ rfl
      rintro _ rfl
      rintro _ rfl
      rintro _ rfl
      rintro _ rfl
      rintro _ rfl
      rintro _ rfl
      rintro _ rfl
      rintro _ rfl
      rintro _ rfl
      rintro _ rfl
      rintro _ rfl
      rintro _ rfl
      rintro _ rfl
      refine fin_nil ?_
      simp only [Act.put, List.set_cons_zero, List.set_cons_succ, List.setIfInBounds_toArray]
      have HK1r := hide (unhide HDr W1 hkW1)
      go_wp2_with fail
      go_roundw
      case rel => exact ⟨k + 1, by omega, by go_num, unhide HK1r⟩
      case measure => simp [intOf]; omega
    · have hlt2 : ¬ (k : Int) < (ng : Int) := by omega
      have HG11r := hide ((unhide HKr).heap (unhide HG117) (by simp))
      have f1 : wr.cell? ⟨g11, 1, none⟩ = some (.slice ew em ek) := by rw [cell_of_row wr g11 1 _ _ _ (unhide HG11r)]; rfl
      have HLr := hide ((unhide HLw).kept ((unhide HK7).trans (unhide HKr)))
      have HFw := hide (few_any _ lw 6 40 wr (unhide HLr) (by omega))
      go_wp2_with fail
      refine (unhide HFw).mono ?_
      rintro ee w8 ⟨vf, rfl, F8⟩
      have K8 := F8.own.1
      have hfo := F8.own.2
      have hwr11 : g11 < wr.heap.size := lt_of_block (unhide HG11r)
      obtain ⟨lf, hLf, hlf⟩ := F8.lc (unhide HLr).bs (by omega)
      obtain ⟨fw, fk, rfl, -, -, -⟩ := hLf.shape
      obtain ⟨fm, hfm⟩ : ∃ n, n = lf.length := ⟨_, rfl⟩
      rw [← hfm] at hLf hfo ⊢
      have G8 := K8.heap (unhide HG11r) (by simp)
      have f8 : w8.cell? ⟨g11, 1, none⟩ = some (.slice ew em ek) := by rw [cell_of_row w8 g11 1 _ _ _ G8]; rfl
      have z8 : w8.frozen? ⟨g11, 1, none⟩ = false := frozen_of_row w8 g11 1 _ _ G8
      obtain ⟨w9, hw9⟩ : ∃ x, x = w8.setCell ⟨g11, 1, none⟩ (.slice fw fm fk) := ⟨_, rfl⟩
      have K89 : Kp [g11] w8 w9 := by rw [hw9]; exact setCell_kp w8 g11 1 _
      have G9 : w9.heap[g11]? = some (.cells #[.slice rl rm rk, .slice fw fm fk, .int .i64 rq] 42 (0, 0)) := by
        rw [hw9]
        have := heap_setCell_same w8 g11 1 _ _ (.slice fw fm fk) G8
        simpa using this
      have K7r8 : Kp [] w7 w8 := (unhide HKr).trans K8
      have HK9 : Hid (Kp [] w w9) := ((unhide HK7).trans K7r8).then K89 (fun i hi => .inr (by simp at hi; have := unhide H11; omega))
      have HG149 := hide (K89.heap (K7r8.heap (unhide HG147) (by simp)) (by simp; omega))
      have HG159 := hide (K89.heap (K7r8.heap (unhide HG157) (by simp)) (by simp; omega))
      have HP9 : Hid (PoV w9 (.agg #[.slice al ml cl, .slice aw mw cw, .int .i64 q]) (polK no q)) := hide (by
        have h1 := ar_off (stable_ar _ _ _ _ _ K7r8 (unhide HAR7).1) G8 K89 h112
        obtain ⟨a', m', c', lo, el, h2, h3⟩ := h1
        cases el
        have h4 := lc_of_owns h2.1 (h2.lists (by rw [← List.length_map (f := (·.2)), h3, ownK_len]; have := (unhide HNO).2; omega))
        exact ⟨al, ml, cl, aw, mw, cw, lo, rfl, ⟨((unhide HAR7).2.kept K7r8 (by simp)).offBy' (noBy_pol G8) K89, hashX_bs 9⟩, h4, h3⟩)
      have HC9 := hide (ckv_offP ((unhide HC7).kept K7r8) G8 K89)
      have HL9 : Hid (CoL w9 (.slice ag ng cg) gl) := hide (by have := col_offP ((unhide HR7).kept K7r8) (unhide HBG) (by omega) G8 h116 K89; exact this)
      obtain ⟨pr, hpr⟩ : ∃ p : Po, p = ⟨lg, lf.map (·.2), rq⟩ := ⟨_, rfl⟩
      have HR9 : Hid (PoV w9 (.agg #[.slice rl rm rk, .slice fw fm fk, .int .i64 rq]) pr) := hide (by
        rw [hpr]
        refine ⟨rl, rm, rk, fw, fm, fk, lf, rfl, ⟨?_, unhide HBl⟩, lc_offV hLf (fun e => by have := hfo g11 e; omega) G8 K89, rfl⟩
        exact (((unhide HSl).kept ((unhide HK7).trans K7r8) (by simp))).offBy' (noBy_pol G8) K89)
      have HG119 := hide G9
      have HW9 := hide hw9
      obtain ⟨mm, hmm⟩ : ∃ m, m = cntW (polK no q) sz r gl := ⟨_, rfl⟩
      have HMM := hide hmm
      have HIG9 := unhide HIG
      have HRC := hide (rcount_any _ (polK no q) _ sz r _ gl mm hmm w9 (unhide HP9) (unhide HC9) (unhide HL9) HIG9)
      have y0 : w8.cell? ⟨g14, 0, none⟩ = some (.slice al ml cl) := by rw [cell_of_row w8 g14 0 _ _ _ (K7r8.heap (unhide HG147) (by simp))]; rfl
      have y1 : w8.cell? ⟨g14, 1, none⟩ = some (.slice aw mw cw) := by rw [cell_of_row w8 g14 1 _ _ _ (K7r8.heap (unhide HG147) (by simp))]; rfl
      have y2 : w8.cell? ⟨g14, 2, none⟩ = some (.int .i64 q) := by rw [cell_of_row w8 g14 2 _ _ _ (K7r8.heap (unhide HG147) (by simp))]; rfl
      have x0 : w8.cell? ⟨g15, 0, none⟩ = some (.int .i64 sz) := by rw [cell_of_row w8 g15 0 _ _ _ (K7r8.heap (unhide HG157) (by simp))]; rfl
      have x1 : w8.cell? ⟨g15, 1, none⟩ = some (.slice ar mr cr) := by rw [cell_of_row w8 g15 1 _ _ _ (K7r8.heap (unhide HG157) (by simp))]; rfl
      have n1 : g14 ≠ g11 := by omega
      have n2 : g15 ≠ g11 := by omega
      clear HFw K8 hLf hlf hfm G8 G9 K89 K7r8 hw9 hmm hpr HIG9 f1 F8 hfo HP7 HC7 HL7 HG117 HG147 HG157
      go_wp2_with fail
      rw [← unhide HW9]
      refine (unhide HRC).mono ?_
      rintro ee wA ⟨rfl, KA⟩
      have HKA := hide KA
      have HKD : Hid (∀ w', Kp [] wA.drew w' → Kp [] w w') := fun w' k' => (unhide HK9).trans ((unhide HKA).trans ((kp_drew wA).trans k'))
      have HK9A : Hid (∀ w', Kp [] wA.drew w' → Kp [] w9 w') := fun w' k' => (unhide HKA).trans ((kp_drew wA).trans k')
      have HT14 : Hid (∀ w', Kp [] wA.drew w' → w'.heap[g14]? = some (.cells #[.slice al ml cl, .slice aw mw cw, .int .i64 q] 42 (0, 0))) := fun w' k' => (unhide HK9A w' k').heap (unhide HG149) (by simp)
      have HT15 : Hid (∀ w', Kp [] wA.drew w' → w'.heap[g15]? = some (.cells #[.int .i64 sz, .slice ar mr cr] 27 (0, 0))) := fun w' k' => (unhide HK9A w' k').heap (unhide HG159) (by simp)
      have HT11 : Hid (∀ w', Kp [] wA.drew w' → w'.heap[g11]? = some (.cells #[.slice rl rm rk, .slice fw fm fk, .int .i64 rq] 42 (0, 0))) := fun w' k' => (unhide HK9A w' k').heap (unhide HG119) (by simp)
      have HPO : Hid (∀ w', Kp [] wA.drew w' → PoV w' (.agg #[.slice al ml cl, .slice aw mw cw, .int .i64 q]) (polK no q)) := fun w' k' => (unhide HP9).kept (unhide HK9A w' k')
      have HRO : Hid (∀ w', Kp [] wA.drew w' → PoV w' (.agg #[.slice rl rm rk, .slice fw fm fk, .int .i64 rq]) pr) := fun w' k' => (unhide HR9).kept (unhide HK9A w' k')
      have HCK : Hid (∀ w', Kp [] wA.drew w' → CkV w' (.agg #[.int .i64 sz, .slice ar mr cr]) sz r) := fun w' k' => (unhide HC9).kept (unhide HK9A w' k')
      have HCL : Hid (∀ w', Kp [] wA.drew w' → CoL w' (.slice ag ng cg) gl) := fun w' k' => (unhide HL9).kept (unhide HK9A w' k')
      have HGW : Hid (∀ w', Kp [] wA.drew w' → Gl w') := fun w' k' => (unhide HG).kept (unhide HKD w' k') (by simp)
      obtain ⟨br, hbr⟩ : ∃ b, b = pr.rgt := ⟨_, rfl⟩
      have HBR := hide hbr
      obtain ⟨rp, hrp⟩ : ∃ b, b = (polK no q).rgt := ⟨_, rfl⟩
      have HRP := hide hrp
      have hbm : ∀ b : Bool, b = (rp && decide (q ≤ (mm : Int))) → b = ((polK no q).rgt && decide ((polK no q).q ≤ (cntW (polK no q) sz r gl : Nat))) := fun b hb => by
        rw [hb, hrp, unhide HMM]
        rfl
      have HB0 := hide hbm
      clear KA HRC hbr hrp hbm y0 y1 y2 x0 x1 n1 n2 f8 z8
      cases rp
      · have HBM : Hid (false = ((polK no q).rgt && decide ((polK no q).q ≤ (cntW (polK no q) sz r gl : Nat)))) := hide (unhide HB0 false rfl)
        go_wp2_with fail
        refine region_grow Tryd.mixed [Is (.agg #[.slice al ml cl, .slice aw mw cw, .int .i64 q]), Is (.agg #[.int .i64 sz, .slice ar mr cr]), Is (.slice ag ng cg), Is (.int .i64 mm), Is (.int .i64 mm), Is (.bool true), Is (.bool true), Is (.agg #[.slice al ml cl, .slice aw mw cw, .int .i64 q]), Is (.agg #[.int .i64 sz, .slice ar mr cr]), Is (.slice ag ng cg), Is (.bool false), Is (.agg #[.slice al ml cl, .slice aw mw cw, .int .i64 q]), Is (.bool false), Is (.bool false), Is (undef), Is (undef), Is (undef), Is (undef), Is (.bool false), Is (.bool true), Is (.bool true), Is (.bool true), Is (.agg #[.slice al ml cl, .slice aw mw cw, .int .i64 q]), Is (.bool false), Is (.agg #[.slice al ml cl, .slice aw mw cw, .int .i64 q]), Is (.bool false), Is (.bool true), Is (.bool true), Is (.bool true), Is (.agg #[.slice rl rm rk, .slice fw fm fk, .int .i64 rq]), Is (.bool br), Is (.agg #[.slice rl rm rk, .slice fw fm fk, .int .i64 rq]), Is (.bool br), Is (.bool true), Is (.bool true), Is (.bool true), Is (.bool true), Is (.bool true), Is (.bool true)] [[(14, none)], [(15, none)], [(16, none)], [(64, some 0), (65, some 1), (66, some 2)], [(18, none)], [(67, some 3), (68, some 4)], [(69, some 5)], [(14, none), (70, some 6)], [(15, none), (70, some 6)], [(16, none), (70, some 6)], [(71, some 7), (72, some 8), (73, some 9), (70, some 6)], [(14, none), (70, some 6)], [(75, some 11), (70, some 6)], [(76, some 12), (70, some 6)], [(18, none), (77, some 13)], [(14, none), (77, some 13)], [(79, some 15), (77, some 13)], [(78, some 14), (80, some 16), (77, some 13)], [(77, some 13), (81, some 17), (70, some 6)], [(74, some 10), (82, some 18), (70, some 6)], [(70, some 6), (83, some 19)], [(84, some 20)], [(14, none), (85, some 21)], [(86, some 22), (85, some 21)], [(14, none), (85, some 21)], [(88, some 24), (85, some 21)], [(87, some 23), (89, some 25), (85, some 21)], [(85, some 21), (90, some 26)], [(91, some 27)], [(11, none), (92, some 28)], [(93, some 29), (92, some 28)], [(11, none), (92, some 28)], [(95, some 31), (92, some 28)], [(94, some 30), (96, some 32), (92, some 28)], [(92, some 28), (97, some 33)], [(98, some 34)], [(99, some 35)], [(99, some 35), (100, some 36)], [(101, some 37)]] (by kernel_rfl) ?_ ?_ ?_
        · simp only [List.mem_cons, List.not_mem_nil, or_false]
          intro R hR
          rcases hR with rfl | rfl | rfl | rfl | rfl | rfl | rfl | rfl | rfl | rfl | rfl | rfl | rfl | rfl | rfl | rfl | rfl | rfl | rfl | rfl | rfl | rfl | rfl | rfl | rfl | rfl | rfl | rfl | rfl | rfl | rfl | rfl | rfl | rfl | rfl | rfl | rfl | rfl | rfl <;> first | exact stable_is _
        · refine steps_cons (fun a w hk hn => ?_) ?_
          · have h14 : a.eval (.tmp 14) = .pointer (some ⟨g14, 0, none⟩) := hn.1
            clear hn
            refine wants_plain rfl ?_
            exact grown_loadf 42 (.tmp 14) rfl g14 0 h14 _ _ _ _ (unhide HT14 w hk) [.slice al ml cl, .slice aw mw cw, .int .i64 q] (flat_in rfl) Tryd.underlying42 rfl Tryd.polSize rfl
          refine steps_cons (fun a w hk hn => ?_) ?_
          · have h15 : a.eval (.tmp 15) = .pointer (some ⟨g15, 0, none⟩) := hn.1
            clear hn
            refine wants_plain rfl ?_
            exact grown_loadf 27 (.tmp 15) rfl g15 0 h15 _ _ _ _ (unhide HT15 w hk) [.int .i64 sz, .slice ar mr cr] (flat_in rfl) Tryd.underlying27 rfl Tryd.chkSize rfl
          refine steps_cons (fun a w hk hn => ?_) ?_
          · have h16 : a.eval (.tmp 16) = .slice ag ng cg := hn.1
            clear hn
            refine wants_plain rfl ?_
            exact grown_move (.tmp 16) rfl h16
          refine steps_cons (fun a w hk hn => ?_) ?_
          · have h64 : a.eval (.tmp 64) = .agg #[.slice al ml cl, .slice aw mw cw, .int .i64 q] := hn.1
            have h65 : a.eval (.tmp 65) = .agg #[.int .i64 sz, .slice ar mr cr] := hn.2.1
            have h66 : a.eval (.tmp 66) = .slice ag ng cg := hn.2.2.1
            clear hn
            refine wants_plain rfl ?_
            refine grown_call (f := 14) rfl Tryd.func14 (by kernel_rfl) (by kernel_rfl) ?_
            simp only [List.map_toArray, List.map_cons, List.map_nil, h64, h65, h66]
            refine (ccount_any _ (polK no q) _ sz r _ gl mm (unhide HMM) w (unhide HPO w hk) (unhide HCK w hk) (unhide HCL w hk) (unhide HGW w hk)).mono ?_
            rintro e w' ⟨rfl, K⟩
            exact ⟨_, rfl, K, rfl⟩
          refine steps_cons (fun a w hk hn => ?_) ?_
          · have h18 : a.eval (.tmp 18) = .int .i64 mm := hn.1
            clear hn
            refine wants_plain rfl ?_
            exact grown_move (.tmp 18) rfl h18
          refine steps_cons (fun a w hk hn => ?_) ?_
          · have h67 : a.eval (.tmp 67) = .int .i64 mm := hn.1
            have h68 : a.eval (.tmp 68) = .int .i64 mm := hn.2.1
            clear hn
            refine wants_plain rfl ?_
            refine grown_run (v := .bool true) ?_ (Kp.refl _ _) rfl
            obtain ⟨ρ, hρ, hc, hf, hg⟩ := eval_is a
            rw [hρ] at h67 h68 ⊢
            simp [go_sem, h67, h68]
          refine steps_cons (fun a w hk hn => ?_) ?_
          · have h69 : a.eval (.tmp 69) = .bool true := hn.1
            clear hn
            refine wants_plain rfl ?_
            exact grown_move (.tmp 69) rfl h69
          refine steps_cons (fun a w hk hn => ?_) ?_
          · have h14 : a.eval (.tmp 14) = .pointer (some ⟨g14, 0, none⟩) := hn.1
            have h70 : a.eval (.tmp 70) = .bool true := hn.2.1
            clear hn
            refine wants_guard (d := 70) rfl rfl h70 ?_
            exact grown_loadf 42 (.tmp 14) rfl g14 0 h14 _ _ _ _ (unhide HT14 w hk) [.slice al ml cl, .slice aw mw cw, .int .i64 q] (flat_in rfl) Tryd.underlying42 rfl Tryd.polSize rfl
          refine steps_cons (fun a w hk hn => ?_) ?_
          · have h15 : a.eval (.tmp 15) = .pointer (some ⟨g15, 0, none⟩) := hn.1
            have h70 : a.eval (.tmp 70) = .bool true := hn.2.1
            clear hn
            refine wants_guard (d := 70) rfl rfl h70 ?_
            exact grown_loadf 27 (.tmp 15) rfl g15 0 h15 _ _ _ _ (unhide HT15 w hk) [.int .i64 sz, .slice ar mr cr] (flat_in rfl) Tryd.underlying27 rfl Tryd.chkSize rfl
          refine steps_cons (fun a w hk hn => ?_) ?_
          · have h16 : a.eval (.tmp 16) = .slice ag ng cg := hn.1
            have h70 : a.eval (.tmp 70) = .bool true := hn.2.1
            clear hn
            refine wants_guard (d := 70) rfl rfl h70 ?_
            exact grown_move (.tmp 16) rfl h16
          refine steps_cons (fun a w hk hn => ?_) ?_
          · have h71 : a.eval (.tmp 71) = .agg #[.slice al ml cl, .slice aw mw cw, .int .i64 q] := hn.1
            have h72 : a.eval (.tmp 72) = .agg #[.int .i64 sz, .slice ar mr cr] := hn.2.1
            have h73 : a.eval (.tmp 73) = .slice ag ng cg := hn.2.2.1
            have h70 : a.eval (.tmp 70) = .bool true := hn.2.2.2.1
            clear hn
            refine wants_guard (d := 70) rfl rfl h70 ?_
            refine grown_call (f := 13) rfl Tryd.func13 (by kernel_rfl) (by kernel_rfl) ?_
            simp only [List.map_toArray, List.map_cons, List.map_nil, h71, h72, h73]
            refine (cmet_any _ (polK no q) _ sz r _ gl false (unhide HBM) w (unhide HPO w hk) (unhide HCK w hk) (unhide HCL w hk) (unhide HGW w hk)).mono ?_
            rintro e w' ⟨rfl, K⟩
            exact ⟨_, rfl, K, rfl⟩
          refine steps_cons (fun a w hk hn => ?_) ?_
          · have h14 : a.eval (.tmp 14) = .pointer (some ⟨g14, 0, none⟩) := hn.1
            have h70 : a.eval (.tmp 70) = .bool true := hn.2.1
            clear hn
            refine wants_guard (d := 70) rfl rfl h70 ?_
            exact grown_loadf 42 (.tmp 14) rfl g14 0 h14 _ _ _ _ (unhide HT14 w hk) [.slice al ml cl, .slice aw mw cw, .int .i64 q] (flat_in rfl) Tryd.underlying42 rfl Tryd.polSize rfl
          refine steps_cons (fun a w hk hn => ?_) ?_
          · have h75 : a.eval (.tmp 75) = .agg #[.slice al ml cl, .slice aw mw cw, .int .i64 q] := hn.1
            have h70 : a.eval (.tmp 70) = .bool true := hn.2.1
            clear hn
            refine wants_guard (d := 70) rfl rfl h70 ?_
            refine grown_call (f := 24) rfl Tryd.func24 (by kernel_rfl) (by kernel_rfl) ?_
            simp only [List.map_toArray, List.map_cons, List.map_nil, h75]
            refine (rpolicy_any _ (polK no q) false (unhide HRP) w (unhide HPO w hk)).mono ?_
            rintro e w' ⟨rfl, K⟩
            exact ⟨_, rfl, K, rfl⟩
          refine steps_cons (fun a w hk hn => ?_) ?_
          · have h76 : a.eval (.tmp 76) = .bool false := hn.1
            have h70 : a.eval (.tmp 70) = .bool true := hn.2.1
            clear hn
            refine wants_guard (d := 70) rfl rfl h70 ?_
            exact grown_move (.tmp 76) rfl h76
          refine steps_cons (fun a w hk hn => ?_) ?_
          · have h18 : a.eval (.tmp 18) = .int .i64 mm := hn.1
            have h77 : a.eval (.tmp 77) = .bool false := hn.2.1
            clear hn
            exact wants_not (d := 77) rfl rfl h77 rfl
          refine steps_cons (fun a w hk hn => ?_) ?_
          · have h14 : a.eval (.tmp 14) = .pointer (some ⟨g14, 0, none⟩) := hn.1
            have h77 : a.eval (.tmp 77) = .bool false := hn.2.1
            clear hn
            exact wants_not (d := 77) rfl rfl h77 rfl
          refine steps_cons (fun a w hk hn => ?_) ?_
          · have h79 : a.eval (.tmp 79) = undef := hn.1
            have h77 : a.eval (.tmp 77) = .bool false := hn.2.1
            clear hn
            exact wants_not (d := 77) rfl rfl h77 rfl
          refine steps_cons (fun a w hk hn => ?_) ?_
          · have h78 : a.eval (.tmp 78) = undef := hn.1
            have h80 : a.eval (.tmp 80) = undef := hn.2.1
            have h77 : a.eval (.tmp 77) = .bool false := hn.2.2.1
            clear hn
            exact wants_not (d := 77) rfl rfl h77 rfl
          refine steps_cons (fun a w hk hn => ?_) ?_
          · have h77 : a.eval (.tmp 77) = .bool false := hn.1
            have h81 : a.eval (.tmp 81) = undef := hn.2.1
            have h70 : a.eval (.tmp 70) = .bool true := hn.2.2.1
            clear hn
            refine wants_guard (d := 70) rfl rfl h70 ?_
            exact grown_pick _ _ _ false rfl h77 rfl
          refine steps_cons (fun a w hk hn => ?_) ?_
          · have h74 : a.eval (.tmp 74) = .bool false := hn.1
            have h82 : a.eval (.tmp 82) = .bool false := hn.2.1
            have h70 : a.eval (.tmp 70) = .bool true := hn.2.2.1
            clear hn
            refine wants_guard (d := 70) rfl rfl h70 ?_
            refine grown_run (v := .bool true) ?_ (Kp.refl _ _) rfl
            obtain ⟨ρ, hρ, hc, hf, hg⟩ := eval_is a
            rw [hρ] at h74 h82 ⊢
            simp [go_sem, h74, h82]
          refine steps_cons (fun a w hk hn => ?_) ?_
          · have h70 : a.eval (.tmp 70) = .bool true := hn.1
            have h83 : a.eval (.tmp 83) = .bool true := hn.2.1
            clear hn
            refine wants_plain rfl ?_
            exact grown_pick _ _ _ true rfl h70 h83
          refine steps_cons (fun a w hk hn => ?_) ?_
          · have h84 : a.eval (.tmp 84) = .bool true := hn.1
            clear hn
            refine wants_plain rfl ?_
            exact grown_move (.tmp 84) rfl h84
          refine steps_cons (fun a w hk hn => ?_) ?_
          · have h14 : a.eval (.tmp 14) = .pointer (some ⟨g14, 0, none⟩) := hn.1
            have h85 : a.eval (.tmp 85) = .bool true := hn.2.1
            clear hn
            refine wants_guard (d := 85) rfl rfl h85 ?_
            exact grown_loadf 42 (.tmp 14) rfl g14 0 h14 _ _ _ _ (unhide HT14 w hk) [.slice al ml cl, .slice aw mw cw, .int .i64 q] (flat_in rfl) Tryd.underlying42 rfl Tryd.polSize rfl
          refine steps_cons (fun a w hk hn => ?_) ?_
          · have h86 : a.eval (.tmp 86) = .agg #[.slice al ml cl, .slice aw mw cw, .int .i64 q] := hn.1
            have h85 : a.eval (.tmp 85) = .bool true := hn.2.1
            clear hn
            refine wants_guard (d := 85) rfl rfl h85 ?_
            refine grown_call (f := 12) rfl Tryd.func12 (by kernel_rfl) (by kernel_rfl) ?_
            simp only [List.map_toArray, List.map_cons, List.map_nil, h86]
            refine (cright_any _ (polK no q) false (unhide HRP) w (unhide HPO w hk)).mono ?_
            rintro e w' ⟨rfl, K⟩
            exact ⟨_, rfl, K, rfl⟩
          refine steps_cons (fun a w hk hn => ?_) ?_
          · have h14 : a.eval (.tmp 14) = .pointer (some ⟨g14, 0, none⟩) := hn.1
            have h85 : a.eval (.tmp 85) = .bool true := hn.2.1
            clear hn
            refine wants_guard (d := 85) rfl rfl h85 ?_
            exact grown_loadf 42 (.tmp 14) rfl g14 0 h14 _ _ _ _ (unhide HT14 w hk) [.slice al ml cl, .slice aw mw cw, .int .i64 q] (flat_in rfl) Tryd.underlying42 rfl Tryd.polSize rfl
          refine steps_cons (fun a w hk hn => ?_) ?_
          · have h88 : a.eval (.tmp 88) = .agg #[.slice al ml cl, .slice aw mw cw, .int .i64 q] := hn.1
            have h85 : a.eval (.tmp 85) = .bool true := hn.2.1
            clear hn
            refine wants_guard (d := 85) rfl rfl h85 ?_
            refine grown_call (f := 24) rfl Tryd.func24 (by kernel_rfl) (by kernel_rfl) ?_
            simp only [List.map_toArray, List.map_cons, List.map_nil, h88]
            refine (rpolicy_any _ (polK no q) false (unhide HRP) w (unhide HPO w hk)).mono ?_
            rintro e w' ⟨rfl, K⟩
            exact ⟨_, rfl, K, rfl⟩
          refine steps_cons (fun a w hk hn => ?_) ?_
          · have h87 : a.eval (.tmp 87) = .bool false := hn.1
            have h89 : a.eval (.tmp 89) = .bool false := hn.2.1
            have h85 : a.eval (.tmp 85) = .bool true := hn.2.2.1
            clear hn
            refine wants_guard (d := 85) rfl rfl h85 ?_
            refine grown_run (v := .bool true) ?_ (Kp.refl _ _) rfl
            obtain ⟨ρ, hρ, hc, hf, hg⟩ := eval_is a
            rw [hρ] at h87 h89 ⊢
            simp [go_sem, h87, h89]
          refine steps_cons (fun a w hk hn => ?_) ?_
          · have h85 : a.eval (.tmp 85) = .bool true := hn.1
            have h90 : a.eval (.tmp 90) = .bool true := hn.2.1
            clear hn
            refine wants_plain rfl ?_
            exact grown_pick _ _ _ true rfl h85 h90
          refine steps_cons (fun a w hk hn => ?_) ?_
          · have h91 : a.eval (.tmp 91) = .bool true := hn.1
            clear hn
            refine wants_plain rfl ?_
            exact grown_move (.tmp 91) rfl h91
          refine steps_cons (fun a w hk hn => ?_) ?_
          · have h11 : a.eval (.tmp 11) = .pointer (some ⟨g11, 0, none⟩) := hn.1
            have h92 : a.eval (.tmp 92) = .bool true := hn.2.1
            clear hn
            refine wants_guard (d := 92) rfl rfl h92 ?_
            exact grown_loadf 42 (.tmp 11) rfl g11 0 h11 _ _ _ _ (unhide HT11 w hk) [.slice rl rm rk, .slice fw fm fk, .int .i64 rq] (flat_in rfl) Tryd.underlying42 rfl Tryd.polSize rfl
          refine steps_cons (fun a w hk hn => ?_) ?_
          · have h93 : a.eval (.tmp 93) = .agg #[.slice rl rm rk, .slice fw fm fk, .int .i64 rq] := hn.1
            have h92 : a.eval (.tmp 92) = .bool true := hn.2.1
            clear hn
            refine wants_guard (d := 92) rfl rfl h92 ?_
            refine grown_call (f := 12) rfl Tryd.func12 (by kernel_rfl) (by kernel_rfl) ?_
            simp only [List.map_toArray, List.map_cons, List.map_nil, h93]
            refine (cright_any _ pr br (unhide HBR) w (unhide HRO w hk)).mono ?_
            rintro e w' ⟨rfl, K⟩
            exact ⟨_, rfl, K, rfl⟩
          refine steps_cons (fun a w hk hn => ?_) ?_
          · have h11 : a.eval (.tmp 11) = .pointer (some ⟨g11, 0, none⟩) := hn.1
            have h92 : a.eval (.tmp 92) = .bool true := hn.2.1
            clear hn
            refine wants_guard (d := 92) rfl rfl h92 ?_
            exact grown_loadf 42 (.tmp 11) rfl g11 0 h11 _ _ _ _ (unhide HT11 w hk) [.slice rl rm rk, .slice fw fm fk, .int .i64 rq] (flat_in rfl) Tryd.underlying42 rfl Tryd.polSize rfl
          refine steps_cons (fun a w hk hn => ?_) ?_
          · have h95 : a.eval (.tmp 95) = .agg #[.slice rl rm rk, .slice fw fm fk, .int .i64 rq] := hn.1
            have h92 : a.eval (.tmp 92) = .bool true := hn.2.1
            clear hn
            refine wants_guard (d := 92) rfl rfl h92 ?_
            refine grown_call (f := 24) rfl Tryd.func24 (by kernel_rfl) (by kernel_rfl) ?_
            simp only [List.map_toArray, List.map_cons, List.map_nil, h95]
            refine (rpolicy_any _ pr br (unhide HBR) w (unhide HRO w hk)).mono ?_
            rintro e w' ⟨rfl, K⟩
            exact ⟨_, rfl, K, rfl⟩
          refine steps_cons (fun a w hk hn => ?_) ?_
          · have h94 : a.eval (.tmp 94) = .bool br := hn.1
            have h96 : a.eval (.tmp 96) = .bool br := hn.2.1
            have h92 : a.eval (.tmp 92) = .bool true := hn.2.2.1
            clear hn
            refine wants_guard (d := 92) rfl rfl h92 ?_
            refine grown_run (v := .bool true) ?_ (Kp.refl _ _) rfl
            obtain ⟨ρ, hρ, hc, hf, hg⟩ := eval_is a
            rw [hρ] at h94 h96 ⊢
            simp [go_sem, h94, h96]
          refine steps_cons (fun a w hk hn => ?_) ?_
          · have h92 : a.eval (.tmp 92) = .bool true := hn.1
            have h97 : a.eval (.tmp 97) = .bool true := hn.2.1
            clear hn
            refine wants_plain rfl ?_
            exact grown_pick _ _ _ true rfl h92 h97
          refine steps_cons (fun a w hk hn => ?_) ?_
          · have h98 : a.eval (.tmp 98) = .bool true := hn.1
            clear hn
            refine wants_plain rfl ?_
            exact grown_move (.tmp 98) rfl h98
          refine steps_cons (fun a w hk hn => ?_) ?_
          · have h99 : a.eval (.tmp 99) = .bool true := hn.1
            clear hn
            refine wants_guard (d := 99) rfl rfl h99 ?_
            refine grown_call (f := 17) rfl Tryd.func17 (by kernel_rfl) (by kernel_rfl) ?_
            simp only [List.map_toArray, List.map_nil]
            refine (known_any w (unhide HGW w hk)).mono ?_
            rintro e w' ⟨rfl, K⟩
            exact ⟨_, rfl, K, rfl⟩
          refine steps_cons (fun a w hk hn => ?_) ?_
          · have h99 : a.eval (.tmp 99) = .bool true := hn.1
            have h100 : a.eval (.tmp 100) = .bool true := hn.2.1
            clear hn
            refine wants_plain rfl ?_
            exact grown_pick _ _ _ true rfl h99 h100
          refine steps_cons (fun a w hk hn => ?_) ?_
          · have h101 : a.eval (.tmp 101) = .bool true := hn.1
            clear hn
            refine wants_plain rfl ?_
            exact grown_assign (.tmp 101) rfl h101
          exact trivial
        intro W2 hkW2
        rintro _ rfl
        rintro _ rfl
        rintro _ rfl
        rintro _ rfl
        rintro _ rfl
        rintro _ rfl
        rintro _ rfl
        rintro _ rfl
        rintro _ rfl
        rintro _ rfl
        rintro _ rfl
        rintro _ rfl
        rintro _ rfl
        rintro _ rfl
        rintro _ rfl
        rintro _ rfl
        rintro _ rfl
        rintro _ rfl
        rintro _ rfl
        rintro _ rfl
        rintro _ rfl
        rintro _ rfl
        rintro _ rfl
        rintro _ rfl
        rintro _ rfl
        rintro _ rfl
        rintro _ rfl
        rintro _ rfl
        rintro _ rfl
        rintro _ rfl
        rintro _ rfl
        rintro _ rfl
        rintro _ rfl
        rintro _ rfl
        rintro _ rfl
        rintro _ rfl
        rintro _ rfl
        rintro _ rfl
        rintro _ rfl
        refine fin_nil ?_
        simp only [Act.put, List.set_cons_zero, List.set_cons_succ, List.setIfInBounds_toArray]
        go_wp2_with fail
        go_ret
        exact ⟨rfl, (unhide HKD W2 hkW2).below (Nat.le_refl _) (by simp)⟩
      · by_cases hge : q ≤ (mm : Int)
        · skip
          have HBM : Hid (true = ((polK no q).rgt && decide ((polK no q).q ≤ (cntW (polK no q) sz r gl : Nat)))) := hide (unhide HB0 true (by simp [hge]))
          go_wp2_with fail
          refine region_grow Tryd.mixed [Is (.agg #[.slice al ml cl, .slice aw mw cw, .int .i64 q]), Is (.agg #[.int .i64 sz, .slice ar mr cr]), Is (.slice ag ng cg), Is (.int .i64 mm), Is (.int .i64 mm), Is (.bool true), Is (.bool true), Is (.agg #[.slice al ml cl, .slice aw mw cw, .int .i64 q]), Is (.agg #[.int .i64 sz, .slice ar mr cr]), Is (.slice ag ng cg), Is (.bool true), Is (.agg #[.slice al ml cl, .slice aw mw cw, .int .i64 q]), Is (.bool true), Is (.bool true), Is (.int .i64 mm), Is (.pointer (some ⟨g14, 2, none⟩)), Is (.int .i64 q), Is (.bool true), Is (.bool true), Is (.bool true), Is (.bool true), Is (.bool true), Is (.agg #[.slice al ml cl, .slice aw mw cw, .int .i64 q]), Is (.bool true), Is (.agg #[.slice al ml cl, .slice aw mw cw, .int .i64 q]), Is (.bool true), Is (.bool true), Is (.bool true), Is (.bool true), Is (.agg #[.slice rl rm rk, .slice fw fm fk, .int .i64 rq]), Is (.bool br), Is (.agg #[.slice rl rm rk, .slice fw fm fk, .int .i64 rq]), Is (.bool br), Is (.bool true), Is (.bool true), Is (.bool true), Is (.bool true), Is (.bool true), Is (.bool true)] [[(14, none)], [(15, none)], [(16, none)], [(64, some 0), (65, some 1), (66, some 2)], [(18, none)], [(67, some 3), (68, some 4)], [(69, some 5)], [(14, none), (70, some 6)], [(15, none), (70, some 6)], [(16, none), (70, some 6)], [(71, some 7), (72, some 8), (73, some 9), (70, some 6)], [(14, none), (70, some 6)], [(75, some 11), (70, some 6)], [(76, some 12), (70, some 6)], [(18, none), (77, some 13)], [(14, none), (77, some 13)], [(79, some 15), (77, some 13)], [(78, some 14), (80, some 16), (77, some 13)], [(77, some 13), (81, some 17), (70, some 6)], [(74, some 10), (82, some 18), (70, some 6)], [(70, some 6), (83, some 19)], [(84, some 20)], [(14, none), (85, some 21)], [(86, some 22), (85, some 21)], [(14, none), (85, some 21)], [(88, some 24), (85, some 21)], [(87, some 23), (89, some 25), (85, some 21)], [(85, some 21), (90, some 26)], [(91, some 27)], [(11, none), (92, some 28)], [(93, some 29), (92, some 28)], [(11, none), (92, some 28)], [(95, some 31), (92, some 28)], [(94, some 30), (96, some 32), (92, some 28)], [(92, some 28), (97, some 33)], [(98, some 34)], [(99, some 35)], [(99, some 35), (100, some 36)], [(101, some 37)]] (by kernel_rfl) ?_ ?_ ?_
          · simp only [List.mem_cons, List.not_mem_nil, or_false]
            intro R hR
            rcases hR with rfl | rfl | rfl | rfl | rfl | rfl | rfl | rfl | rfl | rfl | rfl | rfl | rfl | rfl | rfl | rfl | rfl | rfl | rfl | rfl | rfl | rfl | rfl | rfl | rfl | rfl | rfl | rfl | rfl | rfl | rfl | rfl | rfl | rfl | rfl | rfl | rfl | rfl | rfl <;> first | exact stable_is _
          · refine steps_cons (fun a w hk hn => ?_) ?_
            · have h14 : a.eval (.tmp 14) = .pointer (some ⟨g14, 0, none⟩) := hn.1
              clear hn
              refine wants_plain rfl ?_
              exact grown_loadf 42 (.tmp 14) rfl g14 0 h14 _ _ _ _ (unhide HT14 w hk) [.slice al ml cl, .slice aw mw cw, .int .i64 q] (flat_in rfl) Tryd.underlying42 rfl Tryd.polSize rfl
            refine steps_cons (fun a w hk hn => ?_) ?_
            · have h15 : a.eval (.tmp 15) = .pointer (some ⟨g15, 0, none⟩) := hn.1
              clear hn
              refine wants_plain rfl ?_
              exact grown_loadf 27 (.tmp 15) rfl g15 0 h15 _ _ _ _ (unhide HT15 w hk) [.int .i64 sz, .slice ar mr cr] (flat_in rfl) Tryd.underlying27 rfl Tryd.chkSize rfl
            refine steps_cons (fun a w hk hn => ?_) ?_
            · have h16 : a.eval (.tmp 16) = .slice ag ng cg := hn.1
              clear hn
              refine wants_plain rfl ?_
              exact grown_move (.tmp 16) rfl h16
            refine steps_cons (fun a w hk hn => ?_) ?_
            · have h64 : a.eval (.tmp 64) = .agg #[.slice al ml cl, .slice aw mw cw, .int .i64 q] := hn.1
              have h65 : a.eval (.tmp 65) = .agg #[.int .i64 sz, .slice ar mr cr] := hn.2.1
              have h66 : a.eval (.tmp 66) = .slice ag ng cg := hn.2.2.1
              clear hn
              refine wants_plain rfl ?_
              refine grown_call (f := 14) rfl Tryd.func14 (by kernel_rfl) (by kernel_rfl) ?_
              simp only [List.map_toArray, List.map_cons, List.map_nil, h64, h65, h66]
              refine (ccount_any _ (polK no q) _ sz r _ gl mm (unhide HMM) w (unhide HPO w hk) (unhide HCK w hk) (unhide HCL w hk) (unhide HGW w hk)).mono ?_
              rintro e w' ⟨rfl, K⟩
              exact ⟨_, rfl, K, rfl⟩
            refine steps_cons (fun a w hk hn => ?_) ?_
            · have h18 : a.eval (.tmp 18) = .int .i64 mm := hn.1
              clear hn
              refine wants_plain rfl ?_
              exact grown_move (.tmp 18) rfl h18
            refine steps_cons (fun a w hk hn => ?_) ?_
            · have h67 : a.eval (.tmp 67) = .int .i64 mm := hn.1
              have h68 : a.eval (.tmp 68) = .int .i64 mm := hn.2.1
              clear hn
              refine wants_plain rfl ?_
              refine grown_run (v := .bool true) ?_ (Kp.refl _ _) rfl
              obtain ⟨ρ, hρ, hc, hf, hg⟩ := eval_is a
              rw [hρ] at h67 h68 ⊢
              simp [go_sem, h67, h68]
            refine steps_cons (fun a w hk hn => ?_) ?_
            · have h69 : a.eval (.tmp 69) = .bool true := hn.1
              clear hn
              refine wants_plain rfl ?_
              exact grown_move (.tmp 69) rfl h69
            refine steps_cons (fun a w hk hn => ?_) ?_
            · have h14 : a.eval (.tmp 14) = .pointer (some ⟨g14, 0, none⟩) := hn.1
              have h70 : a.eval (.tmp 70) = .bool true := hn.2.1
              clear hn
              refine wants_guard (d := 70) rfl rfl h70 ?_
              exact grown_loadf 42 (.tmp 14) rfl g14 0 h14 _ _ _ _ (unhide HT14 w hk) [.slice al ml cl, .slice aw mw cw, .int .i64 q] (flat_in rfl) Tryd.underlying42 rfl Tryd.polSize rfl
            refine steps_cons (fun a w hk hn => ?_) ?_
            · have h15 : a.eval (.tmp 15) = .pointer (some ⟨g15, 0, none⟩) := hn.1
              have h70 : a.eval (.tmp 70) = .bool true := hn.2.1
              clear hn
              refine wants_guard (d := 70) rfl rfl h70 ?_
              exact grown_loadf 27 (.tmp 15) rfl g15 0 h15 _ _ _ _ (unhide HT15 w hk) [.int .i64 sz, .slice ar mr cr] (flat_in rfl) Tryd.underlying27 rfl Tryd.chkSize rfl
            refine steps_cons (fun a w hk hn => ?_) ?_
            · have h16 : a.eval (.tmp 16) = .slice ag ng cg := hn.1
              have h70 : a.eval (.tmp 70) = .bool true := hn.2.1
              clear hn
              refine wants_guard (d := 70) rfl rfl h70 ?_
              exact grown_move (.tmp 16) rfl h16
            refine steps_cons (fun a w hk hn => ?_) ?_
            · have h71 : a.eval (.tmp 71) = .agg #[.slice al ml cl, .slice aw mw cw, .int .i64 q] := hn.1
              have h72 : a.eval (.tmp 72) = .agg #[.int .i64 sz, .slice ar mr cr] := hn.2.1
              have h73 : a.eval (.tmp 73) = .slice ag ng cg := hn.2.2.1
              have h70 : a.eval (.tmp 70) = .bool true := hn.2.2.2.1
              clear hn
              refine wants_guard (d := 70) rfl rfl h70 ?_
              refine grown_call (f := 13) rfl Tryd.func13 (by kernel_rfl) (by kernel_rfl) ?_
              simp only [List.map_toArray, List.map_cons, List.map_nil, h71, h72, h73]
              refine (cmet_any _ (polK no q) _ sz r _ gl true (unhide HBM) w (unhide HPO w hk) (unhide HCK w hk) (unhide HCL w hk) (unhide HGW w hk)).mono ?_
              rintro e w' ⟨rfl, K⟩
              exact ⟨_, rfl, K, rfl⟩
            refine steps_cons (fun a w hk hn => ?_) ?_
            · have h14 : a.eval (.tmp 14) = .pointer (some ⟨g14, 0, none⟩) := hn.1
              have h70 : a.eval (.tmp 70) = .bool true := hn.2.1
              clear hn
              refine wants_guard (d := 70) rfl rfl h70 ?_
              exact grown_loadf 42 (.tmp 14) rfl g14 0 h14 _ _ _ _ (unhide HT14 w hk) [.slice al ml cl, .slice aw mw cw, .int .i64 q] (flat_in rfl) Tryd.underlying42 rfl Tryd.polSize rfl
            refine steps_cons (fun a w hk hn => ?_) ?_
            · have h75 : a.eval (.tmp 75) = .agg #[.slice al ml cl, .slice aw mw cw, .int .i64 q] := hn.1
              have h70 : a.eval (.tmp 70) = .bool true := hn.2.1
              clear hn
              refine wants_guard (d := 70) rfl rfl h70 ?_
              refine grown_call (f := 24) rfl Tryd.func24 (by kernel_rfl) (by kernel_rfl) ?_
              simp only [List.map_toArray, List.map_cons, List.map_nil, h75]
              refine (rpolicy_any _ (polK no q) true (unhide HRP) w (unhide HPO w hk)).mono ?_
              rintro e w' ⟨rfl, K⟩
              exact ⟨_, rfl, K, rfl⟩
            refine steps_cons (fun a w hk hn => ?_) ?_
            · have h76 : a.eval (.tmp 76) = .bool true := hn.1
              have h70 : a.eval (.tmp 70) = .bool true := hn.2.1
              clear hn
              refine wants_guard (d := 70) rfl rfl h70 ?_
              exact grown_move (.tmp 76) rfl h76
            refine steps_cons (fun a w hk hn => ?_) ?_
            · have h18 : a.eval (.tmp 18) = .int .i64 mm := hn.1
              have h77 : a.eval (.tmp 77) = .bool true := hn.2.1
              clear hn
              refine wants_guard (d := 77) rfl rfl h77 ?_
              exact grown_move (.tmp 18) rfl h18
            refine steps_cons (fun a w hk hn => ?_) ?_
            · have h14 : a.eval (.tmp 14) = .pointer (some ⟨g14, 0, none⟩) := hn.1
              have h77 : a.eval (.tmp 77) = .bool true := hn.2.1
              clear hn
              refine wants_guard (d := 77) rfl rfl h77 ?_
              refine grown_run (v := .pointer (some ⟨g14, 2, none⟩)) ?_ (Kp.refl _ _) rfl
              obtain ⟨ρ, hρ, hc, hf, hg⟩ := eval_is a
              rw [hρ] at h14 ⊢
              simp [go_sem, h14]
            refine steps_cons (fun a w hk hn => ?_) ?_
            · have h79 : a.eval (.tmp 79) = .pointer (some ⟨g14, 2, none⟩) := hn.1
              have h77 : a.eval (.tmp 77) = .bool true := hn.2.1
              clear hn
              refine wants_guard (d := 77) rfl rfl h77 ?_
              refine grown_run (v := .int .i64 q) ?_ (Kp.refl _ _) rfl
              have hcell : w.cell? ⟨g14, 2, none⟩ = some (.int .i64 q) := by rw [cell_of_row w g14 2 _ _ _ (unhide HT14 w hk)]; rfl
              obtain ⟨ρ, hρ, hc, hf, hg⟩ := eval_is a
              rw [hρ] at h79 ⊢
              simp [go_sem, h79, hcell]
            refine steps_cons (fun a w hk hn => ?_) ?_
            · have h78 : a.eval (.tmp 78) = .int .i64 mm := hn.1
              have h80 : a.eval (.tmp 80) = .int .i64 q := hn.2.1
              have h77 : a.eval (.tmp 77) = .bool true := hn.2.2.1
              clear hn
              refine wants_guard (d := 77) rfl rfl h77 ?_
              refine grown_run (v := .bool true) ?_ (Kp.refl _ _) rfl
              obtain ⟨ρ, hρ, hc, hf, hg⟩ := eval_is a
              rw [hρ] at h78 h80 ⊢
              simp [go_sem, h78, h80, hge]
            refine steps_cons (fun a w hk hn => ?_) ?_
            · have h77 : a.eval (.tmp 77) = .bool true := hn.1
              have h81 : a.eval (.tmp 81) = .bool true := hn.2.1
              have h70 : a.eval (.tmp 70) = .bool true := hn.2.2.1
              clear hn
              refine wants_guard (d := 70) rfl rfl h70 ?_
              exact grown_pick _ _ _ true rfl h77 h81
            refine steps_cons (fun a w hk hn => ?_) ?_
            · have h74 : a.eval (.tmp 74) = .bool true := hn.1
              have h82 : a.eval (.tmp 82) = .bool true := hn.2.1
              have h70 : a.eval (.tmp 70) = .bool true := hn.2.2.1
              clear hn
              refine wants_guard (d := 70) rfl rfl h70 ?_
              refine grown_run (v := .bool true) ?_ (Kp.refl _ _) rfl
              obtain ⟨ρ, hρ, hc, hf, hg⟩ := eval_is a
              rw [hρ] at h74 h82 ⊢
              simp [go_sem, h74, h82]
            refine steps_cons (fun a w hk hn => ?_) ?_
            · have h70 : a.eval (.tmp 70) = .bool true := hn.1
              have h83 : a.eval (.tmp 83) = .bool true := hn.2.1
              clear hn
              refine wants_plain rfl ?_
              exact grown_pick _ _ _ true rfl h70 h83
            refine steps_cons (fun a w hk hn => ?_) ?_
            · have h84 : a.eval (.tmp 84) = .bool true := hn.1
              clear hn
              refine wants_plain rfl ?_
              exact grown_move (.tmp 84) rfl h84
            refine steps_cons (fun a w hk hn => ?_) ?_
            · have h14 : a.eval (.tmp 14) = .pointer (some ⟨g14, 0, none⟩) := hn.1
              have h85 : a.eval (.tmp 85) = .bool true := hn.2.1
              clear hn
              refine wants_guard (d := 85) rfl rfl h85 ?_
              exact grown_loadf 42 (.tmp 14) rfl g14 0 h14 _ _ _ _ (unhide HT14 w hk) [.slice al ml cl, .slice aw mw cw, .int .i64 q] (flat_in rfl) Tryd.underlying42 rfl Tryd.polSize rfl
            refine steps_cons (fun a w hk hn => ?_) ?_
            · have h86 : a.eval (.tmp 86) = .agg #[.slice al ml cl, .slice aw mw cw, .int .i64 q] := hn.1
              have h85 : a.eval (.tmp 85) = .bool true := hn.2.1
              clear hn
              refine wants_guard (d := 85) rfl rfl h85 ?_
              refine grown_call (f := 12) rfl Tryd.func12 (by kernel_rfl) (by kernel_rfl) ?_
              simp only [List.map_toArray, List.map_cons, List.map_nil, h86]
              refine (cright_any _ (polK no q) true (unhide HRP) w (unhide HPO w hk)).mono ?_
              rintro e w' ⟨rfl, K⟩
              exact ⟨_, rfl, K, rfl⟩
            refine steps_cons (fun a w hk hn => ?_) ?_
            · have h14 : a.eval (.tmp 14) = .pointer (some ⟨g14, 0, none⟩) := hn.1
              have h85 : a.eval (.tmp 85) = .bool true := hn.2.1
              clear hn
              refine wants_guard (d := 85) rfl rfl h85 ?_
              exact grown_loadf 42 (.tmp 14) rfl g14 0 h14 _ _ _ _ (unhide HT14 w hk) [.slice al ml cl, .slice aw mw cw, .int .i64 q] (flat_in rfl) Tryd.underlying42 rfl Tryd.polSize rfl
            refine steps_cons (fun a w hk hn => ?_) ?_
            · have h88 : a.eval (.tmp 88) = .agg #[.slice al ml cl, .slice aw mw cw, .int .i64 q] := hn.1
              have h85 : a.eval (.tmp 85) = .bool true := hn.2.1
              clear hn
              refine wants_guard (d := 85) rfl rfl h85 ?_
              refine grown_call (f := 24) rfl Tryd.func24 (by kernel_rfl) (by kernel_rfl) ?_
              simp only [List.map_toArray, List.map_cons, List.map_nil, h88]
              refine (rpolicy_any _ (polK no q) true (unhide HRP) w (unhide HPO w hk)).mono ?_
              rintro e w' ⟨rfl, K⟩
              exact ⟨_, rfl, K, rfl⟩
            refine steps_cons (fun a w hk hn => ?_) ?_
            · have h87 : a.eval (.tmp 87) = .bool true := hn.1
              have h89 : a.eval (.tmp 89) = .bool true := hn.2.1
              have h85 : a.eval (.tmp 85) = .bool true := hn.2.2.1
              clear hn
              refine wants_guard (d := 85) rfl rfl h85 ?_
              refine grown_run (v := .bool true) ?_ (Kp.refl _ _) rfl
              obtain ⟨ρ, hρ, hc, hf, hg⟩ := eval_is a
              rw [hρ] at h87 h89 ⊢
              simp [go_sem, h87, h89]
            refine steps_cons (fun a w hk hn => ?_) ?_
            · have h85 : a.eval (.tmp 85) = .bool true := hn.1
              have h90 : a.eval (.tmp 90) = .bool true := hn.2.1
              clear hn
              refine wants_plain rfl ?_
              exact grown_pick _ _ _ true rfl h85 h90
            refine steps_cons (fun a w hk hn => ?_) ?_
            · have h91 : a.eval (.tmp 91) = .bool true := hn.1
              clear hn
              refine wants_plain rfl ?_
              exact grown_move (.tmp 91) rfl h91
            refine steps_cons (fun a w hk hn => ?_) ?_
            · have h11 : a.eval (.tmp 11) = .pointer (some ⟨g11, 0, none⟩) := hn.1
              have h92 : a.eval (.tmp 92) = .bool true := hn.2.1
              clear hn
              refine wants_guard (d := 92) rfl rfl h92 ?_
              exact grown_loadf 42 (.tmp 11) rfl g11 0 h11 _ _ _ _ (unhide HT11 w hk) [.slice rl rm rk, .slice fw fm fk, .int .i64 rq] (flat_in rfl) Tryd.underlying42 rfl Tryd.polSize rfl
            refine steps_cons (fun a w hk hn => ?_) ?_
            · have h93 : a.eval (.tmp 93) = .agg #[.slice rl rm rk, .slice fw fm fk, .int .i64 rq] := hn.1
              have h92 : a.eval (.tmp 92) = .bool true := hn.2.1
              clear hn
              refine wants_guard (d := 92) rfl rfl h92 ?_
              refine grown_call (f := 12) rfl Tryd.func12 (by kernel_rfl) (by kernel_rfl) ?_
              simp only [List.map_toArray, List.map_cons, List.map_nil, h93]
              refine (cright_any _ pr br (unhide HBR) w (unhide HRO w hk)).mono ?_
              rintro e w' ⟨rfl, K⟩
              exact ⟨_, rfl, K, rfl⟩
            refine steps_cons (fun a w hk hn => ?_) ?_
            · have h11 : a.eval (.tmp 11) = .pointer (some ⟨g11, 0, none⟩) := hn.1
              have h92 : a.eval (.tmp 92) = .bool true := hn.2.1
              clear hn
              refine wants_guard (d := 92) rfl rfl h92 ?_
              exact grown_loadf 42 (.tmp 11) rfl g11 0 h11 _ _ _ _ (unhide HT11 w hk) [.slice rl rm rk, .slice fw fm fk, .int .i64 rq] (flat_in rfl) Tryd.underlying42 rfl Tryd.polSize rfl
            refine steps_cons (fun a w hk hn => ?_) ?_
            · have h95 : a.eval (.tmp 95) = .agg #[.slice rl rm rk, .slice fw fm fk, .int .i64 rq] := hn.1
              have h92 : a.eval (.tmp 92) = .bool true := hn.2.1
              clear hn
              refine wants_guard (d := 92) rfl rfl h92 ?_
              refine grown_call (f := 24) rfl Tryd.func24 (by kernel_rfl) (by kernel_rfl) ?_
              simp only [List.map_toArray, List.map_cons, List.map_nil, h95]
              refine (rpolicy_any _ pr br (unhide HBR) w (unhide HRO w hk)).mono ?_
              rintro e w' ⟨rfl, K⟩
              exact ⟨_, rfl, K, rfl⟩
            refine steps_cons (fun a w hk hn => ?_) ?_
            · have h94 : a.eval (.tmp 94) = .bool br := hn.1
              have h96 : a.eval (.tmp 96) = .bool br := hn.2.1
              have h92 : a.eval (.tmp 92) = .bool true := hn.2.2.1
              clear hn
              refine wants_guard (d := 92) rfl rfl h92 ?_
              refine grown_run (v := .bool true) ?_ (Kp.refl _ _) rfl
              obtain ⟨ρ, hρ, hc, hf, hg⟩ := eval_is a
              rw [hρ] at h94 h96 ⊢
              simp [go_sem, h94, h96]
            refine steps_cons (fun a w hk hn => ?_) ?_
            · have h92 : a.eval (.tmp 92) = .bool true := hn.1
              have h97 : a.eval (.tmp 97) = .bool true := hn.2.1
              clear hn
              refine wants_plain rfl ?_
              exact grown_pick _ _ _ true rfl h92 h97
            refine steps_cons (fun a w hk hn => ?_) ?_
            · have h98 : a.eval (.tmp 98) = .bool true := hn.1
              clear hn
              refine wants_plain rfl ?_
              exact grown_move (.tmp 98) rfl h98
            refine steps_cons (fun a w hk hn => ?_) ?_
            · have h99 : a.eval (.tmp 99) = .bool true := hn.1
              clear hn
              refine wants_guard (d := 99) rfl rfl h99 ?_
              refine grown_call (f := 17) rfl Tryd.func17 (by kernel_rfl) (by kernel_rfl) ?_
              simp only [List.map_toArray, List.map_nil]
              refine (known_any w (unhide HGW w hk)).mono ?_
              rintro e w' ⟨rfl, K⟩
              exact ⟨_, rfl, K, rfl⟩
            refine steps_cons (fun a w hk hn => ?_) ?_
            · have h99 : a.eval (.tmp 99) = .bool true := hn.1
              have h100 : a.eval (.tmp 100) = .bool true := hn.2.1
              clear hn
              refine wants_plain rfl ?_
              exact grown_pick _ _ _ true rfl h99 h100
            refine steps_cons (fun a w hk hn => ?_) ?_
            · have h101 : a.eval (.tmp 101) = .bool true := hn.1
              clear hn
              refine wants_plain rfl ?_
              exact grown_assign (.tmp 101) rfl h101
            exact trivial
          intro W2 hkW2
          rintro _ rfl
          rintro _ rfl
          rintro _ rfl
          rintro _ rfl
          rintro _ rfl
          rintro _ rfl
          rintro _ rfl
          rintro _ rfl
          rintro _ rfl
          rintro _ rfl
          rintro _ rfl
          rintro _ rfl
          rintro _ rfl
          rintro _ rfl
          rintro _ rfl
          rintro _ rfl
          rintro _ rfl
          rintro _ rfl
          rintro _ rfl
          rintro _ rfl
          rintro _ rfl
          rintro _ rfl
          rintro _ rfl
          rintro _ rfl
          rintro _ rfl
          rintro _ rfl
          rintro _ rfl
          rintro _ rfl
          rintro _ rfl
          rintro _ rfl
          rintro _ rfl
          rintro _ rfl
          rintro _ rfl
          rintro _ rfl
          rintro _ rfl
          rintro _ rfl
          rintro _ rfl
          rintro _ rfl
          rintro _ rfl
          refine fin_nil ?_
          simp only [Act.put, List.set_cons_zero, List.set_cons_succ, List.setIfInBounds_toArray]
          go_wp2_with fail
          go_ret
          exact ⟨rfl, (unhide HKD W2 hkW2).below (Nat.le_refl _) (by simp)⟩
        replace hge : (mm : Int) < q := by omega
        have HBM : Hid (false = ((polK no q).rgt && decide ((polK no q).q ≤ (cntW (polK no q) sz r gl : Nat)))) := hide (unhide HB0 false (by simp; omega))
        go_wp2_with fail
        refine region_grow Tryd.mixed [Is (.agg #[.slice al ml cl, .slice aw mw cw, .int .i64 q]), Is (.agg #[.int .i64 sz, .slice ar mr cr]), Is (.slice ag ng cg), Is (.int .i64 mm), Is (.int .i64 mm), Is (.bool true), Is (.bool true), Is (.agg #[.slice al ml cl, .slice aw mw cw, .int .i64 q]), Is (.agg #[.int .i64 sz, .slice ar mr cr]), Is (.slice ag ng cg), Is (.bool false), Is (.agg #[.slice al ml cl, .slice aw mw cw, .int .i64 q]), Is (.bool true), Is (.bool true), Is (.int .i64 mm), Is (.pointer (some ⟨g14, 2, none⟩)), Is (.int .i64 q), Is (.bool false), Is (.bool false), Is (.bool true), Is (.bool true), Is (.bool true), Is (.agg #[.slice al ml cl, .slice aw mw cw, .int .i64 q]), Is (.bool true), Is (.agg #[.slice al ml cl, .slice aw mw cw, .int .i64 q]), Is (.bool true), Is (.bool true), Is (.bool true), Is (.bool true), Is (.agg #[.slice rl rm rk, .slice fw fm fk, .int .i64 rq]), Is (.bool br), Is (.agg #[.slice rl rm rk, .slice fw fm fk, .int .i64 rq]), Is (.bool br), Is (.bool true), Is (.bool true), Is (.bool true), Is (.bool true), Is (.bool true), Is (.bool true)] [[(14, none)], [(15, none)], [(16, none)], [(64, some 0), (65, some 1), (66, some 2)], [(18, none)], [(67, some 3), (68, some 4)], [(69, some 5)], [(14, none), (70, some 6)], [(15, none), (70, some 6)], [(16, none), (70, some 6)], [(71, some 7), (72, some 8), (73, some 9), (70, some 6)], [(14, none), (70, some 6)], [(75, some 11), (70, some 6)], [(76, some 12), (70, some 6)], [(18, none), (77, some 13)], [(14, none), (77, some 13)], [(79, some 15), (77, some 13)], [(78, some 14), (80, some 16), (77, some 13)], [(77, some 13), (81, some 17), (70, some 6)], [(74, some 10), (82, some 18), (70, some 6)], [(70, some 6), (83, some 19)], [(84, some 20)], [(14, none), (85, some 21)], [(86, some 22), (85, some 21)], [(14, none), (85, some 21)], [(88, some 24), (85, some 21)], [(87, some 23), (89, some 25), (85, some 21)], [(85, some 21), (90, some 26)], [(91, some 27)], [(11, none), (92, some 28)], [(93, some 29), (92, some 28)], [(11, none), (92, some 28)], [(95, some 31), (92, some 28)], [(94, some 30), (96, some 32), (92, some 28)], [(92, some 28), (97, some 33)], [(98, some 34)], [(99, some 35)], [(99, some 35), (100, some 36)], [(101, some 37)]] (by kernel_rfl) ?_ ?_ ?_
        · simp only [List.mem_cons, List.not_mem_nil, or_false]
          intro R hR
          rcases hR with rfl | rfl | rfl | rfl | rfl | rfl | rfl | rfl | rfl | rfl | rfl | rfl | rfl | rfl | rfl | rfl | rfl | rfl | rfl | rfl | rfl | rfl | rfl | rfl | rfl | rfl | rfl | rfl | rfl | rfl | rfl | rfl | rfl | rfl | rfl | rfl | rfl | rfl | rfl <;> first | exact stable_is _
        · refine steps_cons (fun a w hk hn => ?_) ?_
          · have h14 : a.eval (.tmp 14) = .pointer (some ⟨g14, 0, none⟩) := hn.1
            clear hn
            refine wants_plain rfl ?_
            exact grown_loadf 42 (.tmp 14) rfl g14 0 h14 _ _ _ _ (unhide HT14 w hk) [.slice al ml cl, .slice aw mw cw, .int .i64 q] (flat_in rfl) Tryd.underlying42 rfl Tryd.polSize rfl
          refine steps_cons (fun a w hk hn => ?_) ?_
          · have h15 : a.eval (.tmp 15) = .pointer (some ⟨g15, 0, none⟩) := hn.1
            clear hn
            refine wants_plain rfl ?_
            exact grown_loadf 27 (.tmp 15) rfl g15 0 h15 _ _ _ _ (unhide HT15 w hk) [.int .i64 sz, .slice ar mr cr] (flat_in rfl) Tryd.underlying27 rfl Tryd.chkSize rfl
          refine steps_cons (fun a w hk hn => ?_) ?_
          · have h16 : a.eval (.tmp 16) = .slice ag ng cg := hn.1
            clear hn
            refine wants_plain rfl ?_
            exact grown_move (.tmp 16) rfl h16
          refine steps_cons (fun a w hk hn => ?_) ?_
          · have h64 : a.eval (.tmp 64) = .agg #[.slice al ml cl, .slice aw mw cw, .int .i64 q] := hn.1
            have h65 : a.eval (.tmp 65) = .agg #[.int .i64 sz, .slice ar mr cr] := hn.2.1
            have h66 : a.eval (.tmp 66) = .slice ag ng cg := hn.2.2.1
            clear hn
            refine wants_plain rfl ?_
            refine grown_call (f := 14) rfl Tryd.func14 (by kernel_rfl) (by kernel_rfl) ?_
            simp only [List.map_toArray, List.map_cons, List.map_nil, h64, h65, h66]
            refine (ccount_any _ (polK no q) _ sz r _ gl mm (unhide HMM) w (unhide HPO w hk) (unhide HCK w hk) (unhide HCL w hk) (unhide HGW w hk)).mono ?_
            rintro e w' ⟨rfl, K⟩
            exact ⟨_, rfl, K, rfl⟩
          refine steps_cons (fun a w hk hn => ?_) ?_
          · have h18 : a.eval (.tmp 18) = .int .i64 mm := hn.1
            clear hn
            refine wants_plain rfl ?_
            exact grown_move (.tmp 18) rfl h18
          refine steps_cons (fun a w hk hn => ?_) ?_
          · have h67 : a.eval (.tmp 67) = .int .i64 mm := hn.1
            have h68 : a.eval (.tmp 68) = .int .i64 mm := hn.2.1
            clear hn
            refine wants_plain rfl ?_
            refine grown_run (v := .bool true) ?_ (Kp.refl _ _) rfl
            obtain ⟨ρ, hρ, hc, hf, hg⟩ := eval_is a
            rw [hρ] at h67 h68 ⊢
            simp [go_sem, h67, h68]
          refine steps_cons (fun a w hk hn => ?_) ?_
          · have h69 : a.eval (.tmp 69) = .bool true := hn.1
            clear hn
            refine wants_plain rfl ?_
            exact grown_move (.tmp 69) rfl h69
          refine steps_cons (fun a w hk hn => ?_) ?_
          · have h14 : a.eval (.tmp 14) = .pointer (some ⟨g14, 0, none⟩) := hn.1
            have h70 : a.eval (.tmp 70) = .bool true := hn.2.1
            clear hn
            refine wants_guard (d := 70) rfl rfl h70 ?_
            exact grown_loadf 42 (.tmp 14) rfl g14 0 h14 _ _ _ _ (unhide HT14 w hk) [.slice al ml cl, .slice aw mw cw, .int .i64 q] (flat_in rfl) Tryd.underlying42 rfl Tryd.polSize rfl
          refine steps_cons (fun a w hk hn => ?_) ?_
          · have h15 : a.eval (.tmp 15) = .pointer (some ⟨g15, 0, none⟩) := hn.1
            have h70 : a.eval (.tmp 70) = .bool true := hn.2.1
            clear hn
            refine wants_guard (d := 70) rfl rfl h70 ?_
            exact grown_loadf 27 (.tmp 15) rfl g15 0 h15 _ _ _ _ (unhide HT15 w hk) [.int .i64 sz, .slice ar mr cr] (flat_in rfl) Tryd.underlying27 rfl Tryd.chkSize rfl
          refine steps_cons (fun a w hk hn => ?_) ?_
          · have h16 : a.eval (.tmp 16) = .slice ag ng cg := hn.1
            have h70 : a.eval (.tmp 70) = .bool true := hn.2.1
            clear hn
            refine wants_guard (d := 70) rfl rfl h70 ?_
            exact grown_move (.tmp 16) rfl h16
          refine steps_cons (fun a w hk hn => ?_) ?_
          · have h71 : a.eval (.tmp 71) = .agg #[.slice al ml cl, .slice aw mw cw, .int .i64 q] := hn.1
            have h72 : a.eval (.tmp 72) = .agg #[.int .i64 sz, .slice ar mr cr] := hn.2.1
            have h73 : a.eval (.tmp 73) = .slice ag ng cg := hn.2.2.1
            have h70 : a.eval (.tmp 70) = .bool true := hn.2.2.2.1
            clear hn
            refine wants_guard (d := 70) rfl rfl h70 ?_
            refine grown_call (f := 13) rfl Tryd.func13 (by kernel_rfl) (by kernel_rfl) ?_
            simp only [List.map_toArray, List.map_cons, List.map_nil, h71, h72, h73]
            refine (cmet_any _ (polK no q) _ sz r _ gl false (unhide HBM) w (unhide HPO w hk) (unhide HCK w hk) (unhide HCL w hk) (unhide HGW w hk)).mono ?_
            rintro e w' ⟨rfl, K⟩
            exact ⟨_, rfl, K, rfl⟩
          refine steps_cons (fun a w hk hn => ?_) ?_
          · have h14 : a.eval (.tmp 14) = .pointer (some ⟨g14, 0, none⟩) := hn.1
            have h70 : a.eval (.tmp 70) = .bool true := hn.2.1
            clear hn
            refine wants_guard (d := 70) rfl rfl h70 ?_
            exact grown_loadf 42 (.tmp 14) rfl g14 0 h14 _ _ _ _ (unhide HT14 w hk) [.slice al ml cl, .slice aw mw cw, .int .i64 q] (flat_in rfl) Tryd.underlying42 rfl Tryd.polSize rfl
          refine steps_cons (fun a w hk hn => ?_) ?_
          · have h75 : a.eval (.tmp 75) = .agg #[.slice al ml cl, .slice aw mw cw, .int .i64 q] := hn.1
            have h70 : a.eval (.tmp 70) = .bool true := hn.2.1
            clear hn
            refine wants_guard (d := 70) rfl rfl h70 ?_
            refine grown_call (f := 24) rfl Tryd.func24 (by kernel_rfl) (by kernel_rfl) ?_
            simp only [List.map_toArray, List.map_cons, List.map_nil, h75]
            refine (rpolicy_any _ (polK no q) true (unhide HRP) w (unhide HPO w hk)).mono ?_
            rintro e w' ⟨rfl, K⟩
            exact ⟨_, rfl, K, rfl⟩
          refine steps_cons (fun a w hk hn => ?_) ?_
          · have h76 : a.eval (.tmp 76) = .bool true := hn.1
            have h70 : a.eval (.tmp 70) = .bool true := hn.2.1
            clear hn
            refine wants_guard (d := 70) rfl rfl h70 ?_
            exact grown_move (.tmp 76) rfl h76
          refine steps_cons (fun a w hk hn => ?_) ?_
          · have h18 : a.eval (.tmp 18) = .int .i64 mm := hn.1
            have h77 : a.eval (.tmp 77) = .bool true := hn.2.1
            clear hn
            refine wants_guard (d := 77) rfl rfl h77 ?_
            exact grown_move (.tmp 18) rfl h18
          refine steps_cons (fun a w hk hn => ?_) ?_
          · have h14 : a.eval (.tmp 14) = .pointer (some ⟨g14, 0, none⟩) := hn.1
            have h77 : a.eval (.tmp 77) = .bool true := hn.2.1
            clear hn
            refine wants_guard (d := 77) rfl rfl h77 ?_
            refine grown_run (v := .pointer (some ⟨g14, 2, none⟩)) ?_ (Kp.refl _ _) rfl
            obtain ⟨ρ, hρ, hc, hf, hg⟩ := eval_is a
            rw [hρ] at h14 ⊢
            simp [go_sem, h14]
          refine steps_cons (fun a w hk hn => ?_) ?_
          · have h79 : a.eval (.tmp 79) = .pointer (some ⟨g14, 2, none⟩) := hn.1
            have h77 : a.eval (.tmp 77) = .bool true := hn.2.1
            clear hn
            refine wants_guard (d := 77) rfl rfl h77 ?_
            refine grown_run (v := .int .i64 q) ?_ (Kp.refl _ _) rfl
            have hcell : w.cell? ⟨g14, 2, none⟩ = some (.int .i64 q) := by rw [cell_of_row w g14 2 _ _ _ (unhide HT14 w hk)]; rfl
            obtain ⟨ρ, hρ, hc, hf, hg⟩ := eval_is a
            rw [hρ] at h79 ⊢
            simp [go_sem, h79, hcell]
          refine steps_cons (fun a w hk hn => ?_) ?_
          · have h78 : a.eval (.tmp 78) = .int .i64 mm := hn.1
            have h80 : a.eval (.tmp 80) = .int .i64 q := hn.2.1
            have h77 : a.eval (.tmp 77) = .bool true := hn.2.2.1
            clear hn
            refine wants_guard (d := 77) rfl rfl h77 ?_
            refine grown_run (v := .bool false) ?_ (Kp.refl _ _) rfl
            obtain ⟨ρ, hρ, hc, hf, hg⟩ := eval_is a
            rw [hρ] at h78 h80 ⊢
            simp [go_sem, h78, h80, hge]
          refine steps_cons (fun a w hk hn => ?_) ?_
          · have h77 : a.eval (.tmp 77) = .bool true := hn.1
            have h81 : a.eval (.tmp 81) = .bool false := hn.2.1
            have h70 : a.eval (.tmp 70) = .bool true := hn.2.2.1
            clear hn
            refine wants_guard (d := 70) rfl rfl h70 ?_
            exact grown_pick _ _ _ true rfl h77 h81
          refine steps_cons (fun a w hk hn => ?_) ?_
          · have h74 : a.eval (.tmp 74) = .bool false := hn.1
            have h82 : a.eval (.tmp 82) = .bool false := hn.2.1
            have h70 : a.eval (.tmp 70) = .bool true := hn.2.2.1
            clear hn
            refine wants_guard (d := 70) rfl rfl h70 ?_
            refine grown_run (v := .bool true) ?_ (Kp.refl _ _) rfl
            obtain ⟨ρ, hρ, hc, hf, hg⟩ := eval_is a
            rw [hρ] at h74 h82 ⊢
            simp [go_sem, h74, h82]
          refine steps_cons (fun a w hk hn => ?_) ?_
          · have h70 : a.eval (.tmp 70) = .bool true := hn.1
            have h83 : a.eval (.tmp 83) = .bool true := hn.2.1
            clear hn
            refine wants_plain rfl ?_
            exact grown_pick _ _ _ true rfl h70 h83
          refine steps_cons (fun a w hk hn => ?_) ?_
          · have h84 : a.eval (.tmp 84) = .bool true := hn.1
            clear hn
            refine wants_plain rfl ?_
            exact grown_move (.tmp 84) rfl h84
          refine steps_cons (fun a w hk hn => ?_) ?_
          · have h14 : a.eval (.tmp 14) = .pointer (some ⟨g14, 0, none⟩) := hn.1
            have h85 : a.eval (.tmp 85) = .bool true := hn.2.1
            clear hn
            refine wants_guard (d := 85) rfl rfl h85 ?_
            exact grown_loadf 42 (.tmp 14) rfl g14 0 h14 _ _ _ _ (unhide HT14 w hk) [.slice al ml cl, .slice aw mw cw, .int .i64 q] (flat_in rfl) Tryd.underlying42 rfl Tryd.polSize rfl
          refine steps_cons (fun a w hk hn => ?_) ?_
          · have h86 : a.eval (.tmp 86) = .agg #[.slice al ml cl, .slice aw mw cw, .int .i64 q] := hn.1
            have h85 : a.eval (.tmp 85) = .bool true := hn.2.1
            clear hn
            refine wants_guard (d := 85) rfl rfl h85 ?_
            refine grown_call (f := 12) rfl Tryd.func12 (by kernel_rfl) (by kernel_rfl) ?_
            simp only [List.map_toArray, List.map_cons, List.map_nil, h86]
            refine (cright_any _ (polK no q) true (unhide HRP) w (unhide HPO w hk)).mono ?_
            rintro e w' ⟨rfl, K⟩
            exact ⟨_, rfl, K, rfl⟩
          refine steps_cons (fun a w hk hn => ?_) ?_
          · have h14 : a.eval (.tmp 14) = .pointer (some ⟨g14, 0, none⟩) := hn.1
            have h85 : a.eval (.tmp 85) = .bool true := hn.2.1
            clear hn
            refine wants_guard (d := 85) rfl rfl h85 ?_
            exact grown_loadf 42 (.tmp 14) rfl g14 0 h14 _ _ _ _ (unhide HT14 w hk) [.slice al ml cl, .slice aw mw cw, .int .i64 q] (flat_in rfl) Tryd.underlying42 rfl Tryd.polSize rfl
          refine steps_cons (fun a w hk hn => ?_) ?_
          · have h88 : a.eval (.tmp 88) = .agg #[.slice al ml cl, .slice aw mw cw, .int .i64 q] := hn.1
            have h85 : a.eval (.tmp 85) = .bool true := hn.2.1
            clear hn
            refine wants_guard (d := 85) rfl rfl h85 ?_
            refine grown_call (f := 24) rfl Tryd.func24 (by kernel_rfl) (by kernel_rfl) ?_
            simp only [List.map_toArray, List.map_cons, List.map_nil, h88]
            refine (rpolicy_any _ (polK no q) true (unhide HRP) w (unhide HPO w hk)).mono ?_
            rintro e w' ⟨rfl, K⟩
            exact ⟨_, rfl, K, rfl⟩
          refine steps_cons (fun a w hk hn => ?_) ?_
          · have h87 : a.eval (.tmp 87) = .bool true := hn.1
            have h89 : a.eval (.tmp 89) = .bool true := hn.2.1
            have h85 : a.eval (.tmp 85) = .bool true := hn.2.2.1
            clear hn
            refine wants_guard (d := 85) rfl rfl h85 ?_
            refine grown_run (v := .bool true) ?_ (Kp.refl _ _) rfl
            obtain ⟨ρ, hρ, hc, hf, hg⟩ := eval_is a
            rw [hρ] at h87 h89 ⊢
            simp [go_sem, h87, h89]
          refine steps_cons (fun a w hk hn => ?_) ?_
          · have h85 : a.eval (.tmp 85) = .bool true := hn.1
            have h90 : a.eval (.tmp 90) = .bool true := hn.2.1
            clear hn
            refine wants_plain rfl ?_
            exact grown_pick _ _ _ true rfl h85 h90
          refine steps_cons (fun a w hk hn => ?_) ?_
          · have h91 : a.eval (.tmp 91) = .bool true := hn.1
            clear hn
            refine wants_plain rfl ?_
            exact grown_move (.tmp 91) rfl h91
          refine steps_cons (fun a w hk hn => ?_) ?_
          · have h11 : a.eval (.tmp 11) = .pointer (some ⟨g11, 0, none⟩) := hn.1
            have h92 : a.eval (.tmp 92) = .bool true := hn.2.1
            clear hn
            refine wants_guard (d := 92) rfl rfl h92 ?_
            exact grown_loadf 42 (.tmp 11) rfl g11 0 h11 _ _ _ _ (unhide HT11 w hk) [.slice rl rm rk, .slice fw fm fk, .int .i64 rq] (flat_in rfl) Tryd.underlying42 rfl Tryd.polSize rfl
          refine steps_cons (fun a w hk hn => ?_) ?_
          · have h93 : a.eval (.tmp 93) = .agg #[.slice rl rm rk, .slice fw fm fk, .int .i64 rq] := hn.1
            have h92 : a.eval (.tmp 92) = .bool true := hn.2.1
            clear hn
            refine wants_guard (d := 92) rfl rfl h92 ?_
            refine grown_call (f := 12) rfl Tryd.func12 (by kernel_rfl) (by kernel_rfl) ?_
            simp only [List.map_toArray, List.map_cons, List.map_nil, h93]
            refine (cright_any _ pr br (unhide HBR) w (unhide HRO w hk)).mono ?_
            rintro e w' ⟨rfl, K⟩
            exact ⟨_, rfl, K, rfl⟩
          refine steps_cons (fun a w hk hn => ?_) ?_
          · have h11 : a.eval (.tmp 11) = .pointer (some ⟨g11, 0, none⟩) := hn.1
            have h92 : a.eval (.tmp 92) = .bool true := hn.2.1
            clear hn
            refine wants_guard (d := 92) rfl rfl h92 ?_
            exact grown_loadf 42 (.tmp 11) rfl g11 0 h11 _ _ _ _ (unhide HT11 w hk) [.slice rl rm rk, .slice fw fm fk, .int .i64 rq] (flat_in rfl) Tryd.underlying42 rfl Tryd.polSize rfl
          refine steps_cons (fun a w hk hn => ?_) ?_
          · have h95 : a.eval (.tmp 95) = .agg #[.slice rl rm rk, .slice fw fm fk, .int .i64 rq] := hn.1
            have h92 : a.eval (.tmp 92) = .bool true := hn.2.1
            clear hn
            refine wants_guard (d := 92) rfl rfl h92 ?_
            refine grown_call (f := 24) rfl Tryd.func24 (by kernel_rfl) (by kernel_rfl) ?_
            simp only [List.map_toArray, List.map_cons, List.map_nil, h95]
            refine (rpolicy_any _ pr br (unhide HBR) w (unhide HRO w hk)).mono ?_
            rintro e w' ⟨rfl, K⟩
            exact ⟨_, rfl, K, rfl⟩
          refine steps_cons (fun a w hk hn => ?_) ?_
          · have h94 : a.eval (.tmp 94) = .bool br := hn.1
            have h96 : a.eval (.tmp 96) = .bool br := hn.2.1
            have h92 : a.eval (.tmp 92) = .bool true := hn.2.2.1
            clear hn
            refine wants_guard (d := 92) rfl rfl h92 ?_
            refine grown_run (v := .bool true) ?_ (Kp.refl _ _) rfl
            obtain ⟨ρ, hρ, hc, hf, hg⟩ := eval_is a
            rw [hρ] at h94 h96 ⊢
            simp [go_sem, h94, h96]
          refine steps_cons (fun a w hk hn => ?_) ?_
          · have h92 : a.eval (.tmp 92) = .bool true := hn.1
            have h97 : a.eval (.tmp 97) = .bool true := hn.2.1
            clear hn
            refine wants_plain rfl ?_
            exact grown_pick _ _ _ true rfl h92 h97
          refine steps_cons (fun a w hk hn => ?_) ?_
          · have h98 : a.eval (.tmp 98) = .bool true := hn.1
            clear hn
            refine wants_plain rfl ?_
            exact grown_move (.tmp 98) rfl h98
          refine steps_cons (fun a w hk hn => ?_) ?_
          · have h99 : a.eval (.tmp 99) = .bool true := hn.1
            clear hn
            refine wants_guard (d := 99) rfl rfl h99 ?_
            refine grown_call (f := 17) rfl Tryd.func17 (by kernel_rfl) (by kernel_rfl) ?_
            simp only [List.map_toArray, List.map_nil]
            refine (known_any w (unhide HGW w hk)).mono ?_
            rintro e w' ⟨rfl, K⟩
            exact ⟨_, rfl, K, rfl⟩
          refine steps_cons (fun a w hk hn => ?_) ?_
          · have h99 : a.eval (.tmp 99) = .bool true := hn.1
            have h100 : a.eval (.tmp 100) = .bool true := hn.2.1
            clear hn
            refine wants_plain rfl ?_
            exact grown_pick _ _ _ true rfl h99 h100
          refine steps_cons (fun a w hk hn => ?_) ?_
          · have h101 : a.eval (.tmp 101) = .bool true := hn.1
            clear hn
            refine wants_plain rfl ?_
            exact grown_assign (.tmp 101) rfl h101
          exact trivial
        intro W2 hkW2
        rintro _ rfl
        rintro _ rfl
        rintro _ rfl
        rintro _ rfl
        rintro _ rfl
        rintro _ rfl
        rintro _ rfl
        rintro _ rfl
        rintro _ rfl
        rintro _ rfl
        rintro _ rfl
        rintro _ rfl
        rintro _ rfl
        rintro _ rfl
        rintro _ rfl
        rintro _ rfl
        rintro _ rfl
        rintro _ rfl
        rintro _ rfl
        rintro _ rfl
        rintro _ rfl
        rintro _ rfl
        rintro _ rfl
        rintro _ rfl
        rintro _ rfl
        rintro _ rfl
        rintro _ rfl
        rintro _ rfl
        rintro _ rfl
        rintro _ rfl
        rintro _ rfl
        rintro _ rfl
        rintro _ rfl
        rintro _ rfl
        rintro _ rfl
        rintro _ rfl
        rintro _ rfl
        rintro _ rfl
        rintro _ rfl
        refine fin_nil ?_
        simp only [Act.put, List.set_cons_zero, List.set_cons_succ, List.setIfInBounds_toArray]
        go_wp2_with fail
        go_ret
        exact ⟨rfl, (unhide HKD W2 hkW2).below (Nat.le_refl _) (by simp)⟩

set_option maxRecDepth 100000 in
theorem lifted (os : Os) (started : os.Started) (H : Type) (enc : TypeId × Value → H) :
    ReturnsInHanded {} Tryd.checked os 4 .any (fun w args => (Rows.cosignTellsSpec.pre enc Tryd.prog Tryd.f4 [] false w args ∧ laidMetH Tryd.prog laid1 w) ∧ sizedMet enc Tryd.prog Tryd.f4 (OpenSpec.ofChange Rows.cosignTellsSpec) false w args) (Rows.cosignTellsSpec.post enc Tryd.prog Tryd.f4 false true false false) := by
  refine returnsInHanded_of_change_and (C := Tryd.checked) (X := fun w _ => laidMetH Tryd.prog laid1 w) (fun _ _ _ hh h => h.of_heap hh) own started (by kernel_rfl) Tryd.func4
    (ChangeSpec.witness_shaped (enc := enc) (C := Tryd.checked) (os := os) (X := fun w _ => laidMetH Tryd.prog laid1 w) false (World.doorLaid Tryd.prog 400 os) #[.int .i64 0, .int .i64 0, .int .i64 0, .int .i64 0, .slice none 0 0, .agg #[.slice none 0 0, .slice none 0 0, .int .i64 0]] 8 rfl (World.shaped_of_RefB (by kernel_rfl) (by kernel_rfl)) (by kernel_rfl) (by kernel_rfl) (by kernel_rfl) (door_met os _)) ?_
  intro W base args ds gs before hval0 hW hcnd hsz0 hL _
  have hG := gl_of_laid hL
  have hval : ∀ (j : Nat) t v, Tryd.f4.params[j]? = some t → args[j]? = some v → Value.okWide Tryd.prog W .any base t v := hval0
  have hW' := hW
  obtain ⟨p, q, hA0, hV, rfl, hfz, hnd⟩ := hW
  have hA : DataW.TrodAll enc Tryd.prog W 0 (fun _ => true) true Tryd.f4.params.toList args.toList ds p := hA0
  rw [Tryd.params4] at hA hval
  obtain ⟨v0, vs0, d0, ds0, p0, q0, hargs, rfl, rfl, h0, r0⟩ := trodAll_cons hA
  obtain ⟨v1, vs1, d1, ds1, p1, q1, rfl, rfl, rfl, h1, r1⟩ := trodAll_cons r0
  obtain ⟨v2, vs2, d2, ds2, p2, q2, rfl, rfl, rfl, h2, r2⟩ := trodAll_cons r1
  obtain ⟨v3, vs3, d3, ds3, p3, q3, rfl, rfl, rfl, h3, r3⟩ := trodAll_cons r2
  obtain ⟨v4, vs4, d4, ds4, p4, q4, rfl, rfl, rfl, h4, r4⟩ := trodAll_cons r3
  obtain ⟨v5, vs5, d5, ds5, p5, q5, rfl, rfl, rfl, h5, r5⟩ := trodAll_cons r4
  obtain ⟨rfl, rfl, rfl⟩ := trodAll_nil r5
  obtain rfl : args = #[v0, v1, v2, v3, v4, v5] := by cases args; simp_all
  obtain ⟨rfl, rfl⟩ := trodVars_none hV
  obtain ⟨a0, rfl, rfl, rfl, w0⟩ := open_int Tryd.underlying3 (hval 0 3 v0 rfl rfl) h0
  obtain ⟨a1, rfl, rfl, rfl, w1⟩ := open_int Tryd.underlying3 (hval 1 3 v1 rfl rfl) h1
  obtain ⟨a2, rfl, rfl, rfl, w2⟩ := open_int Tryd.underlying3 (hval 2 3 v2 rfl rfl) h2
  obtain ⟨a3, rfl, rfl, rfl, w3⟩ := open_int Tryd.underlying3 (hval 3 3 v3 rfl rfl) h3
  obtain ⟨a4, len4, cap4, rfl⟩ := okWide_slice Tryd.underlying49 (hval 4 49 v4 rfl rfl)
  have k4 := h4
  have lt4 : ∀ x ∈ p4, x.block < W.heap.size := by obtain ⟨m, hm⟩ := k4; exact DataW.trod_lt m _ _ _ hm
  obtain ⟨l4, s4⟩ : ∃ l, DrL W (.slice a4 len4 cap4) l := by
    obtain ⟨fuel, hf⟩ := h4
    exact draws_of_trod (by simpa [Value.cells] using hf)
  have k5 := h5
  have lt5 : ∀ x ∈ p5, x.block < W.heap.size := by obtain ⟨m, hm⟩ := k5; exact DataW.trod_lt m _ _ _ hm
  have s5 := pol_open (hval 5 42 v5 rfl rfl) h5
  clear hA0 hval0
  refine (walk a0 a1 a2 a3 (.slice a4 len4 cap4) l4 v5 W hG (bounds_i64 w0) (bounds_i64 w1) (bounds_i64 w2) (bounds_i64 w3) s4 s5).mono fun e W' ⟨he, bel⟩ => ?_
  subst he
  exact ⟨_, rfl, _, _, _, [], _, [], hW', trodAll_mk1 (shut_bool Tryd.underlying4 _), (trodAll_cons_mk (shut_int Tryd.underlying3 w0) (trodAll_cons_mk (shut_int Tryd.underlying3 w1) (trodAll_cons_mk (shut_int Tryd.underlying3 w2) (trodAll_cons_mk (shut_int Tryd.underlying3 w3) (trodAll_cons_mk (Below.trod laidOut (by kernel_rfl) (of_decide_eq_true (by kernel_rfl)) k4 bel lt4) (trodAll_cons_mk (Below.trod laidOut (by kernel_rfl) (of_decide_eq_true (by kernel_rfl)) k5 bel lt5) trodAll_mk0)))))), rfl, bel.frame _, fun h => by cases h⟩

theorem over : Rows.cosignTellsRow.holds Tryd.pinned (OpenSpec.ofChange Rows.cosignTellsSpec) :=
  OpenClaim.holds_of_wide 4 Tryd.f4 rfl rfl rfl rfl rfl rfl rfl ⟨rfl, rfl, rfl, rfl, rfl⟩ rfl rfl rfl rfl rfl (by kernel_rfl) Tryd.func4 (by kernel_rfl)
    (of_decide_eq_true (by kernel_rfl)) (by unfold Func.isWrapper; first | (rw [if_pos (by decide +kernel)]; kernel_rfl) | (rw [if_neg (by decide +kernel)]; exact ⟨rfl, rfl⟩))
    (fun os started H enc _ => lifted os started H enc)
end Go.Proofs.YtdjofooggofpkaaDoor.cosignTells

namespace Go.Proofs.YtdjofooggofpkaaDoor
/-- The given statement: the tied card. -/
theorem CosignTells_holds : Rows.CosignTellsCardSaid :=
  Claim7.holds_tied_plain_at .later [] [.data] true Rows.cosignTellsCard.stood.harness false
    cosignTells.over (fun _ h => by cases h) (by kernel_rfl) (fun _ h => by cases h) cosignTells_row_tie rfl ⟨rfl, rfl⟩ (by kernel_rfl) rfl
    (fun f fn hf hfn => by
      obtain rfl : f = 4 := Option.some.inj ((show Tryd.prog.funcNamed "broadsheet/broadsheetlaw11.CosignTells" = some 4 by kernel_rfl).symm.trans hf) |>.symm
      obtain rfl : fn = Tryd.f4 := (Option.some.inj (Tryd.func4.symm.trans hfn)).symm
      exact ⟨by kernel_rfl, fun j t ht => by
        rw [Tryd.params4] at ht
        have hm : t ∈ ([3, 3, 3, 3, 49, 42] : List TypeId) := by simpa using Array.mem_of_getElem? ht
        have hall : (([3, 3, 3, 3, 49, 42] : List TypeId).all fun u => !Tryd.prog.wantsStandIn u) = true := by kernel_rfl
        exact (show Tryd.prog.wantsStandIn t = false by simpa using List.all_eq_true.1 hall t hm)⟩)
    (by kernel_rfl)
#print axioms CosignTells_holds
end Go.Proofs.YtdjofooggofpkaaDoor
