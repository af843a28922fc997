/-
  The statement CosignCountsCardSaid: for all numbers and lists of draws the law function CosignCounts returns true and leaves its arguments as they were; the table hash.roundWords starts as the program's text lays it (tied). No other condition.
-/
import Derived.Test.YtdjofooggofpkaaDoorKYMades
import Derived.Test.YtdjofooggofpkaaDoorKYProg
import Derived.Test.YtdjofooggofpkaaDoorKYKnown
import Derived.Test.YtdjofooggofpkaaDoorKYApp
import Derived.Test.YtdjofooggofpkaaDoorKYCnt
import Derived.Test.YtdjofooggofpkaaDoorKLSmalls
import Derived.Test.YtdjofooggofpkaaDoorKHSmalls
import Derived.Test.YtdjofooggofpkaaDoorTie
import Derived.Test.YtdjofooggofpkaaDoorCards
import Derived.SevenTiedAt
namespace Go.Proofs.YtdjofooggofpkaaDoor.cosignCounts
open Go.ChangeShapes Go.WideShapes Go.ChangeAt Go.RowKit
open Go.Proofs.YtdjofooggofpkaaDoor
set_option linter.unusedVariables false

theorem rev_at {gl : List Co} {i j : Nat} (h : i + 1 + j = gl.length) : gl.reverse.getD j co0 = gl[i]'(by omega) := by
  have hj : j < gl.reverse.length := by simp; omega
  rw [List.getD, List.getElem?_eq_getElem hj, Option.getD_some, List.getElem_reverse]
  congr 1
  omega
set_option maxRecDepth 100000 in
set_option maxHeartbeats 16000000 in
theorem walk (xn : Int) (vl : Value) (l : List Dr) (w : World) (hG : Gl w) (hb0 : -9223372036854775808 ≤ xn ∧ xn ≤ 9223372036854775807) (hD : DrL w vl l) :
    Calls Tryd.prog 5 #[.int .i64 xn, vl] w fun e w' => e = .returned (.bool true) ∧ Below w.heap.size w w' := by
  have HG := hide hG
  have HD0 := hide hD
  obtain ⟨ad, cd, rfl, -, -⟩ := hD
  obtain ⟨nd, hnd⟩ : ∃ n, n = l.length := ⟨_, rfl⟩
  rw [← hnd] at HD0 ⊢
  obtain ⟨no, hno⟩ : ∃ k : Nat, (k : Int) = wiP xn 1 4 := ⟨(wiP xn 1 4).toNat, by have := wiP_ge xn 1 4 (by omega); omega⟩
  have hno1 : 1 ≤ no ∧ no ≤ 4 := by have := wiP_ge xn 1 4 (by omega); omega
  obtain ⟨r, hr⟩ : ∃ r, r = hashX 2 := ⟨_, rfl⟩
  have HW1 := hide (within_wi xn 1 4 w (by omega) (by omega) (by omega))
  have HH := hide (fun w => xhash_any 2 w)
  rw [← hno] at HW1
  rw [← hr] at HH
  have HRB : Hid (Bs r) := hide (by rw [hr]; exact hashX_bs 2)
  have HNO := hide hno1
  have HOWN := hide (owners_any no hno1.2 w)
  clear hG hb0 hnd hno hr hno1
  go_enter Tryd.func5, Tryd.ntmps5
  go_wp2_with fail
  refine (unhide HW1).mono ?_
  rintro ee wx ⟨rfl, hwx⟩
  subst wx
  go_wp2_with fail
  refine (unhide HOWN).mono ?_
  rintro ee w2 ⟨ao, co, rfl, R2⟩
  have HO2 := hide R2.owl
  have HK2 := hide R2.kp
  clear R2 HW1 HOWN
  have HPl := hide (policy_any _ no 1 w2 (unhide HO2) (unhide HNO).2)
  go_wp2_with fail
  refine (unhide HPl).mono ?_
  rintro ee w3 ⟨al, ml, cl, aw, mw, cw, rfl, S3, A3⟩
  have HP3 := hide (pol_v (q := 1) (unhide HNO).2 S3 A3)
  have HK3 := hide ((unhide HK2).trans A3.kp)
  have HO3 := hide ((unhide HO2).kept A3.kp)
  have Ga := heap_alloc_new w3 (.cells #[.slice none 0 0, .slice none 0 0, .int .i64 0] 42)
  have HKa : Hid (Kp [] w3 (w3.alloc (.cells #[.slice none 0 0, .slice none 0 0, .int .i64 0] 42))) := (Kp.refl [] w3).alloc _
  clear HPl S3 A3 HO2 HK2
  go_wp2_with (refine wpList_store_flat rfl 42 (.tmp 6) (.tmp 19) rfl w3.heap.size 0 rfl _ _ [.slice al ml cl, .slice aw mw cw, .int .i64 1] Ga rfl (by simp) Tryd.polSize (by simp [Value.oneCell']) #[.slice al ml cl, .slice aw mw cw, .int .i64 1] rfl ?_; intro w4 G4 K4; refine Hid.out ?_)
  obtain ⟨g6, hg6⟩ : ∃ g, g = w3.heap.size := ⟨_, rfl⟩
  have K34 : Kp [] w3 w4 := (unhide HKa).then K4 (fun i hi => .inr (by simp at hi; omega))
  rw [← hg6] at G4 ⊢
  have HK4 := hide ((unhide HK3).trans K34)
  have HP4 := hide ((unhide HP3).kept K34)
  have HO4 := hide ((unhide HO3).kept K34)
  have HG64 := hide G4
  clear Ga HKa G4 K4 K34 hg6 HP3 HO3 HK3
  refine hide ?_
  go_wp2_with fail
  refine (unhide HH w4).mono ?_
  rintro ee w5 ⟨ar, mr, cr, rfl, R5, K5⟩
  have HS5 := hide R5.sl
  have HK5 := hide K5
  have Ga := heap_alloc_new w5 (.cells #[.int .i64 0, .slice none 0 0] 27)
  have HKa : Hid (Kp [] w5 (w5.alloc (.cells #[.int .i64 0, .slice none 0 0] 27))) := (Kp.refl [] w5).alloc _
  clear R5 K5 HH
  go_wp2_with (refine wpList_store_flat rfl 27 (.tmp 7) (.tmp 21) rfl w5.heap.size 0 rfl _ _ [.int .i64 5, .slice ar mr cr] Ga rfl (by simp) Tryd.chkSize (by simp [Value.oneCell']) #[.int .i64 5, .slice ar mr cr] rfl ?_; intro w6 G6 K6; refine Hid.out ?_)
  obtain ⟨g7, hg7⟩ : ∃ g, g = w5.heap.size := ⟨_, rfl⟩
  have K56 : Kp [] w5 w6 := (unhide HKa).then K6 (fun i hi => .inr (by simp at hi; omega))
  rw [← hg7] at G6 ⊢
  have K46 := (unhide HK5).trans K56
  have HK6 := hide ((unhide HK4).trans K46)
  have HP6 := hide ((unhide HP4).kept K46)
  have HO6 := hide ((unhide HO4).kept K46)
  have HG66 := hide (K46.heap (unhide HG64) (by simp))
  have HG76 := hide G6
  have HC6 : Hid (CkV w6 (.agg #[.int .i64 5, .slice ar mr cr]) 5 r) := ⟨ar, mr, cr, rfl, (unhide HS5).kept K56 (by simp), unhide HRB⟩
  have c0 : w6.cell? ⟨g7, 0, none⟩ = some (.int .i64 5) := by rw [cell_of_row w6 g7 0 _ _ _ (unhide HG76)]; rfl
  have c1 : w6.cell? ⟨g7, 1, none⟩ = some (.slice ar mr cr) := by rw [cell_of_row w6 g7 1 _ _ _ (unhide HG76)]; rfl
  have HMd := hide (made_any _ l _ no _ 5 r w6 ((unhide HD0).kept (unhide HK6)) (unhide HO6) (unhide HNO) (unhide HC6))
  clear Ga HKa G6 K6 K56 K46 hg7 HP4 HO4 HG64 HS5 HK5 HK4
  refine hide ?_
  go_wp2_with fail
  refine (unhide HMd).mono ?_
  rintro ee w7 ⟨ag, ng, cg, rfl, hng, R7⟩
  obtain ⟨gl, hgl⟩ : ∃ x, x = mdW no 5 r l := ⟨_, rfl⟩
  rw [← hgl] at R7 hng
  have hlen : gl.length ≤ 6 := by rw [hgl, mdW_len]; omega
  have HGL : Hid (gl.length ≤ 1000) := hide (by omega)
  have HL7 := hide (R7.col (by omega))
  obtain ⟨⟨xs, hXR, hxl, hXP⟩, K67⟩ := R7
  have HXR := hide hXR
  have HXL := hide hxl
  have HXP7 := hide hXP
  have HNG := hide hng
  have HK7 := hide ((unhide HK6).trans K67)
  have HP7 := hide ((unhide HP6).kept K67)
  have HG67 := hide (K67.heap (unhide HG66) (by simp))
  have HG77 := hide (K67.heap (unhide HG76) (by simp))
  have HC7 := hide ((unhide HC6).kept K67)
  have hn6 : ng ≤ 6 := by omega
  clear HMd hXR hxl hXP K67 HP6 HO6 HG66 HG76 HC6 HK6 c0 c1 hgl HD0 hng hlen
  go_wp2_with fail
  go_loopw [10, 11] (fun vs vi wr => ∃ j : Nat, j ≤ no ∧ vi = .int .i64 j ∧ vs = .int .i64 (sumW (polK no 1) 5 r gl j) ∧ Kp [] w7 wr) (fun _ vi _ => no - (intOf vi).toNat)
  case atStart => exact ⟨0, by omega, rfl, rfl, Kp.refl _ _⟩
  case round =>
    obtain ⟨j, hj, rfl, rfl, hKr⟩ := hrel
    obtain ⟨wo, hwo⟩ : ∃ x, x = wr := ⟨_, rfl⟩
    subst hwo
    have HKr := hide hKr
    obtain ⟨sj, hsj⟩ : ∃ s, s = sumW (polK no 1) 5 r gl j := ⟨_, rfl⟩
    have HSJ := hide hsj
    have hsj4 : sj ≤ 4 := by rw [hsj]; have := sumW_le (p := polK no 1) (n := 5) (r := r) (l := gl) j; have := (unhide HNO).2; omega
    rw [← hsj]
    clear hKr hsj
    by_cases hjn : j < no
    · have hjn2 : (j : Int) < (no : Int) := by omega
      have hj4 : j < 4 := by have := (unhide HNO).2; omega
      go_wp2_with fail
      go_loopw [12, 13] (fun vb vi wr => ∃ (k : Nat) (b : Bool), k ≤ ng ∧ vi = .int .i64 k ∧ vb = .bool b ∧ b = seenW (polK no 1) 5 r (gl.take k) j ∧ Kp [] wo wr) (fun _ vi _ => ng - (intOf vi).toNat)
      case atStart => exact ⟨0, false, by omega, rfl, rfl, rfl, Kp.refl _ _⟩
      case round =>
        obtain ⟨k, b, hk, rfl, rfl, hb, hKs⟩ := hrel
        have HB := hide hb
        have HKs := hide hKs
        clear hb hKs
        by_cases hlt : k < ng
        · have hlt2 : (k : Int) < (ng : Int) := by omega
          have hkl : k < gl.length := by have := unhide HNG; omega
          obtain ⟨ag', cg', eg', -, hcell⟩ := unhide HL7
          injection eg' with e1 e2 e3
          subst e1
          obtain ⟨bg, og, ap, np, cp, aq, nq, cq, rfl, hr0, hsig⟩ := hcell k hkl
          have hst := seenW_take (p := polK no 1) (n := 5) (r := r) k hkl (j : Int)
          rw [← unhide HB] at hst
          obtain ⟨c, hc⟩ : ∃ c, c = gl[k]'hkl := ⟨_, rfl⟩
          rw [← hc] at hr0 hsig hst
          obtain ⟨ck, hck⟩ : ∃ x, x = c.k := ⟨_, rfl⟩
          obtain ⟨ci, hci⟩ : ∃ x, x = c.i := ⟨_, rfl⟩
          rw [← hck, ← hci] at hr0
          rw [← hck] at hst
          have HDr : Hid (∀ w', Kp [] wr.drew w' → Kp [] wo w') := fun w' k' => (unhide HKs).trans ((kp_drew wr).trans k')
          have HD7 : Hid (∀ w', Kp [] wr.drew w' → Kp [] w7 w') := fun w' k' => (unhide HKr).trans (unhide HDr w' k')
          have HLD : Hid (∀ w', Kp [] wr.drew w' → (loadVar 33 ⟨bg, og + k * 4, none⟩).run Tryd.prog w' = .ok (.agg #[.int .i64 ck, .int .i64 ci, .slice ap np cp, .slice aq nq cq]) w') := fun w' k' => run_loadVar_mid w' bg (og + k * 4) 33 [.int .i64 ck, .int .i64 ci, .slice ap np cp, .slice aq nq cq] _ (fun j u hu => (unhide HD7 w' k').cell (hr0 j u hu) (by simp)) Tryd.underlying33 rfl Tryd.cosSize
          have HLC : Hid (∀ w', Kp [] wr.drew w' → w'.cell? ⟨bg, og + k * 4, none⟩ = some (.int .i64 ck)) := fun w' k' => (unhide HD7 w' k').cell (hr0 0 _ rfl) (by simp)
          have HV : Hid (∀ w', Kp [] wr.drew w' → CoV w' (.agg #[.int .i64 ck, .int .i64 ci, .slice ap np cp, .slice aq nq cq]) c) := fun w' k' => ⟨ap, np, cp, aq, nq, cq, by rw [hck, hci], by have := hsig.kept (unhide HD7 w' k'); rw [← hci] at this ⊢; exact this⟩
          have HT6 : Hid (∀ w', Kp [] wr.drew w' → w'.heap[g6]? = some (.cells #[.slice al ml cl, .slice aw mw cw, .int .i64 1] 42 (0, 0))) := fun w' k' => (unhide HD7 w' k').heap (unhide HG67) (by simp)
          have HT7 : Hid (∀ w', Kp [] wr.drew w' → w'.heap[g7]? = some (.cells #[.int .i64 5, .slice ar mr cr] 27 (0, 0))) := fun w' k' => (unhide HD7 w' k').heap (unhide HG77) (by simp)
          have HPO : Hid (∀ w', Kp [] wr.drew w' → PoV w' (.agg #[.slice al ml cl, .slice aw mw cw, .int .i64 1]) (polK no 1)) := fun w' k' => (unhide HP7).kept (unhide HD7 w' k')
          have HCK : Hid (∀ w', Kp [] wr.drew w' → CkV w' (.agg #[.int .i64 5, .slice ar mr cr]) 5 r) := fun w' k' => (unhide HC7).kept (unhide HD7 w' k')
          have HGW : Hid (∀ w', Kp [] wr.drew w' → Gl w') := fun w' k' => (unhide HG).kept ((unhide HK7).trans (unhide HD7 w' k')) (by simp)
          obtain ⟨bv, hbv⟩ : ∃ b, b = verW (polK no 1) 5 r c := ⟨_, rfl⟩
          rw [← hbv] at hst
          have HBV := hide hbv
          have HST := hide hst
          clear hcell hr0 hsig hc hck hci hbv e2 e3 HL7 hst HB
          cases b
          · by_cases hckj : ck = (j : Int)
            · have HSN : Hid (bv = seenW (polK no 1) 5 r (gl.take (k + 1)) j) := hide (by rw [unhide HST, decide_eq_true hckj]; simp)
              go_wp2_with fail
              refine region_grow Tryd.mixed [Is (.bool false), Is (.bool false), Is (.slice (some ⟨bg, og, none⟩) ng cg), Is (.int .i64 k), Is (.pointer (some ⟨bg, og + k * 4, none⟩)), Is (.pointer (some ⟨bg, og + k * 4, none⟩)), Is (.int .i64 ck), Is (.int .i64 j), Is (.bool true), Is (.bool true), Is (.agg #[.slice al ml cl, .slice aw mw cw, .int .i64 1]), Is (.agg #[.int .i64 5, .slice ar mr cr]), Is (.slice (some ⟨bg, og, none⟩) ng cg), Is (.int .i64 k), Is (.pointer (some ⟨bg, og + k * 4, none⟩)), Is (.agg #[.int .i64 ck, .int .i64 ci, .slice ap np cp, .slice aq nq cq]), Is (.bool bv), Is (.bool bv), Is (.bool bv), Is (.bool bv)] [[(12, none)], [(38, some 0)], [(8, none), (39, some 1)], [(13, none), (39, some 1)], [(40, some 2), (41, some 3), (39, some 1)], [(42, some 4), (39, some 1)], [(43, some 5), (39, some 1)], [(11, none), (39, some 1)], [(44, some 6), (45, some 7), (39, some 1)], [(46, some 8), (39, some 1)], [(6, none), (47, some 9)], [(7, none), (47, some 9)], [(8, none), (47, some 9)], [(13, none), (47, some 9)], [(50, some 12), (51, some 13), (47, some 9)], [(52, some 14), (47, some 9)], [(48, some 10), (49, some 11), (53, some 15), (47, some 9)], [(47, some 9), (54, some 16), (39, some 1)], [(39, some 1), (55, some 17)], [(56, some 18)]] (by kernel_rfl) ?_ ?_ ?_
              · simp only [List.mem_cons, List.not_mem_nil, or_false]
                intro R hR
                rcases hR with rfl | rfl | rfl | rfl | rfl | rfl | rfl | rfl | rfl | rfl | rfl | rfl | rfl | rfl | rfl | rfl | rfl | rfl | rfl | rfl <;> first | exact stable_is _
              · refine steps_cons (fun a w hk hn => ?_) ?_
                · have h12 : a.eval (.tmp 12) = .bool false := hn.1
                  clear hn
                  refine wants_plain rfl ?_
                  exact grown_move (.tmp 12) rfl h12
                refine steps_cons (fun a w hk hn => ?_) ?_
                · have h38 : a.eval (.tmp 38) = .bool false := hn.1
                  clear hn
                  refine wants_plain rfl ?_
                  exact grown_move (.tmp 38) rfl h38
                refine steps_cons (fun a w hk hn => ?_) ?_
                · have h8 : a.eval (.tmp 8) = .slice (some ⟨bg, og, none⟩) ng cg := hn.1
                  have h39 : a.eval (.tmp 39) = .bool false := hn.2.1
                  clear hn
                  refine wants_guard (d := 39) rfl rfl h39 ?_
                  exact grown_move (.tmp 8) rfl h8
                refine steps_cons (fun a w hk hn => ?_) ?_
                · have h13 : a.eval (.tmp 13) = .int .i64 k := hn.1
                  have h39 : a.eval (.tmp 39) = .bool false := hn.2.1
                  clear hn
                  refine wants_guard (d := 39) rfl rfl h39 ?_
                  exact grown_move (.tmp 13) rfl h13
                refine steps_cons (fun a w hk hn => ?_) ?_
                · have h40 : a.eval (.tmp 40) = .slice (some ⟨bg, og, none⟩) ng cg := hn.1
                  have h41 : a.eval (.tmp 41) = .int .i64 k := hn.2.1
                  have h39 : a.eval (.tmp 39) = .bool false := hn.2.2.1
                  clear hn
                  refine wants_guard (d := 39) rfl rfl h39 ?_
                  refine grown_run (v := .pointer (some ⟨bg, og + k * 4, none⟩)) ?_ (Kp.refl _ _) rfl
                  obtain ⟨ρ, hρ, hc, hf, hg⟩ := eval_is a
                  rw [hρ] at h40 h41 ⊢
                  simp [go_sem, h40, h41, hlt2]
                refine steps_cons (fun a w hk hn => ?_) ?_
                · have h42 : a.eval (.tmp 42) = .pointer (some ⟨bg, og + k * 4, none⟩) := hn.1
                  have h39 : a.eval (.tmp 39) = .bool false := hn.2.1
                  clear hn
                  refine wants_guard (d := 39) rfl rfl h39 ?_
                  refine grown_run (v := .pointer (some ⟨bg, og + k * 4, none⟩)) ?_ (Kp.refl _ _) rfl
                  obtain ⟨ρ, hρ, hc, hf, hg⟩ := eval_is a
                  rw [hρ] at h42 ⊢
                  simp [go_sem, h42]
                refine steps_cons (fun a w hk hn => ?_) ?_
                · have h43 : a.eval (.tmp 43) = .pointer (some ⟨bg, og + k * 4, none⟩) := hn.1
                  have h39 : a.eval (.tmp 39) = .bool false := hn.2.1
                  clear hn
                  refine wants_guard (d := 39) rfl rfl h39 ?_
                  refine grown_run (v := .int .i64 ck) ?_ (Kp.refl _ _) rfl
                  have hcell := unhide HLC w hk
                  obtain ⟨ρ, hρ, hc, hf, hg⟩ := eval_is a
                  rw [hρ] at h43 ⊢
                  simp [go_sem, h43, hcell]
                refine steps_cons (fun a w hk hn => ?_) ?_
                · have h11 : a.eval (.tmp 11) = .int .i64 j := hn.1
                  have h39 : a.eval (.tmp 39) = .bool false := hn.2.1
                  clear hn
                  refine wants_guard (d := 39) rfl rfl h39 ?_
                  exact grown_move (.tmp 11) rfl h11
                refine steps_cons (fun a w hk hn => ?_) ?_
                · have h44 : a.eval (.tmp 44) = .int .i64 ck := hn.1
                  have h45 : a.eval (.tmp 45) = .int .i64 j := hn.2.1
                  have h39 : a.eval (.tmp 39) = .bool false := hn.2.2.1
                  clear hn
                  refine wants_guard (d := 39) rfl rfl h39 ?_
                  refine grown_run (v := .bool true) ?_ (Kp.refl _ _) rfl
                  obtain ⟨ρ, hρ, hc, hf, hg⟩ := eval_is a
                  rw [hρ] at h44 h45 ⊢
                  simp [go_sem, h44, h45, hckj]
                refine steps_cons (fun a w hk hn => ?_) ?_
                · have h46 : a.eval (.tmp 46) = .bool true := hn.1
                  have h39 : a.eval (.tmp 39) = .bool false := hn.2.1
                  clear hn
                  refine wants_guard (d := 39) rfl rfl h39 ?_
                  exact grown_move (.tmp 46) rfl h46
                refine steps_cons (fun a w hk hn => ?_) ?_
                · have h6 : a.eval (.tmp 6) = .pointer (some ⟨g6, 0, none⟩) := hn.1
                  have h47 : a.eval (.tmp 47) = .bool true := hn.2.1
                  clear hn
                  refine wants_guard (d := 47) rfl rfl h47 ?_
                  exact grown_loadf 42 (.tmp 6) rfl g6 0 h6 _ _ _ _ (unhide HT6 w hk) [.slice al ml cl, .slice aw mw cw, .int .i64 1] (flat_in rfl) Tryd.underlying42 rfl Tryd.polSize rfl
                refine steps_cons (fun a w hk hn => ?_) ?_
                · have h7 : a.eval (.tmp 7) = .pointer (some ⟨g7, 0, none⟩) := hn.1
                  have h47 : a.eval (.tmp 47) = .bool true := hn.2.1
                  clear hn
                  refine wants_guard (d := 47) rfl rfl h47 ?_
                  exact grown_loadf 27 (.tmp 7) rfl g7 0 h7 _ _ _ _ (unhide HT7 w hk) [.int .i64 5, .slice ar mr cr] (flat_in rfl) Tryd.underlying27 rfl Tryd.chkSize rfl
                refine steps_cons (fun a w hk hn => ?_) ?_
                · have h8 : a.eval (.tmp 8) = .slice (some ⟨bg, og, none⟩) ng cg := hn.1
                  have h47 : a.eval (.tmp 47) = .bool true := hn.2.1
                  clear hn
                  refine wants_guard (d := 47) rfl rfl h47 ?_
                  exact grown_move (.tmp 8) rfl h8
                refine steps_cons (fun a w hk hn => ?_) ?_
                · have h13 : a.eval (.tmp 13) = .int .i64 k := hn.1
                  have h47 : a.eval (.tmp 47) = .bool true := hn.2.1
                  clear hn
                  refine wants_guard (d := 47) rfl rfl h47 ?_
                  exact grown_move (.tmp 13) rfl h13
                refine steps_cons (fun a w hk hn => ?_) ?_
                · have h50 : a.eval (.tmp 50) = .slice (some ⟨bg, og, none⟩) ng cg := hn.1
                  have h51 : a.eval (.tmp 51) = .int .i64 k := hn.2.1
                  have h47 : a.eval (.tmp 47) = .bool true := hn.2.2.1
                  clear hn
                  refine wants_guard (d := 47) rfl rfl h47 ?_
                  refine grown_run (v := .pointer (some ⟨bg, og + k * 4, none⟩)) ?_ (Kp.refl _ _) rfl
                  obtain ⟨ρ, hρ, hc, hf, hg⟩ := eval_is a
                  rw [hρ] at h50 h51 ⊢
                  simp [go_sem, h50, h51, hlt2]
                refine steps_cons (fun a w hk hn => ?_) ?_
                · have h52 : a.eval (.tmp 52) = .pointer (some ⟨bg, og + k * 4, none⟩) := hn.1
                  have h47 : a.eval (.tmp 47) = .bool true := hn.2.1
                  clear hn
                  refine wants_guard (d := 47) rfl rfl h47 ?_
                  exact grown_loadm 33 (.tmp 52) rfl bg (og + k * 4) h52 _ (unhide HLD w hk) rfl
                refine steps_cons (fun a w hk hn => ?_) ?_
                · have h48 : a.eval (.tmp 48) = .agg #[.slice al ml cl, .slice aw mw cw, .int .i64 1] := hn.1
                  have h49 : a.eval (.tmp 49) = .agg #[.int .i64 5, .slice ar mr cr] := hn.2.1
                  have h53 : a.eval (.tmp 53) = .agg #[.int .i64 ck, .int .i64 ci, .slice ap np cp, .slice aq nq cq] := hn.2.2.1
                  have h47 : a.eval (.tmp 47) = .bool true := hn.2.2.2.1
                  clear hn
                  refine wants_guard (d := 47) rfl rfl h47 ?_
                  refine grown_call (f := 20) rfl Tryd.func20 (by kernel_rfl) (by kernel_rfl) ?_
                  simp only [List.map_toArray, List.map_cons, List.map_nil, h48, h49, h53]
                  refine (cverify_any _ (polK no 1) _ 5 r _ c bv (unhide HBV) w (unhide HPO w hk) (unhide HCK w hk) (unhide HV w hk) (unhide HGW w hk)).mono ?_
                  rintro e w' ⟨rfl, K⟩
                  exact ⟨_, rfl, K, rfl⟩
                refine steps_cons (fun a w hk hn => ?_) ?_
                · have h47 : a.eval (.tmp 47) = .bool true := hn.1
                  have h54 : a.eval (.tmp 54) = .bool bv := hn.2.1
                  have h39 : a.eval (.tmp 39) = .bool false := hn.2.2.1
                  clear hn
                  refine wants_guard (d := 39) rfl rfl h39 ?_
                  exact grown_pick _ _ _ true rfl h47 h54
                refine steps_cons (fun a w hk hn => ?_) ?_
                · have h39 : a.eval (.tmp 39) = .bool false := hn.1
                  have h55 : a.eval (.tmp 55) = .bool bv := hn.2.1
                  clear hn
                  refine wants_plain rfl ?_
                  exact grown_pick _ _ _ false rfl h39 h55
                refine steps_cons (fun a w hk hn => ?_) ?_
                · have h56 : a.eval (.tmp 56) = .bool bv := hn.1
                  clear hn
                  refine wants_plain rfl ?_
                  exact grown_assign (.tmp 56) rfl h56
                exact trivial
              intro W1 hkW1
              rintro _ rfl
              rintro _ rfl
              rintro _ rfl
              rintro _ rfl
              rintro _ rfl
              rintro _ rfl
              rintro _ rfl
              rintro _ rfl
              rintro _ rfl
              rintro _ rfl
              rintro _ rfl
              rintro _ rfl
              rintro _ rfl
              rintro _ rfl
              rintro _ rfl
              rintro _ rfl
              rintro _ rfl
              rintro _ rfl
              rintro _ rfl
              rintro _ rfl
              refine fin_nil ?_
              simp only [Act.put, List.set_cons_zero, List.set_cons_succ, List.setIfInBounds_toArray]
              have HK1r := hide (unhide HDr W1 hkW1)
              go_wp2_with fail
              go_roundw
              case rel => exact ⟨k + 1, bv, by omega, by go_num, rfl, unhide HSN, unhide HK1r⟩
              case measure => simp [intOf]; omega
            · have HSN : Hid (false = seenW (polK no 1) 5 r (gl.take (k + 1)) j) := hide (by rw [unhide HST, decide_eq_false hckj]; simp)
              go_wp2_with fail
              refine region_grow Tryd.mixed [Is (.bool false), Is (.bool false), Is (.slice (some ⟨bg, og, none⟩) ng cg), Is (.int .i64 k), Is (.pointer (some ⟨bg, og + k * 4, none⟩)), Is (.pointer (some ⟨bg, og + k * 4, none⟩)), Is (.int .i64 ck), Is (.int .i64 j), Is (.bool false), Is (.bool false), Is (undef), Is (undef), Is (undef), Is (undef), Is (undef), Is (undef), Is (undef), Is (.bool false), Is (.bool false), Is (.bool false)] [[(12, none)], [(38, some 0)], [(8, none), (39, some 1)], [(13, none), (39, some 1)], [(40, some 2), (41, some 3), (39, some 1)], [(42, some 4), (39, some 1)], [(43, some 5), (39, some 1)], [(11, none), (39, some 1)], [(44, some 6), (45, some 7), (39, some 1)], [(46, some 8), (39, some 1)], [(6, none), (47, some 9)], [(7, none), (47, some 9)], [(8, none), (47, some 9)], [(13, none), (47, some 9)], [(50, some 12), (51, some 13), (47, some 9)], [(52, some 14), (47, some 9)], [(48, some 10), (49, some 11), (53, some 15), (47, some 9)], [(47, some 9), (54, some 16), (39, some 1)], [(39, some 1), (55, some 17)], [(56, some 18)]] (by kernel_rfl) ?_ ?_ ?_
              · simp only [List.mem_cons, List.not_mem_nil, or_false]
                intro R hR
                rcases hR with rfl | rfl | rfl | rfl | rfl | rfl | rfl | rfl | rfl | rfl | rfl | rfl | rfl | rfl | rfl | rfl | rfl | rfl | rfl | rfl <;> first | exact stable_is _
              · refine steps_cons (fun a w hk hn => ?_) ?_
                · have h12 : a.eval (.tmp 12) = .bool false := hn.1
                  clear hn
                  refine wants_plain rfl ?_
                  exact grown_move (.tmp 12) rfl h12
                refine steps_cons (fun a w hk hn => ?_) ?_
                · have h38 : a.eval (.tmp 38) = .bool false := hn.1
                  clear hn
                  refine wants_plain rfl ?_
                  exact grown_move (.tmp 38) rfl h38
                refine steps_cons (fun a w hk hn => ?_) ?_
                · have h8 : a.eval (.tmp 8) = .slice (some ⟨bg, og, none⟩) ng cg := hn.1
                  have h39 : a.eval (.tmp 39) = .bool false := hn.2.1
                  clear hn
                  refine wants_guard (d := 39) rfl rfl h39 ?_
                  exact grown_move (.tmp 8) rfl h8
                refine steps_cons (fun a w hk hn => ?_) ?_
                · have h13 : a.eval (.tmp 13) = .int .i64 k := hn.1
                  have h39 : a.eval (.tmp 39) = .bool false := hn.2.1
                  clear hn
                  refine wants_guard (d := 39) rfl rfl h39 ?_
                  exact grown_move (.tmp 13) rfl h13
                refine steps_cons (fun a w hk hn => ?_) ?_
                · have h40 : a.eval (.tmp 40) = .slice (some ⟨bg, og, none⟩) ng cg := hn.1
                  have h41 : a.eval (.tmp 41) = .int .i64 k := hn.2.1
                  have h39 : a.eval (.tmp 39) = .bool false := hn.2.2.1
                  clear hn
                  refine wants_guard (d := 39) rfl rfl h39 ?_
                  refine grown_run (v := .pointer (some ⟨bg, og + k * 4, none⟩)) ?_ (Kp.refl _ _) rfl
                  obtain ⟨ρ, hρ, hc, hf, hg⟩ := eval_is a
                  rw [hρ] at h40 h41 ⊢
                  simp [go_sem, h40, h41, hlt2]
                refine steps_cons (fun a w hk hn => ?_) ?_
                · have h42 : a.eval (.tmp 42) = .pointer (some ⟨bg, og + k * 4, none⟩) := hn.1
                  have h39 : a.eval (.tmp 39) = .bool false := hn.2.1
                  clear hn
                  refine wants_guard (d := 39) rfl rfl h39 ?_
                  refine grown_run (v := .pointer (some ⟨bg, og + k * 4, none⟩)) ?_ (Kp.refl _ _) rfl
                  obtain ⟨ρ, hρ, hc, hf, hg⟩ := eval_is a
                  rw [hρ] at h42 ⊢
                  simp [go_sem, h42]
                refine steps_cons (fun a w hk hn => ?_) ?_
                · have h43 : a.eval (.tmp 43) = .pointer (some ⟨bg, og + k * 4, none⟩) := hn.1
                  have h39 : a.eval (.tmp 39) = .bool false := hn.2.1
                  clear hn
                  refine wants_guard (d := 39) rfl rfl h39 ?_
                  refine grown_run (v := .int .i64 ck) ?_ (Kp.refl _ _) rfl
                  have hcell := unhide HLC w hk
                  obtain ⟨ρ, hρ, hc, hf, hg⟩ := eval_is a
                  rw [hρ] at h43 ⊢
                  simp [go_sem, h43, hcell]
                refine steps_cons (fun a w hk hn => ?_) ?_
                · have h11 : a.eval (.tmp 11) = .int .i64 j := hn.1
                  have h39 : a.eval (.tmp 39) = .bool false := hn.2.1
                  clear hn
                  refine wants_guard (d := 39) rfl rfl h39 ?_
                  exact grown_move (.tmp 11) rfl h11
                refine steps_cons (fun a w hk hn => ?_) ?_
                · have h44 : a.eval (.tmp 44) = .int .i64 ck := hn.1
                  have h45 : a.eval (.tmp 45) = .int .i64 j := hn.2.1
                  have h39 : a.eval (.tmp 39) = .bool false := hn.2.2.1
                  clear hn
                  refine wants_guard (d := 39) rfl rfl h39 ?_
                  refine grown_run (v := .bool false) ?_ (Kp.refl _ _) rfl
                  obtain ⟨ρ, hρ, hc, hf, hg⟩ := eval_is a
                  rw [hρ] at h44 h45 ⊢
                  simp [go_sem, h44, h45, hckj]
                refine steps_cons (fun a w hk hn => ?_) ?_
                · have h46 : a.eval (.tmp 46) = .bool false := hn.1
                  have h39 : a.eval (.tmp 39) = .bool false := hn.2.1
                  clear hn
                  refine wants_guard (d := 39) rfl rfl h39 ?_
                  exact grown_move (.tmp 46) rfl h46
                refine steps_cons (fun a w hk hn => ?_) ?_
                · have h6 : a.eval (.tmp 6) = .pointer (some ⟨g6, 0, none⟩) := hn.1
                  have h47 : a.eval (.tmp 47) = .bool false := hn.2.1
                  clear hn
                  exact wants_not (d := 47) rfl rfl h47 rfl
                refine steps_cons (fun a w hk hn => ?_) ?_
                · have h7 : a.eval (.tmp 7) = .pointer (some ⟨g7, 0, none⟩) := hn.1
                  have h47 : a.eval (.tmp 47) = .bool false := hn.2.1
                  clear hn
                  exact wants_not (d := 47) rfl rfl h47 rfl
                refine steps_cons (fun a w hk hn => ?_) ?_
                · have h8 : a.eval (.tmp 8) = .slice (some ⟨bg, og, none⟩) ng cg := hn.1
                  have h47 : a.eval (.tmp 47) = .bool false := hn.2.1
                  clear hn
                  exact wants_not (d := 47) rfl rfl h47 rfl
                refine steps_cons (fun a w hk hn => ?_) ?_
                · have h13 : a.eval (.tmp 13) = .int .i64 k := hn.1
                  have h47 : a.eval (.tmp 47) = .bool false := hn.2.1
                  clear hn
                  exact wants_not (d := 47) rfl rfl h47 rfl
                refine steps_cons (fun a w hk hn => ?_) ?_
                · have h50 : a.eval (.tmp 50) = undef := hn.1
                  have h51 : a.eval (.tmp 51) = undef := hn.2.1
                  have h47 : a.eval (.tmp 47) = .bool false := hn.2.2.1
                  clear hn
                  exact wants_not (d := 47) rfl rfl h47 rfl
                refine steps_cons (fun a w hk hn => ?_) ?_
                · have h52 : a.eval (.tmp 52) = undef := hn.1
                  have h47 : a.eval (.tmp 47) = .bool false := hn.2.1
                  clear hn
                  exact wants_not (d := 47) rfl rfl h47 rfl
                refine steps_cons (fun a w hk hn => ?_) ?_
                · have h48 : a.eval (.tmp 48) = undef := hn.1
                  have h49 : a.eval (.tmp 49) = undef := hn.2.1
                  have h53 : a.eval (.tmp 53) = undef := hn.2.2.1
                  have h47 : a.eval (.tmp 47) = .bool false := hn.2.2.2.1
                  clear hn
                  exact wants_not (d := 47) rfl rfl h47 rfl
                refine steps_cons (fun a w hk hn => ?_) ?_
                · have h47 : a.eval (.tmp 47) = .bool false := hn.1
                  have h54 : a.eval (.tmp 54) = undef := hn.2.1
                  have h39 : a.eval (.tmp 39) = .bool false := hn.2.2.1
                  clear hn
                  refine wants_guard (d := 39) rfl rfl h39 ?_
                  exact grown_pick _ _ _ false rfl h47 rfl
                refine steps_cons (fun a w hk hn => ?_) ?_
                · have h39 : a.eval (.tmp 39) = .bool false := hn.1
                  have h55 : a.eval (.tmp 55) = .bool false := hn.2.1
                  clear hn
                  refine wants_plain rfl ?_
                  exact grown_pick _ _ _ false rfl h39 h55
                refine steps_cons (fun a w hk hn => ?_) ?_
                · have h56 : a.eval (.tmp 56) = .bool false := hn.1
                  clear hn
                  refine wants_plain rfl ?_
                  exact grown_assign (.tmp 56) rfl h56
                exact trivial
              intro W1 hkW1
              rintro _ rfl
              rintro _ rfl
              rintro _ rfl
              rintro _ rfl
              rintro _ rfl
              rintro _ rfl
              rintro _ rfl
              rintro _ rfl
              rintro _ rfl
              rintro _ rfl
              rintro _ rfl
              rintro _ rfl
              rintro _ rfl
              rintro _ rfl
              rintro _ rfl
              rintro _ rfl
              rintro _ rfl
              rintro _ rfl
              rintro _ rfl
              rintro _ rfl
              refine fin_nil ?_
              simp only [Act.put, List.set_cons_zero, List.set_cons_succ, List.setIfInBounds_toArray]
              have HK1r := hide (unhide HDr W1 hkW1)
              go_wp2_with fail
              go_roundw
              case rel => exact ⟨k + 1, false, by omega, by go_num, rfl, unhide HSN, unhide HK1r⟩
              case measure => simp [intOf]; omega
          · have HSN : Hid (true = seenW (polK no 1) 5 r (gl.take (k + 1)) j) := hide (by rw [unhide HST]; simp)
            go_wp2_with fail
            refine region_grow Tryd.mixed [Is (.bool true), Is (.bool true), Is (undef), Is (undef), Is (undef), Is (undef), Is (undef), Is (undef), Is (undef), Is (undef), Is (undef), Is (undef), Is (undef), Is (undef), Is (undef), Is (undef), Is (undef), Is (undef), Is (.bool true), Is (.bool true)] [[(12, none)], [(38, some 0)], [(8, none), (39, some 1)], [(13, none), (39, some 1)], [(40, some 2), (41, some 3), (39, some 1)], [(42, some 4), (39, some 1)], [(43, some 5), (39, some 1)], [(11, none), (39, some 1)], [(44, some 6), (45, some 7), (39, some 1)], [(46, some 8), (39, some 1)], [(6, none), (47, some 9)], [(7, none), (47, some 9)], [(8, none), (47, some 9)], [(13, none), (47, some 9)], [(50, some 12), (51, some 13), (47, some 9)], [(52, some 14), (47, some 9)], [(48, some 10), (49, some 11), (53, some 15), (47, some 9)], [(47, some 9), (54, some 16), (39, some 1)], [(39, some 1), (55, some 17)], [(56, some 18)]] (by kernel_rfl) ?_ ?_ ?_
            · simp only [List.mem_cons, List.not_mem_nil, or_false]
              intro R hR
              rcases hR with rfl | rfl | rfl | rfl | rfl | rfl | rfl | rfl | rfl | rfl | rfl | rfl | rfl | rfl | rfl | rfl | rfl | rfl | rfl | rfl <;> first | exact stable_is _
            · refine steps_cons (fun a w hk hn => ?_) ?_
              · have h12 : a.eval (.tmp 12) = .bool true := hn.1
                clear hn
                refine wants_plain rfl ?_
                exact grown_move (.tmp 12) rfl h12
              refine steps_cons (fun a w hk hn => ?_) ?_
              · have h38 : a.eval (.tmp 38) = .bool true := hn.1
                clear hn
                refine wants_plain rfl ?_
                exact grown_move (.tmp 38) rfl h38
              refine steps_cons (fun a w hk hn => ?_) ?_
              · have h8 : a.eval (.tmp 8) = .slice (some ⟨bg, og, none⟩) ng cg := hn.1
                have h39 : a.eval (.tmp 39) = .bool true := hn.2.1
                clear hn
                exact wants_not (d := 39) rfl rfl h39 rfl
              refine steps_cons (fun a w hk hn => ?_) ?_
              · have h13 : a.eval (.tmp 13) = .int .i64 k := hn.1
                have h39 : a.eval (.tmp 39) = .bool true := hn.2.1
                clear hn
                exact wants_not (d := 39) rfl rfl h39 rfl
              refine steps_cons (fun a w hk hn => ?_) ?_
              · have h40 : a.eval (.tmp 40) = undef := hn.1
                have h41 : a.eval (.tmp 41) = undef := hn.2.1
                have h39 : a.eval (.tmp 39) = .bool true := hn.2.2.1
                clear hn
                exact wants_not (d := 39) rfl rfl h39 rfl
              refine steps_cons (fun a w hk hn => ?_) ?_
              · have h42 : a.eval (.tmp 42) = undef := hn.1
                have h39 : a.eval (.tmp 39) = .bool true := hn.2.1
                clear hn
                exact wants_not (d := 39) rfl rfl h39 rfl
              refine steps_cons (fun a w hk hn => ?_) ?_
              · have h43 : a.eval (.tmp 43) = undef := hn.1
                have h39 : a.eval (.tmp 39) = .bool true := hn.2.1
                clear hn
                exact wants_not (d := 39) rfl rfl h39 rfl
              refine steps_cons (fun a w hk hn => ?_) ?_
              · have h11 : a.eval (.tmp 11) = .int .i64 j := hn.1
                have h39 : a.eval (.tmp 39) = .bool true := hn.2.1
                clear hn
                exact wants_not (d := 39) rfl rfl h39 rfl
              refine steps_cons (fun a w hk hn => ?_) ?_
              · have h44 : a.eval (.tmp 44) = undef := hn.1
                have h45 : a.eval (.tmp 45) = undef := hn.2.1
                have h39 : a.eval (.tmp 39) = .bool true := hn.2.2.1
                clear hn
                exact wants_not (d := 39) rfl rfl h39 rfl
              refine steps_cons (fun a w hk hn => ?_) ?_
              · have h46 : a.eval (.tmp 46) = undef := hn.1
                have h39 : a.eval (.tmp 39) = .bool true := hn.2.1
                clear hn
                exact wants_not (d := 39) rfl rfl h39 rfl
              refine steps_cons (fun a w hk hn => ?_) ?_
              · have h6 : a.eval (.tmp 6) = .pointer (some ⟨g6, 0, none⟩) := hn.1
                have h47 : a.eval (.tmp 47) = undef := hn.2.1
                clear hn
                exact wants_none (d := 47) rfl rfl h47 rfl
              refine steps_cons (fun a w hk hn => ?_) ?_
              · have h7 : a.eval (.tmp 7) = .pointer (some ⟨g7, 0, none⟩) := hn.1
                have h47 : a.eval (.tmp 47) = undef := hn.2.1
                clear hn
                exact wants_none (d := 47) rfl rfl h47 rfl
              refine steps_cons (fun a w hk hn => ?_) ?_
              · have h8 : a.eval (.tmp 8) = .slice (some ⟨bg, og, none⟩) ng cg := hn.1
                have h47 : a.eval (.tmp 47) = undef := hn.2.1
                clear hn
                exact wants_none (d := 47) rfl rfl h47 rfl
              refine steps_cons (fun a w hk hn => ?_) ?_
              · have h13 : a.eval (.tmp 13) = .int .i64 k := hn.1
                have h47 : a.eval (.tmp 47) = undef := hn.2.1
                clear hn
                exact wants_none (d := 47) rfl rfl h47 rfl
              refine steps_cons (fun a w hk hn => ?_) ?_
              · have h50 : a.eval (.tmp 50) = undef := hn.1
                have h51 : a.eval (.tmp 51) = undef := hn.2.1
                have h47 : a.eval (.tmp 47) = undef := hn.2.2.1
                clear hn
                exact wants_none (d := 47) rfl rfl h47 rfl
              refine steps_cons (fun a w hk hn => ?_) ?_
              · have h52 : a.eval (.tmp 52) = undef := hn.1
                have h47 : a.eval (.tmp 47) = undef := hn.2.1
                clear hn
                exact wants_none (d := 47) rfl rfl h47 rfl
              refine steps_cons (fun a w hk hn => ?_) ?_
              · have h48 : a.eval (.tmp 48) = undef := hn.1
                have h49 : a.eval (.tmp 49) = undef := hn.2.1
                have h53 : a.eval (.tmp 53) = undef := hn.2.2.1
                have h47 : a.eval (.tmp 47) = undef := hn.2.2.2.1
                clear hn
                exact wants_none (d := 47) rfl rfl h47 rfl
              refine steps_cons (fun a w hk hn => ?_) ?_
              · have h47 : a.eval (.tmp 47) = undef := hn.1
                have h54 : a.eval (.tmp 54) = undef := hn.2.1
                have h39 : a.eval (.tmp 39) = .bool true := hn.2.2.1
                clear hn
                exact wants_not (d := 39) rfl rfl h39 rfl
              refine steps_cons (fun a w hk hn => ?_) ?_
              · have h39 : a.eval (.tmp 39) = .bool true := hn.1
                have h55 : a.eval (.tmp 55) = undef := hn.2.1
                clear hn
                refine wants_plain rfl ?_
                exact grown_pick _ _ _ true rfl h39 rfl
              refine steps_cons (fun a w hk hn => ?_) ?_
              · have h56 : a.eval (.tmp 56) = .bool true := hn.1
                clear hn
                refine wants_plain rfl ?_
                exact grown_assign (.tmp 56) rfl h56
              exact trivial
            intro W1 hkW1
            rintro _ rfl
            rintro _ rfl
            rintro _ rfl
            rintro _ rfl
            rintro _ rfl
            rintro _ rfl
            rintro _ rfl
            rintro _ rfl
            rintro _ rfl
            rintro _ rfl
            rintro _ rfl
            rintro _ rfl
            rintro _ rfl
            rintro _ rfl
            rintro _ rfl
            rintro _ rfl
            rintro _ rfl
            rintro _ rfl
            rintro _ rfl
            rintro _ rfl
            refine fin_nil ?_
            simp only [Act.put, List.set_cons_zero, List.set_cons_succ, List.setIfInBounds_toArray]
            have HK1r := hide (unhide HDr W1 hkW1)
            go_wp2_with fail
            go_roundw
            case rel => exact ⟨k + 1, true, by omega, by go_num, rfl, unhide HSN, unhide HK1r⟩
            case measure => simp [intOf]; omega
        · obtain rfl : k = ng := by omega
          have hlt2 : ¬ (k : Int) < (k : Int) := by omega
          have hall : gl.take k = gl := List.take_of_length_le (by have := unhide HNG; omega)
          have hb := unhide HB
          rw [hall] at hb
          have HB2 := hide hb
          have HKn := hide ((unhide HKr).trans (unhide HKs))
          clear hall hb HB
          cases b
          · have hnew : (sj : Int) = (sumW (polK no 1) 5 r gl (j + 1) : Nat) := by
              show (sj : Int) = ((sumW (polK no 1) 5 r gl j + (seenW (polK no 1) 5 r gl j).toNat : Nat) : Int)
              rw [← unhide HSJ, ← unhide HB2]
              rfl
            have HNEW := hide hnew
            clear hnew
            go_wp2_with fail
            go_roundw
            case rel => exact ⟨j + 1, by omega, by go_num, congrArg (Value.int .i64) (unhide HNEW), unhide HKn⟩
            case measure => simp [intOf]; omega
          · have hnew : (sj : Int) + 1 = (sumW (polK no 1) 5 r gl (j + 1) : Nat) := by
              show (sj : Int) + 1 = ((sumW (polK no 1) 5 r gl j + (seenW (polK no 1) 5 r gl j).toNat : Nat) : Int)
              rw [← unhide HSJ, ← unhide HB2]
              rfl
            have HNEW := hide hnew
            clear hnew
            go_wp2_with fail
            go_roundw
            case rel => exact ⟨j + 1, by omega, by go_num, congrArg (Value.int .i64) (unhide HNEW), unhide HKn⟩
            case measure => simp [intOf]; omega
    obtain rfl : j = no := by omega
    have hjn2 : ¬ (j : Int) < (j : Int) := by omega
    obtain ⟨no, hnj⟩ : ∃ n, n = j := ⟨_, rfl⟩
    subst hnj
    have hmm : sj = cntW (polK no 1) 5 r gl := by rw [unhide HSJ]; exact sumW_all (ownK_len no) (unhide HNO).2
    obtain ⟨mm, hsm⟩ : ∃ m, m = sj := ⟨_, rfl⟩
    subst hsm
    have HMM := hide hmm
    have HMR : Hid (mm = cntW (polK no 1) 5 r gl.reverse) := hide (by rw [cntW_rev]; exact hmm)
    have HMD : Hid (mm = cntW (polK no 1) 5 r (gl ++ gl)) := hide (by rw [cntW_dup]; exact hmm)
    have hmn : (mm : Int) ≤ (no : Int) := by
      have := cntW_lt (p := polK no 1) (n := 5) (r := r) (l := gl) (ownK_len no) (unhide HNO).2
      omega
    have HI : Hid (RowQ 33 4 (CoP gl.reverse) 0 wo (.slice none 0 0) wo) := RowQ.nil wo
    have HLo := hide ((unhide HL7).kept (unhide HKr))
    clear hmm HSJ hjn hsj4 hj
    go_wp2_with fail
    go_loopw [9, 14] (fun vu vi wr => ∃ (i j : Nat) (ab : Option Addr) (m c : Nat), i + j = ng ∧ vi = .int .i64 ((i : Int) - 1) ∧ vu = .slice ab m c ∧ m = j ∧ RowQ 33 4 (CoP gl.reverse) j wo (.slice ab m c) wr) (fun _ vi _ => (intOf vi + 1).toNat)
    case atStart => exact ⟨ng, 0, none, 0, 0, by omega, by go_num, rfl, rfl, unhide HI⟩
    case round =>
      clear HI
      obtain ⟨i, j, ab, mb, cb, hij, rfl, rfl, hmj, hR⟩ := hrel
      have HR := hide hR
      have HMJ := hide hmj
      have HKl := hide hR.kp
      clear hR hmj
      cases i with
      | succ i =>
        obtain ⟨t, ht⟩ : ∃ t : Int, t = ((i + 1 : Nat) : Int) - 1 := ⟨_, rfl⟩
        rw [← ht]
        obtain rfl : t = (i : Int) := by omega
        have ht0 : (0 : Int) ≤ (i : Int) := by omega
        have hlt2 : (i : Int) < (ng : Int) := by omega
        have hkl : i < gl.length := by have := unhide HNG; omega
        obtain ⟨ag', cg', eg', -, hcell⟩ := unhide HLo
        injection eg' with e1 e2 e3
        subst e1
        obtain ⟨bg, og, ap, np, cp, aq, nq, cq, rfl, hr0, hsig⟩ := hcell i hkl
        have hrv : gl.reverse.getD j co0 = gl[i]'hkl := rev_at (by have := unhide HNG; omega)
        obtain ⟨c, hc⟩ : ∃ c, c = gl[i]'hkl := ⟨_, rfl⟩
        rw [← hc] at hr0 hsig hrv
        obtain ⟨ck, hck⟩ : ∃ x, x = c.k := ⟨_, rfl⟩
        obtain ⟨ci, hci⟩ : ∃ x, x = c.i := ⟨_, rfl⟩
        rw [← hck, ← hci] at hr0
        have x0 : wr.cell? ⟨bg, og + i * 4, none⟩ = some (.int .i64 ck) := (unhide HKl).cell (hr0 0 _ rfl) (by simp)
        have x1 : wr.cell? ⟨bg, og + i * 4 + 1, none⟩ = some (.int .i64 ci) := (unhide HKl).cell (hr0 1 _ rfl) (by simp)
        have x2 : wr.cell? ⟨bg, og + i * 4 + 2, none⟩ = some (.slice ap np cp) := (unhide HKl).cell (hr0 2 _ rfl) (by simp)
        have x3 : wr.cell? ⟨bg, og + i * 4 + 3, none⟩ = some (.slice aq nq cq) := (unhide HKl).cell (hr0 3 _ rfl) (by simp)
        have HVo : Hid (CoV wo (.agg #[.int .i64 ck, .int .i64 ci, .slice ap np cp, .slice aq nq cq]) (gl.reverse.getD j co0)) := hide (by rw [hrv]; exact ⟨ap, np, cp, aq, nq, cq, by rw [hck, hci], by rw [← hci] at hsig ⊢; exact hsig⟩)
        have Gb := heap_alloc_new wr (.cells #[.int .i64 ck, .int .i64 ci, .slice ap np cp, .slice aq nq cq] 33)
        have hKb : Kp [] wr (wr.alloc (.cells #[.int .i64 ck, .int .i64 ci, .slice ap np cp, .slice aq nq cq] 33)) := (Kp.refl [] wr).alloc _
        have HP2 : Hid (∀ w3, Kp (Value.slice ab mb cb).ownBlock.toList (wr.alloc (.cells #[.int .i64 ck, .int .i64 ci, .slice ap np cp, .slice aq nq cq] 33)) w3 → CoP gl.reverse j w3 [.int .i64 ck, .int .i64 ci, .slice ap np cp, .slice aq nq cq]) := fun w3 k3 => (unhide HVo).kept (((unhide HKl).trans hKb).then k3 (fun q hq => .inr ((unhide HR).own q (by simpa using hq)).1))
        have HKrb := hide hKb
        have HT := hide ht
        clear ht hcell hr0 hsig hc hck hci e2 e3 hrv hKb HL7 HLo HVo
        go_wp2_with (at_builtin; refine wpList_rowq Tryd.infoCos rfl (by decide) (by decide) Tryd.underlying28 rfl (.tmp 67) (.tmp 72) rfl rfl (unhide HR) (unhide HKrb) ⟨wr.heap.size, 0, none⟩ 1 1 [[.int .i64 ck, .int .i64 ci, .slice ap np cp, .slice aq nq cq]] rfl rfl (by simp) (news_one _ _ _ _ _ Gb) (by simp [Value.oneCell']) (by omega) (fun j hj w3 k3 => one_at hj (unhide HP2 w3 k3)) ?_; intro a5 m5 c5 w5 hm5 R5; refine Hid.out ?_)
        subst hm5
        have HR5 := hide R5
        clear R5 HP2 HKrb Gb x0 x1 x2 x3
        refine hide ?_
        go_wp2_with fail
        go_roundw
        case rel => exact ⟨i, j + 1, a5, j + 1, c5, by omega, by go_num, rfl, rfl, unhide HR5⟩
        case measure => simp [intOf]
      | zero =>
        obtain rfl : j = ng := by omega
        have hmn2 := unhide HMJ
        subst hmn2
        obtain ⟨wl, hwl⟩ : ∃ x, x = wr := ⟨_, rfl⟩
        subst hwl
        have HB9 : Hid (CoL wl (.slice ab mb cb) gl.reverse) := hide (by
          have h2 : RowQ 33 4 (CoP gl.reverse) gl.reverse.length wo (.slice ab mb cb) wl := by rw [List.length_reverse, ← unhide HNG]; exact unhide HR
          exact h2.col (by rw [List.length_reverse]; have := unhide HGL; omega))
        have HK7w : Hid (∀ w', Kp [] wl.drew w' → Kp [] w7 w') := fun w' k' => (unhide HKr).trans ((unhide HKl).trans ((kp_drew wl).trans k'))
        have HT6 : Hid (∀ w', Kp [] wl.drew w' → w'.heap[g6]? = some (.cells #[.slice al ml cl, .slice aw mw cw, .int .i64 1] 42 (0, 0))) := fun w' k' => (unhide HK7w w' k').heap (unhide HG67) (by simp)
        have HT7 : Hid (∀ w', Kp [] wl.drew w' → w'.heap[g7]? = some (.cells #[.int .i64 5, .slice ar mr cr] 27 (0, 0))) := fun w' k' => (unhide HK7w w' k').heap (unhide HG77) (by simp)
        have HPO : Hid (∀ w', Kp [] wl.drew w' → PoV w' (.agg #[.slice al ml cl, .slice aw mw cw, .int .i64 1]) (polK no 1)) := fun w' k' => (unhide HP7).kept (unhide HK7w w' k')
        have HCK : Hid (∀ w', Kp [] wl.drew w' → CkV w' (.agg #[.int .i64 5, .slice ar mr cr]) 5 r) := fun w' k' => (unhide HC7).kept (unhide HK7w w' k')
        have HCL : Hid (∀ w', Kp [] wl.drew w' → CoL w' (.slice ag mb cg) gl) := fun w' k' => (unhide HL7).kept (unhide HK7w w' k')
        have HCB : Hid (∀ w', Kp [] wl.drew w' → CoL w' (.slice ab mb cb) gl.reverse) := fun w' k' => (unhide HB9).kept ((kp_drew wl).trans k')
        have HKD : Hid (∀ w', Kp [] wl.drew w' → Kp [] w w') := fun w' k' => (unhide HK7).trans (unhide HK7w w' k')
        have HGW : Hid (∀ w', Kp [] wl.drew w' → Gl w') := fun w' k' => (unhide HG).kept (unhide HKD w' k') (by simp)
        have HXP : Hid (∀ j (hj : j < xs.length) w3, Kp [] wl.drew w3 → CoV w3 (.agg xs[j].toArray) (gl.getD j co0)) := fun j hj w3 k3 => unhide HXP7 j hj w3 ((unhide HK7w w3 k3).mono (by simp))
        have HX1 : Hid (∀ x ∈ xs, ∀ u ∈ x, u.oneCell' = true) := hide (by
          intro x hx u hu
          obtain ⟨j, hj, rfl⟩ := List.getElem_of_mem hx
          obtain ⟨ap, np, cp, aq, nq, cq, e, -⟩ := unhide HXP7 j hj w7 (Kp.refl _ _)
          have e2 : xs[j] = [.int .i64 (gl.getD j co0).k, .int .i64 (gl.getD j co0).i, .slice ap np cp, .slice aq nq cq] := by simpa using e
          rw [e2] at hu
          simp only [List.mem_cons, List.not_mem_nil, or_false] at hu
          rcases hu with rfl | rfl | rfl | rfl <;> rfl)
        clear HR HMJ HLo HB9
        go_wp2_with fail
        refine region_growL (K := KT) (G := GC wl.drew gl) Tryd.mixed [Is (.agg #[.slice al ml cl, .slice aw mw cw, .int .i64 1]), Is (.agg #[.int .i64 5, .slice ar mr cr]), Is (.slice ag mb cg), Is (.int .i64 mm), Is (.int .i64 mm), Is (.bool true), Is (.bool true), Is (.agg #[.slice al ml cl, .slice aw mw cw, .int .i64 1]), Is (.agg #[.int .i64 5, .slice ar mr cr]), Is (.slice ab mb cb), Is (.int .i64 mm), Is (.int .i64 mm), Is (.bool true), Is (.bool true), Is (.bool true), Is (.agg #[.slice al ml cl, .slice aw mw cw, .int .i64 1]), Is (.agg #[.int .i64 5, .slice ar mr cr]), AnyT, Is (.slice ag mb cg), AnyT, Is (.slice ag mb cg), AnyT, Is (.int .i64 mm), Is (.int .i64 mm), Is (.bool true), Is (.bool true), Is (.bool true), Is (.int .i64 mm), Is (.slice ao no co), Is (.int .i64 no), Is (.bool true), Is (.bool true), Is (.bool true), Is (.bool true), Is (.bool true), Is (.bool true)] [[(6, none)], [(7, none)], [(8, none)], [(74, some 0), (75, some 1), (76, some 2)], [(10, none)], [(77, some 3), (78, some 4)], [(79, some 5)], [(6, none), (80, some 6)], [(7, none), (80, some 6)], [(9, none), (80, some 6)], [(81, some 7), (82, some 8), (83, some 9), (80, some 6)], [(10, none), (80, some 6)], [(84, some 10), (85, some 11), (80, some 6)], [(80, some 6), (86, some 12)], [(87, some 13)], [(6, none), (88, some 14)], [(7, none), (88, some 14)], [(88, some 14)], [(8, none), (88, some 14)], [(91, some 17), (92, some 18), (88, some 14)], [(8, none), (88, some 14)], [(93, some 19), (94, some 20), (88, some 14)], [(89, some 15), (90, some 16), (95, some 21), (88, some 14)], [(10, none), (88, some 14)], [(96, some 22), (97, some 23), (88, some 14)], [(88, some 14), (98, some 24)], [(99, some 25)], [(10, none), (100, some 26)], [(5, none), (100, some 26)], [(102, some 28), (100, some 26)], [(101, some 27), (103, some 29), (100, some 26)], [(100, some 26), (104, some 30)], [(105, some 31)], [(106, some 32)], [(106, some 32), (107, some 33)], [(108, some 34)]] (by kernel_rfl) ?_ ?_ ?_ ?_ ?_
        · intro k R hR hd w'
          have hk : k < 36 := by have := (List.getElem?_eq_some_iff.1 hR).1; simpa using this
          rcases (by omega : k = 0 ∨ k = 1 ∨ k = 2 ∨ k = 3 ∨ k = 4 ∨ k = 5 ∨ k = 6 ∨ k = 7 ∨ k = 8 ∨ k = 9 ∨ k = 10 ∨ k = 11 ∨ k = 12 ∨ k = 13 ∨ k = 14 ∨ k = 15 ∨ k = 16 ∨ k = 17 ∨ k = 18 ∨ k = 19 ∨ k = 20 ∨ k = 21 ∨ k = 22 ∨ k = 23 ∨ k = 24 ∨ k = 25 ∨ k = 26 ∨ k = 27 ∨ k = 28 ∨ k = 29 ∨ k = 30 ∨ k = 31 ∨ k = 32 ∨ k = 33 ∨ k = 34 ∨ k = 35) with rfl | rfl | rfl | rfl | rfl | rfl | rfl | rfl | rfl | rfl | rfl | rfl | rfl | rfl | rfl | rfl | rfl | rfl | rfl | rfl | rfl | rfl | rfl | rfl | rfl | rfl | rfl | rfl | rfl | rfl | rfl | rfl | rfl | rfl | rfl | rfl <;> cases hd
        · simp only [List.mem_cons, List.not_mem_nil, or_false]
          intro R hR
          rcases hR with rfl | rfl | rfl | rfl | rfl | rfl | rfl | rfl | rfl | rfl | rfl | rfl | rfl | rfl | rfl | rfl | rfl | rfl | rfl | rfl | rfl | rfl | rfl | rfl | rfl | rfl | rfl | rfl | rfl | rfl | rfl | rfl | rfl | rfl | rfl | rfl <;> first | exact stableG_isM _ | exact stableK_any
        · exact ⟨⟨Kp.refl _ _, by simp⟩, fun h => by simp at h, fun h => by simp at h, fun h => by simp at h⟩
        · refine steps_consL (fun listed a w hnot hdep hcl hsz hg hn => ?_) ?_
          · have h6 : a.eval (.tmp 6) = .pointer (some ⟨g6, 0, none⟩) := hn.1
            clear hn
            have hk := hg.1.1
            refine wantsG_of1M (fun _ _ => trivial) (fun v w' k => hg.free 0 (by decide) 74 (by decide) v k) ?_
            refine wants_plain rfl ?_
            exact grown_loadf 42 (.tmp 6) rfl g6 0 h6 _ _ _ _ (unhide HT6 w hk) [.slice al ml cl, .slice aw mw cw, .int .i64 1] (flat_in rfl) Tryd.underlying42 rfl Tryd.polSize rfl
          refine steps_consL (fun listed a w hnot hdep hcl hsz hg hn => ?_) ?_
          · have h7 : a.eval (.tmp 7) = .pointer (some ⟨g7, 0, none⟩) := hn.1
            clear hn
            have hk := hg.1.1
            refine wantsG_of1M (fun _ _ => trivial) (fun v w' k => hg.free 1 (by decide) 75 (by decide) v k) ?_
            refine wants_plain rfl ?_
            exact grown_loadf 27 (.tmp 7) rfl g7 0 h7 _ _ _ _ (unhide HT7 w hk) [.int .i64 5, .slice ar mr cr] (flat_in rfl) Tryd.underlying27 rfl Tryd.chkSize rfl
          refine steps_consL (fun listed a w hnot hdep hcl hsz hg hn => ?_) ?_
          · have h8 : a.eval (.tmp 8) = .slice ag mb cg := hn.1
            clear hn
            have hk := hg.1.1
            refine wantsG_of1M (fun _ _ => trivial) (fun v w' k => hg.free 2 (by decide) 76 (by decide) v k) ?_
            refine wants_plain rfl ?_
            exact grown_move (.tmp 8) rfl h8
          refine steps_consL (fun listed a w hnot hdep hcl hsz hg hn => ?_) ?_
          · have h74 : a.eval (.tmp 74) = .agg #[.slice al ml cl, .slice aw mw cw, .int .i64 1] := hn.1
            have h75 : a.eval (.tmp 75) = .agg #[.int .i64 5, .slice ar mr cr] := hn.2.1
            have h76 : a.eval (.tmp 76) = .slice ag mb cg := hn.2.2.1
            clear hn
            have hk := hg.1.1
            refine wantsG_of1M (fun _ _ => trivial) (fun v w' k => hg.free 3 (by decide) 77 (by decide) v k) ?_
            refine wants_plain rfl ?_
            refine grown_call (f := 14) rfl Tryd.func14 (by kernel_rfl) (by kernel_rfl) ?_
            simp only [List.map_toArray, List.map_cons, List.map_nil, h74, h75, h76]
            refine (ccount_any _ (polK no 1) _ 5 r _ gl mm (unhide HMM) w (unhide HPO w hk) (unhide HCK w hk) (unhide HCL w hk) (unhide HGW w hk)).mono ?_
            rintro e w' ⟨rfl, K⟩
            exact ⟨_, rfl, K, rfl⟩
          refine steps_consL (fun listed a w hnot hdep hcl hsz hg hn => ?_) ?_
          · have h10 : a.eval (.tmp 10) = .int .i64 mm := hn.1
            clear hn
            have hk := hg.1.1
            refine wantsG_of1M (fun _ _ => trivial) (fun v w' k => hg.free 4 (by decide) 78 (by decide) v k) ?_
            refine wants_plain rfl ?_
            exact grown_move (.tmp 10) rfl h10
          refine steps_consL (fun listed a w hnot hdep hcl hsz hg hn => ?_) ?_
          · have h77 : a.eval (.tmp 77) = .int .i64 mm := hn.1
            have h78 : a.eval (.tmp 78) = .int .i64 mm := hn.2.1
            clear hn
            have hk := hg.1.1
            refine wantsG_of1M (fun _ _ => trivial) (fun v w' k => hg.free 5 (by decide) 79 (by decide) v k) ?_
            refine wants_plain rfl ?_
            refine grown_run (v := .bool true) ?_ (Kp.refl _ _) rfl
            obtain ⟨ρ, hρ, hc, hf, hgg⟩ := eval_is a
            rw [hρ] at h77 h78 ⊢
            simp [go_sem, h77, h78]
          refine steps_consL (fun listed a w hnot hdep hcl hsz hg hn => ?_) ?_
          · have h79 : a.eval (.tmp 79) = .bool true := hn.1
            clear hn
            have hk := hg.1.1
            refine wantsG_of1M (fun _ _ => trivial) (fun v w' k => hg.free 6 (by decide) 80 (by decide) v k) ?_
            refine wants_plain rfl ?_
            exact grown_move (.tmp 79) rfl h79
          refine steps_consL (fun listed a w hnot hdep hcl hsz hg hn => ?_) ?_
          · have h6 : a.eval (.tmp 6) = .pointer (some ⟨g6, 0, none⟩) := hn.1
            have h80 : a.eval (.tmp 80) = .bool true := hn.2.1
            clear hn
            have hk := hg.1.1
            refine wantsG_of1M (fun _ _ => trivial) (fun v w' k => hg.free 7 (by decide) 81 (by decide) v k) ?_
            refine wants_guard (d := 80) rfl rfl h80 ?_
            exact grown_loadf 42 (.tmp 6) rfl g6 0 h6 _ _ _ _ (unhide HT6 w hk) [.slice al ml cl, .slice aw mw cw, .int .i64 1] (flat_in rfl) Tryd.underlying42 rfl Tryd.polSize rfl
          refine steps_consL (fun listed a w hnot hdep hcl hsz hg hn => ?_) ?_
          · have h7 : a.eval (.tmp 7) = .pointer (some ⟨g7, 0, none⟩) := hn.1
            have h80 : a.eval (.tmp 80) = .bool true := hn.2.1
            clear hn
            have hk := hg.1.1
            refine wantsG_of1M (fun _ _ => trivial) (fun v w' k => hg.free 8 (by decide) 82 (by decide) v k) ?_
            refine wants_guard (d := 80) rfl rfl h80 ?_
            exact grown_loadf 27 (.tmp 7) rfl g7 0 h7 _ _ _ _ (unhide HT7 w hk) [.int .i64 5, .slice ar mr cr] (flat_in rfl) Tryd.underlying27 rfl Tryd.chkSize rfl
          refine steps_consL (fun listed a w hnot hdep hcl hsz hg hn => ?_) ?_
          · have h9 : a.eval (.tmp 9) = .slice ab mb cb := hn.1
            have h80 : a.eval (.tmp 80) = .bool true := hn.2.1
            clear hn
            have hk := hg.1.1
            refine wantsG_of1M (fun _ _ => trivial) (fun v w' k => hg.free 9 (by decide) 83 (by decide) v k) ?_
            refine wants_guard (d := 80) rfl rfl h80 ?_
            exact grown_move (.tmp 9) rfl h9
          refine steps_consL (fun listed a w hnot hdep hcl hsz hg hn => ?_) ?_
          · have h81 : a.eval (.tmp 81) = .agg #[.slice al ml cl, .slice aw mw cw, .int .i64 1] := hn.1
            have h82 : a.eval (.tmp 82) = .agg #[.int .i64 5, .slice ar mr cr] := hn.2.1
            have h83 : a.eval (.tmp 83) = .slice ab mb cb := hn.2.2.1
            have h80 : a.eval (.tmp 80) = .bool true := hn.2.2.2.1
            clear hn
            have hk := hg.1.1
            refine wantsG_of1M (fun _ _ => trivial) (fun v w' k => hg.free 10 (by decide) 84 (by decide) v k) ?_
            refine wants_guard (d := 80) rfl rfl h80 ?_
            refine grown_call (f := 14) rfl Tryd.func14 (by kernel_rfl) (by kernel_rfl) ?_
            simp only [List.map_toArray, List.map_cons, List.map_nil, h81, h82, h83]
            refine (ccount_any _ (polK no 1) _ 5 r _ gl.reverse mm (unhide HMR) w (unhide HPO w hk) (unhide HCK w hk) (unhide HCB w hk) (unhide HGW w hk)).mono ?_
            rintro e w' ⟨rfl, K⟩
            exact ⟨_, rfl, K, rfl⟩
          refine steps_consL (fun listed a w hnot hdep hcl hsz hg hn => ?_) ?_
          · have h10 : a.eval (.tmp 10) = .int .i64 mm := hn.1
            have h80 : a.eval (.tmp 80) = .bool true := hn.2.1
            clear hn
            have hk := hg.1.1
            refine wantsG_of1M (fun _ _ => trivial) (fun v w' k => hg.free 11 (by decide) 85 (by decide) v k) ?_
            refine wants_guard (d := 80) rfl rfl h80 ?_
            exact grown_move (.tmp 10) rfl h10
          refine steps_consL (fun listed a w hnot hdep hcl hsz hg hn => ?_) ?_
          · have h84 : a.eval (.tmp 84) = .int .i64 mm := hn.1
            have h85 : a.eval (.tmp 85) = .int .i64 mm := hn.2.1
            have h80 : a.eval (.tmp 80) = .bool true := hn.2.2.1
            clear hn
            have hk := hg.1.1
            refine wantsG_of1M (fun _ _ => trivial) (fun v w' k => hg.free 12 (by decide) 86 (by decide) v k) ?_
            refine wants_guard (d := 80) rfl rfl h80 ?_
            refine grown_run (v := .bool true) ?_ (Kp.refl _ _) rfl
            obtain ⟨ρ, hρ, hc, hf, hgg⟩ := eval_is a
            rw [hρ] at h84 h85 ⊢
            simp [go_sem, h84, h85]
          refine steps_consL (fun listed a w hnot hdep hcl hsz hg hn => ?_) ?_
          · have h80 : a.eval (.tmp 80) = .bool true := hn.1
            have h86 : a.eval (.tmp 86) = .bool true := hn.2.1
            clear hn
            have hk := hg.1.1
            refine wantsG_of1M (fun _ _ => trivial) (fun v w' k => hg.free 13 (by decide) 87 (by decide) v k) ?_
            refine wants_plain rfl ?_
            exact grown_pick _ _ _ true rfl h80 h86
          refine steps_consL (fun listed a w hnot hdep hcl hsz hg hn => ?_) ?_
          · have h87 : a.eval (.tmp 87) = .bool true := hn.1
            clear hn
            have hk := hg.1.1
            refine wantsG_of1M (fun _ _ => trivial) (fun v w' k => hg.free 14 (by decide) 88 (by decide) v k) ?_
            refine wants_plain rfl ?_
            exact grown_move (.tmp 87) rfl h87
          refine steps_consL (fun listed a w hnot hdep hcl hsz hg hn => ?_) ?_
          · have h6 : a.eval (.tmp 6) = .pointer (some ⟨g6, 0, none⟩) := hn.1
            have h88 : a.eval (.tmp 88) = .bool true := hn.2.1
            clear hn
            have hk := hg.1.1
            refine wantsG_of1M (fun _ _ => trivial) (fun v w' k => hg.free 15 (by decide) 89 (by decide) v k) ?_
            refine wants_guard (d := 88) rfl rfl h88 ?_
            exact grown_loadf 42 (.tmp 6) rfl g6 0 h6 _ _ _ _ (unhide HT6 w hk) [.slice al ml cl, .slice aw mw cw, .int .i64 1] (flat_in rfl) Tryd.underlying42 rfl Tryd.polSize rfl
          refine steps_consL (fun listed a w hnot hdep hcl hsz hg hn => ?_) ?_
          · have h7 : a.eval (.tmp 7) = .pointer (some ⟨g7, 0, none⟩) := hn.1
            have h88 : a.eval (.tmp 88) = .bool true := hn.2.1
            clear hn
            have hk := hg.1.1
            refine wantsG_of1M (fun _ _ => trivial) (fun v w' k => hg.free 16 (by decide) 90 (by decide) v k) ?_
            refine wants_guard (d := 88) rfl rfl h88 ?_
            exact grown_loadf 27 (.tmp 7) rfl g7 0 h7 _ _ _ _ (unhide HT7 w hk) [.int .i64 5, .slice ar mr cr] (flat_in rfl) Tryd.underlying27 rfl Tryd.chkSize rfl
          refine steps_consL (fun listed a w hnot hdep hcl hsz hg hn => ?_) ?_
          · have h88 : a.eval (.tmp 88) = .bool true := hn.1
            clear hn
            have hk := hg.1.1
            exact hg.build (lstM hcl 19 17 rfl (by decide) hnot) (lstM hcl 21 19 rfl (by decide) (lstM hcl 19 17 rfl (by decide) hnot)) (by rw [wanted_iff (d := 88) rfl rfl h88]; rfl) rfl rfl
          refine steps_consL (fun listed a w hnot hdep hcl hsz hg hn => ?_) ?_
          · have h8 : a.eval (.tmp 8) = .slice ag mb cg := hn.1
            have h88 : a.eval (.tmp 88) = .bool true := hn.2.1
            clear hn
            have hk := hg.1.1
            refine wantsG_of1M (fun _ _ => trivial) (fun v w' k => hg.free 18 (by decide) 92 (by decide) v k) ?_
            refine wants_guard (d := 88) rfl rfl h88 ?_
            exact grown_move (.tmp 8) rfl h8
          refine steps_consL (fun listed a w hnot hdep hcl hsz hg hn => ?_) ?_
          · have h91 : (AnyT) (a.eval (.tmp 91)) w := hn.1
            have h92 : a.eval (.tmp 92) = .slice ag mb cg := hn.2.1
            have h88 : a.eval (.tmp 88) = .bool true := hn.2.2.1
            clear hn
            have hk := hg.1.1
            exact hg.app1 (hdep 17 (by decide)) hnot (lstM hcl 21 19 rfl (by decide) hnot) hsz (by rw [wanted_iff (d := 88) rfl rfl h88]; rfl) rfl rfl h92 ((unhide HXR).kept ((unhide HK7w w hk)) (by simp)) (unhide HXL) (unhide HX1) (unhide HGL) (unhide HXP)
          refine steps_consL (fun listed a w hnot hdep hcl hsz hg hn => ?_) ?_
          · have h8 : a.eval (.tmp 8) = .slice ag mb cg := hn.1
            have h88 : a.eval (.tmp 88) = .bool true := hn.2.1
            clear hn
            have hk := hg.1.1
            refine wantsG_of1M (fun _ _ => trivial) (fun v w' k => hg.free 20 (by decide) 94 (by decide) v k) ?_
            refine wants_guard (d := 88) rfl rfl h88 ?_
            exact grown_move (.tmp 8) rfl h8
          refine steps_consL (fun listed a w hnot hdep hcl hsz hg hn => ?_) ?_
          · have h93 : (AnyT) (a.eval (.tmp 93)) w := hn.1
            have h94 : a.eval (.tmp 94) = .slice ag mb cg := hn.2.1
            have h88 : a.eval (.tmp 88) = .bool true := hn.2.2.1
            clear hn
            have hk := hg.1.1
            exact hg.app2 (hdep 19 (by decide)) hnot hsz (by rw [wanted_iff (d := 88) rfl rfl h88]; rfl) rfl rfl h94 ((unhide HXR).kept ((unhide HK7w w hk)) (by simp)) (unhide HXL) (unhide HX1) (unhide HGL) (unhide HXP)
          refine steps_consL (fun listed a w hnot hdep hcl hsz hg hn => ?_) ?_
          · have h89 : a.eval (.tmp 89) = .agg #[.slice al ml cl, .slice aw mw cw, .int .i64 1] := hn.1
            have h90 : a.eval (.tmp 90) = .agg #[.int .i64 5, .slice ar mr cr] := hn.2.1
            have h95 : (AnyT) (a.eval (.tmp 95)) w := hn.2.2.1
            have h88 : a.eval (.tmp 88) = .bool true := hn.2.2.2.1
            clear hn
            have hk := hg.1.1
            refine wantsG_of1M (fun _ _ => trivial) (fun v w' k => hg.free 22 (by decide) 96 (by decide) v k) ?_
            refine wants_guard (d := 88) rfl rfl h88 ?_
            refine grown_call (f := 14) rfl Tryd.func14 (by kernel_rfl) (by kernel_rfl) ?_
            simp only [List.map_toArray, List.map_cons, List.map_nil, h89, h90]
            refine (ccount_any _ (polK no 1) _ 5 r _ (gl ++ gl) mm (unhide HMD) w (unhide HPO w hk) (unhide HCK w hk) (hg.2.2.2 (hdep 21 (by decide))) (unhide HGW w hk)).mono ?_
            rintro e w' ⟨rfl, K⟩
            exact ⟨_, rfl, K, rfl⟩
          refine steps_consL (fun listed a w hnot hdep hcl hsz hg hn => ?_) ?_
          · have h10 : a.eval (.tmp 10) = .int .i64 mm := hn.1
            have h88 : a.eval (.tmp 88) = .bool true := hn.2.1
            clear hn
            have hk := hg.1.1
            refine wantsG_of1M (fun _ _ => trivial) (fun v w' k => hg.free 23 (by decide) 97 (by decide) v k) ?_
            refine wants_guard (d := 88) rfl rfl h88 ?_
            exact grown_move (.tmp 10) rfl h10
          refine steps_consL (fun listed a w hnot hdep hcl hsz hg hn => ?_) ?_
          · have h96 : a.eval (.tmp 96) = .int .i64 mm := hn.1
            have h97 : a.eval (.tmp 97) = .int .i64 mm := hn.2.1
            have h88 : a.eval (.tmp 88) = .bool true := hn.2.2.1
            clear hn
            have hk := hg.1.1
            refine wantsG_of1M (fun _ _ => trivial) (fun v w' k => hg.free 24 (by decide) 98 (by decide) v k) ?_
            refine wants_guard (d := 88) rfl rfl h88 ?_
            refine grown_run (v := .bool true) ?_ (Kp.refl _ _) rfl
            obtain ⟨ρ, hρ, hc, hf, hgg⟩ := eval_is a
            rw [hρ] at h96 h97 ⊢
            simp [go_sem, h96, h97]
          refine steps_consL (fun listed a w hnot hdep hcl hsz hg hn => ?_) ?_
          · have h88 : a.eval (.tmp 88) = .bool true := hn.1
            have h98 : a.eval (.tmp 98) = .bool true := hn.2.1
            clear hn
            have hk := hg.1.1
            refine wantsG_of1M (fun _ _ => trivial) (fun v w' k => hg.free 25 (by decide) 99 (by decide) v k) ?_
            refine wants_plain rfl ?_
            exact grown_pick _ _ _ true rfl h88 h98
          refine steps_consL (fun listed a w hnot hdep hcl hsz hg hn => ?_) ?_
          · have h99 : a.eval (.tmp 99) = .bool true := hn.1
            clear hn
            have hk := hg.1.1
            refine wantsG_of1M (fun _ _ => trivial) (fun v w' k => hg.free 26 (by decide) 100 (by decide) v k) ?_
            refine wants_plain rfl ?_
            exact grown_move (.tmp 99) rfl h99
          refine steps_consL (fun listed a w hnot hdep hcl hsz hg hn => ?_) ?_
          · have h10 : a.eval (.tmp 10) = .int .i64 mm := hn.1
            have h100 : a.eval (.tmp 100) = .bool true := hn.2.1
            clear hn
            have hk := hg.1.1
            refine wantsG_of1M (fun _ _ => trivial) (fun v w' k => hg.free 27 (by decide) 101 (by decide) v k) ?_
            refine wants_guard (d := 100) rfl rfl h100 ?_
            exact grown_move (.tmp 10) rfl h10
          refine steps_consL (fun listed a w hnot hdep hcl hsz hg hn => ?_) ?_
          · have h5 : a.eval (.tmp 5) = .slice ao no co := hn.1
            have h100 : a.eval (.tmp 100) = .bool true := hn.2.1
            clear hn
            have hk := hg.1.1
            refine wantsG_of1M (fun _ _ => trivial) (fun v w' k => hg.free 28 (by decide) 102 (by decide) v k) ?_
            refine wants_guard (d := 100) rfl rfl h100 ?_
            exact grown_move (.tmp 5) rfl h5
          refine steps_consL (fun listed a w hnot hdep hcl hsz hg hn => ?_) ?_
          · have h102 : a.eval (.tmp 102) = .slice ao no co := hn.1
            have h100 : a.eval (.tmp 100) = .bool true := hn.2.1
            clear hn
            have hk := hg.1.1
            refine wantsG_of1M (fun _ _ => trivial) (fun v w' k => hg.free 29 (by decide) 103 (by decide) v k) ?_
            refine wants_guard (d := 100) rfl rfl h100 ?_
            refine grown_run (v := .int .i64 no) ?_ (Kp.refl _ _) rfl
            obtain ⟨ρ, hρ, hc, hf, hgg⟩ := eval_is a
            rw [hρ] at h102 ⊢
            simp [go_sem, h102]
          refine steps_consL (fun listed a w hnot hdep hcl hsz hg hn => ?_) ?_
          · have h101 : a.eval (.tmp 101) = .int .i64 mm := hn.1
            have h103 : a.eval (.tmp 103) = .int .i64 no := hn.2.1
            have h100 : a.eval (.tmp 100) = .bool true := hn.2.2.1
            clear hn
            have hk := hg.1.1
            refine wantsG_of1M (fun _ _ => trivial) (fun v w' k => hg.free 30 (by decide) 104 (by decide) v k) ?_
            refine wants_guard (d := 100) rfl rfl h100 ?_
            refine grown_run (v := .bool true) ?_ (Kp.refl _ _) rfl
            obtain ⟨ρ, hρ, hc, hf, hg⟩ := eval_is a
            rw [hρ] at h101 h103 ⊢
            simp [go_sem, h101, h103, hmn]
          refine steps_consL (fun listed a w hnot hdep hcl hsz hg hn => ?_) ?_
          · have h100 : a.eval (.tmp 100) = .bool true := hn.1
            have h104 : a.eval (.tmp 104) = .bool true := hn.2.1
            clear hn
            have hk := hg.1.1
            refine wantsG_of1M (fun _ _ => trivial) (fun v w' k => hg.free 31 (by decide) 105 (by decide) v k) ?_
            refine wants_plain rfl ?_
            exact grown_pick _ _ _ true rfl h100 h104
          refine steps_consL (fun listed a w hnot hdep hcl hsz hg hn => ?_) ?_
          · have h105 : a.eval (.tmp 105) = .bool true := hn.1
            clear hn
            have hk := hg.1.1
            refine wantsG_of1M (fun _ _ => trivial) (fun v w' k => hg.free 32 (by decide) 106 (by decide) v k) ?_
            refine wants_plain rfl ?_
            exact grown_move (.tmp 105) rfl h105
          refine steps_consL (fun listed a w hnot hdep hcl hsz hg hn => ?_) ?_
          · have h106 : a.eval (.tmp 106) = .bool true := hn.1
            clear hn
            have hk := hg.1.1
            refine wantsG_of1M (fun _ _ => trivial) (fun v w' k => hg.free 33 (by decide) 107 (by decide) v k) ?_
            refine wants_guard (d := 106) rfl rfl h106 ?_
            refine grown_call (f := 17) rfl Tryd.func17 (by kernel_rfl) (by kernel_rfl) ?_
            simp only [List.map_toArray, List.map_nil]
            refine (known_any w (unhide HGW w hk)).mono ?_
            rintro e w' ⟨rfl, K⟩
            exact ⟨_, rfl, K, rfl⟩
          refine steps_consL (fun listed a w hnot hdep hcl hsz hg hn => ?_) ?_
          · have h106 : a.eval (.tmp 106) = .bool true := hn.1
            have h107 : a.eval (.tmp 107) = .bool true := hn.2.1
            clear hn
            have hk := hg.1.1
            refine wantsG_of1M (fun _ _ => trivial) (fun v w' k => hg.free 34 (by decide) 108 (by decide) v k) ?_
            refine wants_plain rfl ?_
            exact grown_pick _ _ _ true rfl h106 h107
          refine steps_consL (fun listed a w hnot hdep hcl hsz hg hn => ?_) ?_
          · have h108 : a.eval (.tmp 108) = .bool true := hn.1
            clear hn
            have hk := hg.1.1
            refine wantsG_of1M (fun _ _ => trivial) (fun v w' k => hg.free 35 (by decide) 4 (by decide) v k) ?_
            refine wants_plain rfl ?_
            exact grown_assign (.tmp 108) rfl h108
          exact trivial
        intro W2
        rintro _ rfl
        rintro _ rfl
        rintro _ rfl
        rintro _ rfl
        rintro _ rfl
        rintro _ rfl
        rintro _ rfl
        rintro _ rfl
        rintro _ rfl
        rintro _ rfl
        rintro _ rfl
        rintro _ rfl
        rintro _ rfl
        rintro _ rfl
        rintro _ rfl
        rintro _ rfl
        rintro _ rfl
        intro v91 h91
        rintro _ rfl
        intro v93 h93
        rintro _ rfl
        intro v95 h95
        rintro _ rfl
        rintro _ rfl
        rintro _ rfl
        rintro _ rfl
        rintro _ rfl
        rintro _ rfl
        rintro _ rfl
        rintro _ rfl
        rintro _ rfl
        rintro _ rfl
        rintro _ rfl
        rintro _ rfl
        rintro _ rfl
        rintro _ rfl
        refine fin_nil ?_
        intro listed hall hg
        have hkW2 := hg.1.1
        simp only [Act.put, List.set_cons_zero, List.set_cons_succ, List.setIfInBounds_toArray]
        go_wp2_with fail
        go_ret
        exact ⟨rfl, (unhide HKD W2 hkW2).below (Nat.le_refl _) (by simp)⟩
set_option maxRecDepth 100000 in
theorem lifted (os : Os) (started : os.Started) (H : Type) (enc : TypeId × Value → H) :
    ReturnsInHanded {} Tryd.checked os 5 .any (fun w args => (Rows.cosignCountsSpec.pre enc Tryd.prog Tryd.f5 [] false w args ∧ laidMetH Tryd.prog laid1 w) ∧ sizedMet enc Tryd.prog Tryd.f5 (OpenSpec.ofChange Rows.cosignCountsSpec) false w args) (Rows.cosignCountsSpec.post enc Tryd.prog Tryd.f5 false true false false) := by
  refine returnsInHanded_of_change_and (C := Tryd.checked) (X := fun w _ => laidMetH Tryd.prog laid1 w) (fun _ _ _ hh h => h.of_heap hh) own started (by kernel_rfl) Tryd.func5
    (ChangeSpec.witness_shaped (enc := enc) (C := Tryd.checked) (os := os) (X := fun w _ => laidMetH Tryd.prog laid1 w) false (World.doorLaid Tryd.prog 400 os) #[.int .i64 0, .slice none 0 0] 8 rfl (World.shaped_of_RefB (by kernel_rfl) (by kernel_rfl)) (by kernel_rfl) (by kernel_rfl) (by kernel_rfl) (door_met os _)) ?_
  intro W base args ds gs before hval0 hW hcnd hsz0 hL _
  have hG := gl_of_laid hL
  have hval : ∀ (j : Nat) t v, Tryd.f5.params[j]? = some t → args[j]? = some v → Value.okWide Tryd.prog W .any base t v := hval0
  have hW' := hW
  obtain ⟨p, q, hA0, hV, rfl, hfz, hnd⟩ := hW
  have hA : DataW.TrodAll enc Tryd.prog W 0 (fun _ => true) true Tryd.f5.params.toList args.toList ds p := hA0
  rw [Tryd.params5] at hA hval
  obtain ⟨v0, vs0, d0, ds0, p0, q0, hargs, rfl, rfl, h0, r0⟩ := trodAll_cons hA
  obtain ⟨v1, vs1, d1, ds1, p1, q1, rfl, rfl, rfl, h1, r1⟩ := trodAll_cons r0
  obtain ⟨rfl, rfl, rfl⟩ := trodAll_nil r1
  obtain rfl : args = #[v0, v1] := by cases args; simp_all
  obtain ⟨rfl, rfl⟩ := trodVars_none hV
  obtain ⟨a0, rfl, rfl, rfl, w0⟩ := open_int Tryd.underlying3 (hval 0 3 v0 rfl rfl) h0
  obtain ⟨a1, len1, cap1, rfl⟩ := okWide_slice Tryd.underlying49 (hval 1 49 v1 rfl rfl)
  have k1 := h1
  have lt1 : ∀ x ∈ p1, x.block < W.heap.size := by obtain ⟨m, hm⟩ := k1; exact DataW.trod_lt m _ _ _ hm
  obtain ⟨l1, s1⟩ : ∃ l, DrL W (.slice a1 len1 cap1) l := by
    obtain ⟨fuel, hf⟩ := h1
    exact draws_of_trod (by simpa [Value.cells] using hf)
  clear hA0 hval0
  refine (walk a0 (.slice a1 len1 cap1) l1 W hG (bounds_i64 w0) s1).mono fun e W' ⟨he, bel⟩ => ?_
  subst he
  exact ⟨_, rfl, _, _, _, [], _, [], hW', trodAll_mk1 (shut_bool Tryd.underlying4 _), (trodAll_cons_mk (shut_int Tryd.underlying3 w0) (trodAll_cons_mk (Below.trod laidOut (by kernel_rfl) (of_decide_eq_true (by kernel_rfl)) k1 bel lt1) trodAll_mk0)), rfl, bel.frame _, fun h => by cases h⟩

theorem over : Rows.cosignCountsRow.holds Tryd.pinned (OpenSpec.ofChange Rows.cosignCountsSpec) :=
  OpenClaim.holds_of_wide 5 Tryd.f5 rfl rfl rfl rfl rfl rfl rfl ⟨rfl, rfl, rfl, rfl, rfl⟩ rfl rfl rfl rfl rfl (by kernel_rfl) Tryd.func5 (by kernel_rfl)
    (of_decide_eq_true (by kernel_rfl)) (by unfold Func.isWrapper; first | (rw [if_pos (by decide +kernel)]; kernel_rfl) | (rw [if_neg (by decide +kernel)]; exact ⟨rfl, rfl⟩))
    (fun os started H enc _ => lifted os started H enc)
end Go.Proofs.YtdjofooggofpkaaDoor.cosignCounts

namespace Go.Proofs.YtdjofooggofpkaaDoor
/-- The given statement: the tied card. -/
theorem CosignCounts_holds : Rows.CosignCountsCardSaid :=
  Claim7.holds_tied_plain_at .later [] [.data] true Rows.cosignCountsCard.stood.harness false
    cosignCounts.over (fun _ h => by cases h) (by kernel_rfl) (fun _ h => by cases h) cosignCounts_row_tie rfl ⟨rfl, rfl⟩ (by kernel_rfl) rfl
    (fun f fn hf hfn => by
      obtain rfl : f = 5 := Option.some.inj ((show Tryd.prog.funcNamed "broadsheet/broadsheetlaw11.CosignCounts" = some 5 by kernel_rfl).symm.trans hf) |>.symm
      obtain rfl : fn = Tryd.f5 := (Option.some.inj (Tryd.func5.symm.trans hfn)).symm
      exact ⟨by kernel_rfl, fun j t ht => by
        rw [Tryd.params5] at ht
        have hm : t ∈ ([3, 49] : List TypeId) := by simpa using Array.mem_of_getElem? ht
        have hall : (([3, 49] : List TypeId).all fun u => !Tryd.prog.wantsStandIn u) = true := by kernel_rfl
        exact (show Tryd.prog.wantsStandIn t = false by simpa using List.all_eq_true.1 hall t hm)⟩)
    (by kernel_rfl)
#print axioms CosignCounts_holds
end Go.Proofs.YtdjofooggofpkaaDoor
