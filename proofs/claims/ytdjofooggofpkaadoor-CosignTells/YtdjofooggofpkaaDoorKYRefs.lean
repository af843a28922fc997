/-
  The contracts of the reference's Cosign and Policy.
-/
import Derived.Test.YtdjofooggofpkaaDoorKXRefB
import Derived.Test.YtdjofooggofpkaaDoorKYSpecs
import Derived.Test.YtdjofooggofpkaaDoorKXSmalls
import Derived.Test.YtdjofooggofpkaaDoorKRGrows
import Derived.Test.YtdjofooggofpkaaDoorKSRefB
namespace Go.Proofs.YtdjofooggofpkaaDoor
open Go.RowKit
open Go.Proofs

theorem letW_nums : letW = nums ⟨#[98, 114, 111, 97, 100, 115, 104, 101, 101, 116, 32, 99, 111, 115, 105, 103, 110]⟩ := by decide
set_option maxRecDepth 100000 in
set_option maxHeartbeats 1000000 in
theorem rcosign_any (vc : Value) (n : Int) (r B : List Int) (hB : B = bodW n r) (w : World) (hC : CkV w vc n r) :
    Calls Tryd.prog 16 #[vc] w fun e w' => ∃ ao m c, e = .returned (.slice ao m c) ∧ Sl w' (.slice ao m c) B ∧ Kp [] w w' := by
  have HC := hide hC
  obtain ⟨a, m, c, rfl, -, -⟩ := hC
  obtain ⟨w1, hw1⟩ : ∃ w1, w1 = w.alloc (.cells #[.int .i64 n, .slice a m c] 27) := ⟨_, rfl⟩
  have K1 : Kp [] w w1 := by rw [hw1]; exact (Kp.refl [] w).alloc _
  have G1 : w1.heap[w.heap.size]? = some (.cells #[.int .i64 n, .slice a m c] 27 (0, 0)) := by rw [hw1]; exact heap_alloc_new w _
  have hl1 := load_whole (T := 27) G1 Tryd.underlying27 rfl Tryd.chkSize
  have HD := hide (refbody_any ⟨#[98, 114, 111, 97, 100, 115, 104, 101, 101, 116, 32, 99, 111, 115, 105, 103, 110]⟩ letW letW_nums (by decide) _ n r B hB w1 ((unhide HC).kept K1))
  rw [hw1] at hl1
  have HK1 := hide K1
  have HW1 := hide hw1
  clear hw1 K1 G1 hB
  go_enter Tryd.func16, Tryd.ntmps16
  go_wp2_with fail
  rw [← unhide HW1]
  refine (unhide HD).mono ?_
  rintro ee w2 ⟨a2, m2, c2, rfl, S2, K2⟩
  have HK2 := hide ((unhide HK1).trans K2)
  have HS2 := hide S2
  clear K2 S2 HD hl1
  go_wp2_with fail
  go_ret
  exact ⟨a2, m2, c2, rfl, unhide HS2, unhide HK2⟩

set_option maxRecDepth 100000 in
set_option maxHeartbeats 8000000 in
theorem rpolicy_any (v : Value) (p : Po) (b : Bool) (hb : b = p.rgt) (w : World) (hV : PoV w v p) :
    Calls Tryd.prog 24 #[v] w fun e w' => e = .returned (.bool b) ∧ Kp [] w w' := by
  obtain ⟨lg, ws, q⟩ := p
  obtain ⟨al, ml, cl, aw, mw, cw, l, rfl, ⟨hS, hBr⟩, hL, hws⟩ := hV
  simp only at hS hBr hws ⊢
  obtain ⟨w1, hw1⟩ : ∃ w1, w1 = w.alloc (.cells #[.slice al ml cl, .slice aw mw cw, .int .i64 q] 42) := ⟨_, rfl⟩
  obtain ⟨g1, hg1⟩ : ∃ g, g = w.heap.size := ⟨_, rfl⟩
  have K1 : Kp [] w w1 := by rw [hw1]; exact (Kp.refl [] w).alloc _
  have G1 : w1.heap[g1]? = some (.cells #[.slice al ml cl, .slice aw mw cw, .int .i64 q] 42 (0, 0)) := by rw [hw1, hg1]; exact heap_alloc_new w _
  have hmw : mw = l.length := by
    obtain ⟨_, _, e, _⟩ := hL.shape
    injection e
  have hwl : ws.length = mw := by rw [← hws, hmw]; simp
  have hml := sl_nlenf hS
  have hb2 : b = (decide ((ml : Int) = 32) && (decide ((mw : Int) ≤ 4) && (decide (1 ≤ q) && (decide (q ≤ (mw : Int)) && decide (keysK (l.map (·.2)) mw))))) := by
    rw [hb, hws]
    unfold Po.rgt
    simp only [hwl]
    have e1 : decide (mw ≤ 4) = decide ((mw : Int) ≤ 4) := decide_eq_decide.2 (by omega)
    have e2 : (lg.length == 32) = decide ((ml : Int) = 32) := by
      rw [hml, Bool.eq_iff_iff]
      simp only [beq_iff_eq, decide_eq_true_eq]
      omega
    rw [e1, e2]
  obtain ⟨aw', cw', ew', hll, hcell⟩ := hL.1
  injection ew' with e1 e2 e3
  subst e1
  rw [← hmw] at hll
  have HK1 := hide K1
  rw [hw1] at HK1
  have HB := hide hb2
  have HC0 := hide hcell
  have HMW := hide hmw
  have HG1 := hide G1
  have HW1 := hide hw1
  have HGG := hide hg1
  clear hb hb2 hS hBr hL hws hmw hwl hcell e2 e3 K1 G1 hml hw1 hg1
  by_cases h0 : ¬ (ml : Int) = 32
  · have HE : Hid (b = false) := hide (by rw [unhide HB]; simp [h0])
    clear HB
    go_enter Tryd.func24, Tryd.ntmps24
    go_wp2_with fail
    go_ret
    exact ⟨by rw [unhide HE]; rfl, unhide HK1⟩
  replace h0 : (ml : Int) = 32 := by omega
  by_cases h1 : (mw : Int) < 1
  · have HE : Hid (b = false) := hide (by rw [unhide HB]; (by_cases hq : 1 ≤ q <;> simp [hq] <;> intros <;> omega))
    clear HB
    go_enter Tryd.func24, Tryd.ntmps24
    go_wp2_with fail
    go_ret
    exact ⟨by rw [unhide HE]; rfl, unhide HK1⟩
  by_cases h2 : 4 < (mw : Int)
  · have HE : Hid (b = false) := hide (by rw [unhide HB]; simp; intros; omega)
    clear HB
    go_enter Tryd.func24, Tryd.ntmps24
    go_wp2_with fail
    go_ret
    exact ⟨by rw [unhide HE]; rfl, unhide HK1⟩
  by_cases h3 : q < 1
  · have HE : Hid (b = false) := hide (by rw [unhide HB]; simp; intros; omega)
    clear HB
    go_enter Tryd.func24, Tryd.ntmps24
    go_wp2_with fail
    go_ret
    exact ⟨by rw [unhide HE]; rfl, unhide HK1⟩
  by_cases h4 : (mw : Int) < q
  · have HE : Hid (b = false) := hide (by rw [unhide HB]; simp; intros; omega)
    clear HB
    go_enter Tryd.func24, Tryd.ntmps24
    go_wp2_with fail
    go_ret
    exact ⟨by rw [unhide HE]; rfl, unhide HK1⟩
  have HE : Hid (b = decide (keysK (l.map (·.2)) mw)) := hide (by rw [unhide HB]; simp [h0, show (mw : Int) ≤ 4 by omega, show 1 ≤ q by omega, show q ≤ (mw : Int) by omega])
  obtain ⟨bw, ow, rfl, -, -, -⟩ := unhide HC0 0 (by have := unhide HMW; omega)
  have HC : Hid (∀ i (h : i < l.length), w.cell? ⟨bw, ow + i, none⟩ = some (l[i]'h).1 ∧ Sl w (l[i]'h).1 (l[i]'h).2 ∧ Bs (l[i]'h).2) := hide (fun i h => by
    obtain ⟨b', o', e, h1, h2, h3⟩ := unhide HC0 i h
    injection e with e
    injection e with e4 e5
    subst e4
    subst e5
    exact ⟨h1, h2, h3⟩)
  have h32 : ml = 32 := by omega
  subst h32
  clear HB HC0 h0
  go_enter Tryd.func24, Tryd.ntmps24
  go_wp2_with fail
  rw [← unhide HW1, ← unhide HGG]
  go_loopw [4] (fun vi wr => ∃ i : Nat, i ≤ mw ∧ vi = .int .i64 i ∧ keysK (l.map (·.2)) i ∧ Kp [] w1 wr) (fun vi _ => mw - (intOf vi).toNat)
  case atStart => exact ⟨0, by omega, rfl, keysK_zero _, Kp.refl _ _⟩
  case round =>
    obtain ⟨ii, hi, rfl, hgood, hKr⟩ := hrel
    have HGood := hide hgood
    have K1 : Kp [] w w1 := by rw [unhide HW1]; exact unhide HK1
    have HKr := hide (K1.trans hKr)
    have HGr := hide (hKr.heap (unhide HG1) (by simp))
    have c1 : wr.cell? ⟨g1, 1, none⟩ = some (.slice (some ⟨bw, ow, none⟩) mw cw) := by rw [cell_of_row wr g1 1 _ _ _ (unhide HGr)]; rfl
    have HKo := hide hKr
    clear hgood hKr K1
    by_cases hlt : ii < mw
    · have hlti : (ii : Int) < (mw : Int) := by omega
      have hkl : ii < l.length := by have := unhide HMW; omega
      obtain ⟨hx, hSx, hBx⟩ := unhide HC ii hkl
      obtain ⟨xs, hxs⟩ : ∃ x, x = (l[ii]'hkl).2 := ⟨_, rfl⟩
      rw [← hxs] at hSx hBx
      have HSx := hide hSx
      obtain ⟨ax, cx, hxv, -⟩ := hSx
      obtain ⟨nx, hnx⟩ : ∃ k, k = xs.length := ⟨_, rfl⟩
      rw [← hnx] at hxv
      rw [hxv] at hx HSx
      have hgi : (l.map (·.2)).getD ii [] = xs := by simp [List.getD, hkl, hxs]
      have HGI := hide hgi
      have HNX := hide hnx
      have HXC0 := hide hx
      have hxr : wr.cell? ⟨bw, ow + ii, none⟩ = some (.slice ax nx cx) := (unhide HKr).cell hx (by simp)
      have HBx := hide hBx
      clear hxs hxv hnx hgi hx hBx
      by_cases h5 : ¬ (nx : Int) = 32
      · have hbb : Hid (b = false) := hide (by
          rw [unhide HE]
          exact decide_eq_false (keysK_len hlt (by rw [unhide HGI]; have := unhide HNX; omega)))
        clear HE
        go_wp2_with fail
        go_ret
        exact ⟨by rw [unhide hbb]; rfl, unhide HKr⟩
      obtain rfl : nx = 32 := by omega
      clear h5
      go_wp2_with fail
      obtain ⟨wo, hwo⟩ : ∃ wo, wo = wr := ⟨_, rfl⟩
      subst hwo
      go_loopw [5] (fun vj wr => ∃ j : Nat, j ≤ ii ∧ vj = .int .i64 j ∧ (∀ j', j' < j → (l.map (·.2)).getD j' [] ≠ xs) ∧ Kp [] wo wr) (fun vj _ => ii - (intOf vj).toNat)
      case atStart => exact ⟨0, by omega, rfl, (fun j' h => by omega), Kp.refl _ _⟩
      case round =>
        obtain ⟨jj, hj, rfl, hun, hKq⟩ := hrel
        have HUn := hide hun
        have HKq := hide hKq
        clear hun hKq
        by_cases hltj' : jj < ii
        · have hltji : (jj : Int) < (ii : Int) := by omega
          have hltj : (jj : Int) < (mw : Int) := by omega
          have hkj : jj < l.length := by omega
          obtain ⟨hy, hSy, hBy⟩ := unhide HC jj hkj
          obtain ⟨ys, hys⟩ : ∃ x, x = (l[jj]'hkj).2 := ⟨_, rfl⟩
          rw [← hys] at hSy hBy
          have HSy := hide hSy
          obtain ⟨ay, cy, hyv, -⟩ := hSy
          obtain ⟨ny, hny⟩ : ∃ k, k = ys.length := ⟨_, rfl⟩
          rw [← hny] at hyv
          rw [hyv] at hy HSy
          have hgj : (l.map (·.2)).getD jj [] = ys := by simp [List.getD, hkj, hys]
          have HGJ := hide hgj
          have HDR := hide (((unhide HKr).trans (unhide HKq)).trans (kp_drew wr))
          have HD : Hid (∀ w', Kp [] wr.drew w' → Kp [] w w') := fun w' k' => (unhide HDR).trans k'
          have HT1 : Hid (∀ w', Kp [] wr.drew w' → w'.heap[g1]? = some (.cells #[.slice al 32 cl, .slice (some ⟨bw, ow, none⟩) mw cw, .int .i64 q] 42 (0, 0))) := fun w' k' => (((unhide HKq).trans (kp_drew wr)).trans k').heap (unhide HGr) (by simp)
          have HXC : Hid (∀ w', Kp [] wr.drew w' → w'.cell? ⟨bw, ow + ii, none⟩ = some (.slice ax 32 cx)) := fun w' k' => (unhide HD w' k').cell (unhide HXC0) (by simp)
          have HYC : Hid (∀ w', Kp [] wr.drew w' → w'.cell? ⟨bw, ow + jj, none⟩ = some (.slice ay ny cy)) := fun w' k' => (unhide HD w' k').cell hy (by simp)
          have HXS : Hid (∀ w', Kp [] wr.drew w' → Sl w' (.slice ax 32 cx) xs) := fun w' k' => (unhide HSx).kept (unhide HD w' k') (by simp)
          have HYS : Hid (∀ w', Kp [] wr.drew w' → Sl w' (.slice ay ny cy) ys) := fun w' k' => (unhide HSy).kept (unhide HD w' k') (by simp)
          obtain ⟨S1, hS1⟩ : ∃ S, S = strOfNums xs := ⟨_, rfl⟩
          obtain ⟨S2, hS2⟩ : ∃ S, S = strOfNums ys := ⟨_, rfl⟩
          obtain ⟨bb, hbb⟩ : ∃ b, b = decide (xs = ys) := ⟨_, rfl⟩
          have hSS : (S1.toList == S2.toList) = bb := by rw [hS1, hS2, str_beq xs ys (unhide HBx) hBy, hbb]
          have HBB := hide hbb
          have HS1 := hide hS1
          have HS2 := hide hS2
          clear hys hyv hny hgj hy hS1 hS2 hbb hBy HSy
          go_wp2_with fail
          refine region_grow Tryd.mixed [Is (.pointer (some ⟨g1, 1, none⟩)), Is (.slice (some ⟨bw, ow, none⟩) mw cw), Is (.int .i64 ii), Is (.pointer (some ⟨bw, ow + ii, none⟩)), Is (.slice ax 32 cx), Is (.string S1), Is (.pointer (some ⟨g1, 1, none⟩)), Is (.slice (some ⟨bw, ow, none⟩) mw cw), Is (.int .i64 jj), Is (.pointer (some ⟨bw, ow + jj, none⟩)), Is (.slice ay ny cy), Is (.string S2), Is (.bool bb)] [[(1, none)], [(49, some 0)], [(4, none)], [(50, some 1), (51, some 2)], [(52, some 3)], [(53, some 4)], [(1, none)], [(55, some 6)], [(5, none)], [(56, some 7), (57, some 8)], [(58, some 9)], [(59, some 10)], [(54, some 5), (60, some 11)]] (by kernel_rfl) ?_ ?_ ?_
          · simp only [List.mem_cons, List.not_mem_nil, or_false]
            intro R hR
            rcases hR with rfl | rfl | rfl | rfl | rfl | rfl | rfl | rfl | rfl | rfl | rfl | rfl | rfl <;> first | exact stable_is _
          · refine steps_cons (fun a w hk hn => ?_) ?_
            · have h1 : a.eval (.tmp 1) = .pointer (some ⟨g1, 0, none⟩) := hn.1
              clear hn
              refine wants_plain rfl ?_
              refine grown_run (v := .pointer (some ⟨g1, 1, none⟩)) ?_ (Kp.refl _ _) rfl
              obtain ⟨ρ, hρ, hc, hf, hg⟩ := eval_is a
              rw [hρ] at h1 ⊢
              simp [go_sem, h1]
            refine steps_cons (fun a w hk hn => ?_) ?_
            · have h49 : a.eval (.tmp 49) = .pointer (some ⟨g1, 1, none⟩) := hn.1
              clear hn
              refine wants_plain rfl ?_
              refine grown_run (v := .slice (some ⟨bw, ow, none⟩) mw cw) ?_ (Kp.refl _ _) rfl
              have hcell : w.cell? ⟨g1, 1, none⟩ = some (.slice (some ⟨bw, ow, none⟩) mw cw) := by rw [cell_of_row w g1 1 _ _ _ (unhide HT1 w hk)]; rfl
              obtain ⟨ρ, hρ, hc, hf, hg⟩ := eval_is a
              rw [hρ] at h49 ⊢
              simp [go_sem, h49, hcell]
            refine steps_cons (fun a w hk hn => ?_) ?_
            · have h4 : a.eval (.tmp 4) = .int .i64 ii := hn.1
              clear hn
              refine wants_plain rfl ?_
              exact grown_move (.tmp 4) rfl h4
            refine steps_cons (fun a w hk hn => ?_) ?_
            · have h50 : a.eval (.tmp 50) = .slice (some ⟨bw, ow, none⟩) mw cw := hn.1
              have h51 : a.eval (.tmp 51) = .int .i64 ii := hn.2.1
              clear hn
              refine wants_plain rfl ?_
              refine grown_run (v := .pointer (some ⟨bw, ow + ii, none⟩)) ?_ (Kp.refl _ _) rfl
              obtain ⟨ρ, hρ, hc, hf, hg⟩ := eval_is a
              rw [hρ] at h50 h51 ⊢
              simp [go_sem, h50, h51, hlti]
            refine steps_cons (fun a w hk hn => ?_) ?_
            · have h52 : a.eval (.tmp 52) = .pointer (some ⟨bw, ow + ii, none⟩) := hn.1
              clear hn
              refine wants_plain rfl ?_
              refine grown_run (v := .slice ax 32 cx) ?_ (Kp.refl _ _) rfl
              have hcell := unhide HXC w hk
              obtain ⟨ρ, hρ, hc, hf, hg⟩ := eval_is a
              rw [hρ] at h52 ⊢
              simp [go_sem, h52, hcell]
            refine steps_cons (fun a w hk hn => ?_) ?_
            · have h53 : a.eval (.tmp 53) = .slice ax 32 cx := hn.1
              clear hn
              refine wants_plain rfl ?_
              exact grown_conv (.tmp 53) _ _ 5 (xs) rfl (by rw [h53]; exact unhide HXS w hk) Tryd.underlying24 Tryd.underlying5 Tryd.underlying9 (congrArg Value.string (unhide HS1).symm)
            refine steps_cons (fun a w hk hn => ?_) ?_
            · have h1 : a.eval (.tmp 1) = .pointer (some ⟨g1, 0, none⟩) := hn.1
              clear hn
              refine wants_plain rfl ?_
              refine grown_run (v := .pointer (some ⟨g1, 1, none⟩)) ?_ (Kp.refl _ _) rfl
              obtain ⟨ρ, hρ, hc, hf, hg⟩ := eval_is a
              rw [hρ] at h1 ⊢
              simp [go_sem, h1]
            refine steps_cons (fun a w hk hn => ?_) ?_
            · have h55 : a.eval (.tmp 55) = .pointer (some ⟨g1, 1, none⟩) := hn.1
              clear hn
              refine wants_plain rfl ?_
              refine grown_run (v := .slice (some ⟨bw, ow, none⟩) mw cw) ?_ (Kp.refl _ _) rfl
              have hcell : w.cell? ⟨g1, 1, none⟩ = some (.slice (some ⟨bw, ow, none⟩) mw cw) := by rw [cell_of_row w g1 1 _ _ _ (unhide HT1 w hk)]; rfl
              obtain ⟨ρ, hρ, hc, hf, hg⟩ := eval_is a
              rw [hρ] at h55 ⊢
              simp [go_sem, h55, hcell]
            refine steps_cons (fun a w hk hn => ?_) ?_
            · have h5 : a.eval (.tmp 5) = .int .i64 jj := hn.1
              clear hn
              refine wants_plain rfl ?_
              exact grown_move (.tmp 5) rfl h5
            refine steps_cons (fun a w hk hn => ?_) ?_
            · have h56 : a.eval (.tmp 56) = .slice (some ⟨bw, ow, none⟩) mw cw := hn.1
              have h57 : a.eval (.tmp 57) = .int .i64 jj := hn.2.1
              clear hn
              refine wants_plain rfl ?_
              refine grown_run (v := .pointer (some ⟨bw, ow + jj, none⟩)) ?_ (Kp.refl _ _) rfl
              obtain ⟨ρ, hρ, hc, hf, hg⟩ := eval_is a
              rw [hρ] at h56 h57 ⊢
              simp [go_sem, h56, h57, hltj]
            refine steps_cons (fun a w hk hn => ?_) ?_
            · have h58 : a.eval (.tmp 58) = .pointer (some ⟨bw, ow + jj, none⟩) := hn.1
              clear hn
              refine wants_plain rfl ?_
              refine grown_run (v := .slice ay ny cy) ?_ (Kp.refl _ _) rfl
              have hcell := unhide HYC w hk
              obtain ⟨ρ, hρ, hc, hf, hg⟩ := eval_is a
              rw [hρ] at h58 ⊢
              simp [go_sem, h58, hcell]
            refine steps_cons (fun a w hk hn => ?_) ?_
            · have h59 : a.eval (.tmp 59) = .slice ay ny cy := hn.1
              clear hn
              refine wants_plain rfl ?_
              exact grown_conv (.tmp 59) _ _ 5 (ys) rfl (by rw [h59]; exact unhide HYS w hk) Tryd.underlying24 Tryd.underlying5 Tryd.underlying9 (congrArg Value.string (unhide HS2).symm)
            refine steps_cons (fun a w hk hn => ?_) ?_
            · have h54 : a.eval (.tmp 54) = .string S1 := hn.1
              have h60 : a.eval (.tmp 60) = .string S2 := hn.2.1
              clear hn
              refine wants_plain rfl ?_
              refine grown_run (v := .bool bb) ?_ (Kp.refl _ _) rfl
              obtain ⟨ρ, hρ, hc, hf, hg⟩ := eval_is a
              rw [hρ] at h54 h60 ⊢
              simp [go_sem, h54, h60, hSS]
            exact trivial
          intro W1 hkW1
          rintro _ rfl
          rintro _ rfl
          rintro _ rfl
          rintro _ rfl
          rintro _ rfl
          rintro _ rfl
          rintro _ rfl
          rintro _ rfl
          rintro _ rfl
          rintro _ rfl
          rintro _ rfl
          rintro _ rfl
          rintro _ rfl
          refine fin_nil ?_
          simp only [Act.put, List.set_cons_zero, List.set_cons_succ, List.setIfInBounds_toArray]
          cases bb
          · go_wp2_with fail
            go_roundw
            case rel =>
              refine ⟨jj + 1, by omega, by go_num, fun j' hj' => ?_, ((unhide HKq).trans (kp_drew wr)).trans hkW1⟩
              rcases Nat.lt_or_ge j' jj with h | h
              · exact unhide HUn j' h
              · obtain rfl : j' = jj := by omega
                rw [unhide HGJ]
                exact fun e => of_decide_eq_false (unhide HBB).symm e.symm
            case measure => simp [intOf]; omega
          · have hbb : Hid (b = false) := hide (by
              rw [unhide HE]
              exact decide_eq_false (keysK_two hlt hltj' (by rw [unhide HGI, unhide HGJ]; exact (of_decide_eq_true (unhide HBB).symm).symm)))
            clear HE
            go_wp2_with fail
            go_ret
            exact ⟨by rw [unhide hbb]; rfl, unhide HD W1 hkW1⟩
        · obtain rfl : jj = ii := by omega
          have hltj2 : ¬ (jj : Int) < (jj : Int) := by omega
          have HKo2 := hide ((unhide HKo).trans (unhide HKq))
          clear HKo
          go_wp2_with fail
          go_roundw
          case rel => exact ⟨jj + 1, by omega, by go_num, keysK_succ (unhide HGood) (by rw [unhide HGI]; exact (unhide HNX).symm) (fun j hj => by rw [unhide HGI]; exact unhide HUn j hj), unhide HKo2⟩
          case measure => simp [intOf]; omega
    · obtain rfl : ii = mw := by omega
      have hlt2 : ¬ (ii : Int) < (ii : Int) := by omega
      have hbb : Hid (b = true) := hide (by rw [unhide HE]; exact decide_eq_true (unhide HGood))
      clear HE
      go_wp2_with fail
      go_ret
      exact ⟨by rw [unhide hbb]; rfl, unhide HKr⟩
end Go.Proofs.YtdjofooggofpkaaDoor

/-
  The contract of the reference's Cosigned.
-/
namespace Go.Proofs.YtdjofooggofpkaaDoor
open Go.RowKit
open Go.Proofs

set_option maxRecDepth 100000 in
set_option maxHeartbeats 8000000 in
theorem rcosigned_any (vp : Value) (p : Po) (vc : Value) (n : Int) (r : List Int) (vg : Value) (g : Co) (b : Bool) (hb : b = verW p n r g) (w : World) (hP : PoV w vp p) (hC : CkV w vc n r) (hV : CoV w vg g) (hi : -9223372036854775808 ≤ g.i ∧ g.i ≤ 9223372036854775807) :
    Calls Tryd.prog 21 #[vp, vc, vg] w fun e w' => e = .returned (.bool b) ∧ Kp [] w w' := by
  obtain ⟨k, i, ps, qs⟩ := g
  have HP0 := hide hP
  have HC0 := hide hC
  obtain ⟨al, ml, cl, aw, mw, cw, l, rfl, -, hL, hws⟩ := hP
  obtain ⟨ar, mr, cr, rfl, -, hBr⟩ := hC
  obtain ⟨ap, np, cp, aq, nq, cq, rfl, hSig⟩ := hV
  simp only at hSig hi ⊢
  have hmw : mw = l.length := by
    obtain ⟨_, _, e, _⟩ := hL.shape
    injection e
  obtain ⟨q, hq0⟩ : ∃ q, q = p.q := ⟨_, rfl⟩
  rw [← hq0] at HP0 ⊢
  obtain ⟨g3, hg3⟩ : ∃ g, g = w.heap.size := ⟨_, rfl⟩
  obtain ⟨g4, hg4⟩ : ∃ g, g = w.heap.size + 1 := ⟨_, rfl⟩
  obtain ⟨g5, hg5⟩ : ∃ g, g = w.heap.size + 1 + 1 := ⟨_, rfl⟩
  obtain ⟨w0, hw0⟩ : ∃ w0, w0 = ((w.alloc (.cells #[.slice al ml cl, .slice aw mw cw, .int .i64 q] 42)).alloc (.cells #[.int .i64 n, .slice ar mr cr] 27)).alloc (.cells #[.int .i64 k, .int .i64 i, .slice ap np cp, .slice aq nq cq] 33) := ⟨_, rfl⟩
  have K0 : Kp [] w w0 := by rw [hw0]; exact (((Kp.refl [] w).alloc _).alloc _).alloc _
  have G5 : w0.heap[g5]? = some (.cells #[.int .i64 k, .int .i64 i, .slice ap np cp, .slice aq nq cq] 33 (0, 0)) := by
    rw [hw0, hg5, show w.heap.size + 1 + 1 = ((w.alloc (.cells #[.slice al ml cl, .slice aw mw cw, .int .i64 q] 42)).alloc (.cells #[.int .i64 n, .slice ar mr cr] 27)).heap.size by simp]
    exact heap_alloc_new _ _
  have G4 : w0.heap[g4]? = some (.cells #[.int .i64 n, .slice ar mr cr] 27 (0, 0)) := by
    rw [hw0, hg4]
    exact ((Kp.refl [] ((w.alloc _).alloc _)).alloc _).heap (heap_alloc2_new w _ _) (by simp)
  have G3 : w0.heap[g3]? = some (.cells #[.slice al ml cl, .slice aw mw cw, .int .i64 q] 42 (0, 0)) := by
    rw [hw0, hg3]
    exact ((Kp.refl [] ((w.alloc _).alloc _)).alloc _).heap (heap_alloc2_old w _ _) (by simp)
  have H3 := hide hg3
  have H4 := hide hg4
  have H5 := hide hg5
  have HW0 := hide hw0
  have HK0 := hide K0
  obtain ⟨bp, hbp⟩ : ∃ b, b = p.rgt := ⟨_, rfl⟩
  obtain ⟨bc, hbc⟩ : ∃ b, b = rgtC n r := ⟨_, rfl⟩
  have HB : Hid (b = (bp && (bc && (decide (0 ≤ k) && (decide (k < p.ws.length) && verP (p.ws.getD k.toNat []) (bodW n r) i ps qs))))) := hide (by rw [hb, hbp, hbc]; rfl)
  have hwl : p.ws.length = mw := by rw [← hws, hmw]; simp
  rw [hwl] at HB
  have HP := hide hbp
  have HQ := hide hbc
  have HI := hide hi
  have HD : Hid (∀ w', Kp [] w0.drew w' → Kp [] w w') := fun w' k' => (unhide HK0).trans ((kp_drew w0).trans k')
  have HT3 : Hid (∀ w', Kp [] w0.drew w' → w'.heap[g3]? = some (.cells #[.slice al ml cl, .slice aw mw cw, .int .i64 q] 42 (0, 0))) := fun w' k' => ((kp_drew w0).trans k').heap G3 (by simp)
  have HT4 : Hid (∀ w', Kp [] w0.drew w' → w'.heap[g4]? = some (.cells #[.int .i64 n, .slice ar mr cr] 27 (0, 0))) := fun w' k' => ((kp_drew w0).trans k').heap G4 (by simp)
  have HT5 : Hid (∀ w', Kp [] w0.drew w' → w'.heap[g5]? = some (.cells #[.int .i64 k, .int .i64 i, .slice ap np cp, .slice aq nq cq] 33 (0, 0))) := fun w' k' => ((kp_drew w0).trans k').heap G5 (by simp)
  have HPO : Hid (∀ w', Kp [] w0.drew w' → PoV w' (.agg #[.slice al ml cl, .slice aw mw cw, .int .i64 q]) p) := fun w' k' => (unhide HP0).kept (unhide HD w' k')
  have HCK : Hid (∀ w', Kp [] w0.drew w' → CkV w' (.agg #[.int .i64 n, .slice ar mr cr]) n r) := fun w' k' => (unhide HC0).kept (unhide HD w' k')
  have HSV : Hid (∀ w', Kp [] w0.drew w' → SigV w' (.agg #[.int .i64 i, .slice ap np cp, .slice aq nq cq]) i ps qs) := fun w' k' => hSig.kept (unhide HD w' k')
  have HL := hide hL
  have HWS := hide hws
  have HMW := hide hmw
  have HBr := hide hBr
  clear hb hbp hbc hg3 hg4 hg5 hw0 K0 G3 G4 G5 hL hws hmw hSig hBr hi hq0 hwl HP0 HC0
  cases bp
  · have HE : Hid (b = false) := hide (by rw [unhide HB]; rfl)
    clear HB
    go_enter Tryd.func21, Tryd.ntmps21
    go_wp2_with fail
    rw [← unhide HW0, ← unhide H5, ← unhide H4, ← unhide H3]
    refine region_grow Tryd.mixed [Is (.agg #[.slice al ml cl, .slice aw mw cw, .int .i64 q]), Is (.bool false), Is (.bool false), Is (undef), Is (undef), Is (.bool false), Is (.bool false), Is (undef), Is (undef), Is (undef), Is (.bool false), Is (.bool false), Is (undef), Is (undef), Is (undef), Is (undef), Is (undef), Is (undef), Is (.bool false), Is (.bool false), Is (undef), Is (undef), Is (undef), Is (undef), Is (undef), Is (undef), Is (undef), Is (undef), Is (undef), Is (undef), Is (undef), Is (.bool false), Is (.bool false)] [[(3, none)], [(7, some 0)], [(8, some 1)], [(4, none), (9, some 2)], [(10, some 3), (9, some 2)], [(9, some 2), (11, some 4)], [(12, some 5)], [(5, none), (13, some 6)], [(14, some 7), (13, some 6)], [(15, some 8), (13, some 6)], [(13, some 6), (16, some 9)], [(17, some 10)], [(5, none), (18, some 11)], [(19, some 12), (18, some 11)], [(3, none), (18, some 11)], [(21, some 14), (18, some 11)], [(22, some 15), (18, some 11)], [(20, some 13), (23, some 16), (18, some 11)], [(18, some 11), (24, some 17)], [(25, some 18)], [(3, none), (26, some 19)], [(27, some 20), (26, some 19)], [(5, none), (26, some 19)], [(29, some 22), (26, some 19)], [(28, some 21), (30, some 23), (26, some 19)], [(31, some 24), (26, some 19)], [(4, none), (26, some 19)], [(33, some 26), (26, some 19)], [(5, none), (26, some 19)], [(35, some 28), (26, some 19)], [(32, some 25), (34, some 27), (36, some 29), (26, some 19)], [(26, some 19), (37, some 30)], [(38, some 31)]] (by kernel_rfl) ?_ ?_ ?_
    · simp only [List.mem_cons, List.not_mem_nil, or_false]
      intro R hR
      rcases hR with rfl | rfl | rfl | rfl | rfl | rfl | rfl | rfl | rfl | rfl | rfl | rfl | rfl | rfl | rfl | rfl | rfl | rfl | rfl | rfl | rfl | rfl | rfl | rfl | rfl | rfl | rfl | rfl | rfl | rfl | rfl | rfl | rfl <;> first | exact stable_is _
    · refine steps_cons (fun a w hk hn => ?_) ?_
      · have h3 : a.eval (.tmp 3) = .pointer (some ⟨g3, 0, none⟩) := hn.1
        clear hn
        refine wants_plain rfl ?_
        exact grown_loadf 42 (.tmp 3) rfl g3 0 h3 _ _ _ _ (unhide HT3 w hk) [.slice al ml cl, .slice aw mw cw, .int .i64 q] (flat_in rfl) Tryd.underlying42 rfl Tryd.polSize rfl
      refine steps_cons (fun a w hk hn => ?_) ?_
      · have h7 : a.eval (.tmp 7) = .agg #[.slice al ml cl, .slice aw mw cw, .int .i64 q] := hn.1
        clear hn
        refine wants_plain rfl ?_
        refine grown_call (f := 24) rfl Tryd.func24 (by kernel_rfl) (by kernel_rfl) ?_
        simp only [List.map_toArray, List.map_cons, List.map_nil, h7]
        refine (rpolicy_any _ p false (unhide HP) w (unhide HPO w hk)).mono ?_
        rintro e w' ⟨rfl, K⟩
        exact ⟨_, rfl, K, rfl⟩
      refine steps_cons (fun a w hk hn => ?_) ?_
      · have h8 : a.eval (.tmp 8) = .bool false := hn.1
        clear hn
        refine wants_plain rfl ?_
        exact grown_move (.tmp 8) rfl h8
      refine steps_cons (fun a w hk hn => ?_) ?_
      · have h4 : a.eval (.tmp 4) = .pointer (some ⟨g4, 0, none⟩) := hn.1
        have h9 : a.eval (.tmp 9) = .bool false := hn.2.1
        clear hn
        exact wants_not (d := 9) rfl rfl h9 rfl
      refine steps_cons (fun a w hk hn => ?_) ?_
      · have h10 : a.eval (.tmp 10) = undef := hn.1
        have h9 : a.eval (.tmp 9) = .bool false := hn.2.1
        clear hn
        exact wants_not (d := 9) rfl rfl h9 rfl
      refine steps_cons (fun a w hk hn => ?_) ?_
      · have h9 : a.eval (.tmp 9) = .bool false := hn.1
        have h11 : a.eval (.tmp 11) = undef := hn.2.1
        clear hn
        refine wants_plain rfl ?_
        exact grown_pick _ _ _ false rfl h9 rfl
      refine steps_cons (fun a w hk hn => ?_) ?_
      · have h12 : a.eval (.tmp 12) = .bool false := hn.1
        clear hn
        refine wants_plain rfl ?_
        exact grown_move (.tmp 12) rfl h12
      refine steps_cons (fun a w hk hn => ?_) ?_
      · have h5 : a.eval (.tmp 5) = .pointer (some ⟨g5, 0, none⟩) := hn.1
        have h13 : a.eval (.tmp 13) = .bool false := hn.2.1
        clear hn
        exact wants_not (d := 13) rfl rfl h13 rfl
      refine steps_cons (fun a w hk hn => ?_) ?_
      · have h14 : a.eval (.tmp 14) = undef := hn.1
        have h13 : a.eval (.tmp 13) = .bool false := hn.2.1
        clear hn
        exact wants_not (d := 13) rfl rfl h13 rfl
      refine steps_cons (fun a w hk hn => ?_) ?_
      · have h15 : a.eval (.tmp 15) = undef := hn.1
        have h13 : a.eval (.tmp 13) = .bool false := hn.2.1
        clear hn
        exact wants_not (d := 13) rfl rfl h13 rfl
      refine steps_cons (fun a w hk hn => ?_) ?_
      · have h13 : a.eval (.tmp 13) = .bool false := hn.1
        have h16 : a.eval (.tmp 16) = undef := hn.2.1
        clear hn
        refine wants_plain rfl ?_
        exact grown_pick _ _ _ false rfl h13 rfl
      refine steps_cons (fun a w hk hn => ?_) ?_
      · have h17 : a.eval (.tmp 17) = .bool false := hn.1
        clear hn
        refine wants_plain rfl ?_
        exact grown_move (.tmp 17) rfl h17
      refine steps_cons (fun a w hk hn => ?_) ?_
      · have h5 : a.eval (.tmp 5) = .pointer (some ⟨g5, 0, none⟩) := hn.1
        have h18 : a.eval (.tmp 18) = .bool false := hn.2.1
        clear hn
        exact wants_not (d := 18) rfl rfl h18 rfl
      refine steps_cons (fun a w hk hn => ?_) ?_
      · have h19 : a.eval (.tmp 19) = undef := hn.1
        have h18 : a.eval (.tmp 18) = .bool false := hn.2.1
        clear hn
        exact wants_not (d := 18) rfl rfl h18 rfl
      refine steps_cons (fun a w hk hn => ?_) ?_
      · have h3 : a.eval (.tmp 3) = .pointer (some ⟨g3, 0, none⟩) := hn.1
        have h18 : a.eval (.tmp 18) = .bool false := hn.2.1
        clear hn
        exact wants_not (d := 18) rfl rfl h18 rfl
      refine steps_cons (fun a w hk hn => ?_) ?_
      · have h21 : a.eval (.tmp 21) = undef := hn.1
        have h18 : a.eval (.tmp 18) = .bool false := hn.2.1
        clear hn
        exact wants_not (d := 18) rfl rfl h18 rfl
      refine steps_cons (fun a w hk hn => ?_) ?_
      · have h22 : a.eval (.tmp 22) = undef := hn.1
        have h18 : a.eval (.tmp 18) = .bool false := hn.2.1
        clear hn
        exact wants_not (d := 18) rfl rfl h18 rfl
      refine steps_cons (fun a w hk hn => ?_) ?_
      · have h20 : a.eval (.tmp 20) = undef := hn.1
        have h23 : a.eval (.tmp 23) = undef := hn.2.1
        have h18 : a.eval (.tmp 18) = .bool false := hn.2.2.1
        clear hn
        exact wants_not (d := 18) rfl rfl h18 rfl
      refine steps_cons (fun a w hk hn => ?_) ?_
      · have h18 : a.eval (.tmp 18) = .bool false := hn.1
        have h24 : a.eval (.tmp 24) = undef := hn.2.1
        clear hn
        refine wants_plain rfl ?_
        exact grown_pick _ _ _ false rfl h18 rfl
      refine steps_cons (fun a w hk hn => ?_) ?_
      · have h25 : a.eval (.tmp 25) = .bool false := hn.1
        clear hn
        refine wants_plain rfl ?_
        exact grown_move (.tmp 25) rfl h25
      refine steps_cons (fun a w hk hn => ?_) ?_
      · have h3 : a.eval (.tmp 3) = .pointer (some ⟨g3, 0, none⟩) := hn.1
        have h26 : a.eval (.tmp 26) = .bool false := hn.2.1
        clear hn
        exact wants_not (d := 26) rfl rfl h26 rfl
      refine steps_cons (fun a w hk hn => ?_) ?_
      · have h27 : a.eval (.tmp 27) = undef := hn.1
        have h26 : a.eval (.tmp 26) = .bool false := hn.2.1
        clear hn
        exact wants_not (d := 26) rfl rfl h26 rfl
      refine steps_cons (fun a w hk hn => ?_) ?_
      · have h5 : a.eval (.tmp 5) = .pointer (some ⟨g5, 0, none⟩) := hn.1
        have h26 : a.eval (.tmp 26) = .bool false := hn.2.1
        clear hn
        exact wants_not (d := 26) rfl rfl h26 rfl
      refine steps_cons (fun a w hk hn => ?_) ?_
      · have h29 : a.eval (.tmp 29) = undef := hn.1
        have h26 : a.eval (.tmp 26) = .bool false := hn.2.1
        clear hn
        exact wants_not (d := 26) rfl rfl h26 rfl
      refine steps_cons (fun a w hk hn => ?_) ?_
      · have h28 : a.eval (.tmp 28) = undef := hn.1
        have h30 : a.eval (.tmp 30) = undef := hn.2.1
        have h26 : a.eval (.tmp 26) = .bool false := hn.2.2.1
        clear hn
        exact wants_not (d := 26) rfl rfl h26 rfl
      refine steps_cons (fun a w hk hn => ?_) ?_
      · have h31 : a.eval (.tmp 31) = undef := hn.1
        have h26 : a.eval (.tmp 26) = .bool false := hn.2.1
        clear hn
        exact wants_not (d := 26) rfl rfl h26 rfl
      refine steps_cons (fun a w hk hn => ?_) ?_
      · have h4 : a.eval (.tmp 4) = .pointer (some ⟨g4, 0, none⟩) := hn.1
        have h26 : a.eval (.tmp 26) = .bool false := hn.2.1
        clear hn
        exact wants_not (d := 26) rfl rfl h26 rfl
      refine steps_cons (fun a w hk hn => ?_) ?_
      · have h33 : a.eval (.tmp 33) = undef := hn.1
        have h26 : a.eval (.tmp 26) = .bool false := hn.2.1
        clear hn
        exact wants_not (d := 26) rfl rfl h26 rfl
      refine steps_cons (fun a w hk hn => ?_) ?_
      · have h5 : a.eval (.tmp 5) = .pointer (some ⟨g5, 0, none⟩) := hn.1
        have h26 : a.eval (.tmp 26) = .bool false := hn.2.1
        clear hn
        exact wants_not (d := 26) rfl rfl h26 rfl
      refine steps_cons (fun a w hk hn => ?_) ?_
      · have h35 : a.eval (.tmp 35) = undef := hn.1
        have h26 : a.eval (.tmp 26) = .bool false := hn.2.1
        clear hn
        exact wants_not (d := 26) rfl rfl h26 rfl
      refine steps_cons (fun a w hk hn => ?_) ?_
      · have h32 : a.eval (.tmp 32) = undef := hn.1
        have h34 : a.eval (.tmp 34) = undef := hn.2.1
        have h36 : a.eval (.tmp 36) = undef := hn.2.2.1
        have h26 : a.eval (.tmp 26) = .bool false := hn.2.2.2.1
        clear hn
        exact wants_not (d := 26) rfl rfl h26 rfl
      refine steps_cons (fun a w hk hn => ?_) ?_
      · have h26 : a.eval (.tmp 26) = .bool false := hn.1
        have h37 : a.eval (.tmp 37) = undef := hn.2.1
        clear hn
        refine wants_plain rfl ?_
        exact grown_pick _ _ _ false rfl h26 rfl
      refine steps_cons (fun a w hk hn => ?_) ?_
      · have h38 : a.eval (.tmp 38) = .bool false := hn.1
        clear hn
        refine wants_plain rfl ?_
        exact grown_assign (.tmp 38) rfl h38
      exact trivial
    intro W1 hkW1
    rintro _ rfl
    rintro _ rfl
    rintro _ rfl
    rintro _ rfl
    rintro _ rfl
    rintro _ rfl
    rintro _ rfl
    rintro _ rfl
    rintro _ rfl
    rintro _ rfl
    rintro _ rfl
    rintro _ rfl
    rintro _ rfl
    rintro _ rfl
    rintro _ rfl
    rintro _ rfl
    rintro _ rfl
    rintro _ rfl
    rintro _ rfl
    rintro _ rfl
    rintro _ rfl
    rintro _ rfl
    rintro _ rfl
    rintro _ rfl
    rintro _ rfl
    rintro _ rfl
    rintro _ rfl
    rintro _ rfl
    rintro _ rfl
    rintro _ rfl
    rintro _ rfl
    rintro _ rfl
    rintro _ rfl
    refine fin_nil ?_
    simp only [Act.put, List.set_cons_zero, List.set_cons_succ, List.setIfInBounds_toArray]
    go_wp2_with fail
    go_ret
    exact ⟨by rw [unhide HE]; rfl, unhide HD W1 hkW1⟩
  cases bc
  · have HE : Hid (b = false) := hide (by rw [unhide HB]; rfl)
    clear HB
    go_enter Tryd.func21, Tryd.ntmps21
    go_wp2_with fail
    rw [← unhide HW0, ← unhide H5, ← unhide H4, ← unhide H3]
    refine region_grow Tryd.mixed [Is (.agg #[.slice al ml cl, .slice aw mw cw, .int .i64 q]), Is (.bool true), Is (.bool true), Is (.agg #[.int .i64 n, .slice ar mr cr]), Is (.bool false), Is (.bool false), Is (.bool false), Is (undef), Is (undef), Is (undef), Is (.bool false), Is (.bool false), Is (undef), Is (undef), Is (undef), Is (undef), Is (undef), Is (undef), Is (.bool false), Is (.bool false), Is (undef), Is (undef), Is (undef), Is (undef), Is (undef), Is (undef), Is (undef), Is (undef), Is (undef), Is (undef), Is (undef), Is (.bool false), Is (.bool false)] [[(3, none)], [(7, some 0)], [(8, some 1)], [(4, none), (9, some 2)], [(10, some 3), (9, some 2)], [(9, some 2), (11, some 4)], [(12, some 5)], [(5, none), (13, some 6)], [(14, some 7), (13, some 6)], [(15, some 8), (13, some 6)], [(13, some 6), (16, some 9)], [(17, some 10)], [(5, none), (18, some 11)], [(19, some 12), (18, some 11)], [(3, none), (18, some 11)], [(21, some 14), (18, some 11)], [(22, some 15), (18, some 11)], [(20, some 13), (23, some 16), (18, some 11)], [(18, some 11), (24, some 17)], [(25, some 18)], [(3, none), (26, some 19)], [(27, some 20), (26, some 19)], [(5, none), (26, some 19)], [(29, some 22), (26, some 19)], [(28, some 21), (30, some 23), (26, some 19)], [(31, some 24), (26, some 19)], [(4, none), (26, some 19)], [(33, some 26), (26, some 19)], [(5, none), (26, some 19)], [(35, some 28), (26, some 19)], [(32, some 25), (34, some 27), (36, some 29), (26, some 19)], [(26, some 19), (37, some 30)], [(38, some 31)]] (by kernel_rfl) ?_ ?_ ?_
    · simp only [List.mem_cons, List.not_mem_nil, or_false]
      intro R hR
      rcases hR with rfl | rfl | rfl | rfl | rfl | rfl | rfl | rfl | rfl | rfl | rfl | rfl | rfl | rfl | rfl | rfl | rfl | rfl | rfl | rfl | rfl | rfl | rfl | rfl | rfl | rfl | rfl | rfl | rfl | rfl | rfl | rfl | rfl <;> first | exact stable_is _
    · refine steps_cons (fun a w hk hn => ?_) ?_
      · have h3 : a.eval (.tmp 3) = .pointer (some ⟨g3, 0, none⟩) := hn.1
        clear hn
        refine wants_plain rfl ?_
        exact grown_loadf 42 (.tmp 3) rfl g3 0 h3 _ _ _ _ (unhide HT3 w hk) [.slice al ml cl, .slice aw mw cw, .int .i64 q] (flat_in rfl) Tryd.underlying42 rfl Tryd.polSize rfl
      refine steps_cons (fun a w hk hn => ?_) ?_
      · have h7 : a.eval (.tmp 7) = .agg #[.slice al ml cl, .slice aw mw cw, .int .i64 q] := hn.1
        clear hn
        refine wants_plain rfl ?_
        refine grown_call (f := 24) rfl Tryd.func24 (by kernel_rfl) (by kernel_rfl) ?_
        simp only [List.map_toArray, List.map_cons, List.map_nil, h7]
        refine (rpolicy_any _ p true (unhide HP) w (unhide HPO w hk)).mono ?_
        rintro e w' ⟨rfl, K⟩
        exact ⟨_, rfl, K, rfl⟩
      refine steps_cons (fun a w hk hn => ?_) ?_
      · have h8 : a.eval (.tmp 8) = .bool true := hn.1
        clear hn
        refine wants_plain rfl ?_
        exact grown_move (.tmp 8) rfl h8
      refine steps_cons (fun a w hk hn => ?_) ?_
      · have h4 : a.eval (.tmp 4) = .pointer (some ⟨g4, 0, none⟩) := hn.1
        have h9 : a.eval (.tmp 9) = .bool true := hn.2.1
        clear hn
        refine wants_guard (d := 9) rfl rfl h9 ?_
        exact grown_loadf 27 (.tmp 4) rfl g4 0 h4 _ _ _ _ (unhide HT4 w hk) [.int .i64 n, .slice ar mr cr] (flat_in rfl) Tryd.underlying27 rfl Tryd.chkSize rfl
      refine steps_cons (fun a w hk hn => ?_) ?_
      · have h10 : a.eval (.tmp 10) = .agg #[.int .i64 n, .slice ar mr cr] := hn.1
        have h9 : a.eval (.tmp 9) = .bool true := hn.2.1
        clear hn
        refine wants_guard (d := 9) rfl rfl h9 ?_
        refine grown_call (f := 45) rfl Tryd.func45 (by kernel_rfl) (by kernel_rfl) ?_
        simp only [List.map_toArray, List.map_cons, List.map_nil, h10]
        refine (rckright_any _ n r false (unhide HQ) w (unhide HCK w hk)).mono ?_
        rintro e w' ⟨rfl, K⟩
        exact ⟨_, rfl, K, rfl⟩
      refine steps_cons (fun a w hk hn => ?_) ?_
      · have h9 : a.eval (.tmp 9) = .bool true := hn.1
        have h11 : a.eval (.tmp 11) = .bool false := hn.2.1
        clear hn
        refine wants_plain rfl ?_
        exact grown_pick _ _ _ true rfl h9 h11
      refine steps_cons (fun a w hk hn => ?_) ?_
      · have h12 : a.eval (.tmp 12) = .bool false := hn.1
        clear hn
        refine wants_plain rfl ?_
        exact grown_move (.tmp 12) rfl h12
      refine steps_cons (fun a w hk hn => ?_) ?_
      · have h5 : a.eval (.tmp 5) = .pointer (some ⟨g5, 0, none⟩) := hn.1
        have h13 : a.eval (.tmp 13) = .bool false := hn.2.1
        clear hn
        exact wants_not (d := 13) rfl rfl h13 rfl
      refine steps_cons (fun a w hk hn => ?_) ?_
      · have h14 : a.eval (.tmp 14) = undef := hn.1
        have h13 : a.eval (.tmp 13) = .bool false := hn.2.1
        clear hn
        exact wants_not (d := 13) rfl rfl h13 rfl
      refine steps_cons (fun a w hk hn => ?_) ?_
      · have h15 : a.eval (.tmp 15) = undef := hn.1
        have h13 : a.eval (.tmp 13) = .bool false := hn.2.1
        clear hn
        exact wants_not (d := 13) rfl rfl h13 rfl
      refine steps_cons (fun a w hk hn => ?_) ?_
      · have h13 : a.eval (.tmp 13) = .bool false := hn.1
        have h16 : a.eval (.tmp 16) = undef := hn.2.1
        clear hn
        refine wants_plain rfl ?_
        exact grown_pick _ _ _ false rfl h13 rfl
      refine steps_cons (fun a w hk hn => ?_) ?_
      · have h17 : a.eval (.tmp 17) = .bool false := hn.1
        clear hn
        refine wants_plain rfl ?_
        exact grown_move (.tmp 17) rfl h17
      refine steps_cons (fun a w hk hn => ?_) ?_
      · have h5 : a.eval (.tmp 5) = .pointer (some ⟨g5, 0, none⟩) := hn.1
        have h18 : a.eval (.tmp 18) = .bool false := hn.2.1
        clear hn
        exact wants_not (d := 18) rfl rfl h18 rfl
      refine steps_cons (fun a w hk hn => ?_) ?_
      · have h19 : a.eval (.tmp 19) = undef := hn.1
        have h18 : a.eval (.tmp 18) = .bool false := hn.2.1
        clear hn
        exact wants_not (d := 18) rfl rfl h18 rfl
      refine steps_cons (fun a w hk hn => ?_) ?_
      · have h3 : a.eval (.tmp 3) = .pointer (some ⟨g3, 0, none⟩) := hn.1
        have h18 : a.eval (.tmp 18) = .bool false := hn.2.1
        clear hn
        exact wants_not (d := 18) rfl rfl h18 rfl
      refine steps_cons (fun a w hk hn => ?_) ?_
      · have h21 : a.eval (.tmp 21) = undef := hn.1
        have h18 : a.eval (.tmp 18) = .bool false := hn.2.1
        clear hn
        exact wants_not (d := 18) rfl rfl h18 rfl
      refine steps_cons (fun a w hk hn => ?_) ?_
      · have h22 : a.eval (.tmp 22) = undef := hn.1
        have h18 : a.eval (.tmp 18) = .bool false := hn.2.1
        clear hn
        exact wants_not (d := 18) rfl rfl h18 rfl
      refine steps_cons (fun a w hk hn => ?_) ?_
      · have h20 : a.eval (.tmp 20) = undef := hn.1
        have h23 : a.eval (.tmp 23) = undef := hn.2.1
        have h18 : a.eval (.tmp 18) = .bool false := hn.2.2.1
        clear hn
        exact wants_not (d := 18) rfl rfl h18 rfl
      refine steps_cons (fun a w hk hn => ?_) ?_
      · have h18 : a.eval (.tmp 18) = .bool false := hn.1
        have h24 : a.eval (.tmp 24) = undef := hn.2.1
        clear hn
        refine wants_plain rfl ?_
        exact grown_pick _ _ _ false rfl h18 rfl
      refine steps_cons (fun a w hk hn => ?_) ?_
      · have h25 : a.eval (.tmp 25) = .bool false := hn.1
        clear hn
        refine wants_plain rfl ?_
        exact grown_move (.tmp 25) rfl h25
      refine steps_cons (fun a w hk hn => ?_) ?_
      · have h3 : a.eval (.tmp 3) = .pointer (some ⟨g3, 0, none⟩) := hn.1
        have h26 : a.eval (.tmp 26) = .bool false := hn.2.1
        clear hn
        exact wants_not (d := 26) rfl rfl h26 rfl
      refine steps_cons (fun a w hk hn => ?_) ?_
      · have h27 : a.eval (.tmp 27) = undef := hn.1
        have h26 : a.eval (.tmp 26) = .bool false := hn.2.1
        clear hn
        exact wants_not (d := 26) rfl rfl h26 rfl
      refine steps_cons (fun a w hk hn => ?_) ?_
      · have h5 : a.eval (.tmp 5) = .pointer (some ⟨g5, 0, none⟩) := hn.1
        have h26 : a.eval (.tmp 26) = .bool false := hn.2.1
        clear hn
        exact wants_not (d := 26) rfl rfl h26 rfl
      refine steps_cons (fun a w hk hn => ?_) ?_
      · have h29 : a.eval (.tmp 29) = undef := hn.1
        have h26 : a.eval (.tmp 26) = .bool false := hn.2.1
        clear hn
        exact wants_not (d := 26) rfl rfl h26 rfl
      refine steps_cons (fun a w hk hn => ?_) ?_
      · have h28 : a.eval (.tmp 28) = undef := hn.1
        have h30 : a.eval (.tmp 30) = undef := hn.2.1
        have h26 : a.eval (.tmp 26) = .bool false := hn.2.2.1
        clear hn
        exact wants_not (d := 26) rfl rfl h26 rfl
      refine steps_cons (fun a w hk hn => ?_) ?_
      · have h31 : a.eval (.tmp 31) = undef := hn.1
        have h26 : a.eval (.tmp 26) = .bool false := hn.2.1
        clear hn
        exact wants_not (d := 26) rfl rfl h26 rfl
      refine steps_cons (fun a w hk hn => ?_) ?_
      · have h4 : a.eval (.tmp 4) = .pointer (some ⟨g4, 0, none⟩) := hn.1
        have h26 : a.eval (.tmp 26) = .bool false := hn.2.1
        clear hn
        exact wants_not (d := 26) rfl rfl h26 rfl
      refine steps_cons (fun a w hk hn => ?_) ?_
      · have h33 : a.eval (.tmp 33) = undef := hn.1
        have h26 : a.eval (.tmp 26) = .bool false := hn.2.1
        clear hn
        exact wants_not (d := 26) rfl rfl h26 rfl
      refine steps_cons (fun a w hk hn => ?_) ?_
      · have h5 : a.eval (.tmp 5) = .pointer (some ⟨g5, 0, none⟩) := hn.1
        have h26 : a.eval (.tmp 26) = .bool false := hn.2.1
        clear hn
        exact wants_not (d := 26) rfl rfl h26 rfl
      refine steps_cons (fun a w hk hn => ?_) ?_
      · have h35 : a.eval (.tmp 35) = undef := hn.1
        have h26 : a.eval (.tmp 26) = .bool false := hn.2.1
        clear hn
        exact wants_not (d := 26) rfl rfl h26 rfl
      refine steps_cons (fun a w hk hn => ?_) ?_
      · have h32 : a.eval (.tmp 32) = undef := hn.1
        have h34 : a.eval (.tmp 34) = undef := hn.2.1
        have h36 : a.eval (.tmp 36) = undef := hn.2.2.1
        have h26 : a.eval (.tmp 26) = .bool false := hn.2.2.2.1
        clear hn
        exact wants_not (d := 26) rfl rfl h26 rfl
      refine steps_cons (fun a w hk hn => ?_) ?_
      · have h26 : a.eval (.tmp 26) = .bool false := hn.1
        have h37 : a.eval (.tmp 37) = undef := hn.2.1
        clear hn
        refine wants_plain rfl ?_
        exact grown_pick _ _ _ false rfl h26 rfl
      refine steps_cons (fun a w hk hn => ?_) ?_
      · have h38 : a.eval (.tmp 38) = .bool false := hn.1
        clear hn
        refine wants_plain rfl ?_
        exact grown_assign (.tmp 38) rfl h38
      exact trivial
    intro W1 hkW1
    rintro _ rfl
    rintro _ rfl
    rintro _ rfl
    rintro _ rfl
    rintro _ rfl
    rintro _ rfl
    rintro _ rfl
    rintro _ rfl
    rintro _ rfl
    rintro _ rfl
    rintro _ rfl
    rintro _ rfl
    rintro _ rfl
    rintro _ rfl
    rintro _ rfl
    rintro _ rfl
    rintro _ rfl
    rintro _ rfl
    rintro _ rfl
    rintro _ rfl
    rintro _ rfl
    rintro _ rfl
    rintro _ rfl
    rintro _ rfl
    rintro _ rfl
    rintro _ rfl
    rintro _ rfl
    rintro _ rfl
    rintro _ rfl
    rintro _ rfl
    rintro _ rfl
    rintro _ rfl
    rintro _ rfl
    refine fin_nil ?_
    simp only [Act.put, List.set_cons_zero, List.set_cons_succ, List.setIfInBounds_toArray]
    go_wp2_with fail
    go_ret
    exact ⟨by rw [unhide HE]; rfl, unhide HD W1 hkW1⟩
  by_cases hk0 : ¬ 0 ≤ k
  · have HE : Hid (b = false) := hide (by rw [unhide HB, decide_eq_false hk0]; rfl)
    replace hk0 : k < 0 := by omega
    clear HB
    go_enter Tryd.func21, Tryd.ntmps21
    go_wp2_with fail
    rw [← unhide HW0, ← unhide H5, ← unhide H4, ← unhide H3]
    refine region_grow Tryd.mixed [Is (.agg #[.slice al ml cl, .slice aw mw cw, .int .i64 q]), Is (.bool true), Is (.bool true), Is (.agg #[.int .i64 n, .slice ar mr cr]), Is (.bool true), Is (.bool true), Is (.bool true), Is (.pointer (some ⟨g5, 0, none⟩)), Is (.int .i64 k), Is (.bool false), Is (.bool false), Is (.bool false), Is (undef), Is (undef), Is (undef), Is (undef), Is (undef), Is (undef), Is (.bool false), Is (.bool false), Is (undef), Is (undef), Is (undef), Is (undef), Is (undef), Is (undef), Is (undef), Is (undef), Is (undef), Is (undef), Is (undef), Is (.bool false), Is (.bool false)] [[(3, none)], [(7, some 0)], [(8, some 1)], [(4, none), (9, some 2)], [(10, some 3), (9, some 2)], [(9, some 2), (11, some 4)], [(12, some 5)], [(5, none), (13, some 6)], [(14, some 7), (13, some 6)], [(15, some 8), (13, some 6)], [(13, some 6), (16, some 9)], [(17, some 10)], [(5, none), (18, some 11)], [(19, some 12), (18, some 11)], [(3, none), (18, some 11)], [(21, some 14), (18, some 11)], [(22, some 15), (18, some 11)], [(20, some 13), (23, some 16), (18, some 11)], [(18, some 11), (24, some 17)], [(25, some 18)], [(3, none), (26, some 19)], [(27, some 20), (26, some 19)], [(5, none), (26, some 19)], [(29, some 22), (26, some 19)], [(28, some 21), (30, some 23), (26, some 19)], [(31, some 24), (26, some 19)], [(4, none), (26, some 19)], [(33, some 26), (26, some 19)], [(5, none), (26, some 19)], [(35, some 28), (26, some 19)], [(32, some 25), (34, some 27), (36, some 29), (26, some 19)], [(26, some 19), (37, some 30)], [(38, some 31)]] (by kernel_rfl) ?_ ?_ ?_
    · simp only [List.mem_cons, List.not_mem_nil, or_false]
      intro R hR
      rcases hR with rfl | rfl | rfl | rfl | rfl | rfl | rfl | rfl | rfl | rfl | rfl | rfl | rfl | rfl | rfl | rfl | rfl | rfl | rfl | rfl | rfl | rfl | rfl | rfl | rfl | rfl | rfl | rfl | rfl | rfl | rfl | rfl | rfl <;> first | exact stable_is _
    · refine steps_cons (fun a w hk hn => ?_) ?_
      · have h3 : a.eval (.tmp 3) = .pointer (some ⟨g3, 0, none⟩) := hn.1
        clear hn
        refine wants_plain rfl ?_
        exact grown_loadf 42 (.tmp 3) rfl g3 0 h3 _ _ _ _ (unhide HT3 w hk) [.slice al ml cl, .slice aw mw cw, .int .i64 q] (flat_in rfl) Tryd.underlying42 rfl Tryd.polSize rfl
      refine steps_cons (fun a w hk hn => ?_) ?_
      · have h7 : a.eval (.tmp 7) = .agg #[.slice al ml cl, .slice aw mw cw, .int .i64 q] := hn.1
        clear hn
        refine wants_plain rfl ?_
        refine grown_call (f := 24) rfl Tryd.func24 (by kernel_rfl) (by kernel_rfl) ?_
        simp only [List.map_toArray, List.map_cons, List.map_nil, h7]
        refine (rpolicy_any _ p true (unhide HP) w (unhide HPO w hk)).mono ?_
        rintro e w' ⟨rfl, K⟩
        exact ⟨_, rfl, K, rfl⟩
      refine steps_cons (fun a w hk hn => ?_) ?_
      · have h8 : a.eval (.tmp 8) = .bool true := hn.1
        clear hn
        refine wants_plain rfl ?_
        exact grown_move (.tmp 8) rfl h8
      refine steps_cons (fun a w hk hn => ?_) ?_
      · have h4 : a.eval (.tmp 4) = .pointer (some ⟨g4, 0, none⟩) := hn.1
        have h9 : a.eval (.tmp 9) = .bool true := hn.2.1
        clear hn
        refine wants_guard (d := 9) rfl rfl h9 ?_
        exact grown_loadf 27 (.tmp 4) rfl g4 0 h4 _ _ _ _ (unhide HT4 w hk) [.int .i64 n, .slice ar mr cr] (flat_in rfl) Tryd.underlying27 rfl Tryd.chkSize rfl
      refine steps_cons (fun a w hk hn => ?_) ?_
      · have h10 : a.eval (.tmp 10) = .agg #[.int .i64 n, .slice ar mr cr] := hn.1
        have h9 : a.eval (.tmp 9) = .bool true := hn.2.1
        clear hn
        refine wants_guard (d := 9) rfl rfl h9 ?_
        refine grown_call (f := 45) rfl Tryd.func45 (by kernel_rfl) (by kernel_rfl) ?_
        simp only [List.map_toArray, List.map_cons, List.map_nil, h10]
        refine (rckright_any _ n r true (unhide HQ) w (unhide HCK w hk)).mono ?_
        rintro e w' ⟨rfl, K⟩
        exact ⟨_, rfl, K, rfl⟩
      refine steps_cons (fun a w hk hn => ?_) ?_
      · have h9 : a.eval (.tmp 9) = .bool true := hn.1
        have h11 : a.eval (.tmp 11) = .bool true := hn.2.1
        clear hn
        refine wants_plain rfl ?_
        exact grown_pick _ _ _ true rfl h9 h11
      refine steps_cons (fun a w hk hn => ?_) ?_
      · have h12 : a.eval (.tmp 12) = .bool true := hn.1
        clear hn
        refine wants_plain rfl ?_
        exact grown_move (.tmp 12) rfl h12
      refine steps_cons (fun a w hk hn => ?_) ?_
      · have h5 : a.eval (.tmp 5) = .pointer (some ⟨g5, 0, none⟩) := hn.1
        have h13 : a.eval (.tmp 13) = .bool true := hn.2.1
        clear hn
        refine wants_guard (d := 13) rfl rfl h13 ?_
        refine grown_run (v := .pointer (some ⟨g5, 0, none⟩)) ?_ (Kp.refl _ _) rfl
        obtain ⟨ρ, hρ, hc, hf, hg⟩ := eval_is a
        rw [hρ] at h5 ⊢
        simp [go_sem, h5]
      refine steps_cons (fun a w hk hn => ?_) ?_
      · have h14 : a.eval (.tmp 14) = .pointer (some ⟨g5, 0, none⟩) := hn.1
        have h13 : a.eval (.tmp 13) = .bool true := hn.2.1
        clear hn
        refine wants_guard (d := 13) rfl rfl h13 ?_
        refine grown_run (v := .int .i64 k) ?_ (Kp.refl _ _) rfl
        have hcell : w.cell? ⟨g5, 0, none⟩ = some (.int .i64 k) := by rw [cell_of_row w g5 0 _ _ _ (unhide HT5 w hk)]; rfl
        obtain ⟨ρ, hρ, hc, hf, hg⟩ := eval_is a
        rw [hρ] at h14 ⊢
        simp [go_sem, h14, hcell]
      refine steps_cons (fun a w hk hn => ?_) ?_
      · have h15 : a.eval (.tmp 15) = .int .i64 k := hn.1
        have h13 : a.eval (.tmp 13) = .bool true := hn.2.1
        clear hn
        refine wants_guard (d := 13) rfl rfl h13 ?_
        refine grown_run (v := .bool false) ?_ (Kp.refl _ _) rfl
        obtain ⟨ρ, hρ, hc, hf, hg⟩ := eval_is a
        rw [hρ] at h15 ⊢
        simp [go_sem, hc, h15, hk0]
      refine steps_cons (fun a w hk hn => ?_) ?_
      · have h13 : a.eval (.tmp 13) = .bool true := hn.1
        have h16 : a.eval (.tmp 16) = .bool false := hn.2.1
        clear hn
        refine wants_plain rfl ?_
        exact grown_pick _ _ _ true rfl h13 h16
      refine steps_cons (fun a w hk hn => ?_) ?_
      · have h17 : a.eval (.tmp 17) = .bool false := hn.1
        clear hn
        refine wants_plain rfl ?_
        exact grown_move (.tmp 17) rfl h17
      refine steps_cons (fun a w hk hn => ?_) ?_
      · have h5 : a.eval (.tmp 5) = .pointer (some ⟨g5, 0, none⟩) := hn.1
        have h18 : a.eval (.tmp 18) = .bool false := hn.2.1
        clear hn
        exact wants_not (d := 18) rfl rfl h18 rfl
      refine steps_cons (fun a w hk hn => ?_) ?_
      · have h19 : a.eval (.tmp 19) = undef := hn.1
        have h18 : a.eval (.tmp 18) = .bool false := hn.2.1
        clear hn
        exact wants_not (d := 18) rfl rfl h18 rfl
      refine steps_cons (fun a w hk hn => ?_) ?_
      · have h3 : a.eval (.tmp 3) = .pointer (some ⟨g3, 0, none⟩) := hn.1
        have h18 : a.eval (.tmp 18) = .bool false := hn.2.1
        clear hn
        exact wants_not (d := 18) rfl rfl h18 rfl
      refine steps_cons (fun a w hk hn => ?_) ?_
      · have h21 : a.eval (.tmp 21) = undef := hn.1
        have h18 : a.eval (.tmp 18) = .bool false := hn.2.1
        clear hn
        exact wants_not (d := 18) rfl rfl h18 rfl
      refine steps_cons (fun a w hk hn => ?_) ?_
      · have h22 : a.eval (.tmp 22) = undef := hn.1
        have h18 : a.eval (.tmp 18) = .bool false := hn.2.1
        clear hn
        exact wants_not (d := 18) rfl rfl h18 rfl
      refine steps_cons (fun a w hk hn => ?_) ?_
      · have h20 : a.eval (.tmp 20) = undef := hn.1
        have h23 : a.eval (.tmp 23) = undef := hn.2.1
        have h18 : a.eval (.tmp 18) = .bool false := hn.2.2.1
        clear hn
        exact wants_not (d := 18) rfl rfl h18 rfl
      refine steps_cons (fun a w hk hn => ?_) ?_
      · have h18 : a.eval (.tmp 18) = .bool false := hn.1
        have h24 : a.eval (.tmp 24) = undef := hn.2.1
        clear hn
        refine wants_plain rfl ?_
        exact grown_pick _ _ _ false rfl h18 rfl
      refine steps_cons (fun a w hk hn => ?_) ?_
      · have h25 : a.eval (.tmp 25) = .bool false := hn.1
        clear hn
        refine wants_plain rfl ?_
        exact grown_move (.tmp 25) rfl h25
      refine steps_cons (fun a w hk hn => ?_) ?_
      · have h3 : a.eval (.tmp 3) = .pointer (some ⟨g3, 0, none⟩) := hn.1
        have h26 : a.eval (.tmp 26) = .bool false := hn.2.1
        clear hn
        exact wants_not (d := 26) rfl rfl h26 rfl
      refine steps_cons (fun a w hk hn => ?_) ?_
      · have h27 : a.eval (.tmp 27) = undef := hn.1
        have h26 : a.eval (.tmp 26) = .bool false := hn.2.1
        clear hn
        exact wants_not (d := 26) rfl rfl h26 rfl
      refine steps_cons (fun a w hk hn => ?_) ?_
      · have h5 : a.eval (.tmp 5) = .pointer (some ⟨g5, 0, none⟩) := hn.1
        have h26 : a.eval (.tmp 26) = .bool false := hn.2.1
        clear hn
        exact wants_not (d := 26) rfl rfl h26 rfl
      refine steps_cons (fun a w hk hn => ?_) ?_
      · have h29 : a.eval (.tmp 29) = undef := hn.1
        have h26 : a.eval (.tmp 26) = .bool false := hn.2.1
        clear hn
        exact wants_not (d := 26) rfl rfl h26 rfl
      refine steps_cons (fun a w hk hn => ?_) ?_
      · have h28 : a.eval (.tmp 28) = undef := hn.1
        have h30 : a.eval (.tmp 30) = undef := hn.2.1
        have h26 : a.eval (.tmp 26) = .bool false := hn.2.2.1
        clear hn
        exact wants_not (d := 26) rfl rfl h26 rfl
      refine steps_cons (fun a w hk hn => ?_) ?_
      · have h31 : a.eval (.tmp 31) = undef := hn.1
        have h26 : a.eval (.tmp 26) = .bool false := hn.2.1
        clear hn
        exact wants_not (d := 26) rfl rfl h26 rfl
      refine steps_cons (fun a w hk hn => ?_) ?_
      · have h4 : a.eval (.tmp 4) = .pointer (some ⟨g4, 0, none⟩) := hn.1
        have h26 : a.eval (.tmp 26) = .bool false := hn.2.1
        clear hn
        exact wants_not (d := 26) rfl rfl h26 rfl
      refine steps_cons (fun a w hk hn => ?_) ?_
      · have h33 : a.eval (.tmp 33) = undef := hn.1
        have h26 : a.eval (.tmp 26) = .bool false := hn.2.1
        clear hn
        exact wants_not (d := 26) rfl rfl h26 rfl
      refine steps_cons (fun a w hk hn => ?_) ?_
      · have h5 : a.eval (.tmp 5) = .pointer (some ⟨g5, 0, none⟩) := hn.1
        have h26 : a.eval (.tmp 26) = .bool false := hn.2.1
        clear hn
        exact wants_not (d := 26) rfl rfl h26 rfl
      refine steps_cons (fun a w hk hn => ?_) ?_
      · have h35 : a.eval (.tmp 35) = undef := hn.1
        have h26 : a.eval (.tmp 26) = .bool false := hn.2.1
        clear hn
        exact wants_not (d := 26) rfl rfl h26 rfl
      refine steps_cons (fun a w hk hn => ?_) ?_
      · have h32 : a.eval (.tmp 32) = undef := hn.1
        have h34 : a.eval (.tmp 34) = undef := hn.2.1
        have h36 : a.eval (.tmp 36) = undef := hn.2.2.1
        have h26 : a.eval (.tmp 26) = .bool false := hn.2.2.2.1
        clear hn
        exact wants_not (d := 26) rfl rfl h26 rfl
      refine steps_cons (fun a w hk hn => ?_) ?_
      · have h26 : a.eval (.tmp 26) = .bool false := hn.1
        have h37 : a.eval (.tmp 37) = undef := hn.2.1
        clear hn
        refine wants_plain rfl ?_
        exact grown_pick _ _ _ false rfl h26 rfl
      refine steps_cons (fun a w hk hn => ?_) ?_
      · have h38 : a.eval (.tmp 38) = .bool false := hn.1
        clear hn
        refine wants_plain rfl ?_
        exact grown_assign (.tmp 38) rfl h38
      exact trivial
    intro W1 hkW1
    rintro _ rfl
    rintro _ rfl
    rintro _ rfl
    rintro _ rfl
    rintro _ rfl
    rintro _ rfl
    rintro _ rfl
    rintro _ rfl
    rintro _ rfl
    rintro _ rfl
    rintro _ rfl
    rintro _ rfl
    rintro _ rfl
    rintro _ rfl
    rintro _ rfl
    rintro _ rfl
    rintro _ rfl
    rintro _ rfl
    rintro _ rfl
    rintro _ rfl
    rintro _ rfl
    rintro _ rfl
    rintro _ rfl
    rintro _ rfl
    rintro _ rfl
    rintro _ rfl
    rintro _ rfl
    rintro _ rfl
    rintro _ rfl
    rintro _ rfl
    rintro _ rfl
    rintro _ rfl
    rintro _ rfl
    refine fin_nil ?_
    simp only [Act.put, List.set_cons_zero, List.set_cons_succ, List.setIfInBounds_toArray]
    go_wp2_with fail
    go_ret
    exact ⟨by rw [unhide HE]; rfl, unhide HD W1 hkW1⟩
  replace hk0 : 0 ≤ k := by omega
  by_cases hlt2 : (mw : Int) ≤ k
  · have HE : Hid (b = false) := hide (by rw [unhide HB, decide_eq_false (by omega : ¬ k < (mw : Int))]; simp)
    clear HB
    go_enter Tryd.func21, Tryd.ntmps21
    go_wp2_with fail
    rw [← unhide HW0, ← unhide H5, ← unhide H4, ← unhide H3]
    refine region_grow Tryd.mixed [Is (.agg #[.slice al ml cl, .slice aw mw cw, .int .i64 q]), Is (.bool true), Is (.bool true), Is (.agg #[.int .i64 n, .slice ar mr cr]), Is (.bool true), Is (.bool true), Is (.bool true), Is (.pointer (some ⟨g5, 0, none⟩)), Is (.int .i64 k), Is (.bool true), Is (.bool true), Is (.bool true), Is (.pointer (some ⟨g5, 0, none⟩)), Is (.int .i64 k), Is (.pointer (some ⟨g3, 1, none⟩)), Is (.slice aw mw cw), Is (.int .i64 mw), Is (.bool false), Is (.bool false), Is (.bool false), Is (undef), Is (undef), Is (undef), Is (undef), Is (undef), Is (undef), Is (undef), Is (undef), Is (undef), Is (undef), Is (undef), Is (.bool false), Is (.bool false)] [[(3, none)], [(7, some 0)], [(8, some 1)], [(4, none), (9, some 2)], [(10, some 3), (9, some 2)], [(9, some 2), (11, some 4)], [(12, some 5)], [(5, none), (13, some 6)], [(14, some 7), (13, some 6)], [(15, some 8), (13, some 6)], [(13, some 6), (16, some 9)], [(17, some 10)], [(5, none), (18, some 11)], [(19, some 12), (18, some 11)], [(3, none), (18, some 11)], [(21, some 14), (18, some 11)], [(22, some 15), (18, some 11)], [(20, some 13), (23, some 16), (18, some 11)], [(18, some 11), (24, some 17)], [(25, some 18)], [(3, none), (26, some 19)], [(27, some 20), (26, some 19)], [(5, none), (26, some 19)], [(29, some 22), (26, some 19)], [(28, some 21), (30, some 23), (26, some 19)], [(31, some 24), (26, some 19)], [(4, none), (26, some 19)], [(33, some 26), (26, some 19)], [(5, none), (26, some 19)], [(35, some 28), (26, some 19)], [(32, some 25), (34, some 27), (36, some 29), (26, some 19)], [(26, some 19), (37, some 30)], [(38, some 31)]] (by kernel_rfl) ?_ ?_ ?_
    · simp only [List.mem_cons, List.not_mem_nil, or_false]
      intro R hR
      rcases hR with rfl | rfl | rfl | rfl | rfl | rfl | rfl | rfl | rfl | rfl | rfl | rfl | rfl | rfl | rfl | rfl | rfl | rfl | rfl | rfl | rfl | rfl | rfl | rfl | rfl | rfl | rfl | rfl | rfl | rfl | rfl | rfl | rfl <;> first | exact stable_is _
    · refine steps_cons (fun a w hk hn => ?_) ?_
      · have h3 : a.eval (.tmp 3) = .pointer (some ⟨g3, 0, none⟩) := hn.1
        clear hn
        refine wants_plain rfl ?_
        exact grown_loadf 42 (.tmp 3) rfl g3 0 h3 _ _ _ _ (unhide HT3 w hk) [.slice al ml cl, .slice aw mw cw, .int .i64 q] (flat_in rfl) Tryd.underlying42 rfl Tryd.polSize rfl
      refine steps_cons (fun a w hk hn => ?_) ?_
      · have h7 : a.eval (.tmp 7) = .agg #[.slice al ml cl, .slice aw mw cw, .int .i64 q] := hn.1
        clear hn
        refine wants_plain rfl ?_
        refine grown_call (f := 24) rfl Tryd.func24 (by kernel_rfl) (by kernel_rfl) ?_
        simp only [List.map_toArray, List.map_cons, List.map_nil, h7]
        refine (rpolicy_any _ p true (unhide HP) w (unhide HPO w hk)).mono ?_
        rintro e w' ⟨rfl, K⟩
        exact ⟨_, rfl, K, rfl⟩
      refine steps_cons (fun a w hk hn => ?_) ?_
      · have h8 : a.eval (.tmp 8) = .bool true := hn.1
        clear hn
        refine wants_plain rfl ?_
        exact grown_move (.tmp 8) rfl h8
      refine steps_cons (fun a w hk hn => ?_) ?_
      · have h4 : a.eval (.tmp 4) = .pointer (some ⟨g4, 0, none⟩) := hn.1
        have h9 : a.eval (.tmp 9) = .bool true := hn.2.1
        clear hn
        refine wants_guard (d := 9) rfl rfl h9 ?_
        exact grown_loadf 27 (.tmp 4) rfl g4 0 h4 _ _ _ _ (unhide HT4 w hk) [.int .i64 n, .slice ar mr cr] (flat_in rfl) Tryd.underlying27 rfl Tryd.chkSize rfl
      refine steps_cons (fun a w hk hn => ?_) ?_
      · have h10 : a.eval (.tmp 10) = .agg #[.int .i64 n, .slice ar mr cr] := hn.1
        have h9 : a.eval (.tmp 9) = .bool true := hn.2.1
        clear hn
        refine wants_guard (d := 9) rfl rfl h9 ?_
        refine grown_call (f := 45) rfl Tryd.func45 (by kernel_rfl) (by kernel_rfl) ?_
        simp only [List.map_toArray, List.map_cons, List.map_nil, h10]
        refine (rckright_any _ n r true (unhide HQ) w (unhide HCK w hk)).mono ?_
        rintro e w' ⟨rfl, K⟩
        exact ⟨_, rfl, K, rfl⟩
      refine steps_cons (fun a w hk hn => ?_) ?_
      · have h9 : a.eval (.tmp 9) = .bool true := hn.1
        have h11 : a.eval (.tmp 11) = .bool true := hn.2.1
        clear hn
        refine wants_plain rfl ?_
        exact grown_pick _ _ _ true rfl h9 h11
      refine steps_cons (fun a w hk hn => ?_) ?_
      · have h12 : a.eval (.tmp 12) = .bool true := hn.1
        clear hn
        refine wants_plain rfl ?_
        exact grown_move (.tmp 12) rfl h12
      refine steps_cons (fun a w hk hn => ?_) ?_
      · have h5 : a.eval (.tmp 5) = .pointer (some ⟨g5, 0, none⟩) := hn.1
        have h13 : a.eval (.tmp 13) = .bool true := hn.2.1
        clear hn
        refine wants_guard (d := 13) rfl rfl h13 ?_
        refine grown_run (v := .pointer (some ⟨g5, 0, none⟩)) ?_ (Kp.refl _ _) rfl
        obtain ⟨ρ, hρ, hc, hf, hg⟩ := eval_is a
        rw [hρ] at h5 ⊢
        simp [go_sem, h5]
      refine steps_cons (fun a w hk hn => ?_) ?_
      · have h14 : a.eval (.tmp 14) = .pointer (some ⟨g5, 0, none⟩) := hn.1
        have h13 : a.eval (.tmp 13) = .bool true := hn.2.1
        clear hn
        refine wants_guard (d := 13) rfl rfl h13 ?_
        refine grown_run (v := .int .i64 k) ?_ (Kp.refl _ _) rfl
        have hcell : w.cell? ⟨g5, 0, none⟩ = some (.int .i64 k) := by rw [cell_of_row w g5 0 _ _ _ (unhide HT5 w hk)]; rfl
        obtain ⟨ρ, hρ, hc, hf, hg⟩ := eval_is a
        rw [hρ] at h14 ⊢
        simp [go_sem, h14, hcell]
      refine steps_cons (fun a w hk hn => ?_) ?_
      · have h15 : a.eval (.tmp 15) = .int .i64 k := hn.1
        have h13 : a.eval (.tmp 13) = .bool true := hn.2.1
        clear hn
        refine wants_guard (d := 13) rfl rfl h13 ?_
        refine grown_run (v := .bool true) ?_ (Kp.refl _ _) rfl
        obtain ⟨ρ, hρ, hc, hf, hg⟩ := eval_is a
        rw [hρ] at h15 ⊢
        simp [go_sem, hc, h15, hk0]
      refine steps_cons (fun a w hk hn => ?_) ?_
      · have h13 : a.eval (.tmp 13) = .bool true := hn.1
        have h16 : a.eval (.tmp 16) = .bool true := hn.2.1
        clear hn
        refine wants_plain rfl ?_
        exact grown_pick _ _ _ true rfl h13 h16
      refine steps_cons (fun a w hk hn => ?_) ?_
      · have h17 : a.eval (.tmp 17) = .bool true := hn.1
        clear hn
        refine wants_plain rfl ?_
        exact grown_move (.tmp 17) rfl h17
      refine steps_cons (fun a w hk hn => ?_) ?_
      · have h5 : a.eval (.tmp 5) = .pointer (some ⟨g5, 0, none⟩) := hn.1
        have h18 : a.eval (.tmp 18) = .bool true := hn.2.1
        clear hn
        refine wants_guard (d := 18) rfl rfl h18 ?_
        refine grown_run (v := .pointer (some ⟨g5, 0, none⟩)) ?_ (Kp.refl _ _) rfl
        obtain ⟨ρ, hρ, hc, hf, hg⟩ := eval_is a
        rw [hρ] at h5 ⊢
        simp [go_sem, h5]
      refine steps_cons (fun a w hk hn => ?_) ?_
      · have h19 : a.eval (.tmp 19) = .pointer (some ⟨g5, 0, none⟩) := hn.1
        have h18 : a.eval (.tmp 18) = .bool true := hn.2.1
        clear hn
        refine wants_guard (d := 18) rfl rfl h18 ?_
        refine grown_run (v := .int .i64 k) ?_ (Kp.refl _ _) rfl
        have hcell : w.cell? ⟨g5, 0, none⟩ = some (.int .i64 k) := by rw [cell_of_row w g5 0 _ _ _ (unhide HT5 w hk)]; rfl
        obtain ⟨ρ, hρ, hc, hf, hg⟩ := eval_is a
        rw [hρ] at h19 ⊢
        simp [go_sem, h19, hcell]
      refine steps_cons (fun a w hk hn => ?_) ?_
      · have h3 : a.eval (.tmp 3) = .pointer (some ⟨g3, 0, none⟩) := hn.1
        have h18 : a.eval (.tmp 18) = .bool true := hn.2.1
        clear hn
        refine wants_guard (d := 18) rfl rfl h18 ?_
        refine grown_run (v := .pointer (some ⟨g3, 1, none⟩)) ?_ (Kp.refl _ _) rfl
        obtain ⟨ρ, hρ, hc, hf, hg⟩ := eval_is a
        rw [hρ] at h3 ⊢
        simp [go_sem, h3]
      refine steps_cons (fun a w hk hn => ?_) ?_
      · have h21 : a.eval (.tmp 21) = .pointer (some ⟨g3, 1, none⟩) := hn.1
        have h18 : a.eval (.tmp 18) = .bool true := hn.2.1
        clear hn
        refine wants_guard (d := 18) rfl rfl h18 ?_
        refine grown_run (v := .slice aw mw cw) ?_ (Kp.refl _ _) rfl
        have hcell : w.cell? ⟨g3, 1, none⟩ = some (.slice aw mw cw) := by rw [cell_of_row w g3 1 _ _ _ (unhide HT3 w hk)]; rfl
        obtain ⟨ρ, hρ, hc, hf, hg⟩ := eval_is a
        rw [hρ] at h21 ⊢
        simp [go_sem, h21, hcell]
      refine steps_cons (fun a w hk hn => ?_) ?_
      · have h22 : a.eval (.tmp 22) = .slice aw mw cw := hn.1
        have h18 : a.eval (.tmp 18) = .bool true := hn.2.1
        clear hn
        refine wants_guard (d := 18) rfl rfl h18 ?_
        refine grown_run (v := .int .i64 mw) ?_ (Kp.refl _ _) rfl
        obtain ⟨ρ, hρ, hc, hf, hg⟩ := eval_is a
        rw [hρ] at h22 ⊢
        simp [go_sem, h22]
      refine steps_cons (fun a w hk hn => ?_) ?_
      · have h20 : a.eval (.tmp 20) = .int .i64 k := hn.1
        have h23 : a.eval (.tmp 23) = .int .i64 mw := hn.2.1
        have h18 : a.eval (.tmp 18) = .bool true := hn.2.2.1
        clear hn
        refine wants_guard (d := 18) rfl rfl h18 ?_
        refine grown_run (v := .bool false) ?_ (Kp.refl _ _) rfl
        obtain ⟨ρ, hρ, hc, hf, hg⟩ := eval_is a
        rw [hρ] at h20 h23 ⊢
        simp [go_sem, h20, h23, hlt2]
      refine steps_cons (fun a w hk hn => ?_) ?_
      · have h18 : a.eval (.tmp 18) = .bool true := hn.1
        have h24 : a.eval (.tmp 24) = .bool false := hn.2.1
        clear hn
        refine wants_plain rfl ?_
        exact grown_pick _ _ _ true rfl h18 h24
      refine steps_cons (fun a w hk hn => ?_) ?_
      · have h25 : a.eval (.tmp 25) = .bool false := hn.1
        clear hn
        refine wants_plain rfl ?_
        exact grown_move (.tmp 25) rfl h25
      refine steps_cons (fun a w hk hn => ?_) ?_
      · have h3 : a.eval (.tmp 3) = .pointer (some ⟨g3, 0, none⟩) := hn.1
        have h26 : a.eval (.tmp 26) = .bool false := hn.2.1
        clear hn
        exact wants_not (d := 26) rfl rfl h26 rfl
      refine steps_cons (fun a w hk hn => ?_) ?_
      · have h27 : a.eval (.tmp 27) = undef := hn.1
        have h26 : a.eval (.tmp 26) = .bool false := hn.2.1
        clear hn
        exact wants_not (d := 26) rfl rfl h26 rfl
      refine steps_cons (fun a w hk hn => ?_) ?_
      · have h5 : a.eval (.tmp 5) = .pointer (some ⟨g5, 0, none⟩) := hn.1
        have h26 : a.eval (.tmp 26) = .bool false := hn.2.1
        clear hn
        exact wants_not (d := 26) rfl rfl h26 rfl
      refine steps_cons (fun a w hk hn => ?_) ?_
      · have h29 : a.eval (.tmp 29) = undef := hn.1
        have h26 : a.eval (.tmp 26) = .bool false := hn.2.1
        clear hn
        exact wants_not (d := 26) rfl rfl h26 rfl
      refine steps_cons (fun a w hk hn => ?_) ?_
      · have h28 : a.eval (.tmp 28) = undef := hn.1
        have h30 : a.eval (.tmp 30) = undef := hn.2.1
        have h26 : a.eval (.tmp 26) = .bool false := hn.2.2.1
        clear hn
        exact wants_not (d := 26) rfl rfl h26 rfl
      refine steps_cons (fun a w hk hn => ?_) ?_
      · have h31 : a.eval (.tmp 31) = undef := hn.1
        have h26 : a.eval (.tmp 26) = .bool false := hn.2.1
        clear hn
        exact wants_not (d := 26) rfl rfl h26 rfl
      refine steps_cons (fun a w hk hn => ?_) ?_
      · have h4 : a.eval (.tmp 4) = .pointer (some ⟨g4, 0, none⟩) := hn.1
        have h26 : a.eval (.tmp 26) = .bool false := hn.2.1
        clear hn
        exact wants_not (d := 26) rfl rfl h26 rfl
      refine steps_cons (fun a w hk hn => ?_) ?_
      · have h33 : a.eval (.tmp 33) = undef := hn.1
        have h26 : a.eval (.tmp 26) = .bool false := hn.2.1
        clear hn
        exact wants_not (d := 26) rfl rfl h26 rfl
      refine steps_cons (fun a w hk hn => ?_) ?_
      · have h5 : a.eval (.tmp 5) = .pointer (some ⟨g5, 0, none⟩) := hn.1
        have h26 : a.eval (.tmp 26) = .bool false := hn.2.1
        clear hn
        exact wants_not (d := 26) rfl rfl h26 rfl
      refine steps_cons (fun a w hk hn => ?_) ?_
      · have h35 : a.eval (.tmp 35) = undef := hn.1
        have h26 : a.eval (.tmp 26) = .bool false := hn.2.1
        clear hn
        exact wants_not (d := 26) rfl rfl h26 rfl
      refine steps_cons (fun a w hk hn => ?_) ?_
      · have h32 : a.eval (.tmp 32) = undef := hn.1
        have h34 : a.eval (.tmp 34) = undef := hn.2.1
        have h36 : a.eval (.tmp 36) = undef := hn.2.2.1
        have h26 : a.eval (.tmp 26) = .bool false := hn.2.2.2.1
        clear hn
        exact wants_not (d := 26) rfl rfl h26 rfl
      refine steps_cons (fun a w hk hn => ?_) ?_
      · have h26 : a.eval (.tmp 26) = .bool false := hn.1
        have h37 : a.eval (.tmp 37) = undef := hn.2.1
        clear hn
        refine wants_plain rfl ?_
        exact grown_pick _ _ _ false rfl h26 rfl
      refine steps_cons (fun a w hk hn => ?_) ?_
      · have h38 : a.eval (.tmp 38) = .bool false := hn.1
        clear hn
        refine wants_plain rfl ?_
        exact grown_assign (.tmp 38) rfl h38
      exact trivial
    intro W1 hkW1
    rintro _ rfl
    rintro _ rfl
    rintro _ rfl
    rintro _ rfl
    rintro _ rfl
    rintro _ rfl
    rintro _ rfl
    rintro _ rfl
    rintro _ rfl
    rintro _ rfl
    rintro _ rfl
    rintro _ rfl
    rintro _ rfl
    rintro _ rfl
    rintro _ rfl
    rintro _ rfl
    rintro _ rfl
    rintro _ rfl
    rintro _ rfl
    rintro _ rfl
    rintro _ rfl
    rintro _ rfl
    rintro _ rfl
    rintro _ rfl
    rintro _ rfl
    rintro _ rfl
    rintro _ rfl
    rintro _ rfl
    rintro _ rfl
    rintro _ rfl
    rintro _ rfl
    rintro _ rfl
    rintro _ rfl
    refine fin_nil ?_
    simp only [Act.put, List.set_cons_zero, List.set_cons_succ, List.setIfInBounds_toArray]
    go_wp2_with fail
    go_ret
    exact ⟨by rw [unhide HE]; rfl, unhide HD W1 hkW1⟩
  obtain ⟨kn, rfl⟩ : ∃ kn : Nat, k = kn := ⟨k.toNat, by omega⟩
  replace hlt2 : (kn : Int) < (mw : Int) := by omega
  have hkl : kn < l.length := by have := unhide HMW; omega
  obtain ⟨aw', cw', ew', -, hcell⟩ := (unhide HL).1
  injection ew' with e1 e2 e3
  obtain ⟨bw, ow, rfl, hx, hS, hSB⟩ := hcell kn hkl
  subst e1
  obtain ⟨pub, hpub⟩ : ∃ x, x = (l[kn]'hkl).2 := ⟨_, rfl⟩
  rw [← hpub] at hS hSB
  have HXS := hide hS
  obtain ⟨ax, cx, hxv, -⟩ := hS
  obtain ⟨nx, hnx⟩ : ∃ k, k = pub.length := ⟨_, rfl⟩
  rw [← hnx] at hxv
  rw [hxv] at hx HXS
  have hgd : p.ws.getD (kn : Int).toNat [] = pub := by rw [← unhide HWS, hpub]; simp [List.getD, hkl]
  obtain ⟨B, hB⟩ : ∃ B, B = bodW n r := ⟨_, rfl⟩
  obtain ⟨bb, hbb⟩ : ∃ x, x = verP pub B i ps qs := ⟨_, rfl⟩
  have HE : Hid (b = bb) := hide (by rw [unhide HB, hgd, ← hB, ← hbb, decide_eq_true hlt2, decide_eq_true hk0]; simp)
  have HBB := hide hB
  have HVB := hide hbb
  have HBS : Hid (Bs B) := hide (by rw [hB]; exact bodW_bs n r (unhide HBr))
  have HBL : Hid (B.length ≤ 1000) := hide (by rw [hB]; have := bodW_le n r; omega)
  have HPB := hide hSB
  have HXC : Hid (∀ w', Kp [] w0.drew w' → w'.cell? ⟨bw, ow + kn, none⟩ = some (.slice ax nx cx)) := fun w' k' => (unhide HD w' k').cell hx (by simp)
  have HPW : Hid (∀ w', Kp [] w0.drew w' → Sl w' (.slice ax nx cx) pub) := fun w' k' => (unhide HXS).kept (unhide HD w' k') (by simp)
  clear hB hbb hgd hpub hSB hxv hnx hcell e2 e3 hx HXS
  clear HB
  go_enter Tryd.func21, Tryd.ntmps21
  go_wp2_with fail
  rw [← unhide HW0, ← unhide H5, ← unhide H4, ← unhide H3]
  refine region_grow Tryd.mixed [Is (.agg #[.slice al ml cl, .slice (some ⟨bw, ow, none⟩) mw cw, .int .i64 q]), Is (.bool true), Is (.bool true), Is (.agg #[.int .i64 n, .slice ar mr cr]), Is (.bool true), Is (.bool true), Is (.bool true), Is (.pointer (some ⟨g5, 0, none⟩)), Is (.int .i64 kn), Is (.bool true), Is (.bool true), Is (.bool true), Is (.pointer (some ⟨g5, 0, none⟩)), Is (.int .i64 kn), Is (.pointer (some ⟨g3, 1, none⟩)), Is (.slice (some ⟨bw, ow, none⟩) mw cw), Is (.int .i64 mw), Is (.bool true), Is (.bool true), Is (.bool true), Is (.pointer (some ⟨g3, 1, none⟩)), Is (.slice (some ⟨bw, ow, none⟩) mw cw), Is (.pointer (some ⟨g5, 0, none⟩)), Is (.int .i64 kn), Is (.pointer (some ⟨bw, ow + kn, none⟩)), Is (.slice ax nx cx), Is (.agg #[.int .i64 n, .slice ar mr cr]), SlT (B), Is (.pointer (some ⟨g5, 1, none⟩)), Is (.agg #[.int .i64 i, .slice ap np cp, .slice aq nq cq]), Is (.bool bb), Is (.bool bb), Is (.bool bb)] [[(3, none)], [(7, some 0)], [(8, some 1)], [(4, none), (9, some 2)], [(10, some 3), (9, some 2)], [(9, some 2), (11, some 4)], [(12, some 5)], [(5, none), (13, some 6)], [(14, some 7), (13, some 6)], [(15, some 8), (13, some 6)], [(13, some 6), (16, some 9)], [(17, some 10)], [(5, none), (18, some 11)], [(19, some 12), (18, some 11)], [(3, none), (18, some 11)], [(21, some 14), (18, some 11)], [(22, some 15), (18, some 11)], [(20, some 13), (23, some 16), (18, some 11)], [(18, some 11), (24, some 17)], [(25, some 18)], [(3, none), (26, some 19)], [(27, some 20), (26, some 19)], [(5, none), (26, some 19)], [(29, some 22), (26, some 19)], [(28, some 21), (30, some 23), (26, some 19)], [(31, some 24), (26, some 19)], [(4, none), (26, some 19)], [(33, some 26), (26, some 19)], [(5, none), (26, some 19)], [(35, some 28), (26, some 19)], [(32, some 25), (34, some 27), (36, some 29), (26, some 19)], [(26, some 19), (37, some 30)], [(38, some 31)]] (by kernel_rfl) ?_ ?_ ?_
  · simp only [List.mem_cons, List.not_mem_nil, or_false]
    intro R hR
    rcases hR with rfl | rfl | rfl | rfl | rfl | rfl | rfl | rfl | rfl | rfl | rfl | rfl | rfl | rfl | rfl | rfl | rfl | rfl | rfl | rfl | rfl | rfl | rfl | rfl | rfl | rfl | rfl | rfl | rfl | rfl | rfl | rfl | rfl <;> first | exact stable_is _ | exact stable_sl _
  · refine steps_cons (fun a w hk hn => ?_) ?_
    · have h3 : a.eval (.tmp 3) = .pointer (some ⟨g3, 0, none⟩) := hn.1
      clear hn
      refine wants_plain rfl ?_
      exact grown_loadf 42 (.tmp 3) rfl g3 0 h3 _ _ _ _ (unhide HT3 w hk) [.slice al ml cl, .slice (some ⟨bw, ow, none⟩) mw cw, .int .i64 q] (flat_in rfl) Tryd.underlying42 rfl Tryd.polSize rfl
    refine steps_cons (fun a w hk hn => ?_) ?_
    · have h7 : a.eval (.tmp 7) = .agg #[.slice al ml cl, .slice (some ⟨bw, ow, none⟩) mw cw, .int .i64 q] := hn.1
      clear hn
      refine wants_plain rfl ?_
      refine grown_call (f := 24) rfl Tryd.func24 (by kernel_rfl) (by kernel_rfl) ?_
      simp only [List.map_toArray, List.map_cons, List.map_nil, h7]
      refine (rpolicy_any _ p true (unhide HP) w (unhide HPO w hk)).mono ?_
      rintro e w' ⟨rfl, K⟩
      exact ⟨_, rfl, K, rfl⟩
    refine steps_cons (fun a w hk hn => ?_) ?_
    · have h8 : a.eval (.tmp 8) = .bool true := hn.1
      clear hn
      refine wants_plain rfl ?_
      exact grown_move (.tmp 8) rfl h8
    refine steps_cons (fun a w hk hn => ?_) ?_
    · have h4 : a.eval (.tmp 4) = .pointer (some ⟨g4, 0, none⟩) := hn.1
      have h9 : a.eval (.tmp 9) = .bool true := hn.2.1
      clear hn
      refine wants_guard (d := 9) rfl rfl h9 ?_
      exact grown_loadf 27 (.tmp 4) rfl g4 0 h4 _ _ _ _ (unhide HT4 w hk) [.int .i64 n, .slice ar mr cr] (flat_in rfl) Tryd.underlying27 rfl Tryd.chkSize rfl
    refine steps_cons (fun a w hk hn => ?_) ?_
    · have h10 : a.eval (.tmp 10) = .agg #[.int .i64 n, .slice ar mr cr] := hn.1
      have h9 : a.eval (.tmp 9) = .bool true := hn.2.1
      clear hn
      refine wants_guard (d := 9) rfl rfl h9 ?_
      refine grown_call (f := 45) rfl Tryd.func45 (by kernel_rfl) (by kernel_rfl) ?_
      simp only [List.map_toArray, List.map_cons, List.map_nil, h10]
      refine (rckright_any _ n r true (unhide HQ) w (unhide HCK w hk)).mono ?_
      rintro e w' ⟨rfl, K⟩
      exact ⟨_, rfl, K, rfl⟩
    refine steps_cons (fun a w hk hn => ?_) ?_
    · have h9 : a.eval (.tmp 9) = .bool true := hn.1
      have h11 : a.eval (.tmp 11) = .bool true := hn.2.1
      clear hn
      refine wants_plain rfl ?_
      exact grown_pick _ _ _ true rfl h9 h11
    refine steps_cons (fun a w hk hn => ?_) ?_
    · have h12 : a.eval (.tmp 12) = .bool true := hn.1
      clear hn
      refine wants_plain rfl ?_
      exact grown_move (.tmp 12) rfl h12
    refine steps_cons (fun a w hk hn => ?_) ?_
    · have h5 : a.eval (.tmp 5) = .pointer (some ⟨g5, 0, none⟩) := hn.1
      have h13 : a.eval (.tmp 13) = .bool true := hn.2.1
      clear hn
      refine wants_guard (d := 13) rfl rfl h13 ?_
      refine grown_run (v := .pointer (some ⟨g5, 0, none⟩)) ?_ (Kp.refl _ _) rfl
      obtain ⟨ρ, hρ, hc, hf, hg⟩ := eval_is a
      rw [hρ] at h5 ⊢
      simp [go_sem, h5]
    refine steps_cons (fun a w hk hn => ?_) ?_
    · have h14 : a.eval (.tmp 14) = .pointer (some ⟨g5, 0, none⟩) := hn.1
      have h13 : a.eval (.tmp 13) = .bool true := hn.2.1
      clear hn
      refine wants_guard (d := 13) rfl rfl h13 ?_
      refine grown_run (v := .int .i64 kn) ?_ (Kp.refl _ _) rfl
      have hcell : w.cell? ⟨g5, 0, none⟩ = some (.int .i64 kn) := by rw [cell_of_row w g5 0 _ _ _ (unhide HT5 w hk)]; rfl
      obtain ⟨ρ, hρ, hc, hf, hg⟩ := eval_is a
      rw [hρ] at h14 ⊢
      simp [go_sem, h14, hcell]
    refine steps_cons (fun a w hk hn => ?_) ?_
    · have h15 : a.eval (.tmp 15) = .int .i64 kn := hn.1
      have h13 : a.eval (.tmp 13) = .bool true := hn.2.1
      clear hn
      refine wants_guard (d := 13) rfl rfl h13 ?_
      refine grown_run (v := .bool true) ?_ (Kp.refl _ _) rfl
      obtain ⟨ρ, hρ, hc, hf, hg⟩ := eval_is a
      rw [hρ] at h15 ⊢
      simp [go_sem, hc, h15, hk0]
    refine steps_cons (fun a w hk hn => ?_) ?_
    · have h13 : a.eval (.tmp 13) = .bool true := hn.1
      have h16 : a.eval (.tmp 16) = .bool true := hn.2.1
      clear hn
      refine wants_plain rfl ?_
      exact grown_pick _ _ _ true rfl h13 h16
    refine steps_cons (fun a w hk hn => ?_) ?_
    · have h17 : a.eval (.tmp 17) = .bool true := hn.1
      clear hn
      refine wants_plain rfl ?_
      exact grown_move (.tmp 17) rfl h17
    refine steps_cons (fun a w hk hn => ?_) ?_
    · have h5 : a.eval (.tmp 5) = .pointer (some ⟨g5, 0, none⟩) := hn.1
      have h18 : a.eval (.tmp 18) = .bool true := hn.2.1
      clear hn
      refine wants_guard (d := 18) rfl rfl h18 ?_
      refine grown_run (v := .pointer (some ⟨g5, 0, none⟩)) ?_ (Kp.refl _ _) rfl
      obtain ⟨ρ, hρ, hc, hf, hg⟩ := eval_is a
      rw [hρ] at h5 ⊢
      simp [go_sem, h5]
    refine steps_cons (fun a w hk hn => ?_) ?_
    · have h19 : a.eval (.tmp 19) = .pointer (some ⟨g5, 0, none⟩) := hn.1
      have h18 : a.eval (.tmp 18) = .bool true := hn.2.1
      clear hn
      refine wants_guard (d := 18) rfl rfl h18 ?_
      refine grown_run (v := .int .i64 kn) ?_ (Kp.refl _ _) rfl
      have hcell : w.cell? ⟨g5, 0, none⟩ = some (.int .i64 kn) := by rw [cell_of_row w g5 0 _ _ _ (unhide HT5 w hk)]; rfl
      obtain ⟨ρ, hρ, hc, hf, hg⟩ := eval_is a
      rw [hρ] at h19 ⊢
      simp [go_sem, h19, hcell]
    refine steps_cons (fun a w hk hn => ?_) ?_
    · have h3 : a.eval (.tmp 3) = .pointer (some ⟨g3, 0, none⟩) := hn.1
      have h18 : a.eval (.tmp 18) = .bool true := hn.2.1
      clear hn
      refine wants_guard (d := 18) rfl rfl h18 ?_
      refine grown_run (v := .pointer (some ⟨g3, 1, none⟩)) ?_ (Kp.refl _ _) rfl
      obtain ⟨ρ, hρ, hc, hf, hg⟩ := eval_is a
      rw [hρ] at h3 ⊢
      simp [go_sem, h3]
    refine steps_cons (fun a w hk hn => ?_) ?_
    · have h21 : a.eval (.tmp 21) = .pointer (some ⟨g3, 1, none⟩) := hn.1
      have h18 : a.eval (.tmp 18) = .bool true := hn.2.1
      clear hn
      refine wants_guard (d := 18) rfl rfl h18 ?_
      refine grown_run (v := .slice (some ⟨bw, ow, none⟩) mw cw) ?_ (Kp.refl _ _) rfl
      have hcell : w.cell? ⟨g3, 1, none⟩ = some (.slice (some ⟨bw, ow, none⟩) mw cw) := by rw [cell_of_row w g3 1 _ _ _ (unhide HT3 w hk)]; rfl
      obtain ⟨ρ, hρ, hc, hf, hg⟩ := eval_is a
      rw [hρ] at h21 ⊢
      simp [go_sem, h21, hcell]
    refine steps_cons (fun a w hk hn => ?_) ?_
    · have h22 : a.eval (.tmp 22) = .slice (some ⟨bw, ow, none⟩) mw cw := hn.1
      have h18 : a.eval (.tmp 18) = .bool true := hn.2.1
      clear hn
      refine wants_guard (d := 18) rfl rfl h18 ?_
      refine grown_run (v := .int .i64 mw) ?_ (Kp.refl _ _) rfl
      obtain ⟨ρ, hρ, hc, hf, hg⟩ := eval_is a
      rw [hρ] at h22 ⊢
      simp [go_sem, h22]
    refine steps_cons (fun a w hk hn => ?_) ?_
    · have h20 : a.eval (.tmp 20) = .int .i64 kn := hn.1
      have h23 : a.eval (.tmp 23) = .int .i64 mw := hn.2.1
      have h18 : a.eval (.tmp 18) = .bool true := hn.2.2.1
      clear hn
      refine wants_guard (d := 18) rfl rfl h18 ?_
      refine grown_run (v := .bool true) ?_ (Kp.refl _ _) rfl
      obtain ⟨ρ, hρ, hc, hf, hg⟩ := eval_is a
      rw [hρ] at h20 h23 ⊢
      simp [go_sem, h20, h23, hlt2]
    refine steps_cons (fun a w hk hn => ?_) ?_
    · have h18 : a.eval (.tmp 18) = .bool true := hn.1
      have h24 : a.eval (.tmp 24) = .bool true := hn.2.1
      clear hn
      refine wants_plain rfl ?_
      exact grown_pick _ _ _ true rfl h18 h24
    refine steps_cons (fun a w hk hn => ?_) ?_
    · have h25 : a.eval (.tmp 25) = .bool true := hn.1
      clear hn
      refine wants_plain rfl ?_
      exact grown_move (.tmp 25) rfl h25
    refine steps_cons (fun a w hk hn => ?_) ?_
    · have h3 : a.eval (.tmp 3) = .pointer (some ⟨g3, 0, none⟩) := hn.1
      have h26 : a.eval (.tmp 26) = .bool true := hn.2.1
      clear hn
      refine wants_guard (d := 26) rfl rfl h26 ?_
      refine grown_run (v := .pointer (some ⟨g3, 1, none⟩)) ?_ (Kp.refl _ _) rfl
      obtain ⟨ρ, hρ, hc, hf, hg⟩ := eval_is a
      rw [hρ] at h3 ⊢
      simp [go_sem, h3]
    refine steps_cons (fun a w hk hn => ?_) ?_
    · have h27 : a.eval (.tmp 27) = .pointer (some ⟨g3, 1, none⟩) := hn.1
      have h26 : a.eval (.tmp 26) = .bool true := hn.2.1
      clear hn
      refine wants_guard (d := 26) rfl rfl h26 ?_
      refine grown_run (v := .slice (some ⟨bw, ow, none⟩) mw cw) ?_ (Kp.refl _ _) rfl
      have hcell : w.cell? ⟨g3, 1, none⟩ = some (.slice (some ⟨bw, ow, none⟩) mw cw) := by rw [cell_of_row w g3 1 _ _ _ (unhide HT3 w hk)]; rfl
      obtain ⟨ρ, hρ, hc, hf, hg⟩ := eval_is a
      rw [hρ] at h27 ⊢
      simp [go_sem, h27, hcell]
    refine steps_cons (fun a w hk hn => ?_) ?_
    · have h5 : a.eval (.tmp 5) = .pointer (some ⟨g5, 0, none⟩) := hn.1
      have h26 : a.eval (.tmp 26) = .bool true := hn.2.1
      clear hn
      refine wants_guard (d := 26) rfl rfl h26 ?_
      refine grown_run (v := .pointer (some ⟨g5, 0, none⟩)) ?_ (Kp.refl _ _) rfl
      obtain ⟨ρ, hρ, hc, hf, hg⟩ := eval_is a
      rw [hρ] at h5 ⊢
      simp [go_sem, h5]
    refine steps_cons (fun a w hk hn => ?_) ?_
    · have h29 : a.eval (.tmp 29) = .pointer (some ⟨g5, 0, none⟩) := hn.1
      have h26 : a.eval (.tmp 26) = .bool true := hn.2.1
      clear hn
      refine wants_guard (d := 26) rfl rfl h26 ?_
      refine grown_run (v := .int .i64 kn) ?_ (Kp.refl _ _) rfl
      have hcell : w.cell? ⟨g5, 0, none⟩ = some (.int .i64 kn) := by rw [cell_of_row w g5 0 _ _ _ (unhide HT5 w hk)]; rfl
      obtain ⟨ρ, hρ, hc, hf, hg⟩ := eval_is a
      rw [hρ] at h29 ⊢
      simp [go_sem, h29, hcell]
    refine steps_cons (fun a w hk hn => ?_) ?_
    · have h28 : a.eval (.tmp 28) = .slice (some ⟨bw, ow, none⟩) mw cw := hn.1
      have h30 : a.eval (.tmp 30) = .int .i64 kn := hn.2.1
      have h26 : a.eval (.tmp 26) = .bool true := hn.2.2.1
      clear hn
      refine wants_guard (d := 26) rfl rfl h26 ?_
      refine grown_run (v := .pointer (some ⟨bw, ow + kn, none⟩)) ?_ (Kp.refl _ _) rfl
      obtain ⟨ρ, hρ, hc, hf, hg⟩ := eval_is a
      rw [hρ] at h28 h30 ⊢
      simp [go_sem, h28, h30, hlt2]
    refine steps_cons (fun a w hk hn => ?_) ?_
    · have h31 : a.eval (.tmp 31) = .pointer (some ⟨bw, ow + kn, none⟩) := hn.1
      have h26 : a.eval (.tmp 26) = .bool true := hn.2.1
      clear hn
      refine wants_guard (d := 26) rfl rfl h26 ?_
      refine grown_run (v := .slice ax nx cx) ?_ (Kp.refl _ _) rfl
      have hcell := unhide HXC w hk
      obtain ⟨ρ, hρ, hc, hf, hg⟩ := eval_is a
      rw [hρ] at h31 ⊢
      simp [go_sem, h31, hcell]
    refine steps_cons (fun a w hk hn => ?_) ?_
    · have h4 : a.eval (.tmp 4) = .pointer (some ⟨g4, 0, none⟩) := hn.1
      have h26 : a.eval (.tmp 26) = .bool true := hn.2.1
      clear hn
      refine wants_guard (d := 26) rfl rfl h26 ?_
      exact grown_loadf 27 (.tmp 4) rfl g4 0 h4 _ _ _ _ (unhide HT4 w hk) [.int .i64 n, .slice ar mr cr] (flat_in rfl) Tryd.underlying27 rfl Tryd.chkSize rfl
    refine steps_cons (fun a w hk hn => ?_) ?_
    · have h33 : a.eval (.tmp 33) = .agg #[.int .i64 n, .slice ar mr cr] := hn.1
      have h26 : a.eval (.tmp 26) = .bool true := hn.2.1
      clear hn
      refine wants_guard (d := 26) rfl rfl h26 ?_
      refine grown_call (f := 16) rfl Tryd.func16 (by kernel_rfl) (by kernel_rfl) ?_
      simp only [List.map_toArray, List.map_cons, List.map_nil, h33]
      refine (rcosign_any _ n r B (unhide HBB) w (unhide HCK w hk)).mono ?_
      rintro e w' ⟨ao, m, c, rfl, R, K⟩
      exact ⟨_, rfl, K, R⟩
    refine steps_cons (fun a w hk hn => ?_) ?_
    · have h5 : a.eval (.tmp 5) = .pointer (some ⟨g5, 0, none⟩) := hn.1
      have h26 : a.eval (.tmp 26) = .bool true := hn.2.1
      clear hn
      refine wants_guard (d := 26) rfl rfl h26 ?_
      refine grown_run (v := .pointer (some ⟨g5, 1, none⟩)) ?_ (Kp.refl _ _) rfl
      obtain ⟨ρ, hρ, hc, hf, hg⟩ := eval_is a
      rw [hρ] at h5 ⊢
      simp [go_sem, h5]
    refine steps_cons (fun a w hk hn => ?_) ?_
    · have h35 : a.eval (.tmp 35) = .pointer (some ⟨g5, 1, none⟩) := hn.1
      have h26 : a.eval (.tmp 26) = .bool true := hn.2.1
      clear hn
      refine wants_guard (d := 26) rfl rfl h26 ?_
      exact grown_loadf 31 (.tmp 35) rfl g5 1 h35 _ _ _ _ (unhide HT5 w hk) [.int .i64 i, .slice ap np cp, .slice aq nq cq] (flat_in rfl) Tryd.underlying31 rfl Tryd.sigSize rfl
    refine steps_cons (fun a w hk hn => ?_) ?_
    · have h32 : a.eval (.tmp 32) = .slice ax nx cx := hn.1
      have h34 : Sl w (a.eval (.tmp 34)) (B) := hn.2.1
      have h36 : a.eval (.tmp 36) = .agg #[.int .i64 i, .slice ap np cp, .slice aq nq cq] := hn.2.2.1
      have h26 : a.eval (.tmp 26) = .bool true := hn.2.2.2.1
      clear hn
      refine wants_guard (d := 26) rfl rfl h26 ?_
      refine grown_call (f := 46) rfl Tryd.func46 (by kernel_rfl) (by kernel_rfl) ?_
      simp only [List.map_toArray, List.map_cons, List.map_nil, h32, h36]
      refine (refverify_any _ pub _ B _ i ps qs bb (unhide HVB) w (unhide HPW w hk) (unhide HPB) h34 (unhide HBS) (unhide HBL) (unhide HSV w hk) (unhide HI)).mono ?_
      rintro e w' ⟨rfl, K⟩
      exact ⟨_, rfl, K, rfl⟩
    refine steps_cons (fun a w hk hn => ?_) ?_
    · have h26 : a.eval (.tmp 26) = .bool true := hn.1
      have h37 : a.eval (.tmp 37) = .bool bb := hn.2.1
      clear hn
      refine wants_plain rfl ?_
      exact grown_pick _ _ _ true rfl h26 h37
    refine steps_cons (fun a w hk hn => ?_) ?_
    · have h38 : a.eval (.tmp 38) = .bool bb := hn.1
      clear hn
      refine wants_plain rfl ?_
      exact grown_assign (.tmp 38) rfl h38
    exact trivial
  intro W1 hkW1
  rintro _ rfl
  rintro _ rfl
  rintro _ rfl
  rintro _ rfl
  rintro _ rfl
  rintro _ rfl
  rintro _ rfl
  rintro _ rfl
  rintro _ rfl
  rintro _ rfl
  rintro _ rfl
  rintro _ rfl
  rintro _ rfl
  rintro _ rfl
  rintro _ rfl
  rintro _ rfl
  rintro _ rfl
  rintro _ rfl
  rintro _ rfl
  rintro _ rfl
  rintro _ rfl
  rintro _ rfl
  rintro _ rfl
  rintro _ rfl
  rintro _ rfl
  rintro _ rfl
  rintro _ rfl
  intro v34 h34
  rintro _ rfl
  rintro _ rfl
  rintro _ rfl
  rintro _ rfl
  rintro _ rfl
  refine fin_nil ?_
  simp only [Act.put, List.set_cons_zero, List.set_cons_succ, List.setIfInBounds_toArray]
  go_wp2_with fail
  go_ret
  exact ⟨by rw [unhide HE]; rfl, unhide HD W1 hkW1⟩
end Go.Proofs.YtdjofooggofpkaaDoor

/-
  The contract of the reference's Count.
-/
namespace Go.Proofs.YtdjofooggofpkaaDoor
open Go.RowKit
open Go.Proofs

set_option maxRecDepth 100000 in
set_option maxHeartbeats 8000000 in
theorem rcount_any (vp : Value) (p : Po) (vc : Value) (n : Int) (r : List Int) (vl : Value) (l : List Co) (m : Nat) (hm : m = cntW p n r l) (w : World) (hP : PoV w vp p) (hC : CkV w vc n r) (hL : CoL w vl l) (hi : ∀ c ∈ l, -9223372036854775808 ≤ c.i ∧ c.i ≤ 9223372036854775807) :
    Calls Tryd.prog 23 #[vp, vc, vl] w fun e w' => e = .returned (.int .i64 m) ∧ Kp [] w w' := by
  have HP0 := hide hP
  have HC0 := hide hC
  obtain ⟨al, ml, cl, aw, mw, cw, lw, rfl, -, -, -⟩ := hP
  obtain ⟨ar, mr, cr, rfl, -, -⟩ := hC
  obtain ⟨ag, cg, rfl, hll, hcell⟩ := hL
  obtain ⟨q, hq0⟩ : ∃ q, q = p.q := ⟨_, rfl⟩
  rw [← hq0] at HP0 ⊢
  obtain ⟨N, hN⟩ : ∃ k, k = l.length := ⟨_, rfl⟩
  rw [← hN] at hll ⊢
  obtain ⟨g3, hg3⟩ : ∃ g, g = w.heap.size := ⟨_, rfl⟩
  obtain ⟨g4, hg4⟩ : ∃ g, g = w.heap.size + 1 := ⟨_, rfl⟩
  obtain ⟨g7, hg7⟩ : ∃ g, g = w.heap.size + 1 + 1 := ⟨_, rfl⟩
  obtain ⟨w0, hmk, G7, K7⟩ := make4_run ((w.alloc (.cells #[.slice al ml cl, .slice aw mw cw, .int .i64 q] 42)).alloc (.cells #[.int .i64 n, .slice ar mr cr] 27))
  have hsz : ((w.alloc (.cells #[.slice al ml cl, .slice aw mw cw, .int .i64 q] 42)).alloc (.cells #[.int .i64 n, .slice ar mr cr] 27)).heap.size = w.heap.size + 1 + 1 := by simp
  rw [hsz] at hmk G7
  rw [← hg7] at G7
  have K0 : Kp [] w w0 := (((Kp.refl [] w).alloc _).alloc _).trans K7
  have G4 : w0.heap[g4]? = some (.cells #[.int .i64 n, .slice ar mr cr] 27 (0, 0)) := by
    rw [hg4]
    exact K7.heap (heap_alloc2_new w _ _) (by simp)
  have G3 : w0.heap[g3]? = some (.cells #[.slice al ml cl, .slice aw mw cw, .int .i64 q] 42 (0, 0)) := by
    rw [hg3]
    exact K7.heap (heap_alloc2_old w _ _) (by simp)
  have HIn : Hid (w0.heap[g7]? = some (.cells (hasW p n r (l.take 0)) 4 (0, 0)) ∧ Kp [g7] w0 w0) := ⟨by rw [G7]; rfl, Kp.refl _ _⟩
  have HM := hide hm
  have HN := hide hN
  have HC := hide hcell
  have H3 := hide hg3
  have H4 := hide hg4
  have H7 := hide hg7
  have HK0 := hide K0
  have HG3 := hide G3
  have HG4 := hide G4
  have HIB := hide hi
  clear hm hN hcell hsz K7 hg3 hg4 hg7 K0 G3 G4 G7 hi hq0
  go_enter Tryd.func23, Tryd.ntmps23
  go_wp2_with fail
  rw [← unhide H7, ← unhide H4, ← unhide H3]
  go_loopw [8, 9] (fun vn vi wr => ∃ k : Nat, k ≤ N ∧ vi = .int .i64 k ∧ vn = .int .i64 (cntW p n r (l.take k) : Nat) ∧ wr.heap[g7]? = some (.cells (hasW p n r (l.take k)) 4 (0, 0)) ∧ Kp [g7] w0 wr) (fun _ vi _ => N - (intOf vi).toNat)
  case atStart => exact ⟨0, by omega, rfl, rfl, (unhide HIn).1, (unhide HIn).2⟩
  case round =>
    clear HIn
    obtain ⟨k, hk, rfl, rfl, hH, hKr⟩ := hrel
    have h45 : g3 < g7 ∧ g4 < g7 ∧ w.heap.size ≤ g7 := by have := unhide H3; have := unhide H4; have := unhide H7; omega
    have HKw : Hid (Kp [] w wr) := (unhide HK0).then hKr (fun i hi => .inr (by simp at hi; omega))
    have HH := hide hH
    have HKr := hide hKr
    have HG3r := hide (hKr.heap (unhide HG3) (by simp; omega))
    have HG4r := hide (hKr.heap (unhide HG4) (by simp; omega))
    have hcl : cntW p n r (l.take k) ≤ 4 := cntW_le
    obtain ⟨cn, hcn⟩ : ∃ c, c = cntW p n r (l.take k) := ⟨_, rfl⟩
    rw [← hcn] at hcl ⊢
    have HCN := hide hcn
    clear hH hKr hcn
    by_cases hlt : k < N
    · have hlt2 : (k : Int) < (N : Int) := by omega
      have hkl : k < l.length := by have := unhide HN; omega
      obtain ⟨b', off, ap, np, cp, aq, nq, cq, rfl, hr0, hsig⟩ := unhide HC k hkl
      obtain ⟨c, hc⟩ : ∃ c, c = l[k]'hkl := ⟨_, rfl⟩
      rw [← hc] at hr0 hsig
      have htk : l.take (k + 1) = l.take k ++ [c] := by rw [List.take_succ_eq_append_getElem hkl, hc]
      have HI := hide (unhide HIB c (by rw [hc]; exact List.getElem_mem hkl))
      obtain ⟨ck, hck⟩ : ∃ x, x = c.k := ⟨_, rfl⟩
      obtain ⟨ci, hci⟩ : ∃ x, x = c.i := ⟨_, rfl⟩
      have HV0 : Hid (∀ w', Kp [] w w' → CoV w' (.agg #[.int .i64 ck, .int .i64 ci, .slice ap np cp, .slice aq nq cq]) c) := fun w' k' => ⟨ap, np, cp, aq, nq, cq, by rw [hck, hci], by have := hsig.kept k'; rw [← hci] at this ⊢; exact this⟩
      rw [← hck, ← hci] at hr0
      have HRD := hide ((unhide HKw).trans (kp_drew wr))
      have HD : Hid (∀ w', Kp [] wr.drew w' → Kp [] w w') := fun w' k' => (unhide HRD).trans k'
      have HLD : Hid (∀ w', Kp [] wr.drew w' → (loadVar 33 ⟨b', off + k * 4, none⟩).run Tryd.prog w' = .ok (.agg #[.int .i64 ck, .int .i64 ci, .slice ap np cp, .slice aq nq cq]) w') := fun w' k' => run_loadVar_mid w' b' (off + k * 4) 33 [.int .i64 ck, .int .i64 ci, .slice ap np cp, .slice aq nq cq] _ (fun j u hu => (unhide HD w' k').cell (hr0 j u hu) (by simp)) Tryd.underlying33 rfl Tryd.cosSize
      have HX0 : Hid (∀ w', Kp [] wr.drew w' → w'.cell? ⟨b', off + k * 4, none⟩ = some (.int .i64 ck)) := fun w' k' => (unhide HD w' k').cell (hr0 0 _ rfl) (by simp)
      have HV : Hid (∀ w', Kp [] wr.drew w' → CoV w' (.agg #[.int .i64 ck, .int .i64 ci, .slice ap np cp, .slice aq nq cq]) c) := fun w' k' => unhide HV0 w' (unhide HD w' k')
      have HT3 : Hid (∀ w', Kp [] wr.drew w' → w'.heap[g3]? = some (.cells #[.slice al ml cl, .slice aw mw cw, .int .i64 q] 42 (0, 0))) := fun w' k' => ((kp_drew wr).trans k').heap (unhide HG3r) (by simp)
      have HT4 : Hid (∀ w', Kp [] wr.drew w' → w'.heap[g4]? = some (.cells #[.int .i64 n, .slice ar mr cr] 27 (0, 0))) := fun w' k' => ((kp_drew wr).trans k').heap (unhide HG4r) (by simp)
      have HT7 : Hid (∀ w', Kp [] wr.drew w' → w'.heap[g7]? = some (.cells (hasW p n r (l.take k)) 4 (0, 0))) := fun w' k' => ((kp_drew wr).trans k').heap (unhide HH) (by simp)
      have HPO : Hid (∀ w', Kp [] wr.drew w' → PoV w' (.agg #[.slice al ml cl, .slice aw mw cw, .int .i64 q]) p) := fun w' k' => (unhide HP0).kept (unhide HD w' k')
      have HCK : Hid (∀ w', Kp [] wr.drew w' → CkV w' (.agg #[.int .i64 n, .slice ar mr cr]) n r) := fun w' k' => (unhide HC0).kept (unhide HD w' k')
      have HKD : Hid (∀ w', Kp [] wr.drew w' → Kp [g7] w0 w') := fun w' k' => (unhide HKr).trans (((kp_drew wr).trans k').mono (by simp))
      have HTK := hide htk
      have HCKE := hide hck
      obtain ⟨bv, hbv⟩ : ∃ b, b = verW p n r c := ⟨_, rfl⟩
      have HBV := hide hbv
      clear hc hck hci hr0 hsig htk HC hbv
      cases bv
      · go_wp2_with fail
        refine region_grow Tryd.mixed [Is (.agg #[.slice al ml cl, .slice aw mw cw, .int .i64 q]), Is (.agg #[.int .i64 n, .slice ar mr cr]), Is (.slice (some ⟨b', off, none⟩) N cg), Is (.int .i64 k), Is (.pointer (some ⟨b', off + k * 4, none⟩)), Is (.agg #[.int .i64 ck, .int .i64 ci, .slice ap np cp, .slice aq nq cq]), Is (.bool false), Is (.bool false), Is (undef), Is (undef), Is (undef), Is (undef), Is (undef), Is (undef), Is (undef), Is (undef), Is (undef), Is (.bool false)] [[(3, none)], [(4, none)], [(2, none)], [(9, none)], [(19, some 2), (20, some 3)], [(21, some 4)], [(17, some 0), (18, some 1), (22, some 5)], [(23, some 6)], [(7, none), (24, some 7)], [(2, none), (24, some 7)], [(9, none), (24, some 7)], [(26, some 9), (27, some 10), (24, some 7)], [(28, some 11), (24, some 7)], [(29, some 12), (24, some 7)], [(25, some 8), (30, some 13), (24, some 7)], [(31, some 14), (24, some 7)], [(32, some 15), (24, some 7)], [(24, some 7), (33, some 16)]] (by kernel_rfl) ?_ ?_ ?_
        · simp only [List.mem_cons, List.not_mem_nil, or_false]
          intro R hR
          rcases hR with rfl | rfl | rfl | rfl | rfl | rfl | rfl | rfl | rfl | rfl | rfl | rfl | rfl | rfl | rfl | rfl | rfl | rfl <;> first | exact stable_is _
        · refine steps_cons (fun a w hk hn => ?_) ?_
          · have h3 : a.eval (.tmp 3) = .pointer (some ⟨g3, 0, none⟩) := hn.1
            clear hn
            refine wants_plain rfl ?_
            exact grown_loadf 42 (.tmp 3) rfl g3 0 h3 _ _ _ _ (unhide HT3 w hk) [.slice al ml cl, .slice aw mw cw, .int .i64 q] (flat_in rfl) Tryd.underlying42 rfl Tryd.polSize rfl
          refine steps_cons (fun a w hk hn => ?_) ?_
          · have h4 : a.eval (.tmp 4) = .pointer (some ⟨g4, 0, none⟩) := hn.1
            clear hn
            refine wants_plain rfl ?_
            exact grown_loadf 27 (.tmp 4) rfl g4 0 h4 _ _ _ _ (unhide HT4 w hk) [.int .i64 n, .slice ar mr cr] (flat_in rfl) Tryd.underlying27 rfl Tryd.chkSize rfl
          refine steps_cons (fun a w hk hn => ?_) ?_
          · have h2 : a.eval (.tmp 2) = .slice (some ⟨b', off, none⟩) N cg := hn.1
            clear hn
            refine wants_plain rfl ?_
            exact grown_move (.tmp 2) rfl h2
          refine steps_cons (fun a w hk hn => ?_) ?_
          · have h9 : a.eval (.tmp 9) = .int .i64 k := hn.1
            clear hn
            refine wants_plain rfl ?_
            exact grown_move (.tmp 9) rfl h9
          refine steps_cons (fun a w hk hn => ?_) ?_
          · have h19 : a.eval (.tmp 19) = .slice (some ⟨b', off, none⟩) N cg := hn.1
            have h20 : a.eval (.tmp 20) = .int .i64 k := hn.2.1
            clear hn
            refine wants_plain rfl ?_
            refine grown_run (v := .pointer (some ⟨b', off + k * 4, none⟩)) ?_ (Kp.refl _ _) rfl
            obtain ⟨ρ, hρ, hc, hf, hg⟩ := eval_is a
            rw [hρ] at h19 h20 ⊢
            simp [go_sem, h19, h20, hlt2]
          refine steps_cons (fun a w hk hn => ?_) ?_
          · have h21 : a.eval (.tmp 21) = .pointer (some ⟨b', off + k * 4, none⟩) := hn.1
            clear hn
            refine wants_plain rfl ?_
            exact grown_loadm 33 (.tmp 21) rfl b' (off + k * 4) h21 _ (unhide HLD w hk) rfl
          refine steps_cons (fun a w hk hn => ?_) ?_
          · have h17 : a.eval (.tmp 17) = .agg #[.slice al ml cl, .slice aw mw cw, .int .i64 q] := hn.1
            have h18 : a.eval (.tmp 18) = .agg #[.int .i64 n, .slice ar mr cr] := hn.2.1
            have h22 : a.eval (.tmp 22) = .agg #[.int .i64 ck, .int .i64 ci, .slice ap np cp, .slice aq nq cq] := hn.2.2.1
            clear hn
            refine wants_plain rfl ?_
            refine grown_call (f := 21) rfl Tryd.func21 (by kernel_rfl) (by kernel_rfl) ?_
            simp only [List.map_toArray, List.map_cons, List.map_nil, h17, h18, h22]
            refine (rcosigned_any _ p _ n r _ c false (unhide HBV) w (unhide HPO w hk) (unhide HCK w hk) (unhide HV w hk) (unhide HI)).mono ?_
            rintro e w' ⟨rfl, K⟩
            exact ⟨_, rfl, K, rfl⟩
          refine steps_cons (fun a w hk hn => ?_) ?_
          · have h23 : a.eval (.tmp 23) = .bool false := hn.1
            clear hn
            refine wants_plain rfl ?_
            exact grown_move (.tmp 23) rfl h23
          refine steps_cons (fun a w hk hn => ?_) ?_
          · have h7 : a.eval (.tmp 7) = .slice (some ⟨g7, 0, none⟩) 4 4 := hn.1
            have h24 : a.eval (.tmp 24) = .bool false := hn.2.1
            clear hn
            exact wants_not (d := 24) rfl rfl h24 rfl
          refine steps_cons (fun a w hk hn => ?_) ?_
          · have h2 : a.eval (.tmp 2) = .slice (some ⟨b', off, none⟩) N cg := hn.1
            have h24 : a.eval (.tmp 24) = .bool false := hn.2.1
            clear hn
            exact wants_not (d := 24) rfl rfl h24 rfl
          refine steps_cons (fun a w hk hn => ?_) ?_
          · have h9 : a.eval (.tmp 9) = .int .i64 k := hn.1
            have h24 : a.eval (.tmp 24) = .bool false := hn.2.1
            clear hn
            exact wants_not (d := 24) rfl rfl h24 rfl
          refine steps_cons (fun a w hk hn => ?_) ?_
          · have h26 : a.eval (.tmp 26) = undef := hn.1
            have h27 : a.eval (.tmp 27) = undef := hn.2.1
            have h24 : a.eval (.tmp 24) = .bool false := hn.2.2.1
            clear hn
            exact wants_not (d := 24) rfl rfl h24 rfl
          refine steps_cons (fun a w hk hn => ?_) ?_
          · have h28 : a.eval (.tmp 28) = undef := hn.1
            have h24 : a.eval (.tmp 24) = .bool false := hn.2.1
            clear hn
            exact wants_not (d := 24) rfl rfl h24 rfl
          refine steps_cons (fun a w hk hn => ?_) ?_
          · have h29 : a.eval (.tmp 29) = undef := hn.1
            have h24 : a.eval (.tmp 24) = .bool false := hn.2.1
            clear hn
            exact wants_not (d := 24) rfl rfl h24 rfl
          refine steps_cons (fun a w hk hn => ?_) ?_
          · have h25 : a.eval (.tmp 25) = undef := hn.1
            have h30 : a.eval (.tmp 30) = undef := hn.2.1
            have h24 : a.eval (.tmp 24) = .bool false := hn.2.2.1
            clear hn
            exact wants_not (d := 24) rfl rfl h24 rfl
          refine steps_cons (fun a w hk hn => ?_) ?_
          · have h31 : a.eval (.tmp 31) = undef := hn.1
            have h24 : a.eval (.tmp 24) = .bool false := hn.2.1
            clear hn
            exact wants_not (d := 24) rfl rfl h24 rfl
          refine steps_cons (fun a w hk hn => ?_) ?_
          · have h32 : a.eval (.tmp 32) = undef := hn.1
            have h24 : a.eval (.tmp 24) = .bool false := hn.2.1
            clear hn
            exact wants_not (d := 24) rfl rfl h24 rfl
          refine steps_cons (fun a w hk hn => ?_) ?_
          · have h24 : a.eval (.tmp 24) = .bool false := hn.1
            have h33 : a.eval (.tmp 33) = undef := hn.2.1
            clear hn
            refine wants_plain rfl ?_
            exact grown_pick _ _ _ false rfl h24 rfl
          exact trivial
        intro W1 hkW1
        rintro _ rfl
        rintro _ rfl
        rintro _ rfl
        rintro _ rfl
        rintro _ rfl
        rintro _ rfl
        rintro _ rfl
        rintro _ rfl
        rintro _ rfl
        rintro _ rfl
        rintro _ rfl
        rintro _ rfl
        rintro _ rfl
        rintro _ rfl
        rintro _ rfl
        rintro _ rfl
        rintro _ rfl
        rintro _ rfl
        refine fin_nil ?_
        simp only [Act.put, List.set_cons_zero, List.set_cons_succ, List.setIfInBounds_toArray]
        have HR1 : Hid (cn = cntW p n r (l.take (k + 1)) ∧ W1.heap[g7]? = some (.cells (hasW p n r (l.take (k + 1))) 4 (0, 0))) := hide (by
          rw [unhide HTK, cntW_no (.inl (unhide HBV).symm), hasW_same (.inl (unhide HBV).symm)]
          exact ⟨unhide HCN, unhide HT7 W1 hkW1⟩)
        have HKr2 := hide (unhide HKD W1 hkW1)
        go_wp2_with fail
        go_roundw
        case rel => exact ⟨k + 1, by omega, by go_num, by rw [← (unhide HR1).1], (unhide HR1).2, unhide HKr2⟩
        case measure => simp [intOf]; omega
      · have hck4 := verW_lt (unhide HBV).symm
        rw [← unhide HCKE] at hck4
        obtain ⟨kn, rfl⟩ : ∃ kn : Nat, ck = kn := ⟨ck.toNat, by omega⟩
        have hkn : kn < 4 := by omega
        have hkni : (kn : Int) < 4 := by omega
        obtain ⟨bs, hbs⟩ : ∃ b, b = seenW p n r (l.take k) (kn : Nat) := ⟨_, rfl⟩
        have HX7 : Hid (∀ w', Kp [] wr.drew w' → w'.cell? ⟨g7, kn, none⟩ = some (.bool bs)) := fun w' k' => by rw [cell_of_row w' g7 kn _ _ _ (unhide HT7 w' k'), hasW_at p n r _ kn hkn, hbs]
        have HBS := hide hbs
        clear hbs hck4
        cases bs
        · go_wp2_with fail
          refine region_grow Tryd.mixed [Is (.agg #[.slice al ml cl, .slice aw mw cw, .int .i64 q]), Is (.agg #[.int .i64 n, .slice ar mr cr]), Is (.slice (some ⟨b', off, none⟩) N cg), Is (.int .i64 k), Is (.pointer (some ⟨b', off + k * 4, none⟩)), Is (.agg #[.int .i64 kn, .int .i64 ci, .slice ap np cp, .slice aq nq cq]), Is (.bool true), Is (.bool true), Is (.slice (some ⟨g7, 0, none⟩) 4 4), Is (.slice (some ⟨b', off, none⟩) N cg), Is (.int .i64 k), Is (.pointer (some ⟨b', off + k * 4, none⟩)), Is (.pointer (some ⟨b', off + k * 4, none⟩)), Is (.int .i64 kn), Is (.pointer (some ⟨g7, kn, none⟩)), Is (.bool false), Is (.bool true), Is (.bool true)] [[(3, none)], [(4, none)], [(2, none)], [(9, none)], [(19, some 2), (20, some 3)], [(21, some 4)], [(17, some 0), (18, some 1), (22, some 5)], [(23, some 6)], [(7, none), (24, some 7)], [(2, none), (24, some 7)], [(9, none), (24, some 7)], [(26, some 9), (27, some 10), (24, some 7)], [(28, some 11), (24, some 7)], [(29, some 12), (24, some 7)], [(25, some 8), (30, some 13), (24, some 7)], [(31, some 14), (24, some 7)], [(32, some 15), (24, some 7)], [(24, some 7), (33, some 16)]] (by kernel_rfl) ?_ ?_ ?_
          · simp only [List.mem_cons, List.not_mem_nil, or_false]
            intro R hR
            rcases hR with rfl | rfl | rfl | rfl | rfl | rfl | rfl | rfl | rfl | rfl | rfl | rfl | rfl | rfl | rfl | rfl | rfl | rfl <;> first | exact stable_is _
          · refine steps_cons (fun a w hk hn => ?_) ?_
            · have h3 : a.eval (.tmp 3) = .pointer (some ⟨g3, 0, none⟩) := hn.1
              clear hn
              refine wants_plain rfl ?_
              exact grown_loadf 42 (.tmp 3) rfl g3 0 h3 _ _ _ _ (unhide HT3 w hk) [.slice al ml cl, .slice aw mw cw, .int .i64 q] (flat_in rfl) Tryd.underlying42 rfl Tryd.polSize rfl
            refine steps_cons (fun a w hk hn => ?_) ?_
            · have h4 : a.eval (.tmp 4) = .pointer (some ⟨g4, 0, none⟩) := hn.1
              clear hn
              refine wants_plain rfl ?_
              exact grown_loadf 27 (.tmp 4) rfl g4 0 h4 _ _ _ _ (unhide HT4 w hk) [.int .i64 n, .slice ar mr cr] (flat_in rfl) Tryd.underlying27 rfl Tryd.chkSize rfl
            refine steps_cons (fun a w hk hn => ?_) ?_
            · have h2 : a.eval (.tmp 2) = .slice (some ⟨b', off, none⟩) N cg := hn.1
              clear hn
              refine wants_plain rfl ?_
              exact grown_move (.tmp 2) rfl h2
            refine steps_cons (fun a w hk hn => ?_) ?_
            · have h9 : a.eval (.tmp 9) = .int .i64 k := hn.1
              clear hn
              refine wants_plain rfl ?_
              exact grown_move (.tmp 9) rfl h9
            refine steps_cons (fun a w hk hn => ?_) ?_
            · have h19 : a.eval (.tmp 19) = .slice (some ⟨b', off, none⟩) N cg := hn.1
              have h20 : a.eval (.tmp 20) = .int .i64 k := hn.2.1
              clear hn
              refine wants_plain rfl ?_
              refine grown_run (v := .pointer (some ⟨b', off + k * 4, none⟩)) ?_ (Kp.refl _ _) rfl
              obtain ⟨ρ, hρ, hc, hf, hg⟩ := eval_is a
              rw [hρ] at h19 h20 ⊢
              simp [go_sem, h19, h20, hlt2]
            refine steps_cons (fun a w hk hn => ?_) ?_
            · have h21 : a.eval (.tmp 21) = .pointer (some ⟨b', off + k * 4, none⟩) := hn.1
              clear hn
              refine wants_plain rfl ?_
              exact grown_loadm 33 (.tmp 21) rfl b' (off + k * 4) h21 _ (unhide HLD w hk) rfl
            refine steps_cons (fun a w hk hn => ?_) ?_
            · have h17 : a.eval (.tmp 17) = .agg #[.slice al ml cl, .slice aw mw cw, .int .i64 q] := hn.1
              have h18 : a.eval (.tmp 18) = .agg #[.int .i64 n, .slice ar mr cr] := hn.2.1
              have h22 : a.eval (.tmp 22) = .agg #[.int .i64 kn, .int .i64 ci, .slice ap np cp, .slice aq nq cq] := hn.2.2.1
              clear hn
              refine wants_plain rfl ?_
              refine grown_call (f := 21) rfl Tryd.func21 (by kernel_rfl) (by kernel_rfl) ?_
              simp only [List.map_toArray, List.map_cons, List.map_nil, h17, h18, h22]
              refine (rcosigned_any _ p _ n r _ c true (unhide HBV) w (unhide HPO w hk) (unhide HCK w hk) (unhide HV w hk) (unhide HI)).mono ?_
              rintro e w' ⟨rfl, K⟩
              exact ⟨_, rfl, K, rfl⟩
            refine steps_cons (fun a w hk hn => ?_) ?_
            · have h23 : a.eval (.tmp 23) = .bool true := hn.1
              clear hn
              refine wants_plain rfl ?_
              exact grown_move (.tmp 23) rfl h23
            refine steps_cons (fun a w hk hn => ?_) ?_
            · have h7 : a.eval (.tmp 7) = .slice (some ⟨g7, 0, none⟩) 4 4 := hn.1
              have h24 : a.eval (.tmp 24) = .bool true := hn.2.1
              clear hn
              refine wants_guard (d := 24) rfl rfl h24 ?_
              exact grown_move (.tmp 7) rfl h7
            refine steps_cons (fun a w hk hn => ?_) ?_
            · have h2 : a.eval (.tmp 2) = .slice (some ⟨b', off, none⟩) N cg := hn.1
              have h24 : a.eval (.tmp 24) = .bool true := hn.2.1
              clear hn
              refine wants_guard (d := 24) rfl rfl h24 ?_
              exact grown_move (.tmp 2) rfl h2
            refine steps_cons (fun a w hk hn => ?_) ?_
            · have h9 : a.eval (.tmp 9) = .int .i64 k := hn.1
              have h24 : a.eval (.tmp 24) = .bool true := hn.2.1
              clear hn
              refine wants_guard (d := 24) rfl rfl h24 ?_
              exact grown_move (.tmp 9) rfl h9
            refine steps_cons (fun a w hk hn => ?_) ?_
            · have h26 : a.eval (.tmp 26) = .slice (some ⟨b', off, none⟩) N cg := hn.1
              have h27 : a.eval (.tmp 27) = .int .i64 k := hn.2.1
              have h24 : a.eval (.tmp 24) = .bool true := hn.2.2.1
              clear hn
              refine wants_guard (d := 24) rfl rfl h24 ?_
              refine grown_run (v := .pointer (some ⟨b', off + k * 4, none⟩)) ?_ (Kp.refl _ _) rfl
              obtain ⟨ρ, hρ, hc, hf, hg⟩ := eval_is a
              rw [hρ] at h26 h27 ⊢
              simp [go_sem, h26, h27, hlt2]
            refine steps_cons (fun a w hk hn => ?_) ?_
            · have h28 : a.eval (.tmp 28) = .pointer (some ⟨b', off + k * 4, none⟩) := hn.1
              have h24 : a.eval (.tmp 24) = .bool true := hn.2.1
              clear hn
              refine wants_guard (d := 24) rfl rfl h24 ?_
              refine grown_run (v := .pointer (some ⟨b', off + k * 4, none⟩)) ?_ (Kp.refl _ _) rfl
              obtain ⟨ρ, hρ, hc, hf, hg⟩ := eval_is a
              rw [hρ] at h28 ⊢
              simp [go_sem, h28]
            refine steps_cons (fun a w hk hn => ?_) ?_
            · have h29 : a.eval (.tmp 29) = .pointer (some ⟨b', off + k * 4, none⟩) := hn.1
              have h24 : a.eval (.tmp 24) = .bool true := hn.2.1
              clear hn
              refine wants_guard (d := 24) rfl rfl h24 ?_
              refine grown_run (v := .int .i64 kn) ?_ (Kp.refl _ _) rfl
              have hcell := unhide HX0 w hk
              obtain ⟨ρ, hρ, hc, hf, hg⟩ := eval_is a
              rw [hρ] at h29 ⊢
              simp [go_sem, h29, hcell]
            refine steps_cons (fun a w hk hn => ?_) ?_
            · have h25 : a.eval (.tmp 25) = .slice (some ⟨g7, 0, none⟩) 4 4 := hn.1
              have h30 : a.eval (.tmp 30) = .int .i64 kn := hn.2.1
              have h24 : a.eval (.tmp 24) = .bool true := hn.2.2.1
              clear hn
              refine wants_guard (d := 24) rfl rfl h24 ?_
              refine grown_run (v := .pointer (some ⟨g7, kn, none⟩)) ?_ (Kp.refl _ _) rfl
              obtain ⟨ρ, hρ, hc, hf, hg⟩ := eval_is a
              rw [hρ] at h25 h30 ⊢
              simp [go_sem, h25, h30, hkni]
            refine steps_cons (fun a w hk hn => ?_) ?_
            · have h31 : a.eval (.tmp 31) = .pointer (some ⟨g7, kn, none⟩) := hn.1
              have h24 : a.eval (.tmp 24) = .bool true := hn.2.1
              clear hn
              refine wants_guard (d := 24) rfl rfl h24 ?_
              refine grown_run (v := .bool false) ?_ (Kp.refl _ _) rfl
              have hcell := unhide HX7 w hk
              obtain ⟨ρ, hρ, hc, hf, hg⟩ := eval_is a
              rw [hρ] at h31 ⊢
              simp [go_sem, h31, hcell]
            refine steps_cons (fun a w hk hn => ?_) ?_
            · have h32 : a.eval (.tmp 32) = .bool false := hn.1
              have h24 : a.eval (.tmp 24) = .bool true := hn.2.1
              clear hn
              refine wants_guard (d := 24) rfl rfl h24 ?_
              refine grown_run (v := .bool true) ?_ (Kp.refl _ _) rfl
              obtain ⟨ρ, hρ, hc, hf, hg⟩ := eval_is a
              rw [hρ] at h32 ⊢
              simp [go_sem, h32]
            refine steps_cons (fun a w hk hn => ?_) ?_
            · have h24 : a.eval (.tmp 24) = .bool true := hn.1
              have h33 : a.eval (.tmp 33) = .bool true := hn.2.1
              clear hn
              refine wants_plain rfl ?_
              exact grown_pick _ _ _ true rfl h24 h33
            exact trivial
          intro W1 hkW1
          rintro _ rfl
          rintro _ rfl
          rintro _ rfl
          rintro _ rfl
          rintro _ rfl
          rintro _ rfl
          rintro _ rfl
          rintro _ rfl
          rintro _ rfl
          rintro _ rfl
          rintro _ rfl
          rintro _ rfl
          rintro _ rfl
          rintro _ rfl
          rintro _ rfl
          rintro _ rfl
          rintro _ rfl
          rintro _ rfl
          refine fin_nil ?_
          simp only [Act.put, List.set_cons_zero, List.set_cons_succ, List.setIfInBounds_toArray]
          have hH1 := unhide HT7 W1 hkW1
          have fz : W1.frozen? ⟨g7, kn, none⟩ = false := frozen_of_row W1 g7 kn _ _ hH1
          have e9 := unhide HX7 W1 hkW1
          have x0 := unhide HX0 W1 hkW1
          have HR1 : Hid (cn + 1 = cntW p n r (l.take (k + 1)) ∧ (W1.setCell ⟨g7, kn, none⟩ (.bool true)).heap[g7]? = some (.cells (hasW p n r (l.take (k + 1))) 4 (0, 0))) := hide (by
            rw [unhide HTK, cntW_yes (unhide HBV).symm (by rw [← unhide HCKE]; exact (unhide HBS).symm), ← hasW_set (unhide HCKE).symm hkn (unhide HBV).symm]
            exact ⟨by rw [unhide HCN], heap_setCell_same W1 g7 kn _ _ _ hH1⟩)
          have HKr3 : Hid (Kp [g7] w0 (W1.setCell ⟨g7, kn, none⟩ (.bool true))) := (unhide HKD W1 hkW1).setCell (p := ⟨g7, kn, none⟩) (.inl (by simp)) _
          clear hH1
          go_wp2_with fail
          go_roundw
          case rel => exact ⟨k + 1, by omega, by go_num, by rw [← (unhide HR1).1]; go_num, (unhide HR1).2, unhide HKr3⟩
          case measure => simp [intOf]; omega
        · go_wp2_with fail
          refine region_grow Tryd.mixed [Is (.agg #[.slice al ml cl, .slice aw mw cw, .int .i64 q]), Is (.agg #[.int .i64 n, .slice ar mr cr]), Is (.slice (some ⟨b', off, none⟩) N cg), Is (.int .i64 k), Is (.pointer (some ⟨b', off + k * 4, none⟩)), Is (.agg #[.int .i64 kn, .int .i64 ci, .slice ap np cp, .slice aq nq cq]), Is (.bool true), Is (.bool true), Is (.slice (some ⟨g7, 0, none⟩) 4 4), Is (.slice (some ⟨b', off, none⟩) N cg), Is (.int .i64 k), Is (.pointer (some ⟨b', off + k * 4, none⟩)), Is (.pointer (some ⟨b', off + k * 4, none⟩)), Is (.int .i64 kn), Is (.pointer (some ⟨g7, kn, none⟩)), Is (.bool true), Is (.bool false), Is (.bool false)] [[(3, none)], [(4, none)], [(2, none)], [(9, none)], [(19, some 2), (20, some 3)], [(21, some 4)], [(17, some 0), (18, some 1), (22, some 5)], [(23, some 6)], [(7, none), (24, some 7)], [(2, none), (24, some 7)], [(9, none), (24, some 7)], [(26, some 9), (27, some 10), (24, some 7)], [(28, some 11), (24, some 7)], [(29, some 12), (24, some 7)], [(25, some 8), (30, some 13), (24, some 7)], [(31, some 14), (24, some 7)], [(32, some 15), (24, some 7)], [(24, some 7), (33, some 16)]] (by kernel_rfl) ?_ ?_ ?_
          · simp only [List.mem_cons, List.not_mem_nil, or_false]
            intro R hR
            rcases hR with rfl | rfl | rfl | rfl | rfl | rfl | rfl | rfl | rfl | rfl | rfl | rfl | rfl | rfl | rfl | rfl | rfl | rfl <;> first | exact stable_is _
          · refine steps_cons (fun a w hk hn => ?_) ?_
            · have h3 : a.eval (.tmp 3) = .pointer (some ⟨g3, 0, none⟩) := hn.1
              clear hn
              refine wants_plain rfl ?_
              exact grown_loadf 42 (.tmp 3) rfl g3 0 h3 _ _ _ _ (unhide HT3 w hk) [.slice al ml cl, .slice aw mw cw, .int .i64 q] (flat_in rfl) Tryd.underlying42 rfl Tryd.polSize rfl
            refine steps_cons (fun a w hk hn => ?_) ?_
            · have h4 : a.eval (.tmp 4) = .pointer (some ⟨g4, 0, none⟩) := hn.1
              clear hn
              refine wants_plain rfl ?_
              exact grown_loadf 27 (.tmp 4) rfl g4 0 h4 _ _ _ _ (unhide HT4 w hk) [.int .i64 n, .slice ar mr cr] (flat_in rfl) Tryd.underlying27 rfl Tryd.chkSize rfl
            refine steps_cons (fun a w hk hn => ?_) ?_
            · have h2 : a.eval (.tmp 2) = .slice (some ⟨b', off, none⟩) N cg := hn.1
              clear hn
              refine wants_plain rfl ?_
              exact grown_move (.tmp 2) rfl h2
            refine steps_cons (fun a w hk hn => ?_) ?_
            · have h9 : a.eval (.tmp 9) = .int .i64 k := hn.1
              clear hn
              refine wants_plain rfl ?_
              exact grown_move (.tmp 9) rfl h9
            refine steps_cons (fun a w hk hn => ?_) ?_
            · have h19 : a.eval (.tmp 19) = .slice (some ⟨b', off, none⟩) N cg := hn.1
              have h20 : a.eval (.tmp 20) = .int .i64 k := hn.2.1
              clear hn
              refine wants_plain rfl ?_
              refine grown_run (v := .pointer (some ⟨b', off + k * 4, none⟩)) ?_ (Kp.refl _ _) rfl
              obtain ⟨ρ, hρ, hc, hf, hg⟩ := eval_is a
              rw [hρ] at h19 h20 ⊢
              simp [go_sem, h19, h20, hlt2]
            refine steps_cons (fun a w hk hn => ?_) ?_
            · have h21 : a.eval (.tmp 21) = .pointer (some ⟨b', off + k * 4, none⟩) := hn.1
              clear hn
              refine wants_plain rfl ?_
              exact grown_loadm 33 (.tmp 21) rfl b' (off + k * 4) h21 _ (unhide HLD w hk) rfl
            refine steps_cons (fun a w hk hn => ?_) ?_
            · have h17 : a.eval (.tmp 17) = .agg #[.slice al ml cl, .slice aw mw cw, .int .i64 q] := hn.1
              have h18 : a.eval (.tmp 18) = .agg #[.int .i64 n, .slice ar mr cr] := hn.2.1
              have h22 : a.eval (.tmp 22) = .agg #[.int .i64 kn, .int .i64 ci, .slice ap np cp, .slice aq nq cq] := hn.2.2.1
              clear hn
              refine wants_plain rfl ?_
              refine grown_call (f := 21) rfl Tryd.func21 (by kernel_rfl) (by kernel_rfl) ?_
              simp only [List.map_toArray, List.map_cons, List.map_nil, h17, h18, h22]
              refine (rcosigned_any _ p _ n r _ c true (unhide HBV) w (unhide HPO w hk) (unhide HCK w hk) (unhide HV w hk) (unhide HI)).mono ?_
              rintro e w' ⟨rfl, K⟩
              exact ⟨_, rfl, K, rfl⟩
            refine steps_cons (fun a w hk hn => ?_) ?_
            · have h23 : a.eval (.tmp 23) = .bool true := hn.1
              clear hn
              refine wants_plain rfl ?_
              exact grown_move (.tmp 23) rfl h23
            refine steps_cons (fun a w hk hn => ?_) ?_
            · have h7 : a.eval (.tmp 7) = .slice (some ⟨g7, 0, none⟩) 4 4 := hn.1
              have h24 : a.eval (.tmp 24) = .bool true := hn.2.1
              clear hn
              refine wants_guard (d := 24) rfl rfl h24 ?_
              exact grown_move (.tmp 7) rfl h7
            refine steps_cons (fun a w hk hn => ?_) ?_
            · have h2 : a.eval (.tmp 2) = .slice (some ⟨b', off, none⟩) N cg := hn.1
              have h24 : a.eval (.tmp 24) = .bool true := hn.2.1
              clear hn
              refine wants_guard (d := 24) rfl rfl h24 ?_
              exact grown_move (.tmp 2) rfl h2
            refine steps_cons (fun a w hk hn => ?_) ?_
            · have h9 : a.eval (.tmp 9) = .int .i64 k := hn.1
              have h24 : a.eval (.tmp 24) = .bool true := hn.2.1
              clear hn
              refine wants_guard (d := 24) rfl rfl h24 ?_
              exact grown_move (.tmp 9) rfl h9
            refine steps_cons (fun a w hk hn => ?_) ?_
            · have h26 : a.eval (.tmp 26) = .slice (some ⟨b', off, none⟩) N cg := hn.1
              have h27 : a.eval (.tmp 27) = .int .i64 k := hn.2.1
              have h24 : a.eval (.tmp 24) = .bool true := hn.2.2.1
              clear hn
              refine wants_guard (d := 24) rfl rfl h24 ?_
              refine grown_run (v := .pointer (some ⟨b', off + k * 4, none⟩)) ?_ (Kp.refl _ _) rfl
              obtain ⟨ρ, hρ, hc, hf, hg⟩ := eval_is a
              rw [hρ] at h26 h27 ⊢
              simp [go_sem, h26, h27, hlt2]
            refine steps_cons (fun a w hk hn => ?_) ?_
            · have h28 : a.eval (.tmp 28) = .pointer (some ⟨b', off + k * 4, none⟩) := hn.1
              have h24 : a.eval (.tmp 24) = .bool true := hn.2.1
              clear hn
              refine wants_guard (d := 24) rfl rfl h24 ?_
              refine grown_run (v := .pointer (some ⟨b', off + k * 4, none⟩)) ?_ (Kp.refl _ _) rfl
              obtain ⟨ρ, hρ, hc, hf, hg⟩ := eval_is a
              rw [hρ] at h28 ⊢
              simp [go_sem, h28]
            refine steps_cons (fun a w hk hn => ?_) ?_
            · have h29 : a.eval (.tmp 29) = .pointer (some ⟨b', off + k * 4, none⟩) := hn.1
              have h24 : a.eval (.tmp 24) = .bool true := hn.2.1
              clear hn
              refine wants_guard (d := 24) rfl rfl h24 ?_
              refine grown_run (v := .int .i64 kn) ?_ (Kp.refl _ _) rfl
              have hcell := unhide HX0 w hk
              obtain ⟨ρ, hρ, hc, hf, hg⟩ := eval_is a
              rw [hρ] at h29 ⊢
              simp [go_sem, h29, hcell]
            refine steps_cons (fun a w hk hn => ?_) ?_
            · have h25 : a.eval (.tmp 25) = .slice (some ⟨g7, 0, none⟩) 4 4 := hn.1
              have h30 : a.eval (.tmp 30) = .int .i64 kn := hn.2.1
              have h24 : a.eval (.tmp 24) = .bool true := hn.2.2.1
              clear hn
              refine wants_guard (d := 24) rfl rfl h24 ?_
              refine grown_run (v := .pointer (some ⟨g7, kn, none⟩)) ?_ (Kp.refl _ _) rfl
              obtain ⟨ρ, hρ, hc, hf, hg⟩ := eval_is a
              rw [hρ] at h25 h30 ⊢
              simp [go_sem, h25, h30, hkni]
            refine steps_cons (fun a w hk hn => ?_) ?_
            · have h31 : a.eval (.tmp 31) = .pointer (some ⟨g7, kn, none⟩) := hn.1
              have h24 : a.eval (.tmp 24) = .bool true := hn.2.1
              clear hn
              refine wants_guard (d := 24) rfl rfl h24 ?_
              refine grown_run (v := .bool true) ?_ (Kp.refl _ _) rfl
              have hcell := unhide HX7 w hk
              obtain ⟨ρ, hρ, hc, hf, hg⟩ := eval_is a
              rw [hρ] at h31 ⊢
              simp [go_sem, h31, hcell]
            refine steps_cons (fun a w hk hn => ?_) ?_
            · have h32 : a.eval (.tmp 32) = .bool true := hn.1
              have h24 : a.eval (.tmp 24) = .bool true := hn.2.1
              clear hn
              refine wants_guard (d := 24) rfl rfl h24 ?_
              refine grown_run (v := .bool false) ?_ (Kp.refl _ _) rfl
              obtain ⟨ρ, hρ, hc, hf, hg⟩ := eval_is a
              rw [hρ] at h32 ⊢
              simp [go_sem, h32]
            refine steps_cons (fun a w hk hn => ?_) ?_
            · have h24 : a.eval (.tmp 24) = .bool true := hn.1
              have h33 : a.eval (.tmp 33) = .bool false := hn.2.1
              clear hn
              refine wants_plain rfl ?_
              exact grown_pick _ _ _ true rfl h24 h33
            exact trivial
          intro W1 hkW1
          rintro _ rfl
          rintro _ rfl
          rintro _ rfl
          rintro _ rfl
          rintro _ rfl
          rintro _ rfl
          rintro _ rfl
          rintro _ rfl
          rintro _ rfl
          rintro _ rfl
          rintro _ rfl
          rintro _ rfl
          rintro _ rfl
          rintro _ rfl
          rintro _ rfl
          rintro _ rfl
          rintro _ rfl
          rintro _ rfl
          refine fin_nil ?_
          simp only [Act.put, List.set_cons_zero, List.set_cons_succ, List.setIfInBounds_toArray]
          have HR1 : Hid (cn = cntW p n r (l.take (k + 1)) ∧ W1.heap[g7]? = some (.cells (hasW p n r (l.take (k + 1))) 4 (0, 0))) := hide (by
            have hs : seenW p n r (l.take k) c.k = true := by rw [← unhide HCKE]; exact (unhide HBS).symm
            rw [unhide HTK, cntW_no (.inr hs), hasW_same (.inr hs)]
            exact ⟨unhide HCN, unhide HT7 W1 hkW1⟩)
          have HKr2 := hide (unhide HKD W1 hkW1)
          go_wp2_with fail
          go_roundw
          case rel => exact ⟨k + 1, by omega, by go_num, by rw [← (unhide HR1).1], (unhide HR1).2, unhide HKr2⟩
          case measure => simp [intOf]; omega
    · obtain rfl : k = N := by omega
      have hlt2 : ¬ (k : Int) < (k : Int) := by omega
      have hmm : Hid (m = cn) := hide (by rw [unhide HM, unhide HCN, unhide HN, List.take_length])
      clear HC
      go_wp2_with fail
      go_ret
      exact ⟨by rw [unhide hmm]; rfl, unhide HKw⟩
end Go.Proofs.YtdjofooggofpkaaDoor
