/-
  The contracts of the reference's Cosign and Policy.
-/
import Derived.Test.YtdjofooggofpkaaDoorKXRefB
import Derived.Test.YtdjofooggofpkaaDoorKYSpecs
import Derived.Test.YtdjofooggofpkaaDoorKXSmalls
import Derived.Test.YtdjofooggofpkaaDoorKRGrows
namespace Go.Proofs.YtdjofooggofpkaaDoor
open Go.RowKit
open Go.Proofs

theorem letW_nums : letW = nums ⟨#[98, 114, 111, 97, 100, 115, 104, 101, 101, 116, 32, 99, 111, 115, 105, 103, 110]⟩ := by decide
set_option maxRecDepth 100000 in
set_option maxHeartbeats 1000000 in
theorem rcosign_any (vc : Value) (n : Int) (r B : List Int) (hB : B = bodW n r) (w : World) (hC : CkV w vc n r) :
    Calls Tryd.prog 16 #[vc] w fun e w' => ∃ ao m c, e = .returned (.slice ao m c) ∧ Sl w' (.slice ao m c) B ∧ Kp [] w w' := by
  have HC := hide hC
  obtain ⟨a, m, c, rfl, -, -⟩ := hC
  obtain ⟨w1, hw1⟩ : ∃ w1, w1 = w.alloc (.cells #[.int .i64 n, .slice a m c] 27) := ⟨_, rfl⟩
  have K1 : Kp [] w w1 := by rw [hw1]; exact (Kp.refl [] w).alloc _
  have G1 : w1.heap[w.heap.size]? = some (.cells #[.int .i64 n, .slice a m c] 27 (0, 0)) := by rw [hw1]; exact heap_alloc_new w _
  have hl1 := load_whole (T := 27) G1 Tryd.underlying27 rfl Tryd.chkSize
  have HD := hide (refbody_any ⟨#[98, 114, 111, 97, 100, 115, 104, 101, 101, 116, 32, 99, 111, 115, 105, 103, 110]⟩ letW letW_nums (by decide) _ n r B hB w1 ((unhide HC).kept K1))
  rw [hw1] at hl1
  have HK1 := hide K1
  have HW1 := hide hw1
  clear hw1 K1 G1 hB
  go_enter Tryd.func16, Tryd.ntmps16
  go_wp2_with fail
  rw [← unhide HW1]
  refine (unhide HD).mono ?_
  rintro ee w2 ⟨a2, m2, c2, rfl, S2, K2⟩
  have HK2 := hide ((unhide HK1).trans K2)
  have HS2 := hide S2
  clear K2 S2 HD hl1
  go_wp2_with fail
  go_ret
  exact ⟨a2, m2, c2, rfl, unhide HS2, unhide HK2⟩

set_option maxRecDepth 100000 in
set_option maxHeartbeats 8000000 in
theorem rpolicy_any (v : Value) (p : Po) (b : Bool) (hb : b = p.rgt) (w : World) (hV : PoV w v p) :
    Calls Tryd.prog 24 #[v] w fun e w' => e = .returned (.bool b) ∧ Kp [] w w' := by
  obtain ⟨lg, ws, q⟩ := p
  obtain ⟨al, ml, cl, aw, mw, cw, l, rfl, ⟨hS, hBr⟩, hL, hws⟩ := hV
  simp only at hS hBr hws ⊢
  obtain ⟨w1, hw1⟩ : ∃ w1, w1 = w.alloc (.cells #[.slice al ml cl, .slice aw mw cw, .int .i64 q] 42) := ⟨_, rfl⟩
  obtain ⟨g1, hg1⟩ : ∃ g, g = w.heap.size := ⟨_, rfl⟩
  have K1 : Kp [] w w1 := by rw [hw1]; exact (Kp.refl [] w).alloc _
  have G1 : w1.heap[g1]? = some (.cells #[.slice al ml cl, .slice aw mw cw, .int .i64 q] 42 (0, 0)) := by rw [hw1, hg1]; exact heap_alloc_new w _
  have hmw : mw = l.length := by
    obtain ⟨_, _, e, _⟩ := hL.shape
    injection e
  have hwl : ws.length = mw := by rw [← hws, hmw]; simp
  have hml := sl_nlenf hS
  have hb2 : b = (decide ((ml : Int) = 32) && (decide ((mw : Int) ≤ 4) && (decide (1 ≤ q) && (decide (q ≤ (mw : Int)) && decide (keysK (l.map (·.2)) mw))))) := by
    rw [hb, hws]
    unfold Po.rgt
    simp only [hwl]
    have e1 : decide (mw ≤ 4) = decide ((mw : Int) ≤ 4) := decide_eq_decide.2 (by omega)
    have e2 : (lg.length == 32) = decide ((ml : Int) = 32) := by
      rw [hml, Bool.eq_iff_iff]
      simp only [beq_iff_eq, decide_eq_true_eq]
      omega
    rw [e1, e2]
  obtain ⟨aw', cw', ew', hll, hcell⟩ := hL.1
  injection ew' with e1 e2 e3
  subst e1
  rw [← hmw] at hll
  have HK1 := hide K1
  rw [hw1] at HK1
  have HB := hide hb2
  have HC0 := hide hcell
  have HMW := hide hmw
  have HG1 := hide G1
  have HW1 := hide hw1
  have HGG := hide hg1
  clear hb hb2 hS hBr hL hws hmw hwl hcell e2 e3 K1 G1 hml hw1 hg1
  by_cases h0 : ¬ (ml : Int) = 32
  · have HE : Hid (b = false) := hide (by rw [unhide HB]; simp [h0])
    clear HB
    go_enter Tryd.func24, Tryd.ntmps24
    go_wp2_with fail
    go_ret
    exact ⟨by rw [unhide HE]; rfl, unhide HK1⟩
  replace h0 : (ml : Int) = 32 := by omega
  by_cases h1 : (mw : Int) < 1
  · have HE : Hid (b = false) := hide (by rw [unhide HB]; (by_cases hq : 1 ≤ q <;> simp [hq] <;> intros <;> omega))
    clear HB
    go_enter Tryd.func24, Tryd.ntmps24
    go_wp2_with fail
    go_ret
    exact ⟨by rw [unhide HE]; rfl, unhide HK1⟩
  by_cases h2 : 4 < (mw : Int)
  · have HE : Hid (b = false) := hide (by rw [unhide HB]; simp; intros; omega)
    clear HB
    go_enter Tryd.func24, Tryd.ntmps24
    go_wp2_with fail
    go_ret
    exact ⟨by rw [unhide HE]; rfl, unhide HK1⟩
  by_cases h3 : q < 1
  · have HE : Hid (b = false) := hide (by rw [unhide HB]; simp; intros; omega)
    clear HB
    go_enter Tryd.func24, Tryd.ntmps24
    go_wp2_with fail
    go_ret
    exact ⟨by rw [unhide HE]; rfl, unhide HK1⟩
  by_cases h4 : (mw : Int) < q
  · have HE : Hid (b = false) := hide (by rw [unhide HB]; simp; intros; omega)
    clear HB
    go_enter Tryd.func24, Tryd.ntmps24
    go_wp2_with fail
    go_ret
    exact ⟨by rw [unhide HE]; rfl, unhide HK1⟩
  have HE : Hid (b = decide (keysK (l.map (·.2)) mw)) := hide (by rw [unhide HB]; simp [h0, show (mw : Int) ≤ 4 by omega, show 1 ≤ q by omega, show q ≤ (mw : Int) by omega])
  obtain ⟨bw, ow, rfl, -, -, -⟩ := unhide HC0 0 (by have := unhide HMW; omega)
  have HC : Hid (∀ i (h : i < l.length), w.cell? ⟨bw, ow + i, none⟩ = some (l[i]'h).1 ∧ Sl w (l[i]'h).1 (l[i]'h).2 ∧ Bs (l[i]'h).2) := hide (fun i h => by
    obtain ⟨b', o', e, h1, h2, h3⟩ := unhide HC0 i h
    injection e with e
    injection e with e4 e5
    subst e4
    subst e5
    exact ⟨h1, h2, h3⟩)
  have h32 : ml = 32 := by omega
  subst h32
  clear HB HC0 h0
  go_enter Tryd.func24, Tryd.ntmps24
  go_wp2_with fail
  rw [← unhide HW1, ← unhide HGG]
  go_loopw [4] (fun vi wr => ∃ i : Nat, i ≤ mw ∧ vi = .int .i64 i ∧ keysK (l.map (·.2)) i ∧ Kp [] w1 wr) (fun vi _ => mw - (intOf vi).toNat)
  case atStart => exact ⟨0, by omega, rfl, keysK_zero _, Kp.refl _ _⟩
  case round =>
    obtain ⟨ii, hi, rfl, hgood, hKr⟩ := hrel
    have HGood := hide hgood
    have K1 : Kp [] w w1 := by rw [unhide HW1]; exact unhide HK1
    have HKr := hide (K1.trans hKr)
    have HGr := hide (hKr.heap (unhide HG1) (by simp))
    have c1 : wr.cell? ⟨g1, 1, none⟩ = some (.slice (some ⟨bw, ow, none⟩) mw cw) := by rw [cell_of_row wr g1 1 _ _ _ (unhide HGr)]; rfl
    have HKo := hide hKr
    clear hgood hKr K1
    by_cases hlt : ii < mw
    · have hlti : (ii : Int) < (mw : Int) := by omega
      have hkl : ii < l.length := by have := unhide HMW; omega
      obtain ⟨hx, hSx, hBx⟩ := unhide HC ii hkl
      obtain ⟨xs, hxs⟩ : ∃ x, x = (l[ii]'hkl).2 := ⟨_, rfl⟩
      rw [← hxs] at hSx hBx
      have HSx := hide hSx
      obtain ⟨ax, cx, hxv, -⟩ := hSx
      obtain ⟨nx, hnx⟩ : ∃ k, k = xs.length := ⟨_, rfl⟩
      rw [← hnx] at hxv
      rw [hxv] at hx HSx
      have hgi : (l.map (·.2)).getD ii [] = xs := by simp [List.getD, hkl, hxs]
      have HGI := hide hgi
      have HNX := hide hnx
      have HXC0 := hide hx
      have hxr : wr.cell? ⟨bw, ow + ii, none⟩ = some (.slice ax nx cx) := (unhide HKr).cell hx (by simp)
      have HBx := hide hBx
      clear hxs hxv hnx hgi hx hBx
      by_cases h5 : ¬ (nx : Int) = 32
      · have hbb : Hid (b = false) := hide (by
          rw [unhide HE]
          exact decide_eq_false (keysK_len hlt (by rw [unhide HGI]; have := unhide HNX; omega)))
        clear HE
        go_wp2_with fail
        go_ret
        exact ⟨by rw [unhide hbb]; rfl, unhide HKr⟩
      obtain rfl : nx = 32 := by omega
      clear h5
      go_wp2_with fail
      obtain ⟨wo, hwo⟩ : ∃ wo, wo = wr := ⟨_, rfl⟩
      subst hwo
      go_loopw [5] (fun vj wr => ∃ j : Nat, j ≤ ii ∧ vj = .int .i64 j ∧ (∀ j', j' < j → (l.map (·.2)).getD j' [] ≠ xs) ∧ Kp [] wo wr) (fun vj _ => ii - (intOf vj).toNat)
      case atStart => exact ⟨0, by omega, rfl, (fun j' h => by omega), Kp.refl _ _⟩
      case round =>
        obtain ⟨jj, hj, rfl, hun, hKq⟩ := hrel
        have HUn := hide hun
        have HKq := hide hKq
        clear hun hKq
        by_cases hltj' : jj < ii
        · have hltji : (jj : Int) < (ii : Int) := by omega
          have hltj : (jj : Int) < (mw : Int) := by omega
          have hkj : jj < l.length := by omega
          obtain ⟨hy, hSy, hBy⟩ := unhide HC jj hkj
          obtain ⟨ys, hys⟩ : ∃ x, x = (l[jj]'hkj).2 := ⟨_, rfl⟩
          rw [← hys] at hSy hBy
          have HSy := hide hSy
          obtain ⟨ay, cy, hyv, -⟩ := hSy
          obtain ⟨ny, hny⟩ : ∃ k, k = ys.length := ⟨_, rfl⟩
          rw [← hny] at hyv
          rw [hyv] at hy HSy
          have hgj : (l.map (·.2)).getD jj [] = ys := by simp [List.getD, hkj, hys]
          have HGJ := hide hgj
          have HDR := hide (((unhide HKr).trans (unhide HKq)).trans (kp_drew wr))
          have HD : Hid (∀ w', Kp [] wr.drew w' → Kp [] w w') := fun w' k' => (unhide HDR).trans k'
          have HT1 : Hid (∀ w', Kp [] wr.drew w' → w'.heap[g1]? = some (.cells #[.slice al 32 cl, .slice (some ⟨bw, ow, none⟩) mw cw, .int .i64 q] 42 (0, 0))) := fun w' k' => (((unhide HKq).trans (kp_drew wr)).trans k').heap (unhide HGr) (by simp)
          have HXC : Hid (∀ w', Kp [] wr.drew w' → w'.cell? ⟨bw, ow + ii, none⟩ = some (.slice ax 32 cx)) := fun w' k' => (unhide HD w' k').cell (unhide HXC0) (by simp)
          have HYC : Hid (∀ w', Kp [] wr.drew w' → w'.cell? ⟨bw, ow + jj, none⟩ = some (.slice ay ny cy)) := fun w' k' => (unhide HD w' k').cell hy (by simp)
          have HXS : Hid (∀ w', Kp [] wr.drew w' → Sl w' (.slice ax 32 cx) xs) := fun w' k' => (unhide HSx).kept (unhide HD w' k') (by simp)
          have HYS : Hid (∀ w', Kp [] wr.drew w' → Sl w' (.slice ay ny cy) ys) := fun w' k' => (unhide HSy).kept (unhide HD w' k') (by simp)
          obtain ⟨S1, hS1⟩ : ∃ S, S = strOfNums xs := ⟨_, rfl⟩
          obtain ⟨S2, hS2⟩ : ∃ S, S = strOfNums ys := ⟨_, rfl⟩
          obtain ⟨bb, hbb⟩ : ∃ b, b = decide (xs = ys) := ⟨_, rfl⟩
          have hSS : (S1.toList == S2.toList) = bb := by rw [hS1, hS2, str_beq xs ys (unhide HBx) hBy, hbb]
          have HBB := hide hbb
          have HS1 := hide hS1
          have HS2 := hide hS2
          clear hys hyv hny hgj hy hS1 hS2 hbb hBy HSy
          go_wp2_with fail
          refine region_grow Tryd.mixed [Is (.pointer (some ⟨g1, 1, none⟩)), Is (.slice (some ⟨bw, ow, none⟩) mw cw), Is (.int .i64 ii), Is (.pointer (some ⟨bw, ow + ii, none⟩)), Is (.slice ax 32 cx), Is (.string S1), Is (.pointer (some ⟨g1, 1, none⟩)), Is (.slice (some ⟨bw, ow, none⟩) mw cw), Is (.int .i64 jj), Is (.pointer (some ⟨bw, ow + jj, none⟩)), Is (.slice ay ny cy), Is (.string S2), Is (.bool bb)] [[(1, none)], [(49, some 0)], [(4, none)], [(50, some 1), (51, some 2)], [(52, some 3)], [(53, some 4)], [(1, none)], [(55, some 6)], [(5, none)], [(56, some 7), (57, some 8)], [(58, some 9)], [(59, some 10)], [(54, some 5), (60, some 11)]] (by kernel_rfl) ?_ ?_ ?_
          · simp only [List.mem_cons, List.not_mem_nil, or_false]
            intro R hR
            rcases hR with rfl | rfl | rfl | rfl | rfl | rfl | rfl | rfl | rfl | rfl | rfl | rfl | rfl <;> first | exact stable_is _
          · refine steps_cons (fun a w hk hn => ?_) ?_
            · have h1 : a.eval (.tmp 1) = .pointer (some ⟨g1, 0, none⟩) := hn.1
              clear hn
              refine wants_plain rfl ?_
              refine grown_run (v := .pointer (some ⟨g1, 1, none⟩)) ?_ (Kp.refl _ _) rfl
              obtain ⟨ρ, hρ, hc, hf, hg⟩ := eval_is a
              rw [hρ] at h1 ⊢
              simp [go_sem, h1]
            refine steps_cons (fun a w hk hn => ?_) ?_
            · have h49 : a.eval (.tmp 49) = .pointer (some ⟨g1, 1, none⟩) := hn.1
              clear hn
              refine wants_plain rfl ?_
              refine grown_run (v := .slice (some ⟨bw, ow, none⟩) mw cw) ?_ (Kp.refl _ _) rfl
              have hcell : w.cell? ⟨g1, 1, none⟩ = some (.slice (some ⟨bw, ow, none⟩) mw cw) := by rw [cell_of_row w g1 1 _ _ _ (unhide HT1 w hk)]; rfl
              obtain ⟨ρ, hρ, hc, hf, hg⟩ := eval_is a
              rw [hρ] at h49 ⊢
              simp [go_sem, h49, hcell]
            refine steps_cons (fun a w hk hn => ?_) ?_
            · have h4 : a.eval (.tmp 4) = .int .i64 ii := hn.1
              clear hn
              refine wants_plain rfl ?_
              exact grown_move (.tmp 4) rfl h4
            refine steps_cons (fun a w hk hn => ?_) ?_
            · have h50 : a.eval (.tmp 50) = .slice (some ⟨bw, ow, none⟩) mw cw := hn.1
              have h51 : a.eval (.tmp 51) = .int .i64 ii := hn.2.1
              clear hn
              refine wants_plain rfl ?_
              refine grown_run (v := .pointer (some ⟨bw, ow + ii, none⟩)) ?_ (Kp.refl _ _) rfl
              obtain ⟨ρ, hρ, hc, hf, hg⟩ := eval_is a
              rw [hρ] at h50 h51 ⊢
              simp [go_sem, h50, h51, hlti]
            refine steps_cons (fun a w hk hn => ?_) ?_
            · have h52 : a.eval (.tmp 52) = .pointer (some ⟨bw, ow + ii, none⟩) := hn.1
              clear hn
              refine wants_plain rfl ?_
              refine grown_run (v := .slice ax 32 cx) ?_ (Kp.refl _ _) rfl
              have hcell := unhide HXC w hk
              obtain ⟨ρ, hρ, hc, hf, hg⟩ := eval_is a
              rw [hρ] at h52 ⊢
              simp [go_sem, h52, hcell]
            refine steps_cons (fun a w hk hn => ?_) ?_
            · have h53 : a.eval (.tmp 53) = .slice ax 32 cx := hn.1
              clear hn
              refine wants_plain rfl ?_
              exact grown_conv (.tmp 53) _ _ 5 (xs) rfl (by rw [h53]; exact unhide HXS w hk) Tryd.underlying24 Tryd.underlying5 Tryd.underlying9 (congrArg Value.string (unhide HS1).symm)
            refine steps_cons (fun a w hk hn => ?_) ?_
            · have h1 : a.eval (.tmp 1) = .pointer (some ⟨g1, 0, none⟩) := hn.1
              clear hn
              refine wants_plain rfl ?_
              refine grown_run (v := .pointer (some ⟨g1, 1, none⟩)) ?_ (Kp.refl _ _) rfl
              obtain ⟨ρ, hρ, hc, hf, hg⟩ := eval_is a
              rw [hρ] at h1 ⊢
              simp [go_sem, h1]
            refine steps_cons (fun a w hk hn => ?_) ?_
            · have h55 : a.eval (.tmp 55) = .pointer (some ⟨g1, 1, none⟩) := hn.1
              clear hn
              refine wants_plain rfl ?_
              refine grown_run (v := .slice (some ⟨bw, ow, none⟩) mw cw) ?_ (Kp.refl _ _) rfl
              have hcell : w.cell? ⟨g1, 1, none⟩ = some (.slice (some ⟨bw, ow, none⟩) mw cw) := by rw [cell_of_row w g1 1 _ _ _ (unhide HT1 w hk)]; rfl
              obtain ⟨ρ, hρ, hc, hf, hg⟩ := eval_is a
              rw [hρ] at h55 ⊢
              simp [go_sem, h55, hcell]
            refine steps_cons (fun a w hk hn => ?_) ?_
            · have h5 : a.eval (.tmp 5) = .int .i64 jj := hn.1
              clear hn
              refine wants_plain rfl ?_
              exact grown_move (.tmp 5) rfl h5
            refine steps_cons (fun a w hk hn => ?_) ?_
            · have h56 : a.eval (.tmp 56) = .slice (some ⟨bw, ow, none⟩) mw cw := hn.1
              have h57 : a.eval (.tmp 57) = .int .i64 jj := hn.2.1
              clear hn
              refine wants_plain rfl ?_
              refine grown_run (v := .pointer (some ⟨bw, ow + jj, none⟩)) ?_ (Kp.refl _ _) rfl
              obtain ⟨ρ, hρ, hc, hf, hg⟩ := eval_is a
              rw [hρ] at h56 h57 ⊢
              simp [go_sem, h56, h57, hltj]
            refine steps_cons (fun a w hk hn => ?_) ?_
            · have h58 : a.eval (.tmp 58) = .pointer (some ⟨bw, ow + jj, none⟩) := hn.1
              clear hn
              refine wants_plain rfl ?_
              refine grown_run (v := .slice ay ny cy) ?_ (Kp.refl _ _) rfl
              have hcell := unhide HYC w hk
              obtain ⟨ρ, hρ, hc, hf, hg⟩ := eval_is a
              rw [hρ] at h58 ⊢
              simp [go_sem, h58, hcell]
            refine steps_cons (fun a w hk hn => ?_) ?_
            · have h59 : a.eval (.tmp 59) = .slice ay ny cy := hn.1
              clear hn
              refine wants_plain rfl ?_
              exact grown_conv (.tmp 59) _ _ 5 (ys) rfl (by rw [h59]; exact unhide HYS w hk) Tryd.underlying24 Tryd.underlying5 Tryd.underlying9 (congrArg Value.string (unhide HS2).symm)
            refine steps_cons (fun a w hk hn => ?_) ?_
            · have h54 : a.eval (.tmp 54) = .string S1 := hn.1
              have h60 : a.eval (.tmp 60) = .string S2 := hn.2.1
              clear hn
              refine wants_plain rfl ?_
              refine grown_run (v := .bool bb) ?_ (Kp.refl _ _) rfl
              obtain ⟨ρ, hρ, hc, hf, hg⟩ := eval_is a
              rw [hρ] at h54 h60 ⊢
              simp [go_sem, h54, h60, hSS]
            exact trivial
          intro W1 hkW1
          rintro _ rfl
          rintro _ rfl
          rintro _ rfl
          rintro _ rfl
          rintro _ rfl
          rintro _ rfl
          rintro _ rfl
          rintro _ rfl
          rintro _ rfl
          rintro _ rfl
          rintro _ rfl
          rintro _ rfl
          rintro _ rfl
          refine fin_nil ?_
          simp only [Act.put, List.set_cons_zero, List.set_cons_succ, List.setIfInBounds_toArray]
          cases bb
          · go_wp2_with fail
            go_roundw
            case rel =>
              refine ⟨jj + 1, by omega, by go_num, fun j' hj' => ?_, ((unhide HKq).trans (kp_drew wr)).trans hkW1⟩
              rcases Nat.lt_or_ge j' jj with h | h
              · exact unhide HUn j' h
              · obtain rfl : j' = jj := by omega
                rw [unhide HGJ]
                exact fun e => of_decide_eq_false (unhide HBB).symm e.symm
            case measure => simp [intOf]; omega
          · have hbb : Hid (b = false) := hide (by
              rw [unhide HE]
              exact decide_eq_false (keysK_two hlt hltj' (by rw [unhide HGI, unhide HGJ]; exact (of_decide_eq_true (unhide HBB).symm).symm)))
            clear HE
            go_wp2_with fail
            go_ret
            exact ⟨by rw [unhide hbb]; rfl, unhide HD W1 hkW1⟩
        · obtain rfl : jj = ii := by omega
          have hltj2 : ¬ (jj : Int) < (jj : Int) := by omega
          have HKo2 := hide ((unhide HKo).trans (unhide HKq))
          clear HKo
          go_wp2_with fail
          go_roundw
          case rel => exact ⟨jj + 1, by omega, by go_num, keysK_succ (unhide HGood) (by rw [unhide HGI]; exact (unhide HNX).symm) (fun j hj => by rw [unhide HGI]; exact unhide HUn j hj), unhide HKo2⟩
          case measure => simp [intOf]; omega
    · obtain rfl : ii = mw := by omega
      have hlt2 : ¬ (ii : Int) < (ii : Int) := by omega
      have hbb : Hid (b = true) := hide (by rw [unhide HE]; exact decide_eq_true (unhide HGood))
      clear HE
      go_wp2_with fail
      go_ret
      exact ⟨by rw [unhide hbb]; rfl, unhide HKr⟩
end Go.Proofs.YtdjofooggofpkaaDoor
