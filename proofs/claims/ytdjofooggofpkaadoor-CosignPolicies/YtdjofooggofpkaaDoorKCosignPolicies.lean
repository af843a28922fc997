/-
  The statement CosignPoliciesCardSaid: for all lists of keys, bytes, numbers and both bools the law function CosignPolicies returns true and leaves its arguments as they were; the table hash.roundWords starts as the program's text lays it (tied). No other condition.
-/
import Derived.Test.YtdjofooggofpkaaDoorKYKnown
import Derived.Test.YtdjofooggofpkaaDoorKYRefP
import Derived.Test.YtdjofooggofpkaaDoorKYSized
import Derived.Test.YtdjofooggofpkaaDoorKHSmalls
import Derived.Test.YtdjofooggofpkaaDoorTie
import Derived.Test.YtdjofooggofpkaaDoorCards
import Derived.SevenTiedAt
namespace Go.Proofs.YtdjofooggofpkaaDoor.cosignPolicies
open Go.ChangeShapes Go.WideShapes Go.ChangeAt Go.RowKit
open Go.Proofs.YtdjofooggofpkaaDoor
set_option linter.unusedVariables false

theorem ar_lc {B : Nat} {ls : List (List Int)} {ao : Option Addr} {m c : Nat} {w : World} (h : ARt B ls (.slice ao m c) w) (hl : ls.length ≤ 1000) : ∃ l, Lc w (.slice ao m c) l ∧ l.map (·.2) = ls := by
  obtain ⟨a', m', c', l, e, h1, h2⟩ := h
  cases e
  exact ⟨l, lc_of_owns h1.1 (h1.lists (by rw [← List.length_map (f := (·.2)), h2]; exact hl)), h2⟩
/-- while keys are gathered: the policy at g, its log, its keys. -/
def Pl (B g : Nat) (q : Int) (lg : List Int) (al : Option Addr) (ml cl : Nat) (n : Nat) (wr : World) : Prop :=
  ∃ ls aw mw cw, ls.length = n ∧ wr.heap[g]? = some (.cells #[.slice al ml cl, .slice aw mw cw, .int .i64 q] 42 (0, 0)) ∧ ARt B ls (.slice aw mw cw) wr
theorem bs_one (k : Nat) (h0 : 0 ≤ (k : Int)) (h : (k : Int) ≤ 255) : Bs [(k : Int)] := fun b hb => by
  have : b = k := by simpa using hb
  omega
theorem one_new {w : World} {B : Nat} {bs : List Int} {ao : Option Addr} {m c : Nat} (h : RtT B bs (.slice ao m c) w) : OneT B bs (.slice (some ⟨w.heap.size, 0, none⟩) 1 1) (w.alloc (.cells #[.slice ao m c] 24)) :=
  ⟨w.heap.size, _, rfl, by rw [cell_of_row _ _ 0 _ _ _ (heap_alloc_new w _)]; rfl, stable_rt B bs _ _ _ ((Kp.refl [] w).alloc _) h⟩

set_option maxRecDepth 100000 in
set_option maxHeartbeats 16000000 in
theorem walk (vk : Value) (lk : List (Value × List Int)) (vl : Value) (lg0 : List Int) (xq : Int) (tw sz : Bool) (w : World) (hG : Gl w) (hK : Lists w vk lk) (hL : Sl w vl lg0) (hLB : Bs lg0) (hq : -9223372036854775808 ≤ xq ∧ xq ≤ 9223372036854775807) :
    Calls Tryd.prog 6 #[vk, vl, .int .i64 xq, .bool tw, .bool sz] w fun e w' => e = .returned (.bool true) ∧ Below w.heap.size w w' := by
  have HG := hide hG
  have HL := hide hL
  have HLB := hide hLB
  obtain ⟨ag, cg, rfl, -⟩ := hL
  obtain ⟨ng, hng⟩ : ∃ n, n = lg0.length := ⟨_, rfl⟩
  rw [← hng] at HL ⊢
  obtain ⟨ak, ck, rfl, hkl, hcell⟩ := hK
  obtain ⟨nk, hnk⟩ : ∃ n, n = lk.length := ⟨_, rfl⟩
  rw [← hnk] at hkl ⊢
  have HNK := hide hnk
  have HC := hide hcell
  have HCut := hide (cut_any (.slice ag ng cg) lg0 40 w (unhide HL))
  have HWi := hide (fun w => within_wi xq 0 5 w (by omega) (by omega) (by omega))
  clear hG hLB hng hnk hcell hq
  go_enter Tryd.func6, Tryd.ntmps6
  go_wp2_with fail
  refine (unhide HCut).mono ?_
  rintro ee w1 ⟨al, cl, rfl, hcut, hw1⟩
  subst w1
  obtain ⟨ml, hml⟩ : ∃ n, n = (lg0.take 40).length := ⟨_, rfl⟩
  rw [← hml] at hcut ⊢
  have HS1 := hide (hcut w (unhide HL))
  have Ga := heap_alloc_new w (.cells #[.slice none 0 0, .slice none 0 0, .int .i64 0] 42)
  have HKa : Hid (Kp [] w (w.alloc (.cells #[.slice none 0 0, .slice none 0 0, .int .i64 0] 42))) := (Kp.refl [] w).alloc _
  clear HCut hcut hml
  go_wp2_with (refine wpList_store_flat rfl 42 (.tmp 11) (.tmp 17) rfl w.heap.size 0 rfl _ _ [.slice al ml cl, .slice none 0 0, .int .i64 xq] Ga rfl (by simp) Tryd.polSize (by simp [Value.oneCell']) #[.slice al ml cl, .slice none 0 0, .int .i64 xq] rfl ?_; intro w3 G3 K3; refine Hid.out ?_)
  obtain ⟨g11, hg11⟩ : ∃ g, g = w.heap.size := ⟨_, rfl⟩
  have K03 : Kp [] w w3 := (unhide HKa).then K3 (fun i hi => .inr (by simp at hi; omega))
  rw [← hg11] at G3 ⊢
  have HK3 := hide K03
  have HG3 := hide G3
  have H11 := hide hg11
  have HS3 := hide ((unhide HS1).kept K03 (by simp))
  have hlo : ∀ i, (Value.slice al ml cl).ownBlock = some i → (lg0.take 40) = [] ∨ i < g11 := fun i hi => by
    by_cases h : lg0.take 40 = []
    · exact .inl h
    · rw [hg11]; exact .inr ((unhide HS1).lt h i hi)
  have HLO := hide hlo
  clear Ga HKa G3 K3 K03 hg11 HS1 hlo
  refine hide ?_
  cases sz
  · obtain ⟨w4, hw4⟩ : ∃ x, x = w3 := ⟨_, rfl⟩
    obtain ⟨q, hq⟩ : ∃ x, x = xq := ⟨_, rfl⟩
    obtain ⟨lg, hlg⟩ : ∃ l, l = lg0.take 40 := ⟨_, rfl⟩
    rw [← hw4, ← hq]
    have G4 : w4.heap[g11]? = some (.cells #[.slice al ml cl, .slice none 0 0, .int .i64 q] 42 (0, 0)) := by rw [hw4, hq]; exact unhide HG3
    have K4 : Kp [] w w4 := by rw [hw4]; exact unhide HK3
    have hLgB : Bs lg := by rw [hlg]; exact (unhide HLB).take 40
    have hS4 : Sl w4 (.slice al ml cl) lg := by rw [hw4, hlg]; exact unhide HS3
    have hLA : ∀ i, (Value.slice al ml cl).ownBlock = some i → lg = [] ∨ (i ≠ g11 ∧ i < w4.heap.size) := fun i hi => by
      rw [hlg]
      rcases unhide HLO i hi with h | h
      · exact .inl h
      · refine .inr ⟨by omega, ?_⟩
        have := lt_of_block G4
        omega
    clear hlg hq hw4
    have HGr0 := hide G4
    have HK4 := hide K4
    have HLgB := hide hLgB
    have HS4 := hide hS4
    have HLA := hide hLA
    have h114 : g11 < w4.heap.size := lt_of_block G4
    have HI : Hid (Pl w4.heap.size g11 q lg al ml cl 0 w4) := ⟨[], none, 0, 0, rfl, G4, (AccR.nil w4).ar (Nat.le_refl _)⟩
    clear G4 K4 hLgB hS4 hLA
    go_wp2_with fail
    skip
    go_loopw [12, 13] (fun vi _ wr => ∃ k : Nat, k ≤ 6 ∧ k ≤ nk ∧ vi = .int .i64 k ∧ Pl w4.heap.size g11 q lg al ml cl k wr ∧ Kp [g11] w4 wr) (fun vi _ _ => 6 - (intOf vi).toNat)
    case atStart => exact ⟨0, by omega, by omega, rfl, unhide HI, Kp.refl _ _⟩
    case round =>
      clear HI
      obtain ⟨k, hk6, hkn, rfl, ⟨ls, aw, mw, cw, hls, hGr, hA⟩, hKr⟩ := hrel
      have HLS := hide hls
      have HGr := hide hGr
      have HA := hide hA
      have HKr := hide hKr
      have h11w : w.heap.size ≤ g11 := by have := unhide H11; omega
      have HKw : Hid (Kp [] w wr) := (unhide HK4).then hKr (fun i hi => .inr (by simp at hi; omega))
      have HSr : Hid (Sl wr (.slice al ml cl) lg) := hide (Sl.apart (unhide HS4) hKr (fun i hi hm => by
        have e : i = g11 := by simpa using hm
        rcases unhide HLA i hi with h | h
        · exact h
        · omega))
      have hlsk : ls.length ≤ 6 := by omega
      clear hls hGr hA hKr
      by_cases hlt : k < nk
      · have hlti : (k : Int) < (nk : Int) := by omega
        by_cases hl6 : k < 6
        · have hl6i : (k : Int) < 6 := by omega
          have hkl : k < lk.length := by have := unhide HNK; omega
          obtain ⟨bk, ok, rfl, hck, hSk, hBk⟩ := unhide HC k hkl
          obtain ⟨x, hx⟩ : ∃ x, x = lk[k]'hkl := ⟨_, rfl⟩
          rw [← hx] at hck hSk hBk
          have HSk := hide hSk
          have HBk := hide hBk
          have HCt := hide (cut_any x.1 x.2 40 wr (hSk.kept (unhide HKw) (by simp)))
          obtain ⟨ax, cx, hxv, -⟩ := hSk
          obtain ⟨nx, hnx⟩ : ∃ n, n = x.2.length := ⟨_, rfl⟩
          rw [← hnx] at hxv
          rw [hxv] at hck HSk HCt
          have hckr := (unhide HKw).cell hck (by simp)
          clear hxv hnx hx hck hBk HC
          go_wp2_with fail
          refine (unhide HCt).mono ?_
          rintro ee wx ⟨ay, cy, rfl, hcut, hwx⟩
          subst wx
          obtain ⟨ny, hny⟩ : ∃ n, n = (x.2.take 40).length := ⟨_, rfl⟩
          rw [← hny] at hcut ⊢
          have HSy := hide (hcut w (unhide HSk))
          clear HCt hcut hny hckr
          have HRt : Hid (RtT w4.heap.size (x.2.take 40) (.slice ay ny cy) wr) := ⟨ay, ny, cy, rfl, (unhide HSy).kept (unhide HKw) (by simp), ap_old (unhide HSy) (unhide HK4).size⟩
          have HBt : Hid (Bs (x.2.take 40)) := (unhide HBk).take 40
          have HKx : Hid (Kp [] wr wr) := Kp.refl _ _
          have HGx := hide ((unhide HKx).heap (unhide HGr) (by simp))
          have c1 : wr.cell? ⟨g11, 1, none⟩ = some (.slice aw mw cw) := by rw [cell_of_row wr g11 1 _ _ _ (unhide HGx)]; rfl
          have KA : Kp [] wr (wr.alloc (.cells #[.slice ay ny cy] 24)) := (Kp.refl [] wr).alloc _
          have HAW : ARt w4.heap.size ls (.slice aw mw cw) (wr.alloc (.cells #[.slice ay ny cy] 24)) := stable_ar _ _ _ _ _ ((unhide HKx).trans KA) (unhide HA)
          have HOn := one_new (unhide HRt)
          have hz1 : w4.heap.size ≤ (wr.alloc (.cells #[.slice ay ny cy] 24)).heap.size := Nat.le_trans (unhide HKr).size (Nat.le_trans (unhide HKx).size KA.size)
          have GA := KA.heap (unhide HGx) (by simp)
          have HKA : Hid (Kp [g11] w4 (wr.alloc (.cells #[.slice ay ny cy] 24))) := (unhide HKr).trans (((unhide HKx).trans KA).mono (by simp))
          clear KA
          go_wp2_with (at_builtin; refine wpList_accpB rfl (.tmp 48) (.tmp 50) rfl (.slice aw mw cw) _ rfl rfl ls w4.heap.size HAW (by omega) (x.2.take 40) HOn (unhide HBt) hz1 ?_; intro a5 m5 c5 w7 A5 S5; refine Hid.out ?_)
          have hne : g11 ∉ (Value.slice aw mw cw).ownBlock.toList := fun hm => by
            obtain ⟨a', m', c', l', e', h1, _⟩ := HAW
            have := h1.1.own g11 (by rw [← e']; simpa using hm)
            omega
          have G5 := S5.1.heap GA hne
          have c5w : w7.cell? ⟨g11, 1, none⟩ = some (.slice aw mw cw) := by rw [cell_of_row w7 g11 1 _ _ _ G5]; rfl
          have f5w : w7.frozen? ⟨g11, 1, none⟩ = false := frozen_of_row w7 g11 1 _ _ G5
          have K35 : Kp [g11] w4 w7 := (unhide HKA).then S5.1 (fun i hi => .inr (by
            obtain ⟨a', m', c', l', e', h1, _⟩ := HAW
            exact h1.1.own i (by rw [← e']; simpa using hi)))
          have HNEXT : Hid (Pl w4.heap.size g11 q lg al ml cl (k + 1) (w7.setCell ⟨g11, 1, none⟩ (.slice a5 m5 c5)) ∧ Kp [g11] w4 (w7.setCell ⟨g11, 1, none⟩ (.slice a5 m5 c5))) := by
            refine ⟨⟨ls ++ [(x.2.take 40)], a5, m5, c5, by have := unhide HLS; simp; omega, ?_, ar_off A5 G5 (setCell_kp w7 g11 1 _) (by omega)⟩, K35.setCell (p := ⟨g11, 1, none⟩) (.inl (by simp)) _⟩
            have := heap_setCell_same w7 g11 1 _ _ (.slice a5 m5 c5) G5
            simpa using this
          clear K35 G5 hne A5 S5 HAW HOn hz1 GA HKA c1 HGx HKx HRt HBt
          refine hide ?_
          go_wp2_with fail
          go_roundw
          case rel => exact ⟨k + 1, by omega, by omega, by go_num, (unhide HNEXT).1, (unhide HNEXT).2⟩
          case measure => simp [intOf]; omega
        · have hl6i : ¬ (k : Int) < 6 := by omega
          obtain ⟨lc, hLc, hlc⟩ := ar_lc (unhide HA) (by omega)
          have hmw : mw = lc.length := by
            obtain ⟨_, _, e, _⟩ := hLc.shape
            injection e
          have c1 : wr.cell? ⟨g11, 1, none⟩ = some (.slice aw mw cw) := by rw [cell_of_row wr g11 1 _ _ _ (unhide HGr)]; rfl
          have hmk : mw = k := by rw [hmw, ← unhide HLS, ← hlc]; simp
          have HPV : Hid (PoV wr (.agg #[.slice al ml cl, .slice aw mw cw, .int .i64 q]) ⟨lg, ls, q⟩) := ⟨al, ml, cl, aw, mw, cw, lc, rfl, ⟨unhide HSr, unhide HLgB⟩, hLc, hlc⟩
          have HMK := hide hmk
          clear hLc hlc hmw hmk
          cases tw
          · skip
            have HKF := hide (unhide HKw)
            have HGF := hide (unhide HGr)
            obtain ⟨pp, hpp⟩ : ∃ p : Po, p = ⟨lg, ls, q⟩ := ⟨_, rfl⟩
            have HPF : Hid (PoV wr (.agg #[.slice al ml cl, .slice aw mw cw, .int .i64 q]) pp) := hide (by rw [hpp]; exact unhide HPV)
            clear hpp
            have HKD : Hid (∀ w', Kp [] wr.drew w' → Kp [] w w') := fun w' k' => (unhide HKF).trans ((kp_drew wr).trans k')
            have HU11 : Hid (∀ w', Kp [] wr.drew w' → w'.heap[g11]? = some (.cells #[.slice al ml cl, .slice aw mw cw, .int .i64 q] 42 (0, 0))) := fun w' k' => ((kp_drew wr).trans k').heap (unhide HGF) (by simp)
            have HPO : Hid (∀ w', Kp [] wr.drew w' → PoV w' (.agg #[.slice al ml cl, .slice aw mw cw, .int .i64 q]) pp) := fun w' k' => (unhide HPF).kept ((kp_drew wr).trans k')
            have HGW : Hid (∀ w', Kp [] wr.drew w' → Gl w') := fun w' k' => (unhide HG).kept (unhide HKD w' k') (by simp)
            obtain ⟨bb, hbb⟩ : ∃ b, b = pp.rgt := ⟨_, rfl⟩
            have HBB := hide hbb
            clear hbb
            go_wp2_with fail
            refine region_grow Tryd.mixed [Is (.agg #[.slice al ml cl, .slice aw mw cw, .int .i64 q]), Is (.bool bb), Is (.agg #[.slice al ml cl, .slice aw mw cw, .int .i64 q]), Is (.bool bb), Is (.bool true), Is (.bool true), Is (.bool true), Is (.bool true), Is (.bool true)] [[(11, none)], [(71, some 0)], [(11, none)], [(73, some 2)], [(72, some 1), (74, some 3)], [(75, some 4)], [(76, some 5)], [(76, some 5), (77, some 6)], [(78, some 7)]] (by kernel_rfl) ?_ ?_ ?_
            · simp only [List.mem_cons, List.not_mem_nil, or_false]
              intro R hR
              rcases hR with rfl | rfl | rfl | rfl | rfl | rfl | rfl | rfl | rfl <;> first | exact stable_is _
            · refine steps_cons (fun a w hk hn => ?_) ?_
              · have h11 : a.eval (.tmp 11) = .pointer (some ⟨g11, 0, none⟩) := hn.1
                clear hn
                refine wants_plain rfl ?_
                exact grown_loadf 42 (.tmp 11) rfl g11 0 h11 _ _ _ _ (unhide HU11 w hk) [.slice al ml cl, .slice aw mw cw, .int .i64 q] (flat_in rfl) Tryd.underlying42 rfl Tryd.polSize rfl
              refine steps_cons (fun a w hk hn => ?_) ?_
              · have h71 : a.eval (.tmp 71) = .agg #[.slice al ml cl, .slice aw mw cw, .int .i64 q] := hn.1
                clear hn
                refine wants_plain rfl ?_
                refine grown_call (f := 12) rfl Tryd.func12 (by kernel_rfl) (by kernel_rfl) ?_
                simp only [List.map_toArray, List.map_cons, List.map_nil, h71]
                refine (cright_any _ pp bb (unhide HBB) w (unhide HPO w hk)).mono ?_
                rintro e w' ⟨rfl, K⟩
                exact ⟨_, rfl, K, rfl⟩
              refine steps_cons (fun a w hk hn => ?_) ?_
              · have h11 : a.eval (.tmp 11) = .pointer (some ⟨g11, 0, none⟩) := hn.1
                clear hn
                refine wants_plain rfl ?_
                exact grown_loadf 42 (.tmp 11) rfl g11 0 h11 _ _ _ _ (unhide HU11 w hk) [.slice al ml cl, .slice aw mw cw, .int .i64 q] (flat_in rfl) Tryd.underlying42 rfl Tryd.polSize rfl
              refine steps_cons (fun a w hk hn => ?_) ?_
              · have h73 : a.eval (.tmp 73) = .agg #[.slice al ml cl, .slice aw mw cw, .int .i64 q] := hn.1
                clear hn
                refine wants_plain rfl ?_
                refine grown_call (f := 24) rfl Tryd.func24 (by kernel_rfl) (by kernel_rfl) ?_
                simp only [List.map_toArray, List.map_cons, List.map_nil, h73]
                refine (rpolicy_any _ pp bb (unhide HBB) w (unhide HPO w hk)).mono ?_
                rintro e w' ⟨rfl, K⟩
                exact ⟨_, rfl, K, rfl⟩
              refine steps_cons (fun a w hk hn => ?_) ?_
              · have h72 : a.eval (.tmp 72) = .bool bb := hn.1
                have h74 : a.eval (.tmp 74) = .bool bb := hn.2.1
                clear hn
                refine wants_plain rfl ?_
                refine grown_run (v := .bool true) ?_ (Kp.refl _ _) rfl
                obtain ⟨ρ, hρ, hc, hf, hg⟩ := eval_is a
                rw [hρ] at h72 h74 ⊢
                simp [go_sem, h72, h74]
              refine steps_cons (fun a w hk hn => ?_) ?_
              · have h75 : a.eval (.tmp 75) = .bool true := hn.1
                clear hn
                refine wants_plain rfl ?_
                exact grown_move (.tmp 75) rfl h75
              refine steps_cons (fun a w hk hn => ?_) ?_
              · have h76 : a.eval (.tmp 76) = .bool true := hn.1
                clear hn
                refine wants_guard (d := 76) rfl rfl h76 ?_
                refine grown_call (f := 17) rfl Tryd.func17 (by kernel_rfl) (by kernel_rfl) ?_
                simp only [List.map_toArray, List.map_nil]
                refine (known_any w (unhide HGW w hk)).mono ?_
                rintro e w' ⟨rfl, K⟩
                exact ⟨_, rfl, K, rfl⟩
              refine steps_cons (fun a w hk hn => ?_) ?_
              · have h76 : a.eval (.tmp 76) = .bool true := hn.1
                have h77 : a.eval (.tmp 77) = .bool true := hn.2.1
                clear hn
                refine wants_plain rfl ?_
                exact grown_pick _ _ _ true rfl h76 h77
              refine steps_cons (fun a w hk hn => ?_) ?_
              · have h78 : a.eval (.tmp 78) = .bool true := hn.1
                clear hn
                refine wants_plain rfl ?_
                exact grown_assign (.tmp 78) rfl h78
              exact trivial
            intro W2 hkW2
            rintro _ rfl
            rintro _ rfl
            rintro _ rfl
            rintro _ rfl
            rintro _ rfl
            rintro _ rfl
            rintro _ rfl
            rintro _ rfl
            rintro _ rfl
            refine fin_nil ?_
            simp only [Act.put, List.set_cons_zero, List.set_cons_succ, List.setIfInBounds_toArray]
            go_wp2_with fail
            go_ret
            exact ⟨rfl, (unhide HKD W2 hkW2).below (Nat.le_refl _) (by simp)⟩
          · by_cases h1 : ¬ 1 < (mw : Int)
            · skip
              have HKF := hide (unhide HKw)
              have HGF := hide (unhide HGr)
              obtain ⟨pp, hpp⟩ : ∃ p : Po, p = ⟨lg, ls, q⟩ := ⟨_, rfl⟩
              have HPF : Hid (PoV wr (.agg #[.slice al ml cl, .slice aw mw cw, .int .i64 q]) pp) := hide (by rw [hpp]; exact unhide HPV)
              clear hpp
              have HKD : Hid (∀ w', Kp [] wr.drew w' → Kp [] w w') := fun w' k' => (unhide HKF).trans ((kp_drew wr).trans k')
              have HU11 : Hid (∀ w', Kp [] wr.drew w' → w'.heap[g11]? = some (.cells #[.slice al ml cl, .slice aw mw cw, .int .i64 q] 42 (0, 0))) := fun w' k' => ((kp_drew wr).trans k').heap (unhide HGF) (by simp)
              have HPO : Hid (∀ w', Kp [] wr.drew w' → PoV w' (.agg #[.slice al ml cl, .slice aw mw cw, .int .i64 q]) pp) := fun w' k' => (unhide HPF).kept ((kp_drew wr).trans k')
              have HGW : Hid (∀ w', Kp [] wr.drew w' → Gl w') := fun w' k' => (unhide HG).kept (unhide HKD w' k') (by simp)
              obtain ⟨bb, hbb⟩ : ∃ b, b = pp.rgt := ⟨_, rfl⟩
              have HBB := hide hbb
              clear hbb
              go_wp2_with fail
              refine region_grow Tryd.mixed [Is (.agg #[.slice al ml cl, .slice aw mw cw, .int .i64 q]), Is (.bool bb), Is (.agg #[.slice al ml cl, .slice aw mw cw, .int .i64 q]), Is (.bool bb), Is (.bool true), Is (.bool true), Is (.bool true), Is (.bool true), Is (.bool true)] [[(11, none)], [(71, some 0)], [(11, none)], [(73, some 2)], [(72, some 1), (74, some 3)], [(75, some 4)], [(76, some 5)], [(76, some 5), (77, some 6)], [(78, some 7)]] (by kernel_rfl) ?_ ?_ ?_
              · simp only [List.mem_cons, List.not_mem_nil, or_false]
                intro R hR
                rcases hR with rfl | rfl | rfl | rfl | rfl | rfl | rfl | rfl | rfl <;> first | exact stable_is _
              · refine steps_cons (fun a w hk hn => ?_) ?_
                · have h11 : a.eval (.tmp 11) = .pointer (some ⟨g11, 0, none⟩) := hn.1
                  clear hn
                  refine wants_plain rfl ?_
                  exact grown_loadf 42 (.tmp 11) rfl g11 0 h11 _ _ _ _ (unhide HU11 w hk) [.slice al ml cl, .slice aw mw cw, .int .i64 q] (flat_in rfl) Tryd.underlying42 rfl Tryd.polSize rfl
                refine steps_cons (fun a w hk hn => ?_) ?_
                · have h71 : a.eval (.tmp 71) = .agg #[.slice al ml cl, .slice aw mw cw, .int .i64 q] := hn.1
                  clear hn
                  refine wants_plain rfl ?_
                  refine grown_call (f := 12) rfl Tryd.func12 (by kernel_rfl) (by kernel_rfl) ?_
                  simp only [List.map_toArray, List.map_cons, List.map_nil, h71]
                  refine (cright_any _ pp bb (unhide HBB) w (unhide HPO w hk)).mono ?_
                  rintro e w' ⟨rfl, K⟩
                  exact ⟨_, rfl, K, rfl⟩
                refine steps_cons (fun a w hk hn => ?_) ?_
                · have h11 : a.eval (.tmp 11) = .pointer (some ⟨g11, 0, none⟩) := hn.1
                  clear hn
                  refine wants_plain rfl ?_
                  exact grown_loadf 42 (.tmp 11) rfl g11 0 h11 _ _ _ _ (unhide HU11 w hk) [.slice al ml cl, .slice aw mw cw, .int .i64 q] (flat_in rfl) Tryd.underlying42 rfl Tryd.polSize rfl
                refine steps_cons (fun a w hk hn => ?_) ?_
                · have h73 : a.eval (.tmp 73) = .agg #[.slice al ml cl, .slice aw mw cw, .int .i64 q] := hn.1
                  clear hn
                  refine wants_plain rfl ?_
                  refine grown_call (f := 24) rfl Tryd.func24 (by kernel_rfl) (by kernel_rfl) ?_
                  simp only [List.map_toArray, List.map_cons, List.map_nil, h73]
                  refine (rpolicy_any _ pp bb (unhide HBB) w (unhide HPO w hk)).mono ?_
                  rintro e w' ⟨rfl, K⟩
                  exact ⟨_, rfl, K, rfl⟩
                refine steps_cons (fun a w hk hn => ?_) ?_
                · have h72 : a.eval (.tmp 72) = .bool bb := hn.1
                  have h74 : a.eval (.tmp 74) = .bool bb := hn.2.1
                  clear hn
                  refine wants_plain rfl ?_
                  refine grown_run (v := .bool true) ?_ (Kp.refl _ _) rfl
                  obtain ⟨ρ, hρ, hc, hf, hg⟩ := eval_is a
                  rw [hρ] at h72 h74 ⊢
                  simp [go_sem, h72, h74]
                refine steps_cons (fun a w hk hn => ?_) ?_
                · have h75 : a.eval (.tmp 75) = .bool true := hn.1
                  clear hn
                  refine wants_plain rfl ?_
                  exact grown_move (.tmp 75) rfl h75
                refine steps_cons (fun a w hk hn => ?_) ?_
                · have h76 : a.eval (.tmp 76) = .bool true := hn.1
                  clear hn
                  refine wants_guard (d := 76) rfl rfl h76 ?_
                  refine grown_call (f := 17) rfl Tryd.func17 (by kernel_rfl) (by kernel_rfl) ?_
                  simp only [List.map_toArray, List.map_nil]
                  refine (known_any w (unhide HGW w hk)).mono ?_
                  rintro e w' ⟨rfl, K⟩
                  exact ⟨_, rfl, K, rfl⟩
                refine steps_cons (fun a w hk hn => ?_) ?_
                · have h76 : a.eval (.tmp 76) = .bool true := hn.1
                  have h77 : a.eval (.tmp 77) = .bool true := hn.2.1
                  clear hn
                  refine wants_plain rfl ?_
                  exact grown_pick _ _ _ true rfl h76 h77
                refine steps_cons (fun a w hk hn => ?_) ?_
                · have h78 : a.eval (.tmp 78) = .bool true := hn.1
                  clear hn
                  refine wants_plain rfl ?_
                  exact grown_assign (.tmp 78) rfl h78
                exact trivial
              intro W2 hkW2
              rintro _ rfl
              rintro _ rfl
              rintro _ rfl
              rintro _ rfl
              rintro _ rfl
              rintro _ rfl
              rintro _ rfl
              rintro _ rfl
              rintro _ rfl
              refine fin_nil ?_
              simp only [Act.put, List.set_cons_zero, List.set_cons_succ, List.setIfInBounds_toArray]
              go_wp2_with fail
              go_ret
              exact ⟨rfl, (unhide HKD W2 hkW2).below (Nat.le_refl _) (by simp)⟩
            replace h1 : 1 < (mw : Int) := by omega
            have hmb : mw ≤ 6 := by have := unhide HMK; omega
            obtain ⟨m1, hm1⟩ : ∃ m1, mw = m1 + 1 := ⟨mw - 1, by omega⟩
            have hsub : IntKind.i64.wrap ((mw : Int) - 1) = (m1 : Int) := by simp [IntKind.wrap, IntKind.signed, IntKind.bits]; omega
            have hml1 : (m1 : Int) < (mw : Int) := by omega
            obtain ⟨a', m', c', l, el, hRS, hll⟩ := unhide HA
            injection el with q1 q2 q3
            subst q1
            subst q2
            subst q3
            obtain ⟨gw, rfl, hgw, hgz, hln, -, -⟩ := hRS.spot (by omega)
            have hl2 : l.length ≤ 1000 := by omega
            have hm1l : m1 < l.length := by omega
            obtain ⟨_, _, ex, _, hcx⟩ := hRS.lists hl2
            injection ex with ex1
            obtain ⟨bx, ox, ex2, hx, hSx, hBx⟩ := hcx m1 hm1l
            rw [← ex1] at ex2
            injection ex2 with ex2
            injection ex2 with ex3 ex4
            subst ex3
            subst ex4
            rw [Nat.zero_add] at hx
            have hap := (hRS.2 _ (List.getElem_mem hm1l)).2.2
            obtain ⟨x, hxe⟩ : ∃ x, x = l[m1] := ⟨_, rfl⟩
            rw [← hxe] at hx hSx hBx hap
            have HRS := hide hRS
            have HSx := hide hSx
            have HBx := hide hBx
            have HAP := hide hap
            have HLL := hide hll
            have HXE : Hid (x.1 = x.1) := rfl
            obtain ⟨ax, cx, hxv, -⟩ := hSx
            obtain ⟨nx, hnx⟩ : ∃ n, n = x.2.length := ⟨_, rfl⟩
            rw [← hnx] at hxv
            have HXV := hide hxv
            rw [hxv] at hx
            have HT11 : Hid (∀ w', Kp [] wr.drew w' → w'.heap[g11]? = some (.cells #[.slice al ml cl, .slice (some ⟨gw, 0, none⟩) mw cw, .int .i64 q] 42 (0, 0))) := fun w' k' => ((kp_drew wr).trans k').heap (unhide HGr) (by simp)
            have HXC : Hid (∀ w', Kp [] wr.drew w' → w'.cell? ⟨gw, m1, none⟩ = some (.slice ax nx cx)) := fun w' k' => ((kp_drew wr).trans k').cell hx (by simp)
            have hgne : g11 ≠ gw := by omega
            clear hx hBx hap hRS hll hxe hnx hxv hcx hm1 hm1l hl2 ex1
            go_wp2_with fail
            refine region_grow_tail 10 Tryd.mixed [Is (.pointer (some ⟨g11, 1, none⟩)), Is (.slice (some ⟨gw, 0, none⟩) mw cw), Is (.pointer (some ⟨g11, 1, none⟩)), Is (.slice (some ⟨gw, 0, none⟩) mw cw), Is (.pointer (some ⟨g11, 1, none⟩)), Is (.slice (some ⟨gw, 0, none⟩) mw cw), Is (.int .i64 mw), Is (.int .i64 m1), Is (.pointer (some ⟨gw, m1, none⟩)), Is (.slice ax nx cx)] [[(11, none)], [(60, some 0)], [(11, none)], [(62, some 2)], [(11, none)], [(64, some 4)], [(65, some 5)], [(66, some 6)], [(63, some 3), (67, some 7)], [(68, some 8)]] (by kernel_rfl) ?_ ?_ ?_
            all_goals try simp only [List.take_succ_cons, List.take_zero, List.drop_succ_cons, List.drop_zero]
            · simp only [List.mem_cons, List.not_mem_nil, or_false]
              intro R hR
              rcases hR with rfl | rfl | rfl | rfl | rfl | rfl | rfl | rfl | rfl | rfl <;> first | exact stable_is _
            · refine steps_cons (fun a w hk hn => ?_) ?_
              · have h11 : a.eval (.tmp 11) = .pointer (some ⟨g11, 0, none⟩) := hn.1
                clear hn
                refine wants_plain rfl ?_
                refine grown_run (v := .pointer (some ⟨g11, 1, none⟩)) ?_ (Kp.refl _ _) rfl
                obtain ⟨ρ, hρ, hc, hf, hg⟩ := eval_is a
                rw [hρ] at h11 ⊢
                simp [go_sem, h11]
              refine steps_cons (fun a w hk hn => ?_) ?_
              · have h60 : a.eval (.tmp 60) = .pointer (some ⟨g11, 1, none⟩) := hn.1
                clear hn
                refine wants_plain rfl ?_
                refine grown_run (v := .slice (some ⟨gw, 0, none⟩) mw cw) ?_ (Kp.refl _ _) rfl
                have hcell : w.cell? ⟨g11, 1, none⟩ = some (.slice (some ⟨gw, 0, none⟩) mw cw) := by rw [cell_of_row w g11 1 _ _ _ (unhide HT11 w hk)]; rfl
                obtain ⟨ρ, hρ, hc, hf, hg⟩ := eval_is a
                rw [hρ] at h60 ⊢
                simp [go_sem, h60, hcell]
              refine steps_cons (fun a w hk hn => ?_) ?_
              · have h11 : a.eval (.tmp 11) = .pointer (some ⟨g11, 0, none⟩) := hn.1
                clear hn
                refine wants_plain rfl ?_
                refine grown_run (v := .pointer (some ⟨g11, 1, none⟩)) ?_ (Kp.refl _ _) rfl
                obtain ⟨ρ, hρ, hc, hf, hg⟩ := eval_is a
                rw [hρ] at h11 ⊢
                simp [go_sem, h11]
              refine steps_cons (fun a w hk hn => ?_) ?_
              · have h62 : a.eval (.tmp 62) = .pointer (some ⟨g11, 1, none⟩) := hn.1
                clear hn
                refine wants_plain rfl ?_
                refine grown_run (v := .slice (some ⟨gw, 0, none⟩) mw cw) ?_ (Kp.refl _ _) rfl
                have hcell : w.cell? ⟨g11, 1, none⟩ = some (.slice (some ⟨gw, 0, none⟩) mw cw) := by rw [cell_of_row w g11 1 _ _ _ (unhide HT11 w hk)]; rfl
                obtain ⟨ρ, hρ, hc, hf, hg⟩ := eval_is a
                rw [hρ] at h62 ⊢
                simp [go_sem, h62, hcell]
              refine steps_cons (fun a w hk hn => ?_) ?_
              · have h11 : a.eval (.tmp 11) = .pointer (some ⟨g11, 0, none⟩) := hn.1
                clear hn
                refine wants_plain rfl ?_
                refine grown_run (v := .pointer (some ⟨g11, 1, none⟩)) ?_ (Kp.refl _ _) rfl
                obtain ⟨ρ, hρ, hc, hf, hg⟩ := eval_is a
                rw [hρ] at h11 ⊢
                simp [go_sem, h11]
              refine steps_cons (fun a w hk hn => ?_) ?_
              · have h64 : a.eval (.tmp 64) = .pointer (some ⟨g11, 1, none⟩) := hn.1
                clear hn
                refine wants_plain rfl ?_
                refine grown_run (v := .slice (some ⟨gw, 0, none⟩) mw cw) ?_ (Kp.refl _ _) rfl
                have hcell : w.cell? ⟨g11, 1, none⟩ = some (.slice (some ⟨gw, 0, none⟩) mw cw) := by rw [cell_of_row w g11 1 _ _ _ (unhide HT11 w hk)]; rfl
                obtain ⟨ρ, hρ, hc, hf, hg⟩ := eval_is a
                rw [hρ] at h64 ⊢
                simp [go_sem, h64, hcell]
              refine steps_cons (fun a w hk hn => ?_) ?_
              · have h65 : a.eval (.tmp 65) = .slice (some ⟨gw, 0, none⟩) mw cw := hn.1
                clear hn
                refine wants_plain rfl ?_
                refine grown_run (v := .int .i64 mw) ?_ (Kp.refl _ _) rfl
                obtain ⟨ρ, hρ, hc, hf, hg⟩ := eval_is a
                rw [hρ] at h65 ⊢
                simp [go_sem, h65]
              refine steps_cons (fun a w hk hn => ?_) ?_
              · have h66 : a.eval (.tmp 66) = .int .i64 mw := hn.1
                clear hn
                refine wants_plain rfl ?_
                refine grown_run (v := .int .i64 m1) ?_ (Kp.refl _ _) rfl
                obtain ⟨ρ, hρ, hc, hf, hg⟩ := eval_is a
                rw [hρ] at h66 ⊢
                simp [go_sem, hc, h66, hsub]
              refine steps_cons (fun a w hk hn => ?_) ?_
              · have h63 : a.eval (.tmp 63) = .slice (some ⟨gw, 0, none⟩) mw cw := hn.1
                have h67 : a.eval (.tmp 67) = .int .i64 m1 := hn.2.1
                clear hn
                refine wants_plain rfl ?_
                refine grown_run (v := .pointer (some ⟨gw, m1, none⟩)) ?_ (Kp.refl _ _) rfl
                obtain ⟨ρ, hρ, hc, hf, hg⟩ := eval_is a
                rw [hρ] at h63 h67 ⊢
                simp [go_sem, h63, h67, hml1]
              refine steps_cons (fun a w hk hn => ?_) ?_
              · have h68 : a.eval (.tmp 68) = .pointer (some ⟨gw, m1, none⟩) := hn.1
                clear hn
                refine wants_plain rfl ?_
                refine grown_run (v := .slice ax nx cx) ?_ (Kp.refl _ _) rfl
                have hcell := unhide HXC w hk
                obtain ⟨ρ, hρ, hc, hf, hg⟩ := eval_is a
                rw [hρ] at h68 ⊢
                simp [go_sem, h68, hcell]
              exact trivial
            intro W1 hkW1
            rintro _ rfl
            rintro _ rfl
            rintro _ rfl
            rintro _ rfl
            rintro _ rfl
            rintro _ rfl
            rintro _ rfl
            rintro _ rfl
            rintro _ rfl
            rintro _ rfl
            refine fin_nil ?_
            simp only [Act.put, List.set_cons_zero, List.set_cons_succ, List.setIfInBounds_toArray]
            obtain ⟨wD, hwD⟩ : ∃ x, x = W1 := ⟨_, rfl⟩
            have KrD : Kp [] wr W1 := (kp_drew wr).trans hkW1
            have RSD := (unhide HRS).kept KrD
            obtain ⟨gx, egx, -, -, -, hcx, hfx⟩ := RSD.spot (by omega)
            injection egx with egx
            injection egx with egx
            subst egx
            obtain ⟨u0, hu0⟩ := hcx 0 (by omega)
            have hf0 := hfx 0
            rw [← hwD] at hu0 hf0 KrD RSD ⊢
            have HRSD := hide RSD
            have HKD := hide KrD
            clear hwD hkW1 RSD KrD hcx hfx HT11 HXC
            have HSetR : Hid (RowS (wD.setCell ⟨gw, 0, none⟩ (.slice ax nx cx)) w4.heap.size (.slice (some ⟨gw, 0, none⟩) mw cw) (l.set 0 x)) := by
              have := RowS.set (unhide HRSD) 0 x ((unhide HSx).kept (unhide HKD) (by simp)) (unhide HBx) (fun h => unhide HAP gw h rfl)
              rw [unhide HXV] at this
              exact this
            have KS : Kp [gw] wD (wD.setCell ⟨gw, 0, none⟩ (.slice ax nx cx)) := setCell_kp wD gw 0 _
            have HKS := hide KS
            obtain ⟨wE, hwE⟩ : ∃ x, x = wD.setCell ⟨gw, 0, none⟩ (.slice ax nx cx) := ⟨_, rfl⟩
            have hgwz : w.heap.size ≤ gw := Nat.le_trans (unhide HK4).size hgw
            have HKF : Hid (Kp [] w wE) := hide (by rw [hwE]; exact ((unhide HKw).trans (unhide HKD)).then (unhide HKS) (fun i hi => .inr (by simp at hi; omega)))
            have HGF : Hid (wE.heap[g11]? = some (.cells #[.slice al ml cl, .slice (some ⟨gw, 0, none⟩) mw cw, .int .i64 q] 42 (0, 0))) := hide (by rw [hwE]; exact (unhide HKS).heap ((unhide HKD).heap (unhide HGr) (by simp)) (by simp; omega))
            obtain ⟨pp, hpp⟩ : ∃ p : Po, p = ⟨lg, (l.set 0 x).map (·.2), q⟩ := ⟨_, rfl⟩
            have HPF : Hid (PoV wE (.agg #[.slice al ml cl, .slice (some ⟨gw, 0, none⟩) mw cw, .int .i64 q]) pp) := hide (by
              rw [hpp, hwE]
              have h1 := unhide HSetR
              refine ⟨al, ml, cl, _, mw, cw, l.set 0 x, rfl, ⟨?_, unhide HLgB⟩, lc_of_owns h1.1 (h1.lists (by rw [List.length_set]; omega)), rfl⟩
              exact Sl.apart ((unhide HSr).kept (unhide HKD) (by simp)) (unhide HKS) (fun i hi hm => by
                have e : i = gw := by simpa using hm
                rcases unhide HLA i hi with h | h
                · exact h
                · omega))
            have HWE := hide hwE
            clear hwE hpp KS HSetR
            have hwk : (if True then 1 else 0) = 1 := rfl
            clear hwk
            go_wp2_with fail
            rw [← unhide HWE]
            have HKD : Hid (∀ w', Kp [] wE.drew w' → Kp [] w w') := fun w' k' => (unhide HKF).trans ((kp_drew wE).trans k')
            have HU11 : Hid (∀ w', Kp [] wE.drew w' → w'.heap[g11]? = some (.cells #[.slice al ml cl, .slice (some ⟨gw, 0, none⟩) mw cw, .int .i64 q] 42 (0, 0))) := fun w' k' => ((kp_drew wE).trans k').heap (unhide HGF) (by simp)
            have HPO : Hid (∀ w', Kp [] wE.drew w' → PoV w' (.agg #[.slice al ml cl, .slice (some ⟨gw, 0, none⟩) mw cw, .int .i64 q]) pp) := fun w' k' => (unhide HPF).kept ((kp_drew wE).trans k')
            have HGW : Hid (∀ w', Kp [] wE.drew w' → Gl w') := fun w' k' => (unhide HG).kept (unhide HKD w' k') (by simp)
            obtain ⟨bb, hbb⟩ : ∃ b, b = pp.rgt := ⟨_, rfl⟩
            have HBB := hide hbb
            clear hbb
            refine region_grow Tryd.mixed [Is (.agg #[.slice al ml cl, .slice (some ⟨gw, 0, none⟩) mw cw, .int .i64 q]), Is (.bool bb), Is (.agg #[.slice al ml cl, .slice (some ⟨gw, 0, none⟩) mw cw, .int .i64 q]), Is (.bool bb), Is (.bool true), Is (.bool true), Is (.bool true), Is (.bool true), Is (.bool true)] [[(11, none)], [(71, some 0)], [(11, none)], [(73, some 2)], [(72, some 1), (74, some 3)], [(75, some 4)], [(76, some 5)], [(76, some 5), (77, some 6)], [(78, some 7)]] (by kernel_rfl) ?_ ?_ ?_
            · simp only [List.mem_cons, List.not_mem_nil, or_false]
              intro R hR
              rcases hR with rfl | rfl | rfl | rfl | rfl | rfl | rfl | rfl | rfl <;> first | exact stable_is _
            · refine steps_cons (fun a w hk hn => ?_) ?_
              · have h11 : a.eval (.tmp 11) = .pointer (some ⟨g11, 0, none⟩) := hn.1
                clear hn
                refine wants_plain rfl ?_
                exact grown_loadf 42 (.tmp 11) rfl g11 0 h11 _ _ _ _ (unhide HU11 w hk) [.slice al ml cl, .slice (some ⟨gw, 0, none⟩) mw cw, .int .i64 q] (flat_in rfl) Tryd.underlying42 rfl Tryd.polSize rfl
              refine steps_cons (fun a w hk hn => ?_) ?_
              · have h71 : a.eval (.tmp 71) = .agg #[.slice al ml cl, .slice (some ⟨gw, 0, none⟩) mw cw, .int .i64 q] := hn.1
                clear hn
                refine wants_plain rfl ?_
                refine grown_call (f := 12) rfl Tryd.func12 (by kernel_rfl) (by kernel_rfl) ?_
                simp only [List.map_toArray, List.map_cons, List.map_nil, h71]
                refine (cright_any _ pp bb (unhide HBB) w (unhide HPO w hk)).mono ?_
                rintro e w' ⟨rfl, K⟩
                exact ⟨_, rfl, K, rfl⟩
              refine steps_cons (fun a w hk hn => ?_) ?_
              · have h11 : a.eval (.tmp 11) = .pointer (some ⟨g11, 0, none⟩) := hn.1
                clear hn
                refine wants_plain rfl ?_
                exact grown_loadf 42 (.tmp 11) rfl g11 0 h11 _ _ _ _ (unhide HU11 w hk) [.slice al ml cl, .slice (some ⟨gw, 0, none⟩) mw cw, .int .i64 q] (flat_in rfl) Tryd.underlying42 rfl Tryd.polSize rfl
              refine steps_cons (fun a w hk hn => ?_) ?_
              · have h73 : a.eval (.tmp 73) = .agg #[.slice al ml cl, .slice (some ⟨gw, 0, none⟩) mw cw, .int .i64 q] := hn.1
                clear hn
                refine wants_plain rfl ?_
                refine grown_call (f := 24) rfl Tryd.func24 (by kernel_rfl) (by kernel_rfl) ?_
                simp only [List.map_toArray, List.map_cons, List.map_nil, h73]
                refine (rpolicy_any _ pp bb (unhide HBB) w (unhide HPO w hk)).mono ?_
                rintro e w' ⟨rfl, K⟩
                exact ⟨_, rfl, K, rfl⟩
              refine steps_cons (fun a w hk hn => ?_) ?_
              · have h72 : a.eval (.tmp 72) = .bool bb := hn.1
                have h74 : a.eval (.tmp 74) = .bool bb := hn.2.1
                clear hn
                refine wants_plain rfl ?_
                refine grown_run (v := .bool true) ?_ (Kp.refl _ _) rfl
                obtain ⟨ρ, hρ, hc, hf, hg⟩ := eval_is a
                rw [hρ] at h72 h74 ⊢
                simp [go_sem, h72, h74]
              refine steps_cons (fun a w hk hn => ?_) ?_
              · have h75 : a.eval (.tmp 75) = .bool true := hn.1
                clear hn
                refine wants_plain rfl ?_
                exact grown_move (.tmp 75) rfl h75
              refine steps_cons (fun a w hk hn => ?_) ?_
              · have h76 : a.eval (.tmp 76) = .bool true := hn.1
                clear hn
                refine wants_guard (d := 76) rfl rfl h76 ?_
                refine grown_call (f := 17) rfl Tryd.func17 (by kernel_rfl) (by kernel_rfl) ?_
                simp only [List.map_toArray, List.map_nil]
                refine (known_any w (unhide HGW w hk)).mono ?_
                rintro e w' ⟨rfl, K⟩
                exact ⟨_, rfl, K, rfl⟩
              refine steps_cons (fun a w hk hn => ?_) ?_
              · have h76 : a.eval (.tmp 76) = .bool true := hn.1
                have h77 : a.eval (.tmp 77) = .bool true := hn.2.1
                clear hn
                refine wants_plain rfl ?_
                exact grown_pick _ _ _ true rfl h76 h77
              refine steps_cons (fun a w hk hn => ?_) ?_
              · have h78 : a.eval (.tmp 78) = .bool true := hn.1
                clear hn
                refine wants_plain rfl ?_
                exact grown_assign (.tmp 78) rfl h78
              exact trivial
            intro W2 hkW2
            rintro _ rfl
            rintro _ rfl
            rintro _ rfl
            rintro _ rfl
            rintro _ rfl
            rintro _ rfl
            rintro _ rfl
            rintro _ rfl
            rintro _ rfl
            refine fin_nil ?_
            simp only [Act.put, List.set_cons_zero, List.set_cons_succ, List.setIfInBounds_toArray]
            go_wp2_with fail
            go_ret
            exact ⟨rfl, (unhide HKD W2 hkW2).below (Nat.le_refl _) (by simp)⟩
      · have hlti : ¬ (k : Int) < (nk : Int) := by omega
        obtain ⟨lc, hLc, hlc⟩ := ar_lc (unhide HA) (by omega)
        have hmw : mw = lc.length := by
          obtain ⟨_, _, e, _⟩ := hLc.shape
          injection e
        have c1 : wr.cell? ⟨g11, 1, none⟩ = some (.slice aw mw cw) := by rw [cell_of_row wr g11 1 _ _ _ (unhide HGr)]; rfl
        have hmk : mw = k := by rw [hmw, ← unhide HLS, ← hlc]; simp
        have HPV : Hid (PoV wr (.agg #[.slice al ml cl, .slice aw mw cw, .int .i64 q]) ⟨lg, ls, q⟩) := ⟨al, ml, cl, aw, mw, cw, lc, rfl, ⟨unhide HSr, unhide HLgB⟩, hLc, hlc⟩
        have HMK := hide hmk
        clear hLc hlc hmw hmk
        cases tw
        · skip
          have HKF := hide (unhide HKw)
          have HGF := hide (unhide HGr)
          obtain ⟨pp, hpp⟩ : ∃ p : Po, p = ⟨lg, ls, q⟩ := ⟨_, rfl⟩
          have HPF : Hid (PoV wr (.agg #[.slice al ml cl, .slice aw mw cw, .int .i64 q]) pp) := hide (by rw [hpp]; exact unhide HPV)
          clear hpp
          have HKD : Hid (∀ w', Kp [] wr.drew w' → Kp [] w w') := fun w' k' => (unhide HKF).trans ((kp_drew wr).trans k')
          have HU11 : Hid (∀ w', Kp [] wr.drew w' → w'.heap[g11]? = some (.cells #[.slice al ml cl, .slice aw mw cw, .int .i64 q] 42 (0, 0))) := fun w' k' => ((kp_drew wr).trans k').heap (unhide HGF) (by simp)
          have HPO : Hid (∀ w', Kp [] wr.drew w' → PoV w' (.agg #[.slice al ml cl, .slice aw mw cw, .int .i64 q]) pp) := fun w' k' => (unhide HPF).kept ((kp_drew wr).trans k')
          have HGW : Hid (∀ w', Kp [] wr.drew w' → Gl w') := fun w' k' => (unhide HG).kept (unhide HKD w' k') (by simp)
          obtain ⟨bb, hbb⟩ : ∃ b, b = pp.rgt := ⟨_, rfl⟩
          have HBB := hide hbb
          clear hbb
          go_wp2_with fail
          refine region_grow Tryd.mixed [Is (.agg #[.slice al ml cl, .slice aw mw cw, .int .i64 q]), Is (.bool bb), Is (.agg #[.slice al ml cl, .slice aw mw cw, .int .i64 q]), Is (.bool bb), Is (.bool true), Is (.bool true), Is (.bool true), Is (.bool true), Is (.bool true)] [[(11, none)], [(71, some 0)], [(11, none)], [(73, some 2)], [(72, some 1), (74, some 3)], [(75, some 4)], [(76, some 5)], [(76, some 5), (77, some 6)], [(78, some 7)]] (by kernel_rfl) ?_ ?_ ?_
          · simp only [List.mem_cons, List.not_mem_nil, or_false]
            intro R hR
            rcases hR with rfl | rfl | rfl | rfl | rfl | rfl | rfl | rfl | rfl <;> first | exact stable_is _
          · refine steps_cons (fun a w hk hn => ?_) ?_
            · have h11 : a.eval (.tmp 11) = .pointer (some ⟨g11, 0, none⟩) := hn.1
              clear hn
              refine wants_plain rfl ?_
              exact grown_loadf 42 (.tmp 11) rfl g11 0 h11 _ _ _ _ (unhide HU11 w hk) [.slice al ml cl, .slice aw mw cw, .int .i64 q] (flat_in rfl) Tryd.underlying42 rfl Tryd.polSize rfl
            refine steps_cons (fun a w hk hn => ?_) ?_
            · have h71 : a.eval (.tmp 71) = .agg #[.slice al ml cl, .slice aw mw cw, .int .i64 q] := hn.1
              clear hn
              refine wants_plain rfl ?_
              refine grown_call (f := 12) rfl Tryd.func12 (by kernel_rfl) (by kernel_rfl) ?_
              simp only [List.map_toArray, List.map_cons, List.map_nil, h71]
              refine (cright_any _ pp bb (unhide HBB) w (unhide HPO w hk)).mono ?_
              rintro e w' ⟨rfl, K⟩
              exact ⟨_, rfl, K, rfl⟩
            refine steps_cons (fun a w hk hn => ?_) ?_
            · have h11 : a.eval (.tmp 11) = .pointer (some ⟨g11, 0, none⟩) := hn.1
              clear hn
              refine wants_plain rfl ?_
              exact grown_loadf 42 (.tmp 11) rfl g11 0 h11 _ _ _ _ (unhide HU11 w hk) [.slice al ml cl, .slice aw mw cw, .int .i64 q] (flat_in rfl) Tryd.underlying42 rfl Tryd.polSize rfl
            refine steps_cons (fun a w hk hn => ?_) ?_
            · have h73 : a.eval (.tmp 73) = .agg #[.slice al ml cl, .slice aw mw cw, .int .i64 q] := hn.1
              clear hn
              refine wants_plain rfl ?_
              refine grown_call (f := 24) rfl Tryd.func24 (by kernel_rfl) (by kernel_rfl) ?_
              simp only [List.map_toArray, List.map_cons, List.map_nil, h73]
              refine (rpolicy_any _ pp bb (unhide HBB) w (unhide HPO w hk)).mono ?_
              rintro e w' ⟨rfl, K⟩
              exact ⟨_, rfl, K, rfl⟩
            refine steps_cons (fun a w hk hn => ?_) ?_
            · have h72 : a.eval (.tmp 72) = .bool bb := hn.1
              have h74 : a.eval (.tmp 74) = .bool bb := hn.2.1
              clear hn
              refine wants_plain rfl ?_
              refine grown_run (v := .bool true) ?_ (Kp.refl _ _) rfl
              obtain ⟨ρ, hρ, hc, hf, hg⟩ := eval_is a
              rw [hρ] at h72 h74 ⊢
              simp [go_sem, h72, h74]
            refine steps_cons (fun a w hk hn => ?_) ?_
            · have h75 : a.eval (.tmp 75) = .bool true := hn.1
              clear hn
              refine wants_plain rfl ?_
              exact grown_move (.tmp 75) rfl h75
            refine steps_cons (fun a w hk hn => ?_) ?_
            · have h76 : a.eval (.tmp 76) = .bool true := hn.1
              clear hn
              refine wants_guard (d := 76) rfl rfl h76 ?_
              refine grown_call (f := 17) rfl Tryd.func17 (by kernel_rfl) (by kernel_rfl) ?_
              simp only [List.map_toArray, List.map_nil]
              refine (known_any w (unhide HGW w hk)).mono ?_
              rintro e w' ⟨rfl, K⟩
              exact ⟨_, rfl, K, rfl⟩
            refine steps_cons (fun a w hk hn => ?_) ?_
            · have h76 : a.eval (.tmp 76) = .bool true := hn.1
              have h77 : a.eval (.tmp 77) = .bool true := hn.2.1
              clear hn
              refine wants_plain rfl ?_
              exact grown_pick _ _ _ true rfl h76 h77
            refine steps_cons (fun a w hk hn => ?_) ?_
            · have h78 : a.eval (.tmp 78) = .bool true := hn.1
              clear hn
              refine wants_plain rfl ?_
              exact grown_assign (.tmp 78) rfl h78
            exact trivial
          intro W2 hkW2
          rintro _ rfl
          rintro _ rfl
          rintro _ rfl
          rintro _ rfl
          rintro _ rfl
          rintro _ rfl
          rintro _ rfl
          rintro _ rfl
          rintro _ rfl
          refine fin_nil ?_
          simp only [Act.put, List.set_cons_zero, List.set_cons_succ, List.setIfInBounds_toArray]
          go_wp2_with fail
          go_ret
          exact ⟨rfl, (unhide HKD W2 hkW2).below (Nat.le_refl _) (by simp)⟩
        · by_cases h1 : ¬ 1 < (mw : Int)
          · skip
            have HKF := hide (unhide HKw)
            have HGF := hide (unhide HGr)
            obtain ⟨pp, hpp⟩ : ∃ p : Po, p = ⟨lg, ls, q⟩ := ⟨_, rfl⟩
            have HPF : Hid (PoV wr (.agg #[.slice al ml cl, .slice aw mw cw, .int .i64 q]) pp) := hide (by rw [hpp]; exact unhide HPV)
            clear hpp
            have HKD : Hid (∀ w', Kp [] wr.drew w' → Kp [] w w') := fun w' k' => (unhide HKF).trans ((kp_drew wr).trans k')
            have HU11 : Hid (∀ w', Kp [] wr.drew w' → w'.heap[g11]? = some (.cells #[.slice al ml cl, .slice aw mw cw, .int .i64 q] 42 (0, 0))) := fun w' k' => ((kp_drew wr).trans k').heap (unhide HGF) (by simp)
            have HPO : Hid (∀ w', Kp [] wr.drew w' → PoV w' (.agg #[.slice al ml cl, .slice aw mw cw, .int .i64 q]) pp) := fun w' k' => (unhide HPF).kept ((kp_drew wr).trans k')
            have HGW : Hid (∀ w', Kp [] wr.drew w' → Gl w') := fun w' k' => (unhide HG).kept (unhide HKD w' k') (by simp)
            obtain ⟨bb, hbb⟩ : ∃ b, b = pp.rgt := ⟨_, rfl⟩
            have HBB := hide hbb
            clear hbb
            go_wp2_with fail
            refine region_grow Tryd.mixed [Is (.agg #[.slice al ml cl, .slice aw mw cw, .int .i64 q]), Is (.bool bb), Is (.agg #[.slice al ml cl, .slice aw mw cw, .int .i64 q]), Is (.bool bb), Is (.bool true), Is (.bool true), Is (.bool true), Is (.bool true), Is (.bool true)] [[(11, none)], [(71, some 0)], [(11, none)], [(73, some 2)], [(72, some 1), (74, some 3)], [(75, some 4)], [(76, some 5)], [(76, some 5), (77, some 6)], [(78, some 7)]] (by kernel_rfl) ?_ ?_ ?_
            · simp only [List.mem_cons, List.not_mem_nil, or_false]
              intro R hR
              rcases hR with rfl | rfl | rfl | rfl | rfl | rfl | rfl | rfl | rfl <;> first | exact stable_is _
            · refine steps_cons (fun a w hk hn => ?_) ?_
              · have h11 : a.eval (.tmp 11) = .pointer (some ⟨g11, 0, none⟩) := hn.1
                clear hn
                refine wants_plain rfl ?_
                exact grown_loadf 42 (.tmp 11) rfl g11 0 h11 _ _ _ _ (unhide HU11 w hk) [.slice al ml cl, .slice aw mw cw, .int .i64 q] (flat_in rfl) Tryd.underlying42 rfl Tryd.polSize rfl
              refine steps_cons (fun a w hk hn => ?_) ?_
              · have h71 : a.eval (.tmp 71) = .agg #[.slice al ml cl, .slice aw mw cw, .int .i64 q] := hn.1
                clear hn
                refine wants_plain rfl ?_
                refine grown_call (f := 12) rfl Tryd.func12 (by kernel_rfl) (by kernel_rfl) ?_
                simp only [List.map_toArray, List.map_cons, List.map_nil, h71]
                refine (cright_any _ pp bb (unhide HBB) w (unhide HPO w hk)).mono ?_
                rintro e w' ⟨rfl, K⟩
                exact ⟨_, rfl, K, rfl⟩
              refine steps_cons (fun a w hk hn => ?_) ?_
              · have h11 : a.eval (.tmp 11) = .pointer (some ⟨g11, 0, none⟩) := hn.1
                clear hn
                refine wants_plain rfl ?_
                exact grown_loadf 42 (.tmp 11) rfl g11 0 h11 _ _ _ _ (unhide HU11 w hk) [.slice al ml cl, .slice aw mw cw, .int .i64 q] (flat_in rfl) Tryd.underlying42 rfl Tryd.polSize rfl
              refine steps_cons (fun a w hk hn => ?_) ?_
              · have h73 : a.eval (.tmp 73) = .agg #[.slice al ml cl, .slice aw mw cw, .int .i64 q] := hn.1
                clear hn
                refine wants_plain rfl ?_
                refine grown_call (f := 24) rfl Tryd.func24 (by kernel_rfl) (by kernel_rfl) ?_
                simp only [List.map_toArray, List.map_cons, List.map_nil, h73]
                refine (rpolicy_any _ pp bb (unhide HBB) w (unhide HPO w hk)).mono ?_
                rintro e w' ⟨rfl, K⟩
                exact ⟨_, rfl, K, rfl⟩
              refine steps_cons (fun a w hk hn => ?_) ?_
              · have h72 : a.eval (.tmp 72) = .bool bb := hn.1
                have h74 : a.eval (.tmp 74) = .bool bb := hn.2.1
                clear hn
                refine wants_plain rfl ?_
                refine grown_run (v := .bool true) ?_ (Kp.refl _ _) rfl
                obtain ⟨ρ, hρ, hc, hf, hg⟩ := eval_is a
                rw [hρ] at h72 h74 ⊢
                simp [go_sem, h72, h74]
              refine steps_cons (fun a w hk hn => ?_) ?_
              · have h75 : a.eval (.tmp 75) = .bool true := hn.1
                clear hn
                refine wants_plain rfl ?_
                exact grown_move (.tmp 75) rfl h75
              refine steps_cons (fun a w hk hn => ?_) ?_
              · have h76 : a.eval (.tmp 76) = .bool true := hn.1
                clear hn
                refine wants_guard (d := 76) rfl rfl h76 ?_
                refine grown_call (f := 17) rfl Tryd.func17 (by kernel_rfl) (by kernel_rfl) ?_
                simp only [List.map_toArray, List.map_nil]
                refine (known_any w (unhide HGW w hk)).mono ?_
                rintro e w' ⟨rfl, K⟩
                exact ⟨_, rfl, K, rfl⟩
              refine steps_cons (fun a w hk hn => ?_) ?_
              · have h76 : a.eval (.tmp 76) = .bool true := hn.1
                have h77 : a.eval (.tmp 77) = .bool true := hn.2.1
                clear hn
                refine wants_plain rfl ?_
                exact grown_pick _ _ _ true rfl h76 h77
              refine steps_cons (fun a w hk hn => ?_) ?_
              · have h78 : a.eval (.tmp 78) = .bool true := hn.1
                clear hn
                refine wants_plain rfl ?_
                exact grown_assign (.tmp 78) rfl h78
              exact trivial
            intro W2 hkW2
            rintro _ rfl
            rintro _ rfl
            rintro _ rfl
            rintro _ rfl
            rintro _ rfl
            rintro _ rfl
            rintro _ rfl
            rintro _ rfl
            rintro _ rfl
            refine fin_nil ?_
            simp only [Act.put, List.set_cons_zero, List.set_cons_succ, List.setIfInBounds_toArray]
            go_wp2_with fail
            go_ret
            exact ⟨rfl, (unhide HKD W2 hkW2).below (Nat.le_refl _) (by simp)⟩
          replace h1 : 1 < (mw : Int) := by omega
          have hmb : mw ≤ 6 := by have := unhide HMK; omega
          obtain ⟨m1, hm1⟩ : ∃ m1, mw = m1 + 1 := ⟨mw - 1, by omega⟩
          have hsub : IntKind.i64.wrap ((mw : Int) - 1) = (m1 : Int) := by simp [IntKind.wrap, IntKind.signed, IntKind.bits]; omega
          have hml1 : (m1 : Int) < (mw : Int) := by omega
          obtain ⟨a', m', c', l, el, hRS, hll⟩ := unhide HA
          injection el with q1 q2 q3
          subst q1
          subst q2
          subst q3
          obtain ⟨gw, rfl, hgw, hgz, hln, -, -⟩ := hRS.spot (by omega)
          have hl2 : l.length ≤ 1000 := by omega
          have hm1l : m1 < l.length := by omega
          obtain ⟨_, _, ex, _, hcx⟩ := hRS.lists hl2
          injection ex with ex1
          obtain ⟨bx, ox, ex2, hx, hSx, hBx⟩ := hcx m1 hm1l
          rw [← ex1] at ex2
          injection ex2 with ex2
          injection ex2 with ex3 ex4
          subst ex3
          subst ex4
          rw [Nat.zero_add] at hx
          have hap := (hRS.2 _ (List.getElem_mem hm1l)).2.2
          obtain ⟨x, hxe⟩ : ∃ x, x = l[m1] := ⟨_, rfl⟩
          rw [← hxe] at hx hSx hBx hap
          have HRS := hide hRS
          have HSx := hide hSx
          have HBx := hide hBx
          have HAP := hide hap
          have HLL := hide hll
          have HXE : Hid (x.1 = x.1) := rfl
          obtain ⟨ax, cx, hxv, -⟩ := hSx
          obtain ⟨nx, hnx⟩ : ∃ n, n = x.2.length := ⟨_, rfl⟩
          rw [← hnx] at hxv
          have HXV := hide hxv
          rw [hxv] at hx
          have HT11 : Hid (∀ w', Kp [] wr.drew w' → w'.heap[g11]? = some (.cells #[.slice al ml cl, .slice (some ⟨gw, 0, none⟩) mw cw, .int .i64 q] 42 (0, 0))) := fun w' k' => ((kp_drew wr).trans k').heap (unhide HGr) (by simp)
          have HXC : Hid (∀ w', Kp [] wr.drew w' → w'.cell? ⟨gw, m1, none⟩ = some (.slice ax nx cx)) := fun w' k' => ((kp_drew wr).trans k').cell hx (by simp)
          have hgne : g11 ≠ gw := by omega
          clear hx hBx hap hRS hll hxe hnx hxv hcx hm1 hm1l hl2 ex1
          go_wp2_with fail
          refine region_grow_tail 10 Tryd.mixed [Is (.pointer (some ⟨g11, 1, none⟩)), Is (.slice (some ⟨gw, 0, none⟩) mw cw), Is (.pointer (some ⟨g11, 1, none⟩)), Is (.slice (some ⟨gw, 0, none⟩) mw cw), Is (.pointer (some ⟨g11, 1, none⟩)), Is (.slice (some ⟨gw, 0, none⟩) mw cw), Is (.int .i64 mw), Is (.int .i64 m1), Is (.pointer (some ⟨gw, m1, none⟩)), Is (.slice ax nx cx)] [[(11, none)], [(60, some 0)], [(11, none)], [(62, some 2)], [(11, none)], [(64, some 4)], [(65, some 5)], [(66, some 6)], [(63, some 3), (67, some 7)], [(68, some 8)]] (by kernel_rfl) ?_ ?_ ?_
          all_goals try simp only [List.take_succ_cons, List.take_zero, List.drop_succ_cons, List.drop_zero]
          · simp only [List.mem_cons, List.not_mem_nil, or_false]
            intro R hR
            rcases hR with rfl | rfl | rfl | rfl | rfl | rfl | rfl | rfl | rfl | rfl <;> first | exact stable_is _
          · refine steps_cons (fun a w hk hn => ?_) ?_
            · have h11 : a.eval (.tmp 11) = .pointer (some ⟨g11, 0, none⟩) := hn.1
              clear hn
              refine wants_plain rfl ?_
              refine grown_run (v := .pointer (some ⟨g11, 1, none⟩)) ?_ (Kp.refl _ _) rfl
              obtain ⟨ρ, hρ, hc, hf, hg⟩ := eval_is a
              rw [hρ] at h11 ⊢
              simp [go_sem, h11]
            refine steps_cons (fun a w hk hn => ?_) ?_
            · have h60 : a.eval (.tmp 60) = .pointer (some ⟨g11, 1, none⟩) := hn.1
              clear hn
              refine wants_plain rfl ?_
              refine grown_run (v := .slice (some ⟨gw, 0, none⟩) mw cw) ?_ (Kp.refl _ _) rfl
              have hcell : w.cell? ⟨g11, 1, none⟩ = some (.slice (some ⟨gw, 0, none⟩) mw cw) := by rw [cell_of_row w g11 1 _ _ _ (unhide HT11 w hk)]; rfl
              obtain ⟨ρ, hρ, hc, hf, hg⟩ := eval_is a
              rw [hρ] at h60 ⊢
              simp [go_sem, h60, hcell]
            refine steps_cons (fun a w hk hn => ?_) ?_
            · have h11 : a.eval (.tmp 11) = .pointer (some ⟨g11, 0, none⟩) := hn.1
              clear hn
              refine wants_plain rfl ?_
              refine grown_run (v := .pointer (some ⟨g11, 1, none⟩)) ?_ (Kp.refl _ _) rfl
              obtain ⟨ρ, hρ, hc, hf, hg⟩ := eval_is a
              rw [hρ] at h11 ⊢
              simp [go_sem, h11]
            refine steps_cons (fun a w hk hn => ?_) ?_
            · have h62 : a.eval (.tmp 62) = .pointer (some ⟨g11, 1, none⟩) := hn.1
              clear hn
              refine wants_plain rfl ?_
              refine grown_run (v := .slice (some ⟨gw, 0, none⟩) mw cw) ?_ (Kp.refl _ _) rfl
              have hcell : w.cell? ⟨g11, 1, none⟩ = some (.slice (some ⟨gw, 0, none⟩) mw cw) := by rw [cell_of_row w g11 1 _ _ _ (unhide HT11 w hk)]; rfl
              obtain ⟨ρ, hρ, hc, hf, hg⟩ := eval_is a
              rw [hρ] at h62 ⊢
              simp [go_sem, h62, hcell]
            refine steps_cons (fun a w hk hn => ?_) ?_
            · have h11 : a.eval (.tmp 11) = .pointer (some ⟨g11, 0, none⟩) := hn.1
              clear hn
              refine wants_plain rfl ?_
              refine grown_run (v := .pointer (some ⟨g11, 1, none⟩)) ?_ (Kp.refl _ _) rfl
              obtain ⟨ρ, hρ, hc, hf, hg⟩ := eval_is a
              rw [hρ] at h11 ⊢
              simp [go_sem, h11]
            refine steps_cons (fun a w hk hn => ?_) ?_
            · have h64 : a.eval (.tmp 64) = .pointer (some ⟨g11, 1, none⟩) := hn.1
              clear hn
              refine wants_plain rfl ?_
              refine grown_run (v := .slice (some ⟨gw, 0, none⟩) mw cw) ?_ (Kp.refl _ _) rfl
              have hcell : w.cell? ⟨g11, 1, none⟩ = some (.slice (some ⟨gw, 0, none⟩) mw cw) := by rw [cell_of_row w g11 1 _ _ _ (unhide HT11 w hk)]; rfl
              obtain ⟨ρ, hρ, hc, hf, hg⟩ := eval_is a
              rw [hρ] at h64 ⊢
              simp [go_sem, h64, hcell]
            refine steps_cons (fun a w hk hn => ?_) ?_
            · have h65 : a.eval (.tmp 65) = .slice (some ⟨gw, 0, none⟩) mw cw := hn.1
              clear hn
              refine wants_plain rfl ?_
              refine grown_run (v := .int .i64 mw) ?_ (Kp.refl _ _) rfl
              obtain ⟨ρ, hρ, hc, hf, hg⟩ := eval_is a
              rw [hρ] at h65 ⊢
              simp [go_sem, h65]
            refine steps_cons (fun a w hk hn => ?_) ?_
            · have h66 : a.eval (.tmp 66) = .int .i64 mw := hn.1
              clear hn
              refine wants_plain rfl ?_
              refine grown_run (v := .int .i64 m1) ?_ (Kp.refl _ _) rfl
              obtain ⟨ρ, hρ, hc, hf, hg⟩ := eval_is a
              rw [hρ] at h66 ⊢
              simp [go_sem, hc, h66, hsub]
            refine steps_cons (fun a w hk hn => ?_) ?_
            · have h63 : a.eval (.tmp 63) = .slice (some ⟨gw, 0, none⟩) mw cw := hn.1
              have h67 : a.eval (.tmp 67) = .int .i64 m1 := hn.2.1
              clear hn
              refine wants_plain rfl ?_
              refine grown_run (v := .pointer (some ⟨gw, m1, none⟩)) ?_ (Kp.refl _ _) rfl
              obtain ⟨ρ, hρ, hc, hf, hg⟩ := eval_is a
              rw [hρ] at h63 h67 ⊢
              simp [go_sem, h63, h67, hml1]
            refine steps_cons (fun a w hk hn => ?_) ?_
            · have h68 : a.eval (.tmp 68) = .pointer (some ⟨gw, m1, none⟩) := hn.1
              clear hn
              refine wants_plain rfl ?_
              refine grown_run (v := .slice ax nx cx) ?_ (Kp.refl _ _) rfl
              have hcell := unhide HXC w hk
              obtain ⟨ρ, hρ, hc, hf, hg⟩ := eval_is a
              rw [hρ] at h68 ⊢
              simp [go_sem, h68, hcell]
            exact trivial
          intro W1 hkW1
          rintro _ rfl
          rintro _ rfl
          rintro _ rfl
          rintro _ rfl
          rintro _ rfl
          rintro _ rfl
          rintro _ rfl
          rintro _ rfl
          rintro _ rfl
          rintro _ rfl
          refine fin_nil ?_
          simp only [Act.put, List.set_cons_zero, List.set_cons_succ, List.setIfInBounds_toArray]
          obtain ⟨wD, hwD⟩ : ∃ x, x = W1 := ⟨_, rfl⟩
          have KrD : Kp [] wr W1 := (kp_drew wr).trans hkW1
          have RSD := (unhide HRS).kept KrD
          obtain ⟨gx, egx, -, -, -, hcx, hfx⟩ := RSD.spot (by omega)
          injection egx with egx
          injection egx with egx
          subst egx
          obtain ⟨u0, hu0⟩ := hcx 0 (by omega)
          have hf0 := hfx 0
          rw [← hwD] at hu0 hf0 KrD RSD ⊢
          have HRSD := hide RSD
          have HKD := hide KrD
          clear hwD hkW1 RSD KrD hcx hfx HT11 HXC
          have HSetR : Hid (RowS (wD.setCell ⟨gw, 0, none⟩ (.slice ax nx cx)) w4.heap.size (.slice (some ⟨gw, 0, none⟩) mw cw) (l.set 0 x)) := by
            have := RowS.set (unhide HRSD) 0 x ((unhide HSx).kept (unhide HKD) (by simp)) (unhide HBx) (fun h => unhide HAP gw h rfl)
            rw [unhide HXV] at this
            exact this
          have KS : Kp [gw] wD (wD.setCell ⟨gw, 0, none⟩ (.slice ax nx cx)) := setCell_kp wD gw 0 _
          have HKS := hide KS
          obtain ⟨wE, hwE⟩ : ∃ x, x = wD.setCell ⟨gw, 0, none⟩ (.slice ax nx cx) := ⟨_, rfl⟩
          have hgwz : w.heap.size ≤ gw := Nat.le_trans (unhide HK4).size hgw
          have HKF : Hid (Kp [] w wE) := hide (by rw [hwE]; exact ((unhide HKw).trans (unhide HKD)).then (unhide HKS) (fun i hi => .inr (by simp at hi; omega)))
          have HGF : Hid (wE.heap[g11]? = some (.cells #[.slice al ml cl, .slice (some ⟨gw, 0, none⟩) mw cw, .int .i64 q] 42 (0, 0))) := hide (by rw [hwE]; exact (unhide HKS).heap ((unhide HKD).heap (unhide HGr) (by simp)) (by simp; omega))
          obtain ⟨pp, hpp⟩ : ∃ p : Po, p = ⟨lg, (l.set 0 x).map (·.2), q⟩ := ⟨_, rfl⟩
          have HPF : Hid (PoV wE (.agg #[.slice al ml cl, .slice (some ⟨gw, 0, none⟩) mw cw, .int .i64 q]) pp) := hide (by
            rw [hpp, hwE]
            have h1 := unhide HSetR
            refine ⟨al, ml, cl, _, mw, cw, l.set 0 x, rfl, ⟨?_, unhide HLgB⟩, lc_of_owns h1.1 (h1.lists (by rw [List.length_set]; omega)), rfl⟩
            exact Sl.apart ((unhide HSr).kept (unhide HKD) (by simp)) (unhide HKS) (fun i hi hm => by
              have e : i = gw := by simpa using hm
              rcases unhide HLA i hi with h | h
              · exact h
              · omega))
          have HWE := hide hwE
          clear hwE hpp KS HSetR
          have hwk : (if True then 1 else 0) = 1 := rfl
          clear hwk
          go_wp2_with fail
          rw [← unhide HWE]
          have HKD : Hid (∀ w', Kp [] wE.drew w' → Kp [] w w') := fun w' k' => (unhide HKF).trans ((kp_drew wE).trans k')
          have HU11 : Hid (∀ w', Kp [] wE.drew w' → w'.heap[g11]? = some (.cells #[.slice al ml cl, .slice (some ⟨gw, 0, none⟩) mw cw, .int .i64 q] 42 (0, 0))) := fun w' k' => ((kp_drew wE).trans k').heap (unhide HGF) (by simp)
          have HPO : Hid (∀ w', Kp [] wE.drew w' → PoV w' (.agg #[.slice al ml cl, .slice (some ⟨gw, 0, none⟩) mw cw, .int .i64 q]) pp) := fun w' k' => (unhide HPF).kept ((kp_drew wE).trans k')
          have HGW : Hid (∀ w', Kp [] wE.drew w' → Gl w') := fun w' k' => (unhide HG).kept (unhide HKD w' k') (by simp)
          obtain ⟨bb, hbb⟩ : ∃ b, b = pp.rgt := ⟨_, rfl⟩
          have HBB := hide hbb
          clear hbb
          refine region_grow Tryd.mixed [Is (.agg #[.slice al ml cl, .slice (some ⟨gw, 0, none⟩) mw cw, .int .i64 q]), Is (.bool bb), Is (.agg #[.slice al ml cl, .slice (some ⟨gw, 0, none⟩) mw cw, .int .i64 q]), Is (.bool bb), Is (.bool true), Is (.bool true), Is (.bool true), Is (.bool true), Is (.bool true)] [[(11, none)], [(71, some 0)], [(11, none)], [(73, some 2)], [(72, some 1), (74, some 3)], [(75, some 4)], [(76, some 5)], [(76, some 5), (77, some 6)], [(78, some 7)]] (by kernel_rfl) ?_ ?_ ?_
          · simp only [List.mem_cons, List.not_mem_nil, or_false]
            intro R hR
            rcases hR with rfl | rfl | rfl | rfl | rfl | rfl | rfl | rfl | rfl <;> first | exact stable_is _
          · refine steps_cons (fun a w hk hn => ?_) ?_
            · have h11 : a.eval (.tmp 11) = .pointer (some ⟨g11, 0, none⟩) := hn.1
              clear hn
              refine wants_plain rfl ?_
              exact grown_loadf 42 (.tmp 11) rfl g11 0 h11 _ _ _ _ (unhide HU11 w hk) [.slice al ml cl, .slice (some ⟨gw, 0, none⟩) mw cw, .int .i64 q] (flat_in rfl) Tryd.underlying42 rfl Tryd.polSize rfl
            refine steps_cons (fun a w hk hn => ?_) ?_
            · have h71 : a.eval (.tmp 71) = .agg #[.slice al ml cl, .slice (some ⟨gw, 0, none⟩) mw cw, .int .i64 q] := hn.1
              clear hn
              refine wants_plain rfl ?_
              refine grown_call (f := 12) rfl Tryd.func12 (by kernel_rfl) (by kernel_rfl) ?_
              simp only [List.map_toArray, List.map_cons, List.map_nil, h71]
              refine (cright_any _ pp bb (unhide HBB) w (unhide HPO w hk)).mono ?_
              rintro e w' ⟨rfl, K⟩
              exact ⟨_, rfl, K, rfl⟩
            refine steps_cons (fun a w hk hn => ?_) ?_
            · have h11 : a.eval (.tmp 11) = .pointer (some ⟨g11, 0, none⟩) := hn.1
              clear hn
              refine wants_plain rfl ?_
              exact grown_loadf 42 (.tmp 11) rfl g11 0 h11 _ _ _ _ (unhide HU11 w hk) [.slice al ml cl, .slice (some ⟨gw, 0, none⟩) mw cw, .int .i64 q] (flat_in rfl) Tryd.underlying42 rfl Tryd.polSize rfl
            refine steps_cons (fun a w hk hn => ?_) ?_
            · have h73 : a.eval (.tmp 73) = .agg #[.slice al ml cl, .slice (some ⟨gw, 0, none⟩) mw cw, .int .i64 q] := hn.1
              clear hn
              refine wants_plain rfl ?_
              refine grown_call (f := 24) rfl Tryd.func24 (by kernel_rfl) (by kernel_rfl) ?_
              simp only [List.map_toArray, List.map_cons, List.map_nil, h73]
              refine (rpolicy_any _ pp bb (unhide HBB) w (unhide HPO w hk)).mono ?_
              rintro e w' ⟨rfl, K⟩
              exact ⟨_, rfl, K, rfl⟩
            refine steps_cons (fun a w hk hn => ?_) ?_
            · have h72 : a.eval (.tmp 72) = .bool bb := hn.1
              have h74 : a.eval (.tmp 74) = .bool bb := hn.2.1
              clear hn
              refine wants_plain rfl ?_
              refine grown_run (v := .bool true) ?_ (Kp.refl _ _) rfl
              obtain ⟨ρ, hρ, hc, hf, hg⟩ := eval_is a
              rw [hρ] at h72 h74 ⊢
              simp [go_sem, h72, h74]
            refine steps_cons (fun a w hk hn => ?_) ?_
            · have h75 : a.eval (.tmp 75) = .bool true := hn.1
              clear hn
              refine wants_plain rfl ?_
              exact grown_move (.tmp 75) rfl h75
            refine steps_cons (fun a w hk hn => ?_) ?_
            · have h76 : a.eval (.tmp 76) = .bool true := hn.1
              clear hn
              refine wants_guard (d := 76) rfl rfl h76 ?_
              refine grown_call (f := 17) rfl Tryd.func17 (by kernel_rfl) (by kernel_rfl) ?_
              simp only [List.map_toArray, List.map_nil]
              refine (known_any w (unhide HGW w hk)).mono ?_
              rintro e w' ⟨rfl, K⟩
              exact ⟨_, rfl, K, rfl⟩
            refine steps_cons (fun a w hk hn => ?_) ?_
            · have h76 : a.eval (.tmp 76) = .bool true := hn.1
              have h77 : a.eval (.tmp 77) = .bool true := hn.2.1
              clear hn
              refine wants_plain rfl ?_
              exact grown_pick _ _ _ true rfl h76 h77
            refine steps_cons (fun a w hk hn => ?_) ?_
            · have h78 : a.eval (.tmp 78) = .bool true := hn.1
              clear hn
              refine wants_plain rfl ?_
              exact grown_assign (.tmp 78) rfl h78
            exact trivial
          intro W2 hkW2
          rintro _ rfl
          rintro _ rfl
          rintro _ rfl
          rintro _ rfl
          rintro _ rfl
          rintro _ rfl
          rintro _ rfl
          rintro _ rfl
          rintro _ rfl
          refine fin_nil ?_
          simp only [Act.put, List.set_cons_zero, List.set_cons_succ, List.setIfInBounds_toArray]
          go_wp2_with fail
          go_ret
          exact ⟨rfl, (unhide HKD W2 hkW2).below (Nat.le_refl _) (by simp)⟩
  · have HSz := hide (sized_any (.slice ag ng cg) lg0 w3 ((unhide HL).kept (unhide HK3) (by simp)) (unhide HLB))
    go_wp2_with fail
    refine (unhide HSz).mono ?_
    rintro ee w5 ⟨gz, lg, rfl, hzl, hLgB, RZ, KZ⟩
    have HKZ := hide KZ
    have HRZ := hide RZ
    have HGZ := hide (KZ.heap (unhide HG3) (by simp))
    have hgz : w3.heap.size ≤ gz := RZ.own gz rfl
    have h113 : g11 < w3.heap.size := lt_of_block (unhide HG3)
    obtain ⟨q, hq⟩ : ∃ x, x = wiP xq 0 5 := ⟨_, rfl⟩
    have HWq := hide (unhide HWi w5)
    rw [← hq] at HWq
    clear HSz RZ KZ hzl hq
    go_wp2_with fail
    refine (unhide HWq).mono ?_
    rintro ee wx ⟨rfl, hwx⟩
    subst wx
    have z0 : w5.cell? ⟨g11, 0, none⟩ = some (.slice al ml cl) := by rw [cell_of_row w5 g11 0 _ _ _ (unhide HGZ)]; rfl
    have z2 : w5.cell? ⟨g11, 2, none⟩ = some (.int .i64 xq) := by rw [cell_of_row w5 g11 2 _ _ _ (unhide HGZ)]; rfl
    have y0 : w5.frozen? ⟨g11, 0, none⟩ = false := frozen_of_row w5 g11 0 _ _ (unhide HGZ)
    have y2 : w5.frozen? ⟨g11, 2, none⟩ = false := frozen_of_row w5 g11 2 _ _ (unhide HGZ)
    obtain ⟨w4, hw4⟩ : ∃ x, x = (w5.setCell ⟨g11, 0, none⟩ (.slice (some ⟨gz, 0, none⟩) 32 32)).setCell ⟨g11, 2, none⟩ (.int .i64 q) := ⟨_, rfl⟩
    have KS : Kp [g11] w5 w4 := by rw [hw4]; exact (setCell_kp w5 g11 0 _).setCell (p := ⟨g11, 2, none⟩) (.inl (by simp)) _
    have GS : w4.heap[g11]? = some (.cells #[.slice (some ⟨gz, 0, none⟩) 32 32, .slice none 0 0, .int .i64 q] 42 (0, 0)) := by
      have h1 := heap_setCell_same w5 g11 0 _ _ (.slice (some ⟨gz, 0, none⟩) 32 32) (unhide HGZ)
      have h2 := heap_setCell_same _ g11 2 _ _ (.int .i64 q) h1
      rw [hw4]
      simpa using h2
    have K4 : Kp [] w w4 := ((unhide HK3).trans (unhide HKZ)).then KS (fun i hi => .inr (by simp at hi; have := unhide H11; omega))
    have hS4 : Sl w4 (.slice (some ⟨gz, 0, none⟩) 32 32) lg := ((unhide HRZ).kept KS (fun i hi => by have := (unhide HRZ).own i hi; simp; omega)).sl
    have hgz5 : gz < w5.heap.size := (unhide HRZ).lt rfl
    have hLA0 : ∀ i, (Value.slice (some ⟨gz, 0, none⟩) 32 32).ownBlock = some i → lg = [] ∨ (i ≠ g11 ∧ i < w4.heap.size) := fun i hi => by
      have e : gz = i := by simpa [Value.ownBlock] using hi
      have := KS.size
      exact .inr ⟨by omega, by omega⟩
    have HW4 := hide hw4
    obtain ⟨al', hal⟩ : ∃ a : Option Addr, a = some ⟨gz, 0, none⟩ := ⟨_, rfl⟩
    clear hw4 KS hgz5 HGZ HRZ HKZ hal HS3 HLO
    obtain ⟨a32, h32⟩ : ∃ a : Option Addr, a = some ⟨gz, 0, none⟩ := ⟨_, rfl⟩
    clear h32
    have G4 := GS
    have hLA := hLA0
    have HGr0 := hide G4
    have HK4 := hide K4
    have HLgB := hide hLgB
    have HS4 := hide hS4
    have HLA := hide hLA
    have h114 : g11 < w4.heap.size := lt_of_block G4
    have HI : Hid (Pl w4.heap.size g11 q lg (some ⟨gz, 0, none⟩) 32 32 0 w4) := ⟨[], none, 0, 0, rfl, G4, (AccR.nil w4).ar (Nat.le_refl _)⟩
    clear G4 GS K4 hLgB hS4 hLA hLA0
    go_wp2_with fail
    rw [← unhide HW4]
    go_loopw [12, 13] (fun vi _ wr => ∃ k : Nat, k ≤ 6 ∧ k ≤ nk ∧ vi = .int .i64 k ∧ Pl w4.heap.size g11 q lg (some ⟨gz, 0, none⟩) 32 32 k wr ∧ Kp [g11] w4 wr) (fun vi _ _ => 6 - (intOf vi).toNat)
    case atStart => exact ⟨0, by omega, by omega, rfl, unhide HI, Kp.refl _ _⟩
    case round =>
      clear HI
      obtain ⟨k, hk6, hkn, rfl, ⟨ls, aw, mw, cw, hls, hGr, hA⟩, hKr⟩ := hrel
      have HLS := hide hls
      have HGr := hide hGr
      have HA := hide hA
      have HKr := hide hKr
      have h11w : w.heap.size ≤ g11 := by have := unhide H11; omega
      have HKw : Hid (Kp [] w wr) := (unhide HK4).then hKr (fun i hi => .inr (by simp at hi; omega))
      have HSr : Hid (Sl wr (.slice (some ⟨gz, 0, none⟩) 32 32) lg) := hide (Sl.apart (unhide HS4) hKr (fun i hi hm => by
        have e : i = g11 := by simpa using hm
        rcases unhide HLA i hi with h | h
        · exact h
        · omega))
      have hlsk : ls.length ≤ 6 := by omega
      clear hls hGr hA hKr
      by_cases hlt : k < nk
      · have hlti : (k : Int) < (nk : Int) := by omega
        by_cases hl6 : k < 6
        · have hl6i : (k : Int) < 6 := by omega
          have hkl : k < lk.length := by have := unhide HNK; omega
          obtain ⟨bk, ok, rfl, hck, hSk, hBk⟩ := unhide HC k hkl
          obtain ⟨x, hx⟩ : ∃ x, x = lk[k]'hkl := ⟨_, rfl⟩
          rw [← hx] at hck hSk hBk
          have HSk := hide hSk
          have HBk := hide hBk
          have HCt := hide (cut_any x.1 x.2 40 wr (hSk.kept (unhide HKw) (by simp)))
          obtain ⟨ax, cx, hxv, -⟩ := hSk
          obtain ⟨nx, hnx⟩ : ∃ n, n = x.2.length := ⟨_, rfl⟩
          rw [← hnx] at hxv
          rw [hxv] at hck HSk HCt
          have hckr := (unhide HKw).cell hck (by simp)
          clear hxv hnx hx hck hBk HC
          go_wp2_with fail
          refine (unhide HCt).mono ?_
          rintro ee wx ⟨ay, cy, rfl, hcut, hwx⟩
          subst wx
          obtain ⟨ny, hny⟩ : ∃ n, n = (x.2.take 40).length := ⟨_, rfl⟩
          rw [← hny] at hcut ⊢
          have HSy := hide (hcut w (unhide HSk))
          clear HCt hcut hny hckr
          have HSz := hide (sized31_any (.slice ay ny cy) (x.2.take 40) wr ((unhide HSy).kept (unhide HKw) (by simp)) ((unhide HBk).take 40))
          have hwr8 : IntKind.u8.wrap (k : Int) = k := by simp [IntKind.wrap, IntKind.signed, IntKind.bits]; omega
          go_wp2_with fail
          refine (unhide HSz).mono ?_
          rintro ee w5 ⟨gy, zs, rfl, hzl, hzB, RZ, KZ⟩
          have HZB := hide hzB
          have HZL := hide hzl
          have SB : Sl (w5.alloc (.cells #[.int .u8 k] 5)) (.slice (some ⟨w5.heap.size, 0, none⟩) 1 1) [(k : Int)] := Sl.block (cs := [(k : Int)]) (t := 5) (fr := (0, 0)) (heap_alloc_new w5 _) (by simp [maxLen])
          have RZ2 := RZ.kept ((Kp.refl [] w5).alloc (.cells #[.int .u8 k] 5)) (by simp)
          have HKZ := hide KZ
          have hbz : wr.heap.size ≤ (w5.alloc (.cells #[.int .u8 k] 5)).heap.size := by have := KZ.size; simp; omega
          clear HSz hzl hzB RZ KZ
          go_wp2_with (at_builtin; refine wpList_append_row rfl (.tmp 42) (.tmp 45) rfl wr.heap.size (.slice (some ⟨gy, 0, none⟩) 31 31) zs rfl RZ2 _ [(k : Int)] rfl SB (by have := unhide HZL; simp; omega) hbz ?_; intro az mz cz w6 R6 S6; refine Hid.out ?_)
          have K56 : Kp [] wr w6 := ((unhide HKZ).trans ((Kp.refl [] w5).alloc _)).then S6.1 (fun i hi => .inr (RZ2.own i (by simpa using hi)))
          have HRt : Hid (RtT w4.heap.size (zs ++ [(k : Int)]) (.slice az mz cz) w6) := ⟨az, mz, cz, rfl, R6.sl, ap_row R6⟩
          have HBt : Hid (Bs (zs ++ [(k : Int)])) := (unhide HZB).append (bs_one k (by omega) (by omega))
          have HKx := hide K56
          clear SB RZ2 S6 R6 K56 hbz hwr8
          refine hide ?_
          have HGx := hide ((unhide HKx).heap (unhide HGr) (by simp))
          have c1 : w6.cell? ⟨g11, 1, none⟩ = some (.slice aw mw cw) := by rw [cell_of_row w6 g11 1 _ _ _ (unhide HGx)]; rfl
          have KA : Kp [] w6 (w6.alloc (.cells #[.slice az mz cz] 24)) := (Kp.refl [] w6).alloc _
          have HAW : ARt w4.heap.size ls (.slice aw mw cw) (w6.alloc (.cells #[.slice az mz cz] 24)) := stable_ar _ _ _ _ _ ((unhide HKx).trans KA) (unhide HA)
          have HOn := one_new (unhide HRt)
          have hz1 : w4.heap.size ≤ (w6.alloc (.cells #[.slice az mz cz] 24)).heap.size := Nat.le_trans (unhide HKr).size (Nat.le_trans (unhide HKx).size KA.size)
          have GA := KA.heap (unhide HGx) (by simp)
          have HKA : Hid (Kp [g11] w4 (w6.alloc (.cells #[.slice az mz cz] 24))) := (unhide HKr).trans (((unhide HKx).trans KA).mono (by simp))
          clear KA
          go_wp2_with (at_builtin; refine wpList_accpB rfl (.tmp 48) (.tmp 50) rfl (.slice aw mw cw) _ rfl rfl ls w4.heap.size HAW (by omega) (zs ++ [(k : Int)]) HOn (unhide HBt) hz1 ?_; intro a5 m5 c5 w7 A5 S5; refine Hid.out ?_)
          have hne : g11 ∉ (Value.slice aw mw cw).ownBlock.toList := fun hm => by
            obtain ⟨a', m', c', l', e', h1, _⟩ := HAW
            have := h1.1.own g11 (by rw [← e']; simpa using hm)
            omega
          have G5 := S5.1.heap GA hne
          have c5w : w7.cell? ⟨g11, 1, none⟩ = some (.slice aw mw cw) := by rw [cell_of_row w7 g11 1 _ _ _ G5]; rfl
          have f5w : w7.frozen? ⟨g11, 1, none⟩ = false := frozen_of_row w7 g11 1 _ _ G5
          have K35 : Kp [g11] w4 w7 := (unhide HKA).then S5.1 (fun i hi => .inr (by
            obtain ⟨a', m', c', l', e', h1, _⟩ := HAW
            exact h1.1.own i (by rw [← e']; simpa using hi)))
          have HNEXT : Hid (Pl w4.heap.size g11 q lg (some ⟨gz, 0, none⟩) 32 32 (k + 1) (w7.setCell ⟨g11, 1, none⟩ (.slice a5 m5 c5)) ∧ Kp [g11] w4 (w7.setCell ⟨g11, 1, none⟩ (.slice a5 m5 c5))) := by
            refine ⟨⟨ls ++ [(zs ++ [(k : Int)])], a5, m5, c5, by have := unhide HLS; simp; omega, ?_, ar_off A5 G5 (setCell_kp w7 g11 1 _) (by omega)⟩, K35.setCell (p := ⟨g11, 1, none⟩) (.inl (by simp)) _⟩
            have := heap_setCell_same w7 g11 1 _ _ (.slice a5 m5 c5) G5
            simpa using this
          clear K35 G5 hne A5 S5 HAW HOn hz1 GA HKA c1 HGx HKx HRt HBt
          refine hide ?_
          go_wp2_with fail
          go_roundw
          case rel => exact ⟨k + 1, by omega, by omega, by go_num, (unhide HNEXT).1, (unhide HNEXT).2⟩
          case measure => simp [intOf]; omega
        · have hl6i : ¬ (k : Int) < 6 := by omega
          obtain ⟨lc, hLc, hlc⟩ := ar_lc (unhide HA) (by omega)
          have hmw : mw = lc.length := by
            obtain ⟨_, _, e, _⟩ := hLc.shape
            injection e
          have c1 : wr.cell? ⟨g11, 1, none⟩ = some (.slice aw mw cw) := by rw [cell_of_row wr g11 1 _ _ _ (unhide HGr)]; rfl
          have hmk : mw = k := by rw [hmw, ← unhide HLS, ← hlc]; simp
          have HPV : Hid (PoV wr (.agg #[.slice (some ⟨gz, 0, none⟩) 32 32, .slice aw mw cw, .int .i64 q]) ⟨lg, ls, q⟩) := ⟨_, 32, 32, aw, mw, cw, lc, rfl, ⟨unhide HSr, unhide HLgB⟩, hLc, hlc⟩
          have HMK := hide hmk
          clear hLc hlc hmw hmk
          cases tw
          · skip
            have HKF := hide (unhide HKw)
            have HGF := hide (unhide HGr)
            obtain ⟨pp, hpp⟩ : ∃ p : Po, p = ⟨lg, ls, q⟩ := ⟨_, rfl⟩
            have HPF : Hid (PoV wr (.agg #[.slice (some ⟨gz, 0, none⟩) 32 32, .slice aw mw cw, .int .i64 q]) pp) := hide (by rw [hpp]; exact unhide HPV)
            clear hpp
            have HKD : Hid (∀ w', Kp [] wr.drew w' → Kp [] w w') := fun w' k' => (unhide HKF).trans ((kp_drew wr).trans k')
            have HU11 : Hid (∀ w', Kp [] wr.drew w' → w'.heap[g11]? = some (.cells #[.slice (some ⟨gz, 0, none⟩) 32 32, .slice aw mw cw, .int .i64 q] 42 (0, 0))) := fun w' k' => ((kp_drew wr).trans k').heap (unhide HGF) (by simp)
            have HPO : Hid (∀ w', Kp [] wr.drew w' → PoV w' (.agg #[.slice (some ⟨gz, 0, none⟩) 32 32, .slice aw mw cw, .int .i64 q]) pp) := fun w' k' => (unhide HPF).kept ((kp_drew wr).trans k')
            have HGW : Hid (∀ w', Kp [] wr.drew w' → Gl w') := fun w' k' => (unhide HG).kept (unhide HKD w' k') (by simp)
            obtain ⟨bb, hbb⟩ : ∃ b, b = pp.rgt := ⟨_, rfl⟩
            have HBB := hide hbb
            clear hbb
            go_wp2_with fail
            refine region_grow Tryd.mixed [Is (.agg #[.slice (some ⟨gz, 0, none⟩) 32 32, .slice aw mw cw, .int .i64 q]), Is (.bool bb), Is (.agg #[.slice (some ⟨gz, 0, none⟩) 32 32, .slice aw mw cw, .int .i64 q]), Is (.bool bb), Is (.bool true), Is (.bool true), Is (.bool true), Is (.bool true), Is (.bool true)] [[(11, none)], [(71, some 0)], [(11, none)], [(73, some 2)], [(72, some 1), (74, some 3)], [(75, some 4)], [(76, some 5)], [(76, some 5), (77, some 6)], [(78, some 7)]] (by kernel_rfl) ?_ ?_ ?_
            · simp only [List.mem_cons, List.not_mem_nil, or_false]
              intro R hR
              rcases hR with rfl | rfl | rfl | rfl | rfl | rfl | rfl | rfl | rfl <;> first | exact stable_is _
            · refine steps_cons (fun a w hk hn => ?_) ?_
              · have h11 : a.eval (.tmp 11) = .pointer (some ⟨g11, 0, none⟩) := hn.1
                clear hn
                refine wants_plain rfl ?_
                exact grown_loadf 42 (.tmp 11) rfl g11 0 h11 _ _ _ _ (unhide HU11 w hk) [.slice (some ⟨gz, 0, none⟩) 32 32, .slice aw mw cw, .int .i64 q] (flat_in rfl) Tryd.underlying42 rfl Tryd.polSize rfl
              refine steps_cons (fun a w hk hn => ?_) ?_
              · have h71 : a.eval (.tmp 71) = .agg #[.slice (some ⟨gz, 0, none⟩) 32 32, .slice aw mw cw, .int .i64 q] := hn.1
                clear hn
                refine wants_plain rfl ?_
                refine grown_call (f := 12) rfl Tryd.func12 (by kernel_rfl) (by kernel_rfl) ?_
                simp only [List.map_toArray, List.map_cons, List.map_nil, h71]
                refine (cright_any _ pp bb (unhide HBB) w (unhide HPO w hk)).mono ?_
                rintro e w' ⟨rfl, K⟩
                exact ⟨_, rfl, K, rfl⟩
              refine steps_cons (fun a w hk hn => ?_) ?_
              · have h11 : a.eval (.tmp 11) = .pointer (some ⟨g11, 0, none⟩) := hn.1
                clear hn
                refine wants_plain rfl ?_
                exact grown_loadf 42 (.tmp 11) rfl g11 0 h11 _ _ _ _ (unhide HU11 w hk) [.slice (some ⟨gz, 0, none⟩) 32 32, .slice aw mw cw, .int .i64 q] (flat_in rfl) Tryd.underlying42 rfl Tryd.polSize rfl
              refine steps_cons (fun a w hk hn => ?_) ?_
              · have h73 : a.eval (.tmp 73) = .agg #[.slice (some ⟨gz, 0, none⟩) 32 32, .slice aw mw cw, .int .i64 q] := hn.1
                clear hn
                refine wants_plain rfl ?_
                refine grown_call (f := 24) rfl Tryd.func24 (by kernel_rfl) (by kernel_rfl) ?_
                simp only [List.map_toArray, List.map_cons, List.map_nil, h73]
                refine (rpolicy_any _ pp bb (unhide HBB) w (unhide HPO w hk)).mono ?_
                rintro e w' ⟨rfl, K⟩
                exact ⟨_, rfl, K, rfl⟩
              refine steps_cons (fun a w hk hn => ?_) ?_
              · have h72 : a.eval (.tmp 72) = .bool bb := hn.1
                have h74 : a.eval (.tmp 74) = .bool bb := hn.2.1
                clear hn
                refine wants_plain rfl ?_
                refine grown_run (v := .bool true) ?_ (Kp.refl _ _) rfl
                obtain ⟨ρ, hρ, hc, hf, hg⟩ := eval_is a
                rw [hρ] at h72 h74 ⊢
                simp [go_sem, h72, h74]
              refine steps_cons (fun a w hk hn => ?_) ?_
              · have h75 : a.eval (.tmp 75) = .bool true := hn.1
                clear hn
                refine wants_plain rfl ?_
                exact grown_move (.tmp 75) rfl h75
              refine steps_cons (fun a w hk hn => ?_) ?_
              · have h76 : a.eval (.tmp 76) = .bool true := hn.1
                clear hn
                refine wants_guard (d := 76) rfl rfl h76 ?_
                refine grown_call (f := 17) rfl Tryd.func17 (by kernel_rfl) (by kernel_rfl) ?_
                simp only [List.map_toArray, List.map_nil]
                refine (known_any w (unhide HGW w hk)).mono ?_
                rintro e w' ⟨rfl, K⟩
                exact ⟨_, rfl, K, rfl⟩
              refine steps_cons (fun a w hk hn => ?_) ?_
              · have h76 : a.eval (.tmp 76) = .bool true := hn.1
                have h77 : a.eval (.tmp 77) = .bool true := hn.2.1
                clear hn
                refine wants_plain rfl ?_
                exact grown_pick _ _ _ true rfl h76 h77
              refine steps_cons (fun a w hk hn => ?_) ?_
              · have h78 : a.eval (.tmp 78) = .bool true := hn.1
                clear hn
                refine wants_plain rfl ?_
                exact grown_assign (.tmp 78) rfl h78
              exact trivial
            intro W2 hkW2
            rintro _ rfl
            rintro _ rfl
            rintro _ rfl
            rintro _ rfl
            rintro _ rfl
            rintro _ rfl
            rintro _ rfl
            rintro _ rfl
            rintro _ rfl
            refine fin_nil ?_
            simp only [Act.put, List.set_cons_zero, List.set_cons_succ, List.setIfInBounds_toArray]
            go_wp2_with fail
            go_ret
            exact ⟨rfl, (unhide HKD W2 hkW2).below (Nat.le_refl _) (by simp)⟩
          · by_cases h1 : ¬ 1 < (mw : Int)
            · skip
              have HKF := hide (unhide HKw)
              have HGF := hide (unhide HGr)
              obtain ⟨pp, hpp⟩ : ∃ p : Po, p = ⟨lg, ls, q⟩ := ⟨_, rfl⟩
              have HPF : Hid (PoV wr (.agg #[.slice (some ⟨gz, 0, none⟩) 32 32, .slice aw mw cw, .int .i64 q]) pp) := hide (by rw [hpp]; exact unhide HPV)
              clear hpp
              have HKD : Hid (∀ w', Kp [] wr.drew w' → Kp [] w w') := fun w' k' => (unhide HKF).trans ((kp_drew wr).trans k')
              have HU11 : Hid (∀ w', Kp [] wr.drew w' → w'.heap[g11]? = some (.cells #[.slice (some ⟨gz, 0, none⟩) 32 32, .slice aw mw cw, .int .i64 q] 42 (0, 0))) := fun w' k' => ((kp_drew wr).trans k').heap (unhide HGF) (by simp)
              have HPO : Hid (∀ w', Kp [] wr.drew w' → PoV w' (.agg #[.slice (some ⟨gz, 0, none⟩) 32 32, .slice aw mw cw, .int .i64 q]) pp) := fun w' k' => (unhide HPF).kept ((kp_drew wr).trans k')
              have HGW : Hid (∀ w', Kp [] wr.drew w' → Gl w') := fun w' k' => (unhide HG).kept (unhide HKD w' k') (by simp)
              obtain ⟨bb, hbb⟩ : ∃ b, b = pp.rgt := ⟨_, rfl⟩
              have HBB := hide hbb
              clear hbb
              go_wp2_with fail
              refine region_grow Tryd.mixed [Is (.agg #[.slice (some ⟨gz, 0, none⟩) 32 32, .slice aw mw cw, .int .i64 q]), Is (.bool bb), Is (.agg #[.slice (some ⟨gz, 0, none⟩) 32 32, .slice aw mw cw, .int .i64 q]), Is (.bool bb), Is (.bool true), Is (.bool true), Is (.bool true), Is (.bool true), Is (.bool true)] [[(11, none)], [(71, some 0)], [(11, none)], [(73, some 2)], [(72, some 1), (74, some 3)], [(75, some 4)], [(76, some 5)], [(76, some 5), (77, some 6)], [(78, some 7)]] (by kernel_rfl) ?_ ?_ ?_
              · simp only [List.mem_cons, List.not_mem_nil, or_false]
                intro R hR
                rcases hR with rfl | rfl | rfl | rfl | rfl | rfl | rfl | rfl | rfl <;> first | exact stable_is _
              · refine steps_cons (fun a w hk hn => ?_) ?_
                · have h11 : a.eval (.tmp 11) = .pointer (some ⟨g11, 0, none⟩) := hn.1
                  clear hn
                  refine wants_plain rfl ?_
                  exact grown_loadf 42 (.tmp 11) rfl g11 0 h11 _ _ _ _ (unhide HU11 w hk) [.slice (some ⟨gz, 0, none⟩) 32 32, .slice aw mw cw, .int .i64 q] (flat_in rfl) Tryd.underlying42 rfl Tryd.polSize rfl
                refine steps_cons (fun a w hk hn => ?_) ?_
                · have h71 : a.eval (.tmp 71) = .agg #[.slice (some ⟨gz, 0, none⟩) 32 32, .slice aw mw cw, .int .i64 q] := hn.1
                  clear hn
                  refine wants_plain rfl ?_
                  refine grown_call (f := 12) rfl Tryd.func12 (by kernel_rfl) (by kernel_rfl) ?_
                  simp only [List.map_toArray, List.map_cons, List.map_nil, h71]
                  refine (cright_any _ pp bb (unhide HBB) w (unhide HPO w hk)).mono ?_
                  rintro e w' ⟨rfl, K⟩
                  exact ⟨_, rfl, K, rfl⟩
                refine steps_cons (fun a w hk hn => ?_) ?_
                · have h11 : a.eval (.tmp 11) = .pointer (some ⟨g11, 0, none⟩) := hn.1
                  clear hn
                  refine wants_plain rfl ?_
                  exact grown_loadf 42 (.tmp 11) rfl g11 0 h11 _ _ _ _ (unhide HU11 w hk) [.slice (some ⟨gz, 0, none⟩) 32 32, .slice aw mw cw, .int .i64 q] (flat_in rfl) Tryd.underlying42 rfl Tryd.polSize rfl
                refine steps_cons (fun a w hk hn => ?_) ?_
                · have h73 : a.eval (.tmp 73) = .agg #[.slice (some ⟨gz, 0, none⟩) 32 32, .slice aw mw cw, .int .i64 q] := hn.1
                  clear hn
                  refine wants_plain rfl ?_
                  refine grown_call (f := 24) rfl Tryd.func24 (by kernel_rfl) (by kernel_rfl) ?_
                  simp only [List.map_toArray, List.map_cons, List.map_nil, h73]
                  refine (rpolicy_any _ pp bb (unhide HBB) w (unhide HPO w hk)).mono ?_
                  rintro e w' ⟨rfl, K⟩
                  exact ⟨_, rfl, K, rfl⟩
                refine steps_cons (fun a w hk hn => ?_) ?_
                · have h72 : a.eval (.tmp 72) = .bool bb := hn.1
                  have h74 : a.eval (.tmp 74) = .bool bb := hn.2.1
                  clear hn
                  refine wants_plain rfl ?_
                  refine grown_run (v := .bool true) ?_ (Kp.refl _ _) rfl
                  obtain ⟨ρ, hρ, hc, hf, hg⟩ := eval_is a
                  rw [hρ] at h72 h74 ⊢
                  simp [go_sem, h72, h74]
                refine steps_cons (fun a w hk hn => ?_) ?_
                · have h75 : a.eval (.tmp 75) = .bool true := hn.1
                  clear hn
                  refine wants_plain rfl ?_
                  exact grown_move (.tmp 75) rfl h75
                refine steps_cons (fun a w hk hn => ?_) ?_
                · have h76 : a.eval (.tmp 76) = .bool true := hn.1
                  clear hn
                  refine wants_guard (d := 76) rfl rfl h76 ?_
                  refine grown_call (f := 17) rfl Tryd.func17 (by kernel_rfl) (by kernel_rfl) ?_
                  simp only [List.map_toArray, List.map_nil]
                  refine (known_any w (unhide HGW w hk)).mono ?_
                  rintro e w' ⟨rfl, K⟩
                  exact ⟨_, rfl, K, rfl⟩
                refine steps_cons (fun a w hk hn => ?_) ?_
                · have h76 : a.eval (.tmp 76) = .bool true := hn.1
                  have h77 : a.eval (.tmp 77) = .bool true := hn.2.1
                  clear hn
                  refine wants_plain rfl ?_
                  exact grown_pick _ _ _ true rfl h76 h77
                refine steps_cons (fun a w hk hn => ?_) ?_
                · have h78 : a.eval (.tmp 78) = .bool true := hn.1
                  clear hn
                  refine wants_plain rfl ?_
                  exact grown_assign (.tmp 78) rfl h78
                exact trivial
              intro W2 hkW2
              rintro _ rfl
              rintro _ rfl
              rintro _ rfl
              rintro _ rfl
              rintro _ rfl
              rintro _ rfl
              rintro _ rfl
              rintro _ rfl
              rintro _ rfl
              refine fin_nil ?_
              simp only [Act.put, List.set_cons_zero, List.set_cons_succ, List.setIfInBounds_toArray]
              go_wp2_with fail
              go_ret
              exact ⟨rfl, (unhide HKD W2 hkW2).below (Nat.le_refl _) (by simp)⟩
            replace h1 : 1 < (mw : Int) := by omega
            have hmb : mw ≤ 6 := by have := unhide HMK; omega
            obtain ⟨m1, hm1⟩ : ∃ m1, mw = m1 + 1 := ⟨mw - 1, by omega⟩
            have hsub : IntKind.i64.wrap ((mw : Int) - 1) = (m1 : Int) := by simp [IntKind.wrap, IntKind.signed, IntKind.bits]; omega
            have hml1 : (m1 : Int) < (mw : Int) := by omega
            obtain ⟨a', m', c', l, el, hRS, hll⟩ := unhide HA
            injection el with q1 q2 q3
            subst q1
            subst q2
            subst q3
            obtain ⟨gw, rfl, hgw, hgz, hln, -, -⟩ := hRS.spot (by omega)
            have hl2 : l.length ≤ 1000 := by omega
            have hm1l : m1 < l.length := by omega
            obtain ⟨_, _, ex, _, hcx⟩ := hRS.lists hl2
            injection ex with ex1
            obtain ⟨bx, ox, ex2, hx, hSx, hBx⟩ := hcx m1 hm1l
            rw [← ex1] at ex2
            injection ex2 with ex2
            injection ex2 with ex3 ex4
            subst ex3
            subst ex4
            rw [Nat.zero_add] at hx
            have hap := (hRS.2 _ (List.getElem_mem hm1l)).2.2
            obtain ⟨x, hxe⟩ : ∃ x, x = l[m1] := ⟨_, rfl⟩
            rw [← hxe] at hx hSx hBx hap
            have HRS := hide hRS
            have HSx := hide hSx
            have HBx := hide hBx
            have HAP := hide hap
            have HLL := hide hll
            have HXE : Hid (x.1 = x.1) := rfl
            obtain ⟨ax, cx, hxv, -⟩ := hSx
            obtain ⟨nx, hnx⟩ : ∃ n, n = x.2.length := ⟨_, rfl⟩
            rw [← hnx] at hxv
            have HXV := hide hxv
            rw [hxv] at hx
            have HT11 : Hid (∀ w', Kp [] wr.drew w' → w'.heap[g11]? = some (.cells #[.slice (some ⟨gz, 0, none⟩) 32 32, .slice (some ⟨gw, 0, none⟩) mw cw, .int .i64 q] 42 (0, 0))) := fun w' k' => ((kp_drew wr).trans k').heap (unhide HGr) (by simp)
            have HXC : Hid (∀ w', Kp [] wr.drew w' → w'.cell? ⟨gw, m1, none⟩ = some (.slice ax nx cx)) := fun w' k' => ((kp_drew wr).trans k').cell hx (by simp)
            have hgne : g11 ≠ gw := by omega
            clear hx hBx hap hRS hll hxe hnx hxv hcx hm1 hm1l hl2 ex1
            go_wp2_with fail
            refine region_grow_tail 10 Tryd.mixed [Is (.pointer (some ⟨g11, 1, none⟩)), Is (.slice (some ⟨gw, 0, none⟩) mw cw), Is (.pointer (some ⟨g11, 1, none⟩)), Is (.slice (some ⟨gw, 0, none⟩) mw cw), Is (.pointer (some ⟨g11, 1, none⟩)), Is (.slice (some ⟨gw, 0, none⟩) mw cw), Is (.int .i64 mw), Is (.int .i64 m1), Is (.pointer (some ⟨gw, m1, none⟩)), Is (.slice ax nx cx)] [[(11, none)], [(60, some 0)], [(11, none)], [(62, some 2)], [(11, none)], [(64, some 4)], [(65, some 5)], [(66, some 6)], [(63, some 3), (67, some 7)], [(68, some 8)]] (by kernel_rfl) ?_ ?_ ?_
            all_goals try simp only [List.take_succ_cons, List.take_zero, List.drop_succ_cons, List.drop_zero]
            · simp only [List.mem_cons, List.not_mem_nil, or_false]
              intro R hR
              rcases hR with rfl | rfl | rfl | rfl | rfl | rfl | rfl | rfl | rfl | rfl <;> first | exact stable_is _
            · refine steps_cons (fun a w hk hn => ?_) ?_
              · have h11 : a.eval (.tmp 11) = .pointer (some ⟨g11, 0, none⟩) := hn.1
                clear hn
                refine wants_plain rfl ?_
                refine grown_run (v := .pointer (some ⟨g11, 1, none⟩)) ?_ (Kp.refl _ _) rfl
                obtain ⟨ρ, hρ, hc, hf, hg⟩ := eval_is a
                rw [hρ] at h11 ⊢
                simp [go_sem, h11]
              refine steps_cons (fun a w hk hn => ?_) ?_
              · have h60 : a.eval (.tmp 60) = .pointer (some ⟨g11, 1, none⟩) := hn.1
                clear hn
                refine wants_plain rfl ?_
                refine grown_run (v := .slice (some ⟨gw, 0, none⟩) mw cw) ?_ (Kp.refl _ _) rfl
                have hcell : w.cell? ⟨g11, 1, none⟩ = some (.slice (some ⟨gw, 0, none⟩) mw cw) := by rw [cell_of_row w g11 1 _ _ _ (unhide HT11 w hk)]; rfl
                obtain ⟨ρ, hρ, hc, hf, hg⟩ := eval_is a
                rw [hρ] at h60 ⊢
                simp [go_sem, h60, hcell]
              refine steps_cons (fun a w hk hn => ?_) ?_
              · have h11 : a.eval (.tmp 11) = .pointer (some ⟨g11, 0, none⟩) := hn.1
                clear hn
                refine wants_plain rfl ?_
                refine grown_run (v := .pointer (some ⟨g11, 1, none⟩)) ?_ (Kp.refl _ _) rfl
                obtain ⟨ρ, hρ, hc, hf, hg⟩ := eval_is a
                rw [hρ] at h11 ⊢
                simp [go_sem, h11]
              refine steps_cons (fun a w hk hn => ?_) ?_
              · have h62 : a.eval (.tmp 62) = .pointer (some ⟨g11, 1, none⟩) := hn.1
                clear hn
                refine wants_plain rfl ?_
                refine grown_run (v := .slice (some ⟨gw, 0, none⟩) mw cw) ?_ (Kp.refl _ _) rfl
                have hcell : w.cell? ⟨g11, 1, none⟩ = some (.slice (some ⟨gw, 0, none⟩) mw cw) := by rw [cell_of_row w g11 1 _ _ _ (unhide HT11 w hk)]; rfl
                obtain ⟨ρ, hρ, hc, hf, hg⟩ := eval_is a
                rw [hρ] at h62 ⊢
                simp [go_sem, h62, hcell]
              refine steps_cons (fun a w hk hn => ?_) ?_
              · have h11 : a.eval (.tmp 11) = .pointer (some ⟨g11, 0, none⟩) := hn.1
                clear hn
                refine wants_plain rfl ?_
                refine grown_run (v := .pointer (some ⟨g11, 1, none⟩)) ?_ (Kp.refl _ _) rfl
                obtain ⟨ρ, hρ, hc, hf, hg⟩ := eval_is a
                rw [hρ] at h11 ⊢
                simp [go_sem, h11]
              refine steps_cons (fun a w hk hn => ?_) ?_
              · have h64 : a.eval (.tmp 64) = .pointer (some ⟨g11, 1, none⟩) := hn.1
                clear hn
                refine wants_plain rfl ?_
                refine grown_run (v := .slice (some ⟨gw, 0, none⟩) mw cw) ?_ (Kp.refl _ _) rfl
                have hcell : w.cell? ⟨g11, 1, none⟩ = some (.slice (some ⟨gw, 0, none⟩) mw cw) := by rw [cell_of_row w g11 1 _ _ _ (unhide HT11 w hk)]; rfl
                obtain ⟨ρ, hρ, hc, hf, hg⟩ := eval_is a
                rw [hρ] at h64 ⊢
                simp [go_sem, h64, hcell]
              refine steps_cons (fun a w hk hn => ?_) ?_
              · have h65 : a.eval (.tmp 65) = .slice (some ⟨gw, 0, none⟩) mw cw := hn.1
                clear hn
                refine wants_plain rfl ?_
                refine grown_run (v := .int .i64 mw) ?_ (Kp.refl _ _) rfl
                obtain ⟨ρ, hρ, hc, hf, hg⟩ := eval_is a
                rw [hρ] at h65 ⊢
                simp [go_sem, h65]
              refine steps_cons (fun a w hk hn => ?_) ?_
              · have h66 : a.eval (.tmp 66) = .int .i64 mw := hn.1
                clear hn
                refine wants_plain rfl ?_
                refine grown_run (v := .int .i64 m1) ?_ (Kp.refl _ _) rfl
                obtain ⟨ρ, hρ, hc, hf, hg⟩ := eval_is a
                rw [hρ] at h66 ⊢
                simp [go_sem, hc, h66, hsub]
              refine steps_cons (fun a w hk hn => ?_) ?_
              · have h63 : a.eval (.tmp 63) = .slice (some ⟨gw, 0, none⟩) mw cw := hn.1
                have h67 : a.eval (.tmp 67) = .int .i64 m1 := hn.2.1
                clear hn
                refine wants_plain rfl ?_
                refine grown_run (v := .pointer (some ⟨gw, m1, none⟩)) ?_ (Kp.refl _ _) rfl
                obtain ⟨ρ, hρ, hc, hf, hg⟩ := eval_is a
                rw [hρ] at h63 h67 ⊢
                simp [go_sem, h63, h67, hml1]
              refine steps_cons (fun a w hk hn => ?_) ?_
              · have h68 : a.eval (.tmp 68) = .pointer (some ⟨gw, m1, none⟩) := hn.1
                clear hn
                refine wants_plain rfl ?_
                refine grown_run (v := .slice ax nx cx) ?_ (Kp.refl _ _) rfl
                have hcell := unhide HXC w hk
                obtain ⟨ρ, hρ, hc, hf, hg⟩ := eval_is a
                rw [hρ] at h68 ⊢
                simp [go_sem, h68, hcell]
              exact trivial
            intro W1 hkW1
            rintro _ rfl
            rintro _ rfl
            rintro _ rfl
            rintro _ rfl
            rintro _ rfl
            rintro _ rfl
            rintro _ rfl
            rintro _ rfl
            rintro _ rfl
            rintro _ rfl
            refine fin_nil ?_
            simp only [Act.put, List.set_cons_zero, List.set_cons_succ, List.setIfInBounds_toArray]
            obtain ⟨wD, hwD⟩ : ∃ x, x = W1 := ⟨_, rfl⟩
            have KrD : Kp [] wr W1 := (kp_drew wr).trans hkW1
            have RSD := (unhide HRS).kept KrD
            obtain ⟨gx, egx, -, -, -, hcx, hfx⟩ := RSD.spot (by omega)
            injection egx with egx
            injection egx with egx
            subst egx
            obtain ⟨u0, hu0⟩ := hcx 0 (by omega)
            have hf0 := hfx 0
            rw [← hwD] at hu0 hf0 KrD RSD ⊢
            have HRSD := hide RSD
            have HKD := hide KrD
            clear hwD hkW1 RSD KrD hcx hfx HT11 HXC
            have HSetR : Hid (RowS (wD.setCell ⟨gw, 0, none⟩ (.slice ax nx cx)) w4.heap.size (.slice (some ⟨gw, 0, none⟩) mw cw) (l.set 0 x)) := by
              have := RowS.set (unhide HRSD) 0 x ((unhide HSx).kept (unhide HKD) (by simp)) (unhide HBx) (fun h => unhide HAP gw h rfl)
              rw [unhide HXV] at this
              exact this
            have KS : Kp [gw] wD (wD.setCell ⟨gw, 0, none⟩ (.slice ax nx cx)) := setCell_kp wD gw 0 _
            have HKS := hide KS
            obtain ⟨wE, hwE⟩ : ∃ x, x = wD.setCell ⟨gw, 0, none⟩ (.slice ax nx cx) := ⟨_, rfl⟩
            have hgwz : w.heap.size ≤ gw := Nat.le_trans (unhide HK4).size hgw
            have HKF : Hid (Kp [] w wE) := hide (by rw [hwE]; exact ((unhide HKw).trans (unhide HKD)).then (unhide HKS) (fun i hi => .inr (by simp at hi; omega)))
            have HGF : Hid (wE.heap[g11]? = some (.cells #[.slice (some ⟨gz, 0, none⟩) 32 32, .slice (some ⟨gw, 0, none⟩) mw cw, .int .i64 q] 42 (0, 0))) := hide (by rw [hwE]; exact (unhide HKS).heap ((unhide HKD).heap (unhide HGr) (by simp)) (by simp; omega))
            obtain ⟨pp, hpp⟩ : ∃ p : Po, p = ⟨lg, (l.set 0 x).map (·.2), q⟩ := ⟨_, rfl⟩
            have HPF : Hid (PoV wE (.agg #[.slice (some ⟨gz, 0, none⟩) 32 32, .slice (some ⟨gw, 0, none⟩) mw cw, .int .i64 q]) pp) := hide (by
              rw [hpp, hwE]
              have h1 := unhide HSetR
              refine ⟨_, 32, 32, _, mw, cw, l.set 0 x, rfl, ⟨?_, unhide HLgB⟩, lc_of_owns h1.1 (h1.lists (by rw [List.length_set]; omega)), rfl⟩
              exact Sl.apart ((unhide HSr).kept (unhide HKD) (by simp)) (unhide HKS) (fun i hi hm => by
                have e : i = gw := by simpa using hm
                rcases unhide HLA i hi with h | h
                · exact h
                · omega))
            have HWE := hide hwE
            clear hwE hpp KS HSetR
            have hwk : (if True then 1 else 0) = 1 := rfl
            clear hwk
            go_wp2_with fail
            rw [← unhide HWE]
            have HKD : Hid (∀ w', Kp [] wE.drew w' → Kp [] w w') := fun w' k' => (unhide HKF).trans ((kp_drew wE).trans k')
            have HU11 : Hid (∀ w', Kp [] wE.drew w' → w'.heap[g11]? = some (.cells #[.slice (some ⟨gz, 0, none⟩) 32 32, .slice (some ⟨gw, 0, none⟩) mw cw, .int .i64 q] 42 (0, 0))) := fun w' k' => ((kp_drew wE).trans k').heap (unhide HGF) (by simp)
            have HPO : Hid (∀ w', Kp [] wE.drew w' → PoV w' (.agg #[.slice (some ⟨gz, 0, none⟩) 32 32, .slice (some ⟨gw, 0, none⟩) mw cw, .int .i64 q]) pp) := fun w' k' => (unhide HPF).kept ((kp_drew wE).trans k')
            have HGW : Hid (∀ w', Kp [] wE.drew w' → Gl w') := fun w' k' => (unhide HG).kept (unhide HKD w' k') (by simp)
            obtain ⟨bb, hbb⟩ : ∃ b, b = pp.rgt := ⟨_, rfl⟩
            have HBB := hide hbb
            clear hbb
            refine region_grow Tryd.mixed [Is (.agg #[.slice (some ⟨gz, 0, none⟩) 32 32, .slice (some ⟨gw, 0, none⟩) mw cw, .int .i64 q]), Is (.bool bb), Is (.agg #[.slice (some ⟨gz, 0, none⟩) 32 32, .slice (some ⟨gw, 0, none⟩) mw cw, .int .i64 q]), Is (.bool bb), Is (.bool true), Is (.bool true), Is (.bool true), Is (.bool true), Is (.bool true)] [[(11, none)], [(71, some 0)], [(11, none)], [(73, some 2)], [(72, some 1), (74, some 3)], [(75, some 4)], [(76, some 5)], [(76, some 5), (77, some 6)], [(78, some 7)]] (by kernel_rfl) ?_ ?_ ?_
            · simp only [List.mem_cons, List.not_mem_nil, or_false]
              intro R hR
              rcases hR with rfl | rfl | rfl | rfl | rfl | rfl | rfl | rfl | rfl <;> first | exact stable_is _
            · refine steps_cons (fun a w hk hn => ?_) ?_
              · have h11 : a.eval (.tmp 11) = .pointer (some ⟨g11, 0, none⟩) := hn.1
                clear hn
                refine wants_plain rfl ?_
                exact grown_loadf 42 (.tmp 11) rfl g11 0 h11 _ _ _ _ (unhide HU11 w hk) [.slice (some ⟨gz, 0, none⟩) 32 32, .slice (some ⟨gw, 0, none⟩) mw cw, .int .i64 q] (flat_in rfl) Tryd.underlying42 rfl Tryd.polSize rfl
              refine steps_cons (fun a w hk hn => ?_) ?_
              · have h71 : a.eval (.tmp 71) = .agg #[.slice (some ⟨gz, 0, none⟩) 32 32, .slice (some ⟨gw, 0, none⟩) mw cw, .int .i64 q] := hn.1
                clear hn
                refine wants_plain rfl ?_
                refine grown_call (f := 12) rfl Tryd.func12 (by kernel_rfl) (by kernel_rfl) ?_
                simp only [List.map_toArray, List.map_cons, List.map_nil, h71]
                refine (cright_any _ pp bb (unhide HBB) w (unhide HPO w hk)).mono ?_
                rintro e w' ⟨rfl, K⟩
                exact ⟨_, rfl, K, rfl⟩
              refine steps_cons (fun a w hk hn => ?_) ?_
              · have h11 : a.eval (.tmp 11) = .pointer (some ⟨g11, 0, none⟩) := hn.1
                clear hn
                refine wants_plain rfl ?_
                exact grown_loadf 42 (.tmp 11) rfl g11 0 h11 _ _ _ _ (unhide HU11 w hk) [.slice (some ⟨gz, 0, none⟩) 32 32, .slice (some ⟨gw, 0, none⟩) mw cw, .int .i64 q] (flat_in rfl) Tryd.underlying42 rfl Tryd.polSize rfl
              refine steps_cons (fun a w hk hn => ?_) ?_
              · have h73 : a.eval (.tmp 73) = .agg #[.slice (some ⟨gz, 0, none⟩) 32 32, .slice (some ⟨gw, 0, none⟩) mw cw, .int .i64 q] := hn.1
                clear hn
                refine wants_plain rfl ?_
                refine grown_call (f := 24) rfl Tryd.func24 (by kernel_rfl) (by kernel_rfl) ?_
                simp only [List.map_toArray, List.map_cons, List.map_nil, h73]
                refine (rpolicy_any _ pp bb (unhide HBB) w (unhide HPO w hk)).mono ?_
                rintro e w' ⟨rfl, K⟩
                exact ⟨_, rfl, K, rfl⟩
              refine steps_cons (fun a w hk hn => ?_) ?_
              · have h72 : a.eval (.tmp 72) = .bool bb := hn.1
                have h74 : a.eval (.tmp 74) = .bool bb := hn.2.1
                clear hn
                refine wants_plain rfl ?_
                refine grown_run (v := .bool true) ?_ (Kp.refl _ _) rfl
                obtain ⟨ρ, hρ, hc, hf, hg⟩ := eval_is a
                rw [hρ] at h72 h74 ⊢
                simp [go_sem, h72, h74]
              refine steps_cons (fun a w hk hn => ?_) ?_
              · have h75 : a.eval (.tmp 75) = .bool true := hn.1
                clear hn
                refine wants_plain rfl ?_
                exact grown_move (.tmp 75) rfl h75
              refine steps_cons (fun a w hk hn => ?_) ?_
              · have h76 : a.eval (.tmp 76) = .bool true := hn.1
                clear hn
                refine wants_guard (d := 76) rfl rfl h76 ?_
                refine grown_call (f := 17) rfl Tryd.func17 (by kernel_rfl) (by kernel_rfl) ?_
                simp only [List.map_toArray, List.map_nil]
                refine (known_any w (unhide HGW w hk)).mono ?_
                rintro e w' ⟨rfl, K⟩
                exact ⟨_, rfl, K, rfl⟩
              refine steps_cons (fun a w hk hn => ?_) ?_
              · have h76 : a.eval (.tmp 76) = .bool true := hn.1
                have h77 : a.eval (.tmp 77) = .bool true := hn.2.1
                clear hn
                refine wants_plain rfl ?_
                exact grown_pick _ _ _ true rfl h76 h77
              refine steps_cons (fun a w hk hn => ?_) ?_
              · have h78 : a.eval (.tmp 78) = .bool true := hn.1
                clear hn
                refine wants_plain rfl ?_
                exact grown_assign (.tmp 78) rfl h78
              exact trivial
            intro W2 hkW2
            rintro _ rfl
            rintro _ rfl
            rintro _ rfl
            rintro _ rfl
            rintro _ rfl
            rintro _ rfl
            rintro _ rfl
            rintro _ rfl
            rintro _ rfl
            refine fin_nil ?_
            simp only [Act.put, List.set_cons_zero, List.set_cons_succ, List.setIfInBounds_toArray]
            go_wp2_with fail
            go_ret
            exact ⟨rfl, (unhide HKD W2 hkW2).below (Nat.le_refl _) (by simp)⟩
      · have hlti : ¬ (k : Int) < (nk : Int) := by omega
        obtain ⟨lc, hLc, hlc⟩ := ar_lc (unhide HA) (by omega)
        have hmw : mw = lc.length := by
          obtain ⟨_, _, e, _⟩ := hLc.shape
          injection e
        have c1 : wr.cell? ⟨g11, 1, none⟩ = some (.slice aw mw cw) := by rw [cell_of_row wr g11 1 _ _ _ (unhide HGr)]; rfl
        have hmk : mw = k := by rw [hmw, ← unhide HLS, ← hlc]; simp
        have HPV : Hid (PoV wr (.agg #[.slice (some ⟨gz, 0, none⟩) 32 32, .slice aw mw cw, .int .i64 q]) ⟨lg, ls, q⟩) := ⟨_, 32, 32, aw, mw, cw, lc, rfl, ⟨unhide HSr, unhide HLgB⟩, hLc, hlc⟩
        have HMK := hide hmk
        clear hLc hlc hmw hmk
        cases tw
        · skip
          have HKF := hide (unhide HKw)
          have HGF := hide (unhide HGr)
          obtain ⟨pp, hpp⟩ : ∃ p : Po, p = ⟨lg, ls, q⟩ := ⟨_, rfl⟩
          have HPF : Hid (PoV wr (.agg #[.slice (some ⟨gz, 0, none⟩) 32 32, .slice aw mw cw, .int .i64 q]) pp) := hide (by rw [hpp]; exact unhide HPV)
          clear hpp
          have HKD : Hid (∀ w', Kp [] wr.drew w' → Kp [] w w') := fun w' k' => (unhide HKF).trans ((kp_drew wr).trans k')
          have HU11 : Hid (∀ w', Kp [] wr.drew w' → w'.heap[g11]? = some (.cells #[.slice (some ⟨gz, 0, none⟩) 32 32, .slice aw mw cw, .int .i64 q] 42 (0, 0))) := fun w' k' => ((kp_drew wr).trans k').heap (unhide HGF) (by simp)
          have HPO : Hid (∀ w', Kp [] wr.drew w' → PoV w' (.agg #[.slice (some ⟨gz, 0, none⟩) 32 32, .slice aw mw cw, .int .i64 q]) pp) := fun w' k' => (unhide HPF).kept ((kp_drew wr).trans k')
          have HGW : Hid (∀ w', Kp [] wr.drew w' → Gl w') := fun w' k' => (unhide HG).kept (unhide HKD w' k') (by simp)
          obtain ⟨bb, hbb⟩ : ∃ b, b = pp.rgt := ⟨_, rfl⟩
          have HBB := hide hbb
          clear hbb
          go_wp2_with fail
          refine region_grow Tryd.mixed [Is (.agg #[.slice (some ⟨gz, 0, none⟩) 32 32, .slice aw mw cw, .int .i64 q]), Is (.bool bb), Is (.agg #[.slice (some ⟨gz, 0, none⟩) 32 32, .slice aw mw cw, .int .i64 q]), Is (.bool bb), Is (.bool true), Is (.bool true), Is (.bool true), Is (.bool true), Is (.bool true)] [[(11, none)], [(71, some 0)], [(11, none)], [(73, some 2)], [(72, some 1), (74, some 3)], [(75, some 4)], [(76, some 5)], [(76, some 5), (77, some 6)], [(78, some 7)]] (by kernel_rfl) ?_ ?_ ?_
          · simp only [List.mem_cons, List.not_mem_nil, or_false]
            intro R hR
            rcases hR with rfl | rfl | rfl | rfl | rfl | rfl | rfl | rfl | rfl <;> first | exact stable_is _
          · refine steps_cons (fun a w hk hn => ?_) ?_
            · have h11 : a.eval (.tmp 11) = .pointer (some ⟨g11, 0, none⟩) := hn.1
              clear hn
              refine wants_plain rfl ?_
              exact grown_loadf 42 (.tmp 11) rfl g11 0 h11 _ _ _ _ (unhide HU11 w hk) [.slice (some ⟨gz, 0, none⟩) 32 32, .slice aw mw cw, .int .i64 q] (flat_in rfl) Tryd.underlying42 rfl Tryd.polSize rfl
            refine steps_cons (fun a w hk hn => ?_) ?_
            · have h71 : a.eval (.tmp 71) = .agg #[.slice (some ⟨gz, 0, none⟩) 32 32, .slice aw mw cw, .int .i64 q] := hn.1
              clear hn
              refine wants_plain rfl ?_
              refine grown_call (f := 12) rfl Tryd.func12 (by kernel_rfl) (by kernel_rfl) ?_
              simp only [List.map_toArray, List.map_cons, List.map_nil, h71]
              refine (cright_any _ pp bb (unhide HBB) w (unhide HPO w hk)).mono ?_
              rintro e w' ⟨rfl, K⟩
              exact ⟨_, rfl, K, rfl⟩
            refine steps_cons (fun a w hk hn => ?_) ?_
            · have h11 : a.eval (.tmp 11) = .pointer (some ⟨g11, 0, none⟩) := hn.1
              clear hn
              refine wants_plain rfl ?_
              exact grown_loadf 42 (.tmp 11) rfl g11 0 h11 _ _ _ _ (unhide HU11 w hk) [.slice (some ⟨gz, 0, none⟩) 32 32, .slice aw mw cw, .int .i64 q] (flat_in rfl) Tryd.underlying42 rfl Tryd.polSize rfl
            refine steps_cons (fun a w hk hn => ?_) ?_
            · have h73 : a.eval (.tmp 73) = .agg #[.slice (some ⟨gz, 0, none⟩) 32 32, .slice aw mw cw, .int .i64 q] := hn.1
              clear hn
              refine wants_plain rfl ?_
              refine grown_call (f := 24) rfl Tryd.func24 (by kernel_rfl) (by kernel_rfl) ?_
              simp only [List.map_toArray, List.map_cons, List.map_nil, h73]
              refine (rpolicy_any _ pp bb (unhide HBB) w (unhide HPO w hk)).mono ?_
              rintro e w' ⟨rfl, K⟩
              exact ⟨_, rfl, K, rfl⟩
            refine steps_cons (fun a w hk hn => ?_) ?_
            · have h72 : a.eval (.tmp 72) = .bool bb := hn.1
              have h74 : a.eval (.tmp 74) = .bool bb := hn.2.1
              clear hn
              refine wants_plain rfl ?_
              refine grown_run (v := .bool true) ?_ (Kp.refl _ _) rfl
              obtain ⟨ρ, hρ, hc, hf, hg⟩ := eval_is a
              rw [hρ] at h72 h74 ⊢
              simp [go_sem, h72, h74]
            refine steps_cons (fun a w hk hn => ?_) ?_
            · have h75 : a.eval (.tmp 75) = .bool true := hn.1
              clear hn
              refine wants_plain rfl ?_
              exact grown_move (.tmp 75) rfl h75
            refine steps_cons (fun a w hk hn => ?_) ?_
            · have h76 : a.eval (.tmp 76) = .bool true := hn.1
              clear hn
              refine wants_guard (d := 76) rfl rfl h76 ?_
              refine grown_call (f := 17) rfl Tryd.func17 (by kernel_rfl) (by kernel_rfl) ?_
              simp only [List.map_toArray, List.map_nil]
              refine (known_any w (unhide HGW w hk)).mono ?_
              rintro e w' ⟨rfl, K⟩
              exact ⟨_, rfl, K, rfl⟩
            refine steps_cons (fun a w hk hn => ?_) ?_
            · have h76 : a.eval (.tmp 76) = .bool true := hn.1
              have h77 : a.eval (.tmp 77) = .bool true := hn.2.1
              clear hn
              refine wants_plain rfl ?_
              exact grown_pick _ _ _ true rfl h76 h77
            refine steps_cons (fun a w hk hn => ?_) ?_
            · have h78 : a.eval (.tmp 78) = .bool true := hn.1
              clear hn
              refine wants_plain rfl ?_
              exact grown_assign (.tmp 78) rfl h78
            exact trivial
          intro W2 hkW2
          rintro _ rfl
          rintro _ rfl
          rintro _ rfl
          rintro _ rfl
          rintro _ rfl
          rintro _ rfl
          rintro _ rfl
          rintro _ rfl
          rintro _ rfl
          refine fin_nil ?_
          simp only [Act.put, List.set_cons_zero, List.set_cons_succ, List.setIfInBounds_toArray]
          go_wp2_with fail
          go_ret
          exact ⟨rfl, (unhide HKD W2 hkW2).below (Nat.le_refl _) (by simp)⟩
        · by_cases h1 : ¬ 1 < (mw : Int)
          · skip
            have HKF := hide (unhide HKw)
            have HGF := hide (unhide HGr)
            obtain ⟨pp, hpp⟩ : ∃ p : Po, p = ⟨lg, ls, q⟩ := ⟨_, rfl⟩
            have HPF : Hid (PoV wr (.agg #[.slice (some ⟨gz, 0, none⟩) 32 32, .slice aw mw cw, .int .i64 q]) pp) := hide (by rw [hpp]; exact unhide HPV)
            clear hpp
            have HKD : Hid (∀ w', Kp [] wr.drew w' → Kp [] w w') := fun w' k' => (unhide HKF).trans ((kp_drew wr).trans k')
            have HU11 : Hid (∀ w', Kp [] wr.drew w' → w'.heap[g11]? = some (.cells #[.slice (some ⟨gz, 0, none⟩) 32 32, .slice aw mw cw, .int .i64 q] 42 (0, 0))) := fun w' k' => ((kp_drew wr).trans k').heap (unhide HGF) (by simp)
            have HPO : Hid (∀ w', Kp [] wr.drew w' → PoV w' (.agg #[.slice (some ⟨gz, 0, none⟩) 32 32, .slice aw mw cw, .int .i64 q]) pp) := fun w' k' => (unhide HPF).kept ((kp_drew wr).trans k')
            have HGW : Hid (∀ w', Kp [] wr.drew w' → Gl w') := fun w' k' => (unhide HG).kept (unhide HKD w' k') (by simp)
            obtain ⟨bb, hbb⟩ : ∃ b, b = pp.rgt := ⟨_, rfl⟩
            have HBB := hide hbb
            clear hbb
            go_wp2_with fail
            refine region_grow Tryd.mixed [Is (.agg #[.slice (some ⟨gz, 0, none⟩) 32 32, .slice aw mw cw, .int .i64 q]), Is (.bool bb), Is (.agg #[.slice (some ⟨gz, 0, none⟩) 32 32, .slice aw mw cw, .int .i64 q]), Is (.bool bb), Is (.bool true), Is (.bool true), Is (.bool true), Is (.bool true), Is (.bool true)] [[(11, none)], [(71, some 0)], [(11, none)], [(73, some 2)], [(72, some 1), (74, some 3)], [(75, some 4)], [(76, some 5)], [(76, some 5), (77, some 6)], [(78, some 7)]] (by kernel_rfl) ?_ ?_ ?_
            · simp only [List.mem_cons, List.not_mem_nil, or_false]
              intro R hR
              rcases hR with rfl | rfl | rfl | rfl | rfl | rfl | rfl | rfl | rfl <;> first | exact stable_is _
            · refine steps_cons (fun a w hk hn => ?_) ?_
              · have h11 : a.eval (.tmp 11) = .pointer (some ⟨g11, 0, none⟩) := hn.1
                clear hn
                refine wants_plain rfl ?_
                exact grown_loadf 42 (.tmp 11) rfl g11 0 h11 _ _ _ _ (unhide HU11 w hk) [.slice (some ⟨gz, 0, none⟩) 32 32, .slice aw mw cw, .int .i64 q] (flat_in rfl) Tryd.underlying42 rfl Tryd.polSize rfl
              refine steps_cons (fun a w hk hn => ?_) ?_
              · have h71 : a.eval (.tmp 71) = .agg #[.slice (some ⟨gz, 0, none⟩) 32 32, .slice aw mw cw, .int .i64 q] := hn.1
                clear hn
                refine wants_plain rfl ?_
                refine grown_call (f := 12) rfl Tryd.func12 (by kernel_rfl) (by kernel_rfl) ?_
                simp only [List.map_toArray, List.map_cons, List.map_nil, h71]
                refine (cright_any _ pp bb (unhide HBB) w (unhide HPO w hk)).mono ?_
                rintro e w' ⟨rfl, K⟩
                exact ⟨_, rfl, K, rfl⟩
              refine steps_cons (fun a w hk hn => ?_) ?_
              · have h11 : a.eval (.tmp 11) = .pointer (some ⟨g11, 0, none⟩) := hn.1
                clear hn
                refine wants_plain rfl ?_
                exact grown_loadf 42 (.tmp 11) rfl g11 0 h11 _ _ _ _ (unhide HU11 w hk) [.slice (some ⟨gz, 0, none⟩) 32 32, .slice aw mw cw, .int .i64 q] (flat_in rfl) Tryd.underlying42 rfl Tryd.polSize rfl
              refine steps_cons (fun a w hk hn => ?_) ?_
              · have h73 : a.eval (.tmp 73) = .agg #[.slice (some ⟨gz, 0, none⟩) 32 32, .slice aw mw cw, .int .i64 q] := hn.1
                clear hn
                refine wants_plain rfl ?_
                refine grown_call (f := 24) rfl Tryd.func24 (by kernel_rfl) (by kernel_rfl) ?_
                simp only [List.map_toArray, List.map_cons, List.map_nil, h73]
                refine (rpolicy_any _ pp bb (unhide HBB) w (unhide HPO w hk)).mono ?_
                rintro e w' ⟨rfl, K⟩
                exact ⟨_, rfl, K, rfl⟩
              refine steps_cons (fun a w hk hn => ?_) ?_
              · have h72 : a.eval (.tmp 72) = .bool bb := hn.1
                have h74 : a.eval (.tmp 74) = .bool bb := hn.2.1
                clear hn
                refine wants_plain rfl ?_
                refine grown_run (v := .bool true) ?_ (Kp.refl _ _) rfl
                obtain ⟨ρ, hρ, hc, hf, hg⟩ := eval_is a
                rw [hρ] at h72 h74 ⊢
                simp [go_sem, h72, h74]
              refine steps_cons (fun a w hk hn => ?_) ?_
              · have h75 : a.eval (.tmp 75) = .bool true := hn.1
                clear hn
                refine wants_plain rfl ?_
                exact grown_move (.tmp 75) rfl h75
              refine steps_cons (fun a w hk hn => ?_) ?_
              · have h76 : a.eval (.tmp 76) = .bool true := hn.1
                clear hn
                refine wants_guard (d := 76) rfl rfl h76 ?_
                refine grown_call (f := 17) rfl Tryd.func17 (by kernel_rfl) (by kernel_rfl) ?_
                simp only [List.map_toArray, List.map_nil]
                refine (known_any w (unhide HGW w hk)).mono ?_
                rintro e w' ⟨rfl, K⟩
                exact ⟨_, rfl, K, rfl⟩
              refine steps_cons (fun a w hk hn => ?_) ?_
              · have h76 : a.eval (.tmp 76) = .bool true := hn.1
                have h77 : a.eval (.tmp 77) = .bool true := hn.2.1
                clear hn
                refine wants_plain rfl ?_
                exact grown_pick _ _ _ true rfl h76 h77
              refine steps_cons (fun a w hk hn => ?_) ?_
              · have h78 : a.eval (.tmp 78) = .bool true := hn.1
                clear hn
                refine wants_plain rfl ?_
                exact grown_assign (.tmp 78) rfl h78
              exact trivial
            intro W2 hkW2
            rintro _ rfl
            rintro _ rfl
            rintro _ rfl
            rintro _ rfl
            rintro _ rfl
            rintro _ rfl
            rintro _ rfl
            rintro _ rfl
            rintro _ rfl
            refine fin_nil ?_
            simp only [Act.put, List.set_cons_zero, List.set_cons_succ, List.setIfInBounds_toArray]
            go_wp2_with fail
            go_ret
            exact ⟨rfl, (unhide HKD W2 hkW2).below (Nat.le_refl _) (by simp)⟩
          replace h1 : 1 < (mw : Int) := by omega
          have hmb : mw ≤ 6 := by have := unhide HMK; omega
          obtain ⟨m1, hm1⟩ : ∃ m1, mw = m1 + 1 := ⟨mw - 1, by omega⟩
          have hsub : IntKind.i64.wrap ((mw : Int) - 1) = (m1 : Int) := by simp [IntKind.wrap, IntKind.signed, IntKind.bits]; omega
          have hml1 : (m1 : Int) < (mw : Int) := by omega
          obtain ⟨a', m', c', l, el, hRS, hll⟩ := unhide HA
          injection el with q1 q2 q3
          subst q1
          subst q2
          subst q3
          obtain ⟨gw, rfl, hgw, hgz, hln, -, -⟩ := hRS.spot (by omega)
          have hl2 : l.length ≤ 1000 := by omega
          have hm1l : m1 < l.length := by omega
          obtain ⟨_, _, ex, _, hcx⟩ := hRS.lists hl2
          injection ex with ex1
          obtain ⟨bx, ox, ex2, hx, hSx, hBx⟩ := hcx m1 hm1l
          rw [← ex1] at ex2
          injection ex2 with ex2
          injection ex2 with ex3 ex4
          subst ex3
          subst ex4
          rw [Nat.zero_add] at hx
          have hap := (hRS.2 _ (List.getElem_mem hm1l)).2.2
          obtain ⟨x, hxe⟩ : ∃ x, x = l[m1] := ⟨_, rfl⟩
          rw [← hxe] at hx hSx hBx hap
          have HRS := hide hRS
          have HSx := hide hSx
          have HBx := hide hBx
          have HAP := hide hap
          have HLL := hide hll
          have HXE : Hid (x.1 = x.1) := rfl
          obtain ⟨ax, cx, hxv, -⟩ := hSx
          obtain ⟨nx, hnx⟩ : ∃ n, n = x.2.length := ⟨_, rfl⟩
          rw [← hnx] at hxv
          have HXV := hide hxv
          rw [hxv] at hx
          have HT11 : Hid (∀ w', Kp [] wr.drew w' → w'.heap[g11]? = some (.cells #[.slice (some ⟨gz, 0, none⟩) 32 32, .slice (some ⟨gw, 0, none⟩) mw cw, .int .i64 q] 42 (0, 0))) := fun w' k' => ((kp_drew wr).trans k').heap (unhide HGr) (by simp)
          have HXC : Hid (∀ w', Kp [] wr.drew w' → w'.cell? ⟨gw, m1, none⟩ = some (.slice ax nx cx)) := fun w' k' => ((kp_drew wr).trans k').cell hx (by simp)
          have hgne : g11 ≠ gw := by omega
          clear hx hBx hap hRS hll hxe hnx hxv hcx hm1 hm1l hl2 ex1
          go_wp2_with fail
          refine region_grow_tail 10 Tryd.mixed [Is (.pointer (some ⟨g11, 1, none⟩)), Is (.slice (some ⟨gw, 0, none⟩) mw cw), Is (.pointer (some ⟨g11, 1, none⟩)), Is (.slice (some ⟨gw, 0, none⟩) mw cw), Is (.pointer (some ⟨g11, 1, none⟩)), Is (.slice (some ⟨gw, 0, none⟩) mw cw), Is (.int .i64 mw), Is (.int .i64 m1), Is (.pointer (some ⟨gw, m1, none⟩)), Is (.slice ax nx cx)] [[(11, none)], [(60, some 0)], [(11, none)], [(62, some 2)], [(11, none)], [(64, some 4)], [(65, some 5)], [(66, some 6)], [(63, some 3), (67, some 7)], [(68, some 8)]] (by kernel_rfl) ?_ ?_ ?_
          all_goals try simp only [List.take_succ_cons, List.take_zero, List.drop_succ_cons, List.drop_zero]
          · simp only [List.mem_cons, List.not_mem_nil, or_false]
            intro R hR
            rcases hR with rfl | rfl | rfl | rfl | rfl | rfl | rfl | rfl | rfl | rfl <;> first | exact stable_is _
          · refine steps_cons (fun a w hk hn => ?_) ?_
            · have h11 : a.eval (.tmp 11) = .pointer (some ⟨g11, 0, none⟩) := hn.1
              clear hn
              refine wants_plain rfl ?_
              refine grown_run (v := .pointer (some ⟨g11, 1, none⟩)) ?_ (Kp.refl _ _) rfl
              obtain ⟨ρ, hρ, hc, hf, hg⟩ := eval_is a
              rw [hρ] at h11 ⊢
              simp [go_sem, h11]
            refine steps_cons (fun a w hk hn => ?_) ?_
            · have h60 : a.eval (.tmp 60) = .pointer (some ⟨g11, 1, none⟩) := hn.1
              clear hn
              refine wants_plain rfl ?_
              refine grown_run (v := .slice (some ⟨gw, 0, none⟩) mw cw) ?_ (Kp.refl _ _) rfl
              have hcell : w.cell? ⟨g11, 1, none⟩ = some (.slice (some ⟨gw, 0, none⟩) mw cw) := by rw [cell_of_row w g11 1 _ _ _ (unhide HT11 w hk)]; rfl
              obtain ⟨ρ, hρ, hc, hf, hg⟩ := eval_is a
              rw [hρ] at h60 ⊢
              simp [go_sem, h60, hcell]
            refine steps_cons (fun a w hk hn => ?_) ?_
            · have h11 : a.eval (.tmp 11) = .pointer (some ⟨g11, 0, none⟩) := hn.1
              clear hn
              refine wants_plain rfl ?_
              refine grown_run (v := .pointer (some ⟨g11, 1, none⟩)) ?_ (Kp.refl _ _) rfl
              obtain ⟨ρ, hρ, hc, hf, hg⟩ := eval_is a
              rw [hρ] at h11 ⊢
              simp [go_sem, h11]
            refine steps_cons (fun a w hk hn => ?_) ?_
            · have h62 : a.eval (.tmp 62) = .pointer (some ⟨g11, 1, none⟩) := hn.1
              clear hn
              refine wants_plain rfl ?_
              refine grown_run (v := .slice (some ⟨gw, 0, none⟩) mw cw) ?_ (Kp.refl _ _) rfl
              have hcell : w.cell? ⟨g11, 1, none⟩ = some (.slice (some ⟨gw, 0, none⟩) mw cw) := by rw [cell_of_row w g11 1 _ _ _ (unhide HT11 w hk)]; rfl
              obtain ⟨ρ, hρ, hc, hf, hg⟩ := eval_is a
              rw [hρ] at h62 ⊢
              simp [go_sem, h62, hcell]
            refine steps_cons (fun a w hk hn => ?_) ?_
            · have h11 : a.eval (.tmp 11) = .pointer (some ⟨g11, 0, none⟩) := hn.1
              clear hn
              refine wants_plain rfl ?_
              refine grown_run (v := .pointer (some ⟨g11, 1, none⟩)) ?_ (Kp.refl _ _) rfl
              obtain ⟨ρ, hρ, hc, hf, hg⟩ := eval_is a
              rw [hρ] at h11 ⊢
              simp [go_sem, h11]
            refine steps_cons (fun a w hk hn => ?_) ?_
            · have h64 : a.eval (.tmp 64) = .pointer (some ⟨g11, 1, none⟩) := hn.1
              clear hn
              refine wants_plain rfl ?_
              refine grown_run (v := .slice (some ⟨gw, 0, none⟩) mw cw) ?_ (Kp.refl _ _) rfl
              have hcell : w.cell? ⟨g11, 1, none⟩ = some (.slice (some ⟨gw, 0, none⟩) mw cw) := by rw [cell_of_row w g11 1 _ _ _ (unhide HT11 w hk)]; rfl
              obtain ⟨ρ, hρ, hc, hf, hg⟩ := eval_is a
              rw [hρ] at h64 ⊢
              simp [go_sem, h64, hcell]
            refine steps_cons (fun a w hk hn => ?_) ?_
            · have h65 : a.eval (.tmp 65) = .slice (some ⟨gw, 0, none⟩) mw cw := hn.1
              clear hn
              refine wants_plain rfl ?_
              refine grown_run (v := .int .i64 mw) ?_ (Kp.refl _ _) rfl
              obtain ⟨ρ, hρ, hc, hf, hg⟩ := eval_is a
              rw [hρ] at h65 ⊢
              simp [go_sem, h65]
            refine steps_cons (fun a w hk hn => ?_) ?_
            · have h66 : a.eval (.tmp 66) = .int .i64 mw := hn.1
              clear hn
              refine wants_plain rfl ?_
              refine grown_run (v := .int .i64 m1) ?_ (Kp.refl _ _) rfl
              obtain ⟨ρ, hρ, hc, hf, hg⟩ := eval_is a
              rw [hρ] at h66 ⊢
              simp [go_sem, hc, h66, hsub]
            refine steps_cons (fun a w hk hn => ?_) ?_
            · have h63 : a.eval (.tmp 63) = .slice (some ⟨gw, 0, none⟩) mw cw := hn.1
              have h67 : a.eval (.tmp 67) = .int .i64 m1 := hn.2.1
              clear hn
              refine wants_plain rfl ?_
              refine grown_run (v := .pointer (some ⟨gw, m1, none⟩)) ?_ (Kp.refl _ _) rfl
              obtain ⟨ρ, hρ, hc, hf, hg⟩ := eval_is a
              rw [hρ] at h63 h67 ⊢
              simp [go_sem, h63, h67, hml1]
            refine steps_cons (fun a w hk hn => ?_) ?_
            · have h68 : a.eval (.tmp 68) = .pointer (some ⟨gw, m1, none⟩) := hn.1
              clear hn
              refine wants_plain rfl ?_
              refine grown_run (v := .slice ax nx cx) ?_ (Kp.refl _ _) rfl
              have hcell := unhide HXC w hk
              obtain ⟨ρ, hρ, hc, hf, hg⟩ := eval_is a
              rw [hρ] at h68 ⊢
              simp [go_sem, h68, hcell]
            exact trivial
          intro W1 hkW1
          rintro _ rfl
          rintro _ rfl
          rintro _ rfl
          rintro _ rfl
          rintro _ rfl
          rintro _ rfl
          rintro _ rfl
          rintro _ rfl
          rintro _ rfl
          rintro _ rfl
          refine fin_nil ?_
          simp only [Act.put, List.set_cons_zero, List.set_cons_succ, List.setIfInBounds_toArray]
          obtain ⟨wD, hwD⟩ : ∃ x, x = W1 := ⟨_, rfl⟩
          have KrD : Kp [] wr W1 := (kp_drew wr).trans hkW1
          have RSD := (unhide HRS).kept KrD
          obtain ⟨gx, egx, -, -, -, hcx, hfx⟩ := RSD.spot (by omega)
          injection egx with egx
          injection egx with egx
          subst egx
          obtain ⟨u0, hu0⟩ := hcx 0 (by omega)
          have hf0 := hfx 0
          rw [← hwD] at hu0 hf0 KrD RSD ⊢
          have HRSD := hide RSD
          have HKD := hide KrD
          clear hwD hkW1 RSD KrD hcx hfx HT11 HXC
          have HSetR : Hid (RowS (wD.setCell ⟨gw, 0, none⟩ (.slice ax nx cx)) w4.heap.size (.slice (some ⟨gw, 0, none⟩) mw cw) (l.set 0 x)) := by
            have := RowS.set (unhide HRSD) 0 x ((unhide HSx).kept (unhide HKD) (by simp)) (unhide HBx) (fun h => unhide HAP gw h rfl)
            rw [unhide HXV] at this
            exact this
          have KS : Kp [gw] wD (wD.setCell ⟨gw, 0, none⟩ (.slice ax nx cx)) := setCell_kp wD gw 0 _
          have HKS := hide KS
          obtain ⟨wE, hwE⟩ : ∃ x, x = wD.setCell ⟨gw, 0, none⟩ (.slice ax nx cx) := ⟨_, rfl⟩
          have hgwz : w.heap.size ≤ gw := Nat.le_trans (unhide HK4).size hgw
          have HKF : Hid (Kp [] w wE) := hide (by rw [hwE]; exact ((unhide HKw).trans (unhide HKD)).then (unhide HKS) (fun i hi => .inr (by simp at hi; omega)))
          have HGF : Hid (wE.heap[g11]? = some (.cells #[.slice (some ⟨gz, 0, none⟩) 32 32, .slice (some ⟨gw, 0, none⟩) mw cw, .int .i64 q] 42 (0, 0))) := hide (by rw [hwE]; exact (unhide HKS).heap ((unhide HKD).heap (unhide HGr) (by simp)) (by simp; omega))
          obtain ⟨pp, hpp⟩ : ∃ p : Po, p = ⟨lg, (l.set 0 x).map (·.2), q⟩ := ⟨_, rfl⟩
          have HPF : Hid (PoV wE (.agg #[.slice (some ⟨gz, 0, none⟩) 32 32, .slice (some ⟨gw, 0, none⟩) mw cw, .int .i64 q]) pp) := hide (by
            rw [hpp, hwE]
            have h1 := unhide HSetR
            refine ⟨_, 32, 32, _, mw, cw, l.set 0 x, rfl, ⟨?_, unhide HLgB⟩, lc_of_owns h1.1 (h1.lists (by rw [List.length_set]; omega)), rfl⟩
            exact Sl.apart ((unhide HSr).kept (unhide HKD) (by simp)) (unhide HKS) (fun i hi hm => by
              have e : i = gw := by simpa using hm
              rcases unhide HLA i hi with h | h
              · exact h
              · omega))
          have HWE := hide hwE
          clear hwE hpp KS HSetR
          have hwk : (if True then 1 else 0) = 1 := rfl
          clear hwk
          go_wp2_with fail
          rw [← unhide HWE]
          have HKD : Hid (∀ w', Kp [] wE.drew w' → Kp [] w w') := fun w' k' => (unhide HKF).trans ((kp_drew wE).trans k')
          have HU11 : Hid (∀ w', Kp [] wE.drew w' → w'.heap[g11]? = some (.cells #[.slice (some ⟨gz, 0, none⟩) 32 32, .slice (some ⟨gw, 0, none⟩) mw cw, .int .i64 q] 42 (0, 0))) := fun w' k' => ((kp_drew wE).trans k').heap (unhide HGF) (by simp)
          have HPO : Hid (∀ w', Kp [] wE.drew w' → PoV w' (.agg #[.slice (some ⟨gz, 0, none⟩) 32 32, .slice (some ⟨gw, 0, none⟩) mw cw, .int .i64 q]) pp) := fun w' k' => (unhide HPF).kept ((kp_drew wE).trans k')
          have HGW : Hid (∀ w', Kp [] wE.drew w' → Gl w') := fun w' k' => (unhide HG).kept (unhide HKD w' k') (by simp)
          obtain ⟨bb, hbb⟩ : ∃ b, b = pp.rgt := ⟨_, rfl⟩
          have HBB := hide hbb
          clear hbb
          refine region_grow Tryd.mixed [Is (.agg #[.slice (some ⟨gz, 0, none⟩) 32 32, .slice (some ⟨gw, 0, none⟩) mw cw, .int .i64 q]), Is (.bool bb), Is (.agg #[.slice (some ⟨gz, 0, none⟩) 32 32, .slice (some ⟨gw, 0, none⟩) mw cw, .int .i64 q]), Is (.bool bb), Is (.bool true), Is (.bool true), Is (.bool true), Is (.bool true), Is (.bool true)] [[(11, none)], [(71, some 0)], [(11, none)], [(73, some 2)], [(72, some 1), (74, some 3)], [(75, some 4)], [(76, some 5)], [(76, some 5), (77, some 6)], [(78, some 7)]] (by kernel_rfl) ?_ ?_ ?_
          · simp only [List.mem_cons, List.not_mem_nil, or_false]
            intro R hR
            rcases hR with rfl | rfl | rfl | rfl | rfl | rfl | rfl | rfl | rfl <;> first | exact stable_is _
          · refine steps_cons (fun a w hk hn => ?_) ?_
            · have h11 : a.eval (.tmp 11) = .pointer (some ⟨g11, 0, none⟩) := hn.1
              clear hn
              refine wants_plain rfl ?_
              exact grown_loadf 42 (.tmp 11) rfl g11 0 h11 _ _ _ _ (unhide HU11 w hk) [.slice (some ⟨gz, 0, none⟩) 32 32, .slice (some ⟨gw, 0, none⟩) mw cw, .int .i64 q] (flat_in rfl) Tryd.underlying42 rfl Tryd.polSize rfl
            refine steps_cons (fun a w hk hn => ?_) ?_
            · have h71 : a.eval (.tmp 71) = .agg #[.slice (some ⟨gz, 0, none⟩) 32 32, .slice (some ⟨gw, 0, none⟩) mw cw, .int .i64 q] := hn.1
              clear hn
              refine wants_plain rfl ?_
              refine grown_call (f := 12) rfl Tryd.func12 (by kernel_rfl) (by kernel_rfl) ?_
              simp only [List.map_toArray, List.map_cons, List.map_nil, h71]
              refine (cright_any _ pp bb (unhide HBB) w (unhide HPO w hk)).mono ?_
              rintro e w' ⟨rfl, K⟩
              exact ⟨_, rfl, K, rfl⟩
            refine steps_cons (fun a w hk hn => ?_) ?_
            · have h11 : a.eval (.tmp 11) = .pointer (some ⟨g11, 0, none⟩) := hn.1
              clear hn
              refine wants_plain rfl ?_
              exact grown_loadf 42 (.tmp 11) rfl g11 0 h11 _ _ _ _ (unhide HU11 w hk) [.slice (some ⟨gz, 0, none⟩) 32 32, .slice (some ⟨gw, 0, none⟩) mw cw, .int .i64 q] (flat_in rfl) Tryd.underlying42 rfl Tryd.polSize rfl
            refine steps_cons (fun a w hk hn => ?_) ?_
            · have h73 : a.eval (.tmp 73) = .agg #[.slice (some ⟨gz, 0, none⟩) 32 32, .slice (some ⟨gw, 0, none⟩) mw cw, .int .i64 q] := hn.1
              clear hn
              refine wants_plain rfl ?_
              refine grown_call (f := 24) rfl Tryd.func24 (by kernel_rfl) (by kernel_rfl) ?_
              simp only [List.map_toArray, List.map_cons, List.map_nil, h73]
              refine (rpolicy_any _ pp bb (unhide HBB) w (unhide HPO w hk)).mono ?_
              rintro e w' ⟨rfl, K⟩
              exact ⟨_, rfl, K, rfl⟩
            refine steps_cons (fun a w hk hn => ?_) ?_
            · have h72 : a.eval (.tmp 72) = .bool bb := hn.1
              have h74 : a.eval (.tmp 74) = .bool bb := hn.2.1
              clear hn
              refine wants_plain rfl ?_
              refine grown_run (v := .bool true) ?_ (Kp.refl _ _) rfl
              obtain ⟨ρ, hρ, hc, hf, hg⟩ := eval_is a
              rw [hρ] at h72 h74 ⊢
              simp [go_sem, h72, h74]
            refine steps_cons (fun a w hk hn => ?_) ?_
            · have h75 : a.eval (.tmp 75) = .bool true := hn.1
              clear hn
              refine wants_plain rfl ?_
              exact grown_move (.tmp 75) rfl h75
            refine steps_cons (fun a w hk hn => ?_) ?_
            · have h76 : a.eval (.tmp 76) = .bool true := hn.1
              clear hn
              refine wants_guard (d := 76) rfl rfl h76 ?_
              refine grown_call (f := 17) rfl Tryd.func17 (by kernel_rfl) (by kernel_rfl) ?_
              simp only [List.map_toArray, List.map_nil]
              refine (known_any w (unhide HGW w hk)).mono ?_
              rintro e w' ⟨rfl, K⟩
              exact ⟨_, rfl, K, rfl⟩
            refine steps_cons (fun a w hk hn => ?_) ?_
            · have h76 : a.eval (.tmp 76) = .bool true := hn.1
              have h77 : a.eval (.tmp 77) = .bool true := hn.2.1
              clear hn
              refine wants_plain rfl ?_
              exact grown_pick _ _ _ true rfl h76 h77
            refine steps_cons (fun a w hk hn => ?_) ?_
            · have h78 : a.eval (.tmp 78) = .bool true := hn.1
              clear hn
              refine wants_plain rfl ?_
              exact grown_assign (.tmp 78) rfl h78
            exact trivial
          intro W2 hkW2
          rintro _ rfl
          rintro _ rfl
          rintro _ rfl
          rintro _ rfl
          rintro _ rfl
          rintro _ rfl
          rintro _ rfl
          rintro _ rfl
          rintro _ rfl
          refine fin_nil ?_
          simp only [Act.put, List.set_cons_zero, List.set_cons_succ, List.setIfInBounds_toArray]
          go_wp2_with fail
          go_ret
          exact ⟨rfl, (unhide HKD W2 hkW2).below (Nat.le_refl _) (by simp)⟩
set_option maxRecDepth 100000 in
theorem lifted (os : Os) (started : os.Started) (H : Type) (enc : TypeId × Value → H) :
    ReturnsInHanded {} Tryd.checked os 6 .any (fun w args => (Rows.cosignPoliciesSpec.pre enc Tryd.prog Tryd.f6 [] false w args ∧ laidMetH Tryd.prog laid1 w) ∧ sizedMet enc Tryd.prog Tryd.f6 (OpenSpec.ofChange Rows.cosignPoliciesSpec) false w args) (Rows.cosignPoliciesSpec.post enc Tryd.prog Tryd.f6 false true false false) := by
  refine returnsInHanded_of_change_and (C := Tryd.checked) (X := fun w _ => laidMetH Tryd.prog laid1 w) (fun _ _ _ hh h => h.of_heap hh) own started (by kernel_rfl) Tryd.func6
    (ChangeSpec.witness_shaped (enc := enc) (C := Tryd.checked) (os := os) (X := fun w _ => laidMetH Tryd.prog laid1 w) false (World.doorLaid Tryd.prog 400 os) #[.slice none 0 0, .slice none 0 0, .int .i64 0, .bool false, .bool false] 8 rfl (World.shaped_of_RefB (by kernel_rfl) (by kernel_rfl)) (by kernel_rfl) (by kernel_rfl) (by kernel_rfl) (door_met os _)) ?_
  intro W base args ds gs before hval0 hW hcnd hsz0 hL _
  have hG := gl_of_laid hL
  have hval : ∀ (j : Nat) t v, Tryd.f6.params[j]? = some t → args[j]? = some v → Value.okWide Tryd.prog W .any base t v := hval0
  have hW' := hW
  obtain ⟨p, q, hA0, hV, rfl, hfz, hnd⟩ := hW
  have hA : DataW.TrodAll enc Tryd.prog W 0 (fun _ => true) true Tryd.f6.params.toList args.toList ds p := hA0
  rw [Tryd.params6] at hA hval
  obtain ⟨v0, vs0, d0, ds0, p0, q0, hargs, rfl, rfl, h0, r0⟩ := trodAll_cons hA
  obtain ⟨v1, vs1, d1, ds1, p1, q1, rfl, rfl, rfl, h1, r1⟩ := trodAll_cons r0
  obtain ⟨v2, vs2, d2, ds2, p2, q2, rfl, rfl, rfl, h2, r2⟩ := trodAll_cons r1
  obtain ⟨v3, vs3, d3, ds3, p3, q3, rfl, rfl, rfl, h3, r3⟩ := trodAll_cons r2
  obtain ⟨v4, vs4, d4, ds4, p4, q4, rfl, rfl, rfl, h4, r4⟩ := trodAll_cons r3
  obtain ⟨rfl, rfl, rfl⟩ := trodAll_nil r4
  obtain rfl : args = #[v0, v1, v2, v3, v4] := by cases args; simp_all
  obtain ⟨rfl, rfl⟩ := trodVars_none hV
  obtain ⟨a0, len0, cap0, rfl⟩ := okWide_slice Tryd.underlying29 (hval 0 29 v0 rfl rfl)
  have k0 := h0
  have lt0 : ∀ x ∈ p0, x.block < W.heap.size := by obtain ⟨m, hm⟩ := k0; exact DataW.trod_lt m _ _ _ hm
  obtain ⟨l0, s0⟩ : ∃ l, Lists W (.slice a0 len0 cap0) l := by
    obtain ⟨fuel, hf⟩ := h0
    exact lists_of_trod (by simpa [Value.cells] using hf)
  obtain ⟨a1, len1, cap1, rfl⟩ := okWide_slice Tryd.underlying24 (hval 1 24 v1 rfl rfl)
  have k1 := h1
  have lt1 : ∀ x ∈ p1, x.block < W.heap.size := by obtain ⟨m, hm⟩ := k1; exact DataW.trod_lt m _ _ _ hm
  obtain ⟨l1, s1, b1⟩ : ∃ bs, Sl W (.slice a1 len1 cap1) bs ∧ Bs bs := by
    obtain ⟨fuel, hf⟩ := h1
    exact bytes_of_trod (by simpa [Value.cells] using hf)
  obtain ⟨a2, rfl, rfl, rfl, w2⟩ := open_int Tryd.underlying3 (hval 2 3 v2 rfl rfl) h2
  obtain ⟨a3, rfl, rfl, rfl⟩ := open_bool Tryd.underlying4 (hval 3 4 v3 rfl rfl) h3
  obtain ⟨a4, rfl, rfl, rfl⟩ := open_bool Tryd.underlying4 (hval 4 4 v4 rfl rfl) h4
  clear hA0 hval0
  refine (walk (.slice a0 len0 cap0) l0 (.slice a1 len1 cap1) l1 a2 a3 a4 W hG s0 s1 b1 (bounds_i64 w2)).mono fun e W' ⟨he, bel⟩ => ?_
  subst he
  exact ⟨_, rfl, _, _, _, [], _, [], hW', trodAll_mk1 (shut_bool Tryd.underlying4 _), (trodAll_cons_mk (Below.trod laidOut (by kernel_rfl) (of_decide_eq_true (by kernel_rfl)) k0 bel lt0) (trodAll_cons_mk (Below.trod laidOut (by kernel_rfl) (of_decide_eq_true (by kernel_rfl)) k1 bel lt1) (trodAll_cons_mk (shut_int Tryd.underlying3 w2) (trodAll_cons_mk (shut_bool Tryd.underlying4 a3) (trodAll_cons_mk (shut_bool Tryd.underlying4 a4) trodAll_mk0))))), rfl, bel.frame _, fun h => by cases h⟩

theorem over : Rows.cosignPoliciesRow.holds Tryd.pinned (OpenSpec.ofChange Rows.cosignPoliciesSpec) :=
  OpenClaim.holds_of_wide 6 Tryd.f6 rfl rfl rfl rfl rfl rfl rfl ⟨rfl, rfl, rfl, rfl, rfl⟩ rfl rfl rfl rfl rfl (by kernel_rfl) Tryd.func6 (by kernel_rfl)
    (of_decide_eq_true (by kernel_rfl)) (by unfold Func.isWrapper; first | (rw [if_pos (by decide +kernel)]; kernel_rfl) | (rw [if_neg (by decide +kernel)]; exact ⟨rfl, rfl⟩))
    (fun os started H enc _ => lifted os started H enc)
end Go.Proofs.YtdjofooggofpkaaDoor.cosignPolicies

namespace Go.Proofs.YtdjofooggofpkaaDoor
/-- The given statement: the tied card. -/
theorem CosignPolicies_holds : Rows.CosignPoliciesCardSaid :=
  Claim7.holds_tied_plain_at .later [] [.data] true Rows.cosignPoliciesCard.stood.harness false
    cosignPolicies.over (fun _ h => by cases h) (by kernel_rfl) (fun _ h => by cases h) cosignPolicies_row_tie rfl ⟨rfl, rfl⟩ (by kernel_rfl) rfl
    (fun f fn hf hfn => by
      obtain rfl : f = 6 := Option.some.inj ((show Tryd.prog.funcNamed "broadsheet/broadsheetlaw11.CosignPolicies" = some 6 by kernel_rfl).symm.trans hf) |>.symm
      obtain rfl : fn = Tryd.f6 := (Option.some.inj (Tryd.func6.symm.trans hfn)).symm
      exact ⟨by kernel_rfl, fun j t ht => by
        rw [Tryd.params6] at ht
        have hm : t ∈ ([29, 24, 3, 4, 4] : List TypeId) := by simpa using Array.mem_of_getElem? ht
        have hall : (([29, 24, 3, 4, 4] : List TypeId).all fun u => !Tryd.prog.wantsStandIn u) = true := by kernel_rfl
        exact (show Tryd.prog.wantsStandIn t = false by simpa using List.all_eq_true.1 hall t hm)⟩)
    (by kernel_rfl)
#print axioms CosignPolicies_holds
end Go.Proofs.YtdjofooggofpkaaDoor
