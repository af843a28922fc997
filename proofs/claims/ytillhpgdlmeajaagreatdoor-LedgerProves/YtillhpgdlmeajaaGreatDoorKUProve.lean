/-
  The contracts of the ledger's Include and Grow.
-/
import Derived.Test.YtillhpgdlmeajaaGreatDoorKUTell
import Derived.Test.YtillhpgdlmeajaaGreatDoorKPMake
namespace Go.Proofs.YtillhpgdlmeajaaGreatDoor
open Go.RowKit
open Go.Proofs
set_option linter.unusedVariables false

set_option maxRecDepth 100000 in
set_option maxHeartbeats 1000000 in
/-- as include_ok; and what is told stays so while a block of that kind, which was there, is written. -/
theorem include_okK (v : Value) (ls : List (List Int)) (i : Nat) (w : World) (hL : LcM ls v w) (hi : i < ls.length) (hn : ls.length ≤ 1000) (hm : ∀ x ∈ ls, x.length ≤ 1000) (hG : Gl w) (g : Nat) (x y : Int) (t : TypeId) (hg : g < w.heap.size) (hgo : w.heap[g]? = some (.cells #[.int .i64 x, .int .i64 y, .slice none 0 0] t (0, 0))) :
    Calls Tryz.prog 74 #[v, .int .i64 i] w fun e w' => ∃ a m c, e = .returned (.tuple #[.agg #[.int .i64 i, .int .i64 ls.length, .slice a m c], .int .i64 0]) ∧ (∀ w2, Kp [g] w' w2 → LcM (incP ls i) (.slice a m c) w2) ∧ Kp [] w w' := by
  obtain ⟨ob, hob⟩ : ∃ o : Obj, o = (.cells #[.int .i64 0, .int .i64 0, .slice none 0 0] 54) := ⟨_, rfl⟩
  have K1 : Kp [] w (w.alloc ob) := (Kp.refl [] w).alloc ob
  obtain ⟨ps, hps⟩ : ∃ ps, ps = incP ls i := ⟨_, rfl⟩
  have HC := hide (apath_any ls.length v ls i ps (w.alloc ob) hps rfl hi (by omega) (hL.kept K1) hm (gl_alloc hG ob))
  have G1 : Hid ((w.alloc ob).heap[w.heap.size]? = some ob) := heap_alloc_new w ob
  have HGo : Hid ((w.alloc ob).heap[g]? = some (.cells #[.int .i64 x, .int .i64 y, .slice none 0 0] t (0, 0))) := K1.heap hgo (by simp)
  have HZ : Hid (w.heap.size < (w.alloc ob).heap.size) := hide (by simp)
  have HZ2 : Hid (g < w.heap.size) := hide hg
  have hpl : ps.length ≤ 1000 := by rw [hps]; have := incP_1000 (i := i) hn; omega
  rw [← hps]
  obtain ⟨ao, c, e, h1, h2, h3⟩ := hL.shape
  obtain ⟨n, hnn⟩ : ∃ n, n = ls.length := ⟨_, rfl⟩
  rw [← hnn] at e hi hn ⊢
  subst e
  rw [hob] at K1 HC G1 HZ HGo
  have HK1 := hide K1
  have hi1 : ¬ (i : Int) < 0 := by omega
  have hi2 : ¬ (n : Int) ≤ (i : Int) := by omega
  clear hob K1 hps hm hG hL h1 h2 h3 hnn hg hgo
  go_enter Tryz.func74, Tryz.ntmps74
  go_wp2_with fail
  refine (unhide HC).mono ?_
  rintro ee w2 ⟨a2, m2, c2, rfl, A2⟩
  have HA2 := hide A2
  have G2 := A2.kp.heap (unhide G1) (by simp)
  have HGo2 : Hid (w2.heap[g]? = some (.cells #[.int .i64 x, .int .i64 y, .slice none 0 0] t (0, 0))) := A2.kp.heap HGo.out (by simp)
  clear A2 HC
  go_wp2_with (refine wpList_store_tri triP rfl (.tmp 4) (.tmp 21) rfl w.heap.size rfl _ _ _ _ _ _ G2 rfl ⟨rfl, rfl, rfl⟩ ?_; intro w4 G4 K4)
  refine bodyPost_ret (results_tri triP rfl _ rfl G4) rfl ?_
  have hlt := HZ.out
  have hlt2 := HZ2.out
  exact ⟨a2, m2, c2, rfl, fun w5 k5 => (unhide HA2).off hpl (nob2 (q := g) (by omega) G2 (nob1 (by omega) HGo2.out)) (K4.comp k5), ((unhide HK1).trans (unhide HA2).kp).then K4 (by simp)⟩
set_option maxRecDepth 100000 in
set_option maxHeartbeats 2000000 in
theorem grow_okK (v : Value) (ls : List (List Int)) (i : Nat) (w : World) (hL : LcM ls v w) (hi : i ≤ ls.length) (hn : ls.length ≤ 1000) (hm : ∀ x ∈ ls, x.length ≤ 1000) (hG : Gl w) (g : Nat) (x y : Int) (t : TypeId) (hg : g < w.heap.size) (hgo : w.heap[g]? = some (.cells #[.int .i64 x, .int .i64 y, .slice none 0 0] t (0, 0))) :
    Calls Tryz.prog 75 #[v, .int .i64 i] w fun e w' => ∃ a m c, e = .returned (.tuple #[.agg #[.int .i64 i, .int .i64 ls.length, .slice a m c], .int .i64 0]) ∧ (∀ w2, Kp [g] w' w2 → LcM (growP i ls) (.slice a m c) w2) ∧ Kp [] w w' := by
  have HL := hide hL
  have HG := hide hG
  have HM := hide hm
  obtain ⟨ao, c, e, h1, h2, h3⟩ := hL.shape
  obtain ⟨n, hnn⟩ : ∃ n, n = ls.length := ⟨_, rfl⟩
  rw [← hnn] at e hi hn
  subst e
  have HNN := hide hnn
  have hi1 : ¬ (i : Int) < 0 := by omega
  have hi2 : ¬ (n : Int) < (i : Int) := by omega
  obtain ⟨o0, ho0⟩ : ∃ o : Obj, o = (.cells #[.int .i64 0, .int .i64 0, .slice none 0 0] 60) := ⟨_, rfl⟩
  have K1 : Kp [] w ((w.alloc o0).alloc o0) := ((Kp.refl [] w).alloc o0).alloc o0
  have G0 : ((w.alloc o0).alloc o0).heap[w.heap.size]? = some o0 := ((Kp.refl [] (w.alloc o0)).alloc o0).heap (heap_alloc_new w o0) (by simp)
  have G1 : ((w.alloc o0).alloc o0).heap[w.heap.size + 1]? = some o0 := by
    have := heap_alloc_new (w.alloc o0) o0
    rw [show (w.alloc o0).heap.size = w.heap.size + 1 by simp] at this
    exact this
  have HGo : Hid (((w.alloc o0).alloc o0).heap[g]? = some (.cells #[.int .i64 x, .int .i64 y, .slice none 0 0] t (0, 0))) := K1.heap hgo (by simp)
  have HZ2 : Hid (g < w.heap.size) := hide hg
  have HZ : Hid (w.heap.size + 2 = ((w.alloc o0).alloc o0).heap.size) := hide (by simp)
  rw [ho0] at K1 G0 G1 HZ HGo
  have HK1 := hide K1
  have HG0 := hide G0
  have HG1 := hide G1
  clear hL hnn h1 h2 h3 hG hm K1 G0 G1 ho0 hg hgo
  rw [← unhide HNN]
  have HK3 : Hid (∀ w3, Kp [w.heap.size + 1] _ w3 → Kp [] w w3) := fun w3 k => (unhide HK1).then k (fun i hi => .inr (by simp at hi; omega))
  by_cases hi0 : i = 0
  · subst hi0
    rw [growP_zero]
    go_enter Tryz.func75, Tryz.ntmps75
    go_wp2_with (refine wpList_store_tri triG rfl (.tmp 6) (.tmp 19) rfl (w.heap.size + 1) rfl _ _ _ _ _ _ (unhide HG1) rfl ⟨rfl, rfl, rfl⟩ ?_; intro w3 G3 K3; refine Hid.out ?_)
    obtain ⟨c0, c1, c2⟩ := cell_tri G3
    have G03 := K3.heap (unhide HG0) (by simp)
    have HK4 := hide (unhide HK3 w3 K3)
    clear K3 G3
    refine hide ?_
    go_wp2_with (refine wpList_store_tri triG rfl (.tmp 4) (.tmp 26) rfl w.heap.size rfl _ _ _ _ _ _ G03 rfl ⟨rfl, rfl, rfl⟩ ?_; intro w5 G5 K5)
    refine bodyPost_ret (results_tri triG rfl _ rfl G5) rfl ?_
    exact ⟨none, 0, 0, rfl, fun w2 _ => lcm_nil _, (unhide HK4).then K5 (by simp)⟩
  · have hi3 : (0 : Int) < (i : Int) := by omega
    obtain ⟨ps, hps⟩ : ∃ ps, ps = subP i ls true := ⟨_, rfl⟩
    have HPS : Hid (growP i ls = ps) := hide (by rw [growP_pos (by omega), hps])
    have hpl : ps.length ≤ 1000 := by rw [← unhide HPS]; have := growP_1000 (ls := ls) (m := i) (by rw [← unhide HNN]; exact hn) (by rw [← unhide HNN]; exact hi); omega
    have HPP := hide hps
    clear hps
    rw [unhide HPS]
    go_enter Tryz.func75, Tryz.ntmps75
    go_wp2_with (refine wpList_store_tri triG rfl (.tmp 6) (.tmp 19) rfl (w.heap.size + 1) rfl _ _ _ _ _ _ (unhide HG1) rfl ⟨rfl, rfl, rfl⟩ ?_; intro w3 G3 K3; refine Hid.out ?_)
    have HG3 := hide G3
    have HG03 := hide (K3.heap (unhide HG0) (by simp))
    have HGo3 := hide (K3.heap HGo.out (by simp; have := HZ2.out; omega))
    have HK4 := hide (unhide HK3 w3 K3)
    have HZ3 : Hid (w.heap.size + 2 ≤ w3.heap.size) := hide (by rw [unhide HZ]; exact K3.size)
    have HC := hide (gpath_any n _ ls i true ps w3 (unhide HPP) (unhide HNN).symm (by omega) hi (by omega) ((unhide HL).kept (unhide HK4)) (unhide HM) ((unhide HG).kept (unhide HK4) (by simp)))
    clear K3 G3
    refine hide ?_
    go_wp2_with fail
    refine (unhide HC).mono ?_
    rintro ee w4 ⟨a4, m4, c4, rfl, A4⟩
    have HA4 := hide A4
    have G4 := A4.kp.heap (unhide HG3) (by simp)
    have HG4 := hide G4
    have HG04 := hide (A4.kp.heap (unhide HG03) (by simp))
    have HGo4 := hide (A4.kp.heap HGo3.out (by simp))
    obtain ⟨c0, c1, c2⟩ := cell_tri G4
    have f2 := frozen_of_row w4 (w.heap.size + 1) 2 _ _ G4
    have k5 : Kp [w.heap.size + 1] w4 (w4.setCell ⟨w.heap.size + 1, 2, none⟩ (.slice a4 m4 c4)) := (Kp.refl _ w4).setCell (p := ⟨w.heap.size + 1, 2, none⟩) (.inl (by simp)) _
    have G5 : (w4.setCell ⟨w.heap.size + 1, 2, none⟩ (.slice a4 m4 c4)).heap[w.heap.size + 1]? = some (.cells #[.int .i64 i, .int .i64 n, .slice a4 m4 c4] 60 (0, 0)) := by simpa using heap_setCell_same w4 (w.heap.size + 1) 2 _ _ (.slice a4 m4 c4) G4
    obtain ⟨d0, d1, d2⟩ := cell_tri G5
    have G05 := k5.heap (unhide HG04) (by simp)
    have HK5 := hide k5
    clear A4 G4 HC HG3 HG03 k5 G5
    go_wp2_with (refine wpList_store_tri triG rfl (.tmp 4) (.tmp 26) rfl w.heap.size rfl _ _ _ _ _ _ G05 rfl ⟨rfl, rfl, rfl⟩ ?_; intro w6 G6 K6)
    have HK6 : Hid (Kp [w.heap.size, w.heap.size + 1] w4 w6) := ((unhide HK5).mono (by simp)).trans (K6.mono (by simp))
    have HN6 : Hid (NoB w3.heap.size w4 [w.heap.size, w.heap.size + 1, g]) := by
      have h3 := unhide HZ3
      have h4 := HZ2.out
      intro z hz
      rcases (by simpa using hz : z = w.heap.size ∨ z = w.heap.size + 1 ∨ z = g) with rfl | rfl | rfl
      · exact nob1 (by omega) (unhide HG04) _ (by simp)
      · exact nob1 (by omega) (unhide HG4) _ (by simp)
      · exact nob1 (by omega) HGo4.out _ (by simp)
    refine bodyPost_ret (results_tri triG rfl _ rfl G6) rfl ?_
    exact ⟨a4, m4, c4, rfl, fun w2 k2 => (unhide HA4).off hpl (unhide HN6) ((unhide HK6).comp k2), ((unhide HK4).trans (unhide HA4).kp).then (unhide HK6) (fun i hi => .inr (by simp at hi; omega))⟩
section
variable {w0 w : World} {l pd pk : Nat} {S : LS} {f : Fps}
theorem uisz_any (h : Lg w0 w l pd pk S f) (n : Int) (b : Bool) (hb : b = decide (0 ≤ n ∧ n ≤ (S.its.length : Int))) :
    Calls Tryz.prog 73 #[.pointer (some ⟨l, 0, none⟩), .int .i64 n] w fun e w' => e = .returned (.bool b) ∧ w' = w := by
  have HZ := hide (usize_any h _ rfl)
  obtain ⟨N, hN⟩ : ∃ N : Int, N = S.its.length := ⟨_, rfl⟩
  rw [← hN] at HZ hb
  by_cases h0 : 0 ≤ n
  · have e : b = decide (n ≤ N) := by rw [hb]; simp [h0]
    have hd : decide (0 ≤ n) = true := decide_eq_true h0
    subst e
    clear h hN hb
    go_enter Tryz.func73, Tryz.ntmps73
    go_wp2_with fail
    refine HZ.out.mono ?_
    rintro ee w1 ⟨rfl, hw⟩
    subst w1
    clear HZ
    go_wp2_with fail
    go_ret
    exact ⟨rfl, rfl⟩
  · have e : b = false := by rw [hb]; simp [h0]
    have hd : decide (0 ≤ n) = false := decide_eq_false h0
    subst e
    clear h hN hb HZ
    go_enter Tryz.func73, Tryz.ntmps73
    go_wp2_with fail
    go_ret
    exact ⟨rfl, rfl⟩
theorem leafs_few (l : List (List Int)) : ∀ x ∈ l.map tleafP, x.length ≤ 1000 := fun x hx => by
  obtain ⟨y, _, rfl⟩ := List.mem_map.1 hx
  have := sha_len (0 :: y); unfold tleafP; omega
set_option maxRecDepth 100000 in
set_option maxHeartbeats 1000000 in
theorem uinc_ok (h : Lg w0 w l pd pk S f) (i n : Nat) (hi : i < n) (hn : n ≤ S.its.length) (hG : Gl w) :
    Calls Tryz.prog 26 #[.pointer (some ⟨l, 0, none⟩), .int .i64 i, .int .i64 n] w fun e w' => ∃ a m c, e = .returned (.tuple #[.agg #[.int .i64 i, .int .i64 n, .slice a m c], .int .i64 0]) ∧ LcM (incP ((S.its.take n).map tleafP) i) (.slice a m c) w' ∧ Kp [] w w' := by
  have hfew := h.few
  obtain ⟨o0, ho0⟩ : ∃ o : Obj, o = (.cells #[.int .i64 0, .int .i64 0, .slice none 0 0] 54) := ⟨_, rfl⟩
  have K1 : Kp [] w (w.alloc o0) := (Kp.refl [] w).alloc o0
  have G1 := heap_alloc_new w o0
  have HI := hide (uisz_any (h.on K1) n true (by rw [decide_eq_true (by omega)]))
  have HL := hide (uleaves_any (h.on K1) n hn (gl_alloc hG o0))
  obtain ⟨ls, hls⟩ : ∃ ls, ls = (S.its.take n).map tleafP := ⟨_, rfl⟩
  have hll : ls.length = n := by rw [hls, List.length_map, List.length_take]; omega
  have hlm : ∀ x ∈ ls, x.length ≤ 1000 := by rw [hls]; exact leafs_few _
  have hn1 : n ≤ 256 := by omega
  rw [← hls] at HL ⊢
  have HG := hide (gl_alloc hG o0)
  have HZ : Hid (w.heap.size < (w.alloc o0).heap.size) := hide (by simp)
  rw [ho0] at K1 G1 HI HL HG HZ
  have HK1 := hide K1
  have HG1 := hide G1
  have HLl := hide hll
  have HLm := hide hlm
  clear h hfew hG K1 G1 ho0 hls hll hlm hn
  go_enter Tryz.func26, Tryz.ntmps26
  go_wp2_with fail
  refine HI.out.mono ?_
  rintro ee w1 ⟨rfl, hw⟩
  subst w1
  clear HI
  go_wp2_with fail
  refine HL.out.mono ?_
  rintro ee w2 ⟨a2, m2, c2, rfl, A2⟩
  have G2 := A2.kp.heap HG1.out (by simp)
  have HIn := hide (include_okK _ ls i w2 (A2.lcm (by rw [HLl.out]; omega)) (by rw [HLl.out]; exact hi) (by rw [HLl.out]; omega) HLm.out (HG.out.kept A2.kp (by simp)) w.heap.size 0 0 _ (Nat.lt_of_lt_of_le HZ.out A2.kp.size) G2)
  rw [HLl.out] at HIn
  have HK2 := hide (HK1.out.trans A2.kp)
  have HG2 := hide G2
  clear HL A2 G2
  go_wp2_with fail
  refine HIn.out.mono ?_
  rintro ee w3 ⟨a3, m3, c3, rfl, L3, K3⟩
  have G3 := K3.heap HG2.out (by simp)
  have HL3 := hide L3
  have HK3 := hide (HK2.out.trans K3)
  clear L3 K3 HIn
  go_wp2_with (refine wpList_store_tri triP rfl (.tmp 6) (.tmp 18) rfl w.heap.size rfl _ _ _ _ _ _ G3 rfl ⟨rfl, rfl, rfl⟩ ?_; intro w4 G4 K4)
  refine bodyPost_ret (results_tri triP rfl _ rfl G4) rfl ?_
  exact ⟨a3, m3, c3, rfl, HL3.out w4 K4, HK3.out.then K4 (by simp)⟩
set_option maxRecDepth 100000 in
set_option maxHeartbeats 1000000 in
theorem uinc_no (h : Lg w0 w l pd pk S f) (i n : Int) (hi : ¬ (0 ≤ n ∧ n ≤ (S.its.length : Int) ∧ 0 ≤ i ∧ i < n)) (hG : Gl w) :
    Calls Tryz.prog 26 #[.pointer (some ⟨l, 0, none⟩), .int .i64 i, .int .i64 n] w fun e w' => e = .returned (.tuple #[.agg #[.int .i64 0, .int .i64 0, .slice none 0 0], .int .i64 1]) ∧ Kp [] w w' := by
  have hfew := h.few
  obtain ⟨o0, ho0⟩ : ∃ o : Obj, o = (.cells #[.int .i64 0, .int .i64 0, .slice none 0 0] 54) := ⟨_, rfl⟩
  have K1 : Kp [] w (w.alloc o0) := (Kp.refl [] w).alloc o0
  have G1 := heap_alloc_new w o0
  by_cases hs : 0 ≤ n ∧ n ≤ (S.its.length : Int)
  · obtain ⟨k, rfl⟩ := Int.eq_ofNat_of_zero_le hs.1
    have hk : k ≤ S.its.length := by omega
    have HI := hide (uisz_any (h.on K1) k true (by rw [decide_eq_true hs]))
    have HL := hide (uleaves_any (h.on K1) k hk (gl_alloc hG o0))
    obtain ⟨ls, hls⟩ : ∃ ls, ls = (S.its.take k).map tleafP := ⟨_, rfl⟩
    have hll : ls.length = k := by rw [hls, List.length_map, List.length_take]; omega
    have hi' : ¬ (0 ≤ i ∧ i < (k : Int)) := fun e => hi ⟨hs.1, hs.2, e.1, e.2⟩
    have hk1 : k ≤ 256 := by omega
    rw [← hls] at HL
    rw [ho0] at K1 G1 HI HL
    have HK1 := hide K1
    have HG1 := hide G1
    have HLl := hide hll
    have HI' := hide hi'
    clear h hfew hG K1 G1 ho0 hls hll hi hi' hs hk
    go_enter Tryz.func26, Tryz.ntmps26
    go_wp2_with fail
    refine HI.out.mono ?_
    rintro ee w1 ⟨rfl, hw⟩
    subst w1
    clear HI
    go_wp2_with fail
    refine HL.out.mono ?_
    rintro ee w2 ⟨a2, m2, c2, rfl, A2⟩
    have G2 := A2.kp.heap HG1.out (by simp)
    have HIn := hide (include_no _ ls i w2 (A2.lcm (by rw [HLl.out]; omega)) (by rw [HLl.out]; exact HI'.out))
    have HK2 := hide (HK1.out.trans A2.kp)
    have HG2 := hide G2
    clear HL A2 G2
    go_wp2_with fail
    refine HIn.out.mono ?_
    rintro ee w3 ⟨rfl, K3⟩
    have G3 := K3.heap HG2.out (by simp)
    have HK3 := hide (HK2.out.trans K3)
    clear K3 HIn
    go_wp2_with (refine wpList_store_tri triP rfl (.tmp 6) (.tmp 18) rfl w.heap.size rfl _ _ _ _ _ _ G3 rfl ⟨rfl, rfl, rfl⟩ ?_; intro w4 G4 K4)
    refine bodyPost_ret (results_tri triP rfl _ rfl G4) rfl ?_
    exact ⟨rfl, HK3.out.then K4 (by simp)⟩
  · have HI := hide (uisz_any (h.on K1) n false (by rw [decide_eq_false hs]))
    rw [ho0] at K1 G1 HI
    have HK1 := hide K1
    have HG1 := hide G1
    clear h hfew hG K1 ho0 hi hs
    go_enter Tryz.func26, Tryz.ntmps26
    go_wp2_with fail
    refine HI.out.mono ?_
    rintro ee w1 ⟨rfl, hw⟩
    subst w1
    clear HI
    go_wp2_with (refine wpList_store_tri triP rfl (.tmp 6) (.tmp 12) rfl w.heap.size rfl _ _ _ _ _ _ G1 rfl ⟨rfl, rfl, rfl⟩ ?_; intro w4 G4 K4)
    refine bodyPost_ret (results_tri triP rfl _ rfl G4) rfl ?_
    exact ⟨rfl, HK1.out.then K4 (by simp)⟩
set_option maxRecDepth 100000 in
set_option maxHeartbeats 1000000 in
theorem ugro_ok (h : Lg w0 w l pd pk S f) (i n : Nat) (hi : i ≤ n) (hn : n ≤ S.its.length) (hG : Gl w) :
    Calls Tryz.prog 29 #[.pointer (some ⟨l, 0, none⟩), .int .i64 i, .int .i64 n] w fun e w' => ∃ a m c, e = .returned (.tuple #[.agg #[.int .i64 i, .int .i64 n, .slice a m c], .int .i64 0]) ∧ LcM (growP i ((S.its.take n).map tleafP)) (.slice a m c) w' ∧ Kp [] w w' := by
  have hfew := h.few
  obtain ⟨o0, ho0⟩ : ∃ o : Obj, o = (.cells #[.int .i64 0, .int .i64 0, .slice none 0 0] 60) := ⟨_, rfl⟩
  have K1 : Kp [] w (w.alloc o0) := (Kp.refl [] w).alloc o0
  have G1 := heap_alloc_new w o0
  have HI := hide (uisz_any (h.on K1) n true (by rw [decide_eq_true (by omega)]))
  have HL := hide (uleaves_any (h.on K1) n hn (gl_alloc hG o0))
  obtain ⟨ls, hls⟩ : ∃ ls, ls = (S.its.take n).map tleafP := ⟨_, rfl⟩
  have hll : ls.length = n := by rw [hls, List.length_map, List.length_take]; omega
  have hlm : ∀ x ∈ ls, x.length ≤ 1000 := by rw [hls]; exact leafs_few _
  have hn1 : n ≤ 256 := by omega
  rw [← hls] at HL ⊢
  have HG := hide (gl_alloc hG o0)
  have HZ : Hid (w.heap.size < (w.alloc o0).heap.size) := hide (by simp)
  rw [ho0] at K1 G1 HI HL HG HZ
  have HK1 := hide K1
  have HG1 := hide G1
  have HLl := hide hll
  have HLm := hide hlm
  clear h hfew hG K1 G1 ho0 hls hll hlm hn
  go_enter Tryz.func29, Tryz.ntmps29
  go_wp2_with fail
  refine HI.out.mono ?_
  rintro ee w1 ⟨rfl, hw⟩
  subst w1
  clear HI
  go_wp2_with fail
  refine HL.out.mono ?_
  rintro ee w2 ⟨a2, m2, c2, rfl, A2⟩
  have G2 := A2.kp.heap HG1.out (by simp)
  have HIn := hide (grow_okK _ ls i w2 (A2.lcm (by rw [HLl.out]; omega)) (by rw [HLl.out]; exact hi) (by rw [HLl.out]; omega) HLm.out (HG.out.kept A2.kp (by simp)) w.heap.size 0 0 _ (Nat.lt_of_lt_of_le HZ.out A2.kp.size) G2)
  rw [HLl.out] at HIn
  have HK2 := hide (HK1.out.trans A2.kp)
  have HG2 := hide G2
  clear HL A2 G2
  go_wp2_with fail
  refine HIn.out.mono ?_
  rintro ee w3 ⟨a3, m3, c3, rfl, L3, K3⟩
  have G3 := K3.heap HG2.out (by simp)
  have HL3 := hide L3
  have HK3 := hide (HK2.out.trans K3)
  clear L3 K3 HIn
  go_wp2_with (refine wpList_store_tri triG rfl (.tmp 6) (.tmp 18) rfl w.heap.size rfl _ _ _ _ _ _ G3 rfl ⟨rfl, rfl, rfl⟩ ?_; intro w4 G4 K4)
  refine bodyPost_ret (results_tri triG rfl _ rfl G4) rfl ?_
  exact ⟨a3, m3, c3, rfl, HL3.out w4 K4, HK3.out.then K4 (by simp)⟩
set_option maxRecDepth 100000 in
set_option maxHeartbeats 1000000 in
theorem ugro_no (h : Lg w0 w l pd pk S f) (i n : Int) (hi : ¬ (0 ≤ n ∧ n ≤ (S.its.length : Int) ∧ 0 ≤ i ∧ i ≤ n)) (hG : Gl w) :
    Calls Tryz.prog 29 #[.pointer (some ⟨l, 0, none⟩), .int .i64 i, .int .i64 n] w fun e w' => e = .returned (.tuple #[.agg #[.int .i64 0, .int .i64 0, .slice none 0 0], .int .i64 1]) ∧ Kp [] w w' := by
  have hfew := h.few
  obtain ⟨o0, ho0⟩ : ∃ o : Obj, o = (.cells #[.int .i64 0, .int .i64 0, .slice none 0 0] 60) := ⟨_, rfl⟩
  have K1 : Kp [] w (w.alloc o0) := (Kp.refl [] w).alloc o0
  have G1 := heap_alloc_new w o0
  by_cases hs : 0 ≤ n ∧ n ≤ (S.its.length : Int)
  · obtain ⟨k, rfl⟩ := Int.eq_ofNat_of_zero_le hs.1
    have hk : k ≤ S.its.length := by omega
    have HI := hide (uisz_any (h.on K1) k true (by rw [decide_eq_true hs]))
    have HL := hide (uleaves_any (h.on K1) k hk (gl_alloc hG o0))
    obtain ⟨ls, hls⟩ : ∃ ls, ls = (S.its.take k).map tleafP := ⟨_, rfl⟩
    have hll : ls.length = k := by rw [hls, List.length_map, List.length_take]; omega
    have hi' : ¬ (0 ≤ i ∧ i ≤ (k : Int)) := fun e => hi ⟨hs.1, hs.2, e.1, e.2⟩
    have hk1 : k ≤ 256 := by omega
    rw [← hls] at HL
    rw [ho0] at K1 G1 HI HL
    have HK1 := hide K1
    have HG1 := hide G1
    have HLl := hide hll
    have HI' := hide hi'
    clear h hfew hG K1 G1 ho0 hls hll hi hi' hs hk
    go_enter Tryz.func29, Tryz.ntmps29
    go_wp2_with fail
    refine HI.out.mono ?_
    rintro ee w1 ⟨rfl, hw⟩
    subst w1
    clear HI
    go_wp2_with fail
    refine HL.out.mono ?_
    rintro ee w2 ⟨a2, m2, c2, rfl, A2⟩
    have G2 := A2.kp.heap HG1.out (by simp)
    have HIn := hide (grow_no _ ls i w2 (A2.lcm (by rw [HLl.out]; omega)) (by rw [HLl.out]; exact HI'.out))
    have HK2 := hide (HK1.out.trans A2.kp)
    have HG2 := hide G2
    clear HL A2 G2
    go_wp2_with fail
    refine HIn.out.mono ?_
    rintro ee w3 ⟨rfl, K3⟩
    have G3 := K3.heap HG2.out (by simp)
    have HK3 := hide (HK2.out.trans K3)
    clear K3 HIn
    go_wp2_with (refine wpList_store_tri triG rfl (.tmp 6) (.tmp 18) rfl w.heap.size rfl _ _ _ _ _ _ G3 rfl ⟨rfl, rfl, rfl⟩ ?_; intro w4 G4 K4)
    refine bodyPost_ret (results_tri triG rfl _ rfl G4) rfl ?_
    exact ⟨rfl, HK3.out.then K4 (by simp)⟩
  · have HI := hide (uisz_any (h.on K1) n false (by rw [decide_eq_false hs]))
    rw [ho0] at K1 G1 HI
    have HK1 := hide K1
    have HG1 := hide G1
    clear h hfew hG K1 ho0 hi hs
    go_enter Tryz.func29, Tryz.ntmps29
    go_wp2_with fail
    refine HI.out.mono ?_
    rintro ee w1 ⟨rfl, hw⟩
    subst w1
    clear HI
    go_wp2_with (refine wpList_store_tri triG rfl (.tmp 6) (.tmp 12) rfl w.heap.size rfl _ _ _ _ _ _ G1 rfl ⟨rfl, rfl, rfl⟩ ?_; intro w4 G4 K4)
    refine bodyPost_ret (results_tri triG rfl _ rfl G4) rfl ?_
    exact ⟨rfl, HK1.out.then K4 (by simp)⟩
/-- what Include tells: granted, or refused. -/
def IncP (w' : World) (gr : Prop) (i s : Int) (ps : List (List Int)) (x y : Int) (a : Option Addr) (m c : Nat) (en : Int) : Prop := (gr ∧ en = 0 ∧ x = i ∧ y = s ∧ LcM ps (.slice a m c) w') ∨ (¬ gr ∧ en = 1 ∧ x = 0 ∧ y = 0 ∧ a = none ∧ m = 0 ∧ c = 0)
theorem uinc_any (h : Lg w0 w l pd pk S f) (i n : Int) (hG : Gl w) :
    Calls Tryz.prog 26 #[.pointer (some ⟨l, 0, none⟩), .int .i64 i, .int .i64 n] w fun e w' => ∃ x y a m c en, e = .returned (.tuple #[.agg #[.int .i64 x, .int .i64 y, .slice a m c], .int .i64 en]) ∧ IncP w' (0 ≤ n ∧ n ≤ (S.its.length : Int) ∧ 0 ≤ i ∧ i < n) i n (incP ((S.its.take n.toNat).map tleafP) i.toNat) x y a m c en ∧ Kp [] w w' := by
  by_cases hg : 0 ≤ n ∧ n ≤ (S.its.length : Int) ∧ 0 ≤ i ∧ i < n
  · obtain ⟨k, rfl⟩ := Int.eq_ofNat_of_zero_le hg.1
    obtain ⟨j, rfl⟩ := Int.eq_ofNat_of_zero_le hg.2.2.1
    refine (uinc_ok h j k (by omega) (by omega) hG).mono ?_
    rintro e w' ⟨a, m, c, rfl, hL, K⟩
    exact ⟨_, _, a, m, c, 0, rfl, .inl ⟨hg, rfl, rfl, rfl, hL⟩, K⟩
  · refine (uinc_no h i n hg hG).mono ?_
    rintro e w' ⟨rfl, K⟩
    exact ⟨0, 0, none, 0, 0, 1, rfl, .inr ⟨hg, rfl, rfl, rfl, rfl, rfl, rfl⟩, K⟩
/-- what Grow tells: granted, or refused. -/
def GroP (w' : World) (gr : Prop) (i s : Int) (ps : List (List Int)) (x y : Int) (a : Option Addr) (m c : Nat) (en : Int) : Prop := (gr ∧ en = 0 ∧ x = i ∧ y = s ∧ LcM ps (.slice a m c) w') ∨ (¬ gr ∧ en = 1 ∧ x = 0 ∧ y = 0 ∧ a = none ∧ m = 0 ∧ c = 0)
theorem ugro_any (h : Lg w0 w l pd pk S f) (i n : Int) (hG : Gl w) :
    Calls Tryz.prog 29 #[.pointer (some ⟨l, 0, none⟩), .int .i64 i, .int .i64 n] w fun e w' => ∃ x y a m c en, e = .returned (.tuple #[.agg #[.int .i64 x, .int .i64 y, .slice a m c], .int .i64 en]) ∧ GroP w' (0 ≤ n ∧ n ≤ (S.its.length : Int) ∧ 0 ≤ i ∧ i ≤ n) i n (growP i.toNat ((S.its.take n.toNat).map tleafP)) x y a m c en ∧ Kp [] w w' := by
  by_cases hg : 0 ≤ n ∧ n ≤ (S.its.length : Int) ∧ 0 ≤ i ∧ i ≤ n
  · obtain ⟨k, rfl⟩ := Int.eq_ofNat_of_zero_le hg.1
    obtain ⟨j, rfl⟩ := Int.eq_ofNat_of_zero_le hg.2.2.1
    refine (ugro_ok h j k (by omega) (by omega) hG).mono ?_
    rintro e w' ⟨a, m, c, rfl, hL, K⟩
    exact ⟨_, _, a, m, c, 0, rfl, .inl ⟨hg, rfl, rfl, rfl, hL⟩, K⟩
  · refine (ugro_no h i n hg hG).mono ?_
    rintro e w' ⟨rfl, K⟩
    exact ⟨0, 0, none, 0, 0, 1, rfl, .inr ⟨hg, rfl, rfl, rfl, rfl, rfl, rfl⟩, K⟩
end
end Go.Proofs.YtillhpgdlmeajaaGreatDoor
