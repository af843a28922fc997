/-
  The contracts of the program's Include and Grow.
-/
import Derived.Test.YtillhpgdlmeajaaGreatDoorKLOnes
import Derived.Test.YtillhpgdlmeajaaGreatDoorKPPath
namespace Go.Proofs.YtillhpgdlmeajaaGreatDoor
open Go.RowKit
open Go.Proofs

theorem incP_1000 {ls : List (List Int)} {i : Nat} (hn : ls.length ≤ 1000) : (incP ls i).length ≤ 10 := by
  rw [incP_len _ ls i rfl]
  exact cntP_le 10 _ _ (by omega)
theorem gl_alloc {w : World} (hG : Gl w) (o : Obj) : Gl (w.alloc o) := hG.kept ((Kp.refl [] w).alloc o) (by simp)

set_option maxRecDepth 100000 in
set_option maxHeartbeats 1000000 in
theorem include_ok (v : Value) (ls : List (List Int)) (i : Nat) (w : World) (hL : LcM ls v w) (hi : i < ls.length) (hn : ls.length ≤ 1000) (hm : ∀ x ∈ ls, x.length ≤ 1000) (hG : Gl w) :
    Calls Tryz.prog 74 #[v, .int .i64 i] w fun e w' => ∃ v', e = .returned (.tuple #[v', .int .i64 0]) ∧ TV w' v' i ls.length (incP ls i) ∧ Kp [] w w' := by
  obtain ⟨ob, hob⟩ : ∃ o : Obj, o = (.cells #[.int .i64 0, .int .i64 0, .slice none 0 0] 54) := ⟨_, rfl⟩
  have K1 : Kp [] w (w.alloc ob) := (Kp.refl [] w).alloc ob
  obtain ⟨ps, hps⟩ : ∃ ps, ps = incP ls i := ⟨_, rfl⟩
  have HC := hide (apath_any ls.length v ls i ps (w.alloc ob) hps rfl hi (by omega) (hL.kept K1) hm (gl_alloc hG ob))
  have G1 : Hid ((w.alloc ob).heap[w.heap.size]? = some ob) := heap_alloc_new w ob
  have HZ : Hid (w.heap.size < (w.alloc ob).heap.size) := hide (by simp)
  have hpl : ps.length ≤ 1000 := by rw [hps]; have := incP_1000 (i := i) hn; omega
  rw [← hps]
  obtain ⟨ao, c, e, h1, h2, h3⟩ := hL.shape
  obtain ⟨n, hnn⟩ : ∃ n, n = ls.length := ⟨_, rfl⟩
  rw [← hnn] at e hi hn ⊢
  subst e
  rw [hob] at K1 HC G1 HZ
  have HK1 := hide K1
  have hi1 : ¬ (i : Int) < 0 := by omega
  have hi2 : ¬ (n : Int) ≤ (i : Int) := by omega
  clear hob K1 hps hm hG hL h1 h2 h3 hnn
  go_enter Tryz.func74, Tryz.ntmps74
  go_wp2_with fail
  refine (unhide HC).mono ?_
  rintro ee w2 ⟨a2, m2, c2, rfl, A2⟩
  have HA2 := hide A2
  have G2 := A2.kp.heap (unhide G1) (by simp)
  clear A2 HC
  go_wp2_with (refine wpList_store_tri triP rfl (.tmp 4) (.tmp 21) rfl w.heap.size rfl _ _ _ _ _ _ G2 rfl ⟨rfl, rfl, rfl⟩ ?_; intro w4 G4 K4)
  refine bodyPost_ret (results_tri triP rfl _ rfl G4) rfl ?_
  exact ⟨_, rfl, ⟨a2, m2, c2, rfl, (unhide HA2).off hpl (nob1 (unhide HZ) G2) K4⟩, ((unhide HK1).trans (unhide HA2).kp).then K4 (by simp)⟩

set_option maxRecDepth 100000 in
set_option maxHeartbeats 1000000 in
theorem include_no (v : Value) (ls : List (List Int)) (i : Int) (w : World) (hL : LcM ls v w) (hi : ¬ (0 ≤ i ∧ i < (ls.length : Int))) :
    Calls Tryz.prog 74 #[v, .int .i64 i] w fun e w' => e = .returned (.tuple #[.agg #[.int .i64 0, .int .i64 0, .slice none 0 0], .int .i64 1]) ∧ Kp [] w w' := by
  have G1 := heap_alloc_new w (.cells #[.int .i64 0, .int .i64 0, .slice none 0 0] 54)
  have HK1 := hide ((Kp.refl [] w).alloc (.cells #[.int .i64 0, .int .i64 0, .slice none 0 0] 54))
  obtain ⟨ao, c, e, h1, h2, h3⟩ := hL.shape
  obtain ⟨n, hnn⟩ : ∃ n, n = ls.length := ⟨_, rfl⟩
  rw [← hnn] at e hi
  subst e
  clear hL hnn h1 h2 h3
  by_cases hi1 : i < 0
  · clear hi
    go_enter Tryz.func74, Tryz.ntmps74
    go_wp2_with (refine wpList_store_tri triP rfl (.tmp 4) (.tmp 14) rfl w.heap.size rfl _ _ _ _ _ _ G1 rfl ⟨rfl, rfl, rfl⟩ ?_; intro w4 G4 K4)
    refine bodyPost_ret (results_tri triP rfl _ rfl G4) rfl ?_
    exact ⟨rfl, (unhide HK1).then K4 (by simp)⟩
  · have hi2 : (n : Int) ≤ i := by omega
    clear hi
    go_enter Tryz.func74, Tryz.ntmps74
    go_wp2_with (refine wpList_store_tri triP rfl (.tmp 4) (.tmp 14) rfl w.heap.size rfl _ _ _ _ _ _ G1 rfl ⟨rfl, rfl, rfl⟩ ?_; intro w4 G4 K4)
    refine bodyPost_ret (results_tri triP rfl _ rfl G4) rfl ?_
    exact ⟨rfl, (unhide HK1).then K4 (by simp)⟩

set_option maxRecDepth 100000 in
set_option maxHeartbeats 1000000 in
theorem grow_no (v : Value) (ls : List (List Int)) (i : Int) (w : World) (hL : LcM ls v w) (hi : ¬ (0 ≤ i ∧ i ≤ (ls.length : Int))) :
    Calls Tryz.prog 75 #[v, .int .i64 i] w fun e w' => e = .returned (.tuple #[.agg #[.int .i64 0, .int .i64 0, .slice none 0 0], .int .i64 1]) ∧ Kp [] w w' := by
  have G1 := heap_alloc_new w (.cells #[.int .i64 0, .int .i64 0, .slice none 0 0] 60)
  have HK1 := hide ((Kp.refl [] w).alloc (.cells #[.int .i64 0, .int .i64 0, .slice none 0 0] 60))
  obtain ⟨ao, c, e, h1, h2, h3⟩ := hL.shape
  obtain ⟨n, hnn⟩ : ∃ n, n = ls.length := ⟨_, rfl⟩
  rw [← hnn] at e hi
  subst e
  clear hL hnn h1 h2 h3
  by_cases hi1 : i < 0
  · clear hi
    go_enter Tryz.func75, Tryz.ntmps75
    go_wp2_with (refine wpList_store_tri triG rfl (.tmp 4) (.tmp 15) rfl w.heap.size rfl _ _ _ _ _ _ G1 rfl ⟨rfl, rfl, rfl⟩ ?_; intro w4 G4 K4)
    refine bodyPost_ret (results_tri triG rfl _ rfl G4) rfl ?_
    exact ⟨rfl, (unhide HK1).then K4 (by simp)⟩
  · have hi2 : (n : Int) < i := by omega
    clear hi
    go_enter Tryz.func75, Tryz.ntmps75
    go_wp2_with (refine wpList_store_tri triG rfl (.tmp 4) (.tmp 15) rfl w.heap.size rfl _ _ _ _ _ _ G1 rfl ⟨rfl, rfl, rfl⟩ ?_; intro w4 G4 K4)
    refine bodyPost_ret (results_tri triG rfl _ rfl G4) rfl ?_
    exact ⟨rfl, (unhide HK1).then K4 (by simp)⟩

set_option maxRecDepth 100000 in
set_option maxHeartbeats 2000000 in
theorem grow_ok (v : Value) (ls : List (List Int)) (i : Nat) (w : World) (hL : LcM ls v w) (hi : i ≤ ls.length) (hn : ls.length ≤ 1000) (hm : ∀ x ∈ ls, x.length ≤ 1000) (hG : Gl w) :
    Calls Tryz.prog 75 #[v, .int .i64 i] w fun e w' => ∃ v', e = .returned (.tuple #[v', .int .i64 0]) ∧ TV w' v' i ls.length (growP i ls) ∧ Kp [] w w' := by
  have HL := hide hL
  have HG := hide hG
  have HM := hide hm
  obtain ⟨ao, c, e, h1, h2, h3⟩ := hL.shape
  obtain ⟨n, hnn⟩ : ∃ n, n = ls.length := ⟨_, rfl⟩
  rw [← hnn] at e hi hn
  subst e
  have HNN := hide hnn
  have hi1 : ¬ (i : Int) < 0 := by omega
  have hi2 : ¬ (n : Int) < (i : Int) := by omega
  obtain ⟨o0, ho0⟩ : ∃ o : Obj, o = (.cells #[.int .i64 0, .int .i64 0, .slice none 0 0] 60) := ⟨_, rfl⟩
  have K1 : Kp [] w ((w.alloc o0).alloc o0) := ((Kp.refl [] w).alloc o0).alloc o0
  have G0 : ((w.alloc o0).alloc o0).heap[w.heap.size]? = some o0 := ((Kp.refl [] (w.alloc o0)).alloc o0).heap (heap_alloc_new w o0) (by simp)
  have G1 : ((w.alloc o0).alloc o0).heap[w.heap.size + 1]? = some o0 := by
    have := heap_alloc_new (w.alloc o0) o0
    rw [show (w.alloc o0).heap.size = w.heap.size + 1 by simp] at this
    exact this
  have HZ : Hid (w.heap.size + 2 = ((w.alloc o0).alloc o0).heap.size) := hide (by simp)
  rw [ho0] at K1 G0 G1 HZ
  have HK1 := hide K1
  have HG0 := hide G0
  have HG1 := hide G1
  clear hL hnn h1 h2 h3 hG hm K1 G0 G1 ho0
  rw [← unhide HNN]
  have HK3 : Hid (∀ w3, Kp [w.heap.size + 1] _ w3 → Kp [] w w3) := fun w3 k => (unhide HK1).then k (fun i hi => .inr (by simp at hi; omega))
  by_cases hi0 : i = 0
  · subst hi0
    rw [growP_zero]
    go_enter Tryz.func75, Tryz.ntmps75
    go_wp2_with (refine wpList_store_tri triG rfl (.tmp 6) (.tmp 19) rfl (w.heap.size + 1) rfl _ _ _ _ _ _ (unhide HG1) rfl ⟨rfl, rfl, rfl⟩ ?_; intro w3 G3 K3; refine Hid.out ?_)
    obtain ⟨c0, c1, c2⟩ := cell_tri G3
    have G03 := K3.heap (unhide HG0) (by simp)
    have HK4 := hide (unhide HK3 w3 K3)
    clear K3 G3
    refine hide ?_
    go_wp2_with (refine wpList_store_tri triG rfl (.tmp 4) (.tmp 26) rfl w.heap.size rfl _ _ _ _ _ _ G03 rfl ⟨rfl, rfl, rfl⟩ ?_; intro w5 G5 K5)
    refine bodyPost_ret (results_tri triG rfl _ rfl G5) rfl ?_
    exact ⟨_, rfl, ⟨none, 0, 0, rfl, lcm_nil _⟩, (unhide HK4).then K5 (by simp)⟩
  · have hi3 : (0 : Int) < (i : Int) := by omega
    obtain ⟨ps, hps⟩ : ∃ ps, ps = subP i ls true := ⟨_, rfl⟩
    have HPS : Hid (growP i ls = ps) := hide (by rw [growP_pos (by omega), hps])
    have hpl : ps.length ≤ 1000 := by rw [← unhide HPS]; have := growP_1000 (ls := ls) (m := i) (by rw [← unhide HNN]; exact hn) (by rw [← unhide HNN]; exact hi); omega
    have HPP := hide hps
    clear hps
    rw [unhide HPS]
    go_enter Tryz.func75, Tryz.ntmps75
    go_wp2_with (refine wpList_store_tri triG rfl (.tmp 6) (.tmp 19) rfl (w.heap.size + 1) rfl _ _ _ _ _ _ (unhide HG1) rfl ⟨rfl, rfl, rfl⟩ ?_; intro w3 G3 K3; refine Hid.out ?_)
    have HG3 := hide G3
    have HG03 := hide (K3.heap (unhide HG0) (by simp))
    have HK4 := hide (unhide HK3 w3 K3)
    have HZ3 : Hid (w.heap.size + 2 ≤ w3.heap.size) := hide (by rw [unhide HZ]; exact K3.size)
    have HC := hide (gpath_any n _ ls i true ps w3 (unhide HPP) (unhide HNN).symm (by omega) hi (by omega) ((unhide HL).kept (unhide HK4)) (unhide HM) ((unhide HG).kept (unhide HK4) (by simp)))
    clear K3 G3
    refine hide ?_
    go_wp2_with fail
    refine (unhide HC).mono ?_
    rintro ee w4 ⟨a4, m4, c4, rfl, A4⟩
    have HA4 := hide A4
    have G4 := A4.kp.heap (unhide HG3) (by simp)
    have HG4 := hide G4
    have HG04 := hide (A4.kp.heap (unhide HG03) (by simp))
    obtain ⟨c0, c1, c2⟩ := cell_tri G4
    have f2 := frozen_of_row w4 (w.heap.size + 1) 2 _ _ G4
    have k5 : Kp [w.heap.size + 1] w4 (w4.setCell ⟨w.heap.size + 1, 2, none⟩ (.slice a4 m4 c4)) := (Kp.refl _ w4).setCell (p := ⟨w.heap.size + 1, 2, none⟩) (.inl (by simp)) _
    have G5 : (w4.setCell ⟨w.heap.size + 1, 2, none⟩ (.slice a4 m4 c4)).heap[w.heap.size + 1]? = some (.cells #[.int .i64 i, .int .i64 n, .slice a4 m4 c4] 60 (0, 0)) := by simpa using heap_setCell_same w4 (w.heap.size + 1) 2 _ _ (.slice a4 m4 c4) G4
    obtain ⟨d0, d1, d2⟩ := cell_tri G5
    have G05 := k5.heap (unhide HG04) (by simp)
    have HK5 := hide k5
    clear A4 G4 HC HG3 HG03 k5 G5
    go_wp2_with (refine wpList_store_tri triG rfl (.tmp 4) (.tmp 26) rfl w.heap.size rfl _ _ _ _ _ _ G05 rfl ⟨rfl, rfl, rfl⟩ ?_; intro w6 G6 K6)
    have HK6 : Hid (Kp [w.heap.size, w.heap.size + 1] w4 w6) := ((unhide HK5).mono (by simp)).trans (K6.mono (by simp))
    have HN6 : Hid (NoB w3.heap.size w4 [w.heap.size, w.heap.size + 1]) := nob2 (by have := unhide HZ3; omega) (unhide HG04) (nob1 (by have := unhide HZ3; omega) (unhide HG4))
    refine bodyPost_ret (results_tri triG rfl _ rfl G6) rfl ?_
    exact ⟨_, rfl, ⟨a4, m4, c4, rfl, (unhide HA4).off hpl (unhide HN6) (unhide HK6)⟩, ((unhide HK4).trans (unhide HA4).kp).then (unhide HK6) (fun i hi => .inr (by simp at hi; omega))⟩
end Go.Proofs.YtillhpgdlmeajaaGreatDoor
