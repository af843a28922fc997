/-
  The contracts of the program's sideOf, bothShown, signers and of what Sign hands on.
-/
import Derived.Test.YtdioaohejoflcaaDoorM10
import Derived.Laws.EntriesVeiled
namespace Go.Proofs.YtdioaohejoflcaaDoor
open Go.RowKit

/-- the function value of a side. -/
def tl (b : Bool) : Value := .func (.func (if b then 80 else 83)) #[] #[]
theorem and_one (n : Int) (h0 : 0 ≤ n) : bits .and .u32 n 1 = n % 2 := by
  obtain ⟨m, rfl⟩ := Int.eq_ofNat_of_zero_le h0
  show IntKind.u32.wrap ((BitVec.ofInt 32 (m : Int) &&& BitVec.ofInt 32 1).toNat : Int) = _
  have e1 : (BitVec.ofInt 32 (m : Int) &&& BitVec.ofInt 32 1).toNat = m % 2 := by
    rw [BitVec.toNat_and, show (BitVec.ofInt 32 1).toNat = 1 from rfl, Nat.and_one_is_mod, BitVec.ofInt_natCast, BitVec.toNat_ofNat]
    omega
  rw [e1]
  simp [IntKind.wrap, IntKind.signed, IntKind.bits]
  omega
theorem sd_val (d : Int) (j : Nat) : ((sdP d j : Nat) : Int) = d / 2 ^ (31 - j) % 2 := by unfold sdP; omega

set_option maxHeartbeats 1000000 in
theorem sideOf_any (d : Int) (j s : Nat) (hs : s = sdP d j) (w : World) (h0 : 0 ≤ d) (hj : j < 32) :
    Calls Tryd.prog 66 #[.int .u32 d, .int .i64 j] w fun e w' => e = .returned (.int .i64 s) ∧ w' = w := by
  have hj1 : (j : Int) ≤ 31 := by omega
  have hj2 : (31 - (j : Int)).toNat = 31 - j := by omega
  have hd0 : 0 ≤ d / 2 ^ (31 - j) := Int.ediv_nonneg h0 (Int.le_of_lt (Int.pow_pos (by omega)))
  have ha := and_one _ hd0
  have hsv := sd_val d j
  rw [← hs] at hsv
  have HS := hide hsv
  clear hs hsv
  go_enter Tryd.func66, Tryd.ntmps66
  go_wp2_with fail
  go_ret
  exact ⟨by rw [unhide HS]; rfl, rfl⟩

set_option maxHeartbeats 1000000 in
theorem bothShown_any (j : Int) (w : World) :
    Calls Tryd.prog 78 #[.int .i64 j] w fun e w' => e = .returned (.agg #[tl false, tl false]) ∧ Kp [] w w' := by
  go_enter Tryd.func78, Tryd.ntmps78
  go_wp2_with fail
  refine bodyPost_ret (results_cell_row rfl _ _ w.heap.size _ _ (0, 0) (.array 2 86) rfl (heap_alloc_new w _) Tryd.underlying88 rfl (by kernel_rfl)) rfl ?_
  exact ⟨rfl, (Kp.refl [] w).alloc _⟩

/-- the two function values of bit j by what a digest says. -/
def two (c : Nat → Nat → Bool) (j : Nat) : Value := .agg #[tl (c j 0), tl (c j 1)]
abbrev fSec : Value := .func (.func 80) #[] #[]
abbrev fShn : Value := .func (.func 83) #[] #[]
theorem pair_set {w : World} {b : Nat} {t : TypeId} {x y : Value} (h : w.heap[b]? = some (.cells #[x, y] t (0, 0))) (u v : Value) (o : Obj) : (((w.setCell ⟨b, 0, none⟩ u).setCell ⟨b, 1, none⟩ v).alloc o).heap[b]? = some (.cells #[u, v] t (0, 0)) := by
  have h1 := heap_setCell_same w b 0 _ t u h
  have h2 := heap_setCell_same _ b 1 _ t v h1
  exact ((Kp.refl [] _).alloc o).heap h2 (by simp)
theorem pair_kp {a w : World} {b : Nat} (h : Kp [] a w) (hb : a.heap.size ≤ b) (u v : Value) (o : Obj) : Kp [] a (((w.setCell ⟨b, 0, none⟩ u).setCell ⟨b, 1, none⟩ v).alloc o) :=
  ((h.setCell (p := ⟨b, 0, none⟩) (.inr hb) u).setCell (p := ⟨b, 1, none⟩) (.inr hb) v).alloc o
theorem pair_kp2 {a w : World} {b : Nat} (h : Kp [] a w) (hb : a.heap.size ≤ b) (u v : Value) : Kp [] a ((w.setCell ⟨b, 0, none⟩ u).setCell ⟨b, 1, none⟩ v) :=
  ((h.setCell (p := ⟨b, 0, none⟩) (.inr hb) u).setCell (p := ⟨b, 1, none⟩) (.inr hb) v)
theorem pair_set2 {w : World} {b : Nat} {t : TypeId} {x y : Value} (h : w.heap[b]? = some (.cells #[x, y] t (0, 0))) (u v : Value) : ((w.setCell ⟨b, 0, none⟩ u).setCell ⟨b, 1, none⟩ v).heap[b]? = some (.cells #[u, v] t (0, 0)) := by
  have h1 := heap_setCell_same w b 0 _ t u h
  exact heap_setCell_same _ b 1 _ t v h1
theorem Tryd.szB : (Tryd.prog.info? 88).map (·.size) = some 2 := by kernel_rfl

set_option maxHeartbeats 1000000 in
theorem signers_any (d : Int) (j : Nat) (w : World) (h0 : 0 ≤ d) (hj : j < 32) :
    Calls Tryd.prog 61 #[.int .u32 d, .int .i64 j] w fun e w' => e = .returned (two (digC d) j) ∧ Kp [] w w' := by
  obtain ⟨s, hs⟩ : ∃ s, s = sdP d j := ⟨_, rfl⟩
  have hlt : s < 2 := by rw [hs]; exact sdP_lt d j
  have HT : Hid (two (digC d) j = .agg #[tl (s == 0), tl (s == 1)]) := by rw [hs]; rfl
  have HB := hide bothShown_any
  have HS := hide hs
  clear hs
  rw [unhide HT]
  clear HT
  rcases (by omega : s = 0 ∨ s = 1) with rfl | rfl
  · show Calls Tryd.prog 61 #[.int .u32 d, .int .i64 j] w fun e w' => e = .returned (.agg #[fSec, fShn]) ∧ Kp [] w w'
    go_enter Tryd.func61, Tryd.ntmps61
    go_wp2_with fail
    refine (unhide HB _ _).mono ?_
    rintro ee w2 ⟨rfl, K2⟩
    have HK2 := hide (((Kp.refl [] w).alloc _).trans K2)
    have hlt2 : w.heap.size < w2.heap.size := by have := K2.size; simp at this; omega
    have hg2 := K2.heap (heap_alloc_new w (.cells #[.nilFunc, .nilFunc] 88)) (by simp)
    have hc0 : w2.cell? ⟨w.heap.size, 0, none⟩ = some .nilFunc := by rw [cell_of_row w2 _ 0 _ _ _ hg2]; rfl
    have hc1 : w2.cell? ⟨w.heap.size, 1, none⟩ = some .nilFunc := by rw [cell_of_row w2 _ 1 _ _ _ hg2]; rfl
    have hf0 : w2.frozen? ⟨w.heap.size, 0, none⟩ = false := frozen_of_row w2 _ 0 _ _ hg2
    have hf1 : w2.frozen? ⟨w.heap.size, 1, none⟩ = false := frozen_of_row w2 _ 1 _ _ hg2
    have HG2 := hide hg2
    clear K2 hg2
    simp only [tl, Bool.false_eq_true, if_false]
    go_wp2_with fail
    refine (sideOf_any d j 0 (unhide HS) _ h0 hj).mono ?_
    rintro ee w3 ⟨rfl, hw⟩
    subst w3
    go_wp2_with fail
    refine bodyPost_ret (results_cell_row rfl _ _ w.heap.size _ _ (0, 0) (.array 2 86) rfl (pair_set (unhide HG2) _ _ _) Tryd.underlying88 rfl Tryd.szB) rfl ?_
    exact ⟨rfl, pair_kp (unhide HK2) (Nat.le_refl _) _ _ _⟩
  · show Calls Tryd.prog 61 #[.int .u32 d, .int .i64 j] w fun e w' => e = .returned (.agg #[fShn, fSec]) ∧ Kp [] w w'
    go_enter Tryd.func61, Tryd.ntmps61
    go_wp2_with fail
    refine (unhide HB _ _).mono ?_
    rintro ee w2 ⟨rfl, K2⟩
    have HK2 := hide (((Kp.refl [] w).alloc _).trans K2)
    have hlt2 : w.heap.size < w2.heap.size := by have := K2.size; simp at this; omega
    have hg2 := K2.heap (heap_alloc_new w (.cells #[.nilFunc, .nilFunc] 88)) (by simp)
    have hc0 : w2.cell? ⟨w.heap.size, 0, none⟩ = some .nilFunc := by rw [cell_of_row w2 _ 0 _ _ _ hg2]; rfl
    have hc1 : w2.cell? ⟨w.heap.size, 1, none⟩ = some .nilFunc := by rw [cell_of_row w2 _ 1 _ _ _ hg2]; rfl
    have hf0 : w2.frozen? ⟨w.heap.size, 0, none⟩ = false := frozen_of_row w2 _ 0 _ _ hg2
    have hf1 : w2.frozen? ⟨w.heap.size, 1, none⟩ = false := frozen_of_row w2 _ 1 _ _ hg2
    have HG2 := hide hg2
    clear K2 hg2
    simp only [tl, Bool.false_eq_true, if_false]
    go_wp2_with fail
    refine (sideOf_any d j 1 (unhide HS) _ h0 hj).mono ?_
    rintro ee w3 ⟨rfl, hw⟩
    subst w3
    go_wp2_with fail
    refine bodyPost_ret (results_cell_row rfl _ _ w.heap.size _ _ (0, 0) (.array 2 86) rfl (pair_set (unhide HG2) _ _ _) Tryd.underlying88 rfl Tryd.szB) rfl ?_
    exact ⟨rfl, pair_kp (unhide HK2) (Nat.le_refl _) _ _ _⟩

set_option maxHeartbeats 1000000 in
theorem sign1_any (d : Int) (j b : Nat) (w : World) (h0 : 0 ≤ d) (hj : j < 32) (hd : w.cell? ⟨b, 0, none⟩ = some (.int .u32 d)) :
    Calls Tryd.prog 60 #[.int .i64 j, .pointer (some ⟨b, 0, none⟩)] w fun e w' => e = .returned (two (digC d) j) ∧ Kp [] w w' := by
  have hB := fun w => signers_any d j w h0 hj
  obtain ⟨f0, e0⟩ : ∃ f0, tl (digC d j 0) = .func (.func f0) #[] #[] := ⟨_, rfl⟩
  obtain ⟨f1, e1⟩ : ∃ f1, tl (digC d j 1) = .func (.func f1) #[] #[] := ⟨_, rfl⟩
  have hT : two (digC d) j = .agg #[.func (.func f0) #[] #[], .func (.func f1) #[] #[]] := by unfold two; rw [e0, e1]
  rw [hT] at hB ⊢
  have HB := hide hB
  clear hT e0 e1 hB
  have hd2 := ((Kp.refl [] w).alloc (.cells #[.nilFunc, .nilFunc] 88)).cell hd (by simp)
  clear hd
  go_enter Tryd.func60, Tryd.ntmps60
  go_wp2_with fail
  refine (unhide HB _).mono ?_
  rintro ee w2 ⟨rfl, K2⟩
  have HK2 := hide (((Kp.refl [] w).alloc _).trans K2)
  have hlt2 : w.heap.size < w2.heap.size := by have := K2.size; simp at this; omega
  have hg2 := K2.heap (heap_alloc_new w (.cells #[.nilFunc, .nilFunc] 88)) (by simp)
  have hc0 : w2.cell? ⟨w.heap.size, 0, none⟩ = some .nilFunc := by rw [cell_of_row w2 _ 0 _ _ _ hg2]; rfl
  have hc1 : w2.cell? ⟨w.heap.size, 1, none⟩ = some .nilFunc := by rw [cell_of_row w2 _ 1 _ _ _ hg2]; rfl
  have hf0 : w2.frozen? ⟨w.heap.size, 0, none⟩ = false := frozen_of_row w2 _ 0 _ _ hg2
  have hf1 : w2.frozen? ⟨w.heap.size, 1, none⟩ = false := frozen_of_row w2 _ 1 _ _ hg2
  have HG2 := hide hg2
  clear K2 hg2 hd2
  go_wp2_with fail
  refine bodyPost_ret (results_cell_row rfl _ _ w.heap.size _ _ (0, 0) (.array 2 86) rfl (pair_set2 (unhide HG2) _ _) Tryd.underlying88 rfl Tryd.szB) rfl ?_
  exact ⟨rfl, pair_kp2 (unhide HK2) (Nat.le_refl _) _ _⟩
end Go.Proofs.YtdioaohejoflcaaDoor
