/-
  The contracts of the program's sideOf, bothShown, signers and of what Sign hands on.
-/
import Derived.Test.YtdioaohejoflcaaDoorM1
import Derived.Laws.EntriesVeiled
import Derived.Test.YtdioaohejoflcaaDoorRows
import Derived.Deep.Slices
import Derived.Lib.SmallJoins
import Derived.Lib.LaidTab
import Derived.ProofKit
import Derived.LaidMore
import Derived.OpenShut
import Derived.Stop.Joined
import Derived.ShutString
import Derived.ChangeOld
import Derived.Below
import Derived.Shelf.Abstract
import Derived.Orders
import Derived.BigCall
import Derived.StillTail
namespace Go.Proofs.YtdioaohejoflcaaDoor
open Go.RowKit

/-- the function value of a side. -/
def tl (b : Bool) : Value := .func (.func (if b then 80 else 83)) #[] #[]
theorem and_one (n : Int) (h0 : 0 ≤ n) : bits .and .u32 n 1 = n % 2 := by
  obtain ⟨m, rfl⟩ := Int.eq_ofNat_of_zero_le h0
  show IntKind.u32.wrap ((BitVec.ofInt 32 (m : Int) &&& BitVec.ofInt 32 1).toNat : Int) = _
  have e1 : (BitVec.ofInt 32 (m : Int) &&& BitVec.ofInt 32 1).toNat = m % 2 := by
    rw [BitVec.toNat_and, show (BitVec.ofInt 32 1).toNat = 1 from rfl, Nat.and_one_is_mod, BitVec.ofInt_natCast, BitVec.toNat_ofNat]
    omega
  rw [e1]
  simp [IntKind.wrap, IntKind.signed, IntKind.bits]
  omega
theorem sd_val (d : Int) (j : Nat) : ((sdP d j : Nat) : Int) = d / 2 ^ (31 - j) % 2 := by unfold sdP; omega

set_option maxHeartbeats 1000000 in
theorem sideOf_any (d : Int) (j s : Nat) (hs : s = sdP d j) (w : World) (h0 : 0 ≤ d) (hj : j < 32) :
    Calls Tryd.prog 66 #[.int .u32 d, .int .i64 j] w fun e w' => e = .returned (.int .i64 s) ∧ w' = w := by
  have hj1 : (j : Int) ≤ 31 := by omega
  have hj2 : (31 - (j : Int)).toNat = 31 - j := by omega
  have hd0 : 0 ≤ d / 2 ^ (31 - j) := Int.ediv_nonneg h0 (Int.le_of_lt (Int.pow_pos (by omega)))
  have ha := and_one _ hd0
  have hsv := sd_val d j
  rw [← hs] at hsv
  have HS := hide hsv
  clear hs hsv
  go_enter Tryd.func66, Tryd.ntmps66
  go_wp2_with fail
  go_ret
  exact ⟨by rw [unhide HS]; rfl, rfl⟩

set_option maxHeartbeats 1000000 in
theorem bothShown_any (j : Int) (w : World) :
    Calls Tryd.prog 78 #[.int .i64 j] w fun e w' => e = .returned (.agg #[tl false, tl false]) ∧ Kp [] w w' := by
  go_enter Tryd.func78, Tryd.ntmps78
  go_wp2_with fail
  refine bodyPost_ret (results_cell_row rfl _ _ w.heap.size _ _ (0, 0) (.array 2 86) rfl (heap_alloc_new w _) Tryd.underlying88 rfl (by kernel_rfl)) rfl ?_
  exact ⟨rfl, (Kp.refl [] w).alloc _⟩

/-- the two function values of bit j by what a digest says. -/
def two (c : Nat → Nat → Bool) (j : Nat) : Value := .agg #[tl (c j 0), tl (c j 1)]
abbrev fSec : Value := .func (.func 80) #[] #[]
abbrev fShn : Value := .func (.func 83) #[] #[]
theorem pair_set {w : World} {b : Nat} {t : TypeId} {x y : Value} (h : w.heap[b]? = some (.cells #[x, y] t (0, 0))) (u v : Value) (o : Obj) : (((w.setCell ⟨b, 0, none⟩ u).setCell ⟨b, 1, none⟩ v).alloc o).heap[b]? = some (.cells #[u, v] t (0, 0)) := by
  have h1 := heap_setCell_same w b 0 _ t u h
  have h2 := heap_setCell_same _ b 1 _ t v h1
  exact ((Kp.refl [] _).alloc o).heap h2 (by simp)
theorem pair_kp {a w : World} {b : Nat} (h : Kp [] a w) (hb : a.heap.size ≤ b) (u v : Value) (o : Obj) : Kp [] a (((w.setCell ⟨b, 0, none⟩ u).setCell ⟨b, 1, none⟩ v).alloc o) :=
  ((h.setCell (p := ⟨b, 0, none⟩) (.inr hb) u).setCell (p := ⟨b, 1, none⟩) (.inr hb) v).alloc o
theorem pair_kp2 {a w : World} {b : Nat} (h : Kp [] a w) (hb : a.heap.size ≤ b) (u v : Value) : Kp [] a ((w.setCell ⟨b, 0, none⟩ u).setCell ⟨b, 1, none⟩ v) :=
  ((h.setCell (p := ⟨b, 0, none⟩) (.inr hb) u).setCell (p := ⟨b, 1, none⟩) (.inr hb) v)
theorem pair_set2 {w : World} {b : Nat} {t : TypeId} {x y : Value} (h : w.heap[b]? = some (.cells #[x, y] t (0, 0))) (u v : Value) : ((w.setCell ⟨b, 0, none⟩ u).setCell ⟨b, 1, none⟩ v).heap[b]? = some (.cells #[u, v] t (0, 0)) := by
  have h1 := heap_setCell_same w b 0 _ t u h
  exact heap_setCell_same _ b 1 _ t v h1
theorem Tryd.szB : (Tryd.prog.info? 88).map (·.size) = some 2 := by kernel_rfl

set_option maxHeartbeats 1000000 in
theorem signers_any (d : Int) (j : Nat) (w : World) (h0 : 0 ≤ d) (hj : j < 32) :
    Calls Tryd.prog 61 #[.int .u32 d, .int .i64 j] w fun e w' => e = .returned (two (digC d) j) ∧ Kp [] w w' := by
  obtain ⟨s, hs⟩ : ∃ s, s = sdP d j := ⟨_, rfl⟩
  have hlt : s < 2 := by rw [hs]; exact sdP_lt d j
  have HT : Hid (two (digC d) j = .agg #[tl (s == 0), tl (s == 1)]) := by rw [hs]; rfl
  have HB := hide bothShown_any
  have HS := hide hs
  clear hs
  rw [unhide HT]
  clear HT
  rcases (by omega : s = 0 ∨ s = 1) with rfl | rfl
  · show Calls Tryd.prog 61 #[.int .u32 d, .int .i64 j] w fun e w' => e = .returned (.agg #[fSec, fShn]) ∧ Kp [] w w'
    go_enter Tryd.func61, Tryd.ntmps61
    go_wp2_with fail
    refine (unhide HB _ _).mono ?_
    rintro ee w2 ⟨rfl, K2⟩
    have HK2 := hide (((Kp.refl [] w).alloc _).trans K2)
    have hlt2 : w.heap.size < w2.heap.size := by have := K2.size; simp at this; omega
    have hg2 := K2.heap (heap_alloc_new w (.cells #[.nilFunc, .nilFunc] 88)) (by simp)
    have hc0 : w2.cell? ⟨w.heap.size, 0, none⟩ = some .nilFunc := by rw [cell_of_row w2 _ 0 _ _ _ hg2]; rfl
    have hc1 : w2.cell? ⟨w.heap.size, 1, none⟩ = some .nilFunc := by rw [cell_of_row w2 _ 1 _ _ _ hg2]; rfl
    have hf0 : w2.frozen? ⟨w.heap.size, 0, none⟩ = false := frozen_of_row w2 _ 0 _ _ hg2
    have hf1 : w2.frozen? ⟨w.heap.size, 1, none⟩ = false := frozen_of_row w2 _ 1 _ _ hg2
    have HG2 := hide hg2
    clear K2 hg2
    simp only [tl, Bool.false_eq_true, if_false]
    go_wp2_with fail
    refine (sideOf_any d j 0 (unhide HS) _ h0 hj).mono ?_
    rintro ee w3 ⟨rfl, hw⟩
    subst w3
    go_wp2_with fail
    refine bodyPost_ret (results_cell_row rfl _ _ w.heap.size _ _ (0, 0) (.array 2 86) rfl (pair_set (unhide HG2) _ _ _) Tryd.underlying88 rfl Tryd.szB) rfl ?_
    exact ⟨rfl, pair_kp (unhide HK2) (Nat.le_refl _) _ _ _⟩
  · show Calls Tryd.prog 61 #[.int .u32 d, .int .i64 j] w fun e w' => e = .returned (.agg #[fShn, fSec]) ∧ Kp [] w w'
    go_enter Tryd.func61, Tryd.ntmps61
    go_wp2_with fail
    refine (unhide HB _ _).mono ?_
    rintro ee w2 ⟨rfl, K2⟩
    have HK2 := hide (((Kp.refl [] w).alloc _).trans K2)
    have hlt2 : w.heap.size < w2.heap.size := by have := K2.size; simp at this; omega
    have hg2 := K2.heap (heap_alloc_new w (.cells #[.nilFunc, .nilFunc] 88)) (by simp)
    have hc0 : w2.cell? ⟨w.heap.size, 0, none⟩ = some .nilFunc := by rw [cell_of_row w2 _ 0 _ _ _ hg2]; rfl
    have hc1 : w2.cell? ⟨w.heap.size, 1, none⟩ = some .nilFunc := by rw [cell_of_row w2 _ 1 _ _ _ hg2]; rfl
    have hf0 : w2.frozen? ⟨w.heap.size, 0, none⟩ = false := frozen_of_row w2 _ 0 _ _ hg2
    have hf1 : w2.frozen? ⟨w.heap.size, 1, none⟩ = false := frozen_of_row w2 _ 1 _ _ hg2
    have HG2 := hide hg2
    clear K2 hg2
    simp only [tl, Bool.false_eq_true, if_false]
    go_wp2_with fail
    refine (sideOf_any d j 1 (unhide HS) _ h0 hj).mono ?_
    rintro ee w3 ⟨rfl, hw⟩
    subst w3
    go_wp2_with fail
    refine bodyPost_ret (results_cell_row rfl _ _ w.heap.size _ _ (0, 0) (.array 2 86) rfl (pair_set (unhide HG2) _ _ _) Tryd.underlying88 rfl Tryd.szB) rfl ?_
    exact ⟨rfl, pair_kp (unhide HK2) (Nat.le_refl _) _ _ _⟩

set_option maxHeartbeats 1000000 in
theorem sign1_any (d : Int) (j b : Nat) (w : World) (h0 : 0 ≤ d) (hj : j < 32) (hd : w.cell? ⟨b, 0, none⟩ = some (.int .u32 d)) :
    Calls Tryd.prog 60 #[.int .i64 j, .pointer (some ⟨b, 0, none⟩)] w fun e w' => e = .returned (two (digC d) j) ∧ Kp [] w w' := by
  have hB := fun w => signers_any d j w h0 hj
  obtain ⟨f0, e0⟩ : ∃ f0, tl (digC d j 0) = .func (.func f0) #[] #[] := ⟨_, rfl⟩
  obtain ⟨f1, e1⟩ : ∃ f1, tl (digC d j 1) = .func (.func f1) #[] #[] := ⟨_, rfl⟩
  have hT : two (digC d) j = .agg #[.func (.func f0) #[] #[], .func (.func f1) #[] #[]] := by unfold two; rw [e0, e1]
  rw [hT] at hB ⊢
  have HB := hide hB
  clear hT e0 e1 hB
  have hd2 := ((Kp.refl [] w).alloc (.cells #[.nilFunc, .nilFunc] 88)).cell hd (by simp)
  clear hd
  go_enter Tryd.func60, Tryd.ntmps60
  go_wp2_with fail
  refine (unhide HB _).mono ?_
  rintro ee w2 ⟨rfl, K2⟩
  have HK2 := hide (((Kp.refl [] w).alloc _).trans K2)
  have hlt2 : w.heap.size < w2.heap.size := by have := K2.size; simp at this; omega
  have hg2 := K2.heap (heap_alloc_new w (.cells #[.nilFunc, .nilFunc] 88)) (by simp)
  have hc0 : w2.cell? ⟨w.heap.size, 0, none⟩ = some .nilFunc := by rw [cell_of_row w2 _ 0 _ _ _ hg2]; rfl
  have hc1 : w2.cell? ⟨w.heap.size, 1, none⟩ = some .nilFunc := by rw [cell_of_row w2 _ 1 _ _ _ hg2]; rfl
  have hf0 : w2.frozen? ⟨w.heap.size, 0, none⟩ = false := frozen_of_row w2 _ 0 _ _ hg2
  have hf1 : w2.frozen? ⟨w.heap.size, 1, none⟩ = false := frozen_of_row w2 _ 1 _ _ hg2
  have HG2 := hide hg2
  clear K2 hg2 hd2
  go_wp2_with fail
  refine bodyPost_ret (results_cell_row rfl _ _ w.heap.size _ _ (0, 0) (.array 2 86) rfl (pair_set2 (unhide HG2) _ _) Tryd.underlying88 rfl Tryd.szB) rfl ?_
  exact ⟨rfl, pair_kp2 (unhide HK2) (Nat.le_refl _) _ _⟩
end Go.Proofs.YtdioaohejoflcaaDoor

/-
  Helpers of the laws: Cut, Within; how an argument that is a row of bytes is read; what the laid table gives.
-/
namespace Go.Proofs.YtdioaohejoflcaaDoor
open Go.ChangeShapes Go.WideShapes Go.ChangeAt Go.RowKit
open Go.Deep

theorem cut_any (v : Value) (bs : List Int) (n : Nat) (w : World) (h : Sl w v bs) :
    Calls Tryd.prog 22 #[v, .int .i64 n] w fun e w' => ∃ ao c, e = .returned (.slice ao (bs.take n).length c) ∧ (∀ W, Sl W v bs → Sl W (.slice ao (bs.take n).length c) (bs.take n)) ∧ w' = w := by
  obtain ⟨ao, c, rfl, h1, h2, h3, h4⟩ := h
  unfold maxLen at h2
  clear h4
  by_cases hn : n < bs.length
  · have hlt : (n : Int) < (bs.length : Int) := by omega
    have hc : (n : Int) ≤ (c : Int) := by omega
    have hT := fun W (hs : Sl W (.slice ao bs.length c) bs) => hs.take n (by omega)
    have hl : (bs.take n).length = n := by simp; omega
    rw [hl]
    have HT := hide hT
    clear hT
    go_enter Tryd.func22, Tryd.ntmps22
    go_wp2
    go_ret
    exact ⟨ao, c, rfl, unhide HT, rfl⟩
  · have hlt : ¬ (n : Int) < (bs.length : Int) := by omega
    rw [List.take_of_length_le (by omega)]
    go_enter Tryd.func22, Tryd.ntmps22
    go_wp2
    go_ret
    exact ⟨ao, c, rfl, fun _ hs => hs, rfl⟩

theorem tmod_bd (n m : Int) (hn : n < 0) (hm : 0 < m) : -m < n.tmod m ∧ n.tmod m ≤ 0 := by
  have e : n.tmod m = -((-n) % m) := by
    rw [← Int.tmod_eq_emod_of_nonneg (by omega), Int.neg_tmod, Int.neg_neg]
  rw [e]
  have h1 := Int.emod_nonneg (-n) (show m ≠ 0 by omega)
  have h2 := Int.emod_lt_of_pos (-n) hm
  omega

theorem within_any (n lo hi : Int) (w : World) (h0 : 0 ≤ lo) (h1 : lo ≤ hi) (h2 : hi ≤ 4611686018427387904) (hn : -9223372036854775808 ≤ n ∧ n ≤ 9223372036854775807) :
    Calls Tryd.prog 23 #[.int .i64 n, .int .i64 lo, .int .i64 hi] w fun e w' => ∃ x, e = .returned (.int .i64 x) ∧ lo ≤ x ∧ x ≤ hi ∧ w' = w := by
  have hm : (hi - lo + 1 == 0) = false := beq_eq_false_iff_ne.2 (by omega)
  by_cases a3 : 0 ≤ n
  · have hr : 0 ≤ n % (hi - lo + 1) ∧ n % (hi - lo + 1) < hi - lo + 1 := ⟨Int.emod_nonneg _ (by omega), Int.emod_lt_of_pos _ (by omega)⟩
    obtain ⟨hr1, hr2⟩ := hr
    by_cases a1 : lo ≤ n
    · by_cases a2 : n ≤ hi
      · go_enter Tryd.func23, Tryd.ntmps23
        go_wp2
        go_ret
        exact ⟨n, rfl, a1, a2, rfl⟩
      · go_enter Tryd.func23, Tryd.ntmps23
        go_wp2
        go_ret
        exact ⟨_, rfl, by omega, by omega, rfl⟩
    · go_enter Tryd.func23, Tryd.ntmps23
      go_wp2
      go_ret
      exact ⟨_, rfl, by omega, by omega, rfl⟩
  · obtain ⟨hr1, hr2⟩ := tmod_bd n (hi - lo + 1) (by omega) (by omega)
    by_cases a4 : n.tmod (hi - lo + 1) < 0
    · go_enter Tryd.func23, Tryd.ntmps23
      go_wp2
      go_ret
      exact ⟨_, rfl, by omega, by omega, rfl⟩
    · go_enter Tryd.func23, Tryd.ntmps23
      go_wp2
      go_ret
      exact ⟨_, rfl, by omega, by omega, rfl⟩
section
variable {H : Type} {enc : TypeId × Value → H} {w : World}

theorem bytes_of_trod {v : Value} {fuel : Nat} {x : DataW H × List MemPlace} (h : DataW.trod enc Tryd.prog w 0 (fun _ => true) true fuel 24 [v] = some x) : ∃ bs, Sl w v bs ∧ Bs bs := by
  rcases open_ints Tryd.underlying24 Tryd.underlying5 (by kernel_rfl) h with ⟨hcs, _⟩ | ⟨a, len, cap, zs, hcs, _, hl, hm, hz, _, hcell, hwz⟩
  · simp only [List.cons.injEq, and_true] at hcs
    subst hcs
    exact ⟨[], Sl.nil w, fun b hb => by cases hb⟩
  · simp only [List.cons.injEq, and_true] at hcs
    subst hcs
    simp only [if_true] at hz
    have hlen : (zs.take len).length = len := by simp; omega
    refine ⟨zs.take len, ⟨some a, cap, by rw [hlen], by omega, hm, (fun h => by cases h), fun a' ha j u hu => ?_⟩, fun b hb => bounds_u8 (hwz b (List.mem_of_mem_take hb))⟩
    cases ha
    have hj : j < (zs.take len).length := by have := (List.getElem?_eq_some_iff.1 hu).1; simpa using this
    rw [hcell j (by simp at hj; omega)]
    rw [List.getElem?_map, List.getElem?_take] at hu
    split at hu
    · rw [← hu]
      have : j < zs.length := by omega
      simp [List.getD, List.getElem?_eq_getElem this]
    · cases hu
end


abbrev laid1 : List (String × DataW Unit) := [("broadsheet/hash.roundWords", Rows.laid_broadsheet_hash_roundWords)]
theorem own : ownKnob Tryd.prog.godebug = none := by kernel_rfl
theorem laidOut : laidOutB Tryd.prog = true := by kernel_rfl
set_option maxRecDepth 100000 in
theorem door_met (os : Os) (args : Array Value) : laidMetH Tryd.prog laid1 ((World.doorLaid Tryd.prog 400 os).forCall (fun _ _ => 0) ⟨#[], args, []⟩).memory :=
  laidMetH_of_parts3 (fuel := 8) (laidMet_of_run' 8 (by kernel_rfl) (by kernel_rfl)) (by kernel_rfl) (by kernel_rfl)
set_option maxRecDepth 100000 in
theorem gl_of_laid {W : World} (h : laidMetH Tryd.prog laid1 W) : Gl W := by
  rw [MakeChecks.laidMetH_plain _ _ _ (by kernel_rfl)] at h
  have h2 : laidMet Tryd.prog [("broadsheet/hash.roundWords", Lib.tabData .u32 consts)] W := h
  have hT := Lib.tabIs_of_head (P := Tryd.prog) (g := 0) (t := 103) (e := 70) (n := 64) (by kernel_rfl) (by kernel_rfl) Tryd.underlying103 Tryd.underlying70 (by kernel_rfl) (by kernel_rfl) h2
  intro k hk
  exact hT.cell (by kernel_rfl) k (by simpa [consts] using hk)
end Go.Proofs.YtdioaohejoflcaaDoor

/-
  Slices of ints, and rows of slices that a call owns.
-/
namespace Go.Proofs.YtdioaohejoflcaaDoor
open Go.ChangeShapes Go.WideShapes Go.ChangeAt Go.RowKit
open Go.Deep

/-- v is a slice that reads as these ints. -/
def Ints (w : World) (v : Value) (l : List Int) : Prop :=
  ∃ ao c, v = .slice ao l.length c ∧ l.length ≤ maxLen ∧ (∀ x ∈ l, -9223372036854775808 ≤ x ∧ x ≤ 9223372036854775807) ∧ ∀ i (h : i < l.length), ∃ a, ao = some a ∧ w.cell? (a.add i) = some (.int .i64 l[i])
theorem Ints.kept {w w' : World} {v : Value} {l : List Int} (h : Ints w v l) (k : Kp [] w w') : Ints w' v l := by
  obtain ⟨ao, c, rfl, h1, h0, h2⟩ := h
  refine ⟨ao, c, rfl, h1, h0, fun i hi => ?_⟩
  obtain ⟨a, e, h3⟩ := h2 i hi
  exact ⟨a, e, k.cell h3 (by simp)⟩

theorem Tryd.infoSl : (Tryd.prog.info? 24).map (fun i => (i.zero, i.size, i.bytes)) = some (some (.slice none 0 0), 1, 24) := by kernel_rfl
/-- The row v of values of slices, of the call's own from base on. -/
def RowV (w : World) (base : Nat) (v : Value) (xs : List Value) : Prop := w.ownsRow base 24 1 v xs.length xs
theorem RowV.shape {w : World} {base : Nat} {v : Value} {xs : List Value} (h : RowV w base v xs) : ∃ ao c, v = .slice ao xs.length c := owns_shape h
theorem RowV.own {w : World} {base : Nat} {v : Value} {xs : List Value} (h : RowV w base v xs) : ∀ k, v.ownBlock = some k → base ≤ k := by
  intro k hk
  rcases h.2 with ⟨rfl, _⟩ | ⟨g, cap, cur, rfl, hb, _⟩
  · cases hk
  · cases hk; exact hb
theorem RowV.step {w w1 w2 : World} {v v' : Value} {xs : List Value} (h : RowV w1 w.heap.size v xs) (k : Kp [] w w1) (s : RStep w1 v w2 v') : Kp [] w w2 :=
  k.then s.1 (fun i hi => .inr (h.own i (by simpa using hi)))
theorem RowV.len {w : World} {base m c : Nat} {ao : Option Addr} {xs : List Value} (h : RowV w base (.slice ao m c) xs) : m = xs.length := by
  obtain ⟨_, _, e⟩ := h.shape; cases e; rfl
theorem RowV.kept {w w' : World} {base : Nat} {v : Value} {xs : List Value} {S : List Nat} (h : RowV w base v xs) (k : Kp S w w') (hv : ∀ i, v.ownBlock = some i → i ∉ S) : RowV w' base v xs := k.owns h hv

/-- append of slices that lie in a block of their own, onto such a row. -/
theorem wpList_append_rowv {w : World} {ops : Array Oper} {rest : List Oper} {o : Oper} {a : Act} {Q : Exit → Act → World → Prop} (hgd : o.guard = none) (s x : Operand)
    (ho : o.op = .call { callee := .builtin .append, args := #[s, x], argTypes := #[31, 31] }) (base : Nat) (v : Value) (xs : List Value) (hs : a.eval s = v) (hrow : RowV w base v xs)
    (ad : Addr) (c : Nat) (ys : List Value) (hx : a.eval x = .slice (some ad) ys.length c) (hy : ∀ j u, ys[j]? = some u → w.cell? (ad.add j) = some u) (h1 : ∀ u ∈ ys, u.oneCell' = true) (hb : xs.length + ys.length ≤ 1000000000) (hbase : base ≤ w.heap.size)
    (h : ∀ ao m c w', RowV w' base (.slice ao m c) (xs ++ ys) → RStep w v w' (.slice ao m c) → wpList Tryd.prog ops Q rest (a.put o.dst (.slice ao m c)) w') : wpList Tryd.prog ops Q (o :: rest) a w := by
  obtain ⟨i0, hi0, hz0, hz1, hz2⟩ := info_parts Tryd.infoSl
  obtain ⟨av, cv, rfl⟩ := hrow.shape
  refine wpList_append_own_at w hgd s x 31 ho base 24 i0 (.slice none 0 0) 1 24 Tryd.underlying31 hi0 hz0 hz1 hz2 rfl (by decide) _ xs.length xs hs hrow ad ys.length c ys hx (by simp) hy h1 (by unfold maxLen; omega) (by omega) hbase ?_
  intro v' w1 hown hgrow _ hat
  have R : RowV w1 base v' (xs ++ ys) := by unfold RowV; rw [List.length_append]; exact hown
  obtain ⟨ao', c', hv⟩ := R.shape
  subst hv
  refine h ao' _ c' w1 R ⟨(Kp.refl _ w).grown hgrow (fun k hk => .inl (by simp [hk])), fun k hk => ?_⟩
  rcases hat with e | e
  · exact .inl (e ▸ hk)
  · rw [e] at hk; cases hk; exact .inr (Nat.le_refl _)
/-- Such a row as a slice of slices. -/
theorem lists_of_rowv {w : World} {base : Nat} {v : Value} {l : List (Value × List Int)} (h : RowV w base v (l.map (·.1))) (hl : l.length ≤ 1000) (hS : ∀ x ∈ l, Sl w x.1 x.2 ∧ Bs x.2) : Lists w v l := by
  rcases h.2 with ⟨rfl, h0⟩ | ⟨g, cap, cur, rfl, _⟩
  · have : l = [] := List.eq_nil_of_length_eq_zero (by simpa using h0)
    subst this
    exact lists_nil w none 0
  · refine ⟨some ⟨g, 0, none⟩, cap, by simp, by omega, fun i hi => ⟨g, 0, rfl, ?_, (hS _ (List.getElem_mem hi)).1, (hS _ (List.getElem_mem hi)).2⟩⟩
    have := h.cells (g := g) rfl i l[i].1 (by simp [List.getElem?_eq_getElem hi])
    simpa [Addr.add_lit] using this
theorem cat_snoc (l : List (Value × List Int)) (x : Value × List Int) : cat (l ++ [x]) = cat l ++ x.2 := by simp [cat]
theorem take_cut (bs : List Int) (i k : Nat) (h : i ≤ k) : bs.take i ++ (bs.drop i).take (k - i) = bs.take k := by
  have e := List.take_append_drop i (bs.take k)
  rw [List.take_take, Nat.min_eq_left h, List.drop_take] at e
  exact e
theorem Sl.span {w : World} {ao : Option Addr} {len c : Nat} {bs : List Int} (h : Sl w (.slice ao len c) bs) (i k : Nat) (hi : i ≤ k) (hk : k ≤ bs.length) : Sl w (.slice (if c = i then ao else ao.map (·.add i)) (k - i) (c - i)) ((bs.drop i).take (k - i)) := by
  have h1 := h.drop i (by omega)
  have h2 := Sl.take h1 (k - i) (by simp; omega)
  exact h2
theorem run_span (ao : Option Addr) (n c p k : Nat) (w : World) (h1 : p ≤ k) (h2 : k ≤ c) (h4 : ao = none → c = 0) :
    (Instr.sliceAt 24 (.slice ao n c) (some (.int .i64 p)) (some (.int .i64 k)) none).run Tryd.prog w = .ok (.slice (if c = p then ao else ao.map (·.add p)) (k - p) (c - p)) w := by
  have e1 : (0 : Int) ≤ (p : Int) := by omega
  have e2 : (p : Int) ≤ (k : Int) := by omega
  have e3 : (k : Int) ≤ (c : Int) := by omega
  by_cases hc : c = p
  · rw [if_pos hc]
    subst hc
    simp [go_sem, e2, e3]
  · rw [if_neg hc]
    cases ao with
    | none => have := h4 rfl; omega
    | some a => simp [go_sem, e2, e3, hc]
theorem run_from (ao : Option Addr) (n c p : Nat) (w : World) (h1 : p ≤ n) (h2 : n ≤ c) (h4 : ao = none → c = 0) :
    (Instr.sliceAt 24 (.slice ao n c) (some (.int .i64 p)) none none).run Tryd.prog w = .ok (.slice (if c = p then ao else ao.map (·.add p)) (n - p) (c - p)) w := by
  have e2 : (p : Int) ≤ (n : Int) := by omega
  by_cases hc : c = p
  · rw [if_pos hc]
    subst hc
    simp [go_sem, e2]
  · rw [if_neg hc]
    cases ao with
    | none => have := h4 rfl; omega
    | some a => simp [go_sem, e2, hc]
end Go.Proofs.YtdioaohejoflcaaDoor

/-
  The contract of the program's partsOf, for whatever chooses the sides; Public and Sign.
-/
namespace Go.Proofs.YtdioaohejoflcaaDoor
open Go.RowKit
open Go.Proofs

theorem Row.lt {w : World} {base k : Nat} {v : Value} {bs : List Int} (h : Row w base v bs) (hk : v.ownBlock = some k) : k < w.heap.size := by
  rcases h.2 with ⟨rfl, _⟩ | ⟨g, cap, cur, rfl, hb, hg, _⟩
  · cases hk
  · cases hk; exact (Array.getElem?_eq_some_iff.1 hg).1
theorem RowV.lt {w : World} {base k : Nat} {v : Value} {xs : List Value} (h : RowV w base v xs) (hk : v.ownBlock = some k) : k < w.heap.size := by
  rcases h.2 with ⟨rfl, _⟩ | ⟨g, cap, cur, rfl, hb, hg, _⟩
  · cases hk
  · cases hk; exact (Array.getElem?_eq_some_iff.1 hg).1

/-- v is a row of slices, all of the call's own, each apart from it. -/
def Parts (w : World) (base : Nat) (v : Value) (l : List (Value × List Int)) : Prop :=
  RowV w base v (l.map (·.1)) ∧ ∀ x ∈ l, Row w base x.1 x.2 ∧ Bs x.2 ∧ ∀ k, x.1.ownBlock = some k → v.ownBlock ≠ some k
theorem Parts.kept {w w' : World} {base : Nat} {v : Value} {l : List (Value × List Int)} (h : Parts w base v l) (k : Kp [] w w') : Parts w' base v l :=
  ⟨h.1.kept k (by simp), fun x hx => ⟨(h.2 x hx).1.kept k (by simp), (h.2 x hx).2⟩⟩
theorem Parts.lists {w : World} {base : Nat} {v : Value} {l : List (Value × List Int)} (h : Parts w base v l) (hl : l.length ≤ 1000) : Lists w v l :=
  lists_of_rowv h.1 hl (fun x hx => ⟨(h.2 x hx).1.sl, (h.2 x hx).2.1⟩)
theorem Parts.rebase {w w0 w' : World} {v : Value} {l : List (Value × List Int)} (h : Parts w' w0.heap.size v l) (k : Kp [] w w0) : Parts w' w.heap.size v l :=
  ⟨owns_rebase h.1 (fun i hi => Nat.le_trans k.size (h.1.own i hi)), fun x hx => ⟨row_new (h.2 x hx).1 k, (h.2 x hx).2⟩⟩
theorem Parts.snoc {wr w2 w3 w4 : World} {base : Nat} {v v' : Value} {l : List (Value × List Int)} {x : Value × List Int} (h : Parts wr base v l) (k : Kp [] wr w2) (hx : Row w2 wr.heap.size x.1 x.2) (hb : Bs x.2) (k3 : Kp [] w2 w3)
    (r : RowV w4 base v' (l.map (·.1) ++ [x.1])) (s : RStep w3 v w4 v') (hbase : base ≤ wr.heap.size) : Parts w4 base v' (l ++ [x]) := by
  refine ⟨by rw [List.map_append]; exact r, fun y hy => ?_⟩
  rcases List.mem_append.1 hy with hy | hy
  · obtain ⟨h1, h2, h3⟩ := h.2 y hy
    refine ⟨((h1.kept k (by simp)).kept k3 (by simp)).kept s.1 (fun i hi hm => h3 i hi (by simpa using hm)), h2, fun i hi hv => ?_⟩
    rcases s.2 i hv with h4 | h4
    · exact h3 i hi h4
    · have := h1.lt hi
      have := k.size
      have := k3.size
      omega
  · obtain rfl : y = x := by simpa using hy
    have hlt : ∀ i, y.1.ownBlock = some i → i < w3.heap.size := fun i hi => by have := hx.lt hi; have := k3.size; omega
    have hne : ∀ i, y.1.ownBlock = some i → v.ownBlock ≠ some i := fun i hi hv => by have := h.1.lt hv; have := hx.own i hi; omega
    refine ⟨owns_rebase ((hx.kept k3 (by simp)).kept s.1 (fun i hi hm => hne i hi (by simpa using hm))) (fun i hi => Nat.le_trans hbase (hx.own i hi)), hb, fun i hi hv => ?_⟩
    rcases s.2 i hv with h4 | h4
    · exact hne i hi h4
    · have := hlt i hi; omega
/-- what is gathered so far. -/
def Acc (w : World) (ls : List (List Int)) (v : Value) (wr : World) : Prop := ∃ l, Parts wr w.heap.size v l ∧ l.map (·.2) = ls ∧ Kp [] w wr
theorem Acc.mid {w wr w2 : World} {ls : List (List Int)} {v : Value} (h : Acc w ls v wr) (k : Kp [] wr w2) : Acc w ls v w2 := by
  obtain ⟨l, h1, h2, h3⟩ := h
  exact ⟨l, h1.kept k, h2, h3.trans k⟩
theorem Acc.kp {w wr : World} {ls : List (List Int)} {v : Value} (h : Acc w ls v wr) : Kp [] w wr := by obtain ⟨_, _, _, h3⟩ := h; exact h3
theorem Acc.cap {w wr : World} {ls : List (List Int)} {ao : Option Addr} {m c : Nat} (h : Acc w ls (.slice ao m c) wr) : m = ls.length := by
  obtain ⟨l, h1, h2, _⟩ := h
  have := h1.1.len
  rw [this, ← h2]; simp
/-- one more slice behind them. -/
theorem wpList_acc {w wr w2 : World} {ops : Array Oper} {rest : List Oper} {o : Oper} {a : Act} {Q : Exit → Act → World → Prop} (hgd : o.guard = none) (s x : Operand)
    (ho : o.op = .call { callee := .builtin .append, args := #[s, x], argTypes := #[31, 31] }) (v : Value) (ls : List (List Int)) (hs : a.eval s = v) (hA : Acc w ls v wr) (hl : ls.length ≤ 1000000)
    (vx : Value) (bs : List Int) (k : Kp [] wr w2) (hr : Row w2 wr.heap.size vx bs) (hb : Bs bs) (hx : a.eval x = .slice (some ⟨w2.heap.size, 0, none⟩) 1 1)
    (h : ∀ ao m c w', Acc w (ls ++ [bs]) (.slice ao m c) w' → wpList Tryd.prog ops Q rest (a.put o.dst (.slice ao m c)) w') : wpList Tryd.prog ops Q (o :: rest) a (w2.alloc (.cells #[vx] 24)) := by
  obtain ⟨l, hP, hl2, hK⟩ := hA
  have hP2 := hP.kept (k.trans ((Kp.refl [] w2).alloc (.cells #[vx] 24)))
  obtain ⟨ax, cx, hvx⟩ := hr.shape
  refine wpList_append_rowv hgd s x ho w.heap.size v (l.map (·.1)) hs hP2.1 ⟨w2.heap.size, 0, none⟩ 1 [vx] hx ?_ ?_ ?_ ?_ ?_
  · intro j u hu
    exact World.news_of_block (heap_alloc_new w2 _) j u (by simpa using hu)
  · simp [hvx, Value.oneCell']
  · have : l.length = ls.length := by rw [← hl2]; simp
    simp; omega
  · have := hK.size
    have := k.size
    simp; omega
  · intro ao m c w' r st
    refine h ao m c w' ⟨l ++ [(vx, bs)], hP.snoc (x := (vx, bs)) k hr hb ((Kp.refl [] w2).alloc _) r st hK.size, by simp [hl2], ?_⟩
    exact (hK.trans (k.trans ((Kp.refl [] w2).alloc _))).then st.1 (fun i hi => .inr (hP.1.own i (by simpa using hi)))

theorem tell_enters (b : Bool) : Enters Tryd.prog (if b then 80 else 83) := by
  cases b
  · exact enters_of Tryd.func83 (by kernel_rfl) rfl
  · exact enters_of Tryd.func80 (by kernel_rfl) rfl
theorem tell_any (b : Bool) (vb : Value) (bs : List Int) (key bit side : Int) (r : List Int) (hr : r = if b then secP bs key bit side else shnP bs key bit side) (w : World) (hS : Sl w vb bs) (hB : Bs bs) (hl : bs.length ≤ 1000) (hG : Gl w) :
    Calls Tryd.prog (if b then 80 else 83) #[vb, .int .i64 key, .int .i64 bit, .int .i64 side] w fun e w' => ∃ ao m c, e = .returned (.slice ao m c) ∧ Row w' w.heap.size (.slice ao m c) r ∧ Kp [] w w' := by
  cases b
  · exact shown_any vb bs key bit side r hr w hS hB hl hG
  · exact secret_any vb bs key bit side r hr w hS hB hl hG

theorem Tryd.infoT : ∃ i, Tryd.prog.info? 86 = some i ∧ i.size = 1 := by
  have h : (Tryd.prog.info? 86).map (·.size) = some 1 := by kernel_rfl
  exact Option.map_eq_some_iff.1 h
theorem index0 (x y : Value) (w : World) : (Instr.index 88 (.agg #[x, y]) (.int .i64 0)).run Tryd.prog w = .ok x w := by
  obtain ⟨i, hi, hs⟩ := Tryd.infoT
  simp [Instr.index, asIntOf, Sem.run_bind, run_underlying Tryd.underlying88 w, sizeOf, typeInfo, hi, hs, part]
theorem index1 (x y : Value) (w : World) : (Instr.index 88 (.agg #[x, y]) (.int .i64 1)).run Tryd.prog w = .ok y w := by
  obtain ⟨i, hi, hs⟩ := Tryd.infoT
  simp [Instr.index, asIntOf, Sem.run_bind, run_underlying Tryd.underlying88 w, sizeOf, typeInfo, hi, hs, part]
theorem ptP_at (bs : List Int) (key : Int) (c : Nat → Nat → Bool) (k s : Nat) (hs : s < 2) : ptP bs key c (2 * k + s) = if c k s then secP bs key (k : Nat) (s : Nat) else shnP bs key (k : Nat) (s : Nat) := by
  unfold ptP
  rw [show (2 * k + s) / 2 = k by omega, show (2 * k + s) % 2 = s by omega]

set_option maxRecDepth 100000 in
set_option maxHeartbeats 2000000 in
theorem partsOf_any (vb : Value) (bs : List Int) (key : Int) (c : Nat → Nat → Bool) (fc : FuncId) (cap : Array Value) (hen : Enters Tryd.prog fc) (w : World) (hS : Sl w vb bs) (hB : Bs bs) (hl : bs.length ≤ 1000) (hG : Gl w)
    (hch : ∀ j, j < 32 → ∀ w', Kp [] w w' → Calls Tryd.prog fc (#[.int .i64 (j : Nat)] ++ cap) w' fun e w'' => e = .returned (two c j) ∧ Kp [] w' w'') :
    Calls Tryd.prog 59 #[vb, .int .i64 key, .func (.func fc) #[] cap] w fun e w' => ∃ ao m cc, e = .returned (.slice ao m cc) ∧ Acc w (ptsP bs key c 64) (.slice ao m cc) w' := by
  obtain ⟨i0, hi0, hz0, hz1, hz2⟩ := info_parts Tryd.infoSl
  have HS := hide hS
  have HG := hide hG
  have HCH := hide hch
  have HB := hide hB
  have hen2 : ∀ (args : Array Value) (w : World), (callFunc fc args).run Tryd.prog w = .ok (.enter fc args) w := hen
  obtain ⟨ab, cb, hvb, _⟩ := hS
  obtain ⟨nb, hnb⟩ : ∃ n, n = bs.length := ⟨_, rfl⟩
  rw [← hnb] at hvb
  subst hvb
  clear hG hch hB hen hnb
  go_enter Tryd.func59, Tryd.ntmps59
  go_wp2_with (at_make; refine wpList_make_own _ rfl _ _ 31 rfl w.heap.size 24 i0 (.slice none 0 0) 1 Tryd.underlying31 hi0 hz0 hz1 .i64 .i64 _ 64 rfl rfl (by omega) (by rw [hz2]; omega) (by unfold maxLen; omega) (Nat.le_refl _) ?_; intro w1 o1 g1; have K1 : Kp [] w w1 := (Kp.refl [] w).grown g1 (by intro k hk; cases hk); have R1 : RowV w1 w.heap.size _ [] := o1)
  have A1 : Hid (Acc w (ptsP bs key c 0) (.slice (some ⟨w.heap.size, 0, none⟩) 0 64) w1) := ⟨[], ⟨R1, fun x hx => by cases hx⟩, rfl, K1⟩
  clear o1 g1 R1 K1
  go_loopw [7, 12] (fun v i wr => ∃ (k m cc : Nat) (ao : Option Addr), k ≤ 32 ∧ v = .slice ao m cc ∧ i = .int .i64 k ∧ Acc w (ptsP bs key c (2 * k)) v wr) (fun _ i _ => 32 - (intOf i).toNat)
  case atStart => exact ⟨0, 0, 64, some ⟨w.heap.size, 0, none⟩, by omega, rfl, rfl, unhide A1⟩
  case round =>
    obtain ⟨k, m, cc, ao, hk, rfl, rfl, Ar⟩ := hrel
    clear A1
    have HA := hide Ar
    clear Ar
    by_cases hlt : k < 32
    · have hlt2 : (k : Int) < 32 := by omega
      go_wp2_with fail
      refine (unhide HCH k hlt wr (unhide HA).kp).mono ?_
      rintro ee w2 ⟨rfl, K2⟩
      have HA2 := hide ((unhide HA).mid K2)
      clear HA K2
      obtain ⟨f0, e0⟩ : ∃ f0, f0 = if c k 0 then 80 else 83 := ⟨_, rfl⟩
      obtain ⟨f1, e1⟩ : ∃ f1, f1 = if c k 1 then 80 else 83 := ⟨_, rfl⟩
      have hT : two c k = .agg #[.func (.func f0) #[] #[], .func (.func f1) #[] #[]] := by unfold two tl; rw [e0, e1]
      rw [hT]
      have hen0 : ∀ (args : Array Value) (w : World), (callFunc f0 args).run Tryd.prog w = .ok (.enter f0 args) w := by rw [e0]; exact tell_enters _
      have hen1 : ∀ (args : Array Value) (w : World), (callFunc f1 args).run Tryd.prog w = .ok (.enter f1 args) w := by rw [e1]; exact tell_enters _
      have HF0 := hide e0
      have HF1 := hide e1
      clear hT e0 e1
      obtain ⟨wo, hwo⟩ : ∃ wo, wo = wr := ⟨_, rfl⟩
      subst hwo
      go_wp2_with fail
      go_loopw [7, 18] (fun v i wi => ∃ (s m cc : Nat) (ao : Option Addr), s ≤ 2 ∧ v = .slice ao m cc ∧ i = .int .i64 s ∧ Acc w (ptsP bs key c (2 * k + s)) v wi) (fun _ i _ => 2 - (intOf i).toNat)
      case atStart => exact ⟨0, m, cc, ao, by omega, rfl, rfl, unhide HA2⟩
      case round =>
        clear HA2
        obtain ⟨s, m2, cc2, ao2, hs, rfl, rfl, Ai⟩ := hrel
        have HI := hide Ai
        clear Ai
        obtain ⟨wi, hwi⟩ : ∃ wi, wi = wr := ⟨_, rfl⟩
        subst hwi
        rcases (by omega : s = 0 ∨ s = 1 ∨ s = 2) with rfl | rfl | rfl
        · have hix := index0 (.func (.func f0) #[] #[]) (.func (.func f1) #[] #[]) wi
          have hr0 := ptP_at bs key c k 0 (by omega)
          obtain ⟨r, hr⟩ : ∃ r, r = ptP bs key c (2 * k + 0) := ⟨_, rfl⟩
          have HRB : Hid (Bs r) := by rw [hr]; exact ptP_bs _ _ _ _
          have HE : Hid (ptsP bs key c (2 * k + 0 + 1) = ptsP bs key c (2 * k + 0) ++ [r]) := by rw [hr]; exact ptsP_succ _ _ _ _
          have HLN : Hid ((ptsP bs key c (2 * k + 0)).length ≤ 1000000) := by rw [ptsP_len]; show 2 * k + 0 ≤ 1000000; omega
          rw [← hr] at hr0
          have HR0 := hide hr0
          have hC := tell_any (c k 0) (.slice ab nb cb) bs key k 0 r (unhide HR0) wi ((unhide HS).kept (unhide HI).kp (by simp)) (unhide HB) hl ((unhide HG).kept (unhide HI).kp (by simp))
          rw [← unhide HF0] at hC
          have HC := hide hC
          clear hr hr0 hC
          go_wp2_with fail
          refine (unhide HC).mono ?_
          rintro ee w4 ⟨a4, m4, c4, rfl, R4, K4⟩
          have HR4 := hide R4
          have HK4 := hide K4
          clear R4 K4 HC
          go_wp2_with (at_builtin; refine wpList_acc rfl (.tmp 22) (.tmp 29) rfl _ _ rfl (unhide HI) (unhide HLN) _ r (unhide HK4) (unhide HR4) (unhide HRB) rfl ?_; intro ao5 m5 c5 w5 A5)
          go_roundw
          case rel => exact ⟨0 + 1, m5, c5, ao5, by omega, rfl, by go_num, by have e := unhide HE; rw [← e] at A5; exact A5⟩
          case measure => simp [intOf]
        · have hix := index1 (.func (.func f0) #[] #[]) (.func (.func f1) #[] #[]) wi
          have hr0 := ptP_at bs key c k 1 (by omega)
          obtain ⟨r, hr⟩ : ∃ r, r = ptP bs key c (2 * k + 1) := ⟨_, rfl⟩
          have HRB : Hid (Bs r) := by rw [hr]; exact ptP_bs _ _ _ _
          have HE : Hid (ptsP bs key c (2 * k + 1 + 1) = ptsP bs key c (2 * k + 1) ++ [r]) := by rw [hr]; exact ptsP_succ _ _ _ _
          have HLN : Hid ((ptsP bs key c (2 * k + 1)).length ≤ 1000000) := by rw [ptsP_len]; show 2 * k + 1 ≤ 1000000; omega
          rw [← hr] at hr0
          have HR0 := hide hr0
          have hC := tell_any (c k 1) (.slice ab nb cb) bs key k 1 r (unhide HR0) wi ((unhide HS).kept (unhide HI).kp (by simp)) (unhide HB) hl ((unhide HG).kept (unhide HI).kp (by simp))
          rw [← unhide HF1] at hC
          have HC := hide hC
          clear hr hr0 hC
          go_wp2_with fail
          refine (unhide HC).mono ?_
          rintro ee w4 ⟨a4, m4, c4, rfl, R4, K4⟩
          have HR4 := hide R4
          have HK4 := hide K4
          clear R4 K4 HC
          go_wp2_with (at_builtin; refine wpList_acc rfl (.tmp 22) (.tmp 29) rfl _ _ rfl (unhide HI) (unhide HLN) _ r (unhide HK4) (unhide HR4) (unhide HRB) rfl ?_; intro ao5 m5 c5 w5 A5)
          go_roundw
          case rel => exact ⟨1 + 1, m5, c5, ao5, by omega, rfl, by go_num, by have e := unhide HE; rw [← e] at A5; exact A5⟩
          case measure => simp [intOf]
        · go_wp2_with fail
          go_roundw
          case rel => exact ⟨k + 1, m2, cc2, ao2, by omega, rfl, by go_num, unhide HI⟩
          case measure => simp [intOf]; omega
    · obtain rfl : k = 32 := by omega
      go_wp2_with fail
      go_ret
      exact ⟨ao, m, cc, rfl, unhide HA⟩
end Go.Proofs.YtdioaohejoflcaaDoor

/-
  The contracts of the program's Public and Sign.
-/
namespace Go.Proofs.YtdioaohejoflcaaDoor
open Go.RowKit
open Go.Proofs

theorem Acc.lists {w wr : World} {ls : List (List Int)} {v : Value} (h : Acc w ls v wr) (hl : ls.length ≤ 1000) : ∃ l, Lists wr v l ∧ l.map (·.2) = ls := by
  obtain ⟨l, h1, h2, _⟩ := h
  exact ⟨l, h1.lists (by rw [← List.length_map (f := (·.2)), h2]; exact hl), h2⟩
theorem Acc.after {w w0 wr : World} {ls : List (List Int)} {v : Value} (h : Acc w0 ls v wr) (k : Kp [] w w0) : Acc w ls v wr := by
  obtain ⟨l, h1, h2, h3⟩ := h
  exact ⟨l, h1.rebase k, h2, k.trans h3⟩
theorem cat_map {l : List (Value × List Int)} {ls : List (List Int)} (h : l.map (·.2) = ls) : cat l = ls.flatten := by unfold cat; rw [h]
theorem small_of_map {l : List (Value × List Int)} {ls : List (List Int)} (h : l.map (·.2) = ls) {n : Nat} (hn : ∀ x ∈ ls, x.length ≤ n) : ∀ x ∈ l, x.2.length ≤ n := fun x hx => hn x.2 (by rw [← h]; exact List.mem_map.2 ⟨x, hx, rfl⟩)
theorem ptsP_small (bs : List Int) (key : Int) (c : Nat → Nat → Bool) (n : Nat) : ∀ x ∈ ptsP bs key c n, x.length ≤ 1000000 := by
  intro x hx
  unfold ptsP at hx
  obtain ⟨i, _, rfl⟩ := List.mem_map.1 hx
  rw [ptP_len]; omega

set_option maxRecDepth 100000 in
set_option maxHeartbeats 1000000 in
theorem public_any (vb : Value) (bs : List Int) (key : Int) (r : List Int) (hr : r = pubP bs key) (w : World) (hS : Sl w vb bs) (hB : Bs bs) (hl : bs.length ≤ 1000) (hG : Gl w) :
    Calls Tryd.prog 56 #[vb, .int .i64 key] w fun e w' => ∃ ao m c, e = .returned (.slice ao m c) ∧ Row w' w.heap.size (.slice ao m c) r ∧ Kp [] w w' := by
  have HC := hide (partsOf_any vb bs key noneC 78 #[] (enters_of Tryd.func78 (by kernel_rfl) rfl) w hS hB hl hG (fun j _ w' _ => bothShown_any (j : Nat) w'))
  have HG := hide hG
  have HR := hide hr
  obtain ⟨ab, cb, hvb, _⟩ := hS
  obtain ⟨nb, hnb⟩ : ∃ n, n = bs.length := ⟨_, rfl⟩
  rw [← hnb] at hvb
  subst hvb
  clear hG hB hr hnb
  go_enter Tryd.func56, Tryd.ntmps56
  go_wp2_with fail
  refine (unhide HC).mono ?_
  rintro ee w2 ⟨a2, m2, c2, rfl, A2⟩
  obtain ⟨l, hL, hl2⟩ := A2.lists (by rw [ptsP_len]; omega)
  have HK2 := hide A2.kp
  have HP := hide (publicOf_any _ l r (by rw [unhide HR, cat_map hl2]; rfl) w2 hL (by rw [← List.length_map (f := (·.2)), hl2, ptsP_len]; omega) (small_of_map hl2 (ptsP_small _ _ _ _)) ((unhide HG).kept (unhide HK2) (by simp)))
  clear HC A2 hL hl2
  go_wp2_with fail
  refine (unhide HP).mono ?_
  rintro ee w3 ⟨a3, m3, c3, rfl, R3, K3⟩
  have HR3 := hide (row_new R3 (unhide HK2))
  have HK3 := hide ((unhide HK2).trans K3)
  clear HP HK2 R3 K3
  go_wp2_with fail
  go_ret
  exact ⟨a3, m3, c3, rfl, unhide HR3, unhide HK3⟩

set_option maxRecDepth 100000 in
set_option maxHeartbeats 1000000 in
theorem sign_any (vb : Value) (bs : List Int) (key : Int) (vm : Value) (ms : List Int) (d : Int) (hd : d = digP ms) (w : World) (hS : Sl w vb bs) (hB : Bs bs) (hl : bs.length ≤ 1000) (hM : Sl w vm ms) (hMB : Bs ms) (hml : ms.length ≤ 1000) (hG : Gl w) :
    Calls Tryd.prog 34 #[vb, .int .i64 key, vm] w fun e w' => ∃ ao m c, e = .returned (.slice ao m c) ∧ Acc w (sgnP bs key d) (.slice ao m c) w' := by
  have h0 : 0 ≤ d := by rw [hd]; exact (digP_bd ms).1
  have HD := hide (digest_any vm ms d hd w hM hMB (by omega) hG)
  have HG := hide hG
  have HS := hide hS
  have HB := hide hB
  obtain ⟨ab, cb, hvb, _⟩ := hS
  obtain ⟨nb, hnb⟩ : ∃ n, n = bs.length := ⟨_, rfl⟩
  rw [← hnb] at hvb
  subst hvb
  obtain ⟨am, cm, hvm, _⟩ := hM
  obtain ⟨nm, hnm⟩ : ∃ n, n = ms.length := ⟨_, rfl⟩
  rw [← hnm] at hvm
  subst hvm
  clear hG hB hnb hnm hMB hd
  go_enter Tryd.func34, Tryd.ntmps34
  go_wp2_with fail
  refine (unhide HD).mono ?_
  rintro ee w2 ⟨rfl, K2⟩
  have HK2 := hide K2
  clear HD K2
  go_wp2_with fail
  have K3 := (Kp.refl [] w2).alloc (.cells #[.int .u32 d] 70)
  refine (partsOf_any _ bs key (digC d) 60 #[.pointer (some ⟨w2.heap.size, 0, none⟩)] (enters_of Tryd.func60 (by kernel_rfl) rfl) _ (((unhide HS).kept (unhide HK2) (by simp)).kept K3 (by simp)) (unhide HB) hl (((unhide HG).kept (unhide HK2) (by simp)).kept K3 (by simp)) (fun j hj w' hk => sign1_any d j w2.heap.size w' h0 hj (hk.cell (by rw [cell_of_row _ _ 0 _ _ _ (heap_alloc_new w2 _)]; rfl) (by simp)))).mono ?_
  rintro ee w4 ⟨a4, m4, c4, rfl, A4⟩
  have HA := hide (A4.after ((unhide HK2).trans K3))
  clear A4 K3 HK2
  go_wp2_with fail
  go_ret
  exact ⟨a4, m4, c4, rfl, unhide HA⟩
end Go.Proofs.YtdioaohejoflcaaDoor

/-
  The contract of the program's areHashes; plain facts on what Root makes of parts.
-/
namespace Go.Proofs.YtdioaohejoflcaaDoor
open Go.RowKit

theorem areP_bad {ls : List (List Int)} (k : Nat) (h : k < ls.length) (hb : ls[k].length ≠ 32) : areP ls = false := by
  unfold areP
  have : ls.all (fun x => x.length == 32) = false := by
    rw [List.all_eq_false]
    exact ⟨ls[k], List.getElem_mem h, by simpa using hb⟩
  rw [this, Bool.and_false]
theorem areP_good {ls : List (List Int)} (h : ls.length = 64) (hb : ∀ i (h : i < ls.length), ls[i].length = 32) : areP ls = true := by
  unfold areP
  rw [Bool.and_eq_true]
  refine ⟨by simp [h], List.all_eq_true.2 (fun x hx => ?_)⟩
  obtain ⟨i, hi, rfl⟩ := List.getElem_of_mem hx
  simp [hb i hi]
theorem areP_len {ls : List (List Int)} (h : areP ls = true) : ls.length = 64 := by
  unfold areP at h
  simp only [Bool.and_eq_true, beq_iff_eq] at h
  exact h.1
theorem areP_at {ls : List (List Int)} (h : areP ls = true) : ∀ x ∈ ls, x.length = 32 := by
  unfold areP at h
  simp only [Bool.and_eq_true, List.all_eq_true, beq_iff_eq] at h
  exact h.2
theorem areP_short {ls : List (List Int)} (h : ls.length ≠ 64) : areP ls = false := by
  unfold areP
  simp [h]

set_option maxRecDepth 100000 in
set_option maxHeartbeats 1000000 in
theorem are_any (vl : Value) (l : List (Value × List Int)) (b : Bool) (hb : b = areP (l.map (·.2))) (w : World) (hL : Lists w vl l) :
    Calls Tryd.prog 65 #[vl] w fun e w' => e = .returned (.bool b) ∧ w' = w := by
  obtain ⟨al, cl, rfl, hll, hcell⟩ := hL
  by_cases hn : l.length = 64
  · have HN := hide hn
    have HB := hide hb
    have HC := hide hcell
    rw [hn]
    clear hcell hb hll hn
    go_enter Tryd.func65, Tryd.ntmps65
    go_wp2_with fail
    go_loopw [10] (fun i wr => ∃ k : Nat, k ≤ 64 ∧ i = .int .i64 k ∧ (∀ i (h : i < l.length), i < k → l[i].2.length = 32) ∧ wr = w) (fun i _ => 64 - (intOf i).toNat)
    case atStart => exact ⟨0, by omega, rfl, (fun i h h' => by omega), rfl⟩
    case round =>
      obtain ⟨k, hk, rfl, hgood, hw⟩ := hrel
      subst wr
      have HGood := hide hgood
      clear hgood
      by_cases hlt : k < 64
      · have hlt2 : (k : Int) < 64 := by omega
        have hkl : k < l.length := by have := unhide HN; omega
        obtain ⟨b', off, rfl, hc, hS, _⟩ := unhide HC k hkl
        obtain ⟨x, hx⟩ : ∃ x, x = l[k] := ⟨_, rfl⟩
        have HX := hide hx
        rw [← hx] at hc hS
        obtain ⟨ax, cx, hxv, _⟩ := hS
        rw [hxv] at hc
        clear hxv hx HC
        by_cases h32 : x.2.length = 32
        · rw [h32] at hc
          go_wp2_with fail
          go_roundw
          case rel =>
            refine ⟨k + 1, by omega, by go_num, fun i hi hik => ?_, by trivial⟩
            rcases Nat.lt_or_ge i k with h | h
            · exact unhide HGood i hi h
            · obtain rfl : i = k := by omega
              rw [← unhide HX]; exact h32
          case measure => simp [intOf]; omega
        · have hbad := areP_bad (ls := l.map (·.2)) k (by simpa using hkl) (by simp [← unhide HX, h32])
          have h32i : ¬ (x.2.length : Int) = 32 := by omega
          go_wp2_with fail
          go_ret
          exact ⟨by rw [unhide HB, hbad]; rfl, rfl⟩
      · obtain rfl : k = 64 := by omega
        have hgd := areP_good (ls := l.map (·.2)) (by simpa using unhide HN) (fun i hi => by
          have h1 : i < l.length := by simpa using hi
          have := unhide HGood i h1 (by have := unhide HN; omega)
          simpa using this)
        clear HC
        go_wp2_with fail
        go_ret
        exact ⟨by rw [unhide HB, hgd]; rfl, rfl⟩
  · have hbad := areP_short (ls := l.map (·.2)) (by simpa using hn)
    rw [hbad] at hb
    subst hb
    have hni : ¬ (l.length : Int) = 64 := by omega
    clear hcell
    go_enter Tryd.func65, Tryd.ntmps65
    go_wp2_with fail
    go_ret
    exact ⟨rfl, rfl⟩

/-- the parts of the first k bits as Root takes them. -/
def mixP (d : Int) (ls : List (List Int)) (k : Nat) : List (List Int) := ls.mapIdx (fun i x => if i < 2 * k then rtP d i x else x)
theorem mixP_zero (d : Int) (ls : List (List Int)) : mixP d ls 0 = ls := by
  unfold mixP
  apply List.ext_getElem
  · simp
  · intro i h1 h2; simp
theorem mixP_all (d : Int) (ls : List (List Int)) (h : ls.length = 64) : mixP d ls 32 = rtsP d ls := by
  unfold mixP rtsP
  apply List.ext_getElem
  · simp
  · intro i h1 h2
    simp only [List.getElem_mapIdx]
    rw [if_pos (by simp at h1; omega)]
theorem mixP_at (d : Int) (ls : List (List Int)) (k i : Nat) (hi : i < ls.length) (h : i < (mixP d ls k).length) : (mixP d ls k)[i] = if i < 2 * k then rtP d i ls[i] else ls[i] := by simp [mixP]
theorem mixP_succ (d : Int) (ls : List (List Int)) (k p : Nat) (hp : p = 2 * k + sdP d k) (hl : p < ls.length) : (mixP d ls k).set p (sha (11 :: ls[p])) = mixP d ls (k + 1) := by
  have hs := sdP_lt d k
  apply List.ext_getElem
  · simp [mixP]
  · intro i h1 h2
    have hi : i < ls.length := by simpa [mixP] using h2
    rw [List.getElem_set, mixP_at _ _ _ _ hi, mixP_at _ _ _ _ hi]
    by_cases hpi : p = i
    · subst hpi
      rw [if_pos rfl, if_pos (by omega)]
      unfold rtP digC
      rw [if_pos (by rw [show p / 2 = k by omega, show p % 2 = sdP d k by omega]; simp)]
    · rw [if_neg hpi]
      by_cases h3 : i < 2 * k
      · rw [if_pos h3, if_pos (by omega)]
      · rw [if_neg h3]
        by_cases h4 : i < 2 * (k + 1)
        · rw [if_pos h4]
          unfold rtP digC
          rw [if_neg (by rw [show i / 2 = k by omega]; simp; omega)]
        · rw [if_neg h4]
theorem mixP_len (d : Int) (ls : List (List Int)) (k : Nat) : (mixP d ls k).length = ls.length := by simp [mixP]
theorem rtsP_len (d : Int) (ls : List (List Int)) : (rtsP d ls).length = ls.length := by simp [rtsP]
theorem rtsP_small {d : Int} {ls : List (List Int)} (h : ∀ x ∈ ls, x.length = 32) : ∀ x ∈ rtsP d ls, x.length = 32 := by
  intro x hx
  obtain ⟨i, hi, rfl⟩ := List.getElem_of_mem hx
  simp only [rtsP, List.getElem_mapIdx]
  unfold rtP
  split
  · exact sha_len _
  · exact h _ (List.getElem_mem _)
end Go.Proofs.YtdioaohejoflcaaDoor

/-
  The contract of the program's Root.
-/
namespace Go.Proofs.YtdioaohejoflcaaDoor
open Go.RowKit

theorem Sl.apart {w w' : World} {v : Value} {bs : List Int} {S : List Nat} (h : Sl w v bs) (k : Kp S w w') (hv : ∀ i, v.ownBlock = some i → i ∈ S → bs = []) : Sl w' v bs := by
  by_cases hb : bs = []
  · subst hb
    obtain ⟨ao, c, rfl, h1, h2, h3, _⟩ := h
    exact ⟨ao, c, rfl, h1, h2, h3, fun a _ j u hu => by simp at hu⟩
  · exact h.kept k (fun i hi hm => hb (hv i hi hm))
/-- v is a row of the call's own of slices that read so; none that holds something lies in it. -/
def RowS (w : World) (base : Nat) (v : Value) (l : List (Value × List Int)) : Prop :=
  RowV w base v (l.map (·.1)) ∧ ∀ x ∈ l, Sl w x.1 x.2 ∧ Bs x.2 ∧ ∀ k, x.1.ownBlock = some k → v.ownBlock = some k → x.2 = []
theorem RowS.lists {w : World} {base : Nat} {v : Value} {l : List (Value × List Int)} (h : RowS w base v l) (hl : l.length ≤ 1000) : Lists w v l :=
  lists_of_rowv h.1 hl (fun x hx => ⟨(h.2 x hx).1, (h.2 x hx).2.1⟩)
theorem RowS.kept {w w' : World} {base : Nat} {v : Value} {l : List (Value × List Int)} (h : RowS w base v l) (k : Kp [] w w') : RowS w' base v l :=
  ⟨h.1.kept k (by simp), fun x hx => ⟨(h.2 x hx).1.kept k (by simp), (h.2 x hx).2⟩⟩
theorem Parts.rowS {w : World} {base : Nat} {v : Value} {l : List (Value × List Int)} (h : Parts w base v l) : RowS w base v l :=
  ⟨h.1, fun x hx => ⟨(h.2 x hx).1.sl, (h.2 x hx).2.1, fun k h1 h2 => absurd h2 ((h.2 x hx).2.2 k h1)⟩⟩
/-- a slice is put in at place p. -/
theorem RowS.set {w : World} {base g n c : Nat} {l : List (Value × List Int)} (h : RowS w base (.slice (some ⟨g, 0, none⟩) n c) l) (p : Nat) (x : Value × List Int) (hx : Sl w x.1 x.2) (hB : Bs x.2) (ha : x.1.ownBlock = some g → x.2 = []) :
    RowS (w.setCell ⟨g, p, none⟩ x.1) base (.slice (some ⟨g, 0, none⟩) n c) (l.set p x) := by
  have k : Kp [g] w (w.setCell ⟨g, p, none⟩ x.1) := (Kp.refl [g] w).setCell (p := ⟨g, p, none⟩) (.inl (by simp)) _
  have hn : n = l.length := by have := h.1.len; simpa using this
  refine ⟨?_, fun y hy => ?_⟩
  · have e : (l.map (·.1)).length = n := by simp [hn]
    have h1 : w.ownsRow base 24 1 (.slice (some ⟨g, 0, none⟩) n c) n (l.map (·.1)) := by have := h.1; unfold RowV at this; rw [e] at this; exact this
    have h2 := (h1.stored p x.1).1
    unfold RowV
    rw [List.map_set, List.length_set, e]
    exact h2
  · rcases List.mem_or_eq_of_mem_set hy with hy | rfl
    · obtain ⟨h1, h2, h3⟩ := h.2 y hy
      exact ⟨h1.apart k (fun i hi hm => h3 i hi (by simp at hm; subst hm; rfl)), h2, h3⟩
    · exact ⟨hx.apart k (fun i hi hm => ha (by simp at hm; subst hm; exact hi)), hB, fun i hi hv => ha (by cases hv; exact hi)⟩
theorem RowS.spot {w : World} {base n c : Nat} {ao : Option Addr} {l : List (Value × List Int)} (h : RowS w base (.slice ao n c) l) (hn : 0 < n) : ∃ g, ao = some ⟨g, 0, none⟩ ∧ base ≤ g ∧ g < w.heap.size ∧ n = l.length ∧ (∀ i, i < n → ∃ u, w.cell? ⟨g, i, none⟩ = some u) ∧ ∀ i, w.frozen? ⟨g, i, none⟩ = false := by
  have hl := h.1.len
  subst hl
  rcases h.1.2 with ⟨h', h0⟩ | ⟨g, cap, cur, h', hb, hg, _⟩
  · omega
  · have e : ao = some ⟨g, 0, none⟩ := by injection h'
    subst e
    have h1 : w.ownsRow base 24 1 (.slice (some ⟨g, 0, none⟩) (l.map (·.1)).length c) (l.map (·.1)).length (l.map (·.1)) := h.1
    refine ⟨g, rfl, hb, (Array.getElem?_eq_some_iff.1 hg).1, by simp, fun i hi => ?_, fun i => h1.frozenAt i⟩
    rw [h1.cellAt i (by omega)]
    exact ⟨_, List.getElem?_eq_getElem hi⟩
/-- a list that is copied whole into a new row. -/
theorem rowS_copy {w w' : World} {al : Option Addr} {cl : Nat} {ao : Option Addr} {m c : Nat} {l : List (Value × List Int)} (hL : Lists w (.slice al l.length cl) l) (hr : RowV w' w.heap.size (.slice ao m c) (l.map (·.1))) (k : Kp [] w w') : RowS w' w.heap.size (.slice ao m c) l := by
  refine ⟨hr, fun x hx => ?_⟩
  obtain ⟨i, hi, rfl⟩ := List.getElem_of_mem hx
  obtain ⟨_, _, _, _, h2⟩ := hL
  obtain ⟨_, _, _, _, hS, hB⟩ := h2 i hi
  refine ⟨hS.kept k (by simp), hB, fun j hj hv => ?_⟩
  by_cases hb : l[i].2 = []
  · exact hb
  · obtain ⟨ao', c', e, h1, _, h3, h4⟩ := hS
    cases ao' with
    | none => exact List.eq_nil_of_length_eq_zero (by have := h3 rfl; omega)
    | some a =>
      have hpos : 0 < l[i].2.length := List.length_pos_iff.2 hb
      have hc := h4 a rfl 0 (.int .u8 l[i].2[0]) (by simp [List.getElem?_eq_getElem hpos])
      have hlt := World.block_lt_of_cell? _ _ hc
      rw [add_block] at hlt
      rw [e] at hj
      have : a.block = j := by simpa [Value.ownBlock] using hj
      have := hr.own j hv
      omega

theorem are_cases (l : List (Value × List Int)) : (areP (l.map (·.2)) = true ∧ l.length = 64 ∧ ∀ x ∈ l, x.2.length = 32) ∨ areP (l.map (·.2)) = false := by
  cases h : areP (l.map (·.2))
  · exact .inr rfl
  · refine .inl ⟨rfl, by simpa using areP_len h, fun x hx => areP_at h x.2 (List.mem_map.2 ⟨x, hx, rfl⟩)⟩

/-- what Root answers. -/
def Rooted (b : Bool) (r : List Int) (base : Nat) (v : Value) (w : World) : Prop := if b then ∃ ao m c, v = .slice ao m c ∧ Row w base v r else v = .slice none 0 0

set_option maxRecDepth 100000 in
set_option maxHeartbeats 2000000 in
theorem root_any (vm : Value) (ms : List Int) (vl : Value) (l : List (Value × List Int)) (d : Int) (b : Bool) (r : List Int) (hd : d = digP ms) (hb : b = areP (l.map (·.2))) (hr : r = rootP d (l.map (·.2))) (w : World) (hM : Sl w vm ms) (hMB : Bs ms) (hml : ms.length ≤ 1000) (hL : Lists w vl l) (hG : Gl w) :
    Calls Tryd.prog 38 #[vm, vl] w fun e w' => ∃ v, e = .returned (.tuple #[v, .bool b]) ∧ Rooted b r w.heap.size v w' ∧ Kp [] w w' := by
  have h0 : 0 ≤ d := by rw [hd]; exact (digP_bd ms).1
  have HA := hide (are_any vl l b hb w hL)
  have HD := hide (digest_any vm ms d hd w hM hMB (by omega) hG)
  have HG := hide hG
  have HL := hide hL
  have HR := hide hr
  obtain ⟨al, cl, hvl, hll, hcell⟩ := hL
  subst hvl
  obtain ⟨am, cm, hvm, _⟩ := hM
  obtain ⟨nm, hnm⟩ : ∃ n, n = ms.length := ⟨_, rfl⟩
  rw [← hnm] at hvm
  subst hvm
  clear hG hMB hd hr hnm
  rcases are_cases l with ⟨hare, hl64, hl32⟩ | hare
  · rw [hare] at hb
    subst hb
    have HC := hide hcell
    have H64 := hide hl64
    have H32 := hide hl32
    obtain ⟨b0, o0, e0, hjunk⟩ := hcell 0 (by omega)
    clear hjunk
    subst e0
    rw [hl64] at HA ⊢
    clear hcell hare hl64 hl32
    go_enter Tryd.func38, Tryd.ntmps38
    go_wp2_with fail
    refine (unhide HA).mono ?_
    rintro ee w1 ⟨rfl, hw⟩
    subst w1
    go_wp2_with fail
    refine (unhide HD).mono ?_
    rintro ee w2 ⟨rfl, K2⟩
    have HK2 := hide K2
    clear HA HD K2
    have HAP : Hid (∀ j u, (l.map (·.1))[j]? = some u → w2.cell? ((⟨b0, o0, none⟩ : Addr).add j) = some u) := by
      intro j u hu
      have hj : j < l.length := by have := (List.getElem?_eq_some_iff.1 hu).1; simpa using this
      obtain ⟨b', o', e, hc, _⟩ := unhide HC j hj
      injection e with e
      injection e with e1 e2
      subst e1
      subst e2
      rw [Addr.add_lit, (unhide HK2).cell hc (by simp), ← hu]
      simp [List.getElem?_eq_getElem hj]
    have HON : Hid (∀ u ∈ l.map (·.1), u.oneCell' = true) := by
      intro u hu
      obtain ⟨x, hx, rfl⟩ := List.mem_map.1 hu
      obtain ⟨i, hi, rfl⟩ := List.getElem_of_mem hx
      obtain ⟨_, _, _, _, ⟨_, _, e, _⟩, _⟩ := unhide HC i hi
      rw [e]; rfl
    have HM64 : Hid ((l.map (·.1)).length = 64) := by rw [List.length_map]; exact unhide H64
    obtain ⟨ys, hys⟩ : ∃ ys, ys = l.map (·.1) := ⟨_, rfl⟩
    rw [← hys] at HAP HON HM64
    have hxs : Hid ((.slice (some ⟨b0, o0, none⟩) 64 cl : Value) = .slice (some ⟨b0, o0, none⟩) ys.length cl) := by rw [unhide HM64]; rfl
    go_wp2_with (at_builtin; refine wpList_append_rowv rfl (.const (.slice none 0 0)) (.tmp 15) rfl w2.heap.size (.slice none 0 0) [] rfl ⟨rfl, .inl ⟨rfl, rfl⟩⟩ ⟨b0, o0, none⟩ cl ys (unhide hxs) (unhide HAP) (unhide HON) (by have := unhide HM64; simp; omega) (Nat.le_refl _) ?_; intro a3 m3 c3 w3 R3 S3)
    have K3 : Kp [] w2 w3 := S3.1.mono (by simp [Value.ownBlock])
    rw [List.nil_append, hys] at R3
    have RS3 := rowS_copy ((unhide HL).kept (unhide HK2)) R3 K3
    obtain rfl : m3 = 64 := by have := RS3.1.len; rw [this, List.length_map]; exact unhide H64
    obtain ⟨g, rfl, hg1, hg2, hj0, hj1, hj2⟩ := RS3.spot (by omega)
    clear hj0 hj1 hj2
    have HRS3 := hide RS3
    have HK3 := hide ((unhide HK2).trans K3)
    have hgw : w2.heap.size ≤ g := hg1
    have HKs := hide (unhide HK2).size
    clear R3 S3 K3 RS3 HAP HON HM64 hxs hys HK2
    obtain ⟨ls, hls⟩ : ∃ ls, ls = l.map (·.2) := ⟨_, rfl⟩
    have HLS := hide hls
    rw [← hls] at HR
    have HLL : Hid (ls.length = 64) := by rw [hls, List.length_map]; exact unhide H64
    clear hls
    go_loopw [17] (fun i wr => ∃ (k : Nat) (l2 : List (Value × List Int)), k ≤ 32 ∧ i = .int .i64 k ∧ RowS wr w2.heap.size (.slice (some ⟨g, 0, none⟩) 64 c3) l2 ∧ l2.map (·.2) = mixP d ls k ∧ Kp [] w wr) (fun i _ => 32 - (intOf i).toNat)
    case atStart => exact ⟨0, l, by omega, rfl, unhide HRS3, by rw [mixP_zero]; exact (unhide HLS).symm, unhide HK3⟩
    case round =>
      obtain ⟨k, l2, hk, rfl, Rr, hmix, Kr⟩ := hrel
      clear HRS3 HK3
      have HRr := hide Rr
      have HMX := hide hmix
      have HKr := hide Kr
      clear Rr hmix Kr
      by_cases hlt : k < 32
      · have hlt2 : (k : Int) < 32 := by omega
        obtain ⟨t, ht⟩ : ∃ t, t = sdP d k := ⟨_, rfl⟩
        have htl : t < 2 := by rw [ht]; exact sdP_lt d k
        obtain ⟨p, hp⟩ : ∃ p, p = 2 * k + t := ⟨_, rfl⟩
        have hpi : 2 * (k : Int) + (t : Int) = (p : Int) := by omega
        have hp64 : (p : Int) < 64 := by omega
        have hpl : p < l.length := by have := unhide H64; omega
        have hpls : p < ls.length := by have := unhide HLL; omega
        obtain ⟨b', o', e, hc, hS, hBx⟩ := unhide HC p hpl
        injection e with e
        injection e with e1 e2
        subst e1
        subst e2
        have hx32 := unhide H32 l[p] (List.getElem_mem hpl)
        have hxls : ls[p] = l[p].2 := by
          have h1 : ls[p]? = (l.map (·.2))[p]? := by rw [unhide HLS]
          rw [List.getElem?_eq_getElem hpls, List.getElem?_map, List.getElem?_eq_getElem hpl] at h1
          exact Option.some.inj h1
        obtain ⟨x, hx⟩ : ∃ x, x = l[p] := ⟨_, rfl⟩
        rw [← hx] at hc hS hx32 hxls hBx
        have hcw := (unhide HKr).cell hc (by simp)
        have hSw := hS.kept (unhide HKr) (by simp)
        obtain ⟨q, hq⟩ : ∃ q, q = sha (11 :: x.2) := ⟨_, rfl⟩
        have HQB : Hid (Bs q) := by rw [hq]; exact sha_bs _
        have HMS : Hid ((mixP d ls k).set p q = mixP d ls (k + 1)) := by
          have := mixP_succ d ls k p (by rw [hp, ht]) hpls
          rw [hxls, ← hq] at this
          exact this
        have HSH := hide (shownOf_any x.1 x.2 q hq wr hSw hBx (by omega) ((unhide HG).kept (unhide HKr) (by simp)))
        have HSD := hide (fun w => sideOf_any d k t ht w h0 hlt)
        obtain ⟨ax, cx, hxv, hj3⟩ := hS
        clear hj3
        rw [hx32] at hxv
        rw [hxv] at hcw HSH
        clear hc hSw hq hx hx32 hxls hxv ht hp HC hBx
        go_wp2_with fail
        refine (unhide HSD _).mono ?_
        rintro ee w4 ⟨rfl, hw4⟩
        subst w4
        go_wp2_with fail
        refine (unhide HSH).mono ?_
        rintro ee w5 ⟨a5, m5, c5, rfl, R5, K5⟩
        have RS5 := (unhide HRr).kept K5
        obtain ⟨g', hg', hj0, hgs, hj1, hcs, hfs⟩ := RS5.spot (by omega)
        clear hj0 hj1
        cases hg'
        obtain ⟨u, hu⟩ := hcs p (by omega)
        have hf := hfs p
        have hglt : g < wr.heap.size := by obtain ⟨g'', hg'', _, h', _⟩ := (unhide HRr).spot (by omega); cases hg''; exact h'
        have hne : ∀ i, (Value.slice a5 m5 c5).ownBlock = some i → g ≠ i := fun i hi => by have := R5.own i hi; omega
        have HRS := hide (RS5.set p (.slice a5 m5 c5, q) R5.sl (unhide HQB) (fun h => absurd rfl (hne g h)))
        have HKN : Hid (Kp [] w (w5.setCell ⟨g, p, none⟩ (.slice a5 m5 c5))) := ((unhide HKr).trans K5).setCell (p := ⟨g, p, none⟩) (.inr (Nat.le_trans (unhide HKs) hgw)) _
        have HMN : Hid ((l2.set p (.slice a5 m5 c5, q)).map (·.2) = mixP d ls (k + 1)) := by rw [List.map_set, unhide HMX]; exact unhide HMS
        clear R5 K5 RS5 hcs hfs HSH HSD hne HMS HMX
        go_wp2_with fail
        go_roundw
        case rel => exact ⟨k + 1, _, by omega, by go_num, unhide HRS, unhide HMN, unhide HKN⟩
        case measure => simp [intOf]; omega
      · obtain rfl : k = 32 := by omega
        have hl2 : l2.length = 64 := by rw [← List.length_map (f := (·.2)), unhide HMX, mixP_len]; exact unhide HLL
        have hcat : cat l2 = (rtsP d ls).flatten := by rw [cat_map (unhide HMX), mixP_all _ _ (unhide HLL)]
        have hsm : ∀ x ∈ l2, x.2.length ≤ 1000000 := small_of_map (unhide HMX) (by
          rw [mixP_all _ _ (unhide HLL)]
          intro x hx
          have := rtsP_small (d := d) (ls := ls) (by rw [unhide HLS]; intro y hy; obtain ⟨z, hz, rfl⟩ := List.mem_map.1 hy; exact unhide H32 z hz) x hx
          omega)
        have HP := hide (publicOf_any _ l2 r (by rw [unhide HR, hcat]; rfl) wr ((unhide HRr).lists (by omega)) (by omega) hsm ((unhide HG).kept (unhide HKr) (by simp)))
        clear hcat hsm HMX HR HC
        go_wp2_with fail
        refine (unhide HP).mono ?_
        rintro ee w6 ⟨a6, m6, c6, rfl, R6, K6⟩
        have HR6 := hide (row_new R6 (unhide HKr))
        have HK6 := hide ((unhide HKr).trans K6)
        clear HP R6 K6
        go_wp2_with fail
        go_ret2
        exact ⟨_, rfl, ⟨a6, m6, c6, rfl, unhide HR6⟩, unhide HK6⟩
  · rw [hare] at hb
    subst hb
    clear hcell
    go_enter Tryd.func38, Tryd.ntmps38
    go_wp2_with fail
    refine (unhide HA).mono ?_
    rintro ee w1 ⟨rfl, hw⟩
    subst w1
    go_wp2_with fail
    go_ret2
    exact ⟨_, rfl, rfl, Kp.refl _ _⟩
end Go.Proofs.YtdioaohejoflcaaDoor

/-
  Regions that draw their order and whose operations only make memory: of each operation a predicate tells what it yields, and stays true as memory grows; one look at each operation serves every order.
-/
namespace Go.Proofs.YtdioaohejoflcaaDoor
open Go.RowKit

abbrev Tell := Value → World → Prop
/-- A predicate that stays true as memory grows. -/
def Tell.stable (R : Tell) : Prop := ∀ v w w', Kp [] w w' → R v w → R v w'

def grown (P : Program) (w : World) (R : Tell) : Result Next → Prop
  | .ok (.value v) w' => Kp [] w w' ∧ R v w'
  | .ok .skip w' => Kp [] w w' ∧ R undef w'
  | .ok (.enter f args) w' => Calls P f args w' fun e w'' => ∃ v, e = .returned v ∧ Kp [] w w'' ∧ R v w''
  | _ => False

/-- What one operation must do. -/
def wants (P : Program) (ops : Array Oper) (o : Oper) (a : Act) (w : World) (R : Tell) : Prop :=
  if Region.wanted o (yielded ops a.tmps) then grown P w R ((execOp a.eval o).run P w) else R undef w

/-- What is known of the slots that an operation looks at: what their writer tells, or what stood there. -/
def Knows (a0 : Act) (Rs : List Tell) (a : Act) (w : World) : List (Tmp × Option Nat) → Prop
  | [] => True
  | (t, some j) :: ks => (Rs.getD j (fun _ _ => True)) (a.eval (.tmp t)) w ∧ Knows a0 Rs a w ks
  | (t, none) :: ks => a.eval (.tmp t) = a0.eval (.tmp t) ∧ Knows a0 Rs a w ks

def StepsR (P : Program) (ops : Array Oper) (a0 : Act) (w0 : World) (Rs : List Tell) : List Oper → List (List (Tmp × Option Nat)) → List Tell → Prop
  | o :: l, ks :: kss, R :: rs => (∀ a w, Kp [] w0 w → Knows a0 Rs a w ks → wants P ops o a w R) ∧ StepsR P ops a0 w0 Rs l kss rs
  | [], [], [] => True
  | _, _, _ => False

def FinR (Q : Exit → Act → World → Prop) : List Oper → List Tell → Act → World → Prop
  | o :: l, R :: rs, a, w => ∀ v, R v w → FinR Q l rs (a.put o.dst v) w
  | _, _, a, w => Q .normal a w

/-- The edges that bind in every mode. -/
def odeps (o : Oper) : List Nat := (o.after.toList.filter (Region.binds .any)).map (·.on)
def dstAt (l : List Oper) (j : Nat) : Option Tmp := (l[j]?).bind (·.dst)
def lookOk (l : List Oper) (i : Nat) (o : Oper) : Tmp × Option Nat → Bool
  | (t, some j) => (odeps o).contains j && dstAt l j == some t
  | (t, none) => (List.range l.length).all fun k => k == i || dstAt l k != some t || ((l[k]?).map fun ok => (odeps ok).contains i).getD false
def regionOk (l : List Oper) (kss : List (List (Tmp × Option Nat))) (n : Nat) : Bool :=
  (List.range l.length).all fun i =>
    match l[i]?, kss[i]? with
    | some o, some ks => (odeps o).all (· < i) && ks.all (lookOk l i o) && (match o.dst with | some d => decide (d < n) && (List.range i).all (fun k => dstAt l k != some d) | none => false)
    | _, _ => false

section
variable {P : Program} {l : List Oper} {Q : Exit → Act → World → Prop} {a0 : Act} {w0 : World} {Rs : List Tell} {kss : List (List (Tmp × Option Nat))} {n i : Nat} {listed : Array Bool} {a : Act} {w w' : World} {o : Oper} {R : Tell} {v : Value}

theorem StepsR.at (ops : Array Oper) : ∀ {l : List Oper} {kss : List (List (Tmp × Option Nat))} {rs : List Tell}, StepsR P ops a0 w0 Rs l kss rs → l.length = rs.length ∧ l.length = kss.length ∧ ∀ (i : Nat) o ks R, l[i]? = some o → kss[i]? = some ks → rs[i]? = some R → ∀ a w, Kp [] w0 w → Knows a0 Rs a w ks → wants P ops o a w R
  | [], [], [], _ => ⟨rfl, rfl, fun i o ks R h => by simp at h⟩
  | o :: l, ks :: kss, R :: rs, h => by
    obtain ⟨h1, h2, h3⟩ := StepsR.at ops h.2
    refine ⟨by simp [h1], by simp [h2], fun i o' ks' R' ho hk hR => ?_⟩
    cases i with
    | zero =>
      simp at ho hk hR
      subst ho; subst hk; subst hR
      exact h.1
    | succ i => exact h3 i o' ks' R' (by simpa using ho) (by simpa using hk) (by simpa using hR)
  | [], [], _ :: _, h => h.elim
  | [], _ :: _, [], h => h.elim
  | [], _ :: _, _ :: _, h => h.elim
  | _ :: _, [], [], h => h.elim
  | _ :: _, [], _ :: _, h => h.elim
  | _ :: _, _ :: _, [], h => h.elim

structure InvR (l : List Oper) (Rs : List Tell) (a0 : Act) (w0 : World) (listed : Array Bool) (a : Act) (w : World) : Prop where
  kp : Kp [] w0 w
  size : a.tmps.size = a0.tmps.size
  defers : a.defers = a0.defers
  ls : listed.size = l.length
  told : ∀ i d R, listed.getD i false = true → dstAt l i = some d → Rs[i]? = some R → R (a.eval (.tmp d)) w
  rest : ∀ t, (∀ i, listed.getD i false = true → dstAt l i ≠ some t) → a.eval (.tmp t) = a0.eval (.tmp t)
  closed : ∀ i o, l[i]? = some o → listed.getD i false = true → ∀ j ∈ odeps o, listed.getD j false = true

theorem mem_deps {o : Oper} {j : Nat} : j ∈ odeps o ↔ ∃ e ∈ o.after, Region.binds .any e = true ∧ e.on = j := by
  unfold odeps
  simp only [List.mem_map, List.mem_filter, Array.mem_toList_iff]
  constructor
  · rintro ⟨e, ⟨h1, h2⟩, h3⟩; exact ⟨e, h1, h2, h3⟩
  · rintro ⟨e, h1, h2, h3⟩; exact ⟨e, ⟨h1, h2⟩, h3⟩

theorem eval_put_same {a : Act} {d : Tmp} {v : Value} (h : d < a.tmps.size) : (a.put (some d) v).eval (.tmp d) = v := by
  simp [Act.put, Act.eval, h]
theorem eval_put_ne {a : Act} {d t : Tmp} {v : Value} (h : d ≠ t) : (a.put (some d) v).eval (.tmp t) = a.eval (.tmp t) := by
  simp [Act.put, Act.eval, Array.getElem?_setIfInBounds_ne h]

theorem regionOk_at (h : regionOk l kss n = true) {i : Nat} {o : Oper} (ho : l[i]? = some o) : ∃ ks d, kss[i]? = some ks ∧ o.dst = some d ∧ d < n ∧ (∀ j ∈ odeps o, j < i) ∧ (∀ k ∈ ks, lookOk l i o k = true) ∧ ∀ k, k < i → dstAt l k ≠ some d := by
  have hi : i < l.length := (List.getElem?_eq_some_iff.1 ho).1
  have h1 := List.all_eq_true.1 h i (List.mem_range.2 hi)
  simp only [ho] at h1
  cases hk : kss[i]? with
  | none => simp [hk] at h1
  | some ks =>
    simp only [hk] at h1
    cases hd : o.dst with
    | none => simp [hd] at h1
    | some d =>
      simp only [hd, Bool.and_eq_true, List.all_eq_true, decide_eq_true_eq, List.mem_range, bne_iff_ne, ne_eq] at h1
      obtain ⟨⟨h2, h3⟩, h4, h5⟩ := h1
      exact ⟨ks, d, rfl, rfl, h4, h2, h3, h5⟩

theorem dst_inj (h : regionOk l kss n = true) {i j : Nat} {d : Tmp} (hi : dstAt l i = some d) (hj : dstAt l j = some d) : i = j := by
  have key : ∀ i j, i < j → dstAt l i = some d → dstAt l j = some d → False := by
    intro i j hij hi hj
    unfold dstAt at hj
    cases ho : l[j]? with
    | none => simp [ho] at hj
    | some o =>
      simp only [ho, Option.bind_some] at hj
      obtain ⟨ks, d', _, h2, _, _, _, h6⟩ := regionOk_at h ho
      rw [hj] at h2
      cases h2
      exact h6 i hij hi
  rcases Nat.lt_trichotomy i j with h1 | h1 | h1
  · exact (key i j h1 hi hj).elim
  · exact h1
  · exact (key j i h1 hj hi).elim

theorem knows_of (hinv : InvR l Rs a0 w0 listed a w) (hr : i ∈ Region.ready .any l.toArray listed) (ho : l[i]? = some o) (hlen : l.length = Rs.length) : ∀ ks : List (Tmp × Option Nat), (∀ k ∈ ks, lookOk l i o k = true) → Knows a0 Rs a w ks
  | [], _ => trivial
  | (t, some j) :: ks, h => by
    refine ⟨?_, knows_of hinv hr ho hlen ks (fun k hk => h k (by simp [hk]))⟩
    have h1 := h (t, some j) (by simp)
    simp only [lookOk, Bool.and_eq_true, List.contains_iff_mem, beq_iff_eq] at h1
    obtain ⟨hd, hdst⟩ := h1
    obtain ⟨e, he, hb, rfl⟩ := mem_deps.1 hd
    obtain ⟨_, o', ho', hall⟩ := mem_ready.1 hr
    have : o' = o := by have := ho'; rw [List.getElem?_toArray, ho] at this; exact (Option.some.inj this).symm
    subst this
    have hl := hall e he hb
    have hlt : e.on < Rs.length := by
      unfold dstAt at hdst
      cases hx : l[e.on]? with
      | none => simp [hx] at hdst
      | some _ => rw [← hlen]; exact (List.getElem?_eq_some_iff.1 hx).1
    rw [List.getD_eq_getElem?_getD, List.getElem?_eq_getElem hlt, Option.getD_some]
    exact hinv.told e.on t _ hl hdst (List.getElem?_eq_getElem hlt)
  | (t, none) :: ks, h => by
    refine ⟨?_, knows_of hinv hr ho hlen ks (fun k hk => h k (by simp [hk]))⟩
    have h1 := h (t, none) (by simp)
    simp only [lookOk, List.all_eq_true, List.mem_range, Bool.or_eq_true, beq_iff_eq, bne_iff_ne, ne_eq] at h1
    refine hinv.rest t (fun k hk hkd => ?_)
    have hnot : listed.getD i false = false := by
      have h0 := (mem_ready.1 hr).1
      rcases Nat.lt_or_ge i listed.size with h' | h'
      · simp [h'] at h0 ⊢; exact h0
      · simp [Array.getElem?_eq_none h']
    have hlt : k < l.length := by
      unfold dstAt at hkd
      cases hx : l[k]? with
      | none => simp [hx] at hkd
      | some _ => exact (List.getElem?_eq_some_iff.1 hx).1
    rcases h1 k hlt with (h2 | h2) | h2
    · subst h2; rw [hk] at hnot; cases hnot
    · exact h2 hkd
    · rw [List.getElem?_eq_getElem hlt] at h2
      simp only [Option.map_some, Option.getD_some, List.contains_iff_mem] at h2
      have := hinv.closed k _ (List.getElem?_eq_getElem hlt) hk i h2
      rw [this] at hnot; cases hnot

theorem fin_of (hok : regionOk l kss a0.tmps.size = true) (hlen : l.length = Rs.length) (hinv : InvR l Rs a0 w0 listed a w) (hall : ∀ i, i < l.length → listed.getD i false = true) :
    ∀ (m : List Oper) (rs : List Tell) (k : Nat) (b : Act), (∀ j, m[j]? = l[k + j]?) → (∀ j, rs[j]? = Rs[k + j]?) → b.tmps.size = a0.tmps.size → b.defers = a0.defers →
    (∀ t, (∀ j d, dstAt l (k + j) = some d → d ≠ t) → b.eval (.tmp t) = a.eval (.tmp t)) → FinR Q m rs b w → Q .normal a w
  | [], rs, k, b, hm, hrs, hbs, hbd, heq, h => by
    have hb : b = a := by
      cases b with
      | mk bt bd =>
        cases a with
        | mk at_ ad =>
          have e1 : bt.size = at_.size := hbs.trans hinv.size.symm
          have e2 : bd = ad := hbd.trans hinv.defers.symm
          subst e2
          congr 1
          refine Array.ext e1 (fun i h1 h2 => ?_)
          have := heq i (fun j d hd => by
            unfold dstAt at hd
            rw [← hm j] at hd
            simp at hd)
          simpa [Act.eval, h1, h2] using this
    subst hb
    cases rs <;> exact h
  | o :: m, [], k, b, hm, hrs, _, _, _, _ => by
    have h1 := hm 0
    have h2 := hrs 0
    simp only [List.getElem?_cons_zero, Nat.add_zero, List.getElem?_nil] at h1 h2
    have h3 : k < l.length := (List.getElem?_eq_some_iff.1 h1.symm).1
    have h4 := List.getElem?_eq_none_iff.1 h2.symm
    omega
  | o :: m, R :: rs, k, b, hm, hrs, hbs, hbd, heq, h => by
    have h1 : l[k]? = some o := by simpa using (hm 0).symm
    have h2 : Rs[k]? = some R := by simpa using (hrs 0).symm
    have h3 : k < l.length := (List.getElem?_eq_some_iff.1 h1).1
    obtain ⟨ks, d, _, hd, hdn, _, _, _⟩ := regionOk_at hok h1
    have hdk : dstAt l k = some d := by unfold dstAt; simp [h1, hd]
    have hR := hinv.told k d R (hall k h3) hdk h2
    refine fin_of hok hlen hinv hall m rs (k + 1) (b.put o.dst (a.eval (.tmp d))) (fun j => ?_) (fun j => ?_) ?_ ?_ ?_ (h _ hR)
    · have := hm (j + 1); simpa [Nat.add_assoc, Nat.add_comm 1 j] using this
    · have := hrs (j + 1); simpa [Nat.add_assoc, Nat.add_comm 1 j] using this
    · rw [hd]; simpa [Act.put] using hbs
    · rw [hd]; simpa [Act.put] using hbd
    · intro t ht
      rw [hd]
      by_cases htd : d = t
      · subst htd
        exact eval_put_same (by rw [hbs]; exact hdn)
      · rw [eval_put_ne htd]
        refine heq t (fun j d' hj => ?_)
        cases j with
        | zero => rw [Nat.add_zero, hdk] at hj; cases hj; exact htd
        | succ j => exact ht j d' (by rw [← hj]; congr 1; omega)

theorem inv_step (hok : regionOk l kss a0.tmps.size = true) (hst : ∀ R ∈ Rs, Tell.stable R) (hinv : InvR l Rs a0 w0 listed a w) (hr : i ∈ Region.ready .any l.toArray listed) (ho : l[i]? = some o) (hR : Rs[i]? = some R)
    (hk : Kp [] w w') (hv : R v w') : InvR l Rs a0 w0 (listed.setIfInBounds i true) (a.put o.dst v) w' := by
  obtain ⟨ks, d, _, hd, hdn, _, _, _⟩ := regionOk_at hok ho
  have hdi : dstAt l i = some d := by unfold dstAt; simp [ho, hd]
  have hget : ∀ j, (listed.setIfInBounds i true).getD j false = true → j = i ∨ listed.getD j false = true := fun j hj => by
    by_cases hij : i = j
    · exact .inl hij.symm
    · rw [getD_set_ne false hij] at hj; exact .inr hj
  rw [hd]
  refine ⟨hinv.kp.trans hk, ?_, ?_, ?_, ?_, ?_, ?_⟩
  · simpa [Act.put] using hinv.size
  · simpa [Act.put] using hinv.defers
  · simpa using hinv.ls
  · intro j dj Rj hj hdj hRj
    by_cases hji : j = i
    · subst hji
      rw [hdi] at hdj; cases hdj
      rw [hR] at hRj; cases hRj
      rw [eval_put_same (by rw [hinv.size]; exact hdn)]
      exact hv
    · have hl := (hget j hj).resolve_left hji
      have hne : d ≠ dj := fun e => hji (dst_inj hok (e ▸ hdj) hdi)
      rw [eval_put_ne hne]
      exact hst Rj (List.mem_of_getElem? hRj) _ _ _ hk (hinv.told j dj Rj hl hdj hRj)
  · intro t ht
    have hlt : i < listed.size := by rw [hinv.ls]; exact (List.getElem?_eq_some_iff.1 ho).1
    have hne : d ≠ t := fun e => ht i (by simp [hlt]) (e ▸ hdi)
    rw [eval_put_ne hne]
    refine hinv.rest t (fun j hj => ht j ?_)
    exact getD_set_true hj
  · intro j oj hoj hj k hk'
    rcases hget j hj with h1 | h1
    · subst h1
      rw [ho] at hoj; cases hoj
      obtain ⟨e, he, hb, rfl⟩ := mem_deps.1 hk'
      obtain ⟨_, o', ho', hall⟩ := mem_ready.1 hr
      have : o' = o := by have := ho'; rw [List.getElem?_toArray, ho] at this; exact (Option.some.inj this).symm
      subst this
      exact getD_set_true (hall e he hb)
    · exact getD_set_true (hinv.closed j oj hoj h1 k hk')

theorem all_listed (hok : regionOk l kss n = true) (hinv : InvR l Rs a0 w0 listed a w) (hr : Region.ready .any l.toArray listed = []) : ∀ i, i < l.length → listed.getD i false = true := by
  intro i
  induction i using Nat.strongRecOn with
  | _ i ih =>
    intro hi
    cases hc : listed.getD i false with
    | true => rfl
    | false =>
      have ho : l[i]? = some l[i] := List.getElem?_eq_getElem hi
      obtain ⟨_, _, _, _, _, hdeps, _, _⟩ := regionOk_at hok ho
      have : i ∈ Region.ready .any l.toArray listed := by
        rw [mem_ready]
        refine ⟨?_, l[i], by rw [List.getElem?_toArray]; exact ho, fun e he hb => ?_⟩
        · have hls : i < listed.size := by rw [hinv.ls]; exact hi
          simp [hls] at hc ⊢; exact hc
        · have hm : e.on ∈ odeps l[i] := mem_deps.2 ⟨e, he, hb, rfl⟩
          exact ih e.on (hdeps _ hm) (Nat.lt_trans (hdeps _ hm) hi)
      rw [hr] at this
      cases this

theorem wpAny_grow (hok : regionOk l kss a0.tmps.size = true) (hst : ∀ R ∈ Rs, Tell.stable R) (hs : StepsR P l.toArray a0 w0 Rs l kss Rs) (hf : ∀ w', Kp [] w0 w' → FinR Q l Rs a0 w') :
    ∀ (fuel : Nat) (listed : Array Bool) (a : Act) (w : World), InvR l Rs a0 w0 listed a w → listed.toList.count false = fuel → wpAny P .any l.toArray Q fuel listed a w := by
  obtain ⟨hlen, _, hat⟩ := StepsR.at _ hs
  have hend : ∀ (listed : Array Bool) (a : Act) (w : World), InvR l Rs a0 w0 listed a w → Region.ready .any l.toArray listed = [] → Q .normal a w := fun listed a w hinv hr =>
    fin_of hok hlen hinv (all_listed hok hinv hr) l Rs 0 a0 (by simp) (by simp) rfl rfl (fun t ht => (hinv.rest t (fun i _ hd => ht i t (by rw [Nat.zero_add]; exact hd) rfl)).symm) (hf w hinv.kp)
  intro fuel
  induction fuel with
  | zero =>
    intro listed a w hinv hc
    have hr : Region.ready .any l.toArray listed = [] := by
      refine List.eq_nil_iff_forall_not_mem.2 (fun j hj => ?_)
      have h0 := (mem_ready.1 hj).1
      have h1 := List.count_eq_zero.1 hc
      rcases Nat.lt_or_ge j listed.size with h' | h'
      · simp [h'] at h0
        exact h1 (by rw [← h0]; simp)
      · simp [Array.getElem?_eq_none h'] at h0
    exact ⟨hr, hend listed a w hinv hr⟩
  | succ fuel ih =>
    intro listed a w hinv hc
    refine ⟨hend listed a w hinv, fun i hi => ?_⟩
    obtain ⟨hun, o, ho', hall⟩ := mem_ready.1 hi
    have ho : l[i]? = some o := by rw [← List.getElem?_toArray]; exact ho'
    have hilt : i < l.length := (List.getElem?_eq_some_iff.1 ho).1
    obtain ⟨ks, d, hks, hd, hdn, _, hlk, _⟩ := regionOk_at hok ho
    have hR : Rs[i]? = some Rs[i] := List.getElem?_eq_getElem (by omega)
    have hw := hat i o ks Rs[i] ho hks hR a w hinv.kp (knows_of hinv hi ho hlen ks hlk)
    have hcnt : (listed.setIfInBounds i true).toList.count false = fuel := by
      have hls : i < listed.size := by rw [hinv.ls]; exact hilt
      have hg : listed.toList[i]'(by simpa using hls) = false := by simpa [hls] using hun
      rw [Array.toList_setIfInBounds, List.count_set (by simpa using hls), hg, hc]
      simp
    have next : ∀ v w', Kp [] w w' → Rs[i] v w' → wpAny P .any l.toArray Q fuel (listed.setIfInBounds i true) (a.put o.dst v) w' := fun v w' hk hv =>
      ih _ _ _ (inv_step hok hst hinv hi ho hR hk hv) hcnt
    unfold wants at hw
    unfold wpOp
    simp only [ho']
    split
    · rename_i hwn
      rw [if_pos hwn] at hw
      refine .inl ?_
      unfold Oper.wp
      generalize (execOp a.eval o).run P w = r at *
      cases r with
      | ok x w' =>
        cases x <;> simp only [grown] at hw <;> simp only [Oper.upon]
        case value v => exact next v w' hw.1 hw.2
        case skip => exact next undef w' hw.1 hw.2
        case enter f args =>
          refine hw.mono ?_
          rintro e w'' ⟨v, rfl, h1, h2⟩
          exact next v w'' h1 h2
      | halt x w' => simp only [grown] at hw
    · rename_i hwn
      rw [if_neg hwn] at hw
      exact next undef w (Kp.refl _ _) hw

/-- **One look at each operation serves every order.** -/
theorem region_grow {id : Nat} {w : World} (hm : P.follows .mixedOrders = true) (Rs : List Tell) (kss : List (List (Tmp × Option Nat))) (hok : regionOk l kss a0.tmps.size = true) (hst : ∀ R ∈ Rs, Tell.stable R)
    (hs : StepsR P l.toArray a0 w.drew Rs l kss Rs) (hf : ∀ w', Kp [] w.drew w' → FinR Q l Rs a0 w') : (Code.region id l.toArray true).wp P Q a0 w := by
  refine wp_region_any hm ?_
  refine wpAny_grow (w0 := w.drew) hok hst hs hf _ _ _ _ ⟨Kp.refl _ _, rfl, rfl, by simp, fun i d R h => ?_, fun _ _ => rfl, fun i o _ h => ?_⟩ ?_
  · exfalso; revert h; simp only [Array.getD_eq_getD_getElem?, Array.getElem?_replicate]; split <;> simp
  · exfalso; revert h; simp only [Array.getD_eq_getD_getElem?, Array.getElem?_replicate]; split <;> simp
  · simp
end
end Go.Proofs.YtdioaohejoflcaaDoor

/-
  Single operations of a region that only makes memory.
-/
namespace Go.Proofs.YtdioaohejoflcaaDoor
open Go.RowKit

/-- The value is c. -/
def Is (c : Value) : Tell := fun v _ => v = c
/-- The value is a slice that reads as these bytes. -/
def SlT (bs : List Int) : Tell := fun v w => Sl w v bs
theorem stable_is (c : Value) : Tell.stable (Is c) := fun _ _ _ _ h => h
theorem stable_sl (bs : List Int) : Tell.stable (SlT bs) := fun _ _ _ k h => h.kept k (by simp)

section
variable {P : Program} {ops : Array Oper} {o : Oper} {a : Act} {w : World} {R : Tell}
theorem wants_plain (hg : o.guard = none) (h : grown P w R ((execOp a.eval o).run P w)) : wants P ops o a w R := by
  unfold wants
  rw [if_pos (by simp [Region.wanted, hg])]
  exact h
theorem wanted_iff {g : Nat} {b b' : Bool} {d : Tmp} (hg : o.guard = some (g, b)) (hd : (ops[g]?).bind (·.dst) = some d) (he : a.eval (.tmp d) = .bool b') : Region.wanted o (yielded ops a.tmps) = (b' == b) := by
  have h1 : a.tmps[d]? = some (.bool b') := by
    rcases Nat.lt_or_ge d a.tmps.size with h | h
    · simp [Act.eval, h] at he ⊢; exact he
    · simp [Act.eval, Array.getElem?_eq_none h, undef] at he
  have h2 : yielded ops a.tmps g = some b' := by
    unfold yielded
    rw [hd]
    simp only [Option.bind_some, h1]
  simp only [Region.wanted, hg, h2]
  cases b <;> cases b' <;> rfl
theorem wants_guard {g : Nat} {b : Bool} {d : Tmp} (hg : o.guard = some (g, b)) (hd : (ops[g]?).bind (·.dst) = some d) (he : a.eval (.tmp d) = .bool b) (h : grown P w R ((execOp a.eval o).run P w)) : wants P ops o a w R := by
  unfold wants
  rw [if_pos (by rw [wanted_iff hg hd he]; simp)]
  exact h
theorem wants_not {g : Nat} {b : Bool} {d : Tmp} (hg : o.guard = some (g, b)) (hd : (ops[g]?).bind (·.dst) = some d) (he : a.eval (.tmp d) = .bool (!b)) (h : R undef w) : wants P ops o a w R := by
  unfold wants
  rw [if_neg (by rw [wanted_iff hg hd he]; cases b <;> simp)]
  exact h
theorem grown_move (x : Operand) (ho : o.op = .move x) (h : R (a.eval x) w) : grown P w R ((execOp a.eval o).run P w) := by
  unfold execOp; simp only [ho]; exact ⟨Kp.refl _ _, h⟩
theorem grown_assign (x : Operand) (ho : o.op = .assign x) (h : R (a.eval x) w) : grown P w R ((execOp a.eval o).run P w) := by
  unfold execOp; simp only [ho]; exact ⟨Kp.refl _ _, h⟩
theorem grown_pick (c x y : Operand) (b : Bool) (ho : o.op = .pick c x y) (hc : a.eval c = .bool b) (h : R (if b then a.eval x else a.eval y) w) : grown P w R ((execOp a.eval o).run P w) := by
  unfold execOp; simp only [ho, hc, asBool]; exact ⟨Kp.refl _ _, h⟩
theorem grown_run {v : Value} {w' : World} (h : (execOp a.eval o).run P w = .ok (.value v) w') (hk : Kp [] w w') (hR : R v w') : grown P w R ((execOp a.eval o).run P w) := by
  rw [h]; exact ⟨hk, hR⟩
theorem grown_conv (x : Operand) (src dst e : TypeId) (bs : List Int) (ho : o.op = .convert src dst x) (hS : Sl w (a.eval x) bs) (hs : P.underlying src = some (.slice e)) (he : P.underlying e = some (.int .u8)) (hd : P.underlying dst = some .string) (hR : R (.string (strOfNums bs)) w) : grown P w R ((execOp a.eval o).run P w) := by
  refine grown_run ?_ (Kp.refl _ _) hR
  unfold execOp
  simp only [ho, Sem.run_bind, hS.conv src dst e hs he hd, Result.andThen_ok, Sem.run_pure]
theorem grown_call {f : FuncId} {fn : Func} {xs : Array Operand} {ats : Array TypeId} (ho : o.op = .call { callee := .value (.func f), args := xs, argTypes := ats }) (hf : P.funcs[f]? = some fn) (hn : (fn.name == "runtime.NumGoroutine") = false) (hb : fn.body.isNone = false)
    (h : Calls P f (xs.map a.eval) w fun e w' => ∃ v, e = .returned v ∧ Kp [] w w' ∧ R v w') : grown P w R ((execOp a.eval o).run P w) := by
  have e : (execOp a.eval o).run P w = .ok (.enter f (xs.map a.eval)) w := by
    obtain ⟨dst, op, ty, pos, after, guard⟩ := o
    simp only at ho
    subst ho
    rw [execOp_call_go]
    have h1 : fn.name ≠ "runtime.NumGoroutine" := by simpa using hn
    have h2 : ¬ fn.body = none := by intro h2; rw [h2] at hb; cases hb
    simp [callFunc, hf, h1, h2]
  rw [e]
  exact h
end
theorem steps_cons {P : Program} {ops : Array Oper} {a0 : Act} {w0 : World} {Rs : List Tell} {o : Oper} {l : List Oper} {ks : List (Tmp × Option Nat)} {kss : List (List (Tmp × Option Nat))} {R : Tell} {rs : List Tell}
    (h1 : ∀ a w, Kp [] w0 w → Knows a0 Rs a w ks → wants P ops o a w R) (h2 : StepsR P ops a0 w0 Rs l kss rs) : StepsR P ops a0 w0 Rs (o :: l) (ks :: kss) (R :: rs) := ⟨h1, h2⟩
theorem fin_nil {Q : Exit → Act → World → Prop} {a : Act} {w : World} (h : Q .normal a w) : FinR Q [] [] a w := h
theorem eval_is (a : Act) : ∃ ρ : Operand → Value, a.eval = ρ ∧ (∀ v, ρ (.const v) = v) ∧ (∀ f, ρ (.func f) = .func (.func f) #[] #[]) ∧ ∀ g, ρ (.global g) = .pointer (some ⟨g, 0, none⟩) := ⟨_, rfl, fun _ => rfl, fun _ => rfl, fun _ => rfl⟩
end Go.Proofs.YtdioaohejoflcaaDoor

/-
  Regions that draw their order, whose first operations only make memory and all come ahead of the rest: one look at each of the first serves every order; what is left is walked behind them.
-/
namespace Go.Proofs.YtdioaohejoflcaaDoor
open Go.RowKit

section
variable {P : Program} {m : List Oper} {ops : Array Oper} {Q : Exit → Act → World → Prop} {a0 : Act} {w0 : World} {Rs : List Tell} {kss : List (List (Tmp × Option Nat))} {n i : Nat} {listed : Array Bool} {a : Act} {w w' : World} {o : Oper} {R : Tell} {v : Value}

/-- The head m of the operations ops: what is listed of it so far. -/
structure InvT (m : List Oper) (ops : Array Oper) (Rs : List Tell) (a0 : Act) (w0 : World) (listed : Array Bool) (a : Act) (w : World) : Prop where
  kp : Kp [] w0 w
  size : a.tmps.size = a0.tmps.size
  defers : a.defers = a0.defers
  told : ∀ i d R, listed.getD i false = true → dstAt m i = some d → Rs[i]? = some R → R (a.eval (.tmp d)) w
  rest : ∀ t, (∀ i, listed.getD i false = true → dstAt m i ≠ some t) → a.eval (.tmp t) = a0.eval (.tmp t)
  head : HeadInv .any ops m.length listed

theorem InvT.closed (hsub : ∀ (i : Nat) o, m[i]? = some o → ops[i]? = some o) (hinv : InvT m ops Rs a0 w0 listed a w) : ∀ (i : Nat) o, m[i]? = some o → listed.getD i false = true → ∀ j ∈ odeps o, listed.getD j false = true := by
  intro i o ho hl j hj
  obtain ⟨e, he, hb, rfl⟩ := mem_deps.1 hj
  exact hinv.head.closed i o (hsub i o ho) hl e he hb

theorem knows_ofT (hsub : ∀ (i : Nat) o, m[i]? = some o → ops[i]? = some o) (hinv : InvT m ops Rs a0 w0 listed a w) (hr : i ∈ Region.ready .any ops listed) (ho : m[i]? = some o) (hlen : m.length = Rs.length) : ∀ ks : List (Tmp × Option Nat), (∀ k ∈ ks, lookOk m i o k = true) → Knows a0 Rs a w ks
  | [], _ => trivial
  | (t, some j) :: ks, h => by
    refine ⟨?_, knows_ofT hsub hinv hr ho hlen ks (fun k hk => h k (by simp [hk]))⟩
    have h1 := h (t, some j) (by simp)
    simp only [lookOk, Bool.and_eq_true, List.contains_iff_mem, beq_iff_eq] at h1
    obtain ⟨hd, hdst⟩ := h1
    obtain ⟨e, he, hb, rfl⟩ := mem_deps.1 hd
    obtain ⟨_, o', ho', hall⟩ := mem_ready.1 hr
    have : o' = o := by rw [hsub i o ho] at ho'; exact (Option.some.inj ho').symm
    subst this
    have hl := hall e he hb
    have hlt : e.on < Rs.length := by
      unfold dstAt at hdst
      cases hx : m[e.on]? with
      | none => simp [hx] at hdst
      | some _ => rw [← hlen]; exact (List.getElem?_eq_some_iff.1 hx).1
    rw [List.getD_eq_getElem?_getD, List.getElem?_eq_getElem hlt, Option.getD_some]
    exact hinv.told e.on t _ hl hdst (List.getElem?_eq_getElem hlt)
  | (t, none) :: ks, h => by
    refine ⟨?_, knows_ofT hsub hinv hr ho hlen ks (fun k hk => h k (by simp [hk]))⟩
    have h1 := h (t, none) (by simp)
    simp only [lookOk, List.all_eq_true, List.mem_range, Bool.or_eq_true, beq_iff_eq, bne_iff_ne, ne_eq] at h1
    refine hinv.rest t (fun k hk hkd => ?_)
    have hnot : listed.getD i false = false := getD_both (mem_ready.1 hr).1
    have hlt : k < m.length := by
      unfold dstAt at hkd
      cases hx : m[k]? with
      | none => simp [hx] at hkd
      | some _ => exact (List.getElem?_eq_some_iff.1 hx).1
    rcases h1 k hlt with (h2 | h2) | h2
    · subst h2; rw [hk] at hnot; cases hnot
    · exact h2 hkd
    · rw [List.getElem?_eq_getElem hlt] at h2
      simp only [Option.map_some, Option.getD_some, List.contains_iff_mem] at h2
      have := hinv.closed hsub k _ (List.getElem?_eq_getElem hlt) hk i h2
      rw [this] at hnot; cases hnot

theorem inv_stepT (hsub : ∀ (i : Nat) o, m[i]? = some o → ops[i]? = some o) (hok : regionOk m kss a0.tmps.size = true) (hst : ∀ R ∈ Rs, Tell.stable R) (hinv : InvT m ops Rs a0 w0 listed a w) (hr : i ∈ Region.ready .any ops listed) (ho : m[i]? = some o) (hR : Rs[i]? = some R)
    (hk : Kp [] w w') (hv : R v w') : InvT m ops Rs a0 w0 (listed.setIfInBounds i true) (a.put o.dst v) w' := by
  obtain ⟨ks, d, _, hd, hdn, _, _, _⟩ := regionOk_at hok ho
  have hdi : dstAt m i = some d := by unfold dstAt; simp [ho, hd]
  have hilt : i < m.length := (List.getElem?_eq_some_iff.1 ho).1
  have hget : ∀ j, (listed.setIfInBounds i true).getD j false = true → j = i ∨ listed.getD j false = true := fun j hj => by
    by_cases hij : i = j
    · exact .inl hij.symm
    · rw [getD_set_ne false hij] at hj; exact .inr hj
  have hlt : i < listed.size := by rw [hinv.head.size]; exact (Array.getElem?_eq_some_iff.1 (hsub i o ho)).1
  rw [hd]
  refine ⟨hinv.kp.trans hk, ?_, ?_, ?_, ?_, hinv.head.set hr hilt⟩
  · simpa [Act.put] using hinv.size
  · simpa [Act.put] using hinv.defers
  · intro j dj Rj hj hdj hRj
    by_cases hji : j = i
    · subst hji
      rw [hdi] at hdj; cases hdj
      rw [hR] at hRj; cases hRj
      rw [eval_put_same (by rw [hinv.size]; exact hdn)]
      exact hv
    · have hl := (hget j hj).resolve_left hji
      have hne : d ≠ dj := fun e => hji (dst_inj hok (e ▸ hdj) hdi)
      rw [eval_put_ne hne]
      exact hst Rj (List.mem_of_getElem? hRj) _ _ _ hk (hinv.told j dj Rj hl hdj hRj)
  · intro t ht
    have hne : d ≠ t := fun e => ht i (by simp [hlt]) (e ▸ hdi)
    rw [eval_put_ne hne]
    refine hinv.rest t (fun j hj => ht j ?_)
    exact getD_set_true hj

theorem fin_ofT {K : Act → World → Prop} (hok : regionOk m kss a0.tmps.size = true) (hlen : m.length = Rs.length) (hinv : InvT m ops Rs a0 w0 listed a w) (hall : ∀ i, i < m.length → listed.getD i false = true) (hf : FinR (fun _ a w => K a w) m Rs a0 w) : K a w := by
  have hlt : ∀ i d, dstAt m i = some d → i < m.length := fun i d hd => by
    unfold dstAt at hd
    cases hx : m[i]? with
    | none => simp [hx] at hd
    | some _ => exact (List.getElem?_eq_some_iff.1 hx).1
  have hre : ∀ i, i < m.length → (Array.replicate m.length true).getD i false = true := fun i hi => by simp [hi]
  refine fin_of (l := m) (Q := fun _ a w => K a w) (listed := Array.replicate m.length true) hok hlen ⟨hinv.kp, hinv.size, hinv.defers, by simp, fun i d R _ hd hR => hinv.told i d R (hall i (hlt i d hd)) hd hR, fun t ht => hinv.rest t (fun i _ hd => ht i (hre i (hlt i t hd)) hd), fun i o ho _ j hj => ?_⟩
    hre m Rs 0 a0 (by simp) (by simp) rfl rfl (fun t ht => (hinv.rest t (fun i _ hd => ht i t (by rw [Nat.zero_add]; exact hd) rfl)).symm) hf
  obtain ⟨ks, d, _, _, _, hdep, _, _⟩ := regionOk_at hok ho
  exact hre j (Nat.lt_trans (hdep j hj) (List.getElem?_eq_some_iff.1 ho).1)

theorem headReady (hsub : ∀ (i : Nat) o, m[i]? = some o → ops[i]? = some o) (hok : regionOk m kss n = true) (hinv : HeadInv .any ops m.length listed) (hno : ∀ i, i < m.length → i ∉ Region.ready .any ops listed) : ∀ i, i < m.length → listed.getD i false = true := by
  intro i
  induction i using Nat.strongRecOn with
  | _ i ih =>
    intro hi
    cases hc : listed.getD i false with
    | true => rfl
    | false =>
      have ho : m[i]? = some m[i] := List.getElem?_eq_getElem hi
      obtain ⟨_, _, _, _, _, hdeps, _, _⟩ := regionOk_at hok ho
      refine absurd ?_ (hno i hi)
      rw [mem_ready]
      refine ⟨?_, m[i], hsub i _ ho, fun e he hb => ?_⟩
      · have hls : i < listed.size := by rw [hinv.size]; exact (Array.getElem?_eq_some_iff.1 (hsub i _ ho)).1
        exact getD_in hls hc
      · have hm : e.on ∈ odeps m[i] := mem_deps.2 ⟨e, he, hb, rfl⟩
        exact ih e.on (hdeps _ hm) (Nat.lt_trans (hdeps _ hm) hi)

theorem wpAny_growT (hsub : ∀ (i : Nat) o, m[i]? = some o → ops[i]? = some o) (hok : regionOk m kss a0.tmps.size = true) (hst : ∀ R ∈ Rs, Tell.stable R) (hs : StepsR P ops a0 w0 Rs m kss Rs)
    (hsink : Region.sinkB .any ops m.length = true) (hchain : Region.chainB .any ops m.length = true) (hn : m.length < ops.size) {g : Nat}
    (hf : ∀ w', Kp [] w0 w' → FinR (fun _ a w => ∀ listed, HeadInv .any ops m.length listed → (∀ i, i < m.length → listed.getD i false = true) → wpAny P .any ops Q g listed a w) m Rs a0 w') :
    ∀ (fuel : Nat) (listed : Array Bool) (a : Act) (w : World), InvT m ops Rs a0 w0 listed a w → ((List.range m.length).filter fun i => !listed.getD i false).length = fuel → wpAny P .any ops Q (fuel + g) listed a w := by
  obtain ⟨hlen, _, hat⟩ := StepsR.at _ hs
  have hdone : ∀ (listed : Array Bool) (a : Act) (w : World), InvT m ops Rs a0 w0 listed a w → (∀ i, i < m.length → listed.getD i false = true) → wpAny P .any ops Q g listed a w := fun listed a w hinv hall =>
    fin_ofT (K := fun a w => ∀ listed, HeadInv .any ops m.length listed → (∀ i, i < m.length → listed.getD i false = true) → wpAny P .any ops Q g listed a w) hok hlen hinv hall (hf w hinv.kp) listed hinv.head hall
  intro fuel
  induction fuel with
  | zero =>
    intro listed a w hinv hc
    rw [Nat.zero_add]
    refine hdone listed a w hinv (fun i hi => ?_)
    have h1 := List.filter_eq_nil_iff.1 (List.eq_nil_of_length_eq_zero hc) i (List.mem_range.2 hi)
    simpa using h1
  | succ fuel ih =>
    intro listed a w hinv hc
    obtain ⟨k, hk, hkun⟩ : ∃ k, k < m.length ∧ listed.getD k false = false := by
      have hne : ((List.range m.length).filter fun i => !listed.getD i false) ≠ [] := by intro h; rw [h] at hc; simp at hc
      obtain ⟨k, hk⟩ := List.exists_mem_of_ne_nil _ hne
      obtain ⟨h1, h2⟩ := List.mem_filter.1 hk
      exact ⟨k, List.mem_range.1 h1, by simpa using h2⟩
    have hks : k < listed.size := by rw [hinv.head.size]; omega
    have htw := tail_waits hsink hchain hn hinv.head _ k rfl hk (getD_in hks hkun)
    rw [show fuel + 1 + g = (fuel + g) + 1 by omega]
    refine ⟨fun h0 => ?_, fun i hi => ?_⟩
    · have := headReady hsub hok hinv.head (fun i _ hr => by rw [h0] at hr; cases hr) k hk
      rw [this] at hkun; cases hkun
    · have him : i < m.length := by
        rcases Nat.lt_or_ge i m.length with h | h
        · exact h
        · exact absurd hi (htw i h)
      obtain ⟨hun, o, ho', hall⟩ := mem_ready.1 hi
      have ho : m[i]? = some m[i] := List.getElem?_eq_getElem him
      have hoo : o = m[i] := by rw [hsub i _ ho] at ho'; exact (Option.some.inj ho').symm
      subst hoo
      obtain ⟨ks, d, hks', hd, hdn, _, hlk, _⟩ := regionOk_at hok ho
      have hR : Rs[i]? = some Rs[i] := List.getElem?_eq_getElem (by omega)
      have hw := hat i m[i] ks Rs[i] ho hks' hR a w hinv.kp (knows_ofT hsub hinv hi ho hlen ks hlk)
      have hil : i < listed.size := by rw [hinv.head.size]; omega
      have hcnt : ((List.range m.length).filter fun j => !(listed.setIfInBounds i true).getD j false).length = fuel := by
        have e1 : (List.range m.length).filter (fun j => !(listed.setIfInBounds i true).getD j false) = ((List.range m.length).filter fun j => !listed.getD j false).filter (fun j => j != i) := by
          rw [List.filter_filter]
          refine List.filter_congr (fun j _ => ?_)
          by_cases hij : i = j
          · subst hij; simp [hil]
          · rw [getD_set_ne false hij]
            simp [Ne.symm hij]
        have hmem : i ∈ (List.range m.length).filter (fun j => !listed.getD j false) := List.mem_filter.2 ⟨List.mem_range.2 him, by rw [getD_both hun]; rfl⟩
        have hnd : ((List.range m.length).filter fun j => !listed.getD j false).Nodup := List.Pairwise.filter _ List.nodup_range
        rw [e1, ← hnd.erase_eq_filter, List.length_erase_of_mem hmem, hc]
        rfl
      have next : ∀ v w', Kp [] w w' → Rs[i] v w' → wpAny P .any ops Q (fuel + g) (listed.setIfInBounds i true) (a.put m[i].dst v) w' := fun v w' hk hv =>
        ih _ _ _ (inv_stepT hsub hok hst hinv hi ho hR hk hv) hcnt
      unfold wants at hw
      unfold wpOp
      simp only [ho']
      split
      · rename_i hwn
        rw [if_pos hwn] at hw
        refine .inl ?_
        unfold Oper.wp
        generalize (execOp a.eval m[i]).run P w = r at *
        cases r with
        | ok x w' =>
          cases x <;> simp only [grown] at hw <;> simp only [Oper.upon]
          case value v => exact next v w' hw.1 hw.2
          case skip => exact next undef w' hw.1 hw.2
          case enter f args =>
            refine hw.mono ?_
            rintro e w'' ⟨v, rfl, h1, h2⟩
            exact next v w'' h1 h2
        | halt x w' => simp only [grown] at hw
      · rename_i hwn
        rw [if_neg hwn] at hw
        exact next undef w (Kp.refl _ _) hw

/-- the array that has the first n listed. -/
def firsts (n s : Nat) : Array Bool := Array.replicate n true ++ Array.replicate (s - n) false
theorem firsts_eq {s : Nat} (hn : n ≤ s) (hinv : HeadInv .any ops n listed) (hs : ops.size = s) (hall : ∀ i, i < n → listed.getD i false = true) : listed = firsts n s := by
  have hsz : listed.size = s := by rw [hinv.size, hs]
  refine Array.ext (by simp [firsts]; omega) (fun i h1 h2 => ?_)
  rcases Nat.lt_or_ge i n with h | h
  · have := hall i h
    simp [h1] at this
    simp [firsts, this, h]
  · have := hinv.tail i h (by omega)
    simp [h1] at this
    simp [firsts, this, Array.getElem_append, Nat.not_lt.2 h]

/-- **The first n operations only make memory, the rest comes behind them, one by one.** -/
theorem region_grow_tail {id : Nat} {w : World} {l : List Oper} (n : Nat) (hm : P.follows .mixedOrders = true) (Rs : List Tell) (kss : List (List (Tmp × Option Nat))) (hok : (regionOk (l.take n) kss a0.tmps.size && decide (n < l.length) && Region.sinkB .any l.toArray n && Region.chainB .any l.toArray n && Region.seqB .any l.toArray (l.length - n) n (firsts n l.length)) = true) (hst : ∀ R ∈ Rs, Tell.stable R)
    (hs : StepsR P l.toArray a0 w.drew Rs (l.take n) kss Rs) (hf : ∀ w', Kp [] w.drew w' → FinR (fun _ a w => wpList P l.toArray Q (l.drop n) a w) (l.take n) Rs a0 w') : (Code.region id l.toArray true).wp P Q a0 w := by
  simp only [Bool.and_eq_true, decide_eq_true_eq] at hok
  obtain ⟨⟨⟨⟨hok, hn⟩, hsink⟩, hchain⟩, hseq⟩ := hok
  have htl : (l.take n).length = n := by simp; omega
  refine wp_region_any hm ?_
  have hsub : ∀ (i : Nat) o, (l.take n)[i]? = some o → l.toArray[i]? = some o := fun i o h => by
    rw [List.getElem?_take] at h
    split at h
    · rw [List.getElem?_toArray]; exact h
    · cases h
  have H := wpAny_growT (m := l.take n) (ops := l.toArray) (Q := Q) (g := l.length - n) (w0 := w.drew) hsub hok hst hs (by rw [htl]; exact hsink) (by rw [htl]; exact hchain) (by rw [htl]; simpa using hn) (fun w' hk => by
    have key : ∀ (m : List Oper) (rs : List Tell) (b : Act), FinR (fun _ a w => wpList P l.toArray Q (l.drop n) a w) m rs b w' → FinR (fun _ a w => ∀ listed, HeadInv .any l.toArray (l.take n).length listed → (∀ i, i < (l.take n).length → listed.getD i false = true) → wpAny P .any l.toArray Q (l.length - n) listed a w) m rs b w' := by
      intro m
      have base : ∀ b : Act, wpList P l.toArray Q (l.drop n) b w' → ∀ listed, HeadInv .any l.toArray (l.take n).length listed → (∀ i, i < (l.take n).length → listed.getD i false = true) → wpAny P .any l.toArray Q (l.length - n) listed b w' := by
        intro b hb listed hinv hall
        rw [htl] at hinv hall
        rw [firsts_eq (Nat.le_of_lt hn) hinv (by simp) hall]
        have := wpAny_of_seq (P := P) (md := .any) (Q' := Q) (ops := l.toArray) (l.drop n) n (firsts n l.length) b w' (fun j => by simp [List.getElem?_drop]) (by rw [List.length_drop]; exact hseq) hb
        rwa [List.length_drop] at this
      induction m with
      | nil => intro rs b h; cases rs <;> exact base b h
      | cons o m ih =>
        intro rs b h
        cases rs with
        | nil => exact base b h
        | cons R rs => exact fun v hv => ih rs _ (h v hv)
    exact key _ _ _ (hf w' hk)) n (Array.replicate l.toArray.size false) a0 w.drew
    ⟨Kp.refl _ _, rfl, rfl, (fun i d R h => by rw [getD_replicate_false] at h; cases h), fun _ _ => rfl, ⟨by simp, fun j oj _ hl => (by rw [getD_replicate_false] at hl; cases hl), fun t _ ht => getD_in (by simpa using ht) (getD_replicate_false _ _)⟩⟩ (by
      rw [htl, List.filter_eq_self.2 (fun i _ => by rw [getD_replicate_false]; rfl)]; simp)
  rw [show n + (l.length - n) = l.toArray.size by simp; omega] at H
  exact H
end
end Go.Proofs.YtdioaohejoflcaaDoor

/-
  Slices of slices as what an operation yields.
-/
namespace Go.Proofs.YtdioaohejoflcaaDoor
open Go.RowKit
/-- The value is a slice of slices that reads as these. -/
def LsT (l : List (Value × List Int)) : Tell := fun v w => Lists w v l
theorem stable_ls (l : List (Value × List Int)) : Tell.stable (LsT l) := fun _ _ _ k h => h.kept k
end Go.Proofs.YtdioaohejoflcaaDoor

/-
  The contract of the reference's block: one block of 64 bytes.
-/
namespace Go.Proofs.YtdioaohejoflcaaDoor
open Go.RowKit

theorem ad_comm (x y : Int) : ad x y = ad y x := by unfold ad; rw [Int.add_comm]
theorem next_ref (x0 x1 x2 x3 : Int) : (x3 + bits .xor .u32 (bits .xor .u32 (rot x2 7) (rot x2 18)) (x2 / 8) + x1 + bits .xor .u32 (bits .xor .u32 (rot x0 17) (rot x0 19)) (x0 / 1024)) % 4294967296 = ad (ad (ad (sS1 x0) x1) (sS0 x2)) x3 := by
  rw [ad4]
  show (x3 + sS0 x2 + x1 + sS1 x0) % 4294967296 = _
  congr 1
  omega
theorem blk_ref (h bs : List Int) : List.zipWith ad h (rds (sch bs 64) h 64) = blk h bs := by
  unfold blk
  rw [List.zipWith_comm]
  congr 1
  funext x y
  exact ad_comm y x

theorem rnd_raw (a b c d e f g h k w : Int) : rnd [a, b, c, d, e, f, g, h] k w = [((h + bits .xor .u32 (bits .xor .u32 (rot e 6) (rot e 11)) (rot e 25) + bits .xor .u32 (bits .and .u32 e f) (bits .and .u32 (bits .xor .u32 IntKind.u32.max e) g) + k + w) % 4294967296 + (bits .xor .u32 (bits .xor .u32 (rot a 2) (rot a 13)) (rot a 22) + bits .xor .u32 (bits .xor .u32 (bits .and .u32 a b) (bits .and .u32 a c)) (bits .and .u32 b c)) % 4294967296) % 4294967296, a, b, c, (d + (h + bits .xor .u32 (bits .xor .u32 (rot e 6) (rot e 11)) (rot e 25) + bits .xor .u32 (bits .and .u32 e f) (bits .and .u32 (bits .xor .u32 IntKind.u32.max e) g) + k + w) % 4294967296) % 4294967296, e, f, g] := by
  rw [rnd_eq]
  simp only [bS0, bS1, chs, maj]
theorem rnd_raw2 (a b c d e f g h k w : Int) : rnd [a, b, c, d, e, f, g, h] k w = [(h + bits .xor .u32 (bits .xor .u32 (rot e 6) (rot e 11)) (rot e 25) + bits .xor .u32 (bits .and .u32 e f) (bits .and .u32 (bits .xor .u32 IntKind.u32.max e) g) + k + w + (bits .xor .u32 (bits .xor .u32 (rot a 2) (rot a 13)) (rot a 22) + bits .xor .u32 (bits .xor .u32 (bits .and .u32 a b) (bits .and .u32 a c)) (bits .and .u32 b c))) % 4294967296, a, b, c, (d + (h + bits .xor .u32 (bits .xor .u32 (rot e 6) (rot e 11)) (rot e 25) + bits .xor .u32 (bits .and .u32 e f) (bits .and .u32 (bits .xor .u32 IntKind.u32.max e) g) + k + w)) % 4294967296, e, f, g] := by
  rw [rnd_raw]
  simp only [List.cons.injEq, and_true, true_and]
  constructor <;> omega
set_option maxRecDepth 100000 in
set_option maxHeartbeats 2000000 in
theorem block_any (h0 : List Int) (bk : Nat) (vb : Value) (bs : List Int) (w : World) (hh : h0.length = 8) (hk0 : Ar w bk 103 consts) (hS : Sl w vb bs) (hl : bs.length = 64) (hB : Bs bs) :
    Calls Tryd.prog 77 #[ag h0, .pointer (some ⟨bk, 0, none⟩), vb] w fun e w' => e = .returned (ag (blk h0 bs)) ∧ Kp [] w w' := by
  obtain ⟨i0, hi0, hz0⟩ := Tryd.zero64
  obtain ⟨i8, hi8, hz8⟩ := Tryd.zero8
  obtain ⟨ab, cb, rfl, h1, h2, h4⟩ := hS.at hl (by omega)
  have h1i : (64 : Int) ≤ (cb : Int) := by omega
  have H4 := hide h4
  have hab : ab.block < w.heap.size := by have := World.block_lt_of_cell? _ _ (h4 0 (by omega)); rwa [add_block] at this
  have hbk := hk0.lt
  have HK0 := hide hk0
  clear h4 hS hk0
  go_enter Tryd.func77, Tryd.ntmps77
  go_wp2_with (first
    | (refine wpList_box_ar (w := w) rfl 102 (.tmp 0) rfl _ rfl ?_; intro wa Aa Ka za)
    | (refine wpList_alloc_ar (w := wa) rfl 102 rfl i8 _ hi8 hz8 ?_; intro wb Ab Kb zb)
    | (refine wpList_alloc_ar (w := wb) rfl 103 rfl i0 _ hi0 hz0 ?_; intro w1 A1 K1 z1))
  obtain ⟨b1, hb1⟩ : ∃ b, b = w.heap.size := ⟨_, rfl⟩
  obtain ⟨b2, hb2⟩ : ∃ b, b = b1 + 1 := ⟨_, rfl⟩
  obtain ⟨b3, hb3⟩ : ∃ b, b = b2 + 1 := ⟨_, rfl⟩
  rw [← hb1] at Aa
  rw [za, ← hb1, ← hb2] at Ab
  rw [zb, za, ← hb1, show b1 + 1 + 1 = b3 by omega] at A1
  have K2 := (Ka.trans Kb).trans K1
  have AH := (Aa.kept Kb (by simp)).kept K1 (by simp)
  have AR := Ab.kept K1 (by simp)
  have hbw : w.heap.size ≤ b1 := by omega
  have hb12 : b2 = b1 + 1 := hb2
  have hb13 : b3 = b1 + 2 := by omega
  simp only [← hb1, ← hb2, ← hb3]
  have HC : Hid (∀ j, j < 64 → w1.cell? (ab.add j) = some (.int .u8 (bs.getD j 0))) := fun j hj => K2.cell (unhide H4 j hj) (by simp)
  have HKK := hide ((unhide HK0).kept K2 (by simp))
  have hAH := hide AH
  have hAR := hide AR
  have hA1 := hide A1
  have hK2 := hide K2
  have HB12 := hide hb12
  have HB13 := hide hb13
  have hsz1 : w1.heap.size = b1 + 3 := by omega
  have HSZ := hide hsz1
  clear H4 hb1 hb2 hb3 Ka Kb K1 Aa Ab za zb z1 A1 AH AR K2 hb12 hb13 hsz1
  go_loopw [8] (fun i wr => ∃ k : Nat, k ≤ 16 ∧ i = .int .i64 k ∧ Kp [b3] w1 wr ∧ Ar wr b3 103 (sch bs k ++ List.replicate (64 - k) 0)) (fun i _ => 16 - (intOf i).toNat)
  case atStart => exact ⟨0, by omega, rfl, Kp.refl _ _, unhide hA1⟩
  case round =>
    obtain ⟨k, hk, rfl, Kr, Ak⟩ := hrel
    by_cases hlt : k < 16
    · have hlt2 : (k : Int) < 16 := by omega
      have hck : ∀ j, j < 64 → wr.cell? (ab.add j) = some (.int .u8 (bs.getD j 0)) := fun j hj => Kr.cell (unhide HC j hj) (by have := unhide HB13; rw [add_block]; simp; omega)
      obtain ⟨x0, hx0⟩ : ∃ x, x = bs.getD (4 * k) 0 := ⟨_, rfl⟩
      obtain ⟨x1, hx1⟩ : ∃ x, x = bs.getD (4 * k + 1) 0 := ⟨_, rfl⟩
      obtain ⟨x2, hx2⟩ : ∃ x, x = bs.getD (4 * k + 2) 0 := ⟨_, rfl⟩
      obtain ⟨x3, hx3⟩ : ∃ x, x = bs.getD (4 * k + 3) 0 := ⟨_, rfl⟩
      have hc0 := hck (4 * k) (by omega)
      have hc1 := hck (4 * k + 1) (by omega)
      have hc2 := hck (4 * k + 2) (by omega)
      have hc3 := hck (4 * k + 3) (by omega)
      rw [← hx0] at hc0
      rw [Addr.add_succ', ← hx1] at hc1
      rw [Addr.add_succ', ← hx2] at hc2
      rw [Addr.add_succ', ← hx3] at hc3
      have d0 := hB.at (4 * k)
      have d1 := hB.at (4 * k + 1)
      have d2 := hB.at (4 * k + 2)
      have d3 := hB.at (4 * k + 3)
      rw [← hx0] at d0
      rw [← hx1] at d1
      rw [← hx2] at d2
      rw [← hx3] at d3
      have hsch : sch bs (k + 1) = sch bs k ++ [wd x0 x1 x2 x3] := by simp only [sch, if_pos hlt, wordAt, hx0, hx1, hx2, hx3]
      have hset := sch_set bs k (by omega) _ hsch
      obtain ⟨ys, hys⟩ : ∃ ys, ys = sch bs k ++ List.replicate (64 - k) 0 := ⟨_, rfl⟩
      rw [← hys] at Ak hset
      have hyl : ys.length = 64 := by rw [hys]; simp [sch_len]; omega
      have hck' := Ak.cell k (by omega)
      have hfk := Ak.frozen k
      have HA := hide Ak
      have HS := hide hset
      have hkr := hide Kr
      obtain ⟨old, hold⟩ : ∃ old, old = ys.getD k 0 := ⟨_, rfl⟩
      rw [← hold] at hck'
      clear hck hx0 hx1 hx2 hx3 hsch hset hys Ak Kr hold
      go_wp2_with fail
      refine region_tail 35 Tryd.mixed (by kernel_rfl) ?_
      simp only [List.take_succ_cons, List.take_zero, List.drop_succ_cons, List.drop_zero]
      repeat (first | go_big_quiet_skip | (go_big_quiet_want; go_big_quiet_op; go_big_quiet_on))
      refine wpQuiet_nil ?_
      go_wp2_with fail
      go_roundw
      case rel =>
        refine ⟨k + 1, by omega, by go_num, ((unhide hkr).setCell (p := ⟨b3, k, none⟩) (.inl (by simp)) _).drew, ?_⟩
        rw [← unhide HS]
        exact (unhide HA).set k _
      case measure => simp [intOf]; omega
    · obtain rfl : k = 16 := by omega
      obtain ⟨w2, hw2⟩ : ∃ w2, w2 = wr := ⟨_, rfl⟩
      subst hw2
      have HK := hide Kr
      have hAk := hide Ak
      clear Kr Ak
      go_wp2_with fail
      go_loopw [9] (fun i wr => ∃ k : Nat, 16 ≤ k ∧ k ≤ 64 ∧ i = .int .i64 k ∧ Kp [b3] w1 wr ∧ Ar wr b3 103 (sch bs k ++ List.replicate (64 - k) 0)) (fun i _ => 64 - (intOf i).toNat)
      case atStart => exact ⟨16, by omega, by omega, rfl, unhide HK, unhide hAk⟩
      case round =>
        obtain ⟨k, hk1, hk, rfl, Kr, Ar1⟩ := hrel
        clear hAk HK
        by_cases hlt : k < 64
        · have hlt2 : (k : Int) < 64 := by omega
          have hk2 : (16 : Int) ≤ (k : Int) := by omega
          have hnl : ¬ k < 16 := by omega
          obtain ⟨ys, hys⟩ : ∃ ys, ys = sch bs k ++ List.replicate (64 - k) 0 := ⟨_, rfl⟩
          have hgd : ∀ j, j < k → ys.getD j 0 = (sch bs k).getD j 0 := fun j hj => by
            rw [hys, List.getD_eq_getElem?_getD, List.getD_eq_getElem?_getD, List.getElem?_append_left (by rw [sch_len]; exact hj)]
          have hyl : ys.length = 64 := by rw [hys]; simp [sch_len]; omega
          have hset := fun x hx => sch_set bs k (by omega) x hx
          rw [← hys] at Ar1 hset
          obtain ⟨x0, hx0⟩ : ∃ x, x = ys.getD (k - 2) 0 := ⟨_, rfl⟩
          obtain ⟨x1, hx1⟩ : ∃ x, x = ys.getD (k - 7) 0 := ⟨_, rfl⟩
          obtain ⟨x2, hx2⟩ : ∃ x, x = ys.getD (k - 15) 0 := ⟨_, rfl⟩
          obtain ⟨x3, hx3⟩ : ∃ x, x = ys.getD (k - 16) 0 := ⟨_, rfl⟩
          have hc0 := Ar1.cell (k - 2) (by omega)
          have hc1 := Ar1.cell (k - 7) (by omega)
          have hc2 := Ar1.cell (k - 15) (by omega)
          have hc3 := Ar1.cell (k - 16) (by omega)
          rw [← hx0] at hc0
          rw [← hx1] at hc1
          rw [← hx2] at hc2
          rw [← hx3] at hc3
          have hsch : sch bs (k + 1) = sch bs k ++ [ad (ad (ad (sS1 x0) x1) (sS0 x2)) x3] := by
            simp only [sch, if_neg hnl, nextW, hx0, hx1, hx2, hx3]
            rw [hgd _ (by omega), hgd _ (by omega), hgd _ (by omega), hgd _ (by omega)]
          have HS := hide (hset _ hsch)
          have HA := hide Ar1
          have hkr := hide Kr
          have hck' := Ar1.cell k (by omega)
          have hfk := Ar1.frozen k
          obtain ⟨old, hold⟩ : ∃ old, old = ys.getD k 0 := ⟨_, rfl⟩
          rw [← hold] at hck'
          clear hx0 hx1 hx2 hx3 hsch hset hys Ar1 Kr hold hgd
          go_wp2_with fail
          refine region_read Tryd.mixed (by kernel_rfl) ?_
          repeat (first | go_big_quiet_skip | (go_big_quiet_want; go_big_quiet_op; go_big_quiet_on))
          refine wpQuiet_nil ?_
          go_wp2_with fail
          refine region_tail 29 Tryd.mixed (by kernel_rfl) ?_
          simp only [List.take_succ_cons, List.take_zero, List.drop_succ_cons, List.drop_zero]
          repeat (first | go_big_quiet_skip | (go_big_quiet_want; go_big_quiet_op; first | go_big_quiet_on | (refine ⟨_, turn_any _ _ _ (by omega) (by omega), ?_⟩; go_big_quiet_on)))
          refine wpQuiet_nil ?_
          go_wp2_with fail
          go_roundw
          case rel =>
            refine ⟨k + 1, by omega, by omega, by go_num, (((unhide hkr).setCell (p := ⟨b3, k, none⟩) (.inl (by simp)) _).drew).drew, ?_⟩
            rw [← unhide HS, ← next_ref]
            exact (unhide HA).set k _
          case measure => simp [intOf]; omega
        · obtain rfl : k = 64 := by omega
          obtain ⟨ws, hws⟩ : ∃ ws, ws = sch bs 64 := ⟨_, rfl⟩
          have hwl : ws.length = 64 := by rw [hws]; exact sch_len _ _
          have AW : Ar wr b3 103 ws := by rw [hws]; simpa using Ar1
          have AH := (unhide hAH).kept Kr (by have := unhide HB13; simp; omega)
          have AR := (unhide hAR).kept Kr (by have := unhide HB13; have := unhide HB12; simp; omega)
          have AK := (unhide HKK).kept Kr (by have := unhide HB13; simp; omega)
          have KW : Kp [] w wr := (unhide hK2).then Kr (by have := unhide HB13; simp; omega)
          obtain ⟨w4, hw4⟩ : ∃ w4, w4 = wr := ⟨_, rfl⟩
          subst hw4
          have HW := hide hws
          have hszw : w.heap.size ≤ w4.heap.size := KW.size
          have hl1 := AH.lt
          have hl2 := AR.lt
          have hl3 := AW.lt
          have hl4 := AK.lt
          have hi : (Tryd.prog.info? 102).map (·.size) = some h0.length := by rw [hh]; exact Tryd.sz8
          clear Ar1 Kr hws
          go_wp2_with (first
            | (refine wpList_load_ar rfl 102 (.tmp 3) rfl b1 rfl _ _ 8 70 AH Tryd.underlying102 hi ?_)
            | (refine wpList_alloc_ar (w := w4) rfl 102 rfl i8 _ hi8 hz8 ?_; intro w5 A5 K5 z5)
            | (refine wpList_store_ar rfl 102 (.tmp 12) (.tmp 99) rfl w4.heap.size rfl _ _ h0 A5 rfl (by rw [hh]; rfl) hi ?_; intro w6 A6 K6 z6))
          obtain ⟨b4, hb4⟩ : ∃ b, b = w4.heap.size := ⟨_, rfl⟩
          rw [← hb4] at A5 A6 K6 hl1 hl2 hl3 hl4
          simp only [← hb4]
          have n1 : b1 ≠ b4 := by omega
          have n2 : b2 ≠ b4 := by omega
          have n3 : b3 ≠ b4 := by omega
          have n4 : bk ≠ b4 := by omega
          have hb4w : w.heap.size ≤ b4 := by omega
          have hAW := hide ((AW.kept K5 (by simp)).kept K6 (by simp; omega))
          have hAH := hide ((AH.kept K5 (by simp)).kept K6 (by simp; omega))
          have hAR := hide ((AR.kept K5 (by simp)).kept K6 (by simp; omega))
          have hAK := hide ((AK.kept K5 (by simp)).kept K6 (by simp; omega))
          have hK6 : Hid (Kp [] w w6) := (KW.trans K5).then K6 (by simp; omega)
          have hA6 := hide A6
          clear A5 A6 K5 K6 z5 z6 AW AH AR AK KW hl1 hl2 hl3 hl4 hszw hb4
          go_loopw [13] (fun i wr => ∃ k : Nat, k ≤ 64 ∧ i = .int .i64 k ∧ Kp [b4] w6 wr ∧ Ar wr b4 102 (rds ws h0 k)) (fun i _ => 64 - (intOf i).toNat)
          case atStart => exact ⟨0, by omega, rfl, Kp.refl _ _, unhide hA6⟩
          case round =>
            obtain ⟨k, hk, rfl, Kr, Ak⟩ := hrel
            have hrl := rds_len ws h0 hh k
            by_cases hlt : k < 64
            · have hlt2 : (k : Int) < 64 := by omega
              have hcw := ((unhide hAW).kept Kr (by simpa using n3)).cell k (by omega)
              have hck := ((unhide hAK).kept Kr (by simpa using n4)).cell k (by simpa [consts] using hlt)
              obtain ⟨a, b, c, d, e, f, g, q, hrd⟩ := eight hrl
              rw [hrd] at Ak
              have hnx : rds ws h0 (k + 1) = rnd [a, b, c, d, e, f, g, q] (consts.getD k 0) (ws.getD k 0) := by simp only [rds, hrd]
              obtain ⟨x, hx⟩ : ∃ x, x = ws.getD k 0 := ⟨_, rfl⟩
              obtain ⟨y, hy⟩ : ∃ y, y = consts.getD k 0 := ⟨_, rfl⟩
              rw [← hx] at hcw hnx
              rw [← hy] at hck hnx
              have HN := hide hnx
              have c0 := Ak.cell 0 (by simp)
              have c1 := Ak.cell 1 (by simp)
              have c2 := Ak.cell 2 (by simp)
              have c3 := Ak.cell 3 (by simp)
              have c4 := Ak.cell 4 (by simp)
              have c5 := Ak.cell 5 (by simp)
              have c6 := Ak.cell 6 (by simp)
              have c7 := Ak.cell 7 (by simp)
              simp only [List.getD_cons_zero, List.getD_cons_succ] at c0 c1 c2 c3 c4 c5 c6 c7
              have hA := hide Ak
              have hkr := hide Kr
              clear Ak Kr hx hy hnx hrd hrl
              go_wp2_with fail
              refine region_read Tryd.mixed (by kernel_rfl) ?_
              repeat (first | go_big_quiet_skip | (go_big_quiet_want; go_big_quiet_op; go_big_quiet_on))
              refine wpQuiet_nil ?_
              go_wp2_with fail
              refine region_read Tryd.mixed (by kernel_rfl) ?_
              repeat (first | go_big_quiet_skip | (go_big_quiet_want; go_big_quiet_op; first | go_big_quiet_on | (refine ⟨_, turn_any _ _ _ (by omega) (by omega), ?_⟩; go_big_quiet_on)))
              refine wpQuiet_nil ?_
              go_wp2_with fail
              refine region_read Tryd.mixed (by kernel_rfl) ?_
              repeat (first | go_big_quiet_skip | (go_big_quiet_want; go_big_quiet_op; first | go_big_quiet_on | (refine ⟨_, turn_any _ _ _ (by omega) (by omega), ?_⟩; go_big_quiet_on)))
              refine wpQuiet_nil ?_
              have hA3 : Ar wr.drew.drew.drew b4 102 [a, b, c, d, e, f, g, q] := unhide hA
              go_wp2_with (refine wpList_store_ar rfl 102 (.tmp 12) (.tmp 181) rfl b4 rfl _ _ [_, _, _, _, _, _, _, _] hA3 rfl rfl Tryd.sz8 ?_; intro w9 A9 K9 z9)
              go_roundw
              case rel =>
                refine ⟨k + 1, by omega, by go_num, ((unhide hkr).drew.drew.drew).trans K9, ?_⟩
                rw [unhide HN, rnd_raw2]
                exact A9
              case measure => simp [intOf]; omega
            · obtain rfl : k = 64 := by omega
              clear hk hlt
              obtain ⟨tt, htt⟩ : ∃ tt, tt = rds ws h0 64 := ⟨_, rfl⟩
              rw [← htt] at Ak hrl
              have HT := hide htt
              have hAk := hide Ak
              have AH := (unhide hAH).kept Kr (by simpa using n1)
              have hAR8 := hide ((unhide hAR).kept Kr (by simpa using n2))
              have hKW : Hid (Kp [] w wr) := (unhide hK6).then Kr (by simp; omega)
              have h00 : h0 = List.zipWith ad (h0.take 0) tt ++ h0.drop 0 := by simp
              rw [h00] at AH
              have hAH8 := hide AH
              obtain ⟨w8, hw8⟩ : ∃ w8, w8 = wr := ⟨_, rfl⟩
              subst hw8
              have hb21 : b1 ≠ b2 := by have := unhide HB12; omega
              clear Ak Kr AH h00 htt hA6 hAW hAH hAR hAK hK6
              go_wp2_with fail
              go_loopw [18] (fun i wr => ∃ k : Nat, k ≤ 8 ∧ i = .int .i64 k ∧ Kp [b1] w8 wr ∧ Ar wr b1 102 (List.zipWith ad (h0.take k) tt ++ h0.drop k)) (fun i _ => 8 - (intOf i).toNat)
              case atStart => exact ⟨0, by omega, rfl, Kp.refl _ _, unhide hAH8⟩
              case round =>
                obtain ⟨k, hk, rfl, Kr, Ak⟩ := hrel
                clear hAH8
                have A9 := (unhide hAk).kept Kr (by simp; omega)
                by_cases hlt : k < 8
                · have hlt2 : (k : Int) < 8 := by omega
                  obtain ⟨ys, hys⟩ : ∃ ys, ys = List.zipWith ad (h0.take k) tt ++ h0.drop k := ⟨_, rfl⟩
                  have hz : (List.zipWith ad (h0.take k) tt).length = k := by simp; omega
                  have hyl : ys.length = 8 := by rw [hys]; simp [hz]; omega
                  have hset : ys.set k (ad (ys.getD k 0) (tt.getD k 0)) = List.zipWith ad (h0.take (k + 1)) tt ++ h0.drop (k + 1) := zip_step h0 tt k (by omega) (by omega) ys hys
                  rw [← hys] at Ak
                  have hc1 := Ak.cell k (by omega)
                  have hc2 := A9.cell k (by omega)
                  have hfk := Ak.frozen k
                  obtain ⟨x, hx⟩ : ∃ x, x = ys.getD k 0 := ⟨_, rfl⟩
                  obtain ⟨y, hy⟩ : ∃ y, y = tt.getD k 0 := ⟨_, rfl⟩
                  rw [← hx] at hc1 hset
                  rw [← hy] at hc2 hset
                  have HS := hide hset
                  have HA := hide Ak
                  have hkr := hide Kr
                  clear hx hy hset Ak Kr A9 hys hz
                  go_wp2_with fail
                  refine region_tail 9 Tryd.mixed (by kernel_rfl) ?_
                  simp only [List.take_succ_cons, List.take_zero, List.drop_succ_cons, List.drop_zero]
                  repeat (first | go_big_quiet_skip | (go_big_quiet_want; go_big_quiet_op; go_big_quiet_on))
                  refine wpQuiet_nil ?_
                  go_wp2_with fail
                  go_roundw
                  case rel =>
                    refine ⟨k + 1, by omega, by go_num, ((unhide hkr).setCell (p := ⟨b1, k, none⟩) (.inl (by simp)) _).drew, ?_⟩
                    rw [← unhide HS]
                    exact (unhide HA).set k _
                  case measure => simp [intOf]; omega
                · obtain rfl : k = 8 := by omega
                  have A10 := (unhide hAR8).kept Kr (by simp; omega)
                  have hfin : List.zipWith ad (h0.take 8) tt ++ h0.drop 8 = blk h0 bs := by
                    rw [List.take_of_length_le (by omega), List.drop_of_length_le (by omega), List.append_nil, unhide HT, unhide HW, blk_ref]
                  rw [hfin] at Ak
                  have hbl : (blk h0 bs).length = 8 := blk_len _ _ hh
                  have hib : (Tryd.prog.info? 102).map (·.size) = some (blk h0 bs).length := by rw [hbl]; exact Tryd.sz8
                  go_wp2_with (first
                    | (refine wpList_load_ar rfl 102 (.tmp 3) rfl b1 rfl _ _ 8 70 Ak Tryd.underlying102 hib ?_)
                    | (refine wpList_store_ar rfl 102 (.tmp 6) (.tmp 195) rfl b2 rfl _ _ _ A10 rfl (by rw [hbl]; rfl) hib ?_; intro w9 A9 K9 z9))
                  refine bodyPost_ret (results_cell_row rfl _ w9 b2 _ _ (0, 0) (.array 8 70) rfl A9 Tryd.underlying102 rfl (by simpa using hib)) rfl ?_
                  refine ⟨rfl, ?_⟩
                  have hbw2 : w.heap.size ≤ b2 := by have := unhide HB12; omega
                  exact ((unhide hKW).then Kr (by simp; omega)).then K9 (by simp; omega)
end Go.Proofs.YtdioaohejoflcaaDoor
