/-
  Helpers of the laws: Cut, Within; how an argument that is a row of bytes is read; what the laid table gives.
-/
import Derived.Below
import Derived.ChangeOld
import Derived.Deep.Slices
import Derived.LaidMore
import Derived.Lib.LaidTab
import Derived.Lib.SmallJoins
import Derived.OpenShut
import Derived.ProofKit
import Derived.ShutString
import Derived.Stop.Joined
import Derived.Test.YtillhpgdlmeajabGreatDoorRows
import Derived.Test.YtillhpgdlmeajabGreatDoorQB1
import Derived.Laws.OwnMore
import Derived.Test.YtillhpgdlmeajabGreatDoorQB2
import Derived.Lib.SlBytesConst
import Derived.Test.YtillhpgdlmeajabGreatDoorQB3
import Derived.Test.YtillhpgdlmeajabGreatDoorQB4
import Derived.Lib.BitFns
import Derived.Test.YtillhpgdlmeajabGreatDoorQB5
import Derived.Deep.RegionHeld3
import Derived.Test.YtillhpgdlmeajabGreatDoorQB6
import Derived.ArgAppend
import Derived.Deep.Upon
import Derived.Test.YtillhpgdlmeajabGreatDoorQB7
namespace Go.Proofs.YtillhpgdlmeajabGreatDoor
open Go.ChangeShapes Go.WideShapes Go.ChangeAt Go.RowKit
open Go.Deep
section
variable {H : Type} {enc : TypeId × Value → H} {w : World}
theorem bytes_of_trod {v : Value} {fuel : Nat} {x : DataW H × List MemPlace} (h : DataW.trod enc Tryz.prog w 0 (fun _ => true) true fuel 29 [v] = some x) : ∃ bs, Sl w v bs ∧ Bs bs := by
  rcases open_ints Tryz.underlying29 Tryz.underlying5 (by kernel_rfl) h with ⟨hcs, _⟩ | ⟨a, len, cap, zs, hcs, _, hl, hm, hz, _, hcell, hwz⟩
  · simp only [List.cons.injEq, and_true] at hcs
    subst hcs
    exact ⟨[], Sl.nil w, fun b hb => by cases hb⟩
  · simp only [List.cons.injEq, and_true] at hcs
    subst hcs
    simp only [if_true] at hz
    have hlen : (zs.take len).length = len := by simp; omega
    refine ⟨zs.take len, ⟨some a, cap, by rw [hlen], by omega, hm, (fun h => by cases h), fun a' ha j u hu => ?_⟩, fun b hb => bounds_u8 (hwz b (List.mem_of_mem_take hb))⟩
    cases ha
    have hj : j < (zs.take len).length := by have := (List.getElem?_eq_some_iff.1 hu).1; simpa using this
    rw [hcell j (by simp at hj; omega)]
    rw [List.getElem?_map, List.getElem?_take] at hu
    split at hu
    · rw [← hu]
      have : j < zs.length := by omega
      simp [List.getD, List.getElem?_eq_getElem this]
    · cases hu
end
end Go.Proofs.YtillhpgdlmeajabGreatDoor

/-
  Lists of slices as arguments; the contracts of the law package's helpers Few and Sized over this seat's program.
-/
namespace Go.Proofs.YtillhpgdlmeajabGreatDoor
open Go.ChangeShapes Go.WideShapes Go.ChangeAt Go.RowKit
open Go.Deep
section
variable {H : Type} {enc : TypeId × Value → H} {w : World}
theorem lists_of_trod {v : Value} {fuel : Nat} {x : DataW H × List MemPlace} (h : DataW.trod enc Tryz.prog w 0 (fun _ => true) true fuel 31 [v] = some x) : ∃ l, Lists w v l := by
  rcases open_slice1 Tryz.underlying31 (by kernel_rfl) h with ⟨hcs, _⟩ | ⟨a, len, cap, m, n, V, D, Pl, hcs, _, hl, hm, hmm, _, hx⟩
  · simp only [List.cons.injEq, and_true] at hcs
    subst hcs
    exact ⟨[], none, 0, rfl, by simp, fun i hi => by cases hi⟩
  · simp only [List.cons.injEq, and_true] at hcs
    subst hcs
    simp only [if_true] at hmm
    subst hmm
    have key : ∀ i, i < len → ∃ d : Value × List Int, w.cell? (a.add i) = some d.1 ∧ Sl w d.1 d.2 ∧ Bs d.2 := fun i hi => by
      obtain ⟨h1, h2⟩ := hx i (by omega)
      obtain ⟨bs, hs, hB⟩ := bytes_of_trod h2
      exact ⟨(V i, bs), h1, hs, hB⟩
    have inst : Inhabited (Value × List Int) := ⟨(.slice none 0 0, [])⟩
    obtain ⟨F, hF⟩ := @choose_lt (Value × List Int) inst len (fun i d => w.cell? (a.add i) = some d.1 ∧ Sl w d.1 d.2 ∧ Bs d.2) key
    have hlen : ((List.range len).map F).length = len := by simp
    refine ⟨(List.range len).map F, some a, m, by rw [hlen], by unfold maxLen at hm; omega, fun i hi => ?_⟩
    rw [hlen] at hi
    have s0 := (hF 0 (by omega)).1
    obtain ⟨hA, hS, hB⟩ := hF i hi
    obtain ⟨b, off, spot⟩ := a
    have hspot : ((⟨b, off, spot⟩ : Addr).add 0).spot = none := World.cell?_spot s0
    have hspot' : spot = none := by rw [Addr.add_zero'] at hspot; exact hspot
    subst hspot'
    rw [Addr.add_lit] at hA
    exact ⟨b, off, rfl, by simpa using hA, by simpa using hS, by simpa using hB⟩
end
end Go.Proofs.YtillhpgdlmeajabGreatDoor

/-
  A new disk and its steps, as the law package takes them; Cut of the law package by its value; known.
-/
namespace Go.Proofs.YtillhpgdlmeajabGreatDoor
open Go.RowKit
open Go.Proofs
theorem sl_nlen {w : World} {a : Option Addr} {l c : Nat} {bs : List Int} (h : Sl w (.slice a l c) bs) : l = bs.length := by
  obtain ⟨ao, c', e, _⟩ := h
  injection e with e1 e2 e3
theorem cutv_any (a : Option Addr) (l c : Nat) (n : Nat) (bs : List Int) (w : World) (h : Sl w (.slice a l c) bs) :
    Calls Tryz.prog 19 #[.slice a l c, .int .i64 n] w fun e w' => e = .returned (.slice a (min l n) c) ∧ w' = w := by
  have hl := sl_nlen h
  obtain ⟨ao, c', e, h1, h2, h3, h4⟩ := h
  injection e with e1 e2 e3
  subst e1
  subst e3
  unfold maxLen at h2
  clear h4 h3 e2
  by_cases hn : n < l
  · have hlt : (n : Int) < (l : Int) := by omega
    have hc : (n : Int) ≤ (c : Int) := by omega
    rw [show min l n = n from by omega]
    clear hl h1 h2
    go_enter Tryz.func19, Tryz.ntmps19
    go_wp2_with fail
    go_ret
    exact ⟨rfl, rfl⟩
  · have hlt : ¬ (n : Int) < (l : Int) := by omega
    rw [show min l n = l from by omega]
    clear hl h1 h2
    go_enter Tryz.func19, Tryz.ntmps19
    go_wp2_with fail
    go_ret
    exact ⟨rfl, rfl⟩
theorem cutv_sl {w : World} {a : Option Addr} {l c : Nat} {bs : List Int} (n : Nat) (h : Sl w (.slice a l c) bs) : Sl w (.slice a (min l n) c) (bs.take n) := by
  have hl := sl_nlen h
  by_cases hn : n ≤ bs.length
  · rw [show min l n = n from by omega]; exact h.take n hn
  · rw [show min l n = l from by omega, List.take_of_length_le (by omega)]; exact h
namespace Dk
end Dk
section
variable {w0 w w' : World} {p : Nat} {v v' : Value} {d d' : Dk}
end
end Go.Proofs.YtillhpgdlmeajabGreatDoor

/-
  A place of a row of the call's own: read, written.
-/
namespace Go.Proofs.YtillhpgdlmeajabGreatDoor
open Go.RowKit
theorem cell_setCell_ne {w : World} {a b : Addr} {u : Value} (hs : a.spot = none) (h : b ≠ a) (hb : b.spot = none) : (w.setCell a u).cell? b = w.cell? b := by
  obtain ⟨ab, ao, as'⟩ := a
  obtain ⟨bb, bo, bs'⟩ := b
  simp only at hs hb
  subst hs
  subst hb
  by_cases hblk : bb = ab
  · subst hblk
    have hoff : ao ≠ bo := fun e => h (by rw [e])
    unfold World.cell? World.setCell
    simp only
    cases hx : w.heap[bb]? with
    | none =>
      have hle := Array.getElem?_eq_none_iff.1 hx
      rw [Array.getElem?_eq_none (by simpa using hle)]
    | some o =>
      have hlt : bb < w.heap.size := (Array.getElem?_eq_some_iff.1 hx).1
      have hx' : w.heap[bb] = o := by simpa [Array.getElem?_eq_getElem hlt] using hx
      rw [Array.getElem?_eq_getElem (by simpa using hlt), Array.getElem_modify_self, hx']
      cases o <;> simp [Array.getElem?_setIfInBounds_ne hoff]
  · exact World.cell?_of_block (Below.heap_setCell _ _ _ _ (by simpa using hblk))
theorem cell_setCell_same {w : World} {b off : Nat} {u y : Value} (h : w.cell? ⟨b, off, none⟩ = some y) : (w.setCell ⟨b, off, none⟩ u).cell? ⟨b, off, none⟩ = some u := by
  unfold World.cell? World.setCell at *
  simp only at *
  cases hx : w.heap[b]? with
  | none => simp [hx] at h
  | some o =>
    have hlt : b < w.heap.size := (Array.getElem?_eq_some_iff.1 hx).1
    have hx' : w.heap[b] = o := by simpa [Array.getElem?_eq_getElem hlt] using hx
    rw [hx] at h
    rw [Array.getElem?_eq_getElem (by simpa using hlt), Array.getElem_modify_self, hx']
    cases o with
    | cells c t fr =>
      simp at h ⊢
      have : off < c.size := (Array.getElem?_eq_some_iff.1 h).1
      simp [this]
    | _ => simp at h
end Go.Proofs.YtillhpgdlmeajabGreatDoor

/-
  Chapter 6 as plain functions: where a row of leaves is parted, leaves, nodes, the root.
-/
namespace Go.Proofs.YtillhpgdlmeajabGreatDoor
theorem tsplP_of {n j : Nat} (h1 : 2 ^ j < n) (h2 : n ≤ 2 * 2 ^ j) : tsplP n = 2 ^ j := by
  have hp : 1 ≤ 2 ^ j := Nat.one_le_two_pow
  rw [tsplP_more (by omega)]
  congr 1
  exact (Nat.log2_eq_iff (by omega)).2 ⟨by omega, by rw [Nat.pow_succ]; omega⟩
end Go.Proofs.YtillhpgdlmeajabGreatDoor

/-
  The contracts of Leaf and Node, of the program and of the reference.
-/
namespace Go.Proofs.YtillhpgdlmeajabGreatDoor
open Go.RowKit
set_option maxRecDepth 100000 in
set_option maxHeartbeats 1000000 in
theorem rleaf_any (v : Value) (bs : List Int) (r : List Int) (hr : r = tleafP bs) (w : World) (hS : Sl w v bs) (hB : Bs bs) (hl : bs.length ≤ 1000000) :
    Calls Tryz.prog 47 #[v] w fun e w' => ∃ ao m c, e = .returned (.slice ao m c) ∧ Row w' w.heap.size (.slice ao m c) r ∧ Kp [] w w' := by
  have HL := lists1 hS hB
  have HK := hide ((Kp.refl [] w).alloc (.cells #[v] 29))
  have HC := hide (reftagged_any 0 _ _ r (by rw [hr, cat1]; rfl) _ HL (by omega) (by omega) (by simp) (small1 hl))
  rw [show (w.alloc (.cells #[v] 29)).heap.size = w.heap.size + 1 by simp] at HC
  obtain ⟨ab, cb, hvb, _⟩ := hS
  obtain ⟨nb, hnb⟩ : ∃ n, n = bs.length := ⟨_, rfl⟩
  rw [← hnb] at hvb
  subst hvb
  clear hr hB hl HL hnb
  go_enter Tryz.func47, Tryz.ntmps47
  go_wp2_with fail
  refine (unhide HC).mono ?_
  rintro ee w2 ⟨ao2, m2, c2, rfl, R2, K2⟩
  have HR2 : Hid (Row w2 w.heap.size (.slice ao2 m2 c2) r) := owns_rebase R2 (fun i hi => by have := Row.own R2 i hi; omega)
  have HK2 := hide ((unhide HK).trans K2)
  clear HC HK R2 K2
  go_wp2_with fail
  go_ret
  exact ⟨ao2, m2, c2, rfl, unhide HR2, unhide HK2⟩
set_option maxRecDepth 100000 in
set_option maxHeartbeats 1000000 in
theorem rnode_any (v u : Value) (bs cs : List Int) (r : List Int) (hr : r = tnodeP bs cs) (w : World) (hS : Sl w v bs) (hB : Bs bs) (hl : bs.length ≤ 1000000) (hT : Sl w u cs) (hC : Bs cs) (hm : cs.length ≤ 1000000) :
    Calls Tryz.prog 46 #[v, u] w fun e w' => ∃ ao m c, e = .returned (.slice ao m c) ∧ Row w' w.heap.size (.slice ao m c) r ∧ Kp [] w w' := by
  have HL := lists2 hS hB hT hC
  have HK := hide ((Kp.refl [] w).alloc (.cells #[v, u] 29))
  have HC := hide (reftagged_any 1 _ _ r (by rw [hr, cat2]; rfl) _ HL (by omega) (by omega) (by simp) (small2 hl hm))
  rw [show (w.alloc (.cells #[v, u] 29)).heap.size = w.heap.size + 1 by simp] at HC
  obtain ⟨ab, cb, hvb, _⟩ := hS
  obtain ⟨nb, hnb⟩ : ∃ n, n = bs.length := ⟨_, rfl⟩
  rw [← hnb] at hvb
  subst hvb
  obtain ⟨ad, cd, hvd, _⟩ := hT
  obtain ⟨nd, hnd⟩ : ∃ n, n = cs.length := ⟨_, rfl⟩
  rw [← hnd] at hvd
  subst hvd
  clear hr hB hl hC hm HL hnb hnd
  go_enter Tryz.func46, Tryz.ntmps46
  go_wp2_with fail
  refine (unhide HC).mono ?_
  rintro ee w2 ⟨ao2, m2, c2, rfl, R2, K2⟩
  have HR2 : Hid (Row w2 w.heap.size (.slice ao2 m2 c2) r) := owns_rebase R2 (fun i hi => by have := Row.own R2 i hi; omega)
  have HK2 := hide ((unhide HK).trans K2)
  clear HC HK R2 K2
  go_wp2_with fail
  go_ret
  exact ⟨ao2, m2, c2, rfl, unhide HR2, unhide HK2⟩
end Go.Proofs.YtillhpgdlmeajabGreatDoor

/-
  The contracts of package ledger: leaves, Root, Entry, Public, KeysLeft, isSize.
-/
namespace Go.Proofs.YtillhpgdlmeajabGreatDoor
open Go.RowKit
open Go.Proofs
set_option linter.unusedVariables false
section
variable {w0 w : World} {l pd pk : Nat} {S : LS} {f : Fps}
set_option maxRecDepth 100000 in
/-- the first n cells of a block may be written. -/
def UFz (w : World) (g n : Nat) : Prop := ∀ k, k < n → w.frozen? ⟨g, k, none⟩ = false
theorem conv_big2 (S : ByteArray) (w : World) (hS : S.size ≤ 9223372036854775807) : ∃ c w', (convert 9 29 (.string S)).run Tryz.prog w = .ok (.slice (some ⟨w.heap.size, 0, none⟩) S.size c) w' ∧ Sl w' (.slice (some ⟨w.heap.size, 0, none⟩) S.size c) (nums S) ∧ Kp [] w w' ∧ UFz w' w.heap.size S.size := by
  obtain ⟨c, w', h1, h2, h3⟩ := conv_big S w hS
  have h4 := Lib.run_convert_string_bytes (P := Tryz.prog) w 9 29 5 S Tryz.underlying9 Tryz.underlying29 Tryz.underlying5
  rw [h1] at h4
  injection h4 with h5 h6
  refine ⟨c, w', h1, h2, h3, fun k hk => ?_⟩
  subst h6
  have hsz : k < (Lib.bytesCells w 5 S).size := by
    unfold Lib.bytesCells
    have e : S.data.size = S.size := rfl
    simp
    omega
  unfold World.frozen?
  simp only [Lib.bytesWorld_at_new]
  simp; omega
set_option maxRecDepth 100000 in
theorem uentry_ok (h : Lg w0 w l pd pk S f) (i : Nat) (hi : i < S.its.length) (x : List Int) (hx : x = S.its[i]) : Calls Tryz.prog 20 #[.pointer (some ⟨l, 0, none⟩), .int .i64 i] w fun e w' => ∃ c, e = .returned (.tuple #[.slice (some ⟨w.heap.size, 0, none⟩) x.length c, .bool true]) ∧ Sl w' (.slice (some ⟨w.heap.size, 0, none⟩) x.length c) x ∧ Kp [] w w' ∧ UFz w' w.heap.size x.length := by
  have HZ := hide (usize_any h _ rfl)
  obtain ⟨j, s, q, vs, pv, hg⟩ := h
  obtain ⟨v2, b2, hSc, hRU, -⟩ := hg.sh.ex
  obtain ⟨a2, c2, rfl⟩ := hRU.shape
  have hc1 := hg.at_.c1
  have hc0 := hSc.c0
  obtain ⟨g, rfl, hc⟩ := hRU.at i hi
  obtain ⟨hBx, hlx⟩ := hg.sh.bs _ (List.getElem_mem hi)
  rw [← hx] at hc hBx hlx
  obtain ⟨c5, w5, hcv, S5, K5, Z5⟩ := conv_big2 (strOfNums x) w (by rw [str_size]; omega)
  rw [nums_str x hBx] at S5
  rw [str_size] at hcv S5 Z5
  have HS5 := hide S5
  have HK5 := hide K5
  have HZ5 := hide Z5
  obtain ⟨n, hn⟩ : ∃ n, n = S.its.length := ⟨_, rfl⟩
  rw [← hn] at HZ hi hc0
  have h0 : ¬ (i : Int) < 0 := by omega
  have hd : decide ((i : Int) < 0) = false := decide_eq_false h0
  have h1 : ¬ (n : Int) ≤ (i : Int) := by omega
  have h2 : (i : Int) < (n : Int) := by omega
  have hd1 : decide ((n : Int) ≤ (i : Int)) = false := decide_eq_false h1
  obtain ⟨nx, hnx⟩ : ∃ n, n = x.length := ⟨_, rfl⟩
  rw [← hnx] at hcv HS5 HZ5 ⊢
  clear hn hg hSc hRU S5 K5 Z5 hx hnx
  go_enter Tryz.func20, Tryz.ntmps20
  go_wp2_with fail
  refine HZ.out.mono ?_
  rintro ee w1 ⟨rfl, hw⟩
  subst w1
  clear HZ
  go_wp2_with fail
  go_ret2
  exact ⟨c5, rfl, HS5.out, HK5.out, HZ5.out⟩
end
end Go.Proofs.YtillhpgdlmeajabGreatDoor

/-
  The contracts of package ledger: Find, signNow, Publish, Last.
-/
namespace Go.Proofs.YtillhpgdlmeajabGreatDoor
open Go.RowKit
open Go.Proofs
open Go.Proofs.YtillhpgdlmeajabGreatDoor.umix
set_option linter.unusedVariables false
section
variable {w0 w : World} {l pd pk : Nat} {S : LS} {f : Fps}
set_option maxRecDepth 100000 in
set_option maxHeartbeats 4000000 in
theorem ulast_some (h : Lg w0 w l pd pk S f) (a1 a2 : Nat) (hla : S.la = some (a1, a2)) : Calls Tryz.prog 24 #[.pointer (some ⟨l, 0, none⟩)] w fun e w' => ∃ v, e = .returned (.tuple #[v, .bool true]) ∧ SgU w.heap.size w' v (sgU S.seed S.its (a1, a2)) ∧ Kp [] w w' := by
  obtain ⟨j, s, q, vs, pv, hx⟩ := h
  have hla2 := hx.la
  rw [hla] at hla2
  obtain ⟨hle, ha16, tt, vr, vp, vq, rfl, hFt, hFv, hSF⟩ := hla2
  obtain ⟨ar, mr, cr, ap, np, cp, aq, nq, cq, e2, -, -⟩ := hSF.v.shape
  simp only [Value.agg.injEq, Array.mk.injEq, List.cons.injEq, and_true] at e2
  obtain ⟨-, rfl, -, rfl, rfl⟩ := e2
  obtain ⟨g0, hg⟩ : ∃ g, g = w.heap.size := ⟨_, rfl⟩
  obtain ⟨w1, hw1⟩ : ∃ w1, w1 = w.alloc (.cells #[.int .i64 0, .slice none 0 0, .int .i64 0, .slice none 0 0, .slice none 0 0] 54) := ⟨_, rfl⟩
  have K1 : Kp [] w w1 := by rw [hw1]; exact (Kp.refl [] w).alloc _
  have G0 : w1.heap[g0]? = some (.cells #[.int .i64 0, .slice none 0 0, .int .i64 0, .slice none 0 0, .slice none 0 0] 54 (0, 0)) := by rw [hw1, hg]; exact heap_alloc_new w _
  have hX := hx.on K1
  have hFv5 := hFv.kept K1 (by simp)
  have hV5 := (hSF.kept K1 (by simp)).v
  have hsm := sgU_small S.seed S.its (a1, a2) ha16
  have HK1 := hide K1
  have HGe := hide hg
  have HW1 := hide hw1
  clear hx hla hFv hSF hle hFt K1 hg hw1
  go_enter Tryz.func24, Tryz.ntmps24
  have x0 : (w.alloc (.cells #[.int .i64 0, .slice none 0 0, .int .i64 0, .slice none 0 0, .slice none 0 0] 54)).cell? ⟨tt, 0, none⟩ = some (.int .i64 (a1 : Int)) := by rw [← HW1.out]; exact hFv5.c0
  have x1 : (w.alloc (.cells #[.int .i64 0, .slice none 0 0, .int .i64 0, .slice none 0 0, .slice none 0 0] 54)).cell? ⟨tt, 1, none⟩ = some (.slice ar mr cr) := by rw [← HW1.out]; exact hFv5.c1
  have x2 : (w.alloc (.cells #[.int .i64 0, .slice none 0 0, .int .i64 0, .slice none 0 0, .slice none 0 0] 54)).cell? ⟨tt, 2, none⟩ = some (.int .i64 (a2 : Int)) := by rw [← HW1.out]; exact hFv5.c2
  have x3 : (w.alloc (.cells #[.int .i64 0, .slice none 0 0, .int .i64 0, .slice none 0 0, .slice none 0 0] 54)).cell? ⟨tt, 3, none⟩ = some (.slice ap np cp) := by rw [← HW1.out]; exact hFv5.c3
  have x4 : (w.alloc (.cells #[.int .i64 0, .slice none 0 0, .int .i64 0, .slice none 0 0, .slice none 0 0] 54)).cell? ⟨tt, 4, none⟩ = some (.slice aq nq cq) := by rw [← HW1.out]; exact hFv5.c4
  have y4 : (w.alloc (.cells #[.int .i64 0, .slice none 0 0, .int .i64 0, .slice none 0 0, .slice none 0 0] 54)).cell? ⟨l, 4, none⟩ = some (.pointer (some ⟨tt, 0, none⟩)) := by rw [← HW1.out]; exact hX.at_.c4
  have HC := hide (ucopy_any (.agg #[.int .i64 (a1 : Int), .slice ar mr cr, .int .i64 (a2 : Int), .slice ap np cp, .slice aq nq cq]) _ w1 hV5 hsm)
  have HG0 := hide G0
  have hg0 : g0 < w1.heap.size := lt_of_block G0
  have HX5 := hide hX
  clear hV5 hsm G0 hFv5 hX
  go_wp2_with fail
  rw [← HW1.out, ← HGe.out]
  refine HC.out.mono ?_
  rintro ee w5 ⟨v5, rfl, A5, K5⟩
  obtain ⟨br, kr, dr, bp, kp, dp, bq', kq, dq, rfl, -, -⟩ := A5.v.shape
  have G5 := K5.heap HG0.out (by simp)
  have HA5 := hide A5
  have HK5 := hide K5
  clear HC A5 K5 x0 x1 x2 x3 x4 y4
  go_wp2_with (refine wpList_store_flat rfl 54 (.tmp 2) (.tmp 16) rfl g0 0 rfl _ _ [.int .i64 _, .slice br kr dr, .int .i64 _, .slice bp kp dp, .slice bq' kq dq] G5 rfl (by simp) Tryz.sgdSize (by simp [Value.oneCell']) #[.int .i64 _, .slice br kr dr, .int .i64 _, .slice bp kp dp, .slice bq' kq dq] rfl ?_; intro w6 G6 K6)
  refine bodyPost_ret (results_flat2 rfl _ rfl G6 Tryz.underlying54 rfl Tryz.sgdSize) rfl ?_
  have hA6 := HA5.out.kept (S := [g0]) (by simpa using hg0) K6
  exact ⟨_, rfl, hA6.low HK1.out.size, (HK1.out.trans HK5.out).then K6 (fun i hi => .inr (by simp at hi; have := HGe.out; omega))⟩
end
end Go.Proofs.YtillhpgdlmeajabGreatDoor

/-
  The laws of ledger: the reference's Batch, items.
-/
namespace Go.Proofs.YtillhpgdlmeajabGreatDoor
open Go.RowKit
open Go.Proofs
set_option linter.unusedVariables false
theorem rowsQ_nil (w : World) (base : Nat) : RowsQ w base (.slice none 0 0) [] := ⟨⟨World.ownsRow_nil _ _ _ _, by simp⟩, by simp⟩
end Go.Proofs.YtillhpgdlmeajabGreatDoor

/-
  A ledger's disks, asked while it is open; two disks whatever they are.
-/
namespace Go.Proofs.YtillhpgdlmeajabGreatDoor
open Go.RowKit
open Go.Proofs
set_option linter.unusedVariables false
section
variable {w0 w : World} {l pd pk : Nat} {S : LS} {f : Fps}
end
/-- one new item. -/
theorem one_ns {l : List (List Int)} {x : List Int} (h : x ∉ l) : newU l [x] = [x] ∧ allU l [x] = l ++ [x] ∧ nsU l [x] = [(l.length : Int)] := by
  have e : allU l [x] = l ++ [x] := insU_new h
  refine ⟨by unfold newU; rw [e]; simp, e, ?_⟩
  unfold nsU numU
  rw [e]
  simp [idx_post h]
end Go.Proofs.YtillhpgdlmeajabGreatDoor

/-
  Arguments of the laws of ledger: slices of slices of numbers; rows of slices that lie aside.
-/
namespace Go.Proofs.YtillhpgdlmeajabGreatDoor
open Go.RowKit
open Go.Proofs
open Go.Deep Go.ChangeShapes Go.WideShapes
set_option linter.unusedVariables false
section
variable {H : Type} {enc : TypeId × Value → H} {w : World}
end
theorem RowsQ.aside {w w' : World} {base : Nat} {v : Value} {l : List (Value × List Int)} {S : List Nat} (h : RowsQ w base v l) (k : Kp S w w') (h1 : ∀ i, v.ownBlock = some i → i ∉ S) (h2 : ∀ x ∈ l, ∀ i, x.1.ownBlock = some i → i ∉ S) : RowsQ w' base v l :=
  ⟨⟨h.1.1.kept k h1, fun x hx => ⟨(h.1.2 x hx).1.kept k (h2 x hx), (h.1.2 x hx).2⟩⟩, h.2⟩
theorem RowV.at {w : World} {base m c : Nat} {ao : Option Addr} {l : List Value} (h : RowV w base (.slice ao m c) l) (i : Nat) (hi : i < l.length) : ∃ g, ao = some ⟨g, 0, none⟩ ∧ w.cell? ⟨g, i, none⟩ = some l[i] := by
  rcases h.2 with ⟨e, h0⟩ | ⟨g, cap, cur, e, _⟩
  · omega
  · injection e with e1 e2 e3
    subst e1
    have := h.cells (g := g) rfl i l[i] (by simp [List.getElem?_eq_getElem hi])
    exact ⟨g, rfl, by simpa [Addr.add_lit] using this⟩
/-- a row of slices that lies beside the blocks F. -/
structure Al (w0 w : World) (F : Nat → Prop) (v : Value) (la : List (Value × List Int)) : Prop where
  row : RowsQ w w0.heap.size v la
  own : ∀ k, v.ownBlock = some k → k < w.heap.size ∧ ¬ F k
  its : ∀ x ∈ la, ∀ k, x.1.ownBlock = some k → k < w.heap.size ∧ ¬ F k
section
variable {w0 w w' : World} {F F' : Nat → Prop} {v v' : Value} {la : List (Value × List Int)}
theorem al_nil (w0 w : World) (F : Nat → Prop) : Al w0 w F (.slice none 0 0) [] := ⟨rowsQ_nil _ _, (fun k hk => by cases hk), (fun x hx => by cases hx)⟩
theorem Al.step (h : Al w0 w F v la) (t : Stp F w w' F') : Al w0 w' F' v la := by
  obtain ⟨S, hS, k⟩ := t.kp
  exact ⟨h.row.aside k (fun i hi hm => (h.own i hi).2 (hS i hm)) (fun x hx i hi hm => (h.its x hx i hi).2 (hS i hm)), fun i hi => ⟨Nat.lt_of_lt_of_le (h.own i hi).1 k.size, t.off (h.own i hi).1 (h.own i hi).2⟩, fun x hx i hi => ⟨Nat.lt_of_lt_of_le (h.its x hx i hi).1 k.size, t.off (h.its x hx i hi).1 (h.its x hx i hi).2⟩⟩
theorem Al.on (h : Al w0 w F v la) (k : Kp [] w w') : Al w0 w' F v la := h.step (Stp.mid k)
/-- one more. -/
theorem Al.put {x : Value × List Int} (h : Al w0 w F v la) (hF : ∀ i, F i → i < w.heap.size) (r : RowsQ w' w0.heap.size v' (la ++ [x])) (s : RStep w v w' v') (hx : ∀ k, x.1.ownBlock = some k → k < w.heap.size ∧ ¬ F k) : Al w0 w' F v' (la ++ [x]) := by
  have hs := s.1.size
  refine ⟨r, fun k hk => ⟨r.1.1.lt hk, ?_⟩, fun y hy k hk => ?_⟩
  · rcases s.2 k hk with h1 | h1
    · exact (h.own k h1).2
    · exact fun e => by have := hF k e; omega
  · rcases List.mem_append.1 hy with hy | hy
    · exact ⟨by have := (h.its y hy k hk).1; omega, (h.its y hy k hk).2⟩
    · obtain rfl : y = x := by simpa using hy
      exact ⟨by have := (hx k hk).1; omega, (hx k hk).2⟩
end
/-- a row of slices whose blocks lie between lo and hi. -/
structure Xs (w : World) (lo hi : Nat) (v : Value) (l : List (Value × List Int)) : Prop where
  row : RowsQ w lo v l
  own : ∀ k, v.ownBlock = some k → k < hi
  its : ∀ x ∈ l, ∀ k, x.1.ownBlock = some k → k < hi
theorem Xs.kept {w w' : World} {lo hi : Nat} {v : Value} {l : List (Value × List Int)} {S : List Nat} (h : Xs w lo hi v l) (k : Kp S w w') (hS : ∀ i ∈ S, i < lo ∨ hi ≤ i) : Xs w' lo hi v l :=
  ⟨h.row.aside k (fun i e hm => by have := h.own i e; have := h.row.1.1.own i e; have := hS i hm; omega) (fun x hx i e hm => by have := h.its x hx i e; have := h.row.2 x hx i e; have := hS i hm; omega), h.own, h.its⟩
/-- append of a slice that lies anywhere else. -/
theorem wpList_rowsR {base : Nat} {w2 : World} {ops : Array Oper} {rest : List Oper} {o : Oper} {a : Act} {Q : Exit → Act → World → Prop} (hgd : o.guard = none) (s x : Operand)
    (ho : o.op = .call { callee := .builtin .append, args := #[s, x], argTypes := #[31, 31] }) (v : Value) (l : List (Value × List Int)) (hs : a.eval s = v) (hP : RowsQ w2 base v l) (hbase : base ≤ w2.heap.size) (hl : l.length ≤ 1000000)
    (vx : Value) (bs : List Int) (hr : Sl w2 vx bs) (hap : ∀ i, vx.ownBlock = some i → v.ownBlock ≠ some i) (hnb : ∀ i, vx.ownBlock = some i → base ≤ i) (hb : Bs bs) (hx : a.eval x = .slice (some ⟨w2.heap.size, 0, none⟩) 1 1)
    (h : ∀ ao m c w', m = l.length + 1 → RowsQ w' base (.slice ao m c) (l ++ [(vx, bs)]) → RStep w2 v w' (.slice ao m c) → wpList Tryz.prog ops Q rest (a.put o.dst (.slice ao m c)) w') : wpList Tryz.prog ops Q (o :: rest) a (w2.alloc (.cells #[vx] 29)) := by
  have k2 : Kp [] w2 (w2.alloc (.cells #[vx] 29)) := (Kp.refl [] w2).alloc _
  have hP2 := hP.1.kept k2
  obtain ⟨ax, cx, hvx, -⟩ := id hr
  refine wpList_append_rowv hgd s x ho base v (l.map (·.1)) hs hP2.1 ⟨w2.heap.size, 0, none⟩ 1 [vx] hx ?_ ?_ ?_ ?_ ?_
  · intro j u hu
    exact World.news_of_block (heap_alloc_new w2 _) j u (by simpa using hu)
  · simp [hvx, Value.oneCell']
  · simp; omega
  · simp; omega
  · intro ao m c w' r st
    have hml := r.len
    refine h ao m c w' (by rw [hml]; simp) ⟨hP2.snocJ (x := (vx, bs)) (hr.kept k2 (by simp)) hb (fun i h1 h2 => absurd h2 (hap i h1)) r st, fun y hy => ?_⟩ ⟨(k2.mono (by simp)).trans st.1, fun k hk => (st.2 k hk).imp id (fun h => Nat.le_trans k2.size h)⟩
    · rcases List.mem_append.1 hy with hy | hy
      · exact hP.2 y hy
      · obtain rfl : y = (vx, bs) := by simpa using hy
        exact hnb
end Go.Proofs.YtillhpgdlmeajabGreatDoor

/-
  Slices of bytes that a law writes into.
-/
namespace Go.Proofs.YtillhpgdlmeajabGreatDoor
open Go.RowKit
open Go.Proofs
set_option linter.unusedVariables false
/-- n bytes that may be written. -/
def Mu (w : World) (g o n : Nat) : Prop := ∀ i, i < n → (∃ u, w.cell? ⟨g, o + i, none⟩ = some (.int .u8 u)) ∧ w.frozen? ⟨g, o + i, none⟩ = false
theorem Mu.set {w : World} {g o n : Nat} (h : Mu w g o n) (k : Nat) (x : Int) : Mu (w.setCell ⟨g, o + k, none⟩ (.int .u8 x)) g o n := fun i hi => by
  refine ⟨?_, (World.frozen?_setCell _ _ _ _).trans (h i hi).2⟩
  obtain ⟨u, hu⟩ := (h i hi).1
  by_cases e : i = k
  · subst e; exact ⟨x, cell_setCell_same hu⟩
  · exact ⟨u, by rw [cell_setCell_ne rfl (fun e' => e (by injection e' with _ e2; omega)) rfl]; exact hu⟩
theorem Mu.set0 {w : World} {g n : Nat} (h : Mu w g 0 n) (k : Nat) (x : Int) : Mu (w.setCell ⟨g, k, none⟩ (.int .u8 x)) g 0 n := by
  have := h.set k x
  rwa [Nat.zero_add] at this
theorem Mu.at0 {w : World} {g n : Nat} (h : Mu w g 0 n) (i : Nat) (hi : i < n) : (∃ u, w.cell? ⟨g, i, none⟩ = some (.int .u8 u)) ∧ w.frozen? ⟨g, i, none⟩ = false := by
  have := h i hi
  rwa [Nat.zero_add] at this
theorem Mu.kept {w w' : World} {g o n : Nat} {S : List Nat} (h : Mu w g o n) (k : Kp S w w') (hg : g ∉ S) : Mu w' g o n := fun i hi => by
  obtain ⟨⟨u, hu⟩, hf⟩ := h i hi
  exact ⟨⟨u, k.cell hu hg⟩, frz_kept k (World.block_lt_of_cell? _ _ hu) hg hf⟩
theorem Row.mu {w : World} {base g n c : Nat} {bs : List Int} (h : Row w base (.slice (some ⟨g, 0, none⟩) n c) bs) : Mu w g 0 n := fun i hi => by
  have hn := h.len
  obtain ⟨g', e, _, _, hc, hf, _⟩ := h.spot (by omega)
  cases e
  rw [Nat.zero_add]
  exact ⟨⟨_, hc i (by omega)⟩, hf i⟩
theorem Sl.mu {w : World} {g o n c : Nat} {bs : List Int} (h : Sl w (.slice (some ⟨g, o, none⟩) n c) bs) (hf : ∀ k, k < n → w.frozen? ⟨g, o + k, none⟩ = false) : Mu w g o n := fun i hi => by
  obtain ⟨ao, c', e, _, _, _, h4⟩ := h
  injection e with e1 e2 e3
  have := h4 ⟨g, o, none⟩ e1.symm i (.int .u8 (bs[i]'(by omega))) (by simp [List.getElem?_eq_getElem (show i < bs.length by omega)])
  rw [Addr.add_lit] at this
  exact ⟨⟨_, this⟩, hf i hi⟩
theorem row_lit (w : World) (cs : List Int) (hm : cs.length ≤ 1000) : Row (w.alloc (.cells (cs.map (Value.int .u8)).toArray 5)) w.heap.size (.slice (some ⟨w.heap.size, 0, none⟩) cs.length cs.length) cs := by
  refine ⟨by simp, .inr ⟨w.heap.size, cs.length, (cs.map (Value.int .u8)).toArray, rfl, Nat.le_refl _, heap_alloc_new w _, Nat.le_refl _, by unfold maxLen; omega, by simp, by simp [List.take_of_length_le]⟩⟩
theorem Al.aside {w0 w w' : World} {F : Nat → Prop} {v : Value} {la : List (Value × List Int)} {S : List Nat} (h : Al w0 w F v la) (k : Kp S w w') (h1 : ∀ i, v.ownBlock = some i → i ∉ S) (h2 : ∀ x ∈ la, ∀ i, x.1.ownBlock = some i → i ∉ S) : Al w0 w' F v la :=
  ⟨h.row.aside k h1 h2, fun i hi => ⟨Nat.lt_of_lt_of_le (h.own i hi).1 k.size, (h.own i hi).2⟩, fun x hx i hi => ⟨Nat.lt_of_lt_of_le (h.its x hx i hi).1 k.size, (h.its x hx i hi).2⟩⟩
end Go.Proofs.YtillhpgdlmeajabGreatDoor

/-
  The contract of the reference's Split.
-/
namespace Go.Proofs.YtillhpgdlmeajabGreatDoor
open Go.RowKit
set_option maxHeartbeats 1000000 in
set_option maxRecDepth 100000 in
theorem rsplit_any (n : Int) (k : Nat) (w : World) (hk : k = tsplP n.toNat) (hn : -9223372036854775808 ≤ n ∧ n ≤ 9223372036854775807) :
    Calls Tryz.prog 45 #[.int .i64 n] w fun e w' => e = .returned (.int .i64 k) ∧ w' = w := by
  by_cases h2 : n < 2
  · rw [tsplP_small (by omega)] at hk
    subst hk
    go_enter Tryz.func45, Tryz.ntmps45
    go_wp2_with fail
    go_ret
    exact ⟨rfl, rfl⟩
  · have HK := hide hk
    clear hk
    go_enter Tryz.func45, Tryz.ntmps45
    go_wp2_with fail
    go_loopw [3] (fun v wr => ∃ (j q : Nat), q = 2 ^ j ∧ (q : Int) < n ∧ v = .int .i64 q ∧ wr = w) (fun v _ => n.toNat - (intOf v).toNat)
    case atStart => exact ⟨0, 1, rfl, by omega, rfl, rfl⟩
    case round =>
      obtain ⟨j, q, hq, hqn, rfl, hw⟩ := hrel
      subst wr
      have hq1 : 1 ≤ q := by rw [hq]; exact Nat.one_le_two_pow
      have HQ := hide hq
      clear hq
      by_cases hc : (q : Int) < n - q
      · go_wp2_with fail
        go_roundw
        case rel => exact ⟨j + 1, 2 * q, by rw [Nat.pow_succ, ← unhide HQ]; omega, by omega, by go_num, trivial⟩
        case measure => simp [intOf]; omega
      · go_wp2_with fail
        go_ret
        refine ⟨?_, rfl⟩
        have e : tsplP n.toNat = q := by rw [unhide HQ]; exact tsplP_of (by rw [← unhide HQ]; omega) (by rw [← unhide HQ]; omega)
        rw [unhide HK, e]
        rfl
end Go.Proofs.YtillhpgdlmeajabGreatDoor

/-
  The contracts of the reference's Root and Leaves.
-/
namespace Go.Proofs.YtillhpgdlmeajabGreatDoor
open Go.RowKit
open Go.Proofs
/-- u is the one slice of the list v. -/
def AtOne (v u : Value) (w : World) : Prop := ∃ b off c, v = .slice (some ⟨b, off, none⟩) 1 c ∧ w.cell? ⟨b, off, none⟩ = some u
set_option maxRecDepth 100000 in
set_option maxHeartbeats 2000000 in
theorem rroot_row (n : Nat) : ∀ (v : Value) (ls : List (List Int)) (r : List Int) (w : World), r = trootP ls → ls.length = n → n ≤ 100000 → LcM ls v w → (∀ x ∈ ls, x.length ≤ 1000) →
    Calls Tryz.prog 22 #[v] w fun e w' => ∃ ao m c, e = .returned (.slice ao m c) ∧ (Row w' w.heap.size (.slice ao m c) r ∨ AtOne v (.slice ao m c) w) ∧ Sl w' (.slice ao m c) r ∧ Kp [] w w' := by
  induction n using Nat.strongRecOn with
  | ind n ih =>
    intro v ls r w hr hlen hn hL hm
    have hbs := hL.bs
    obtain ⟨ao, c, e, h1, h2, h3⟩ := hL.shape
    rw [hlen] at e h1
    subst e
    rcases (by omega : n = 0 ∨ n = 1 ∨ 2 ≤ n) with rfl | rfl | h2n
    · have e : ls = [] := List.eq_nil_of_length_eq_zero hlen
      rw [e, trootP_nil] at hr
      have HC := hide (refsum_at (.slice none 0 0) [] r hr w (Sl.nil w) (fun b hb => by cases hb) (by simp))
      clear hbs hm hL hr e ih h1 h3 hlen
      go_enter Tryz.func22, Tryz.ntmps22
      go_wp2_with fail
      refine (unhide HC).mono ?_
      rintro ee w2 ⟨ao2, m2, c2, rfl, R2, K2⟩
      have HR2 := hide R2
      have HK2 := hide K2
      clear R2 K2 HC
      go_wp2_with fail
      go_ret
      exact ⟨ao2, m2, c2, rfl, .inl (unhide HR2), (unhide HR2).sl, unhide HK2⟩
    · obtain ⟨x, rfl⟩ : ∃ x, ls = [x] := by
        match ls, hlen with
        | [x], _ => exact ⟨x, rfl⟩
      rw [trootP_one] at hr
      subst hr
      obtain ⟨-, b, off, u, rfl, hc, hS, -⟩ := hL.at 0 r rfl
      have HS := hide hS
      obtain ⟨ax, cx, hux, _⟩ := hS
      obtain ⟨nx, hnx⟩ : ∃ nx, nx = r.length := ⟨_, rfl⟩
      rw [← hnx] at hux
      subst hux
      rw [Nat.add_zero] at hc
      have HAT : Hid (AtOne (.slice (some ⟨b, off, none⟩) 1 c) (.slice ax nx cx) w) := ⟨b, off, c, rfl, hc⟩
      clear hbs hm hL ih h1 h3 hlen hnx
      go_enter Tryz.func22, Tryz.ntmps22
      go_wp2_with fail
      go_ret
      exact ⟨_, _, _, rfl, .inr (unhide HAT), unhide HS, Kp.refl _ _⟩
    · obtain ⟨k, hk⟩ : ∃ k, k = tsplP n := ⟨_, rfl⟩
      have hk1 : 1 ≤ k := by rw [hk]; exact tsplP_pos h2n
      have hk2 : k < n := by rw [hk]; exact tsplP_lt h2n
      rw [trootP_more (by omega), hlen, ← hk] at hr
      obtain ⟨ra, hra⟩ : ∃ r, r = trootP (ls.take k) := ⟨_, rfl⟩
      obtain ⟨rb, hrb⟩ : ∃ r, r = trootP (ls.drop k) := ⟨_, rfl⟩
      rw [← hra, ← hrb] at hr
      have HR := hide hr
      have HA := hide (fun v w hL => ih k hk2 v (ls.take k) ra w hra (by simp; omega) (by omega) hL (fun x hx => hm x (List.mem_of_mem_take hx)))
      have HB := hide (fun v w hL => ih (n - k) (by omega) v (ls.drop k) rb w hrb (by simp; omega) (by omega) hL (fun x hx => hm x (List.mem_of_mem_drop hx)))
      have HAb : Hid (Bs ra) := by rw [hra]; exact trootP_bs _ (fun x hx => hbs x (List.mem_of_mem_take hx))
      have HBb : Hid (Bs rb) := by rw [hrb]; exact trootP_bs _ (fun x hx => hbs x (List.mem_of_mem_drop hx))
      have hal : ra.length ≤ 1000 := by rw [hra]; exact trootP_le 1000 (by omega) _ (fun x hx => hm x (List.mem_of_mem_take hx))
      have hbl : rb.length ≤ 1000 := by rw [hrb]; exact trootP_le 1000 (by omega) _ (fun x hx => hm x (List.mem_of_mem_drop hx))
      have HC := hide (rsplit_any n k w (by rw [Int.toNat_natCast]; exact hk) (by omega))
      have HKL : Hid (k ≤ ls.length) := hide (by omega)
      have HLL : Hid (∀ w', Kp [] w.drew w' → LcM ls (.slice ao n c) w') := fun w' k' => hL.kept ((kp_drew w).trans k')
      have hn0 : ¬ (n : Int) = 0 := by omega
      have hn1 : ¬ (n : Int) = 1 := by omega
      clear hbs hm hL ih h1 h3 hlen hr hra hrb hk
      go_enter Tryz.func22, Tryz.ntmps22
      go_wp2_with fail
      refine (unhide HC).mono ?_
      rintro ee w2 ⟨rfl, hw⟩
      subst w2
      clear HC hn0 hn1
      go_wp2_with fail
      obtain ⟨B, hB⟩ : ∃ B, B = w.heap.size := ⟨_, rfl⟩
      have HBW : Hid (∀ w', Kp [] w.drew w' → B ≤ w'.heap.size) := fun w' k' => by rw [hB]; exact k'.size
      have HBB := hide hB
      clear hB
      refine region_grow Tryz.mixed [Is (.slice ao n c), Is (.int .i64 k), LcM ((ls).take k), SlT (ra), Is (.slice ao n c), Is (.int .i64 k), LcM ((ls).drop k), SlT (rb), RwT B r, RwT B r] [[(0, none)], [(3, none)], [(17, some 0), (18, some 1)], [(19, some 2)], [(0, none)], [(3, none)], [(21, some 4), (22, some 5)], [(23, some 6)], [(20, some 3), (24, some 7)], [(25, some 8)]] (by kernel_rfl) ?_ ?_ ?_
      · simp only [List.mem_cons, List.not_mem_nil, or_false]
        intro R hR
        rcases hR with rfl | rfl | rfl | rfl | rfl | rfl | rfl | rfl | rfl | rfl <;> first | exact stable_is _ | exact stable_lcm _ | exact stable_sl _ | exact stable_rw _ _
      · refine steps_cons (fun a w hk hn => ?_) ?_
        · have h0 : a.eval (.tmp 0) = .slice ao n c := hn.1
          clear hn
          refine wants_plain rfl ?_
          exact grown_move (.tmp 0) rfl h0
        refine steps_cons (fun a w hk hn => ?_) ?_
        · have h3 : a.eval (.tmp 3) = .int .i64 k := hn.1
          clear hn
          refine wants_plain rfl ?_
          exact grown_move (.tmp 3) rfl h3
        refine steps_cons (fun a w hk hn => ?_) ?_
        · have h17 : a.eval (.tmp 17) = .slice ao n c := hn.1
          have h18 : a.eval (.tmp 18) = .int .i64 k := hn.2.1
          clear hn
          refine wants_plain rfl ?_
          exact grown_lhead (.tmp 17) (.tmp 18) (ls) k rfl (by rw [h17]; exact unhide HLL w hk) h18 (unhide HKL)
        refine steps_cons (fun a w hk hn => ?_) ?_
        · have h19 : (LcM ((ls).take k)) (a.eval (.tmp 19)) w := hn.1
          clear hn
          refine wants_plain rfl ?_
          refine grown_call (f := 22) rfl Tryz.func22 (by kernel_rfl) (by kernel_rfl) ?_
          simp only [List.map_toArray, List.map_cons, List.map_nil]
          refine (unhide HA _ w h19).mono ?_
          rintro e w' ⟨ao, m, c, rfl, -, R, K⟩
          exact ⟨_, rfl, K, R⟩
        refine steps_cons (fun a w hk hn => ?_) ?_
        · have h0 : a.eval (.tmp 0) = .slice ao n c := hn.1
          clear hn
          refine wants_plain rfl ?_
          exact grown_move (.tmp 0) rfl h0
        refine steps_cons (fun a w hk hn => ?_) ?_
        · have h3 : a.eval (.tmp 3) = .int .i64 k := hn.1
          clear hn
          refine wants_plain rfl ?_
          exact grown_move (.tmp 3) rfl h3
        refine steps_cons (fun a w hk hn => ?_) ?_
        · have h21 : a.eval (.tmp 21) = .slice ao n c := hn.1
          have h22 : a.eval (.tmp 22) = .int .i64 k := hn.2.1
          clear hn
          refine wants_plain rfl ?_
          exact grown_lfrom (.tmp 21) (.tmp 22) (ls) k rfl (by rw [h21]; exact unhide HLL w hk) h22 (unhide HKL)
        refine steps_cons (fun a w hk hn => ?_) ?_
        · have h23 : (LcM ((ls).drop k)) (a.eval (.tmp 23)) w := hn.1
          clear hn
          refine wants_plain rfl ?_
          refine grown_call (f := 22) rfl Tryz.func22 (by kernel_rfl) (by kernel_rfl) ?_
          simp only [List.map_toArray, List.map_cons, List.map_nil]
          refine (unhide HB _ w h23).mono ?_
          rintro e w' ⟨ao, m, c, rfl, -, R, K⟩
          exact ⟨_, rfl, K, R⟩
        refine steps_cons (fun a w hk hn => ?_) ?_
        · have h20 : Sl w (a.eval (.tmp 20)) (ra) := hn.1
          have h24 : Sl w (a.eval (.tmp 24)) (rb) := hn.2.1
          clear hn
          refine wants_plain rfl ?_
          refine grown_call (f := 46) rfl Tryz.func46 (by kernel_rfl) (by kernel_rfl) ?_
          simp only [List.map_toArray, List.map_cons, List.map_nil]
          refine (rnode_any _ _ ra rb r (unhide HR) w h20 (unhide HAb) (by omega) h24 (unhide HBb) (by omega)).mono ?_
          rintro e w' ⟨ao, m, c, rfl, R, K⟩
          exact ⟨_, rfl, K, ⟨ao, m, c, rfl, owns_rebase R (fun i hi => Nat.le_trans (unhide HBW w hk) (Row.own R i hi))⟩⟩
        refine steps_cons (fun a w hk hn => ?_) ?_
        · have h25 : (RwT B r) (a.eval (.tmp 25)) w := hn.1
          clear hn
          refine wants_plain rfl ?_
          exact grown_assign (.tmp 25) rfl h25
        exact trivial
      intro W1 hkW1
      rintro _ rfl
      rintro _ rfl
      intro v19 h19
      intro v20 h20
      rintro _ rfl
      rintro _ rfl
      intro v23 h23
      intro v24 h24
      intro v25 h25
      intro v2 h2
      refine fin_nil ?_
      simp only [Act.put, List.set_cons_zero, List.set_cons_succ, List.setIfInBounds_toArray]
      obtain ⟨ao2, m2, c2, rfl, R2⟩ := h2
      rw [unhide HBB] at R2
      have HR2 := hide R2
      have HK2 := hide ((kp_drew w).trans hkW1)
      clear R2 h25 h24 h23 h20 h19 hkW1
      go_wp2_with fail
      go_ret
      exact ⟨ao2, m2, c2, rfl, .inl (unhide HR2), (unhide HR2).sl, unhide HK2⟩
theorem rroot_any (n : Nat) (v : Value) (ls : List (List Int)) (r : List Int) (w : World) (hr : r = trootP ls) (hl : ls.length = n) (hn : n ≤ 100000) (hL : LcM ls v w) (hm : ∀ x ∈ ls, x.length ≤ 1000) :
    Calls Tryz.prog 22 #[v] w fun e w' => ∃ ao m c, e = .returned (.slice ao m c) ∧ Sl w' (.slice ao m c) r ∧ Kp [] w w' := by
  refine (rroot_row n v ls r w hr hl hn hL hm).mono ?_
  rintro e w' ⟨ao, m, c, rfl, -, R, K⟩
  exact ⟨ao, m, c, rfl, R, K⟩
set_option maxRecDepth 100000 in
set_option maxHeartbeats 2000000 in
theorem rleaves_any (vl : Value) (ls : List (List Int)) (w : World) (hL : LcM ls vl w) (hn : ls.length ≤ 1000) (hm : ∀ x ∈ ls, x.length ≤ 1000) :
    Calls Tryz.prog 23 #[vl] w fun e w' => ∃ ao m c, e = .returned (.slice ao m c) ∧ Acc w (ls.map tleafP) (.slice ao m c) w' := by
  have HL := hide hL
  have HM := hide hm
  obtain ⟨al, cl, e, h1, h2, h3⟩ := hL.shape
  obtain ⟨N, hN⟩ : ∃ N, N = ls.length := ⟨_, rfl⟩
  rw [← hN] at e hn
  subst e
  have HN := hide hN
  have hnn : (N : Int) ≤ 1000 := by omega
  clear hL hm hN h1 h2 h3
  go_enter Tryz.func23, Tryz.ntmps23
  go_wp2_with fail
  go_loopw [3, 4] (fun v i wr => ∃ (k m cc : Nat) (ao : Option Addr), k ≤ N ∧ v = .slice ao m cc ∧ i = .int .i64 k ∧ Acc w ((ls.take k).map tleafP) v wr) (fun _ i _ => N - (intOf i).toNat)
  case atStart => exact ⟨0, 0, 0, none, by omega, rfl, rfl, [], ⟨World.ownsRow_nil _ _ _ _, fun x hx => by cases hx⟩, rfl, Kp.refl _ _⟩
  case round =>
    obtain ⟨k, m, cc, ao, hk, rfl, rfl, Ar⟩ := hrel
    have HA := hide Ar
    clear Ar
    by_cases hlt : k < N
    · have hlt2 : (k : Int) < (N : Int) := by omega
      have hkl : k < ls.length := by have := unhide HN; omega
      have HE : Hid ((ls.take (k + 1)).map tleafP = (ls.take k).map tleafP ++ [tleafP ls[k]]) := hide (by rw [List.take_succ_eq_append_getElem hkl, List.map_append]; rfl)
      have hx := List.getElem?_eq_getElem hkl
      have hml := unhide HM ls[k] (List.getElem_mem hkl)
      have HLN : Hid (((ls.take k).map tleafP).length ≤ 1000000) := hide (by simp; omega)
      obtain ⟨x, hxx⟩ : ∃ x, x = ls[k] := ⟨_, rfl⟩
      rw [← hxx] at HE hx hml
      obtain ⟨-, b, off, u, rfl, hc, hS, hB⟩ := (unhide HL).at k x hx
      have Kr := (unhide HA).kp
      have hcw := Kr.cell hc (by simp)
      have hSw := hS.kept Kr (by simp)
      obtain ⟨ax, cx, hux, _⟩ := hS
      obtain ⟨nx, hnx⟩ : ∃ nx, nx = x.length := ⟨_, rfl⟩
      rw [← hnx] at hux
      subst hux
      obtain ⟨r, hr⟩ : ∃ r, r = tleafP x := ⟨_, rfl⟩
      rw [← hr] at HE
      have HRB : Hid (Bs r) := by rw [hr]; exact sha_bs _
      have HC := hide (rleaf_any _ x r hr wr hSw hB (by omega))
      clear hx hxx hkl hc hSw hB hnx hr Kr
      go_wp2_with fail
      refine (unhide HC).mono ?_
      rintro ee w4 ⟨a4, m4, c4, rfl, R4, K4⟩
      have HR4 := hide R4
      have HK4 := hide K4
      clear R4 K4 HC hcw
      go_wp2_with (at_builtin; refine wpList_acc rfl (.tmp 11) (.tmp 17) rfl _ _ rfl (unhide HA) (unhide HLN) _ r (unhide HK4) (unhide HR4) (unhide HRB) rfl ?_; intro ao5 m5 c5 w5 A5)
      go_roundw
      case rel => exact ⟨k + 1, m5, c5, ao5, by omega, rfl, by go_num, by have e := unhide HE; rw [e]; exact A5⟩
      case measure => simp [intOf]; omega
    · obtain rfl : k = N := by omega
      have e : (ls.take k).map tleafP = ls.map tleafP := by rw [unhide HN, List.take_length]
      rw [e] at HA
      clear e
      go_wp2_with fail
      go_ret
      exact ⟨ao, m, cc, rfl, unhide HA⟩
end Go.Proofs.YtillhpgdlmeajabGreatDoor
