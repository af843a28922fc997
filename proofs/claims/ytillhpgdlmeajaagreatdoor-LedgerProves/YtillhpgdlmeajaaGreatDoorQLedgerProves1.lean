/-
  Helpers of the laws: Cut, Within; how an argument that is a row of bytes is read; what the laid table gives.
-/
import Derived.Below
import Derived.ChangeOld
import Derived.Deep.Slices
import Derived.LaidMore
import Derived.Lib.LaidTab
import Derived.Lib.SmallJoins
import Derived.OpenShut
import Derived.ProofKit
import Derived.ShutString
import Derived.Stop.Joined
import Derived.Test.YtillhpgdlmeajaaGreatDoorRows
import Derived.Test.YtillhpgdlmeajaaGreatDoorQB1
import Derived.Test.YtillhpgdlmeajaaGreatDoorQB2
import Derived.Test.YtillhpgdlmeajaaGreatDoorQB4
import Derived.Test.YtillhpgdlmeajaaGreatDoorQB3
import Derived.Lib.BitFns
import Derived.Test.YtillhpgdlmeajaaGreatDoorQB5
import Derived.Deep.MidRow
import Derived.Laws.ResultCell
import Derived.Laws.Rows
import Derived.ArgAppend
import Derived.Deep.RegionHeld3
import Derived.Deep.Upon
import Derived.Test.YtillhpgdlmeajaaGreatDoorQB6
import Derived.Test.YtillhpgdlmeajaaGreatDoorQB7
namespace Go.Proofs.YtillhpgdlmeajaaGreatDoor
open Go.ChangeShapes Go.WideShapes Go.ChangeAt Go.RowKit
open Go.Deep
section
variable {H : Type} {enc : TypeId × Value → H} {w : World}
end
theorem laidOut : laidOutB Tryz.prog = true := by kernel_rfl
end Go.Proofs.YtillhpgdlmeajaaGreatDoor

/-
  Slices of ints, and rows of slices that a call owns.
-/
namespace Go.Proofs.YtillhpgdlmeajaaGreatDoor
open Go.ChangeShapes Go.WideShapes Go.ChangeAt Go.RowKit
open Go.Deep
section
variable {H : Type} {enc : TypeId × Value → H} {w : World}
theorem ints_of_trod {v : Value} {fuel : Nat} {x : DataW H × List MemPlace} (h : DataW.trod enc Tryz.prog w 0 (fun _ => true) true fuel 35 [v] = some x) : ∃ l, Ints w v l := by
  rcases open_ints Tryz.underlying35 Tryz.underlying3 (by kernel_rfl) h with ⟨hcs, _⟩ | ⟨a, len, cap, zs, hcs, _, hl, hm, hz, _, hcell, hwz⟩
  · simp only [List.cons.injEq, and_true] at hcs
    subst hcs
    exact ⟨[], none, 0, rfl, by simp [maxLen], (fun x hx => by cases hx), fun i hi => by cases hi⟩
  · simp only [List.cons.injEq, and_true] at hcs
    subst hcs
    simp only [if_true] at hz
    have hlen : (zs.take len).length = len := by simp; omega
    refine ⟨zs.take len, some a, cap, by rw [hlen], by omega, fun b hb => bounds_i64 (hwz b (List.mem_of_mem_take hb)), fun i hi => ⟨a, rfl, ?_⟩⟩
    rw [hcell i (by omega)]
    have : i < zs.length := by omega
    simp [List.getD, List.getElem?_eq_getElem this]
end
end Go.Proofs.YtillhpgdlmeajaaGreatDoor

/-
  Chapter 9 as plain functions: which names and manifests may be, a manifest as bytes, bytes as a manifest; that what is written is read, that what is read is written so, that what is cut off or has more behind it is none.
-/
namespace Go.Proofs.YtillhpgdlmeajaaGreatDoor
open Go.RowKit
def d4 (B : List Int) := tk (d3 B).2.1 (d3 B).2.2 32
end Go.Proofs.YtillhpgdlmeajaaGreatDoor

/-
  The contract of the law package's Lists; lists of slices by their bytes, as what an operation yields.
-/
namespace Go.Proofs.YtillhpgdlmeajaaGreatDoor
open Go.RowKit
open Go.Deep
set_option maxRecDepth 100000 in
set_option maxHeartbeats 1000000 in
theorem lists_any (va vb : Value) (la lb : List (Value × List Int)) (h : la.map (·.2) = lb.map (·.2)) (w : World) (hA : Lists w va la) (hB : Lists w vb lb) :
    Calls Tryz.prog 27 #[va, vb] w fun e w' => e = .returned (.bool true) ∧ Kp [] w w' := by
  have hlen : lb.length = la.length := by have := congrArg List.length h; simpa using this.symm
  have H := hide h
  obtain ⟨aa, ca, rfl, hla, hca⟩ := hA
  obtain ⟨ab, cb, rfl, hlb, hcb⟩ := hB
  have HA := hide hca
  have HB := hide hcb
  have HLE := hide hlen
  rw [hlen]
  obtain ⟨N, hN⟩ : ∃ N, N = la.length := ⟨_, rfl⟩
  have HN := hide hN
  rw [← hN] at hla ⊢
  have hNi : (N : Int) ≤ 9223372036854775807 := by omega
  clear h hca hcb hlen hlb hN
  go_enter Tryz.func27, Tryz.ntmps27
  go_wp2_with fail
  go_loopw [5] (fun i wr => ∃ k : Nat, k ≤ N ∧ i = .int .i64 k ∧ Kp [] w wr) (fun i _ => N - (intOf i).toNat)
  case atStart => exact ⟨0, by omega, rfl, Kp.refl _ _⟩
  case round =>
    obtain ⟨k, hk, rfl, Kr⟩ := hrel
    have HKr := hide Kr
    clear Kr
    by_cases hlt : k < N
    · have hlt2 : (k : Int) < (N : Int) := by omega
      have hka : k < la.length := by have := unhide HN; omega
      have hkb : k < lb.length := by have := unhide HLE; omega
      obtain ⟨b1, o1, rfl, hc1, hS1, _⟩ := unhide HA k hka
      obtain ⟨b2, o2, rfl, hc2, hS2, _⟩ := unhide HB k hkb
      have hxy : la[k].2 = lb[k].2 := by
        have h1 : (la.map (·.2))[k]? = (lb.map (·.2))[k]? := by rw [unhide H]
        rw [List.getElem?_map, List.getElem?_map, List.getElem?_eq_getElem hka, List.getElem?_eq_getElem hkb] at h1
        exact Option.some.inj h1
      have d1 : wr.drew.cell? ⟨b1, o1 + k, none⟩ = some la[k].1 := ((unhide HKr).trans (kp_drew wr)).cell hc1 (by simp)
      have d2 : wr.drew.cell? ⟨b2, o2 + k, none⟩ = some lb[k].1 := ((unhide HKr).trans (kp_drew wr)).cell hc2 (by simp)
      have v1 := (hS1.kept ((unhide HKr).trans (kp_drew wr)) (by simp)).conv (P := Tryz.prog) 22 9 5 Tryz.underlying22 Tryz.underlying5 Tryz.underlying9
      have v2 := (hS2.kept ((unhide HKr).trans (kp_drew wr)) (by simp)).conv (P := Tryz.prog) 22 9 5 Tryz.underlying22 Tryz.underlying5 Tryz.underlying9
      rw [← hxy] at v2
      obtain ⟨S, hSS⟩ : ∃ S, S = strOfNums la[k].2 := ⟨_, rfl⟩
      rw [← hSS] at v1 v2
      obtain ⟨x1, y1, e1, hj1⟩ := hS1
      obtain ⟨x2, y2, e2, hj2⟩ := hS2
      obtain ⟨n1, hn1⟩ : ∃ n, n = la[k].2.length := ⟨_, rfl⟩
      obtain ⟨n2, hn2⟩ : ∃ n, n = lb[k].2.length := ⟨_, rfl⟩
      rw [← hn1] at e1
      rw [← hn2] at e2
      rw [e1] at d1 v1
      rw [e2] at d2 v2
      clear hc1 hc2 hxy hSS e1 e2 hj1 hj2 hn1 hn2 HA HB
      go_wp2_with fail
      refine region_read Tryz.mixed (by kernel_rfl) ?_
      repeat (first | go_big_quiet_skip | (go_big_quiet_want; go_big_quiet_op; go_big_quiet_on))
      refine wpQuiet_nil ?_
      go_wp2_with fail
      go_roundw
      case rel => exact ⟨k + 1, by omega, by go_num, (unhide HKr).trans (kp_drew wr)⟩
      case measure => simp [intOf]; omega
    · obtain rfl : k = N := by omega
      clear HA HB
      go_wp2_with fail
      go_ret
      exact ⟨rfl, unhide HKr⟩
/-- The value is a slice of slices that reads as these bytes. -/
def LsM (ls : List (List Int)) : Tell := fun v w => ∃ l, Lists w v l ∧ l.map (·.2) = ls
theorem lists_lsm {va vb : Value} {ls : List (List Int)} {w : World} (hA : LsM ls va w) (hB : LsM ls vb w) :
    Calls Tryz.prog 27 #[va, vb] w fun e w' => e = .returned (.bool true) ∧ Kp [] w w' := by
  obtain ⟨la, h1, e1⟩ := hA
  obtain ⟨lb, h2, e2⟩ := hB
  exact lists_any va vb la lb (e1.trans e2.symm) w h1 h2
end Go.Proofs.YtillhpgdlmeajaaGreatDoor

/-
  A place of a row of the call's own: read, written.
-/
namespace Go.Proofs.YtillhpgdlmeajaaGreatDoor
open Go.RowKit
theorem cell_setCell_ne {w : World} {a b : Addr} {u : Value} (hs : a.spot = none) (h : b ≠ a) (hb : b.spot = none) : (w.setCell a u).cell? b = w.cell? b := by
  obtain ⟨ab, ao, as'⟩ := a
  obtain ⟨bb, bo, bs'⟩ := b
  simp only at hs hb
  subst hs
  subst hb
  by_cases hblk : bb = ab
  · subst hblk
    have hoff : ao ≠ bo := fun e => h (by rw [e])
    unfold World.cell? World.setCell
    simp only
    cases hx : w.heap[bb]? with
    | none =>
      have hle := Array.getElem?_eq_none_iff.1 hx
      rw [Array.getElem?_eq_none (by simpa using hle)]
    | some o =>
      have hlt : bb < w.heap.size := (Array.getElem?_eq_some_iff.1 hx).1
      have hx' : w.heap[bb] = o := by simpa [Array.getElem?_eq_getElem hlt] using hx
      rw [Array.getElem?_eq_getElem (by simpa using hlt), Array.getElem_modify_self, hx']
      cases o <;> simp [Array.getElem?_setIfInBounds_ne hoff]
  · exact World.cell?_of_block (Below.heap_setCell _ _ _ _ (by simpa using hblk))
theorem cell_setCell_same {w : World} {b off : Nat} {u y : Value} (h : w.cell? ⟨b, off, none⟩ = some y) : (w.setCell ⟨b, off, none⟩ u).cell? ⟨b, off, none⟩ = some u := by
  unfold World.cell? World.setCell at *
  simp only at *
  cases hx : w.heap[b]? with
  | none => simp [hx] at h
  | some o =>
    have hlt : b < w.heap.size := (Array.getElem?_eq_some_iff.1 hx).1
    have hx' : w.heap[b] = o := by simpa [Array.getElem?_eq_getElem hlt] using hx
    rw [hx] at h
    rw [Array.getElem?_eq_getElem (by simpa using hlt), Array.getElem_modify_self, hx']
    cases o with
    | cells c t fr =>
      simp at h ⊢
      have : off < c.size := (Array.getElem?_eq_some_iff.1 h).1
      simp [this]
    | _ => simp at h
end Go.Proofs.YtillhpgdlmeajaaGreatDoor

/-
  Disks, journals and boxes with the blocks that they lie in.
-/
namespace Go.Proofs.YtillhpgdlmeajaaGreatDoor
open Go.RowKit
open Go.Proofs
set_option linter.unusedVariables false
section
variable {w0 w w' : World} {p q j n k : Nat} {d d' : Dk} {F : Nat → Prop} {v : Value}
theorem Bf.dx (h : Bf w0 w p d q n k F) : Dx w0 w p d F := by
  obtain ⟨v, j, m, h1, h2, h3, h4, h5, h6, h7⟩ := h
  exact ⟨v, h2.nw, h7⟩
theorem Jx.dx (h : Jx w0 w p d j k F) : Dx w0 w p d F := by
  obtain ⟨v, m, h1, h2, h3, h4⟩ := h
  exact ⟨v, h2.nw, h4⟩
end
end Go.Proofs.YtillhpgdlmeajaaGreatDoor

/-
  Chapter 6 as plain functions: where a row of leaves is parted, leaves, nodes, the root.
-/
namespace Go.Proofs.YtillhpgdlmeajaaGreatDoor
theorem tsplP_half {n : Nat} (h : 2 ≤ n) : n ≤ 2 * tsplP n := by
  rw [tsplP_more h]
  have := Nat.lt_log2_self (n := n - 1)
  rw [Nat.pow_succ] at this
  omega
theorem tsplP_of {n j : Nat} (h1 : 2 ^ j < n) (h2 : n ≤ 2 * 2 ^ j) : tsplP n = 2 ^ j := by
  have hp : 1 ≤ 2 ^ j := Nat.one_le_two_pow
  rw [tsplP_more (by omega)]
  congr 1
  exact (Nat.log2_eq_iff (by omega)).2 ⟨by omega, by rw [Nat.pow_succ]; omega⟩
theorem tsplP_pow {n : Nat} (h : 2 ≤ n) : ∃ j, tsplP n = 2 ^ j := ⟨_, tsplP_more h⟩
end Go.Proofs.YtillhpgdlmeajaaGreatDoor

/-
  Lists of slices with the room behind them told: how they are cut.
-/
namespace Go.Proofs.YtillhpgdlmeajaaGreatDoor
open Go.RowKit
theorem lc_nil (w : World) : Lc w (.slice none 0 0) [] := ⟨lists_nil w none 0, none, 0, rfl, by simp, by simp, fun _ => rfl⟩
end Go.Proofs.YtillhpgdlmeajaaGreatDoor

/-
  Lists of slices by their bytes, cut and looked at, as what an operation yields.
-/
namespace Go.Proofs.YtillhpgdlmeajaaGreatDoor
open Go.RowKit
theorem LcM.lsm {ls : List (List Int)} {v : Value} {w : World} (h : LcM ls v w) : LsM ls v w := by obtain ⟨l, h1, h2⟩ := h; exact ⟨l, h1.1, h2⟩
theorem lcm_nil (w : World) : LcM [] (.slice none 0 0) w := ⟨[], lc_nil w, rfl⟩
section
variable {o : Oper} {a : Act} {w : World}
end
end Go.Proofs.YtillhpgdlmeajaaGreatDoor

/-
  The contracts of Leaf and Node, of the program and of the reference.
-/
namespace Go.Proofs.YtillhpgdlmeajaaGreatDoor
open Go.RowKit
set_option maxRecDepth 100000 in
set_option maxHeartbeats 1000000 in
theorem rleaf_any (v : Value) (bs : List Int) (r : List Int) (hr : r = tleafP bs) (w : World) (hS : Sl w v bs) (hB : Bs bs) (hl : bs.length ≤ 1000000) :
    Calls Tryz.prog 72 #[v] w fun e w' => ∃ ao m c, e = .returned (.slice ao m c) ∧ Row w' w.heap.size (.slice ao m c) r ∧ Kp [] w w' := by
  have HL := lists1 hS hB
  have HK := hide ((Kp.refl [] w).alloc (.cells #[v] 22))
  have HC := hide (reftagged_any 0 _ _ r (by rw [hr, cat1]; rfl) _ HL (by omega) (by omega) (by simp) (small1 hl))
  rw [show (w.alloc (.cells #[v] 22)).heap.size = w.heap.size + 1 by simp] at HC
  obtain ⟨ab, cb, hvb, _⟩ := hS
  obtain ⟨nb, hnb⟩ : ∃ n, n = bs.length := ⟨_, rfl⟩
  rw [← hnb] at hvb
  subst hvb
  clear hr hB hl HL hnb
  go_enter Tryz.func72, Tryz.ntmps72
  go_wp2_with fail
  refine (unhide HC).mono ?_
  rintro ee w2 ⟨ao2, m2, c2, rfl, R2, K2⟩
  have HR2 : Hid (Row w2 w.heap.size (.slice ao2 m2 c2) r) := owns_rebase R2 (fun i hi => by have := Row.own R2 i hi; omega)
  have HK2 := hide ((unhide HK).trans K2)
  clear HC HK R2 K2
  go_wp2_with fail
  go_ret
  exact ⟨ao2, m2, c2, rfl, unhide HR2, unhide HK2⟩
set_option maxRecDepth 100000 in
set_option maxHeartbeats 1000000 in
theorem rnode_any (v u : Value) (bs cs : List Int) (r : List Int) (hr : r = tnodeP bs cs) (w : World) (hS : Sl w v bs) (hB : Bs bs) (hl : bs.length ≤ 1000000) (hT : Sl w u cs) (hC : Bs cs) (hm : cs.length ≤ 1000000) :
    Calls Tryz.prog 71 #[v, u] w fun e w' => ∃ ao m c, e = .returned (.slice ao m c) ∧ Row w' w.heap.size (.slice ao m c) r ∧ Kp [] w w' := by
  have HL := lists2 hS hB hT hC
  have HK := hide ((Kp.refl [] w).alloc (.cells #[v, u] 22))
  have HC := hide (reftagged_any 1 _ _ r (by rw [hr, cat2]; rfl) _ HL (by omega) (by omega) (by simp) (small2 hl hm))
  rw [show (w.alloc (.cells #[v, u] 22)).heap.size = w.heap.size + 1 by simp] at HC
  obtain ⟨ab, cb, hvb, _⟩ := hS
  obtain ⟨nb, hnb⟩ : ∃ n, n = bs.length := ⟨_, rfl⟩
  rw [← hnb] at hvb
  subst hvb
  obtain ⟨ad, cd, hvd, _⟩ := hT
  obtain ⟨nd, hnd⟩ : ∃ n, n = cs.length := ⟨_, rfl⟩
  rw [← hnd] at hvd
  subst hvd
  clear hr hB hl hC hm HL hnb hnd
  go_enter Tryz.func71, Tryz.ntmps71
  go_wp2_with fail
  refine (unhide HC).mono ?_
  rintro ee w2 ⟨ao2, m2, c2, rfl, R2, K2⟩
  have HR2 : Hid (Row w2 w.heap.size (.slice ao2 m2 c2) r) := owns_rebase R2 (fun i hi => by have := Row.own R2 i hi; omega)
  have HK2 := hide ((unhide HK).trans K2)
  clear HC HK R2 K2
  go_wp2_with fail
  go_ret
  exact ⟨ao2, m2, c2, rfl, unhide HR2, unhide HK2⟩
end Go.Proofs.YtillhpgdlmeajaaGreatDoor

/-
  Rows of slices that lie anywhere: how they are gathered.
-/
namespace Go.Proofs.YtillhpgdlmeajaaGreatDoor
open Go.RowKit
open Go.Proofs
/-- one more slice, wherever it lies but in the row itself. -/
theorem RowS.snocR {w1 w2 : World} {base : Nat} {v v' : Value} {l : List (Value × List Int)} {x : Value × List Int} (h : RowS w1 base v l) (hx : Sl w1 x.1 x.2) (hB : Bs x.2) (ha : ∀ k, x.1.ownBlock = some k → v.ownBlock = some k → x.2 = [])
    (r : RowV w2 base v' (l.map (·.1) ++ [x.1])) (s : RStep w1 v w2 v') : RowS w2 base v' (l ++ [x]) := by
  have one : ∀ y : Value × List Int, Sl w1 y.1 y.2 → (∀ k, y.1.ownBlock = some k → v.ownBlock = some k → y.2 = []) → Sl w2 y.1 y.2 ∧ ∀ k, y.1.ownBlock = some k → v'.ownBlock = some k → y.2 = [] := by
    intro y hy hay
    refine ⟨hy.apart s.1 (fun i hi hm => hay i hi (by simpa [Option.mem_toList] using hm)), fun k hk hv => ?_⟩
    rcases s.2 k hv with h1 | h1
    · exact hay k hk h1
    · by_cases hb : y.2 = []
      · exact hb
      · obtain ⟨ao', c', e, h1', _, h3, h4⟩ := hy
        cases ao' with
        | none => exact List.eq_nil_of_length_eq_zero (by have := h3 rfl; omega)
        | some a =>
          have hpos : 0 < y.2.length := List.length_pos_iff.2 hb
          have hc := h4 a rfl 0 (.int .u8 y.2[0]) (by simp [List.getElem?_eq_getElem hpos])
          have hlt := World.block_lt_of_cell? _ _ hc
          rw [add_block] at hlt
          rw [e] at hk
          have : a.block = k := by simpa [Value.ownBlock] using hk
          omega
  refine ⟨by rw [List.map_append]; exact r, fun y hy => ?_⟩
  rcases List.mem_append.1 hy with hy | hy
  · obtain ⟨h1, h2, h3⟩ := h.2 y hy
    exact ⟨(one y h1 h3).1, h2, (one y h1 h3).2⟩
  · obtain rfl : y = x := by simpa using hy
    exact ⟨(one y hx ha).1, hB, (one y hx ha).2⟩
/-- what is gathered, of slices wherever they lie. -/
def AccR (w : World) (ls : List (List Int)) (v : Value) (wr : World) : Prop := ∃ l, RowS wr w.heap.size v l ∧ l.map (·.2) = ls ∧ Kp [] w wr
theorem AccR.kp {w wr : World} {ls : List (List Int)} {v : Value} (h : AccR w ls v wr) : Kp [] w wr := by obtain ⟨_, _, _, h3⟩ := h; exact h3
theorem AccR.lcm {w wr : World} {ls : List (List Int)} {v : Value} (h : AccR w ls v wr) (hl : ls.length ≤ 1000) : LcM ls v wr := by
  obtain ⟨l, h1, h2, _⟩ := h
  exact ⟨l, lc_of_owns h1.1 (h1.lists (by rw [← List.length_map (f := (·.2)), h2]; exact hl)), h2⟩
end Go.Proofs.YtillhpgdlmeajaaGreatDoor

/-
  One more slice behind a row of slices of the call's own, wherever the slice lies, behind a region that draws.
-/
namespace Go.Proofs.YtillhpgdlmeajaaGreatDoor
open Go.RowKit
open Go.Proofs
section
variable {w w' w0 : World} {base B : Nat} {v : Value} {bs : List Int}
theorem rowv_ty {xs : List Value} (h : RowV w base v xs) {k : Nat} (hk : v.ownBlock = some k) : ∃ c, w.heap[k]? = some (.cells c 22 (0, 0)) := by
  rcases h.2 with ⟨rfl, _⟩ | ⟨g, cap, cur, rfl, hb, hg, _⟩
  · cases hk
  · cases hk; exact ⟨_, hg⟩
theorem row_ty (h : Row w base v bs) {k : Nat} (hk : v.ownBlock = some k) : ∃ c, w.heap[k]? = some (.cells c 5 (0, 0)) := by
  rcases h.2 with ⟨rfl, _⟩ | ⟨g, cap, cur, rfl, hb, hg, _⟩
  · cases hk
  · cases hk; exact ⟨_, hg⟩
/-- what holds something lies in no row of slices from B on. -/
def Ap (B : Nat) (w : World) (v : Value) (bs : List Int) : Prop := ∀ k, v.ownBlock = some k → bs = [] ∨ k < B ∨ ∃ c, w.heap[k]? = some (.cells c 5 (0, 0))
theorem Ap.kept (h : Ap B w v bs) (k : Kp [] w w') : Ap B w' v bs := fun i hi => by
  rcases h i hi with h | h | ⟨c, h⟩
  · exact .inl h
  · exact .inr (.inl h)
  · exact .inr (.inr ⟨c, k.heap h (by simp)⟩)
theorem ap_row (h : Row w base v bs) : Ap B w v bs := fun _ hi => .inr (.inr (row_ty h hi))
theorem ap_old (h : Sl w0 v bs) (k : w0.heap.size ≤ B) : Ap B w v bs := fun i hi => by
  by_cases hb : bs = []
  · exact .inl hb
  · obtain ⟨ao', c', e, h1, _, h3, h4⟩ := h
    cases ao' with
    | none => exact .inl (List.eq_nil_of_length_eq_zero (by have := h3 rfl; omega))
    | some a =>
      have hpos : 0 < bs.length := List.length_pos_iff.2 hb
      have hc := h4 a rfl 0 (.int .u8 bs[0]) (by simp [List.getElem?_eq_getElem hpos])
      have hlt := World.block_lt_of_cell? _ _ hc
      rw [add_block] at hlt
      rw [e] at hi
      have : a.block = i := by simpa [Value.ownBlock] using hi
      exact .inr (.inl (by omega))
theorem Ap.mono {B' : Nat} (h : Ap B w v bs) (hb : B ≤ B') : Ap B' w v bs := fun i hi => by
  rcases h i hi with h | h | h
  · exact .inl h
  · exact .inr (.inl (by omega))
  · exact .inr (.inr h)
/-- The value is a slice that reads so and lies in no row of slices from B on. -/
def RtT (B : Nat) (bs : List Int) : Tell := fun v w => ∃ ao m c, v = .slice ao m c ∧ Sl w (.slice ao m c) bs ∧ Ap B w (.slice ao m c) bs
theorem stable_rt (B : Nat) (bs : List Int) : Tell.stable (RtT B bs) := fun _ _ _ k ⟨ao, m, c, e, h1, h2⟩ => ⟨ao, m, c, e, h1.kept k (by simp), h2.kept k⟩
/-- The value is a list of one such slice. -/
def OneT (B : Nat) (bs : List Int) : Tell := fun v w => ∃ g u, v = .slice (some ⟨g, 0, none⟩) 1 1 ∧ w.cell? ⟨g, 0, none⟩ = some u ∧ RtT B bs u w
theorem stable_onet (B : Nat) (bs : List Int) : Tell.stable (OneT B bs) := fun _ _ _ k ⟨g, u, e, h1, h2⟩ => ⟨g, u, e, k.cell h1 (by simp), stable_rt B bs _ _ _ k h2⟩
/-- The value is a row of slices from B on that reads so. -/
def ARt (B : Nat) (ls : List (List Int)) : Tell := fun v w => ∃ ao m c l, v = .slice ao m c ∧ RowS w B (.slice ao m c) l ∧ l.map (·.2) = ls
theorem stable_ar (B : Nat) (ls : List (List Int)) : Tell.stable (ARt B ls) := fun _ _ _ k ⟨ao, m, c, l, e, h1, h2⟩ => ⟨ao, m, c, l, e, h1.kept k, h2⟩
theorem RowS.rebase {l : List (Value × List Int)} (h : RowS w base v l) (hb : B ≤ base) : RowS w B v l := ⟨owns_rebase h.1 (fun i hi => Nat.le_trans hb (h.1.own i hi)), h.2⟩
theorem AccR.ar {ls : List (List Int)} {ao : Option Addr} {m c : Nat} (h : AccR w0 ls (.slice ao m c) w) (hb : B ≤ w0.heap.size) : ARt B ls (.slice ao m c) w := by
  obtain ⟨l, h1, h2, _⟩ := h
  exact ⟨ao, m, c, l, rfl, h1.rebase hb, h2⟩
theorem AccR.nil (w : World) : AccR w [] (.slice none 0 0) w := ⟨[], ⟨World.ownsRow_nil _ _ _ _, fun x hx => by cases hx⟩, rfl, Kp.refl _ _⟩
theorem AccR.mid {ls : List (List Int)} (h : AccR w0 ls v w) (k : Kp [] w w') : AccR w0 ls v w' := by
  obtain ⟨l, h1, h2, h3⟩ := h
  exact ⟨l, h1.kept k, h2, h3.trans k⟩
theorem AccR.after {ls : List (List Int)} (h : AccR w0 ls v w') (k : Kp [] w w0) : AccR w ls v w' := by
  obtain ⟨l, h1, h2, h3⟩ := h
  exact ⟨l, h1.rebase k.size, h2, k.trans h3⟩
theorem AccR.len {ls : List (List Int)} {ao : Option Addr} {m c : Nat} (h : AccR w0 ls (.slice ao m c) w) : m = ls.length := by
  obtain ⟨l, h1, h2, _⟩ := h
  have := h1.1.len
  rw [this, ← h2]; simp
end
section
variable {o : Oper} {a : Act} {w : World}
theorem grown_onet (x : Operand) (ho : o.op = .buildSlice 33 1 #[(0, x)]) (B : Nat) (bs : List Int) (h : RtT B bs (a.eval x) w) : grown Tryz.prog w (OneT B bs) ((execOp a.eval o).run Tryz.prog w) := by
  have h' := h
  obtain ⟨ao, m, c, e, _⟩ := h
  refine grown_run (v := .slice (some ⟨w.heap.size, 0, none⟩) 1 1) (w' := w.alloc (.cells #[a.eval x] 22)) ?_ ((Kp.refl _ _).alloc _) ⟨w.heap.size, a.eval x, rfl, ?_, stable_rt B bs _ _ _ ((Kp.refl [] w).alloc _) h'⟩
  · obtain ⟨ρ, hρ, hc, hf, hg⟩ := eval_is a
    rw [hρ] at e ⊢
    unfold execOp
    simp only [ho]
    simp [go_sem, e]
  · exact World.news_of_block (heap_alloc_new w _) 0 (a.eval x) (by simp)
end
/-- a list of one as a row. -/
theorem accr_one {w w2 : World} {ao : Option Addr} {m c : Nat} {bs : List Int} (k : Kp [] w w2) (h : Sl w2 (.slice ao m c) bs) (hb : Bs bs) : AccR w [bs] (.slice (some ⟨w2.heap.size, 0, none⟩) 1 1) (w2.alloc (.cells #[.slice ao m c] 22)) := by
  have kk := k.trans ((Kp.refl [] w2).alloc (.cells #[.slice ao m c] 22))
  refine ⟨[(.slice ao m c, bs)], ⟨⟨by simp, .inr ⟨w2.heap.size, 1, #[.slice ao m c], rfl, k.size, heap_alloc_new w2 _, by simp, by simp [maxLen], by simp, by simp⟩⟩, fun x hx => ?_⟩, rfl, kk⟩
  obtain rfl : x = (.slice ao m c, bs) := by simpa using hx
  refine ⟨h.kept ((Kp.refl [] w2).alloc _) (by simp), hb, fun i hi hv => ?_⟩
  cases hv
  show bs = []
  by_cases hb0 : bs = []
  · exact hb0
  · obtain ⟨ao', c', e, h1, _, h3, h4⟩ := h
    cases ao' with
    | none => exact List.eq_nil_of_length_eq_zero (by have := h3 rfl; omega)
    | some ad =>
      have hpos : 0 < bs.length := List.length_pos_iff.2 hb0
      have hc := h4 ad rfl 0 (.int .u8 bs[0]) (by simp [List.getElem?_eq_getElem hpos])
      have hlt := World.block_lt_of_cell? _ _ hc
      rw [add_block] at hlt
      simp only [e, Value.ownBlock, Option.some.injEq] at hi
      omega
/-- one more behind the row. -/
theorem wpList_accp {w W : World} {ops : Array Oper} {rest : List Oper} {o : Oper} {a : Act} {Q : Exit → Act → World → Prop} (hgd : o.guard = none) (s x : Operand)
    (ho : o.op = .call { callee := .builtin .append, args := #[s, x], argTypes := #[33, 33] }) (v vx : Value) (hs : a.eval s = v) (hsx : a.eval x = vx) (ls : List (List Int)) (hA : ARt w.heap.size ls v W) (hl : ls.length ≤ 1000000)
    (bs : List Int) (hx : OneT w.heap.size bs vx W) (hb : Bs bs) (k : Kp [] w W)
    (h : ∀ ao m c w', AccR w (ls ++ [bs]) (.slice ao m c) w' → wpList Tryz.prog ops Q rest (a.put o.dst (.slice ao m c)) w') : wpList Tryz.prog ops Q (o :: rest) a W := by
  obtain ⟨av, mv, cv, l, rfl, hP, hl2⟩ := hA
  obtain ⟨g, u, rfl, hcu, au, mu, cu, rfl, hSu, hAp⟩ := hx
  have hap : ∀ i, (Value.slice au mu cu).ownBlock = some i → (Value.slice av mv cv).ownBlock = some i → bs = [] := by
    intro i h1 h2
    obtain ⟨cc, hcc⟩ := rowv_ty hP.1 h2
    rcases hAp i h1 with h3 | h3 | ⟨c3, h3⟩
    · exact h3
    · have := hP.1.own i h2; omega
    · rw [hcc] at h3
      injection h3 with h3
      injection h3 with _ h3
      cases h3
  refine wpList_append_rowv hgd s x ho w.heap.size (.slice av mv cv) (l.map (·.1)) hs hP.1 ⟨g, 0, none⟩ 1 [.slice au mu cu] hsx ?_ ?_ ?_ k.size ?_
  · intro j y hy
    match j, hy with
    | 0, hy =>
      have : y = .slice au mu cu := by simpa using hy.symm
      subst this
      rw [Addr.add_zero']
      exact hcu
    | j + 1, hy => simp at hy
  · simp [Value.oneCell']
  · have : l.length = ls.length := by rw [← hl2]; simp
    simp; omega
  · intro ao m c w' r st
    refine h ao m c w' ⟨l ++ [(.slice au mu cu, bs)], hP.snocR (x := (.slice au mu cu, bs)) hSu hb hap r st, by simp [hl2], ?_⟩
    exact k.then st.1 (fun i hi => .inr (hP.1.own i (by simpa [Option.mem_toList] using hi)))
/-- The value is a list that read so in an earlier world. -/
def L0 (w0 : World) (ls : List (List Int)) : Tell := fun v _ => LcM ls v w0
theorem stable_l0 (w0 : World) (ls : List (List Int)) : Tell.stable (L0 w0 ls) := fun _ _ _ _ h => h
section
variable {o : Oper} {a : Act} {w w0 : World}
theorem grown_lhead0 (s k : Operand) (ls : List (List Int)) (n : Nat) (ho : o.op = .slice 33 s none (some k) none) (h : LcM ls (a.eval s) w0) (hk : a.eval k = .int .i64 (n : Nat)) (hn : n ≤ ls.length) : grown Tryz.prog w (L0 w0 (ls.take n)) ((execOp a.eval o).run Tryz.prog w) := by
  obtain ⟨ao, c, e, h1, h2, h3⟩ := h.shape
  rw [e] at h
  refine grown_run (v := .slice ao n c) (w' := w) ?_ (Kp.refl _ _) (h.take n hn)
  have hr := run_lhead ao ls.length c n w (by omega)
  unfold execOp
  simp only [ho, e, hk, Sem.run_bind, hr, Result.andThen_ok, Sem.run_pure, Option.map_some, Option.map_none]
theorem grown_lfrom0 (s k : Operand) (ls : List (List Int)) (n : Nat) (ho : o.op = .slice 33 s (some k) none none) (h : LcM ls (a.eval s) w0) (hk : a.eval k = .int .i64 (n : Nat)) (hn : n ≤ ls.length) : grown Tryz.prog w (L0 w0 (ls.drop n)) ((execOp a.eval o).run Tryz.prog w) := by
  obtain ⟨ao, c, e, h1, h2, h3⟩ := h.shape
  rw [e] at h
  refine grown_run (w' := w) ?_ (Kp.refl _ _) (h.drop n hn)
  have hr := run_lfrom ao ls.length c n w hn h1 h3
  unfold execOp
  simp only [ho, e, hk, Sem.run_bind, hr, Result.andThen_ok, Sem.run_pure, Option.map_some, Option.map_none]
end
end Go.Proofs.YtillhpgdlmeajaaGreatDoor

/-
  Structs of two numbers and a list of slices (api.Proof, api.Growth): as values, in memory, stored, loaded, handed back.
-/
namespace Go.Proofs.YtillhpgdlmeajaaGreatDoor
open Go.RowKit
open Go.Proofs
/-- v is such a struct. -/
def TV (w : World) (v : Value) (i n : Int) (ps : List (List Int)) : Prop := ∃ ao m c, v = .agg #[.int .i64 i, .int .i64 n, .slice ao m c] ∧ LcM ps (.slice ao m c) w
theorem TV.kept {w w' : World} {v : Value} {i n : Int} {ps : List (List Int)} (h : TV w v i n ps) (k : Kp [] w w') : TV w' v i n ps := by
  obtain ⟨ao, m, c, e, h1⟩ := h
  exact ⟨ao, m, c, e, h1.kept k⟩
theorem TV.shape {w : World} {v : Value} {i n : Int} {ps : List (List Int)} (h : TV w v i n ps) : ∃ ao c, v = .agg #[.int .i64 i, .int .i64 n, .slice ao ps.length c] ∧ LcM ps (.slice ao ps.length c) w := by
  obtain ⟨ao, m, c, e, h1⟩ := h
  obtain ⟨a1, c1, e1, _⟩ := h1.shape
  injection e1 with e2 e3 e4
  subst e2
  subst e3
  subst e4
  exact ⟨_, _, e, h1⟩
/-- what is known of the type of such a struct. -/
structure Tri (t : TypeId) : Prop where
  size : (Tryz.prog.info? t).map (·.size) = some 3
  und : ∃ fs, Tryz.prog.underlying t = some (.struct fs)
  fld0 : ∀ g w, (Instr.fieldAt t (.pointer (some ⟨g, 0, none⟩)) 0).run Tryz.prog w = .ok (.pointer (some ⟨g, 0, none⟩)) w
  fld1 : ∀ g w, (Instr.fieldAt t (.pointer (some ⟨g, 0, none⟩)) 1).run Tryz.prog w = .ok (.pointer (some ⟨g, 1, none⟩)) w
  fld2 : ∀ g w, (Instr.fieldAt t (.pointer (some ⟨g, 0, none⟩)) 2).run Tryz.prog w = .ok (.pointer (some ⟨g, 2, none⟩)) w
theorem triP : Tri 54 := ⟨by kernel_rfl, ⟨_, Tryz.underlying54⟩, fun _ _ => by simp [go_sem], fun _ _ => by simp [go_sem], fun _ _ => by simp [go_sem]⟩
theorem triG : Tri 60 := ⟨by kernel_rfl, ⟨_, Tryz.underlying60⟩, fun _ _ => by simp [go_sem], fun _ _ => by simp [go_sem], fun _ _ => by simp [go_sem]⟩
section
variable {t : TypeId} {w : World} {g : Nat} {x y z : Value} {fr : Nat × Nat}
theorem load_tri (T : Tri t) (hg : w.heap[g]? = some (.cells #[x, y, z] t fr)) : (loadVar t ⟨g, 0, none⟩).run Tryz.prog w = .ok (.agg #[x, y, z]) w := by
  obtain ⟨d, hd⟩ := T.und
  exact run_loadVar_row w g t t #[x, y, z] fr (.struct d) hg hd rfl T.size
theorem cell_tri (hg : w.heap[g]? = some (.cells #[x, y, z] t fr)) : w.cell? ⟨g, 0, none⟩ = some x ∧ w.cell? ⟨g, 1, none⟩ = some y ∧ w.cell? ⟨g, 2, none⟩ = some z := by
  refine ⟨?_, ?_, ?_⟩ <;> rw [cell_of_row w g _ _ _ _ hg] <;> rfl
theorem results_tri (T : Tri t) {fn : Func} {p u : Tmp} (h : fn.results = #[.cell p t, .tmp u]) (tmps : Array Value) (hp : tmps.getD p undef = .pointer (some ⟨g, 0, none⟩)) (hg : w.heap[g]? = some (.cells #[x, y, z] t fr)) : (results fn tmps).run Tryz.prog w = .ok (.tuple #[.agg #[x, y, z], tmps.getD u undef]) w := by
  rw [results_cell_tmp h, hp]
  simp [asAddr, Result.andThen, load_tri T hg]
theorem kp_cells (w : World) (g : Nat) : ∀ (l : List Value) (o : Nat) (w1 : World), Kp [g] w w1 → Kp [g] w (w1.setCells g o l)
  | [], _, _, h => h
  | x :: l, o, w1, h => kp_cells w g l (o + 1) _ (h.setCell (p := ⟨g, o, none⟩) (.inl (by simp)) x)
theorem wpList_store_tri (T : Tri t) {ops : Array Oper} {rest : List Oper} {o : Oper} {a : Act} {Q : Exit → Act → World → Prop} (hgd : o.guard = none) (p u : Operand) (ho : o.op = .store t p u) (g : Nat) (hp : a.eval p = .pointer (some ⟨g, 0, none⟩)) (x0 y0 z0 x y z : Value)
    (hg : w.heap[g]? = some (.cells #[x0, y0, z0] t (0, 0))) (hu : a.eval u = .agg #[x, y, z]) (h1 : x.oneCell' = true ∧ y.oneCell' = true ∧ z.oneCell' = true)
    (h : ∀ w', w'.heap[g]? = some (.cells #[x, y, z] t (0, 0)) → Kp [g] w w' → wpList Tryz.prog ops Q rest (a.put o.dst undef) w') : wpList Tryz.prog ops Q (o :: rest) a w := by
  refine wpList_store_mid hgd t p u ho g 0 #[x, y, z] hp hu ?_ (by simpa using T.size) (all_oneCell_toArray (by simp [h1])) ?_
  · intro j hj
    simp only [List.size_toArray, List.length_cons, List.length_nil] at hj
    rw [Nat.zero_add, cell_of_row w g j _ _ _ hg]
    refine ⟨?_, frozen_of_row w g j _ _ hg⟩
    rcases (by omega : j = 0 ∨ j = 1 ∨ j = 2) with rfl | rfl | rfl <;> rfl
  · refine h _ ?_ (kp_cells w g _ 0 w (Kp.refl _ _))
    simp only [World.setCells]
    have e1 := heap_setCell_same w g 0 _ _ x hg
    have e2 := heap_setCell_same (w.setCell ⟨g, 0, none⟩ x) g 1 _ _ y e1
    have e3 := heap_setCell_same ((w.setCell ⟨g, 0, none⟩ x).setCell ⟨g, 1, none⟩ y) g 2 _ _ z e2
    simpa using e3
end
section
variable {t : TypeId} {o : Oper} {a : Act} {w : World} {R : Tell} {g : Nat} {x y z : Value} {fr : Nat × Nat}
theorem grown_fld0 (T : Tri t) (p : Operand) (ho : o.op = .fieldAddr t p 0) (hp : a.eval p = .pointer (some ⟨g, 0, none⟩)) : grown Tryz.prog w (Is (.pointer (some ⟨g, 0, none⟩))) ((execOp a.eval o).run Tryz.prog w) := by
  refine grown_run ?_ (Kp.refl _ _) rfl
  unfold execOp
  simp only [ho, hp, Sem.run_bind, T.fld0 g w, Result.andThen_ok, Sem.run_pure]
theorem grown_fld1 (T : Tri t) (p : Operand) (ho : o.op = .fieldAddr t p 1) (hp : a.eval p = .pointer (some ⟨g, 0, none⟩)) : grown Tryz.prog w (Is (.pointer (some ⟨g, 1, none⟩))) ((execOp a.eval o).run Tryz.prog w) := by
  refine grown_run ?_ (Kp.refl _ _) rfl
  unfold execOp
  simp only [ho, hp, Sem.run_bind, T.fld1 g w, Result.andThen_ok, Sem.run_pure]
theorem grown_fld2 (T : Tri t) (p : Operand) (ho : o.op = .fieldAddr t p 2) (hp : a.eval p = .pointer (some ⟨g, 0, none⟩)) : grown Tryz.prog w (Is (.pointer (some ⟨g, 2, none⟩))) ((execOp a.eval o).run Tryz.prog w) := by
  refine grown_run ?_ (Kp.refl _ _) rfl
  unfold execOp
  simp only [ho, hp, Sem.run_bind, T.fld2 g w, Result.andThen_ok, Sem.run_pure]
theorem grown_ldi (p : Operand) (ho : o.op = .load 3 p) (j : Nat) (i : Int) (hp : a.eval p = .pointer (some ⟨g, j, none⟩)) (hc : w.cell? ⟨g, j, none⟩ = some (.int .i64 i)) : grown Tryz.prog w (Is (.int .i64 i)) ((execOp a.eval o).run Tryz.prog w) := by
  refine grown_run (v := .int .i64 i) ?_ (Kp.refl _ _) rfl
  obtain ⟨ρ, hρ, _⟩ := eval_is a
  rw [hρ] at hp ⊢
  unfold execOp
  simp only [ho]
  simp [go_sem, hp, hc]
theorem grown_ldl (p : Operand) (ho : o.op = .load 33 p) (j : Nat) (ao : Option Addr) (m c : Nat) (hp : a.eval p = .pointer (some ⟨g, j, none⟩)) (hc : w.cell? ⟨g, j, none⟩ = some (.slice ao m c)) : grown Tryz.prog w (Is (.slice ao m c)) ((execOp a.eval o).run Tryz.prog w) := by
  refine grown_run (v := .slice ao m c) ?_ (Kp.refl _ _) rfl
  obtain ⟨ρ, hρ, _⟩ := eval_is a
  rw [hρ] at hp ⊢
  unfold execOp
  simp only [ho]
  simp [go_sem, hp, hc]
end
/-- bytes do not lie in a struct that has none. -/
theorem sl_struct {w : World} {v : Value} {bs : List Int} {g : Nat} {cs : Array Value} {t : TypeId} {fr : Nat × Nat} (h : Sl w v bs) (hg : w.heap[g]? = some (.cells cs t fr)) (hn : ∀ x ∈ cs.toList, ∀ y, x ≠ .int .u8 y) (hv : v.ownBlock = some g) : bs = [] := by
  by_cases hb0 : bs = []
  · exact hb0
  · obtain ⟨ao', c', e, h1, _, h3, h4⟩ := h
    cases ao' with
    | none => exact List.eq_nil_of_length_eq_zero (by have := h3 rfl; omega)
    | some ad =>
      have hpos : 0 < bs.length := List.length_pos_iff.2 hb0
      have hc := h4 ad rfl 0 (.int .u8 bs[0]) (by simp [List.getElem?_eq_getElem hpos])
      rw [e] at hv
      have hbk : ad.block = g := by simpa [Value.ownBlock] using hv
      rw [Addr.add_zero'] at hc
      have hsp := World.cell?_spot hc
      obtain ⟨b, off, sp⟩ := ad
      simp only at hsp hbk
      subst hsp
      subst hbk
      rw [cell_of_row w b off _ _ _ hg] at hc
      exact absurd rfl (hn _ (by simpa using Array.mem_of_getElem? hc) bs[0])
theorem tri_no {i n : Int} {ao : Option Addr} {m c : Nat} : ∀ x ∈ (#[Value.int .i64 i, .int .i64 n, .slice ao m c]).toList, ∀ y, x ≠ .int .u8 y := by
  intro x hx y
  rcases (by simpa using hx : x = .int .i64 i ∨ x = .int .i64 n ∨ x = .slice ao m c) with rfl | rfl | rfl <;> simp
theorem RowS.lcm {w : World} {B : Nat} {v : Value} {l : List (Value × List Int)} (h : RowS w B v l) (hl : l.length ≤ 1000) : LcM (l.map (·.2)) v w := ⟨l, lc_of_owns h.1 (h.lists hl), rfl⟩
/-- blocks that hold no bytes and lie below B. -/
def NoB (B : Nat) (w : World) (S : List Nat) : Prop := ∀ g ∈ S, g < B ∧ ∃ cs t fr, w.heap[g]? = some (.cells cs t fr) ∧ ∀ x ∈ cs.toList, ∀ y, x ≠ .int .u8 y
/-- what was gathered behind structs is as it was when these are written. -/
theorem AccR.off {w0 w2 w4 : World} {ls : List (List Int)} {v : Value} {S : List Nat} (h : AccR w0 ls v w2) (hl : ls.length ≤ 1000) (hS : NoB w0.heap.size w2 S) (k : Kp S w2 w4) : LcM ls v w4 := by
  obtain ⟨l, h1, h2, _⟩ := h
  have R : RowS w4 w0.heap.size v l := by
    refine ⟨h1.1.kept k (fun i hi hm => ?_), fun x hx => ?_⟩
    · have := h1.1.own i hi
      have := (hS i hm).1
      omega
    · obtain ⟨g1, g2, g3⟩ := h1.2 x hx
      refine ⟨g1.apart k (fun i hi hm => ?_), g2, g3⟩
      obtain ⟨_, cs, t, fr, hg, hn⟩ := hS i hm
      exact sl_struct g1 hg hn hi
  rw [← h2]
  exact R.lcm (by rw [← List.length_map (f := (·.2)), h2]; exact hl)
theorem nob1 {B g : Nat} {w : World} {i n : Int} {ao : Option Addr} {m c : Nat} {t : TypeId} {fr : Nat × Nat} (h : g < B) (hg : w.heap[g]? = some (.cells #[.int .i64 i, .int .i64 n, .slice ao m c] t fr)) : NoB B w [g] := by
  intro x hx
  obtain rfl : x = g := by simpa using hx
  exact ⟨h, _, _, _, hg, tri_no⟩
theorem nob2 {B g q : Nat} {w : World} {i n : Int} {ao : Option Addr} {m c : Nat} {t : TypeId} {fr : Nat × Nat} (h : g < B) (hg : w.heap[g]? = some (.cells #[.int .i64 i, .int .i64 n, .slice ao m c] t fr)) (k : NoB B w [q]) : NoB B w [g, q] := by
  intro x hx
  rcases (by simpa using hx : x = g ∨ x = q) with rfl | rfl
  · exact ⟨h, _, _, _, hg, tri_no⟩
  · exact k x (by simp)
end Go.Proofs.YtillhpgdlmeajaaGreatDoor

/-
  Chapter 8 as plain functions: paths, how long they are, what they lead to.
-/
namespace Go.Proofs.YtillhpgdlmeajaaGreatDoor
/-- how many hashes a path of leaf i among n has. -/
def cntF : Nat → Nat → Nat → Nat
  | 0, _, _ => 0
  | f + 1, n, i => if 2 ≤ n then (if i < tsplP n then cntF f (tsplP n) i + 1 else cntF f (n - tsplP n) (i - tsplP n) + 1) else 0
theorem cntF_eq : ∀ (f g n i : Nat), n ≤ f → n ≤ g → cntF f n i = cntF g n i
  | 0, 0, _, _, _, _ => rfl
  | 0, g + 1, n, i, h, _ => by show 0 = (if 2 ≤ n then _ else _); rw [if_neg (by omega)]
  | f + 1, 0, n, i, _, h => by show (if 2 ≤ n then _ else _) = 0; rw [if_neg (by omega)]
  | f + 1, g + 1, n, i, hf, hg => by
    by_cases h : 2 ≤ n
    · have h1 := tsplP_lt h
      have h2 := tsplP_pos h
      show (if 2 ≤ n then _ else _) = (if 2 ≤ n then _ else _)
      rw [if_pos h, if_pos h, cntF_eq f g (tsplP n) i (by omega) (by omega), cntF_eq f g (n - tsplP n) (i - tsplP n) (by omega) (by omega)]
    · show (if 2 ≤ n then _ else _) = (if 2 ≤ n then _ else _)
      rw [if_neg h, if_neg h]
def cntP (n i : Nat) : Nat := cntF n n i
theorem cntP_small {n i : Nat} (h : n < 2) : cntP n i = 0 := by
  unfold cntP
  cases n with
  | zero => rfl
  | succ m => show (if 2 ≤ m + 1 then _ else _) = 0; rw [if_neg (by omega)]
theorem cntP_more {n i : Nat} (h : 2 ≤ n) : cntP n i = if i < tsplP n then cntP (tsplP n) i + 1 else cntP (n - tsplP n) (i - tsplP n) + 1 := by
  have h1 := tsplP_lt h
  have h2 := tsplP_pos h
  unfold cntP
  cases n with
  | zero => omega
  | succ m =>
    show (if 2 ≤ m + 1 then _ else _) = _
    rw [if_pos h, cntF_eq m (tsplP (m + 1)) (tsplP (m + 1)) i (by omega) (by omega), cntF_eq m (m + 1 - tsplP (m + 1)) (m + 1 - tsplP (m + 1)) (i - tsplP (m + 1)) (by omega) (by omega)]
theorem cntP_left {n i : Nat} (h : 2 ≤ n) (hi : i < tsplP n) : cntP n i = cntP (tsplP n) i + 1 := by rw [cntP_more h, if_pos hi]
theorem cntP_right {n i : Nat} (h : 2 ≤ n) (hi : ¬ i < tsplP n) : cntP n i = cntP (n - tsplP n) (i - tsplP n) + 1 := by rw [cntP_more h, if_neg hi]
theorem tsplP_two {n j : Nat} (h : 2 ≤ n) (hn : n ≤ 2 ^ (j + 1)) : tsplP n ≤ 2 ^ j ∧ n - tsplP n ≤ 2 ^ j := by
  obtain ⟨a, ha⟩ := tsplP_pow h
  have h1 := tsplP_lt h
  have h2 := tsplP_half h
  have h3 : 2 ^ a < 2 ^ (j + 1) := by omega
  have h4 : a < j + 1 := (Nat.pow_lt_pow_iff_right (by omega)).1 h3
  have h5 : 2 ^ a ≤ 2 ^ j := Nat.pow_le_pow_right (by omega) (by omega)
  omega
theorem cntP_le : ∀ (j n i : Nat), n ≤ 2 ^ j → cntP n i ≤ j
  | 0, n, i, h => by rw [cntP_small (by simp at h; omega)]; omega
  | j + 1, n, i, h => by
    by_cases h2 : 2 ≤ n
    · obtain ⟨h3, h4⟩ := tsplP_two h2 h
      rw [cntP_more h2]
      split
      · have := cntP_le j (tsplP n) i h3; omega
      · have := cntP_le j (n - tsplP n) (i - tsplP n) h4; omega
    · rw [cntP_small (by omega)]; omega
/-- the path of leaf i. -/
def incF : Nat → List (List Int) → Nat → List (List Int)
  | 0, _, _ => []
  | f + 1, ls, i => if 2 ≤ ls.length then (if i < tsplP ls.length then incF f (ls.take (tsplP ls.length)) i ++ [trootP (ls.drop (tsplP ls.length))] else incF f (ls.drop (tsplP ls.length)) (i - tsplP ls.length) ++ [trootP (ls.take (tsplP ls.length))]) else []
theorem incF_eq : ∀ (f g : Nat) (ls : List (List Int)) (i : Nat), ls.length ≤ f → ls.length ≤ g → incF f ls i = incF g ls i
  | 0, 0, _, _, _, _ => rfl
  | 0, g + 1, ls, i, h, _ => by show [] = (if 2 ≤ ls.length then _ else _); rw [if_neg (by omega)]
  | f + 1, 0, ls, i, _, h => by show (if 2 ≤ ls.length then _ else _) = []; rw [if_neg (by omega)]
  | f + 1, g + 1, ls, i, hf, hg => by
    by_cases h : 2 ≤ ls.length
    · have h1 := tsplP_lt h
      have h2 := tsplP_pos h
      show (if 2 ≤ ls.length then _ else _) = (if 2 ≤ ls.length then _ else _)
      rw [if_pos h, if_pos h, incF_eq f g (ls.take (tsplP ls.length)) i (by rw [List.length_take]; omega) (by rw [List.length_take]; omega), incF_eq f g (ls.drop (tsplP ls.length)) (i - tsplP ls.length) (by rw [List.length_drop]; omega) (by rw [List.length_drop]; omega)]
    · show (if 2 ≤ ls.length then _ else _) = (if 2 ≤ ls.length then _ else _)
      rw [if_neg h, if_neg h]
def incP (ls : List (List Int)) (i : Nat) : List (List Int) := incF ls.length ls i
theorem incP_small {ls : List (List Int)} {i : Nat} (h : ls.length < 2) : incP ls i = [] := by
  unfold incP
  rw [incF_eq ls.length (ls.length + 1) ls i (by omega) (by omega)]
  show (if 2 ≤ ls.length then _ else _) = []
  rw [if_neg (by omega)]
theorem incP_more {ls : List (List Int)} {i : Nat} (h : 2 ≤ ls.length) : incP ls i = if i < tsplP ls.length then incP (ls.take (tsplP ls.length)) i ++ [trootP (ls.drop (tsplP ls.length))] else incP (ls.drop (tsplP ls.length)) (i - tsplP ls.length) ++ [trootP (ls.take (tsplP ls.length))] := by
  have h1 := tsplP_lt h
  have h2 := tsplP_pos h
  unfold incP
  rw [incF_eq ls.length (ls.length + 1) ls i (by omega) (by omega)]
  show (if 2 ≤ ls.length then _ else _) = _
  rw [if_pos h, incF_eq ls.length (ls.take (tsplP ls.length)).length (ls.take (tsplP ls.length)) i (by rw [List.length_take]; omega) (by omega), incF_eq ls.length (ls.drop (tsplP ls.length)).length (ls.drop (tsplP ls.length)) (i - tsplP ls.length) (by rw [List.length_drop]; omega) (by omega)]
theorem incP_left {ls : List (List Int)} {i k : Nat} (h : 2 ≤ ls.length) (hk : k = tsplP ls.length) (hi : i < k) : incP ls i = incP (ls.take k) i ++ [trootP (ls.drop k)] := by subst hk; rw [incP_more h, if_pos hi]
theorem incP_right {ls : List (List Int)} {i k : Nat} (h : 2 ≤ ls.length) (hk : k = tsplP ls.length) (hi : ¬ i < k) : incP ls i = incP (ls.drop k) (i - k) ++ [trootP (ls.take k)] := by subst hk; rw [incP_more h, if_neg hi]
theorem incP_len (n : Nat) : ∀ (ls : List (List Int)) (i : Nat), ls.length = n → (incP ls i).length = cntP n i := by
  induction n using Nat.strongRecOn with
  | ind n ih =>
    intro ls i hl
    by_cases h : 2 ≤ n
    · have h1 := tsplP_lt h
      have h2 := tsplP_pos h
      by_cases hi : i < tsplP n
      · rw [incP_left (by omega) (by rw [hl]) hi, cntP_left h hi, List.length_append, ih (tsplP n) h1 _ i (by rw [List.length_take]; omega)]; rfl
      · rw [incP_right (by omega) (by rw [hl]) hi, cntP_right h hi, List.length_append, ih (n - tsplP n) (by omega) _ _ (by rw [List.length_drop]; omega)]; rfl
    · rw [incP_small (by omega), cntP_small (by omega)]; rfl
end Go.Proofs.YtillhpgdlmeajaaGreatDoor

/-
  Chapter 8 as plain functions: growths, how long they are, what they lead to.
-/
namespace Go.Proofs.YtillhpgdlmeajaaGreatDoor
/-- how many hashes a growth has. -/
def lenF : Nat → Nat → Nat → Bool → Nat
  | 0, _, _, _ => 0
  | f + 1, m, n, b => if m = n then (if b then 0 else 1) else (if m ≤ tsplP n then lenF f m (tsplP n) b + 1 else lenF f (m - tsplP n) (n - tsplP n) false + 1)
theorem lenF_eq : ∀ (f g m n : Nat) (b : Bool), n < f → n < g → 1 ≤ m → m ≤ n → lenF f m n b = lenF g m n b
  | 0, _, _, _, _, h, _, _, _ => absurd h (Nat.not_lt_zero _)
  | _ + 1, 0, _, _, _, _, h, _, _ => absurd h (Nat.not_lt_zero _)
  | f + 1, g + 1, m, n, b, hf, hg, h1, h2 => by
    show (if m = n then _ else _) = (if m = n then _ else _)
    by_cases e : m = n
    · rw [if_pos e, if_pos e]
    · have hn : 2 ≤ n := by omega
      have h3 := tsplP_lt hn
      have h4 := tsplP_pos hn
      rw [if_neg e, if_neg e]
      by_cases hk : m ≤ tsplP n
      · rw [if_pos hk, if_pos hk, lenF_eq f g m (tsplP n) b (by omega) (by omega) h1 hk]
      · rw [if_neg hk, if_neg hk, lenF_eq f g (m - tsplP n) (n - tsplP n) false (by omega) (by omega) (by omega) (by omega)]
def lenP (m n : Nat) (b : Bool) : Nat := lenF (n + 1) m n b
theorem lenP_same (n : Nat) (b : Bool) : lenP n n b = if b then 0 else 1 := by
  show (if n = n then _ else _) = _
  rw [if_pos rfl]
theorem lenP_left {m n k : Nat} {b : Bool} (h1 : 1 ≤ m) (h2 : m < n) (hk : k = tsplP n) (h : m ≤ k) : lenP m n b = lenP m k b + 1 := by
  have h3 := tsplP_lt (n := n) (by omega)
  show (if m = n then _ else _) = _
  rw [if_neg (by omega), ← hk, if_pos h, lenF_eq n (k + 1) m k b (by omega) (by omega) h1 h]; rfl
theorem lenP_right {m n k : Nat} {b : Bool} (h1 : 1 ≤ m) (h2 : m < n) (hk : k = tsplP n) (h : ¬ m ≤ k) : lenP m n b = lenP (m - k) (n - k) false + 1 := by
  have h3 := tsplP_lt (n := n) (by omega)
  have h4 := tsplP_pos (n := n) (by omega)
  show (if m = n then _ else _) = _
  rw [if_neg (by omega), ← hk, if_neg h, lenF_eq n (n - k + 1) (m - k) (n - k) false (by omega) (by omega) (by omega) (by omega)]; rfl
theorem lenP_le : ∀ (j m n : Nat) (b : Bool), 1 ≤ m → m ≤ n → n ≤ 2 ^ j → lenP m n b ≤ j + 1
  | 0, m, n, b, h1, h2, h => by
    obtain rfl : m = n := by simp at h; omega
    rw [lenP_same]; split <;> omega
  | j + 1, m, n, b, h1, h2, h => by
    by_cases e : m = n
    · subst e; rw [lenP_same]; split <;> omega
    · obtain ⟨h3, h4⟩ := tsplP_two (n := n) (by omega) h
      by_cases hk : m ≤ tsplP n
      · rw [lenP_left h1 (by omega) rfl hk]
        have := lenP_le j m (tsplP n) b h1 hk h3
        omega
      · rw [lenP_right h1 (by omega) rfl hk]
        have := lenP_le j (m - tsplP n) (n - tsplP n) false (by omega) (by omega) h4
        omega
/-- SUBPROOF. -/
def subF : Nat → Nat → List (List Int) → Bool → List (List Int)
  | 0, _, _, _ => []
  | f + 1, m, ls, b => if m = ls.length then (if b then [] else [trootP ls]) else (if m ≤ tsplP ls.length then subF f m (ls.take (tsplP ls.length)) b ++ [trootP (ls.drop (tsplP ls.length))] else subF f (m - tsplP ls.length) (ls.drop (tsplP ls.length)) false ++ [trootP (ls.take (tsplP ls.length))])
theorem subF_eq : ∀ (f g m : Nat) (ls : List (List Int)) (b : Bool), ls.length < f → ls.length < g → 1 ≤ m → m ≤ ls.length → subF f m ls b = subF g m ls b
  | 0, _, _, _, _, h, _, _, _ => absurd h (Nat.not_lt_zero _)
  | _ + 1, 0, _, _, _, _, h, _, _ => absurd h (Nat.not_lt_zero _)
  | f + 1, g + 1, m, ls, b, hf, hg, h1, h2 => by
    show (if m = ls.length then _ else _) = (if m = ls.length then _ else _)
    by_cases e : m = ls.length
    · rw [if_pos e, if_pos e]
    · have hn : 2 ≤ ls.length := by omega
      have h3 := tsplP_lt hn
      have h4 := tsplP_pos hn
      rw [if_neg e, if_neg e]
      by_cases hk : m ≤ tsplP ls.length
      · rw [if_pos hk, if_pos hk, subF_eq f g m (ls.take (tsplP ls.length)) b (by rw [List.length_take]; omega) (by rw [List.length_take]; omega) h1 (by rw [List.length_take]; omega)]
      · rw [if_neg hk, if_neg hk, subF_eq f g (m - tsplP ls.length) (ls.drop (tsplP ls.length)) false (by rw [List.length_drop]; omega) (by rw [List.length_drop]; omega) (by omega) (by rw [List.length_drop]; omega)]
def subP (m : Nat) (ls : List (List Int)) (b : Bool) : List (List Int) := subF (ls.length + 1) m ls b
theorem subP_same {m : Nat} {ls : List (List Int)} (h : m = ls.length) (b : Bool) : subP m ls b = if b then [] else [trootP ls] := by
  show (if m = ls.length then _ else _) = _
  rw [if_pos h]
theorem subP_left {m k : Nat} {ls : List (List Int)} {b : Bool} (h1 : 1 ≤ m) (h2 : m < ls.length) (hk : k = tsplP ls.length) (h : m ≤ k) : subP m ls b = subP m (ls.take k) b ++ [trootP (ls.drop k)] := by
  have h3 := tsplP_lt (n := ls.length) (by omega)
  show (if m = ls.length then _ else _) = _
  rw [if_neg (by omega), ← hk, if_pos h, subF_eq ls.length ((ls.take k).length + 1) m (ls.take k) b (by rw [List.length_take]; omega) (by omega) h1 (by rw [List.length_take]; omega)]; rfl
theorem subP_right {m k : Nat} {ls : List (List Int)} {b : Bool} (h1 : 1 ≤ m) (h2 : m < ls.length) (hk : k = tsplP ls.length) (h : ¬ m ≤ k) : subP m ls b = subP (m - k) (ls.drop k) false ++ [trootP (ls.take k)] := by
  have h3 := tsplP_lt (n := ls.length) (by omega)
  have h4 := tsplP_pos (n := ls.length) (by omega)
  show (if m = ls.length then _ else _) = _
  rw [if_neg (by omega), ← hk, if_neg h, subF_eq ls.length ((ls.drop k).length + 1) (m - k) (ls.drop k) false (by rw [List.length_drop]; omega) (by omega) (by omega) (by rw [List.length_drop]; omega)]; rfl
theorem subP_len (n : Nat) : ∀ (m : Nat) (ls : List (List Int)) (b : Bool), ls.length = n → 1 ≤ m → m ≤ n → (subP m ls b).length = lenP m n b := by
  induction n using Nat.strongRecOn with
  | ind n ih =>
    intro m ls b hl h1 h2
    by_cases e : m = n
    · subst e
      rw [subP_same (by omega), lenP_same]
      split <;> rfl
    · have hn : 2 ≤ n := by omega
      have h3 := tsplP_lt hn
      have h4 := tsplP_pos hn
      by_cases hk : m ≤ tsplP n
      · rw [subP_left h1 (by omega) (by rw [hl]) hk, lenP_left h1 (by omega) rfl hk, List.length_append, ih (tsplP n) h3 m _ b (by rw [List.length_take]; omega) h1 hk]; rfl
      · rw [subP_right h1 (by omega) (by rw [hl]) hk, lenP_right h1 (by omega) rfl hk, List.length_append, ih (n - tsplP n) (by omega) _ _ false (by rw [List.length_drop]; omega) (by omega) (by omega)]; rfl
/-- the path of a growth. -/
def growP (m : Nat) (ls : List (List Int)) : List (List Int) := if m = 0 then [] else subP m ls true
theorem growP_zero (ls : List (List Int)) : growP 0 ls = [] := rfl
theorem growP_pos {m : Nat} (h : 1 ≤ m) (ls : List (List Int)) : growP m ls = subP m ls true := if_neg (by omega)
theorem growP_all (ls : List (List Int)) : growP ls.length ls = [] := by
  unfold growP
  split
  · rfl
  · rw [subP_same rfl]; rfl
theorem growP_1000 {ls : List (List Int)} {m : Nat} (hn : ls.length ≤ 1000) (hm : m ≤ ls.length) : (growP m ls).length ≤ 11 := by
  unfold growP
  split
  · simp
  · rw [subP_len _ m ls true rfl (by omega) hm]
    exact lenP_le 10 _ _ _ (by omega) hm (by omega)
end Go.Proofs.YtillhpgdlmeajaaGreatDoor

/-
  The contracts of the program's auditPath and growthPath.
-/
namespace Go.Proofs.YtillhpgdlmeajaaGreatDoor
open Go.RowKit
open Go.Proofs
set_option maxRecDepth 100000 in
set_option maxHeartbeats 2000000 in
theorem apath_any (n : Nat) : ∀ (v : Value) (ls : List (List Int)) (i : Nat) (r : List (List Int)) (w : World), r = incP ls i → ls.length = n → i < n → n ≤ 100000 → LcM ls v w → (∀ x ∈ ls, x.length ≤ 1000) → Gl w →
    Calls Tryz.prog 113 #[v, .int .i64 i] w fun e w' => ∃ ao m c, e = .returned (.slice ao m c) ∧ AccR w r (.slice ao m c) w' := by
  induction n using Nat.strongRecOn with
  | ind n ih =>
    intro v ls i r w hr hlen hin hn hL hm hG
    have hbs := hL.bs
    have hLw := hL
    obtain ⟨ao, c, e, h1, h2, h3⟩ := hL.shape
    rw [hlen] at e h1
    subst e
    by_cases h2n : 2 ≤ n
    · have hsmi : ¬ (n : Int) = 1 := by omega
      obtain ⟨k, hk⟩ : ∃ k, k = tsplP n := ⟨_, rfl⟩
      have hk1 : 1 ≤ k := by rw [hk]; exact tsplP_pos h2n
      have hk2 : k < n := by rw [hk]; exact tsplP_lt h2n
      have hkl : k = tsplP ls.length := by rw [hlen]; exact hk
      have HC := hide (tsplit_any n k w (by rw [Int.toNat_natCast]; exact hk) (by omega))
      have HKL : Hid (k ≤ ls.length) := hide (by omega)
      have HLL : Hid (∀ w', Kp [] w.drew w' → LcM ls (.slice ao n c) w') := fun w' k' => hL.kept ((kp_drew w).trans k')
      have HGL : Hid (∀ w', Kp [] w.drew w' → Gl w') := fun w' k' => hG.kept ((kp_drew w).trans k') (by simp)
      obtain ⟨B, hB⟩ : ∃ B, B = w.heap.size := ⟨_, rfl⟩
      have HBW : Hid (∀ w', Kp [] w.drew w' → B ≤ w'.heap.size) := fun w' k' => by rw [hB]; exact k'.size
      have HBB := hide hB
      clear hB
      by_cases hik : i < k
      · have hci : (i : Int) < (k : Int) := by omega
        obtain ⟨pa, hpa⟩ : ∃ p, p = incP (ls.take k) i := ⟨_, rfl⟩
        obtain ⟨rb, hrb⟩ : ∃ r, r = trootP (ls.drop k) := ⟨_, rfl⟩
        have HE : Hid (r = pa ++ [rb]) := hide (by rw [hr, incP_left (by omega) hkl hik, hpa, hrb])
        have hpl : pa.length ≤ 1000000 := by rw [hpa, incP_len k _ i (by simp; omega)]; have := cntP_le 17 k i (by omega); omega
        have HA := hide (fun v w hL hG => ih k (by omega) v (ls.take k) i pa w hpa (by simp; omega) (by omega) (by omega) hL (fun x hx => hm x (List.mem_of_mem_take hx)) hG)
        have HB := hide (fun v w hL hG => troot_any (n - k) v (ls.drop k) rb w hrb (by simp; omega) (by omega) hL (fun x hx => hm x (List.mem_of_mem_drop hx)) hG)
        have HBb : Hid (Bs rb) := by rw [hrb]; exact trootP_bs _ (fun x hx => hbs x (List.mem_of_mem_drop hx))
        clear hbs hm hG hL hLw ih h1 h3 hlen hr hpa hrb hk hkl h2n hik
        go_enter Tryz.func113, Tryz.ntmps113
        go_wp2_with fail
        refine (unhide HC).mono ?_
        rintro ee w2 ⟨rfl, hw⟩
        subst w2
        clear HC hsmi
        go_wp2_with fail
        refine region_grow_tail 10 Tryz.mixed [Is (.slice ao n c), Is (.int .i64 k), LcM ((ls).take k), Is (.int .i64 i), ARt B pa, Is (.slice ao n c), Is (.int .i64 k), LcM ((ls).drop k), RtT B rb, OneT B rb] [[(0, none)], [(5, none)], [(15, some 0), (16, some 1)], [(1, none)], [(17, some 2), (18, some 3)], [(0, none)], [(5, none)], [(20, some 5), (21, some 6)], [(22, some 7)], [(23, some 8)]] (by kernel_rfl) ?_ ?_ ?_
        all_goals try simp only [List.take_succ_cons, List.take_zero, List.drop_succ_cons, List.drop_zero]
        · simp only [List.mem_cons, List.not_mem_nil, or_false]
          intro R hR
          rcases hR with rfl | rfl | rfl | rfl | rfl | rfl | rfl | rfl | rfl | rfl <;> first | exact stable_is _ | exact stable_lcm _ | exact stable_ar _ _ | exact stable_rt _ _ | exact stable_onet _ _
        · refine steps_cons (fun a w hk hn => ?_) ?_
          · have h0 : a.eval (.tmp 0) = .slice ao n c := hn.1
            clear hn
            refine wants_plain rfl ?_
            exact grown_move (.tmp 0) rfl h0
          refine steps_cons (fun a w hk hn => ?_) ?_
          · have h5 : a.eval (.tmp 5) = .int .i64 k := hn.1
            clear hn
            refine wants_plain rfl ?_
            exact grown_move (.tmp 5) rfl h5
          refine steps_cons (fun a w hk hn => ?_) ?_
          · have h15 : a.eval (.tmp 15) = .slice ao n c := hn.1
            have h16 : a.eval (.tmp 16) = .int .i64 k := hn.2.1
            clear hn
            refine wants_plain rfl ?_
            exact grown_lhead (.tmp 15) (.tmp 16) (ls) k rfl (by rw [h15]; exact unhide HLL w hk) h16 (unhide HKL)
          refine steps_cons (fun a w hk hn => ?_) ?_
          · have h1 : a.eval (.tmp 1) = .int .i64 i := hn.1
            clear hn
            refine wants_plain rfl ?_
            exact grown_move (.tmp 1) rfl h1
          refine steps_cons (fun a w hk hn => ?_) ?_
          · have h17 : (LcM ((ls).take k)) (a.eval (.tmp 17)) w := hn.1
            have h18 : a.eval (.tmp 18) = .int .i64 i := hn.2.1
            clear hn
            refine wants_plain rfl ?_
            refine grown_call (f := 113) rfl Tryz.func113 (by kernel_rfl) (by kernel_rfl) ?_
            simp only [List.map_toArray, List.map_cons, List.map_nil, h18]
            refine (unhide HA _ w h17 (unhide HGL w hk)).mono ?_
            rintro e w' ⟨ao, m, c, rfl, A⟩
            exact ⟨_, rfl, A.kp, A.ar (unhide HBW w hk)⟩
          refine steps_cons (fun a w hk hn => ?_) ?_
          · have h0 : a.eval (.tmp 0) = .slice ao n c := hn.1
            clear hn
            refine wants_plain rfl ?_
            exact grown_move (.tmp 0) rfl h0
          refine steps_cons (fun a w hk hn => ?_) ?_
          · have h5 : a.eval (.tmp 5) = .int .i64 k := hn.1
            clear hn
            refine wants_plain rfl ?_
            exact grown_move (.tmp 5) rfl h5
          refine steps_cons (fun a w hk hn => ?_) ?_
          · have h20 : a.eval (.tmp 20) = .slice ao n c := hn.1
            have h21 : a.eval (.tmp 21) = .int .i64 k := hn.2.1
            clear hn
            refine wants_plain rfl ?_
            exact grown_lfrom (.tmp 20) (.tmp 21) (ls) k rfl (by rw [h20]; exact unhide HLL w hk) h21 (unhide HKL)
          refine steps_cons (fun a w hk hn => ?_) ?_
          · have h22 : (LcM ((ls).drop k)) (a.eval (.tmp 22)) w := hn.1
            clear hn
            refine wants_plain rfl ?_
            refine grown_call (f := 67) rfl Tryz.func67 (by kernel_rfl) (by kernel_rfl) ?_
            simp only [List.map_toArray, List.map_cons, List.map_nil]
            refine (unhide HB _ w h22 (unhide HGL w hk)).mono ?_
            rintro e w' ⟨ao, m, c, rfl, R, K⟩
            exact ⟨_, rfl, K, ⟨ao, m, c, rfl, R.sl, ap_row R⟩⟩
          refine steps_cons (fun a w hk hn => ?_) ?_
          · have h23 : (RtT B rb) (a.eval (.tmp 23)) w := hn.1
            clear hn
            refine wants_plain rfl ?_
            exact grown_onet (.tmp 23) rfl B rb h23
          exact trivial
        intro W1 hkW1
        rintro _ rfl
        rintro _ rfl
        intro v17 h17
        rintro _ rfl
        intro v19 h19
        rintro _ rfl
        rintro _ rfl
        intro v22 h22
        intro v23 h23
        intro v24 h24
        refine fin_nil ?_
        simp only [Act.put, List.set_cons_zero, List.set_cons_succ, List.setIfInBounds_toArray]
        rw [unhide HBB] at h19 h24
        have HH1 := hide h19
        have HH2 := hide h24
        have HKW := hide ((kp_drew w).trans hkW1)
        clear hkW1 h19 h24 h23 h17 h22
        go_wp2_with (at_builtin; refine wpList_accp (w := w) rfl (.tmp 19) (.tmp 24) rfl v19 v24 rfl rfl pa (unhide HH1) hpl rb (unhide HH2) (unhide HBb) (unhide HKW) ?_; intro ao5 m5 c5 w5 A5)
        go_ret
        exact ⟨ao5, m5, c5, rfl, by rw [unhide HE]; exact A5⟩
      · have hci : ¬ (i : Int) < (k : Int) := by omega
        obtain ⟨q, hq⟩ : ∃ q, q + k = i := ⟨i - k, by omega⟩
        obtain ⟨pa, hpa⟩ : ∃ p, p = incP (ls.drop k) q := ⟨_, rfl⟩
        obtain ⟨rb, hrb⟩ : ∃ r, r = trootP (ls.take k) := ⟨_, rfl⟩
        have HE : Hid (r = pa ++ [rb]) := hide (by rw [hr, incP_right (by omega) hkl hik, show i - k = q by omega, hpa, hrb])
        have hpl : pa.length ≤ 1000000 := by rw [hpa, incP_len (n - k) _ q (by simp; omega)]; have := cntP_le 17 (n - k) q (by omega); omega
        have HA := hide (fun v w hL hG => ih (n - k) (by omega) v (ls.drop k) q pa w hpa (by simp; omega) (by omega) (by omega) hL (fun x hx => hm x (List.mem_of_mem_drop hx)) hG)
        have HB := hide (fun v w hL hG => troot_any k v (ls.take k) rb w hrb (by simp; omega) (by omega) hL (fun x hx => hm x (List.mem_of_mem_take hx)) hG)
        have HBb : Hid (Bs rb) := by rw [hrb]; exact trootP_bs _ (fun x hx => hbs x (List.mem_of_mem_take hx))
        clear hbs hm hG hL hLw ih h1 h3 hlen hr hpa hrb hk hkl h2n hik
        go_enter Tryz.func113, Tryz.ntmps113
        go_wp2_with fail
        refine (unhide HC).mono ?_
        rintro ee w2 ⟨rfl, hw⟩
        subst w2
        clear HC hsmi
        go_wp2_with fail
        refine region_grow_tail 12 Tryz.mixed [Is (.slice ao n c), Is (.int .i64 k), LcM ((ls).drop k), Is (.int .i64 i), Is (.int .i64 k), Is (.int .i64 q), ARt B pa, Is (.slice ao n c), Is (.int .i64 k), LcM ((ls).take k), RtT B rb, OneT B rb] [[(0, none)], [(5, none)], [(26, some 0), (27, some 1)], [(1, none)], [(5, none)], [(29, some 3), (30, some 4)], [(28, some 2), (31, some 5)], [(0, none)], [(5, none)], [(33, some 7), (34, some 8)], [(35, some 9)], [(36, some 10)]] (by kernel_rfl) ?_ ?_ ?_
        all_goals try simp only [List.take_succ_cons, List.take_zero, List.drop_succ_cons, List.drop_zero]
        · simp only [List.mem_cons, List.not_mem_nil, or_false]
          intro R hR
          rcases hR with rfl | rfl | rfl | rfl | rfl | rfl | rfl | rfl | rfl | rfl | rfl | rfl <;> first | exact stable_is _ | exact stable_lcm _ | exact stable_ar _ _ | exact stable_rt _ _ | exact stable_onet _ _
        · refine steps_cons (fun a w hk hn => ?_) ?_
          · have h0 : a.eval (.tmp 0) = .slice ao n c := hn.1
            clear hn
            refine wants_plain rfl ?_
            exact grown_move (.tmp 0) rfl h0
          refine steps_cons (fun a w hk hn => ?_) ?_
          · have h5 : a.eval (.tmp 5) = .int .i64 k := hn.1
            clear hn
            refine wants_plain rfl ?_
            exact grown_move (.tmp 5) rfl h5
          refine steps_cons (fun a w hk hn => ?_) ?_
          · have h26 : a.eval (.tmp 26) = .slice ao n c := hn.1
            have h27 : a.eval (.tmp 27) = .int .i64 k := hn.2.1
            clear hn
            refine wants_plain rfl ?_
            exact grown_lfrom (.tmp 26) (.tmp 27) (ls) k rfl (by rw [h26]; exact unhide HLL w hk) h27 (unhide HKL)
          refine steps_cons (fun a w hk hn => ?_) ?_
          · have h1 : a.eval (.tmp 1) = .int .i64 i := hn.1
            clear hn
            refine wants_plain rfl ?_
            exact grown_move (.tmp 1) rfl h1
          refine steps_cons (fun a w hk hn => ?_) ?_
          · have h5 : a.eval (.tmp 5) = .int .i64 k := hn.1
            clear hn
            refine wants_plain rfl ?_
            exact grown_move (.tmp 5) rfl h5
          refine steps_cons (fun a w hk hn => ?_) ?_
          · have h29 : a.eval (.tmp 29) = .int .i64 i := hn.1
            have h30 : a.eval (.tmp 30) = .int .i64 k := hn.2.1
            clear hn
            refine wants_plain rfl ?_
            refine grown_run (v := .int .i64 q) ?_ (Kp.refl _ _) rfl
            obtain ⟨ρ, hρ, hc, hf, hg⟩ := eval_is a
            rw [hρ] at h29 h30 ⊢
            simp [go_sem, h29, h30]
            exact wrap_at (by omega) (by omega) (by omega)
          refine steps_cons (fun a w hk hn => ?_) ?_
          · have h28 : (LcM ((ls).drop k)) (a.eval (.tmp 28)) w := hn.1
            have h31 : a.eval (.tmp 31) = .int .i64 q := hn.2.1
            clear hn
            refine wants_plain rfl ?_
            refine grown_call (f := 113) rfl Tryz.func113 (by kernel_rfl) (by kernel_rfl) ?_
            simp only [List.map_toArray, List.map_cons, List.map_nil, h31]
            refine (unhide HA _ w h28 (unhide HGL w hk)).mono ?_
            rintro e w' ⟨ao, m, c, rfl, A⟩
            exact ⟨_, rfl, A.kp, A.ar (unhide HBW w hk)⟩
          refine steps_cons (fun a w hk hn => ?_) ?_
          · have h0 : a.eval (.tmp 0) = .slice ao n c := hn.1
            clear hn
            refine wants_plain rfl ?_
            exact grown_move (.tmp 0) rfl h0
          refine steps_cons (fun a w hk hn => ?_) ?_
          · have h5 : a.eval (.tmp 5) = .int .i64 k := hn.1
            clear hn
            refine wants_plain rfl ?_
            exact grown_move (.tmp 5) rfl h5
          refine steps_cons (fun a w hk hn => ?_) ?_
          · have h33 : a.eval (.tmp 33) = .slice ao n c := hn.1
            have h34 : a.eval (.tmp 34) = .int .i64 k := hn.2.1
            clear hn
            refine wants_plain rfl ?_
            exact grown_lhead (.tmp 33) (.tmp 34) (ls) k rfl (by rw [h33]; exact unhide HLL w hk) h34 (unhide HKL)
          refine steps_cons (fun a w hk hn => ?_) ?_
          · have h35 : (LcM ((ls).take k)) (a.eval (.tmp 35)) w := hn.1
            clear hn
            refine wants_plain rfl ?_
            refine grown_call (f := 67) rfl Tryz.func67 (by kernel_rfl) (by kernel_rfl) ?_
            simp only [List.map_toArray, List.map_cons, List.map_nil]
            refine (unhide HB _ w h35 (unhide HGL w hk)).mono ?_
            rintro e w' ⟨ao, m, c, rfl, R, K⟩
            exact ⟨_, rfl, K, ⟨ao, m, c, rfl, R.sl, ap_row R⟩⟩
          refine steps_cons (fun a w hk hn => ?_) ?_
          · have h36 : (RtT B rb) (a.eval (.tmp 36)) w := hn.1
            clear hn
            refine wants_plain rfl ?_
            exact grown_onet (.tmp 36) rfl B rb h36
          exact trivial
        intro W1 hkW1
        rintro _ rfl
        rintro _ rfl
        intro v28 h28
        rintro _ rfl
        rintro _ rfl
        rintro _ rfl
        intro v32 h32
        rintro _ rfl
        rintro _ rfl
        intro v35 h35
        intro v36 h36
        intro v37 h37
        refine fin_nil ?_
        simp only [Act.put, List.set_cons_zero, List.set_cons_succ, List.setIfInBounds_toArray]
        rw [unhide HBB] at h32 h37
        have HH1 := hide h32
        have HH2 := hide h37
        have HKW := hide ((kp_drew w).trans hkW1)
        clear hkW1 h32 h37 h36 h28 h35
        go_wp2_with (at_builtin; refine wpList_accp (w := w) rfl (.tmp 32) (.tmp 37) rfl v32 v37 rfl rfl pa (unhide HH1) hpl rb (unhide HH2) (unhide HBb) (unhide HKW) ?_; intro ao5 m5 c5 w5 A5)
        go_ret
        exact ⟨ao5, m5, c5, rfl, by rw [unhide HE]; exact A5⟩
    · obtain rfl : n = 1 := by omega
      obtain rfl : r = [] := by rw [hr, incP_small (by omega)]
      clear hbs hm hG hL hLw ih h1 h3 hlen hr
      go_enter Tryz.func113, Tryz.ntmps113
      go_wp2_with fail
      go_ret
      exact ⟨none, 0, 0, rfl, AccR.nil w⟩
set_option maxRecDepth 100000 in
set_option maxHeartbeats 2000000 in
theorem gpath_any (n : Nat) : ∀ (v : Value) (ls : List (List Int)) (m : Nat) (b : Bool) (r : List (List Int)) (w : World), r = subP m ls b → ls.length = n → 1 ≤ m → m ≤ n → n ≤ 100000 → LcM ls v w → (∀ x ∈ ls, x.length ≤ 1000) → Gl w →
    Calls Tryz.prog 114 #[v, .int .i64 m, .bool b] w fun e w' => ∃ ao m c, e = .returned (.slice ao m c) ∧ AccR w r (.slice ao m c) w' := by
  induction n using Nat.strongRecOn with
  | ind n ih =>
    intro v ls m b r w hr hlen h1m hin hn hL hm hG
    have hbs := hL.bs
    have hLw := hL
    obtain ⟨ao, c, e, h1, h2, h3⟩ := hL.shape
    rw [hlen] at e h1
    subst e
    by_cases hsm : m = n
    · subst hsm
      rw [subP_same hlen.symm] at hr
      cases b with
      | true =>
        obtain rfl : r = [] := hr
        clear hbs hm hG hL hLw ih h1 h3 hlen
        go_enter Tryz.func114, Tryz.ntmps114
        go_wp2_with fail
        go_ret
        exact ⟨none, 0, 0, rfl, AccR.nil w⟩
      | false =>
        obtain ⟨ra, hra⟩ : ∃ r, r = trootP ls := ⟨_, rfl⟩
        have HRE : Hid (r = [ra]) := by rw [hra]; exact hr
        have HRB : Hid (Bs ra) := by rw [hra]; exact trootP_bs _ hbs
        have HC := hide (troot_any m _ ls ra w hra hlen hn hL hm hG)
        clear hbs hm hG hL hLw ih h1 h3 hlen hra hr
        go_enter Tryz.func114, Tryz.ntmps114
        go_wp2_with fail
        refine (unhide HC).mono ?_
        rintro ee w2 ⟨a2, m2, c2, rfl, R2, K2⟩
        have HA := hide (accr_one K2 R2.sl (unhide HRB))
        clear R2 K2 HC
        go_wp2_with fail
        go_ret
        exact ⟨_, _, _, rfl, by rw [unhide HRE]; exact unhide HA⟩
    · have hsmi : ¬ (m : Int) = (n : Int) := by omega
      have h2n : 2 ≤ n := by omega
      obtain ⟨k, hk⟩ : ∃ k, k = tsplP n := ⟨_, rfl⟩
      have hk1 : 1 ≤ k := by rw [hk]; exact tsplP_pos h2n
      have hk2 : k < n := by rw [hk]; exact tsplP_lt h2n
      have hkl : k = tsplP ls.length := by rw [hlen]; exact hk
      have HC := hide (tsplit_any n k w (by rw [Int.toNat_natCast]; exact hk) (by omega))
      have HKL : Hid (k ≤ ls.length) := hide (by omega)
      have HLL : Hid (∀ w', Kp [] w.drew w' → LcM ls (.slice ao n c) w') := fun w' k' => hL.kept ((kp_drew w).trans k')
      have HGL : Hid (∀ w', Kp [] w.drew w' → Gl w') := fun w' k' => hG.kept ((kp_drew w).trans k') (by simp)
      obtain ⟨B, hB⟩ : ∃ B, B = w.heap.size := ⟨_, rfl⟩
      have HBW : Hid (∀ w', Kp [] w.drew w' → B ≤ w'.heap.size) := fun w' k' => by rw [hB]; exact k'.size
      have HBB := hide hB
      clear hB
      by_cases hik : m ≤ k
      · have hci : (m : Int) ≤ (k : Int) := by omega
        obtain ⟨pa, hpa⟩ : ∃ p, p = subP m (ls.take k) b := ⟨_, rfl⟩
        obtain ⟨rb, hrb⟩ : ∃ r, r = trootP (ls.drop k) := ⟨_, rfl⟩
        have HE : Hid (r = pa ++ [rb]) := hide (by rw [hr, subP_left h1m (by omega) hkl hik, hpa, hrb])
        have hpl : pa.length ≤ 1000000 := by rw [hpa, subP_len k m _ b (by simp; omega) (by omega) (by omega)]; have := lenP_le 17 m k b (by omega) (by omega) (by omega); omega
        have HA := hide (fun v w hL hG => ih k (by omega) v (ls.take k) m b pa w hpa (by simp; omega) (by omega) (by omega) (by omega) hL (fun x hx => hm x (List.mem_of_mem_take hx)) hG)
        have HB := hide (fun v w hL hG => troot_any (n - k) v (ls.drop k) rb w hrb (by simp; omega) (by omega) hL (fun x hx => hm x (List.mem_of_mem_drop hx)) hG)
        have HBb : Hid (Bs rb) := by rw [hrb]; exact trootP_bs _ (fun x hx => hbs x (List.mem_of_mem_drop hx))
        clear hbs hm hG hL hLw ih h1 h3 hlen hr hpa hrb hk hkl h2n hik h1m hsm
        go_enter Tryz.func114, Tryz.ntmps114
        go_wp2_with fail
        refine (unhide HC).mono ?_
        rintro ee w2 ⟨rfl, hw⟩
        subst w2
        clear HC hsmi
        go_wp2_with fail
        refine region_grow_tail 11 Tryz.mixed [Is (.slice ao n c), Is (.int .i64 k), LcM ((ls).take k), Is (.int .i64 m), Is (.bool b), ARt B pa, Is (.slice ao n c), Is (.int .i64 k), LcM ((ls).drop k), RtT B rb, OneT B rb] [[(0, none)], [(7, none)], [(22, some 0), (23, some 1)], [(1, none)], [(2, none)], [(24, some 2), (25, some 3), (26, some 4)], [(0, none)], [(7, none)], [(28, some 6), (29, some 7)], [(30, some 8)], [(31, some 9)]] (by kernel_rfl) ?_ ?_ ?_
        all_goals try simp only [List.take_succ_cons, List.take_zero, List.drop_succ_cons, List.drop_zero]
        · simp only [List.mem_cons, List.not_mem_nil, or_false]
          intro R hR
          rcases hR with rfl | rfl | rfl | rfl | rfl | rfl | rfl | rfl | rfl | rfl | rfl <;> first | exact stable_is _ | exact stable_lcm _ | exact stable_ar _ _ | exact stable_rt _ _ | exact stable_onet _ _
        · refine steps_cons (fun a w hk hn => ?_) ?_
          · have h0 : a.eval (.tmp 0) = .slice ao n c := hn.1
            clear hn
            refine wants_plain rfl ?_
            exact grown_move (.tmp 0) rfl h0
          refine steps_cons (fun a w hk hn => ?_) ?_
          · have h7 : a.eval (.tmp 7) = .int .i64 k := hn.1
            clear hn
            refine wants_plain rfl ?_
            exact grown_move (.tmp 7) rfl h7
          refine steps_cons (fun a w hk hn => ?_) ?_
          · have h22 : a.eval (.tmp 22) = .slice ao n c := hn.1
            have h23 : a.eval (.tmp 23) = .int .i64 k := hn.2.1
            clear hn
            refine wants_plain rfl ?_
            exact grown_lhead (.tmp 22) (.tmp 23) (ls) k rfl (by rw [h22]; exact unhide HLL w hk) h23 (unhide HKL)
          refine steps_cons (fun a w hk hn => ?_) ?_
          · have h1 : a.eval (.tmp 1) = .int .i64 m := hn.1
            clear hn
            refine wants_plain rfl ?_
            exact grown_move (.tmp 1) rfl h1
          refine steps_cons (fun a w hk hn => ?_) ?_
          · have h2 : a.eval (.tmp 2) = .bool b := hn.1
            clear hn
            refine wants_plain rfl ?_
            exact grown_move (.tmp 2) rfl h2
          refine steps_cons (fun a w hk hn => ?_) ?_
          · have h24 : (LcM ((ls).take k)) (a.eval (.tmp 24)) w := hn.1
            have h25 : a.eval (.tmp 25) = .int .i64 m := hn.2.1
            have h26 : a.eval (.tmp 26) = .bool b := hn.2.2.1
            clear hn
            refine wants_plain rfl ?_
            refine grown_call (f := 114) rfl Tryz.func114 (by kernel_rfl) (by kernel_rfl) ?_
            simp only [List.map_toArray, List.map_cons, List.map_nil, h25, h26]
            refine (unhide HA _ w h24 (unhide HGL w hk)).mono ?_
            rintro e w' ⟨ao, m, c, rfl, A⟩
            exact ⟨_, rfl, A.kp, A.ar (unhide HBW w hk)⟩
          refine steps_cons (fun a w hk hn => ?_) ?_
          · have h0 : a.eval (.tmp 0) = .slice ao n c := hn.1
            clear hn
            refine wants_plain rfl ?_
            exact grown_move (.tmp 0) rfl h0
          refine steps_cons (fun a w hk hn => ?_) ?_
          · have h7 : a.eval (.tmp 7) = .int .i64 k := hn.1
            clear hn
            refine wants_plain rfl ?_
            exact grown_move (.tmp 7) rfl h7
          refine steps_cons (fun a w hk hn => ?_) ?_
          · have h28 : a.eval (.tmp 28) = .slice ao n c := hn.1
            have h29 : a.eval (.tmp 29) = .int .i64 k := hn.2.1
            clear hn
            refine wants_plain rfl ?_
            exact grown_lfrom (.tmp 28) (.tmp 29) (ls) k rfl (by rw [h28]; exact unhide HLL w hk) h29 (unhide HKL)
          refine steps_cons (fun a w hk hn => ?_) ?_
          · have h30 : (LcM ((ls).drop k)) (a.eval (.tmp 30)) w := hn.1
            clear hn
            refine wants_plain rfl ?_
            refine grown_call (f := 67) rfl Tryz.func67 (by kernel_rfl) (by kernel_rfl) ?_
            simp only [List.map_toArray, List.map_cons, List.map_nil]
            refine (unhide HB _ w h30 (unhide HGL w hk)).mono ?_
            rintro e w' ⟨ao, m, c, rfl, R, K⟩
            exact ⟨_, rfl, K, ⟨ao, m, c, rfl, R.sl, ap_row R⟩⟩
          refine steps_cons (fun a w hk hn => ?_) ?_
          · have h31 : (RtT B rb) (a.eval (.tmp 31)) w := hn.1
            clear hn
            refine wants_plain rfl ?_
            exact grown_onet (.tmp 31) rfl B rb h31
          exact trivial
        intro W1 hkW1
        rintro _ rfl
        rintro _ rfl
        intro v24 h24
        rintro _ rfl
        rintro _ rfl
        intro v27 h27
        rintro _ rfl
        rintro _ rfl
        intro v30 h30
        intro v31 h31
        intro v32 h32
        refine fin_nil ?_
        simp only [Act.put, List.set_cons_zero, List.set_cons_succ, List.setIfInBounds_toArray]
        rw [unhide HBB] at h27 h32
        have HH1 := hide h27
        have HH2 := hide h32
        have HKW := hide ((kp_drew w).trans hkW1)
        clear hkW1 h27 h32 h31 h24 h30
        go_wp2_with (at_builtin; refine wpList_accp (w := w) rfl (.tmp 27) (.tmp 32) rfl v27 v32 rfl rfl pa (unhide HH1) hpl rb (unhide HH2) (unhide HBb) (unhide HKW) ?_; intro ao5 m5 c5 w5 A5)
        go_ret
        exact ⟨ao5, m5, c5, rfl, by rw [unhide HE]; exact A5⟩
      · have hci : ¬ (m : Int) ≤ (k : Int) := by omega
        obtain ⟨q, hq⟩ : ∃ q, q + k = m := ⟨m - k, by omega⟩
        obtain ⟨pa, hpa⟩ : ∃ p, p = subP q (ls.drop k) false := ⟨_, rfl⟩
        obtain ⟨rb, hrb⟩ : ∃ r, r = trootP (ls.take k) := ⟨_, rfl⟩
        have HE : Hid (r = pa ++ [rb]) := hide (by rw [hr, subP_right h1m (by omega) hkl hik, show m - k = q by omega, hpa, hrb])
        have hpl : pa.length ≤ 1000000 := by rw [hpa, subP_len (n - k) q _ false (by simp; omega) (by omega) (by omega)]; have := lenP_le 17 q (n - k) false (by omega) (by omega) (by omega); omega
        have HA := hide (fun v w hL hG => ih (n - k) (by omega) v (ls.drop k) q false pa w hpa (by simp; omega) (by omega) (by omega) (by omega) hL (fun x hx => hm x (List.mem_of_mem_drop hx)) hG)
        have HB := hide (fun v w hL hG => troot_any k v (ls.take k) rb w hrb (by simp; omega) (by omega) hL (fun x hx => hm x (List.mem_of_mem_take hx)) hG)
        have HBb : Hid (Bs rb) := by rw [hrb]; exact trootP_bs _ (fun x hx => hbs x (List.mem_of_mem_take hx))
        clear hbs hm hG hL hLw ih h1 h3 hlen hr hpa hrb hk hkl h2n hik h1m hsm
        go_enter Tryz.func114, Tryz.ntmps114
        go_wp2_with fail
        refine (unhide HC).mono ?_
        rintro ee w2 ⟨rfl, hw⟩
        subst w2
        clear HC hsmi
        go_wp2_with fail
        refine region_grow_tail 12 Tryz.mixed [Is (.slice ao n c), Is (.int .i64 k), LcM ((ls).drop k), Is (.int .i64 m), Is (.int .i64 k), Is (.int .i64 q), ARt B pa, Is (.slice ao n c), Is (.int .i64 k), LcM ((ls).take k), RtT B rb, OneT B rb] [[(0, none)], [(7, none)], [(34, some 0), (35, some 1)], [(1, none)], [(7, none)], [(37, some 3), (38, some 4)], [(36, some 2), (39, some 5)], [(0, none)], [(7, none)], [(41, some 7), (42, some 8)], [(43, some 9)], [(44, some 10)]] (by kernel_rfl) ?_ ?_ ?_
        all_goals try simp only [List.take_succ_cons, List.take_zero, List.drop_succ_cons, List.drop_zero]
        · simp only [List.mem_cons, List.not_mem_nil, or_false]
          intro R hR
          rcases hR with rfl | rfl | rfl | rfl | rfl | rfl | rfl | rfl | rfl | rfl | rfl | rfl <;> first | exact stable_is _ | exact stable_lcm _ | exact stable_ar _ _ | exact stable_rt _ _ | exact stable_onet _ _
        · refine steps_cons (fun a w hk hn => ?_) ?_
          · have h0 : a.eval (.tmp 0) = .slice ao n c := hn.1
            clear hn
            refine wants_plain rfl ?_
            exact grown_move (.tmp 0) rfl h0
          refine steps_cons (fun a w hk hn => ?_) ?_
          · have h7 : a.eval (.tmp 7) = .int .i64 k := hn.1
            clear hn
            refine wants_plain rfl ?_
            exact grown_move (.tmp 7) rfl h7
          refine steps_cons (fun a w hk hn => ?_) ?_
          · have h34 : a.eval (.tmp 34) = .slice ao n c := hn.1
            have h35 : a.eval (.tmp 35) = .int .i64 k := hn.2.1
            clear hn
            refine wants_plain rfl ?_
            exact grown_lfrom (.tmp 34) (.tmp 35) (ls) k rfl (by rw [h34]; exact unhide HLL w hk) h35 (unhide HKL)
          refine steps_cons (fun a w hk hn => ?_) ?_
          · have h1 : a.eval (.tmp 1) = .int .i64 m := hn.1
            clear hn
            refine wants_plain rfl ?_
            exact grown_move (.tmp 1) rfl h1
          refine steps_cons (fun a w hk hn => ?_) ?_
          · have h7 : a.eval (.tmp 7) = .int .i64 k := hn.1
            clear hn
            refine wants_plain rfl ?_
            exact grown_move (.tmp 7) rfl h7
          refine steps_cons (fun a w hk hn => ?_) ?_
          · have h37 : a.eval (.tmp 37) = .int .i64 m := hn.1
            have h38 : a.eval (.tmp 38) = .int .i64 k := hn.2.1
            clear hn
            refine wants_plain rfl ?_
            refine grown_run (v := .int .i64 q) ?_ (Kp.refl _ _) rfl
            obtain ⟨ρ, hρ, hc, hf, hg⟩ := eval_is a
            rw [hρ] at h37 h38 ⊢
            simp [go_sem, h37, h38]
            exact wrap_at (by omega) (by omega) (by omega)
          refine steps_cons (fun a w hk hn => ?_) ?_
          · have h36 : (LcM ((ls).drop k)) (a.eval (.tmp 36)) w := hn.1
            have h39 : a.eval (.tmp 39) = .int .i64 q := hn.2.1
            clear hn
            refine wants_plain rfl ?_
            refine grown_call (f := 114) rfl Tryz.func114 (by kernel_rfl) (by kernel_rfl) ?_
            simp only [List.map_toArray, List.map_cons, List.map_nil, h39]
            refine (unhide HA _ w h36 (unhide HGL w hk)).mono ?_
            rintro e w' ⟨ao, m, c, rfl, A⟩
            exact ⟨_, rfl, A.kp, A.ar (unhide HBW w hk)⟩
          refine steps_cons (fun a w hk hn => ?_) ?_
          · have h0 : a.eval (.tmp 0) = .slice ao n c := hn.1
            clear hn
            refine wants_plain rfl ?_
            exact grown_move (.tmp 0) rfl h0
          refine steps_cons (fun a w hk hn => ?_) ?_
          · have h7 : a.eval (.tmp 7) = .int .i64 k := hn.1
            clear hn
            refine wants_plain rfl ?_
            exact grown_move (.tmp 7) rfl h7
          refine steps_cons (fun a w hk hn => ?_) ?_
          · have h41 : a.eval (.tmp 41) = .slice ao n c := hn.1
            have h42 : a.eval (.tmp 42) = .int .i64 k := hn.2.1
            clear hn
            refine wants_plain rfl ?_
            exact grown_lhead (.tmp 41) (.tmp 42) (ls) k rfl (by rw [h41]; exact unhide HLL w hk) h42 (unhide HKL)
          refine steps_cons (fun a w hk hn => ?_) ?_
          · have h43 : (LcM ((ls).take k)) (a.eval (.tmp 43)) w := hn.1
            clear hn
            refine wants_plain rfl ?_
            refine grown_call (f := 67) rfl Tryz.func67 (by kernel_rfl) (by kernel_rfl) ?_
            simp only [List.map_toArray, List.map_cons, List.map_nil]
            refine (unhide HB _ w h43 (unhide HGL w hk)).mono ?_
            rintro e w' ⟨ao, m, c, rfl, R, K⟩
            exact ⟨_, rfl, K, ⟨ao, m, c, rfl, R.sl, ap_row R⟩⟩
          refine steps_cons (fun a w hk hn => ?_) ?_
          · have h44 : (RtT B rb) (a.eval (.tmp 44)) w := hn.1
            clear hn
            refine wants_plain rfl ?_
            exact grown_onet (.tmp 44) rfl B rb h44
          exact trivial
        intro W1 hkW1
        rintro _ rfl
        rintro _ rfl
        intro v36 h36
        rintro _ rfl
        rintro _ rfl
        rintro _ rfl
        intro v40 h40
        rintro _ rfl
        rintro _ rfl
        intro v43 h43
        intro v44 h44
        intro v45 h45
        refine fin_nil ?_
        simp only [Act.put, List.set_cons_zero, List.set_cons_succ, List.setIfInBounds_toArray]
        rw [unhide HBB] at h40 h45
        have HH1 := hide h40
        have HH2 := hide h45
        have HKW := hide ((kp_drew w).trans hkW1)
        clear hkW1 h40 h45 h44 h36 h43
        go_wp2_with (at_builtin; refine wpList_accp (w := w) rfl (.tmp 40) (.tmp 45) rfl v40 v45 rfl rfl pa (unhide HH1) hpl rb (unhide HH2) (unhide HBb) (unhide HKW) ?_; intro ao5 m5 c5 w5 A5)
        go_ret
        exact ⟨ao5, m5, c5, rfl, by rw [unhide HE]; exact A5⟩
end Go.Proofs.YtillhpgdlmeajaaGreatDoor

/-
  The contracts of the program's Include and Grow.
-/
namespace Go.Proofs.YtillhpgdlmeajaaGreatDoor
open Go.RowKit
open Go.Proofs
theorem incP_1000 {ls : List (List Int)} {i : Nat} (hn : ls.length ≤ 1000) : (incP ls i).length ≤ 10 := by
  rw [incP_len _ ls i rfl]
  exact cntP_le 10 _ _ (by omega)
theorem gl_alloc {w : World} (hG : Gl w) (o : Obj) : Gl (w.alloc o) := hG.kept ((Kp.refl [] w).alloc o) (by simp)
set_option maxRecDepth 100000 in
set_option maxHeartbeats 1000000 in
theorem include_no (v : Value) (ls : List (List Int)) (i : Int) (w : World) (hL : LcM ls v w) (hi : ¬ (0 ≤ i ∧ i < (ls.length : Int))) :
    Calls Tryz.prog 74 #[v, .int .i64 i] w fun e w' => e = .returned (.tuple #[.agg #[.int .i64 0, .int .i64 0, .slice none 0 0], .int .i64 1]) ∧ Kp [] w w' := by
  have G1 := heap_alloc_new w (.cells #[.int .i64 0, .int .i64 0, .slice none 0 0] 54)
  have HK1 := hide ((Kp.refl [] w).alloc (.cells #[.int .i64 0, .int .i64 0, .slice none 0 0] 54))
  obtain ⟨ao, c, e, h1, h2, h3⟩ := hL.shape
  obtain ⟨n, hnn⟩ : ∃ n, n = ls.length := ⟨_, rfl⟩
  rw [← hnn] at e hi
  subst e
  clear hL hnn h1 h2 h3
  by_cases hi1 : i < 0
  · clear hi
    go_enter Tryz.func74, Tryz.ntmps74
    go_wp2_with (refine wpList_store_tri triP rfl (.tmp 4) (.tmp 14) rfl w.heap.size rfl _ _ _ _ _ _ G1 rfl ⟨rfl, rfl, rfl⟩ ?_; intro w4 G4 K4)
    refine bodyPost_ret (results_tri triP rfl _ rfl G4) rfl ?_
    exact ⟨rfl, (unhide HK1).then K4 (by simp)⟩
  · have hi2 : (n : Int) ≤ i := by omega
    clear hi
    go_enter Tryz.func74, Tryz.ntmps74
    go_wp2_with (refine wpList_store_tri triP rfl (.tmp 4) (.tmp 14) rfl w.heap.size rfl _ _ _ _ _ _ G1 rfl ⟨rfl, rfl, rfl⟩ ?_; intro w4 G4 K4)
    refine bodyPost_ret (results_tri triP rfl _ rfl G4) rfl ?_
    exact ⟨rfl, (unhide HK1).then K4 (by simp)⟩
set_option maxRecDepth 100000 in
set_option maxHeartbeats 1000000 in
theorem grow_no (v : Value) (ls : List (List Int)) (i : Int) (w : World) (hL : LcM ls v w) (hi : ¬ (0 ≤ i ∧ i ≤ (ls.length : Int))) :
    Calls Tryz.prog 75 #[v, .int .i64 i] w fun e w' => e = .returned (.tuple #[.agg #[.int .i64 0, .int .i64 0, .slice none 0 0], .int .i64 1]) ∧ Kp [] w w' := by
  have G1 := heap_alloc_new w (.cells #[.int .i64 0, .int .i64 0, .slice none 0 0] 60)
  have HK1 := hide ((Kp.refl [] w).alloc (.cells #[.int .i64 0, .int .i64 0, .slice none 0 0] 60))
  obtain ⟨ao, c, e, h1, h2, h3⟩ := hL.shape
  obtain ⟨n, hnn⟩ : ∃ n, n = ls.length := ⟨_, rfl⟩
  rw [← hnn] at e hi
  subst e
  clear hL hnn h1 h2 h3
  by_cases hi1 : i < 0
  · clear hi
    go_enter Tryz.func75, Tryz.ntmps75
    go_wp2_with (refine wpList_store_tri triG rfl (.tmp 4) (.tmp 15) rfl w.heap.size rfl _ _ _ _ _ _ G1 rfl ⟨rfl, rfl, rfl⟩ ?_; intro w4 G4 K4)
    refine bodyPost_ret (results_tri triG rfl _ rfl G4) rfl ?_
    exact ⟨rfl, (unhide HK1).then K4 (by simp)⟩
  · have hi2 : (n : Int) < i := by omega
    clear hi
    go_enter Tryz.func75, Tryz.ntmps75
    go_wp2_with (refine wpList_store_tri triG rfl (.tmp 4) (.tmp 15) rfl w.heap.size rfl _ _ _ _ _ _ G1 rfl ⟨rfl, rfl, rfl⟩ ?_; intro w4 G4 K4)
    refine bodyPost_ret (results_tri triG rfl _ rfl G4) rfl ?_
    exact ⟨rfl, (unhide HK1).then K4 (by simp)⟩
end Go.Proofs.YtillhpgdlmeajaaGreatDoor

/-
  The contracts of the ledger's Include and Grow.
-/
namespace Go.Proofs.YtillhpgdlmeajaaGreatDoor
open Go.RowKit
open Go.Proofs
set_option linter.unusedVariables false
set_option maxRecDepth 100000 in
set_option maxHeartbeats 1000000 in
/-- as include_ok; and what is told stays so while a block of that kind, which was there, is written. -/
theorem include_okK (v : Value) (ls : List (List Int)) (i : Nat) (w : World) (hL : LcM ls v w) (hi : i < ls.length) (hn : ls.length ≤ 1000) (hm : ∀ x ∈ ls, x.length ≤ 1000) (hG : Gl w) (g : Nat) (x y : Int) (t : TypeId) (hg : g < w.heap.size) (hgo : w.heap[g]? = some (.cells #[.int .i64 x, .int .i64 y, .slice none 0 0] t (0, 0))) :
    Calls Tryz.prog 74 #[v, .int .i64 i] w fun e w' => ∃ a m c, e = .returned (.tuple #[.agg #[.int .i64 i, .int .i64 ls.length, .slice a m c], .int .i64 0]) ∧ (∀ w2, Kp [g] w' w2 → LcM (incP ls i) (.slice a m c) w2) ∧ Kp [] w w' := by
  obtain ⟨ob, hob⟩ : ∃ o : Obj, o = (.cells #[.int .i64 0, .int .i64 0, .slice none 0 0] 54) := ⟨_, rfl⟩
  have K1 : Kp [] w (w.alloc ob) := (Kp.refl [] w).alloc ob
  obtain ⟨ps, hps⟩ : ∃ ps, ps = incP ls i := ⟨_, rfl⟩
  have HC := hide (apath_any ls.length v ls i ps (w.alloc ob) hps rfl hi (by omega) (hL.kept K1) hm (gl_alloc hG ob))
  have G1 : Hid ((w.alloc ob).heap[w.heap.size]? = some ob) := heap_alloc_new w ob
  have HGo : Hid ((w.alloc ob).heap[g]? = some (.cells #[.int .i64 x, .int .i64 y, .slice none 0 0] t (0, 0))) := K1.heap hgo (by simp)
  have HZ : Hid (w.heap.size < (w.alloc ob).heap.size) := hide (by simp)
  have HZ2 : Hid (g < w.heap.size) := hide hg
  have hpl : ps.length ≤ 1000 := by rw [hps]; have := incP_1000 (i := i) hn; omega
  rw [← hps]
  obtain ⟨ao, c, e, h1, h2, h3⟩ := hL.shape
  obtain ⟨n, hnn⟩ : ∃ n, n = ls.length := ⟨_, rfl⟩
  rw [← hnn] at e hi hn ⊢
  subst e
  rw [hob] at K1 HC G1 HZ HGo
  have HK1 := hide K1
  have hi1 : ¬ (i : Int) < 0 := by omega
  have hi2 : ¬ (n : Int) ≤ (i : Int) := by omega
  clear hob K1 hps hm hG hL h1 h2 h3 hnn hg hgo
  go_enter Tryz.func74, Tryz.ntmps74
  go_wp2_with fail
  refine (unhide HC).mono ?_
  rintro ee w2 ⟨a2, m2, c2, rfl, A2⟩
  have HA2 := hide A2
  have G2 := A2.kp.heap (unhide G1) (by simp)
  have HGo2 : Hid (w2.heap[g]? = some (.cells #[.int .i64 x, .int .i64 y, .slice none 0 0] t (0, 0))) := A2.kp.heap HGo.out (by simp)
  clear A2 HC
  go_wp2_with (refine wpList_store_tri triP rfl (.tmp 4) (.tmp 21) rfl w.heap.size rfl _ _ _ _ _ _ G2 rfl ⟨rfl, rfl, rfl⟩ ?_; intro w4 G4 K4)
  refine bodyPost_ret (results_tri triP rfl _ rfl G4) rfl ?_
  have hlt := HZ.out
  have hlt2 := HZ2.out
  exact ⟨a2, m2, c2, rfl, fun w5 k5 => (unhide HA2).off hpl (nob2 (q := g) (by omega) G2 (nob1 (by omega) HGo2.out)) (K4.comp k5), ((unhide HK1).trans (unhide HA2).kp).then K4 (by simp)⟩
set_option maxRecDepth 100000 in
set_option maxHeartbeats 2000000 in
theorem grow_okK (v : Value) (ls : List (List Int)) (i : Nat) (w : World) (hL : LcM ls v w) (hi : i ≤ ls.length) (hn : ls.length ≤ 1000) (hm : ∀ x ∈ ls, x.length ≤ 1000) (hG : Gl w) (g : Nat) (x y : Int) (t : TypeId) (hg : g < w.heap.size) (hgo : w.heap[g]? = some (.cells #[.int .i64 x, .int .i64 y, .slice none 0 0] t (0, 0))) :
    Calls Tryz.prog 75 #[v, .int .i64 i] w fun e w' => ∃ a m c, e = .returned (.tuple #[.agg #[.int .i64 i, .int .i64 ls.length, .slice a m c], .int .i64 0]) ∧ (∀ w2, Kp [g] w' w2 → LcM (growP i ls) (.slice a m c) w2) ∧ Kp [] w w' := by
  have HL := hide hL
  have HG := hide hG
  have HM := hide hm
  obtain ⟨ao, c, e, h1, h2, h3⟩ := hL.shape
  obtain ⟨n, hnn⟩ : ∃ n, n = ls.length := ⟨_, rfl⟩
  rw [← hnn] at e hi hn
  subst e
  have HNN := hide hnn
  have hi1 : ¬ (i : Int) < 0 := by omega
  have hi2 : ¬ (n : Int) < (i : Int) := by omega
  obtain ⟨o0, ho0⟩ : ∃ o : Obj, o = (.cells #[.int .i64 0, .int .i64 0, .slice none 0 0] 60) := ⟨_, rfl⟩
  have K1 : Kp [] w ((w.alloc o0).alloc o0) := ((Kp.refl [] w).alloc o0).alloc o0
  have G0 : ((w.alloc o0).alloc o0).heap[w.heap.size]? = some o0 := ((Kp.refl [] (w.alloc o0)).alloc o0).heap (heap_alloc_new w o0) (by simp)
  have G1 : ((w.alloc o0).alloc o0).heap[w.heap.size + 1]? = some o0 := by
    have := heap_alloc_new (w.alloc o0) o0
    rw [show (w.alloc o0).heap.size = w.heap.size + 1 by simp] at this
    exact this
  have HGo : Hid (((w.alloc o0).alloc o0).heap[g]? = some (.cells #[.int .i64 x, .int .i64 y, .slice none 0 0] t (0, 0))) := K1.heap hgo (by simp)
  have HZ2 : Hid (g < w.heap.size) := hide hg
  have HZ : Hid (w.heap.size + 2 = ((w.alloc o0).alloc o0).heap.size) := hide (by simp)
  rw [ho0] at K1 G0 G1 HZ HGo
  have HK1 := hide K1
  have HG0 := hide G0
  have HG1 := hide G1
  clear hL hnn h1 h2 h3 hG hm K1 G0 G1 ho0 hg hgo
  rw [← unhide HNN]
  have HK3 : Hid (∀ w3, Kp [w.heap.size + 1] _ w3 → Kp [] w w3) := fun w3 k => (unhide HK1).then k (fun i hi => .inr (by simp at hi; omega))
  by_cases hi0 : i = 0
  · subst hi0
    rw [growP_zero]
    go_enter Tryz.func75, Tryz.ntmps75
    go_wp2_with (refine wpList_store_tri triG rfl (.tmp 6) (.tmp 19) rfl (w.heap.size + 1) rfl _ _ _ _ _ _ (unhide HG1) rfl ⟨rfl, rfl, rfl⟩ ?_; intro w3 G3 K3; refine Hid.out ?_)
    obtain ⟨c0, c1, c2⟩ := cell_tri G3
    have G03 := K3.heap (unhide HG0) (by simp)
    have HK4 := hide (unhide HK3 w3 K3)
    clear K3 G3
    refine hide ?_
    go_wp2_with (refine wpList_store_tri triG rfl (.tmp 4) (.tmp 26) rfl w.heap.size rfl _ _ _ _ _ _ G03 rfl ⟨rfl, rfl, rfl⟩ ?_; intro w5 G5 K5)
    refine bodyPost_ret (results_tri triG rfl _ rfl G5) rfl ?_
    exact ⟨none, 0, 0, rfl, fun w2 _ => lcm_nil _, (unhide HK4).then K5 (by simp)⟩
  · have hi3 : (0 : Int) < (i : Int) := by omega
    obtain ⟨ps, hps⟩ : ∃ ps, ps = subP i ls true := ⟨_, rfl⟩
    have HPS : Hid (growP i ls = ps) := hide (by rw [growP_pos (by omega), hps])
    have hpl : ps.length ≤ 1000 := by rw [← unhide HPS]; have := growP_1000 (ls := ls) (m := i) (by rw [← unhide HNN]; exact hn) (by rw [← unhide HNN]; exact hi); omega
    have HPP := hide hps
    clear hps
    rw [unhide HPS]
    go_enter Tryz.func75, Tryz.ntmps75
    go_wp2_with (refine wpList_store_tri triG rfl (.tmp 6) (.tmp 19) rfl (w.heap.size + 1) rfl _ _ _ _ _ _ (unhide HG1) rfl ⟨rfl, rfl, rfl⟩ ?_; intro w3 G3 K3; refine Hid.out ?_)
    have HG3 := hide G3
    have HG03 := hide (K3.heap (unhide HG0) (by simp))
    have HGo3 := hide (K3.heap HGo.out (by simp; have := HZ2.out; omega))
    have HK4 := hide (unhide HK3 w3 K3)
    have HZ3 : Hid (w.heap.size + 2 ≤ w3.heap.size) := hide (by rw [unhide HZ]; exact K3.size)
    have HC := hide (gpath_any n _ ls i true ps w3 (unhide HPP) (unhide HNN).symm (by omega) hi (by omega) ((unhide HL).kept (unhide HK4)) (unhide HM) ((unhide HG).kept (unhide HK4) (by simp)))
    clear K3 G3
    refine hide ?_
    go_wp2_with fail
    refine (unhide HC).mono ?_
    rintro ee w4 ⟨a4, m4, c4, rfl, A4⟩
    have HA4 := hide A4
    have G4 := A4.kp.heap (unhide HG3) (by simp)
    have HG4 := hide G4
    have HG04 := hide (A4.kp.heap (unhide HG03) (by simp))
    have HGo4 := hide (A4.kp.heap HGo3.out (by simp))
    obtain ⟨c0, c1, c2⟩ := cell_tri G4
    have f2 := frozen_of_row w4 (w.heap.size + 1) 2 _ _ G4
    have k5 : Kp [w.heap.size + 1] w4 (w4.setCell ⟨w.heap.size + 1, 2, none⟩ (.slice a4 m4 c4)) := (Kp.refl _ w4).setCell (p := ⟨w.heap.size + 1, 2, none⟩) (.inl (by simp)) _
    have G5 : (w4.setCell ⟨w.heap.size + 1, 2, none⟩ (.slice a4 m4 c4)).heap[w.heap.size + 1]? = some (.cells #[.int .i64 i, .int .i64 n, .slice a4 m4 c4] 60 (0, 0)) := by simpa using heap_setCell_same w4 (w.heap.size + 1) 2 _ _ (.slice a4 m4 c4) G4
    obtain ⟨d0, d1, d2⟩ := cell_tri G5
    have G05 := k5.heap (unhide HG04) (by simp)
    have HK5 := hide k5
    clear A4 G4 HC HG3 HG03 k5 G5
    go_wp2_with (refine wpList_store_tri triG rfl (.tmp 4) (.tmp 26) rfl w.heap.size rfl _ _ _ _ _ _ G05 rfl ⟨rfl, rfl, rfl⟩ ?_; intro w6 G6 K6)
    have HK6 : Hid (Kp [w.heap.size, w.heap.size + 1] w4 w6) := ((unhide HK5).mono (by simp)).trans (K6.mono (by simp))
    have HN6 : Hid (NoB w3.heap.size w4 [w.heap.size, w.heap.size + 1, g]) := by
      have h3 := unhide HZ3
      have h4 := HZ2.out
      intro z hz
      rcases (by simpa using hz : z = w.heap.size ∨ z = w.heap.size + 1 ∨ z = g) with rfl | rfl | rfl
      · exact nob1 (by omega) (unhide HG04) _ (by simp)
      · exact nob1 (by omega) (unhide HG4) _ (by simp)
      · exact nob1 (by omega) HGo4.out _ (by simp)
    refine bodyPost_ret (results_tri triG rfl _ rfl G6) rfl ?_
    exact ⟨a4, m4, c4, rfl, fun w2 k2 => (unhide HA4).off hpl (unhide HN6) ((unhide HK6).comp k2), ((unhide HK4).trans (unhide HA4).kp).then (unhide HK6) (fun i hi => .inr (by simp at hi; omega))⟩
section
variable {w0 w : World} {l pd pk : Nat} {S : LS} {f : Fps}
theorem uisz_any (h : Lg w0 w l pd pk S f) (n : Int) (b : Bool) (hb : b = decide (0 ≤ n ∧ n ≤ (S.its.length : Int))) :
    Calls Tryz.prog 73 #[.pointer (some ⟨l, 0, none⟩), .int .i64 n] w fun e w' => e = .returned (.bool b) ∧ w' = w := by
  have HZ := hide (usize_any h _ rfl)
  obtain ⟨N, hN⟩ : ∃ N : Int, N = S.its.length := ⟨_, rfl⟩
  rw [← hN] at HZ hb
  by_cases h0 : 0 ≤ n
  · have e : b = decide (n ≤ N) := by rw [hb]; simp [h0]
    have hd : decide (0 ≤ n) = true := decide_eq_true h0
    subst e
    clear h hN hb
    go_enter Tryz.func73, Tryz.ntmps73
    go_wp2_with fail
    refine HZ.out.mono ?_
    rintro ee w1 ⟨rfl, hw⟩
    subst w1
    clear HZ
    go_wp2_with fail
    go_ret
    exact ⟨rfl, rfl⟩
  · have e : b = false := by rw [hb]; simp [h0]
    have hd : decide (0 ≤ n) = false := decide_eq_false h0
    subst e
    clear h hN hb HZ
    go_enter Tryz.func73, Tryz.ntmps73
    go_wp2_with fail
    go_ret
    exact ⟨rfl, rfl⟩
theorem leafs_few (l : List (List Int)) : ∀ x ∈ l.map tleafP, x.length ≤ 1000 := fun x hx => by
  obtain ⟨y, _, rfl⟩ := List.mem_map.1 hx
  have := sha_len (0 :: y); unfold tleafP; omega
set_option maxRecDepth 100000 in
set_option maxHeartbeats 1000000 in
theorem uinc_ok (h : Lg w0 w l pd pk S f) (i n : Nat) (hi : i < n) (hn : n ≤ S.its.length) (hG : Gl w) :
    Calls Tryz.prog 26 #[.pointer (some ⟨l, 0, none⟩), .int .i64 i, .int .i64 n] w fun e w' => ∃ a m c, e = .returned (.tuple #[.agg #[.int .i64 i, .int .i64 n, .slice a m c], .int .i64 0]) ∧ LcM (incP ((S.its.take n).map tleafP) i) (.slice a m c) w' ∧ Kp [] w w' := by
  have hfew := h.few
  obtain ⟨o0, ho0⟩ : ∃ o : Obj, o = (.cells #[.int .i64 0, .int .i64 0, .slice none 0 0] 54) := ⟨_, rfl⟩
  have K1 : Kp [] w (w.alloc o0) := (Kp.refl [] w).alloc o0
  have G1 := heap_alloc_new w o0
  have HI := hide (uisz_any (h.on K1) n true (by rw [decide_eq_true (by omega)]))
  have HL := hide (uleaves_any (h.on K1) n hn (gl_alloc hG o0))
  obtain ⟨ls, hls⟩ : ∃ ls, ls = (S.its.take n).map tleafP := ⟨_, rfl⟩
  have hll : ls.length = n := by rw [hls, List.length_map, List.length_take]; omega
  have hlm : ∀ x ∈ ls, x.length ≤ 1000 := by rw [hls]; exact leafs_few _
  have hn1 : n ≤ 256 := by omega
  rw [← hls] at HL ⊢
  have HG := hide (gl_alloc hG o0)
  have HZ : Hid (w.heap.size < (w.alloc o0).heap.size) := hide (by simp)
  rw [ho0] at K1 G1 HI HL HG HZ
  have HK1 := hide K1
  have HG1 := hide G1
  have HLl := hide hll
  have HLm := hide hlm
  clear h hfew hG K1 G1 ho0 hls hll hlm hn
  go_enter Tryz.func26, Tryz.ntmps26
  go_wp2_with fail
  refine HI.out.mono ?_
  rintro ee w1 ⟨rfl, hw⟩
  subst w1
  clear HI
  go_wp2_with fail
  refine HL.out.mono ?_
  rintro ee w2 ⟨a2, m2, c2, rfl, A2⟩
  have G2 := A2.kp.heap HG1.out (by simp)
  have HIn := hide (include_okK _ ls i w2 (A2.lcm (by rw [HLl.out]; omega)) (by rw [HLl.out]; exact hi) (by rw [HLl.out]; omega) HLm.out (HG.out.kept A2.kp (by simp)) w.heap.size 0 0 _ (Nat.lt_of_lt_of_le HZ.out A2.kp.size) G2)
  rw [HLl.out] at HIn
  have HK2 := hide (HK1.out.trans A2.kp)
  have HG2 := hide G2
  clear HL A2 G2
  go_wp2_with fail
  refine HIn.out.mono ?_
  rintro ee w3 ⟨a3, m3, c3, rfl, L3, K3⟩
  have G3 := K3.heap HG2.out (by simp)
  have HL3 := hide L3
  have HK3 := hide (HK2.out.trans K3)
  clear L3 K3 HIn
  go_wp2_with (refine wpList_store_tri triP rfl (.tmp 6) (.tmp 18) rfl w.heap.size rfl _ _ _ _ _ _ G3 rfl ⟨rfl, rfl, rfl⟩ ?_; intro w4 G4 K4)
  refine bodyPost_ret (results_tri triP rfl _ rfl G4) rfl ?_
  exact ⟨a3, m3, c3, rfl, HL3.out w4 K4, HK3.out.then K4 (by simp)⟩
set_option maxRecDepth 100000 in
set_option maxHeartbeats 1000000 in
theorem uinc_no (h : Lg w0 w l pd pk S f) (i n : Int) (hi : ¬ (0 ≤ n ∧ n ≤ (S.its.length : Int) ∧ 0 ≤ i ∧ i < n)) (hG : Gl w) :
    Calls Tryz.prog 26 #[.pointer (some ⟨l, 0, none⟩), .int .i64 i, .int .i64 n] w fun e w' => e = .returned (.tuple #[.agg #[.int .i64 0, .int .i64 0, .slice none 0 0], .int .i64 1]) ∧ Kp [] w w' := by
  have hfew := h.few
  obtain ⟨o0, ho0⟩ : ∃ o : Obj, o = (.cells #[.int .i64 0, .int .i64 0, .slice none 0 0] 54) := ⟨_, rfl⟩
  have K1 : Kp [] w (w.alloc o0) := (Kp.refl [] w).alloc o0
  have G1 := heap_alloc_new w o0
  by_cases hs : 0 ≤ n ∧ n ≤ (S.its.length : Int)
  · obtain ⟨k, rfl⟩ := Int.eq_ofNat_of_zero_le hs.1
    have hk : k ≤ S.its.length := by omega
    have HI := hide (uisz_any (h.on K1) k true (by rw [decide_eq_true hs]))
    have HL := hide (uleaves_any (h.on K1) k hk (gl_alloc hG o0))
    obtain ⟨ls, hls⟩ : ∃ ls, ls = (S.its.take k).map tleafP := ⟨_, rfl⟩
    have hll : ls.length = k := by rw [hls, List.length_map, List.length_take]; omega
    have hi' : ¬ (0 ≤ i ∧ i < (k : Int)) := fun e => hi ⟨hs.1, hs.2, e.1, e.2⟩
    have hk1 : k ≤ 256 := by omega
    rw [← hls] at HL
    rw [ho0] at K1 G1 HI HL
    have HK1 := hide K1
    have HG1 := hide G1
    have HLl := hide hll
    have HI' := hide hi'
    clear h hfew hG K1 G1 ho0 hls hll hi hi' hs hk
    go_enter Tryz.func26, Tryz.ntmps26
    go_wp2_with fail
    refine HI.out.mono ?_
    rintro ee w1 ⟨rfl, hw⟩
    subst w1
    clear HI
    go_wp2_with fail
    refine HL.out.mono ?_
    rintro ee w2 ⟨a2, m2, c2, rfl, A2⟩
    have G2 := A2.kp.heap HG1.out (by simp)
    have HIn := hide (include_no _ ls i w2 (A2.lcm (by rw [HLl.out]; omega)) (by rw [HLl.out]; exact HI'.out))
    have HK2 := hide (HK1.out.trans A2.kp)
    have HG2 := hide G2
    clear HL A2 G2
    go_wp2_with fail
    refine HIn.out.mono ?_
    rintro ee w3 ⟨rfl, K3⟩
    have G3 := K3.heap HG2.out (by simp)
    have HK3 := hide (HK2.out.trans K3)
    clear K3 HIn
    go_wp2_with (refine wpList_store_tri triP rfl (.tmp 6) (.tmp 18) rfl w.heap.size rfl _ _ _ _ _ _ G3 rfl ⟨rfl, rfl, rfl⟩ ?_; intro w4 G4 K4)
    refine bodyPost_ret (results_tri triP rfl _ rfl G4) rfl ?_
    exact ⟨rfl, HK3.out.then K4 (by simp)⟩
  · have HI := hide (uisz_any (h.on K1) n false (by rw [decide_eq_false hs]))
    rw [ho0] at K1 G1 HI
    have HK1 := hide K1
    have HG1 := hide G1
    clear h hfew hG K1 ho0 hi hs
    go_enter Tryz.func26, Tryz.ntmps26
    go_wp2_with fail
    refine HI.out.mono ?_
    rintro ee w1 ⟨rfl, hw⟩
    subst w1
    clear HI
    go_wp2_with (refine wpList_store_tri triP rfl (.tmp 6) (.tmp 12) rfl w.heap.size rfl _ _ _ _ _ _ G1 rfl ⟨rfl, rfl, rfl⟩ ?_; intro w4 G4 K4)
    refine bodyPost_ret (results_tri triP rfl _ rfl G4) rfl ?_
    exact ⟨rfl, HK1.out.then K4 (by simp)⟩
set_option maxRecDepth 100000 in
set_option maxHeartbeats 1000000 in
theorem ugro_ok (h : Lg w0 w l pd pk S f) (i n : Nat) (hi : i ≤ n) (hn : n ≤ S.its.length) (hG : Gl w) :
    Calls Tryz.prog 29 #[.pointer (some ⟨l, 0, none⟩), .int .i64 i, .int .i64 n] w fun e w' => ∃ a m c, e = .returned (.tuple #[.agg #[.int .i64 i, .int .i64 n, .slice a m c], .int .i64 0]) ∧ LcM (growP i ((S.its.take n).map tleafP)) (.slice a m c) w' ∧ Kp [] w w' := by
  have hfew := h.few
  obtain ⟨o0, ho0⟩ : ∃ o : Obj, o = (.cells #[.int .i64 0, .int .i64 0, .slice none 0 0] 60) := ⟨_, rfl⟩
  have K1 : Kp [] w (w.alloc o0) := (Kp.refl [] w).alloc o0
  have G1 := heap_alloc_new w o0
  have HI := hide (uisz_any (h.on K1) n true (by rw [decide_eq_true (by omega)]))
  have HL := hide (uleaves_any (h.on K1) n hn (gl_alloc hG o0))
  obtain ⟨ls, hls⟩ : ∃ ls, ls = (S.its.take n).map tleafP := ⟨_, rfl⟩
  have hll : ls.length = n := by rw [hls, List.length_map, List.length_take]; omega
  have hlm : ∀ x ∈ ls, x.length ≤ 1000 := by rw [hls]; exact leafs_few _
  have hn1 : n ≤ 256 := by omega
  rw [← hls] at HL ⊢
  have HG := hide (gl_alloc hG o0)
  have HZ : Hid (w.heap.size < (w.alloc o0).heap.size) := hide (by simp)
  rw [ho0] at K1 G1 HI HL HG HZ
  have HK1 := hide K1
  have HG1 := hide G1
  have HLl := hide hll
  have HLm := hide hlm
  clear h hfew hG K1 G1 ho0 hls hll hlm hn
  go_enter Tryz.func29, Tryz.ntmps29
  go_wp2_with fail
  refine HI.out.mono ?_
  rintro ee w1 ⟨rfl, hw⟩
  subst w1
  clear HI
  go_wp2_with fail
  refine HL.out.mono ?_
  rintro ee w2 ⟨a2, m2, c2, rfl, A2⟩
  have G2 := A2.kp.heap HG1.out (by simp)
  have HIn := hide (grow_okK _ ls i w2 (A2.lcm (by rw [HLl.out]; omega)) (by rw [HLl.out]; exact hi) (by rw [HLl.out]; omega) HLm.out (HG.out.kept A2.kp (by simp)) w.heap.size 0 0 _ (Nat.lt_of_lt_of_le HZ.out A2.kp.size) G2)
  rw [HLl.out] at HIn
  have HK2 := hide (HK1.out.trans A2.kp)
  have HG2 := hide G2
  clear HL A2 G2
  go_wp2_with fail
  refine HIn.out.mono ?_
  rintro ee w3 ⟨a3, m3, c3, rfl, L3, K3⟩
  have G3 := K3.heap HG2.out (by simp)
  have HL3 := hide L3
  have HK3 := hide (HK2.out.trans K3)
  clear L3 K3 HIn
  go_wp2_with (refine wpList_store_tri triG rfl (.tmp 6) (.tmp 18) rfl w.heap.size rfl _ _ _ _ _ _ G3 rfl ⟨rfl, rfl, rfl⟩ ?_; intro w4 G4 K4)
  refine bodyPost_ret (results_tri triG rfl _ rfl G4) rfl ?_
  exact ⟨a3, m3, c3, rfl, HL3.out w4 K4, HK3.out.then K4 (by simp)⟩
set_option maxRecDepth 100000 in
set_option maxHeartbeats 1000000 in
theorem ugro_no (h : Lg w0 w l pd pk S f) (i n : Int) (hi : ¬ (0 ≤ n ∧ n ≤ (S.its.length : Int) ∧ 0 ≤ i ∧ i ≤ n)) (hG : Gl w) :
    Calls Tryz.prog 29 #[.pointer (some ⟨l, 0, none⟩), .int .i64 i, .int .i64 n] w fun e w' => e = .returned (.tuple #[.agg #[.int .i64 0, .int .i64 0, .slice none 0 0], .int .i64 1]) ∧ Kp [] w w' := by
  have hfew := h.few
  obtain ⟨o0, ho0⟩ : ∃ o : Obj, o = (.cells #[.int .i64 0, .int .i64 0, .slice none 0 0] 60) := ⟨_, rfl⟩
  have K1 : Kp [] w (w.alloc o0) := (Kp.refl [] w).alloc o0
  have G1 := heap_alloc_new w o0
  by_cases hs : 0 ≤ n ∧ n ≤ (S.its.length : Int)
  · obtain ⟨k, rfl⟩ := Int.eq_ofNat_of_zero_le hs.1
    have hk : k ≤ S.its.length := by omega
    have HI := hide (uisz_any (h.on K1) k true (by rw [decide_eq_true hs]))
    have HL := hide (uleaves_any (h.on K1) k hk (gl_alloc hG o0))
    obtain ⟨ls, hls⟩ : ∃ ls, ls = (S.its.take k).map tleafP := ⟨_, rfl⟩
    have hll : ls.length = k := by rw [hls, List.length_map, List.length_take]; omega
    have hi' : ¬ (0 ≤ i ∧ i ≤ (k : Int)) := fun e => hi ⟨hs.1, hs.2, e.1, e.2⟩
    have hk1 : k ≤ 256 := by omega
    rw [← hls] at HL
    rw [ho0] at K1 G1 HI HL
    have HK1 := hide K1
    have HG1 := hide G1
    have HLl := hide hll
    have HI' := hide hi'
    clear h hfew hG K1 G1 ho0 hls hll hi hi' hs hk
    go_enter Tryz.func29, Tryz.ntmps29
    go_wp2_with fail
    refine HI.out.mono ?_
    rintro ee w1 ⟨rfl, hw⟩
    subst w1
    clear HI
    go_wp2_with fail
    refine HL.out.mono ?_
    rintro ee w2 ⟨a2, m2, c2, rfl, A2⟩
    have G2 := A2.kp.heap HG1.out (by simp)
    have HIn := hide (grow_no _ ls i w2 (A2.lcm (by rw [HLl.out]; omega)) (by rw [HLl.out]; exact HI'.out))
    have HK2 := hide (HK1.out.trans A2.kp)
    have HG2 := hide G2
    clear HL A2 G2
    go_wp2_with fail
    refine HIn.out.mono ?_
    rintro ee w3 ⟨rfl, K3⟩
    have G3 := K3.heap HG2.out (by simp)
    have HK3 := hide (HK2.out.trans K3)
    clear K3 HIn
    go_wp2_with (refine wpList_store_tri triG rfl (.tmp 6) (.tmp 18) rfl w.heap.size rfl _ _ _ _ _ _ G3 rfl ⟨rfl, rfl, rfl⟩ ?_; intro w4 G4 K4)
    refine bodyPost_ret (results_tri triG rfl _ rfl G4) rfl ?_
    exact ⟨rfl, HK3.out.then K4 (by simp)⟩
  · have HI := hide (uisz_any (h.on K1) n false (by rw [decide_eq_false hs]))
    rw [ho0] at K1 G1 HI
    have HK1 := hide K1
    have HG1 := hide G1
    clear h hfew hG K1 ho0 hi hs
    go_enter Tryz.func29, Tryz.ntmps29
    go_wp2_with fail
    refine HI.out.mono ?_
    rintro ee w1 ⟨rfl, hw⟩
    subst w1
    clear HI
    go_wp2_with (refine wpList_store_tri triG rfl (.tmp 6) (.tmp 12) rfl w.heap.size rfl _ _ _ _ _ _ G1 rfl ⟨rfl, rfl, rfl⟩ ?_; intro w4 G4 K4)
    refine bodyPost_ret (results_tri triG rfl _ rfl G4) rfl ?_
    exact ⟨rfl, HK1.out.then K4 (by simp)⟩
/-- what Include tells: granted, or refused. -/
def IncP (w' : World) (gr : Prop) (i s : Int) (ps : List (List Int)) (x y : Int) (a : Option Addr) (m c : Nat) (en : Int) : Prop := (gr ∧ en = 0 ∧ x = i ∧ y = s ∧ LcM ps (.slice a m c) w') ∨ (¬ gr ∧ en = 1 ∧ x = 0 ∧ y = 0 ∧ a = none ∧ m = 0 ∧ c = 0)
theorem uinc_any (h : Lg w0 w l pd pk S f) (i n : Int) (hG : Gl w) :
    Calls Tryz.prog 26 #[.pointer (some ⟨l, 0, none⟩), .int .i64 i, .int .i64 n] w fun e w' => ∃ x y a m c en, e = .returned (.tuple #[.agg #[.int .i64 x, .int .i64 y, .slice a m c], .int .i64 en]) ∧ IncP w' (0 ≤ n ∧ n ≤ (S.its.length : Int) ∧ 0 ≤ i ∧ i < n) i n (incP ((S.its.take n.toNat).map tleafP) i.toNat) x y a m c en ∧ Kp [] w w' := by
  by_cases hg : 0 ≤ n ∧ n ≤ (S.its.length : Int) ∧ 0 ≤ i ∧ i < n
  · obtain ⟨k, rfl⟩ := Int.eq_ofNat_of_zero_le hg.1
    obtain ⟨j, rfl⟩ := Int.eq_ofNat_of_zero_le hg.2.2.1
    refine (uinc_ok h j k (by omega) (by omega) hG).mono ?_
    rintro e w' ⟨a, m, c, rfl, hL, K⟩
    exact ⟨_, _, a, m, c, 0, rfl, .inl ⟨hg, rfl, rfl, rfl, hL⟩, K⟩
  · refine (uinc_no h i n hg hG).mono ?_
    rintro e w' ⟨rfl, K⟩
    exact ⟨0, 0, none, 0, 0, 1, rfl, .inr ⟨hg, rfl, rfl, rfl, rfl, rfl, rfl⟩, K⟩
/-- what Grow tells: granted, or refused. -/
def GroP (w' : World) (gr : Prop) (i s : Int) (ps : List (List Int)) (x y : Int) (a : Option Addr) (m c : Nat) (en : Int) : Prop := (gr ∧ en = 0 ∧ x = i ∧ y = s ∧ LcM ps (.slice a m c) w') ∨ (¬ gr ∧ en = 1 ∧ x = 0 ∧ y = 0 ∧ a = none ∧ m = 0 ∧ c = 0)
theorem ugro_any (h : Lg w0 w l pd pk S f) (i n : Int) (hG : Gl w) :
    Calls Tryz.prog 29 #[.pointer (some ⟨l, 0, none⟩), .int .i64 i, .int .i64 n] w fun e w' => ∃ x y a m c en, e = .returned (.tuple #[.agg #[.int .i64 x, .int .i64 y, .slice a m c], .int .i64 en]) ∧ GroP w' (0 ≤ n ∧ n ≤ (S.its.length : Int) ∧ 0 ≤ i ∧ i ≤ n) i n (growP i.toNat ((S.its.take n.toNat).map tleafP)) x y a m c en ∧ Kp [] w w' := by
  by_cases hg : 0 ≤ n ∧ n ≤ (S.its.length : Int) ∧ 0 ≤ i ∧ i ≤ n
  · obtain ⟨k, rfl⟩ := Int.eq_ofNat_of_zero_le hg.1
    obtain ⟨j, rfl⟩ := Int.eq_ofNat_of_zero_le hg.2.2.1
    refine (ugro_ok h j k (by omega) (by omega) hG).mono ?_
    rintro e w' ⟨a, m, c, rfl, hL, K⟩
    exact ⟨_, _, a, m, c, 0, rfl, .inl ⟨hg, rfl, rfl, rfl, hL⟩, K⟩
  · refine (ugro_no h i n hg hG).mono ?_
    rintro e w' ⟨rfl, K⟩
    exact ⟨0, 0, none, 0, 0, 1, rfl, .inr ⟨hg, rfl, rfl, rfl, rfl, rfl, rfl⟩, K⟩
end
end Go.Proofs.YtillhpgdlmeajaaGreatDoor

/-
  The laws of ledger: the reference's Batch, items.
-/
namespace Go.Proofs.YtillhpgdlmeajaaGreatDoor
open Go.RowKit
open Go.Proofs
set_option linter.unusedVariables false
theorem RowsQ.off {w w' : World} {base : Nat} {v : Value} {l : List (Value × List Int)} {S : List Nat} (h : RowsQ w base v l) (k : Kp S w w') (hS : ∀ i ∈ S, i < base ∨ w.heap.size ≤ i) : RowsQ w' base v l :=
  h.kept (k.less (T := S.filter (fun i => decide (i < base))) (fun i hi hl => List.mem_filter.2 ⟨hi, decide_eq_true ((hS i hi).resolve_right (by omega))⟩)) (fun i hi => of_decide_eq_true (List.mem_filter.1 hi).2)
theorem RowsQ.lists {w : World} {base : Nat} {v : Value} {l : List (Value × List Int)} (h : RowsQ w base v l) (hl : l.length ≤ 1000000) : Lists w v l := lists_big h.1 hl
theorem RowsQ.rebase {w : World} {base b : Nat} {v : Value} {l : List (Value × List Int)} (h : RowsQ w base v l) (hb : b ≤ base) : RowsQ w b v l :=
  ⟨⟨owns_rebase h.1.1 (fun i hi => Nat.le_trans hb (h.1.1.own i hi)), h.1.2⟩, fun x hx i hi => Nat.le_trans hb (h.2 x hx i hi)⟩
theorem rowsQ_nil (w : World) (base : Nat) : RowsQ w base (.slice none 0 0) [] := ⟨⟨World.ownsRow_nil _ _ _ _, by simp⟩, by simp⟩
end Go.Proofs.YtillhpgdlmeajaaGreatDoor

/-
  A ledger's disks, asked while it is open; two disks whatever they are.
-/
namespace Go.Proofs.YtillhpgdlmeajaaGreatDoor
open Go.RowKit
open Go.Proofs
set_option linter.unusedVariables false
section
variable {w0 w : World} {l pd pk : Nat} {S : LS} {f : Fps}
/-- both disks, when the ledger is left. -/
structure Ds (w0 w : World) (pd pk : Nat) (dd dk : Dk) (f : Fps) : Prop where
  ok : f.Ok w0 w
  d : Dx w0 w pd dd (f 5)
  k : Dx w0 w pk dk (f 6)
theorem Lg.ds (h : Lg w0 w l pd pk S f) : Ds w0 w pd pk S.dd S.dk f := by
  obtain ⟨j, s, q, vs, pv, hx⟩ := h
  exact ⟨hx.ok, hx.jx.dx, hx.bf.dx⟩
theorem Ds.on {w' : World} {dd dk : Dk} (h : Ds w0 w pd pk dd dk f) (k : Kp [] w w') : Ds w0 w' pd pk dd dk f := ⟨h.ok.on k, h.d.kept k (h.ok.kp.trans k) (by simp), h.k.kept k (h.ok.kp.trans k) (by simp)⟩
end
theorem RowI.at {w : World} {base m c : Nat} {ao : Option Addr} {l : List Int} (h : RowI w base (.slice ao m c) l) (i : Nat) (hi : i < l.length) : ∃ g, ao = some ⟨g, 0, none⟩ ∧ w.cell? ⟨g, i, none⟩ = some (.int .i64 l[i]) := by
  rcases h.2 with ⟨e, h0⟩ | ⟨g, cap, cur, e, _⟩
  · omega
  · injection e with e1 e2 e3
    subst e1
    have := h.cells (g := g) rfl i (.int .i64 l[i]) (by simp [List.getElem?_eq_getElem hi])
    exact ⟨g, rfl, by simpa [Addr.add_lit] using this⟩
/-- one new item. -/
theorem one_ns {l : List (List Int)} {x : List Int} (h : x ∉ l) : newU l [x] = [x] ∧ allU l [x] = l ++ [x] ∧ nsU l [x] = [(l.length : Int)] := by
  have e : allU l [x] = l ++ [x] := insU_new h
  refine ⟨by unfold newU; rw [e]; simp, e, ?_⟩
  unfold nsU numU
  rw [e]
  simp [idx_post h]
end Go.Proofs.YtillhpgdlmeajaaGreatDoor

/-
  Arguments of the laws of ledger: slices of slices of numbers; rows of slices that lie aside.
-/
namespace Go.Proofs.YtillhpgdlmeajaaGreatDoor
open Go.RowKit
open Go.Proofs
open Go.Deep Go.ChangeShapes Go.WideShapes
set_option linter.unusedVariables false
section
variable {H : Type} {enc : TypeId × Value → H} {w : World}
end
theorem RowsQ.aside {w w' : World} {base : Nat} {v : Value} {l : List (Value × List Int)} {S : List Nat} (h : RowsQ w base v l) (k : Kp S w w') (h1 : ∀ i, v.ownBlock = some i → i ∉ S) (h2 : ∀ x ∈ l, ∀ i, x.1.ownBlock = some i → i ∉ S) : RowsQ w' base v l :=
  ⟨⟨h.1.1.kept k h1, fun x hx => ⟨(h.1.2 x hx).1.kept k (h2 x hx), (h.1.2 x hx).2⟩⟩, h.2⟩
theorem RowV.at {w : World} {base m c : Nat} {ao : Option Addr} {l : List Value} (h : RowV w base (.slice ao m c) l) (i : Nat) (hi : i < l.length) : ∃ g, ao = some ⟨g, 0, none⟩ ∧ w.cell? ⟨g, i, none⟩ = some l[i] := by
  rcases h.2 with ⟨e, h0⟩ | ⟨g, cap, cur, e, _⟩
  · omega
  · injection e with e1 e2 e3
    subst e1
    have := h.cells (g := g) rfl i l[i] (by simp [List.getElem?_eq_getElem hi])
    exact ⟨g, rfl, by simpa [Addr.add_lit] using this⟩
/-- a row of slices that lies beside the blocks F. -/
structure Al (w0 w : World) (F : Nat → Prop) (v : Value) (la : List (Value × List Int)) : Prop where
  row : RowsQ w w0.heap.size v la
  own : ∀ k, v.ownBlock = some k → k < w.heap.size ∧ ¬ F k
  its : ∀ x ∈ la, ∀ k, x.1.ownBlock = some k → k < w.heap.size ∧ ¬ F k
section
variable {w0 w w' : World} {F F' : Nat → Prop} {v v' : Value} {la : List (Value × List Int)}
theorem al_nil (w0 w : World) (F : Nat → Prop) : Al w0 w F (.slice none 0 0) [] := ⟨rowsQ_nil _ _, (fun k hk => by cases hk), (fun x hx => by cases hx)⟩
theorem Al.step (h : Al w0 w F v la) (t : Stp F w w' F') : Al w0 w' F' v la := by
  obtain ⟨S, hS, k⟩ := t.kp
  exact ⟨h.row.aside k (fun i hi hm => (h.own i hi).2 (hS i hm)) (fun x hx i hi hm => (h.its x hx i hi).2 (hS i hm)), fun i hi => ⟨Nat.lt_of_lt_of_le (h.own i hi).1 k.size, t.off (h.own i hi).1 (h.own i hi).2⟩, fun x hx i hi => ⟨Nat.lt_of_lt_of_le (h.its x hx i hi).1 k.size, t.off (h.its x hx i hi).1 (h.its x hx i hi).2⟩⟩
theorem Al.on (h : Al w0 w F v la) (k : Kp [] w w') : Al w0 w' F v la := h.step (Stp.mid k)
/-- one more. -/
theorem Al.put {x : Value × List Int} (h : Al w0 w F v la) (hF : ∀ i, F i → i < w.heap.size) (r : RowsQ w' w0.heap.size v' (la ++ [x])) (s : RStep w v w' v') (hx : ∀ k, x.1.ownBlock = some k → k < w.heap.size ∧ ¬ F k) : Al w0 w' F v' (la ++ [x]) := by
  have hs := s.1.size
  refine ⟨r, fun k hk => ⟨r.1.1.lt hk, ?_⟩, fun y hy k hk => ?_⟩
  · rcases s.2 k hk with h1 | h1
    · exact (h.own k h1).2
    · exact fun e => by have := hF k e; omega
  · rcases List.mem_append.1 hy with hy | hy
    · exact ⟨by have := (h.its y hy k hk).1; omega, (h.its y hy k hk).2⟩
    · obtain rfl : y = x := by simpa using hy
      exact ⟨by have := (hx k hk).1; omega, (hx k hk).2⟩
end
/-- a row of slices whose blocks lie between lo and hi. -/
structure Xs (w : World) (lo hi : Nat) (v : Value) (l : List (Value × List Int)) : Prop where
  row : RowsQ w lo v l
  own : ∀ k, v.ownBlock = some k → k < hi
  its : ∀ x ∈ l, ∀ k, x.1.ownBlock = some k → k < hi
theorem Xs.kept {w w' : World} {lo hi : Nat} {v : Value} {l : List (Value × List Int)} {S : List Nat} (h : Xs w lo hi v l) (k : Kp S w w') (hS : ∀ i ∈ S, i < lo ∨ hi ≤ i) : Xs w' lo hi v l :=
  ⟨h.row.aside k (fun i e hm => by have := h.own i e; have := h.row.1.1.own i e; have := hS i hm; omega) (fun x hx i e hm => by have := h.its x hx i e; have := h.row.2 x hx i e; have := hS i hm; omega), h.own, h.its⟩
/-- append of a slice that lies anywhere else. -/
theorem wpList_rowsR {base : Nat} {w2 : World} {ops : Array Oper} {rest : List Oper} {o : Oper} {a : Act} {Q : Exit → Act → World → Prop} (hgd : o.guard = none) (s x : Operand)
    (ho : o.op = .call { callee := .builtin .append, args := #[s, x], argTypes := #[33, 33] }) (v : Value) (l : List (Value × List Int)) (hs : a.eval s = v) (hP : RowsQ w2 base v l) (hbase : base ≤ w2.heap.size) (hl : l.length ≤ 1000000)
    (vx : Value) (bs : List Int) (hr : Sl w2 vx bs) (hap : ∀ i, vx.ownBlock = some i → v.ownBlock ≠ some i) (hnb : ∀ i, vx.ownBlock = some i → base ≤ i) (hb : Bs bs) (hx : a.eval x = .slice (some ⟨w2.heap.size, 0, none⟩) 1 1)
    (h : ∀ ao m c w', m = l.length + 1 → RowsQ w' base (.slice ao m c) (l ++ [(vx, bs)]) → RStep w2 v w' (.slice ao m c) → wpList Tryz.prog ops Q rest (a.put o.dst (.slice ao m c)) w') : wpList Tryz.prog ops Q (o :: rest) a (w2.alloc (.cells #[vx] 22)) := by
  have k2 : Kp [] w2 (w2.alloc (.cells #[vx] 22)) := (Kp.refl [] w2).alloc _
  have hP2 := hP.1.kept k2
  obtain ⟨ax, cx, hvx, -⟩ := id hr
  refine wpList_append_rowv hgd s x ho base v (l.map (·.1)) hs hP2.1 ⟨w2.heap.size, 0, none⟩ 1 [vx] hx ?_ ?_ ?_ ?_ ?_
  · intro j u hu
    exact World.news_of_block (heap_alloc_new w2 _) j u (by simpa using hu)
  · simp [hvx, Value.oneCell']
  · simp; omega
  · simp; omega
  · intro ao m c w' r st
    have hml := r.len
    refine h ao m c w' (by rw [hml]; simp) ⟨hP2.snocJ (x := (vx, bs)) (hr.kept k2 (by simp)) hb (fun i h1 h2 => absurd h2 (hap i h1)) r st, fun y hy => ?_⟩ ⟨(k2.mono (by simp)).trans st.1, fun k hk => (st.2 k hk).imp id (fun h => Nat.le_trans k2.size h)⟩
    · rcases List.mem_append.1 hy with hy | hy
      · exact hP.2 y hy
      · obtain rfl : y = (vx, bs) := by simpa using hy
        exact hnb
end Go.Proofs.YtillhpgdlmeajaaGreatDoor

/-
  Slices of bytes that a law writes into.
-/
namespace Go.Proofs.YtillhpgdlmeajaaGreatDoor
open Go.RowKit
open Go.Proofs
set_option linter.unusedVariables false
/-- n bytes that may be written. -/
def Mu (w : World) (g o n : Nat) : Prop := ∀ i, i < n → (∃ u, w.cell? ⟨g, o + i, none⟩ = some (.int .u8 u)) ∧ w.frozen? ⟨g, o + i, none⟩ = false
theorem Mu.set {w : World} {g o n : Nat} (h : Mu w g o n) (k : Nat) (x : Int) : Mu (w.setCell ⟨g, o + k, none⟩ (.int .u8 x)) g o n := fun i hi => by
  refine ⟨?_, (World.frozen?_setCell _ _ _ _).trans (h i hi).2⟩
  obtain ⟨u, hu⟩ := (h i hi).1
  by_cases e : i = k
  · subst e; exact ⟨x, cell_setCell_same hu⟩
  · exact ⟨u, by rw [cell_setCell_ne rfl (fun e' => e (by injection e' with _ e2; omega)) rfl]; exact hu⟩
theorem Mu.kept {w w' : World} {g o n : Nat} {S : List Nat} (h : Mu w g o n) (k : Kp S w w') (hg : g ∉ S) : Mu w' g o n := fun i hi => by
  obtain ⟨⟨u, hu⟩, hf⟩ := h i hi
  exact ⟨⟨u, k.cell hu hg⟩, frz_kept k (World.block_lt_of_cell? _ _ hu) hg hf⟩
theorem Row.mu {w : World} {base g n c : Nat} {bs : List Int} (h : Row w base (.slice (some ⟨g, 0, none⟩) n c) bs) : Mu w g 0 n := fun i hi => by
  have hn := h.len
  obtain ⟨g', e, _, _, hc, hf, _⟩ := h.spot (by omega)
  cases e
  rw [Nat.zero_add]
  exact ⟨⟨_, hc i (by omega)⟩, hf i⟩
theorem Sl.mu {w : World} {g o n c : Nat} {bs : List Int} (h : Sl w (.slice (some ⟨g, o, none⟩) n c) bs) (hf : ∀ k, k < n → w.frozen? ⟨g, o + k, none⟩ = false) : Mu w g o n := fun i hi => by
  obtain ⟨ao, c', e, _, _, _, h4⟩ := h
  injection e with e1 e2 e3
  have := h4 ⟨g, o, none⟩ e1.symm i (.int .u8 (bs[i]'(by omega))) (by simp [List.getElem?_eq_getElem (show i < bs.length by omega)])
  rw [Addr.add_lit] at this
  exact ⟨⟨_, this⟩, hf i hi⟩
theorem Al.aside {w0 w w' : World} {F : Nat → Prop} {v : Value} {la : List (Value × List Int)} {S : List Nat} (h : Al w0 w F v la) (k : Kp S w w') (h1 : ∀ i, v.ownBlock = some i → i ∉ S) (h2 : ∀ x ∈ la, ∀ i, x.1.ownBlock = some i → i ∉ S) : Al w0 w' F v la :=
  ⟨h.row.aside k h1 h2, fun i hi => ⟨Nat.lt_of_lt_of_le (h.own i hi).1 k.size, (h.own i hi).2⟩, fun x hx i hi => ⟨Nat.lt_of_lt_of_le (h.its x hx i hi).1 k.size, (h.its x hx i hi).2⟩⟩
end Go.Proofs.YtillhpgdlmeajaaGreatDoor

/-
  The contract of the reference's Split.
-/
namespace Go.Proofs.YtillhpgdlmeajaaGreatDoor
open Go.RowKit
set_option maxHeartbeats 1000000 in
set_option maxRecDepth 100000 in
theorem rsplit_any (n : Int) (k : Nat) (w : World) (hk : k = tsplP n.toNat) (hn : -9223372036854775808 ≤ n ∧ n ≤ 9223372036854775807) :
    Calls Tryz.prog 70 #[.int .i64 n] w fun e w' => e = .returned (.int .i64 k) ∧ w' = w := by
  by_cases h2 : n < 2
  · rw [tsplP_small (by omega)] at hk
    subst hk
    go_enter Tryz.func70, Tryz.ntmps70
    go_wp2_with fail
    go_ret
    exact ⟨rfl, rfl⟩
  · have HK := hide hk
    clear hk
    go_enter Tryz.func70, Tryz.ntmps70
    go_wp2_with fail
    go_loopw [3] (fun v wr => ∃ (j q : Nat), q = 2 ^ j ∧ (q : Int) < n ∧ v = .int .i64 q ∧ wr = w) (fun v _ => n.toNat - (intOf v).toNat)
    case atStart => exact ⟨0, 1, rfl, by omega, rfl, rfl⟩
    case round =>
      obtain ⟨j, q, hq, hqn, rfl, hw⟩ := hrel
      subst wr
      have hq1 : 1 ≤ q := by rw [hq]; exact Nat.one_le_two_pow
      have HQ := hide hq
      clear hq
      by_cases hc : (q : Int) < n - q
      · go_wp2_with fail
        go_roundw
        case rel => exact ⟨j + 1, 2 * q, by rw [Nat.pow_succ, ← unhide HQ]; omega, by omega, by go_num, trivial⟩
        case measure => simp [intOf]; omega
      · go_wp2_with fail
        go_ret
        refine ⟨?_, rfl⟩
        have e : tsplP n.toNat = q := by rw [unhide HQ]; exact tsplP_of (by rw [← unhide HQ]; omega) (by rw [← unhide HQ]; omega)
        rw [unhide HK, e]
        rfl
end Go.Proofs.YtillhpgdlmeajaaGreatDoor

/-
  The contracts of the reference's Root and Leaves.
-/
namespace Go.Proofs.YtillhpgdlmeajaaGreatDoor
open Go.RowKit
open Go.Proofs
/-- u is the one slice of the list v. -/
def AtOne (v u : Value) (w : World) : Prop := ∃ b off c, v = .slice (some ⟨b, off, none⟩) 1 c ∧ w.cell? ⟨b, off, none⟩ = some u
set_option maxRecDepth 100000 in
set_option maxHeartbeats 2000000 in
theorem rroot_row (n : Nat) : ∀ (v : Value) (ls : List (List Int)) (r : List Int) (w : World), r = trootP ls → ls.length = n → n ≤ 100000 → LcM ls v w → (∀ x ∈ ls, x.length ≤ 1000) →
    Calls Tryz.prog 24 #[v] w fun e w' => ∃ ao m c, e = .returned (.slice ao m c) ∧ (Row w' w.heap.size (.slice ao m c) r ∨ AtOne v (.slice ao m c) w) ∧ Sl w' (.slice ao m c) r ∧ Kp [] w w' := by
  induction n using Nat.strongRecOn with
  | ind n ih =>
    intro v ls r w hr hlen hn hL hm
    have hbs := hL.bs
    obtain ⟨ao, c, e, h1, h2, h3⟩ := hL.shape
    rw [hlen] at e h1
    subst e
    rcases (by omega : n = 0 ∨ n = 1 ∨ 2 ≤ n) with rfl | rfl | h2n
    · have e : ls = [] := List.eq_nil_of_length_eq_zero hlen
      rw [e, trootP_nil] at hr
      have HC := hide (refsum_at (.slice none 0 0) [] r hr w (Sl.nil w) (fun b hb => by cases hb) (by simp))
      clear hbs hm hL hr e ih h1 h3 hlen
      go_enter Tryz.func24, Tryz.ntmps24
      go_wp2_with fail
      refine (unhide HC).mono ?_
      rintro ee w2 ⟨ao2, m2, c2, rfl, R2, K2⟩
      have HR2 := hide R2
      have HK2 := hide K2
      clear R2 K2 HC
      go_wp2_with fail
      go_ret
      exact ⟨ao2, m2, c2, rfl, .inl (unhide HR2), (unhide HR2).sl, unhide HK2⟩
    · obtain ⟨x, rfl⟩ : ∃ x, ls = [x] := by
        match ls, hlen with
        | [x], _ => exact ⟨x, rfl⟩
      rw [trootP_one] at hr
      subst hr
      obtain ⟨-, b, off, u, rfl, hc, hS, -⟩ := hL.at 0 r rfl
      have HS := hide hS
      obtain ⟨ax, cx, hux, _⟩ := hS
      obtain ⟨nx, hnx⟩ : ∃ nx, nx = r.length := ⟨_, rfl⟩
      rw [← hnx] at hux
      subst hux
      rw [Nat.add_zero] at hc
      have HAT : Hid (AtOne (.slice (some ⟨b, off, none⟩) 1 c) (.slice ax nx cx) w) := ⟨b, off, c, rfl, hc⟩
      clear hbs hm hL ih h1 h3 hlen hnx
      go_enter Tryz.func24, Tryz.ntmps24
      go_wp2_with fail
      go_ret
      exact ⟨_, _, _, rfl, .inr (unhide HAT), unhide HS, Kp.refl _ _⟩
    · obtain ⟨k, hk⟩ : ∃ k, k = tsplP n := ⟨_, rfl⟩
      have hk1 : 1 ≤ k := by rw [hk]; exact tsplP_pos h2n
      have hk2 : k < n := by rw [hk]; exact tsplP_lt h2n
      rw [trootP_more (by omega), hlen, ← hk] at hr
      obtain ⟨ra, hra⟩ : ∃ r, r = trootP (ls.take k) := ⟨_, rfl⟩
      obtain ⟨rb, hrb⟩ : ∃ r, r = trootP (ls.drop k) := ⟨_, rfl⟩
      rw [← hra, ← hrb] at hr
      have HR := hide hr
      have HA := hide (fun v w hL => ih k hk2 v (ls.take k) ra w hra (by simp; omega) (by omega) hL (fun x hx => hm x (List.mem_of_mem_take hx)))
      have HB := hide (fun v w hL => ih (n - k) (by omega) v (ls.drop k) rb w hrb (by simp; omega) (by omega) hL (fun x hx => hm x (List.mem_of_mem_drop hx)))
      have HAb : Hid (Bs ra) := by rw [hra]; exact trootP_bs _ (fun x hx => hbs x (List.mem_of_mem_take hx))
      have HBb : Hid (Bs rb) := by rw [hrb]; exact trootP_bs _ (fun x hx => hbs x (List.mem_of_mem_drop hx))
      have hal : ra.length ≤ 1000 := by rw [hra]; exact trootP_le 1000 (by omega) _ (fun x hx => hm x (List.mem_of_mem_take hx))
      have hbl : rb.length ≤ 1000 := by rw [hrb]; exact trootP_le 1000 (by omega) _ (fun x hx => hm x (List.mem_of_mem_drop hx))
      have HC := hide (rsplit_any n k w (by rw [Int.toNat_natCast]; exact hk) (by omega))
      have HKL : Hid (k ≤ ls.length) := hide (by omega)
      have HLL : Hid (∀ w', Kp [] w.drew w' → LcM ls (.slice ao n c) w') := fun w' k' => hL.kept ((kp_drew w).trans k')
      have hn0 : ¬ (n : Int) = 0 := by omega
      have hn1 : ¬ (n : Int) = 1 := by omega
      clear hbs hm hL ih h1 h3 hlen hr hra hrb hk
      go_enter Tryz.func24, Tryz.ntmps24
      go_wp2_with fail
      refine (unhide HC).mono ?_
      rintro ee w2 ⟨rfl, hw⟩
      subst w2
      clear HC hn0 hn1
      go_wp2_with fail
      obtain ⟨B, hB⟩ : ∃ B, B = w.heap.size := ⟨_, rfl⟩
      have HBW : Hid (∀ w', Kp [] w.drew w' → B ≤ w'.heap.size) := fun w' k' => by rw [hB]; exact k'.size
      have HBB := hide hB
      clear hB
      refine region_grow Tryz.mixed [Is (.slice ao n c), Is (.int .i64 k), LcM ((ls).take k), SlT (ra), Is (.slice ao n c), Is (.int .i64 k), LcM ((ls).drop k), SlT (rb), RwT B r, RwT B r] [[(0, none)], [(3, none)], [(17, some 0), (18, some 1)], [(19, some 2)], [(0, none)], [(3, none)], [(21, some 4), (22, some 5)], [(23, some 6)], [(20, some 3), (24, some 7)], [(25, some 8)]] (by kernel_rfl) ?_ ?_ ?_
      · simp only [List.mem_cons, List.not_mem_nil, or_false]
        intro R hR
        rcases hR with rfl | rfl | rfl | rfl | rfl | rfl | rfl | rfl | rfl | rfl <;> first | exact stable_is _ | exact stable_lcm _ | exact stable_sl _ | exact stable_rw _ _
      · refine steps_cons (fun a w hk hn => ?_) ?_
        · have h0 : a.eval (.tmp 0) = .slice ao n c := hn.1
          clear hn
          refine wants_plain rfl ?_
          exact grown_move (.tmp 0) rfl h0
        refine steps_cons (fun a w hk hn => ?_) ?_
        · have h3 : a.eval (.tmp 3) = .int .i64 k := hn.1
          clear hn
          refine wants_plain rfl ?_
          exact grown_move (.tmp 3) rfl h3
        refine steps_cons (fun a w hk hn => ?_) ?_
        · have h17 : a.eval (.tmp 17) = .slice ao n c := hn.1
          have h18 : a.eval (.tmp 18) = .int .i64 k := hn.2.1
          clear hn
          refine wants_plain rfl ?_
          exact grown_lhead (.tmp 17) (.tmp 18) (ls) k rfl (by rw [h17]; exact unhide HLL w hk) h18 (unhide HKL)
        refine steps_cons (fun a w hk hn => ?_) ?_
        · have h19 : (LcM ((ls).take k)) (a.eval (.tmp 19)) w := hn.1
          clear hn
          refine wants_plain rfl ?_
          refine grown_call (f := 24) rfl Tryz.func24 (by kernel_rfl) (by kernel_rfl) ?_
          simp only [List.map_toArray, List.map_cons, List.map_nil]
          refine (unhide HA _ w h19).mono ?_
          rintro e w' ⟨ao, m, c, rfl, -, R, K⟩
          exact ⟨_, rfl, K, R⟩
        refine steps_cons (fun a w hk hn => ?_) ?_
        · have h0 : a.eval (.tmp 0) = .slice ao n c := hn.1
          clear hn
          refine wants_plain rfl ?_
          exact grown_move (.tmp 0) rfl h0
        refine steps_cons (fun a w hk hn => ?_) ?_
        · have h3 : a.eval (.tmp 3) = .int .i64 k := hn.1
          clear hn
          refine wants_plain rfl ?_
          exact grown_move (.tmp 3) rfl h3
        refine steps_cons (fun a w hk hn => ?_) ?_
        · have h21 : a.eval (.tmp 21) = .slice ao n c := hn.1
          have h22 : a.eval (.tmp 22) = .int .i64 k := hn.2.1
          clear hn
          refine wants_plain rfl ?_
          exact grown_lfrom (.tmp 21) (.tmp 22) (ls) k rfl (by rw [h21]; exact unhide HLL w hk) h22 (unhide HKL)
        refine steps_cons (fun a w hk hn => ?_) ?_
        · have h23 : (LcM ((ls).drop k)) (a.eval (.tmp 23)) w := hn.1
          clear hn
          refine wants_plain rfl ?_
          refine grown_call (f := 24) rfl Tryz.func24 (by kernel_rfl) (by kernel_rfl) ?_
          simp only [List.map_toArray, List.map_cons, List.map_nil]
          refine (unhide HB _ w h23).mono ?_
          rintro e w' ⟨ao, m, c, rfl, -, R, K⟩
          exact ⟨_, rfl, K, R⟩
        refine steps_cons (fun a w hk hn => ?_) ?_
        · have h20 : Sl w (a.eval (.tmp 20)) (ra) := hn.1
          have h24 : Sl w (a.eval (.tmp 24)) (rb) := hn.2.1
          clear hn
          refine wants_plain rfl ?_
          refine grown_call (f := 71) rfl Tryz.func71 (by kernel_rfl) (by kernel_rfl) ?_
          simp only [List.map_toArray, List.map_cons, List.map_nil]
          refine (rnode_any _ _ ra rb r (unhide HR) w h20 (unhide HAb) (by omega) h24 (unhide HBb) (by omega)).mono ?_
          rintro e w' ⟨ao, m, c, rfl, R, K⟩
          exact ⟨_, rfl, K, ⟨ao, m, c, rfl, owns_rebase R (fun i hi => Nat.le_trans (unhide HBW w hk) (Row.own R i hi))⟩⟩
        refine steps_cons (fun a w hk hn => ?_) ?_
        · have h25 : (RwT B r) (a.eval (.tmp 25)) w := hn.1
          clear hn
          refine wants_plain rfl ?_
          exact grown_assign (.tmp 25) rfl h25
        exact trivial
      intro W1 hkW1
      rintro _ rfl
      rintro _ rfl
      intro v19 h19
      intro v20 h20
      rintro _ rfl
      rintro _ rfl
      intro v23 h23
      intro v24 h24
      intro v25 h25
      intro v2 h2
      refine fin_nil ?_
      simp only [Act.put, List.set_cons_zero, List.set_cons_succ, List.setIfInBounds_toArray]
      obtain ⟨ao2, m2, c2, rfl, R2⟩ := h2
      rw [unhide HBB] at R2
      have HR2 := hide R2
      have HK2 := hide ((kp_drew w).trans hkW1)
      clear R2 h25 h24 h23 h20 h19 hkW1
      go_wp2_with fail
      go_ret
      exact ⟨ao2, m2, c2, rfl, .inl (unhide HR2), (unhide HR2).sl, unhide HK2⟩
theorem rroot_any (n : Nat) (v : Value) (ls : List (List Int)) (r : List Int) (w : World) (hr : r = trootP ls) (hl : ls.length = n) (hn : n ≤ 100000) (hL : LcM ls v w) (hm : ∀ x ∈ ls, x.length ≤ 1000) :
    Calls Tryz.prog 24 #[v] w fun e w' => ∃ ao m c, e = .returned (.slice ao m c) ∧ Sl w' (.slice ao m c) r ∧ Kp [] w w' := by
  refine (rroot_row n v ls r w hr hl hn hL hm).mono ?_
  rintro e w' ⟨ao, m, c, rfl, -, R, K⟩
  exact ⟨ao, m, c, rfl, R, K⟩
set_option maxRecDepth 100000 in
set_option maxHeartbeats 2000000 in
theorem rleaves_any (vl : Value) (ls : List (List Int)) (w : World) (hL : LcM ls vl w) (hn : ls.length ≤ 1000) (hm : ∀ x ∈ ls, x.length ≤ 1000) :
    Calls Tryz.prog 25 #[vl] w fun e w' => ∃ ao m c, e = .returned (.slice ao m c) ∧ Acc w (ls.map tleafP) (.slice ao m c) w' := by
  have HL := hide hL
  have HM := hide hm
  obtain ⟨al, cl, e, h1, h2, h3⟩ := hL.shape
  obtain ⟨N, hN⟩ : ∃ N, N = ls.length := ⟨_, rfl⟩
  rw [← hN] at e hn
  subst e
  have HN := hide hN
  have hnn : (N : Int) ≤ 1000 := by omega
  clear hL hm hN h1 h2 h3
  go_enter Tryz.func25, Tryz.ntmps25
  go_wp2_with fail
  go_loopw [3, 4] (fun v i wr => ∃ (k m cc : Nat) (ao : Option Addr), k ≤ N ∧ v = .slice ao m cc ∧ i = .int .i64 k ∧ Acc w ((ls.take k).map tleafP) v wr) (fun _ i _ => N - (intOf i).toNat)
  case atStart => exact ⟨0, 0, 0, none, by omega, rfl, rfl, [], ⟨World.ownsRow_nil _ _ _ _, fun x hx => by cases hx⟩, rfl, Kp.refl _ _⟩
  case round =>
    obtain ⟨k, m, cc, ao, hk, rfl, rfl, Ar⟩ := hrel
    have HA := hide Ar
    clear Ar
    by_cases hlt : k < N
    · have hlt2 : (k : Int) < (N : Int) := by omega
      have hkl : k < ls.length := by have := unhide HN; omega
      have HE : Hid ((ls.take (k + 1)).map tleafP = (ls.take k).map tleafP ++ [tleafP ls[k]]) := hide (by rw [List.take_succ_eq_append_getElem hkl, List.map_append]; rfl)
      have hx := List.getElem?_eq_getElem hkl
      have hml := unhide HM ls[k] (List.getElem_mem hkl)
      have HLN : Hid (((ls.take k).map tleafP).length ≤ 1000000) := hide (by simp; omega)
      obtain ⟨x, hxx⟩ : ∃ x, x = ls[k] := ⟨_, rfl⟩
      rw [← hxx] at HE hx hml
      obtain ⟨-, b, off, u, rfl, hc, hS, hB⟩ := (unhide HL).at k x hx
      have Kr := (unhide HA).kp
      have hcw := Kr.cell hc (by simp)
      have hSw := hS.kept Kr (by simp)
      obtain ⟨ax, cx, hux, _⟩ := hS
      obtain ⟨nx, hnx⟩ : ∃ nx, nx = x.length := ⟨_, rfl⟩
      rw [← hnx] at hux
      subst hux
      obtain ⟨r, hr⟩ : ∃ r, r = tleafP x := ⟨_, rfl⟩
      rw [← hr] at HE
      have HRB : Hid (Bs r) := by rw [hr]; exact sha_bs _
      have HC := hide (rleaf_any _ x r hr wr hSw hB (by omega))
      clear hx hxx hkl hc hSw hB hnx hr Kr
      go_wp2_with fail
      refine (unhide HC).mono ?_
      rintro ee w4 ⟨a4, m4, c4, rfl, R4, K4⟩
      have HR4 := hide R4
      have HK4 := hide K4
      clear R4 K4 HC hcw
      go_wp2_with (at_builtin; refine wpList_acc rfl (.tmp 11) (.tmp 17) rfl _ _ rfl (unhide HA) (unhide HLN) _ r (unhide HK4) (unhide HR4) (unhide HRB) rfl ?_; intro ao5 m5 c5 w5 A5)
      go_roundw
      case rel => exact ⟨k + 1, m5, c5, ao5, by omega, rfl, by go_num, by have e := unhide HE; rw [e]; exact A5⟩
      case measure => simp [intOf]; omega
    · obtain rfl : k = N := by omega
      have e : (ls.take k).map tleafP = ls.map tleafP := by rw [unhide HN, List.take_length]
      rw [e] at HA
      clear e
      go_wp2_with fail
      go_ret
      exact ⟨ao, m, cc, rfl, unhide HA⟩
end Go.Proofs.YtillhpgdlmeajaaGreatDoor
