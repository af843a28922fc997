/-
  What chapter 4 fixes, as plain functions of lists of numbers.
-/
import Derived.Test.YtillhpgdlmeajaaGreatDoorQB1
import Derived.Test.YtillhpgdlmeajaaGreatDoorQB4
import Derived.Below
import Derived.ChangeOld
import Derived.Deep.Slices
import Derived.LaidMore
import Derived.Lib.LaidTab
import Derived.Lib.SmallJoins
import Derived.OpenShut
import Derived.ProofKit
import Derived.ShutString
import Derived.Stop.Joined
import Derived.Test.YtillhpgdlmeajaaGreatDoorRows
import Derived.BigCall
import Derived.Test.YtillhpgdlmeajaaGreatDoorQB2
import Derived.Test.YtillhpgdlmeajaaGreatDoorQB3
import Derived.Laws.ResultCell
import Derived.Laws.Rows
import Derived.Test.YtillhpgdlmeajaaGreatDoorQB5
import Derived.Lib.ConvBytes
import Derived.Deep.MidRow
import Derived.Lib.SlBytesConst
import Derived.BigQuiet
import Derived.Deep.QuietTactic
import Derived.Lib.BitFns
namespace Go.Proofs.YtillhpgdlmeajaaGreatDoor
open Go.RowKit
theorem or_nat (k x y : Nat) (hy : y < 2 ^ k) (hx : 2 ^ k * x + y < 4294967296) : bits .or .u32 ((2 ^ k * x : Nat) : Int) (y : Int) = ((2 ^ k * x + y : Nat) : Int) := by
  have e1 : (BitVec.ofInt 32 ((2 ^ k * x : Nat) : Int)).toNat = 2 ^ k * x := by
    rw [BitVec.ofInt_natCast, BitVec.toNat_ofNat]; exact Nat.mod_eq_of_lt (by omega)
  have e2 : (BitVec.ofInt 32 (y : Int)).toNat = y := by
    rw [BitVec.ofInt_natCast, BitVec.toNat_ofNat]; exact Nat.mod_eq_of_lt (by omega)
  show IntKind.u32.wrap ((BitVec.ofInt 32 ((2 ^ k * x : Nat) : Int) ||| BitVec.ofInt 32 (y : Int)).toNat : Int) = _
  rw [BitVec.toNat_or, e1, e2, ← Nat.two_pow_add_eq_or_of_lt hy x]
  obtain ⟨z, hz⟩ : ∃ z, z = 2 ^ k * x + y := ⟨_, rfl⟩
  rw [← hz] at hx ⊢
  simp [IntKind.wrap, IntKind.signed, IntKind.bits]
  omega
theorem val4 (a b c d : Int) : val [a, b, c, d] = a * 16777216 + b * 65536 + c * 256 + d := by simp [val]; omega
theorem wd_val (a b c d : Int) (ha : 0 ≤ a ∧ a ≤ 255) (hb : 0 ≤ b ∧ b ≤ 255) (hc : 0 ≤ c ∧ c ≤ 255) (hd : 0 ≤ d ∧ d ≤ 255) : wd a b c d = val [a, b, c, d] := by
  obtain ⟨x, rfl⟩ := Int.eq_ofNat_of_zero_le ha.1
  obtain ⟨y, rfl⟩ := Int.eq_ofNat_of_zero_le hb.1
  obtain ⟨z, rfl⟩ := Int.eq_ofNat_of_zero_le hc.1
  obtain ⟨u, rfl⟩ := Int.eq_ofNat_of_zero_le hd.1
  rw [val4]
  unfold wd
  have e1 := or_nat 24 x (y * 65536) (by omega) (by omega)
  have e2 := or_nat 16 (x * 256 + y) (z * 256) (by omega) (by omega)
  have e3 := or_nat 8 (x * 65536 + y * 256 + z) u (by omega) (by omega)
  rw [show ((x : Int) * 16777216) = ((2 ^ 24 * x : Nat) : Int) by omega, show ((y : Int) * 65536) = ((y * 65536 : Nat) : Int) by omega, e1,
    show ((2 ^ 24 * x + y * 65536 : Nat) : Int) = ((2 ^ 16 * (x * 256 + y) : Nat) : Int) by omega, show ((z : Int) * 256) = ((z * 256 : Nat) : Int) by omega, e2,
    show ((2 ^ 16 * (x * 256 + y) + z * 256 : Nat) : Int) = ((2 ^ 8 * (x * 65536 + y * 256 + z) : Nat) : Int) by omega, e3]
  omega
end Go.Proofs.YtillhpgdlmeajaaGreatDoor

/-
  What chapter 5 fixes, as plain functions of lists of numbers.
-/
namespace Go.Proofs.YtillhpgdlmeajaaGreatDoor
open Go.RowKit
def topP (seed : List Int) : List Int := (lvP seed 4).getD 0 []
end Go.Proofs.YtillhpgdlmeajaaGreatDoor

/-
  Helpers of the laws: Cut, Within; how an argument that is a row of bytes is read; what the laid table gives.
-/
namespace Go.Proofs.YtillhpgdlmeajaaGreatDoor
open Go.ChangeShapes Go.WideShapes Go.ChangeAt Go.RowKit
open Go.Deep
section
variable {H : Type} {enc : TypeId × Value → H} {w : World}
end
theorem laidOut : laidOutB Tryz.prog = true := by kernel_rfl
end Go.Proofs.YtillhpgdlmeajaaGreatDoor

/-
  Slices of ints, and rows of slices that a call owns.
-/
namespace Go.Proofs.YtillhpgdlmeajaaGreatDoor
open Go.ChangeShapes Go.WideShapes Go.ChangeAt Go.RowKit
open Go.Deep
section
variable {H : Type} {enc : TypeId × Value → H} {w : World}
theorem ints_of_trod {v : Value} {fuel : Nat} {x : DataW H × List MemPlace} (h : DataW.trod enc Tryz.prog w 0 (fun _ => true) true fuel 35 [v] = some x) : ∃ l, Ints w v l := by
  rcases open_ints Tryz.underlying35 Tryz.underlying3 (by kernel_rfl) h with ⟨hcs, _⟩ | ⟨a, len, cap, zs, hcs, _, hl, hm, hz, _, hcell, hwz⟩
  · simp only [List.cons.injEq, and_true] at hcs
    subst hcs
    exact ⟨[], none, 0, rfl, by simp [maxLen], (fun x hx => by cases hx), fun i hi => by cases hi⟩
  · simp only [List.cons.injEq, and_true] at hcs
    subst hcs
    simp only [if_true] at hz
    have hlen : (zs.take len).length = len := by simp; omega
    refine ⟨zs.take len, some a, cap, by rw [hlen], by omega, fun b hb => bounds_i64 (hwz b (List.mem_of_mem_take hb)), fun i hi => ⟨a, rfl, ?_⟩⟩
    rw [hcell i (by omega)]
    have : i < zs.length := by omega
    simp [List.getD, List.getElem?_eq_getElem this]
end
theorem run_from (ao : Option Addr) (n c p : Nat) (w : World) (h1 : p ≤ n) (h2 : n ≤ c) (h4 : ao = none → c = 0) :
    (Instr.sliceAt 22 (.slice ao n c) (some (.int .i64 p)) none none).run Tryz.prog w = .ok (.slice (if c = p then ao else ao.map (·.add p)) (n - p) (c - p)) w := by
  have e2 : (p : Int) ≤ (n : Int) := by omega
  by_cases hc : c = p
  · rw [if_pos hc]
    subst hc
    simp [go_sem, e2]
  · rw [if_neg hc]
    cases ao with
    | none => have := h4 rfl; omega
    | some a => simp [go_sem, e2, hc]
end Go.Proofs.YtillhpgdlmeajaaGreatDoor

/-
  Single operations of a region that only makes memory.
-/
namespace Go.Proofs.YtillhpgdlmeajaaGreatDoor
open Go.RowKit
section
variable {P : Program} {ops : Array Oper} {o : Oper} {a : Act} {w : World} {R : Tell}
theorem grown_conv (x : Operand) (src dst e : TypeId) (bs : List Int) (ho : o.op = .convert src dst x) (hS : Sl w (a.eval x) bs) (hs : P.underlying src = some (.slice e)) (he : P.underlying e = some (.int .u8)) (hd : P.underlying dst = some .string) (hR : R (.string (strOfNums bs)) w) : grown P w R ((execOp a.eval o).run P w) := by
  refine grown_run ?_ (Kp.refl _ _) hR
  unfold execOp
  simp only [ho, Sem.run_bind, hS.conv src dst e hs he hd, Result.andThen_ok, Sem.run_pure]
end
end Go.Proofs.YtillhpgdlmeajaaGreatDoor

/-
  The contract of the reference's Digest.
-/
namespace Go.Proofs.YtillhpgdlmeajaaGreatDoor
open Go.RowKit
set_option maxRecDepth 100000 in
set_option maxHeartbeats 1000000 in
theorem refdigest_any (vb : Value) (bs : List Int) (d : Int) (hd : d = digP bs) (w : World) (hS : Sl w vb bs) (hB : Bs bs) (hl : bs.length ≤ 1000000) :
    Calls Tryz.prog 150 #[vb] w fun e w' => e = .returned (.int .u32 d) ∧ Kp [] w w' := by
  have HL := hide (lists1 hS hB)
  obtain ⟨ab, cb, hvb, _⟩ := hS
  obtain ⟨nb, hnb⟩ : ∃ n, n = bs.length := ⟨_, rfl⟩
  rw [← hnb] at hvb
  subst hvb
  obtain ⟨r, hr⟩ : ∃ r, r = sha (13 :: cat [(Value.slice ab nb cb, bs)]) := ⟨_, rfl⟩
  have HR := hide hr
  have HRL : Hid (r.length = 32) := by rw [hr]; exact sha_len _
  have HRB : Bs r := by rw [hr]; exact sha_bs _
  have HRD : d = val (r.take 4) := by rw [hr, hd, cat1]; rfl
  obtain ⟨x0, x1, x2, x3, tl, hrx⟩ : ∃ x0 x1 x2 x3 tl, r = x0 :: x1 :: x2 :: x3 :: tl := by
    match r, unhide HRL with
    | x0 :: x1 :: x2 :: x3 :: tl, _ => exact ⟨_, _, _, _, _, rfl⟩
  have b0 : 0 ≤ x0 ∧ x0 ≤ 255 := HRB x0 (by simp [hrx])
  have b1 : 0 ≤ x1 ∧ x1 ≤ 255 := HRB x1 (by simp [hrx])
  have b2 : 0 ≤ x2 ∧ x2 ≤ 255 := HRB x2 (by simp [hrx])
  have b3 : 0 ≤ x3 ∧ x3 ≤ 255 := HRB x3 (by simp [hrx])
  have HW : Hid (wd x0 x1 x2 x3 = d) := by rw [wd_val _ _ _ _ b0 b1 b2 b3, HRD, hrx]; rfl
  have HX := hide hrx
  obtain ⟨y0, y0'⟩ := b0
  obtain ⟨y1, y1'⟩ := b1
  obtain ⟨y2, y2'⟩ := b2
  obtain ⟨y3, y3'⟩ := b3
  clear hd hr hnb hB HRB HRD hrx
  go_enter Tryz.func150, Tryz.ntmps150
  go_wp2_with (go_at_call 40; refine (reftagged_any 13 _ _ r (unhide HR) _ (unhide HL) (by omega) (by omega) (by simp) (by simpa using hl)).mono ?_; rintro ee w2 ⟨ao2, m2, c2, rfl, R2, K2⟩; obtain rfl : m2 = 32 := R2.len.trans (unhide HRL))
  obtain ⟨b2, o2, rfl, hnn, hcell⟩ := R2.sl.spot (by omega)
  clear hnn
  have HK := hide (((Kp.refl [] w).alloc (.cells #[.slice ab nb cb] 22)).trans K2)
  have hq : ∀ k x, (x0 :: x1 :: x2 :: x3 :: tl)[k]? = some x → w2.cell? ⟨b2, o2 + k, none⟩ = some (.int .u8 x) := fun k x hx => by
    have e := unhide HX
    have hk : k < r.length := by rw [e]; exact (List.getElem?_eq_some_iff.1 hx).1
    rw [hcell k hk]
    have : r[k] = x := by
      have h1 : r[k]? = some x := by rw [e]; exact hx
      rw [List.getElem?_eq_getElem hk] at h1
      exact Option.some.inj h1
    rw [this]
  have q0 := hq 0 x0 rfl
  have q1 := hq 1 x1 rfl
  have q2 := hq 2 x2 rfl
  have q3 := hq 3 x3 rfl
  rw [Nat.add_zero] at q0
  clear R2 K2 hcell HL HR HX HRL hq
  go_quiet (fail)
  go_wp2_with fail
  go_ret
  exact ⟨congrArg (fun x => Ending.returned (Value.int .u32 x)) (unhide HW), (unhide HK).trans (kp_drewN _ _)⟩
end Go.Proofs.YtillhpgdlmeajaaGreatDoor

/-
  The contract of the law package's Lists; lists of slices by their bytes, as what an operation yields.
-/
namespace Go.Proofs.YtillhpgdlmeajaaGreatDoor
open Go.RowKit
open Go.Deep
set_option maxRecDepth 100000 in
set_option maxHeartbeats 1000000 in
theorem lists_any (va vb : Value) (la lb : List (Value × List Int)) (h : la.map (·.2) = lb.map (·.2)) (w : World) (hA : Lists w va la) (hB : Lists w vb lb) :
    Calls Tryz.prog 27 #[va, vb] w fun e w' => e = .returned (.bool true) ∧ Kp [] w w' := by
  have hlen : lb.length = la.length := by have := congrArg List.length h; simpa using this.symm
  have H := hide h
  obtain ⟨aa, ca, rfl, hla, hca⟩ := hA
  obtain ⟨ab, cb, rfl, hlb, hcb⟩ := hB
  have HA := hide hca
  have HB := hide hcb
  have HLE := hide hlen
  rw [hlen]
  obtain ⟨N, hN⟩ : ∃ N, N = la.length := ⟨_, rfl⟩
  have HN := hide hN
  rw [← hN] at hla ⊢
  have hNi : (N : Int) ≤ 9223372036854775807 := by omega
  clear h hca hcb hlen hlb hN
  go_enter Tryz.func27, Tryz.ntmps27
  go_wp2_with fail
  go_loopw [5] (fun i wr => ∃ k : Nat, k ≤ N ∧ i = .int .i64 k ∧ Kp [] w wr) (fun i _ => N - (intOf i).toNat)
  case atStart => exact ⟨0, by omega, rfl, Kp.refl _ _⟩
  case round =>
    obtain ⟨k, hk, rfl, Kr⟩ := hrel
    have HKr := hide Kr
    clear Kr
    by_cases hlt : k < N
    · have hlt2 : (k : Int) < (N : Int) := by omega
      have hka : k < la.length := by have := unhide HN; omega
      have hkb : k < lb.length := by have := unhide HLE; omega
      obtain ⟨b1, o1, rfl, hc1, hS1, _⟩ := unhide HA k hka
      obtain ⟨b2, o2, rfl, hc2, hS2, _⟩ := unhide HB k hkb
      have hxy : la[k].2 = lb[k].2 := by
        have h1 : (la.map (·.2))[k]? = (lb.map (·.2))[k]? := by rw [unhide H]
        rw [List.getElem?_map, List.getElem?_map, List.getElem?_eq_getElem hka, List.getElem?_eq_getElem hkb] at h1
        exact Option.some.inj h1
      have d1 : wr.drew.cell? ⟨b1, o1 + k, none⟩ = some la[k].1 := ((unhide HKr).trans (kp_drew wr)).cell hc1 (by simp)
      have d2 : wr.drew.cell? ⟨b2, o2 + k, none⟩ = some lb[k].1 := ((unhide HKr).trans (kp_drew wr)).cell hc2 (by simp)
      have v1 := (hS1.kept ((unhide HKr).trans (kp_drew wr)) (by simp)).conv (P := Tryz.prog) 22 9 5 Tryz.underlying22 Tryz.underlying5 Tryz.underlying9
      have v2 := (hS2.kept ((unhide HKr).trans (kp_drew wr)) (by simp)).conv (P := Tryz.prog) 22 9 5 Tryz.underlying22 Tryz.underlying5 Tryz.underlying9
      rw [← hxy] at v2
      obtain ⟨S, hSS⟩ : ∃ S, S = strOfNums la[k].2 := ⟨_, rfl⟩
      rw [← hSS] at v1 v2
      obtain ⟨x1, y1, e1, hj1⟩ := hS1
      obtain ⟨x2, y2, e2, hj2⟩ := hS2
      obtain ⟨n1, hn1⟩ : ∃ n, n = la[k].2.length := ⟨_, rfl⟩
      obtain ⟨n2, hn2⟩ : ∃ n, n = lb[k].2.length := ⟨_, rfl⟩
      rw [← hn1] at e1
      rw [← hn2] at e2
      rw [e1] at d1 v1
      rw [e2] at d2 v2
      clear hc1 hc2 hxy hSS e1 e2 hj1 hj2 hn1 hn2 HA HB
      go_wp2_with fail
      refine region_read Tryz.mixed (by kernel_rfl) ?_
      repeat (first | go_big_quiet_skip | (go_big_quiet_want; go_big_quiet_op; go_big_quiet_on))
      refine wpQuiet_nil ?_
      go_wp2_with fail
      go_roundw
      case rel => exact ⟨k + 1, by omega, by go_num, (unhide HKr).trans (kp_drew wr)⟩
      case measure => simp [intOf]; omega
    · obtain rfl : k = N := by omega
      clear HA HB
      go_wp2_with fail
      go_ret
      exact ⟨rfl, unhide HKr⟩
/-- The value is a slice of slices that reads as these bytes. -/
def LsM (ls : List (List Int)) : Tell := fun v w => ∃ l, Lists w v l ∧ l.map (·.2) = ls
theorem stable_lsm (ls : List (List Int)) : Tell.stable (LsM ls) := fun _ _ _ k ⟨l, h, e⟩ => ⟨l, h.kept k, e⟩
theorem reftagged_lsm {tag : Int} {v : Value} {ls : List (List Int)} {w : World} (r : List Int) (hr : r = sha (tag :: ls.flatten)) (h : LsM ls v w) (h0 : 0 ≤ tag) (h1 : tag ≤ 255) (hn : ls.length ≤ 100000) (hm : ∀ x ∈ ls, x.length ≤ 1000000) :
    Calls Tryz.prog 40 #[.int .u8 tag, v] w fun e w' => ∃ ao m c, e = .returned (.slice ao m c) ∧ Row w' w.heap.size (.slice ao m c) r ∧ Kp [] w w' := by
  obtain ⟨l, hL, he⟩ := h
  exact reftagged_any tag v l r (by rw [hr, cat_map he]) w hL h0 h1 (by rw [← List.length_map (f := (·.2)), he]; exact hn) (small_of_map he hm)
end Go.Proofs.YtillhpgdlmeajaaGreatDoor

/-
  The contracts of package sign's pathOf, ledUp and Public.
-/
namespace Go.Proofs.YtillhpgdlmeajaaGreatDoor
open Go.RowKit
open Go.Proofs
set_option maxRecDepth 100000 in
set_option maxHeartbeats 2000000 in
theorem spublic_any (vb : Value) (bs : List Int) (r : List Int) (hr : r = topP bs) (w : World) (hS : Sl w vb bs) (hB : Bs bs) (hl : bs.length = 32) (hG : Gl w) :
    Calls Tryz.prog 84 #[vb] w fun e w' => ∃ ao m c, e = .returned (.slice ao m c) ∧ Sl w' (.slice ao m c) r ∧ Kp [] w w' := by
  have HS := hide hS
  have HG := hide hG
  have HR := hide hr
  have HI := hide (isSeed_any vb bs w hS hl)
  have HC := hide (leaves_any vb bs w hS hB (by omega) hG)
  obtain ⟨ab, cb, hvb, _⟩ := hS
  obtain ⟨nb, hnb⟩ : ∃ n, n = bs.length := ⟨_, rfl⟩
  rw [← hnb] at hvb
  subst hvb
  clear hG hB hnb hr
  go_enter Tryz.func84, Tryz.ntmps84
  go_wp2_with fail
  refine (unhide HI).mono ?_
  rintro ee w1 ⟨rfl, hw⟩
  subst w1
  go_wp2_with fail
  refine (unhide HC).mono ?_
  rintro ee w2 ⟨a2, m2, c2, rfl, A2⟩
  have HK2 := hide A2.kp
  have HL2 : Hid (∃ l, Lists w2 (.slice a2 m2 c2) l ∧ l.map (·.2) = lvP bs 0) := A2.lists (by rw [lvsP_len]; omega)
  clear HC HI A2
  go_wp2_with fail
  go_loopw [3, 9] (fun lv j wr => ∃ (k m2 c2 : Nat) (a2 : Option Addr), k ≤ 4 ∧ lv = .slice a2 m2 c2 ∧ j = .int .i64 k ∧ (∃ l, Lists wr lv l ∧ l.map (·.2) = lvP bs k) ∧ Kp [] w wr) (fun _ j _ => 4 - (intOf j).toNat)
  case atStart => exact ⟨0, m2, c2, a2, by omega, rfl, rfl, unhide HL2, unhide HK2⟩
  case round =>
    clear HL2 HK2
    obtain ⟨k, m3, c3, a3, hk, rfl, rfl, ⟨l, hL, hle⟩, Kr⟩ := hrel
    have HKr := hide Kr
    by_cases hlt : k < 4
    · have hlt2 : (k : Int) < 4 := by omega
      have HC := hide (above_any (.slice a3 m3 c3) l (lvP bs k) hle (fun x hx => by rw [(lvP_all bs k x hx).1]; omega) wr hL (by have := lv_le bs k; omega) (lv_even bs k hlt) ((unhide HG).kept Kr (by simp)))
      clear hL hle Kr
      go_wp2_with fail
      refine (unhide HC).mono ?_
      rintro ee w6 ⟨a6, m6, c6, rfl, A6⟩
      have HL6 : Hid (∃ l, Lists w6 (.slice a6 m6 c6) l ∧ l.map (·.2) = lvP bs (k + 1)) := A6.lists (by rw [abvP_len]; have := lv_le bs k; omega)
      have HK6 := hide ((unhide HKr).trans A6.kp)
      clear A6 HC
      go_wp2_with fail
      go_roundw
      case rel => exact ⟨k + 1, m6, c6, a6, by omega, rfl, by go_num, unhide HL6, unhide HK6⟩
      case measure => simp [intOf]; omega
    · obtain rfl : k = 4 := by omega
      obtain ⟨b, off, ay, ny, cy, rfl, hc, hSy, hBy⟩ := lists_at hL hle 0 (by rw [lvP_len]; decide)
      have hm3 : m3 = 1 := by
        obtain ⟨ao', c', e, _⟩ := hL
        injection e with _ e2
        rw [e2, ← List.length_map (f := (·.2)), hle, lvP_len]
      subst hm3
      have HSy : Hid (Sl wr (.slice ay ny cy) r) := by rw [unhide HR]; exact hSy
      rw [Nat.add_zero] at hc
      clear hSy hBy hL hle Kr HR
      go_wp2_with fail
      go_ret
      exact ⟨ay, ny, cy, rfl, unhide HSy, unhide HKr⟩
end Go.Proofs.YtillhpgdlmeajaaGreatDoor

/-
  Plain facts on the four bytes of a number: they make the number, and they stand in order as the numbers do.
-/
namespace Go.Proofs.YtillhpgdlmeajaaGreatDoor
open Go.RowKit
theorem toNat_of (x : Int) (h0 : 0 ≤ x) (h1 : x ≤ 255) : ((UInt8.ofNat x.toNat).toNat : Int) = x := by
  simp; omega
theorem str_toList (bs : List Int) : (strOfNums bs).toList = bs.map fun n => UInt8.ofNat n.toNat := by
  rw [ByteArray.toList_eq]; rfl
theorem of_eq (x y : Int) (hx : 0 ≤ x ∧ x ≤ 255) (hy : 0 ≤ y ∧ y ≤ 255) : (UInt8.ofNat x.toNat = UInt8.ofNat y.toNat) ↔ x = y := by
  constructor
  · intro h
    have := toNat_of x hx.1 hx.2
    have := toNat_of y hy.1 hy.2
    rw [h] at *
    omega
  · intro h; rw [h]
theorem str_inj (bs cs : List Int) (hb : Bs bs) (hc : Bs cs) (h : (strOfNums bs).toList = (strOfNums cs).toList) : bs = cs := by
  rw [str_toList, str_toList] at h
  induction bs generalizing cs with
  | nil => cases cs with
    | nil => rfl
    | cons c cs => simp at h
  | cons b bs ih => cases cs with
    | nil => simp at h
    | cons c cs =>
      simp only [List.map_cons, List.cons.injEq] at h
      rw [(of_eq b c (hb b (by simp)) (hc c (by simp))).1 h.1, ih cs (fun x hx => hb x (by simp [hx])) (fun x hx => hc x (by simp [hx])) h.2]
theorem str_beq (bs cs : List Int) (hb : Bs bs) (hc : Bs cs) : ((strOfNums bs).toList == (strOfNums cs).toList) = decide (bs = cs) := by
  rw [Bool.eq_iff_iff]
  simp only [beq_iff_eq, decide_eq_true_eq]
  exact ⟨str_inj bs cs hb hc, fun h => by rw [h]⟩
end Go.Proofs.YtillhpgdlmeajaaGreatDoor

/-
  The contracts of package sign's Sign and Verify.
-/
namespace Go.Proofs.YtillhpgdlmeajaaGreatDoor
open Go.RowKit
open Go.Proofs
theorem results_sig1 {fn : Func} {p : Tmp} (h : fn.results = #[.cell p 70]) (tmps : Array Value) (w : World) (g : Nat) (x y z : Value) (fr : Nat × Nat)
    (hp : tmps.getD p undef = .pointer (some ⟨g, 0, none⟩)) (hg : w.heap[g]? = some (.cells #[x, y, z] 70 fr)) : (results fn tmps).run Tryz.prog w = .ok (.agg #[x, y, z]) w :=
  results_cell_row h tmps w g 70 #[x, y, z] fr _ hp hg Tryz.underlying70 rfl Tryz.sigSize
end Go.Proofs.YtillhpgdlmeajaaGreatDoor

/-
  The contracts of package wire's reader for every call, by one plain function of what is left: Raw, Byte, Num, Bytes, Left; and of the helpers Cut and Within.
-/
namespace Go.Proofs.YtillhpgdlmeajaaGreatDoor
open Go.RowKit
/-- a bad reader has nothing left. -/
def St (s : Bool × List Int) : Prop := s.1 = true → s.2 = []
end Go.Proofs.YtillhpgdlmeajaaGreatDoor

/-
  The contracts of package sign's readHashes and Decode.
-/
namespace Go.Proofs.YtillhpgdlmeajaaGreatDoor
open Go.RowKit
open Go.Proofs
theorem setCell_kp (w : World) (g j : Nat) (u : Value) : Kp [g] w (w.setCell ⟨g, j, none⟩ u) := (Kp.refl [g] w).setCell (p := ⟨g, j, none⟩) (.inl (by simp)) _
/-- a signature that is nothing. -/
def sig0 : Value := .agg #[.int .i64 0, .slice none 0 0, .slice none 0 0]
theorem sig0_v (w : World) : SigV w sig0 0 [] [] := ⟨_, _, [], [], rfl, lists_nil _ _ _, rfl, lists_nil _ _ _, rfl⟩
end Go.Proofs.YtillhpgdlmeajaaGreatDoor

/-
  The contracts of the reference's Secret, Shown, Public and Sign.
-/
namespace Go.Proofs.YtillhpgdlmeajaaGreatDoor
open Go.RowKit
theorem lists3 {w : World} {v u t : Value} {bs cs ds : List Int} (h : Sl w v bs) (hB : Bs bs) (k : Sl w u cs) (hC : Bs cs) (j : Sl w t ds) (hD : Bs ds) : Lists (w.alloc (.cells #[v, u, t] 22)) (.slice (some ⟨w.heap.size, 0, none⟩) 3 3) [(v, bs), (u, cs), (t, ds)] :=
  lists_of_block (l := [(v, bs), (u, cs), (t, ds)]) (t := 22) (fr := (0, 0)) (heap_alloc_new w _) (by simp) (fun x hx => by
    rcases (by simpa using hx : x = (v, bs) ∨ x = (u, cs) ∨ x = (t, ds)) with rfl | rfl | rfl
    · exact ⟨h.kept ((Kp.refl [] w).alloc _) (by simp), hB⟩
    · exact ⟨k.kept ((Kp.refl [] w).alloc _) (by simp), hC⟩
    · exact ⟨j.kept ((Kp.refl [] w).alloc _) (by simp), hD⟩)
theorem cat3 (v u t : Value) (bs cs ds : List Int) : cat [(v, bs), (u, cs), (t, ds)] = bs ++ (cs ++ ds) := by simp [cat]
theorem row_nil (w : World) (base : Nat) : Row w base (.slice none 0 0) [] := ⟨rfl, .inl ⟨rfl, rfl⟩⟩
set_option maxHeartbeats 400000 in
theorem refnum_any (n : Int) (w : World) :
    Calls Tryz.prog 49 #[.slice none 0 0, .int .u32 n] w fun e w' => ∃ ao m c, e = .returned (.slice ao m c) ∧ Row w' w.heap.size (.slice ao m c) (be4 n) ∧ Kp [] w w' := by
  obtain ⟨cs, hcs⟩ : ∃ cs, cs = be4 n := ⟨_, rfl⟩
  have hl : cs.length = 4 := by rw [hcs]; rfl
  have hsl : Sl (w.alloc (.cells #[.int .u8 (n / 16777216 % 256), .int .u8 (n / 65536 % 256), .int .u8 (n / 256 % 256), .int .u8 (n % 256)] 5)) (.slice (some ⟨w.heap.size, 0, none⟩) 4 4) cs := by
    rw [hcs]; exact Sl.block (cs := be4 n) (t := 5) (heap_alloc_new w _) (by simp [be4, maxLen])
  rw [← hcs]
  clear hcs
  go_enter Tryz.func49, Tryz.ntmps49
  go_wp2_with (at_builtin; refine wpList_append_row rfl _ _ rfl w.heap.size (.slice none 0 0) [] rfl (row_nil _ _) _ cs rfl hsl (by simp; omega) (by simp) ?_; intro ao m c w1 r1 s1)
  go_ret
  exact ⟨ao, m, c, rfl, r1, ((Kp.refl [] w).alloc _).then s1.1 (by simp [Value.ownBlock])⟩
set_option maxRecDepth 100000 in
set_option maxHeartbeats 1000000 in
theorem refsecret_any (vb : Value) (bs : List Int) (key bit side : Int) (r : List Int) (hr : r = secP bs key bit side) (w : World) (hS : Sl w vb bs) (hB : Bs bs) (hl : bs.length ≤ 1000) :
    Calls Tryz.prog 160 #[vb, .int .i64 key, .int .i64 bit, .int .i64 side] w fun e w' => ∃ ao m c, e = .returned (.slice ao m c) ∧ Row w' w.heap.size (.slice ao m c) r ∧ Kp [] w w' := by
  have HB := hide hB
  have HS := hide hS
  have hbe : be4 (key % 4294967296) = be4 key := by
    unfold be4
    congr 1
    · omega
    · congr 1
      · omega
      · congr 1
        · omega
        · congr 1; omega
  have HBE := hide hbe
  have HR := hide hr
  obtain ⟨ab, cb, hvb, _⟩ := hS
  obtain ⟨nb, hnb⟩ : ∃ n, n = bs.length := ⟨_, rfl⟩
  rw [← hnb] at hvb
  subst hvb
  clear hr hnb hB hbe
  go_enter Tryz.func160, Tryz.ntmps160
  go_wp2_with fail
  refine (refnum_any _ _).mono ?_
  rintro ee w1 ⟨a1, m1, c1, rfl, R1, K1⟩
  rw [unhide HBE] at R1
  have HR1 := hide R1
  have HK1 := hide K1
  clear HBE R1 K1
  go_wp2_with fail
  obtain ⟨ob, hob⟩ : ∃ o : Obj, o = (.cells #[.int .u8 (bit % 256), .int .u8 (side % 256)] 5) := ⟨_, rfl⟩
  have hP : Sl (w1.alloc ob) (.slice (some ⟨w1.heap.size, 0, none⟩) 2 2) [bit % 256, side % 256] := by
    rw [hob]; exact Sl.block (cs := [bit % 256, side % 256]) (t := 5) (fr := (0, 0)) (heap_alloc_new w1 _) (by simp [maxLen])
  have hPB : Bs [bit % 256, side % 256] := by
    intro b hb
    simp only [List.mem_cons, List.not_mem_nil, or_false] at hb
    rcases hb with rfl | rfl <;> omega
  have Ka := (Kp.refl [] w1).alloc ob
  have HL := lists3 (((unhide HS).kept (unhide HK1) (by simp)).kept Ka (by simp)) (unhide HB) ((unhide HR1).sl.kept Ka (by simp)) (be4_bs key) hP hPB
  rw [show (w1.alloc ob).heap.size = w1.heap.size + 1 by simp] at HL
  have HK := hide ((unhide HK1).trans (Ka.alloc (.cells #[.slice ab nb cb, .slice a1 m1 c1, .slice (some ⟨w1.heap.size, 0, none⟩) 2 2] 22)))
  rw [← hob]
  refine (reftagged_any 10 _ _ r (by rw [unhide HR, cat3]; rfl) _ HL (by omega) (by omega) (by simp) ?_).mono ?_
  · intro x hx
    rcases (by simpa using hx : x = (Value.slice ab nb cb, bs) ∨ x = (Value.slice a1 m1 c1, be4 key) ∨ x = (Value.slice (some ⟨w1.heap.size, 0, none⟩) 2 2, [bit % 256, side % 256])) with rfl | rfl | rfl
    · simp; omega
    · simp [be4]
    · simp
  rintro ee w2 ⟨ao2, m2, c2, rfl, R2, K2⟩
  have HR2 := hide (row_new R2 (unhide HK))
  have HK2 := hide ((unhide HK).trans K2)
  clear HL HK HR hob R2 K2 Ka hP hPB
  go_wp2_with fail
  go_ret
  exact ⟨ao2, m2, c2, rfl, unhide HR2, unhide HK2⟩
set_option maxRecDepth 100000 in
set_option maxHeartbeats 1000000 in
theorem refshown_any (vb : Value) (bs : List Int) (key bit side : Int) (r : List Int) (hr : r = shnP bs key bit side) (w : World) (hS : Sl w vb bs) (hB : Bs bs) (hl : bs.length ≤ 1000) :
    Calls Tryz.prog 159 #[vb, .int .i64 key, .int .i64 bit, .int .i64 side] w fun e w' => ∃ ao m c, e = .returned (.slice ao m c) ∧ Row w' w.heap.size (.slice ao m c) r ∧ Kp [] w w' := by
  obtain ⟨q, hq⟩ : ∃ q, q = secP bs key bit side := ⟨_, rfl⟩
  have HC := hide (refsecret_any vb bs key bit side q hq w hS hB hl)
  have HQL : Hid (q.length = 32) := by rw [hq]; exact secP_len _ _ _ _
  have HQB : Hid (Bs q) := by rw [hq]; exact sha_bs _
  have HR : Hid (r = sha (11 :: q)) := by rw [hr, hq]; rfl
  obtain ⟨ab, cb, hvb, _⟩ := hS
  obtain ⟨nb, hnb⟩ : ∃ n, n = bs.length := ⟨_, rfl⟩
  rw [← hnb] at hvb
  subst hvb
  clear hr hnb hB hq
  go_enter Tryz.func159, Tryz.ntmps159
  go_wp2_with fail
  refine (unhide HC).mono ?_
  rintro ee w1 ⟨a1, m1, c1, rfl, R1, K1⟩
  have HL := hide (lists1 R1.sl (unhide HQB))
  have HK := hide (K1.trans ((Kp.refl [] w1).alloc (.cells #[.slice a1 m1 c1] 22)))
  clear HC R1 K1
  go_wp2_with fail
  refine (reftagged_any 11 _ _ r (by rw [unhide HR, cat1]) _ (unhide HL) (by omega) (by omega) (by simp) (by have := unhide HQL; simp; omega)).mono ?_
  rintro ee w2 ⟨ao2, m2, c2, rfl, R2, K2⟩
  have HR2 := hide (row_new R2 (unhide HK))
  have HK2 := hide ((unhide HK).trans K2)
  clear HL HK HR R2 K2
  go_wp2_with fail
  go_ret
  exact ⟨ao2, m2, c2, rfl, unhide HR2, unhide HK2⟩
end Go.Proofs.YtillhpgdlmeajaaGreatDoor

/-
  The contract of the reference's Public.
-/
namespace Go.Proofs.YtillhpgdlmeajaaGreatDoor
open Go.RowKit
theorem flat_two (bs : List Int) (key : Int) (k : Nat) : (ptsP bs key noneC (2 * (k + 1))).flatten = (ptsP bs key noneC (2 * k)).flatten ++ shnP bs key (k : Nat) 0 ++ shnP bs key (k : Nat) 1 := by
  rw [show 2 * (k + 1) = 2 * k + 1 + 1 by omega, ptsP_succ, ptsP_succ, List.flatten_append, List.flatten_append]
  have e0 := ptP_at bs key noneC k 0 (by omega)
  have e1 := ptP_at bs key noneC k 1 (by omega)
  rw [Nat.add_zero] at e0
  rw [e0, e1]
  simp [noneC]
theorem flat_len (bs : List Int) (key : Int) (c : Nat → Nat → Bool) (n : Nat) : (ptsP bs key c n).flatten.length = 32 * n := by
  induction n with
  | zero => rfl
  | succ n ih => rw [ptsP_succ, List.flatten_append, List.length_append, ih]; simp [ptP_len]; omega
set_option maxRecDepth 100000 in
set_option maxHeartbeats 1000000 in
theorem refpublic_any (vb : Value) (bs : List Int) (key : Int) (r : List Int) (hr : r = pubP bs key) (w : World) (hS : Sl w vb bs) (hB : Bs bs) (hl : bs.length ≤ 1000) :
    Calls Tryz.prog 136 #[vb, .int .i64 key] w fun e w' => ∃ ao m c, e = .returned (.slice ao m c) ∧ Row w' w.heap.size (.slice ao m c) r ∧ Kp [] w w' := by
  have HR := hide hr
  have HS := hide hS
  have HB := hide hB
  obtain ⟨ab, cb, hvb, _⟩ := hS
  obtain ⟨nb, hnb⟩ : ∃ n, n = bs.length := ⟨_, rfl⟩
  rw [← hnb] at hvb
  subst hvb
  clear hr hnb hB
  go_enter Tryz.func136, Tryz.ntmps136
  go_wp2_with fail
  go_loopw [5, 6] (fun v i wr => ∃ (k m c : Nat) (ao : Option Addr), k ≤ 32 ∧ v = .slice ao m c ∧ i = .int .i64 k ∧ Row wr w.heap.size v (ptsP bs key noneC (2 * k)).flatten ∧ Kp [] w wr) (fun _ i _ => 32 - (intOf i).toNat)
  case atStart => exact ⟨0, 0, 0, none, by omega, rfl, rfl, row_nil _ _, Kp.refl _ _⟩
  case round =>
    obtain ⟨k, m, c, ao, hk, rfl, rfl, Rr, Kr⟩ := hrel
    have HRr := hide Rr
    have HKr := hide Kr
    clear Rr Kr
    by_cases hlt : k < 32
    · have hlt2 : (k : Int) < 32 := by omega
      obtain ⟨fl, hfl⟩ : ∃ fl, fl = (ptsP bs key noneC (2 * k)).flatten := ⟨_, rfl⟩
      obtain ⟨r0, hr0⟩ : ∃ r, r = shnP bs key (k : Nat) 0 := ⟨_, rfl⟩
      obtain ⟨r1, hr1⟩ : ∃ r, r = shnP bs key (k : Nat) 1 := ⟨_, rfl⟩
      have HE : Hid ((ptsP bs key noneC (2 * (k + 1))).flatten = fl ++ r0 ++ r1) := by rw [hfl, hr0, hr1]; exact flat_two bs key k
      have hfll : fl.length ≤ 2048 := by rw [hfl, flat_len]; omega
      have hr0l : r0.length = 32 := by rw [hr0]; exact shnP_len _ _ _ _
      have hr1l : r1.length = 32 := by rw [hr1]; exact shnP_len _ _ _ _
      rw [← hfl] at HRr
      have HR0 := hide hr0
      have HR1 := hide hr1
      clear hfl hr0 hr1
      go_wp2_with fail
      refine (refshown_any _ bs key (k : Nat) 0 r0 (unhide HR0) wr ((unhide HS).kept (unhide HKr) (by simp)) (unhide HB) hl).mono ?_
      rintro ee w2 ⟨a2, m2, c2, rfl, R2, K2⟩
      have HR2 := hide R2
      have HK2 := hide K2
      clear R2 K2
      go_wp2_with (at_builtin; refine wpList_append_row rfl (.tmp 11) (.tmp 15) rfl w.heap.size _ fl rfl ((unhide HRr).kept (unhide HK2) (by simp)) _ r0 rfl (unhide HR2).sl (by omega) (by have := (unhide HKr).size; have := (unhide HK2).size; omega) ?_; intro ao3 m3 c3 w3 R3 s3)
      have HK3 := hide ((unhide HRr).step (unhide HKr) (s3.after (unhide HK2)))
      have HR3 := hide R3
      clear R3 s3 HR2 HK2 HRr HKr
      refine (refshown_any _ bs key (k : Nat) 1 r1 (unhide HR1) w3 ((unhide HS).kept (unhide HK3) (by simp)) (unhide HB) hl).mono ?_
      rintro ee w4 ⟨a4, m4, c4, rfl, R4, K4⟩
      have HR4 := hide R4
      have HK4 := hide K4
      clear R4 K4
      go_wp2_with (at_builtin; refine wpList_append_row rfl (.tmp 16) (.tmp 20) rfl w.heap.size _ (fl ++ r0) rfl ((unhide HR3).kept (unhide HK4) (by simp)) _ r1 rfl (unhide HR4).sl (by rw [List.length_append]; omega) (by have := (unhide HK3).size; have := (unhide HK4).size; omega) ?_; intro ao5 m5 c5 w5 R5 s5)
      go_roundw
      case rel => exact ⟨k + 1, m5, c5, ao5, by omega, rfl, by go_num, by rw [unhide HE]; exact R5, (unhide HR3).step (unhide HK3) (s5.after (unhide HK4))⟩
      case measure => simp [intOf]; omega
    · obtain rfl : k = 32 := by omega
      obtain ⟨fl, hfl⟩ : ∃ fl, fl = (ptsP bs key noneC 64).flatten := ⟨_, rfl⟩
      have hfll : fl.length ≤ 2048 := by rw [hfl, flat_len]; omega
      have hFB : Hid (Bs fl) := by
        rw [hfl]
        intro b hb
        obtain ⟨x, hx, hb⟩ := List.mem_flatten.1 hb
        unfold ptsP at hx
        obtain ⟨i, _, rfl⟩ := List.mem_map.1 hx
        exact ptP_bs _ _ _ _ b hb
      have hrr : Hid (Row wr w.heap.size (.slice ao m c) fl) := by rw [hfl]; exact unhide HRr
      have HR2 : Hid (r = sha (12 :: fl)) := by rw [unhide HR, hfl]; rfl
      have HL := hide (lists1 (unhide hrr).sl (unhide hFB))
      have HK := hide ((unhide HKr).trans ((Kp.refl [] wr).alloc (.cells #[.slice ao m c] 22)))
      clear hfl HRr HKr HR hrr
      go_wp2_with fail
      refine (reftagged_any 12 _ _ r (by rw [unhide HR2, cat1]) _ (unhide HL) (by omega) (by omega) (by simp) (by simp; omega)).mono ?_
      rintro ee w2 ⟨ao2, m2, c2, rfl, R2, K2⟩
      have HR3 := hide (row_new R2 (unhide HK))
      have HK2 := hide ((unhide HK).trans K2)
      clear HL HK HR2 R2 K2
      go_wp2_with fail
      go_ret
      exact ⟨ao2, m2, c2, rfl, unhide HR3, unhide HK2⟩
end Go.Proofs.YtillhpgdlmeajaaGreatDoor

/-
  The contract of the reference's Sign.
-/
namespace Go.Proofs.YtillhpgdlmeajaaGreatDoor
open Go.RowKit
theorem acc_nil (w : World) : Acc w [] (.slice none 0 0) w := ⟨[], ⟨⟨rfl, .inl ⟨rfl, rfl⟩⟩, fun x hx => by cases hx⟩, rfl, Kp.refl _ _⟩
set_option maxRecDepth 100000 in
set_option maxHeartbeats 2000000 in
theorem refsign_any (vb : Value) (bs : List Int) (key : Int) (vm : Value) (ms : List Int) (d : Int) (hd : d = digP ms) (w : World) (hS : Sl w vb bs) (hB : Bs bs) (hl : bs.length ≤ 1000) (hM : Sl w vm ms) (hMB : Bs ms) (hml : ms.length ≤ 1000) :
    Calls Tryz.prog 137 #[vb, .int .i64 key, vm] w fun e w' => ∃ ao m c, e = .returned (.slice ao m c) ∧ Acc w (sgnP bs key d) (.slice ao m c) w' := by
  have h0 : 0 ≤ d := by rw [hd]; exact (digP_bd ms).1
  have HD := hide (refdigest_any vm ms d hd w hM hMB (by omega))
  have HS := hide hS
  have HB := hide hB
  obtain ⟨ab, cb, hvb, _⟩ := hS
  obtain ⟨nb, hnb⟩ : ∃ n, n = bs.length := ⟨_, rfl⟩
  rw [← hnb] at hvb
  subst hvb
  obtain ⟨am, cm, hvm, _⟩ := hM
  obtain ⟨nm, hnm⟩ : ∃ n, n = ms.length := ⟨_, rfl⟩
  rw [← hnm] at hvm
  subst hvm
  clear hB hnb hnm hMB hd
  go_enter Tryz.func137, Tryz.ntmps137
  go_wp2_with fail
  refine (unhide HD).mono ?_
  rintro ee w2 ⟨rfl, K2⟩
  have A2 : Hid (Acc w [] (.slice none 0 0) w2) := (acc_nil w).mid K2
  clear HD K2
  go_wp2_with fail
  go_loopw [8, 9] (fun v i wr => ∃ (k m cc : Nat) (ao : Option Addr), k ≤ 32 ∧ v = .slice ao m cc ∧ i = .int .i64 k ∧ Acc w (ptsP bs key (digC d) (2 * k)) v wr) (fun _ i _ => 32 - (intOf i).toNat)
  case atStart => exact ⟨0, 0, 0, none, by omega, rfl, rfl, unhide A2⟩
  case round =>
    obtain ⟨k, m, cc, ao, hk, rfl, rfl, Ar⟩ := hrel
    clear A2
    have HA := hide Ar
    clear Ar
    by_cases hlt : k < 32
    · have hlt2 : (k : Int) < 32 := by omega
      have hj1 : (k : Int) ≤ 31 := by omega
      have hj2 : (31 - (k : Int)).toNat = 31 - k := by omega
      have hd0 : 0 ≤ d / 2 ^ (31 - k) := Int.ediv_nonneg h0 (Int.le_of_lt (Int.pow_pos (by omega)))
      have ha := and_one _ hd0
      rw [← sd_val] at ha
      obtain ⟨t, ht⟩ : ∃ t, t = sdP d k := ⟨_, rfl⟩
      rw [← ht] at ha
      have hC0 : Hid (digC d k 0 = (t == 0)) := by rw [ht]; rfl
      have hC1 : Hid (digC d k 1 = (t == 1)) := by rw [ht]; rfl
      have htl : t < 2 := by rw [ht]; exact sdP_lt d k
      clear ht hd0
      obtain ⟨wo, hwo⟩ : ∃ wo, wo = wr := ⟨_, rfl⟩
      subst hwo
      go_wp2_with fail
      go_loopw [8, 10] (fun v i wi => ∃ (s m cc : Nat) (ao : Option Addr), s ≤ 2 ∧ v = .slice ao m cc ∧ i = .int .i64 s ∧ Acc w (ptsP bs key (digC d) (2 * k + s)) v wi) (fun _ i _ => 2 - (intOf i).toNat)
      case atStart => exact ⟨0, m, cc, ao, by omega, rfl, rfl, unhide HA⟩
      case round =>
        clear HA
        obtain ⟨s, m2, cc2, ao2, hs, rfl, rfl, Ai⟩ := hrel
        have HI := hide Ai
        clear Ai
        obtain ⟨wi, hwi⟩ : ∃ wi, wi = wr := ⟨_, rfl⟩
        subst hwi
        rcases (by omega : s = 0 ∨ s = 1 ∨ s = 2) with rfl | rfl | rfl
        · rcases (by omega : t = 0 ∨ t = 1) with rfl | rfl
          · have hr0 := ptP_at bs key (digC d) k 0 (by omega)
            rw [show digC d k 0 = true from unhide hC0] at hr0
            obtain ⟨r, hr⟩ : ∃ r, r = ptP bs key (digC d) (2 * k + 0) := ⟨_, rfl⟩
            have HRB : Hid (Bs r) := by rw [hr]; exact ptP_bs _ _ _ _
            have HE : Hid (ptsP bs key (digC d) (2 * k + 0 + 1) = ptsP bs key (digC d) (2 * k + 0) ++ [r]) := by rw [hr]; exact ptsP_succ _ _ _ _
            have HLN : Hid ((ptsP bs key (digC d) (2 * k + 0)).length ≤ 1000000) := by rw [ptsP_len]; show 2 * k + 0 ≤ 1000000; omega
            rw [← hr] at hr0
            have HC := hide (refsecret_any (.slice ab nb cb) bs key k 0 r hr0 wi ((unhide HS).kept (unhide HI).kp (by simp)) (unhide HB) hl)
            clear hr hr0
            go_wp2_with fail
            refine (unhide HC).mono ?_
            rintro ee w4 ⟨a4, m4, c4, rfl, R4, K4⟩
            have HR4 := hide R4
            have HK4 := hide K4
            clear R4 K4 HC
            go_wp2_with (at_builtin; refine wpList_acc rfl (.tmp 30) (.tmp 36) rfl _ _ rfl (unhide HI) (unhide HLN) _ r (unhide HK4) (unhide HR4) (unhide HRB) rfl ?_; intro ao5 m5 c5 w5 A5)
            go_roundw
            case rel => exact ⟨0 + 1, m5, c5, ao5, by omega, rfl, by go_num, by have e := unhide HE; rw [← e] at A5; exact A5⟩
            case measure => simp [intOf]
          · have hr0 := ptP_at bs key (digC d) k 0 (by omega)
            rw [show digC d k 0 = false from unhide hC0] at hr0
            obtain ⟨r, hr⟩ : ∃ r, r = ptP bs key (digC d) (2 * k + 0) := ⟨_, rfl⟩
            have HRB : Hid (Bs r) := by rw [hr]; exact ptP_bs _ _ _ _
            have HE : Hid (ptsP bs key (digC d) (2 * k + 0 + 1) = ptsP bs key (digC d) (2 * k + 0) ++ [r]) := by rw [hr]; exact ptsP_succ _ _ _ _
            have HLN : Hid ((ptsP bs key (digC d) (2 * k + 0)).length ≤ 1000000) := by rw [ptsP_len]; show 2 * k + 0 ≤ 1000000; omega
            rw [← hr] at hr0
            have HC := hide (refshown_any (.slice ab nb cb) bs key k 0 r hr0 wi ((unhide HS).kept (unhide HI).kp (by simp)) (unhide HB) hl)
            clear hr hr0
            go_wp2_with fail
            refine (unhide HC).mono ?_
            rintro ee w4 ⟨a4, m4, c4, rfl, R4, K4⟩
            have HR4 := hide R4
            have HK4 := hide K4
            clear R4 K4 HC
            go_wp2_with (at_builtin; refine wpList_acc rfl (.tmp 38) (.tmp 44) rfl _ _ rfl (unhide HI) (unhide HLN) _ r (unhide HK4) (unhide HR4) (unhide HRB) rfl ?_; intro ao5 m5 c5 w5 A5)
            go_roundw
            case rel => exact ⟨0 + 1, m5, c5, ao5, by omega, rfl, by go_num, by have e := unhide HE; rw [← e] at A5; exact A5⟩
            case measure => simp [intOf]
        · rcases (by omega : t = 0 ∨ t = 1) with rfl | rfl
          · have hr0 := ptP_at bs key (digC d) k 1 (by omega)
            rw [show digC d k 1 = false from unhide hC1] at hr0
            obtain ⟨r, hr⟩ : ∃ r, r = ptP bs key (digC d) (2 * k + 1) := ⟨_, rfl⟩
            have HRB : Hid (Bs r) := by rw [hr]; exact ptP_bs _ _ _ _
            have HE : Hid (ptsP bs key (digC d) (2 * k + 1 + 1) = ptsP bs key (digC d) (2 * k + 1) ++ [r]) := by rw [hr]; exact ptsP_succ _ _ _ _
            have HLN : Hid ((ptsP bs key (digC d) (2 * k + 1)).length ≤ 1000000) := by rw [ptsP_len]; show 2 * k + 1 ≤ 1000000; omega
            rw [← hr] at hr0
            have HC := hide (refshown_any (.slice ab nb cb) bs key k 1 r hr0 wi ((unhide HS).kept (unhide HI).kp (by simp)) (unhide HB) hl)
            clear hr hr0
            go_wp2_with fail
            refine (unhide HC).mono ?_
            rintro ee w4 ⟨a4, m4, c4, rfl, R4, K4⟩
            have HR4 := hide R4
            have HK4 := hide K4
            clear R4 K4 HC
            go_wp2_with (at_builtin; refine wpList_acc rfl (.tmp 38) (.tmp 44) rfl _ _ rfl (unhide HI) (unhide HLN) _ r (unhide HK4) (unhide HR4) (unhide HRB) rfl ?_; intro ao5 m5 c5 w5 A5)
            go_roundw
            case rel => exact ⟨1 + 1, m5, c5, ao5, by omega, rfl, by go_num, by have e := unhide HE; rw [← e] at A5; exact A5⟩
            case measure => simp [intOf]
          · have hr0 := ptP_at bs key (digC d) k 1 (by omega)
            rw [show digC d k 1 = true from unhide hC1] at hr0
            obtain ⟨r, hr⟩ : ∃ r, r = ptP bs key (digC d) (2 * k + 1) := ⟨_, rfl⟩
            have HRB : Hid (Bs r) := by rw [hr]; exact ptP_bs _ _ _ _
            have HE : Hid (ptsP bs key (digC d) (2 * k + 1 + 1) = ptsP bs key (digC d) (2 * k + 1) ++ [r]) := by rw [hr]; exact ptsP_succ _ _ _ _
            have HLN : Hid ((ptsP bs key (digC d) (2 * k + 1)).length ≤ 1000000) := by rw [ptsP_len]; show 2 * k + 1 ≤ 1000000; omega
            rw [← hr] at hr0
            have HC := hide (refsecret_any (.slice ab nb cb) bs key k 1 r hr0 wi ((unhide HS).kept (unhide HI).kp (by simp)) (unhide HB) hl)
            clear hr hr0
            go_wp2_with fail
            refine (unhide HC).mono ?_
            rintro ee w4 ⟨a4, m4, c4, rfl, R4, K4⟩
            have HR4 := hide R4
            have HK4 := hide K4
            clear R4 K4 HC
            go_wp2_with (at_builtin; refine wpList_acc rfl (.tmp 30) (.tmp 36) rfl _ _ rfl (unhide HI) (unhide HLN) _ r (unhide HK4) (unhide HR4) (unhide HRB) rfl ?_; intro ao5 m5 c5 w5 A5)
            go_roundw
            case rel => exact ⟨1 + 1, m5, c5, ao5, by omega, rfl, by go_num, by have e := unhide HE; rw [← e] at A5; exact A5⟩
            case measure => simp [intOf]
        · go_wp2_with fail
          go_roundw
          case rel => exact ⟨k + 1, m2, cc2, ao2, by omega, rfl, by go_num, unhide HI⟩
          case measure => simp [intOf]; omega
    · obtain rfl : k = 32 := by omega
      go_wp2_with fail
      go_ret
      exact ⟨ao, m, cc, rfl, unhide HA⟩
end Go.Proofs.YtillhpgdlmeajaaGreatDoor

/-
  The reference's owners: their contracts New, Public, Sign.
-/
namespace Go.Proofs.YtillhpgdlmeajaaGreatDoor
open Go.RowKit
open Go.Proofs
theorem Tryz.infoLs : (Tryz.prog.info? 33).map (fun i => (i.zero, i.size, i.bytes)) = some (some (.slice none 0 0), 1, 24) := by kernel_rfl
theorem wpList_append_rowl {w : World} {ops : Array Oper} {rest : List Oper} {o : Oper} {a : Act} {Q : Exit → Act → World → Prop} (hgd : o.guard = none) (s x : Operand)
    (ho : o.op = .call { callee := .builtin .append, args := #[s, x], argTypes := #[184, 184] }) (base : Nat) (v : Value) (xs : List Value) (hs : a.eval s = v) (hrow : RowL w base v xs)
    (ad : Addr) (c : Nat) (ys : List Value) (hx : a.eval x = .slice (some ad) ys.length c) (hy : ∀ j u, ys[j]? = some u → w.cell? (ad.add j) = some u) (h1 : ∀ u ∈ ys, u.oneCell' = true) (hb : xs.length + ys.length ≤ 1000000000) (hbase : base ≤ w.heap.size)
    (h : ∀ ao m c w', RowL w' base (.slice ao m c) (xs ++ ys) → RStep w v w' (.slice ao m c) → wpList Tryz.prog ops Q rest (a.put o.dst (.slice ao m c)) w') : wpList Tryz.prog ops Q (o :: rest) a w := by
  obtain ⟨i0, hi0, hz0, hz1, hz2⟩ := info_parts Tryz.infoLs
  obtain ⟨av, cv, rfl⟩ := hrow.shape
  refine wpList_append_own_at w hgd s x 184 ho base 33 i0 (.slice none 0 0) 1 24 Tryz.underlying184 hi0 hz0 hz1 hz2 rfl (by decide) _ xs.length xs hs hrow ad ys.length c ys hx (by simp) hy h1 (by unfold maxLen; omega) (by omega) hbase ?_
  intro v' w1 hown hgrow _ hat
  have R : RowL w1 base v' (xs ++ ys) := by unfold RowL; rw [List.length_append]; exact hown
  obtain ⟨ao', c', hv⟩ := R.shape
  subst hv
  refine h ao' _ c' w1 R ⟨(Kp.refl _ w).grown hgrow (fun k hk => .inl (by simp [hk])), fun k hk => ?_⟩
  rcases hat with e | e
  · exact .inl (e ▸ hk)
  · rw [e] at hk; cases hk; exact .inr (Nat.le_refl _)
theorem grown_build2 {o : Oper} {a : Act} {w : World} (x y : Operand) (ho : o.op = .buildSlice 33 2 #[(0, x), (1, y)]) (bs cs : List Int) (h : Sl w (a.eval x) bs) (hB : Bs bs) (k : Sl w (a.eval y) cs) (hC : Bs cs) : grown Tryz.prog w (LsM [bs, cs]) ((execOp a.eval o).run Tryz.prog w) := by
  have h2 := lists2 h hB k hC
  obtain ⟨ao, c, e, _⟩ := h
  obtain ⟨ao', c', e', _⟩ := k
  refine grown_run (v := .slice (some ⟨w.heap.size, 0, none⟩) 2 2) (w' := w.alloc (.cells #[a.eval x, a.eval y] 22)) ?_ ((Kp.refl _ _).alloc _) ⟨_, h2, rfl⟩
  obtain ⟨ρ, hρ, hc, hf, hg⟩ := eval_is a
  rw [hρ] at e e' ⊢
  unfold execOp
  simp only [ho]
  simp [go_sem, e, e']
theorem ow_push {wr w5 : World} {base g n : Nat} {bs : List Int} {sa : Option Addr} {sn sc : Nat} {lv lv' x : Value} {xs : List Value} (h1 : wr.heap[g]? = some (.cells #[.slice sa sn sc, lv] 186 (0, 0))) (hne : bs ≠ []) (h2 : Sl wr (.slice sa sn sc) bs ∧ ∀ q, (Value.slice sa sn sc).ownBlock = some q → q ≠ g ∧ lv.ownBlock ≠ some q) (h3 : RowL wr base lv xs) (h4 : g < base) (h5 : xs.length = n) (h6 : ∀ h (hh : h < xs.length), Lo g lv wr xs[h] (lvP bs h))
    (hx : Lo g lv wr x (lvP bs n)) (r : RowL w5 base lv' (xs ++ [x])) (s : RStep wr lv w5 lv') : OwS sa sn sc (w5.setCell ⟨g, 1, none⟩ lv') base g bs (n + 1) := by
  have k := setCell_kp w5 g 1 lv'
  have hgl : ∀ q, lv'.ownBlock = some q → q ≠ g := fun q hq e => by have := (r.own q hq).1; omega
  have hg5 : w5.heap[g]? = some (.cells #[.slice sa sn sc, lv] 186 (0, 0)) := s.1.heap h1 (fun hm => by have := (h3.own g (by simpa using hm)).1; omega)
  have hs5 : Sl w5 (.slice sa sn sc) bs := h2.1.kept s.1 (fun q hq hm => (h2.2 q hq).2 (by simpa using hm))
  have hsq : ∀ q, (Value.slice sa sn sc).ownBlock = some q → q ≠ g ∧ lv'.ownBlock ≠ some q := fun q hq => ⟨(h2.2 q hq).1, fun e => by
    rcases s.2 q e with h | h
    · exact (h2.2 q hq).2 h
    · have := h2.1.lt hne q hq; omega⟩
  refine ⟨lv', xs ++ [x], ?_, ⟨hs5.kept k (fun q hq => by simpa using (hsq q hq).1), hsq⟩, r.kept k (fun q hq => by simpa using hgl q hq), h4, by simp [h5], fun h hh => ?_⟩
  · have := heap_setCell_same w5 g 1 _ _ lv' hg5
    simpa using this
  · rw [List.length_append, List.length_cons, List.length_nil] at hh
    by_cases hlt : h < xs.length
    · rw [List.getElem_append_left hlt]
      exact ((h6 h hlt).step s).store k
    · obtain rfl : h = n := by omega
      rw [List.getElem_append_right (by omega)]
      simp only [h5, Nat.sub_self, List.getElem_cons_zero]
      exact (hx.step s).store k
/-- how many a slice has. -/
def lenOf : Value → Nat | .slice _ n _ => n | _ => 0
set_option maxRecDepth 100000 in
set_option maxHeartbeats 4000000 in
theorem new_ownS (vb : Value) (bs : List Int) (w : World) (hS : Sl w vb bs) (hB : Bs bs) (hl : bs.length = 32) :
    Calls Tryz.prog 99 #[vb] w fun e w' => ∃ g base, e = .returned (.pointer (some ⟨g, 0, none⟩)) ∧ (∃ sa sn sc, vb = .slice sa sn sc ∧ OwS sa sn sc w' base g bs 5) ∧ Kp [] w w' ∧ w.heap.size ≤ g := by
  have HS := hide hS
  have HB := hide hB
  have hne : bs ≠ [] := fun e => by rw [e] at hl; simp at hl
  have HLT := hide (hS.lt hne)
  obtain ⟨ab, cb, hvb, _⟩ := hS
  obtain ⟨nb, hnb⟩ : ∃ n, n = bs.length := ⟨_, rfl⟩
  rw [← hnb] at hvb
  subst hvb
  have HNE := hide hne
  have HL32 := hide hl
  clear hB hnb hl hne
  obtain ⟨ob, hob⟩ : ∃ o : Obj, o = (.cells #[.slice ab nb cb, .slice none 0 0] 186) := ⟨_, rfl⟩
  have K1 : Kp [] w (w.alloc ob) := (Kp.refl [] w).alloc ob
  have HG1 : Hid ((w.alloc ob).heap[w.heap.size]? = some ob) := heap_alloc_new w ob
  have HSZ : Hid ((w.alloc ob).heap.size = w.heap.size + 1) := by show _ = _; simp
  rw [hob] at K1 HG1 HSZ
  have HK1 := hide K1
  obtain ⟨w1, hw1⟩ : ∃ w1, w1 = w.alloc (.cells #[.slice ab nb cb, .slice none 0 0] 186) := ⟨_, rfl⟩
  have HW1 := hide hw1
  rw [← hw1] at HK1 HG1 HSZ
  clear K1 hob hw1
  go_enter Tryz.func99, Tryz.ntmps99
  go_wp2_with fail
  go_loopw [4, 5] (fun v i wr => ∃ (k m cc : Nat) (ao : Option Addr), k ≤ 16 ∧ v = .slice ao m cc ∧ i = .int .i64 k ∧ Acc w1 (lvsP bs k) v wr) (fun _ i _ => 16 - (intOf i).toNat)
  case atStart => exact ⟨0, 0, 0, none, by omega, rfl, rfl, by rw [unhide HW1]; exact acc_nil _⟩
  case round =>
    obtain ⟨k, m, cc, ao, hk, rfl, rfl, Ar⟩ := hrel
    have HA := hide Ar
    have HKr := hide ((unhide HK1).trans Ar.kp)
    clear Ar
    by_cases hlt : k < 16
    · have hlt2 : (k : Int) < 16 := by omega
      obtain ⟨r, hr⟩ : ∃ r, r = pubP bs (k : Nat) := ⟨_, rfl⟩
      have HRB : Hid (Bs r) := by rw [hr]; exact pubP_bs _ _
      have HE : Hid (lvsP bs (k + 1) = lvsP bs k ++ [r]) := by rw [hr]; exact lvsP_succ _ _
      have HLN : Hid ((lvsP bs k).length ≤ 1000000) := by rw [lvsP_len]; show k ≤ 1000000; omega
      have HC := hide (refpublic_any (.slice ab nb cb) bs (k : Nat) r hr wr ((unhide HS).kept (unhide HKr) (by simp)) (unhide HB) (by have := unhide HL32; omega))
      clear hr
      go_wp2_with fail
      refine (unhide HC).mono ?_
      rintro ee w4 ⟨a4, m4, c4, rfl, R4, K4⟩
      have HR4 := hide R4
      have HK4 := hide K4
      clear R4 K4 HC
      go_wp2_with (at_builtin; refine wpList_acc rfl (.tmp 15) (.tmp 19) rfl _ _ rfl (unhide HA) (unhide HLN) _ r (unhide HK4) (unhide HR4) (unhide HRB) rfl ?_; intro ao5 m5 c5 w5 A5)
      go_roundw
      case rel => exact ⟨k + 1, m5, c5, ao5, by omega, rfl, by go_num, by have e := unhide HE; rw [← e] at A5; exact A5⟩
      case measure => simp [intOf]; omega
    · obtain rfl : k = 16 := by omega
      have HLo : Hid (Lo w.heap.size (.slice none 0 0) wr (.slice ao m cc) (lvP bs 0)) := Lo.of_acc (unhide HA) (by have := lv_le bs 0; omega) (by have := unhide HSZ; omega) (fun q hq => by cases hq)
      have HGr := hide ((unhide HA).kp.heap (unhide HG1) (by simp))
      have hm16 : m = 16 := by rw [(unhide HA).cap, lvsP_len]
      subst hm16
      have hc1 : wr.cell? ⟨w.heap.size, 1, none⟩ = some (.slice none 0 0) := by rw [cell_of_row wr w.heap.size 1 _ _ _ (unhide HGr)]; rfl
      have HSr := hide ((unhide HS).kept (unhide HKr) (by simp))
      have hbr : w.heap.size + 1 ≤ wr.heap.size := by have := (unhide HA).kp.size; have := unhide HSZ; omega
      clear HA HG1 HSZ HK1 HW1
      go_wp2_with (at_builtin; refine wpList_append_rowl rfl (.tmp 25) (.tmp 27) rfl (w.heap.size + 1) (.slice none 0 0) [] rfl ⟨rfl, .inl ⟨rfl, rfl⟩⟩ ⟨wr.heap.size, 0, none⟩ 1 [.slice ao 16 cc] rfl (fun j u hu => World.news_of_block (heap_alloc_new wr _) j u (by simpa using hu)) (by simp [Value.oneCell']) (by simp) (by simp; omega) ?_; intro ao5 m5 c5 w5 R5 S5; refine Hid.out ?_)
      have S5' := S5.after ((Kp.refl [] wr).alloc (.cells #[.slice ao 16 cc] 33))
      have G5 : w5.heap[w.heap.size]? = some _ := S5'.1.heap (unhide HGr) (by simp [Value.ownBlock])
      have hc5 : w5.cell? ⟨w.heap.size, 1, none⟩ = some (.slice none 0 0) := by rw [cell_of_row w5 w.heap.size 1 _ _ _ G5]; rfl
      have hf5 : w5.frozen? ⟨w.heap.size, 1, none⟩ = false := frozen_of_row w5 w.heap.size 1 _ _ G5
      have HO : Hid (OwS ab nb cb (w5.setCell ⟨w.heap.size, 1, none⟩ (.slice ao5 m5 c5)) (w.heap.size + 1) w.heap.size bs 1) := ow_push (n := 0) (xs := []) (unhide HGr) (unhide HNE) ⟨unhide HSr, fun q hq => ⟨fun e => by have := unhide HLT q hq; omega, by simp [Value.ownBlock]⟩⟩ ⟨rfl, .inl ⟨rfl, rfl⟩⟩ (by omega) rfl (fun h hh => by cases hh) (unhide HLo) R5 S5'
      have HK6 : Hid (Kp [] w (w5.setCell ⟨w.heap.size, 1, none⟩ (.slice ao5 m5 c5))) := ((unhide HKr).then S5'.1 (fun i hi => by simp [Value.ownBlock] at hi)).setCell (p := ⟨w.heap.size, 1, none⟩) (.inr (by simp)) _
      have HL6 : Hid (∃ l, Lists (w5.setCell ⟨w.heap.size, 1, none⟩ (.slice ao5 m5 c5)) (.slice ao 16 cc) l ∧ l.map (·.2) = lvP bs 0) := (((unhide HLo).step S5').store (setCell_kp _ _ _ _)).lists
      clear R5 S5 S5' G5 HLo HGr HSr HKr hbr
      refine hide ?_
      go_wp2_with fail
      go_loopw [4] (fun v wr => ∃ (h n cc : Nat) (ao : Option Addr), h ≤ 4 ∧ v = .slice ao n cc ∧ n = 16 / 2 ^ h ∧ OwS ab nb cb wr (w.heap.size + 1) w.heap.size bs (h + 1) ∧ (∃ l, Lists wr v l ∧ l.map (·.2) = lvP bs h) ∧ Kp [] w wr) (fun v _ => lenOf v)
      case atStart => exact ⟨0, 16, cc, ao, by omega, rfl, by decide, unhide HO, unhide HL6, unhide HK6⟩
      case round =>
        clear HO HL6 HK6 hc5 hf5 hc1
        obtain ⟨h, n, c3, a3, hh, rfl, hn, Or, ⟨l, hL, hle⟩, Kr⟩ := hrel
        have HO := hide Or
        have HL := hide hL
        have HLE := hide hle
        have HKr := hide Kr
        have HNN := hide hn
        clear Or hL hle Kr
        by_cases hlt : h < 4
        · obtain ⟨M, hM⟩ : ∃ M, M = n / 2 := ⟨_, rfl⟩
          have hnM : n = 2 * M ∧ 1 ≤ M ∧ M ≤ 8 ∧ M = 16 / 2 ^ (h + 1) := by
            rw [hM, hn]
            rcases (by omega : h = 0 ∨ h = 1 ∨ h = 2 ∨ h = 3) with rfl | rfl | rfl | rfl <;> decide
          have HNM := hide hnM
          have hn1 : (1 : Int) < (n : Int) := by omega
          have hni : (n : Int) ≤ 16 := by omega
          have hln : (lvP bs h).length = n := by rw [lvP_len]; exact hn.symm
          have HLN0 := hide hln
          obtain ⟨ls, hls⟩ : ∃ ls, ls = lvP bs h := ⟨_, rfl⟩
          have HLS := hide hls
          have HML : Hid (∀ x ∈ ls, x.length ≤ 1000) := fun x hx => by rw [hls] at hx; rw [(lvP_all bs h x hx).1]; omega
          rw [← hls] at HLE HLN0
          clear hn hM hnM hln hls
          obtain ⟨wo, hwo⟩ : ∃ wo, wo = wr := ⟨_, rfl⟩
          subst hwo
          go_wp2_with fail
          go_loopw [6, 7] (fun v i wi => ∃ (k m cc : Nat) (ao : Option Addr), k ≤ M ∧ v = .slice ao m cc ∧ i = .int .i64 ((2 * k : Nat) : Int) ∧ Acc wo ((abvP ls).take k) v wi) (fun _ i _ => 2 * M - (intOf i).toNat)
          case atStart => exact ⟨0, 0, 0, none, by omega, rfl, rfl, acc_nil _⟩
          case round =>
            obtain ⟨k, m, cc, ao, hk, rfl, rfl, Ar⟩ := hrel
            obtain ⟨wi, hwi⟩ : ∃ wi, wi = wr := ⟨_, rfl⟩
            subst hwi
            have HA := hide Ar
            clear Ar
            obtain ⟨j, hj⟩ : ∃ j, j = 2 * k := ⟨_, rfl⟩
            rw [← hj]
            by_cases hlt' : k < M
            · have hlt2 : (j : Int) < (n : Int) := by have := unhide HNM; omega
              have hlt3 : (j : Int) + 1 < (n : Int) := by have := unhide HNM; omega
              have hwr : IntKind.i64.wrap ((j : Int) + 1) = (j : Int) + 1 := wrap_at rfl (by omega) (by omega)
              obtain ⟨b, off, ax, nx, cx, rfl, hcx, hSx, hBx⟩ := lists_at (unhide HL) (unhide HLE) j (by have := unhide HLN0; omega)
              obtain ⟨b', off', ay, ny, cy, e, hcy, hSy, hBy⟩ := lists_at (unhide HL) (unhide HLE) (j + 1) (by have := unhide HLN0; omega)
              injection e with e
              injection e with e1 e2
              subst e1
              subst e2
              have hxl : (ls.getD j []).length ≤ 1000 := unhide HML _ (getD_mem (by have := unhide HLN0; omega))
              have hyl : (ls.getD (j + 1) []).length ≤ 1000 := unhide HML _ (getD_mem (by have := unhide HLN0; omega))
              obtain ⟨r, hr⟩ : ∃ r, r = nodeP (ls.getD j []) (ls.getD (j + 1) []) := ⟨_, rfl⟩
              have HRB : Hid (Bs r) := by rw [hr]; exact nodeP_bs _ _
              have HE : Hid ((abvP ls).take (k + 1) = (abvP ls).take k ++ [r]) := by rw [hr, hj]; exact abv_take ls k (by have := unhide HLN0; have := unhide HNM; omega)
              have HLN : Hid (((abvP ls).take k).length ≤ 1000000) := by rw [List.length_take]; show min k _ ≤ 1000000; omega
              obtain ⟨X, hX⟩ : ∃ X, X = ls.getD j [] := ⟨_, rfl⟩
              obtain ⟨Y, hY⟩ : ∃ Y, Y = ls.getD (j + 1) [] := ⟨_, rfl⟩
              rw [← hX] at hSx hBx hxl hr
              rw [← hY] at hSy hBy hyl hr
              have HKi := hide (unhide HA).kp
              have HCX : Hid (∀ w', Kp [] wi.drew w' → w'.cell? ⟨b, off + j, none⟩ = some (.slice ax nx cx)) := fun w' k' => (((unhide HKi).trans (kp_drew wi)).trans k').cell hcx (by simp)
              have HCY : Hid (∀ w', Kp [] wi.drew w' → w'.cell? ⟨b, off + (j + 1), none⟩ = some (.slice ay ny cy)) := fun w' k' => (((unhide HKi).trans (kp_drew wi)).trans k').cell hcy (by simp)
              have HSX : Hid (∀ w', Kp [] wi.drew w' → Sl w' (.slice ax nx cx) X) := fun w' k' => hSx.kept (((unhide HKi).trans (kp_drew wi)).trans k') (by simp)
              have HSY : Hid (∀ w', Kp [] wi.drew w' → Sl w' (.slice ay ny cy) Y) := fun w' k' => hSy.kept (((unhide HKi).trans (kp_drew wi)).trans k') (by simp)
              have HR : Hid (r = sha (14 :: [X, Y].flatten)) := hide (by rw [hr, nodeP]; simp)
              have HBX := hide hBx
              have HBY := hide hBy
              have HJ : Hid ((j : Int) = 2 * (k : Int)) := hide (by omega)
              have HJN := hide hj
              clear hX hY hcx hcy hSx hSy hBx hBy hr hj
              go_wp2_with fail
              refine region_grow_tail 13 Tryz.mixed [Is (.slice ao m cc), Is (.slice (some ⟨b, off, none⟩) n c3), Is (.int .i64 j), Is (.pointer (some ⟨b, off + j, none⟩)), Is (.slice ax nx cx), Is (.slice (some ⟨b, off, none⟩) n c3), Is (.int .i64 j), Is (.int .i64 (j + 1)), Is (.pointer (some ⟨b, off + (j + 1), none⟩)), Is (.slice ay ny cy), LsM [X, Y], RowT wi.heap.size r, One wi.heap.size r] [[(6, none)], [(4, none)], [(7, none)], [(41, some 1), (42, some 2)], [(43, some 3)], [(4, none)], [(7, none)], [(46, some 6)], [(45, some 5), (47, some 7)], [(48, some 8)], [(44, some 4), (49, some 9)], [(50, some 10)], [(51, some 11)]] (by kernel_rfl) ?_ ?_ ?_
              all_goals try simp only [List.take_succ_cons, List.take_zero, List.drop_succ_cons, List.drop_zero]
              · simp only [List.mem_cons, List.not_mem_nil, or_false]
                intro R hR
                rcases hR with rfl | rfl | rfl | rfl | rfl | rfl | rfl | rfl | rfl | rfl | rfl | rfl | rfl <;> first | exact stable_is _ | exact stable_lsm _ | exact stable_row _ _ | exact stable_one _ _
              · refine steps_cons (fun a w hk hn => ?_) ?_
                · have h6 : a.eval (.tmp 6) = .slice ao m cc := hn.1
                  clear hn
                  refine wants_plain rfl ?_
                  exact grown_move (.tmp 6) rfl h6
                refine steps_cons (fun a w hk hn => ?_) ?_
                · have h4 : a.eval (.tmp 4) = .slice (some ⟨b, off, none⟩) n c3 := hn.1
                  clear hn
                  refine wants_plain rfl ?_
                  exact grown_move (.tmp 4) rfl h4
                refine steps_cons (fun a w hk hn => ?_) ?_
                · have h7 : a.eval (.tmp 7) = .int .i64 j := hn.1
                  clear hn
                  refine wants_plain rfl ?_
                  exact grown_move (.tmp 7) rfl h7
                refine steps_cons (fun a w hk hn => ?_) ?_
                · have h41 : a.eval (.tmp 41) = .slice (some ⟨b, off, none⟩) n c3 := hn.1
                  have h42 : a.eval (.tmp 42) = .int .i64 j := hn.2.1
                  clear hn
                  refine wants_plain rfl ?_
                  refine grown_run (v := .pointer (some ⟨b, off + j, none⟩)) ?_ (Kp.refl _ _) rfl
                  obtain ⟨ρ, hρ, hc, hf, hg⟩ := eval_is a
                  rw [hρ] at h41 h42 ⊢
                  simp [go_sem, h41, h42, hlt2]
                refine steps_cons (fun a w hk hn => ?_) ?_
                · have h43 : a.eval (.tmp 43) = .pointer (some ⟨b, off + j, none⟩) := hn.1
                  clear hn
                  refine wants_plain rfl ?_
                  refine grown_run (v := .slice ax nx cx) ?_ (Kp.refl _ _) rfl
                  have hcell := unhide HCX w hk
                  obtain ⟨ρ, hρ, hc, hf, hg⟩ := eval_is a
                  rw [hρ] at h43 ⊢
                  simp [go_sem, h43, hcell]
                refine steps_cons (fun a w hk hn => ?_) ?_
                · have h4 : a.eval (.tmp 4) = .slice (some ⟨b, off, none⟩) n c3 := hn.1
                  clear hn
                  refine wants_plain rfl ?_
                  exact grown_move (.tmp 4) rfl h4
                refine steps_cons (fun a w hk hn => ?_) ?_
                · have h7 : a.eval (.tmp 7) = .int .i64 j := hn.1
                  clear hn
                  refine wants_plain rfl ?_
                  exact grown_move (.tmp 7) rfl h7
                refine steps_cons (fun a w hk hn => ?_) ?_
                · have h46 : a.eval (.tmp 46) = .int .i64 j := hn.1
                  clear hn
                  refine wants_plain rfl ?_
                  refine grown_run (v := .int .i64 (j + 1)) ?_ (Kp.refl _ _) rfl
                  obtain ⟨ρ, hρ, hc, hf, hg⟩ := eval_is a
                  rw [hρ] at h46 ⊢
                  simp [go_sem, hc, h46, hwr]
                refine steps_cons (fun a w hk hn => ?_) ?_
                · have h45 : a.eval (.tmp 45) = .slice (some ⟨b, off, none⟩) n c3 := hn.1
                  have h47 : a.eval (.tmp 47) = .int .i64 (j + 1) := hn.2.1
                  clear hn
                  refine wants_plain rfl ?_
                  refine grown_run (v := .pointer (some ⟨b, off + (j + 1), none⟩)) ?_ (Kp.refl _ _) rfl
                  obtain ⟨ρ, hρ, hc, hf, hg⟩ := eval_is a
                  rw [hρ] at h45 h47 ⊢
                  simp [go_sem, h45, h47, hlt3]
                  intro h; omega
                refine steps_cons (fun a w hk hn => ?_) ?_
                · have h48 : a.eval (.tmp 48) = .pointer (some ⟨b, off + (j + 1), none⟩) := hn.1
                  clear hn
                  refine wants_plain rfl ?_
                  refine grown_run (v := .slice ay ny cy) ?_ (Kp.refl _ _) rfl
                  have hcell := unhide HCY w hk
                  obtain ⟨ρ, hρ, hc, hf, hg⟩ := eval_is a
                  rw [hρ] at h48 ⊢
                  simp [go_sem, h48, hcell]
                refine steps_cons (fun a w hk hn => ?_) ?_
                · have h44 : a.eval (.tmp 44) = .slice ax nx cx := hn.1
                  have h49 : a.eval (.tmp 49) = .slice ay ny cy := hn.2.1
                  clear hn
                  refine wants_plain rfl ?_
                  exact grown_build2 (.tmp 44) (.tmp 49) rfl X Y (by rw [h44]; exact unhide HSX w hk) (unhide HBX) (by rw [h49]; exact unhide HSY w hk) (unhide HBY)
                refine steps_cons (fun a w hk hn => ?_) ?_
                · have h50 : (LsM [X, Y]) (a.eval (.tmp 50)) w := hn.1
                  clear hn
                  refine wants_plain rfl ?_
                  refine grown_call (f := 40) rfl Tryz.func40 (by kernel_rfl) (by kernel_rfl) ?_
                  simp only [List.map_toArray, List.map_cons, List.map_nil]
                  refine (reftagged_lsm r (unhide HR) h50 (by omega) (by omega) (by simp) (by simp; omega)).mono ?_
                  rintro e w' ⟨ao, m, c, rfl, R, K⟩
                  exact ⟨_, rfl, K, owns_rebase R (fun i hi => Nat.le_trans hk.size (R.own i hi))⟩
                refine steps_cons (fun a w hk hn => ?_) ?_
                · have h51 : (RowT wi.heap.size r) (a.eval (.tmp 51)) w := hn.1
                  clear hn
                  refine wants_plain rfl ?_
                  exact grown_one (.tmp 51) rfl wi.heap.size r h51
                exact trivial
              intro W1 hkW1
              rintro _ rfl
              rintro _ rfl
              rintro _ rfl
              rintro _ rfl
              rintro _ rfl
              rintro _ rfl
              rintro _ rfl
              rintro _ rfl
              rintro _ rfl
              rintro _ rfl
              intro v50 h50
              intro v51 h51
              intro v52 h52
              refine fin_nil ?_
              simp only [Act.put, List.set_cons_zero, List.set_cons_succ, List.setIfInBounds_toArray]
              go_wp2_with (at_builtin; refine wpList_accg rfl (.tmp 40) (.tmp 52) rfl _ _ rfl (unhide HA) (unhide HLN) r ((kp_drew wi).trans hkW1) v52 rfl h52 (unhide HRB) ?_; intro ao5 m5 c5 w5 A5)
              go_roundw
              case rel => exact ⟨k + 1, m5, c5, ao5, by omega, rfl, by have := unhide HJ; go_num, by have e := unhide HE; rw [← e] at A5; exact A5⟩
              case measure => simp [intOf]; have := unhide HJN; omega
            · obtain rfl : k = M := by omega
              have hlt2 : ¬ (j : Int) < (n : Int) := by have := unhide HNM; omega
              have HT : Hid ((abvP ls).take k = abvP ls) := List.take_of_length_le (by rw [abvP_len]; have := unhide HLN0; have := unhide HNM; omega)
              rw [unhide HT] at HA
              have hmk : m = k := by rw [(unhide HA).cap, abvP_len]; have := unhide HLN0; have := unhide HNM; omega
              subst hmk
              obtain ⟨lv, xs, o1, o2, o3, o4, o5, o6⟩ := (unhide HO).kept (unhide HA).kp
              have oe : lvP bs (h + 1) = abvP ls := by rw [unhide HLS]; rfl
              have hgo : w.heap.size < wo.heap.size := by
                obtain ⟨_, _, p1, _⟩ := unhide HO
                exact (Array.getElem?_eq_some_iff.1 p1).1
              have hpv : ∀ q, lv.ownBlock = some q → q < wo.heap.size := by
                obtain ⟨lv0, xs0, p1, _, p3, _⟩ := unhide HO
                have e := (unhide HA).kp.heap p1 (by simp)
                rw [o1] at e
                have e' : lv = lv0 := by injection e with e; injection e with e; simp at e; exact e
                subst e'
                exact fun q hq => (p3.own q hq).2
              have HLo : Hid (Lo w.heap.size lv wi (.slice ao m cc) (lvP bs (h + 1))) := by rw [oe]; exact Lo.of_acc (unhide HA) (by rw [abvP_len]; have := unhide HLN0; omega) hgo hpv
              have hc1 : wi.cell? ⟨w.heap.size, 1, none⟩ = some lv := by rw [cell_of_row wi w.heap.size 1 _ _ _ o1]; rfl
              obtain ⟨la, lc, hlv⟩ := o3.shape
              have hKi := (unhide HKr).trans (unhide HA).kp
              have hbi : w.heap.size + 1 ≤ wi.heap.size := by have := (unhide HA).kp.size; omega
              have H1 := hide o1
              have H2 := hide o2
              have H3 := hide o3
              have H5 := hide o5
              have H6 := hide o6
              have HKI := hide hKi
              have HLV := hide hlv
              have hxl : xs.length ≤ 10 := by rw [o5]; omega
              have HXL := hide hxl
              obtain ⟨N, hN⟩ : ∃ N, N = xs.length := ⟨_, rfl⟩
              rw [← hN] at hlv
              subst hlv
              clear o1 o2 o3 o5 o6 hKi hpv hgo oe hxl hN HT HO HL HLE HLN0 HML HA hj
              go_wp2_with (at_builtin; refine wpList_append_rowl rfl (.tmp 59) (.tmp 61) rfl (w.heap.size + 1) (.slice la N lc) xs rfl ((unhide H3).kept ((Kp.refl [] wi).alloc _) (by simp)) ⟨wi.heap.size, 0, none⟩ 1 [.slice ao m cc] rfl (fun j u hu => World.news_of_block (heap_alloc_new wi _) j u (by simpa using hu)) (by simp [Value.oneCell']) (by have := unhide HXL; simp; omega) (by simp; omega) ?_; intro ao5 m5 c5 w5 R5 S5; refine Hid.out ?_)
              have S5' := S5.after ((Kp.refl [] wi).alloc (.cells #[.slice ao m cc] 33))
              have hng : ∀ q, (Value.slice la N lc).ownBlock = some q → q ≠ w.heap.size := fun q hq => by have := ((unhide H3).own q hq).1; omega
              have G5 : w5.heap[w.heap.size]? = some _ := S5'.1.heap (unhide H1) (fun hm => hng _ (by simpa using hm) rfl)
              have hc5 : w5.cell? ⟨w.heap.size, 1, none⟩ = some (.slice la N lc) := by rw [cell_of_row w5 w.heap.size 1 _ _ _ G5]; rfl
              have hf5 : w5.frozen? ⟨w.heap.size, 1, none⟩ = false := frozen_of_row w5 w.heap.size 1 _ _ G5
              have HO6 : Hid (OwS ab nb cb (w5.setCell ⟨w.heap.size, 1, none⟩ (.slice ao5 m5 c5)) (w.heap.size + 1) w.heap.size bs (h + 1 + 1)) := ow_push (unhide H1) (unhide HNE) (unhide H2) (unhide H3) (by omega) (unhide H5) (unhide H6) (unhide HLo) R5 S5'
              have HK6 : Hid (Kp [] w (w5.setCell ⟨w.heap.size, 1, none⟩ (.slice ao5 m5 c5))) := ((unhide HKI).then S5'.1 (fun i hi => .inr (by have := ((unhide H3).own i (by simpa using hi)).1; omega))).setCell (p := ⟨w.heap.size, 1, none⟩) (.inr (by simp)) _
              have HL6 : Hid (∃ l, Lists (w5.setCell ⟨w.heap.size, 1, none⟩ (.slice ao5 m5 c5)) (.slice ao m cc) l ∧ l.map (·.2) = lvP bs (h + 1)) := (((unhide HLo).step S5').store (setCell_kp _ _ _ _)).lists
              clear R5 S5 S5' G5 HLo H1 H2 H3 H5 H6 hng hc1
              refine hide ?_
              go_wp2_with fail
              go_roundw
              case rel => exact ⟨h + 1, m, cc, ao, by omega, rfl, (unhide HNM).2.2.2, unhide HO6, unhide HL6, unhide HK6⟩
              case measure => simp [lenOf]; have := unhide HNM; omega
        · obtain rfl : h = 4 := by omega
          have hn1 : n = 1 := hn
          subst hn1
          clear HL HLE
          go_wp2_with fail
          go_ret
          exact ⟨_, _, rfl, ⟨ab, nb, cb, rfl, unhide HO⟩, unhide HKr, Nat.le_refl _⟩
end Go.Proofs.YtillhpgdlmeajaaGreatDoor

/-
  The contracts of the reference's owner's Public, and of its Right.
-/
namespace Go.Proofs.YtillhpgdlmeajaaGreatDoor
open Go.RowKit
open Go.Proofs
theorem own_public (g base : Nat) (bs r : List Int) (hr : r = topP bs) (w : World) (hO : Ow w base g bs 5) :
    Calls Tryz.prog 102 #[.pointer (some ⟨g, 0, none⟩)] w fun e w' => ∃ ao m c, e = .returned (.slice ao m c) ∧ Sl w (.slice ao m c) r ∧ w' = w := by
  obtain ⟨sa, sn, sc, gl, c, h0, h1, _, h2⟩ := hO.open
  obtain ⟨al, nl, cl, l, h3, h4, h5⟩ := h2 4 (by omega)
  obtain ⟨b, off, ay, ny, cy, rfl, hc, hS, _⟩ := lists_at h4 h5 0 (by rw [lvP_len]; decide)
  have hn : nl = 1 := by
    obtain ⟨ao', c', e, _⟩ := h4
    injection e with _ e2
    rw [e2, ← List.length_map (f := (·.2)), h5, lvP_len]
  subst hn
  have HS : Hid (Sl w (.slice ay ny cy) r) := by rw [hr]; exact hS
  rw [Nat.add_zero] at hc
  clear h2 h4 h5 hS hO hr h0
  go_enter Tryz.func102, Tryz.ntmps102
  go_wp2_with fail
  go_ret
  exact ⟨ay, ny, cy, rfl, unhide HS, rfl⟩
end Go.Proofs.YtillhpgdlmeajaaGreatDoor

/-
  The contract of the reference's owner's Sign.
-/
namespace Go.Proofs.YtillhpgdlmeajaaGreatDoor
open Go.RowKit
open Go.Proofs
/-- one more slice, that lies wherever it lies, behind them, at a step of a region that draws its order. -/
theorem step_accs {S : List Nat} {F : Nat → Prop} {w wr w3 : World} {ops : Array Oper} {o : Oper} {a : Act} {K : Act → World → Prop} {Q : Exit → Act → World → Prop} {E : Prop} (hgd : o.guard = none) (s x : Operand)
    (ho : o.op = .call { callee := .builtin .append, args := #[s, x], argTypes := #[33, 33] }) (v : Value) (ls : List (List Int)) (hs : a.eval s = v) (hA : AccS S F w ls v wr) (hl : ls.length ≤ 1000000)
    (vx : Value) (bs : List Int) (hS : Sl wr vx bs) (hB : Bs bs) (hap : ∀ q, vx.ownBlock = some q → v.ownBlock = some q → bs = []) (hF : ∀ q, vx.ownBlock = some q → F q) (g : Nat) (hx : a.eval x = .slice (some ⟨g, 0, none⟩) 1 1) (hc : w3.cell? ⟨g, 0, none⟩ = some vx) (k : Kp [] wr w3)
    (h : ∀ ao m c w', AccS S F w (ls ++ [bs]) (.slice ao m c) w' → RStep wr v w' (.slice ao m c) → K (a.put o.dst (.slice ao m c)) w') :
    if Region.wanted o (yielded ops a.tmps) = true then Oper.wp Tryz.prog o a w3 K Q else E := by
  have hw : Region.wanted o (yielded ops a.tmps) = true := by simp [Region.wanted, hgd]
  rw [if_pos hw]
  obtain ⟨i0, hi0, hz0, hz1, hz2⟩ := info_parts Tryz.infoSl
  obtain ⟨l, hP, hl2, hK, hF4⟩ := hA
  have hP2 := hP.kept k
  obtain ⟨ax, cx, hvx, _⟩ := id hS
  obtain ⟨av, cv, hv⟩ := hP2.1.shape
  have hll : l.length = ls.length := by rw [← hl2]; simp
  have hbase : w.heap.size ≤ w3.heap.size := Nat.le_trans hK.size k.size
  obtain ⟨ys, hys⟩ : ∃ ys, ys = l.map (·.1) := ⟨_, rfl⟩
  have hP2r : RowV w3 w.heap.size v ys := by rw [hys]; exact hP2.1
  have hyl : ys.length ≤ 1000000 := by rw [hys, List.length_map]; omega
  obtain ⟨v', w1, hr, hown1, hgrow, _, hat⟩ := run_append_own_at (P := Tryz.prog) w3 w.heap.size 33 o.type 22 i0 (.slice none 0 0) 1 24 Tryz.underlying33 hi0 hz0 hz1 hz2 rfl (by decide) v ys.length ys hP2r ⟨g, 0, none⟩ 1 1 [vx] (by simp) (fun j u hu => by
    have hj : j = 0 := by have := (List.getElem?_eq_some_iff.1 hu).1; simpa using this
    subst hj
    simp at hu
    subst hu
    exact hc) (by simp [hvx, Value.oneCell']) (by unfold maxLen; omega) (by omega) hbase
  have R : RowV w1 w.heap.size v' (ys ++ [vx]) := by unfold RowV; rw [List.length_append]; exact hown1
  rw [hys] at R
  obtain ⟨ao', c', hv'⟩ := R.shape
  subst hv'
  have st : RStep w3 v w1 (.slice ao' (l.map (·.1) ++ [vx]).length c') := ⟨(Kp.refl _ w3).grown hgrow (fun k hk => .inl (by simp [hk])), fun k hk => by
    rcases hat with e | e
    · exact .inl (e ▸ hk)
    · rw [e] at hk; cases hk; exact .inr (Nat.le_refl _)⟩
  have hKK := h ao' _ c' w1 ⟨l ++ [(vx, bs)], hP2.snoc (hS.kept k (by simp)) hB hap R st, by simp [hl2], (hK.trans (k.mono (by simp))).then st.1 (fun i hi => .inr (hP.1.own i (by simpa using hi))), fun y hy => by
    rcases List.mem_append.1 hy with hy | hy
    · exact hF4 y hy
    · obtain rfl : y = (vx, bs) := by simpa using hy
      exact hF⟩ (st.after k)
  unfold Oper.wp execOp
  simp only [ho, resolve, invoke, builtin, Sem.run_bind, Sem.run_pure, Result.andThen_ok, List.map_toArray, List.map_cons, List.map_nil, hs, hx, hr]
  exact hKK
end Go.Proofs.YtillhpgdlmeajaaGreatDoor

/-
  Chapter 12 as plain functions: a disk of one file, what each call answers and what it leaves.
-/
namespace Go.Proofs.YtillhpgdlmeajaaGreatDoor
namespace Dk
def crash (d : Dk) (keep : Int) : Dk := { d with bs := d.bs.take (d.left keep), syn := min (d.left keep) d.bs.length, arm := 0, down := false }
theorem left_le {d : Dk} (h : d.Ok) (keep : Int) : d.left keep ≤ d.bs.length := by
  have := h.syn
  unfold left
  omega
theorem crash_ok {d : Dk} (h : d.Ok) (keep : Int) : (d.crash keep).Ok := by
  have h2 := h.fits
  unfold crash
  refine ⟨?_, ?_, h.lim⟩
  · simp only [List.length_take]; omega
  · simp only [List.length_take]; omega
end Dk
end Go.Proofs.YtillhpgdlmeajaaGreatDoor

/-
  A string turned into bytes: it makes memory, and reads as the string's bytes; strings and the lists of their bytes.
-/
namespace Go.Proofs.YtillhpgdlmeajaaGreatDoor
open Go.RowKit
theorem nums_bs (S : ByteArray) : Bs (nums S) := by
  intro b hb
  obtain ⟨x, _, rfl⟩ := List.mem_map.1 hb
  have := x.toNat_lt
  omega
end Go.Proofs.YtillhpgdlmeajaaGreatDoor

/-
  Structs of any number of cells in memory: stored whole or in part, loaded, handed back.
-/
namespace Go.Proofs.YtillhpgdlmeajaaGreatDoor
open Go.RowKit
open Go.Proofs
theorem wpList_load_flat {w : World} {ops : Array Oper} {rest : List Oper} {o : Oper} {a : Act} {Q : Exit → Act → World → Prop} (hgd : o.guard = none) (T : TypeId) (x : Operand) (ho : o.op = .load T x) (g off : Nat) (hx : a.eval x = .pointer (some ⟨g, off, none⟩)) (C : Array Value) (t : TypeId) (fr : Nat × Nat) (d : TypeDesc) (hg : w.heap[g]? = some (.cells C t fr)) (cs : List Value) (hc : ∀ (j : Nat) v, cs[j]? = some v → C[off + j]? = some v)
    (hu : Tryz.prog.underlying T = some d) (hd : d.isRow = true) (hi : (Tryz.prog.info? T).map (·.size) = some cs.length)
    (h : wpList Tryz.prog ops Q rest (a.put o.dst (.agg cs.toArray)) w) : wpList Tryz.prog ops Q (o :: rest) a w :=
  wpList_load_mid hgd T x ho g off hx cs d (flat_range hg off cs hc) hu hd hi h
end Go.Proofs.YtillhpgdlmeajaaGreatDoor

/-
  The reference's owner among blocks that change: what stays, Sign.
-/
namespace Go.Proofs.YtillhpgdlmeajaaGreatDoor
open Go.RowKit
open Go.Proofs
set_option linter.unusedVariables false
/-- P stays so, whatever becomes of the blocks F. -/
def Kt (w : World) (F : Nat → Prop) (P : World → Prop) : Prop := ∀ U w', (∀ i ∈ U, F i) → Kp U w w' → P w'
section
variable {w w' w0 : World} {F F' : Nat → Prop} {P Q : World → Prop}
theorem Kt.get (h : Kt w F P) : P w := h [] w (by simp) (Kp.refl _ _)
theorem Kt.step (h : Kt w F P) (t : Stp F w w' F') : Kt w' F' P := by
  obtain ⟨⟨S, hS, k⟩, h2⟩ := t
  intro U w2 hU kU
  refine h (S ++ U.filter (fun i => decide (i < w.heap.size))) w2 (fun i hi => ?_) ((k.comp kU).less (fun i hi hlt => ?_))
  · rcases List.mem_append.1 hi with hi | hi
    · exact hS i hi
    · obtain ⟨h3, h4⟩ := List.mem_filter.1 hi
      exact (h2 i (hU i h3)).resolve_right (by have := of_decide_eq_true h4; omega)
  · rcases List.mem_append.1 hi with hi | hi
    · exact List.mem_append.2 (.inl hi)
    · exact List.mem_append.2 (.inr (List.mem_filter.2 ⟨hi, decide_eq_true hlt⟩))
theorem Kt.on (h : Kt w F P) (k : Kp [] w w') : Kt w' F P := h.step (Stp.mid k)
theorem Kt.imp (h : Kt w F P) (hi : ∀ w', P w' → Q w') : Kt w F Q := fun U w' hU k => hi _ (h U w' hU k)
end
/-- a level whose blocks are not F. -/
def LoN (F : Nat → Prop) (g : Nat) (pv : Value) (w : World) (x : Value) (ls : List (List Int)) : Prop :=
  ∃ ao n c l, x = .slice ao n c ∧ Lists w x l ∧ l.map (·.2) = ls ∧ ∀ q, (x.ownBlock = some q ∨ ∃ y ∈ l, y.1.ownBlock = some q) → q < w.heap.size ∧ g < q ∧ pv.ownBlock ≠ some q ∧ ¬ F q
/-- an owner whose blocks are not F. -/
def OwN (F : Nat → Prop) (w : World) (base g : Nat) (bs : List Int) (n : Nat) : Prop :=
  ∃ sa sn sc lv xs, w.heap[g]? = some (.cells #[.slice sa sn sc, lv] 186 (0, 0)) ∧ (Sl w (.slice sa sn sc) bs ∧ ∀ q, (Value.slice sa sn sc).ownBlock = some q → q ≠ g ∧ lv.ownBlock ≠ some q ∧ q < w.heap.size ∧ ¬ F q) ∧ RowL w base lv xs ∧ (∀ q, lv.ownBlock = some q → ¬ F q) ∧ (g < base ∧ ¬ F g) ∧ xs.length = n ∧ ∀ h (hh : h < xs.length), LoN F g lv w xs[h] (lvP bs h)
theorem OwN.ow {F : Nat → Prop} {w : World} {base g n : Nat} {bs : List Int} (h : OwN F w base g bs n) : Ow w base g bs n := by
  obtain ⟨sa, sn, sc, lv, xs, h1, h2, h3, -, h4, h5, h6⟩ := h
  refine ⟨sa, sn, sc, lv, xs, h1, ⟨h2.1, fun q hq => ⟨(h2.2 q hq).1, (h2.2 q hq).2.1⟩⟩, h3, h4.1, h5, fun i hi => ?_⟩
  obtain ⟨ao, m, c, l, e, k1, k2, k3⟩ := h6 i hi
  exact ⟨ao, m, c, l, e, k1, k2, fun q hq => ⟨(k3 q hq).1, (k3 q hq).2.1, (k3 q hq).2.2.1⟩⟩
theorem OwS.toN {F : Nat → Prop} {sa : Option Addr} {sn sc : Nat} {w : World} {base g n b : Nat} {bs : List Int} (h : OwS sa sn sc w base g bs n) (hne : bs ≠ []) (hg : b ≤ g) (hs : ∀ q, (Value.slice sa sn sc).ownBlock = some q → b ≤ q) (hF : ∀ q, F q → q < b) : OwN F w base g bs n := by
  obtain ⟨lv, xs, h1, h2, h3, h4, h5, h6⟩ := h
  refine ⟨sa, sn, sc, lv, xs, h1, ⟨h2.1, fun q hq => ⟨(h2.2 q hq).1, (h2.2 q hq).2, h2.1.lt hne q hq, fun e => by have := hF q e; have := hs q hq; omega⟩⟩, h3, fun q hq e => by have := hF q e; have := (h3.own q hq).1; omega, ⟨h4, fun e => by have := hF g e; omega⟩, h5, fun i hi => ?_⟩
  obtain ⟨ao, m, c, l, e, k1, k2, k3⟩ := h6 i hi
  exact ⟨ao, m, c, l, e, k1, k2, fun q hq => ⟨(k3 q hq).1, (k3 q hq).2.1, (k3 q hq).2.2, fun e => by have := hF q e; have := (k3 q hq).2.1; omega⟩⟩
theorem OwN.step {F F' : Nat → Prop} {w w' : World} {base g n : Nat} {bs : List Int} (h : OwN F w base g bs n) (t : Stp F w w' F') : OwN F' w' base g bs n := by
  obtain ⟨sa, sn, sc, lv, xs, h1, h2, h3, h3b, h4, h5, h6⟩ := h
  obtain ⟨S, hS, k⟩ := t.kp
  have hgs : g < w.heap.size := lt_of_block h1
  refine ⟨sa, sn, sc, lv, xs, k.heap h1 (fun hm => h4.2 (hS g hm)), ⟨h2.1.kept k (fun q hq hm => (h2.2 q hq).2.2.2 (hS q hm)), fun q hq => ⟨(h2.2 q hq).1, (h2.2 q hq).2.1, Nat.lt_of_lt_of_le (h2.2 q hq).2.2.1 k.size, t.off (h2.2 q hq).2.2.1 (h2.2 q hq).2.2.2⟩⟩, h3.kept k (fun q hq hm => h3b q hq (hS q hm)), fun q hq => t.off (h3.own q hq).2 (h3b q hq), ⟨h4.1, t.off hgs h4.2⟩, h5, fun i hi => ?_⟩
  obtain ⟨ao, m, c, l, e, k1, k2, k3⟩ := h6 i hi
  exact ⟨ao, m, c, l, e, k1.off k (fun q hq hm => (k3 q (.inl hq)).2.2.2 (hS q hm)) (fun y hy q hq hm => (k3 q (.inr ⟨y, hy, hq⟩)).2.2.2 (hS q hm)), k2, fun q hq => ⟨Nat.lt_of_lt_of_le (k3 q hq).1 k.size, (k3 q hq).2.1, (k3 q hq).2.2.1, t.off (k3 q hq).1 (k3 q hq).2.2.2⟩⟩
theorem OwN.lv {F : Nat → Prop} {w : World} {base g : Nat} {bs : List Int} (h : OwN F w base g bs 5) : ∃ sa sn sc gl c, w.cell? ⟨g, 0, none⟩ = some (.slice sa sn sc) ∧ w.cell? ⟨g, 1, none⟩ = some (.slice (some ⟨gl, 0, none⟩) 5 c) ∧ Sl w (.slice sa sn sc) bs ∧ ∀ h, h < 5 → ∀ j, j < (lvP bs h).length → ∃ b off nl cl ax nx cx, w.cell? ⟨gl, h, none⟩ = some (.slice (some ⟨b, off, none⟩) nl cl) ∧ nl = (lvP bs h).length ∧ w.cell? ⟨b, off + j, none⟩ = some (.slice ax nx cx) ∧ Sl w (.slice ax nx cx) ((lvP bs h).getD j []) ∧ Bs ((lvP bs h).getD j []) ∧ ∀ q, (Value.slice ax nx cx).ownBlock = some q → ¬ F q ∧ q < w.heap.size := by
  obtain ⟨sa, sn, sc, lv, xs, h1, h2, h3, h3b, h4, h5, h6⟩ := h
  obtain ⟨gl, c, e, hc⟩ := h3.at (by omega)
  rw [h5] at e
  subst e
  refine ⟨sa, sn, sc, gl, c, by rw [cell_of_row w g 0 _ _ _ h1]; rfl, by rw [cell_of_row w g 1 _ _ _ h1]; rfl, h2.1, fun h hh j hj => ?_⟩
  have hx := hc h (by omega)
  obtain ⟨al, nl, cl, l, e, k2, k3, k4⟩ := h6 h (by omega)
  rw [e] at hx k2
  obtain ⟨b, off, ay, ny, cy, rfl, hc, hS, hB, y, hy, ey⟩ := lists_atA k2 k3 j hj
  have hn : nl = (lvP bs h).length := by
    obtain ⟨ao', c', e, _⟩ := k2
    injection e with _ e2
    rw [e2, ← List.length_map (f := (·.2)), k3]
  exact ⟨b, off, nl, cl, ay, ny, cy, hx, hn, hc, hS, hB, fun q hq => ⟨(k4 q (.inr ⟨y, hy, by rw [ey]; exact hq⟩)).2.2.2, (k4 q (.inr ⟨y, hy, by rw [ey]; exact hq⟩)).1⟩⟩
set_option maxRecDepth 100000 in
set_option maxHeartbeats 4000000 in
theorem own_signK (F : Nat → Prop) (g base : Nat) (bs : List Int) (i : Nat) (vm : Value) (ms : List Int) (d : Int) (hd : d = digP ms) (w : World) (hF : ∀ q, F q → q < w.heap.size) (hO : OwN F w base g bs 5) (hB : Bs bs) (hl : bs.length = 32) (hi : i < 16) (hM : Sl w vm ms) (hMB : Bs ms) (hml : ms.length ≤ 1000) :
    Calls Tryz.prog 101 #[.pointer (some ⟨g, 0, none⟩), .int .i64 i, vm] w fun e w' => ∃ v, e = .returned v ∧ Kt w' F (fun w2 => SigV w2 v i (sgnP bs i d) (pthP bs i 4)) ∧ Kp [] w w' := by
  have HFF := hide hF
  obtain ⟨sa, sn, sc, gl, lc, h0, h1, hS, hLv⟩ := hO.lv
  obtain ⟨ob, hob⟩ : ∃ o : Obj, o = (.cells #[.int .i64 0, .slice none 0 0, .slice none 0 0] 70) := ⟨_, rfl⟩
  have K1 : Kp [] w (w.alloc ob) := (Kp.refl [] w).alloc ob
  have HC := hide (refsign_any (.slice sa sn sc) bs i vm ms d hd (w.alloc ob) (hS.kept K1 (by simp)) hB (by omega) (hM.kept K1 (by simp)) hMB hml)
  have hc0 : (w.alloc ob).cell? ⟨g, 0, none⟩ = some (.slice sa sn sc) := K1.cell h0 (by simp)
  have G1 : Hid ((w.alloc ob).heap[w.heap.size]? = some ob) := heap_alloc_new w ob
  rw [hob] at K1 HC hc0 G1
  have HK1 := hide K1
  have HLV := hide hLv
  have H1 := hide h1
  obtain ⟨am, cm, hvm, _⟩ := hM
  obtain ⟨nm, hnm⟩ : ∃ n, n = ms.length := ⟨_, rfl⟩
  rw [← hnm] at hvm
  subst hvm
  clear hob K1 hO hB hMB hd hnm h0 h1 hS hLv hF
  go_enter Tryz.func101, Tryz.ntmps101
  go_wp2_with fail
  refine (unhide HC).mono ?_
  rintro ee w2 ⟨a2, m2, c2, rfl, A2⟩
  have HK2 := hide ((unhide HK1).trans A2.kp)
  have HG2 := hide (A2.kp.heap (unhide G1) (by simp))
  have HL2 : Hid (∃ l, Lists w2 (.slice a2 m2 c2) l ∧ l.map (·.2) = sgnP bs i d ∧ (∀ q, (Value.slice a2 m2 c2).ownBlock = some q → w.heap.size < q ∧ q < w2.heap.size) ∧ ∀ x ∈ l, ∀ q, x.1.ownBlock = some q → w.heap.size < q ∧ q < w2.heap.size) := by
    obtain ⟨l, k1, k2, _⟩ := A2
    have hz : ∀ o : Obj, (w.alloc o).heap.size = w.heap.size + 1 := fun o => by simp
    refine ⟨l, k1.lists (by rw [← List.length_map (f := (·.2)), k2, sgnP, ptsP_len]; omega), k2, fun q hq => ?_, fun x hx q hq => ?_⟩
    · have := k1.1.own q hq; have := k1.1.lt hq; rw [hz] at *; omega
    · have := (k1.2 x hx).1.own q hq; have := (k1.2 x hx).1.lt hq; rw [hz] at *; omega
  have Ga := heap_alloc_new w2 (.cells #[.int .i64 0, .slice none 0 0, .slice none 0 0] 70)
  have HKa : Hid (Kp [] w2 (w2.alloc (.cells #[.int .i64 0, .slice none 0 0, .slice none 0 0] 70))) := (Kp.refl [] w2).alloc _
  clear HC A2 HK1 G1 hc0
  go_wp2_with (refine wpList_store_sig rfl (.tmp 7) (.tmp 17) rfl w2.heap.size rfl _ _ _ _ _ _ Ga rfl ⟨rfl, rfl, rfl⟩ ?_; intro w3 G3 K3)
  obtain ⟨gs, hgs⟩ : ∃ gs, gs = w2.heap.size := ⟨_, rfl⟩
  have hz2 : ∀ o : Obj, (w2.alloc o).heap.size = w2.heap.size + 1 := fun o => by simp
  have hs3 : gs < w3.heap.size := by rw [hgs]; exact (Array.getElem?_eq_some_iff.1 G3).1
  have hws : w.heap.size < gs := by rw [hgs]; exact (Array.getElem?_eq_some_iff.1 (unhide HG2)).1
  have HK3 : Hid (Kp [] w w3) := ((unhide HK2).trans (unhide HKa)).then K3 (fun i hi => .inr (by simp at hi; omega))
  have HQ3 : Hid (Kp [gs] w2 w3) := by rw [hgs]; exact ((unhide HKa).mono (by simp)).trans K3
  rw [← hgs] at G3 ⊢
  have HG3 := hide G3
  have A3 : Hid (AccS [gs] (fun q => ¬ F q ∧ q < w.heap.size) w3 (pthP bs i 0) (.slice none 0 0) w3) := ⟨[], ⟨⟨rfl, .inl ⟨rfl, rfl⟩⟩, fun x hx => by cases hx⟩, rfl, Kp.refl _ _, fun x hx => by cases hx⟩
  have HGS := hide hgs
  clear Ga HKa G3 K3 hz2 hgs
  go_wp2_with fail
  go_loopw [8] (fun j wr => ∃ (h m cc : Nat) (ao : Option Addr), h ≤ 4 ∧ j = .int .i64 h ∧ AccS [gs] (fun q => ¬ F q ∧ q < w.heap.size) w3 (pthP bs i h) (.slice ao m cc) wr ∧ wr.heap[gs]? = some (.cells #[.int .i64 i, .slice a2 m2 c2, .slice ao m cc] 70 (0, 0))) (fun j _ => 4 - (intOf j).toNat)
  case atStart => exact ⟨0, 0, 0, none, by omega, rfl, unhide A3, unhide HG3⟩
  case round =>
    clear A3 HG3
    obtain ⟨h, m, cc, ao, hh, rfl, Ar, Gr⟩ := hrel
    have HA := hide Ar
    have HGr := hide Gr
    have HKr : Hid (Kp [] w wr) := (unhide HK3).then Ar.kp (fun i hi => .inr (by simp at hi; omega))
    clear Ar Gr
    by_cases hlt : h < 4
    · have hlt2 : (h : Int) < 4 := by omega
      have hx16 : i / 2 ^ h < 16 := Nat.lt_of_le_of_lt (Nat.div_le_self _ _) hi
      have hsl : sibP (i / 2 ^ h) < (lvP bs h).length := by rw [lvP_len]; exact sib_lv hi hlt
      have hxor := sib_xor _ hx16
      have hE := pthP_succ bs i h
      obtain ⟨b, off, nl, cl, ax, nx, cx, k1, k2, k3, k4, k5, k6⟩ := unhide HLV h (by omega) _ hsl
      have hshr : (i : Int) / 2 ^ h = ((i / 2 ^ h : Nat) : Int) := by rw [Int.natCast_ediv, Int.natCast_pow]; rfl
      rw [← k2] at hsl
      obtain ⟨x, hx⟩ : ∃ x, x = i / 2 ^ h := ⟨_, rfl⟩
      obtain ⟨s, hs⟩ : ∃ s, s = sibP x := ⟨_, rfl⟩
      rw [← hx] at hxor hsl hE k3 k4 k5 hshr hx16
      rw [← hs] at hxor hsl hE k3 k4 k5
      have hsi : (s : Int) < (nl : Int) := by omega
      obtain ⟨X, hX⟩ : ∃ X, X = (lvP bs h).getD s [] := ⟨_, rfl⟩
      rw [← hX] at hE k4 k5
      have HE := hide hE
      have HLN : Hid ((pthP bs i h).length ≤ 1000000) := by rw [pthP_len]; show h ≤ 1000000; omega
      have hc1 : wr.cell? ⟨g, 1, none⟩ = some (.slice (some ⟨gl, 0, none⟩) 5 lc) := (unhide HKr).cell (unhide H1) (by simp)
      have hc2 : wr.cell? ⟨gl, h, none⟩ = some (.slice (some ⟨b, off, none⟩) nl cl) := (unhide HKr).cell k1 (by simp)
      have hc3 : wr.cell? ⟨b, off + s, none⟩ = some (.slice ax nx cx) := (unhide HKr).cell k3 (by simp)
      have hc4 : wr.cell? ⟨gs, 2, none⟩ = some (.slice ao m cc) := by rw [cell_of_row wr gs 2 _ _ _ (unhide HGr)]; rfl
      have hlt5 : (h : Int) < 5 := by omega
      have hw64 : IntKind.u64.wrap (h : Int) = (h : Int) := by simp [IntKind.wrap, IntKind.signed, IntKind.bits]; omega
      have hmin : min h 64 = h := by omega
      have hgr : gs < wr.heap.size := (Array.getElem?_eq_some_iff.1 (unhide HGr)).1
      have hca : ∀ o, (wr.alloc o).cell? ⟨gs, 2, none⟩ = some (.slice ao m cc) := fun o => (World.cell?_alloc_lt _ _ _ (by exact hgr)).trans hc4
      have HSx := hide (k4.kept (unhide HKr) (by simp))
      have HBx := hide k5
      have HFx := hide k6
      have HAP : Hid (∀ q, (Value.slice ax nx cx).ownBlock = some q → (Value.slice ao m cc).ownBlock = some q → X = []) := fun q h1 h2 => by
        obtain ⟨_, hR, _⟩ := unhide HA
        have := hR.1.own q h2
        have := k6 q h1
        have := (unhide HK3).size
        omega
      clear hE k1 k2 k3 k4 k5 k6 hX hs hx
      go_wp2_with fail
      go_region_law ((refine step_accs (by rfl) (.tmp 23) (.tmp 38) (by rfl) (.slice ao m cc) _ (by rfl) (unhide HA) (unhide HLN) (.slice ax nx cx) X (unhide HSx) (unhide HBx) (unhide HAP) (unhide HFx) wr.heap.size (by rfl) (by exact cell_of_one (heap_alloc_new wr _)) (((Kp.refl [] wr).alloc _).drew) ?_; intro ao5 m5 c5 w5 A5 S5; have G5 : w5.heap[gs]? = some (.cells #[.int .i64 i, .slice a2 m2 c2, .slice ao m cc] 70 (0, 0)) := (S5.1.heap (unhide HGr) (fun hm => (by obtain ⟨_, hR, _⟩ := unhide HA; have := hR.1.own gs (by simpa using hm); omega))); have hc5 : w5.cell? ⟨gs, 2, none⟩ = some (.slice ao m cc) := (by rw [cell_of_row w5 gs 2 _ _ _ G5]; rfl); have hf5 : w5.frozen? ⟨gs, 2, none⟩ = false := frozen_of_row w5 gs 2 _ _ G5))
      all_goals
        have G6 : (w5.setCell ⟨gs, 2, none⟩ (.slice ao5 m5 c5)).heap[gs]? = some (.cells #[.int .i64 i, .slice a2 m2 c2, .slice ao5 m5 c5] 70 (0, 0)) := by
          have := heap_setCell_same w5 gs 2 _ _ (.slice ao5 m5 c5) G5
          simpa using this
        have A6 := A5.off (setCell_kp w5 gs 2 (.slice ao5 m5 c5)) (by simp) (fun i hi e => by subst e; omega) hs3
        have HG6 := hide G6
        have HA6 := hide A6
        clear A5 S5 G5 G6 A6 hc1 hc2 hc3 hc4 hca hc5 hf5 hw64 hmin HSx HAP
        go_wp2_with fail
        go_roundw
        case rel => exact ⟨h + 1, m5, c5, ao5, by omega, by go_num, by rw [unhide HE]; exact unhide HA6, unhide HG6⟩
        case measure => simp [intOf]; omega
    · obtain rfl : h = 4 := by omega
      have HV : Hid (∀ (S : List Nat) w', (∀ q ∈ S, F q ∨ q = w.heap.size) → Kp S wr w' → SigV w' (.agg #[.int .i64 i, .slice a2 m2 c2, .slice ao m cc]) i (sgnP bs i d) (pthP bs i 4)) := by
        intro S w' hS' k'
        obtain ⟨lp, p1, p2, p3, p4⟩ := unhide HL2
        obtain ⟨lq, q1, q2, q3, q4⟩ := (unhide HA).lists (by rw [pthP_len]; omega)
        have hg := unhide HGS
        have pr := (p1.off (unhide HQ3) (fun q hq => by have := p3 q hq; simp; omega) (fun y hy q hq => by have := p4 y hy q hq; simp; omega)).off (unhide HA).kp (fun q hq => by have := p3 q hq; simp; omega) (fun y hy q hq => by have := p4 y hy q hq; simp; omega)
        refine ⟨_, _, lp, lq, rfl, pr.off k' (fun q hq hm => by have := p3 q hq; rcases hS' q hm with h | h; exact absurd (unhide HFF q h) (by omega); omega) (fun y hy q hq hm => by have := p4 y hy q hq; rcases hS' q hm with h | h; exact absurd (unhide HFF q h) (by omega); omega), p2, q1.off k' (fun q hq hm => ?_) (fun y hy q hq hm => ?_), q2⟩
        · have := q3 q hq; have := (unhide HK3).size; rcases hS' q hm with h | h; exact absurd (unhide HFF q h) (by omega); omega
        · have := q4 y hy q hq; rcases hS' q hm with h | h; exact this.1 h; omega
      have G0 : wr.heap[w.heap.size]? = some (.cells #[.int .i64 0, .slice none 0 0, .slice none 0 0] 70) := (unhide HA).kp.heap ((unhide HQ3).heap (unhide HG2) (by simp; omega)) (by simp; omega)
      clear HLV H1 HA
      go_wp2_with (refine wpList_load_row rfl 70 (.tmp 7) rfl gs rfl 70 _ (0, 0) _ (unhide HGr) Tryz.underlying70 rfl Tryz.sigSize ?_; refine Hid.out ?_)
      refine hide ?_
      go_wp2_with (refine wpList_store_sig rfl (.tmp 6) (.tmp 41) rfl w.heap.size rfl _ _ _ _ _ _ G0 rfl ⟨rfl, rfl, rfl⟩ ?_; intro w4 G4 K4)
      refine bodyPost_ret (results_sig1 rfl _ _ w.heap.size _ _ _ (0, 0) rfl G4) rfl ?_
      exact ⟨_, rfl, fun S w5 h5 k5 => unhide HV (w.heap.size :: S) w5 (fun q hq => by rcases List.mem_cons.1 hq with e | e; exact .inr e; exact .inl (h5 q e)) ((K4.mono (by simp)).trans (k5.mono (by simp; intro x hx; exact .inr hx))), (unhide HKr).then K4 (by simp)⟩
end Go.Proofs.YtillhpgdlmeajaaGreatDoor

/-
  Chapter 9 as plain functions: which names and manifests may be, a manifest as bytes, bytes as a manifest; that what is written is read, that what is read is written so, that what is cut off or has more behind it is none.
-/
namespace Go.Proofs.YtillhpgdlmeajaaGreatDoor
open Go.RowKit
def lowP (ns : List Int) : Bool := ns.all fun b => decide (97 ≤ b) && decide (b ≤ 122)
def nameP (ns : List Int) : Bool := decide (1 ≤ ns.length) && decide (ns.length ≤ 20) && lowP ns
def encM (m : Mf) : List Int := [77] ++ (be2 (nums m.s).length ++ nums m.s) ++ be4 m.v ++ m.f ++ (be2 m.n.length ++ m.n)
theorem nameP_len {ns : List Int} (h : nameP ns = true) : 1 ≤ ns.length ∧ ns.length ≤ 20 := by
  unfold nameP at h
  simp only [Bool.and_eq_true, decide_eq_true_eq] at h
  exact h.1
theorem be2_val (n : Nat) (h : n ≤ 65535) : val (be2 n) = n := by
  simp only [val, be2, List.foldl_cons, List.foldl_nil]
  omega
/-- what stands ahead is read. -/
theorem tk_front (X Y : List Int) (n : Nat) (h : X.length = n) : tk false (X ++ Y) n = (X, false, Y) := by
  rw [tk_ok false _ n (by rw [List.length_append]; omega)]
  subst h
  simp
theorem tkb_front (X Y : List Int) (most : Nat) (h : X.length ≤ most) (hm : most ≤ 65535) : tkb false ((be2 X.length ++ X) ++ Y) most = (X, false, Y) := by
  unfold tkb
  have e := tk_front (be2 X.length) (X ++ Y) 2 rfl
  rw [show ((2 : Nat) : Int) = 2 from rfl] at e
  rw [List.append_assoc, e]
  simp only
  rw [be2_val _ (by omega), if_neg (by omega)]
  exact tk_front X Y _ rfl
theorem encM_len (m : Mf) : (encM m).length = 9 + (nums m.s).length + m.f.length + m.n.length := by
  unfold encM be2 be4
  simp only [List.length_append, List.length_cons, List.length_nil]
  omega
theorem encM_bs (m : Mf) (h : m.ok) : Bs (encM m) := by
  unfold encM
  exact ((((Bs.append (fun b hb => by simp at hb; omega) ((be2_bs _).append (nums_bs _))).append (be4_bs _)).append h.f).append ((be2_bs _).append h.n))
end Go.Proofs.YtillhpgdlmeajaaGreatDoor

/-
  Chapter 13 as plain functions: how records lie, and what is read of any bytes.
-/
namespace Go.Proofs.YtillhpgdlmeajaaGreatDoor
theorem layP_bs {l : List (List Int)} (h : ∀ r ∈ l, Bs r) : Bs (layP l) := fun b hb => by
  simp only [layP, List.mem_flatten, List.mem_map] at hb
  obtain ⟨y, ⟨r, hr, rfl⟩, hb⟩ := hb
  exact recP_bs (h r hr) b hb
end Go.Proofs.YtillhpgdlmeajaaGreatDoor

/-
  Chapter 15 as plain functions: items each once, their numbers, a batch as a record, what a journal's records hold.
-/
namespace Go.Proofs.YtillhpgdlmeajaaGreatDoor
open Go.RowKit
open Go.Proofs
theorem allU_nil (l : List (List Int)) : allU l [] = l := rfl
theorem itsU_bat (l : List (List Int)) (h : ∀ x ∈ l, x.length ≤ 65535) : itsU l.length (l.map itmU).flatten = some l := by
  induction l with
  | nil => rfl
  | cons x l ih =>
    have e := tkb_front x ((l.map itmU).flatten) 65535 (h x (by simp)) (by omega)
    have e2 : (((x :: l).map itmU).flatten) = (be2 x.length ++ x) ++ (l.map itmU).flatten := rfl
    rw [e2]
    show itsU (l.length + 1) _ = _
    unfold itsU
    rw [show ((65535 : Nat) : Int) = 65535 from rfl] at e
    rw [e, if_neg (by simp)]
    simp only [ih (fun y hy => h y (by simp [hy])), Option.map_some]
theorem unlU_bat {l : List (List Int)} (h : ∀ x ∈ l, x.length ≤ 65535) (h0 : l ≠ []) (hl : l.length ≤ 4294967295) : unlU (batU l) = some l := by
  have e1 : (batU l).take 4 = bq l.length := by unfold batU; rw [List.take_left' (bq_len _)]
  have e2 : (batU l).drop 4 = (l.map itmU).flatten := by unfold batU; rw [List.drop_left' (bq_len _)]
  have e3 : (batU l).length = 4 + ((l.map itmU).flatten).length := by unfold batU; rw [List.length_append, bq_len]
  have e4 : val (bq (l.length : Int)) = l.length := val_bq (by omega) (by omega)
  have h1 : 0 < l.length := List.length_pos_iff.2 h0
  unfold unlU
  rw [if_neg (by omega), e1, e2, e4, if_neg (by simp; omega)]
  exact itsU_bat l h
theorem gatU_add {rs l xs : List (List Int)} (h : gatU [] rs = some l) (hn : (l ++ xs).Nodup) (h0 : xs ≠ []) (hs : ∀ x ∈ xs, x.length ≤ 65535) (hl : xs.length ≤ 4294967295) : gatU [] (rs ++ [batU xs]) = some (l ++ xs) := by
  rw [gatU_snoc, h]
  simp only [Option.bind_some, gatU]
  rw [unlU_bat hs h0 hl]
  simp only []
  rw [if_pos hn]
theorem gatU_nodup {rs : List (List Int)} : ∀ {l m : List (List Int)}, l.Nodup → gatU l rs = some m → m.Nodup := by
  induction rs with
  | nil => intro l m h e; simp only [gatU, Option.some.injEq] at e; exact e ▸ h
  | cons r rs ih =>
    intro l m h e
    simp only [gatU] at e
    split at e
    · cases e
    · split at e
      · rename_i hn; exact ih hn e
      · cases e
theorem gatU_pre {rs : List (List Int)} : ∀ {l m : List (List Int)}, gatU l rs = some m → ∃ t, m = l ++ t := by
  induction rs with
  | nil => intro l m e; simp only [gatU, Option.some.injEq] at e; exact ⟨[], by simp [e]⟩
  | cons r rs ih =>
    intro l m e
    simp only [gatU] at e
    split at e
    · cases e
    · split at e
      · obtain ⟨t, ht⟩ := ih e; exact ⟨_, by rw [ht, List.append_assoc]⟩
      · cases e
end Go.Proofs.YtillhpgdlmeajaaGreatDoor

/-
  The contracts of package disk: Bytes, keep, Append, Sync, Cut, Crash.
-/
namespace Go.Proofs.YtillhpgdlmeajaaGreatDoor
open Go.RowKit
open Go.Proofs
theorem keep_at (p : Nat) (ao : Option Addr) (m c : Nat) (d : Dk) (n : Nat) (base : Nat) (w : World) (h : DskP w base p (.slice ao m c) d) (hn : n ≤ d.bs.length) (x : Int) (hx : x = (n : Int)) :
    Calls Tryz.prog 79 #[.pointer (some ⟨p, 0, none⟩), .int .i64 x] w fun e w' => e = .returned (.tuple #[]) ∧ DskP w' base p (.slice ao n c) { d with bs := d.bs.take n, syn := n } ∧ DSt p w (.slice ao m c) w' (.slice ao n c) := by
  subst hx
  exact keep_any p ao m c d n base w h hn
theorem Dk.crash_kept {d : Dk} (h : d.Ok) (keep : Int) : d.crash keep = { d with bs := d.bs.take (d.left keep), syn := d.left keep, arm := 0, down := false } := by
  have := Dk.left_le h keep
  unfold Dk.crash
  rw [show min (d.left keep) d.bs.length = d.left keep from by omega]
theorem Dk.Fit.crashed {d : Dk} (h : d.Fit) (keep : Int) : (d.crash keep).Fit :=
  ⟨Dk.crash_ok h.ok keep, by simp [Dk.crash], by simp [Dk.crash], fun _ => rfl, fun b hb => h.bytes b (List.mem_of_mem_take hb)⟩
set_option maxHeartbeats 2000000 in
theorem dcrash_any (p : Nat) (v : Value) (d : Dk) (keep : Int) (base : Nat) (w : World) (h : DskP w base p v d) :
    Calls Tryz.prog 34 #[.pointer (some ⟨p, 0, none⟩), .int .i64 keep] w fun e w' => e = .returned (.tuple #[]) ∧ ∃ v', DskP w' base p v' (d.crash keep) ∧ DSt p w v w' v' := by
  have hc0 := h.here.c0
  have hc1 := h.here.c1
  have ok1 := h.fit.ok.syn
  have ok2 := h.fit.ok.fits
  have ok3 := h.fit.ok.lim
  have hcr := Dk.crash_kept h.fit.ok keep
  have hle := Dk.left_le h.fit.ok keep
  obtain ⟨av, cv, ev⟩ := h.shape
  obtain ⟨k, hk⟩ : ∃ k, k = d.bs.length := ⟨_, rfl⟩
  obtain ⟨s, hs⟩ : ∃ s, s = d.syn := ⟨_, rfl⟩
  rw [← hk] at ev ok1 ok2
  rw [← hs] at hc1 ok1
  subst ev
  have hk2 : (k : Int) ≤ 1048576 := by omega
  have hsk : (s : Int) ≤ (k : Int) := by omega
  obtain ⟨j, hj⟩ : ∃ j, j = d.left keep := ⟨_, rfl⟩
  have hjv : (j : Int) = s + min (max keep 0) ((k : Int) - s) := by
    rw [hj]; unfold Dk.left; rw [← hk, ← hs]; omega
  rw [← hj] at hcr hle
  have HK := hide (fun w' (h' : DskP w' base p (.slice av k cv) d) (x : Int) (hx : x = (j : Int)) => keep_at p av k cv d j base w' h' hle x hx)
  have HF := hide (h.fit.crashed keep)
  have HCR := hide hcr
  have HD := hide (h.keptN (kp_drew w))
  have y1 := HD.out.here.c1
  rw [← hs] at y1
  have T1 : Hid (DSt p w (.slice av k cv) w.drew (.slice av k cv)) := DSt.mid _ (kp_drew w)
  clear h hcr hj hk hs hle ok1 ok2 ok3
  have h3 : keep < 0 ∨ (¬ keep < 0 ∧ keep ≤ (k : Int) - s) ∨ (¬ keep < 0 ∧ ¬ keep ≤ (k : Int) - s) := by omega
  rcases h3 with h3 | ⟨h3, h4⟩ | ⟨h3, h4⟩
  all_goals
    go_enter Tryz.func34, Tryz.ntmps34
    go_wp2_with fail
    refine region_read Tryz.mixed (by kernel_rfl) ?_
    repeat (first | go_big_quiet_skip | (go_big_quiet_want; go_big_quiet_op; go_big_quiet_on))
    refine wpQuiet_nil ?_
    generalize w.drew = w1 at *
    go_wp2_with (first
      | (go_at_call 79; go_loud (refine (HK.out w1 HD.out _ (by first | omega | (unfold wrap64; omega))).mono ?_); rintro e w2 ⟨rfl, D2, T2⟩; clear HK; have g2 := D2.here; unfold Fv at g2; have HD2 := hide D2; have HT2 := hide T2; clear D2 T2)
      | (refine wpList_store_flat rfl 135 (.tmp 29) (.tmp 27) rfl p 3 rfl _ _ [.int .i64 0, .bool false] g2 rfl (by simp) (by kernel_rfl) (by simp [Value.oneCell']) #[.slice av j cv, .int .i64 j, .int .i64 d.lim, .int .i64 0, .bool false] (by simp [putAll]) ?_; intro w3 g3 k3))
    go_end0
    rw [HCR.out]
    have hf := HF.out
    rw [HCR.out] at hf
    exact ⟨rfl, _, HD2.out.poke k3 g3 rfl hf, (T1.out.trans HT2.out).trans (DSt.one _ k3)⟩
end Go.Proofs.YtillhpgdlmeajaaGreatDoor

/-
  A new disk and its steps, as the law package takes them; Cut of the law package by its value; known.
-/
namespace Go.Proofs.YtillhpgdlmeajaaGreatDoor
open Go.RowKit
open Go.Proofs
namespace Dk
end Dk
section
variable {w0 w w' : World} {p : Nat} {v v' : Value} {d d' : Dk}
theorem nw_crash (h : Nw w0 w p v d) (n : Int) (he : d.crash n = d') : Calls Tryz.prog 34 #[.pointer (some ⟨p, 0, none⟩), .int .i64 n] w fun e w' => e = .returned (.tuple #[]) ∧ ∃ v', Nw w0 w' p v' d' ∧ DSt p w v w' v' := by
  refine (dcrash_any p v d n w0.heap.size w h.dk).mono ?_
  rintro e w' ⟨rfl, v', D, T⟩
  rw [he] at D
  exact ⟨rfl, v', h.step D T (by rw [← he]; exact Int.le_refl 0), T⟩
end
end Go.Proofs.YtillhpgdlmeajaaGreatDoor

/-
  The contracts of the reference reader over this seat's program: Raw, Number, Bytes, End, Left, by the same plain function of what is left as the program's own reader.
-/
namespace Go.Proofs.YtillhpgdlmeajaaGreatDoor
open Go.RowKit
theorem cell_of_three {w : World} {b : Nat} {v u x : Value} {t : TypeId} (h : w.heap[b]? = some (.cells #[v, u, x] t (0, 0))) : w.cell? ⟨b, 0, none⟩ = some v ∧ w.cell? ⟨b, 1, none⟩ = some u ∧ w.cell? ⟨b, 2, none⟩ = some x :=
  ⟨by rw [cell_of_row w b 0 _ t _ h]; rfl, by rw [cell_of_row w b 1 _ t _ h]; rfl, by rw [cell_of_row w b 2 _ t _ h]; rfl⟩
theorem three_setCell1 {w : World} {b : Nat} {v u x y : Value} {t : TypeId} (h : w.heap[b]? = some (.cells #[v, u, x] t (0, 0))) : (w.setCell ⟨b, 1, none⟩ y).heap[b]? = some (.cells #[v, y, x] t (0, 0)) := by
  have hlt := lt_of_block h
  have h' : w.heap[b] = .cells #[v, u, x] t (0, 0) := by simpa [Array.getElem?_eq_getElem hlt] using h
  show (w.heap.modify b _)[b]? = _
  rw [Array.getElem?_eq_getElem (by simpa using hlt), Array.getElem_modify_self, h']
  rfl
theorem three_setCell2 {w : World} {b : Nat} {v u x y : Value} {t : TypeId} (h : w.heap[b]? = some (.cells #[v, u, x] t (0, 0))) : (w.setCell ⟨b, 2, none⟩ y).heap[b]? = some (.cells #[v, u, y] t (0, 0)) := by
  have hlt := lt_of_block h
  have h' : w.heap[b] = .cells #[v, u, x] t (0, 0) := by simpa [Array.getElem?_eq_getElem hlt] using h
  show (w.heap.modify b _)[b]? = _
  rw [Array.getElem?_eq_getElem (by simpa using hlt), Array.getElem_modify_self, h']
  rfl
theorem rr_bad {w : World} {q : Nat} {v : Value} {i : Nat} {bad : Bool} {B : List Int} (h : RR w q v i bad B) : RR (w.setCell ⟨q, 2, none⟩ (.bool true)) q v i true B ∧ Kp [q] w (w.setCell ⟨q, 2, none⟩ (.bool true)) := by
  have k : Kp [q] w (w.setCell ⟨q, 2, none⟩ (.bool true)) := (Kp.refl [q] w).setCell (p := ⟨q, 2, none⟩) (.inl (by simp)) _
  exact ⟨⟨three_setCell2 h.1, h.2.1.kept k (fun j hj hm => by simp only [List.mem_singleton] at hm; subst hm; exact h.2.2.1 hj), h.2.2.1, h.2.2.2⟩, k⟩
theorem rr_go {w : World} {q : Nat} {v : Value} {i : Nat} {bad : Bool} {B : List Int} (h : RR w q v i bad B) (j : Nat) (hj : j ≤ B.length) : RR (w.setCell ⟨q, 1, none⟩ (.int .i64 j)) q v j bad B ∧ Kp [q] w (w.setCell ⟨q, 1, none⟩ (.int .i64 j)) := by
  have k : Kp [q] w (w.setCell ⟨q, 1, none⟩ (.int .i64 j)) := (Kp.refl [q] w).setCell (p := ⟨q, 1, none⟩) (.inl (by simp)) _
  exact ⟨⟨three_setCell1 h.1, h.2.1.kept k (fun j hj hm => by simp only [List.mem_singleton] at hm; subst hm; exact h.2.2.1 hj), h.2.2.1, hj⟩, k⟩
theorem rest_tk (i : Nat) (B : List Int) (n : Nat) (h : i + n ≤ B.length) : tk false (B.drop i) n = ((B.drop i).take n, false, B.drop (i + n)) := by
  rw [tk_ok false _ n (by rw [List.length_drop]; omega), List.drop_drop]
set_option maxRecDepth 100000 in
set_option maxHeartbeats 2000000 in
theorem rraw_any (q : Nat) (v : Value) (i : Nat) (bad : Bool) (B : List Int) (n : Int) (w : World) (hR : RR w q v i bad B) (hb : B.length ≤ 140737488355328) (hn : -9223372036854775808 ≤ n ∧ n ≤ 9223372036854775807) :
    Calls Tryz.prog 106 #[.pointer (some ⟨q, 0, none⟩), .int .i64 n] w fun e w' => ∃ ao m c, e = .returned (.slice ao m c) ∧ Own w w' (.slice ao m c) (tk bad (rest i bad B) n).1 ∧ RLeft w q v B (tk bad (rest i bad B) n).2 w' := by
  obtain ⟨ao, c, rfl, h1, h2, h3, h4⟩ := hR.2.1
  obtain ⟨hc0, hc1, hc2⟩ := cell_of_three hR.1
  have hf := free_of_two hR.1
  have hf1 := hf 1
  have hf2 := hf 2
  have hi := hR.2.2.2
  clear hf h4
  have hi1 : (0 : Int) ≤ (i : Int) := by omega
  have hi2 : (i : Int) ≤ (B.length : Int) := by omega
  cases bad with
  | true =>
    have hB := rr_bad hR
    have ht : tk true (rest i true B) n = ([], true, []) := by
      show tk true [] n = _
      unfold tk; split <;> simp
    rw [ht]
    go_enter Tryz.func106, Tryz.ntmps106
    go_wp2_with fail
    go_quiet (fail)
    go_wp2_with fail
    go_ret
    exact ⟨none, 0, 0, rfl, ⟨Sl.nil _, by intro k hk; cases hk⟩, i, true, hB.1.kept (kp_drewN _ _) (by simp) (by simp), rfl, hB.2.trans ((kp_drewN _ _).mono (by simp))⟩
  | false =>
    have hr : rest i false B = B.drop i := rfl
    rw [hr]
    by_cases hn0 : n < 0
    · have hB := rr_bad hR
      rw [tk_no false _ n (.inl hn0)]
      have hd : decide (n < 0) = true := by simpa using hn0
      go_enter Tryz.func106, Tryz.ntmps106
      go_wp2_with fail
      go_quiet (fail)
      go_wp2_with fail
      go_ret
      exact ⟨none, 0, 0, rfl, ⟨Sl.nil _, by intro k hk; cases hk⟩, i, true, hB.1.kept (kp_drewN _ _) (by simp) (by simp), rfl, hB.2.trans ((kp_drewN _ _).mono (by simp))⟩
    · obtain ⟨m, rfl⟩ := Int.eq_ofNat_of_zero_le (show 0 ≤ n by omega)
      have hd : decide ((m : Int) < 0) = false := by simp
      by_cases hbig : B.length - i < m
      · have hB := rr_bad hR
        rw [tk_no false _ m (.inr (by rw [List.length_drop]; omega))]
        have hd2 : decide ((B.length : Int) - (i : Int) < (m : Int)) = true := by simp; omega
        have hd3 : (B.length : Int) - (i : Int) < (m : Int) := by omega
        go_enter Tryz.func106, Tryz.ntmps106
        go_wp2_with fail
        go_quiet (fail)
        go_wp2_with fail
        go_ret
        exact ⟨none, 0, 0, rfl, ⟨Sl.nil _, by intro k hk; cases hk⟩, i, true, hB.1.kept (kp_drewN _ _) (by simp) (by simp), rfl, hB.2.trans ((kp_drewN _ _).mono (by simp))⟩
      · have hG := rr_go hR (i + m) (by omega)
        rw [rest_tk i B m (by omega)]
        have hd2 : decide ((B.length : Int) - (i : Int) < (m : Int)) = false := by simp; omega
        have hd3 : ¬ (B.length : Int) - (i : Int) < (m : Int) := by omega
        go_enter Tryz.func106, Tryz.ntmps106
        go_wp2_with fail
        go_quiet (fail)
        go_wp2_with fail
        have G : RR ((w.drewN nq).setCell ⟨q, 1, none⟩ (.int .i64 ((i : Int) + (m : Int)))) q (.slice ao B.length c) (i + m) false B ∧ Kp [q] w ((w.drewN nq).setCell ⟨q, 1, none⟩ (.int .i64 ((i : Int) + (m : Int)))) := by
          have e : ((i + m : Nat) : Int) = (i : Int) + (m : Int) := by omega
          rw [← e]
          exact ⟨hG.1.kept (kp_drewN _ nq) (by simp) (by simp), hG.2.trans ((kp_drewN _ nq).mono (by simp))⟩
        clear hG hc0 hc1 hc2 hf1 hf2 hd hd2 hd3 hR hr
        generalize (w.drewN nq).setCell ⟨q, 1, none⟩ (.int .i64 ((i : Int) + (m : Int))) = W at G ⊢
        obtain ⟨gR, gK⟩ := G
        obtain ⟨hc0, hc1, hc2⟩ := cell_of_three gR.1
        have hc1' : W.cell? ⟨q, 1, none⟩ = some (.int .i64 ((i : Int) + (m : Int))) := by rw [hc1]; rfl
        have hq := lt_of_block gR.1
        have hlo : (i : Int) + (m : Int) ≤ (c : Int) := by omega
        have h2' : (c : Int) ≤ 9223372036854775807 := by unfold maxLen at h2; omega
        have hw1 : IntKind.i64.wrap ((i : Int) + (m : Int) - (m : Int)) = i := by simp [IntKind.wrap, IntKind.signed, IntKind.bits]; omega
        have hw2 : IntKind.i64.wrap (i : Int) = i := by simp [IntKind.wrap, IntKind.signed, IntKind.bits]; omega
        have hne1 := World.new_ne W ⟨q, 0, none⟩ hc0
        have hne2 := World.new_ne W ⟨q, 1, none⟩ hc1
        obtain ⟨X, hX⟩ : ∃ X, X = if c = i then ao else ao.map (·.add i) := ⟨_, rfl⟩
        obtain ⟨cs, hcs⟩ : ∃ cs, cs = (B.drop i).take m := ⟨_, rfl⟩
        have hcl : cs.length ≤ 140737488355328 := by rw [hcs, List.length_take, List.length_drop]; omega
        have hS : Sl W (.slice X m (c - i)) cs := by
          rw [hX, hcs]
          exact (gR.2.1.drop i hi).take m (by rw [List.length_drop]; omega)
        have hrs : ∀ w', (Instr.slice 22 (.slice ao B.length c) (some (.int .i64 (i : Int))) (some (.int .i64 ((i : Int) + (m : Int)))) none).run Tryz.prog w' = .ok (.slice X m (c - i)) w' := fun w' => by
          rw [run_slice_lh (P := Tryz.prog) w' 22 ao B.length c (by kernel_rfl) .i64 .i64 _ _ (by omega) (by omega) (by omega)]
          rw [hX]
          have e1 : ((i : Int) + (m : Int)).toNat = i + m := by omega
          obtain ⟨i0, hi0, hz0, hz1, hz2⟩ := info_parts Tryz.info5
          simp [sizeOf, typeInfo, show Tryz.prog.elem 22 = 5 from by kernel_rfl, sliced, e1, hi0, hz1, Result.andThen]
        have hrow0 : Row (W.alloc (.cells #[] 5)).drew W.heap.size (.slice (some ⟨W.heap.size, 0, none⟩) 0 0) [] := (World.ownsRow_made W #[] 0 (Nat.le_refl _) (by simp [maxLen]) rfl).drew
        have hSa : Sl (W.alloc (.cells #[] 5)).drew (.slice X m (c - i)) cs := hS.kept (((Kp.refl [] W).alloc _).drew) (by simp)
        have HF : Hid ((B.drop i).take m = cs) := hcs.symm
        have HS := hide hS
        have HR := hide gR
        clear hc1 hc2 h2 hX hcs hS gR
        go_region_held3 (fun w' => w'.cell? ⟨q, 0, none⟩ = some (.slice ao B.length c) ∧ w'.cell? ⟨q, 1, none⟩ = some (.int .i64 ((i : Int) + (m : Int))))
          (first
            | go_keep
            | (go_split_ands
               refine ⟨?_, ?_⟩
               · exact s1.1.cell (by assumption) (by simp [Value.ownBlock]; omega)
               · exact s1.1.cell (by assumption) (by simp [Value.ownBlock]; omega)))
          ((refine step_append_row (by rfl) (.tmp 39) (.tmp 54) (by rfl) W.heap.size _ [] (by rfl) hrow0 _ cs (by rfl) hSa (by simpa using hcl) (by simp) ?_; intro ao2 m2 c2 w1 r1 s1))
        go_wp2_with fail
        go_ret
        rw [unhide HF]
        have kW : Kp [] W w1 := (((Kp.refl [] W).alloc (.cells #[] 5)).drew).then s1.1 (fun k hk => by simp [Value.ownBlock] at hk; exact .inr (by omega))
        exact ⟨ao2, m2, c2, rfl, ⟨by simpa using r1.sl, fun k hk => Nat.le_trans gK.size (World.ownsRow.lt r1 k hk).1⟩, i + m, false, (unhide HR).kept kW (by simp) (by simp), rfl, gK.trans (kW.mono (by simp))⟩
theorem rest_bs {i : Nat} {bad : Bool} {B : List Int} (h : Bs B) : Bs (rest i bad B) := by
  unfold rest; split
  · intro b hb; cases hb
  · exact h.drop _
set_option maxHeartbeats 400000 in
theorem rnumb_any (q : Nat) (v : Value) (i : Nat) (bad : Bool) (B : List Int) (n : Nat) (w : World) (hR : RR w q v i bad B) (hb : B.length ≤ 140737488355328) (h4 : n ≤ 4) (hB : Bs B) :
    Calls Tryz.prog 63 #[.pointer (some ⟨q, 0, none⟩), .int .i64 n] w fun e w' => e = .returned (.int .u32 (val (tk bad (rest i bad B) n).1)) ∧ RLeft w q v B (tk bad (rest i bad B) n).2 w' := by
  have hBc : Bs (tk bad (rest i bad B) n).1 := tk_bs1 (rest_bs hB)
  have hl4 : (tk bad (rest i bad B) n).1.length ≤ 4 := Nat.le_trans tk_len1 h4
  obtain ⟨cs, hcs⟩ : ∃ cs, cs = (tk bad (rest i bad B) n).1 := ⟨_, rfl⟩
  go_enter Tryz.func63, Tryz.ntmps63
  go_wp2_with fail
  refine (rraw_any q v i bad B n _ hR hb (by omega)).mono ?_
  rintro e w1 ⟨ao, m, c, rfl, hO, hL⟩
  rw [← hcs] at hO hBc hl4
  have HC := hide hcs
  have HL := hide hL
  have hS := hO.1
  clear hcs hL hR hO
  obtain ⟨ao', c', he, hS1, hS2, hS3, hS4⟩ := hS
  injection he with e1 e2 e3
  subst e1 e2 e3
  go_wp2_with fail
  go_loop [5, 12] (fun x j => ∃ k : Nat, k ≤ cs.length ∧ j = .int .i64 k ∧ x = .int .u32 (val (cs.take k))) (fun _ j => cs.length - (intOf j).toNat)
  case atStart => exact ⟨0, Nat.zero_le _, rfl, rfl⟩
  case round =>
    obtain ⟨k, hk, rfl, rfl⟩ := hrel
    by_cases hlt : k < cs.length
    · have hSl : Sl w1 (.slice ao cs.length c) cs := ⟨ao, c, rfl, hS1, hS2, hS3, hS4⟩
      obtain ⟨b, off, rfl, _, hcell⟩ := hSl.at2 (by omega)
      have hc := hcell k hlt
      have hb1 := hBc cs[k] (List.getElem_mem hlt)
      have hvb := val_bd (cs.take k) (hBc.take k)
      have hlen : (cs.take k).length ≤ 3 := by simp; omega
      have hv1 := val_small (cs.take k) (hBc.take k) hlen
      obtain ⟨x, hx⟩ : ∃ x, x = val (cs.take k) := ⟨_, rfl⟩
      obtain ⟨y, hy⟩ : ∃ y, y = cs[k] := ⟨_, rfl⟩
      have HX : Hid (val (cs.take (k + 1)) = x * 256 + y) := by rw [hx, hy]; exact val_take_succ cs k hlt
      rw [← hx] at hvb hv1
      rw [← hx]
      rw [← hy] at hc hb1
      obtain ⟨hb1, hb2⟩ := hb1
      obtain ⟨hx0, _⟩ := hvb
      have hor := bits_or_byte x y hx0 hv1 hb1 hb2
      clear hx hy hlen hBc hcell hSl hS3 hS4
      go_wp2
      go_round
      case rel => exact ⟨k + 1, by omega, by go_num, by rw [HX.out]⟩
      case measure => simp [intOf]; omega
    · obtain rfl : k = cs.length := by omega
      clear hS3 hS4
      go_wp2
      go_ret
      exact ⟨congrArg (fun l => Ending.returned (.int .u32 (val l))) (unhide HC), unhide HL⟩
end Go.Proofs.YtillhpgdlmeajaaGreatDoor

/-
  The reference's Record and Open; the law's lay.
-/
namespace Go.Proofs.YtillhpgdlmeajaaGreatDoor
open Go.RowKit
open Go.Proofs
theorem wpList_rows {base : Nat} {wr w2 : World} {ops : Array Oper} {rest : List Oper} {o : Oper} {a : Act} {Q : Exit → Act → World → Prop} (hgd : o.guard = none) (s x : Operand)
    (ho : o.op = .call { callee := .builtin .append, args := #[s, x], argTypes := #[33, 33] }) (v : Value) (l : List (Value × List Int)) (hs : a.eval s = v) (hP : RowS wr base v l) (hbase : base ≤ wr.heap.size) (hl : l.length ≤ 1000000)
    (vx : Value) (bs : List Int) (k : Kp [] wr w2) (hr : Sl w2 vx bs) (hnew : ∀ i, vx.ownBlock = some i → wr.heap.size ≤ i) (hb : Bs bs) (hx : a.eval x = .slice (some ⟨w2.heap.size, 0, none⟩) 1 1)
    (h : ∀ ao m c w', RowS w' base (.slice ao m c) (l ++ [(vx, bs)]) → Kp v.ownBlock.toList w2 w' → wpList Tryz.prog ops Q rest (a.put o.dst (.slice ao m c)) w') : wpList Tryz.prog ops Q (o :: rest) a (w2.alloc (.cells #[vx] 22)) := by
  have k2 : Kp [] w2 (w2.alloc (.cells #[vx] 22)) := (Kp.refl [] w2).alloc _
  have hP2 := (hP.kept k).kept k2
  have hr0 := hr
  obtain ⟨ax, cx, hvx, -⟩ := hr0
  refine wpList_append_rowv hgd s x ho base v (l.map (·.1)) hs hP2.1 ⟨w2.heap.size, 0, none⟩ 1 [vx] hx ?_ ?_ ?_ ?_ ?_
  · intro j u hu
    exact World.news_of_block (heap_alloc_new w2 _) j u (by simpa using hu)
  · simp [hvx, Value.oneCell']
  · simp; omega
  · have := k.size
    simp; omega
  · intro ao m c w' r st
    refine h ao m c w' (hP2.snocJ (x := (vx, bs)) (hr.kept k2 (by simp)) hb (fun i h1 h2 => by have := hP.1.lt h2; have := hnew i h1; omega) r st) ?_
    exact (k2.mono (by simp)).trans st.1
set_option maxRecDepth 100000 in
set_option maxHeartbeats 4000000 in
theorem refopen_any (v : Value) (b : List Int) (w : World) (hS : Sl w v b) (hB : Bs b) (hl : b.length ≤ 1048576) :
    Calls Tryz.prog 62 #[v] w fun e w' => ∃ ao m c l, e = .returned (.tuple #[.slice ao m c, .int .i64 (opnP b).2.1, .bool (opnP b).2.2]) ∧ RowS w' w.heap.size (.slice ao m c) l ∧ l.map (·.2) = (opnP b).1 ∧ m = (opnP b).1.length ∧ Kp [] w w' := by
  have HS := hide (fun w' (k : Kp [] w w') => hS.kept k (by simp))
  have HB := hide hB
  obtain ⟨ab, cb, rfl, hcb, hmx, hab, -⟩ := hS
  obtain ⟨n, hn⟩ : ∃ n, n = b.length := ⟨_, rfl⟩
  rw [← hn] at HS hl hcb ⊢
  have HN := hide hn
  have hln : (n : Int) ≤ 1048576 := by omega
  have hus := uns32
  have HAb := hide hab
  have HMx := hide hmx
  clear hn hB hl hab hmx
  go_enter Tryz.func62, Tryz.ntmps62
  go_wp2_with fail
  go_loopw [5, 6] (fun o s wr => ∃ (at_ : Nat) (l : List (Value × List Int)), at_ ≤ n ∧ s = .int .i64 at_ ∧ (∃ ao c, o = .slice ao l.length c) ∧ RowS wr w.heap.size o l ∧ Kp [] w wr ∧ opnP b = (l.map (·.2) ++ (opnP (b.drop at_)).1, at_ + (opnP (b.drop at_)).2.1, (opnP (b.drop at_)).2.2)) (fun _ s _ => n - (intOf s).toNat)
  case atStart => exact ⟨0, [], by omega, rfl, ⟨_, _, rfl⟩, ⟨World.ownsRow_nil _ _ _ _, by simp⟩, Kp.refl _ _, by simp⟩
  case round =>
    obtain ⟨at_, l, hat, rfl, ⟨ao, c, rfl⟩, hP, hK, hO⟩ := hrel
    have HO := hide hO
    have HP := hide hP
    have HK := hide hK
    have hrun : ∀ W, (Instr.sliceAt 22 (.slice ab n cb) (some (.int .i64 at_)) none none).run Tryz.prog W = .ok (.slice (if cb = at_ then ab else ab.map (·.add at_)) (n - at_) (cb - at_)) W := fun W => run_from ab n cb at_ W hat hcb HAb.out
    obtain ⟨X, hX⟩ : ∃ X, X = if cb = at_ then ab else ab.map (·.add at_) := ⟨_, rfl⟩
    obtain ⟨k, hk⟩ : ∃ k, k = n - at_ := ⟨_, rfl⟩
    obtain ⟨cx, hcx⟩ : ∃ k, k = cb - at_ := ⟨_, rfl⟩
    obtain ⟨x, hx⟩ : ∃ x, x = b.drop at_ := ⟨_, rfl⟩
    rw [← hX, ← hk, ← hcx] at hrun
    have hSx : Sl wr (.slice X k cx) x := by
      have := (HS.out wr HK.out).drop at_ (by have := HN.out; omega)
      rw [← hX, ← hk, ← hcx, ← hx] at this
      exact this
    have hkx : k = x.length := by rw [hx, List.length_drop, hk, HN.out]
    have HX := hide hx
    have HKx := hide hkx
    have hkn : k + at_ = n := by omega
    have HBx : Hid (Bs x) := by rw [hx]; exact HB.out.drop _
    have HSx := hide hSx
    rw [← hx] at HO
    clear hx hkx hX hk hcx hO hP hK hSx
    by_cases h8 : k < 8
    · have h8' : (k : Int) < 8 := by omega
      go_wp2_with fail
      go_ret3
      have e := opnP_short (b := x) (by have := HKx.out; omega)
      have eb := HO.out
      rw [e] at eb
      exact ⟨ao, _, c, l, by rw [eb]; rfl, HP.out, by rw [eb]; simp, by rw [eb]; simp, HK.out⟩
    · have h8' : ¬ (k : Int) < 8 := by omega
      obtain ⟨q, hq⟩ : ∃ q, q = wr.heap.size := ⟨_, rfl⟩
      obtain ⟨w1, hw1⟩ : ∃ w1, w1 = wr.alloc (.cells #[.slice X k cx, .int .i64 0, .bool false] 125) := ⟨_, rfl⟩
      have K1 : Kp [] wr w1 := by rw [hw1]; exact (Kp.refl [] wr).alloc _
      have hS1 := HSx.out.kept K1 (by simp)
      have hrr : RR w1 q (.slice X k cx) 0 false x := by
        refine ⟨by rw [hw1, hq]; exact heap_alloc_new wr _, hS1, fun e => ?_, Nat.zero_le _⟩
        by_cases hx0 : x = []
        · have := HKx.out; rw [hx0] at this; simp at this; omega
        · obtain ⟨b', off, rfl, -, hcl⟩ := HSx.out.at2 (by omega)
          have hpos : 0 < x.length := List.length_pos_iff.2 hx0
          have := World.block_lt_of_cell? _ _ (hcl 0 hpos)
          have e' : b' = q := by simpa [Value.ownBlock] using e
          simp at this
          omega
      have HK1 := hide K1
      have HQ := hide hq
      have HW1 := hide hw1
      have hxk : x.length = k := HKx.out.symm
      have HN1 := hide (rnumb_any q _ 0 false x 4 w1 hrr (by omega) (by omega) HBx.out)
      have et : tk false (rest 0 false x) (4 : Nat) = (x.take 4, false, x.drop 4) := by
        show tk false (x.drop 0) (4 : Nat) = _
        rw [List.drop_zero, tk_ok false x 4 (by omega)]
      rw [et] at HN1
      obtain ⟨a, ha⟩ : ∃ a, a = num1 x := ⟨_, rfl⟩
      have ha' : val (x.take 4) = a := ha.symm
      simp only [ha'] at HN1
      have hab : 0 ≤ a ∧ a ≤ 4294967295 := by
        have h1 := val_bd (x.take 4) (HBx.out.takes 4)
        have h2 : (x.take 4).length = 4 := by simp; omega
        rw [h2, ha'] at h1
        omega
      obtain ⟨m, rfl⟩ := Int.eq_ofNat_of_zero_le hab.1
      have hx32 := not32 m hab.1 hab.2
      have hw64 : IntKind.i64.wrap (m : Int) = m := by simp [IntKind.wrap, IntKind.signed, IntKind.bits]; omega
      have HA := hide ha
      have HM := hide hab
      have hk8 : IntKind.u32.wrap ((k : Int) - 8) = (k : Int) - 8 := by simp [IntKind.wrap, IntKind.signed, IntKind.bits]; omega
      have hk8' : IntKind.i64.wrap ((k : Int) - 8) = (k : Int) - 8 := by simp [IntKind.wrap, IntKind.signed, IntKind.bits]; omega
      clear ha ha' hab et hrr hS1 K1 hq hw1 hxk
      go_wp2_with fail
      rw [← HW1.out, ← HQ.out]
      refine HN1.out.mono ?_
      rintro ee w2 ⟨rfl, i2, bad2, R2, e2, K2⟩
      have e2a : bad2 = false := (congrArg Prod.fst e2).symm
      subst e2a
      have e2b : rest i2 false x = x.drop 4 := (congrArg Prod.snd e2).symm
      have hxk : x.length = k := HKx.out.symm
      have HN2 := hide (rnumb_any q _ i2 false x 4 w2 R2 (by omega) (by omega) HBx.out)
      have et : tk false (rest i2 false x) (4 : Nat) = ((x.drop 4).take 4, false, x.drop 8) := by
        rw [e2b, tk_ok false _ 4 (by simp; omega), List.drop_drop]
      rw [et] at HN2
      obtain ⟨t, ht⟩ : ∃ t, t = num2 x := ⟨_, rfl⟩
      have ht' : val ((x.drop 4).take 4) = t := ht.symm
      simp only [ht'] at HN2
      have HT := hide ht
      have HK2 := hide K2
      clear ht ht' et e2 e2b R2 K2 HN1 hxk
      go_wp2_with fail
      refine HN2.out.mono ?_
      rintro ee w3 ⟨rfl, i3, bad3, R3, e3, K3⟩
      have e3a : bad3 = false := (congrArg Prod.fst e3).symm
      subst e3a
      have e3b : rest i3 false x = x.drop 8 := (congrArg Prod.snd e3).symm
      have HR3 := hide R3
      have HE3 := hide e3b
      have HK3 : Hid (Kp [] wr w3) := HK1.out.then (HK2.out.trans K3) (fun i hi => .inr (by simp at hi; have := HQ.out; omega))
      clear R3 e3 e3b K3 HN2
      by_cases hbad : t = 4294967295 - (m : Int) ∧ m ≤ 65535
      · obtain ⟨rfl, hm⟩ := hbad
        have hm' : ¬ (65535 : Int) < m := by omega
        have hm'' : (m : Int) ≤ 65535 := by omega
        by_cases htn : k - 8 < m
        · have htn' : (k : Int) - 8 < m := by omega
          go_wp2_with fail
          go_ret3
          have e := opnP_torn (b := x) (by have := HKx.out; omega) (by rw [← HT.out, ← HA.out]) (by rw [← HA.out]; omega) (by rw [← HA.out]; have := HKx.out; omega)
          have eb := HO.out
          rw [e] at eb
          exact ⟨ao, _, c, l, by rw [eb]; rfl, HP.out.kept HK3.out, by rw [eb]; simp, by rw [eb]; simp, HK.out.trans HK3.out⟩
        · have htn' : ¬ (k : Int) - 8 < m := by omega
          have HRw := hide (rraw_any q _ i3 false x m w3 HR3.out (by have := HKx.out; omega) (by omega))
          have et : tk false (rest i3 false x) (m : Int) = ((x.drop 8).take m, false, x.drop (8 + m)) := by
            rw [HE3.out, tk_ok false _ m (by have := HKx.out; simp; omega), List.drop_drop]
          rw [et] at HRw
          clear et
          go_wp2_with fail
          refine HRw.out.mono ?_
          rintro ee w4 ⟨a4, m4, c4, rfl, ⟨S4, o4⟩, i4, b4, -, -, K4⟩
          have HS4 := hide S4
          have HK4 : Hid (Kp [] wr w4) := HK3.out.then K4 (fun i hi => .inr (by simp at hi; have := HQ.out; omega))
          have ho4 : ∀ i, (Value.slice a4 m4 c4).ownBlock = some i → wr.heap.size ≤ i := fun i hi => Nat.le_trans HK3.out.size (o4 i hi)
          have hll : l.length ≤ 1000000 := by
            have h1 := opnP_count b
            rw [HO.out] at h1
            simp only [List.length_append, List.length_map] at h1
            have := HN.out
            omega
          have hbx : Bs ((x.drop 8).take m) := (HBx.out.drop 8).takes m
          have hwa : IntKind.i64.wrap ((at_ : Int) + 8) = (at_ : Int) + 8 := by simp [IntKind.wrap, IntKind.signed, IntKind.bits]; omega
          have hwb : IntKind.i64.wrap ((at_ : Int) + 8 + (m : Int)) = (at_ : Int) + 8 + (m : Int) := by simp [IntKind.wrap, IntKind.signed, IntKind.bits]; omega
          clear S4 o4 K4 HRw
          go_wp2_with (at_builtin; refine wpList_rows (base := w.heap.size) (wr := wr) rfl (.tmp 44) (.tmp 49) rfl (.slice ao l.length c) l rfl HP.out HK.out.size hll (.slice a4 m4 c4) _ HK4.out HS4.out ho4 hbx rfl ?_; intro a6 m6 c6 w6 P6 K6)
          have hq6 : ∀ i ∈ (Value.slice ao l.length c).ownBlock.toList, w.heap.size ≤ i := fun i hi => HP.out.1.own i (by simpa [Option.mem_toList] using hi)
          have hm6 : m6 = l.length + 1 := by have := P6.1.len; simpa using this
          subst hm6
          have HP6 := hide P6
          have HK6 : Hid (Kp [] w w6) := (HK.out.trans HK4.out).then K6 (fun i hi => .inr (hq6 i hi))
          clear P6 K6 hq6 HS4 ho4 hbx
          go_wp2_with fail
          go_roundw
          case rel =>
            have hst := opnP_step b at_ (l.map (·.2)) (by rw [← HX.out]; exact HO.out) (by rw [← HX.out]; have := HKx.out; omega) (by rw [← HX.out, ← HT.out, ← HA.out]) (by rw [← HX.out, ← HA.out]; omega) (by rw [← HX.out, ← HA.out]; have := HKx.out; omega)
            rw [← HX.out, ← HA.out, Int.toNat_natCast] at hst
            refine ⟨at_ + (8 + m), _, by omega, ?_, ⟨a6, c6, ?_⟩, HP6.out, HK6.out, ?_⟩
            · congr 1; omega
            · simp
            · rw [hst]; simp
          case measure =>
            simp [intOf]; omega
      · by_cases hb1 : t = 4294967295 - (m : Int)
        · have hm' : (65535 : Int) < m := by
            have : ¬ m ≤ 65535 := fun h => hbad ⟨hb1, h⟩
            omega
          have HBD : Hid (opnP x = ([], 0, false)) := opnP_bad (by have := HKx.out; omega) (.inr (by rw [← HA.out]; exact hm'))
          subst hb1
          clear hbad
          go_wp2_with fail
          go_ret3
          have eb := HO.out
          rw [HBD.out] at eb
          exact ⟨ao, _, c, l, by rw [eb]; rfl, HP.out.kept HK3.out, by rw [eb]; simp, by rw [eb]; simp, HK.out.trans HK3.out⟩
        · have HBD : Hid (opnP x = ([], 0, false)) := opnP_bad (by have := HKx.out; omega) (.inl (by rw [← HA.out, ← HT.out]; exact hb1))
          clear hbad
          go_wp2_with fail
          go_ret3
          have eb := HO.out
          rw [HBD.out] at eb
          exact ⟨ao, _, c, l, by rw [eb]; rfl, HP.out.kept HK3.out, by rw [eb]; simp, by rw [eb]; simp, HK.out.trans HK3.out⟩
end Go.Proofs.YtillhpgdlmeajaaGreatDoor

/-
  Lists gathered behind one another; records cut off by a crash.
-/
namespace Go.Proofs.YtillhpgdlmeajaaGreatDoor
open Go.RowKit
open Go.Proofs
theorem wpList_append_list {w : World} {ops : Array Oper} {rest : List Oper} {o : Oper} {a : Act} {Q : Exit → Act → World → Prop} (hgd : o.guard = none) (s x : Operand)
    (ho : o.op = .call { callee := .builtin .append, args := #[s, x], argTypes := #[33, 33] }) (base : Nat) (v : Value) (xs : List Value) (hs : a.eval s = v) (hrow : RowV w base v xs)
    (ol : Option Addr) (m oc : Nat) (la : List (Value × List Int)) (hx : a.eval x = .slice ol m oc) (hL : Lists w (.slice ol m oc) la) (hn : ol = none → oc = 0) (hb : xs.length + la.length ≤ 1000000) (hbase : base ≤ w.heap.size)
    (h : ∀ ao m c w', RowV w' base (.slice ao m c) (xs ++ la.map (·.1)) → RStep w v w' (.slice ao m c) → wpList Tryz.prog ops Q rest (a.put o.dst (.slice ao m c)) w') : wpList Tryz.prog ops Q (o :: rest) a w := by
  obtain ⟨ol', oc', e, hl1, hcell⟩ := hL
  injection e with e1 e2 e3
  subst e1 e3
  subst e2
  cases ol with
  | none =>
    have h0 : la = [] := by
      cases la with
      | nil => rfl
      | cons y t =>
        obtain ⟨b, off, e, -⟩ := hcell 0 (by simp)
        cases e
    subst h0
    have hoc := hn rfl
    subst hoc
    obtain ⟨i0, hi0, hz0, hz1, hz2⟩ := info_parts Tryz.infoSl
    have hrow0 := hrow
    obtain ⟨av, cv, rfl⟩ := hrow0.shape
    refine wpList_append_own_none hgd s x 33 ho base 22 i0 1 Tryz.underlying33 hi0 _ xs.length xs hs hrow (by simpa using hx) ?_
    exact h av _ cv w (by simpa using hrow) (RStep.refl _ _)
  | some ad =>
    refine wpList_append_rowv hgd s x ho base v xs hs hrow ad oc (la.map (·.1)) (by rw [hx]; simp) ?_ ?_ (by simp; omega) hbase h
    · intro j u hu
      have hj : j < la.length := by have := (List.getElem?_eq_some_iff.1 hu).1; simpa using this
      obtain ⟨b, off, e, hc, -⟩ := hcell j hj
      injection e with e
      subst e
      rw [Addr.add_lit, hc]
      simpa [List.getElem?_eq_getElem hj] using hu
    · intro u hu
      obtain ⟨y, hy, rfl⟩ := List.mem_map.1 hu
      obtain ⟨i, hi, rfl⟩ := List.getElem_of_mem hy
      obtain ⟨b, off, e, hc, ⟨a1, c1, e1, -⟩, -⟩ := hcell i hi
      rw [e1]; rfl
end Go.Proofs.YtillhpgdlmeajaaGreatDoor

/-
  Package keys: a box in memory; Open, Take, Next, Left.
-/
namespace Go.Proofs.YtillhpgdlmeajaaGreatDoor
open Go.RowKit
open Go.Proofs
set_option linter.unusedVariables false
section
variable {w0 w w' : World} {p q n k : Nat} {d d' : Dk}
theorem take_used (h : Bx w0 w p d q 16 k) : Calls Tryz.prog 115 #[.pointer (some ⟨q, 0, none⟩)] w fun e w' => e = .returned (.tuple #[.int .i64 0, .int .i64 23]) ∧ w' = w := by
  obtain ⟨v, j, m, -, -, h, -⟩ := h
  have hc := h.c1
  clear h
  go_enter Tryz.func115, Tryz.ntmps115
  go_wp2_with fail
  go_ret2
  exact ⟨rfl, rfl⟩
end
end Go.Proofs.YtillhpgdlmeajaaGreatDoor

/-
  Disks, journals and boxes with the blocks that they lie in.
-/
namespace Go.Proofs.YtillhpgdlmeajaaGreatDoor
open Go.RowKit
open Go.Proofs
set_option linter.unusedVariables false
section
variable {w0 w w' : World} {p q j n k : Nat} {d d' : Dk} {F : Nat → Prop} {v : Value}
theorem Bf.dx (h : Bf w0 w p d q n k F) : Dx w0 w p d F := by
  obtain ⟨v, j, m, h1, h2, h3, h4, h5, h6, h7⟩ := h
  exact ⟨v, h2.nw, h7⟩
theorem Jx.dx (h : Jx w0 w p d j k F) : Dx w0 w p d F := by
  obtain ⟨v, m, h1, h2, h3, h4⟩ := h
  exact ⟨v, h2.nw, h4⟩
/-- a disk takes a step. -/
theorem Dx.stepD {v v' : Value} (hF : ∀ i ∈ dfp p v, F i) (g : Nw w0 w' p v' d') (t : DSt p w v w' v') : ∃ F', Dx w0 w' p d' F' ∧ Stp F w w' F' ∧ ∀ i, F i → F' i :=
  ⟨grF F v', ⟨v', g, grF_fp (hF p (mem_dfp.2 (.inl rfl)))⟩, t.stp hF g.rlt, fun i h => .inl h⟩
theorem Jx.stepD {v v' : Value} (h : ∃ m, m ≤ k ∧ Jn w0 w p v d j m ∧ F j ∧ ∀ i ∈ dfp p v, F i) (g : Nw w0 w' p v' d') (t : DSt p w v w' v') : ∃ F', Jx w0 w' p d' j k F' ∧ Stp F w w' F' := by
  obtain ⟨m, h1, h2, h3, h4⟩ := h
  exact ⟨grF F v', ⟨v', m, h1, h2.disk g t, .inl h3, grF_fp (h4 p (mem_dfp.2 (.inl rfl)))⟩, t.stp h4 g.rlt⟩
theorem Bf.stepD {v v' : Value} (h : ∃ j m, m ≤ k ∧ Jn w0 w p v d j m ∧ Kb w q j n ∧ w0.heap.size ≤ q ∧ F q ∧ F j ∧ ∀ i ∈ dfp p v, F i) (g : Nw w0 w' p v' d') (t : DSt p w v w' v') : ∃ F', Bf w0 w' p d' q n k F' ∧ Stp F w w' F' := by
  obtain ⟨j, m, h1, h2, h3, h4, h5, h6, h7⟩ := h
  exact ⟨grF F v', ⟨v', j, m, h1, h2.disk g t, h3.kept t.1 (h3.off h2.nw.dk), h4, .inl h5, .inl h6, grF_fp (h7 p (mem_dfp.2 (.inl rfl)))⟩, t.stp h7 g.rlt⟩
end
end Go.Proofs.YtillhpgdlmeajaaGreatDoor

/-
  Manifests (api.Manifest) as values and in memory: loaded, stored, handed back.
-/
namespace Go.Proofs.YtillhpgdlmeajaaGreatDoor
open Go.RowKit
open Go.Proofs
theorem Tryz.manSize : (Tryz.prog.info? 160).map (·.size) = some 4 := by kernel_rfl
section
variable {w : World} {g : Nat} {x y z u : Value} {fr : Nat × Nat}
theorem cell_man {t : TypeId} (hg : w.heap[g]? = some (.cells #[x, y, z, u] t fr)) : w.cell? ⟨g, 0, none⟩ = some x ∧ w.cell? ⟨g, 1, none⟩ = some y ∧ w.cell? ⟨g, 2, none⟩ = some z ∧ w.cell? ⟨g, 3, none⟩ = some u := by
  refine ⟨?_, ?_, ?_, ?_⟩ <;> rw [cell_of_row w g _ _ _ _ hg] <;> rfl
theorem results_man1 {fn : Func} {p : Tmp} (h : fn.results = #[.cell p 160]) (tmps : Array Value) (hp : tmps.getD p undef = .pointer (some ⟨g, 0, none⟩)) (hg : w.heap[g]? = some (.cells #[x, y, z, u] 160 fr)) : (results fn tmps).run Tryz.prog w = .ok (.agg #[x, y, z, u]) w :=
  results_cell_row h tmps w g 160 #[x, y, z, u] fr _ hp hg Tryz.underlying160 rfl Tryz.manSize
theorem kp_mcells (w : World) (g : Nat) : ∀ (l : List Value) (o : Nat) (w1 : World), Kp [g] w w1 → Kp [g] w (w1.setCells g o l)
  | [], _, _, h => h
  | x :: l, o, w1, h => kp_mcells w g l (o + 1) _ (h.setCell (p := ⟨g, o, none⟩) (.inl (by simp)) x)
theorem wpList_store_man {ops : Array Oper} {rest : List Oper} {o : Oper} {a : Act} {Q : Exit → Act → World → Prop} (hgd : o.guard = none) (p r : Operand) (ho : o.op = .store 160 p r) (g : Nat) (hp : a.eval p = .pointer (some ⟨g, 0, none⟩)) (x0 y0 z0 u0 x y z u : Value)
    (hg : w.heap[g]? = some (.cells #[x0, y0, z0, u0] 160 (0, 0))) (hu : a.eval r = .agg #[x, y, z, u]) (h1 : x.oneCell' = true ∧ y.oneCell' = true ∧ z.oneCell' = true ∧ u.oneCell' = true)
    (h : ∀ w', w'.heap[g]? = some (.cells #[x, y, z, u] 160 (0, 0)) → Kp [g] w w' → wpList Tryz.prog ops Q rest (a.put o.dst undef) w') : wpList Tryz.prog ops Q (o :: rest) a w := by
  refine wpList_store_mid hgd 160 p r ho g 0 #[x, y, z, u] hp hu ?_ (by simpa using Tryz.manSize) (all_oneCell_toArray (by simp [h1])) ?_
  · intro j hj
    simp only [List.size_toArray, List.length_cons, List.length_nil] at hj
    rw [Nat.zero_add, cell_of_row w g j _ _ _ hg]
    refine ⟨?_, frozen_of_row w g j _ _ hg⟩
    rcases (by omega : j = 0 ∨ j = 1 ∨ j = 2 ∨ j = 3) with rfl | rfl | rfl | rfl <;> rfl
  · refine h _ ?_ (kp_mcells w g _ 0 w (Kp.refl _ _))
    simp only [World.setCells]
    have e1 := heap_setCell_same w g 0 _ _ x hg
    have e2 := heap_setCell_same (w.setCell ⟨g, 0, none⟩ x) g 1 _ _ y e1
    have e3 := heap_setCell_same ((w.setCell ⟨g, 0, none⟩ x).setCell ⟨g, 1, none⟩ y) g 2 _ _ z e2
    have e4 := heap_setCell_same (((w.setCell ⟨g, 0, none⟩ x).setCell ⟨g, 1, none⟩ y).setCell ⟨g, 2, none⟩ z) g 3 _ _ u e3
    simpa using e4
end
/-- The value is the manifest m. -/
def MvT (m : Mf) : Tell := fun v w => MV w v m
theorem stable_mv (m : Mf) : Tell.stable (MvT m) := fun _ _ _ k h => h.kept k
section
variable {o : Oper} {a : Act} {w : World} {R : Tell} {g : Nat} {x y z u : Value} {fr : Nat × Nat}
theorem man_fld (g j : Nat) (hj : j < 4) (w : World) : (Instr.fieldAt 160 (.pointer (some ⟨g, 0, none⟩)) j).run Tryz.prog w = .ok (.pointer (some ⟨g, j, none⟩)) w := by
  rcases (by omega : j = 0 ∨ j = 1 ∨ j = 2 ∨ j = 3) with rfl | rfl | rfl | rfl <;> simp [go_sem]
theorem grown_mfld (p : Operand) (j : Nat) (hj : j < 4) (ho : o.op = .fieldAddr 160 p j) (hp : a.eval p = .pointer (some ⟨g, 0, none⟩)) : grown Tryz.prog w (Is (.pointer (some ⟨g, j, none⟩))) ((execOp a.eval o).run Tryz.prog w) := by
  refine grown_run ?_ (Kp.refl _ _) rfl
  unfold execOp
  simp only [ho, hp, Sem.run_bind, man_fld g j hj w, Result.andThen_ok, Sem.run_pure]
theorem grown_lds (p : Operand) (ho : o.op = .load 9 p) (j : Nat) (S : ByteArray) (hp : a.eval p = .pointer (some ⟨g, j, none⟩)) (hc : w.cell? ⟨g, j, none⟩ = some (.string S)) : grown Tryz.prog w (Is (.string S)) ((execOp a.eval o).run Tryz.prog w) := by
  refine grown_run (v := .string S) ?_ (Kp.refl _ _) rfl
  obtain ⟨ρ, hρ, _⟩ := eval_is a
  rw [hρ] at hp ⊢
  unfold execOp
  simp only [ho]
  simp [go_sem, hp, hc]
theorem grown_ldu (p : Operand) (ho : o.op = .load 103 p) (j : Nat) (i : Int) (hp : a.eval p = .pointer (some ⟨g, j, none⟩)) (hc : w.cell? ⟨g, j, none⟩ = some (.int .u32 i)) : grown Tryz.prog w (Is (.int .u32 i)) ((execOp a.eval o).run Tryz.prog w) := by
  refine grown_run (v := .int .u32 i) ?_ (Kp.refl _ _) rfl
  obtain ⟨ρ, hρ, _⟩ := eval_is a
  rw [hρ] at hp ⊢
  unfold execOp
  simp only [ho]
  simp [go_sem, hp, hc]
end
theorem man_no {S : ByteArray} {i : Int} {v u : Value} (hv : ∀ y, v ≠ .int .u8 y) (hu : ∀ y, u ≠ .int .u8 y) : ∀ x ∈ (#[Value.string S, .int .u32 i, v, u]).toList, ∀ y, x ≠ .int .u8 y := by
  intro x hx y
  rcases (by simpa using hx : x = .string S ∨ x = .int .u32 i ∨ x = v ∨ x = u) with rfl | rfl | rfl | rfl
  · simp
  · simp
  · exact hv y
  · exact hu y
theorem noBy_man {w : World} {g : Nat} {S : ByteArray} {i : Int} {a1 a2 : Option Addr} {n1 c1 n2 c2 : Nat} {t : TypeId} {fr : Nat × Nat} (hg : w.heap[g]? = some (.cells #[.string S, .int .u32 i, .slice a1 n1 c1, .slice a2 n2 c2] t fr)) : NoBy w [g] := by
  intro x hx
  obtain rfl : x = g := by simpa using hx
  exact ⟨_, _, _, hg, man_no (by simp) (by simp)⟩
end Go.Proofs.YtillhpgdlmeajaaGreatDoor

/-
  The contracts of Right of a checkpoint: package check's, and the reference's.
-/
namespace Go.Proofs.YtillhpgdlmeajaaGreatDoor
open Go.RowKit
open Go.Proofs
set_option maxRecDepth 100000 in
set_option maxHeartbeats 1000000 in
theorem rckright_any (v : Value) (n : Int) (r : List Int) (b : Bool) (hb : b = rgtC n r) (w : World) (hV : CkV w v n r) :
    Calls Tryz.prog 81 #[v] w fun e w' => e = .returned (.bool b) ∧ Kp [] w w' := by
  obtain ⟨a, m, c, rfl, hS, -⟩ := hV
  have hm := sl_nlenf hS
  have hb2 : b = (decide (0 ≤ n ∧ n ≤ 256) && ((m : Int) == 32)) := by
    rw [hb, hm]
    unfold rgtC
    congr 1
    rw [Bool.eq_iff_iff]
    simp only [beq_iff_eq]
    omega
  have HB := hide hb2
  have HK1 : Hid (Kp [] w (w.alloc (.cells #[.int .i64 n, .slice a m c] 68))) := (Kp.refl [] w).alloc _
  clear hb hb2 hS hm
  by_cases h0 : 0 ≤ n
  · by_cases h1 : n ≤ 256
    · have HE : Hid (b = ((m : Int) == 32)) := hide (by rw [unhide HB]; simp [h0, h1])
      clear HB
      go_enter Tryz.func81, Tryz.ntmps81
      go_wp2_with fail
      go_ret
      exact ⟨by rw [unhide HE]; rfl, unhide HK1⟩
    · have HE : Hid (b = false) := hide (by rw [unhide HB]; simp [h1])
      clear HB
      go_enter Tryz.func81, Tryz.ntmps81
      go_wp2_with fail
      go_ret
      exact ⟨by rw [unhide HE]; rfl, unhide HK1⟩
  · have HE : Hid (b = false) := hide (by rw [unhide HB]; simp [h0])
    clear HB
    go_enter Tryz.func81, Tryz.ntmps81
    go_wp2_with fail
    go_ret
    exact ⟨by rw [unhide HE]; rfl, unhide HK1⟩
end Go.Proofs.YtillhpgdlmeajaaGreatDoor

/-
  Chapter 10 as plain functions: checkpoints that are right, their bodies, what is laid down of signed ones, what is read.
-/
namespace Go.Proofs.YtillhpgdlmeajaaGreatDoor
open Go.RowKit
open Go.Proofs
def sg0 : Sg := ⟨0, [], 0, [], []⟩
end Go.Proofs.YtillhpgdlmeajaaGreatDoor

/-
  Checkpoints (api.Checkpoint) and signed ones (api.Signed) as values and in memory.
-/
namespace Go.Proofs.YtillhpgdlmeajaaGreatDoor
open Go.RowKit
open Go.Proofs
theorem sgd0_v (w : World) : SgV w sgd0 sg0 := ⟨none, 0, 0, _, _, rfl, ⟨Sl.nil w, fun b hb => by cases hb⟩, sig0_v w⟩
end Go.Proofs.YtillhpgdlmeajaaGreatDoor

/-
  Chapter 6 as plain functions: where a row of leaves is parted, leaves, nodes, the root.
-/
namespace Go.Proofs.YtillhpgdlmeajaaGreatDoor
theorem tsplP_of {n j : Nat} (h1 : 2 ^ j < n) (h2 : n ≤ 2 * 2 ^ j) : tsplP n = 2 ^ j := by
  have hp : 1 ≤ 2 ^ j := Nat.one_le_two_pow
  rw [tsplP_more (by omega)]
  congr 1
  exact (Nat.log2_eq_iff (by omega)).2 ⟨by omega, by rw [Nat.pow_succ]; omega⟩
end Go.Proofs.YtillhpgdlmeajaaGreatDoor

/-
  Lists of slices with the room behind them told: how they are cut.
-/
namespace Go.Proofs.YtillhpgdlmeajaaGreatDoor
open Go.RowKit
theorem Acc.lc {w wr : World} {ls : List (List Int)} {v : Value} (h : Acc w ls v wr) (hl : ls.length ≤ 1000) : ∃ l, Lc wr v l ∧ l.map (·.2) = ls := by
  obtain ⟨l, h1, h2, _⟩ := h
  exact ⟨l, lc_of_owns h1.1 (h1.lists (by rw [← List.length_map (f := (·.2)), h2]; exact hl)), h2⟩
theorem FewAt.lc {w wr : World} {l : List (Value × List Int)} {most k : Nat} {o : Value} (h : FewAt w wr l most k o) (hB : ∀ x ∈ l, Bs x.2) (hk : k ≤ 1000) : ∃ l', Lc wr o l' ∧ l'.map (·.2) = (l.take k).map fun x => x.2.take most := by
  obtain ⟨l1, h1, e1⟩ := h.lists hB hk
  refine ⟨l1, ?_, e1⟩
  obtain ⟨l', rfl, ho, hK, hS, he⟩ := h
  have hll : l1.length = l'.length := by rw [← List.length_map (f := (·.2)), e1, ← he]; simp
  refine ⟨h1, ?_⟩
  rcases ho.2 with ⟨rfl, h0⟩ | ⟨g, cap, cur, rfl, _, hg, hc, hm, _⟩
  · exact ⟨none, 0, by rw [hll, h0], by omega, by simp, fun _ => rfl⟩
  · exact ⟨some ⟨g, 0, none⟩, cap, by rw [hll], by omega, hm, fun h => by cases h⟩
end Go.Proofs.YtillhpgdlmeajaaGreatDoor

/-
  The contracts of Leaf and Node, of the program and of the reference.
-/
namespace Go.Proofs.YtillhpgdlmeajaaGreatDoor
open Go.RowKit
set_option maxRecDepth 100000 in
set_option maxHeartbeats 1000000 in
theorem rleaf_any (v : Value) (bs : List Int) (r : List Int) (hr : r = tleafP bs) (w : World) (hS : Sl w v bs) (hB : Bs bs) (hl : bs.length ≤ 1000000) :
    Calls Tryz.prog 72 #[v] w fun e w' => ∃ ao m c, e = .returned (.slice ao m c) ∧ Row w' w.heap.size (.slice ao m c) r ∧ Kp [] w w' := by
  have HL := lists1 hS hB
  have HK := hide ((Kp.refl [] w).alloc (.cells #[v] 22))
  have HC := hide (reftagged_any 0 _ _ r (by rw [hr, cat1]; rfl) _ HL (by omega) (by omega) (by simp) (small1 hl))
  rw [show (w.alloc (.cells #[v] 22)).heap.size = w.heap.size + 1 by simp] at HC
  obtain ⟨ab, cb, hvb, _⟩ := hS
  obtain ⟨nb, hnb⟩ : ∃ n, n = bs.length := ⟨_, rfl⟩
  rw [← hnb] at hvb
  subst hvb
  clear hr hB hl HL hnb
  go_enter Tryz.func72, Tryz.ntmps72
  go_wp2_with fail
  refine (unhide HC).mono ?_
  rintro ee w2 ⟨ao2, m2, c2, rfl, R2, K2⟩
  have HR2 : Hid (Row w2 w.heap.size (.slice ao2 m2 c2) r) := owns_rebase R2 (fun i hi => by have := Row.own R2 i hi; omega)
  have HK2 := hide ((unhide HK).trans K2)
  clear HC HK R2 K2
  go_wp2_with fail
  go_ret
  exact ⟨ao2, m2, c2, rfl, unhide HR2, unhide HK2⟩
set_option maxRecDepth 100000 in
set_option maxHeartbeats 1000000 in
theorem rnode_any (v u : Value) (bs cs : List Int) (r : List Int) (hr : r = tnodeP bs cs) (w : World) (hS : Sl w v bs) (hB : Bs bs) (hl : bs.length ≤ 1000000) (hT : Sl w u cs) (hC : Bs cs) (hm : cs.length ≤ 1000000) :
    Calls Tryz.prog 71 #[v, u] w fun e w' => ∃ ao m c, e = .returned (.slice ao m c) ∧ Row w' w.heap.size (.slice ao m c) r ∧ Kp [] w w' := by
  have HL := lists2 hS hB hT hC
  have HK := hide ((Kp.refl [] w).alloc (.cells #[v, u] 22))
  have HC := hide (reftagged_any 1 _ _ r (by rw [hr, cat2]; rfl) _ HL (by omega) (by omega) (by simp) (small2 hl hm))
  rw [show (w.alloc (.cells #[v, u] 22)).heap.size = w.heap.size + 1 by simp] at HC
  obtain ⟨ab, cb, hvb, _⟩ := hS
  obtain ⟨nb, hnb⟩ : ∃ n, n = bs.length := ⟨_, rfl⟩
  rw [← hnb] at hvb
  subst hvb
  obtain ⟨ad, cd, hvd, _⟩ := hT
  obtain ⟨nd, hnd⟩ : ∃ n, n = cs.length := ⟨_, rfl⟩
  rw [← hnd] at hvd
  subst hvd
  clear hr hB hl hC hm HL hnb hnd
  go_enter Tryz.func71, Tryz.ntmps71
  go_wp2_with fail
  refine (unhide HC).mono ?_
  rintro ee w2 ⟨ao2, m2, c2, rfl, R2, K2⟩
  have HR2 : Hid (Row w2 w.heap.size (.slice ao2 m2 c2) r) := owns_rebase R2 (fun i hi => by have := Row.own R2 i hi; omega)
  have HK2 := hide ((unhide HK).trans K2)
  clear HC HK R2 K2
  go_wp2_with fail
  go_ret
  exact ⟨ao2, m2, c2, rfl, unhide HR2, unhide HK2⟩
end Go.Proofs.YtillhpgdlmeajaaGreatDoor
