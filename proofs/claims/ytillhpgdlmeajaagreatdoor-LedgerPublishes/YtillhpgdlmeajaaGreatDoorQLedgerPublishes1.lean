/-
  What chapter 4 fixes, as plain functions of lists of numbers.
-/
import Derived.Test.YtillhpgdlmeajaaGreatDoorQB1
import Derived.Below
import Derived.ChangeOld
import Derived.Deep.Slices
import Derived.LaidMore
import Derived.Lib.LaidTab
import Derived.Lib.SmallJoins
import Derived.OpenShut
import Derived.ProofKit
import Derived.ShutString
import Derived.Stop.Joined
import Derived.Test.YtillhpgdlmeajaaGreatDoorRows
import Derived.Test.YtillhpgdlmeajaaGreatDoorQB2
import Derived.Test.YtillhpgdlmeajaaGreatDoorQB4
import Derived.Test.YtillhpgdlmeajaaGreatDoorQB3
import Derived.Test.YtillhpgdlmeajaaGreatDoorQB5
import Derived.Deep.AppendSrc
import Derived.Deep.RegionHeld3
import Derived.Test.YtillhpgdlmeajaaGreatDoorQB6
import Derived.Deep.LoopGhost
import Derived.Test.YtillhpgdlmeajaaGreatDoorQB7
namespace Go.Proofs.YtillhpgdlmeajaaGreatDoor
open Go.RowKit
/-- a part as Root takes it. -/
def rtP (d : Int) (i : Nat) (x : List Int) : List Int := if digC d (i / 2) (i % 2) then sha (11 :: x) else x
def rtsP (d : Int) (l : List (List Int)) : List (List Int) := l.mapIdx (rtP d)
def rootP (d : Int) (l : List (List Int)) : List Int := sha (12 :: (rtsP d l).flatten)
theorem rtsP_sgn (seed : List Int) (key d : Int) : rtsP d (sgnP seed key d) = ptsP seed key noneC 64 := by
  unfold rtsP sgnP ptsP
  apply List.ext_getElem
  · simp
  · intro i h1 h2
    simp only [List.getElem_mapIdx, List.getElem_map, List.getElem_range]
    unfold rtP ptP noneC
    by_cases h : digC d (i / 2) (i % 2)
    · simp [h, shnP]
    · simp [h]
theorem rootP_sgn (seed : List Int) (key d : Int) : rootP d (sgnP seed key d) = pubP seed key := by
  unfold rootP pubP
  rw [rtsP_sgn]
theorem or_nat (k x y : Nat) (hy : y < 2 ^ k) (hx : 2 ^ k * x + y < 4294967296) : bits .or .u32 ((2 ^ k * x : Nat) : Int) (y : Int) = ((2 ^ k * x + y : Nat) : Int) := by
  have e1 : (BitVec.ofInt 32 ((2 ^ k * x : Nat) : Int)).toNat = 2 ^ k * x := by
    rw [BitVec.ofInt_natCast, BitVec.toNat_ofNat]; exact Nat.mod_eq_of_lt (by omega)
  have e2 : (BitVec.ofInt 32 (y : Int)).toNat = y := by
    rw [BitVec.ofInt_natCast, BitVec.toNat_ofNat]; exact Nat.mod_eq_of_lt (by omega)
  show IntKind.u32.wrap ((BitVec.ofInt 32 ((2 ^ k * x : Nat) : Int) ||| BitVec.ofInt 32 (y : Int)).toNat : Int) = _
  rw [BitVec.toNat_or, e1, e2, ← Nat.two_pow_add_eq_or_of_lt hy x]
  obtain ⟨z, hz⟩ : ∃ z, z = 2 ^ k * x + y := ⟨_, rfl⟩
  rw [← hz] at hx ⊢
  simp [IntKind.wrap, IntKind.signed, IntKind.bits]
  omega
theorem val4 (a b c d : Int) : val [a, b, c, d] = a * 16777216 + b * 65536 + c * 256 + d := by simp [val]; omega
theorem wd_val (a b c d : Int) (ha : 0 ≤ a ∧ a ≤ 255) (hb : 0 ≤ b ∧ b ≤ 255) (hc : 0 ≤ c ∧ c ≤ 255) (hd : 0 ≤ d ∧ d ≤ 255) : wd a b c d = val [a, b, c, d] := by
  obtain ⟨x, rfl⟩ := Int.eq_ofNat_of_zero_le ha.1
  obtain ⟨y, rfl⟩ := Int.eq_ofNat_of_zero_le hb.1
  obtain ⟨z, rfl⟩ := Int.eq_ofNat_of_zero_le hc.1
  obtain ⟨u, rfl⟩ := Int.eq_ofNat_of_zero_le hd.1
  rw [val4]
  unfold wd
  have e1 := or_nat 24 x (y * 65536) (by omega) (by omega)
  have e2 := or_nat 16 (x * 256 + y) (z * 256) (by omega) (by omega)
  have e3 := or_nat 8 (x * 65536 + y * 256 + z) u (by omega) (by omega)
  rw [show ((x : Int) * 16777216) = ((2 ^ 24 * x : Nat) : Int) by omega, show ((y : Int) * 65536) = ((y * 65536 : Nat) : Int) by omega, e1,
    show ((2 ^ 24 * x + y * 65536 : Nat) : Int) = ((2 ^ 16 * (x * 256 + y) : Nat) : Int) by omega, show ((z : Int) * 256) = ((z * 256 : Nat) : Int) by omega, e2,
    show ((2 ^ 16 * (x * 256 + y) + z * 256 : Nat) : Int) = ((2 ^ 8 * (x * 65536 + y * 256 + z) : Nat) : Int) by omega, e3]
  omega
end Go.Proofs.YtillhpgdlmeajaaGreatDoor

/-
  Helpers of the laws: Cut, Within; how an argument that is a row of bytes is read; what the laid table gives.
-/
namespace Go.Proofs.YtillhpgdlmeajaaGreatDoor
open Go.ChangeShapes Go.WideShapes Go.ChangeAt Go.RowKit
open Go.Deep
section
variable {H : Type} {enc : TypeId × Value → H} {w : World}
end
theorem laidOut : laidOutB Tryz.prog = true := by kernel_rfl
end Go.Proofs.YtillhpgdlmeajaaGreatDoor

/-
  Slices of ints, and rows of slices that a call owns.
-/
namespace Go.Proofs.YtillhpgdlmeajaaGreatDoor
open Go.ChangeShapes Go.WideShapes Go.ChangeAt Go.RowKit
open Go.Deep
section
variable {H : Type} {enc : TypeId × Value → H} {w : World}
theorem ints_of_trod {v : Value} {fuel : Nat} {x : DataW H × List MemPlace} (h : DataW.trod enc Tryz.prog w 0 (fun _ => true) true fuel 35 [v] = some x) : ∃ l, Ints w v l := by
  rcases open_ints Tryz.underlying35 Tryz.underlying3 (by kernel_rfl) h with ⟨hcs, _⟩ | ⟨a, len, cap, zs, hcs, _, hl, hm, hz, _, hcell, hwz⟩
  · simp only [List.cons.injEq, and_true] at hcs
    subst hcs
    exact ⟨[], none, 0, rfl, by simp [maxLen], (fun x hx => by cases hx), fun i hi => by cases hi⟩
  · simp only [List.cons.injEq, and_true] at hcs
    subst hcs
    simp only [if_true] at hz
    have hlen : (zs.take len).length = len := by simp; omega
    refine ⟨zs.take len, some a, cap, by rw [hlen], by omega, fun b hb => bounds_i64 (hwz b (List.mem_of_mem_take hb)), fun i hi => ⟨a, rfl, ?_⟩⟩
    rw [hcell i (by omega)]
    have : i < zs.length := by omega
    simp [List.getD, List.getElem?_eq_getElem this]
end
end Go.Proofs.YtillhpgdlmeajaaGreatDoor

/-
  Plain facts on the four bytes of a number: they make the number, and they stand in order as the numbers do.
-/
namespace Go.Proofs.YtillhpgdlmeajaaGreatDoor
open Go.RowKit
theorem toNat_of (x : Int) (h0 : 0 ≤ x) (h1 : x ≤ 255) : ((UInt8.ofNat x.toNat).toNat : Int) = x := by
  simp; omega
theorem str_toList (bs : List Int) : (strOfNums bs).toList = bs.map fun n => UInt8.ofNat n.toNat := by
  rw [ByteArray.toList_eq]; rfl
theorem of_eq (x y : Int) (hx : 0 ≤ x ∧ x ≤ 255) (hy : 0 ≤ y ∧ y ≤ 255) : (UInt8.ofNat x.toNat = UInt8.ofNat y.toNat) ↔ x = y := by
  constructor
  · intro h
    have := toNat_of x hx.1 hx.2
    have := toNat_of y hy.1 hy.2
    rw [h] at *
    omega
  · intro h; rw [h]
theorem str_inj (bs cs : List Int) (hb : Bs bs) (hc : Bs cs) (h : (strOfNums bs).toList = (strOfNums cs).toList) : bs = cs := by
  rw [str_toList, str_toList] at h
  induction bs generalizing cs with
  | nil => cases cs with
    | nil => rfl
    | cons c cs => simp at h
  | cons b bs ih => cases cs with
    | nil => simp at h
    | cons c cs =>
      simp only [List.map_cons, List.cons.injEq] at h
      rw [(of_eq b c (hb b (by simp)) (hc c (by simp))).1 h.1, ih cs (fun x hx => hb x (by simp [hx])) (fun x hx => hc x (by simp [hx])) h.2]
theorem str_beq (bs cs : List Int) (hb : Bs bs) (hc : Bs cs) : ((strOfNums bs).toList == (strOfNums cs).toList) = decide (bs = cs) := by
  rw [Bool.eq_iff_iff]
  simp only [beq_iff_eq, decide_eq_true_eq]
  exact ⟨str_inj bs cs hb hc, fun h => by rw [h]⟩
end Go.Proofs.YtillhpgdlmeajaaGreatDoor

/-
  The contracts of package wire's reader for every call, by one plain function of what is left: Raw, Byte, Num, Bytes, Left; and of the helpers Cut and Within.
-/
namespace Go.Proofs.YtillhpgdlmeajaaGreatDoor
open Go.RowKit
/-- a bad reader has nothing left. -/
def St (s : Bool × List Int) : Prop := s.1 = true → s.2 = []
end Go.Proofs.YtillhpgdlmeajaaGreatDoor

/-
  The contract of the reference's Digest.
-/
namespace Go.Proofs.YtillhpgdlmeajaaGreatDoor
open Go.RowKit
set_option maxRecDepth 100000 in
set_option maxHeartbeats 1000000 in
theorem refdigest_any (vb : Value) (bs : List Int) (d : Int) (hd : d = digP bs) (w : World) (hS : Sl w vb bs) (hB : Bs bs) (hl : bs.length ≤ 1000000) :
    Calls Tryz.prog 150 #[vb] w fun e w' => e = .returned (.int .u32 d) ∧ Kp [] w w' := by
  have HL := hide (lists1 hS hB)
  obtain ⟨ab, cb, hvb, _⟩ := hS
  obtain ⟨nb, hnb⟩ : ∃ n, n = bs.length := ⟨_, rfl⟩
  rw [← hnb] at hvb
  subst hvb
  obtain ⟨r, hr⟩ : ∃ r, r = sha (13 :: cat [(Value.slice ab nb cb, bs)]) := ⟨_, rfl⟩
  have HR := hide hr
  have HRL : Hid (r.length = 32) := by rw [hr]; exact sha_len _
  have HRB : Bs r := by rw [hr]; exact sha_bs _
  have HRD : d = val (r.take 4) := by rw [hr, hd, cat1]; rfl
  obtain ⟨x0, x1, x2, x3, tl, hrx⟩ : ∃ x0 x1 x2 x3 tl, r = x0 :: x1 :: x2 :: x3 :: tl := by
    match r, unhide HRL with
    | x0 :: x1 :: x2 :: x3 :: tl, _ => exact ⟨_, _, _, _, _, rfl⟩
  have b0 : 0 ≤ x0 ∧ x0 ≤ 255 := HRB x0 (by simp [hrx])
  have b1 : 0 ≤ x1 ∧ x1 ≤ 255 := HRB x1 (by simp [hrx])
  have b2 : 0 ≤ x2 ∧ x2 ≤ 255 := HRB x2 (by simp [hrx])
  have b3 : 0 ≤ x3 ∧ x3 ≤ 255 := HRB x3 (by simp [hrx])
  have HW : Hid (wd x0 x1 x2 x3 = d) := by rw [wd_val _ _ _ _ b0 b1 b2 b3, HRD, hrx]; rfl
  have HX := hide hrx
  obtain ⟨y0, y0'⟩ := b0
  obtain ⟨y1, y1'⟩ := b1
  obtain ⟨y2, y2'⟩ := b2
  obtain ⟨y3, y3'⟩ := b3
  clear hd hr hnb hB HRB HRD hrx
  go_enter Tryz.func150, Tryz.ntmps150
  go_wp2_with (go_at_call 40; refine (reftagged_any 13 _ _ r (unhide HR) _ (unhide HL) (by omega) (by omega) (by simp) (by simpa using hl)).mono ?_; rintro ee w2 ⟨ao2, m2, c2, rfl, R2, K2⟩; obtain rfl : m2 = 32 := R2.len.trans (unhide HRL))
  obtain ⟨b2, o2, rfl, hnn, hcell⟩ := R2.sl.spot (by omega)
  clear hnn
  have HK := hide (((Kp.refl [] w).alloc (.cells #[.slice ab nb cb] 22)).trans K2)
  have hq : ∀ k x, (x0 :: x1 :: x2 :: x3 :: tl)[k]? = some x → w2.cell? ⟨b2, o2 + k, none⟩ = some (.int .u8 x) := fun k x hx => by
    have e := unhide HX
    have hk : k < r.length := by rw [e]; exact (List.getElem?_eq_some_iff.1 hx).1
    rw [hcell k hk]
    have : r[k] = x := by
      have h1 : r[k]? = some x := by rw [e]; exact hx
      rw [List.getElem?_eq_getElem hk] at h1
      exact Option.some.inj h1
    rw [this]
  have q0 := hq 0 x0 rfl
  have q1 := hq 1 x1 rfl
  have q2 := hq 2 x2 rfl
  have q3 := hq 3 x3 rfl
  rw [Nat.add_zero] at q0
  clear R2 K2 hcell HL HR HX HRL hq
  go_quiet (fail)
  go_wp2_with fail
  go_ret
  exact ⟨congrArg (fun x => Ending.returned (Value.int .u32 x)) (unhide HW), (unhide HK).trans (kp_drewN _ _)⟩
end Go.Proofs.YtillhpgdlmeajaaGreatDoor

/-
  The contract of the program's areHashes; plain facts on what Root makes of parts.
-/
namespace Go.Proofs.YtillhpgdlmeajaaGreatDoor
open Go.RowKit
theorem areP_bad {ls : List (List Int)} (k : Nat) (h : k < ls.length) (hb : ls[k].length ≠ 32) : areP ls = false := by
  unfold areP
  have : ls.all (fun x => x.length == 32) = false := by
    rw [List.all_eq_false]
    exact ⟨ls[k], List.getElem_mem h, by simpa using hb⟩
  rw [this, Bool.and_false]
theorem areP_good {ls : List (List Int)} (h : ls.length = 64) (hb : ∀ i (h : i < ls.length), ls[i].length = 32) : areP ls = true := by
  unfold areP
  rw [Bool.and_eq_true]
  refine ⟨by simp [h], List.all_eq_true.2 (fun x hx => ?_)⟩
  obtain ⟨i, hi, rfl⟩ := List.getElem_of_mem hx
  simp [hb i hi]
theorem areP_short {ls : List (List Int)} (h : ls.length ≠ 64) : areP ls = false := by
  unfold areP
  simp [h]
theorem rtsP_len (d : Int) (ls : List (List Int)) : (rtsP d ls).length = ls.length := by simp [rtsP]
end Go.Proofs.YtillhpgdlmeajaaGreatDoor

/-
  The contract of the program's Root.
-/
namespace Go.Proofs.YtillhpgdlmeajaaGreatDoor
open Go.RowKit
/-- what Root answers. -/
def Rooted (b : Bool) (r : List Int) (base : Nat) (v : Value) (w : World) : Prop := if b then ∃ ao m c, v = .slice ao m c ∧ Row w base v r else v = .slice none 0 0
end Go.Proofs.YtillhpgdlmeajaaGreatDoor

/-
  Package keys: a box in memory; Open, Take, Next, Left.
-/
namespace Go.Proofs.YtillhpgdlmeajaaGreatDoor
open Go.RowKit
open Go.Proofs
set_option linter.unusedVariables false
section
variable {w0 w w' : World} {p q n k : Nat} {d d' : Dk}
theorem take_used (h : Bx w0 w p d q 16 k) : Calls Tryz.prog 115 #[.pointer (some ⟨q, 0, none⟩)] w fun e w' => e = .returned (.tuple #[.int .i64 0, .int .i64 23]) ∧ w' = w := by
  obtain ⟨v, j, m, -, -, h, -⟩ := h
  have hc := h.c1
  clear h
  go_enter Tryz.func115, Tryz.ntmps115
  go_wp2_with fail
  go_ret2
  exact ⟨rfl, rfl⟩
end
end Go.Proofs.YtillhpgdlmeajaaGreatDoor

/-
  The contracts of Right of a checkpoint: package check's, and the reference's.
-/
namespace Go.Proofs.YtillhpgdlmeajaaGreatDoor
open Go.RowKit
open Go.Proofs
set_option maxRecDepth 100000 in
set_option maxHeartbeats 1000000 in
theorem rckright_any (v : Value) (n : Int) (r : List Int) (b : Bool) (hb : b = rgtC n r) (w : World) (hV : CkV w v n r) :
    Calls Tryz.prog 81 #[v] w fun e w' => e = .returned (.bool b) ∧ Kp [] w w' := by
  obtain ⟨a, m, c, rfl, hS, -⟩ := hV
  have hm := sl_nlenf hS
  have hb2 : b = (decide (0 ≤ n ∧ n ≤ 256) && ((m : Int) == 32)) := by
    rw [hb, hm]
    unfold rgtC
    congr 1
    rw [Bool.eq_iff_iff]
    simp only [beq_iff_eq]
    omega
  have HB := hide hb2
  have HK1 : Hid (Kp [] w (w.alloc (.cells #[.int .i64 n, .slice a m c] 68))) := (Kp.refl [] w).alloc _
  clear hb hb2 hS hm
  by_cases h0 : 0 ≤ n
  · by_cases h1 : n ≤ 256
    · have HE : Hid (b = ((m : Int) == 32)) := hide (by rw [unhide HB]; simp [h0, h1])
      clear HB
      go_enter Tryz.func81, Tryz.ntmps81
      go_wp2_with fail
      go_ret
      exact ⟨by rw [unhide HE]; rfl, unhide HK1⟩
    · have HE : Hid (b = false) := hide (by rw [unhide HB]; simp [h1])
      clear HB
      go_enter Tryz.func81, Tryz.ntmps81
      go_wp2_with fail
      go_ret
      exact ⟨by rw [unhide HE]; rfl, unhide HK1⟩
  · have HE : Hid (b = false) := hide (by rw [unhide HB]; simp [h0])
    clear HB
    go_enter Tryz.func81, Tryz.ntmps81
    go_wp2_with fail
    go_ret
    exact ⟨by rw [unhide HE]; rfl, unhide HK1⟩
end Go.Proofs.YtillhpgdlmeajaaGreatDoor

/-
  What chapter 5 fixes, as plain functions of lists of numbers.
-/
namespace Go.Proofs.YtillhpgdlmeajaaGreatDoor
open Go.RowKit
def topP (seed : List Int) : List Int := (lvP seed 4).getD 0 []
/-- what a leaf is led up to. -/
def ledP (x : List Int) (i : Nat) : List (List Int) → List Int
  | [] => x
  | o :: l => ledP (if i % 2 = 0 then nodeP x o else nodeP o x) (i / 2) l
theorem topP_ok (seed : List Int) : (topP seed).length = 32 ∧ Bs (topP seed) := lvP_all seed 4 _ (getD_mem (by rw [lvP_len]; decide))
theorem ledP_snoc (x : List Int) (i : Nat) (l : List (List Int)) (o : List Int) : ledP x i (l ++ [o]) = if i / 2 ^ l.length % 2 = 0 then nodeP (ledP x i l) o else nodeP o (ledP x i l) := by
  induction l generalizing x i with
  | nil => simp [ledP]
  | cons a l ih =>
    rw [List.cons_append, ledP, ih, List.length_cons, Nat.pow_succ, Nat.mul_comm, ← Nat.div_div_eq_div_mul]
    rfl
theorem abvP_at (l : List (List Int)) (j : Nat) (h : j < l.length / 2) : (abvP l).getD j [] = nodeP (l.getD (2 * j) []) (l.getD (2 * j + 1) []) := by
  rw [List.getD_eq_getElem?_getD]
  simp [abvP, List.getElem?_range h]
/-- P5.3: a key's public is led up to the owner's. -/
theorem ledP_top (seed : List Int) (i : Nat) (hi : i < 16) : ∀ n, n ≤ 4 → ledP (pubP seed (i : Nat)) i (pthP seed i n) = (lvP seed n).getD (i / 2 ^ n) [] := by
  intro n
  induction n with
  | zero =>
    intro _
    show pubP seed (i : Nat) = (lvsP seed 16).getD (i / 1) []
    rw [Nat.div_one, List.getD_eq_getElem?_getD]
    simp [lvsP, List.getElem?_range hi]
  | succ n ih =>
    intro hn
    rw [pthP_succ, ledP_snoc, ih (by omega), pthP_len]
    have hd := div_pow_lt hi hn
    have hl := lvP_len seed n
    have e : i / 2 ^ (n + 1) = i / 2 ^ n / 2 := by rw [Nat.pow_succ, Nat.div_div_eq_div_mul]
    have e2 : 16 / 2 ^ (n + 1) = 16 / 2 ^ n / 2 := by rw [Nat.pow_succ, Nat.div_div_eq_div_mul]
    rw [e, e2] at hd
    rw [lvP, e, abvP_at _ _ (by rw [hl]; exact hd)]
    generalize i / 2 ^ n = j at *
    unfold sibP
    by_cases h : j % 2 = 0
    · rw [if_pos h, if_pos h]
      rw [show 2 * (j / 2) = j by omega]
    · rw [if_neg h, if_neg h]
      rw [show 2 * (j / 2) = j - 1 by omega, show j - 1 + 1 = j by omega]
def verP (pub ms : List Int) (i : Int) (ps qs : List (List Int)) : Bool := rgtP i ps qs && decide (ledP (rootP (digP ms) ps) i.toNat qs = pub)
theorem verP_sgn (seed ms : List Int) (i : Nat) (hi : i < 16) : verP (topP seed) ms (i : Int) (sgnP seed (i : Int) (digP ms)) (pthP seed i 4) = true := by
  unfold verP
  rw [rgtP_sgn seed i hi, rootP_sgn]
  have h := ledP_top seed i hi 4 (Nat.le_refl _)
  rw [show i / 2 ^ 4 = 0 by simp; omega] at h
  simp only [Int.toNat_natCast, Bool.true_and, decide_eq_true_eq]
  exact h
end Go.Proofs.YtillhpgdlmeajaaGreatDoor

/-
  The contracts of package sign's pathOf, ledUp and Public.
-/
namespace Go.Proofs.YtillhpgdlmeajaaGreatDoor
open Go.RowKit
open Go.Proofs
theorem led_take (x : List Int) (i : Nat) (ls : List (List Int)) (k : Nat) (h : k < ls.length) : ledP x i (ls.take (k + 1)) = if i / 2 ^ k % 2 = 0 then nodeP (ledP x i (ls.take k)) (ls.getD k []) else nodeP (ls.getD k []) (ledP x i (ls.take k)) := by
  rw [List.take_succ_eq_append_getElem h, ledP_snoc, List.length_take, Nat.min_eq_left (Nat.le_of_lt h)]
  simp [List.getD, h]
theorem ledP_ok (x : List Int) (i : Nat) (ls : List (List Int)) (h0 : x.length ≤ 1000) (h1 : Bs x) : (ledP x i ls).length ≤ 1000 ∧ Bs (ledP x i ls) := by
  induction ls generalizing x i with
  | nil => exact ⟨h0, h1⟩
  | cons o l ih =>
    rw [ledP]
    split
    · exact ih _ _ (by rw [nodeP_len]; omega) (nodeP_bs _ _)
    · exact ih _ _ (by rw [nodeP_len]; omega) (nodeP_bs _ _)
set_option maxRecDepth 100000 in
set_option maxHeartbeats 2000000 in
theorem spublic_any (vb : Value) (bs : List Int) (r : List Int) (hr : r = topP bs) (w : World) (hS : Sl w vb bs) (hB : Bs bs) (hl : bs.length = 32) (hG : Gl w) :
    Calls Tryz.prog 84 #[vb] w fun e w' => ∃ ao m c, e = .returned (.slice ao m c) ∧ Sl w' (.slice ao m c) r ∧ Kp [] w w' := by
  have HS := hide hS
  have HG := hide hG
  have HR := hide hr
  have HI := hide (isSeed_any vb bs w hS hl)
  have HC := hide (leaves_any vb bs w hS hB (by omega) hG)
  obtain ⟨ab, cb, hvb, _⟩ := hS
  obtain ⟨nb, hnb⟩ : ∃ n, n = bs.length := ⟨_, rfl⟩
  rw [← hnb] at hvb
  subst hvb
  clear hG hB hnb hr
  go_enter Tryz.func84, Tryz.ntmps84
  go_wp2_with fail
  refine (unhide HI).mono ?_
  rintro ee w1 ⟨rfl, hw⟩
  subst w1
  go_wp2_with fail
  refine (unhide HC).mono ?_
  rintro ee w2 ⟨a2, m2, c2, rfl, A2⟩
  have HK2 := hide A2.kp
  have HL2 : Hid (∃ l, Lists w2 (.slice a2 m2 c2) l ∧ l.map (·.2) = lvP bs 0) := A2.lists (by rw [lvsP_len]; omega)
  clear HC HI A2
  go_wp2_with fail
  go_loopw [3, 9] (fun lv j wr => ∃ (k m2 c2 : Nat) (a2 : Option Addr), k ≤ 4 ∧ lv = .slice a2 m2 c2 ∧ j = .int .i64 k ∧ (∃ l, Lists wr lv l ∧ l.map (·.2) = lvP bs k) ∧ Kp [] w wr) (fun _ j _ => 4 - (intOf j).toNat)
  case atStart => exact ⟨0, m2, c2, a2, by omega, rfl, rfl, unhide HL2, unhide HK2⟩
  case round =>
    clear HL2 HK2
    obtain ⟨k, m3, c3, a3, hk, rfl, rfl, ⟨l, hL, hle⟩, Kr⟩ := hrel
    have HKr := hide Kr
    by_cases hlt : k < 4
    · have hlt2 : (k : Int) < 4 := by omega
      have HC := hide (above_any (.slice a3 m3 c3) l (lvP bs k) hle (fun x hx => by rw [(lvP_all bs k x hx).1]; omega) wr hL (by have := lv_le bs k; omega) (lv_even bs k hlt) ((unhide HG).kept Kr (by simp)))
      clear hL hle Kr
      go_wp2_with fail
      refine (unhide HC).mono ?_
      rintro ee w6 ⟨a6, m6, c6, rfl, A6⟩
      have HL6 : Hid (∃ l, Lists w6 (.slice a6 m6 c6) l ∧ l.map (·.2) = lvP bs (k + 1)) := A6.lists (by rw [abvP_len]; have := lv_le bs k; omega)
      have HK6 := hide ((unhide HKr).trans A6.kp)
      clear A6 HC
      go_wp2_with fail
      go_roundw
      case rel => exact ⟨k + 1, m6, c6, a6, by omega, rfl, by go_num, unhide HL6, unhide HK6⟩
      case measure => simp [intOf]; omega
    · obtain rfl : k = 4 := by omega
      obtain ⟨b, off, ay, ny, cy, rfl, hc, hSy, hBy⟩ := lists_at hL hle 0 (by rw [lvP_len]; decide)
      have hm3 : m3 = 1 := by
        obtain ⟨ao', c', e, _⟩ := hL
        injection e with _ e2
        rw [e2, ← List.length_map (f := (·.2)), hle, lvP_len]
      subst hm3
      have HSy : Hid (Sl wr (.slice ay ny cy) r) := by rw [unhide HR]; exact hSy
      rw [Nat.add_zero] at hc
      clear hSy hBy hL hle Kr HR
      go_wp2_with fail
      go_ret
      exact ⟨ay, ny, cy, rfl, unhide HSy, unhide HKr⟩
end Go.Proofs.YtillhpgdlmeajaaGreatDoor

/-
  Chapter 10 as plain functions: checkpoints that are right, their bodies, what is laid down of signed ones, what is read.
-/
namespace Go.Proofs.YtillhpgdlmeajaaGreatDoor
open Go.RowKit
open Go.Proofs
def Sg.ver (s : Sg) (pub : List Int) : Bool := rgtC s.n s.r && verP pub (bodC s.n s.r) s.i s.ps s.qs
theorem sgnC_ver (seed : List Int) (i : Nat) (hi : i < 16) (n : Int) (r : List Int) (h : rgtC n r = true) : (sgnC seed i n r).ver (topP seed) = true := by
  simp only [Sg.ver, sgnC, h, verP_sgn seed (bodC n r) i hi, Bool.and_self]
end Go.Proofs.YtillhpgdlmeajaaGreatDoor

/-
  The contracts of the reference's Secret, Shown, Public and Sign.
-/
namespace Go.Proofs.YtillhpgdlmeajaaGreatDoor
open Go.RowKit
theorem row_nil (w : World) (base : Nat) : Row w base (.slice none 0 0) [] := ⟨rfl, .inl ⟨rfl, rfl⟩⟩
end Go.Proofs.YtillhpgdlmeajaaGreatDoor

/-
  The contracts of the reference's owner's Public, and of its Right.
-/
namespace Go.Proofs.YtillhpgdlmeajaaGreatDoor
open Go.RowKit
open Go.Proofs
set_option maxRecDepth 100000 in
set_option maxHeartbeats 2000000 in
theorem refright_any (v : Value) (i : Int) (ps qs : List (List Int)) (b : Bool) (hb : b = rgtP i ps qs) (w : World) (hV : SigV w v i ps qs) (hi : -9223372036854775808 ≤ i ∧ i ≤ 9223372036854775807) :
    Calls Tryz.prog 118 #[v] w fun e w' => e = .returned (.bool b) ∧ Kp [] w w' := by
  obtain ⟨ap, np, cp, aq, nq, cq, lp, lq, rfl, hP, hp, hQ, hq, hnp, hnq⟩ := hV.shape
  obtain ⟨ob, hob⟩ : ∃ o : Obj, o = (.cells #[.int .i64 i, .slice ap np cp, .slice aq nq cq] 70) := ⟨_, rfl⟩
  have K1 : Kp [] w (w.alloc ob) := (Kp.refl [] w).alloc ob
  rw [hob] at K1
  have HK1 := hide K1
  have HBb := hide hb
  have hfalse : ¬ ((0 ≤ i ∧ i < 16) ∧ np = 64 ∧ nq = 4) → b = false := fun h => by
    rw [hb]
    cases hr : rgtP i ps qs with
    | false => rfl
    | true =>
      have := (rgtP_iff i ps qs).1 hr
      exact absurd ⟨this.1, by rw [hnp]; exact this.2.1.1, by rw [hnq]; exact this.2.2.1⟩ h
  have hnpi : (np : Int) = 64 ↔ np = 64 := by omega
  have hnqi : (nq : Int) = 4 ↔ nq = 4 := by omega
  clear hob K1 hV hb
  by_cases h0 : i < 0
  · obtain rfl : b = false := hfalse (by omega)
    clear hP hQ hp hq hnp hnq
    go_enter Tryz.func118, Tryz.ntmps118
    go_wp2_with fail
    go_ret
    exact ⟨rfl, unhide HK1⟩
  · by_cases h16 : 16 ≤ i
    · obtain rfl : b = false := hfalse (by omega)
      clear hP hQ hp hq hnp hnq
      go_enter Tryz.func118, Tryz.ntmps118
      go_wp2_with fail
      go_ret
      exact ⟨rfl, unhide HK1⟩
    · by_cases hn1 : np = 64
      · by_cases hn2 : nq = 4
        · subst hn1
          subst hn2
          obtain ⟨o1, ho1⟩ : ∃ o : Obj, o = (.cells #[.int .i64 i, .slice ap 64 cp, .slice aq 4 cq] 70) := ⟨_, rfl⟩
          obtain ⟨o2, ho2⟩ : ∃ o : Obj, o = (.cells #[.slice ap 64 cp, .slice aq 4 cq] 33) := ⟨_, rfl⟩
          obtain ⟨W, hW⟩ : ∃ W, W = (w.alloc o1).alloc o2 := ⟨_, rfl⟩
          have KW : Kp [] w W := by rw [hW]; exact ((Kp.refl [] w).alloc o1).alloc o2
          have GW : W.heap[w.heap.size + 1]? = some o2 := by rw [hW]; exact heap_alloc2_new w o1 o2
          rw [ho2] at GW
          have c0 : W.cell? ⟨w.heap.size + 1, 0, none⟩ = some (.slice ap 64 cp) := by rw [cell_of_row W (w.heap.size + 1) 0 _ _ _ GW]; rfl
          have c1 : W.cell? ⟨w.heap.size + 1, 1, none⟩ = some (.slice aq 4 cq) := by rw [cell_of_row W (w.heap.size + 1) 1 _ _ _ GW]; rfl
          have HWE : Hid (W = (w.alloc (.cells #[.int .i64 i, .slice ap 64 cp, .slice aq 4 cq] 70)).alloc (.cells #[.slice ap 64 cp, .slice aq 4 cq] 33)) := by rw [hW, ho1, ho2]; exact rfl
          have HP := hide (hP.kept KW)
          have HQ := hide (hQ.kept KW)
          have Hp := hide hp
          have Hq := hide hq
          have HNp := hide hnp
          have HNq := hide hnq
          have HKW := hide KW
          have hbad : ∀ x, (x ∈ ps ∨ x ∈ qs) → x.length ≠ 32 → b = false := fun x hx hne => by
            rw [unhide HBb]
            cases hr : rgtP i ps qs with
            | false => rfl
            | true =>
              have := (rgtP_iff i ps qs).1 hr
              rcases hx with hx | hx
              · exact absurd (this.2.1.2 x hx) hne
              · exact absurd (this.2.2.2 x hx) hne
          have HBAD := hide hbad
          clear hP hQ hp hq hnp hnq ho1 ho2 hW KW GW hbad hfalse
          go_enter Tryz.func118, Tryz.ntmps118
          go_wp2_with fail
          rw [← unhide HWE]
          go_loopw [32] (fun j wr => ∃ s : Nat, s ≤ 2 ∧ j = .int .i64 s ∧ (1 ≤ s → ∀ x ∈ ps, x.length = 32) ∧ (2 ≤ s → ∀ x ∈ qs, x.length = 32) ∧ wr = W) (fun j _ => 2 - (intOf j).toNat)
          case atStart => exact ⟨0, by omega, rfl, by omega, by omega, rfl⟩
          case round =>
            obtain ⟨s, hs, rfl, g1, g2, hw⟩ := hrel
            subst hw
            have H1 := hide g1
            have H2 := hide g2
            clear g1 g2
            rcases (by omega : s = 0 ∨ s = 1 ∨ s = 2) with rfl | rfl | rfl
            · go_wp2_with fail
              go_loopw [5] (fun j wi => ∃ k : Nat, k ≤ 64 ∧ j = .int .i64 k ∧ (∀ x ∈ ps.take k, x.length = 32) ∧ wi = wr) (fun j _ => 64 - (intOf j).toNat)
              case atStart => exact ⟨0, by omega, rfl, by simp, rfl⟩
              case round =>
                obtain ⟨k, hk, rfl, hg, hw⟩ := hrel
                subst hw
                have HGd := hide hg
                clear hg
                by_cases hlt : k < 64
                · have hlt2 : (k : Int) < 64 := by omega
                  have hkl : k < ps.length := by have := unhide HNp; omega
                  obtain ⟨b', off, ay, ny, cy, rfl, hc, hSy, _⟩ := lists_at (unhide HP) (unhide Hp) k hkl
                  have hnl : ny = (ps.getD k []).length := by obtain ⟨_, _, e, _⟩ := hSy; injection e
                  by_cases h32 : ny = 32
                  · subst h32
                    have HG2 : Hid (∀ x ∈ ps.take (k + 1), x.length = 32) := fun x hx => by
                      rw [List.take_succ_eq_append_getElem hkl] at hx
                      rcases List.mem_append.1 hx with h | h
                      · exact unhide HGd x h
                      · obtain rfl : x = ps[k] := by simpa using h
                        have : ps.getD k [] = ps[k] := by simp [List.getD, hkl]
                        rw [← this]; exact hnl.symm
                    clear hSy hnl
                    go_wp2_with fail
                    go_roundw
                    case rel => exact ⟨k + 1, by omega, by go_num, unhide HG2, by trivial⟩
                    case measure => simp [intOf]; omega
                  · have hbf : b = false := unhide HBAD (ps.getD k []) (.inl (getD_mem hkl)) (by rw [← hnl]; exact h32)
                    have hni : ¬ (ny : Int) = 32 := by omega
                    subst hbf
                    clear hSy hnl
                    go_wp2_with fail
                    go_ret
                    exact ⟨rfl, unhide HKW⟩
                · have hk64 : k = 64 := by omega
                  have HA1 : Hid (∀ x ∈ ps, x.length = 32) := by
                    have := unhide HGd
                    rw [List.take_of_length_le (by have := unhide HNp; omega)] at this
                    exact this
                  have hlt2 : ¬ (k : Int) < 64 := by omega
                  clear hk64
                  go_wp2_with fail
                  go_roundw
                  case rel => exact ⟨0 + 1, by omega, by go_num, fun _ => unhide HA1, by omega, by trivial⟩
                  case measure => simp [intOf]
            · go_wp2_with fail
              go_loopw [5] (fun j wi => ∃ k : Nat, k ≤ 4 ∧ j = .int .i64 k ∧ (∀ x ∈ qs.take k, x.length = 32) ∧ wi = wr) (fun j _ => 4 - (intOf j).toNat)
              case atStart => exact ⟨0, by omega, rfl, by simp, rfl⟩
              case round =>
                obtain ⟨k, hk, rfl, hg, hw⟩ := hrel
                subst hw
                have HGd := hide hg
                clear hg
                by_cases hlt : k < 4
                · have hlt2 : (k : Int) < 4 := by omega
                  have hkl : k < qs.length := by have := unhide HNq; omega
                  obtain ⟨b', off, ay, ny, cy, rfl, hc, hSy, _⟩ := lists_at (unhide HQ) (unhide Hq) k hkl
                  have hnl : ny = (qs.getD k []).length := by obtain ⟨_, _, e, _⟩ := hSy; injection e
                  by_cases h32 : ny = 32
                  · subst h32
                    have HG2 : Hid (∀ x ∈ qs.take (k + 1), x.length = 32) := fun x hx => by
                      rw [List.take_succ_eq_append_getElem hkl] at hx
                      rcases List.mem_append.1 hx with h | h
                      · exact unhide HGd x h
                      · obtain rfl : x = qs[k] := by simpa using h
                        have : qs.getD k [] = qs[k] := by simp [List.getD, hkl]
                        rw [← this]; exact hnl.symm
                    clear hSy hnl
                    go_wp2_with fail
                    go_roundw
                    case rel => exact ⟨k + 1, by omega, by go_num, unhide HG2, by trivial⟩
                    case measure => simp [intOf]; omega
                  · have hbf : b = false := unhide HBAD (qs.getD k []) (.inr (getD_mem hkl)) (by rw [← hnl]; exact h32)
                    have hni : ¬ (ny : Int) = 32 := by omega
                    subst hbf
                    clear hSy hnl
                    go_wp2_with fail
                    go_ret
                    exact ⟨rfl, unhide HKW⟩
                · have hk64 : k = 4 := by omega
                  have HA1 : Hid (∀ x ∈ qs, x.length = 32) := by
                    have := unhide HGd
                    rw [List.take_of_length_le (by have := unhide HNq; omega)] at this
                    exact this
                  have hlt2 : ¬ (k : Int) < 4 := by omega
                  clear hk64
                  go_wp2_with fail
                  go_roundw
                  case rel => exact ⟨1 + 1, by omega, by go_num, fun _ => unhide H1 (by omega), fun _ => unhide HA1, by trivial⟩
                  case measure => simp [intOf]
            · have hbt : b = true := by
                rw [unhide HBb]
                exact (rgtP_iff i ps qs).2 ⟨by omega, ⟨(unhide HNp).symm, unhide H1 (by omega)⟩, (unhide HNq).symm, unhide H2 (by omega)⟩
              subst hbt
              go_wp2_with fail
              go_ret
              exact ⟨rfl, unhide HKW⟩
        · obtain rfl : b = false := hfalse (by omega)
          subst hn1
          have hni : ¬ (nq : Int) = 4 := by omega
          clear hP hQ hp hq hnp hnq
          go_enter Tryz.func118, Tryz.ntmps118
          go_wp2_with fail
          go_ret
          exact ⟨rfl, unhide HK1⟩
      · obtain rfl : b = false := hfalse (by omega)
        have hni : ¬ (np : Int) = 64 := by omega
        clear hP hQ hp hq hnp hnq
        go_enter Tryz.func118, Tryz.ntmps118
        go_wp2_with fail
        go_ret
        exact ⟨rfl, unhide HK1⟩
end Go.Proofs.YtillhpgdlmeajaaGreatDoor

/-
  The contracts of package ledger: leaves, Root, Entry, Public, KeysLeft, isSize.
-/
namespace Go.Proofs.YtillhpgdlmeajaaGreatDoor
open Go.RowKit
open Go.Proofs
set_option linter.unusedVariables false
section
variable {w0 w : World} {l pd pk : Nat} {S : LS} {f : Fps}
theorem upublic_any (h : Lg w0 w l pd pk S f) (r : List Int) (hr : r = topP S.seed) (hG : Gl w) :
    Calls Tryz.prog 39 #[.pointer (some ⟨l, 0, none⟩)] w fun e w' => ∃ ao m c, e = .returned (.slice ao m c) ∧ Sl w' (.slice ao m c) r ∧ Kp [] w w' := by
  obtain ⟨j, s, q, vs, pv, h⟩ := h
  have hc := h.at_.c3
  have HZ := hide (spublic_any vs S.seed r hr w h.sd h.sb h.sl hG)
  obtain ⟨av, cv, hvs, -⟩ := h.sd
  obtain ⟨nv, hnv⟩ : ∃ n, n = S.seed.length := ⟨_, rfl⟩
  rw [← hnv] at hvs
  rw [hvs] at hc HZ
  clear h hr hG hvs hnv
  go_enter Tryz.func39, Tryz.ntmps39
  go_wp2_with fail
  refine HZ.out.mono ?_
  rintro ee w1 ⟨a1, m1, c1, rfl, S1, K1⟩
  have HS1 := hide S1
  have HK1 := hide K1
  clear HZ S1 K1
  go_wp2_with fail
  go_ret
  exact ⟨a1, m1, c1, rfl, HS1.out, HK1.out⟩
end
end Go.Proofs.YtillhpgdlmeajaaGreatDoor

/-
  Rows of bytes told by their cells alone, so that a mark behind the last cell (a string that was turned into bytes) does not matter: append onto them.
-/
namespace Go.Proofs.YtillhpgdlmeajaaGreatDoor
open Go.RowKit
theorem append_m (w : World) (base : Nat) (v : Value) (bs : List Int) (vx : Value) (cs : List Int) (ty : TypeId) (h : RowM w base v bs) (hS : Sl w vx cs) (hb : bs.length + cs.length ≤ 140737488355328) (hbase : base ≤ w.heap.size) :
    ∃ ao m c w', (Builtin.append_ #[22, 22] ty #[v, vx]).run Tryz.prog w = .ok (.slice ao m c) w' ∧ RowM w' base (.slice ao m c) (bs ++ cs) ∧ RStep w v w' (.slice ao m c) := by
  obtain ⟨i0, hi0, hz0, hz1, hz2⟩ := info_parts Tryz.info5
  obtain ⟨g, cap, rfl, h0, hg, h1, h2, h3, h4⟩ := h
  obtain ⟨ax, cx, rfl, x1, x2, x3, x4⟩ := hS
  have hsrc : Src Tryz.prog i0.size 22 (.slice ax cs.length cx) cs.length (cs.map (Value.int .u8)) w := by
    cases ax with
    | none =>
      have e : cs = [] := List.eq_nil_of_length_eq_zero (by have := x3 rfl; omega)
      subst e
      exact Src.ofNil w Tryz.underlying22 cx
    | some ad => exact Src.ofSlice w Tryz.underlying22 ad cs.length cx _ (by simp [hz1]) (x4 ad rfl) (by simp [Value.oneCell'])
  by_cases hfit : bs.length + cs.length ≤ cap
  · have hsome : ∀ j, j < (cs.map (Value.int .u8)).length → (w.cell? ⟨g, 0 + bs.length * i0.size + j, none⟩).isSome = true := fun j hj => by
      rw [hz1, Nat.mul_one, Nat.zero_add]; rw [List.length_map] at hj; exact (h4 _ (by omega)).1
    have hrun := run_append_room_src (P := Tryz.prog) w 22 22 ty 5 i0 Tryz.underlying22 hi0 g 0 bs.length cap _ cs.length _ hsrc hfit hsome (fun j hj => by
      rw [hz1, Nat.mul_one, Nat.zero_add]; rw [List.length_map] at hj; exact (h4 _ (by omega)).2)
    rw [hz1, Nat.mul_one, Nat.zero_add] at hrun
    simp only [hz1, Nat.mul_one, Nat.zero_add] at hsome
    have K := kp_fcells w g (cs.map (Value.int .u8)) bs.length w (Kp.refl _ _)
    refine ⟨_, _, _, _, hrun, ⟨g, cap, by rw [List.length_append], h0, Nat.lt_of_lt_of_le hg K.size, by rw [List.length_append]; exact hfit, h2, fun j u hu => ?_, fun j hj => ⟨?_, ?_⟩⟩, K, fun k hk => .inl hk⟩
    · by_cases hj : j < bs.length
      · rw [World.cell?_setCells_out g _ _ _ _ (fun _ _ => .inl hj)]
        rw [List.map_append, List.getElem?_append_left (by simpa using hj)] at hu
        exact h3 j u hu
      · rw [List.map_append, List.getElem?_append_right (by simpa using Nat.le_of_not_lt hj)] at hu
        have hj2 : j - bs.length < (cs.map (Value.int .u8)).length := by have := (List.getElem?_eq_some_iff.1 hu).1; simpa using this
        have := World.cell?_setCells_in g (cs.map (Value.int .u8)) bs.length w hsome (j - bs.length) hj2
        rw [show bs.length + (j - bs.length) = j by omega] at this
        rw [this, ← hu]
        simp only [List.length_map]
        exact (List.getElem?_eq_getElem hj2).symm
    · by_cases hin : bs.length ≤ j ∧ j < bs.length + (cs.map (Value.int .u8)).length
      · have := World.cell?_setCells_in g (cs.map (Value.int .u8)) bs.length w hsome (j - bs.length) (by omega)
        rw [show bs.length + (j - bs.length) = j by omega] at this
        rw [this]; rfl
      · rw [World.cell?_setCells_out g _ _ _ _ (fun _ _ => by show j < bs.length ∨ bs.length + (cs.map (Value.int .u8)).length ≤ j; omega)]
        exact (h4 j hj).1
    · rw [World.frozen?_setCells]; exact (h4 j hj).2
  · have hold : (Builtin.firstCells i0.size bs.length (.slice (some ⟨g, 0, none⟩) bs.length cap)).run Tryz.prog w.drew = .ok (bs.map (Value.int .u8)).toArray w.drew := by
      refine run_firstCells_some w.drew i0.size bs.length ⟨g, 0, none⟩ bs.length cap (bs.map (Value.int .u8)) (by simp [hz1]) (fun j u hu => ?_)
      rw [Addr.add_lit, Nat.zero_add]
      exact h3 j u hu
    have hrun := run_append_grow_src (P := Tryz.prog) w 22 22 ty 5 i0 (.int .u8 0) Tryz.underlying22 hi0 hz0 (some ⟨g, 0, none⟩) bs.length cap _ hold _ cs.length _ hsrc (by omega) (by omega) (growslice_fits (by omega) (by rw [hz2]; omega))
    have hge := grownCap_ge w (bs.length + cs.length) cap 5
    have hgm := grownCap_le_maxLen w (bs.length + cs.length) cap 5 (by unfold maxLen; omega)
    generalize grownCap w (bs.length + cs.length) cap 5 = gc at hrun hge hgm
    obtain ⟨C, hC⟩ : ∃ C, C = ((bs.map (Value.int .u8) ++ cs.map (Value.int .u8)).toArray ++ Builtin.zeroCells (Value.int .u8 0).cells (gc - (bs.length + cs.length))) := ⟨_, rfl⟩
    have hCs : C.size = gc := by
      rw [hC, Array.size_append, size_zeroCells]
      simp [Value.cells]
      omega
    rw [← hC] at hrun
    have e1 : ∀ j, (w.drew.alloc (.cells C 5)).cell? ⟨w.heap.size, j, none⟩ = C[j]? := fun j => World.cell?_alloc_new w.drew C 5 j
    refine ⟨_, _, _, _, hrun, ⟨w.heap.size, gc, by rw [List.length_append], hbase, by simp, by rw [List.length_append]; exact hge, hgm, fun j u hu => ?_, fun j hj => ⟨?_, World.frozen?_alloc_new w.drew C 5 j⟩⟩, ((kp_drew w).alloc _).mono (by simp), fun k hk => .inr (by cases hk; exact Nat.le_refl _)⟩
    · rw [e1, hC]
      rw [List.map_append] at hu
      have hj := (List.getElem?_eq_some_iff.1 hu).1
      rw [Array.getElem?_append_left (by simpa using hj), List.getElem?_toArray]
      exact hu
    · rw [e1, Array.getElem?_eq_getElem (by omega)]
      rfl
theorem wpList_append_m {w : World} {ops : Array Oper} {rest : List Oper} {o : Oper} {a : Act} {Q : Exit → Act → World → Prop} (hgd : o.guard = none) (s x : Operand)
    (ho : o.op = .call { callee := .builtin .append, args := #[s, x], argTypes := #[22, 22] }) (base : Nat) (v : Value) (bs : List Int) (hs : a.eval s = v) (hrow : RowM w base v bs)
    (vx : Value) (cs : List Int) (hx : a.eval x = vx) (hS : Sl w vx cs) (hb : bs.length + cs.length ≤ 140737488355328) (hbase : base ≤ w.heap.size)
    (h : ∀ ao m c w', RowM w' base (.slice ao m c) (bs ++ cs) → RStep w v w' (.slice ao m c) → wpList Tryz.prog ops Q rest (a.put o.dst (.slice ao m c)) w') : wpList Tryz.prog ops Q (o :: rest) a w := by
  obtain ⟨ao, m, c, w', hr, R, St⟩ := append_m w base v bs vx cs o.type hrow hS hb hbase
  refine wpList_plain hgd fun K hK => ?_
  unfold Oper.wp execOp
  simp only [ho, resolve, invoke, builtin, Sem.run_bind, Sem.run_pure, Result.andThen_ok, List.map_toArray, List.map_cons, List.map_nil, hs, hx, hr]
  exact hK _ _ (h ao m c w' R St)
theorem step_append_m {w : World} {ops : Array Oper} {o : Oper} {a : Act} {K : Act → World → Prop} {Q : Exit → Act → World → Prop} {E : Prop} (hgd : o.guard = none) (s x : Operand)
    (ho : o.op = .call { callee := .builtin .append, args := #[s, x], argTypes := #[22, 22] }) (base : Nat) (v : Value) (bs : List Int) (hs : a.eval s = v) (hrow : RowM w base v bs)
    (vx : Value) (cs : List Int) (hx : a.eval x = vx) (hS : Sl w vx cs) (hb : bs.length + cs.length ≤ 140737488355328) (hbase : base ≤ w.heap.size)
    (h : ∀ ao m c w', RowM w' base (.slice ao m c) (bs ++ cs) → RStep w v w' (.slice ao m c) → K (a.put o.dst (.slice ao m c)) w') : if Region.wanted o (yielded ops a.tmps) = true then Oper.wp Tryz.prog o a w K Q else E := by
  have hw : Region.wanted o (yielded ops a.tmps) = true := by simp [Region.wanted, hgd]
  rw [if_pos hw]
  obtain ⟨ao, m, c, w', hr, R, St⟩ := append_m w base v bs vx cs o.type hrow hS hb hbase
  unfold Oper.wp execOp
  simp only [ho, resolve, invoke, builtin, Sem.run_bind, Sem.run_pure, Result.andThen_ok, List.map_toArray, List.map_cons, List.map_nil, hs, hx, hr]
  exact h ao m c w' R St
/-- a string turned into bytes. -/
theorem conv_m (S : ByteArray) (w : World) (hS : S.size ≤ 1000) : ∃ c w', (convert 9 22 (.string S)).run Tryz.prog w = .ok (.slice (some ⟨w.heap.size, 0, none⟩) S.size c) w' ∧ RowM w' w.heap.size (.slice (some ⟨w.heap.size, 0, none⟩) S.size c) (nums S) ∧ Kp [] w w' := by
  refine ⟨_, _, Lib.run_convert_string_bytes (P := Tryz.prog) w 9 22 5 S Tryz.underlying9 Tryz.underlying22 Tryz.underlying5, ?_, ⟨rfl, rfl, rfl, by rw [Lib.bytesWorld_size]; omega, fun k hk _ => Lib.bytesWorld_at_old w 5 S k hk⟩⟩
  have hge := grownCap_ge w S.size 0 5
  have hgm := grownCap_le_maxLen w S.size 0 5 (by unfold maxLen; omega)
  have hsz : (Lib.bytesCells w 5 S).size = grownCap w S.size 0 5 := by
    unfold Lib.bytesCells
    simp only [Array.size_append, Array.size_map, Array.size_replicate]
    have : S.data.size = S.size := rfl
    omega
  have hblk := Lib.bytesWorld_at_new w 5 S
  refine ⟨w.heap.size, grownCap w S.size 0 5, by rw [nums_len], Nat.le_refl _, by rw [Lib.bytesWorld_size]; omega, by rw [nums_len]; exact hge, hgm, fun j u hu => ?_, fun j hj => ⟨?_, ?_⟩⟩
  · have hj : j < S.size := by have := (List.getElem?_eq_some_iff.1 hu).1; simpa [nums] using this
    rw [Lib.bytesWorld_cell w 5 S j hj, ← hu]
    have hj2 : j < S.data.toList.length := by simpa using hj
    simp [nums, List.getD, List.getElem?_eq_getElem hj2]
  · rw [cell_of_row _ _ j _ _ _ hblk, Array.getElem?_eq_getElem (by omega)]
    rfl
  · simp only [World.frozen?, hblk]
    simp
    omega
end Go.Proofs.YtillhpgdlmeajaaGreatDoor

/-
  The contracts of the reference's body and Body of a checkpoint.
-/
namespace Go.Proofs.YtillhpgdlmeajaaGreatDoor
open Go.RowKit
open Go.Proofs
set_option maxHeartbeats 400000 in
theorem refnum_m (v : Value) (bs : List Int) (n : Int) (base : Nat) (w : World) (h : RowM w base v bs) (hbase : base ≤ w.heap.size) (hb : bs.length ≤ 100000000000) :
    Calls Tryz.prog 49 #[v, .int .u32 n] w fun e w' => ∃ ao m c, e = .returned (.slice ao m c) ∧ RowM w' base (.slice ao m c) (bs ++ be4 n) ∧ RStep w v w' (.slice ao m c) := by
  obtain ⟨cs, hcs⟩ : ∃ cs, cs = be4 n := ⟨_, rfl⟩
  have hl : cs.length = 4 := by rw [hcs]; rfl
  have hsl : Sl (w.alloc (.cells #[.int .u8 (n / 16777216 % 256), .int .u8 (n / 65536 % 256), .int .u8 (n / 256 % 256), .int .u8 (n % 256)] 5)) (.slice (some ⟨w.heap.size, 0, none⟩) 4 4) cs := by
    rw [hcs]; exact Sl.block (cs := [n / 16777216 % 256, n / 65536 % 256, n / 256 % 256, n % 256]) (t := 5) (heap_alloc_new w _) (by simp [maxLen])
  rw [← hcs]
  clear hcs
  go_enter Tryz.func49, Tryz.ntmps49
  go_wp2_with (at_builtin; refine wpList_append_m rfl _ _ rfl base v bs rfl (h.kept ((Kp.refl [] w).alloc _) (by simp)) _ cs rfl hsl (by omega) (by simp; omega) ?_; intro ao m c w1 r1 s1)
  go_ret
  exact ⟨ao, m, c, rfl, r1, s1.after ((Kp.refl [] w).alloc _)⟩
theorem step_callX {P : Program} {ops : Array Oper} {o : Oper} {a : Act} {w : World} {K : Act → World → Prop} {Q : Exit → Act → World → Prop} {E : Prop} {f : FuncId} {fn : Func} {xs : Array Operand} {ats : Array TypeId} (hgd : o.guard = none) (ho : o.op = .call { callee := .value (.func f), args := xs, argTypes := ats }) (hf : P.funcs[f]? = some fn) (hn : (fn.name == "runtime.NumGoroutine") = false) (hb : fn.body.isNone = false)
    (h : Calls P f (xs.map a.eval) w fun e w' => ∃ v, e = .returned v ∧ K (a.put o.dst v) w') : if Region.wanted o (yielded ops a.tmps) = true then Oper.wp P o a w K Q else E := by
  have hw : Region.wanted o (yielded ops a.tmps) = true := by simp [Region.wanted, hgd]
  rw [if_pos hw]
  have e : (execOp a.eval o).run P w = .ok (.enter f (xs.map a.eval)) w := by
    obtain ⟨dst, op, ty, pos, after, guard⟩ := o
    simp only at ho
    subst ho
    rw [execOp_call_go]
    have h1 : fn.name ≠ "runtime.NumGoroutine" := by simpa using hn
    have h2 : ¬ fn.body = none := by intro h2; rw [h2] at hb; cases hb
    simp [callFunc, hf, h1, h2]
  unfold Oper.wp
  rw [e]
  simp only [Oper.upon]
  refine h.mono ?_
  rintro e' w' ⟨v, rfl, hv⟩
  exact hv
set_option maxRecDepth 100000 in
set_option maxHeartbeats 4000000 in
theorem refbody_any (S : ByteArray) (L : List Int) (hL : L = nums S) (hz : S.size ≤ 100) (vc : Value) (n : Int) (r B : List Int) (hB : B = if rgtC n r then L ++ (be4 n ++ r) else []) (w : World) (hC : CkV w vc n r) :
    Calls Tryz.prog 120 #[.string S, vc] w fun e w' => ∃ ao m c, e = .returned (.slice ao m c) ∧ Sl w' (.slice ao m c) B ∧ Kp [] w w' := by
  have HC := hide hC
  obtain ⟨a, m, c, rfl, -, -⟩ := hC
  obtain ⟨g0, hg0⟩ : ∃ g, g = w.heap.size := ⟨_, rfl⟩
  obtain ⟨w1, hw1⟩ : ∃ w1, w1 = w.alloc (.cells #[.int .i64 n, .slice a m c] 68) := ⟨_, rfl⟩
  have K1 : Kp [] w w1 := by rw [hw1]; exact (Kp.refl [] w).alloc _
  have G1 : w1.heap[g0]? = some (.cells #[.int .i64 n, .slice a m c] 68 (0, 0)) := by rw [hw1, hg0]; exact heap_alloc_new w _
  obtain ⟨b, hb⟩ : ∃ b, b = rgtC n r := ⟨_, rfl⟩
  have hl1 := load_whole (T := 68) G1 Tryz.underlying68 rfl Tryz.chkSize
  have HR := hide (rckright_any _ n r b hb w1 ((unhide HC).kept K1))
  rw [hw1, hg0] at hl1
  have HK1 := hide K1
  have HG1 := hide G1
  have HW1 := hide hw1
  have HG0 := hide hg0
  have HBB := hide hB
  have Hb := hide hb
  have HL := hide hL
  have HZ := hide hz
  clear hw1 K1 G1 hB hb hL hz hg0
  cases b
  · go_enter Tryz.func120, Tryz.ntmps120
    go_wp2_with fail
    rw [← unhide HW1]
    refine (unhide HR).mono ?_
    rintro ee w2 ⟨rfl, K2⟩
    have HK2 := hide ((unhide HK1).trans K2)
    clear K2 HR hl1
    go_wp2_with fail
    go_ret
    exact ⟨none, 0, 0, rfl, by rw [unhide HBB, ← unhide Hb]; exact Sl.nil _, unhide HK2⟩
  · have hq := (rgtC_iff n r).1 (unhide Hb).symm
    have hwrap : IntKind.u32.wrap n = n := by simp [IntKind.wrap, IntKind.signed, IntKind.bits]; omega
    have HQ := hide hq
    clear hq
    go_enter Tryz.func120, Tryz.ntmps120
    go_wp2_with fail
    rw [← unhide HW1]
    refine (unhide HR).mono ?_
    rintro ee w2 ⟨rfl, K2⟩
    have HK2 := hide ((unhide HK1).trans K2)
    have HG2 := hide (K2.heap (unhide HG1) (by simp))
    have hc0 : w2.cell? ⟨g0, 0, none⟩ = some (.int .i64 n) := by rw [cell_of_row w2 g0 0 _ _ _ (unhide HG2)]; rfl
    have hc1 : w2.cell? ⟨g0, 1, none⟩ = some (.slice a m c) := by rw [cell_of_row w2 g0 1 _ _ _ (unhide HG2)]; rfl
    have hgs : g0 < w2.heap.size := lt_of_block (unhide HG2)
    have hNA : Hid (∀ W, Kp [] w W → Sl W (.slice a m c) r) := fun W k => by
      obtain ⟨a', m', c', e, h1, _⟩ := (unhide HC).kept k
      simp only [Value.agg.injEq, Array.mk.injEq, List.cons.injEq, and_true, true_and] at e
      rw [e]
      exact h1
    have hsz : Hid ((nums S).length ≤ 100) := by show (nums S).length ≤ 100; rw [nums_len]; exact unhide HZ
    have HKD := hide ((unhide HK2).trans (kp_drew w2))
    obtain ⟨c3, w3, hcv, R3, K3⟩ := conv_m S w2.drew (by have := unhide HZ; omega)
    obtain ⟨m3, hm3⟩ : ∃ m, m = S.size := ⟨_, rfl⟩
    rw [← hm3] at hcv R3
    rw [show w2.drew.heap.size = w2.heap.size from rfl] at hcv R3
    rw [← unhide HG0]
    have hk0 : w3.cell? ⟨g0, 0, none⟩ = some (.int .i64 n) := K3.cell hc0 (by simp)
    have hk1 : w3.cell? ⟨g0, 1, none⟩ = some (.slice a m c) := K3.cell hc1 (by simp)
    clear K2 HR hl1 hm3
    go_wp2_with fail
    go_region_law (first
        | (refine step_callX (by rfl) (by rfl) Tryz.func49 (by kernel_rfl) (by kernel_rfl) ?_; simp only [List.map_toArray, List.map_cons, List.map_nil]; refine (refnum_m _ (nums S) n _ w3 R3 K3.size (by have : (nums S).length ≤ 100 := unhide hsz; omega)).mono ?_; rintro ee w4 ⟨a4, m4, c4, rfl, R4, S4⟩; refine ⟨_, rfl, ?_⟩; have hd1 : w4.cell? ⟨g0, 1, none⟩ = some (.slice a m c) := S4.1.cell hk1 (fun hm => by have := (R3.own g0 (by simpa using hm)).1; omega))
        | (refine step_append_m (by rfl) (.tmp 13) (.tmp 15) (by rfl) _ _ _ (by rfl) R4 _ r (by rfl) (unhide hNA w4 (((unhide HKD).trans K3).then S4.1 (fun i hi => .inr (by have := (R3.own i (by simpa using hi)).1; have := (unhide HK2).size; omega)))) (by have : (nums S).length ≤ 100 := unhide hsz; have := (unhide HQ).2; rw [List.length_append, be4_len]; omega) (Nat.le_trans K3.size S4.1.size) ?_; intro a5 m5 c5 w5 R5 S5))
    all_goals
     go_wp2_with fail
     go_ret
     have K4 : Kp [] w w4 := ((unhide HKD).trans K3).then S4.1 (fun i hi => .inr (by have := (R3.own i (by simpa using hi)).1; have := (unhide HK2).size; omega))
     have K5 : Kp [] w w5 := K4.then S5.1 (fun i hi => .inr (by have := (R4.own i (by simpa using hi)).1; have := (unhide HK2).size; omega))
     refine ⟨a5, m5, c5, rfl, ?_, K5⟩
     have := R5.sl
     rw [unhide HBB, ← unhide Hb, if_pos rfl, unhide HL, ← List.append_assoc]
     exact this
theorem letC_nums : letC = nums ⟨#[98, 114, 111, 97, 100, 115, 104, 101, 101, 116, 32, 99, 104, 101, 99, 107]⟩ := by decide
set_option maxRecDepth 100000 in
set_option maxHeartbeats 1000000 in
theorem rckbody_any (vc : Value) (n : Int) (r B : List Int) (hB : B = bodC n r) (w : World) (hC : CkV w vc n r) :
    Calls Tryz.prog 83 #[vc] w fun e w' => ∃ ao m c, e = .returned (.slice ao m c) ∧ Sl w' (.slice ao m c) B ∧ Kp [] w w' := by
  have HC := hide hC
  obtain ⟨a, m, c, rfl, -, -⟩ := hC
  obtain ⟨w1, hw1⟩ : ∃ w1, w1 = w.alloc (.cells #[.int .i64 n, .slice a m c] 68) := ⟨_, rfl⟩
  have K1 : Kp [] w w1 := by rw [hw1]; exact (Kp.refl [] w).alloc _
  have G1 : w1.heap[w.heap.size]? = some (.cells #[.int .i64 n, .slice a m c] 68 (0, 0)) := by rw [hw1]; exact heap_alloc_new w _
  have hl1 := load_whole (T := 68) G1 Tryz.underlying68 rfl Tryz.chkSize
  have HD := hide (refbody_any ⟨#[98, 114, 111, 97, 100, 115, 104, 101, 101, 116, 32, 99, 104, 101, 99, 107]⟩ letC letC_nums (by decide) _ n r B hB w1 ((unhide HC).kept K1))
  rw [hw1] at hl1
  have HK1 := hide K1
  have HW1 := hide hw1
  clear hw1 K1 G1 hB
  go_enter Tryz.func83, Tryz.ntmps83
  go_wp2_with fail
  rw [← unhide HW1]
  refine (unhide HD).mono ?_
  rintro ee w2 ⟨a2, m2, c2, rfl, S2, K2⟩
  have HK2 := hide ((unhide HK1).trans K2)
  have HS2 := hide S2
  clear K2 S2 HD hl1
  go_wp2_with fail
  go_ret
  exact ⟨a2, m2, c2, rfl, unhide HS2, unhide HK2⟩
end Go.Proofs.YtillhpgdlmeajaaGreatDoor

/-
  The contracts of package ledger: Find, signNow, Publish, Last.
-/
namespace Go.Proofs.YtillhpgdlmeajaaGreatDoor
open Go.RowKit
open Go.Proofs
open Go.Proofs.YtillhpgdlmeajaaGreatDoor.umix
set_option linter.unusedVariables false
section
variable {w0 w : World} {l pd pk : Nat} {S : LS} {f : Fps}
theorem usign_used (h : Lg w0 w l pd pk S f) (hn : S.n = 16) : Calls Tryz.prog 77 #[.pointer (some ⟨l, 0, none⟩)] w fun e w' => e = .returned (.int .i64 23) ∧ w' = w := by
  obtain ⟨j, s, q, vs, pv, hx⟩ := h
  have hc := hx.at_.c2
  have hb := hx.bf.bx
  rw [hn] at hb
  have HT := hide (take_used hb)
  clear hx hb hn
  go_enter Tryz.func77, Tryz.ntmps77
  go_wp2_with fail
  refine HT.out.mono ?_
  rintro ee w1 ⟨rfl, hw⟩
  subst w1
  clear HT
  go_wp2_with fail
  go_ret
  exact ⟨rfl, rfl⟩
set_option maxRecDepth 100000 in
set_option maxHeartbeats 4000000 in
theorem ulast_some (h : Lg w0 w l pd pk S f) (a1 a2 : Nat) (hla : S.la = some (a1, a2)) : Calls Tryz.prog 37 #[.pointer (some ⟨l, 0, none⟩)] w fun e w' => ∃ v, e = .returned (.tuple #[v, .bool true]) ∧ SgU w.heap.size w' v (sgU S.seed S.its (a1, a2)) ∧ Kp [] w w' := by
  obtain ⟨j, s, q, vs, pv, hx⟩ := h
  have hla2 := hx.la
  rw [hla] at hla2
  obtain ⟨hle, ha16, tt, vr, vp, vq, rfl, hFt, hFv, hSF⟩ := hla2
  obtain ⟨ar, mr, cr, ap, np, cp, aq, nq, cq, e2, -, -⟩ := hSF.v.shape
  simp only [Value.agg.injEq, Array.mk.injEq, List.cons.injEq, and_true] at e2
  obtain ⟨-, rfl, -, rfl, rfl⟩ := e2
  obtain ⟨g0, hg⟩ : ∃ g, g = w.heap.size := ⟨_, rfl⟩
  obtain ⟨w1, hw1⟩ : ∃ w1, w1 = w.alloc (.cells #[.int .i64 0, .slice none 0 0, .int .i64 0, .slice none 0 0, .slice none 0 0] 72) := ⟨_, rfl⟩
  have K1 : Kp [] w w1 := by rw [hw1]; exact (Kp.refl [] w).alloc _
  have G0 : w1.heap[g0]? = some (.cells #[.int .i64 0, .slice none 0 0, .int .i64 0, .slice none 0 0, .slice none 0 0] 72 (0, 0)) := by rw [hw1, hg]; exact heap_alloc_new w _
  have hX := hx.on K1
  have hFv5 := hFv.kept K1 (by simp)
  have hV5 := (hSF.kept K1 (by simp)).v
  have hsm := sgU_small S.seed S.its (a1, a2) ha16
  have HK1 := hide K1
  have HGe := hide hg
  have HW1 := hide hw1
  clear hx hla hFv hSF hle hFt K1 hg hw1
  go_enter Tryz.func37, Tryz.ntmps37
  have x0 : (w.alloc (.cells #[.int .i64 0, .slice none 0 0, .int .i64 0, .slice none 0 0, .slice none 0 0] 72)).cell? ⟨tt, 0, none⟩ = some (.int .i64 (a1 : Int)) := by rw [← HW1.out]; exact hFv5.c0
  have x1 : (w.alloc (.cells #[.int .i64 0, .slice none 0 0, .int .i64 0, .slice none 0 0, .slice none 0 0] 72)).cell? ⟨tt, 1, none⟩ = some (.slice ar mr cr) := by rw [← HW1.out]; exact hFv5.c1
  have x2 : (w.alloc (.cells #[.int .i64 0, .slice none 0 0, .int .i64 0, .slice none 0 0, .slice none 0 0] 72)).cell? ⟨tt, 2, none⟩ = some (.int .i64 (a2 : Int)) := by rw [← HW1.out]; exact hFv5.c2
  have x3 : (w.alloc (.cells #[.int .i64 0, .slice none 0 0, .int .i64 0, .slice none 0 0, .slice none 0 0] 72)).cell? ⟨tt, 3, none⟩ = some (.slice ap np cp) := by rw [← HW1.out]; exact hFv5.c3
  have x4 : (w.alloc (.cells #[.int .i64 0, .slice none 0 0, .int .i64 0, .slice none 0 0, .slice none 0 0] 72)).cell? ⟨tt, 4, none⟩ = some (.slice aq nq cq) := by rw [← HW1.out]; exact hFv5.c4
  have y4 : (w.alloc (.cells #[.int .i64 0, .slice none 0 0, .int .i64 0, .slice none 0 0, .slice none 0 0] 72)).cell? ⟨l, 4, none⟩ = some (.pointer (some ⟨tt, 0, none⟩)) := by rw [← HW1.out]; exact hX.at_.c4
  have HC := hide (ucopy_any (.agg #[.int .i64 (a1 : Int), .slice ar mr cr, .int .i64 (a2 : Int), .slice ap np cp, .slice aq nq cq]) _ w1 hV5 hsm)
  have HG0 := hide G0
  have hg0 : g0 < w1.heap.size := lt_of_block G0
  have HX5 := hide hX
  clear hV5 hsm G0 hFv5 hX
  go_wp2_with fail
  rw [← HW1.out, ← HGe.out]
  refine HC.out.mono ?_
  rintro ee w5 ⟨v5, rfl, A5, K5⟩
  obtain ⟨br, kr, dr, bp, kp, dp, bq', kq, dq, rfl, -, -⟩ := A5.v.shape
  have G5 := K5.heap HG0.out (by simp)
  have HA5 := hide A5
  have HK5 := hide K5
  clear HC A5 K5 x0 x1 x2 x3 x4 y4
  go_wp2_with (refine wpList_store_flat rfl 72 (.tmp 2) (.tmp 16) rfl g0 0 rfl _ _ [.int .i64 _, .slice br kr dr, .int .i64 _, .slice bp kp dp, .slice bq' kq dq] G5 rfl (by simp) Tryz.sgdSize (by simp [Value.oneCell']) #[.int .i64 _, .slice br kr dr, .int .i64 _, .slice bp kp dp, .slice bq' kq dq] rfl ?_; intro w6 G6 K6)
  refine bodyPost_ret (results_flat2 rfl _ rfl G6 Tryz.underlying72 rfl Tryz.sgdSize) rfl ?_
  have hA6 := HA5.out.kept (S := [g0]) (by simpa using hg0) K6
  exact ⟨_, rfl, hA6.low HK1.out.size, (HK1.out.trans HK5.out).then K6 (fun i hi => .inr (by simp at hi; have := HGe.out; omega))⟩
set_option maxRecDepth 100000 in
set_option maxHeartbeats 4000000 in
theorem upub_usedN (h : Lg w0 w l pd pk S f) (hla : S.la = none) (hn : S.n = 16) : Calls Tryz.prog 33 #[.pointer (some ⟨l, 0, none⟩)] w fun e w' => e = .returned (.tuple #[sgd0, .int .i64 23]) ∧ Kp [] w w' := by
  obtain ⟨j, s, q, vs, pv, hx⟩ := h
  have hla2 := hx.la
  rw [hla] at hla2
  obtain rfl : pv = .pointer none := hla2
  obtain ⟨av, cv, hvs, -⟩ := hx.sd
  obtain ⟨nv, hnv⟩ : ∃ n, n = S.seed.length := ⟨_, rfl⟩
  rw [← hnv] at hvs
  subst hvs
  obtain ⟨g0, hg⟩ : ∃ g, g = w.heap.size := ⟨_, rfl⟩
  obtain ⟨w1, hw1⟩ : ∃ w1, w1 = w.alloc (.cells #[.int .i64 0, .slice none 0 0, .int .i64 0, .slice none 0 0, .slice none 0 0] 72) := ⟨_, rfl⟩
  have K1 : Kp [] w w1 := by rw [hw1]; exact (Kp.refl [] w).alloc _
  have G0 : w1.heap[g0]? = some (.cells #[.int .i64 0, .slice none 0 0, .int .i64 0, .slice none 0 0, .slice none 0 0] 72 (0, 0)) := by rw [hw1, hg]; exact heap_alloc_new w _
  have hX1 := hx.on K1
  have HD : Hid (∀ w', Kp [] w1.drew w' → Kp [] w1 w') := fun w' k' => (kp_drew w1).trans k'
  have HAt : Hid (∀ w', Kp [] w1.drew w' → Fv 99 w' l (.func (.func 44) #[.pointer (some ⟨j, 0, none⟩)] #[]) (.pointer (some ⟨s, 0, none⟩)) (.pointer (some ⟨q, 0, none⟩)) (.slice av nv cv) (.pointer none)) := fun w' k => hX1.at_.kept (HD.out w' k) (by simp)
  have HX1 := hide hX1
  have HK1 := hide K1
  have HGe := hide hg
  have HW1 := hide hw1
  have HG0 := hide G0
  have HN := hide hn
  clear hn
  clear hx hla K1 hg hw1 hX1 hnv G0
  go_enter Tryz.func33, Tryz.ntmps33
  go_wp2_with fail
  rw [← HW1.out, ← HGe.out]
  refine region_grow Tryz.mixed [Is (.pointer (some ⟨l, 0, none⟩)), Is (.pointer (some ⟨l, 0, none⟩)), Is (.pointer (some ⟨l, 4, none⟩)), Is (.pointer none), Is (.bool true), Is (.bool true), Is (undef), Is (undef), Is (undef), Is (undef), Is (undef), Is (undef), Is (undef), Is (undef), Is (undef), Is (undef), Is (undef), Is (.bool true)] [[(0, none)], [(5, some 0)], [(6, some 1)], [(7, some 2)], [(8, some 3)], [(9, some 4)], [(0, none), (10, some 5)], [(11, some 6), (10, some 5)], [(12, some 7), (10, some 5)], [(13, some 8), (10, some 5)], [(14, some 9), (10, some 5)], [(15, some 10), (10, some 5)], [(16, some 11), (10, some 5)], [(17, some 12), (10, some 5)], [(0, none), (10, some 5)], [(19, some 14), (10, some 5)], [(18, some 13), (20, some 15), (10, some 5)], [(10, some 5), (21, some 16)]] (by kernel_rfl) ?_ ?_ ?_
  · simp only [List.mem_cons, List.not_mem_nil, or_false]
    intro R hR
    rcases hR with rfl | rfl | rfl | rfl | rfl | rfl | rfl | rfl | rfl | rfl | rfl | rfl | rfl | rfl | rfl | rfl | rfl | rfl <;> first | exact stable_is _
  · refine steps_cons (fun a w hk hn => ?_) ?_
    · have h0 : a.eval (.tmp 0) = .pointer (some ⟨l, 0, none⟩) := hn.1
      clear hn
      refine wants_plain rfl ?_
      exact grown_move (.tmp 0) rfl h0
    refine steps_cons (fun a w hk hn => ?_) ?_
    · have h5 : a.eval (.tmp 5) = .pointer (some ⟨l, 0, none⟩) := hn.1
      clear hn
      refine wants_plain rfl ?_
      refine grown_run (v := .pointer (some ⟨l, 0, none⟩)) ?_ (Kp.refl _ _) rfl
      obtain ⟨ρ, hρ, hc, hf, hg⟩ := eval_is a
      rw [hρ] at h5 ⊢
      simp [go_sem, h5]
    refine steps_cons (fun a w hk hn => ?_) ?_
    · have h6 : a.eval (.tmp 6) = .pointer (some ⟨l, 0, none⟩) := hn.1
      clear hn
      refine wants_plain rfl ?_
      refine grown_run (v := .pointer (some ⟨l, 4, none⟩)) ?_ (Kp.refl _ _) rfl
      obtain ⟨ρ, hρ, hc, hf, hg⟩ := eval_is a
      rw [hρ] at h6 ⊢
      simp [go_sem, h6]
    refine steps_cons (fun a w hk hn => ?_) ?_
    · have h7 : a.eval (.tmp 7) = .pointer (some ⟨l, 4, none⟩) := hn.1
      clear hn
      refine wants_plain rfl ?_
      refine grown_run (v := .pointer none) ?_ (Kp.refl _ _) rfl
      have hcell : w.cell? ⟨l, 4, none⟩ = some (.pointer none) := by rw [cell_of_row w l 4 _ _ _ (HAt.out w hk)]; rfl
      obtain ⟨ρ, hρ, hc, hf, hg⟩ := eval_is a
      rw [hρ] at h7 ⊢
      simp [go_sem, h7, hcell]
    refine steps_cons (fun a w hk hn => ?_) ?_
    · have h8 : a.eval (.tmp 8) = .pointer none := hn.1
      clear hn
      refine wants_plain rfl ?_
      refine grown_run (v := .bool true) ?_ (Kp.refl _ _) rfl
      obtain ⟨ρ, hρ, hc, hf, hg⟩ := eval_is a
      rw [hρ] at h8 ⊢
      simp [go_sem, hc, h8]
    refine steps_cons (fun a w hk hn => ?_) ?_
    · have h9 : a.eval (.tmp 9) = .bool true := hn.1
      clear hn
      refine wants_plain rfl ?_
      exact grown_move (.tmp 9) rfl h9
    refine steps_cons (fun a w hk hn => ?_) ?_
    · have h0 : a.eval (.tmp 0) = .pointer (some ⟨l, 0, none⟩) := hn.1
      have h10 : a.eval (.tmp 10) = .bool true := hn.2.1
      clear hn
      exact wants_not (d := 10) rfl rfl h10 rfl
    refine steps_cons (fun a w hk hn => ?_) ?_
    · have h11 : a.eval (.tmp 11) = undef := hn.1
      have h10 : a.eval (.tmp 10) = .bool true := hn.2.1
      clear hn
      exact wants_not (d := 10) rfl rfl h10 rfl
    refine steps_cons (fun a w hk hn => ?_) ?_
    · have h12 : a.eval (.tmp 12) = undef := hn.1
      have h10 : a.eval (.tmp 10) = .bool true := hn.2.1
      clear hn
      exact wants_not (d := 10) rfl rfl h10 rfl
    refine steps_cons (fun a w hk hn => ?_) ?_
    · have h13 : a.eval (.tmp 13) = undef := hn.1
      have h10 : a.eval (.tmp 10) = .bool true := hn.2.1
      clear hn
      exact wants_not (d := 10) rfl rfl h10 rfl
    refine steps_cons (fun a w hk hn => ?_) ?_
    · have h14 : a.eval (.tmp 14) = undef := hn.1
      have h10 : a.eval (.tmp 10) = .bool true := hn.2.1
      clear hn
      exact wants_not (d := 10) rfl rfl h10 rfl
    refine steps_cons (fun a w hk hn => ?_) ?_
    · have h15 : a.eval (.tmp 15) = undef := hn.1
      have h10 : a.eval (.tmp 10) = .bool true := hn.2.1
      clear hn
      exact wants_not (d := 10) rfl rfl h10 rfl
    refine steps_cons (fun a w hk hn => ?_) ?_
    · have h16 : a.eval (.tmp 16) = undef := hn.1
      have h10 : a.eval (.tmp 10) = .bool true := hn.2.1
      clear hn
      exact wants_not (d := 10) rfl rfl h10 rfl
    refine steps_cons (fun a w hk hn => ?_) ?_
    · have h17 : a.eval (.tmp 17) = undef := hn.1
      have h10 : a.eval (.tmp 10) = .bool true := hn.2.1
      clear hn
      exact wants_not (d := 10) rfl rfl h10 rfl
    refine steps_cons (fun a w hk hn => ?_) ?_
    · have h0 : a.eval (.tmp 0) = .pointer (some ⟨l, 0, none⟩) := hn.1
      have h10 : a.eval (.tmp 10) = .bool true := hn.2.1
      clear hn
      exact wants_not (d := 10) rfl rfl h10 rfl
    refine steps_cons (fun a w hk hn => ?_) ?_
    · have h19 : a.eval (.tmp 19) = undef := hn.1
      have h10 : a.eval (.tmp 10) = .bool true := hn.2.1
      clear hn
      exact wants_not (d := 10) rfl rfl h10 rfl
    refine steps_cons (fun a w hk hn => ?_) ?_
    · have h18 : a.eval (.tmp 18) = undef := hn.1
      have h20 : a.eval (.tmp 20) = undef := hn.2.1
      have h10 : a.eval (.tmp 10) = .bool true := hn.2.2.1
      clear hn
      exact wants_not (d := 10) rfl rfl h10 rfl
    refine steps_cons (fun a w hk hn => ?_) ?_
    · have h10 : a.eval (.tmp 10) = .bool true := hn.1
      have h21 : a.eval (.tmp 21) = undef := hn.2.1
      clear hn
      refine wants_plain rfl ?_
      exact grown_pick _ _ _ true rfl h10 rfl
    exact trivial
  intro W1 hkW1
  rintro _ rfl
  rintro _ rfl
  rintro _ rfl
  rintro _ rfl
  rintro _ rfl
  rintro _ rfl
  rintro _ rfl
  rintro _ rfl
  rintro _ rfl
  rintro _ rfl
  rintro _ rfl
  rintro _ rfl
  rintro _ rfl
  rintro _ rfl
  rintro _ rfl
  rintro _ rfl
  rintro _ rfl
  rintro _ rfl
  refine fin_nil ?_
  simp only [Act.put, List.set_cons_zero, List.set_cons_succ, List.setIfInBounds_toArray]
  have K12 := HD.out W1 hkW1
  have HX2 := hide (HX1.out.on K12)
  have HG2 := hide (K12.heap HG0.out (by simp))
  have HK12 := hide (HK1.out.trans K12)
  clear K12 hkW1 HG0
  have HSn := hide (usign_used ⟨j, s, q, _, _, HX2.out⟩ HN.out)
  go_wp2_with fail
  refine HSn.out.mono ?_
  rintro ee w3 ⟨rfl, hw⟩
  subst w3
  have G3 := HG2.out
  clear HSn
  go_wp2_with (refine wpList_store_flat rfl 72 (.tmp 2) (.tmp 27) rfl g0 0 rfl _ _ [.int .i64 0, .slice none 0 0, .int .i64 0, .slice none 0 0, .slice none 0 0] G3 rfl (by simp) Tryz.sgdSize (by simp [Value.oneCell']) #[.int .i64 0, .slice none 0 0, .int .i64 0, .slice none 0 0, .slice none 0 0] rfl ?_; intro w7 G7 K7)
  refine bodyPost_ret (results_flat2 rfl _ rfl G7 Tryz.underlying72 rfl Tryz.sgdSize) rfl ?_
  exact ⟨rfl, HK12.out.then K7 (fun i hi => .inr (by simp at hi; have := HGe.out; omega))⟩
set_option maxRecDepth 100000 in
set_option maxHeartbeats 4000000 in
theorem upub_usedS (h : Lg w0 w l pd pk S f) (a1 a2 : Nat) (hla : S.la = some (a1, a2)) (ha : a1 ≠ S.its.length) (hn : S.n = 16) : Calls Tryz.prog 33 #[.pointer (some ⟨l, 0, none⟩)] w fun e w' => e = .returned (.tuple #[sgd0, .int .i64 23]) ∧ Kp [] w w' := by
  obtain ⟨j, s, q, vs, pv, hx⟩ := h
  have hla2 := hx.la
  rw [hla] at hla2
  obtain ⟨hle, ha16, tt, vr, vp, vq, rfl, hFt, hFv, hSF⟩ := hla2
  obtain ⟨ar, mr, cr, ap, np, cp, aq, nq, cq, e2, -, -⟩ := hSF.v.shape
  simp only [Value.agg.injEq, Array.mk.injEq, List.cons.injEq, and_true] at e2
  obtain ⟨-, rfl, -, rfl, rfl⟩ := e2
  obtain ⟨av, cv, hvs, -⟩ := hx.sd
  obtain ⟨nv, hnv⟩ : ∃ n, n = S.seed.length := ⟨_, rfl⟩
  rw [← hnv] at hvs
  subst hvs
  obtain ⟨g0, hg⟩ : ∃ g, g = w.heap.size := ⟨_, rfl⟩
  obtain ⟨w1, hw1⟩ : ∃ w1, w1 = w.alloc (.cells #[.int .i64 0, .slice none 0 0, .int .i64 0, .slice none 0 0, .slice none 0 0] 72) := ⟨_, rfl⟩
  have K1 : Kp [] w w1 := by rw [hw1]; exact (Kp.refl [] w).alloc _
  have G0 : w1.heap[g0]? = some (.cells #[.int .i64 0, .slice none 0 0, .int .i64 0, .slice none 0 0, .slice none 0 0] 72 (0, 0)) := by rw [hw1, hg]; exact heap_alloc_new w _
  have hX1 := hx.on K1
  have HD : Hid (∀ w', Kp [] w1.drew w' → Kp [] w1 w') := fun w' k' => (kp_drew w1).trans k'
  have HAt : Hid (∀ w', Kp [] w1.drew w' → Fv 99 w' l (.func (.func 44) #[.pointer (some ⟨j, 0, none⟩)] #[]) (.pointer (some ⟨s, 0, none⟩)) (.pointer (some ⟨q, 0, none⟩)) (.slice av nv cv) (.pointer (some ⟨tt, 0, none⟩))) := fun w' k => hX1.at_.kept (HD.out w' k) (by simp)
  have HTt : Hid (∀ w', Kp [] w1.drew w' → Fv 72 w' tt (.int .i64 (a1 : Int)) (.slice ar mr cr) (.int .i64 (a2 : Int)) (.slice ap np cp) (.slice aq nq cq)) := fun w' k => hFv.kept (K1.trans (HD.out w' k)) (by simp)
  have HLg : Hid (∀ w', Kp [] w1.drew w' → Lg w0 w' l pd pk S f) := fun w' k => ⟨j, s, q, _, _, hX1.on (HD.out w' k)⟩
  obtain ⟨il, hil⟩ : ∃ k, k = S.its.length := ⟨_, rfl⟩
  have HIl : Hid ((il : Int) = (S.its.length : Int)) := hide (by rw [hil])
  have HCmp : Hid (¬ (a1 : Int) = (il : Int)) := hide (by rw [hil]; omega)
  have HX1 := hide hX1
  have HK1 := hide K1
  have HGe := hide hg
  have HW1 := hide hw1
  have HG0 := hide G0
  have HN := hide hn
  clear hn
  clear hx hla hFv hSF hle hFt K1 hg hw1 hX1 ha hnv hil G0 ha16
  go_enter Tryz.func33, Tryz.ntmps33
  go_wp2_with fail
  rw [← HW1.out, ← HGe.out]
  refine region_grow Tryz.mixed [Is (.pointer (some ⟨l, 0, none⟩)), Is (.pointer (some ⟨l, 0, none⟩)), Is (.pointer (some ⟨l, 4, none⟩)), Is (.pointer (some ⟨tt, 0, none⟩)), Is (.bool false), Is (.bool false), Is (.pointer (some ⟨l, 0, none⟩)), Is (.pointer (some ⟨l, 0, none⟩)), Is (.pointer (some ⟨l, 4, none⟩)), Is (.pointer (some ⟨tt, 0, none⟩)), Is (.pointer (some ⟨tt, 0, none⟩)), Is (.pointer (some ⟨tt, 0, none⟩)), Is (.pointer (some ⟨tt, 0, none⟩)), Is (.int .i64 (a1 : Int)), Is (.pointer (some ⟨l, 0, none⟩)), Is (.int .i64 (il : Int)), Is (.bool true), Is (.bool true)] [[(0, none)], [(5, some 0)], [(6, some 1)], [(7, some 2)], [(8, some 3)], [(9, some 4)], [(0, none), (10, some 5)], [(11, some 6), (10, some 5)], [(12, some 7), (10, some 5)], [(13, some 8), (10, some 5)], [(14, some 9), (10, some 5)], [(15, some 10), (10, some 5)], [(16, some 11), (10, some 5)], [(17, some 12), (10, some 5)], [(0, none), (10, some 5)], [(19, some 14), (10, some 5)], [(18, some 13), (20, some 15), (10, some 5)], [(10, some 5), (21, some 16)]] (by kernel_rfl) ?_ ?_ ?_
  · simp only [List.mem_cons, List.not_mem_nil, or_false]
    intro R hR
    rcases hR with rfl | rfl | rfl | rfl | rfl | rfl | rfl | rfl | rfl | rfl | rfl | rfl | rfl | rfl | rfl | rfl | rfl | rfl <;> first | exact stable_is _
  · refine steps_cons (fun a w hk hn => ?_) ?_
    · have h0 : a.eval (.tmp 0) = .pointer (some ⟨l, 0, none⟩) := hn.1
      clear hn
      refine wants_plain rfl ?_
      exact grown_move (.tmp 0) rfl h0
    refine steps_cons (fun a w hk hn => ?_) ?_
    · have h5 : a.eval (.tmp 5) = .pointer (some ⟨l, 0, none⟩) := hn.1
      clear hn
      refine wants_plain rfl ?_
      refine grown_run (v := .pointer (some ⟨l, 0, none⟩)) ?_ (Kp.refl _ _) rfl
      obtain ⟨ρ, hρ, hc, hf, hg⟩ := eval_is a
      rw [hρ] at h5 ⊢
      simp [go_sem, h5]
    refine steps_cons (fun a w hk hn => ?_) ?_
    · have h6 : a.eval (.tmp 6) = .pointer (some ⟨l, 0, none⟩) := hn.1
      clear hn
      refine wants_plain rfl ?_
      refine grown_run (v := .pointer (some ⟨l, 4, none⟩)) ?_ (Kp.refl _ _) rfl
      obtain ⟨ρ, hρ, hc, hf, hg⟩ := eval_is a
      rw [hρ] at h6 ⊢
      simp [go_sem, h6]
    refine steps_cons (fun a w hk hn => ?_) ?_
    · have h7 : a.eval (.tmp 7) = .pointer (some ⟨l, 4, none⟩) := hn.1
      clear hn
      refine wants_plain rfl ?_
      refine grown_run (v := .pointer (some ⟨tt, 0, none⟩)) ?_ (Kp.refl _ _) rfl
      have hcell : w.cell? ⟨l, 4, none⟩ = some (.pointer (some ⟨tt, 0, none⟩)) := by rw [cell_of_row w l 4 _ _ _ (HAt.out w hk)]; rfl
      obtain ⟨ρ, hρ, hc, hf, hg⟩ := eval_is a
      rw [hρ] at h7 ⊢
      simp [go_sem, h7, hcell]
    refine steps_cons (fun a w hk hn => ?_) ?_
    · have h8 : a.eval (.tmp 8) = .pointer (some ⟨tt, 0, none⟩) := hn.1
      clear hn
      refine wants_plain rfl ?_
      refine grown_run (v := .bool false) ?_ (Kp.refl _ _) rfl
      obtain ⟨ρ, hρ, hc, hf, hg⟩ := eval_is a
      rw [hρ] at h8 ⊢
      simp [go_sem, hc, h8]
    refine steps_cons (fun a w hk hn => ?_) ?_
    · have h9 : a.eval (.tmp 9) = .bool false := hn.1
      clear hn
      refine wants_plain rfl ?_
      exact grown_move (.tmp 9) rfl h9
    refine steps_cons (fun a w hk hn => ?_) ?_
    · have h0 : a.eval (.tmp 0) = .pointer (some ⟨l, 0, none⟩) := hn.1
      have h10 : a.eval (.tmp 10) = .bool false := hn.2.1
      clear hn
      refine wants_guard (d := 10) rfl rfl h10 ?_
      exact grown_move (.tmp 0) rfl h0
    refine steps_cons (fun a w hk hn => ?_) ?_
    · have h11 : a.eval (.tmp 11) = .pointer (some ⟨l, 0, none⟩) := hn.1
      have h10 : a.eval (.tmp 10) = .bool false := hn.2.1
      clear hn
      refine wants_guard (d := 10) rfl rfl h10 ?_
      refine grown_run (v := .pointer (some ⟨l, 0, none⟩)) ?_ (Kp.refl _ _) rfl
      obtain ⟨ρ, hρ, hc, hf, hg⟩ := eval_is a
      rw [hρ] at h11 ⊢
      simp [go_sem, h11]
    refine steps_cons (fun a w hk hn => ?_) ?_
    · have h12 : a.eval (.tmp 12) = .pointer (some ⟨l, 0, none⟩) := hn.1
      have h10 : a.eval (.tmp 10) = .bool false := hn.2.1
      clear hn
      refine wants_guard (d := 10) rfl rfl h10 ?_
      refine grown_run (v := .pointer (some ⟨l, 4, none⟩)) ?_ (Kp.refl _ _) rfl
      obtain ⟨ρ, hρ, hc, hf, hg⟩ := eval_is a
      rw [hρ] at h12 ⊢
      simp [go_sem, h12]
    refine steps_cons (fun a w hk hn => ?_) ?_
    · have h13 : a.eval (.tmp 13) = .pointer (some ⟨l, 4, none⟩) := hn.1
      have h10 : a.eval (.tmp 10) = .bool false := hn.2.1
      clear hn
      refine wants_guard (d := 10) rfl rfl h10 ?_
      refine grown_run (v := .pointer (some ⟨tt, 0, none⟩)) ?_ (Kp.refl _ _) rfl
      have hcell : w.cell? ⟨l, 4, none⟩ = some (.pointer (some ⟨tt, 0, none⟩)) := by rw [cell_of_row w l 4 _ _ _ (HAt.out w hk)]; rfl
      obtain ⟨ρ, hρ, hc, hf, hg⟩ := eval_is a
      rw [hρ] at h13 ⊢
      simp [go_sem, h13, hcell]
    refine steps_cons (fun a w hk hn => ?_) ?_
    · have h14 : a.eval (.tmp 14) = .pointer (some ⟨tt, 0, none⟩) := hn.1
      have h10 : a.eval (.tmp 10) = .bool false := hn.2.1
      clear hn
      refine wants_guard (d := 10) rfl rfl h10 ?_
      refine grown_run (v := .pointer (some ⟨tt, 0, none⟩)) ?_ (Kp.refl _ _) rfl
      obtain ⟨ρ, hρ, hc, hf, hg⟩ := eval_is a
      rw [hρ] at h14 ⊢
      simp [go_sem, h14]
    refine steps_cons (fun a w hk hn => ?_) ?_
    · have h15 : a.eval (.tmp 15) = .pointer (some ⟨tt, 0, none⟩) := hn.1
      have h10 : a.eval (.tmp 10) = .bool false := hn.2.1
      clear hn
      refine wants_guard (d := 10) rfl rfl h10 ?_
      refine grown_run (v := .pointer (some ⟨tt, 0, none⟩)) ?_ (Kp.refl _ _) rfl
      obtain ⟨ρ, hρ, hc, hf, hg⟩ := eval_is a
      rw [hρ] at h15 ⊢
      simp [go_sem, h15]
    refine steps_cons (fun a w hk hn => ?_) ?_
    · have h16 : a.eval (.tmp 16) = .pointer (some ⟨tt, 0, none⟩) := hn.1
      have h10 : a.eval (.tmp 10) = .bool false := hn.2.1
      clear hn
      refine wants_guard (d := 10) rfl rfl h10 ?_
      refine grown_run (v := .pointer (some ⟨tt, 0, none⟩)) ?_ (Kp.refl _ _) rfl
      obtain ⟨ρ, hρ, hc, hf, hg⟩ := eval_is a
      rw [hρ] at h16 ⊢
      simp [go_sem, h16]
    refine steps_cons (fun a w hk hn => ?_) ?_
    · have h17 : a.eval (.tmp 17) = .pointer (some ⟨tt, 0, none⟩) := hn.1
      have h10 : a.eval (.tmp 10) = .bool false := hn.2.1
      clear hn
      refine wants_guard (d := 10) rfl rfl h10 ?_
      refine grown_run (v := .int .i64 (a1 : Int)) ?_ (Kp.refl _ _) rfl
      have hcell : w.cell? ⟨tt, 0, none⟩ = some (.int .i64 (a1 : Int)) := by rw [cell_of_row w tt 0 _ _ _ (HTt.out w hk)]; rfl
      obtain ⟨ρ, hρ, hc, hf, hg⟩ := eval_is a
      rw [hρ] at h17 ⊢
      simp [go_sem, h17, hcell]
    refine steps_cons (fun a w hk hn => ?_) ?_
    · have h0 : a.eval (.tmp 0) = .pointer (some ⟨l, 0, none⟩) := hn.1
      have h10 : a.eval (.tmp 10) = .bool false := hn.2.1
      clear hn
      refine wants_guard (d := 10) rfl rfl h10 ?_
      exact grown_move (.tmp 0) rfl h0
    refine steps_cons (fun a w hk hn => ?_) ?_
    · have h19 : a.eval (.tmp 19) = .pointer (some ⟨l, 0, none⟩) := hn.1
      have h10 : a.eval (.tmp 10) = .bool false := hn.2.1
      clear hn
      refine wants_guard (d := 10) rfl rfl h10 ?_
      refine grown_call (f := 16) rfl Tryz.func16 (by kernel_rfl) (by kernel_rfl) ?_
      simp only [List.map_toArray, List.map_cons, List.map_nil, h19]
      refine (usize_any (HLg.out w hk) (il : Int) HIl.out).mono ?_
      rintro e w' ⟨rfl, rfl⟩
      exact ⟨_, rfl, Kp.refl _ _, rfl⟩
    refine steps_cons (fun a w hk hn => ?_) ?_
    · have h18 : a.eval (.tmp 18) = .int .i64 (a1 : Int) := hn.1
      have h20 : a.eval (.tmp 20) = .int .i64 (il : Int) := hn.2.1
      have h10 : a.eval (.tmp 10) = .bool false := hn.2.2.1
      clear hn
      refine wants_guard (d := 10) rfl rfl h10 ?_
      refine grown_run (v := .bool true) ?_ (Kp.refl _ _) rfl
      obtain ⟨ρ, hρ, hc, hf, hg⟩ := eval_is a
      rw [hρ] at h18 h20 ⊢
      simp [go_sem, h18, h20, HCmp.out]
    refine steps_cons (fun a w hk hn => ?_) ?_
    · have h10 : a.eval (.tmp 10) = .bool false := hn.1
      have h21 : a.eval (.tmp 21) = .bool true := hn.2.1
      clear hn
      refine wants_plain rfl ?_
      exact grown_pick _ _ _ false rfl h10 h21
    exact trivial
  intro W1 hkW1
  rintro _ rfl
  rintro _ rfl
  rintro _ rfl
  rintro _ rfl
  rintro _ rfl
  rintro _ rfl
  rintro _ rfl
  rintro _ rfl
  rintro _ rfl
  rintro _ rfl
  rintro _ rfl
  rintro _ rfl
  rintro _ rfl
  rintro _ rfl
  rintro _ rfl
  rintro _ rfl
  rintro _ rfl
  rintro _ rfl
  refine fin_nil ?_
  simp only [Act.put, List.set_cons_zero, List.set_cons_succ, List.setIfInBounds_toArray]
  have K12 := HD.out W1 hkW1
  have HX2 := hide (HX1.out.on K12)
  have HG2 := hide (K12.heap HG0.out (by simp))
  have HK12 := hide (HK1.out.trans K12)
  clear K12 hkW1 HG0
  have HSn := hide (usign_used ⟨j, s, q, _, _, HX2.out⟩ HN.out)
  go_wp2_with fail
  refine HSn.out.mono ?_
  rintro ee w3 ⟨rfl, hw⟩
  subst w3
  have G3 := HG2.out
  clear HSn
  go_wp2_with (refine wpList_store_flat rfl 72 (.tmp 2) (.tmp 27) rfl g0 0 rfl _ _ [.int .i64 0, .slice none 0 0, .int .i64 0, .slice none 0 0, .slice none 0 0] G3 rfl (by simp) Tryz.sgdSize (by simp [Value.oneCell']) #[.int .i64 0, .slice none 0 0, .int .i64 0, .slice none 0 0, .slice none 0 0] rfl ?_; intro w7 G7 K7)
  refine bodyPost_ret (results_flat2 rfl _ rfl G7 Tryz.underlying72 rfl Tryz.sgdSize) rfl ?_
  exact ⟨rfl, HK12.out.then K7 (fun i hi => .inr (by simp at hi; have := HGe.out; omega))⟩
end
end Go.Proofs.YtillhpgdlmeajaaGreatDoor

/-
  The laws of ledger: fresh, on, Same, two new disks and a ledger on them; Add and Publish while power lasts.
-/
namespace Go.Proofs.YtillhpgdlmeajaaGreatDoor
open Go.RowKit
open Go.Proofs
set_option linter.unusedVariables false
section
variable {w0 w : World} {l pd pk : Nat} {S : LS} {f : Fps}
/-- no key is left. -/
theorem upub_full (h : Lg w0 w l pd pk S f) (hn : S.n = 16) (hla : ∀ a, S.la = some a → a.1 ≠ S.its.length) :
    Calls Tryz.prog 33 #[.pointer (some ⟨l, 0, none⟩)] w fun e w' => e = .returned (.tuple #[sgd0, .int .i64 23]) ∧ Kp [] w w' := by
  cases hs : S.la with
  | none => exact upub_usedN h hs hn
  | some a =>
    obtain ⟨a1, a2⟩ := a
    exact upub_usedS h a1 a2 hs (hla _ hs) hn
end
end Go.Proofs.YtillhpgdlmeajaaGreatDoor

/-
  The contract of the reference's Root.
-/
namespace Go.Proofs.YtillhpgdlmeajaaGreatDoor
open Go.RowKit
theorem rts_take (d : Int) (ls : List (List Int)) (k : Nat) (h : k < ls.length) : ((rtsP d ls).take (k + 1)).flatten = ((rtsP d ls).take k).flatten ++ rtP d k ls[k] := by
  rw [List.take_succ_eq_append_getElem (by rw [rtsP_len]; exact h), List.flatten_append]
  simp [rtsP]
theorem rts_take_len (d : Int) (ls : List (List Int)) (k : Nat) (hl : ls.length = 64) (hg : ∀ i (h : i < ls.length), i < k → ls[i].length = 32) (hk : k ≤ 64) : ((rtsP d ls).take k).flatten.length ≤ 32 * k := by
  induction k with
  | zero => simp
  | succ k ih =>
    rw [rts_take d ls k (by omega), List.length_append]
    have h1 := ih (fun i h h' => hg i h (by omega)) (by omega)
    have h2 : (rtP d k (ls[k]'(by omega))).length = 32 := by
      unfold rtP
      split
      · exact sha_len _
      · exact hg k (by omega) (by omega)
    omega
theorem rtP_bs {d : Int} {i : Nat} {x : List Int} (h : Bs x) : Bs (rtP d i x) := by
  unfold rtP; split
  · exact sha_bs _
  · exact h
set_option maxRecDepth 100000 in
set_option maxHeartbeats 2000000 in
theorem refroot_any (vm : Value) (ms : List Int) (vl : Value) (l : List (Value × List Int)) (d : Int) (b : Bool) (r : List Int) (hd : d = digP ms) (hb : b = areP (l.map (·.2))) (hr : r = rootP d (l.map (·.2))) (w : World) (hM : Sl w vm ms) (hMB : Bs ms) (hml : ms.length ≤ 1000) (hL : Lists w vl l) :
    Calls Tryz.prog 119 #[vm, vl] w fun e w' => ∃ v, e = .returned (.tuple #[v, .bool b]) ∧ Rooted b r w.heap.size v w' ∧ Kp [] w w' := by
  have h0 : 0 ≤ d := by rw [hd]; exact (digP_bd ms).1
  have HD := hide (refdigest_any vm ms d hd w hM hMB (by omega))
  have hBl := hL.bs
  obtain ⟨al, cl, hvl, hll, hcell⟩ := hL
  subst hvl
  obtain ⟨am, cm, hvm, hj⟩ := hM
  clear hj
  obtain ⟨nm, hnm⟩ : ∃ n, n = ms.length := ⟨_, rfl⟩
  rw [← hnm] at hvm
  subst hvm
  clear hMB hd hnm
  obtain ⟨ls, hls⟩ : ∃ ls, ls = l.map (·.2) := ⟨_, rfl⟩
  rw [← hls] at hb hr
  have HR := hide hr
  have HBb := hide hb
  have HBl : Hid (∀ x ∈ ls, Bs x) := by rw [hls]; intro x hx; obtain ⟨y, hy, rfl⟩ := List.mem_map.1 hx; exact hBl y hy
  have HC : Hid (∀ i (h : i < ls.length), ∃ b off v, al = some ⟨b, off, none⟩ ∧ w.cell? ⟨b, off + i, none⟩ = some v ∧ Sl w v ls[i]) := by
    intro i hi
    have hil : i < l.length := by rw [hls] at hi; simpa using hi
    obtain ⟨b', o', e, h1, h2, _⟩ := hcell i hil
    refine ⟨b', o', l[i].1, e, h1, ?_⟩
    have : ls[i] = l[i].2 := by
      have h1 : ls[i]? = (l.map (·.2))[i]? := by rw [hls]
      rw [List.getElem?_eq_getElem hi, List.getElem?_map, List.getElem?_eq_getElem hil] at h1
      exact Option.some.inj h1
    rw [this]; exact h2
  have hlen : l.length = ls.length := by rw [hls]; simp
  rw [hlen] at hll ⊢
  clear hr hb hBl hcell hls hlen
  by_cases h64 : ls.length = 64
  · have H64 := hide h64
    rw [h64]
    clear h64 hll
    go_enter Tryz.func119, Tryz.ntmps119
    go_wp2_with fail
    refine (unhide HD).mono ?_
    rintro ee w2 ⟨rfl, K2⟩
    have HK2 := hide K2
    clear HD K2
    go_wp2_with fail
    go_loopw [7, 8] (fun v i wr => ∃ (k m c : Nat) (ao : Option Addr), k ≤ 64 ∧ v = .slice ao m c ∧ i = .int .i64 k ∧ Row wr w.heap.size v ((rtsP d ls).take k).flatten ∧ (∀ i (h : i < ls.length), i < k → ls[i].length = 32) ∧ Kp [] w wr) (fun _ i _ => 64 - (intOf i).toNat)
    case atStart => exact ⟨0, 0, 0, none, by omega, rfl, rfl, row_nil _ _, (fun i h h' => by omega), unhide HK2⟩
    case round =>
      obtain ⟨k, m, c, ao, hk, rfl, rfl, Rr, hgood, Kr⟩ := hrel
      have HRr := hide Rr
      have HGo := hide hgood
      have HKr := hide Kr
      clear Rr hgood Kr HK2
      by_cases hlt : k < 64
      · have hlt2 : (k : Int) < 64 := by omega
        have hkl : k < ls.length := by have := unhide H64; omega
        obtain ⟨b', o', v, rfl, hc, hS⟩ := unhide HC k hkl
        have hcw := (unhide HKr).cell hc (by simp)
        have hSw := hS.kept (unhide HKr) (by simp)
        have HE := hide (rts_take d ls k hkl)
        have hfl := rts_take_len d ls k (unhide H64) (unhide HGo) hk
        have hBx := unhide HBl ls[k] (List.getElem_mem hkl)
        obtain ⟨fl, hfle⟩ : ∃ fl, fl = ((rtsP d ls).take k).flatten := ⟨_, rfl⟩
        rw [← hfle] at HE hfl HRr
        obtain ⟨x, hx⟩ : ∃ x, x = ls[k] := ⟨_, rfl⟩
        have HX := hide hx
        rw [← hx] at HE hS hSw hBx
        have HSw := hide hSw
        obtain ⟨ax, cx, hxv, hj⟩ := hS
        clear hj
        subst hxv
        clear hc HC hfle hx hSw
        by_cases h32 : x.length = 32
        · rw [h32] at hcw HSw
          have HG2 : Hid (∀ i (h : i < ls.length), i < k + 1 → ls[i].length = 32) := by
            intro i hi hik
            rcases Nat.lt_or_ge i k with h | h
            · exact unhide HGo i hi h
            · obtain rfl : i = k := by omega
              rw [← unhide HX]; exact h32
          obtain ⟨j, hj⟩ : ∃ j, j = k / 2 := ⟨_, rfl⟩
          have hji : (k : Int) / 2 = (j : Int) := by omega
          have hjt : Int.tdiv (k : Int) 2 = (j : Int) := by rw [Int.tdiv_eq_ediv_of_nonneg (by omega)]; omega
          have hj31 : (j : Int) ≤ 31 := by omega
          have hj2 : (31 - (j : Int)).toNat = 31 - j := by omega
          have hd0 : 0 ≤ d / 2 ^ (31 - j) := Int.ediv_nonneg h0 (Int.le_of_lt (Int.pow_pos (by omega)))
          have ha := and_one _ hd0
          rw [← sd_val] at ha
          obtain ⟨t, ht⟩ : ∃ t, t = sdP d j := ⟨_, rfl⟩
          rw [← ht] at ha
          have ht1 : (t : Int) ≤ 1 := by have := sdP_lt d j; rw [← ht] at this; omega
          obtain ⟨s, hs⟩ : ∃ s, s = k % 2 := ⟨_, rfl⟩
          have hsi : (k : Int) % 2 = (s : Int) := by omega
          have hst : Int.tmod (k : Int) 2 = (s : Int) := by rw [Int.tmod_eq_emod_of_nonneg (by omega)]; omega
          have hrt : rtP d k x = if t = s then sha (11 :: x) else x := by
            unfold rtP digC
            rw [← hj, ← hs, ← ht]
            by_cases h : t = s <;> simp [h]
          rw [hrt] at HE
          clear hrt hj hs ht hd0
          by_cases hts : t = s
          · subst hts
            rw [if_pos rfl] at HE
            have HL := hide (lists1 (unhide HSw) hBx)
            have HK := hide ((Kp.refl [] wr).alloc (.cells #[.slice ax 32 cx] 22))
            obtain ⟨q, hq⟩ : ∃ q, q = sha (11 :: x) := ⟨_, rfl⟩
            have hql : q.length = 32 := by rw [hq]; exact sha_len _
            rw [← hq] at HE
            have HQ := hide hq
            clear hq
            go_wp2_with fail
            refine (reftagged_any 11 _ _ q (by rw [unhide HQ, cat1]) _ (unhide HL) (by omega) (by omega) (by simp) (by simp; omega)).mono ?_
            rintro ee w5 ⟨a5, m5, c5, rfl, R5, K5⟩
            have HS5 := hide R5.sl
            have HK5 := hide ((unhide HK).trans K5)
            clear R5 K5 HL HK
            go_wp2_with (at_builtin; refine wpList_append_row rfl (.tmp 45) (.tmp 46) rfl w.heap.size _ fl rfl ((unhide HRr).kept (unhide HK5) (by simp)) _ q rfl (unhide HS5) (by omega) (by have := (unhide HKr).size; have := (unhide HK5).size; omega) ?_; intro ao6 m6 c6 w6 R6 s6)
            go_roundw
            case rel => exact ⟨k + 1, m6, c6, ao6, by omega, rfl, by go_num, by rw [unhide HE]; exact R6, unhide HG2, (unhide HRr).step (unhide HKr) (s6.after (unhide HK5))⟩
            case measure => simp [intOf]; omega
          · rw [if_neg hts] at HE
            have htsi : ((t : Int) == (s : Int)) = false := beq_eq_false_iff_ne.2 (by omega)
            go_wp2_with (at_builtin; refine wpList_append_row rfl (.tmp 45) (.tmp 46) rfl w.heap.size _ fl rfl (unhide HRr) _ x rfl (unhide HSw) (by omega) (by have := (unhide HKr).size; omega) ?_; intro ao6 m6 c6 w6 R6 s6)
            go_roundw
            case rel => exact ⟨k + 1, m6, c6, ao6, by omega, rfl, by go_num, by rw [unhide HE]; exact R6, unhide HG2, (unhide HRr).step (unhide HKr) s6⟩
            case measure => simp [intOf]; omega
        · have hbad := areP_bad (ls := ls) k hkl (by rw [← unhide HX]; exact h32)
          have hbf : b = false := (unhide HBb).trans hbad
          have h32i : ¬ (x.length : Int) = 32 := by omega
          clear hbad
          go_wp2_with fail
          go_ret2
          exact ⟨_, by rw [hbf]; rfl, by rw [hbf]; rfl, unhide HKr⟩
      · obtain rfl : k = 64 := by omega
        have hgd := areP_good (ls := ls) (unhide H64) (fun i hi => unhide HGo i hi (by have := unhide H64; omega))
        have hbt : b = true := (unhide HBb).trans hgd
        have hfl := rts_take_len d ls 64 (unhide H64) (unhide HGo) (by omega)
        have htk : (rtsP d ls).take 64 = rtsP d ls := List.take_of_length_le (by rw [rtsP_len]; have := unhide H64; omega)
        rw [htk] at HRr hfl
        obtain ⟨fl, hfle⟩ : ∃ fl, fl = (rtsP d ls).flatten := ⟨_, rfl⟩
        have hFB : Bs fl := by
          rw [hfle]
          intro y hy
          obtain ⟨z, hz, hy⟩ := List.mem_flatten.1 hy
          obtain ⟨i, hi, rfl⟩ := List.getElem_of_mem hz
          have hi2 : i < ls.length := by rw [rtsP_len] at hi; exact hi
          have : (rtsP d ls)[i] = rtP d i ls[i] := by simp [rtsP]
          rw [this] at hy
          exact rtP_bs (unhide HBl _ (List.getElem_mem hi2)) y hy
        have HR2 : Hid (r = sha (12 :: fl)) := by rw [unhide HR, hfle]; rfl
        rw [← hfle] at HRr hfl
        have HL := hide (lists1 (unhide HRr).sl hFB)
        have HK := hide ((unhide HKr).trans ((Kp.refl [] wr).alloc (.cells #[.slice ao m c] 22)))
        clear hfle hFB htk hgd HC HRr HKr HR
        subst hbt
        go_wp2_with fail
        refine (reftagged_any 12 _ _ r (by rw [unhide HR2, cat1]) _ (unhide HL) (by omega) (by omega) (by simp) (by simp; omega)).mono ?_
        rintro ee w6 ⟨a6, m6, c6, rfl, R6, K6⟩
        have HR6 := hide (row_new R6 (unhide HK))
        have HK6 := hide ((unhide HK).trans K6)
        clear HL HK R6 K6
        go_wp2_with fail
        go_ret2
        exact ⟨_, rfl, ⟨a6, m6, c6, rfl, unhide HR6⟩, unhide HK6⟩
  · have hbad := areP_short (ls := ls) h64
    have hbf : b = false := (unhide HBb).trans hbad
    subst hbf
    have hni : ¬ (ls.length : Int) = 64 := by omega
    clear HC hbad
    go_enter Tryz.func119, Tryz.ntmps119
    go_wp2_with fail
    go_ret2
    exact ⟨_, rfl, rfl, Kp.refl _ _⟩
end Go.Proofs.YtillhpgdlmeajaaGreatDoor

/-
  The contracts of the reference's Verify and Encode.
-/
namespace Go.Proofs.YtillhpgdlmeajaaGreatDoor
open Go.RowKit
open Go.Proofs
theorem and_one64 (n : Nat) (h : n < 16) : bits .and .i64 (n : Int) 1 = ((n % 2 : Nat) : Int) := by
  have h2 : ∀ m ∈ List.range 16, bits .and .i64 (m : Int) 1 = ((m % 2 : Nat) : Int) := by decide +kernel
  exact h2 n (by simpa using h)
set_option maxRecDepth 100000 in
set_option maxHeartbeats 2000000 in
theorem refverify_any (vpub : Value) (pub : List Int) (vm : Value) (ms : List Int) (v : Value) (i : Int) (ps qs : List (List Int)) (b : Bool) (hb : b = verP pub ms i ps qs) (w : World) (hP : Sl w vpub pub) (hPB : Bs pub) (hM : Sl w vm ms) (hMB : Bs ms) (hml : ms.length ≤ 1000) (hV : SigV w v i ps qs) (hi : -9223372036854775808 ≤ i ∧ i ≤ 9223372036854775807) :
    Calls Tryz.prog 82 #[vpub, vm, v] w fun e w' => e = .returned (.bool b) ∧ Kp [] w w' := by
  obtain ⟨c, hc⟩ : ∃ c, c = rgtP i ps qs := ⟨_, rfl⟩
  obtain ⟨ap, np, cp, aq, nq, cq, lp, lq, rfl, hLP, hp, hLQ, hq, hnp, hnq⟩ := hV.shape
  clear hnp
  obtain ⟨ob, hob⟩ : ∃ o : Obj, o = (.cells #[.int .i64 i, .slice ap np cp, .slice aq nq cq] 70) := ⟨_, rfl⟩
  have K1 : Kp [] w (w.alloc ob) := (Kp.refl [] w).alloc ob
  have HR := hide (refright_any _ i ps qs c hc (w.alloc ob) (hV.kept K1) hi)
  have HLP := hide hLP
  have HLQ := hide hLQ
  have Hp := hide hp
  have Hq := hide hq
  have HPu := hide hP
  have HPB := hide hPB
  have HM := hide hM
  have HMB := hide hMB
  have HNQ := hide hnq
  obtain ⟨au, cu, hvu, _⟩ := hP
  obtain ⟨nu, hnu⟩ : ∃ n, n = pub.length := ⟨_, rfl⟩
  rw [← hnu] at hvu
  subst hvu
  obtain ⟨am, cm, hvm, _⟩ := hM
  obtain ⟨nm, hnm⟩ : ∃ n, n = ms.length := ⟨_, rfl⟩
  rw [← hnm] at hvm
  subst hvm
  have hl1 := load_sig (w.alloc ob) w.heap.size (.int .i64 i) (.slice ap np cp) (.slice aq nq cq) (0, 0) (by rw [hob]; exact heap_alloc_new w _)
  have G1 : Hid ((w.alloc ob).heap[w.heap.size]? = some (.cells #[.int .i64 i, .slice ap np cp, .slice aq nq cq] 70 (0, 0))) := by rw [hob]; exact heap_alloc_new w _
  rw [hob] at K1 HR hl1 G1
  have HK1 := hide K1
  have HB := hide hb
  have HCC := hide hc
  clear hob K1 hLP hLQ hp hq hPB hMB hV hnu hnm hb hc hi hnq
  cases c
  · have hbf : b = false := by rw [unhide HB, verP, ← unhide HCC]; rfl
    subst hbf
    go_enter Tryz.func82, Tryz.ntmps82
    go_wp2_with fail
    refine (unhide HR).mono ?_
    rintro ee w2 ⟨rfl, K2⟩
    have HK2 := hide ((unhide HK1).trans K2)
    clear HR K2 HK1
    go_wp2_with fail
    go_ret
    exact ⟨rfl, unhide HK2⟩
  · have hrg := (rgtP_iff i ps qs).1 (unhide HCC).symm
    obtain ⟨⟨hi0, hi1⟩, ⟨hpl, hp32⟩, hql, hq32⟩ := hrg
    obtain ⟨k, rfl⟩ := Int.eq_ofNat_of_zero_le hi0
    have hk16 : k < 16 := by omega
    obtain ⟨d, hd⟩ : ∃ d, d = digP ms := ⟨_, rfl⟩
    obtain ⟨r, hr⟩ : ∃ r, r = rootP d ps := ⟨_, rfl⟩
    obtain ⟨t, ht⟩ : ∃ t, t = ledP r k qs := ⟨_, rfl⟩
    have hare : true = areP ps := by
      unfold areP
      symm
      simp only [Bool.and_eq_true, beq_iff_eq, List.all_eq_true]
      exact ⟨hpl, hp32⟩
    obtain ⟨S, hS⟩ : ∃ S, S = strOfNums t := ⟨_, rfl⟩
    obtain ⟨T, hT⟩ : ∃ T, T = strOfNums pub := ⟨_, rfl⟩
    have hrB : Bs r := by rw [hr]; exact sha_bs _
    have hrl : r.length ≤ 1000 := by rw [hr, rootP, sha_len]; omega
    have hbb : b = (S.toList == T.toList) := by
      have htB : Bs t := by rw [ht]; exact (ledP_ok r k qs hrl hrB).2
      rw [unhide HB, verP, ← unhide HCC, hS, hT, str_beq t pub htB (unhide HPB), ht, hr, hd]
      rfl
    have HRo := hide (fun w' (k' : Kp [] w w') => refroot_any _ ms (.slice ap np cp) lp d true r hd (by rw [unhide Hp]; exact hare) (by rw [unhide Hp]; exact hr) w' ((unhide HM).kept k' (by simp)) (unhide HMB) hml ((unhide HLP).kept k'))
    have HOK := hide (fun n => ledP_ok r k (qs.take n) hrl hrB)
    have HTT := hide ht
    have HQL := hide hql
    have HQ32 := hide hq32
    have hnq4 : nq = 4 := by rw [unhide HNQ]; exact hql
    subst hnq4
    have HS := hide hS
    have HT := hide hT
    clear hrB hrl hS hT hd hr ht hare HB HCC hp32 hq32 hpl hql hi0 hi1
    subst hbb
    go_enter Tryz.func82, Tryz.ntmps82
    go_wp2_with fail
    refine (unhide HR).mono ?_
    rintro ee w2 ⟨rfl, K2⟩
    have HK2 := hide ((unhide HK1).trans K2)
    have G2 := K2.heap (unhide G1) (by simp)
    have c1' : w2.cell? ⟨w.heap.size, 1, none⟩ = some (.slice ap np cp) := by rw [cell_of_row w2 w.heap.size 1 _ _ _ G2]; rfl
    have HG2 := hide G2
    clear HR K2 HK1 G1 G2
    go_wp2_with fail
    refine (unhide HRo w2 (unhide HK2)).mono ?_
    rintro ee w3 ⟨vr, rfl, hRoot, K3⟩
    obtain ⟨a3, m3, c3, rfl, R3⟩ := hRoot
    have HK3 := hide ((unhide HK2).trans K3)
    have HR3 := hide R3.sl
    have HG3 := hide (K3.heap (unhide HG2) (by simp))
    clear R3 K3 HRo HG2 HK2 c1'
    go_wp2_with fail
    go_loopw [7, 9] (fun v j wr => ∃ (n m cc : Nat) (ao : Option Addr), n ≤ 4 ∧ v = .slice ao m cc ∧ j = .int .i64 n ∧ Sl wr v (ledP r k (qs.take n)) ∧ Kp [] w wr ∧ Kp [] w3 wr) (fun _ j _ => 4 - (intOf j).toNat)
    case atStart => exact ⟨0, m3, c3, a3, by omega, rfl, rfl, unhide HR3, unhide HK3, Kp.refl _ _⟩
    case round =>
      clear HR3 HK3
      obtain ⟨n, m, cc, ao, hn, rfl, rfl, Sr, Kr, Kr3⟩ := hrel
      have HSr := hide Sr
      have HKr := hide Kr
      have HKr3 := hide Kr3
      have Gr := Kr3.heap (unhide HG3) (by simp)
      have e0 : wr.cell? ⟨w.heap.size, 0, none⟩ = some (.int .i64 k) := by rw [cell_of_row wr w.heap.size 0 _ _ _ Gr]; rfl
      have e2 : wr.cell? ⟨w.heap.size, 2, none⟩ = some (.slice aq 4 cq) := by rw [cell_of_row wr w.heap.size 2 _ _ _ Gr]; rfl
      clear Sr Kr Kr3 Gr
      by_cases hlt : n < 4
      · have hlt2 : (n : Int) < 4 := by omega
        have hnl : n < qs.length := by have := unhide HQL; omega
        obtain ⟨bq, oq, ay, ny, cy, rfl, hcy, hSy, hBy⟩ := lists_at (unhide HLQ) (unhide Hq) n hnl
        have hcw := (unhide HKr).cell hcy (by simp)
        have hE := led_take r k qs n hnl
        obtain ⟨x, hx⟩ : ∃ x, x = k / 2 ^ n := ⟨_, rfl⟩
        have hx16 : x < 16 := by rw [hx]; exact Nat.lt_of_le_of_lt (Nat.div_le_self _ _) hk16
        have hshr : (k : Int) / 2 ^ n = (x : Int) := by rw [hx, Int.natCast_ediv, Int.natCast_pow]; rfl
        have hshr2 : (k : Int) / 2 ^ ((n : Int)).toNat = (x : Int) := by rw [Int.toNat_natCast]; exact hshr
        have hand := and_one64 x hx16
        have hyl : (qs.getD n []).length ≤ 1000 := by have := unhide HQ32 _ (getD_mem hnl); omega
        have hok := unhide HOK n
        obtain ⟨tb, htb⟩ : ∃ tb, tb = x % 2 := ⟨_, rfl⟩
        have ht2 : tb < 2 := by omega
        rw [← htb] at hand
        rw [← hx, ← htb] at hE
        obtain ⟨Y, hY⟩ : ∃ Y, Y = qs.getD n [] := ⟨_, rfl⟩
        obtain ⟨X, hX⟩ : ∃ X, X = ledP r k (qs.take n) := ⟨_, rfl⟩
        rw [← hY] at hE hSy hBy hyl
        rw [← hX] at hE hok HSr
        have HSy := hide (hSy.kept (unhide HKr) (by simp))
        have HE := hide hE
        have HOk := hide hok
        have HBy := hide hBy
        clear hE hok hBy hSy hcy hx htb hY hX
        rcases (by omega : tb = 0 ∨ tb = 1) with rfl | rfl
        · rw [if_pos rfl] at HE
          obtain ⟨q, hq⟩ : ∃ q, q = nodeP X Y := ⟨_, rfl⟩
          have HL2 := hide (lists2 (unhide HSr) (unhide HOk).2 (unhide HSy) (unhide HBy))
          have HKa := hide ((Kp.refl [] wr).alloc (.cells #[.slice ao m cc, .slice ay ny cy] 22))
          have HC := hide (reftagged_any 14 _ _ q (by rw [hq, cat2]; rfl) _ (unhide HL2) (by omega) (by omega) (by simp) (by have := (unhide HOk).1; simp; omega))
          rw [← hq] at HE
          clear hq HL2
          go_wp2_with fail
          refine (unhide HC).mono ?_
          rintro ee w5 ⟨a5, m5, c5, rfl, R5, K5⟩
          have HS5 := hide R5.sl
          have HK5 := hide ((unhide HKr).trans ((unhide HKa).trans K5))
          have HK53 := hide ((unhide HKr3).trans ((unhide HKa).trans K5))
          clear R5 K5 HC HKa HSr HSy HKr HKr3 e0 e2 hcw
          go_wp2_with fail
          go_roundw
          case rel => exact ⟨n + 1, m5, c5, a5, by omega, rfl, by go_num, by rw [unhide HE]; exact unhide HS5, unhide HK5, unhide HK53⟩
          case measure => simp [intOf]; omega
        · rw [if_neg (by omega)] at HE
          obtain ⟨q, hq⟩ : ∃ q, q = nodeP Y X := ⟨_, rfl⟩
          have HL2 := hide (lists2 (unhide HSy) (unhide HBy) (unhide HSr) (unhide HOk).2)
          have HKa := hide ((Kp.refl [] wr).alloc (.cells #[.slice ay ny cy, .slice ao m cc] 22))
          have HC := hide (reftagged_any 14 _ _ q (by rw [hq, cat2]; rfl) _ (unhide HL2) (by omega) (by omega) (by simp) (by have := (unhide HOk).1; simp; omega))
          rw [← hq] at HE
          clear hq HL2
          go_wp2_with fail
          refine (unhide HC).mono ?_
          rintro ee w5 ⟨a5, m5, c5, rfl, R5, K5⟩
          have HS5 := hide R5.sl
          have HK5 := hide ((unhide HKr).trans ((unhide HKa).trans K5))
          have HK53 := hide ((unhide HKr3).trans ((unhide HKa).trans K5))
          clear R5 K5 HC HKa HSr HSy HKr HKr3 e0 e2 hcw
          go_wp2_with fail
          go_roundw
          case rel => exact ⟨n + 1, m5, c5, a5, by omega, rfl, by go_num, by rw [unhide HE]; exact unhide HS5, unhide HK5, unhide HK53⟩
          case measure => simp [intOf]; omega
      · obtain rfl : n = 4 := by omega
        have hT4 : qs.take 4 = qs := List.take_of_length_le (by have := unhide HQL; omega)
        rw [hT4, ← unhide HTT] at HSr
        have v1 := (unhide HSr).conv (P := Tryz.prog) 22 9 5 Tryz.underlying22 Tryz.underlying5 Tryz.underlying9
        have v2 := ((unhide HPu).kept (unhide HKr) (by simp)).conv (P := Tryz.prog) 22 9 5 Tryz.underlying22 Tryz.underlying5 Tryz.underlying9
        rw [← unhide HS] at v1
        rw [← unhide HT] at v2
        clear hT4 HSr e0 e2
        go_wp2_with fail
        go_ret
        exact ⟨rfl, unhide HKr⟩
end Go.Proofs.YtillhpgdlmeajaaGreatDoor

/-
  The contract of the reference's Verify of a signed checkpoint.
-/
namespace Go.Proofs.YtillhpgdlmeajaaGreatDoor
open Go.RowKit
open Go.Proofs
set_option maxRecDepth 100000 in
set_option maxHeartbeats 4000000 in
theorem rckverify_any (vpub : Value) (pub : List Int) (v : Value) (s : Sg) (b : Bool) (hb : b = s.ver pub) (w : World) (hP : Sl w vpub pub) (hPB : Bs pub) (hV : SgV w v s) (hi : -9223372036854775808 ≤ s.i ∧ s.i ≤ 9223372036854775807) :
    Calls Tryz.prog 38 #[vpub, v] w fun e w' => e = .returned (.bool b) ∧ Kp [] w w' := by
  obtain ⟨n, r, i, ps, qs⟩ := s
  obtain ⟨ar, mr, cr, ap, np, cp, aq, nq, cq, rfl, ⟨hS, hBr⟩, hSig⟩ := hV.shape
  simp only at hS hBr hSig hb hi ⊢
  have HPu := hide hP
  obtain ⟨av, cv, rfl, -⟩ := hP
  obtain ⟨nv, hnv⟩ : ∃ k, k = pub.length := ⟨_, rfl⟩
  rw [← hnv] at HPu ⊢
  obtain ⟨g1, hg1⟩ : ∃ g, g = w.heap.size := ⟨_, rfl⟩
  obtain ⟨w0, hw0⟩ : ∃ w0, w0 = w.alloc (.cells #[.int .i64 n, .slice ar mr cr, .int .i64 i, .slice ap np cp, .slice aq nq cq] 72) := ⟨_, rfl⟩
  have K0 : Kp [] w w0 := by rw [hw0]; exact (Kp.refl [] w).alloc _
  have G0 : w0.heap[g1]? = some (.cells #[.int .i64 n, .slice ar mr cr, .int .i64 i, .slice ap np cp, .slice aq nq cq] 72 (0, 0)) := by rw [hw0, hg1]; exact heap_alloc_new w _
  have HD : Hid (∀ w', Kp [] w0.drew w' → Kp [] w w') := fun w' k' => K0.trans ((kp_drew w0).trans k')
  have HST : Hid (∀ w', Kp [] w0.drew w' → w'.heap[g1]? = some (.cells #[.int .i64 n, .slice ar mr cr, .int .i64 i, .slice ap np cp, .slice aq nq cq] 72 (0, 0))) := fun w' k' => ((kp_drew w0).trans k').heap G0 (by simp)
  have HCK : Hid (∀ w', Kp [] w0.drew w' → CkV w' (.agg #[.int .i64 n, .slice ar mr cr]) n r) := fun w' k' => ⟨ar, mr, cr, rfl, hS.kept (unhide HD w' k') (by simp), hBr⟩
  have HSV : Hid (∀ w', Kp [] w0.drew w' → SigV w' (.agg #[.int .i64 i, .slice ap np cp, .slice aq nq cq]) i ps qs) := fun w' k' => hSig.kept (unhide HD w' k')
  have HPW : Hid (∀ w', Kp [] w0.drew w' → Sl w' (.slice av nv cv) pub) := fun w' k' => (unhide HPu).kept (unhide HD w' k') (by simp)

  obtain ⟨q, hq⟩ : ∃ q, q = rgtC n r := ⟨_, rfl⟩
  obtain ⟨B, hB⟩ : ∃ B, B = bodC n r := ⟨_, rfl⟩
  obtain ⟨bb, hbb⟩ : ∃ x, x = verP pub B i ps qs := ⟨_, rfl⟩
  have hb2 : b = (q && bb) := by rw [hb, hbb, hB, hq]; rfl
  have HB := hide hb2
  have HQ := hide hq
  have HBB := hide hB
  have HVB := hide hbb
  have HBS : Hid (Bs B) := hide (by rw [hB]; exact bodC_bs n r hBr)
  have HBL : Hid (B.length ≤ 1000) := hide (by rw [hB]; have := bodC_le n r; omega)
  have HPB := hide hPB
  have HI := hide hi
  have HW0 := hide hw0
  have HG1 := hide hg1
  clear hb hb2 hq hB hbb hS hBr hSig hPB hV hnv hw0 hg1 K0 G0 HPu hi
  cases q
  · have HE : Hid (b = false) := hide (by rw [unhide HB]; rfl)
    clear HB
    go_enter Tryz.func38, Tryz.ntmps38
    go_wp2_with fail
    rw [← unhide HW0, ← unhide HG1]
    refine region_grow Tryz.mixed [Is (.pointer (some ⟨g1, 0, none⟩)), Is (.agg #[.int .i64 n, .slice ar mr cr]), Is (.bool false), Is (.bool false), Is (undef), Is (undef), Is (undef), Is (undef), Is (undef), Is (undef), Is (undef), Is (.bool false), Is (.bool false)] [[(3, none)], [(5, some 0)], [(6, some 1)], [(7, some 2)], [(0, none), (8, some 3)], [(3, none), (8, some 3)], [(10, some 5), (8, some 3)], [(11, some 6), (8, some 3)], [(3, none), (8, some 3)], [(13, some 8), (8, some 3)], [(9, some 4), (12, some 7), (14, some 9), (8, some 3)], [(8, some 3), (15, some 10)], [(16, some 11)]] (by kernel_rfl) ?_ ?_ ?_
    · simp only [List.mem_cons, List.not_mem_nil, or_false]
      intro R hR
      rcases hR with rfl | rfl | rfl | rfl | rfl | rfl | rfl | rfl | rfl | rfl | rfl | rfl | rfl <;> first | exact stable_is _
    · refine steps_cons (fun a w hk hn => ?_) ?_
      · have h3 : a.eval (.tmp 3) = .pointer (some ⟨g1, 0, none⟩) := hn.1
        clear hn
        refine wants_plain rfl ?_
        refine grown_run (v := .pointer (some ⟨g1, 0, none⟩)) ?_ (Kp.refl _ _) rfl
        obtain ⟨ρ, hρ, hc, hf, hg⟩ := eval_is a
        rw [hρ] at h3 ⊢
        simp [go_sem, h3]
      refine steps_cons (fun a w hk hn => ?_) ?_
      · have h5 : a.eval (.tmp 5) = .pointer (some ⟨g1, 0, none⟩) := hn.1
        clear hn
        refine wants_plain rfl ?_
        exact grown_loadf 68 (.tmp 5) rfl g1 0 h5 _ _ _ _ (unhide HST w hk) [.int .i64 n, .slice ar mr cr] (flat_in rfl) Tryz.underlying68 rfl Tryz.chkSize rfl
      refine steps_cons (fun a w hk hn => ?_) ?_
      · have h6 : a.eval (.tmp 6) = .agg #[.int .i64 n, .slice ar mr cr] := hn.1
        clear hn
        refine wants_plain rfl ?_
        refine grown_call (f := 81) rfl Tryz.func81 (by kernel_rfl) (by kernel_rfl) ?_
        simp only [List.map_toArray, List.map_cons, List.map_nil, h6]
        refine (rckright_any _ n r false (unhide HQ) w (unhide HCK w hk)).mono ?_
        rintro e w' ⟨rfl, K⟩
        exact ⟨_, rfl, K, rfl⟩
      refine steps_cons (fun a w hk hn => ?_) ?_
      · have h7 : a.eval (.tmp 7) = .bool false := hn.1
        clear hn
        refine wants_plain rfl ?_
        exact grown_move (.tmp 7) rfl h7
      refine steps_cons (fun a w hk hn => ?_) ?_
      · have h0 : a.eval (.tmp 0) = .slice av nv cv := hn.1
        have h8 : a.eval (.tmp 8) = .bool false := hn.2.1
        clear hn
        exact wants_not (d := 8) rfl rfl h8 rfl
      refine steps_cons (fun a w hk hn => ?_) ?_
      · have h3 : a.eval (.tmp 3) = .pointer (some ⟨g1, 0, none⟩) := hn.1
        have h8 : a.eval (.tmp 8) = .bool false := hn.2.1
        clear hn
        exact wants_not (d := 8) rfl rfl h8 rfl
      refine steps_cons (fun a w hk hn => ?_) ?_
      · have h10 : a.eval (.tmp 10) = undef := hn.1
        have h8 : a.eval (.tmp 8) = .bool false := hn.2.1
        clear hn
        exact wants_not (d := 8) rfl rfl h8 rfl
      refine steps_cons (fun a w hk hn => ?_) ?_
      · have h11 : a.eval (.tmp 11) = undef := hn.1
        have h8 : a.eval (.tmp 8) = .bool false := hn.2.1
        clear hn
        exact wants_not (d := 8) rfl rfl h8 rfl
      refine steps_cons (fun a w hk hn => ?_) ?_
      · have h3 : a.eval (.tmp 3) = .pointer (some ⟨g1, 0, none⟩) := hn.1
        have h8 : a.eval (.tmp 8) = .bool false := hn.2.1
        clear hn
        exact wants_not (d := 8) rfl rfl h8 rfl
      refine steps_cons (fun a w hk hn => ?_) ?_
      · have h13 : a.eval (.tmp 13) = undef := hn.1
        have h8 : a.eval (.tmp 8) = .bool false := hn.2.1
        clear hn
        exact wants_not (d := 8) rfl rfl h8 rfl
      refine steps_cons (fun a w hk hn => ?_) ?_
      · have h9 : a.eval (.tmp 9) = undef := hn.1
        have h12 : a.eval (.tmp 12) = undef := hn.2.1
        have h14 : a.eval (.tmp 14) = undef := hn.2.2.1
        have h8 : a.eval (.tmp 8) = .bool false := hn.2.2.2.1
        clear hn
        exact wants_not (d := 8) rfl rfl h8 rfl
      refine steps_cons (fun a w hk hn => ?_) ?_
      · have h8 : a.eval (.tmp 8) = .bool false := hn.1
        have h15 : a.eval (.tmp 15) = undef := hn.2.1
        clear hn
        refine wants_plain rfl ?_
        exact grown_pick _ _ _ false rfl h8 rfl
      refine steps_cons (fun a w hk hn => ?_) ?_
      · have h16 : a.eval (.tmp 16) = .bool false := hn.1
        clear hn
        refine wants_plain rfl ?_
        exact grown_assign (.tmp 16) rfl h16
      exact trivial
    intro W1 hkW1
    rintro _ rfl
    rintro _ rfl
    rintro _ rfl
    rintro _ rfl
    rintro _ rfl
    rintro _ rfl
    rintro _ rfl
    rintro _ rfl
    rintro _ rfl
    rintro _ rfl
    rintro _ rfl
    rintro _ rfl
    rintro _ rfl
    refine fin_nil ?_
    simp only [Act.put, List.set_cons_zero, List.set_cons_succ, List.setIfInBounds_toArray]
    go_wp2_with fail
    go_ret
    exact ⟨by rw [unhide HE]; rfl, unhide HD W1 hkW1⟩
  · have HE : Hid (b = bb) := hide (by rw [unhide HB]; rfl)
    clear HB
    go_enter Tryz.func38, Tryz.ntmps38
    go_wp2_with fail
    rw [← unhide HW0, ← unhide HG1]
    refine region_grow Tryz.mixed [Is (.pointer (some ⟨g1, 0, none⟩)), Is (.agg #[.int .i64 n, .slice ar mr cr]), Is (.bool true), Is (.bool true), Is (.slice av nv cv), Is (.pointer (some ⟨g1, 0, none⟩)), Is (.agg #[.int .i64 n, .slice ar mr cr]), SlT (B), Is (.pointer (some ⟨g1, 2, none⟩)), Is (.agg #[.int .i64 i, .slice ap np cp, .slice aq nq cq]), Is (.bool bb), Is (.bool bb), Is (.bool bb)] [[(3, none)], [(5, some 0)], [(6, some 1)], [(7, some 2)], [(0, none), (8, some 3)], [(3, none), (8, some 3)], [(10, some 5), (8, some 3)], [(11, some 6), (8, some 3)], [(3, none), (8, some 3)], [(13, some 8), (8, some 3)], [(9, some 4), (12, some 7), (14, some 9), (8, some 3)], [(8, some 3), (15, some 10)], [(16, some 11)]] (by kernel_rfl) ?_ ?_ ?_
    · simp only [List.mem_cons, List.not_mem_nil, or_false]
      intro R hR
      rcases hR with rfl | rfl | rfl | rfl | rfl | rfl | rfl | rfl | rfl | rfl | rfl | rfl | rfl <;> first | exact stable_is _ | exact stable_sl _
    · refine steps_cons (fun a w hk hn => ?_) ?_
      · have h3 : a.eval (.tmp 3) = .pointer (some ⟨g1, 0, none⟩) := hn.1
        clear hn
        refine wants_plain rfl ?_
        refine grown_run (v := .pointer (some ⟨g1, 0, none⟩)) ?_ (Kp.refl _ _) rfl
        obtain ⟨ρ, hρ, hc, hf, hg⟩ := eval_is a
        rw [hρ] at h3 ⊢
        simp [go_sem, h3]
      refine steps_cons (fun a w hk hn => ?_) ?_
      · have h5 : a.eval (.tmp 5) = .pointer (some ⟨g1, 0, none⟩) := hn.1
        clear hn
        refine wants_plain rfl ?_
        exact grown_loadf 68 (.tmp 5) rfl g1 0 h5 _ _ _ _ (unhide HST w hk) [.int .i64 n, .slice ar mr cr] (flat_in rfl) Tryz.underlying68 rfl Tryz.chkSize rfl
      refine steps_cons (fun a w hk hn => ?_) ?_
      · have h6 : a.eval (.tmp 6) = .agg #[.int .i64 n, .slice ar mr cr] := hn.1
        clear hn
        refine wants_plain rfl ?_
        refine grown_call (f := 81) rfl Tryz.func81 (by kernel_rfl) (by kernel_rfl) ?_
        simp only [List.map_toArray, List.map_cons, List.map_nil, h6]
        refine (rckright_any _ n r true (unhide HQ) w (unhide HCK w hk)).mono ?_
        rintro e w' ⟨rfl, K⟩
        exact ⟨_, rfl, K, rfl⟩
      refine steps_cons (fun a w hk hn => ?_) ?_
      · have h7 : a.eval (.tmp 7) = .bool true := hn.1
        clear hn
        refine wants_plain rfl ?_
        exact grown_move (.tmp 7) rfl h7
      refine steps_cons (fun a w hk hn => ?_) ?_
      · have h0 : a.eval (.tmp 0) = .slice av nv cv := hn.1
        have h8 : a.eval (.tmp 8) = .bool true := hn.2.1
        clear hn
        refine wants_guard (d := 8) rfl rfl h8 ?_
        exact grown_move (.tmp 0) rfl h0
      refine steps_cons (fun a w hk hn => ?_) ?_
      · have h3 : a.eval (.tmp 3) = .pointer (some ⟨g1, 0, none⟩) := hn.1
        have h8 : a.eval (.tmp 8) = .bool true := hn.2.1
        clear hn
        refine wants_guard (d := 8) rfl rfl h8 ?_
        refine grown_run (v := .pointer (some ⟨g1, 0, none⟩)) ?_ (Kp.refl _ _) rfl
        obtain ⟨ρ, hρ, hc, hf, hg⟩ := eval_is a
        rw [hρ] at h3 ⊢
        simp [go_sem, h3]
      refine steps_cons (fun a w hk hn => ?_) ?_
      · have h10 : a.eval (.tmp 10) = .pointer (some ⟨g1, 0, none⟩) := hn.1
        have h8 : a.eval (.tmp 8) = .bool true := hn.2.1
        clear hn
        refine wants_guard (d := 8) rfl rfl h8 ?_
        exact grown_loadf 68 (.tmp 10) rfl g1 0 h10 _ _ _ _ (unhide HST w hk) [.int .i64 n, .slice ar mr cr] (flat_in rfl) Tryz.underlying68 rfl Tryz.chkSize rfl
      refine steps_cons (fun a w hk hn => ?_) ?_
      · have h11 : a.eval (.tmp 11) = .agg #[.int .i64 n, .slice ar mr cr] := hn.1
        have h8 : a.eval (.tmp 8) = .bool true := hn.2.1
        clear hn
        refine wants_guard (d := 8) rfl rfl h8 ?_
        refine grown_call (f := 83) rfl Tryz.func83 (by kernel_rfl) (by kernel_rfl) ?_
        simp only [List.map_toArray, List.map_cons, List.map_nil, h11]
        refine (rckbody_any _ n r B (unhide HBB) w (unhide HCK w hk)).mono ?_
        rintro e w' ⟨ao, m, c, rfl, R, K⟩
        exact ⟨_, rfl, K, R⟩
      refine steps_cons (fun a w hk hn => ?_) ?_
      · have h3 : a.eval (.tmp 3) = .pointer (some ⟨g1, 0, none⟩) := hn.1
        have h8 : a.eval (.tmp 8) = .bool true := hn.2.1
        clear hn
        refine wants_guard (d := 8) rfl rfl h8 ?_
        refine grown_run (v := .pointer (some ⟨g1, 2, none⟩)) ?_ (Kp.refl _ _) rfl
        obtain ⟨ρ, hρ, hc, hf, hg⟩ := eval_is a
        rw [hρ] at h3 ⊢
        simp [go_sem, h3]
      refine steps_cons (fun a w hk hn => ?_) ?_
      · have h13 : a.eval (.tmp 13) = .pointer (some ⟨g1, 2, none⟩) := hn.1
        have h8 : a.eval (.tmp 8) = .bool true := hn.2.1
        clear hn
        refine wants_guard (d := 8) rfl rfl h8 ?_
        exact grown_loadf 70 (.tmp 13) rfl g1 2 h13 _ _ _ _ (unhide HST w hk) [.int .i64 i, .slice ap np cp, .slice aq nq cq] (flat_in rfl) Tryz.underlying70 rfl Tryz.sigSize rfl
      refine steps_cons (fun a w hk hn => ?_) ?_
      · have h9 : a.eval (.tmp 9) = .slice av nv cv := hn.1
        have h12 : Sl w (a.eval (.tmp 12)) (B) := hn.2.1
        have h14 : a.eval (.tmp 14) = .agg #[.int .i64 i, .slice ap np cp, .slice aq nq cq] := hn.2.2.1
        have h8 : a.eval (.tmp 8) = .bool true := hn.2.2.2.1
        clear hn
        refine wants_guard (d := 8) rfl rfl h8 ?_
        refine grown_call (f := 82) rfl Tryz.func82 (by kernel_rfl) (by kernel_rfl) ?_
        simp only [List.map_toArray, List.map_cons, List.map_nil, h9, h14]
        refine (refverify_any _ pub _ B _ i ps qs bb (unhide HVB) w (unhide HPW w hk) (unhide HPB) h12 (unhide HBS) (unhide HBL) (unhide HSV w hk) (unhide HI)).mono ?_
        rintro e w' ⟨rfl, K⟩
        exact ⟨_, rfl, K, rfl⟩
      refine steps_cons (fun a w hk hn => ?_) ?_
      · have h8 : a.eval (.tmp 8) = .bool true := hn.1
        have h15 : a.eval (.tmp 15) = .bool bb := hn.2.1
        clear hn
        refine wants_plain rfl ?_
        exact grown_pick _ _ _ true rfl h8 h15
      refine steps_cons (fun a w hk hn => ?_) ?_
      · have h16 : a.eval (.tmp 16) = .bool bb := hn.1
        clear hn
        refine wants_plain rfl ?_
        exact grown_assign (.tmp 16) rfl h16
      exact trivial
    intro W1 hkW1
    rintro _ rfl
    rintro _ rfl
    rintro _ rfl
    rintro _ rfl
    rintro _ rfl
    rintro _ rfl
    rintro _ rfl
    intro v12 h12
    rintro _ rfl
    rintro _ rfl
    rintro _ rfl
    rintro _ rfl
    rintro _ rfl
    refine fin_nil ?_
    simp only [Act.put, List.set_cons_zero, List.set_cons_succ, List.setIfInBounds_toArray]
    go_wp2_with fail
    go_ret
    exact ⟨by rw [unhide HE]; rfl, unhide HD W1 hkW1⟩
end Go.Proofs.YtillhpgdlmeajaaGreatDoor
