/-
  What chapter 4 fixes, as plain functions of lists of numbers.
-/
import Derived.Test.YtioflclfgkcpfaaDoorKHTag
namespace Go.Proofs.YtioflclfgkcpfaaDoor
open Go.RowKit

def be4 (n : Int) : List Int := [n / 16777216 % 256, n / 65536 % 256, n / 256 % 256, n % 256]
theorem be4_bs (n : Int) : Bs (be4 n) := by
  intro b hb
  simp only [be4, List.mem_cons, List.not_mem_nil, or_false] at hb
  rcases hb with rfl | rfl | rfl | rfl <;> omega
def secP (seed : List Int) (key bit side : Int) : List Int := sha (10 :: (seed ++ (be4 key ++ [bit % 256, side % 256])))
def shnP (seed : List Int) (key bit side : Int) : List Int := sha (11 :: secP seed key bit side)
def digP (msg : List Int) : Int := val ((sha (13 :: msg)).take 4)
/-- which side of bit j a digest has. -/
def sdP (d : Int) (j : Nat) : Nat := (d / 2 ^ (31 - j) % 2).toNat
theorem sdP_lt (d : Int) (j : Nat) : sdP d j < 2 := by unfold sdP; omega
/-- the part at place i of a key: its secret where c says so. -/
def ptP (seed : List Int) (key : Int) (c : Nat → Nat → Bool) (i : Nat) : List Int :=
  if c (i / 2) (i % 2) then secP seed key (i / 2 : Nat) (i % 2 : Nat) else shnP seed key (i / 2 : Nat) (i % 2 : Nat)
def ptsP (seed : List Int) (key : Int) (c : Nat → Nat → Bool) (n : Nat) : List (List Int) := (List.range n).map (ptP seed key c)
theorem ptsP_succ (seed : List Int) (key : Int) (c : Nat → Nat → Bool) (n : Nat) : ptsP seed key c (n + 1) = ptsP seed key c n ++ [ptP seed key c n] := by
  simp [ptsP, List.range_succ]
def noneC (_ _ : Nat) : Bool := false
def digC (d : Int) (j s : Nat) : Bool := sdP d j == s
def pubP (seed : List Int) (key : Int) : List Int := sha (12 :: (ptsP seed key noneC 64).flatten)
def sgnP (seed : List Int) (key : Int) (d : Int) : List (List Int) := ptsP seed key (digC d) 64
/-- a part as Root takes it. -/
def rtP (d : Int) (i : Nat) (x : List Int) : List Int := if digC d (i / 2) (i % 2) then sha (11 :: x) else x
def rtsP (d : Int) (l : List (List Int)) : List (List Int) := l.mapIdx (rtP d)
def rootP (d : Int) (l : List (List Int)) : List Int := sha (12 :: (rtsP d l).flatten)
/-- is this what a signature's parts look like? -/
def areP (l : List (List Int)) : Bool := l.length == 64 && l.all (fun x => x.length == 32)

theorem secP_len (seed : List Int) (key bit side : Int) : (secP seed key bit side).length = 32 := sha_len _
theorem shnP_len (seed : List Int) (key bit side : Int) : (shnP seed key bit side).length = 32 := sha_len _
theorem ptP_len (seed : List Int) (key : Int) (c : Nat → Nat → Bool) (i : Nat) : (ptP seed key c i).length = 32 := by
  unfold ptP; split
  · exact secP_len _ _ _ _
  · exact shnP_len _ _ _ _
theorem ptP_bs (seed : List Int) (key : Int) (c : Nat → Nat → Bool) (i : Nat) : Bs (ptP seed key c i) := by
  unfold ptP secP shnP; split <;> exact sha_bs _
theorem pubP_len (seed : List Int) (key : Int) : (pubP seed key).length = 32 := sha_len _
theorem ptsP_len (seed : List Int) (key : Int) (c : Nat → Nat → Bool) (n : Nat) : (ptsP seed key c n).length = n := by simp [ptsP]
theorem rtsP_sgn (seed : List Int) (key d : Int) : rtsP d (sgnP seed key d) = ptsP seed key noneC 64 := by
  unfold rtsP sgnP ptsP
  apply List.ext_getElem
  · simp
  · intro i h1 h2
    simp only [List.getElem_mapIdx, List.getElem_map, List.getElem_range]
    unfold rtP ptP noneC
    by_cases h : digC d (i / 2) (i % 2)
    · simp [h, shnP]
    · simp [h]
theorem rootP_sgn (seed : List Int) (key d : Int) : rootP d (sgnP seed key d) = pubP seed key := by
  unfold rootP pubP
  rw [rtsP_sgn]
theorem areP_sgn (seed : List Int) (key d : Int) : areP (sgnP seed key d) = true := by
  unfold areP sgnP
  simp [ptsP_len]
  simp [ptsP, ptP_len]
theorem digP_bd (msg : List Int) : 0 ≤ digP msg ∧ digP msg ≤ 4294967295 := by
  have h := val_bd ((sha (13 :: msg)).take 4) (fun b hb => sha_bs _ b (List.mem_of_mem_take hb))
  rw [show ((sha (13 :: msg)).take 4).length = 4 by simp [sha_len]] at h
  unfold digP
  omega

theorem or_nat (k x y : Nat) (hy : y < 2 ^ k) (hx : 2 ^ k * x + y < 4294967296) : bits .or .u32 ((2 ^ k * x : Nat) : Int) (y : Int) = ((2 ^ k * x + y : Nat) : Int) := by
  have e1 : (BitVec.ofInt 32 ((2 ^ k * x : Nat) : Int)).toNat = 2 ^ k * x := by
    rw [BitVec.ofInt_natCast, BitVec.toNat_ofNat]; exact Nat.mod_eq_of_lt (by omega)
  have e2 : (BitVec.ofInt 32 (y : Int)).toNat = y := by
    rw [BitVec.ofInt_natCast, BitVec.toNat_ofNat]; exact Nat.mod_eq_of_lt (by omega)
  show IntKind.u32.wrap ((BitVec.ofInt 32 ((2 ^ k * x : Nat) : Int) ||| BitVec.ofInt 32 (y : Int)).toNat : Int) = _
  rw [BitVec.toNat_or, e1, e2, ← Nat.two_pow_add_eq_or_of_lt hy x]
  obtain ⟨z, hz⟩ : ∃ z, z = 2 ^ k * x + y := ⟨_, rfl⟩
  rw [← hz] at hx ⊢
  simp [IntKind.wrap, IntKind.signed, IntKind.bits]
  omega
theorem val4 (a b c d : Int) : val [a, b, c, d] = a * 16777216 + b * 65536 + c * 256 + d := by simp [val]; omega
theorem wd_val (a b c d : Int) (ha : 0 ≤ a ∧ a ≤ 255) (hb : 0 ≤ b ∧ b ≤ 255) (hc : 0 ≤ c ∧ c ≤ 255) (hd : 0 ≤ d ∧ d ≤ 255) : wd a b c d = val [a, b, c, d] := by
  obtain ⟨x, rfl⟩ := Int.eq_ofNat_of_zero_le ha.1
  obtain ⟨y, rfl⟩ := Int.eq_ofNat_of_zero_le hb.1
  obtain ⟨z, rfl⟩ := Int.eq_ofNat_of_zero_le hc.1
  obtain ⟨u, rfl⟩ := Int.eq_ofNat_of_zero_le hd.1
  rw [val4]
  unfold wd
  have e1 := or_nat 24 x (y * 65536) (by omega) (by omega)
  have e2 := or_nat 16 (x * 256 + y) (z * 256) (by omega) (by omega)
  have e3 := or_nat 8 (x * 65536 + y * 256 + z) u (by omega) (by omega)
  rw [show ((x : Int) * 16777216) = ((2 ^ 24 * x : Nat) : Int) by omega, show ((y : Int) * 65536) = ((y * 65536 : Nat) : Int) by omega, e1,
    show ((2 ^ 24 * x + y * 65536 : Nat) : Int) = ((2 ^ 16 * (x * 256 + y) : Nat) : Int) by omega, show ((z : Int) * 256) = ((z * 256 : Nat) : Int) by omega, e2,
    show ((2 ^ 16 * (x * 256 + y) + z * 256 : Nat) : Int) = ((2 ^ 8 * (x * 65536 + y * 256 + z) : Nat) : Int) by omega, e3]
  omega
end Go.Proofs.YtioflclfgkcpfaaDoor
