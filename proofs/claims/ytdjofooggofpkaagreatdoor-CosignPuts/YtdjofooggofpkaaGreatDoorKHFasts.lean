/-
  SHA-256 over natural numbers, so typed that the kernel reckons it quickly; and that it tells what HSpec's plain function tells.
-/
import Derived.Test.YtdjofooggofpkaaGreatDoorKHBases
import Derived.Test.YtdjofooggofpkaaGreatDoorKSSpec
import Derived.Test.YtdjofooggofpkaaGreatDoorKXKeep
namespace Go.Proofs.YtdjofooggofpkaaGreatDoor
open Go.RowKit
set_option linter.unusedVariables false

def fBS0 (x : Nat) : Nat := (fun y => Nat.mod (Nat.xor (Nat.xor (Nat.shiftRight y 2) (Nat.shiftRight y 13)) (Nat.shiftRight y 22)) 4294967296) (Nat.mul x 4294967297)
def fBS1 (x : Nat) : Nat := (fun y => Nat.mod (Nat.xor (Nat.xor (Nat.shiftRight y 6) (Nat.shiftRight y 11)) (Nat.shiftRight y 25)) 4294967296) (Nat.mul x 4294967297)
def fSS0 (x : Nat) : Nat := (fun y => Nat.xor (Nat.mod (Nat.xor (Nat.shiftRight y 7) (Nat.shiftRight y 18)) 4294967296) (Nat.shiftRight x 3)) (Nat.mul x 4294967297)
def fSS1 (x : Nat) : Nat := (fun y => Nat.xor (Nat.mod (Nat.xor (Nat.shiftRight y 17) (Nat.shiftRight y 19)) 4294967296) (Nat.shiftRight x 10)) (Nat.mul x 4294967297)
def fCH (e f g : Nat) : Nat := Nat.xor g (Nat.land e (Nat.xor f g))
def fMJ (a b c : Nat) : Nat := Nat.lor (Nat.land a b) (Nat.land c (Nat.lor a b))
/-- n is reckoned ahead of k. -/
noncomputable def fz {α : Type} (n : Nat) (k : Nat → α) : α := Nat.rec (k 0) (fun m _ => k (Nat.succ m)) n
theorem fz_eq {α : Type} (n : Nat) (k : Nat → α) : fz n k = k n := by cases n <;> rfl
noncomputable def fgo (l : List Nat) : Nat → Nat → Nat → Nat → Nat → Nat → Nat → Nat → Nat → Nat → Nat → Nat → Nat → Nat → Nat → Nat → Nat → Nat → Nat → Nat → Nat → Nat → Nat → Nat → List Nat :=
  List.rec (motive := fun _ => Nat → Nat → Nat → Nat → Nat → Nat → Nat → Nat → Nat → Nat → Nat → Nat → Nat → Nat → Nat → Nat → Nat → Nat → Nat → Nat → Nat → Nat → Nat → Nat → List Nat) (fun a b c d e f g h w0 w1 w2 w3 w4 w5 w6 w7 w8 w9 w10 w11 w12 w13 w14 w15 => [a, b, c, d, e, f, g, h]) (fun k ks ih a b c d e f g h w0 w1 w2 w3 w4 w5 w6 w7 w8 w9 w10 w11 w12 w13 w14 w15 =>
    fz (Nat.add (Nat.add (Nat.add (Nat.add h (fBS1 e)) (fCH e f g)) k) w0) fun t =>
    fz (Nat.mod (Nat.add t (Nat.add (fBS0 a) (fMJ a b c))) 4294967296) fun na =>
    fz (Nat.mod (Nat.add d t) 4294967296) fun ne =>
    fz (Nat.mod (Nat.add (Nat.add (Nat.add (fSS1 w14) w9) (fSS0 w1)) w0) 4294967296) fun nw =>
    ih na a b c ne e f g w1 w2 w3 w4 w5 w6 w7 w8 w9 w10 w11 w12 w13 w14 w15 nw) l
def constsN : List Nat := [1116352408, 1899447441, 3049323471, 3921009573, 961987163, 1508970993, 2453635748, 2870763221, 3624381080, 310598401, 607225278, 1426881987, 1925078388, 2162078206, 2614888103, 3248222580, 3835390401, 4022224774, 264347078, 604807628, 770255983, 1249150122, 1555081692, 1996064986, 2554220882, 2821834349, 2952996808, 3210313671, 3336571891, 3584528711, 113926993, 338241895, 666307205, 773529912, 1294757372, 1396182291, 1695183700, 1986661051, 2177026350, 2456956037, 2730485921, 2820302411, 3259730800, 3345764771, 3516065817, 3600352804, 4094571909, 275423344, 430227734, 506948616, 659060556, 883997877, 958139571, 1322822218, 1537002063, 1747873779, 1955562222, 2024104815, 2227730452, 2361852424, 2428436474, 2756734187, 3204031479, 3329325298]

theorem bits_xor_nat (x y : Nat) (hx : x < 4294967296) (hy : y < 4294967296) : bits .xor .u32 (x : Int) (y : Int) = ((x ^^^ y : Nat) : Int) := by
  show IntKind.u32.wrap ((BitVec.ofInt 32 (x : Int) ^^^ BitVec.ofInt 32 (y : Int)).toNat : Int) = _
  have h : x ^^^ y < 2 ^ 32 := Nat.xor_lt_two_pow (by omega) (by omega)
  rw [BitVec.ofInt_natCast, BitVec.ofInt_natCast, BitVec.toNat_xor, BitVec.toNat_ofNat, BitVec.toNat_ofNat, Nat.mod_eq_of_lt (by omega), Nat.mod_eq_of_lt (by omega)]
  simp only [IntKind.wrap, IntKind.signed, IntKind.bits, Bool.false_and]
  simp
  omega
theorem bits_and_nat (x y : Nat) (hx : x < 4294967296) (hy : y < 4294967296) : bits .and .u32 (x : Int) (y : Int) = ((x &&& y : Nat) : Int) := by
  show IntKind.u32.wrap ((BitVec.ofInt 32 (x : Int) &&& BitVec.ofInt 32 (y : Int)).toNat : Int) = _
  have h : x &&& y < 2 ^ 32 := Nat.and_lt_two_pow _ (by omega)
  rw [BitVec.ofInt_natCast, BitVec.ofInt_natCast, BitVec.toNat_and, BitVec.toNat_ofNat, BitVec.toNat_ofNat, Nat.mod_eq_of_lt (by omega), Nat.mod_eq_of_lt (by omega)]
  simp only [IntKind.wrap, IntKind.signed, IntKind.bits, Bool.false_and]
  simp
  omega
theorem bits_or_nat (x y : Nat) (hx : x < 4294967296) (hy : y < 4294967296) : bits .or .u32 (x : Int) (y : Int) = ((x ||| y : Nat) : Int) := by
  show IntKind.u32.wrap ((BitVec.ofInt 32 (x : Int) ||| BitVec.ofInt 32 (y : Int)).toNat : Int) = _
  have h : x ||| y < 2 ^ 32 := Nat.or_lt_two_pow (by omega) (by omega)
  rw [BitVec.ofInt_natCast, BitVec.ofInt_natCast, BitVec.toNat_or, BitVec.toNat_ofNat, BitVec.toNat_ofNat, Nat.mod_eq_of_lt (by omega), Nat.mod_eq_of_lt (by omega)]
  simp only [IntKind.wrap, IntKind.signed, IntKind.bits, Bool.false_and]
  simp
  omega
theorem or_add (k a b : Nat) (h : b < 2 ^ k) : b ||| (2 ^ k * a) = 2 ^ k * a + b := by
  rw [Nat.or_comm, Nat.two_pow_add_eq_or_of_lt h]
theorem rot_nat (x n k : Nat) (hx : x < 4294967296) (hn : n + k = 32) (h0 : 0 < n) (h1 : 0 < k) : rot (x : Int) (n : Int) = ((x * 4294967297 / 2 ^ n % 4294967296 : Nat) : Int) := by
  have hp : 2 ^ n * 2 ^ k = 4294967296 := by rw [← Nat.pow_add, hn]
  have hpn : 0 < 2 ^ n := Nat.two_pow_pos n
  have hpk : 0 < 2 ^ k := Nat.two_pow_pos k
  have e1 : x / 2 ^ n < 2 ^ k := by rw [Nat.div_lt_iff_lt_mul hpn, Nat.mul_comm, hp]; exact hx
  have e2 : x * 2 ^ k % 4294967296 = 2 ^ k * (x % 2 ^ n) := by
    rw [← hp, Nat.mul_comm x, Nat.mul_comm (2 ^ n), Nat.mul_mod_mul_left]
  have e3 : x * 4294967297 / 2 ^ n = x * 2 ^ k + x / 2 ^ n := by
    rw [show x * 4294967297 = x + 2 ^ n * (x * 2 ^ k) by rw [show 4294967297 = 2 ^ n * 2 ^ k + 1 by omega, Nat.mul_add, Nat.mul_one, Nat.add_comm, Nat.mul_left_comm], Nat.add_mul_div_left _ _ hpn, Nat.add_comm]
  have e5 : 2 ^ k * (x % 2 ^ n) + x / 2 ^ n < 4294967296 := by
    have h3 : x % 2 ^ n + 1 ≤ 2 ^ n := Nat.mod_lt _ hpn
    have h4 := Nat.mul_le_mul_left (2 ^ k) h3
    rw [Nat.mul_add, Nat.mul_one, Nat.mul_comm (2 ^ k) (2 ^ n), hp] at h4
    omega
  have e4 : x * 4294967297 / 2 ^ n % 4294967296 = 2 ^ k * (x % 2 ^ n) + x / 2 ^ n := by
    rw [e3, Nat.add_mod, e2, Nat.mod_eq_of_lt (show x / 2 ^ n < 4294967296 by have := Nat.div_le_self x (2 ^ n); omega), Nat.mod_eq_of_lt e5]
  rw [e4, ← or_add k _ _ e1, ← e2]
  have hk : (32 - (n : Int)).toNat = k := by omega
  unfold rot
  rw [hk, Int.toNat_natCast]
  have := bits_or_nat (x / 2 ^ n) (x * 2 ^ k % 4294967296) (by have := Nat.div_le_self x (2 ^ n); omega) (Nat.mod_lt _ (by omega))
  rw [← this]
  congr 1
theorem mod_xor (a b : Nat) : (a ^^^ b) % 4294967296 = (a % 4294967296) ^^^ (b % 4294967296) := Nat.xor_mod_two_pow (n := 32)
theorem shr_div (x n : Nat) : Nat.shiftRight x n = x / 2 ^ n := Nat.shiftRight_eq_div_pow x n
theorem bS0_nat (x : Nat) (hx : x < 4294967296) : bS0 (x : Int) = (fBS0 x : Int) := by
  show bits .xor .u32 (bits .xor .u32 (rot x (2 : Nat)) (rot x (13 : Nat))) (rot x (22 : Nat)) = ((((Nat.shiftRight (x * 4294967297) 2 ^^^ Nat.shiftRight (x * 4294967297) 13) ^^^ Nat.shiftRight (x * 4294967297) 22) % 4294967296 : Nat) : Int)
  rw [rot_nat x 2 30 hx rfl (by omega) (by omega), rot_nat x 13 19 hx rfl (by omega) (by omega), rot_nat x 22 10 hx rfl (by omega) (by omega), bits_xor_nat _ _ (Nat.mod_lt _ (by omega)) (Nat.mod_lt _ (by omega)), ← mod_xor, bits_xor_nat _ _ (Nat.mod_lt _ (by omega)) (Nat.mod_lt _ (by omega)), ← mod_xor, shr_div, shr_div, shr_div]
theorem bS1_nat (x : Nat) (hx : x < 4294967296) : bS1 (x : Int) = (fBS1 x : Int) := by
  show bits .xor .u32 (bits .xor .u32 (rot x (6 : Nat)) (rot x (11 : Nat))) (rot x (25 : Nat)) = ((((Nat.shiftRight (x * 4294967297) 6 ^^^ Nat.shiftRight (x * 4294967297) 11) ^^^ Nat.shiftRight (x * 4294967297) 25) % 4294967296 : Nat) : Int)
  rw [rot_nat x 6 26 hx rfl (by omega) (by omega), rot_nat x 11 21 hx rfl (by omega) (by omega), rot_nat x 25 7 hx rfl (by omega) (by omega), bits_xor_nat _ _ (Nat.mod_lt _ (by omega)) (Nat.mod_lt _ (by omega)), ← mod_xor, bits_xor_nat _ _ (Nat.mod_lt _ (by omega)) (Nat.mod_lt _ (by omega)), ← mod_xor, shr_div, shr_div, shr_div]
theorem sS0_nat (x : Nat) (hx : x < 4294967296) : sS0 (x : Int) = (fSS0 x : Int) := by
  show bits .xor .u32 (bits .xor .u32 (rot x (7 : Nat)) (rot x (18 : Nat))) ((x / 8 : Nat) : Int) = ((((Nat.shiftRight (x * 4294967297) 7 ^^^ Nat.shiftRight (x * 4294967297) 18) % 4294967296) ^^^ Nat.shiftRight x 3 : Nat) : Int)
  rw [rot_nat x 7 25 hx rfl (by omega) (by omega), rot_nat x 18 14 hx rfl (by omega) (by omega), bits_xor_nat _ _ (Nat.mod_lt _ (by omega)) (Nat.mod_lt _ (by omega)), ← mod_xor, bits_xor_nat _ _ (Nat.mod_lt _ (by omega)) (by omega), shr_div, shr_div, shr_div]
theorem sS1_nat (x : Nat) (hx : x < 4294967296) : sS1 (x : Int) = (fSS1 x : Int) := by
  show bits .xor .u32 (bits .xor .u32 (rot x (17 : Nat)) (rot x (19 : Nat))) ((x / 1024 : Nat) : Int) = ((((Nat.shiftRight (x * 4294967297) 17 ^^^ Nat.shiftRight (x * 4294967297) 19) % 4294967296) ^^^ Nat.shiftRight x 10 : Nat) : Int)
  rw [rot_nat x 17 15 hx rfl (by omega) (by omega), rot_nat x 19 13 hx rfl (by omega) (by omega), bits_xor_nat _ _ (Nat.mod_lt _ (by omega)) (Nat.mod_lt _ (by omega)), ← mod_xor, bits_xor_nat _ _ (Nat.mod_lt _ (by omega)) (by omega), shr_div, shr_div, shr_div]
theorem bit_of {x : Nat} (hx : x < 4294967296) {i : Nat} (hi : ¬ i < 32) : x.testBit i = false := Nat.testBit_lt_two_pow (Nat.lt_of_lt_of_le (show x < 2 ^ 32 by omega) (Nat.pow_le_pow_right (by omega) (by omega)))
theorem chs_nat (e f g : Nat) (he : e < 4294967296) (hf : f < 4294967296) (hg : g < 4294967296) : chs (e : Int) f g = (fCH e f g : Int) := by
  have hm : IntKind.u32.max = ((2 ^ 32 - 1 : Nat) : Int) := by decide
  unfold chs
  rw [hm, bits_xor_nat _ _ (by omega) he, bits_and_nat _ _ he hf, bits_and_nat _ _ (Nat.xor_lt_two_pow (n := 32) (by omega) (by omega)) hg, bits_xor_nat _ _ (Nat.and_lt_two_pow (n := 32) _ (by omega)) (Nat.and_lt_two_pow (n := 32) _ (by omega))]
  congr 1
  show _ = g ^^^ (e &&& (f ^^^ g))
  refine Nat.eq_of_testBit_eq fun i => ?_
  simp only [Nat.testBit_xor, Nat.testBit_and, Nat.testBit_two_pow_sub_one]
  by_cases hi : i < 32
  · simp only [hi, decide_true]
    cases e.testBit i <;> cases f.testBit i <;> cases g.testBit i <;> rfl
  · rw [bit_of he hi, bit_of hf hi, bit_of hg hi]
    simp
theorem maj_nat (a b c : Nat) (ha : a < 4294967296) (hb : b < 4294967296) (hc : c < 4294967296) : maj (a : Int) b c = (fMJ a b c : Int) := by
  unfold maj
  rw [bits_and_nat _ _ ha hb, bits_and_nat _ _ ha hc, bits_and_nat _ _ hb hc, bits_xor_nat _ _ (Nat.and_lt_two_pow (n := 32) _ (by omega)) (Nat.and_lt_two_pow (n := 32) _ (by omega)), bits_xor_nat _ _ (Nat.xor_lt_two_pow (n := 32) (Nat.and_lt_two_pow (n := 32) _ (by omega)) (Nat.and_lt_two_pow (n := 32) _ (by omega))) (Nat.and_lt_two_pow (n := 32) _ (by omega))]
  congr 1
  show _ = (a &&& b) ||| (c &&& (a ||| b))
  refine Nat.eq_of_testBit_eq fun i => ?_
  simp only [Nat.testBit_xor, Nat.testBit_and, Nat.testBit_or]
  cases a.testBit i <;> cases b.testBit i <;> cases c.testBit i <;> rfl
theorem schF_len (bs : List Int) : ∀ n, (sch bs n).length = n
  | 0 => rfl
  | n + 1 => by unfold sch; rw [List.length_append, schF_len bs n]; rfl
/-- the words of a block's schedule, without end. -/
def schW (bs : List Int) (i : Nat) : Int := if i < 16 then wordAt bs i else nextW (sch bs i) i
theorem sch_at (bs : List Int) : ∀ n j, j < n → (sch bs n).getD j 0 = schW bs j
  | 0, j, h => by omega
  | n + 1, j, h => by
    have hl := schF_len bs n
    unfold sch
    by_cases hj : j < n
    · rw [List.getD_eq_getElem?_getD, List.getElem?_append_left (by omega), ← List.getD_eq_getElem?_getD]
      exact sch_at bs n j hj
    · have e : j = n := by omega
      subst e
      rw [List.getD_eq_getElem?_getD, List.getElem?_append_right (by omega), hl, Nat.sub_self]
      rfl
theorem schW_next (bs : List Int) (n : Nat) : schW bs (n + 16) = ad (ad (ad (sS1 (schW bs (n + 14))) (schW bs (n + 9))) (sS0 (schW bs (n + 1)))) (schW bs n) := by
  rw [schW, if_neg (by omega), nextW, show n + 16 - 2 = n + 14 by omega, show n + 16 - 7 = n + 9 by omega, show n + 16 - 15 = n + 1 by omega, show n + 16 - 16 = n by omega, sch_at _ _ _ (by omega), sch_at _ _ _ (by omega), sch_at _ _ _ (by omega), sch_at _ _ _ (by omega)]
theorem consts_nat : ∀ n < 64, consts.getD n 0 = ((constsN.getD n 0 : Nat) : Int) := by decide +kernel
theorem fgo_cons (k : Nat) (ks : List Nat) (a b c d e f g h w0 w1 w2 w3 w4 w5 w6 w7 w8 w9 w10 w11 w12 w13 w14 w15 : Nat) : fgo (k :: ks) a b c d e f g h w0 w1 w2 w3 w4 w5 w6 w7 w8 w9 w10 w11 w12 w13 w14 w15 = fgo ks ((((((h + fBS1 e) + fCH e f g) + k) + w0) + (fBS0 a + fMJ a b c)) % 4294967296) a b c ((d + ((((h + fBS1 e) + fCH e f g) + k) + w0)) % 4294967296) e f g w1 w2 w3 w4 w5 w6 w7 w8 w9 w10 w11 w12 w13 w14 w15 ((((fSS1 w14 + w9) + fSS0 w1) + w0) % 4294967296) := by
  simp only [fgo, fz_eq]
  rfl
theorem fgo_eq (bs s : List Int) : ∀ (l : List Nat) (n : Nat), n + l.length = 64 → l = constsN.drop n → ∀ (a b c d e f g h w0 w1 w2 w3 w4 w5 w6 w7 w8 w9 w10 w11 w12 w13 w14 w15 : Nat) (ha : a < 4294967296) (hb : b < 4294967296) (hc : c < 4294967296) (hd : d < 4294967296) (he : e < 4294967296) (hf : f < 4294967296) (hg : g < 4294967296) (hh : h < 4294967296) (hw0 : w0 < 4294967296) (hw1 : w1 < 4294967296) (hw2 : w2 < 4294967296) (hw3 : w3 < 4294967296) (hw4 : w4 < 4294967296) (hw5 : w5 < 4294967296) (hw6 : w6 < 4294967296) (hw7 : w7 < 4294967296) (hw8 : w8 < 4294967296) (hw9 : w9 < 4294967296) (hw10 : w10 < 4294967296) (hw11 : w11 < 4294967296) (hw12 : w12 < 4294967296) (hw13 : w13 < 4294967296) (hw14 : w14 < 4294967296) (hw15 : w15 < 4294967296), rds (sch bs 64) s n = [(a : Int), (b : Int), (c : Int), (d : Int), (e : Int), (f : Int), (g : Int), (h : Int)] → ∀ (q0 : schW bs (n + 0) = (w0 : Int)) (q1 : schW bs (n + 1) = (w1 : Int)) (q2 : schW bs (n + 2) = (w2 : Int)) (q3 : schW bs (n + 3) = (w3 : Int)) (q4 : schW bs (n + 4) = (w4 : Int)) (q5 : schW bs (n + 5) = (w5 : Int)) (q6 : schW bs (n + 6) = (w6 : Int)) (q7 : schW bs (n + 7) = (w7 : Int)) (q8 : schW bs (n + 8) = (w8 : Int)) (q9 : schW bs (n + 9) = (w9 : Int)) (q10 : schW bs (n + 10) = (w10 : Int)) (q11 : schW bs (n + 11) = (w11 : Int)) (q12 : schW bs (n + 12) = (w12 : Int)) (q13 : schW bs (n + 13) = (w13 : Int)) (q14 : schW bs (n + 14) = (w14 : Int)) (q15 : schW bs (n + 15) = (w15 : Int)), rds (sch bs 64) s 64 = (fgo l a b c d e f g h w0 w1 w2 w3 w4 w5 w6 w7 w8 w9 w10 w11 w12 w13 w14 w15).map (fun x : Nat => (x : Int)) ∧ (fgo l a b c d e f g h w0 w1 w2 w3 w4 w5 w6 w7 w8 w9 w10 w11 w12 w13 w14 w15).length = 8 ∧ ∀ x ∈ fgo l a b c d e f g h w0 w1 w2 w3 w4 w5 w6 w7 w8 w9 w10 w11 w12 w13 w14 w15, x < 4294967296 := by
  intro l
  induction l with
  | nil =>
    intro n hn hl a b c d e f g h w0 w1 w2 w3 w4 w5 w6 w7 w8 w9 w10 w11 w12 w13 w14 w15 ha hb hc hd he hf hg hh hw0 hw1 hw2 hw3 hw4 hw5 hw6 hw7 hw8 hw9 hw10 hw11 hw12 hw13 hw14 hw15 hr q0 q1 q2 q3 q4 q5 q6 q7 q8 q9 q10 q11 q12 q13 q14 q15
    have e : n = 64 := by simpa using hn
    subst e
    refine ⟨hr, rfl, fun x hx => ?_⟩
    have hx' : x = a ∨ x = b ∨ x = c ∨ x = d ∨ x = e ∨ x = f ∨ x = g ∨ x = h := by simpa [fgo] using hx
    rcases hx' with rfl | rfl | rfl | rfl | rfl | rfl | rfl | rfl <;> assumption
  | cons k ks ih =>
    intro n hn hl a b c d e f g h w0 w1 w2 w3 w4 w5 w6 w7 w8 w9 w10 w11 w12 w13 w14 w15 ha hb hc hd he hf hg hh hw0 hw1 hw2 hw3 hw4 hw5 hw6 hw7 hw8 hw9 hw10 hw11 hw12 hw13 hw14 hw15 hr q0 q1 q2 q3 q4 q5 q6 q7 q8 q9 q10 q11 q12 q13 q14 q15
    have hn64 : n < 64 := by simp at hn; omega
    have hk : consts.getD n 0 = (k : Int) := by
      rw [consts_nat n hn64]
      have h2 : constsN.getD n 0 = k := by
        have h3 : (constsN.drop n)[0]? = some k := by rw [← hl]; rfl
        rw [List.getElem?_drop, Nat.add_zero] at h3
        rw [List.getD, h3]; rfl
      rw [h2]
    have hks : ks = constsN.drop (n + 1) := by
      have h3 := congrArg List.tail hl
      rw [List.tail_drop] at h3
      exact h3
    rw [fgo_cons]
    have e1 := bS1_nat e he
    have e2 := chs_nat e f g he hf hg
    have e3 := bS0_nat a ha
    have e4 := maj_nat a b c ha hb hc
    have e5 := sS1_nat w14 hw14
    have e6 := sS0_nat w1 hw1
    have q16 := schW_next bs n
    rw [q14, q9, q1, show schW bs n = (w0 : Int) from q0, e5, e6] at q16
    refine ih (n + 1) (by simp at hn ⊢; omega) hks _ _ _ _ _ _ _ _ _ _ _ _ _ _ _ _ _ _ _ _ _ _ _ _ (Nat.mod_lt _ (by omega)) ha hb hc (Nat.mod_lt _ (by omega)) he hf hg hw1 hw2 hw3 hw4 hw5 hw6 hw7 hw8 hw9 hw10 hw11 hw12 hw13 hw14 hw15 (Nat.mod_lt _ (by omega)) ?_ (by rw [← q1]) (by rw [← q2]) (by rw [← q3]) (by rw [← q4]) (by rw [← q5]) (by rw [← q6]) (by rw [← q7]) (by rw [← q8]) (by rw [← q9]) (by rw [← q10]) (by rw [← q11]) (by rw [← q12]) (by rw [← q13]) (by rw [← q14]) (by rw [← q15]) ?_
    · show rnd (rds (sch bs 64) s n) (consts.getD n 0) ((sch bs 64).getD n 0) = _
      rw [hr, hk, sch_at bs 64 n hn64, show schW bs n = (w0 : Int) from q0]
      unfold rnd
      simp only [e1, e2, e3, e4]
      generalize fBS1 e = x1
      generalize fCH e f g = x2
      generalize fBS0 a = x3
      generalize fMJ a b c = x4
      simp only [List.cons.injEq, and_true, true_and]
      constructor
      · unfold ad; omega
      · unfold ad; omega
    · rw [show n + 1 + 15 = n + 16 by omega, q16]
      generalize fSS1 w14 = x1
      generalize fSS0 w1 = x2
      unfold ad
      omega

noncomputable def fadd (s r : List Nat) : List Nat :=
  match s, r with
  | [a, b, c, d, e, f, g, h], [x0, x1, x2, x3, x4, x5, x6, x7] => fz (Nat.mod (Nat.add x0 a) 4294967296) fun y0 => fz (Nat.mod (Nat.add x1 b) 4294967296) fun y1 => fz (Nat.mod (Nat.add x2 c) 4294967296) fun y2 => fz (Nat.mod (Nat.add x3 d) 4294967296) fun y3 => fz (Nat.mod (Nat.add x4 e) 4294967296) fun y4 => fz (Nat.mod (Nat.add x5 f) 4294967296) fun y5 => fz (Nat.mod (Nat.add x6 g) 4294967296) fun y6 => fz (Nat.mod (Nat.add x7 h) 4294967296) fun y7 => [y0, y1, y2, y3, y4, y5, y6, y7]
  | _, _ => []
theorem fadd_eq (s r : List Nat) (hs : s.length = 8) (hr : r.length = 8) : List.zipWith ad (r.map (fun x : Nat => (x : Int))) (s.map (fun x : Nat => (x : Int))) = (fadd s r).map (fun x : Nat => (x : Int)) ∧ (fadd s r).length = 8 ∧ ∀ x ∈ fadd s r, x < 4294967296 := by
  match s, hs, r, hr with
  | [a, b, c, d, e, f, g, h], _, [x0, x1, x2, x3, x4, x5, x6, x7], _ =>
    have efa : fadd [a, b, c, d, e, f, g, h] [x0, x1, x2, x3, x4, x5, x6, x7] = [(x0 + a) % 4294967296, (x1 + b) % 4294967296, (x2 + c) % 4294967296, (x3 + d) % 4294967296, (x4 + e) % 4294967296, (x5 + f) % 4294967296, (x6 + g) % 4294967296, (x7 + h) % 4294967296] := by
      simp only [fadd, fz_eq]
      rfl
    rw [efa]
    refine ⟨?_, rfl, fun x hx => ?_⟩
    · simp only [List.map_cons, List.map_nil, List.zipWith_cons_cons, List.zipWith_nil_left, ad, Int.natCast_emod, Int.natCast_add]
      rfl
    · have hx' : x = (x0 + a) % 4294967296 ∨ x = (x1 + b) % 4294967296 ∨ x = (x2 + c) % 4294967296 ∨ x = (x3 + d) % 4294967296 ∨ x = (x4 + e) % 4294967296 ∨ x = (x5 + f) % 4294967296 ∨ x = (x6 + g) % 4294967296 ∨ x = (x7 + h) % 4294967296 := by simpa using hx
      rcases hx' with rfl | rfl | rfl | rfl | rfl | rfl | rfl | rfl <;> exact Nat.mod_lt _ (by omega)
noncomputable def fblk (s ws : List Nat) : List Nat :=
  match s, ws with
  | [a, b, c, d, e, f, g, h], [w0, w1, w2, w3, w4, w5, w6, w7, w8, w9, w10, w11, w12, w13, w14, w15] => fadd [a, b, c, d, e, f, g, h] (fgo constsN a b c d e f g h w0 w1 w2 w3 w4 w5 w6 w7 w8 w9 w10 w11 w12 w13 w14 w15)
  | _, _ => []
theorem fblk_eq (bs : List Int) (s ws : List Nat) (hs : s.length = 8) (hsb : ∀ x ∈ s, x < 4294967296) (hw : ws.length = 16) (hwb : ∀ x ∈ ws, x < 4294967296) (hq : ∀ i < 16, wordAt bs i = ((ws.getD i 0 : Nat) : Int)) : blk (s.map (fun x : Nat => (x : Int))) bs = (fblk s ws).map (fun x : Nat => (x : Int)) ∧ (fblk s ws).length = 8 ∧ ∀ x ∈ fblk s ws, x < 4294967296 := by
  match s, hs, ws, hw with
  | [a, b, c, d, e, f, g, h], hs, [w0, w1, w2, w3, w4, w5, w6, w7, w8, w9, w10, w11, w12, w13, w14, w15], _ =>
    have hq' : ∀ i < 16, schW bs i = (([w0, w1, w2, w3, w4, w5, w6, w7, w8, w9, w10, w11, w12, w13, w14, w15].getD i 0 : Nat) : Int) := fun i hi => by rw [schW, if_pos hi]; exact hq i hi
    have efb : fblk [a, b, c, d, e, f, g, h] [w0, w1, w2, w3, w4, w5, w6, w7, w8, w9, w10, w11, w12, w13, w14, w15] = fadd [a, b, c, d, e, f, g, h] (fgo constsN a b c d e f g h w0 w1 w2 w3 w4 w5 w6 w7 w8 w9 w10 w11 w12 w13 w14 w15) := rfl
    obtain ⟨K, hK⟩ : ∃ K, K = constsN := ⟨_, rfl⟩
    rw [efb, ← hK]
    have hKl : K.length = 64 := by rw [hK]; rfl
    have hgo := fgo_eq bs ([a, b, c, d, e, f, g, h].map (fun x : Nat => (x : Int))) K 0 (by omega) (by rw [hK, List.drop_zero]) a b c d e f g h w0 w1 w2 w3 w4 w5 w6 w7 w8 w9 w10 w11 w12 w13 w14 w15 (hsb _ (by simp)) (hsb _ (by simp)) (hsb _ (by simp)) (hsb _ (by simp)) (hsb _ (by simp)) (hsb _ (by simp)) (hsb _ (by simp)) (hsb _ (by simp)) (hwb _ (by simp)) (hwb _ (by simp)) (hwb _ (by simp)) (hwb _ (by simp)) (hwb _ (by simp)) (hwb _ (by simp)) (hwb _ (by simp)) (hwb _ (by simp)) (hwb _ (by simp)) (hwb _ (by simp)) (hwb _ (by simp)) (hwb _ (by simp)) (hwb _ (by simp)) (hwb _ (by simp)) (hwb _ (by simp)) (hwb _ (by simp)) rfl ((congrArg (schW bs) (Nat.zero_add 0)).trans (hq' 0 (by omega))) ((congrArg (schW bs) (Nat.zero_add 1)).trans (hq' 1 (by omega))) ((congrArg (schW bs) (Nat.zero_add 2)).trans (hq' 2 (by omega))) ((congrArg (schW bs) (Nat.zero_add 3)).trans (hq' 3 (by omega))) ((congrArg (schW bs) (Nat.zero_add 4)).trans (hq' 4 (by omega))) ((congrArg (schW bs) (Nat.zero_add 5)).trans (hq' 5 (by omega))) ((congrArg (schW bs) (Nat.zero_add 6)).trans (hq' 6 (by omega))) ((congrArg (schW bs) (Nat.zero_add 7)).trans (hq' 7 (by omega))) ((congrArg (schW bs) (Nat.zero_add 8)).trans (hq' 8 (by omega))) ((congrArg (schW bs) (Nat.zero_add 9)).trans (hq' 9 (by omega))) ((congrArg (schW bs) (Nat.zero_add 10)).trans (hq' 10 (by omega))) ((congrArg (schW bs) (Nat.zero_add 11)).trans (hq' 11 (by omega))) ((congrArg (schW bs) (Nat.zero_add 12)).trans (hq' 12 (by omega))) ((congrArg (schW bs) (Nat.zero_add 13)).trans (hq' 13 (by omega))) ((congrArg (schW bs) (Nat.zero_add 14)).trans (hq' 14 (by omega))) ((congrArg (schW bs) (Nat.zero_add 15)).trans (hq' 15 (by omega)))
    clear hq' efb hK
    generalize fgo K a b c d e f g h w0 w1 w2 w3 w4 w5 w6 w7 w8 w9 w10 w11 w12 w13 w14 w15 = r at hgo ⊢
    obtain ⟨h1, h2, h3⟩ := hgo
    have h4 := fadd_eq [a, b, c, d, e, f, g, h] r hs h2
    refine ⟨?_, h4.2.1, h4.2.2⟩
    rw [← h4.1, ← h1]
    rfl
/-- four bytes a word. -/
def fwords : List Nat → List Nat
  | a :: b :: c :: d :: r => Nat.add (Nat.mul (Nat.add (Nat.mul (Nat.add (Nat.mul a 256) b) 256) c) 256) d :: fwords r
  | _ => []
theorem wd_nat (a b c d : Nat) (ha : a < 256) (hb : b < 256) (hc : c < 256) (hd : d < 256) : wd (a : Int) b c d = ((((a * 256 + b) * 256 + c) * 256 + d : Nat) : Int) := by
  unfold wd
  have e1 : a * 16777216 ||| b * 65536 = a * 16777216 + b * 65536 := by
    have := or_add 24 a (b * 65536) (by omega)
    rw [Nat.or_comm, Nat.mul_comm a, this]
  have e2 : (a * 16777216 + b * 65536) ||| c * 256 = a * 16777216 + b * 65536 + c * 256 := by
    have := or_add 16 (a * 256 + b) (c * 256) (by omega)
    rw [Nat.or_comm, show a * 16777216 + b * 65536 = 2 ^ 16 * (a * 256 + b) by omega, this]
  have e3 : (a * 16777216 + b * 65536 + c * 256) ||| d = a * 16777216 + b * 65536 + c * 256 + d := by
    have := or_add 8 (a * 65536 + b * 256 + c) d (by omega)
    rw [Nat.or_comm, show a * 16777216 + b * 65536 + c * 256 = 2 ^ 8 * (a * 65536 + b * 256 + c) by omega, this]
  rw [show (a : Int) * 16777216 = ((a * 16777216 : Nat) : Int) by omega, show (b : Int) * 65536 = ((b * 65536 : Nat) : Int) by omega, show (c : Int) * 256 = ((c * 256 : Nat) : Int) by omega, bits_or_nat _ _ (by omega) (by omega), e1, bits_or_nat _ _ (by omega) (by omega), e2, bits_or_nat _ _ (by omega) (by omega), e3, show a * 16777216 + b * 65536 + c * 256 + d = ((a * 256 + b) * 256 + c) * 256 + d by omega]
theorem fwords_at : ∀ (n : Nat) (bs : List Nat), bs.length = 4 * n → (∀ x ∈ bs, x < 256) → (fwords bs).length = n ∧ (∀ x ∈ fwords bs, x < 4294967296) ∧ ∀ i < n, wordAt (bs.map (fun x : Nat => (x : Int))) i = (((fwords bs).getD i 0 : Nat) : Int)
  | 0, bs, hl, hb => by
    obtain rfl : bs = [] := List.eq_nil_of_length_eq_zero (by omega)
    exact ⟨rfl, (fun x hx => by simp [fwords] at hx), (fun i hi => by omega)⟩
  | n + 1, bs, hl, hb => by
    match bs, hl, hb with
    | a :: b :: c :: d :: r, hl, hb =>
      obtain ⟨h1, h2, h3⟩ := fwords_at n r (by simp at hl; omega) (fun x hx => hb x (by simp [hx]))
      have ha := hb a (by simp)
      have hb' := hb b (by simp)
      have hc := hb c (by simp)
      have hd := hb d (by simp)
      refine ⟨by simp [fwords, h1], fun x hx => ?_, fun i hi => ?_⟩
      · have hx' : x = ((a * 256 + b) * 256 + c) * 256 + d ∨ x ∈ fwords r := by simpa [fwords] using hx
        rcases hx' with rfl | h
        · omega
        · exact h2 x h
      · cases i with
        | zero => exact wd_nat a b c d ha hb' hc hd
        | succ i =>
          have e : wordAt ((a :: b :: c :: d :: r).map (fun x : Nat => (x : Int))) (i + 1) = wordAt (r.map (fun x : Nat => (x : Int))) i := rfl
          rw [e, h3 i (by omega)]
          rfl
noncomputable def fblks : Nat → List Nat → List Nat → List Nat
  | 0, s, _ => s
  | n + 1, s, bs => fblks n (fblk s (fwords (bs.take 64))) (bs.drop 64)
theorem blks_front (n : Nat) (s bs : List Int) : blks (n + 1) s bs = blks n (blk s (bs.take 64)) (bs.drop 64) := by
  induction n with
  | zero => rfl
  | succ n ih =>
    show blk (blks (n + 1) s bs) ((bs.drop (64 * (n + 1))).take 64) = blk (blks n _ _) (((bs.drop 64).drop (64 * n)).take 64)
    rw [ih, List.drop_drop, show 64 + 64 * n = 64 * (n + 1) by omega]
theorem fblks_eq : ∀ (n : Nat) (s bs : List Nat), s.length = 8 → (∀ x ∈ s, x < 4294967296) → 64 * n ≤ bs.length → (∀ x ∈ bs, x < 256) → blks n (s.map (fun x : Nat => (x : Int))) (bs.map (fun x : Nat => (x : Int))) = (fblks n s bs).map (fun x : Nat => (x : Int))
  | 0, s, bs, _, _, _, _ => rfl
  | n + 1, s, bs, hs, hsb, hl, hb => by
    obtain ⟨h1, h2, h3⟩ := fwords_at 16 (bs.take 64) (by rw [List.length_take]; omega) (fun x hx => hb x (List.mem_of_mem_take hx))
    obtain ⟨k1, k2, k3⟩ := fblk_eq ((bs.take 64).map (fun x : Nat => (x : Int))) s (fwords (bs.take 64)) hs hsb h1 h2 h3
    rw [blks_front, ← List.map_take, ← List.map_drop, k1]
    exact fblks_eq n _ _ k2 k3 (by rw [List.length_drop]; omega) (fun x hx => hb x (List.mem_of_mem_drop hx))
theorem blks_add (m n : Nat) (s bs : List Int) : blks (m + n) s bs = blks n (blks m s bs) (bs.drop (64 * m)) := by
  induction n with
  | zero => rfl
  | succ n ih =>
    show blk (blks (m + n) s bs) ((bs.drop (64 * (m + n))).take 64) = blk (blks n _ _) (((bs.drop (64 * m)).drop (64 * n)).take 64)
    rw [ih, List.drop_drop, show 64 * m + 64 * n = 64 * (m + n) by omega]
theorem blks_more (n : Nat) (s bs tl : List Int) (h : 64 * n ≤ bs.length) : blks n s (bs ++ tl) = blks n s bs := by
  induction n with
  | zero => rfl
  | succ n ih =>
    show blk (blks n s (bs ++ tl)) (((bs ++ tl).drop (64 * n)).take 64) = blk (blks n s bs) ((bs.drop (64 * n)).take 64)
    rw [ih (by omega), List.drop_append_of_le_length (by omega), List.take_append_of_le_length (by rw [List.length_drop]; omega)]
def fbe8 (n : Nat) : List Nat := [n / 72057594037927936 % 256, n / 281474976710656 % 256, n / 1099511627776 % 256, n / 4294967296 % 256, n / 16777216 % 256, n / 65536 % 256, n / 256 % 256, n % 256]
def ftl (n : Nat) : List Nat := [128] ++ List.replicate (zeros n) 0 ++ fbe8 (n * 8)
def flay (s : List Nat) : List Nat := s.flatMap fun x => [x / 16777216 % 256, x / 65536 % 256, x / 256 % 256, x % 256]
def fH0 : List Nat := [1779033703, 3144134277, 1013904242, 2773480762, 1359893119, 2600822924, 528734635, 1541459225]
noncomputable def fsha (bs : List Nat) : List Nat := flay (fblks ((bs.length + 9 + zeros bs.length) / 64) fH0 (bs ++ ftl bs.length))
theorem sha_fast (bs : List Nat) (hb : ∀ x ∈ bs, x < 256) : sha (bs.map (fun x : Nat => (x : Int))) = (fsha bs).map (fun x : Nat => (x : Int)) := by
  obtain ⟨n, hn⟩ : ∃ n, n = bs.length := ⟨_, rfl⟩
  obtain ⟨B, hB⟩ : ∃ B, B = bs.map (fun x : Nat => (x : Int)) := ⟨_, rfl⟩
  have hBl : B.length = n := by rw [hB, List.length_map, hn]
  obtain ⟨T, hT⟩ : ∃ T, T = (ftl n).map (fun x : Nat => (x : Int)) := ⟨_, rfl⟩
  have hzm : zeros n = (119 - n % 64) % 64 := rfl
  have htl : (ftl n).length = 9 + zeros n := by simp [ftl, fbe8]; omega
  have hzr : zeros (B.drop (n / 64 * 64)).length = zeros n := by
    rw [List.length_drop, hBl]
    unfold zeros
    rw [show (n - n / 64 * 64) % 64 = n % 64 by omega]
  have hTe : T = [128] ++ List.replicate (zeros n) 0 ++ be8 ((n : Int) * 8) := by
    rw [hT]
    simp only [ftl, List.map_append, List.map_replicate, List.map_cons, List.map_nil, fbe8, be8]
    congr 1
  have hpad : pad (B.drop (n / 64 * 64)) n = B.drop (64 * (n / 64)) ++ T := by
    unfold pad
    rw [hzr, hTe, Nat.mul_comm]
    simp only [List.append_assoc]
  have hlen : (pad (B.drop (n / 64 * 64)) n).length = n - 64 * (n / 64) + (9 + zeros n) := by
    rw [hpad, List.length_append, List.length_drop, hBl, hT, List.length_map, htl]
  have hdiv : (n + 9 + zeros n) / 64 = n / 64 + (pad (B.drop (n / 64 * 64)) n).length / 64 := by rw [hlen]; omega
  have key : sha B = lay8 (blks ((n + 9 + zeros n) / 64) begin8 (B ++ T)) := by
    unfold sha fin8
    rw [hBl, hdiv, blks_add, blks_more _ _ _ _ (by rw [hBl]; omega), List.drop_append_of_le_length (by rw [hBl]; omega), hpad]
  have hall := fblks_eq ((n + 9 + zeros n) / 64) fH0 (bs ++ ftl n) rfl (by decide) (by rw [List.length_append, htl, ← hn]; omega) (fun x hx => by
    rcases List.mem_append.1 hx with h | h
    · exact hb x h
    · simp only [ftl, fbe8, List.mem_append, List.mem_cons, List.not_mem_nil, or_false, List.mem_replicate] at h
      rcases h with (rfl | ⟨_, rfl⟩) | rfl | rfl | rfl | rfl | rfl | rfl | rfl | rfl <;> omega)
  rw [← hB, key, show begin8 = fH0.map (fun x : Nat => (x : Int)) from rfl, hB, hT, ← List.map_append, hall]
  unfold fsha flay lay8
  rw [← hn, List.map_flatMap, List.flatMap_map]
  rfl

end Go.Proofs.YtdjofooggofpkaaGreatDoor

/-
  Public keys over natural numbers, so typed that the kernel reckons them quickly; and that they are SSpec's.
-/
namespace Go.Proofs.YtdjofooggofpkaaGreatDoor
open Go.RowKit
set_option linter.unusedVariables false

/-- all of l is reckoned ahead of k. -/
noncomputable def ff {α : Type} (l : List Nat) : (List Nat → α) → α := List.rec (motive := fun _ => (List Nat → α) → α) (fun k => k []) (fun x _ ih k => fz x fun y => ih fun r => k (y :: r)) l
theorem ff_eq {α : Type} (l : List Nat) : ∀ k : List Nat → α, ff l k = k l := by
  induction l with
  | nil => intro k; rfl
  | cons x r ih =>
    intro k
    show fz x (fun y => ff r fun r => k (y :: r)) = _
    rw [fz_eq, ih]
theorem fsha_b (bs : List Nat) : ∀ x ∈ fsha bs, x < 256 := by
  intro x hx
  unfold fsha flay at hx
  obtain ⟨y, _, hy⟩ := List.mem_flatMap.1 hx
  simp only [List.mem_cons, List.not_mem_nil, or_false] at hy
  rcases hy with rfl | rfl | rfl | rfl <;> exact Nat.mod_lt _ (by omega)
def fb4 (n : Nat) : List Nat := [n / 16777216 % 256, n / 65536 % 256, n / 256 % 256, n % 256]
noncomputable def fpart (seed : List Nat) (key i : Nat) : List Nat :=
  ff (10 :: (seed ++ (fb4 key ++ [i / 2 % 256, i % 2 % 256]))) fun m => ff (11 :: fsha m) fun m2 => ff (fsha m2) fun m3 => m3
theorem fpart_eq (seed : List Nat) (key i : Nat) : fpart seed key i = fsha (11 :: fsha (10 :: (seed ++ (fb4 key ++ [i / 2 % 256, i % 2 % 256])))) := by
  unfold fpart
  rw [ff_eq, ff_eq, ff_eq]
theorem ptP_fast (seed : List Nat) (hb : ∀ x ∈ seed, x < 256) (key i : Nat) : ptP (seed.map (fun x : Nat => (x : Int))) (key : Int) noneC i = (fpart seed key i).map (fun x : Nat => (x : Int)) := by
  have hin : ∀ x ∈ 10 :: (seed ++ (fb4 key ++ [i / 2 % 256, i % 2 % 256])), x < 256 := fun x hx => by
    simp only [fb4, List.mem_cons, List.mem_append, List.not_mem_nil, or_false] at hx
    rcases hx with rfl | h | (rfl | rfl | rfl | rfl) | rfl | rfl
    · omega
    · exact hb x h
    all_goals exact Nat.mod_lt _ (by omega)
  have e1 := sha_fast (10 :: (seed ++ (fb4 key ++ [i / 2 % 256, i % 2 % 256]))) hin
  have e2 := sha_fast (11 :: fsha (10 :: (seed ++ (fb4 key ++ [i / 2 % 256, i % 2 % 256])))) (fun x hx => by
    rcases List.mem_cons.1 hx with rfl | h
    · omega
    · exact fsha_b _ x h)
  rw [fpart_eq, ← e2, List.map_cons, ← e1]
  unfold ptP noneC shnP secP
  simp only [Bool.false_eq_true, if_false, List.map_cons, List.map_append, List.map_nil, fb4, be4]
  rfl
noncomputable def fparts (seed : List Nat) (key : Nat) : Nat → Nat → List Nat
  | _, 0 => []
  | i, n + 1 => fpart seed key i ++ fparts seed key (i + 1) n
theorem ptsP_from (seed : List Nat) (hb : ∀ x ∈ seed, x < 256) (key : Nat) : ∀ n i, ((List.range' i n).map (ptP (seed.map (fun x : Nat => (x : Int))) (key : Int) noneC)).flatten = (fparts seed key i n).map (fun x : Nat => (x : Int))
  | 0, i => rfl
  | n + 1, i => by
    rw [List.range'_succ, List.map_cons, List.flatten_cons, ptsP_from seed hb key n (i + 1), fparts, List.map_append, ← ptP_fast seed hb key i]
theorem ptsP_fast (seed : List Nat) (hb : ∀ x ∈ seed, x < 256) (key : Nat) (n : Nat) : (ptsP (seed.map (fun x : Nat => (x : Int))) (key : Int) noneC n).flatten = (fparts seed key 0 n).map (fun x : Nat => (x : Int)) := by
  rw [← ptsP_from seed hb key n 0, ptsP, List.range_eq_range']
theorem fparts_b (seed : List Nat) (key : Nat) : ∀ n i, ∀ x ∈ fparts seed key i n, x < 256
  | 0, i, x, hx => by cases hx
  | n + 1, i, x, hx => by
    rcases List.mem_append.1 hx with h | h
    · rw [fpart_eq] at h; exact fsha_b _ x h
    · exact fparts_b seed key n (i + 1) x h
noncomputable def fpub (seed : List Nat) (key : Nat) : List Nat := ff (12 :: fparts seed key 0 64) fun m => fsha m
theorem pubP_fast (seed : List Nat) (hb : ∀ x ∈ seed, x < 256) (key : Nat) : pubP (seed.map (fun x : Nat => (x : Int))) (key : Int) = (fpub seed key).map (fun x : Nat => (x : Int)) := by
  unfold fpub pubP
  rw [ff_eq, ← sha_fast _ (fun x hx => by
    rcases List.mem_cons.1 hx with rfl | h
    · omega
    · exact fparts_b seed key 64 0 x h), List.map_cons, ← ptsP_fast seed hb key 64]
  rfl
end Go.Proofs.YtdjofooggofpkaaGreatDoor

/-
  Levels of nodes over natural numbers, so typed that the kernel reckons them quickly; and that they are SSpec's.
-/
namespace Go.Proofs.YtdjofooggofpkaaGreatDoor
open Go.RowKit
set_option linter.unusedVariables false

def ints (l : List Nat) : List Int := l.map (fun x : Nat => (x : Int))
def By (l : List Nat) : Prop := ∀ x ∈ l, x < 256
noncomputable def fnode (a b : List Nat) : List Nat := ff (14 :: (a ++ b)) fun m => ff (fsha m) fun r => r
theorem fnode_eq (a b : List Nat) : fnode a b = fsha (14 :: (a ++ b)) := by unfold fnode; rw [ff_eq, ff_eq]
theorem nodeP_fast (a b : List Nat) (ha : By a) (hb : By b) : nodeP (ints a) (ints b) = ints (fnode a b) := by
  rw [fnode_eq]
  have e := sha_fast (14 :: (a ++ b)) (fun x hx => by
    rcases List.mem_cons.1 hx with rfl | h
    · omega
    · rcases List.mem_append.1 h with h | h
      · exact ha x h
      · exact hb x h)
  unfold ints
  rw [← e]
  unfold nodeP
  simp only [List.map_cons, List.map_append]
  rfl
theorem By.node (a b : List Nat) : By (fnode a b) := by rw [fnode_eq]; exact fsha_b _
noncomputable def fabv (l : List (List Nat)) : List (List Nat) := (List.range (l.length / 2)).map fun i => fnode (l.getD (2 * i) []) (l.getD (2 * i + 1) [])
theorem getD_ints (l : List (List Nat)) (i : Nat) : (l.map ints).getD i [] = ints (l.getD i []) := by
  rw [List.getD_eq_getElem?_getD, List.getD_eq_getElem?_getD, List.getElem?_map]
  cases l[i]? <;> rfl
theorem By.getD {l : List (List Nat)} (h : ∀ x ∈ l, By x) (i : Nat) : By (l.getD i []) := by
  rw [List.getD_eq_getElem?_getD]
  cases e : l[i]? with
  | none => intro x hx; cases hx
  | some y => exact h y (List.mem_of_getElem? e)
theorem abvP_fast (l : List (List Nat)) (h : ∀ x ∈ l, By x) : abvP (l.map ints) = (fabv l).map ints ∧ ∀ x ∈ fabv l, By x := by
  constructor
  · unfold abvP fabv
    rw [List.length_map, List.map_map]
    refine List.map_congr_left fun i _ => ?_
    rw [getD_ints, getD_ints]
    exact nodeP_fast _ _ (By.getD h _) (By.getD h _)
  · intro x hx
    obtain ⟨i, _, rfl⟩ := List.mem_map.1 hx
    exact By.node _ _
noncomputable def ftop (l : List (List Nat)) : List Nat := (fabv (fabv (fabv (fabv l)))).getD 0 []
theorem topP_fast (seed : List Int) (l : List (List Nat)) (h : ∀ x ∈ l, By x) (hl : lvsP seed 16 = l.map ints) : topP seed = ints (ftop l) := by
  obtain ⟨e1, b1⟩ := abvP_fast l h
  obtain ⟨e2, b2⟩ := abvP_fast _ b1
  obtain ⟨e3, b3⟩ := abvP_fast _ b2
  obtain ⟨e4, b4⟩ := abvP_fast _ b3
  unfold topP
  show (abvP (abvP (abvP (abvP (lvsP seed 16))))).getD 0 [] = _
  rw [hl, e1, e2, e3, e4, getD_ints]
  rfl
theorem seedX_fast (k : Nat) (hk : wiP (k : Int) 0 1000 % 5 = (k : Int)) (hk2 : k < 256) : seedX (k : Int) = ints (fsha [99, k]) := by
  unfold seedX ints
  rw [hk, ← sha_fast [99, k] (fun x hx => by
    simp only [List.mem_cons, List.not_mem_nil, or_false] at hx
    omega)]
  rfl
end Go.Proofs.YtdjofooggofpkaaGreatDoor
