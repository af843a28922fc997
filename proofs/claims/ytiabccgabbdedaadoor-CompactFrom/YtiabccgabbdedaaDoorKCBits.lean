/-
  math/bits' TrailingZeros and OnesCount, of every number.
-/
import Derived.Test.YtiabccgabbdedaaDoorKCSpec
import Derived.Laws.Bits64b
import Derived.Laws.Bits128
import Derived.Lib.TrailingZeros
namespace Go.Proofs.YtiabccgabbdedaaDoor
open Go.RowKit

theorem ctz_not : ∀ (f n : Nat), n < 2 ^ f - 1 → Lib.ctzFrom f (2 ^ f - 1 - n) = troP n
  | 0, n, h => by simp at h
  | f + 1, n, h => by
    have hp : 1 ≤ 2 ^ f := Nat.one_le_two_pow
    rw [Nat.pow_succ] at h ⊢
    unfold Lib.ctzFrom
    by_cases ho : n % 2 = 1
    · rw [if_neg (by omega), troP_odd ho, show (2 ^ f * 2 - 1 - n) / 2 = 2 ^ f - 1 - n / 2 by omega, ctz_not f (n / 2) (by omega)]
      omega
    · rw [if_pos (by omega), troP_even ho]
theorem ctz_tro (n : Nat) (h : n < 18446744073709551615) : Lib.ctz 64 (18446744073709551615 - n) = troP n := by
  unfold Lib.ctz
  rw [if_neg (by omega)]
  exact ctz_not 64 n (by omega)
theorem tz_key (x a : Nat) (hx : x < 18446744073709551616) (hx0 : x ≠ 0) (hlow : x &&& (18446744073709551616 - x) = a) :
    IntKind.u64.wrap (bits BinOp.and IntKind.u64 (x : Int) (IntKind.u64.wrap (-(x : Int))) * 285870213051353865) / 288230376151711744 = ((a * 285870213051353865 % 18446744073709551616 / 288230376151711744 : Nat) : Int) := by
  have e1 : IntKind.u64.wrap (-(x : Int)) = ((18446744073709551616 - x : Nat) : Int) := by rw [IntKind.wrap_u64]; omega
  rw [e1, bits_and_u64_nat x _ hx (by omega), hlow, IntKind.wrap_u64]
  omega
set_option maxHeartbeats 1000000 in
theorem tz64_core (x k idx : Nat) (w : World) (hx0 : ((x : Int) == 0) = false)
    (key : IntKind.u64.wrap (bits BinOp.and IntKind.u64 (x : Int) (IntKind.u64.wrap (-(x : Int))) * 285870213051353865) / 288230376151711744 = (idx : Int))
    (hi : idx < 64) (hk : k < 64) (hcell : w.cell? ⟨1, idx, none⟩ = some (.int .u8 k)) :
    Calls Tryd.prog 42 #[.int .u64 x] w fun e w' => e = .returned (.int .i64 k) ∧ w' = w := by
  go_enter Tryd.func42, Tryd.ntmps42
  go_wp2_with (simp only [key])
  go_ret
  exact ⟨rfl, rfl⟩
theorem dbt_at (j : Nat) : dbt.getD j 0 = ((Lib.deBruijn64tab.getD j 0 : Nat) : Int) := by
  have e : dbt = Lib.deBruijn64tab.map fun (n : Nat) => (n : Int) := by decide
  rw [e, List.getD_eq_getElem?_getD, List.getD_eq_getElem?_getD, List.getElem?_map]
  cases Lib.deBruijn64tab[j]? <;> simp
theorem tz64_any (x : Nat) (hx : x < 18446744073709551616) (hx0 : x ≠ 0) (w : World) (hD : Db w) :
    Calls Tryd.prog 42 #[.int .u64 x] w fun e w' => e = .returned (.int .i64 (Lib.ctz 64 x : Nat)) ∧ w' = w := by
  obtain ⟨hlow, hk⟩ := Lib.lowest_bit 64 x hx0 hx
  obtain ⟨hi, htab⟩ := Lib.deBruijn64_at _ hk
  refine tz64_core x _ _ w (by simpa using hx0) (tz_key x _ hx hx0 hlow) hi hk ?_
  have := hD _ hi
  rw [dbt_at, htab] at this
  exact this
set_option maxHeartbeats 1000000 in
/-- TrailingZeros of a number turned over: how many set bits it ends in. -/
theorem tz_any (n : Nat) (h : n < 18446744073709551615) (w : World) (hD : Db w) :
    Calls Tryd.prog 28 #[.int .u64 (18446744073709551615 - n : Nat)] w fun e w' => e = .returned (.int .i64 (troP n : Nat)) ∧ w' = w := by
  have HC := hide (tz64_any (18446744073709551615 - n) (by omega) (by omega) w hD)
  rw [ctz_tro n h] at HC
  obtain ⟨x, hx⟩ : ∃ x, x = 18446744073709551615 - n := ⟨_, rfl⟩
  rw [← hx] at HC ⊢
  clear hx hD h
  go_enter Tryd.func28, Tryd.ntmps28
  go_wp2_with fail
  refine (unhide HC).mono ?_
  rintro ee w2 ⟨rfl, hw⟩
  subst w2
  clear HC
  go_wp2_with fail
  go_ret
  exact ⟨rfl, rfl⟩
set_option maxHeartbeats 1000000 in
theorem ones64_core (x x1 x2 x3 x4 x5 x6 r : Nat) (w : World)
    (k1 : IntKind.u64.wrap (bits BinOp.and IntKind.u64 ((x : Int) / 2) 6148914691236517205 + bits BinOp.and IntKind.u64 (x : Int) 6148914691236517205) = (x1 : Int))
    (k2 : IntKind.u64.wrap (bits BinOp.and IntKind.u64 ((x1 : Int) / 4) 3689348814741910323 + bits BinOp.and IntKind.u64 (x1 : Int) 3689348814741910323) = (x2 : Int))
    (k3 : bits BinOp.and IntKind.u64 (IntKind.u64.wrap ((x2 : Int) / 16 + (x2 : Int))) 1085102592571150095 = (x3 : Int))
    (k4 : IntKind.u64.wrap ((x3 : Int) + (x3 : Int) / 256) = (x4 : Int)) (k5 : IntKind.u64.wrap ((x4 : Int) + (x4 : Int) / 65536) = (x5 : Int)) (k6 : IntKind.u64.wrap ((x5 : Int) + (x5 : Int) / 4294967296) = (x6 : Int))
    (k7 : bits BinOp.and IntKind.i64 (wrap64 (x6 : Int)) 127 = (r : Int)) :
    Calls Tryd.prog 45 #[.int .u64 x] w fun e w' => e = .returned (.int .i64 r) ∧ w' = w := by
  go_enter Tryd.func45, Tryd.ntmps45
  go_wp2_with fail
  go_ret
  exact ⟨rfl, rfl⟩
/-- each of the k lowest bytes by itself. -/
def swB (f : Nat → Nat) : Nat → Nat → Nat
  | 0, _ => 0
  | k + 1, x => f (x % 256) + 256 * swB f k (x / 256)
/-- one byte k times. -/
def repB (c : Nat) : Nat → Nat
  | 0 => 0
  | k + 1 => c + 256 * repB c k
theorem land_step (x m : Nat) : x &&& m = (x % 256 &&& m % 256) + 256 * (x / 256 &&& m / 256) := by
  have h1 : (x &&& m) % 2 ^ 8 = (x % 2 ^ 8) &&& (m % 2 ^ 8) := Nat.and_mod_two_pow
  have h2 : (x &&& m) / 2 ^ 8 = (x / 2 ^ 8) &&& (m / 2 ^ 8) := Nat.and_div_two_pow
  have h3 := Nat.div_add_mod (x &&& m) 256
  rw [show (2 : Nat) ^ 8 = 256 by decide] at h1 h2
  rw [← h1, ← h2]
  omega
theorem land_rep (c : Nat) (hc : c < 256) (k x : Nat) : x &&& repB c (k + 1) = (x % 256 &&& c) + 256 * (x / 256 &&& repB c k) := by
  rw [land_step x (repB c (k + 1))]
  rw [show repB c (k + 1) % 256 = c by simp only [repB]; omega, show repB c (k + 1) / 256 = repB c k by simp only [repB]; omega]
def f1B (b : Nat) : Nat := (b / 2 &&& 85) + (b &&& 85)
def f2B (b : Nat) : Nat := (b / 4 &&& 51) + (b &&& 51)
def f3B (b : Nat) : Nat := b / 16 + b % 16
theorem s1_low : ∀ t : Nat, t < 2 → ∀ b : Nat, b < 256 → (b / 2 + 128 * t) &&& 85 = b / 2 &&& 85 := by decide +kernel
theorem s2_low : ∀ t : Nat, t < 4 → ∀ b : Nat, b < 256 → (b / 4 + 64 * t) &&& 51 = b / 4 &&& 51 := by decide +kernel
theorem s1_all : ∀ k x, (x / 2 &&& repB 85 k) + (x &&& repB 85 k) = swB f1B k x
  | 0, x => by simp [repB, swB]
  | k + 1, x => by
    rw [land_rep 85 (by omega) k, land_rep 85 (by omega) k]
    have e1 : x / 2 % 256 = x % 256 / 2 + 128 * (x / 256 % 2) := by omega
    have e2 : x / 2 / 256 = x / 256 / 2 := by omega
    rw [e1, e2, s1_low _ (by omega) _ (by omega)]
    have ih := s1_all k (x / 256)
    simp only [swB, f1B]
    omega
theorem s2_all : ∀ k x, (x / 4 &&& repB 51 k) + (x &&& repB 51 k) = swB f2B k x
  | 0, x => by simp [repB, swB]
  | k + 1, x => by
    rw [land_rep 51 (by omega) k, land_rep 51 (by omega) k]
    have e1 : x / 4 % 256 = x % 256 / 4 + 64 * (x / 256 % 4) := by omega
    have e2 : x / 4 / 256 = x / 256 / 4 := by omega
    rw [e1, e2, s2_low _ (by omega) _ (by omega)]
    have ih := s2_all k (x / 256)
    simp only [swB, f2B]
    omega
theorem swB_comp (f g : Nat → Nat) (hf : ∀ b, b < 256 → f b < 256) : ∀ k x, swB g k (swB f k x) = swB (fun b => g (f b)) k x
  | 0, x => rfl
  | k + 1, x => by
    have h := hf (x % 256) (by omega)
    show g ((f (x % 256) + 256 * swB f k (x / 256)) % 256) + 256 * swB g k ((f (x % 256) + 256 * swB f k (x / 256)) / 256) = _
    rw [show (f (x % 256) + 256 * swB f k (x / 256)) % 256 = f (x % 256) by omega, show (f (x % 256) + 256 * swB f k (x / 256)) / 256 = swB f k (x / 256) by omega, swB_comp f g hf k]
    rfl
theorem f1_lt : ∀ b : Nat, b < 256 → f1B b < 256 := by decide +kernel
theorem f21_nib : ∀ b : Nat, b < 256 → f2B (f1B b) / 16 ≤ 4 ∧ f2B (f1B b) % 16 ≤ 4 := by decide +kernel
theorem s3_all (g : Nat → Nat) (hg : ∀ b, b < 256 → g b / 16 ≤ 4 ∧ g b % 16 ≤ 4) : ∀ k x, (swB g k x / 16 + swB g k x) &&& repB 15 k = swB (fun b => f3B (g b)) k x
  | 0, x => by simp [repB, swB]
  | k + 1, x => by
    have ih := s3_all g hg k (x / 256)
    have h1 := hg (x % 256) (by omega)
    have h2 : swB g k (x / 256) % 16 ≤ 4 := by
      cases k with
      | zero => simp [swB]
      | succ k =>
        have := hg (x / 256 % 256) (by omega)
        simp only [swB]
        omega
    have e : swB g (k + 1) x = g (x % 256) + 256 * swB g k (x / 256) := rfl
    rw [land_rep 15 (by omega) k, e]
    have e1 : ((g (x % 256) + 256 * swB g k (x / 256)) / 16 + (g (x % 256) + 256 * swB g k (x / 256))) % 256 = g (x % 256) / 16 + g (x % 256) + 16 * (swB g k (x / 256) % 16) := by omega
    have e2 : ((g (x % 256) + 256 * swB g k (x / 256)) / 16 + (g (x % 256) + 256 * swB g k (x / 256))) / 256 = swB g k (x / 256) / 16 + swB g k (x / 256) := by omega
    rw [e1, e2, ih, show (15 : Nat) = 2 ^ 4 - 1 by decide, Nat.and_two_pow_sub_one_eq_mod]
    simp only [swB, f3B]
    omega
/-- as many bits as a byte has. -/
def onesF : Nat → Nat → Nat
  | 0, _ => 0
  | f + 1, n => n % 2 + onesF f (n / 2)
theorem onesF_eq : ∀ f n, n < 2 ^ f → onesF f n = onesP n
  | 0, n, h => by
    obtain rfl : n = 0 := by simpa using h
    rw [onesP_zero]; rfl
  | f + 1, n, h => by
    rw [Nat.pow_succ] at h
    rw [onesP_step, ← onesF_eq f (n / 2) (by omega)]
    rfl
theorem p_byte : ∀ b : Nat, b < 256 → f3B (f2B (f1B b)) = onesF 8 b := by decide +kernel
theorem onesP_split : ∀ j n, onesP n = onesP (n % 2 ^ j) + onesP (n / 2 ^ j)
  | 0, n => by simp [onesP_zero, Nat.mod_one]
  | j + 1, n => by
    rw [onesP_step n, onesP_split j (n / 2), onesP_step (n % 2 ^ (j + 1))]
    have e1 : n % 2 ^ (j + 1) % 2 = n % 2 := by rw [Nat.pow_succ, Nat.mul_comm]; exact Nat.mod_mul_right_mod n 2 (2 ^ j)
    have e2 : n % 2 ^ (j + 1) / 2 = n / 2 % 2 ^ j := by rw [Nat.pow_succ, Nat.mul_comm]; exact Nat.mod_mul_right_div_self n 2 (2 ^ j)
    have e3 : n / 2 / 2 ^ j = n / 2 ^ (j + 1) := by rw [Nat.div_div_eq_div_mul, Nat.pow_succ, Nat.mul_comm]
    rw [e1, e2, e3]
    omega
theorem ones_bytes (x : Nat) (hx : x < 18446744073709551616) : ∃ p0 p1 p2 p3 p4 p5 p6 p7 : Nat, p0 ≤ 8 ∧ p1 ≤ 8 ∧ p2 ≤ 8 ∧ p3 ≤ 8 ∧ p4 ≤ 8 ∧ p5 ≤ 8 ∧ p6 ≤ 8 ∧ p7 ≤ 8 ∧ onesP x = p0 + p1 + p2 + p3 + p4 + p5 + p6 + p7 ∧
    swB (fun b => f3B (f2B (f1B b))) 8 x = p0 + 256 * (p1 + 256 * (p2 + 256 * (p3 + 256 * (p4 + 256 * (p5 + 256 * (p6 + 256 * p7)))))) := by
  have hb : ∀ b, b < 256 → f3B (f2B (f1B b)) = onesP b ∧ onesP b ≤ 8 := fun b h => ⟨(p_byte b h).trans (onesF_eq 8 b (by omega)), onesP_le 8 b (by omega)⟩
  have hs : ∀ n, onesP n = onesP (n % 256) + onesP (n / 256) := fun n => onesP_split 8 n
  have h0 := hb (x % 256) (by omega)
  have h1 := hb (x / 256 % 256) (by omega)
  have h2 := hb (x / 256 / 256 % 256) (by omega)
  have h3 := hb (x / 256 / 256 / 256 % 256) (by omega)
  have h4 := hb (x / 256 / 256 / 256 / 256 % 256) (by omega)
  have h5 := hb (x / 256 / 256 / 256 / 256 / 256 % 256) (by omega)
  have h6 := hb (x / 256 / 256 / 256 / 256 / 256 / 256 % 256) (by omega)
  have h7 := hb (x / 256 / 256 / 256 / 256 / 256 / 256 / 256 % 256) (by omega)
  refine ⟨_, _, _, _, _, _, _, _, h0.2, h1.2, h2.2, h3.2, h4.2, h5.2, h6.2, h7.2, ?_, ?_⟩
  · rw [hs x, hs (x / 256), hs (x / 256 / 256), hs (x / 256 / 256 / 256), hs (x / 256 / 256 / 256 / 256), hs (x / 256 / 256 / 256 / 256 / 256), hs (x / 256 / 256 / 256 / 256 / 256 / 256), hs (x / 256 / 256 / 256 / 256 / 256 / 256 / 256)]
    rw [show x / 256 / 256 / 256 / 256 / 256 / 256 / 256 / 256 = 0 by omega, onesP_zero]
    omega
  · simp only [swB, h0.1, h1.1, h2.1, h3.1, h4.1, h5.1, h6.1, h7.1, Nat.mul_zero, Nat.add_zero]
theorem swB_lt (f : Nat → Nat) (hf : ∀ b, b < 256 → f b < 256) (x : Nat) : swB f 8 x < 18446744073709551616 := by
  have : ∀ k x, swB f k x < 256 ^ k := by
    intro k
    induction k with
    | zero => intro x; simp [swB]
    | succ k ih =>
      intro x
      have h1 := hf (x % 256) (by omega)
      have h2 := ih (x / 256)
      simp only [swB]
      rw [Nat.pow_succ]
      omega
  exact this 8 x
theorem fold_bytes (p0 p1 p2 p3 p4 p5 p6 p7 x3 : Nat) (h0 : p0 ≤ 8) (h1 : p1 ≤ 8) (h2 : p2 ≤ 8) (h3 : p3 ≤ 8) (h4 : p4 ≤ 8) (h5 : p5 ≤ 8) (h6 : p6 ≤ 8) (h7 : p7 ≤ 8)
    (he : x3 = p0 + 256 * (p1 + 256 * (p2 + 256 * (p3 + 256 * (p4 + 256 * (p5 + 256 * (p6 + 256 * p7))))))) :
    (x3 + x3 / 256 + (x3 + x3 / 256) / 65536 + (x3 + x3 / 256 + (x3 + x3 / 256) / 65536) / 4294967296) % 128 = p0 + p1 + p2 + p3 + p4 + p5 + p6 + p7 ∧
    x3 + x3 / 256 + (x3 + x3 / 256) / 65536 + (x3 + x3 / 256 + (x3 + x3 / 256) / 65536) / 4294967296 < 9223372036854775808 := by
  obtain ⟨A6, e6⟩ : ∃ A, A = p6 + 256 * p7 := ⟨_, rfl⟩
  obtain ⟨A5, e5⟩ : ∃ A, A = p5 + 256 * A6 := ⟨_, rfl⟩
  obtain ⟨A4, e4⟩ : ∃ A, A = p4 + 256 * A5 := ⟨_, rfl⟩
  obtain ⟨A3, e3⟩ : ∃ A, A = p3 + 256 * A4 := ⟨_, rfl⟩
  obtain ⟨A2, e2⟩ : ∃ A, A = p2 + 256 * A3 := ⟨_, rfl⟩
  obtain ⟨A1, e1⟩ : ∃ A, A = p1 + 256 * A2 := ⟨_, rfl⟩
  rw [← e6, ← e5, ← e4, ← e3, ← e2, ← e1] at he
  have l6 : A6 ≤ 2056 := by omega
  have l5 : A5 ≤ 526344 := by omega
  have l4 : A4 ≤ 134744072 := by omega
  have l3 : A3 ≤ 34494482440 := by omega
  have l2 : A2 ≤ 8830587504648 := by omega
  have l1 : A1 ≤ 2260630401189896 := by omega
  have d1 : x3 / 256 = A1 := by omega
  rw [d1]
  have d2 : (x3 + A1) / 65536 = A2 + A3 := by omega
  rw [d2]
  have d3 : (x3 + A1 + (A2 + A3)) / 4294967296 = A4 + A5 + A6 + p7 := by
    have x3e : x3 = p0 + 256 * p1 + 65536 * (p2 + 256 * p3 + 65536 * A4) := by omega
    have a1e : A1 = p1 + 256 * p2 + 65536 * (p3 + 256 * p4 + 65536 * A5) := by omega
    have a2e : A2 = p2 + 256 * p3 + 65536 * (p4 + 256 * p5 + 65536 * A6) := by omega
    have a3e : A3 = p3 + 256 * p4 + 65536 * (p5 + 256 * p6 + 65536 * p7) := by omega
    have tot : x3 + A1 + (A2 + A3) = ((p0 + p1 + p2 + p3) + 256 * (p1 + p2 + p3 + p4) + 65536 * ((p2 + p3 + p4 + p5) + 256 * (p3 + p4 + p5 + p6))) + 4294967296 * (A4 + A5 + A6 + p7) := by omega
    have low : (p0 + p1 + p2 + p3) + 256 * (p1 + p2 + p3 + p4) + 65536 * ((p2 + p3 + p4 + p5) + 256 * (p3 + p4 + p5 + p6)) < 4294967296 := by omega
    rw [tot]
    clear tot x3e a1e a2e a3e he e1 e2 e3 e4 e5 e6 d1 d2
    omega
  rw [d3]
  clear d1 d2 d3
  refine ⟨?_, by omega⟩
  have t : x3 + A1 + (A2 + A3) + (A4 + A5 + A6 + p7) = (p0 + p1 + p2 + p3 + p4 + p5 + p6 + p7) + 128 * (2 * (A1 + A2 + A3 + A4 + A5 + A6 + p7)) := by omega
  rw [t]
  clear t he e1 e2 e3 e4 e5 e6
  omega
set_option maxHeartbeats 1000000 in
theorem ones64_any (x : Nat) (hx : x < 18446744073709551616) (w : World) :
    Calls Tryd.prog 45 #[.int .u64 x] w fun e w' => e = .returned (.int .i64 (onesP x : Nat)) ∧ w' = w := by
  obtain ⟨p0, p1, p2, p3, p4, p5, p6, p7, h0, h1, h2, h3, h4, h5, h6, h7, hs, he⟩ := ones_bytes x hx
  have hA := swB_lt f1B f1_lt x
  have f21 : ∀ b, b < 256 → f2B (f1B b) < 256 := fun b hb => by have := f21_nib b hb; omega
  have hB := swB_lt (fun b => f2B (f1B b)) f21 x
  have c1 : (x / 2 &&& 6148914691236517205) + (x &&& 6148914691236517205) = swB f1B 8 x := s1_all 8 x
  have c2 : (swB f1B 8 x / 4 &&& 3689348814741910323) + (swB f1B 8 x &&& 3689348814741910323) = swB (fun b => f2B (f1B b)) 8 x := (s2_all 8 _).trans (swB_comp f1B f2B f1_lt 8 x)
  have c3 : (swB (fun b => f2B (f1B b)) 8 x / 16 + swB (fun b => f2B (f1B b)) 8 x) &&& 1085102592571150095 = swB (fun b => f3B (f2B (f1B b))) 8 x := s3_all (fun b => f2B (f1B b)) f21_nib 8 x
  obtain ⟨x1, e1⟩ : ∃ x1, x1 = swB f1B 8 x := ⟨_, rfl⟩
  obtain ⟨x2, e2⟩ : ∃ x2, x2 = swB (fun b => f2B (f1B b)) 8 x := ⟨_, rfl⟩
  obtain ⟨x3, e3⟩ : ∃ x3, x3 = swB (fun b => f3B (f2B (f1B b))) 8 x := ⟨_, rfl⟩
  have hC : x2 / 16 + x2 < 18446744073709551616 := by
    have q : ∀ k y, swB (fun b => f2B (f1B b)) k y ≤ 68 * repB 1 k := by
      intro k
      induction k with
      | zero => intro y; simp [swB]
      | succ k ih =>
        intro y
        have q1 := f21_nib (y % 256) (by omega)
        have q2 := ih (y / 256)
        simp only [swB, repB]
        omega
    have := q 8 x
    rw [← e2] at this
    have e : repB 1 8 = 72340172838076673 := by decide
    rw [e] at this
    omega
  rw [← e1] at hA c1 c2
  rw [← e2] at hB c2 c3
  rw [← e3] at c3 he
  clear e1 e2 e3 f21
  refine ones64_core x x1 x2 x3 (x3 + x3 / 256) (x3 + x3 / 256 + (x3 + x3 / 256) / 65536) (x3 + x3 / 256 + (x3 + x3 / 256) / 65536 + (x3 + x3 / 256 + (x3 + x3 / 256) / 65536) / 4294967296) (onesP x) w ?_ ?_ ?_ ?_ ?_ ?_ ?_
  · have a1 := bits_and_u64_nat (x / 2) 6148914691236517205 (by omega) (by omega)
    have a2 := bits_and_u64_nat x 6148914691236517205 (by omega) (by omega)
    rw [show ((x : Int) / 2) = ((x / 2 : Nat) : Int) by omega]
    rw [show (6148914691236517205 : Int) = ((6148914691236517205 : Nat) : Int) by rfl, a1, a2, IntKind.wrap_u64]
    omega
  · have a1 := bits_and_u64_nat (x1 / 4) 3689348814741910323 (by omega) (by omega)
    have a2 := bits_and_u64_nat x1 3689348814741910323 (by omega) (by omega)
    rw [show ((x1 : Int) / 4) = ((x1 / 4 : Nat) : Int) by omega]
    rw [show (3689348814741910323 : Int) = ((3689348814741910323 : Nat) : Int) by rfl, a1, a2, IntKind.wrap_u64]
    omega
  · have a1 := bits_and_u64_nat (x2 / 16 + x2) 1085102592571150095 hC (by omega)
    rw [show IntKind.u64.wrap ((x2 : Int) / 16 + (x2 : Int)) = ((x2 / 16 + x2 : Nat) : Int) by rw [IntKind.wrap_u64]; omega]
    rw [show (1085102592571150095 : Int) = ((1085102592571150095 : Nat) : Int) by rfl, a1, c3]
  all_goals clear c1 c2 c3 hA hB hC hx
  all_goals obtain ⟨F1, F2⟩ := fold_bytes p0 p1 p2 p3 p4 p5 p6 p7 x3 h0 h1 h2 h3 h4 h5 h6 h7 he
  all_goals rw [← hs] at F1
  all_goals clear h0 h1 h2 h3 h4 h5 h6 h7 he hs
  · rw [IntKind.wrap_u64]; omega
  · obtain ⟨y, hy⟩ : ∃ y, y = x3 + x3 / 256 := ⟨_, rfl⟩
    rw [← hy] at F2 ⊢
    rw [IntKind.wrap_u64]; omega
  · obtain ⟨y, hy⟩ : ∃ y, y = x3 + x3 / 256 + (x3 + x3 / 256) / 65536 := ⟨_, rfl⟩
    rw [← hy] at F2 ⊢
    rw [IntKind.wrap_u64]; omega
  · obtain ⟨y, hy⟩ : ∃ y, y = x3 + x3 / 256 + (x3 + x3 / 256) / 65536 + (x3 + x3 / 256 + (x3 + x3 / 256) / 65536) / 4294967296 := ⟨_, rfl⟩
    rw [← hy] at F1 F2 ⊢
    rw [i64_and127, ← F1]
    unfold wrap64
    omega
theorem ones_any (x : Nat) (hx : x < 18446744073709551616) (w : World) :
    Calls Tryd.prog 32 #[.int .u64 x] w fun e w' => e = .returned (.int .i64 (onesP x : Nat)) ∧ w' = w := by
  have HC := hide (ones64_any x hx w)
  clear hx
  go_enter Tryd.func32, Tryd.ntmps32
  go_wp2_with fail
  refine (unhide HC).mono ?_
  rintro ee w2 ⟨rfl, hw⟩
  subst w2
  clear HC
  go_wp2_with fail
  go_ret
  exact ⟨rfl, rfl⟩
end Go.Proofs.YtiabccgabbdedaaDoor
