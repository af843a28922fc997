/-
  Chapter 6 as plain functions: where a row of leaves is parted, leaves, nodes, the root.
-/
import Derived.Test.YtillhpgdlmeajaaGreatDoorKOSmalls
import Derived.Lib.BitFns
namespace Go.Proofs.YtillhpgdlmeajaaGreatDoor

/-- the greatest power of two below n; 0 of n below 2. -/
def tsplP (n : Nat) : Nat := if n < 2 then 0 else 2 ^ (n - 1).log2
theorem tsplP_small {n : Nat} (h : n < 2) : tsplP n = 0 := if_pos h
theorem tsplP_more {n : Nat} (h : 2 ≤ n) : tsplP n = 2 ^ (n - 1).log2 := if_neg (by omega)
theorem tsplP_pos {n : Nat} (h : 2 ≤ n) : 1 ≤ tsplP n := by rw [tsplP_more h]; exact Nat.one_le_two_pow
theorem tsplP_lt {n : Nat} (h : 2 ≤ n) : tsplP n < n := by
  rw [tsplP_more h]
  have := Nat.log2_self_le (n := n - 1) (by omega)
  omega
theorem tsplP_half {n : Nat} (h : 2 ≤ n) : n ≤ 2 * tsplP n := by
  rw [tsplP_more h]
  have := Nat.lt_log2_self (n := n - 1)
  rw [Nat.pow_succ] at this
  omega
theorem tsplP_of {n j : Nat} (h1 : 2 ^ j < n) (h2 : n ≤ 2 * 2 ^ j) : tsplP n = 2 ^ j := by
  have hp : 1 ≤ 2 ^ j := Nat.one_le_two_pow
  rw [tsplP_more (by omega)]
  congr 1
  exact (Nat.log2_eq_iff (by omega)).2 ⟨by omega, by rw [Nat.pow_succ]; omega⟩
theorem tsplP_pow {n : Nat} (h : 2 ≤ n) : ∃ j, tsplP n = 2 ^ j := ⟨_, tsplP_more h⟩
/-- the library's length of a number in bits. -/
theorem bitLen_log : ∀ (f x : Nat), x < 2 ^ f → f ≤ 64 → 1 ≤ x → Lib.bitLen x = x.log2 + 1
  | 0, x, h, _, h1 => by simp at h; omega
  | f + 1, x, h, hf, h1 => by
    have h64 : (2 : Nat) ^ (f + 1) ≤ 2 ^ 64 := Nat.pow_le_pow_right (by omega) hf
    rw [Lib.bitLen_half x (by omega) (by omega)]
    by_cases h2 : x = 1
    · subst h2; decide
    · rw [bitLen_log f (x / 2) (by rw [Nat.pow_succ] at h; omega) (by omega) (by omega)]
      rw [show x.log2 = (x / 2).log2 + 1 by rw [Nat.log2_def x, if_pos (by omega)]]
      omega

def tleafP (b : List Int) : List Int := sha (0 :: b)
def tnodeP (a b : List Int) : List Int := sha (1 :: (a ++ b))
/-- the root of leaves, fewer than f. -/
def trootF : Nat → List (List Int) → List Int
  | 0, _ => sha []
  | f + 1, ls =>
    if 2 ≤ ls.length then tnodeP (trootF f (ls.take (tsplP ls.length))) (trootF f (ls.drop (tsplP ls.length)))
    else match ls with
      | [] => sha []
      | x :: _ => x
theorem trootF_eq : ∀ (f g : Nat) (ls : List (List Int)), ls.length < f → ls.length < g → trootF f ls = trootF g ls
  | 0, _, _, h, _ => absurd h (Nat.not_lt_zero _)
  | _ + 1, 0, _, _, h => absurd h (Nat.not_lt_zero _)
  | f + 1, g + 1, ls, hf, hg => by
    by_cases h : 2 ≤ ls.length
    · have h1 := tsplP_lt h
      have h2 := tsplP_pos h
      show (if 2 ≤ ls.length then _ else _) = (if 2 ≤ ls.length then _ else _)
      rw [if_pos h, if_pos h, trootF_eq f g (ls.take (tsplP ls.length)) (by rw [List.length_take]; omega) (by rw [List.length_take]; omega), trootF_eq f g (ls.drop (tsplP ls.length)) (by rw [List.length_drop]; omega) (by rw [List.length_drop]; omega)]
    · show (if 2 ≤ ls.length then _ else _) = (if 2 ≤ ls.length then _ else _)
      rw [if_neg h, if_neg h]
/-- the root of leaves. -/
def trootP (ls : List (List Int)) : List Int := trootF (ls.length + 1) ls
theorem trootP_nil : trootP [] = sha [] := rfl
theorem trootP_one (x : List Int) : trootP [x] = x := rfl
theorem trootP_more {ls : List (List Int)} (h : 2 ≤ ls.length) : trootP ls = tnodeP (trootP (ls.take (tsplP ls.length))) (trootP (ls.drop (tsplP ls.length))) := by
  have h1 := tsplP_lt h
  have h2 := tsplP_pos h
  show (if 2 ≤ ls.length then _ else _) = _
  rw [if_pos h]
  unfold trootP
  rw [trootF_eq ls.length ((ls.take (tsplP ls.length)).length + 1) (ls.take (tsplP ls.length)) (by rw [List.length_take]; omega) (by omega), trootF_eq ls.length ((ls.drop (tsplP ls.length)).length + 1) (ls.drop (tsplP ls.length)) (by rw [List.length_drop]; omega) (by omega)]
theorem tnodeP_len (a b : List Int) : (tnodeP a b).length = 32 := sha_len _
theorem trootP_all (Q : List Int → Prop) (hs : ∀ bs, Q (sha bs)) (ls : List (List Int)) (h : ∀ x ∈ ls, Q x) : Q (trootP ls) := by
  match ls with
  | [] => rw [trootP_nil]; exact hs _
  | [x] => rw [trootP_one]; exact h x (by simp)
  | x :: y :: r => rw [trootP_more (by simp)]; exact hs _
theorem trootP_bs (ls : List (List Int)) (h : ∀ x ∈ ls, Bs x) : Bs (trootP ls) := trootP_all Bs sha_bs ls h
theorem trootP_le (n : Nat) (hn : 32 ≤ n) (ls : List (List Int)) (h : ∀ x ∈ ls, x.length ≤ n) : (trootP ls).length ≤ n := trootP_all (fun x => x.length ≤ n) (fun bs => by show (sha bs).length ≤ n; rw [sha_len]; omega) ls h
theorem trootP_len (ls : List (List Int)) (h : ∀ x ∈ ls, x.length = 32) : (trootP ls).length = 32 := trootP_all (fun x => x.length = 32) (fun bs => sha_len bs) ls h
end Go.Proofs.YtillhpgdlmeajaaGreatDoor
