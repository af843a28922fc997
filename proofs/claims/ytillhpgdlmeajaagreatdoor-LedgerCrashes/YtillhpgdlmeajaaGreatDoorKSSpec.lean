/-
  What chapter 5 fixes, as plain functions of lists of numbers.
-/
import Derived.Test.YtillhpgdlmeajaaGreatDoorKHTags
namespace Go.Proofs.YtillhpgdlmeajaaGreatDoor
open Go.RowKit

/-- the node above two. -/
def nodeP (a b : List Int) : List Int := sha (14 :: (a ++ b))
/-- the level above one. -/
def abvP (l : List (List Int)) : List (List Int) := (List.range (l.length / 2)).map fun i => nodeP (l.getD (2 * i) []) (l.getD (2 * i + 1) [])
def lvsP (seed : List Int) (n : Nat) : List (List Int) := (List.range n).map fun i => pubP seed (i : Nat)
/-- an owner's nodes, level for level. -/
def lvP (seed : List Int) : Nat → List (List Int)
  | 0 => lvsP seed 16
  | h + 1 => abvP (lvP seed h)
def topP (seed : List Int) : List Int := (lvP seed 4).getD 0 []
def sibP (i : Nat) : Nat := if i % 2 = 0 then i + 1 else i - 1
/-- the way up from the leaf i, its first n hashes. -/
def pthP (seed : List Int) (i n : Nat) : List (List Int) := (List.range n).map fun h => (lvP seed h).getD (sibP (i / 2 ^ h)) []
/-- what a leaf is led up to. -/
def ledP (x : List Int) (i : Nat) : List (List Int) → List Int
  | [] => x
  | o :: l => ledP (if i % 2 = 0 then nodeP x o else nodeP o x) (i / 2) l

theorem lvsP_succ (seed : List Int) (n : Nat) : lvsP seed (n + 1) = lvsP seed n ++ [pubP seed (n : Nat)] := by simp [lvsP, List.range_succ]
theorem lvsP_len (seed : List Int) (n : Nat) : (lvsP seed n).length = n := by simp [lvsP]
theorem abvP_len (l : List (List Int)) : (abvP l).length = l.length / 2 := by simp [abvP]
theorem nodeP_len (a b : List Int) : (nodeP a b).length = 32 := sha_len _
theorem nodeP_bs (a b : List Int) : Bs (nodeP a b) := sha_bs _
theorem pubP_bs (seed : List Int) (key : Int) : Bs (pubP seed key) := sha_bs _
theorem pthP_succ (seed : List Int) (i n : Nat) : pthP seed i (n + 1) = pthP seed i n ++ [(lvP seed n).getD (sibP (i / 2 ^ n)) []] := by simp [pthP, List.range_succ]
theorem pthP_len (seed : List Int) (i n : Nat) : (pthP seed i n).length = n := by simp [pthP]
theorem lvP_len (seed : List Int) (h : Nat) : (lvP seed h).length = 16 / 2 ^ h := by
  induction h with
  | zero => exact lvsP_len _ _
  | succ h ih => rw [lvP, abvP_len, ih, Nat.pow_succ, Nat.div_div_eq_div_mul]
theorem lvP_all (seed : List Int) (h : Nat) : ∀ x ∈ lvP seed h, x.length = 32 ∧ Bs x := by
  cases h with
  | zero =>
    intro x hx
    obtain ⟨i, _, rfl⟩ := List.mem_map.1 hx
    exact ⟨pubP_len _ _, pubP_bs _ _⟩
  | succ h =>
    intro x hx
    obtain ⟨i, _, rfl⟩ := List.mem_map.1 hx
    exact ⟨nodeP_len _ _, nodeP_bs _ _⟩
theorem getD_mem {l : List (List Int)} {i : Nat} (h : i < l.length) : l.getD i [] ∈ l := by
  rw [List.getD_eq_getElem?_getD, List.getElem?_eq_getElem h]; exact List.getElem_mem h
theorem topP_ok (seed : List Int) : (topP seed).length = 32 ∧ Bs (topP seed) := lvP_all seed 4 _ (getD_mem (by rw [lvP_len]; decide))
theorem sib_lt {i m : Nat} (h : i < 2 * m) : sibP i < 2 * m := by unfold sibP; split <;> omega
theorem div_pow_lt {i h : Nat} (hi : i < 16) (hh : h ≤ 4) : i / 2 ^ h < 16 / 2 ^ h := by
  rcases (by omega : h = 0 ∨ h = 1 ∨ h = 2 ∨ h = 3 ∨ h = 4) with rfl | rfl | rfl | rfl | rfl <;> simp <;> omega
theorem sib_lv {i h : Nat} (hi : i < 16) (hh : h < 4) : sibP (i / 2 ^ h) < 16 / 2 ^ h := by
  have := div_pow_lt hi (Nat.le_of_lt hh)
  rcases (by omega : h = 0 ∨ h = 1 ∨ h = 2 ∨ h = 3) with rfl | rfl | rfl | rfl
  · exact sib_lt (m := 8) this
  · exact sib_lt (m := 4) this
  · exact sib_lt (m := 2) this
  · exact sib_lt (m := 1) this
theorem pthP_all (seed : List Int) (i n : Nat) (hi : i < 16) (hn : n ≤ 4) : ∀ x ∈ pthP seed i n, x.length = 32 ∧ Bs x := by
  intro x hx
  obtain ⟨h, hh, rfl⟩ := List.mem_map.1 hx
  have hh2 : h < n := by simpa using hh
  exact lvP_all seed h _ (getD_mem (by rw [lvP_len]; exact sib_lv hi (by omega)))
theorem ledP_snoc (x : List Int) (i : Nat) (l : List (List Int)) (o : List Int) : ledP x i (l ++ [o]) = if i / 2 ^ l.length % 2 = 0 then nodeP (ledP x i l) o else nodeP o (ledP x i l) := by
  induction l generalizing x i with
  | nil => simp [ledP]
  | cons a l ih =>
    rw [List.cons_append, ledP, ih, List.length_cons, Nat.pow_succ, Nat.mul_comm, ← Nat.div_div_eq_div_mul]
    rfl
theorem abvP_at (l : List (List Int)) (j : Nat) (h : j < l.length / 2) : (abvP l).getD j [] = nodeP (l.getD (2 * j) []) (l.getD (2 * j + 1) []) := by
  rw [List.getD_eq_getElem?_getD]
  simp [abvP, List.getElem?_range h]
/-- P5.3: a key's public is led up to the owner's. -/
theorem ledP_top (seed : List Int) (i : Nat) (hi : i < 16) : ∀ n, n ≤ 4 → ledP (pubP seed (i : Nat)) i (pthP seed i n) = (lvP seed n).getD (i / 2 ^ n) [] := by
  intro n
  induction n with
  | zero =>
    intro _
    show pubP seed (i : Nat) = (lvsP seed 16).getD (i / 1) []
    rw [Nat.div_one, List.getD_eq_getElem?_getD]
    simp [lvsP, List.getElem?_range hi]
  | succ n ih =>
    intro hn
    rw [pthP_succ, ledP_snoc, ih (by omega), pthP_len]
    have hd := div_pow_lt hi hn
    have hl := lvP_len seed n
    have e : i / 2 ^ (n + 1) = i / 2 ^ n / 2 := by rw [Nat.pow_succ, Nat.div_div_eq_div_mul]
    have e2 : 16 / 2 ^ (n + 1) = 16 / 2 ^ n / 2 := by rw [Nat.pow_succ, Nat.div_div_eq_div_mul]
    rw [e, e2] at hd
    rw [lvP, e, abvP_at _ _ (by rw [hl]; exact hd)]
    generalize i / 2 ^ n = j at *
    unfold sibP
    by_cases h : j % 2 = 0
    · rw [if_pos h, if_pos h]
      rw [show 2 * (j / 2) = j by omega]
    · rw [if_neg h, if_neg h]
      rw [show 2 * (j / 2) = j - 1 by omega, show j - 1 + 1 = j by omega]

/-- has a signature its form? -/
def rgtP (i : Int) (ps qs : List (List Int)) : Bool := decide (0 ≤ i ∧ i < 16) && (areP ps && (qs.length == 4 && qs.all (fun x => x.length == 32)))
theorem rgtP_iff (i : Int) (ps qs : List (List Int)) : rgtP i ps qs = true ↔ (0 ≤ i ∧ i < 16) ∧ (ps.length = 64 ∧ ∀ x ∈ ps, x.length = 32) ∧ (qs.length = 4 ∧ ∀ x ∈ qs, x.length = 32) := by
  simp [rgtP, areP]
def verP (pub ms : List Int) (i : Int) (ps qs : List (List Int)) : Bool := rgtP i ps qs && decide (ledP (rootP (digP ms) ps) i.toNat qs = pub)
def encP (i : Int) (ps qs : List (List Int)) : List Int := be4 i ++ (ps.flatten ++ qs.flatten)
def chP (n : Nat) (b : List Int) : List (List Int) := (List.range n).map fun i => (b.drop (32 * i)).take 32
def decOk (b : List Int) : Bool := b.length == 2180 && decide (val (b.take 4) < 16)
theorem rgtP_sgn (seed : List Int) (i : Nat) (hi : i < 16) (d : Int) : rgtP (i : Int) (sgnP seed (i : Int) d) (pthP seed i 4) = true := by
  rw [rgtP_iff]
  refine ⟨by omega, ⟨ptsP_len _ _ _ _, fun x hx => ?_⟩, pthP_len _ _ _, fun x hx => (pthP_all seed i 4 hi (Nat.le_refl _) x hx).1⟩
  unfold sgnP ptsP at hx
  obtain ⟨k, _, rfl⟩ := List.mem_map.1 hx
  exact ptP_len _ _ _ _
theorem verP_sgn (seed ms : List Int) (i : Nat) (hi : i < 16) : verP (topP seed) ms (i : Int) (sgnP seed (i : Int) (digP ms)) (pthP seed i 4) = true := by
  unfold verP
  rw [rgtP_sgn seed i hi, rootP_sgn]
  have h := ledP_top seed i hi 4 (Nat.le_refl _)
  rw [show i / 2 ^ 4 = 0 by simp; omega] at h
  simp only [Int.toNat_natCast, Bool.true_and, decide_eq_true_eq]
  exact h
end Go.Proofs.YtillhpgdlmeajaaGreatDoor
