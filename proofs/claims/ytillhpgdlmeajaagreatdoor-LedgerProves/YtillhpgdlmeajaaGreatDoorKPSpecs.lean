/-
  Chapter 8 as plain functions: paths, how long they are, what they lead to.
-/
import Derived.Test.YtillhpgdlmeajaaGreatDoorKTSpec
namespace Go.Proofs.YtillhpgdlmeajaaGreatDoor

/-- how many hashes a path of leaf i among n has. -/
def cntF : Nat → Nat → Nat → Nat
  | 0, _, _ => 0
  | f + 1, n, i => if 2 ≤ n then (if i < tsplP n then cntF f (tsplP n) i + 1 else cntF f (n - tsplP n) (i - tsplP n) + 1) else 0
theorem cntF_eq : ∀ (f g n i : Nat), n ≤ f → n ≤ g → cntF f n i = cntF g n i
  | 0, 0, _, _, _, _ => rfl
  | 0, g + 1, n, i, h, _ => by show 0 = (if 2 ≤ n then _ else _); rw [if_neg (by omega)]
  | f + 1, 0, n, i, _, h => by show (if 2 ≤ n then _ else _) = 0; rw [if_neg (by omega)]
  | f + 1, g + 1, n, i, hf, hg => by
    by_cases h : 2 ≤ n
    · have h1 := tsplP_lt h
      have h2 := tsplP_pos h
      show (if 2 ≤ n then _ else _) = (if 2 ≤ n then _ else _)
      rw [if_pos h, if_pos h, cntF_eq f g (tsplP n) i (by omega) (by omega), cntF_eq f g (n - tsplP n) (i - tsplP n) (by omega) (by omega)]
    · show (if 2 ≤ n then _ else _) = (if 2 ≤ n then _ else _)
      rw [if_neg h, if_neg h]
def cntP (n i : Nat) : Nat := cntF n n i
theorem cntP_small {n i : Nat} (h : n < 2) : cntP n i = 0 := by
  unfold cntP
  cases n with
  | zero => rfl
  | succ m => show (if 2 ≤ m + 1 then _ else _) = 0; rw [if_neg (by omega)]
theorem cntP_more {n i : Nat} (h : 2 ≤ n) : cntP n i = if i < tsplP n then cntP (tsplP n) i + 1 else cntP (n - tsplP n) (i - tsplP n) + 1 := by
  have h1 := tsplP_lt h
  have h2 := tsplP_pos h
  unfold cntP
  cases n with
  | zero => omega
  | succ m =>
    show (if 2 ≤ m + 1 then _ else _) = _
    rw [if_pos h, cntF_eq m (tsplP (m + 1)) (tsplP (m + 1)) i (by omega) (by omega), cntF_eq m (m + 1 - tsplP (m + 1)) (m + 1 - tsplP (m + 1)) (i - tsplP (m + 1)) (by omega) (by omega)]
theorem cntP_left {n i : Nat} (h : 2 ≤ n) (hi : i < tsplP n) : cntP n i = cntP (tsplP n) i + 1 := by rw [cntP_more h, if_pos hi]
theorem cntP_right {n i : Nat} (h : 2 ≤ n) (hi : ¬ i < tsplP n) : cntP n i = cntP (n - tsplP n) (i - tsplP n) + 1 := by rw [cntP_more h, if_neg hi]
theorem tsplP_two {n j : Nat} (h : 2 ≤ n) (hn : n ≤ 2 ^ (j + 1)) : tsplP n ≤ 2 ^ j ∧ n - tsplP n ≤ 2 ^ j := by
  obtain ⟨a, ha⟩ := tsplP_pow h
  have h1 := tsplP_lt h
  have h2 := tsplP_half h
  have h3 : 2 ^ a < 2 ^ (j + 1) := by omega
  have h4 : a < j + 1 := (Nat.pow_lt_pow_iff_right (by omega)).1 h3
  have h5 : 2 ^ a ≤ 2 ^ j := Nat.pow_le_pow_right (by omega) (by omega)
  omega
theorem cntP_le : ∀ (j n i : Nat), n ≤ 2 ^ j → cntP n i ≤ j
  | 0, n, i, h => by rw [cntP_small (by simp at h; omega)]; omega
  | j + 1, n, i, h => by
    by_cases h2 : 2 ≤ n
    · obtain ⟨h3, h4⟩ := tsplP_two h2 h
      rw [cntP_more h2]
      split
      · have := cntP_le j (tsplP n) i h3; omega
      · have := cntP_le j (n - tsplP n) (i - tsplP n) h4; omega
    · rw [cntP_small (by omega)]; omega
theorem cntP_pow : ∀ (j i : Nat), cntP (2 ^ j) i = j
  | 0, i => by rw [cntP_small (by simp)]
  | j + 1, i => by
    have hp : 1 ≤ 2 ^ j := Nat.one_le_two_pow
    have h2 : 2 ≤ 2 ^ (j + 1) := by rw [Nat.pow_succ]; omega
    have hk : tsplP (2 ^ (j + 1)) = 2 ^ j := tsplP_of (by rw [Nat.pow_succ]; omega) (by rw [Nat.pow_succ]; omega)
    rw [cntP_more h2, hk, show 2 ^ (j + 1) - 2 ^ j = 2 ^ j by rw [Nat.pow_succ]; omega, cntP_pow j i, cntP_pow j (i - 2 ^ j)]
    split <;> rfl

/-- the path of leaf i. -/
def incF : Nat → List (List Int) → Nat → List (List Int)
  | 0, _, _ => []
  | f + 1, ls, i => if 2 ≤ ls.length then (if i < tsplP ls.length then incF f (ls.take (tsplP ls.length)) i ++ [trootP (ls.drop (tsplP ls.length))] else incF f (ls.drop (tsplP ls.length)) (i - tsplP ls.length) ++ [trootP (ls.take (tsplP ls.length))]) else []
theorem incF_eq : ∀ (f g : Nat) (ls : List (List Int)) (i : Nat), ls.length ≤ f → ls.length ≤ g → incF f ls i = incF g ls i
  | 0, 0, _, _, _, _ => rfl
  | 0, g + 1, ls, i, h, _ => by show [] = (if 2 ≤ ls.length then _ else _); rw [if_neg (by omega)]
  | f + 1, 0, ls, i, _, h => by show (if 2 ≤ ls.length then _ else _) = []; rw [if_neg (by omega)]
  | f + 1, g + 1, ls, i, hf, hg => by
    by_cases h : 2 ≤ ls.length
    · have h1 := tsplP_lt h
      have h2 := tsplP_pos h
      show (if 2 ≤ ls.length then _ else _) = (if 2 ≤ ls.length then _ else _)
      rw [if_pos h, if_pos h, incF_eq f g (ls.take (tsplP ls.length)) i (by rw [List.length_take]; omega) (by rw [List.length_take]; omega), incF_eq f g (ls.drop (tsplP ls.length)) (i - tsplP ls.length) (by rw [List.length_drop]; omega) (by rw [List.length_drop]; omega)]
    · show (if 2 ≤ ls.length then _ else _) = (if 2 ≤ ls.length then _ else _)
      rw [if_neg h, if_neg h]
def incP (ls : List (List Int)) (i : Nat) : List (List Int) := incF ls.length ls i
theorem incP_small {ls : List (List Int)} {i : Nat} (h : ls.length < 2) : incP ls i = [] := by
  unfold incP
  rw [incF_eq ls.length (ls.length + 1) ls i (by omega) (by omega)]
  show (if 2 ≤ ls.length then _ else _) = []
  rw [if_neg (by omega)]
theorem incP_more {ls : List (List Int)} {i : Nat} (h : 2 ≤ ls.length) : incP ls i = if i < tsplP ls.length then incP (ls.take (tsplP ls.length)) i ++ [trootP (ls.drop (tsplP ls.length))] else incP (ls.drop (tsplP ls.length)) (i - tsplP ls.length) ++ [trootP (ls.take (tsplP ls.length))] := by
  have h1 := tsplP_lt h
  have h2 := tsplP_pos h
  unfold incP
  rw [incF_eq ls.length (ls.length + 1) ls i (by omega) (by omega)]
  show (if 2 ≤ ls.length then _ else _) = _
  rw [if_pos h, incF_eq ls.length (ls.take (tsplP ls.length)).length (ls.take (tsplP ls.length)) i (by rw [List.length_take]; omega) (by omega), incF_eq ls.length (ls.drop (tsplP ls.length)).length (ls.drop (tsplP ls.length)) (i - tsplP ls.length) (by rw [List.length_drop]; omega) (by omega)]
theorem incP_left {ls : List (List Int)} {i k : Nat} (h : 2 ≤ ls.length) (hk : k = tsplP ls.length) (hi : i < k) : incP ls i = incP (ls.take k) i ++ [trootP (ls.drop k)] := by subst hk; rw [incP_more h, if_pos hi]
theorem incP_right {ls : List (List Int)} {i k : Nat} (h : 2 ≤ ls.length) (hk : k = tsplP ls.length) (hi : ¬ i < k) : incP ls i = incP (ls.drop k) (i - k) ++ [trootP (ls.take k)] := by subst hk; rw [incP_more h, if_neg hi]
theorem incP_len (n : Nat) : ∀ (ls : List (List Int)) (i : Nat), ls.length = n → (incP ls i).length = cntP n i := by
  induction n using Nat.strongRecOn with
  | ind n ih =>
    intro ls i hl
    by_cases h : 2 ≤ n
    · have h1 := tsplP_lt h
      have h2 := tsplP_pos h
      by_cases hi : i < tsplP n
      · rw [incP_left (by omega) (by rw [hl]) hi, cntP_left h hi, List.length_append, ih (tsplP n) h1 _ i (by rw [List.length_take]; omega)]; rfl
      · rw [incP_right (by omega) (by rw [hl]) hi, cntP_right h hi, List.length_append, ih (n - tsplP n) (by omega) _ _ (by rw [List.length_drop]; omega)]; rfl
    · rw [incP_small (by omega), cntP_small (by omega)]; rfl
theorem incP_all (Q : List Int → Prop) (hs : ∀ bs, Q (sha bs)) (n : Nat) : ∀ (ls : List (List Int)) (i : Nat), ls.length = n → (∀ x ∈ ls, Q x) → ∀ x ∈ incP ls i, Q x := by
  induction n using Nat.strongRecOn with
  | ind n ih =>
    intro ls i hl hq x hx
    by_cases h : 2 ≤ n
    · have h1 := tsplP_lt h
      have h2 := tsplP_pos h
      have qt : ∀ x ∈ ls.take (tsplP n), Q x := fun x hx => hq x (List.mem_of_mem_take hx)
      have qd : ∀ x ∈ ls.drop (tsplP n), Q x := fun x hx => hq x (List.mem_of_mem_drop hx)
      by_cases hi : i < tsplP n
      · rw [incP_left (by omega) (by rw [hl]) hi] at hx
        rcases List.mem_append.1 hx with hx | hx
        · exact ih (tsplP n) h1 _ i (by rw [List.length_take]; omega) qt x hx
        · obtain rfl : x = _ := by simpa using hx
          exact trootP_all Q hs _ qd
      · rw [incP_right (by omega) (by rw [hl]) hi] at hx
        rcases List.mem_append.1 hx with hx | hx
        · exact ih (n - tsplP n) (by omega) _ _ (by rw [List.length_drop]; omega) qd x hx
        · obtain rfl : x = _ := by simpa using hx
          exact trootP_all Q hs _ qt
    · rw [incP_small (by omega)] at hx
      cases hx

/-- a path without its last hash, and that one. -/
def initP (ps : List (List Int)) : List (List Int) := ps.take (ps.length - 1)
def lastP (ps : List (List Int)) : List Int := ps.getD (ps.length - 1) []
theorem initP_snoc (ps : List (List Int)) (x : List Int) : initP (ps ++ [x]) = ps := by simp [initP]
theorem lastP_snoc (ps : List (List Int)) (x : List Int) : lastP (ps ++ [x]) = x := by simp [lastP]
theorem initP_len (ps : List (List Int)) : (initP ps).length = ps.length - 1 := by simp [initP]
theorem initP_mem {ps : List (List Int)} {x : List Int} (h : x ∈ initP ps) : x ∈ ps := List.mem_of_mem_take h
theorem lastP_at {ps : List (List Int)} (h : 0 < ps.length) : ps[ps.length - 1]? = some (lastP ps) := by
  unfold lastP
  rw [List.getD_eq_getElem?_getD, List.getElem?_eq_getElem (by omega)]; rfl
theorem lastP_mem {ps : List (List Int)} (h : 0 < ps.length) : lastP ps ∈ ps := List.mem_of_getElem? (lastP_at h)

/-- the root of n leaves by leaf i and a path. -/
def ledF : Nat → Nat → Nat → List (List Int) → List Int → List Int
  | 0, _, _, _, x => x
  | f + 1, n, i, ps, x => if 2 ≤ n then (if i < tsplP n then tnodeP (ledF f (tsplP n) i (initP ps) x) (lastP ps) else tnodeP (lastP ps) (ledF f (n - tsplP n) (i - tsplP n) (initP ps) x)) else x
theorem ledF_eq : ∀ (f g n i : Nat) (ps : List (List Int)) (x : List Int), n ≤ f → n ≤ g → ledF f n i ps x = ledF g n i ps x
  | 0, 0, _, _, _, _, _, _ => rfl
  | 0, g + 1, n, i, ps, x, h, _ => by show x = (if 2 ≤ n then _ else _); rw [if_neg (by omega)]
  | f + 1, 0, n, i, ps, x, _, h => by show (if 2 ≤ n then _ else _) = x; rw [if_neg (by omega)]
  | f + 1, g + 1, n, i, ps, x, hf, hg => by
    by_cases h : 2 ≤ n
    · have h1 := tsplP_lt h
      have h2 := tsplP_pos h
      show (if 2 ≤ n then _ else _) = (if 2 ≤ n then _ else _)
      rw [if_pos h, if_pos h, ledF_eq f g (tsplP n) i (initP ps) x (by omega) (by omega), ledF_eq f g (n - tsplP n) (i - tsplP n) (initP ps) x (by omega) (by omega)]
    · show (if 2 ≤ n then _ else _) = (if 2 ≤ n then _ else _)
      rw [if_neg h, if_neg h]
def leadP (n i : Nat) (ps : List (List Int)) (x : List Int) : List Int := ledF n n i ps x
theorem leadP_small {n i : Nat} {ps : List (List Int)} {x : List Int} (h : n < 2) : leadP n i ps x = x := by
  unfold leadP
  cases n with
  | zero => rfl
  | succ m => show (if 2 ≤ m + 1 then _ else _) = x; rw [if_neg (by omega)]
theorem leadP_more {n i : Nat} {ps : List (List Int)} {x : List Int} (h : 2 ≤ n) : leadP n i ps x = if i < tsplP n then tnodeP (leadP (tsplP n) i (initP ps) x) (lastP ps) else tnodeP (lastP ps) (leadP (n - tsplP n) (i - tsplP n) (initP ps) x) := by
  have h1 := tsplP_lt h
  have h2 := tsplP_pos h
  unfold leadP
  cases n with
  | zero => omega
  | succ m =>
    show (if 2 ≤ m + 1 then _ else _) = _
    rw [if_pos h, ledF_eq m (tsplP (m + 1)) (tsplP (m + 1)) i (initP ps) x (by omega) (by omega), ledF_eq m (m + 1 - tsplP (m + 1)) (m + 1 - tsplP (m + 1)) (i - tsplP (m + 1)) (initP ps) x (by omega) (by omega)]
theorem leadP_left {n i k : Nat} {ps : List (List Int)} {x : List Int} (h : 2 ≤ n) (hk : k = tsplP n) (hi : i < k) : leadP n i ps x = tnodeP (leadP k i (initP ps) x) (lastP ps) := by subst hk; rw [leadP_more h, if_pos hi]
theorem leadP_right {n i k : Nat} {ps : List (List Int)} {x : List Int} (h : 2 ≤ n) (hk : k = tsplP n) (hi : ¬ i < k) : leadP n i ps x = tnodeP (lastP ps) (leadP (n - k) (i - k) (initP ps) x) := by subst hk; rw [leadP_more h, if_neg hi]
theorem leadP_all (Q : List Int → Prop) (hs : ∀ bs, Q (sha bs)) (n i : Nat) (ps : List (List Int)) (x : List Int) (hx : Q x) : Q (leadP n i ps x) := by
  by_cases h : 2 ≤ n
  · rw [leadP_more h]
    split <;> exact hs _
  · rw [leadP_small (by omega)]; exact hx
/-- what a path of Include leads to, whatever leaf is shown. -/
theorem leadP_inc (n : Nat) : ∀ (ls : List (List Int)) (i : Nat) (x : List Int), ls.length = n → i < n → leadP n i (incP ls i) x = trootP (ls.set i x) := by
  induction n using Nat.strongRecOn with
  | ind n ih =>
    intro ls i x hl hin
    by_cases h : 2 ≤ n
    · have h1 := tsplP_lt h
      have h2 := tsplP_pos h
      obtain ⟨k, hk⟩ : ∃ k, k = tsplP n := ⟨_, rfl⟩
      rw [← hk] at h1 h2
      have hls : (ls.set i x).length = n := by rw [List.length_set, hl]
      rw [trootP_more (ls := ls.set i x) (by omega), hls, ← hk]
      by_cases hi : i < k
      · rw [incP_left (by omega) (by rw [hl]; exact hk) hi, leadP_left h hk hi, initP_snoc, lastP_snoc, ih k h1 _ i x (by rw [List.length_take]; omega) hi, List.take_set, List.drop_set_of_lt hi]
      · rw [incP_right (by omega) (by rw [hl]; exact hk) hi, leadP_right h hk hi, initP_snoc, lastP_snoc, ih (n - k) (by omega) _ (i - k) x (by rw [List.length_drop]; omega) (by omega), List.take_set_of_le (by omega), List.drop_set, if_neg hi]
    · rw [leadP_small (by omega)]
      match ls, hl with
      | [], hl => simp at hl; omega
      | [y], hl =>
        obtain rfl : i = 0 := by simp at hl; omega
        exact (trootP_one x).symm
      | y :: z :: r, hl => simp at hl; omega
theorem leadP_own {n : Nat} {ls : List (List Int)} {i : Nat} {x : List Int} (hl : ls.length = n) (hx : ls[i]? = some x) : leadP n i (incP ls i) x = trootP ls := by
  have hi := (List.getElem?_eq_some_iff.1 hx).1
  rw [leadP_inc n ls i x hl (by omega)]
  congr 1
  obtain ⟨h, rfl⟩ := List.getElem?_eq_some_iff.1 hx
  exact List.set_getElem_self h
end Go.Proofs.YtillhpgdlmeajaaGreatDoor

/-
  Chapter 8 as plain functions: growths, how long they are, what they lead to.
-/
namespace Go.Proofs.YtillhpgdlmeajaaGreatDoor

/-- how many hashes a growth has. -/
def lenF : Nat → Nat → Nat → Bool → Nat
  | 0, _, _, _ => 0
  | f + 1, m, n, b => if m = n then (if b then 0 else 1) else (if m ≤ tsplP n then lenF f m (tsplP n) b + 1 else lenF f (m - tsplP n) (n - tsplP n) false + 1)
theorem lenF_eq : ∀ (f g m n : Nat) (b : Bool), n < f → n < g → 1 ≤ m → m ≤ n → lenF f m n b = lenF g m n b
  | 0, _, _, _, _, h, _, _, _ => absurd h (Nat.not_lt_zero _)
  | _ + 1, 0, _, _, _, _, h, _, _ => absurd h (Nat.not_lt_zero _)
  | f + 1, g + 1, m, n, b, hf, hg, h1, h2 => by
    show (if m = n then _ else _) = (if m = n then _ else _)
    by_cases e : m = n
    · rw [if_pos e, if_pos e]
    · have hn : 2 ≤ n := by omega
      have h3 := tsplP_lt hn
      have h4 := tsplP_pos hn
      rw [if_neg e, if_neg e]
      by_cases hk : m ≤ tsplP n
      · rw [if_pos hk, if_pos hk, lenF_eq f g m (tsplP n) b (by omega) (by omega) h1 hk]
      · rw [if_neg hk, if_neg hk, lenF_eq f g (m - tsplP n) (n - tsplP n) false (by omega) (by omega) (by omega) (by omega)]
def lenP (m n : Nat) (b : Bool) : Nat := lenF (n + 1) m n b
theorem lenP_same (n : Nat) (b : Bool) : lenP n n b = if b then 0 else 1 := by
  show (if n = n then _ else _) = _
  rw [if_pos rfl]
theorem lenP_left {m n k : Nat} {b : Bool} (h1 : 1 ≤ m) (h2 : m < n) (hk : k = tsplP n) (h : m ≤ k) : lenP m n b = lenP m k b + 1 := by
  have h3 := tsplP_lt (n := n) (by omega)
  show (if m = n then _ else _) = _
  rw [if_neg (by omega), ← hk, if_pos h, lenF_eq n (k + 1) m k b (by omega) (by omega) h1 h]; rfl
theorem lenP_right {m n k : Nat} {b : Bool} (h1 : 1 ≤ m) (h2 : m < n) (hk : k = tsplP n) (h : ¬ m ≤ k) : lenP m n b = lenP (m - k) (n - k) false + 1 := by
  have h3 := tsplP_lt (n := n) (by omega)
  have h4 := tsplP_pos (n := n) (by omega)
  show (if m = n then _ else _) = _
  rw [if_neg (by omega), ← hk, if_neg h, lenF_eq n (n - k + 1) (m - k) (n - k) false (by omega) (by omega) (by omega) (by omega)]; rfl
theorem lenP_le : ∀ (j m n : Nat) (b : Bool), 1 ≤ m → m ≤ n → n ≤ 2 ^ j → lenP m n b ≤ j + 1
  | 0, m, n, b, h1, h2, h => by
    obtain rfl : m = n := by simp at h; omega
    rw [lenP_same]; split <;> omega
  | j + 1, m, n, b, h1, h2, h => by
    by_cases e : m = n
    · subst e; rw [lenP_same]; split <;> omega
    · obtain ⟨h3, h4⟩ := tsplP_two (n := n) (by omega) h
      by_cases hk : m ≤ tsplP n
      · rw [lenP_left h1 (by omega) rfl hk]
        have := lenP_le j m (tsplP n) b h1 hk h3
        omega
      · rw [lenP_right h1 (by omega) rfl hk]
        have := lenP_le j (m - tsplP n) (n - tsplP n) false (by omega) (by omega) h4
        omega

/-- SUBPROOF. -/
def subF : Nat → Nat → List (List Int) → Bool → List (List Int)
  | 0, _, _, _ => []
  | f + 1, m, ls, b => if m = ls.length then (if b then [] else [trootP ls]) else (if m ≤ tsplP ls.length then subF f m (ls.take (tsplP ls.length)) b ++ [trootP (ls.drop (tsplP ls.length))] else subF f (m - tsplP ls.length) (ls.drop (tsplP ls.length)) false ++ [trootP (ls.take (tsplP ls.length))])
theorem subF_eq : ∀ (f g m : Nat) (ls : List (List Int)) (b : Bool), ls.length < f → ls.length < g → 1 ≤ m → m ≤ ls.length → subF f m ls b = subF g m ls b
  | 0, _, _, _, _, h, _, _, _ => absurd h (Nat.not_lt_zero _)
  | _ + 1, 0, _, _, _, _, h, _, _ => absurd h (Nat.not_lt_zero _)
  | f + 1, g + 1, m, ls, b, hf, hg, h1, h2 => by
    show (if m = ls.length then _ else _) = (if m = ls.length then _ else _)
    by_cases e : m = ls.length
    · rw [if_pos e, if_pos e]
    · have hn : 2 ≤ ls.length := by omega
      have h3 := tsplP_lt hn
      have h4 := tsplP_pos hn
      rw [if_neg e, if_neg e]
      by_cases hk : m ≤ tsplP ls.length
      · rw [if_pos hk, if_pos hk, subF_eq f g m (ls.take (tsplP ls.length)) b (by rw [List.length_take]; omega) (by rw [List.length_take]; omega) h1 (by rw [List.length_take]; omega)]
      · rw [if_neg hk, if_neg hk, subF_eq f g (m - tsplP ls.length) (ls.drop (tsplP ls.length)) false (by rw [List.length_drop]; omega) (by rw [List.length_drop]; omega) (by omega) (by rw [List.length_drop]; omega)]
def subP (m : Nat) (ls : List (List Int)) (b : Bool) : List (List Int) := subF (ls.length + 1) m ls b
theorem subP_same {m : Nat} {ls : List (List Int)} (h : m = ls.length) (b : Bool) : subP m ls b = if b then [] else [trootP ls] := by
  show (if m = ls.length then _ else _) = _
  rw [if_pos h]
theorem subP_left {m k : Nat} {ls : List (List Int)} {b : Bool} (h1 : 1 ≤ m) (h2 : m < ls.length) (hk : k = tsplP ls.length) (h : m ≤ k) : subP m ls b = subP m (ls.take k) b ++ [trootP (ls.drop k)] := by
  have h3 := tsplP_lt (n := ls.length) (by omega)
  show (if m = ls.length then _ else _) = _
  rw [if_neg (by omega), ← hk, if_pos h, subF_eq ls.length ((ls.take k).length + 1) m (ls.take k) b (by rw [List.length_take]; omega) (by omega) h1 (by rw [List.length_take]; omega)]; rfl
theorem subP_right {m k : Nat} {ls : List (List Int)} {b : Bool} (h1 : 1 ≤ m) (h2 : m < ls.length) (hk : k = tsplP ls.length) (h : ¬ m ≤ k) : subP m ls b = subP (m - k) (ls.drop k) false ++ [trootP (ls.take k)] := by
  have h3 := tsplP_lt (n := ls.length) (by omega)
  have h4 := tsplP_pos (n := ls.length) (by omega)
  show (if m = ls.length then _ else _) = _
  rw [if_neg (by omega), ← hk, if_neg h, subF_eq ls.length ((ls.drop k).length + 1) (m - k) (ls.drop k) false (by rw [List.length_drop]; omega) (by omega) (by omega) (by rw [List.length_drop]; omega)]; rfl
theorem subP_len (n : Nat) : ∀ (m : Nat) (ls : List (List Int)) (b : Bool), ls.length = n → 1 ≤ m → m ≤ n → (subP m ls b).length = lenP m n b := by
  induction n using Nat.strongRecOn with
  | ind n ih =>
    intro m ls b hl h1 h2
    by_cases e : m = n
    · subst e
      rw [subP_same (by omega), lenP_same]
      split <;> rfl
    · have hn : 2 ≤ n := by omega
      have h3 := tsplP_lt hn
      have h4 := tsplP_pos hn
      by_cases hk : m ≤ tsplP n
      · rw [subP_left h1 (by omega) (by rw [hl]) hk, lenP_left h1 (by omega) rfl hk, List.length_append, ih (tsplP n) h3 m _ b (by rw [List.length_take]; omega) h1 hk]; rfl
      · rw [subP_right h1 (by omega) (by rw [hl]) hk, lenP_right h1 (by omega) rfl hk, List.length_append, ih (n - tsplP n) (by omega) _ _ false (by rw [List.length_drop]; omega) (by omega) (by omega)]; rfl
theorem subP_all (Q : List Int → Prop) (hs : ∀ bs, Q (sha bs)) (n : Nat) : ∀ (m : Nat) (ls : List (List Int)) (b : Bool), ls.length = n → 1 ≤ m → m ≤ n → (∀ x ∈ ls, Q x) → ∀ x ∈ subP m ls b, Q x := by
  induction n using Nat.strongRecOn with
  | ind n ih =>
    intro m ls b hl h1 h2 hq x hx
    by_cases e : m = n
    · subst e
      rw [subP_same (by omega)] at hx
      split at hx
      · cases hx
      · obtain rfl : x = _ := by simpa using hx
        exact trootP_all Q hs _ hq
    · have hn : 2 ≤ n := by omega
      have h3 := tsplP_lt hn
      have h4 := tsplP_pos hn
      have qt : ∀ x ∈ ls.take (tsplP n), Q x := fun x hx => hq x (List.mem_of_mem_take hx)
      have qd : ∀ x ∈ ls.drop (tsplP n), Q x := fun x hx => hq x (List.mem_of_mem_drop hx)
      by_cases hk : m ≤ tsplP n
      · rw [subP_left h1 (by omega) (by rw [hl]) hk] at hx
        rcases List.mem_append.1 hx with hx | hx
        · exact ih (tsplP n) h3 m _ b (by rw [List.length_take]; omega) h1 hk qt x hx
        · obtain rfl : x = _ := by simpa using hx
          exact trootP_all Q hs _ qd
      · rw [subP_right h1 (by omega) (by rw [hl]) hk] at hx
        rcases List.mem_append.1 hx with hx | hx
        · exact ih (n - tsplP n) (by omega) _ _ false (by rw [List.length_drop]; omega) (by omega) (by omega) qd x hx
        · obtain rfl : x = _ := by simpa using hx
          exact trootP_all Q hs _ qt

/-- the roots of the first m and of all n leaves, by a path. -/
def ldsF : Nat → Nat → Nat → Bool → List (List Int) → List Int → List Int × List Int
  | 0, _, _, _, _, x => (x, x)
  | f + 1, m, n, b, ps, x => if m = n then (if b then (x, x) else (ps.getD 0 [], ps.getD 0 [])) else (if m ≤ tsplP n then ((ldsF f m (tsplP n) b (initP ps) x).1, tnodeP (ldsF f m (tsplP n) b (initP ps) x).2 (lastP ps)) else (tnodeP (lastP ps) (ldsF f (m - tsplP n) (n - tsplP n) false (initP ps) x).1, tnodeP (lastP ps) (ldsF f (m - tsplP n) (n - tsplP n) false (initP ps) x).2))
theorem ldsF_eq : ∀ (f g m n : Nat) (b : Bool) (ps : List (List Int)) (x : List Int), n < f → n < g → 1 ≤ m → m ≤ n → ldsF f m n b ps x = ldsF g m n b ps x
  | 0, _, _, _, _, _, _, h, _, _, _ => absurd h (Nat.not_lt_zero _)
  | _ + 1, 0, _, _, _, _, _, _, h, _, _ => absurd h (Nat.not_lt_zero _)
  | f + 1, g + 1, m, n, b, ps, x, hf, hg, h1, h2 => by
    show (if m = n then _ else _) = (if m = n then _ else _)
    by_cases e : m = n
    · rw [if_pos e, if_pos e]
    · have hn : 2 ≤ n := by omega
      have h3 := tsplP_lt hn
      have h4 := tsplP_pos hn
      rw [if_neg e, if_neg e]
      by_cases hk : m ≤ tsplP n
      · rw [if_pos hk, if_pos hk, ldsF_eq f g m (tsplP n) b (initP ps) x (by omega) (by omega) h1 hk]
      · rw [if_neg hk, if_neg hk, ldsF_eq f g (m - tsplP n) (n - tsplP n) false (initP ps) x (by omega) (by omega) (by omega) (by omega)]
def ldsP (m n : Nat) (b : Bool) (ps : List (List Int)) (x : List Int) : List Int × List Int := ldsF (n + 1) m n b ps x
theorem ldsP_old (n : Nat) (ps : List (List Int)) (x : List Int) : ldsP n n true ps x = (x, x) := by
  show (if n = n then _ else _) = _
  rw [if_pos rfl]; rfl
theorem ldsP_new (n : Nat) (ps : List (List Int)) (x : List Int) : ldsP n n false ps x = (ps.getD 0 [], ps.getD 0 []) := by
  show (if n = n then _ else _) = _
  rw [if_pos rfl]; rfl
theorem ldsP_left {m n k : Nat} {b : Bool} {ps : List (List Int)} {x : List Int} (h1 : 1 ≤ m) (h2 : m < n) (hk : k = tsplP n) (h : m ≤ k) : ldsP m n b ps x = ((ldsP m k b (initP ps) x).1, tnodeP (ldsP m k b (initP ps) x).2 (lastP ps)) := by
  have h3 := tsplP_lt (n := n) (by omega)
  show (if m = n then _ else _) = _
  rw [if_neg (by omega), ← hk, if_pos h, ldsF_eq n (k + 1) m k b _ _ (by omega) (by omega) h1 h]; rfl
theorem ldsP_right {m n k : Nat} {b : Bool} {ps : List (List Int)} {x : List Int} (h1 : 1 ≤ m) (h2 : m < n) (hk : k = tsplP n) (h : ¬ m ≤ k) : ldsP m n b ps x = (tnodeP (lastP ps) (ldsP (m - k) (n - k) false (initP ps) x).1, tnodeP (lastP ps) (ldsP (m - k) (n - k) false (initP ps) x).2) := by
  have h3 := tsplP_lt (n := n) (by omega)
  have h4 := tsplP_pos (n := n) (by omega)
  show (if m = n then _ else _) = _
  rw [if_neg (by omega), ← hk, if_neg h, ldsF_eq n (n - k + 1) (m - k) (n - k) false _ _ (by omega) (by omega) (by omega) (by omega)]; rfl
/-- what holds of the old root, of sums and of a path's hashes holds of both roots. -/
theorem ldsP_all (Q : List Int → Prop) (hs : ∀ bs, Q (sha bs)) (n : Nat) : ∀ (m : Nat) (b : Bool) (ps : List (List Int)) (x : List Int), 1 ≤ m → m ≤ n → ps.length = lenP m n b → (∀ y ∈ ps, Q y) → Q x → Q (ldsP m n b ps x).1 ∧ Q (ldsP m n b ps x).2 := by
  induction n using Nat.strongRecOn with
  | ind n ih =>
    intro m b ps x h1 h2 hl hq hx
    by_cases e : m = n
    · subst e
      cases b with
      | true => rw [ldsP_old]; exact ⟨hx, hx⟩
      | false =>
        rw [lenP_same] at hl
        have hl1 : ps.length = 1 := hl
        rw [ldsP_new]
        have : ps.getD 0 [] ∈ ps := by
          match ps, hl1 with
          | [y], _ => simp
        exact ⟨hq _ this, hq _ this⟩
    · have hn : 2 ≤ n := by omega
      have h3 := tsplP_lt hn
      have h4 := tsplP_pos hn
      by_cases hk : m ≤ tsplP n
      · rw [ldsP_left h1 (by omega) rfl hk]
        rw [lenP_left h1 (by omega) rfl hk] at hl
        have := ih (tsplP n) h3 m b (initP ps) x h1 hk (by rw [initP_len, hl]; omega) (fun y hy => hq y (initP_mem hy)) hx
        exact ⟨this.1, hs _⟩
      · rw [ldsP_right h1 (by omega) rfl hk]
        exact ⟨hs _, hs _⟩
/-- the root of all is a sum where the trees are unlike. -/
theorem ldsP_sub (n : Nat) : ∀ (m : Nat) (ls : List (List Int)) (b : Bool) (x : List Int), ls.length = n → 1 ≤ m → m ≤ n → (b = true → x = trootP (ls.take m)) → ldsP m n b (subP m ls b) x = (trootP (ls.take m), trootP ls) := by
  induction n using Nat.strongRecOn with
  | ind n ih =>
    intro m ls b x hl h1 h2 hx
    by_cases e : m = n
    · subst e
      rw [subP_same (by omega), List.take_of_length_le (by omega)]
      cases b with
      | true =>
        rw [ldsP_old, hx rfl, List.take_of_length_le (by omega)]
      | false => rw [ldsP_new]; rfl
    · have hn : 2 ≤ n := by omega
      have h3 := tsplP_lt hn
      have h4 := tsplP_pos hn
      have h5 := tsplP_half hn
      obtain ⟨k, hk⟩ : ∃ k, k = tsplP n := ⟨_, rfl⟩
      rw [← hk] at h3 h4 h5
      have hr : trootP ls = tnodeP (trootP (ls.take k)) (trootP (ls.drop k)) := by rw [trootP_more (by omega), hl, ← hk]
      by_cases hm : m ≤ k
      · have ht : (ls.take k).take m = ls.take m := by rw [List.take_take, Nat.min_eq_left hm]
        rw [subP_left h1 (by omega) (by rw [hl]; exact hk) hm, ldsP_left h1 (by omega) hk hm, initP_snoc, lastP_snoc, ih k h3 m _ b x (by rw [List.length_take]; omega) h1 hm (fun hb => by rw [ht]; exact hx hb), ht, hr]
      · rw [subP_right h1 (by omega) (by rw [hl]; exact hk) hm, ldsP_right h1 (by omega) hk hm, initP_snoc, lastP_snoc, ih (n - k) (by omega) (m - k) _ false x (by rw [List.length_drop]; omega) (by omega) (by omega) (fun hb => by cases hb), hr]
        have hml : (ls.take m).length = m := by rw [List.length_take]; omega
        have hkm : tsplP m = k := by
          obtain ⟨j, hj⟩ := tsplP_pow hn
          rw [← hk] at hj
          rw [tsplP_of (j := j) (by omega) (by omega), hj]
        rw [trootP_more (ls := ls.take m) (by omega), hml, hkm, List.take_take, Nat.min_eq_left (by omega), List.drop_take]
/-- the path of a growth. -/
def growP (m : Nat) (ls : List (List Int)) : List (List Int) := if m = 0 then [] else subP m ls true
theorem growP_zero (ls : List (List Int)) : growP 0 ls = [] := rfl
theorem growP_pos {m : Nat} (h : 1 ≤ m) (ls : List (List Int)) : growP m ls = subP m ls true := if_neg (by omega)
theorem growP_all (ls : List (List Int)) : growP ls.length ls = [] := by
  unfold growP
  split
  · rfl
  · rw [subP_same rfl]; rfl
theorem growP_1000 {ls : List (List Int)} {m : Nat} (hn : ls.length ≤ 1000) (hm : m ≤ ls.length) : (growP m ls).length ≤ 11 := by
  unfold growP
  split
  · simp
  · rw [subP_len _ m ls true rfl (by omega) hm]
    exact lenP_le 10 _ _ _ (by omega) hm (by omega)
end Go.Proofs.YtillhpgdlmeajaaGreatDoor
