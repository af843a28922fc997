/-
  Chapter 7 as plain functions: the bits that a number ends in and has, the nodes of a row of leaves, one more leaf, the root out of the nodes.
-/
import Derived.Test.YtiabccgabbdedaaDoorKTSpec
namespace Go.Proofs.YtiabccgabbdedaaDoor

/-- how many set bits a number below f ends in. -/
def troF : Nat → Nat → Nat
  | 0, _ => 0
  | f + 1, n => if n % 2 = 1 then troF f (n / 2) + 1 else 0
theorem troF_eq : ∀ (f g n : Nat), n < f → n < g → troF f n = troF g n
  | 0, _, _, h, _ => absurd h (Nat.not_lt_zero _)
  | _ + 1, 0, _, _, h => absurd h (Nat.not_lt_zero _)
  | f + 1, g + 1, n, hf, hg => by
    show (if n % 2 = 1 then _ else _) = (if n % 2 = 1 then _ else _)
    by_cases h : n % 2 = 1
    · rw [if_pos h, if_pos h, troF_eq f g (n / 2) (by omega) (by omega)]
    · rw [if_neg h, if_neg h]
/-- how many set bits a number ends in. -/
def troP (n : Nat) : Nat := troF (n + 1) n
/-- how many bits of a number below f are set. -/
def onesR : Nat → Nat → Nat
  | 0, _ => 0
  | f + 1, n => if n = 0 then 0 else n % 2 + onesR f (n / 2)
theorem onesR_eq : ∀ (f g n : Nat), n < f → n < g → onesR f n = onesR g n
  | 0, _, _, h, _ => absurd h (Nat.not_lt_zero _)
  | _ + 1, 0, _, _, h => absurd h (Nat.not_lt_zero _)
  | f + 1, g + 1, n, hf, hg => by
    show (if n = 0 then _ else _) = (if n = 0 then _ else _)
    by_cases h : n = 0
    · rw [if_pos h, if_pos h]
    · rw [if_neg h, if_neg h, onesR_eq f g (n / 2) (by omega) (by omega)]
/-- how many bits of a number are set. -/
def onesP (n : Nat) : Nat := onesR (n + 1) n
theorem troP_odd {n : Nat} (h : n % 2 = 1) : troP n = troP (n / 2) + 1 := by
  show (if n % 2 = 1 then _ else _) = _
  rw [if_pos h, troF_eq n (n / 2 + 1) (n / 2) (by omega) (by omega)]
  rfl
theorem troP_even {n : Nat} (h : n % 2 ≠ 1) : troP n = 0 := if_neg h
theorem onesP_zero : onesP 0 = 0 := rfl
theorem onesP_step (n : Nat) : onesP n = n % 2 + onesP (n / 2) := by
  by_cases h : n = 0
  · subst h; rfl
  · show (if n = 0 then _ else _) = _
    rw [if_neg h, onesR_eq n (n / 2 + 1) (n / 2) (by omega) (by omega)]
    rfl
theorem troP_le (n : Nat) : troP n ≤ onesP n := by
  induction n using Nat.strongRecOn with
  | ind n ih =>
    by_cases h : n % 2 = 1
    · rw [troP_odd h, onesP_step]
      have := ih (n / 2) (by omega)
      omega
    · rw [troP_even h]; omega
theorem troP_pow : ∀ (j b : Nat), b < 2 ^ j → troP (2 ^ j + b) = if b + 1 = 2 ^ j then j + 1 else troP b
  | 0, b, h => by
    obtain rfl : b = 0 := by simpa using h
    rw [if_pos (by simp), troP_odd (by simp), troP_even (by simp)]
  | j + 1, b, h => by
    rw [Nat.pow_succ] at h
    have e : (2 ^ (j + 1) + b) / 2 = 2 ^ j + b / 2 := by rw [Nat.pow_succ]; omega
    have e2 : (2 ^ (j + 1) + b) % 2 = b % 2 := by rw [Nat.pow_succ]; omega
    by_cases ho : b % 2 = 1
    · rw [troP_odd (by omega), e, troP_pow j (b / 2) (by omega)]
      by_cases hb : b / 2 + 1 = 2 ^ j
      · rw [if_pos hb, if_pos (by rw [Nat.pow_succ]; omega)]
      · rw [if_neg hb, if_neg (by rw [Nat.pow_succ]; omega), troP_odd ho]
    · rw [troP_even (by omega), if_neg (by rw [Nat.pow_succ]; omega), troP_even ho]
theorem onesP_pow : ∀ (j b : Nat), b < 2 ^ j → onesP (2 ^ j + b) = onesP b + 1
  | 0, b, h => by
    obtain rfl : b = 0 := by simpa using h
    rw [onesP_step]; simp [onesP_zero]
  | j + 1, b, h => by
    rw [Nat.pow_succ] at h
    have e : (2 ^ (j + 1) + b) / 2 = 2 ^ j + b / 2 := by rw [Nat.pow_succ]; omega
    have e2 : (2 ^ (j + 1) + b) % 2 = b % 2 := by rw [Nat.pow_succ]; omega
    rw [onesP_step, e, e2, onesP_pow j (b / 2) (by omega), onesP_step b]
    omega
theorem onesP_le : ∀ (j n : Nat), n < 2 ^ j → onesP n ≤ j
  | 0, n, h => by
    obtain rfl : n = 0 := by simpa using h
    rw [onesP_zero]; omega
  | j + 1, n, h => by
    rw [Nat.pow_succ] at h
    rw [onesP_step]
    have := onesP_le j (n / 2) (by omega)
    omega

/-- one more behind the nodes: as often as t says the last one and it are made one. -/
def cappP : Nat → List (List Int) → List Int → List (List Int)
  | 0, ns, x => ns ++ [x]
  | t + 1, ns, x => cappP t ns.dropLast (tnodeP (ns.getLast?.getD []) x)
theorem cappP_cons : ∀ (t : Nat) (ns : List (List Int)) (x a : List Int), t ≤ ns.length → cappP t (a :: ns) x = a :: cappP t ns x
  | 0, ns, x, a, _ => rfl
  | t + 1, [], x, a, h => by simp at h
  | t + 1, b :: ns, x, a, h => by
    have e : (a :: b :: ns).getLast? = (b :: ns).getLast? := by simp [List.getLast?_cons_cons]
    show cappP t (a :: b :: ns).dropLast _ = a :: cappP t (b :: ns).dropLast _
    rw [e, List.dropLast_cons_cons]
    exact cappP_cons t _ _ _ (by simp at h ⊢; omega)
theorem cappP_full : ∀ (t : Nat) (ns : List (List Int)) (x : List Int), ns.length = t → ∃ y, cappP t ns x = [y] ∧ ∀ a, cappP (t + 1) (a :: ns) x = [tnodeP a y]
  | 0, ns, x, h => by
    obtain rfl : ns = [] := List.eq_nil_of_length_eq_zero h
    exact ⟨x, rfl, fun a => rfl⟩
  | t + 1, [], x, h => by simp at h
  | t + 1, b :: ns, x, h => by
    obtain ⟨y, h1, h2⟩ := cappP_full t (b :: ns).dropLast (tnodeP ((b :: ns).getLast?.getD []) x) (by simp at h ⊢; omega)
    refine ⟨y, h1, fun a => ?_⟩
    have e : (a :: b :: ns).getLast? = (b :: ns).getLast? := by simp [List.getLast?_cons_cons]
    show cappP (t + 1) (a :: b :: ns).dropLast _ = _
    rw [e, List.dropLast_cons_cons]
    exact h2 a
theorem cappP_all (Q : List Int → Prop) (hs : ∀ bs, Q (sha bs)) : ∀ (t : Nat) (ns : List (List Int)) (x : List Int), (∀ y ∈ ns, Q y) → Q x → ∀ y ∈ cappP t ns x, Q y
  | 0, ns, x, h1, h2, y, hy => by
    rcases List.mem_append.1 hy with h | h
    · exact h1 y h
    · obtain rfl : y = x := by simpa using h
      exact h2
  | t + 1, ns, x, h1, h2, y, hy => cappP_all Q hs t ns.dropLast _ (fun z hz => h1 z ((List.dropLast_sublist ns).subset hz)) (hs _) y hy
theorem cappP_len : ∀ (t : Nat) (ns : List (List Int)) (x : List Int), (cappP t ns x).length = ns.length - t + 1
  | 0, ns, x => by simp [cappP]
  | t + 1, ns, x => by
    show (cappP t ns.dropLast _).length = _
    rw [cappP_len t]
    simp; omega

/-- the nodes of leaves, fewer than 2 ^ j, the greatest first. -/
def cndP : Nat → List (List Int) → List (List Int)
  | 0, _ => []
  | j + 1, ls => if 2 ^ j ≤ ls.length then trootP (ls.take (2 ^ j)) :: cndP j (ls.drop (2 ^ j)) else cndP j ls
theorem cndP_nil : ∀ j, cndP j [] = []
  | 0 => rfl
  | j + 1 => by
    have : 1 ≤ 2 ^ j := Nat.one_le_two_pow
    show (if 2 ^ j ≤ ([] : List (List Int)).length then _ else _) = _
    rw [if_neg (by simp)]
    exact cndP_nil j
theorem cndP_big {j : Nat} {ls : List (List Int)} (h : 2 ^ j ≤ ls.length) : cndP (j + 1) ls = trootP (ls.take (2 ^ j)) :: cndP j (ls.drop (2 ^ j)) := if_pos h
theorem cndP_small {j : Nat} {ls : List (List Int)} (h : ls.length < 2 ^ j) : cndP (j + 1) ls = cndP j ls := if_neg (by omega)
theorem cndP_len : ∀ (j : Nat) (ls : List (List Int)), ls.length < 2 ^ j → (cndP j ls).length = onesP ls.length
  | 0, ls, h => by
    have : ls.length = 0 := by simpa using h
    rw [this, onesP_zero]; rfl
  | j + 1, ls, h => by
    rw [Nat.pow_succ] at h
    by_cases hb : 2 ^ j ≤ ls.length
    · have e : ls.length = 2 ^ j + (ls.drop (2 ^ j)).length := by simp; omega
      rw [cndP_big hb, List.length_cons, cndP_len j _ (by simp; omega), e, onesP_pow j _ (by simp; omega)]
    · rw [cndP_small (by omega)]
      exact cndP_len j ls (by omega)
theorem cndP_all (Q : List Int → Prop) (hs : ∀ bs, Q (sha bs)) : ∀ (j : Nat) (ls : List (List Int)), (∀ x ∈ ls, Q x) → ∀ x ∈ cndP j ls, Q x
  | 0, ls, h, x, hx => by cases hx
  | j + 1, ls, h, x, hx => by
    by_cases hb : 2 ^ j ≤ ls.length
    · rw [cndP_big hb] at hx
      rcases List.mem_cons.1 hx with rfl | hx
      · exact trootP_all Q hs _ (fun y hy => h y (List.mem_of_mem_take hy))
      · exact cndP_all Q hs j _ (fun y hy => h y (List.mem_of_mem_drop hy)) x hx
    · rw [cndP_small (by omega)] at hx
      exact cndP_all Q hs j ls h x hx
theorem trootP_two {j : Nat} {A B : List (List Int)} (hA : A.length = 2 ^ j) (hB : 1 ≤ B.length) (hB2 : B.length ≤ 2 ^ j) : trootP (A ++ B) = tnodeP (trootP A) (trootP B) := by
  have hp : 1 ≤ 2 ^ j := Nat.one_le_two_pow
  have hl : (A ++ B).length = 2 ^ j + B.length := by simp [hA]
  have hs : tsplP (A ++ B).length = 2 ^ j := tsplP_of (by omega) (by omega)
  rw [trootP_more (by omega), hs, ← hA, List.take_left, List.drop_left]
/-- one more leaf. -/
theorem cndP_one : ∀ (j : Nat) (ls : List (List Int)) (x : List Int), ls.length < 2 ^ j →
    cappP (troP ls.length) (cndP j ls) x = if ls.length + 1 = 2 ^ j then [trootP (ls ++ [x])] else cndP j (ls ++ [x])
  | 0, ls, x, h => by
    obtain rfl : ls = [] := List.eq_nil_of_length_eq_zero (by simpa using h)
    rw [if_pos (by simp)]
    show cappP (troP 0) [] x = [trootP [x]]
    rw [troP_even (by simp), trootP_one]
    rfl
  | j + 1, ls, x, h => by
    have hp : 1 ≤ 2 ^ j := Nat.one_le_two_pow
    rw [Nat.pow_succ] at h
    by_cases hb : 2 ^ j ≤ ls.length
    · obtain ⟨A, B, hls, hA⟩ : ∃ A B, ls = A ++ B ∧ A.length = 2 ^ j := ⟨ls.take (2 ^ j), ls.drop (2 ^ j), (List.take_append_drop _ _).symm, by simp; omega⟩
      have hl : ls.length = 2 ^ j + B.length := by rw [hls]; simp [hA]
      have hB : B.length < 2 ^ j := by omega
      have e1 : ls.take (2 ^ j) = A := by rw [hls, ← hA, List.take_left]
      have e2 : ls.drop (2 ^ j) = B := by rw [hls, ← hA, List.drop_left]
      have ih := cndP_one j B x hB
      have hn := cndP_len j B hB
      rw [cndP_big hb, e1, e2, hl, troP_pow j _ hB]
      by_cases hf : B.length + 1 = 2 ^ j
      · rw [if_pos hf] at ih ⊢
        rw [if_pos (by rw [Nat.pow_succ]; omega)]
        have ht : troP B.length = j ∧ onesP B.length = j := by
          have : ∀ j, troP (2 ^ j - 1) = j ∧ onesP (2 ^ j - 1) = j := by
            intro j
            induction j with
            | zero => exact ⟨troP_even (by simp), onesP_zero⟩
            | succ j ih =>
              have h1 : 1 ≤ 2 ^ j := Nat.one_le_two_pow
              have e : 2 ^ (j + 1) - 1 = 2 ^ j + (2 ^ j - 1) := by rw [Nat.pow_succ]; omega
              rw [e, troP_pow j _ (by omega), if_pos (by omega), onesP_pow j _ (by omega), ih.2]
              exact ⟨rfl, rfl⟩
          have h2 := this j
          rw [show 2 ^ j - 1 = B.length by omega] at h2
          exact h2
        obtain ⟨y, h1, h2⟩ := cappP_full j (cndP j B) x (by rw [hn, ht.2])
        rw [h2]
        rw [ht.1, h1] at ih
        have ey : y = trootP (B ++ [x]) := by simpa using ih
        rw [ey, hls, List.append_assoc, trootP_two hA (by simp) (by simp; omega)]
      · rw [if_neg hf] at ih ⊢
        rw [if_neg (by rw [Nat.pow_succ]; omega), cappP_cons _ _ _ _ (by rw [hn]; exact troP_le _), ih]
        have hb2 : 2 ^ j ≤ (ls ++ [x]).length := by simp; omega
        rw [cndP_big hb2, hls, List.append_assoc, ← hA, List.take_left, List.drop_left]
    · have ih := cndP_one j ls x (by omega)
      rw [cndP_small (by omega), ih, if_neg (show ¬ ls.length + 1 = 2 ^ (j + 1) by rw [Nat.pow_succ]; omega)]
      by_cases hf : ls.length + 1 = 2 ^ j
      · rw [if_pos hf]
        have hl : (ls ++ [x]).length = 2 ^ j := by simp; omega
        rw [cndP_big (by omega), ← hl, List.take_length, List.drop_length, cndP_nil]
      · rw [if_neg hf, cndP_small (by simp; omega)]
theorem cndP_snoc (j : Nat) (ls : List (List Int)) (x : List Int) (h : ls.length + 1 < 2 ^ j) : cappP (troP ls.length) (cndP j ls) x = cndP j (ls ++ [x]) := by
  rw [cndP_one j ls x (by omega), if_neg (by omega)]
theorem cndP_tro (j : Nat) (ls : List (List Int)) (h : ls.length < 2 ^ j) : troP ls.length ≤ (cndP j ls).length := by
  rw [cndP_len j ls h]; exact troP_le _

/-- the root out of the nodes, from the last on. -/
def cfoldP : List (List Int) → List Int
  | [] => sha []
  | [x] => x
  | a :: b :: r => tnodeP a (cfoldP (b :: r))
theorem cfoldP_cons {a : List Int} {ns : List (List Int)} (h : ns ≠ []) : cfoldP (a :: ns) = tnodeP a (cfoldP ns) := by
  cases ns with
  | nil => exact absurd rfl h
  | cons b r => rfl
theorem cfoldP_snoc : ∀ (xs : List (List Int)) (x : List Int), cfoldP (xs ++ [x]) = xs.foldr tnodeP x
  | [], x => rfl
  | a :: xs, x => by
    rw [List.cons_append, cfoldP_cons (by simp), cfoldP_snoc xs x]
    rfl
theorem cfoldP_cnd : ∀ (j : Nat) (ls : List (List Int)), ls.length < 2 ^ j → cfoldP (cndP j ls) = trootP ls
  | 0, ls, h => by
    obtain rfl : ls = [] := List.eq_nil_of_length_eq_zero (by simpa using h)
    rw [trootP_nil]; rfl
  | j + 1, ls, h => by
    have hp : 1 ≤ 2 ^ j := Nat.one_le_two_pow
    rw [Nat.pow_succ] at h
    by_cases hb : 2 ^ j ≤ ls.length
    · obtain ⟨A, B, hls, hA⟩ : ∃ A B, ls = A ++ B ∧ A.length = 2 ^ j := ⟨ls.take (2 ^ j), ls.drop (2 ^ j), (List.take_append_drop _ _).symm, by simp; omega⟩
      have hl : ls.length = 2 ^ j + B.length := by rw [hls]; simp [hA]
      have e1 : ls.take (2 ^ j) = A := by rw [hls, ← hA, List.take_left]
      have e2 : ls.drop (2 ^ j) = B := by rw [hls, ← hA, List.drop_left]
      rw [cndP_big hb, e1, e2]
      by_cases hB : B = []
      · rw [hB, cndP_nil, hls, hB, List.append_nil]; rfl
      · have hB1 : 1 ≤ B.length := List.length_pos_iff.2 hB
        have hne : cndP j B ≠ [] := fun e => by
          have h1 := cfoldP_cnd j B (by omega)
          have h2 := cndP_len j B (by omega)
          rw [e] at h2
          have h3 : 1 ≤ onesP B.length := by
            have : ∀ n, 1 ≤ n → 1 ≤ onesP n := by
              intro n
              induction n using Nat.strongRecOn with
              | ind n ih =>
                intro hn
                rw [onesP_step]
                by_cases h1 : n / 2 = 0
                · omega
                · have := ih (n / 2) (by omega) (by omega)
                  omega
            exact this _ hB1
          simp at h2
          omega
        rw [cfoldP_cons hne, cfoldP_cnd j B (by omega), hls, trootP_two hA hB1 (by omega)]
    · rw [cndP_small (by omega)]
      exact cfoldP_cnd j ls (by omega)
theorem cfoldP_bs : ∀ (ns : List (List Int)), (∀ x ∈ ns, Bs x) → Bs (cfoldP ns)
  | [], _ => sha_bs _
  | [x], h => h x (by simp)
  | _ :: _ :: _, _ => sha_bs _
end Go.Proofs.YtiabccgabbdedaaDoor
