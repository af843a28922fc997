/-
  Chapter 6 as plain functions: where a row of leaves is parted, leaves, nodes, the root.
-/
import Derived.Lib.BitFns
import Derived.Test.YtillhpgdlmeajaaGreatDoorQC13
namespace Go.Proofs.YtillhpgdlmeajaaGreatDoor
/-- the greatest power of two below n; 0 of n below 2. -/
def tsplP (n : Nat) : Nat := if n < 2 then 0 else 2 ^ (n - 1).log2
theorem tsplP_small {n : Nat} (h : n < 2) : tsplP n = 0 := if_pos h
theorem tsplP_more {n : Nat} (h : 2 ≤ n) : tsplP n = 2 ^ (n - 1).log2 := if_neg (by omega)
theorem tsplP_pos {n : Nat} (h : 2 ≤ n) : 1 ≤ tsplP n := by rw [tsplP_more h]; exact Nat.one_le_two_pow
theorem tsplP_lt {n : Nat} (h : 2 ≤ n) : tsplP n < n := by
  rw [tsplP_more h]
  have := Nat.log2_self_le (n := n - 1) (by omega)
  omega
/-- the library's length of a number in bits. -/
theorem bitLen_log : ∀ (f x : Nat), x < 2 ^ f → f ≤ 64 → 1 ≤ x → Lib.bitLen x = x.log2 + 1
  | 0, x, h, _, h1 => by simp at h; omega
  | f + 1, x, h, hf, h1 => by
    have h64 : (2 : Nat) ^ (f + 1) ≤ 2 ^ 64 := Nat.pow_le_pow_right (by omega) hf
    rw [Lib.bitLen_half x (by omega) (by omega)]
    by_cases h2 : x = 1
    · subst h2; decide
    · rw [bitLen_log f (x / 2) (by rw [Nat.pow_succ] at h; omega) (by omega) (by omega)]
      rw [show x.log2 = (x / 2).log2 + 1 by rw [Nat.log2_def x, if_pos (by omega)]]
      omega
def tleafP (b : List Int) : List Int := sha (0 :: b)
def tnodeP (a b : List Int) : List Int := sha (1 :: (a ++ b))
/-- the root of leaves, fewer than f. -/
def trootF : Nat → List (List Int) → List Int
  | 0, _ => sha []
  | f + 1, ls =>
    if 2 ≤ ls.length then tnodeP (trootF f (ls.take (tsplP ls.length))) (trootF f (ls.drop (tsplP ls.length)))
    else match ls with
      | [] => sha []
      | x :: _ => x
theorem trootF_eq : ∀ (f g : Nat) (ls : List (List Int)), ls.length < f → ls.length < g → trootF f ls = trootF g ls
  | 0, _, _, h, _ => absurd h (Nat.not_lt_zero _)
  | _ + 1, 0, _, _, h => absurd h (Nat.not_lt_zero _)
  | f + 1, g + 1, ls, hf, hg => by
    by_cases h : 2 ≤ ls.length
    · have h1 := tsplP_lt h
      have h2 := tsplP_pos h
      show (if 2 ≤ ls.length then _ else _) = (if 2 ≤ ls.length then _ else _)
      rw [if_pos h, if_pos h, trootF_eq f g (ls.take (tsplP ls.length)) (by rw [List.length_take]; omega) (by rw [List.length_take]; omega), trootF_eq f g (ls.drop (tsplP ls.length)) (by rw [List.length_drop]; omega) (by rw [List.length_drop]; omega)]
    · show (if 2 ≤ ls.length then _ else _) = (if 2 ≤ ls.length then _ else _)
      rw [if_neg h, if_neg h]
/-- the root of leaves. -/
def trootP (ls : List (List Int)) : List Int := trootF (ls.length + 1) ls
theorem trootP_nil : trootP [] = sha [] := rfl
theorem trootP_one (x : List Int) : trootP [x] = x := rfl
theorem trootP_more {ls : List (List Int)} (h : 2 ≤ ls.length) : trootP ls = tnodeP (trootP (ls.take (tsplP ls.length))) (trootP (ls.drop (tsplP ls.length))) := by
  have h1 := tsplP_lt h
  have h2 := tsplP_pos h
  show (if 2 ≤ ls.length then _ else _) = _
  rw [if_pos h]
  unfold trootP
  rw [trootF_eq ls.length ((ls.take (tsplP ls.length)).length + 1) (ls.take (tsplP ls.length)) (by rw [List.length_take]; omega) (by omega), trootF_eq ls.length ((ls.drop (tsplP ls.length)).length + 1) (ls.drop (tsplP ls.length)) (by rw [List.length_drop]; omega) (by omega)]
theorem trootP_all (Q : List Int → Prop) (hs : ∀ bs, Q (sha bs)) (ls : List (List Int)) (h : ∀ x ∈ ls, Q x) : Q (trootP ls) := by
  match ls with
  | [] => rw [trootP_nil]; exact hs _
  | [x] => rw [trootP_one]; exact h x (by simp)
  | x :: y :: r => rw [trootP_more (by simp)]; exact hs _
theorem trootP_bs (ls : List (List Int)) (h : ∀ x ∈ ls, Bs x) : Bs (trootP ls) := trootP_all Bs sha_bs ls h
theorem trootP_le (n : Nat) (hn : 32 ≤ n) (ls : List (List Int)) (h : ∀ x ∈ ls, x.length ≤ n) : (trootP ls).length ≤ n := trootP_all (fun x => x.length ≤ n) (fun bs => by show (sha bs).length ≤ n; rw [sha_len]; omega) ls h
end Go.Proofs.YtillhpgdlmeajaaGreatDoor

/-
  The contracts of Leaf and Node, of the program and of the reference.
-/
namespace Go.Proofs.YtillhpgdlmeajaaGreatDoor
open Go.RowKit
theorem small1 {v : Value} {bs : List Int} {n : Nat} (h : bs.length ≤ n) : ∀ x ∈ [(v, bs)], x.2.length ≤ n := fun x hx => by
  obtain rfl : x = (v, bs) := by simpa using hx
  exact h
theorem small2 {v u : Value} {bs cs : List Int} {n : Nat} (h : bs.length ≤ n) (k : cs.length ≤ n) : ∀ x ∈ [(v, bs), (u, cs)], x.2.length ≤ n := fun x hx => by
  rcases (by simpa using hx : x = (v, bs) ∨ x = (u, cs)) with rfl | rfl
  · exact h
  · exact k
set_option maxRecDepth 100000 in
set_option maxHeartbeats 1000000 in
theorem tleaf_any (v : Value) (bs : List Int) (r : List Int) (hr : r = tleafP bs) (w : World) (hS : Sl w v bs) (hB : Bs bs) (hl : bs.length ≤ 1000000) (hG : Gl w) :
    Calls Tryz.prog 110 #[v] w fun e w' => ∃ ao m c, e = .returned (.slice ao m c) ∧ Row w' w.heap.size (.slice ao m c) r ∧ Kp [] w w' := by
  have HG := hide hG
  have HL := lists1 hS hB
  have HK := hide ((Kp.refl [] w).alloc (.cells #[v] 22))
  have HC := hide (tagged_any 0 _ _ r (by rw [hr, cat1]; rfl) _ HL (by omega) (by omega) (by simp) (small1 hl) ((unhide HG).kept (unhide HK) (by simp)))
  rw [show (w.alloc (.cells #[v] 22)).heap.size = w.heap.size + 1 by simp] at HC
  obtain ⟨ab, cb, hvb, _⟩ := hS
  obtain ⟨nb, hnb⟩ : ∃ n, n = bs.length := ⟨_, rfl⟩
  rw [← hnb] at hvb
  subst hvb
  clear hr hB hl HL hnb hG
  go_enter Tryz.func110, Tryz.ntmps110
  go_wp2_with fail
  refine (unhide HC).mono ?_
  rintro ee w2 ⟨ao2, m2, c2, rfl, R2, K2⟩
  have HR2 : Hid (Row w2 w.heap.size (.slice ao2 m2 c2) r) := owns_rebase R2 (fun i hi => by have := Row.own R2 i hi; omega)
  have HK2 := hide ((unhide HK).trans K2)
  clear HC HK R2 K2
  go_wp2_with fail
  go_ret
  exact ⟨ao2, m2, c2, rfl, unhide HR2, unhide HK2⟩
set_option maxRecDepth 100000 in
set_option maxHeartbeats 1000000 in
theorem tnode_any (v u : Value) (bs cs : List Int) (r : List Int) (hr : r = tnodeP bs cs) (w : World) (hS : Sl w v bs) (hB : Bs bs) (hl : bs.length ≤ 1000000) (hT : Sl w u cs) (hC : Bs cs) (hm : cs.length ≤ 1000000) (hG : Gl w) :
    Calls Tryz.prog 109 #[v, u] w fun e w' => ∃ ao m c, e = .returned (.slice ao m c) ∧ Row w' w.heap.size (.slice ao m c) r ∧ Kp [] w w' := by
  have HG := hide hG
  have HL := lists2 hS hB hT hC
  have HK := hide ((Kp.refl [] w).alloc (.cells #[v, u] 22))
  have HC := hide (tagged_any 1 _ _ r (by rw [hr, cat2]; rfl) _ HL (by omega) (by omega) (by simp) (small2 hl hm) ((unhide HG).kept (unhide HK) (by simp)))
  rw [show (w.alloc (.cells #[v, u] 22)).heap.size = w.heap.size + 1 by simp] at HC
  obtain ⟨ab, cb, hvb, _⟩ := hS
  obtain ⟨nb, hnb⟩ : ∃ n, n = bs.length := ⟨_, rfl⟩
  rw [← hnb] at hvb
  subst hvb
  obtain ⟨ad, cd, hvd, _⟩ := hT
  obtain ⟨nd, hnd⟩ : ∃ n, n = cs.length := ⟨_, rfl⟩
  rw [← hnd] at hvd
  subst hvd
  clear hr hB hl hC hm HL hnb hnd hG
  go_enter Tryz.func109, Tryz.ntmps109
  go_wp2_with fail
  refine (unhide HC).mono ?_
  rintro ee w2 ⟨ao2, m2, c2, rfl, R2, K2⟩
  have HR2 : Hid (Row w2 w.heap.size (.slice ao2 m2 c2) r) := owns_rebase R2 (fun i hi => by have := Row.own R2 i hi; omega)
  have HK2 := hide ((unhide HK).trans K2)
  clear HC HK R2 K2
  go_wp2_with fail
  go_ret
  exact ⟨ao2, m2, c2, rfl, unhide HR2, unhide HK2⟩
end Go.Proofs.YtillhpgdlmeajaaGreatDoor
