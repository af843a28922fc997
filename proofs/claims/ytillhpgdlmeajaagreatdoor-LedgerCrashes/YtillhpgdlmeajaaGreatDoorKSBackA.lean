/-
  A signature that is written is read again: the plain form, and Decode with memory of its own; the law package's Sized at a signature's size.
-/
import Derived.Test.YtillhpgdlmeajaaGreatDoorKSCode
import Derived.Test.YtillhpgdlmeajaaGreatDoorKOMore
namespace Go.Proofs.YtillhpgdlmeajaaGreatDoor
open Go.ChangeShapes Go.WideShapes Go.ChangeAt Go.RowKit
open Go.Deep
open Go.Proofs

theorem sb_flat_len (ps : List (List Int)) (h : ∀ x ∈ ps, x.length = 32) : ps.flatten.length = 32 * ps.length := by
  induction ps with
  | nil => rfl
  | cons a l ih => rw [List.flatten_cons, List.length_append, h a (by simp), ih (fun x hx => h x (by simp [hx])), List.length_cons]; omega
theorem sb_flat_drop (ps : List (List Int)) (h : ∀ x ∈ ps, x.length = 32) (r : List Int) : ∀ n, n ≤ ps.length → (ps.flatten ++ r).drop (32 * n) = (ps.drop n).flatten ++ r := by
  induction ps with
  | nil => intro n hn; have : n = 0 := by simpa using hn
           subst this; simp
  | cons a l ih =>
    intro n hn
    cases n with
    | zero => simp
    | succ n =>
      have ha : a.length = 32 := h a (by simp)
      rw [show 32 * (n + 1) = a.length + 32 * n by omega, List.flatten_cons, List.append_assoc, ← List.drop_drop, List.drop_left, ih (fun x hx => h x (by simp [hx])) n (by simpa using hn)]
      rfl
theorem sb_chP_flat (ps : List (List Int)) (h : ∀ x ∈ ps, x.length = 32) (r : List Int) (n : Nat) (hn : ps.length = n) : chP n (ps.flatten ++ r) = ps := by
  apply List.ext_getElem
  · rw [chP_len, hn]
  · intro j h1 h2
    have : (ps.drop j).flatten = ps[j] ++ (ps.drop (j + 1)).flatten := by rw [List.drop_eq_getElem_cons h2, List.flatten_cons]
    simp only [chP, List.getElem_map, List.getElem_range]
    rw [sb_flat_drop ps h r j (by omega), this, List.append_assoc, ← h ps[j] (List.getElem_mem h2), List.take_left]
theorem encP_len (i : Int) (ps qs : List (List Int)) (hr : rgtP i ps qs = true) : (encP i ps qs).length = 2180 := by
  obtain ⟨_, ⟨h1, h2⟩, h3, h4⟩ := (rgtP_iff _ _ _).1 hr
  unfold encP
  rw [List.length_append, List.length_append, be4_len, sb_flat_len _ h2, sb_flat_len _ h4, h1, h3]
theorem encP_back (i : Int) (ps qs : List (List Int)) (hr : rgtP i ps qs = true) : decOk (encP i ps qs) = true ∧ val ((encP i ps qs).take 4) = i ∧ chP 64 ((encP i ps qs).drop 4) = ps ∧ chP 4 ((encP i ps qs).drop 2052) = qs := by
  have hl := encP_len i ps qs hr
  obtain ⟨⟨hi0, hi1⟩, ⟨h1, h2⟩, h3, h4⟩ := (rgtP_iff _ _ _).1 hr
  have e1 : (encP i ps qs).take 4 = be4 i := by unfold encP; rw [← be4_len i, List.take_left]
  have e2 : (encP i ps qs).drop 4 = ps.flatten ++ qs.flatten := by unfold encP; rw [← be4_len i, List.drop_left]
  have e3 : (encP i ps qs).drop 2052 = qs.flatten ++ [] := by
    rw [show 2052 = 4 + 2048 from rfl, ← List.drop_drop, e2, show 2048 = ps.flatten.length by rw [sb_flat_len _ h2, h1], List.drop_left, List.append_nil]
  have e4 : val (be4 i) = i := by
    obtain ⟨k, rfl⟩ := Int.eq_ofNat_of_zero_le hi0
    have : k < 16 := by omega
    have key : ∀ k : Nat, k < 16 → val (be4 (k : Int)) = (k : Int) := by decide
    exact key k this
  refine ⟨?_, by rw [e1, e4], by rw [e2, sb_chP_flat _ h2 _ _ h1], by rw [e3, sb_chP_flat _ h4 _ _ h3]⟩
  unfold decOk
  rw [hl, e1, e4]
  simp [hi1]
theorem encP_bs (i : Int) (ps qs : List (List Int)) (hr : rgtP i ps qs = true) (hp : ∀ x ∈ ps, Bs x) (hq : ∀ x ∈ qs, Bs x) : Bs (encP i ps qs) := by
  obtain ⟨⟨hi0, hi1⟩, _, _⟩ := (rgtP_iff _ _ _).1 hr
  intro b hb
  unfold encP at hb
  rcases List.mem_append.1 hb with h | h
  · obtain ⟨k, rfl⟩ := Int.eq_ofNat_of_zero_le hi0
    have key : ∀ k : Nat, k < 16 → ∀ b ∈ be4 (k : Int), 0 ≤ b ∧ b ≤ 255 := by decide
    exact key k (by omega) b h
  · rcases List.mem_append.1 h with h | h
    · obtain ⟨x, hx, hb⟩ := List.mem_flatten.1 h; exact hp x hx b hb
    · obtain ⟨x, hx, hb⟩ := List.mem_flatten.1 h; exact hq x hx b hb

theorem made_sig : (madeCells (Value.int .u8 0).cells (2180 * 1)).toList = (List.replicate 2180 (0 : Int)).map (Value.int .u8) := by
  rw [List.map_replicate]
  exact toList_madeCells_one (.int .u8 0) 2180
theorem splice_sig (bs : List Int) : splice ((List.replicate 2180 (0 : Int)).map (Value.int .u8)) 0 ((bs.take 2180).map (Value.int .u8)) = (bs.take 2180 ++ List.replicate (2180 - (bs.take 2180).length) 0).map (Value.int .u8) := by
  unfold splice
  rw [List.take_zero, List.nil_append, List.map_append, ← List.map_drop, List.drop_replicate]
  congr 3
  simp

end Go.Proofs.YtillhpgdlmeajaaGreatDoor
