/-
  The contracts of package wire's Bytes of a reader and Byte of a writer, and of the law package's helpers Cut and Within over this seat's program.
-/
import Derived.Test.YthpekclkclpbpaaMore
namespace Go.Proofs.Ythpekclkclpbpaa
open Go.RowKit

theorem val_two (cs : List Int) (h : Bs cs) (hl : cs.length ≤ 2) : 0 ≤ val cs ∧ val cs ≤ 65535 := by
  have h1 := val_bd cs h
  have : cs.length = 0 ∨ cs.length = 1 ∨ cs.length = 2 := by omega
  rcases this with e | e | e <;> rw [e] at h1 <;> omega

set_option maxHeartbeats 400000 in
theorem rbytes_any (q : Nat) (v : Value) (bad : Bool) (bs : List Int) (most : Int) (w : World) (hR : Rd w q v bad bs) (hB : Bs bs) (hb : bs.length ≤ 140737488355328) :
    Calls Try.prog 22 #[.pointer (some ⟨q, 0, none⟩), .int .i64 most] w fun e w' => ∃ ao c, e = .returned (.slice ao (tkb bad bs most).1.length c) ∧ Own w w' (.slice ao (tkb bad bs most).1.length c) (tkb bad bs most).1 ∧ Left w q v (tkb bad bs most).2 w' := by
  have hv := val_two (tk bad bs 2).1 (tk_bs1 hB) (@tk_len1 bad bs 2)
  have hl2 : (tk bad bs 2).2.2.length ≤ 140737488355328 := by have := @tk_len bad bs 2; omega
  obtain ⟨t, ht⟩ : ∃ t, t = tk bad bs 2 := ⟨_, rfl⟩
  have hw64 : IntKind.i64.wrap (val t.1) = val t.1 := by rw [ht]; simp [IntKind.wrap, IntKind.signed, IntKind.bits]; omega
  rw [← ht] at hv hl2
  have HT : Hid (t = tk bad bs 2) := ht
  have h2 : (tkb bad bs most) = if max most 0 < val t.1 then ([], true, []) else tk t.2.1 t.2.2 (val t.1) := by unfold tkb; rw [ht]
  clear ht
  obtain ⟨x, hx⟩ : ∃ x, x = val t.1 := ⟨_, rfl⟩
  rw [← hx] at hv hw64 h2
  have HX : Hid (x = val t.1) := hx
  clear hx
  obtain ⟨hv0, hv1⟩ := hv
  by_cases hm : max most 0 < x
  · rw [if_pos hm] at h2
    rw [h2]
    have hm2 : ¬ x ≤ max most 0 := by omega
    clear h2
    go_enter Try.func22, Try.ntmps22
    go_wp2_with fail
    refine (rnumber_any q v bad bs 2 _ hR (by omega) (by omega) hB).mono ?_
    rintro e w1 ⟨rfl, hL⟩
    rw [show ((2 : Nat) : Int) = 2 from rfl, ← HT.out] at hL
    rw [show ((2 : Nat) : Int) = 2 from rfl, ← HT.out, ← HX.out]
    go_wp2_with fail
    all_goals
      obtain ⟨⟨v1, r1, o1⟩, k1⟩ := hL
      refine (spoil_any q v1 _ _ _ r1).mono ?_
      rintro e w2 ⟨rfl, r2, k2⟩
      go_wp2_with fail
      refine (raw_ok q _ true [] x _ r2 (by simp)).mono ?_
      rw [tk_no true [] x (.inr (by simp; omega))]
      rintro e w3 ⟨ao, c, rfl, hO, hL3⟩
      go_wp2_with fail
      go_ret
      exact ⟨ao, c, rfl, ⟨hO.1, fun k hk => Nat.le_trans (k1.trans k2).size (hO.2 k hk)⟩, ⟨⟨_, hL3.1.choose_spec.1, fun k hk => (by have := hL3.1.choose_spec.2 k hk; cases this)⟩, (k1.trans k2).trans hL3.2⟩⟩
  · rw [if_neg hm] at h2
    rw [h2]
    clear h2
    go_enter Try.func22, Try.ntmps22
    go_wp2_with fail
    refine (rnumber_any q v bad bs 2 _ hR (by omega) (by omega) hB).mono ?_
    rintro e w1 ⟨rfl, hL⟩
    rw [show ((2 : Nat) : Int) = 2 from rfl, ← HT.out] at hL
    rw [show ((2 : Nat) : Int) = 2 from rfl, ← HT.out, ← HX.out]
    go_wp2_with fail
    all_goals
      obtain ⟨⟨v1, r1, o1⟩, k1⟩ := hL
      refine (raw_ok q v1 _ _ x _ r1 hl2).mono ?_
      rintro e w3 ⟨ao, c, rfl, hO, hL3⟩
      go_wp2_with fail
      go_ret
      exact ⟨ao, c, rfl, ⟨hO.1, fun k hk => Nat.le_trans k1.size (hO.2 k hk)⟩, ⟨⟨_, hL3.1.choose_spec.1, fun k hk => o1 k (hL3.1.choose_spec.2 k hk)⟩, k1.trans hL3.2⟩⟩

theorem wbyte_any (p : Nat) (n : Int) (v : Value) (bs : List Int) (w : World) (hw : Wr w p v bs) (hb : bs.length ≤ 100000000000000) (h0 : 0 ≤ n) (h1 : n ≤ 255) :
    Calls Try.prog 34 #[.pointer (some ⟨p, 0, none⟩), .int .u8 n] w fun e w' => e = .returned (.tuple #[]) ∧ ∃ v', Wr w' p v' (bs ++ [n]) ∧ Step p w v w' v' := by
  have hw32 : IntKind.u32.wrap n = n := by simp [IntKind.wrap, IntKind.signed, IntKind.bits]; omega
  have hbe : be n 1 0 = [n] := by simp [be, byteAt]; omega
  go_enter Try.func34, Try.ntmps34
  go_wp2_with (go_at_call 30; refine (number_any p n 1 v bs _ hw (by omega) hb).mono ?_; rintro e w' ⟨rfl, v', h1, h2⟩)
  go_end0
  rw [hbe] at h1
  exact ⟨rfl, v', h1, h2⟩

theorem cut_any (v : Value) (bs : List Int) (n : Nat) (w : World) (h : Sl w v bs) :
    Calls Try.prog 19 #[v, .int .i64 n] w fun e w' => ∃ ao c, e = .returned (.slice ao (bs.take n).length c) ∧ (∀ W, Sl W v bs → Sl W (.slice ao (bs.take n).length c) (bs.take n)) ∧ w' = w := by
  obtain ⟨ao, c, rfl, h1, h2, h3, h4⟩ := h
  unfold maxLen at h2
  clear h4
  by_cases hn : n < bs.length
  · have hlt : (n : Int) < (bs.length : Int) := by omega
    have hc : (n : Int) ≤ (c : Int) := by omega
    have hT := fun W (hs : Sl W (.slice ao bs.length c) bs) => hs.take n (by omega)
    have hl : (bs.take n).length = n := by simp; omega
    rw [hl]
    have HT := hide hT
    clear hT
    go_enter Try.func19, Try.ntmps19
    go_wp2
    go_ret
    exact ⟨ao, c, rfl, unhide HT, rfl⟩
  · have hlt : ¬ (n : Int) < (bs.length : Int) := by omega
    rw [List.take_of_length_le (by omega)]
    go_enter Try.func19, Try.ntmps19
    go_wp2
    go_ret
    exact ⟨ao, c, rfl, fun _ hs => hs, rfl⟩

theorem tmod_bd (n m : Int) (hn : n < 0) (hm : 0 < m) : -m < n.tmod m ∧ n.tmod m ≤ 0 := by
  have e : n.tmod m = -((-n) % m) := by
    rw [← Int.tmod_eq_emod_of_nonneg (by omega), Int.neg_tmod, Int.neg_neg]
  rw [e]
  have h1 := Int.emod_nonneg (-n) (show m ≠ 0 by omega)
  have h2 := Int.emod_lt_of_pos (-n) hm
  omega

theorem within_any (n lo hi : Int) (w : World) (h0 : 0 ≤ lo) (h1 : lo ≤ hi) (h2 : hi ≤ 4611686018427387904) (hn : -9223372036854775808 ≤ n ∧ n ≤ 9223372036854775807) :
    Calls Try.prog 29 #[.int .i64 n, .int .i64 lo, .int .i64 hi] w fun e w' => ∃ x, e = .returned (.int .i64 x) ∧ lo ≤ x ∧ x ≤ hi ∧ w' = w := by
  have hm : (hi - lo + 1 == 0) = false := beq_eq_false_iff_ne.2 (by omega)
  by_cases a3 : 0 ≤ n
  · have hr : 0 ≤ n % (hi - lo + 1) ∧ n % (hi - lo + 1) < hi - lo + 1 := ⟨Int.emod_nonneg _ (by omega), Int.emod_lt_of_pos _ (by omega)⟩
    obtain ⟨hr1, hr2⟩ := hr
    by_cases a1 : lo ≤ n
    · by_cases a2 : n ≤ hi
      · go_enter Try.func29, Try.ntmps29
        go_wp2
        go_ret
        exact ⟨n, rfl, a1, a2, rfl⟩
      · go_enter Try.func29, Try.ntmps29
        go_wp2
        go_ret
        exact ⟨_, rfl, by omega, by omega, rfl⟩
    · go_enter Try.func29, Try.ntmps29
      go_wp2
      go_ret
      exact ⟨_, rfl, by omega, by omega, rfl⟩
  · obtain ⟨hr1, hr2⟩ := tmod_bd n (hi - lo + 1) (by omega) (by omega)
    by_cases a4 : n.tmod (hi - lo + 1) < 0
    · go_enter Try.func29, Try.ntmps29
      go_wp2
      go_ret
      exact ⟨_, rfl, by omega, by omega, rfl⟩
    · go_enter Try.func29, Try.ntmps29
      go_wp2
      go_ret
      exact ⟨_, rfl, by omega, by omega, rfl⟩
end Go.Proofs.Ythpekclkclpbpaa
