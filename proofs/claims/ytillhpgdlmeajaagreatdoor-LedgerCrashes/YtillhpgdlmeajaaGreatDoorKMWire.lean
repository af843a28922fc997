/-
  The contracts of package wire's Byte and Bytes of a writer and of a reader, and End, over this seat's program.
-/
import Derived.Test.YtillhpgdlmeajaaGreatDoorKLMan
import Derived.Test.YtillhpgdlmeajaaGreatDoorKLByte
namespace Go.Proofs.YtillhpgdlmeajaaGreatDoor
open Go.RowKit
open Go.Proofs

theorem be_two (n : Int) : be n 2 0 = [n / 256 % 256, n % 256] := by simp [be, byteAt, List.range_succ]
theorem bytes_ok (p : Nat) (v : Value) (bs : List Int) (vb : Value) (cs : List Int) (w : World) (hw : Wr w p v bs) (hs : Sl w vb cs) (hk : ∀ w1, Kp (p :: v.ownBlock.toList) w w1 → Sl w1 vb cs) (hb : bs.length + cs.length ≤ 100000000000000) (hl : cs.length ≤ 65535) :
    Calls Tryz.prog 134 #[.pointer (some ⟨p, 0, none⟩), vb] w fun e w' => e = .returned (.bool true) ∧ ∃ v', Wr w' p v' (bs ++ be cs.length 2 0 ++ cs) ∧ Step p w v w' v' := by
  obtain ⟨ao, c, rfl, h1, h2, h3, h4⟩ := hs
  have hw32 : IntKind.u32.wrap (cs.length : Int) = cs.length := by simp [IntKind.wrap, IntKind.signed, IntKind.bits]; omega
  have hle : (cs.length : Int) ≤ 65535 := by omega
  clear h4 h3 h2
  go_enter Tryz.func134, Tryz.ntmps134
  go_wp2_with (go_at_call 158; refine (number_any p cs.length 2 v bs _ hw (by omega) (by omega)).mono ?_; rintro e w1 ⟨rfl, v1, k1, k2⟩)
  go_wp2_with (go_at_call 157; refine (raw_any p v1 _ _ cs _ k1 (hk _ k2.1) (by rw [List.length_append, be_length]; omega)).mono ?_; rintro e w2 ⟨rfl, v2, k3, k4⟩)
  go_ret
  exact ⟨rfl, v2, k3, k2.trans k4⟩
theorem val_two (cs : List Int) (h : Bs cs) (hl : cs.length ≤ 2) : 0 ≤ val cs ∧ val cs ≤ 65535 := by
  have h1 := val_bd cs h
  have : cs.length = 0 ∨ cs.length = 1 ∨ cs.length = 2 := by omega
  rcases this with e | e | e <;> rw [e] at h1 <;> omega
theorem rbytes_any (q : Nat) (v : Value) (bad : Bool) (bs : List Int) (most : Int) (w : World) (hR : Rd w q v bad bs) (hB : Bs bs) (hb : bs.length ≤ 140737488355328) :
    Calls Tryz.prog 129 #[.pointer (some ⟨q, 0, none⟩), .int .i64 most] w fun e w' => ∃ ao c, e = .returned (.slice ao (tkb bad bs most).1.length c) ∧ Own w w' (.slice ao (tkb bad bs most).1.length c) (tkb bad bs most).1 ∧ Left w q v (tkb bad bs most).2 w' := by
  have hv := val_two (tk bad bs 2).1 (tk_bs1 hB) (@tk_len1 bad bs 2)
  have hl2 : (tk bad bs 2).2.2.length ≤ 140737488355328 := by have := @tk_len bad bs 2; omega
  obtain ⟨t, ht⟩ : ∃ t, t = tk bad bs 2 := ⟨_, rfl⟩
  have hw64 : IntKind.i64.wrap (val t.1) = val t.1 := by rw [ht]; simp [IntKind.wrap, IntKind.signed, IntKind.bits]; omega
  rw [← ht] at hv hl2
  have HT : Hid (t = tk bad bs 2) := ht
  have h2 : (tkb bad bs most) = if max most 0 < val t.1 then ([], true, []) else tk t.2.1 t.2.2 (val t.1) := by unfold tkb; rw [ht]
  clear ht
  obtain ⟨x, hx⟩ : ∃ x, x = val t.1 := ⟨_, rfl⟩
  rw [← hx] at hv hw64 h2
  have HX : Hid (x = val t.1) := hx
  clear hx
  obtain ⟨hv0, hv1⟩ := hv
  by_cases hm : max most 0 < x
  · rw [if_pos hm] at h2
    rw [h2]
    have hm2 : ¬ x ≤ max most 0 := by omega
    clear h2
    go_enter Tryz.func129, Tryz.ntmps129
    go_wp2_with fail
    refine (rnumber_any q v bad bs 2 _ hR (by omega) (by omega) hB).mono ?_
    rintro e w1 ⟨rfl, hL⟩
    rw [show ((2 : Nat) : Int) = 2 from rfl, ← HT.out] at hL
    rw [show ((2 : Nat) : Int) = 2 from rfl, ← HT.out, ← HX.out]
    go_wp2_with fail
    all_goals
      obtain ⟨⟨v1, r1, o1⟩, k1⟩ := hL
      refine (spoil_any q v1 _ _ _ r1).mono ?_
      rintro e w2 ⟨rfl, r2, k2⟩
      go_wp2_with fail
      refine (raw_ok q _ true [] x _ r2 (by simp)).mono ?_
      rw [tk_no true [] x (.inr (by simp; omega))]
      rintro e w3 ⟨ao, c, rfl, hO, hL3⟩
      go_wp2_with fail
      go_ret
      exact ⟨ao, c, rfl, ⟨hO.1, fun k hk => Nat.le_trans (k1.trans k2).size (hO.2 k hk)⟩, ⟨⟨_, hL3.1.choose_spec.1, fun k hk => (by have := hL3.1.choose_spec.2 k hk; cases this)⟩, (k1.trans k2).trans hL3.2⟩⟩
  · rw [if_neg hm] at h2
    rw [h2]
    clear h2
    go_enter Tryz.func129, Tryz.ntmps129
    go_wp2_with fail
    refine (rnumber_any q v bad bs 2 _ hR (by omega) (by omega) hB).mono ?_
    rintro e w1 ⟨rfl, hL⟩
    rw [show ((2 : Nat) : Int) = 2 from rfl, ← HT.out] at hL
    rw [show ((2 : Nat) : Int) = 2 from rfl, ← HT.out, ← HX.out]
    go_wp2_with fail
    all_goals
      obtain ⟨⟨v1, r1, o1⟩, k1⟩ := hL
      refine (raw_ok q v1 _ _ x _ r1 hl2).mono ?_
      rintro e w3 ⟨ao, c, rfl, hO, hL3⟩
      go_wp2_with fail
      go_ret
      exact ⟨ao, c, rfl, ⟨hO.1, fun k hk => Nat.le_trans k1.size (hO.2 k hk)⟩, ⟨⟨_, hL3.1.choose_spec.1, fun k hk => o1 k (hL3.1.choose_spec.2 k hk)⟩, k1.trans hL3.2⟩⟩
theorem end_any (q : Nat) (v : Value) (bad : Bool) (bs : List Int) (w : World) (h : Rd w q v bad bs) :
    Calls Tryz.prog 130 #[.pointer (some ⟨q, 0, none⟩)] w fun e w' => e = .returned (.bool (!bad && bs.isEmpty)) ∧ w' = w := by
  obtain ⟨ao, c, rfl, h1, h2, h3, h4⟩ := h.2.1
  have hc0 := (cell_of_two h.1).1
  have hc1 := (cell_of_two h.1).2
  clear h4 h3 h
  cases bad with
  | true =>
    go_enter Tryz.func130, Tryz.ntmps130
    go_wp2
    go_ret
    exact ⟨rfl, rfl⟩
  | false =>
    cases bs with
    | nil =>
      go_enter Tryz.func130, Tryz.ntmps130
      go_wp2
      go_ret
      exact ⟨rfl, rfl⟩
    | cons b bs =>
      have hl : (((bs.length : Int) + 1) == 0) = false := by rw [beq_eq_false_iff_ne]; omega
      go_enter Tryz.func130, Tryz.ntmps130
      go_wp2
      go_ret
      exact ⟨rfl, rfl⟩
end Go.Proofs.YtillhpgdlmeajaaGreatDoor
