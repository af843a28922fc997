/-
  The contracts of package wire's Raw and Bytes of a writer over this seat's program.
-/
import Derived.Test.YthpekclkclpbpaaReader
import Derived.Maps.AppendAt
namespace Go.Proofs.Ythpekclkclpbpaa
open Go.RowKit

theorem wr_step' {wr w0 w1 : World} {p : Nat} {v v' : Value} {bs new : List Int} (h : Wr wr p v bs) (h0 : Kp [] wr w0)
    (hown : w1.ownsRow (p + 1) 5 1 v' (bs.length + new.length) (bs.map (Value.int .u8) ++ new.map (Value.int .u8)))
    (hgrow : w0.grownBy w1 v.ownBlock) (hat : ∀ k, v'.ownBlock = some k → v.ownBlock = some k ∨ wr.heap.size ≤ k) :
    Wr (w1.setCell ⟨p, 0, none⟩ v') p v' (bs ++ new) ∧ Step p wr v (w1.setCell ⟨p, 0, none⟩ v') v' := by
  have h1 : w1.heap[p]? = some (.cells #[v] 55 (0, 0)) := by
    rw [hgrow.block p (Nat.lt_of_lt_of_le h.lt h0.size) (Ne.symm h.ne)]
    exact h0.heap h.1 (by simp)
  refine ⟨⟨one_setCell h1, ?_⟩, ?_, hat⟩
  · have := ownsRow_setCell_below hown (a := ⟨p, 0, none⟩) (by simp) v'
    simpa using this
  · have k1 : Kp (p :: v.ownBlock.toList) wr w0 := h0.mono (by simp)
    have k2 := k1.grown hgrow (fun k hk => .inl (by simp [hk]))
    exact k2.setCell (p := ⟨p, 0, none⟩) (.inl (by simp)) _
theorem wr_same {w : World} {p : Nat} {v : Value} {bs : List Int} (h : Wr w p v bs) : Wr (w.setCell ⟨p, 0, none⟩ v) p v bs ∧ Step p w v (w.setCell ⟨p, 0, none⟩ v) v :=
  ⟨⟨one_setCell h.1, ownsRow_setCell_below h.2 (a := ⟨p, 0, none⟩) (by simp) v⟩, (Kp.refl _ w).setCell (p := ⟨p, 0, none⟩) (.inl (by simp)) _, fun _ hk => .inl hk⟩

set_option maxHeartbeats 400000 in
theorem raw_any (p : Nat) (v : Value) (bs : List Int) (vb : Value) (cs : List Int) (w : World) (hw : Wr w p v bs) (hs : Sl w vb cs) (hb : bs.length + cs.length ≤ 140737488355328) :
    Calls Try.prog 31 #[.pointer (some ⟨p, 0, none⟩), vb] w fun e w' => e = .returned (.tuple #[]) ∧ ∃ v', Wr w' p v' (bs ++ cs) ∧ Step p w v w' v' := by
  obtain ⟨i0, hi0, hz0, hz1, hz2⟩ := info_parts Try.info5
  obtain ⟨ao, c, rfl, h1, h2, h3, h4⟩ := hs
  obtain ⟨av, cv, rfl⟩ := owns_shape hw.2
  have hc := hw.cell
  have hf := hw.free
  have hown := hw.2
  have hne := hw.ne
  have hlt := hw.lt
  cases ao with
  | none =>
    have : cs = [] := List.eq_nil_of_length_eq_zero (by have := h3 rfl; omega)
    subst this
    obtain rfl := h3 rfl
    have R := wr_same hw
    go_enter Try.func31, Try.ntmps31
    go_wp2_with (at_builtin; refine wpList_append_own_none rfl _ _ 25 rfl (p + 1) 5 i0 1 Try.underlying25 hi0 _ _ _ rfl hown rfl ?_)
    go_end0
    exact ⟨rfl, _, by simpa using R.1, R.2⟩
  | some a =>
    go_enter Try.func31, Try.ntmps31
    go_wp2_with (at_builtin; (refine wpList_append_own_at _ rfl _ _ 25 rfl (p + 1) 5 i0 (.int .u8 0) 1 1 Try.underlying25 hi0 hz0 hz1 hz2 rfl (by decide) (.slice av bs.length cv) bs.length (bs.map (Value.int .u8)) rfl hown a cs.length c (cs.map (Value.int .u8)) rfl (by simp) (h4 a rfl) (by simp [Value.oneCell']) (by unfold maxLen; omega) (by omega) (by omega) ?_; intro v' w1 hown1 hgrow _ hat; obtain ⟨av', cv', rfl⟩ := owns_shape hown1; have hc1 : w1.cell? ⟨p, 0, none⟩ = some (.slice av bs.length cv) := (by rw [hgrow.cell_far _ hlt (Ne.symm hne)]; exact hc); have hf1 : w1.frozen? ⟨p, 0, none⟩ = false := (by rw [hgrow.frozen_far _ hlt (Ne.symm hne)]; exact hf)))
    have R := wr_step' (new := cs) hw (Kp.refl [] w) hown1 hgrow (fun k hk => by rcases hat with e | e; exact .inl (e ▸ hk); exact .inr (by rw [e] at hk; cases hk; exact Nat.le_refl _))
    go_end0
    exact ⟨rfl, _, R.1, R.2⟩

theorem be_two (n : Int) : be n 2 0 = [n / 256 % 256, n % 256] := by simp [be, byteAt, List.range_succ]
theorem bytes_ok (p : Nat) (v : Value) (bs : List Int) (vb : Value) (cs : List Int) (w : World) (hw : Wr w p v bs) (hs : Sl w vb cs) (hk : ∀ w1, Kp (p :: v.ownBlock.toList) w w1 → Sl w1 vb cs) (hb : bs.length + cs.length ≤ 100000000000000) (hl : cs.length ≤ 65535) :
    Calls Try.prog 10 #[.pointer (some ⟨p, 0, none⟩), vb] w fun e w' => e = .returned (.bool true) ∧ ∃ v', Wr w' p v' (bs ++ be cs.length 2 0 ++ cs) ∧ Step p w v w' v' := by
  obtain ⟨ao, c, rfl, h1, h2, h3, h4⟩ := hs
  have hw32 : IntKind.u32.wrap (cs.length : Int) = cs.length := by simp [IntKind.wrap, IntKind.signed, IntKind.bits]; omega
  have hle : (cs.length : Int) ≤ 65535 := by omega
  clear h4 h3 h2
  go_enter Try.func10, Try.ntmps10
  go_wp2_with (go_at_call 30; refine (number_any p cs.length 2 v bs _ hw (by omega) (by omega)).mono ?_; rintro e w1 ⟨rfl, v1, k1, k2⟩)
  go_wp2_with (go_at_call 31; refine (raw_any p v1 _ _ cs _ k1 (hk _ k2.1) (by rw [List.length_append, be_length]; omega)).mono ?_; rintro e w2 ⟨rfl, v2, k3, k4⟩)
  go_ret
  exact ⟨rfl, v2, k3, k2.trans k4⟩
theorem bytes_no (p : Nat) (vb : Value) (cs : List Int) (w : World) (hs : Sl w vb cs) (hl : 65535 < cs.length) :
    Calls Try.prog 10 #[.pointer (some ⟨p, 0, none⟩), vb] w fun e w' => e = .returned (.bool false) ∧ w' = w := by
  obtain ⟨ao, c, rfl, h1, h2, h3, h4⟩ := hs
  have hle : ¬ (cs.length : Int) ≤ 65535 := by omega
  clear h4 h3 h2
  go_enter Try.func10, Try.ntmps10
  go_wp2
  go_ret
  exact ⟨rfl, rfl⟩
end Go.Proofs.Ythpekclkclpbpaa
