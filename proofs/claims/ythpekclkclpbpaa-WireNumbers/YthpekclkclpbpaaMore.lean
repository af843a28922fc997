/-
  The contracts of package wire's reader for every call, by one plain function of what is left: Raw, Byte, Num, Bytes, Left; and of the helpers Cut and Within.
-/
import Derived.Test.YthpekclkclpbpaaNumsPlain
namespace Go.Proofs.Ythpekclkclpbpaa
open Go.RowKit

/-- n bytes off the bytes bs: what is told, whether it is bad now, what is left. -/
def tk (bad : Bool) (bs : List Int) (n : Int) : List Int × Bool × List Int :=
  if 0 ≤ n ∧ n ≤ (bs.length : Int) then (bs.take n.toNat, bad, bs.drop n.toNat) else ([], true, [])
/-- a text behind its length. -/
def tkb (bad : Bool) (bs : List Int) (most : Int) : List Int × Bool × List Int :=
  if max most 0 < val (tk bad bs 2).1 then ([], true, []) else tk (tk bad bs 2).2.1 (tk bad bs 2).2.2 (val (tk bad bs 2).1)
theorem tk_ok (bad : Bool) (bs : List Int) (n : Nat) (h : n ≤ bs.length) : tk bad bs n = (bs.take n, bad, bs.drop n) := by
  unfold tk; rw [if_pos (by omega)]; simp
theorem tk_no (bad : Bool) (bs : List Int) (n : Int) (h : n < 0 ∨ (bs.length : Int) < n) : tk bad bs n = ([], true, []) := by
  unfold tk; rw [if_neg (by omega)]
theorem tk_bs1 {bad : Bool} {bs : List Int} {n : Int} (h : Bs bs) : Bs (tk bad bs n).1 := by
  unfold tk; split
  · exact h.take _
  · intro b hb; cases hb
theorem tk_bs2 {bad : Bool} {bs : List Int} {n : Int} (h : Bs bs) : Bs (tk bad bs n).2.2 := by
  unfold tk; split
  · exact h.drop _
  · intro b hb; cases hb
theorem tk_len {bad : Bool} {bs : List Int} {n : Int} : (tk bad bs n).1.length + (tk bad bs n).2.2.length ≤ bs.length := by
  unfold tk; split
  · simp; omega
  · simp
theorem tk_len1 {bad : Bool} {bs : List Int} {n : Nat} : (tk bad bs n).1.length ≤ n := by
  unfold tk; split
  · simp; omega
  · simp
theorem tkb_bs2 {bad : Bool} {bs : List Int} {n : Int} (h : Bs bs) : Bs (tkb bad bs n).2.2 := by
  unfold tkb; split
  · intro b hb; cases hb
  · exact tk_bs2 (tk_bs2 h)
theorem tkb_bs1 {bad : Bool} {bs : List Int} {n : Int} (h : Bs bs) : Bs (tkb bad bs n).1 := by
  unfold tkb; split
  · intro b hb; cases hb
  · exact tk_bs1 (tk_bs2 h)
theorem tkb_len {bad : Bool} {bs : List Int} {n : Int} : (tkb bad bs n).1.length + (tkb bad bs n).2.2.length ≤ bs.length := by
  unfold tkb; split
  · simp
  · have h1 := @tk_len bad bs 2
    have h2 := @tk_len (tk bad bs 2).2.1 (tk bad bs 2).2.2 (val (tk bad bs 2).1)
    omega
/-- a bad reader has nothing left. -/
def St (s : Bool × List Int) : Prop := s.1 = true → s.2 = []
theorem tk_st {bad : Bool} {bs : List Int} {n : Int} (h : St (bad, bs)) : St (tk bad bs n).2 := by
  intro hb
  unfold tk at hb ⊢
  split at hb
  · rename_i hc; rw [if_pos hc]; have := h hb; simp only at this; simp [this]
  · rename_i hc; rw [if_neg hc]
theorem tkb_st {bad : Bool} {bs : List Int} {n : Int} (h : St (bad, bs)) : St (tkb bad bs n).2 := by
  unfold tkb
  split
  · intro _; rfl
  · exact tk_st (bad := (tk bad bs 2).2.1) (bs := (tk bad bs 2).2.2) (tk_st h)

/-- what a call of a reader leaves: the state s, besides its two cells nothing old changed. -/
def Left (w : World) (q : Nat) (v : Value) (s : Bool × List Int) (w' : World) : Prop :=
  (∃ v2, Rd w' q v2 s.1 s.2 ∧ ∀ k, v2.ownBlock = some k → v.ownBlock = some k) ∧ Kp [q] w w'
theorem Left.trans {a b c : World} {q : Nat} {v : Value} {s t : Bool × List Int} (h : Left a q v s b) (k : ∀ v2, Rd b q v2 s.1 s.2 → Left b q v2 t c) : Left a q v t c := by
  obtain ⟨⟨v2, r2, o2⟩, k2⟩ := h
  obtain ⟨⟨v3, r3, o3⟩, k3⟩ := k v2 r2
  exact ⟨⟨v3, r3, fun i hi => o2 i (o3 i hi)⟩, k2.trans k3⟩
theorem Took.left {w w' : World} {q n : Nat} {v : Value} {bad : Bool} {bs : List Int} {r : Value} (h : Took w q n v bad bs r w') : Left w q v (bad, bs.drop n) w' := ⟨h.2.1, h.2.2.1⟩
theorem Left.bad {w w' : World} {q : Nat} {v : Value} (h : Rd w' q (.slice none 0 0) true []) (k : Kp [q] w w') : Left w q v (true, []) w' := ⟨⟨_, h, fun _ hk => by cases hk⟩, k⟩

theorem rnumber_any (q : Nat) (v : Value) (bad : Bool) (bs : List Int) (n : Nat) (w : World) (hR : Rd w q v bad bs) (h0 : 0 < n) (h4 : n ≤ 4) (hB : Bs bs) :
    Calls Try.prog 43 #[.pointer (some ⟨q, 0, none⟩), .int .i64 n] w fun e w' => e = .returned (.int .u32 (val (tk bad bs n).1)) ∧ Left w q v (tk bad bs n).2 w' := by
  rcases Nat.lt_or_ge bs.length n with h | h
  · rw [tk_no bad bs n (.inr (by omega))]
    exact (rnumber_bad q v bad bs n w hR h).mono fun _ _ ⟨h1, h2, h3⟩ => ⟨h1, Left.bad h2 h3⟩
  · rw [tk_ok bad bs n h]
    exact (rnumber_ok q v bad bs n w hR h h0 h4 hB).mono fun _ _ ⟨h1, r, h2⟩ => ⟨h1, h2.left⟩

theorem rnum_any (q : Nat) (v : Value) (bad : Bool) (bs : List Int) (w : World) (hR : Rd w q v bad bs) (hB : Bs bs) :
    Calls Try.prog 21 #[.pointer (some ⟨q, 0, none⟩)] w fun e w' => e = .returned (.int .u32 (val (tk bad bs 4).1)) ∧ Left w q v (tk bad bs 4).2 w' := by
  go_enter Try.func21, Try.ntmps21
  go_wp2_with (go_at_call 43; refine (rnumber_any q v bad bs 4 _ hR (by omega) (by omega) hB).mono ?_; rintro e w1 ⟨rfl, h1⟩)
  go_ret
  exact ⟨rfl, h1⟩
theorem val_one (cs : List Int) (h : Bs cs) (hl : cs.length ≤ 1) : IntKind.u8.wrap (val cs) = val cs := by
  have h1 := val_bd cs h
  have : cs.length = 0 ∨ cs.length = 1 := by omega
  have h2 : 0 ≤ val cs ∧ val cs ≤ 255 := by rcases this with e | e <;> rw [e] at h1 <;> omega
  simp [IntKind.wrap, IntKind.signed, IntKind.bits]
  omega
theorem rbyte_any (q : Nat) (v : Value) (bad : Bool) (bs : List Int) (w : World) (hR : Rd w q v bad bs) (hB : Bs bs) :
    Calls Try.prog 20 #[.pointer (some ⟨q, 0, none⟩)] w fun e w' => e = .returned (.int .u8 (val (tk bad bs 1).1)) ∧ Left w q v (tk bad bs 1).2 w' := by
  have hv := val_one (tk bad bs 1).1 (tk_bs1 hB) (@tk_len1 bad bs 1)
  go_enter Try.func20, Try.ntmps20
  go_wp2_with (go_at_call 43; refine (rnumber_any q v bad bs 1 _ hR (by omega) (by omega) hB).mono ?_; rintro e w1 ⟨rfl, h1⟩)
  go_ret
  exact ⟨rfl, h1⟩

/-- a slice r of the call's own that reads as bs. -/
def Own (w w' : World) (r : Value) (bs : List Int) : Prop := Sl w' r bs ∧ ∀ k, r.ownBlock = some k → w.heap.size ≤ k

theorem raw_ok (q : Nat) (v : Value) (bad : Bool) (bs : List Int) (n : Int) (w : World) (hR : Rd w q v bad bs) (hb : bs.length ≤ 140737488355328) :
    Calls Try.prog 23 #[.pointer (some ⟨q, 0, none⟩), .int .i64 n] w fun e w' => ∃ ao c, e = .returned (.slice ao (tk bad bs n).1.length c) ∧ Own w w' (.slice ao (tk bad bs n).1.length c) (tk bad bs n).1 ∧ Left w q v (tk bad bs n).2 w' := by
  by_cases hn : 0 ≤ n ∧ n ≤ (bs.length : Int)
  · obtain ⟨m, rfl⟩ := Int.eq_ofNat_of_zero_le hn.1
    have hm : m ≤ bs.length := by omega
    rw [tk_ok bad bs m hm]
    have hl : (bs.take m).length = m := by simp; omega
    obtain ⟨cs, hcs⟩ : ∃ cs, cs = bs.take m := ⟨_, rfl⟩
    simp only
    rw [← hcs] at hl ⊢
    have HC : Hid (cs = bs.take m) := hcs
    clear hcs hn
    subst hl
    go_enter Try.func23, Try.ntmps23
    go_wp2_with fail
    refine (take_ok q v bad bs cs.length _ hR hm).mono ?_
    rintro e w1 ⟨ao, c, rfl, hT⟩
    have hS : Sl w1 (.slice ao cs.length c) cs := by have := hT.1; rwa [← HC.out] at this
    have hL := hT.left
    clear hT
    go_wp2_with fail
    refine (copy_any _ cs _ hS (by omega)).mono ?_
    rintro e w2 ⟨ao2, c2, rfl, h1, h2⟩
    go_wp2_with fail
    go_ret
    refine ⟨ao2, c2, rfl, ⟨Sl.of_owns h1, fun k hk => Nat.le_trans hL.2.size (h1.lt k hk).1⟩, ?_⟩
    obtain ⟨⟨v2, r2, o2⟩, k2⟩ := hL
    exact ⟨⟨v2, r2.kept h2 (by simp) (by simp), o2⟩, k2.trans (h2.mono (by simp))⟩
  · have hn' : n < 0 ∨ (bs.length : Int) < n := by omega
    rw [tk_no bad bs n hn']
    go_enter Try.func23, Try.ntmps23
    go_wp2_with fail
    refine (take_bad q v bad bs n _ hR hn').mono ?_
    rintro e w1 ⟨rfl, h1, h2⟩
    go_wp2_with fail
    refine (copy_any _ [] _ (Sl.nil w1) (by simp)).mono ?_
    rintro e w2 ⟨ao2, c2, rfl, h3, h4⟩
    go_wp2_with fail
    go_ret
    exact ⟨ao2, c2, rfl, ⟨Sl.of_owns h3, fun k hk => Nat.le_trans h2.size (h3.lt k hk).1⟩, Left.bad (h1.kept h4 (by simp) (by simp)) (h2.trans (h4.mono (by simp)))⟩

theorem left_any (q : Nat) (v : Value) (bad : Bool) (bs : List Int) (w : World) (h : Rd w q v bad bs) :
    Calls Try.prog 26 #[.pointer (some ⟨q, 0, none⟩)] w fun e w' => e = .returned (.int .i64 bs.length) ∧ w' = w := by
  obtain ⟨ao, c, rfl, h1, h2, h3, h4⟩ := h.2.1
  have hc0 := (cell_of_two h.1).1
  clear h4 h3 h
  go_enter Try.func26, Try.ntmps26
  go_wp2
  go_ret
  exact ⟨rfl, rfl⟩
end Go.Proofs.Ythpekclkclpbpaa
