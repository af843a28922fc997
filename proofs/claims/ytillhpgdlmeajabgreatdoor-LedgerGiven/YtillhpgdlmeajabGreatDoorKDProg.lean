/-
  The contracts of package disk's small functions: count, told, keep, New, Size, Synced, Down, Arm, Grow, Bytes.
-/
import Derived.Test.YtillhpgdlmeajabGreatDoorKDMem
namespace Go.Proofs.YtillhpgdlmeajabGreatDoor
open Go.RowKit
open Go.Proofs

/-- the program's disk. -/
abbrev DskP := Dsk 89

set_option maxHeartbeats 1000000 in
theorem count_any (p : Nat) (v : Value) (d : Dk) (base : Nat) (w : World) (h : DskP w base p v d) (h0 : 0 ≤ d.arm) :
    Calls Tryz.prog 76 #[.pointer (some ⟨p, 3, none⟩)] w fun e w' => e = .returned (.tuple #[]) ∧ DskP w' base p v d.cnt ∧ Kp [p] w w' := by
  have hc3 := h.here.c3
  have hf := fun i => h.here.f i
  have hhi := h.fit.hi
  obtain ⟨a, ha⟩ : ∃ a, a = d.arm := ⟨_, rfl⟩
  rw [← ha] at hc3 hhi
  by_cases hz : a = 0
  · have hzd : (a == 0) = true := by simp [hz]
    have FIN : Hid (DskP w base p v d.cnt) := by
      have : d.cnt = d := by unfold Dk.cnt; rw [if_pos (by omega)]
      rw [this]; exact h
    clear hf h ha hz
    go_enter Tryz.func76, Tryz.ntmps76
    go_wp2_with fail
    refine bodyPost_ret (results_none rfl _ _ _) rfl ?_
    exact ⟨rfl, FIN.out, Kp.refl _ _⟩
  · have hzd : (a == 0) = false := by simp [hz]
    have f3 := hf 3
    obtain ⟨w1, hw1⟩ : ∃ w1, w1 = w.setCell ⟨p, 3, none⟩ (.int .i64 (a - 1)) := ⟨_, rfl⟩
    have h1 : Fv 89 w1 p v (.int .i64 d.syn) (.int .i64 d.lim) (.int .i64 (a - 1)) (.bool d.down) := by rw [hw1]; exact h.here.s3 _
    have c13 := h1.c3
    have c14 := h1.c4
    have f14 := h1.f 4
    have hwr : wrap64 (a - 1) = a - 1 := by unfold wrap64; omega
    obtain ⟨b, hb⟩ : ∃ b, b = (a - 1 == 0) := ⟨_, rfl⟩
    have FIN : Hid (DskP (w1.setCell ⟨p, 4, none⟩ (.bool b)) base p v d.cnt ∧ Kp [p] w (w1.setCell ⟨p, 4, none⟩ (.bool b))) := by
      have K : Kp [p] w (w1.setCell ⟨p, 4, none⟩ (.bool b)) := by
        rw [hw1]; exact (kp_set w p 3 _).trans (kp_set _ p 4 _)
      have hcn : d.cnt = { d with arm := a - 1, down := b } := by
        unfold Dk.cnt
        have e : (a - 1 == 0) = decide (a - 1 = 0) := by rw [Bool.eq_iff_iff]; simp
        rw [if_neg (by omega), hb, e, ha]
      have hft := Dk.cnt_fit h.fit h0
      rw [hcn] at hft ⊢
      exact ⟨h.poke K (h1.s4 _) rfl hft.1, K⟩
    rw [hw1] at c13 c14 f14 FIN
    clear hf h h1 ha hw1 hz
    go_enter Tryz.func76, Tryz.ntmps76
    go_wp2_with fail
    rw [← hb]
    go_end0
    exact ⟨rfl, FIN.out⟩
theorem told_any (p : Nat) (v : Value) (d : Dk) (base : Nat) (w : World) (h : DskP w base p v d) :
    Calls Tryz.prog 78 #[.pointer (some ⟨p, 3, none⟩)] w fun e w' => e = .returned (.int .i64 (if d.down then 13 else 0)) ∧ w' = w := by
  have hc4 := h.here.c4
  cases hd : d.down
  · rw [hd] at hc4
    clear h hd
    go_enter Tryz.func78, Tryz.ntmps78
    go_wp2_with fail
    go_ret
    exact ⟨rfl, rfl⟩
  · rw [hd] at hc4
    clear h hd
    go_enter Tryz.func78, Tryz.ntmps78
    go_wp2_with fail
    go_ret
    exact ⟨rfl, rfl⟩
theorem size_any (p : Nat) (v : Value) (d : Dk) (base : Nat) (w : World) (h : DskP w base p v d) :
    Calls Tryz.prog 15 #[.pointer (some ⟨p, 0, none⟩)] w fun e w' => e = .returned (.int .i64 (d.bs.length : Nat)) ∧ w' = w := by
  have hc := h.here.c0
  obtain ⟨ao, c, rfl⟩ := h.shape
  generalize d.bs.length = n at *
  clear h
  go_enter Tryz.func15, Tryz.ntmps15
  go_wp2_with fail
  go_ret
  exact ⟨rfl, rfl⟩
theorem new_no (n : Int) (w : World) (hn : n < 0 ∨ 1048576 < n) :
    Calls Tryz.prog 14 #[.int .i64 n] w fun e w' => e = .returned (.tuple #[.pointer none, .int .i64 1]) ∧ w' = w := by
  by_cases h0 : n < 0
  · go_enter Tryz.func14, Tryz.ntmps14
    go_wp2_with fail
    go_ret2
    exact ⟨rfl, rfl⟩
  · have h1 : n > 1048576 := by omega
    go_enter Tryz.func14, Tryz.ntmps14
    go_wp2_with fail
    go_ret2
    exact ⟨rfl, rfl⟩
/-- A disk as it begins. -/
def dk0 (n : Int) : Dk := ⟨[], 0, n, 0, false⟩
theorem dk0_fit {n : Int} (h0 : 0 ≤ n) (h1 : n ≤ 1048576) : (dk0 n).Fit := ⟨⟨Nat.le_refl _, h0, h1⟩, by simp [dk0], by simp [dk0], fun _ => rfl, fun b hb => by cases hb⟩
theorem new_any (n : Int) (w : World) (h0 : 0 ≤ n) (h1 : n ≤ 1048576) :
    Calls Tryz.prog 14 #[.int .i64 n] w fun e w' => ∃ p, e = .returned (.tuple #[.pointer (some ⟨p, 0, none⟩), .int .i64 0]) ∧ (∀ base, DskP w' base p (.slice none 0 0) (dk0 n)) ∧ Kp [] w w' ∧ w.heap.size ≤ p := by
  have HF := hide (dk0_fit h0 h1)
  go_enter Tryz.func14, Tryz.ntmps14
  go_wp2_with fail
  go_ret2
  exact ⟨w.heap.size, rfl, fun base => ⟨heap_alloc_new w _, ⟨rfl, .inl ⟨rfl, rfl⟩⟩, HF.out, by decide⟩, (Kp.refl [] w).alloc _, Nat.le_refl _⟩
theorem Dk.Fit.arms {d : Dk} (h : d.Fit) (n : Int) (hl : -9223372036854775808 ≤ n) (hh : n ≤ 9223372036854775807) : (d.armed n).Fit := by
  unfold Dk.armed
  split
  · exact h
  · rename_i hd
    exact ⟨⟨h.ok.syn, h.ok.fits, h.ok.lim⟩, hl, hh, fun e => absurd e hd, h.bytes⟩
theorem Dk.Fit.grows {d : Dk} (h : d.Fit) (n : Int) : (d.grow n).2.Fit := by
  have := Dk.grow_ok h.ok n
  unfold Dk.grow at *
  split
  · rename_i hd
    rw [if_pos hd] at this
    exact ⟨this, h.lo, h.hi, h.dn, h.bytes⟩
  · exact h
set_option maxHeartbeats 1000000 in
theorem grow_any (p : Nat) (v : Value) (d : Dk) (n : Int) (base : Nat) (w : World) (h : DskP w base p v d) :
    Calls Tryz.prog 18 #[.pointer (some ⟨p, 0, none⟩), .int .i64 n] w fun e w' => e = .returned (.bool (d.grow n).1) ∧ DskP w' base p v (d.grow n).2 ∧ DSt p w v w' v := by
  have hc0 := h.here.c0
  have hc2 := h.here.c2
  have f2 := h.here.f 2
  have hft := h.fit.grows n
  obtain ⟨ao, c, rfl⟩ := h.shape
  obtain ⟨k, hk⟩ : ∃ k, k = d.bs.length := ⟨_, rfl⟩
  rw [← hk] at hc0 h ⊢
  by_cases hg : (k : Int) ≤ n ∧ n ≤ 1048576
  · have e : d.grow n = (true, { d with lim := n }) := by unfold Dk.grow; rw [if_pos (by omega)]
    obtain ⟨g1, g2⟩ := hg
    rw [e] at hft ⊢
    have FIN : Hid (DskP (w.setCell ⟨p, 2, none⟩ (.int .i64 n)) base p (.slice ao k c) { d with lim := n }) := h.poke (kp_set w p 2 _) (h.here.s2 _) rfl hft
    have g1' : ¬ n < (k : Int) := by omega
    have g2' : ¬ 1048576 < n := by omega
    clear h hft hk e
    go_enter Tryz.func18, Tryz.ntmps18
    go_wp2_with fail
    go_ret
    exact ⟨rfl, FIN.out, DSt.one _ (kp_set _ _ _ _)⟩
  · have e : d.grow n = (false, d) := by unfold Dk.grow; rw [if_neg (by omega)]
    rw [e] at hft ⊢
    have FIN := hide h
    by_cases g1 : n < (k : Int)
    · clear h hft hk e
      go_enter Tryz.func18, Tryz.ntmps18
      go_wp2_with fail
      go_ret
      exact ⟨rfl, FIN.out, DSt.refl _ _ _⟩
    · have g2' : 1048576 < n := by omega
      clear h hft hk e
      go_enter Tryz.func18, Tryz.ntmps18
      go_wp2_with fail
      go_ret
      exact ⟨rfl, FIN.out, DSt.refl _ _ _⟩
end Go.Proofs.YtillhpgdlmeajabGreatDoor
