/-
  The contracts of package disk's small functions: count, told, keep, New, Size, Synced, Down, Arm, Grow, Bytes.
-/
import Derived.Test.YtillhpgdlmeajaaGreatDoorKDMem
namespace Go.Proofs.YtillhpgdlmeajaaGreatDoor
open Go.RowKit
open Go.Proofs

/-- the program's disk. -/
abbrev DskP := Dsk 137

set_option maxHeartbeats 1000000 in
theorem count_any (p : Nat) (v : Value) (d : Dk) (base : Nat) (w : World) (h : DskP w base p v d) (h0 : 0 ≤ d.arm) :
    Calls Tryz.prog 95 #[.pointer (some ⟨p, 3, none⟩)] w fun e w' => e = .returned (.tuple #[]) ∧ DskP w' base p v d.cnt ∧ Kp [p] w w' := by
  have hc3 := h.here.c3
  have hf := fun i => h.here.f i
  have hhi := h.fit.hi
  obtain ⟨a, ha⟩ : ∃ a, a = d.arm := ⟨_, rfl⟩
  rw [← ha] at hc3 hhi
  by_cases hz : a = 0
  · have hzd : (a == 0) = true := by simp [hz]
    have FIN : Hid (DskP w base p v d.cnt) := by
      have : d.cnt = d := by unfold Dk.cnt; rw [if_pos (by omega)]
      rw [this]; exact h
    clear hf h ha hz
    go_enter Tryz.func95, Tryz.ntmps95
    go_wp2_with fail
    refine bodyPost_ret (results_none rfl _ _ _) rfl ?_
    exact ⟨rfl, FIN.out, Kp.refl _ _⟩
  · have hzd : (a == 0) = false := by simp [hz]
    have f3 := hf 3
    obtain ⟨w1, hw1⟩ : ∃ w1, w1 = w.setCell ⟨p, 3, none⟩ (.int .i64 (a - 1)) := ⟨_, rfl⟩
    have h1 : Fv 137 w1 p v (.int .i64 d.syn) (.int .i64 d.lim) (.int .i64 (a - 1)) (.bool d.down) := by rw [hw1]; exact h.here.s3 _
    have c13 := h1.c3
    have c14 := h1.c4
    have f14 := h1.f 4
    have hwr : wrap64 (a - 1) = a - 1 := by unfold wrap64; omega
    obtain ⟨b, hb⟩ : ∃ b, b = (a - 1 == 0) := ⟨_, rfl⟩
    have FIN : Hid (DskP (w1.setCell ⟨p, 4, none⟩ (.bool b)) base p v d.cnt ∧ Kp [p] w (w1.setCell ⟨p, 4, none⟩ (.bool b))) := by
      have K : Kp [p] w (w1.setCell ⟨p, 4, none⟩ (.bool b)) := by
        rw [hw1]; exact (kp_set w p 3 _).trans (kp_set _ p 4 _)
      have hcn : d.cnt = { d with arm := a - 1, down := b } := by
        unfold Dk.cnt
        have e : (a - 1 == 0) = decide (a - 1 = 0) := by rw [Bool.eq_iff_iff]; simp
        rw [if_neg (by omega), hb, e, ha]
      have hft := Dk.cnt_fit h.fit h0
      rw [hcn] at hft ⊢
      exact ⟨h.poke K (h1.s4 _) rfl hft.1, K⟩
    rw [hw1] at c13 c14 f14 FIN
    clear hf h h1 ha hw1 hz
    go_enter Tryz.func95, Tryz.ntmps95
    go_wp2_with fail
    rw [← hb]
    go_end0
    exact ⟨rfl, FIN.out⟩
theorem told_any (p : Nat) (v : Value) (d : Dk) (base : Nat) (w : World) (h : DskP w base p v d) :
    Calls Tryz.prog 96 #[.pointer (some ⟨p, 3, none⟩)] w fun e w' => e = .returned (.int .i64 (if d.down then 13 else 0)) ∧ w' = w := by
  have hc4 := h.here.c4
  cases hd : d.down
  · rw [hd] at hc4
    clear h hd
    go_enter Tryz.func96, Tryz.ntmps96
    go_wp2_with fail
    go_ret
    exact ⟨rfl, rfl⟩
  · rw [hd] at hc4
    clear h hd
    go_enter Tryz.func96, Tryz.ntmps96
    go_wp2_with fail
    go_ret
    exact ⟨rfl, rfl⟩
theorem size_any (p : Nat) (v : Value) (d : Dk) (base : Nat) (w : World) (h : DskP w base p v d) :
    Calls Tryz.prog 87 #[.pointer (some ⟨p, 0, none⟩)] w fun e w' => e = .returned (.int .i64 (d.bs.length : Nat)) ∧ w' = w := by
  have hc := h.here.c0
  obtain ⟨ao, c, rfl⟩ := h.shape
  generalize d.bs.length = n at *
  clear h
  go_enter Tryz.func87, Tryz.ntmps87
  go_wp2_with fail
  go_ret
  exact ⟨rfl, rfl⟩
theorem new_no (n : Int) (w : World) (hn : n < 0 ∨ 1048576 < n) :
    Calls Tryz.prog 46 #[.int .i64 n] w fun e w' => e = .returned (.tuple #[.pointer none, .int .i64 1]) ∧ w' = w := by
  by_cases h0 : n < 0
  · go_enter Tryz.func46, Tryz.ntmps46
    go_wp2_with fail
    go_ret2
    exact ⟨rfl, rfl⟩
  · have h1 : n > 1048576 := by omega
    go_enter Tryz.func46, Tryz.ntmps46
    go_wp2_with fail
    go_ret2
    exact ⟨rfl, rfl⟩
/-- A disk as it begins. -/
def dk0 (n : Int) : Dk := ⟨[], 0, n, 0, false⟩
theorem dk0_fit {n : Int} (h0 : 0 ≤ n) (h1 : n ≤ 1048576) : (dk0 n).Fit := ⟨⟨Nat.le_refl _, h0, h1⟩, by simp [dk0], by simp [dk0], fun _ => rfl, fun b hb => by cases hb⟩
theorem new_any (n : Int) (w : World) (h0 : 0 ≤ n) (h1 : n ≤ 1048576) :
    Calls Tryz.prog 46 #[.int .i64 n] w fun e w' => ∃ p, e = .returned (.tuple #[.pointer (some ⟨p, 0, none⟩), .int .i64 0]) ∧ (∀ base, DskP w' base p (.slice none 0 0) (dk0 n)) ∧ Kp [] w w' ∧ w.heap.size ≤ p := by
  have HF := hide (dk0_fit h0 h1)
  go_enter Tryz.func46, Tryz.ntmps46
  go_wp2_with fail
  go_ret2
  exact ⟨w.heap.size, rfl, fun base => ⟨heap_alloc_new w _, ⟨rfl, .inl ⟨rfl, rfl⟩⟩, HF.out, by decide⟩, (Kp.refl [] w).alloc _, Nat.le_refl _⟩
theorem Dk.Fit.arms {d : Dk} (h : d.Fit) (n : Int) (hl : -9223372036854775808 ≤ n) (hh : n ≤ 9223372036854775807) : (d.armed n).Fit := by
  unfold Dk.armed
  split
  · exact h
  · rename_i hd
    exact ⟨⟨h.ok.syn, h.ok.fits, h.ok.lim⟩, hl, hh, fun e => absurd e hd, h.bytes⟩
theorem Dk.Fit.grows {d : Dk} (h : d.Fit) (n : Int) : (d.grow n).2.Fit := by
  have := Dk.grow_ok h.ok n
  unfold Dk.grow at *
  split
  · rename_i hd
    rw [if_pos hd] at this
    exact ⟨this, h.lo, h.hi, h.dn, h.bytes⟩
  · exact h
set_option maxHeartbeats 1000000 in
theorem arm_any (p : Nat) (v : Value) (d : Dk) (n : Int) (base : Nat) (w : World) (h : DskP w base p v d) (hh : n ≤ 9223372036854775807) :
    Calls Tryz.prog 31 #[.pointer (some ⟨p, 0, none⟩), .int .i64 n] w fun e w' => e = .returned (.tuple #[]) ∧ DskP w' base p v (d.armed (max n 0)) ∧ DSt p w v w' v := by
  have hc4 := h.here.c4
  have hc3 := h.here.c3
  have f3 := h.here.f 3
  have hft := h.fit.arms (max n 0) (by omega) (by omega)
  cases hd : d.down
  · rw [hd] at hc4
    obtain ⟨m, hm⟩ : ∃ m, m = max n 0 := ⟨_, rfl⟩
    have FIN : Hid (DskP (w.setCell ⟨p, 3, none⟩ (.int .i64 m)) base p v (d.armed m)) := by
      have e : d.armed m = { d with arm := m } := by unfold Dk.armed; rw [hd]; rfl
      rw [← hm, e] at hft
      rw [e]
      exact h.poke (kp_set w p 3 _) (h.here.s3 _) rfl hft
    by_cases h0 : n < 0
    · have hm0 : m = 0 := by omega
      rw [← hm]
      rw [hm0] at FIN ⊢
      clear h hd hft hm hm0
      go_enter Tryz.func31, Tryz.ntmps31
      go_wp2_with fail
      go_end0
      exact ⟨rfl, FIN.out, DSt.one v (kp_set _ _ _ _)⟩
    · have hm0 : m = n := by omega
      have h0' : 0 ≤ n := by omega
      rw [← hm]
      rw [hm0] at FIN ⊢
      clear h hd hft hm hm0
      go_enter Tryz.func31, Tryz.ntmps31
      go_wp2_with fail
      go_end0
      exact ⟨rfl, FIN.out, DSt.one v (kp_set _ _ _ _)⟩
  · rw [hd] at hc4
    have FIN : Hid (DskP w base p v (d.armed (max n 0))) := by rw [Dk.armed_down hd]; exact h
    clear h hd hft
    go_enter Tryz.func31, Tryz.ntmps31
    go_wp2_with fail
    go_end0
    exact ⟨rfl, FIN.out, DSt.refl _ _ _⟩
end Go.Proofs.YtillhpgdlmeajaaGreatDoor
