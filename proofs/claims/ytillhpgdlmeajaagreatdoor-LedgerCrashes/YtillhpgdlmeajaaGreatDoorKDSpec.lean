/-
  Chapter 12 as plain functions: a disk of one file, what each call answers and what it leaves.
-/
import Derived.Test.YtillhpgdlmeajaaGreatDoorKHBases
namespace Go.Proofs.YtillhpgdlmeajaaGreatDoor
/-- A disk: its bytes, how many of them are synced, its limit, at which call from now on power goes (none where it is not above 0), whether power is gone. -/
structure Dk where
  bs : List Int
  syn : Nat
  lim : Int
  arm : Int
  down : Bool
namespace Dk
/-- One call of Append, Sync, Cut: may it be done, is it the one at which power goes, and the disk behind it. -/
def cal (d : Dk) : Bool × Bool × Dk :=
  if d.down then (false, false, d)
  else if 0 < d.arm then (if d.arm = 1 then (false, true, { d with arm := 0, down := true }) else (true, false, { d with arm := d.arm - 1 }))
  else (true, false, d)
def app (d : Dk) (b : List Int) : Bool × Dk :=
  if (!d.cal.1 && !d.cal.2.1) || decide (d.lim < ((d.bs.length + b.length : Nat) : Int)) then (false, d.cal.2.2)
  else (d.cal.1, { d.cal.2.2 with bs := d.bs ++ b })
def sync (d : Dk) : Bool × Dk :=
  if d.cal.1 then (true, { d.cal.2.2 with syn := d.bs.length }) else (false, d.cal.2.2)
/-- Cut: the refusal's number (0: none). -/
def cut (d : Dk) (n : Int) : Int × Dk :=
  if d.down then (13, d)
  else if n < 0 ∨ (d.bs.length : Int) < n then (1, d)
  else if d.cal.1 then (0, { d.cal.2.2 with bs := d.bs.take n.toNat, syn := n.toNat }) else (13, d.cal.2.2)
def armed (d : Dk) (n : Int) : Dk := if d.down then d else { d with arm := n }
/-- How many bytes stay behind a crash. -/
def left (d : Dk) (keep : Int) : Nat := d.syn + min keep.toNat (d.bs.length - d.syn)
def crash (d : Dk) (keep : Int) : Dk := { d with bs := d.bs.take (d.left keep), syn := min (d.left keep) d.bs.length, arm := 0, down := false }
def grow (d : Dk) (n : Int) : Bool × Dk := if (d.bs.length : Int) ≤ n ∧ n ≤ 1048576 then (true, { d with lim := n }) else (false, d)
/-- A disk as calls make it. -/
structure Ok (d : Dk) : Prop where
  syn : d.syn ≤ d.bs.length
  fits : (d.bs.length : Int) ≤ d.lim
  lim : d.lim ≤ 1048576
theorem cal_bs (d : Dk) : d.cal.2.2.bs = d.bs ∧ d.cal.2.2.syn = d.syn ∧ d.cal.2.2.lim = d.lim := by
  unfold cal
  split
  · exact ⟨rfl, rfl, rfl⟩
  · split
    · split <;> exact ⟨rfl, rfl, rfl⟩
    · exact ⟨rfl, rfl, rfl⟩
theorem cal_plain {d : Dk} (h : d.down = false) (ha : d.arm ≤ 0) : d.cal = (true, false, d) := by
  unfold cal
  rw [if_neg (by rw [h]; decide), if_neg (by omega)]
theorem cal_down {d : Dk} (h : d.down = true) : d.cal = (false, false, d) := by
  unfold cal
  rw [if_pos h]
theorem app_plain {d : Dk} (h : d.down = false) (ha : d.arm ≤ 0) (b : List Int) (hf : ((d.bs.length + b.length : Nat) : Int) ≤ d.lim) : d.app b = (true, { d with bs := d.bs ++ b }) := by
  unfold app
  rw [cal_plain h ha, if_neg (by simp; omega)]
theorem app_full {d : Dk} (h : d.down = false) (ha : d.arm ≤ 0) (b : List Int) (hf : d.lim < ((d.bs.length + b.length : Nat) : Int)) : d.app b = (false, d) := by
  unfold app
  rw [cal_plain h ha, if_pos (by simp; omega)]
theorem app_down {d : Dk} (h : d.down = true) (b : List Int) : d.app b = (false, d) := by
  unfold app
  rw [cal_down h, if_pos (by simp)]
theorem app_at {d : Dk} (h : d.down = false) (ha : d.arm = 1) (b : List Int) (hf : ((d.bs.length + b.length : Nat) : Int) ≤ d.lim) : d.app b = (false, { d with bs := d.bs ++ b, arm := 0, down := true }) := by
  have hc : d.cal = (false, true, { d with arm := 0, down := true }) := by
    unfold cal
    rw [if_neg (by rw [h]; decide), if_pos (by omega), if_pos ha]
  unfold app
  rw [hc, if_neg (by simp; omega)]
theorem sync_plain {d : Dk} (h : d.down = false) (ha : d.arm ≤ 0) : d.sync = (true, { d with syn := d.bs.length }) := by
  unfold sync
  rw [cal_plain h ha, if_pos rfl]
theorem sync_down {d : Dk} (h : d.down = true) : d.sync = (false, d) := by
  unfold sync
  rw [cal_down h, if_neg (by simp)]
theorem cut_down {d : Dk} (h : d.down = true) (n : Int) : d.cut n = (13, d) := by
  unfold cut
  rw [if_pos h]
theorem armed_down {d : Dk} (h : d.down = true) (n : Int) : d.armed n = d := by
  unfold armed
  rw [if_pos h]
theorem cut_plain {d : Dk} (h : d.down = false) (ha : d.arm ≤ 0) (n : Int) (h0 : 0 ≤ n) (h1 : n ≤ d.bs.length) : d.cut n = (0, { d with bs := d.bs.take n.toNat, syn := n.toNat }) := by
  unfold cut
  rw [if_neg (by rw [h]; decide), if_neg (by omega), cal_plain h ha, if_pos rfl]
theorem cut_bad {d : Dk} (h : d.down = false) (n : Int) (hn : n < 0 ∨ (d.bs.length : Int) < n) : d.cut n = (1, d) := by
  unfold cut
  rw [if_neg (by rw [h]; decide), if_pos hn]
theorem left_le {d : Dk} (h : d.Ok) (keep : Int) : d.left keep ≤ d.bs.length := by
  have := h.syn
  unfold left
  omega
theorem app_ok {d : Dk} (h : d.Ok) (b : List Int) : (d.app b).2.Ok := by
  obtain ⟨e1, e2, e3⟩ := d.cal_bs
  have h1 := h.syn
  have h2 := h.fits
  have h3 := h.lim
  unfold app
  split
  · exact ⟨by rw [e1, e2]; exact h1, by rw [e1, e3]; exact h2, by rw [e3]; exact h3⟩
  · rename_i hc
    simp only [Bool.or_eq_true, decide_eq_true_eq, not_or] at hc
    refine ⟨?_, ?_, by simp only [e3]; exact h3⟩
    · simp only [e2, List.length_append]; omega
    · simp only [e3, List.length_append]; omega
theorem sync_ok {d : Dk} (h : d.Ok) : d.sync.2.Ok := by
  obtain ⟨e1, e2, e3⟩ := d.cal_bs
  have h1 := h.syn
  have h2 := h.fits
  have h3 := h.lim
  unfold sync
  split
  · exact ⟨by simp only [e1]; omega, by simp only [e1, e3]; exact h2, by simp only [e3]; exact h3⟩
  · exact ⟨by rw [e1, e2]; exact h1, by rw [e1, e3]; exact h2, by rw [e3]; exact h3⟩
theorem cut_ok {d : Dk} (h : d.Ok) (n : Int) : (d.cut n).2.Ok := by
  obtain ⟨e1, e2, e3⟩ := d.cal_bs
  have h1 := h.syn
  have h2 := h.fits
  have h3 := h.lim
  unfold cut
  split
  · exact h
  · split
    · exact h
    · rename_i hn
      split
      · refine ⟨?_, ?_, by simp only [e3]; exact h3⟩
        · simp only [List.length_take]; omega
        · simp only [e3, List.length_take]; omega
      · exact ⟨by rw [e1, e2]; exact h1, by rw [e1, e3]; exact h2, by rw [e3]; exact h3⟩
theorem armed_ok {d : Dk} (h : d.Ok) (n : Int) : (d.armed n).Ok := by
  unfold armed
  split
  · exact h
  · exact ⟨h.syn, h.fits, h.lim⟩
theorem crash_ok {d : Dk} (h : d.Ok) (keep : Int) : (d.crash keep).Ok := by
  have h2 := h.fits
  unfold crash
  refine ⟨?_, ?_, h.lim⟩
  · simp only [List.length_take]; omega
  · simp only [List.length_take]; omega
theorem grow_ok {d : Dk} (h : d.Ok) (n : Int) : (d.grow n).2.Ok := by
  unfold grow
  split
  · rename_i hn
    exact ⟨h.syn, hn.1, hn.2⟩
  · exact h
end Dk
end Go.Proofs.YtillhpgdlmeajaaGreatDoor
