/-
  The contracts of the reference's disk: call, Append, Sync, Cut, Crash.
-/
import Derived.Test.YtmpjgbckehnkjaaKDDisk
namespace Go.Proofs.Ytmpjgbckehnkjaa
open Go.RowKit
open Go.Proofs

theorem Dk.cal_fit {d : Dk} (h : d.Fit) : d.cal.2.2.Fit := by
  obtain ⟨e1, e2, e3⟩ := d.cal_bs
  have hh := h.hi
  have hl := h.lo
  refine ⟨⟨by rw [e1, e2]; exact h.ok.syn, by rw [e1, e3]; exact h.ok.fits, by rw [e3]; exact h.ok.lim⟩, ?_, ?_, ?_, by rw [e1]; exact h.bytes⟩
  all_goals unfold Dk.cal
  all_goals split
  · exact hl
  · split
    · split <;> simp only [] <;> omega
    · exact hl
  · exact hh
  · split
    · split <;> simp only [] <;> omega
    · exact hh
  · exact h.dn
  · split
    · split
      · intro _; rfl
      · intro e; exact absurd e (by rename_i hd _ _; exact hd)
    · exact h.dn
theorem Dk.app_not {d : Dk} (b : List Int) (h : (d.cal.1 = false ∧ d.cal.2.1 = false) ∨ d.lim < ((d.bs.length + b.length : Nat) : Int)) : d.app b = (false, d.cal.2.2) := by
  unfold Dk.app
  rw [if_pos]
  rcases h with ⟨h1, h2⟩ | h
  · rw [h1, h2]; rfl
  · simp only [Bool.or_eq_true, decide_eq_true_eq]; exact .inr h
theorem Dk.app_yes {d : Dk} (b : List Int) (h : d.cal.1 = true ∨ d.cal.2.1 = true) (hl : ¬ d.lim < ((d.bs.length + b.length : Nat) : Int)) : d.app b = (d.cal.1, { d.cal.2.2 with bs := d.bs ++ b }) := by
  unfold Dk.app
  rw [if_neg]
  simp only [Bool.or_eq_true, decide_eq_true_eq, not_or]
  refine ⟨?_, hl⟩
  rcases h with h | h <;> rw [h] <;> simp
/-- Cut as the reference tells it: the number first. -/
def Dk.rcut (d : Dk) (n : Int) : Int × Dk := if n < 0 ∨ (d.bs.length : Int) < n then (1, d) else if d.cal.1 then (0, { d.cal.2.2 with bs := d.bs.take n.toNat, syn := n.toNat }) else (13, d.cal.2.2)
theorem Dk.rcut_up {d : Dk} (h : d.down = false) (n : Int) : d.rcut n = d.cut n := by
  unfold Dk.rcut Dk.cut
  rw [if_neg (show ¬ d.down = true from by rw [h]; decide)]
theorem Dk.rcut_down {d : Dk} (h : d.down = true) (n : Int) : (d.rcut n).2 = d := by
  unfold Dk.rcut
  rw [Dk.cal_down h]
  split
  · rfl
  · rfl
end Go.Proofs.Ytmpjgbckehnkjaa
