/-
  The program's disk and the reference's, side by side.
-/
import Derived.Test.YtmpjgbckehnkjaaKDRef
import Derived.Test.YtmpjgbckehnkjaaKDLaw
namespace Go.Proofs.Ytmpjgbckehnkjaa
open Go.RowKit
open Go.Proofs

namespace Dk
/-- as the program keeps it: what is armed is never below 0. -/
def nrm (d : Dk) : Dk := { d with arm := max d.arm 0 }
theorem nrm_fit {d : Dk} (h : d.Fit) : d.nrm.Fit :=
  ⟨⟨h.ok.syn, h.ok.fits, h.ok.lim⟩, by show _ ≤ max d.arm 0; omega, by have := h.hi; show max d.arm 0 ≤ _; omega, fun e => by have := h.dn e; show max d.arm 0 = 0; omega, h.bytes⟩
theorem nrm_arm (d : Dk) : 0 ≤ d.nrm.arm := by show 0 ≤ max d.arm 0; omega
theorem nrm_cal (d : Dk) : d.nrm.cal = (d.cal.1, d.cal.2.1, d.cal.2.2.nrm) := by
  unfold cal
  show (if d.down = true then _ else if 0 < max d.arm 0 then _ else _) = _
  by_cases hd : d.down = true
  · rw [if_pos hd, if_pos hd]
  · rw [if_neg hd, if_neg hd]
    by_cases ha : 0 < d.arm
    · rw [if_pos (by omega), if_pos ha]
      show (if max d.arm 0 = 1 then _ else _) = _
      by_cases h1 : d.arm = 1
      · rw [if_pos (by omega), if_pos h1]; rfl
      · rw [if_neg (by omega), if_neg h1]
        have e1 : (nrm { d with arm := d.arm - 1 }).arm = d.nrm.arm - 1 := by show max (d.arm - 1) 0 = max d.arm 0 - 1; omega
        show _ = (true, false, nrm { d with arm := d.arm - 1 })
        have e2 : nrm { d with arm := d.arm - 1 } = { d.nrm with arm := d.nrm.arm - 1 } := by rw [← e1]; rfl
        rw [e2]
    · rw [if_neg (by omega), if_neg ha]
theorem nrm_app (d : Dk) (b : List Int) : d.nrm.app b = ((d.app b).1, (d.app b).2.nrm) := by
  unfold app
  rw [nrm_cal]
  show (if ((!d.cal.1 && !d.cal.2.1) || decide (d.lim < ((d.bs.length + b.length : Nat) : Int))) = true then _ else _) = _
  split <;> rfl
theorem nrm_sync (d : Dk) : d.nrm.sync = (d.sync.1, d.sync.2.nrm) := by
  unfold sync
  rw [nrm_cal]
  show (if d.cal.1 = true then _ else _) = _
  split <;> rfl
theorem nrm_cut (d : Dk) (n : Int) : d.nrm.cut n = ((d.cut n).1, (d.cut n).2.nrm) := by
  unfold cut
  rw [nrm_cal]
  show (if d.down = true then _ else if n < 0 ∨ (d.bs.length : Int) < n then _ else if d.cal.1 = true then _ else _) = _
  split
  · rfl
  · split
    · rfl
    · split <;> rfl
theorem nrm_armed (d : Dk) (n : Int) : d.nrm.armed (max n 0) = (d.armed n).nrm := by
  unfold armed
  show (if d.down = true then _ else _) = _
  split <;> rfl
theorem nrm_crash (d : Dk) (n : Int) : d.nrm.crash n = (d.crash n).nrm := rfl
theorem nrm_grow (d : Dk) (n : Int) : d.nrm.grow n = ((d.grow n).1, (d.grow n).2.nrm) := by
  unfold grow
  show (if (d.bs.length : Int) ≤ n ∧ n ≤ 1048576 then _ else _) = _
  split <;> rfl
end Dk
section
variable {w0 w w' : World} {p q : Nat} {v v' u u' : Value} {d d' e e' : Dk}
end
/-- three cells at B. -/
theorem box_cells {w : World} {B : Nat} {x y z : Value} {t : TypeId} {fr : Nat × Nat} (h : w.heap[B]? = some (.cells #[x, y, z] t fr)) : w.cell? ⟨B, 0, none⟩ = some x ∧ w.cell? ⟨B, 1, none⟩ = some y ∧ w.cell? ⟨B, 2, none⟩ = some z := by
  refine ⟨?_, ?_, ?_⟩
  · rw [cell_of_row w B 0 _ _ _ h]; rfl
  · rw [cell_of_row w B 1 _ _ _ h]; rfl
  · rw [cell_of_row w B 2 _ _ _ h]; rfl
end Go.Proofs.Ytmpjgbckehnkjaa
