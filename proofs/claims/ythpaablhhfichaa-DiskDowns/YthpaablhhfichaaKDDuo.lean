/-
  The program's disk and the reference's, side by side.
-/
import Derived.Test.YthpaablhhfichaaKDRef
import Derived.Test.YthpaablhhfichaaKDLaw
namespace Go.Proofs.Ythpaablhhfichaa
open Go.RowKit
open Go.Proofs

namespace Dk
/-- as the program keeps it: what is armed is never below 0. -/
def nrm (d : Dk) : Dk := { d with arm := max d.arm 0 }
theorem nrm_fit {d : Dk} (h : d.Fit) : d.nrm.Fit :=
  ⟨⟨h.ok.syn, h.ok.fits, h.ok.lim⟩, by show _ ≤ max d.arm 0; omega, by have := h.hi; show max d.arm 0 ≤ _; omega, fun e => by have := h.dn e; show max d.arm 0 = 0; omega, h.bytes⟩
theorem nrm_arm (d : Dk) : 0 ≤ d.nrm.arm := by show 0 ≤ max d.arm 0; omega
theorem nrm_cal (d : Dk) : d.nrm.cal = (d.cal.1, d.cal.2.1, d.cal.2.2.nrm) := by
  unfold cal
  show (if d.down = true then _ else if 0 < max d.arm 0 then _ else _) = _
  by_cases hd : d.down = true
  · rw [if_pos hd, if_pos hd]
  · rw [if_neg hd, if_neg hd]
    by_cases ha : 0 < d.arm
    · rw [if_pos (by omega), if_pos ha]
      show (if max d.arm 0 = 1 then _ else _) = _
      by_cases h1 : d.arm = 1
      · rw [if_pos (by omega), if_pos h1]; rfl
      · rw [if_neg (by omega), if_neg h1]
        have e1 : (nrm { d with arm := d.arm - 1 }).arm = d.nrm.arm - 1 := by show max (d.arm - 1) 0 = max d.arm 0 - 1; omega
        show _ = (true, false, nrm { d with arm := d.arm - 1 })
        have e2 : nrm { d with arm := d.arm - 1 } = { d.nrm with arm := d.nrm.arm - 1 } := by rw [← e1]; rfl
        rw [e2]
    · rw [if_neg (by omega), if_neg ha]
theorem nrm_app (d : Dk) (b : List Int) : d.nrm.app b = ((d.app b).1, (d.app b).2.nrm) := by
  unfold app
  rw [nrm_cal]
  show (if ((!d.cal.1 && !d.cal.2.1) || decide (d.lim < ((d.bs.length + b.length : Nat) : Int))) = true then _ else _) = _
  split <;> rfl
theorem nrm_sync (d : Dk) : d.nrm.sync = (d.sync.1, d.sync.2.nrm) := by
  unfold sync
  rw [nrm_cal]
  show (if d.cal.1 = true then _ else _) = _
  split <;> rfl
theorem nrm_cut (d : Dk) (n : Int) : d.nrm.cut n = ((d.cut n).1, (d.cut n).2.nrm) := by
  unfold cut
  rw [nrm_cal]
  show (if d.down = true then _ else if n < 0 ∨ (d.bs.length : Int) < n then _ else if d.cal.1 = true then _ else _) = _
  split
  · rfl
  · split
    · rfl
    · split <;> rfl
theorem nrm_armed (d : Dk) (n : Int) : d.nrm.armed (max n 0) = (d.armed n).nrm := by
  unfold armed
  show (if d.down = true then _ else _) = _
  split <;> rfl
theorem nrm_crash (d : Dk) (n : Int) : d.nrm.crash n = (d.crash n).nrm := rfl
theorem nrm_grow (d : Dk) (n : Int) : d.nrm.grow n = ((d.grow n).1, (d.grow n).2.nrm) := by
  unfold grow
  show (if (d.bs.length : Int) ≤ n ∧ n ≤ 1048576 then _ else _) = _
  split <;> rfl
end Dk
structure Du (w0 w : World) (p : Nat) (v : Value) (d : Dk) (q : Nat) (u : Value) (e : Dk) : Prop where
  nw : Nw w0 w p v d
  rf : DskR w w0.heap.size q u e
  rn : w0.heap.size ≤ q
  dj : ∀ i ∈ dfp p v, i ∉ dfp q u
section
variable {w0 w w' : World} {p q : Nat} {v v' u u' : Value} {d d' e e' : Dk}
theorem Du.prog (h : Du w0 w p v d q u e) (n : Nw w0 w' p v' d') (t : DSt p w v w' v') : Du w0 w' p v' d' q u e := by
  refine ⟨n, h.rf.kept t.1 (fun i hi hm => h.dj i hm hi), h.rn, fun i hi hm => ?_⟩
  rcases mem_dfp.1 hi with rfl | hi
  · exact h.dj i (mem_dfp.2 (.inl rfl)) hm
  · rcases t.2 i hi with h1 | h1
    · exact h.dj i (mem_dfp.2 (.inr h1)) hm
    · have := h.rf.lt i hm; omega
theorem Du.refs (h : Du w0 w p v d q u e) : ∀ i ∈ dfp q u, w0.heap.size ≤ i := fun i hi => by
  rcases h.rf.own i hi with rfl | h1
  · exact h.rn
  · exact h1
theorem Du.ref (h : Du w0 w p v d q u e) (r : DskR w' w0.heap.size q u' e') (t : DSt q w u w' u') : Du w0 w' p v d q u' e' := by
  refine ⟨⟨h.nw.dk.kept t.1 h.dj, h.nw.new, h.nw.kp.then t.1 (fun i hi => .inr (h.refs i hi)), h.nw.arm⟩, r, h.rn, fun i hi hm => ?_⟩
  rcases mem_dfp.1 hm with rfl | hm
  · exact h.dj i hi (mem_dfp.2 (.inl rfl))
  · rcases t.2 i hm with h1 | h1
    · exact h.dj i hi (mem_dfp.2 (.inr h1))
    · have := h.nw.dk.lt i hi; omega
theorem Du.on (h : Du w0 w p v d q u e) (k : Kp [] w w') : Du w0 w' p v d q u e := ⟨h.nw.on k, h.rf.keptN k, h.rn, h.dj⟩
theorem Du.lt (h : Du w0 w p v d q u e) {B : Nat} (hB : w.heap.size ≤ B) : B ∉ dfp p v ∧ B ∉ dfp q u := ⟨fun hm => by have := h.nw.dk.lt B hm; omega, fun hm => by have := h.rf.lt B hm; omega⟩
end
/-- three cells at B. -/
theorem box_cells {w : World} {B : Nat} {x y z : Value} {t : TypeId} {fr : Nat × Nat} (h : w.heap[B]? = some (.cells #[x, y, z] t fr)) : w.cell? ⟨B, 0, none⟩ = some x ∧ w.cell? ⟨B, 1, none⟩ = some y ∧ w.cell? ⟨B, 2, none⟩ = some z := by
  refine ⟨?_, ?_, ?_⟩
  · rw [cell_of_row w B 0 _ _ _ h]; rfl
  · rw [cell_of_row w B 1 _ _ _ h]; rfl
  · rw [cell_of_row w B 2 _ _ _ h]; rfl
end Go.Proofs.Ythpaablhhfichaa
