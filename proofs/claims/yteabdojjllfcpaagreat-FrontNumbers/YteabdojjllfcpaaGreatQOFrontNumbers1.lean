/-
  Single operations of a region that only makes memory.
-/
import Derived.Test.YteabdojjllfcpaaGreatQC2
namespace Go.Proofs.YteabdojjllfcpaaGreat
open Go.RowKit
section
variable {P : Program} {ops : Array Oper} {o : Oper} {a : Act} {w : World} {R : Tell}
theorem grown_conv (x : Operand) (src dst e : TypeId) (bs : List Int) (ho : o.op = .convert src dst x) (hS : Sl w (a.eval x) bs) (hs : P.underlying src = some (.slice e)) (he : P.underlying e = some (.int .u8)) (hd : P.underlying dst = some .string) (hR : R (.string (strOfNums bs)) w) : grown P w R ((execOp a.eval o).run P w) := by
  refine grown_run ?_ (Kp.refl _ _) hR
  unfold execOp
  simp only [ho, Sem.run_bind, hS.conv src dst e hs he hd, Result.andThen_ok, Sem.run_pure]
end
end Go.Proofs.YteabdojjllfcpaaGreat

/-
  Chapter 13 as plain functions: how records lie, and what is read of any bytes.
-/
namespace Go.Proofs.YteabdojjllfcpaaGreat
theorem layP_len (l : List (List Int)) (m : Nat) (h : ∀ r ∈ l, r.length ≤ m) : (layP l).length ≤ l.length * (8 + m) := by
  induction l with
  | nil => simp [layP]
  | cons r l ih =>
    have h1 := ih (fun x hx => h x (by simp [hx]))
    have h2 := h r (by simp)
    rw [layP_cons, List.length_append, recP_len, List.length_cons, Nat.add_mul]
    omega
end Go.Proofs.YteabdojjllfcpaaGreat

/-
  Chapter 12 as plain functions: a disk of one file, what each call answers and what it leaves.
-/
namespace Go.Proofs.YteabdojjllfcpaaGreat
namespace Dk
def crash (d : Dk) (keep : Int) : Dk := { d with bs := d.bs.take (d.left keep), syn := min (d.left keep) d.bs.length, arm := 0, down := false }
def grow (d : Dk) (n : Int) : Bool × Dk := if (d.bs.length : Int) ≤ n ∧ n ≤ 1048576 then (true, { d with lim := n }) else (false, d)
theorem left_le {d : Dk} (h : d.Ok) (keep : Int) : d.left keep ≤ d.bs.length := by
  have := h.syn
  unfold left
  omega
theorem crash_ok {d : Dk} (h : d.Ok) (keep : Int) : (d.crash keep).Ok := by
  have h2 := h.fits
  unfold crash
  refine ⟨?_, ?_, h.lim⟩
  · simp only [List.length_take]; omega
  · simp only [List.length_take]; omega
theorem grow_ok {d : Dk} (h : d.Ok) (n : Int) : (d.grow n).2.Ok := by
  unfold grow
  split
  · rename_i hn
    exact ⟨h.syn, hn.1, hn.2⟩
  · exact h
end Dk
end Go.Proofs.YteabdojjllfcpaaGreat
