/-
  Chapter 12 as plain functions: a disk of one file, what each call answers and what it leaves.
-/
import Derived.Test.YteabdojjllfcpaaGreatQC2
namespace Go.Proofs.YteabdojjllfcpaaGreat
namespace Dk
def grow (d : Dk) (n : Int) : Bool × Dk := if (d.bs.length : Int) ≤ n ∧ n ≤ 1048576 then (true, { d with lim := n }) else (false, d)
theorem app_full {d : Dk} (h : d.down = false) (ha : d.arm ≤ 0) (b : List Int) (hf : d.lim < ((d.bs.length + b.length : Nat) : Int)) : d.app b = (false, d) := by
  unfold app
  rw [cal_plain h ha, if_pos (by simp; omega)]
theorem grow_ok {d : Dk} (h : d.Ok) (n : Int) : (d.grow n).2.Ok := by
  unfold grow
  split
  · rename_i hn
    exact ⟨h.syn, hn.1, hn.2⟩
  · exact h
end Dk
end Go.Proofs.YteabdojjllfcpaaGreat
