/-
  Chapter 12 as plain functions: a disk of one file, what each call answers and what it leaves.
-/
import Derived.Test.YtfepkcjelecpkaaQC2
namespace Go.Proofs.Ytfepkcjelecpkaa
namespace Dk
/-- One call of Append, Sync, Cut: may it be done, is it the one at which power goes, and the disk behind it. -/
def cal (d : Dk) : Bool × Bool × Dk :=
  if d.down then (false, false, d)
  else if 0 < d.arm then (if d.arm = 1 then (false, true, { d with arm := 0, down := true }) else (true, false, { d with arm := d.arm - 1 }))
  else (true, false, d)
def app (d : Dk) (b : List Int) : Bool × Dk :=
  if (!d.cal.1 && !d.cal.2.1) || decide (d.lim < ((d.bs.length + b.length : Nat) : Int)) then (false, d.cal.2.2)
  else (d.cal.1, { d.cal.2.2 with bs := d.bs ++ b })
def sync (d : Dk) : Bool × Dk :=
  if d.cal.1 then (true, { d.cal.2.2 with syn := d.bs.length }) else (false, d.cal.2.2)
end Dk
end Go.Proofs.Ytfepkcjelecpkaa

/-
  Arrays of words: as values, in memory; how a walk makes, reads and writes them whole.
-/
namespace Go.Proofs.Ytfepkcjelecpkaa
open Go.RowKit
theorem Ar.set {w : World} {b : Nat} {t : TypeId} {s : List Int} (h : Ar w b t s) (i : Nat) (x : Int) : Ar (w.setCell ⟨b, i, none⟩ (.int .u32 x)) b t (s.set i x) := by
  have := heap_setCell_same w b i _ t (.int .u32 x) h
  unfold Ar
  rw [this]
  simp [List.map_set]
section
variable {ops : Array Oper} {rest : List Oper} {o : Oper} {a : Act} {w : World} {Q : Exit → Act → World → Prop}
end
end Go.Proofs.Ytfepkcjelecpkaa
