/-
  A checkpoint that is handed in, whatever it is.
-/
import Derived.Test.YtbkipibmaghejaaGreatDoorKXSig
import Derived.Test.YtbkipibmaghejaaGreatDoorKHSmalls
import Derived.Lib.SmallJoins
namespace Go.Proofs.YtbkipibmaghejaaGreatDoor
open Go.ChangeShapes Go.WideShapes Go.ChangeAt Go.RowKit
open Go.Deep
section
variable {H : Type} {enc : TypeId × Value → H} {w : World}
set_option maxRecDepth 100000 in
theorem chk_open {base : Nat} {v : Value} {d : DataW H} {p : List MemPlace} (hv : Value.okWide Tryz.prog w .any base 25 v) (h : DataW.Trod enc Tryz.prog w 0 (fun _ => true) true 25 v d p) : ∃ n r, CkV w v n r ∧ -9223372036854775808 ≤ n ∧ n ≤ 9223372036854775807 := by
  obtain ⟨va, vb, y0, y1, n, rfl, _, _, t0, t1⟩ := Go.Joins.open_agg2 Tryz.underlying25 (by kernel_rfl) (by kernel_rfl) hv h
  obtain ⟨x, e0, _, wx⟩ := DataW.trod_int Tryz.underlying3 t0
  obtain ⟨r, sr, br⟩ := bytes_of_trod t1
  simp only [List.cons.injEq, and_true] at e0
  subst e0
  obtain ⟨ar, cr, er, rr⟩ := sr
  subst er
  have hx := bounds_i64 wx
  exact ⟨x, r, ⟨ar, _, cr, rfl, ⟨ar, cr, rfl, rr⟩, br⟩, hx.1, hx.2⟩
end
end Go.Proofs.YtbkipibmaghejaaGreatDoor
