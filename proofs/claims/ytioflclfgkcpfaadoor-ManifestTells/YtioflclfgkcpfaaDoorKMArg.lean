/-
  A manifest that is handed in, whatever it is.
-/
import Derived.Test.YtioflclfgkcpfaaDoorKLMan
import Derived.Test.YtioflclfgkcpfaaDoorKHAux
namespace Go.Proofs.YtioflclfgkcpfaaDoor
open Go.ChangeShapes Go.WideShapes Go.ChangeAt Go.RowKit
open Go.Deep
section
variable {H : Type} {enc : TypeId × Value → H} {w : World}
set_option maxRecDepth 100000 in
theorem man_open {base : Nat} {v : Value} {d : DataW H} {p : List MemPlace} (hv : Value.okWide Tryd.prog w .any base 25 v) (h : DataW.Trod enc Tryd.prog w 0 (fun _ => true) true 25 v d p) : ∃ m, MV w v m ∧ m.s.size ≤ 9223372036854775807 := by
  obtain ⟨va, vb, vc, vd, y0, y1, y2, y3, n, rfl, _, _, t0, t1, t2, t3⟩ := Go.Joins.open_agg4 Tryd.underlying25 (by kernel_rfl) (by kernel_rfl) hv h
  obtain ⟨S, e0, _, zs⟩ := DataW.trod_string Tryd.underlying9 t0
  obtain ⟨x, e1, _, wx⟩ := DataW.trod_int Tryd.underlying22 t1
  obtain ⟨f, sf, bf⟩ := bytes_of_trod t2
  obtain ⟨n, sn, bn⟩ := bytes_of_trod t3
  simp only [List.cons.injEq, and_true] at e0 e1
  subst e0
  subst e1
  obtain ⟨af, cf, ef, rf⟩ := sf
  obtain ⟨an, cn, en, rn⟩ := sn
  subst ef
  subst en
  have hx := bounds_u32 wx
  exact ⟨⟨S, x, f, n⟩, ⟨af, _, cf, an, _, cn, rfl, ⟨af, cf, rfl, rf⟩, ⟨an, cn, rfl, rn⟩, ⟨hx.1, hx.2, bf, bn⟩⟩, by have := zs; unfold maxLen at this; simpa using this⟩
end
end Go.Proofs.YtioflclfgkcpfaaDoor
