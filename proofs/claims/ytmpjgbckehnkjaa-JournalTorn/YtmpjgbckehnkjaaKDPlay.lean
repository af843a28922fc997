/-
  A slice of asks as an argument; the statements' own play.
-/
import Derived.Test.YtmpjgbckehnkjaaKDDo
import Derived.Test.YtmpjgbckehnkjaaKDLoop
namespace Go.Proofs.Ytmpjgbckehnkjaa
open Go.ChangeShapes Go.WideShapes Go.ChangeAt Go.RowKit
open Go.Proofs
open Go.Deep

/-- one ask as data. -/
structure AskE where
  kind : Int
  n : Int
  v : Value
  bs : List Int
def AskEAt (w : World) (b o : Nat) (x : AskE) : Prop :=
  w.rangeAt b o [.int .i64 x.kind, .int .i64 x.n, x.v] ∧ Sl w x.v x.bs ∧ Bs x.bs ∧ (-9223372036854775808 ≤ x.n ∧ x.n ≤ 9223372036854775807)
/-- v is a slice that reads as the asks l. -/
def AskL (w : World) (v : Value) (l : List AskE) : Prop :=
  ∃ ao c, v = .slice ao l.length c ∧ l.length ≤ 9223372036854775807 ∧ ∀ i (h : i < l.length), ∃ b off, ao = some ⟨b, off, none⟩ ∧ AskEAt w b (off + i * 3) l[i]
theorem AskEAt.kept {w w' : World} {b o : Nat} {x : AskE} (h : AskEAt w b o x) (k : Kp [] w w') : AskEAt w' b o x :=
  ⟨fun j u hu => k.cell (h.1 j u hu) (by simp), h.2.1.kept k (by simp), h.2.2⟩
theorem AskL.kept {w w' : World} {v : Value} {l : List AskE} (h : AskL w v l) (k : Kp [] w w') : AskL w' v l := by
  obtain ⟨ao, c, rfl, h1, h2⟩ := h
  refine ⟨ao, c, rfl, h1, fun i hi => ?_⟩
  obtain ⟨b, off, e, h3⟩ := h2 i hi
  exact ⟨b, off, e, h3.kept k⟩
theorem Try.cellsIntE : Try.prog.cellsOf 3 = 1 := by kernel_rfl
theorem Try.cellsSlE : Try.prog.cellsOf 22 = 1 := by kernel_rfl
section
variable {H : Type} {enc : TypeId × Value → H} {w : World}
end
end Go.Proofs.Ytmpjgbckehnkjaa
