/-
  The contracts of the reference reader over this seat's program: Raw, Number, Bytes, End, Left, by the same plain function of what is left as the program's own reader.
-/
import Derived.Test.YtillhpgdlmeajabGreatDoorKSWire
import Derived.Test.YtillhpgdlmeajabGreatDoorKHSums
import Derived.Deep.QuietTactic
import Derived.BigQuiet
namespace Go.Proofs.YtillhpgdlmeajabGreatDoor
open Go.RowKit

/-- what is left of it. -/
def rest (i : Nat) (bad : Bool) (B : List Int) : List Int := if bad then [] else B.drop i

theorem cell_of_three {w : World} {b : Nat} {v u x : Value} {t : TypeId} (h : w.heap[b]? = some (.cells #[v, u, x] t (0, 0))) : w.cell? ⟨b, 0, none⟩ = some v ∧ w.cell? ⟨b, 1, none⟩ = some u ∧ w.cell? ⟨b, 2, none⟩ = some x :=
  ⟨by rw [cell_of_row w b 0 _ t _ h]; rfl, by rw [cell_of_row w b 1 _ t _ h]; rfl, by rw [cell_of_row w b 2 _ t _ h]; rfl⟩
theorem three_setCell1 {w : World} {b : Nat} {v u x y : Value} {t : TypeId} (h : w.heap[b]? = some (.cells #[v, u, x] t (0, 0))) : (w.setCell ⟨b, 1, none⟩ y).heap[b]? = some (.cells #[v, y, x] t (0, 0)) := by
  have hlt := lt_of_block h
  have h' : w.heap[b] = .cells #[v, u, x] t (0, 0) := by simpa [Array.getElem?_eq_getElem hlt] using h
  show (w.heap.modify b _)[b]? = _
  rw [Array.getElem?_eq_getElem (by simpa using hlt), Array.getElem_modify_self, h']
  rfl
theorem three_setCell2 {w : World} {b : Nat} {v u x y : Value} {t : TypeId} (h : w.heap[b]? = some (.cells #[v, u, x] t (0, 0))) : (w.setCell ⟨b, 2, none⟩ y).heap[b]? = some (.cells #[v, u, y] t (0, 0)) := by
  have hlt := lt_of_block h
  have h' : w.heap[b] = .cells #[v, u, x] t (0, 0) := by simpa [Array.getElem?_eq_getElem hlt] using h
  show (w.heap.modify b _)[b]? = _
  rw [Array.getElem?_eq_getElem (by simpa using hlt), Array.getElem_modify_self, h']
  rfl
theorem rest_tk (i : Nat) (B : List Int) (n : Nat) (h : i + n ≤ B.length) : tk false (B.drop i) n = ((B.drop i).take n, false, B.drop (i + n)) := by
  rw [tk_ok false _ n (by rw [List.length_drop]; omega), List.drop_drop]

theorem rest_bs {i : Nat} {bad : Bool} {B : List Int} (h : Bs B) : Bs (rest i bad B) := by
  unfold rest; split
  · intro b hb; cases hb
  · exact h.drop _

end Go.Proofs.YtillhpgdlmeajabGreatDoor
