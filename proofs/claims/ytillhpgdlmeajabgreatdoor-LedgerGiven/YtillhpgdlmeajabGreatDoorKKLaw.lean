/-
  The laws of keys: on, lay, known.
-/
import Derived.Test.YtillhpgdlmeajabGreatDoorKKOpen
namespace Go.Proofs.YtillhpgdlmeajabGreatDoor
open Go.ChangeShapes Go.WideShapes Go.ChangeAt Go.RowKit
open Go.Proofs
open Go.Deep
set_option linter.unusedVariables false

section
variable {w0 w : World} {p q n k : Nat} {d d' : Dk}
theorem bx_grow (h : Bx w0 w p d q n k) (x : Int) (er : Bool) (he : d.grow x = (er, d')) : Calls Tryz.prog 18 #[.pointer (some ⟨p, 0, none⟩), .int .i64 x] w fun e w' => e = .returned (.bool er) ∧ Bx w0 w' p d' q n k := by
  obtain ⟨v, j, m, h1, h2, h3, h4⟩ := h
  refine (nw_grow h2.nw x er he).mono ?_
  rintro e w' ⟨rfl, N, T⟩
  exact ⟨rfl, Bx.disk ⟨j, m, h1, h2, h3, h4⟩ N T⟩
end
theorem on0 : klay 0 = [] := rfl
end Go.Proofs.YtillhpgdlmeajabGreatDoor
