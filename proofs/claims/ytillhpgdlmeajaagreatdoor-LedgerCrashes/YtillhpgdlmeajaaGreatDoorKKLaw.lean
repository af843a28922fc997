/-
  The laws of keys: on, lay, known.
-/
import Derived.Test.YtillhpgdlmeajaaGreatDoorKKOpen
namespace Go.Proofs.YtillhpgdlmeajaaGreatDoor
open Go.ChangeShapes Go.WideShapes Go.ChangeAt Go.RowKit
open Go.Proofs
open Go.Deep
set_option linter.unusedVariables false

section
variable {w0 w : World} {p q n k : Nat} {d d' : Dk}
theorem bx_arm (h : Bx w0 w p d q n k) (x : Int) (hx : x ≤ 9223372036854775807) (he : d.armed (max x 0) = d') : Calls Tryz.prog 31 #[.pointer (some ⟨p, 0, none⟩), .int .i64 x] w fun e w' => e = .returned (.tuple #[]) ∧ Bx w0 w' p d' q n k := by
  obtain ⟨v, j, m, h1, h2, h3, h4⟩ := h
  refine (nw_arm h2.nw x hx he).mono ?_
  rintro e w' ⟨rfl, N, T⟩
  exact ⟨rfl, Bx.disk ⟨j, m, h1, h2, h3, h4⟩ N T⟩
theorem nx_crash (h : Nx w0 w p d) (x : Int) (he : d.crash x = d') : Calls Tryz.prog 34 #[.pointer (some ⟨p, 0, none⟩), .int .i64 x] w fun e w' => e = .returned (.tuple #[]) ∧ Nx w0 w' p d' := by
  obtain ⟨v, h⟩ := h
  refine (nw_crash h x he).mono ?_
  rintro e w' ⟨rfl, v', N, T⟩
  exact ⟨rfl, v', N⟩
end
theorem on0 : klay 0 = [] := rfl
end Go.Proofs.YtillhpgdlmeajaaGreatDoor
