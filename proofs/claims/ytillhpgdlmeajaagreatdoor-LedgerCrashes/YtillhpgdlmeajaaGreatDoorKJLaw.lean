/-
  The law's helpers: on, opens, known.
-/
import Derived.Test.YtillhpgdlmeajaaGreatDoorKJPut
import Derived.Test.YtillhpgdlmeajaaGreatDoorKJRef
import Derived.Test.YtillhpgdlmeajaaGreatDoorKRGrowC
namespace Go.Proofs.YtillhpgdlmeajaaGreatDoor
open Go.ChangeShapes Go.WideShapes Go.ChangeAt Go.RowKit
open Go.Proofs
open Go.Deep
set_option linter.unusedVariables false

/-- Open, by the bytes. -/
theorem open_at {w0 w : World} {p : Nat} {v : Value} {d : Dk} (h : Nw w0 w p v d) (hd : d.down = false) (ha : d.arm ≤ 0) (b : List Int) (hb : d.bs = b) :
    Calls Tryz.prog 42 #[.pointer (some ⟨p, 0, none⟩)] w fun e w' =>
      ((opnP b).2.2 = true ∧ ∃ j v' ao m c l, e = .returned (.tuple #[.pointer (some ⟨j, 0, none⟩), .slice ao m c, .int .i64 0]) ∧ Jn w0 w' p v' d.opn j (opnP b).1.length ∧ w.heap.size ≤ j ∧ DSt p w v w' v' ∧ Pj w' w.heap.size (.slice ao m c) l p j v' ∧ l.map (·.2) = (opnP b).1 ∧ m = (opnP b).1.length) ∨
      ((opnP b).2.2 = false ∧ e = .returned (.tuple #[.pointer none, .slice none 0 0, .int .i64 14]) ∧ Nw w0 w' p v d ∧ Kp [] w w') := by
  subst hb
  exact open_any h hd ha
/-- a disk with these bytes, synced. -/
def dkOn (b : List Int) : Dk := ⟨b, b.length, 1048576, 0, false⟩
theorem open_ok {w0 w : World} {p : Nat} {v : Value} {d d' : Dk} (h : Nw w0 w p v d) (hd : d.down = false) (ha : d.arm ≤ 0) {b : List Int} (hb : d.bs = b) {rs : List (List Int)} {at_ : Nat} (ho : opnP b = (rs, at_, true)) (hd' : d.opn = d') :
    Calls Tryz.prog 42 #[.pointer (some ⟨p, 0, none⟩)] w fun e w' =>
      ∃ j v' ao c l, e = .returned (.tuple #[.pointer (some ⟨j, 0, none⟩), .slice ao rs.length c, .int .i64 0]) ∧ Jn w0 w' p v' d' j rs.length ∧ w.heap.size ≤ j ∧ DSt p w v w' v' ∧ Pj w' w.heap.size (.slice ao rs.length c) l p j v' ∧ l.map (·.2) = rs := by
  refine (open_at h hd ha b hb).mono ?_
  rw [ho, hd']
  rintro e w' (⟨-, j, v', ao, m, c, l, rfl, h1, h2, h3, h4, h5, rfl⟩ | ⟨hf, -⟩)
  · exact ⟨j, v', ao, c, l, rfl, h1, h2, h3, h4, h5⟩
  · cases hf
/-- on the empty disk. -/
theorem opn0 : (dkOn []).opn = dkOn [] := rfl
end Go.Proofs.YtillhpgdlmeajaaGreatDoor
