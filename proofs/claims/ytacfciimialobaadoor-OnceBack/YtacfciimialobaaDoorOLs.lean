/-
  Lists of slices by their bytes, as what an operation yields.
-/
import Derived.Test.YtacfciimialobaaDoorOKnown
import Derived.Test.YtacfciimialobaaDoorHAux
import Derived.Test.YtacfciimialobaaDoorRGrowLs
namespace Go.Proofs.YtacfciimialobaaDoor
open Go.RowKit
theorem wrap_at {x y : Int} (h : x = y) (h0 : -9223372036854775808 ≤ x) (h1 : x ≤ 9223372036854775807) : IntKind.i64.wrap x = y := by
  subst h
  simp [IntKind.wrap, IntKind.signed, IntKind.bits]
  omega
/-- The value is a slice of slices that reads as these bytes. -/
def LsM (ls : List (List Int)) : Tell := fun v w => ∃ l, Lists w v l ∧ l.map (·.2) = ls
theorem stable_lsm (ls : List (List Int)) : Tell.stable (LsM ls) := fun _ _ _ k ⟨l, h, e⟩ => ⟨l, h.kept k, e⟩
theorem lists_lsm {va vb : Value} {ls : List (List Int)} {w : World} (hA : LsM ls va w) (hB : LsM ls vb w) :
    Calls Tryd.prog 14 #[va, vb] w fun e w' => e = .returned (.bool true) ∧ Kp [] w w' := by
  obtain ⟨la, h1, e1⟩ := hA
  obtain ⟨lb, h2, e2⟩ := hB
  exact lists_any va vb la lb (e1.trans e2.symm) w h1 h2
end Go.Proofs.YtacfciimialobaaDoor
