/-
  The contract of the law package's Lists; lists of slices by their bytes, as what an operation yields.
-/
import Derived.Test.YtjmabnchaglpdaaKOSmalls
import Derived.Test.YtjmabnchaglpdaaKHSmalls
import Derived.Test.YtjmabnchaglpdaaKHRefs
namespace Go.Proofs.Ytjmabnchaglpdaa
open Go.RowKit
open Go.Deep

theorem wrap_at {x y : Int} (h : x = y) (h0 : -9223372036854775808 ≤ x) (h1 : x ≤ 9223372036854775807) : IntKind.i64.wrap x = y := by
  subst h
  simp [IntKind.wrap, IntKind.signed, IntKind.bits]
  omega
/-- The value is a slice of slices that reads as these bytes. -/
def LsM (ls : List (List Int)) : Tell := fun v w => ∃ l, Lists w v l ∧ l.map (·.2) = ls
theorem stable_lsm (ls : List (List Int)) : Tell.stable (LsM ls) := fun _ _ _ k ⟨l, h, e⟩ => ⟨l, h.kept k, e⟩
theorem grown_build1 {o : Oper} {a : Act} {w : World} (x : Operand) (ho : o.op = .buildSlice 34 1 #[(0, x)]) (bs : List Int) (h : Sl w (a.eval x) bs) (hB : Bs bs) : grown Try.prog w (LsM [bs]) ((execOp a.eval o).run Try.prog w) := by
  have h2 := lists1 h hB
  obtain ⟨ao, c, e, _⟩ := h
  refine grown_run (v := .slice (some ⟨w.heap.size, 0, none⟩) 1 1) (w' := w.alloc (.cells #[a.eval x] 24)) ?_ ((Kp.refl _ _).alloc _) ⟨_, h2, rfl⟩
  obtain ⟨ρ, hρ, hc, hf, hg⟩ := eval_is a
  rw [hρ] at e ⊢
  unfold execOp
  simp only [ho]
  simp [go_sem, e]
end Go.Proofs.Ytjmabnchaglpdaa

/-
  The contracts of the law package's helpers Seed and Lists, and of known.
-/
namespace Go.Proofs.Ytjmabnchaglpdaa
open Go.RowKit
open Go.Deep

end Go.Proofs.Ytjmabnchaglpdaa

/-
  The contract of the law package's known.
-/
namespace Go.Proofs.Ytjmabnchaglpdaa
open Go.RowKit

theorem bs109 : Bs [109] := fun b hb => by
  obtain rfl : b = 109 := by simpa using hb
  omega
theorem sl109 (w : World) : Sl (w.alloc (.cells #[.int .u8 109] 5 (1, 2))) (.slice (some ⟨w.heap.size, 0, none⟩) 1 1) [109] := Sl.block (cs := [109]) (t := 5) (fr := (1, 2)) (heap_alloc_new w _) (by simp [maxLen])

end Go.Proofs.Ytjmabnchaglpdaa

/-
  Lists of slices by their bytes, beside chapter 4's runs.
-/
