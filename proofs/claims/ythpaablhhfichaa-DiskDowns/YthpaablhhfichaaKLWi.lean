/-
  Within as a plain function.
-/
import Derived.Test.YthpaablhhfichaaKHBases
namespace Go.Proofs.Ythpaablhhfichaa
open Go.RowKit
open Go.Proofs

/-- what Within tells. -/
def wiP (n lo hi : Int) : Int := if lo ≤ n ∧ n ≤ hi then n else if n.tmod (hi - lo + 1) < 0 then lo + (n.tmod (hi - lo + 1) + hi - lo + 1) else lo + n.tmod (hi - lo + 1)
theorem tmod_bnd (n c : Int) (hc : 0 < c) : -c < n.tmod c ∧ n.tmod c < c := by
  have h1 := Int.emod_nonneg n (by omega : c ≠ 0)
  have h2 := Int.emod_lt_of_pos n hc
  constructor
  · have := Int.lt_tmod_of_pos n hc; omega
  · exact Int.tmod_lt_of_pos n hc
theorem wiP_ge (n lo hi : Int) (h : lo ≤ hi) : lo ≤ wiP n lo hi ∧ wiP n lo hi ≤ hi := by
  have := tmod_bnd n (hi - lo + 1) (by omega)
  unfold wiP
  split
  · assumption
  · split <;> omega
set_option maxHeartbeats 1000000 in
theorem within_wi (n lo hi : Int) (w : World) (h1 : -1000 ≤ lo) (h2 : lo ≤ hi) (h3 : hi ≤ 1073741824) : Calls Try.prog 12 #[.int .i64 n, .int .i64 lo, .int .i64 hi] w fun e w' => e = .returned (.int .i64 (wiP n lo hi)) ∧ w' = w := by
  have hb := tmod_bnd n (hi - lo + 1) (by omega)
  have hc : hi - lo + 1 ≠ 0 := by omega
  have hwi : wiP n lo hi = if lo ≤ n ∧ n ≤ hi then n else if n.tmod (hi - lo + 1) < 0 then lo + (n.tmod (hi - lo + 1) + hi - lo + 1) else lo + n.tmod (hi - lo + 1) := rfl
  have W := hide hwi
  clear hwi
  go_enter Try.func12, Try.ntmps12
  go_wp2
  all_goals
    go_ret
    refine ⟨congrArg Ending.returned (congrArg (Value.int IntKind.i64) ?_), rfl⟩
    rw [unhide W]
    split <;> first | rfl | omega | (split <;> omega)
end Go.Proofs.Ythpaablhhfichaa
