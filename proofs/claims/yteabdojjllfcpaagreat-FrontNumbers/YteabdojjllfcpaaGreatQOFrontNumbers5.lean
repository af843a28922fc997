/-
  Package batch's queue in memory; the contracts of New, Len, Put.
-/
import Derived.Test.YteabdojjllfcpaaGreatQC17
import Derived.Test.YteabdojjllfcpaaGreatQOFrontNumbers1
import Derived.Test.YteabdojjllfcpaaGreatQOFrontNumbers3
namespace Go.Proofs.YteabdojjllfcpaaGreat
open Go.RowKit
open Go.Proofs
set_option linter.unusedVariables false
section
variable {T : TypeId} {w w' : World} {p : Nat} {a b c d : Value}
end
section
variable {w w' w1 : World} {base p : Nat} {v v' : Value} {q q' : Qd}
end
section
variable {w : World} {base : Nat} {v vx : Value} {l l' : List It}
end
theorem bnew_no (r s t : Int) (w : World) (hn : r < 1 ∨ 16 < r ∨ s < 1 ∨ 8 < s ∨ t < 0 ∨ 1000 < t) :
    Calls Tryz.prog 38 #[.int .i64 r, .int .i64 s, .int .i64 t] w fun e w' => e = .returned (.tuple #[.pointer none, .int .i64 1]) ∧ w' = w := by
  by_cases h1 : r < 1
  · go_enter Tryz.func38, Tryz.ntmps38
    go_wp2_with fail
    go_ret2
    exact ⟨rfl, rfl⟩
  by_cases h2 : r > 16
  · go_enter Tryz.func38, Tryz.ntmps38
    go_wp2_with fail
    go_ret2
    exact ⟨rfl, rfl⟩
  by_cases h3 : s < 1
  · go_enter Tryz.func38, Tryz.ntmps38
    go_wp2_with fail
    go_ret2
    exact ⟨rfl, rfl⟩
  by_cases h4 : s > 8
  · go_enter Tryz.func38, Tryz.ntmps38
    go_wp2_with fail
    go_ret2
    exact ⟨rfl, rfl⟩
  by_cases h5 : t < 0
  · go_enter Tryz.func38, Tryz.ntmps38
    go_wp2_with fail
    go_ret2
    exact ⟨rfl, rfl⟩
  have h6 : t > 1000 := by omega
  go_enter Tryz.func38, Tryz.ntmps38
  go_wp2_with fail
  go_ret2
  exact ⟨rfl, rfl⟩
end Go.Proofs.YteabdojjllfcpaaGreat
