/-
  Slices of slices as what an operation yields.
-/
import Derived.Test.YtioflclfgkcpfaaDoorKRGrows
import Derived.Test.YtioflclfgkcpfaaDoorKLs
namespace Go.Proofs.YtioflclfgkcpfaaDoor
open Go.RowKit
/-- The value is a slice of slices that reads as these. -/
def LsT (l : List (Value × List Int)) : Tell := fun v w => Lists w v l
theorem stable_ls (l : List (Value × List Int)) : Tell.stable (LsT l) := fun _ _ _ k h => h.kept k
end Go.Proofs.YtioflclfgkcpfaaDoor
