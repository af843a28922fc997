/-
  The contract of the law package's known.
-/
import Derived.Test.YtdioaohejoflcaaDoorKOKeep
namespace Go.Proofs.YtdioaohejoflcaaDoor
open Go.RowKit

theorem bs109 : Bs [109] := fun b hb => by
  obtain rfl : b = 109 := by simpa using hb
  omega
theorem sl109 (w : World) : Sl (w.alloc (.cells #[.int .u8 109] 5 (1, 2))) (.slice (some ⟨w.heap.size, 0, none⟩) 1 1) [109] := Sl.block (cs := [109]) (t := 5) (fr := (1, 2)) (heap_alloc_new w _) (by simp [maxLen])

end Go.Proofs.YtdioaohejoflcaaDoor
