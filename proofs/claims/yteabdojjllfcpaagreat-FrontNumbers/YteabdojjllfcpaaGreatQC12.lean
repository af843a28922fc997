/-
  append of bytes onto a slice that has no room: it only makes memory.
-/
import Derived.Deep.Upon
import Derived.Test.YteabdojjllfcpaaGreatQC9
namespace Go.Proofs.YteabdojjllfcpaaGreat
open Go.RowKit
/-- The value is a slice that reads as these bytes, and has no room behind them. -/
def Full (bs : List Int) : Tell := fun v w => (∃ a, v = .slice (some a) bs.length bs.length) ∧ Sl w v bs
theorem stable_full (bs : List Int) : Tell.stable (Full bs) := fun _ _ _ k h => ⟨h.1, h.2.kept k (by simp)⟩
end Go.Proofs.YteabdojjllfcpaaGreat
