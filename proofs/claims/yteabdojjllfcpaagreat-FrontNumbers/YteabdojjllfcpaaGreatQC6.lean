/-
  The contract of the law package's known: two sums that are written down.
-/
import Derived.Lib.SlBytesConst
import Derived.Test.YteabdojjllfcpaaGreatQC5
namespace Go.Proofs.YteabdojjllfcpaaGreat
open Go.RowKit
theorem sha_len (bs : List Int) : (sha bs).length = 32 := by
  unfold sha fin8
  rw [lay8_len, blks_len _ _ (blks_len _ _ rfl _)]
theorem lay8_bs (s : List Int) : Bs (lay8 s) := by
  intro b hb
  unfold lay8 at hb
  obtain ⟨x, _, hx⟩ := List.mem_flatMap.1 hb
  simp only [List.mem_cons, List.not_mem_nil, or_false] at hx
  rcases hx with rfl | rfl | rfl | rfl <;> omega
theorem sha_bs (bs : List Int) : Bs (sha bs) := lay8_bs _
end Go.Proofs.YteabdojjllfcpaaGreat
