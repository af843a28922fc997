/-
  The contract of the law package's known: two sums that are written down.
-/
import Derived.Lib.SlBytesConst
import Derived.Test.YtillhpgdlmeajaaGreatDoorQC5
namespace Go.Proofs.YtillhpgdlmeajaaGreatDoor
open Go.RowKit
theorem sha_len (bs : List Int) : (sha bs).length = 32 := by
  unfold sha fin8
  rw [lay8_len, blks_len _ _ (blks_len _ _ rfl _)]
theorem lay8_bs (s : List Int) : Bs (lay8 s) := by
  intro b hb
  unfold lay8 at hb
  obtain ⟨x, _, hx⟩ := List.mem_flatMap.1 hb
  simp only [List.mem_cons, List.not_mem_nil, or_false] at hx
  rcases hx with rfl | rfl | rfl | rfl <;> omega
theorem sha_bs (bs : List Int) : Bs (sha bs) := lay8_bs _
theorem sum_at (vb : Value) (bs r : List Int) (hr : r = sha bs) (w : World) (hS : Sl w vb bs) (hB : Bs bs) (hl : bs.length ≤ 1000000000000) (hG : Gl w) :
    Calls Tryz.prog 107 #[vb] w fun e w' => ∃ ao m c, e = .returned (.slice ao m c) ∧ Row w' w.heap.size (.slice ao m c) r ∧ Kp [] w w' := by
  subst hr
  exact sum_any vb bs w hS hB hl hG
end Go.Proofs.YtillhpgdlmeajaaGreatDoor
