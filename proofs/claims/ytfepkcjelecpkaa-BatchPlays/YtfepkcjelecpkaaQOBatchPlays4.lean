/-
  Slices of slices of bytes: how they are read.
-/
import Derived.Test.YtfepkcjelecpkaaQC6
import Derived.Test.YtfepkcjelecpkaaQOBatchPlays2
namespace Go.Proofs.Ytfepkcjelecpkaa
open Go.RowKit
theorem lists_of_block {w : World} {g : Nat} {l : List (Value × List Int)} {t : TypeId} {fr : Nat × Nat} (hg : w.heap[g]? = some (.cells (l.map (·.1)).toArray t fr)) (hl : l.length ≤ 1000) (hS : ∀ x ∈ l, Sl w x.1 x.2 ∧ Bs x.2) : Lists w (.slice (some ⟨g, 0, none⟩) l.length l.length) l := by
  refine ⟨_, _, rfl, by omega, fun i hi => ⟨g, 0, rfl, ?_, (hS _ (List.getElem_mem hi)).1, (hS _ (List.getElem_mem hi)).2⟩⟩
  rw [cell_of_row w g (0 + i) _ t fr hg]
  simp [List.getElem?_eq_getElem hi]
end Go.Proofs.Ytfepkcjelecpkaa
