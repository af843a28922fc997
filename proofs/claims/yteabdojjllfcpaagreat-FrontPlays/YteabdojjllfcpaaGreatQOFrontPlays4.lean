/-
  Helpers of the laws: Cut, Within; how an argument that is a row of bytes is read; what the laid table gives.
-/
import Derived.Test.YteabdojjllfcpaaGreatQC13
import Derived.Test.YteabdojjllfcpaaGreatQOFrontPlays3
namespace Go.Proofs.YteabdojjllfcpaaGreat
open Go.ChangeShapes Go.WideShapes Go.ChangeAt Go.RowKit
open Go.Deep
section
variable {H : Type} {enc : TypeId × Value → H} {w : World}
theorem bytes_of_trod {v : Value} {fuel : Nat} {x : DataW H × List MemPlace} (h : DataW.trod enc Tryz.prog w 0 (fun _ => true) true fuel 28 [v] = some x) : ∃ bs, Sl w v bs ∧ Bs bs := by
  rcases open_ints Tryz.underlying28 Tryz.underlying5 (by kernel_rfl) h with ⟨hcs, _⟩ | ⟨a, len, cap, zs, hcs, _, hl, hm, hz, _, hcell, hwz⟩
  · simp only [List.cons.injEq, and_true] at hcs
    subst hcs
    exact ⟨[], Sl.nil w, fun b hb => by cases hb⟩
  · simp only [List.cons.injEq, and_true] at hcs
    subst hcs
    simp only [if_true] at hz
    have hlen : (zs.take len).length = len := by simp; omega
    refine ⟨zs.take len, ⟨some a, cap, by rw [hlen], by omega, hm, (fun h => by cases h), fun a' ha j u hu => ?_⟩, fun b hb => bounds_u8 (hwz b (List.mem_of_mem_take hb))⟩
    cases ha
    have hj : j < (zs.take len).length := by have := (List.getElem?_eq_some_iff.1 hu).1; simpa using this
    rw [hcell j (by simp at hj; omega)]
    rw [List.getElem?_map, List.getElem?_take] at hu
    split at hu
    · rw [← hu]
      have : j < zs.length := by omega
      simp [List.getD, List.getElem?_eq_getElem this]
    · cases hu
end
theorem laidOut : laidOutB Tryz.prog = true := by kernel_rfl
end Go.Proofs.YteabdojjllfcpaaGreat
