/-
  A string turned into bytes: it makes memory, and reads as the string's bytes.
-/
import Derived.Test.YtacfciimialobaaDoorOLs
import Derived.Lib.ConvBytes
namespace Go.Proofs.YtacfciimialobaaDoor
open Go.RowKit

def nums (S : ByteArray) : List Int := S.data.toList.map fun b => (b.toNat : Int)
theorem nums_len (S : ByteArray) : (nums S).length = S.size := by simp [nums]
theorem nums_bs (S : ByteArray) : Bs (nums S) := by
  intro b hb
  obtain ⟨x, _, rfl⟩ := List.mem_map.1 hb
  have := x.toNat_lt
  omega
theorem conv_of_string (S : ByteArray) (w : World) (hS : S.size ≤ 1000) : ∃ c w', (convert 9 22 (.string S)).run Tryd.prog w = .ok (.slice (some ⟨w.heap.size, 0, none⟩) S.size c) w' ∧ Sl w' (.slice (some ⟨w.heap.size, 0, none⟩) S.size c) (nums S) ∧ Kp [] w w' := by
  refine ⟨_, _, Lib.run_convert_string_bytes (P := Tryd.prog) w 9 22 5 S Tryd.underlying9 Tryd.underlying22 Tryd.underlying5, ?_, ?_⟩
  · refine ⟨some ⟨w.heap.size, 0, none⟩, grownCap w S.size 0 5, by rw [nums_len], by rw [nums_len]; exact grownCap_ge _ _ _ _, grownCap_le_maxLen _ _ _ _ (by unfold maxLen; omega), (fun h => by cases h), fun a ha j u hu => ?_⟩
    cases ha
    have hj : j < S.size := by have := (List.getElem?_eq_some_iff.1 hu).1; simpa [nums] using this
    rw [Addr.add_lit, Nat.zero_add, Lib.bytesWorld_cell w 5 S j hj, ← hu]
    have hj2 : j < S.data.toList.length := by simpa using hj
    simp [nums, List.getD, List.getElem?_eq_getElem hj2]
  · refine ⟨rfl, rfl, rfl, by rw [Lib.bytesWorld_size]; omega, fun k hk _ => Lib.bytesWorld_at_old w 5 S k hk⟩
end Go.Proofs.YtacfciimialobaaDoor
