/-
  A string turned into bytes: it makes memory, and reads as the string's bytes; strings and the lists of their bytes.
-/
import Derived.Test.YtfepkcjelecpkaaQC5
namespace Go.Proofs.Ytfepkcjelecpkaa
open Go.RowKit
theorem nums_len (S : ByteArray) : (nums S).length = S.size := by simp [nums]
theorem conv_big (S : ByteArray) (w : World) (hS : S.size ≤ 9223372036854775807) : ∃ c w', (convert 9 28 (.string S)).run Try.prog w = .ok (.slice (some ⟨w.heap.size, 0, none⟩) S.size c) w' ∧ Sl w' (.slice (some ⟨w.heap.size, 0, none⟩) S.size c) (nums S) ∧ Kp [] w w' := by
  refine ⟨_, _, Lib.run_convert_string_bytes (P := Try.prog) w 9 28 5 S Try.underlying9 Try.underlying28 Try.underlying5, ?_, ?_⟩
  · refine ⟨some ⟨w.heap.size, 0, none⟩, grownCap w S.size 0 5, by rw [nums_len], by rw [nums_len]; exact grownCap_ge _ _ _ _, grownCap_le_maxLen _ _ _ _ (by unfold maxLen; omega), (fun h => by cases h), fun a ha j u hu => ?_⟩
    cases ha
    have hj : j < S.size := by have := (List.getElem?_eq_some_iff.1 hu).1; simpa [nums] using this
    rw [Addr.add_lit, Nat.zero_add, Lib.bytesWorld_cell w 5 S j hj, ← hu]
    have hj2 : j < S.data.toList.length := by simpa using hj
    simp [nums, List.getD, List.getElem?_eq_getElem hj2]
  · refine ⟨rfl, rfl, rfl, by rw [Lib.bytesWorld_size]; omega, fun k hk _ => Lib.bytesWorld_at_old w 5 S k hk⟩
theorem str_size (bs : List Int) : (strOfNums bs).size = bs.length := by
  show (List.map (fun n : Int => UInt8.ofNat n.toNat) bs).toArray.size = _
  simp
end Go.Proofs.Ytfepkcjelecpkaa
