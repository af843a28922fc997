/-
  A string turned into bytes: it makes memory, and reads as the string's bytes; strings and the lists of their bytes.
-/
import Derived.Lib.ConvBytes
import Derived.Test.YteabdojjllfcpaaGreatQC5
namespace Go.Proofs.YteabdojjllfcpaaGreat
open Go.RowKit
def nums (S : ByteArray) : List Int := S.data.toList.map fun b => (b.toNat : Int)
theorem nums_len (S : ByteArray) : (nums S).length = S.size := by simp [nums]
theorem nums_bs (S : ByteArray) : Bs (nums S) := by
  intro b hb
  obtain ⟨x, _, rfl⟩ := List.mem_map.1 hb
  have := x.toNat_lt
  omega
theorem conv_big (S : ByteArray) (w : World) (hS : S.size ≤ 9223372036854775807) : ∃ c w', (convert 9 28 (.string S)).run Tryz.prog w = .ok (.slice (some ⟨w.heap.size, 0, none⟩) S.size c) w' ∧ Sl w' (.slice (some ⟨w.heap.size, 0, none⟩) S.size c) (nums S) ∧ Kp [] w w' := by
  refine ⟨_, _, Lib.run_convert_string_bytes (P := Tryz.prog) w 9 28 5 S Tryz.underlying9 Tryz.underlying28 Tryz.underlying5, ?_, ?_⟩
  · refine ⟨some ⟨w.heap.size, 0, none⟩, grownCap w S.size 0 5, by rw [nums_len], by rw [nums_len]; exact grownCap_ge _ _ _ _, grownCap_le_maxLen _ _ _ _ (by unfold maxLen; omega), (fun h => by cases h), fun a ha j u hu => ?_⟩
    cases ha
    have hj : j < S.size := by have := (List.getElem?_eq_some_iff.1 hu).1; simpa [nums] using this
    rw [Addr.add_lit, Nat.zero_add, Lib.bytesWorld_cell w 5 S j hj, ← hu]
    have hj2 : j < S.data.toList.length := by simpa using hj
    simp [nums, List.getD, List.getElem?_eq_getElem hj2]
  · refine ⟨rfl, rfl, rfl, by rw [Lib.bytesWorld_size]; omega, fun k hk _ => Lib.bytesWorld_at_old w 5 S k hk⟩
theorem conv_of_string (S : ByteArray) (w : World) (hS : S.size ≤ 1000) : ∃ c w', (convert 9 28 (.string S)).run Tryz.prog w = .ok (.slice (some ⟨w.heap.size, 0, none⟩) S.size c) w' ∧ Sl w' (.slice (some ⟨w.heap.size, 0, none⟩) S.size c) (nums S) ∧ Kp [] w w' := conv_big S w (by omega)
theorem u8_of (x : Int) (h0 : 0 ≤ x) (h1 : x ≤ 255) : (((UInt8.ofNat x.toNat).toNat : Nat) : Int) = x := by
  rw [UInt8.toNat_ofNat']
  omega
theorem nums_str (bs : List Int) (h : Bs bs) : nums (strOfNums bs) = bs := by
  unfold nums strOfNums
  simp only [List.map_map]
  conv => rhs; rw [← List.map_id bs]
  refine List.map_congr_left (fun x hx => ?_)
  have := h x hx
  simp only [Function.comp, id]
  exact u8_of x this.1 this.2
theorem str_nums (S : ByteArray) : strOfNums (nums S) = S := by
  unfold nums strOfNums
  rw [List.map_map]
  have e : (fun n : Int => UInt8.ofNat n.toNat) ∘ (fun b : UInt8 => (b.toNat : Int)) = id := by
    funext x
    simp
  rw [e, List.map_id]
theorem str_size (bs : List Int) : (strOfNums bs).size = bs.length := by
  show (List.map (fun n : Int => UInt8.ofNat n.toNat) bs).toArray.size = _
  simp
/-- two strings are one just if their bytes are. -/
theorem str_same {a b : List Int} (ha : Bs a) (hb : Bs b) (h : strOfNums a = strOfNums b) : a = b := by
  rw [← nums_str a ha, ← nums_str b hb, h]
end Go.Proofs.YteabdojjllfcpaaGreat
