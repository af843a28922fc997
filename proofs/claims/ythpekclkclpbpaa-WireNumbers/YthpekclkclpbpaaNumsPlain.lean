/-
  Plain facts on the four bytes of a number: they make the number, and they stand in order as the numbers do.
-/
import Derived.Test.YthpekclkclpbpaaKnown
namespace Go.Proofs.Ythpekclkclpbpaa
open Go.RowKit

theorem be_four (n : Int) (h0 : 0 ≤ n) (h1 : n ≤ 4294967295) : be n 4 0 = [n / 16777216, n / 65536 % 256, n / 256 % 256, n % 256] := by
  simp [be, byteAt, List.range_succ]
  omega
theorem be_bs (n : Int) (size k : Nat) : Bs (be n size k) := by
  intro b hb
  simp only [be, List.mem_map] at hb
  obtain ⟨t, _, rfl⟩ := hb
  unfold byteAt
  omega
theorem val_be4 (n : Int) (h0 : 0 ≤ n) (h1 : n ≤ 4294967295) : val (be n 4 0) = n := by
  rw [be_four n h0 h1]
  simp [val]
  omega
theorem toNat_of (x : Int) (h0 : 0 ≤ x) (h1 : x ≤ 255) : ((UInt8.ofNat x.toNat).toNat : Int) = x := by
  simp; omega
theorem str_toList (bs : List Int) : (strOfNums bs).toList = bs.map fun n => UInt8.ofNat n.toNat := by
  rw [ByteArray.toList_eq]; rfl
theorem of_lt (x y : Int) (hx : 0 ≤ x ∧ x ≤ 255) (hy : 0 ≤ y ∧ y ≤ 255) : (UInt8.ofNat x.toNat < UInt8.ofNat y.toNat) ↔ x < y := by
  rw [UInt8.lt_iff_toNat_lt]
  have := toNat_of x hx.1 hx.2
  have := toNat_of y hy.1 hy.2
  omega
theorem of_eq (x y : Int) (hx : 0 ≤ x ∧ x ≤ 255) (hy : 0 ≤ y ∧ y ≤ 255) : (UInt8.ofNat x.toNat = UInt8.ofNat y.toNat) ↔ x = y := by
  constructor
  · intro h
    have := toNat_of x hx.1 hx.2
    have := toNat_of y hy.1 hy.2
    rw [h] at *
    omega
  · intro h; rw [h]
theorem less_four (a b : Int) (a0 : 0 ≤ a) (a1 : a ≤ 4294967295) (b0 : 0 ≤ b) (b1 : b ≤ 4294967295) :
    Op.bytesLess (strOfNums (be a 4 0)).toList (strOfNums (be b 4 0)).toList = decide (a < b) := by
  rw [str_toList, str_toList, be_four a a0 a1, be_four b b0 b1, Bool.eq_iff_iff]
  simp only [List.map_cons, List.map_nil, Op.bytesLess, Bool.or_eq_true, Bool.and_eq_true, decide_eq_true_eq, beq_iff_eq]
  rw [of_lt _ _ (by omega) (by omega), of_lt _ _ (by omega) (by omega), of_lt _ _ (by omega) (by omega), of_lt _ _ (by omega) (by omega), of_eq _ _ (by omega) (by omega), of_eq _ _ (by omega) (by omega), of_eq _ _ (by omega) (by omega), of_eq _ _ (by omega) (by omega)]
  simp only [Bool.false_eq_true, and_false, or_false]
  omega
theorem str_inj (bs cs : List Int) (hb : Bs bs) (hc : Bs cs) (h : (strOfNums bs).toList = (strOfNums cs).toList) : bs = cs := by
  rw [str_toList, str_toList] at h
  induction bs generalizing cs with
  | nil => cases cs with
    | nil => rfl
    | cons c cs => simp at h
  | cons b bs ih => cases cs with
    | nil => simp at h
    | cons c cs =>
      simp only [List.map_cons, List.cons.injEq] at h
      rw [(of_eq b c (hb b (by simp)) (hc c (by simp))).1 h.1, ih cs (fun x hx => hb x (by simp [hx])) (fun x hx => hc x (by simp [hx])) h.2]
theorem str_beq (bs cs : List Int) (hb : Bs bs) (hc : Bs cs) : ((strOfNums bs).toList == (strOfNums cs).toList) = decide (bs = cs) := by
  rw [Bool.eq_iff_iff]
  simp only [beq_iff_eq, decide_eq_true_eq]
  exact ⟨str_inj bs cs hb hc, fun h => by rw [h]⟩
theorem eq_four (a b : Int) (a0 : 0 ≤ a) (a1 : a ≤ 4294967295) (b0 : 0 ≤ b) (b1 : b ≤ 4294967295) :
    ((strOfNums (be a 4 0)).toList == (strOfNums (be b 4 0)).toList) = (a == b) := by
  rw [str_beq _ _ (be_bs _ _ _) (be_bs _ _ _), Bool.eq_iff_iff]
  simp only [decide_eq_true_eq, beq_iff_eq]
  refine ⟨fun h => ?_, fun h => by rw [h]⟩
  rw [← val_be4 a a0 a1, h, val_be4 b b0 b1]
/-- a string of bytes turned into a slice. -/
theorem Sl.ofString {w : World} {bs : List Int} (hB : Bs bs) (e : TypeId) (cap : Nat) (hcap : bs.length ≤ cap) (hm : cap ≤ maxLen) (fr : Nat × Nat) :
    Sl (w.alloc (.cells (bytesRow (strOfNums bs) cap) e fr)) (.slice (some ⟨w.heap.size, 0, none⟩) (strOfNums bs).size cap) bs := by
  refine ⟨some ⟨w.heap.size, 0, none⟩, cap, by rw [strOfNums_size], hcap, hm, (fun h => by cases h), fun a ha j u hu => ?_⟩
  cases ha
  rw [Addr.add_lit, Nat.zero_add, World.cell?_alloc_mark]
  have hj : j < bs.length := by have := (List.getElem?_eq_some_iff.1 hu).1; simpa using this
  simp [List.getElem?_eq_getElem hj] at hu
  subst hu
  have hb := hB bs[j] (List.getElem_mem hj)
  have : (bytesRow (strOfNums bs) cap)[j]? = some (.int .u8 ((UInt8.ofNat bs[j].toNat).toNat : Int)) := by
    unfold bytesRow
    rw [Array.getElem?_append_left (by simp [strOfNums]; omega)]
    simp [strOfNums, hj]
  rw [this, toNat_of _ hb.1 hb.2]
end Go.Proofs.Ythpekclkclpbpaa
