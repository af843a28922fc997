/-
  Plain facts on texts behind their lengths, cut off: what is read of them.
-/
import Derived.Test.YthpekclkclpbpaaFew
namespace Go.Proofs.Ythpekclkclpbpaa
open Go.RowKit

theorem val_be2 (n : Nat) (h : n ≤ 65535) : val (be n 2 0) = n := by
  rw [be_two]
  simp [val]
  omega
theorem encs_cons (x : List Int) (l : List (List Int)) : encs (x :: l) = be x.length 2 0 ++ (x ++ encs l) := by simp [encs]
theorem encs_bs (l : List (List Int)) (h : ∀ x ∈ l, Bs x) : Bs (encs l) := by
  induction l with
  | nil => intro b hb; cases hb
  | cons x l ih =>
    rw [encs_cons]
    exact (be_bs _ _ _).append ((h x (by simp)).append (ih (fun y hy => h y (by simp [hy]))))
theorem tkb_cut (x rest : List Int) (m : Nat) (hx : x.length ≤ 50) (hm : m ≤ (be x.length 2 0 ++ (x ++ rest)).length) :
    tkb false ((be x.length 2 0 ++ (x ++ rest)).take m) 50 = if 2 + x.length ≤ m then (x, false, rest.take (m - 2 - x.length)) else ([], true, []) := by
  simp only [List.length_append, be_length] at hm
  have hbl : (be (x.length : Int) 2 0).length = 2 := by rw [be_length]
  have hv : val (be (x.length : Int) 2 0) = x.length := val_be2 x.length (by omega)
  by_cases h2 : 2 ≤ m
  · have e1 : (be (x.length : Int) 2 0 ++ (x ++ rest)).take m = be x.length 2 0 ++ (x ++ rest).take (m - 2) := by
      rw [List.take_append, List.take_of_length_le (by omega), hbl]
    have e2 : tk false (be (x.length : Int) 2 0 ++ (x ++ rest).take (m - 2)) 2 = (be x.length 2 0, false, (x ++ rest).take (m - 2)) := by
      rw [show (2 : Int) = ((2 : Nat) : Int) from rfl, tk_ok _ _ 2 (by rw [List.length_append, hbl]; omega)]
      rw [List.take_left' hbl, List.drop_left' hbl]
    unfold tkb
    rw [e1, e2]
    simp only [hv]
    rw [if_neg (by omega)]
    have hl : ((x ++ rest).take (m - 2)).length = m - 2 := by simp; omega
    by_cases h3 : 2 + x.length ≤ m
    · rw [if_pos h3, tk_ok _ _ x.length (by rw [hl]; omega)]
      have e3 : (x ++ rest).take (m - 2) = x ++ rest.take (m - 2 - x.length) := by
        rw [List.take_append, List.take_of_length_le (by omega)]
      rw [e3, List.take_left, List.drop_left]
    · rw [if_neg h3, tk_no _ _ _ (.inr (by rw [hl]; omega))]
  · have hl : ((be (x.length : Int) 2 0 ++ (x ++ rest)).take m).length = m := by simp [be_length]; omega
    rw [if_neg (by omega)]
    unfold tkb
    rw [tk_no false _ 2 (.inr (by rw [hl]; omega))]
    simp [val, tk]
end Go.Proofs.Ythpekclkclpbpaa
