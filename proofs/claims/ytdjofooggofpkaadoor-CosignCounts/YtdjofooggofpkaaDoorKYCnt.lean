/-
  Counting witnesses one after another; a list turned about, a list twice.
-/
import Derived.Test.YtdjofooggofpkaaDoorKYSpecs
namespace Go.Proofs.YtdjofooggofpkaaDoor
open Go.RowKit
open Go.Proofs

section
variable {p : Po} {n : Int} {r : List Int} {l : List Co}
/-- how many of the first k witnesses have one there that is right. -/
def sumW (p : Po) (n : Int) (r : List Int) (l : List Co) : Nat → Nat
  | 0 => 0
  | k + 1 => sumW p n r l k + (seenW p n r l k).toNat
theorem sumW_le : ∀ k, sumW p n r l k ≤ k
  | 0 => Nat.le_refl _
  | k + 1 => by
    have := sumW_le k
    have h : (seenW p n r l k).toNat ≤ 1 := by cases seenW p n r l k <;> simp
    show sumW p n r l k + (seenW p n r l k).toNat ≤ k + 1
    omega
theorem seenW_ge (j : Int) (h : (p.ws.length : Int) ≤ j) : seenW p n r l j = false := by
  cases hs : seenW p n r l j with
  | false => rfl
  | true =>
    simp only [seenW, List.any_eq_true, Bool.and_eq_true, decide_eq_true_eq] at hs
    obtain ⟨c, _, rfl, hv⟩ := hs
    have := verW_lt hv
    omega
theorem sumW_four : sumW p n r l 4 = cntW p n r l := by
  show 0 + (seenW p n r l 0).toNat + (seenW p n r l 1).toNat + (seenW p n r l 2).toNat + (seenW p n r l 3).toNat = _
  rw [Nat.zero_add]
  rfl
theorem sumW_up {k : Nat} (h : p.ws.length ≤ k) : sumW p n r l (k + 1) = sumW p n r l k := by
  show sumW p n r l k + (seenW p n r l k).toNat = _
  rw [seenW_ge _ (by omega)]
  rfl
theorem sumW_all {no : Nat} (h : p.ws.length = no) (h4 : no ≤ 4) : sumW p n r l no = cntW p n r l := by
  rw [← sumW_four]
  rcases (by omega : no = 0 ∨ no = 1 ∨ no = 2 ∨ no = 3 ∨ no = 4) with e | e | e | e | e <;> subst e
  · rw [sumW_up (k := 3) (by omega), sumW_up (k := 2) (by omega), sumW_up (k := 1) (by omega), sumW_up (k := 0) (by omega)]
  · rw [sumW_up (k := 3) (by omega), sumW_up (k := 2) (by omega), sumW_up (k := 1) (by omega)]
  · rw [sumW_up (k := 3) (by omega), sumW_up (k := 2) (by omega)]
  · rw [sumW_up (k := 3) (by omega)]
  · rfl
theorem cntW_lt {no : Nat} (h : p.ws.length = no) (h4 : no ≤ 4) : cntW p n r l ≤ no := by
  rw [← sumW_all h h4]
  exact sumW_le no
theorem cntW_rev : cntW p n r l.reverse = cntW p n r l := cntW_same (fun j => by simp [seenW])
theorem cntW_dup : cntW p n r (l ++ l) = cntW p n r l := cntW_same (fun j => by simp [seenW])
theorem seenW_nil (j : Int) : seenW p n r [] j = false := rfl
theorem seenW_take (k : Nat) (hk : k < l.length) (j : Int) : seenW p n r (l.take (k + 1)) j = (seenW p n r (l.take k) j || (decide (l[k].k = j) && verW p n r l[k])) := by
  rw [List.take_succ_eq_append_getElem hk, seenW_snoc]
end
end Go.Proofs.YtdjofooggofpkaaDoor
