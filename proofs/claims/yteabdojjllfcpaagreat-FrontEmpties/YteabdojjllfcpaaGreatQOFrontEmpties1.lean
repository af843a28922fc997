/-
  Chapter 13 as plain functions: how records lie, and what is read of any bytes.
-/
import Derived.Test.YteabdojjllfcpaaGreatQC2
namespace Go.Proofs.YteabdojjllfcpaaGreat
theorem layP_len (l : List (List Int)) (m : Nat) (h : ∀ r ∈ l, r.length ≤ m) : (layP l).length ≤ l.length * (8 + m) := by
  induction l with
  | nil => simp [layP]
  | cons r l ih =>
    have h1 := ih (fun x hx => h x (by simp [hx]))
    have h2 := h r (by simp)
    rw [layP_cons, List.length_append, recP_len, List.length_cons, Nat.add_mul]
    omega
end Go.Proofs.YteabdojjllfcpaaGreat
