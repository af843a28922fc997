/-
  The contract of the program's mixAll: all blocks of a text that has whole ones alone.
-/
import Derived.Test.YteabdojjllfcpaaGreatQC4
namespace Go.Proofs.YteabdojjllfcpaaGreat
open Go.RowKit
theorem Sl.sub {w : World} {a : Addr} {len c : Nat} {bs : List Int} (h : Sl w (.slice (some a) len c) bs) (i m : Nat) (hm : 0 < m) (hi : i + m ≤ bs.length) : Sl w (.slice (some (a.add i)) m (c - i)) ((bs.drop i).take m) := by
  have hc : bs.length ≤ c := by obtain ⟨_, _, e, h1, _⟩ := h; cases e; exact h1
  have h1 := h.drop i (by omega)
  rw [if_neg (by omega)] at h1
  have h2 := h1.take m (by simp; omega)
  exact h2
end Go.Proofs.YteabdojjllfcpaaGreat
