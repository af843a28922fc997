/-
  What does not lie in a reference reader's block.
-/
import Derived.Test.YtdjofooggofpkaaGreatDoorKLMan
import Derived.Test.YtdjofooggofpkaaGreatDoorKSRefReader
namespace Go.Proofs.YtdjofooggofpkaaGreatDoor
open Go.RowKit
open Go.Proofs

section
variable {w w' : World} {g : Nat} {x : Int} {b0 : Bool} {a1 : Option Addr} {n1 c1 : Nat} {t : TypeId} {fr : Nat × Nat}
theorem noBy_rr (hg : w.heap[g]? = some (.cells #[.slice a1 n1 c1, .int .i64 x, .bool b0] t fr)) : NoBy w [g] := by
  intro y hy
  obtain rfl : y = g := by simpa using hy
  refine ⟨_, _, _, hg, fun z hz u => ?_⟩
  rcases (by simpa using hz : z = .slice a1 n1 c1 ∨ z = .int .i64 x ∨ z = .bool b0) with rfl | rfl | rfl <;> simp
/-- a list of two slices or more, or of none, does not lie in a reader's block. -/
theorem lists_off3 (hg : w.heap[g]? = some (.cells #[.slice a1 n1 c1, .int .i64 x, .bool b0] t fr)) (k : Kp [g] w w') {v : Value} {l : List (Value × List Int)} (h : Lists w v l) (hl : l.length = 0 ∨ 2 ≤ l.length) : Lists w' v l := by
  obtain ⟨ao, c, rfl, h1, h2⟩ := h
  refine ⟨ao, c, rfl, h1, fun i hi => ?_⟩
  obtain ⟨b, off, e, h3, h4, h5⟩ := h2 i hi
  refine ⟨b, off, e, ?_, ?_, h5⟩
  · by_cases hb : b = g
    · exfalso
      subst hb
      subst e
      have at' : ∀ j (hj : j < l.length), ∃ p q r, (#[Value.slice a1 n1 c1, .int .i64 x, .bool b0])[off + j]? = some (.slice p q r) := fun j hj => by
        obtain ⟨b', off', e', h3', h4', _⟩ := h2 j hj
        injection e' with e'
        injection e' with e1 e2
        subst e1
        subst e2
        obtain ⟨p, r, es, _⟩ := h4'
        rw [cell_of_row w b (off + j) _ _ _ hg, es] at h3'
        exact ⟨p, _, r, h3'⟩
      obtain ⟨p1, q1, r1, e1⟩ := at' 1 (by omega)
      have : off = 0 ∨ off = 1 ∨ 2 ≤ off := by omega
      rcases this with rfl | rfl | h
      · simp at e1
      · simp at e1
      · rw [Array.getElem?_eq_none (by simp; omega)] at e1
        cases e1
    · exact k.cell h3 (by simpa using hb)
  · obtain ⟨p, q, es, _⟩ := id h4
    rw [es] at h4 ⊢
    exact Sl.offBy h4 (noBy_rr hg) k
end
end Go.Proofs.YtdjofooggofpkaaGreatDoor
