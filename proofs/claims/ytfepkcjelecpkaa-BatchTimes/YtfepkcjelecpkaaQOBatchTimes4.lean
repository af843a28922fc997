/-
  Helpers of the laws: Cut, Within; how an argument that is a row of bytes is read; what the laid table gives.
-/
import Derived.Test.YtfepkcjelecpkaaQC7
import Derived.Test.YtfepkcjelecpkaaQOBatchTimes1
namespace Go.Proofs.Ytfepkcjelecpkaa
open Go.ChangeShapes Go.WideShapes Go.ChangeAt Go.RowKit
open Go.Deep
section
variable {H : Type} {enc : TypeId × Value → H} {w : World}
end
theorem laidOut : laidOutB Try.prog = true := by kernel_rfl
end Go.Proofs.Ytfepkcjelecpkaa

/-
  Lists of one and of two; rows of slices of a call's own, how they grow.
-/
namespace Go.Proofs.Ytfepkcjelecpkaa
open Go.RowKit
open Go.Proofs
/-- a slice is put in at place p. -/
theorem RowS.set {w : World} {base g n c : Nat} {l : List (Value × List Int)} (h : RowS w base (.slice (some ⟨g, 0, none⟩) n c) l) (p : Nat) (x : Value × List Int) (hx : Sl w x.1 x.2) (hB : Bs x.2) (ha : x.1.ownBlock = some g → x.2 = []) :
    RowS (w.setCell ⟨g, p, none⟩ x.1) base (.slice (some ⟨g, 0, none⟩) n c) (l.set p x) := by
  have k : Kp [g] w (w.setCell ⟨g, p, none⟩ x.1) := (Kp.refl [g] w).setCell (p := ⟨g, p, none⟩) (.inl (by simp)) _
  have hn : n = l.length := by have := h.1.len; simpa using this
  refine ⟨?_, fun y hy => ?_⟩
  · have e : (l.map (·.1)).length = n := by simp [hn]
    have h1 : w.ownsRow base 28 1 (.slice (some ⟨g, 0, none⟩) n c) n (l.map (·.1)) := by have := h.1; unfold RowV at this; rw [e] at this; exact this
    have h2 := (h1.stored p x.1).1
    unfold RowV
    rw [List.map_set, List.length_set, e]
    exact h2
  · rcases List.mem_or_eq_of_mem_set hy with hy | rfl
    · obtain ⟨h1, h2, h3⟩ := h.2 y hy
      exact ⟨h1.apart k (fun i hi hm => h3 i hi (by simp at hm; subst hm; rfl)), h2, h3⟩
    · exact ⟨hx.apart k (fun i hi hm => ha (by simp at hm; subst hm; exact hi)), hB, fun i hi hv => ha (by cases hv; exact hi)⟩
theorem RowS.spot {w : World} {base n c : Nat} {ao : Option Addr} {l : List (Value × List Int)} (h : RowS w base (.slice ao n c) l) (hn : 0 < n) : ∃ g, ao = some ⟨g, 0, none⟩ ∧ base ≤ g ∧ g < w.heap.size ∧ n = l.length ∧ (∀ i, i < n → ∃ u, w.cell? ⟨g, i, none⟩ = some u) ∧ ∀ i, w.frozen? ⟨g, i, none⟩ = false := by
  have hl := h.1.len
  subst hl
  rcases h.1.2 with ⟨h', h0⟩ | ⟨g, cap, cur, h', hb, hg, _⟩
  · omega
  · have e : ao = some ⟨g, 0, none⟩ := by injection h'
    subst e
    have h1 : w.ownsRow base 28 1 (.slice (some ⟨g, 0, none⟩) (l.map (·.1)).length c) (l.map (·.1)).length (l.map (·.1)) := h.1
    refine ⟨g, rfl, hb, (Array.getElem?_eq_some_iff.1 hg).1, by simp, fun i hi => ?_, fun i => h1.frozenAt i⟩
    rw [h1.cellAt i (by omega)]
    exact ⟨_, List.getElem?_eq_getElem hi⟩
end Go.Proofs.Ytfepkcjelecpkaa
