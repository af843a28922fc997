/-
  Slices of slices of bytes: how they are read.
-/
import Derived.Deep.RegionLaw
import Derived.Deep.Slices
import Derived.ProofKit
import Derived.Test.YtfepkcjelecpkaaQC4
namespace Go.Proofs.Ytfepkcjelecpkaa
open Go.RowKit
/-- v is a slice of slices: each with its value and its bytes. -/
def Lists (w : World) (v : Value) (l : List (Value × List Int)) : Prop :=
  ∃ ao c, v = .slice ao l.length c ∧ l.length ≤ 9223372036854775807 ∧ ∀ i (h : i < l.length), ∃ b off, ao = some ⟨b, off, none⟩ ∧ w.cell? ⟨b, off + i, none⟩ = some l[i].1 ∧ Sl w l[i].1 l[i].2 ∧ Bs l[i].2
theorem Lists.kept {w w' : World} {v : Value} {l : List (Value × List Int)} (h : Lists w v l) (k : Kp [] w w') : Lists w' v l := by
  obtain ⟨ao, c, rfl, h1, h2⟩ := h
  refine ⟨ao, c, rfl, h1, fun i hi => ?_⟩
  obtain ⟨b, off, e, h3, h4, h5⟩ := h2 i hi
  exact ⟨b, off, e, k.cell h3 (by simp), h4.kept k (by simp), h5⟩
theorem Lists.bs {w : World} {v : Value} {l : List (Value × List Int)} (h : Lists w v l) : ∀ x ∈ l, Bs x.2 := by
  obtain ⟨_, _, _, _, h2⟩ := h
  intro x hx
  obtain ⟨i, hi, rfl⟩ := List.getElem_of_mem hx
  obtain ⟨_, _, _, _, _, h5⟩ := h2 i hi
  exact h5
end Go.Proofs.Ytfepkcjelecpkaa
