/-
  Plain facts on slices of bytes: what a slice reads as, kept, cut, turned into a string; numbers out of bytes.
-/
import Derived.Test.YtfepkcjelecpkaaQC2
namespace Go.Proofs.Ytfepkcjelecpkaa
open Go.RowKit
theorem Sl.of_owns {w : World} {v : Value} {bs : List Int} {base n : Nat} (h : w.ownsRow base 5 1 v n (bs.map (Value.int .u8))) : Sl w v bs := by
  have hn : n = bs.length := by have := h.1; simpa using this.symm
  subst hn
  rcases h.2 with ⟨rfl, h0⟩ | ⟨g, cap, cur, rfl, _, hg, hc, hm, _, _⟩
  · have : bs = [] := List.eq_nil_of_length_eq_zero h0
    subst this; exact Sl.nil w
  · refine ⟨some ⟨g, 0, none⟩, cap, rfl, hc, hm, (fun h => by cases h), fun a ha j u hu => ?_⟩
    cases ha
    exact h.cells (g := g) rfl j u hu
end Go.Proofs.Ytfepkcjelecpkaa

/-
  Arrays of words: as values, in memory; how a walk makes, reads and writes them whole.
-/
namespace Go.Proofs.Ytfepkcjelecpkaa
open Go.RowKit
theorem Ar.set {w : World} {b : Nat} {t : TypeId} {s : List Int} (h : Ar w b t s) (i : Nat) (x : Int) : Ar (w.setCell ⟨b, i, none⟩ (.int .u32 x)) b t (s.set i x) := by
  have := heap_setCell_same w b i _ t (.int .u32 x) h
  unfold Ar
  rw [this]
  simp [List.map_set]
section
variable {ops : Array Oper} {rest : List Oper} {o : Oper} {a : Act} {w : World} {Q : Exit → Act → World → Prop}
end
end Go.Proofs.Ytfepkcjelecpkaa
