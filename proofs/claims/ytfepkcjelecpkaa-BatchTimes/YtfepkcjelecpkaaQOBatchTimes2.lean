/-
  The contracts of package wire's writer over this seat's program: New, number, Num: what a call writes behind what there was, and what it leaves alone.
-/
import Derived.Deep.RegionLaw
import Derived.Test.YtfepkcjelecpkaaQC4
import Derived.Test.YtfepkcjelecpkaaQOBatchTimes1
namespace Go.Proofs.Ytfepkcjelecpkaa
open Go.RowKit
/-- One step of a writer: besides its cell and its row nothing old was changed; its row is the old one, or new. -/
def Step (p : Nat) (w : World) (v : Value) (w' : World) (v' : Value) : Prop :=
  Kp (p :: v.ownBlock.toList) w w' ∧ ∀ k, v'.ownBlock = some k → v.ownBlock = some k ∨ w.heap.size ≤ k
theorem Step.refl (p : Nat) (w : World) (v : Value) : Step p w v w v := ⟨Kp.refl _ _, fun _ h => .inl h⟩
theorem Step.trans {p : Nat} {a b c : World} {u v x : Value} (h : Step p a u b v) (k : Step p b v c x) : Step p a u c x := by
  refine ⟨h.1.then k.1 (fun i hi => ?_), fun i hi => ?_⟩
  · simp only [List.mem_cons, Option.mem_toList] at hi ⊢
    rcases hi with rfl | hi
    · exact .inl (.inl rfl)
    · rcases h.2 i hi with h1 | h1
      · exact .inl (.inr h1)
      · exact .inr h1
  · rcases k.2 i hi with h1 | h1
    · exact h.2 i h1
    · exact .inr (Nat.le_trans h.1.size h1)
end Go.Proofs.Ytfepkcjelecpkaa
