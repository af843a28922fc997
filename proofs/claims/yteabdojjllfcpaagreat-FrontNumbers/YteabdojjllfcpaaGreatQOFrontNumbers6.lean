/-
  Lists gathered behind one another; records cut off by a crash.
-/
import Derived.Test.YteabdojjllfcpaaGreatQC18
import Derived.Test.YteabdojjllfcpaaGreatQOFrontNumbers4
namespace Go.Proofs.YteabdojjllfcpaaGreat
open Go.RowKit
open Go.Proofs
theorem crash0 (b : List Int) : (dkOn b).crash 0 = dkOn b := by
  have hl : (dkOn b).left 0 = b.length := by show b.length + min (0 : Int).toNat (b.length - b.length) = b.length; simp
  unfold Dk.crash
  rw [hl]
  show (⟨b.take b.length, min b.length b.length, 1048576, 0, false⟩ : Dk) = dkOn b
  rw [List.take_length, Nat.min_self]
  rfl
end Go.Proofs.YteabdojjllfcpaaGreat

/-
  Disks, journals and boxes with the blocks that they lie in.
-/
namespace Go.Proofs.YteabdojjllfcpaaGreat
open Go.RowKit
open Go.Proofs
set_option linter.unusedVariables false
section
variable {w0 w w' : World} {p q j n k : Nat} {d d' : Dk} {F : Nat → Prop} {v : Value}
/-- a disk takes a step. -/
theorem Dx.stepD {v v' : Value} (hF : ∀ i ∈ dfp p v, F i) (g : Nw w0 w' p v' d') (t : DSt p w v w' v') : ∃ F', Dx w0 w' p d' F' ∧ Stp F w w' F' ∧ ∀ i, F i → F' i :=
  ⟨grF F v', ⟨v', g, grF_fp (hF p (mem_dfp.2 (.inl rfl)))⟩, t.stp hF g.rlt, fun i h => .inl h⟩
theorem Jx.stepD {v v' : Value} (h : ∃ m, m ≤ k ∧ Jn w0 w p v d j m ∧ F j ∧ ∀ i ∈ dfp p v, F i) (g : Nw w0 w' p v' d') (t : DSt p w v w' v') : ∃ F', Jx w0 w' p d' j k F' ∧ Stp F w w' F' := by
  obtain ⟨m, h1, h2, h3, h4⟩ := h
  exact ⟨grF F v', ⟨v', m, h1, h2.disk g t, .inl h3, grF_fp (h4 p (mem_dfp.2 (.inl rfl)))⟩, t.stp h4 g.rlt⟩
theorem Bf.stepD {v v' : Value} (h : ∃ j m, m ≤ k ∧ Jn w0 w p v d j m ∧ Kb w q j n ∧ w0.heap.size ≤ q ∧ F q ∧ F j ∧ ∀ i ∈ dfp p v, F i) (g : Nw w0 w' p v' d') (t : DSt p w v w' v') : ∃ F', Bf w0 w' p d' q n k F' ∧ Stp F w w' F' := by
  obtain ⟨j, m, h1, h2, h3, h4, h5, h6, h7⟩ := h
  exact ⟨grF F v', ⟨v', j, m, h1, h2.disk g t, h3.kept t.1 (h3.off h2.nw.dk), h4, .inl h5, .inl h6, grF_fp (h7 p (mem_dfp.2 (.inl rfl)))⟩, t.stp h7 g.rlt⟩
end
end Go.Proofs.YteabdojjllfcpaaGreat
