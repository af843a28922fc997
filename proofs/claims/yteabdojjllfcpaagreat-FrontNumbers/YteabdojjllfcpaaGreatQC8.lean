/-
  Rows of bytes told by their cells alone, so that a mark behind the last cell (a string that was turned into bytes) does not matter: append onto them.
-/
import Derived.Deep.AppendSrc
import Derived.Test.YteabdojjllfcpaaGreatQC3
import Derived.Test.YteabdojjllfcpaaGreatQC7
namespace Go.Proofs.YteabdojjllfcpaaGreat
open Go.RowKit
/-- a row of bytes in a block from base on; its cells may be written. -/
def RowM (w : World) (base : Nat) (v : Value) (bs : List Int) : Prop :=
  ∃ g cap, v = .slice (some ⟨g, 0, none⟩) bs.length cap ∧ base ≤ g ∧ g < w.heap.size ∧ bs.length ≤ cap ∧ cap ≤ maxLen ∧ (∀ (j : Nat) u, (bs.map (Value.int .u8))[j]? = some u → w.cell? ⟨g, j, none⟩ = some u) ∧ ∀ j, j < cap → (w.cell? ⟨g, j, none⟩).isSome = true ∧ w.frozen? ⟨g, j, none⟩ = false
theorem RowM.sl {w : World} {base : Nat} {v : Value} {bs : List Int} (h : RowM w base v bs) : Sl w v bs := by
  obtain ⟨g, cap, rfl, _, _, h1, h2, h3, _⟩ := h
  refine ⟨some ⟨g, 0, none⟩, cap, rfl, h1, h2, (fun e => by cases e), fun a ha j u hu => ?_⟩
  cases ha
  rw [Addr.add_lit, Nat.zero_add]
  exact h3 j u hu
theorem RowM.own {w : World} {base : Nat} {v : Value} {bs : List Int} (h : RowM w base v bs) : ∀ k, v.ownBlock = some k → base ≤ k ∧ k < w.heap.size := by
  obtain ⟨g, cap, rfl, h1, h2, _⟩ := h
  intro k hk
  cases hk
  exact ⟨h1, h2⟩
theorem RowM.shape {w : World} {base : Nat} {v : Value} {bs : List Int} (h : RowM w base v bs) : ∃ ao c, v = .slice ao bs.length c := by
  obtain ⟨g, cap, rfl, _⟩ := h
  exact ⟨_, _, rfl⟩
theorem RowM.kept {w w' : World} {base : Nat} {v : Value} {bs : List Int} {S : List Nat} (h : RowM w base v bs) (k : Kp S w w') (hv : ∀ i, v.ownBlock = some i → i ∉ S) : RowM w' base v bs := by
  obtain ⟨g, cap, rfl, h0, hg, h1, h2, h3, h4⟩ := h
  have e := k.block g hg (hv g rfl)
  have ec : ∀ j, w'.cell? ⟨g, j, none⟩ = w.cell? ⟨g, j, none⟩ := fun j => World.cell?_of_block (a := ⟨g, j, none⟩) e
  have ef : ∀ j, w'.frozen? ⟨g, j, none⟩ = w.frozen? ⟨g, j, none⟩ := fun j => World.frozen?_of_block (a := ⟨g, j, none⟩) e
  exact ⟨g, cap, rfl, h0, Nat.lt_of_lt_of_le hg k.size, h1, h2, fun j u hu => by rw [ec]; exact h3 j u hu, fun j hj => by rw [ec, ef]; exact h4 j hj⟩
end Go.Proofs.YteabdojjllfcpaaGreat
