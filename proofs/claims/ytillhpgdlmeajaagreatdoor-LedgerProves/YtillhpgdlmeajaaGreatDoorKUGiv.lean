/-
  Slices of bytes that a law writes into.
-/
import Derived.Test.YtillhpgdlmeajaaGreatDoorKUDsk
import Derived.Test.YtillhpgdlmeajaaGreatDoorKUArg
import Derived.Test.YtillhpgdlmeajaaGreatDoorKLSpot
namespace Go.Proofs.YtillhpgdlmeajaaGreatDoor
open Go.RowKit
open Go.Proofs
set_option linter.unusedVariables false

/-- n bytes that may be written. -/
def Mu (w : World) (g o n : Nat) : Prop := ∀ i, i < n → (∃ u, w.cell? ⟨g, o + i, none⟩ = some (.int .u8 u)) ∧ w.frozen? ⟨g, o + i, none⟩ = false
theorem Mu.set {w : World} {g o n : Nat} (h : Mu w g o n) (k : Nat) (x : Int) : Mu (w.setCell ⟨g, o + k, none⟩ (.int .u8 x)) g o n := fun i hi => by
  refine ⟨?_, (World.frozen?_setCell _ _ _ _).trans (h i hi).2⟩
  obtain ⟨u, hu⟩ := (h i hi).1
  by_cases e : i = k
  · subst e; exact ⟨x, cell_setCell_same hu⟩
  · exact ⟨u, by rw [cell_setCell_ne rfl (fun e' => e (by injection e' with _ e2; omega)) rfl]; exact hu⟩
theorem Mu.set0 {w : World} {g n : Nat} (h : Mu w g 0 n) (k : Nat) (x : Int) : Mu (w.setCell ⟨g, k, none⟩ (.int .u8 x)) g 0 n := by
  have := h.set k x
  rwa [Nat.zero_add] at this
theorem Mu.at0 {w : World} {g n : Nat} (h : Mu w g 0 n) (i : Nat) (hi : i < n) : (∃ u, w.cell? ⟨g, i, none⟩ = some (.int .u8 u)) ∧ w.frozen? ⟨g, i, none⟩ = false := by
  have := h i hi
  rwa [Nat.zero_add] at this
theorem Mu.kept {w w' : World} {g o n : Nat} {S : List Nat} (h : Mu w g o n) (k : Kp S w w') (hg : g ∉ S) : Mu w' g o n := fun i hi => by
  obtain ⟨⟨u, hu⟩, hf⟩ := h i hi
  exact ⟨⟨u, k.cell hu hg⟩, frz_kept k (World.block_lt_of_cell? _ _ hu) hg hf⟩
theorem Row.mu {w : World} {base g n c : Nat} {bs : List Int} (h : Row w base (.slice (some ⟨g, 0, none⟩) n c) bs) : Mu w g 0 n := fun i hi => by
  have hn := h.len
  obtain ⟨g', e, _, _, hc, hf, _⟩ := h.spot (by omega)
  cases e
  rw [Nat.zero_add]
  exact ⟨⟨_, hc i (by omega)⟩, hf i⟩
theorem Sl.mu {w : World} {g o n c : Nat} {bs : List Int} (h : Sl w (.slice (some ⟨g, o, none⟩) n c) bs) (hf : ∀ k, k < n → w.frozen? ⟨g, o + k, none⟩ = false) : Mu w g o n := fun i hi => by
  obtain ⟨ao, c', e, _, _, _, h4⟩ := h
  injection e with e1 e2 e3
  have := h4 ⟨g, o, none⟩ e1.symm i (.int .u8 (bs[i]'(by omega))) (by simp [List.getElem?_eq_getElem (show i < bs.length by omega)])
  rw [Addr.add_lit] at this
  exact ⟨⟨_, this⟩, hf i hi⟩
theorem Sl.spotG {w : World} {a : Addr} {n c : Nat} {bs : List Int} (h : Sl w (.slice (some a) n c) bs) (hb : bs ≠ []) : a.spot = none := by
  obtain ⟨ao, c', e, _, _, _, h4⟩ := h
  injection e with e1 e2 e3
  have hpos : 0 < bs.length := List.length_pos_iff.2 hb
  have := h4 a e1.symm 0 (.int .u8 bs[0]) (by simp [List.getElem?_eq_getElem hpos])
  have := World.cell?_spot this
  rw [Addr.add_zero'] at this
  exact this
theorem row_lit (w : World) (cs : List Int) (hm : cs.length ≤ 1000) : Row (w.alloc (.cells (cs.map (Value.int .u8)).toArray 5)) w.heap.size (.slice (some ⟨w.heap.size, 0, none⟩) cs.length cs.length) cs := by
  refine ⟨by simp, .inr ⟨w.heap.size, cs.length, (cs.map (Value.int .u8)).toArray, rfl, Nat.le_refl _, heap_alloc_new w _, Nat.le_refl _, by unfold maxLen; omega, by simp, by simp [List.take_of_length_le]⟩⟩
theorem Al.aside {w0 w w' : World} {F : Nat → Prop} {v : Value} {la : List (Value × List Int)} {S : List Nat} (h : Al w0 w F v la) (k : Kp S w w') (h1 : ∀ i, v.ownBlock = some i → i ∉ S) (h2 : ∀ x ∈ la, ∀ i, x.1.ownBlock = some i → i ∉ S) : Al w0 w' F v la :=
  ⟨h.row.aside k h1 h2, fun i hi => ⟨Nat.lt_of_lt_of_le (h.own i hi).1 k.size, (h.own i hi).2⟩, fun x hx i hi => ⟨Nat.lt_of_lt_of_le (h.its x hx i hi).1 k.size, (h.its x hx i hi).2⟩⟩
end Go.Proofs.YtillhpgdlmeajaaGreatDoor
