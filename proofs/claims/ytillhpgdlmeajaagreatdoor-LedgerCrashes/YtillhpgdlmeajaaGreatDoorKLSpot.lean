/-
  A place of a row of the call's own: read, written.
-/
import Derived.Test.YtillhpgdlmeajaaGreatDoorKLMore
namespace Go.Proofs.YtillhpgdlmeajaaGreatDoor
open Go.RowKit

theorem Bs.set {bs : List Int} (h : Bs bs) (i : Nat) (x : Int) (h0 : 0 ≤ x) (h1 : x ≤ 255) : Bs (bs.set i x) := fun b hb => by
  rcases List.mem_or_eq_of_mem_set hb with h2 | rfl
  · exact h b h2
  · exact ⟨h0, h1⟩
theorem Row.spot {w : World} {base n c : Nat} {ao : Option Addr} {bs : List Int} (h : Row w base (.slice ao n c) bs) (h0 : 0 < n) :
    ∃ g, ao = some ⟨g, 0, none⟩ ∧ base ≤ g ∧ g < w.heap.size ∧ (∀ k (hk : k < bs.length), w.cell? ⟨g, k, none⟩ = some (.int .u8 bs[k])) ∧ (∀ k, w.frozen? ⟨g, k, none⟩ = false) ∧ ∀ k x, Row (w.setCell ⟨g, k, none⟩ (.int .u8 x)) base (.slice ao n c) (bs.set k x) := by
  have hn := h.len
  subst hn
  rcases h.2 with ⟨h', h1⟩ | ⟨g, cap, cur, h', hb, hg, _⟩
  · injection h'; omega
  · have e : ao = some ⟨g, 0, none⟩ := by injection h'
    subst e
    have h1 : w.ownsRow base 5 1 (.slice (some ⟨g, 0, none⟩) bs.length c) bs.length (bs.map (Value.int .u8)) := h
    refine ⟨g, rfl, hb, (Array.getElem?_eq_some_iff.1 hg).1, fun k hk => ?_, fun k => h1.frozenAt k, fun k x => ?_⟩
    · rw [h1.cellAt k (by omega)]; simp [List.getElem?_eq_getElem hk]
    · have := (h1.stored k (.int .u8 x)).1
      unfold Row
      rw [List.length_set, List.map_set]
      exact this
theorem RowS.frz {w : World} {base g n c : Nat} {l : List (Value × List Int)} (h : RowS w base (.slice (some ⟨g, 0, none⟩) n c) l) (i : Nat) : w.frozen? ⟨g, i, none⟩ = false := by
  have hl := h.1.len
  subst hl
  have h1 : w.ownsRow base 22 1 (.slice (some ⟨g, 0, none⟩) (l.map (·.1)).length c) (l.map (·.1)).length (l.map (·.1)) := h.1
  exact h1.frozenAt i
theorem cell_setCell_ne {w : World} {a b : Addr} {u : Value} (hs : a.spot = none) (h : b ≠ a) (hb : b.spot = none) : (w.setCell a u).cell? b = w.cell? b := by
  obtain ⟨ab, ao, as'⟩ := a
  obtain ⟨bb, bo, bs'⟩ := b
  simp only at hs hb
  subst hs
  subst hb
  by_cases hblk : bb = ab
  · subst hblk
    have hoff : ao ≠ bo := fun e => h (by rw [e])
    unfold World.cell? World.setCell
    simp only
    cases hx : w.heap[bb]? with
    | none =>
      have hle := Array.getElem?_eq_none_iff.1 hx
      rw [Array.getElem?_eq_none (by simpa using hle)]
    | some o =>
      have hlt : bb < w.heap.size := (Array.getElem?_eq_some_iff.1 hx).1
      have hx' : w.heap[bb] = o := by simpa [Array.getElem?_eq_getElem hlt] using hx
      rw [Array.getElem?_eq_getElem (by simpa using hlt), Array.getElem_modify_self, hx']
      cases o <;> simp [Array.getElem?_setIfInBounds_ne hoff]
  · exact World.cell?_of_block (Below.heap_setCell _ _ _ _ (by simpa using hblk))
theorem cell_setCell_same {w : World} {b off : Nat} {u y : Value} (h : w.cell? ⟨b, off, none⟩ = some y) : (w.setCell ⟨b, off, none⟩ u).cell? ⟨b, off, none⟩ = some u := by
  unfold World.cell? World.setCell at *
  simp only at *
  cases hx : w.heap[b]? with
  | none => simp [hx] at h
  | some o =>
    have hlt : b < w.heap.size := (Array.getElem?_eq_some_iff.1 hx).1
    have hx' : w.heap[b] = o := by simpa [Array.getElem?_eq_getElem hlt] using hx
    rw [hx] at h
    rw [Array.getElem?_eq_getElem (by simpa using hlt), Array.getElem_modify_self, hx']
    cases o with
    | cells c t fr =>
      simp at h ⊢
      have : off < c.size := (Array.getElem?_eq_some_iff.1 h).1
      simp [this]
    | _ => simp at h
theorem spot_of_cell {w : World} {a : Addr} {v : Value} (h : w.cell? a = some v) : a.spot = none := by
  unfold World.cell? at h
  cases hx : w.heap[a.block]? with
  | none => rw [hx] at h; cases h
  | some o =>
    rw [hx] at h
    cases o with
    | cells c t fr =>
      simp only at h
      cases hs : a.spot with
      | none => rfl
      | some x => rw [hs] at h; simp at h
    | _ => simp at h
end Go.Proofs.YtillhpgdlmeajaaGreatDoor
