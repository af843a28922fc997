/-
  A part of a signature that is copied, put in again and turned at one place.
-/
import Derived.Test.YtdioaohejoflcaaDoorKOLs
namespace Go.Proofs.YtdioaohejoflcaaDoor
open Go.RowKit

theorem xor_bd (x y : Int) : 0 ≤ bits .xor .u8 x y ∧ bits .xor .u8 x y ≤ 255 := by
  show 0 ≤ IntKind.u8.wrap _ ∧ IntKind.u8.wrap _ ≤ 255
  simp [IntKind.wrap, IntKind.signed, IntKind.bits]
  omega
theorem xor_zero (x : Int) (h0 : 0 ≤ x) (h1 : x ≤ 255) : bits .xor .u8 x 0 = x := by
  obtain ⟨m, rfl⟩ := Int.eq_ofNat_of_zero_le h0
  have h : ∀ m ∈ List.range 256, bits .xor .u8 (m : Int) 0 = (m : Int) := by decide +kernel
  exact h m (by simp; omega)
theorem Bs.set {bs : List Int} (h : Bs bs) (i : Nat) (x : Int) (h0 : 0 ≤ x) (h1 : x ≤ 255) : Bs (bs.set i x) := fun b hb => by
  rcases List.mem_or_eq_of_mem_set hb with h2 | rfl
  · exact h b h2
  · exact ⟨h0, h1⟩
theorem Row.spot {w : World} {base n c : Nat} {ao : Option Addr} {bs : List Int} (h : Row w base (.slice ao n c) bs) (h0 : 0 < n) :
    ∃ g, ao = some ⟨g, 0, none⟩ ∧ base ≤ g ∧ g < w.heap.size ∧ (∀ k (hk : k < bs.length), w.cell? ⟨g, k, none⟩ = some (.int .u8 bs[k])) ∧ (∀ k, w.frozen? ⟨g, k, none⟩ = false) ∧ ∀ k x, Row (w.setCell ⟨g, k, none⟩ (.int .u8 x)) base (.slice ao n c) (bs.set k x) := by
  have hn := h.len
  subst hn
  rcases h.2 with ⟨h', h1⟩ | ⟨g, cap, cur, h', hb, hg, _⟩
  · injection h'; omega
  · have e : ao = some ⟨g, 0, none⟩ := by injection h'
    subst e
    have h1 : w.ownsRow base 5 1 (.slice (some ⟨g, 0, none⟩) bs.length c) bs.length (bs.map (Value.int .u8)) := h
    refine ⟨g, rfl, hb, (Array.getElem?_eq_some_iff.1 hg).1, fun k hk => ?_, fun k => h1.frozenAt k, fun k x => ?_⟩
    · rw [h1.cellAt k (by omega)]; simp [List.getElem?_eq_getElem hk]
    · have := (h1.stored k (.int .u8 x)).1
      unfold Row
      rw [List.length_set, List.map_set]
      exact this
theorem RowS.frz {w : World} {base g n c : Nat} {l : List (Value × List Int)} (h : RowS w base (.slice (some ⟨g, 0, none⟩) n c) l) (i : Nat) : w.frozen? ⟨g, i, none⟩ = false := by
  have hl := h.1.len
  subst hl
  have h1 : w.ownsRow base 24 1 (.slice (some ⟨g, 0, none⟩) (l.map (·.1)).length c) (l.map (·.1)).length (l.map (·.1)) := h.1
  exact h1.frozenAt i
/-- what was put in at place i, and turned there. -/
theorem turned {w3 w4 : World} {base g g5 n c c5 i k : Nat} {l : List (Value × List Int)} {bs : List Int} (hP : Parts w3 base (.slice (some ⟨g, 0, none⟩) n c) l) (K : Kp [] w3 w4)
    (R : Row w4 w3.heap.size (.slice (some ⟨g5, 0, none⟩) bs.length c5) bs) (hB : Bs bs) (hpos : 0 < bs.length) (x : Int) (h0 : 0 ≤ x) (h1 : x ≤ 255) :
    RowS ((w4.setCell ⟨g, i, none⟩ (.slice (some ⟨g5, 0, none⟩) bs.length c5)).setCell ⟨g5, k, none⟩ (.int .u8 x)) base (.slice (some ⟨g, 0, none⟩) n c) (l.set i (.slice (some ⟨g5, 0, none⟩) bs.length c5, bs.set k x)) := by
  have hg : g < w3.heap.size := hP.1.lt rfl
  have hg5 : w3.heap.size ≤ g5 := R.own g5 rfl
  have hS4 := (hP.kept K).rowS
  have hS5 := hS4.set i (.slice (some ⟨g5, 0, none⟩) bs.length c5, bs) R.sl hB (fun h => by
    have : g5 = g := by simpa [Value.ownBlock] using h
    omega)
  have k5 : Kp [g] w4 (w4.setCell ⟨g, i, none⟩ (.slice (some ⟨g5, 0, none⟩) bs.length c5)) := (Kp.refl [g] w4).setCell (p := ⟨g, i, none⟩) (.inl (by simp)) _
  have R5 := R.kept k5 (fun j hj => by have : g5 = j := by simpa [Value.ownBlock] using hj
                                       simp; omega)
  have k6 : Kp [g5] (w4.setCell ⟨g, i, none⟩ (.slice (some ⟨g5, 0, none⟩) bs.length c5)) ((w4.setCell ⟨g, i, none⟩ (.slice (some ⟨g5, 0, none⟩) bs.length c5)).setCell ⟨g5, k, none⟩ (.int .u8 x)) := (Kp.refl [g5] _).setCell (p := ⟨g5, k, none⟩) (.inl (by simp)) _
  refine ⟨?_, fun y hy => ?_⟩
  · have := hS5.1.kept k6 (fun j hj => by have : g = j := by simpa [Value.ownBlock] using hj
                                          simp; omega)
    rw [List.map_set] at this ⊢
    exact this
  · rcases List.mem_or_eq_of_mem_set hy with hy | rfl
    · obtain ⟨h2, h3, h4⟩ := hP.2 y hy
      refine ⟨((h2.sl.kept K (by simp)).kept k5 (fun j hj hm => h4 j hj (by simp at hm; subst hm; rfl))).kept k6 (fun j hj hm => ?_), h3, fun j hj hv => absurd hv (h4 j hj)⟩
      have := h2.lt hj
      simp at hm
      omega
    · obtain ⟨g', e, _, _, _, _, hst⟩ := R5.spot hpos
      obtain rfl : g5 = g' := by simpa using e
      refine ⟨(hst k x).sl, hB.set k x h0 h1, fun j hj hv => ?_⟩
      have e1 : g5 = j := by simpa [Value.ownBlock] using hj
      have e2 : g = j := by simpa [Value.ownBlock] using hv
      omega
end Go.Proofs.YtdioaohejoflcaaDoor
