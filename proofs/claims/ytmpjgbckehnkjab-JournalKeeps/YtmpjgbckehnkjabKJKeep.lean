/-
  Records that are written to beside a disk.
-/
import Derived.Test.YtmpjgbckehnkjabKJDuo
namespace Go.Proofs.Ytmpjgbckehnkjab
open Go.RowKit
open Go.Proofs

theorem Row.poke {w : World} {base g : Nat} {v : Value} {bs : List Int} (h : Row w base v bs) (hv : v.ownBlock = some g) (k : Nat) (x : Int) : Row (w.setCell ⟨g, k, none⟩ (.int .u8 x)) base v (bs.set k x) := by
  rcases h.2 with ⟨h', h1⟩ | ⟨g', cap, cur, h', hb, hg, _⟩
  · rw [h'] at hv; cases hv
  · have e : g' = g := by rw [h'] at hv; simpa [Value.ownBlock] using hv
    subst e
    have h1 : w.ownsRow base 5 1 (.slice (some ⟨g', 0, none⟩) bs.length cap) bs.length (bs.map (Value.int .u8)) := by rw [← h']; exact h
    have := (h1.stored k (.int .u8 x)).1
    rw [h']
    unfold Row
    rw [List.length_set, List.map_set]
    exact this
/-- records of a call's own that may be written, beside a disk. -/
structure Pw (w0 w : World) (base p : Nat) (v : Value) (d : Dk) (o : Value) (l : List (Value × Nat)) : Prop where
  nw : Nw w0 w p v d
  row : RowV w base o (l.map (·.1))
  el : ∀ x ∈ l, (∃ bs, Row w base x.1 bs ∧ bs.length = x.2) ∧ ∀ k, x.1.ownBlock = some k → o.ownBlock ≠ some k ∧ k ∉ dfp p v
  hb : w0.heap.size ≤ base
theorem Pw.poke {w0 w : World} {base p : Nat} {v : Value} {d : Dk} {o : Value} {l : List (Value × Nat)} (h : Pw w0 w base p v d o l) (x : Value × Nat) (hx : x ∈ l) (g : Nat) (hg : x.1.ownBlock = some g) (k : Nat) (z : Int) : Pw w0 (w.setCell ⟨g, k, none⟩ (.int .u8 z)) base p v d o l := by
  have kp := kp_set w g k (.int .u8 z)
  obtain ⟨⟨bs, hr, -⟩, ha⟩ := h.el x hx
  obtain ⟨h1, h2⟩ := ha g hg
  have hgb : base ≤ g := hr.own g hg
  refine ⟨⟨h.nw.dk.kept kp (fun i hi hm => ?_), h.nw.new, h.nw.kp.then kp (fun i hi => .inr ?_), h.nw.arm⟩, h.row.kept kp (fun i hi hm => ?_), fun y hy => ⟨?_, (h.el y hy).2⟩, h.hb⟩
  · simp at hm; subst hm; exact h2 hi
  · simp at hi; subst hi; have := h.hb; omega
  · simp at hm; subst hm; exact h1 hi
  · obtain ⟨⟨cs, hs, hl⟩, -⟩ := h.el y hy
    by_cases hyg : y.1.ownBlock = some g
    · exact ⟨cs.set k z, hs.poke hyg k z, by rw [List.length_set]; exact hl⟩
    · exact ⟨cs, hs.kept kp (fun i hi hm => hyg (by simp at hm; rw [← hm]; exact hi)), hl⟩
/-- the place of an element. -/
theorem Pw.at {w0 w : World} {base p : Nat} {v : Value} {d : Dk} {o : Value} {l : List (Value × Nat)} (h : Pw w0 w base p v d o l) (i : Nat) (hi : i < l.length) : ∃ go cap, o = .slice (some ⟨go, 0, none⟩) l.length cap ∧ w.cell? ⟨go, i, none⟩ = some (l[i]).1 := by
  rcases h.row.2 with ⟨h', h1⟩ | ⟨g, cap, cur, h', hb, hg, _⟩
  · have h2 : l.length = 0 := by simpa using congrArg List.length (List.eq_nil_of_length_eq_zero h1)
    omega
  · refine ⟨g, cap, by rw [h']; simp, ?_⟩
    have h1 : w.ownsRow base 30 1 (.slice (some ⟨g, 0, none⟩) (l.map (·.1)).length cap) (l.map (·.1)).length (l.map (·.1)) := by rw [← h']; exact h.row
    rw [h1.cellAt i (by simpa using hi)]
    simp [List.getElem?_eq_getElem hi]
theorem Pj.pw {w0 w : World} {base p j : Nat} {v : Value} {d : Dk} {o : Value} {l : List (Value × List Int)} (h : Pj w base o l p j v) (n : Nw w0 w p v d) (hb : w0.heap.size ≤ base) : Pw w0 w base p v d o (l.map fun x => (x.1, x.2.length)) := by
  refine ⟨n, ?_, fun x hx => ?_, hb⟩
  · have : (l.map fun x => (x.1, x.2.length)).map (·.1) = l.map (·.1) := by simp
    rw [this]; exact h.parts.1
  · obtain ⟨y, hy, rfl⟩ := List.mem_map.1 hx
    obtain ⟨h1, h2, h3⟩ := h.parts.2 y hy
    refine ⟨⟨y.2, h1, rfl⟩, fun k hk => ⟨h3 k hk, fun hm => (h.off k (by simp [hm])).2 y hy hk⟩⟩
end Go.Proofs.Ytmpjgbckehnkjab
