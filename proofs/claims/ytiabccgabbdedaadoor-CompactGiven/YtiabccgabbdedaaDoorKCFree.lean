/-
  A range, and a block that it has nothing to do with; rows of bytes that are written byte by byte.
-/
import Derived.Test.YtiabccgabbdedaaDoorKCGrow
namespace Go.Proofs.YtiabccgabbdedaaDoor
open Go.RowKit
open Go.Proofs

/-- the range at p has these leaves, and nothing of it lies in the block g. -/
def GrF (w0 : World) (ls : List (List Int)) (p g : Nat) (wr : World) : Prop := ∃ ao m c lr, Rg wr w0.heap.size p (.slice ao m c) ls.length lr ∧ lr.map (·.2) = cndP 21 ls ∧ Kp [p] w0 wr ∧ p ≠ g ∧ (Value.slice ao m c).ownBlock ≠ some g ∧ ∀ y ∈ lr, y.1.ownBlock ≠ some g
theorem Gr.free {w0 wr w' : World} {ls : List (List Int)} {p g : Nat} (h : Gr w0 ls p wr) (k : Kp [] wr w') (hg : wr.heap.size ≤ g) : GrF w0 ls p g w' := by
  obtain ⟨ao, m, c, lr, h1, h2, h3⟩ := h
  refine ⟨ao, m, c, lr, h1.keptN k, h2, h3.trans (k.mono (by simp)), fun e => ?_, fun e => ?_, fun y hy e => ?_⟩
  · have := h1.lt; omega
  · have := h1.parts.1.lt e; omega
  · have := (h1.parts.2 y hy).1.lt e; omega
theorem GrF.poke {w0 wr w' : World} {ls : List (List Int)} {p g : Nat} (h : GrF w0 ls p g wr) (k : Kp [g] wr w') (hg : w0.heap.size ≤ g) : Gr w0 ls p w' := by
  obtain ⟨ao, m, c, lr, h1, h2, h3, f1, f2, f3⟩ := h
  refine ⟨ao, m, c, lr, ⟨k.heap h1.here (by simp; exact f1), h1.low, h1.parts.1.kept k (fun i hi hm => f2 (by simp at hm; rw [← hm]; exact hi)), fun y hy => ⟨(h1.parts.2 y hy).1.kept k (fun i hi hm => f3 y hy (by simp at hm; rw [← hm]; exact hi)), (h1.parts.2 y hy).2⟩⟩, h2, h3.then k (fun i hi => .inr (by simp at hi; omega))⟩
theorem grf_append (w0 : World) (ls : List (List Int)) (p g : Nat) (vx : Value) (x : List Int) (wr : World) (h : GrF w0 ls p g wr) (hgl : g < wr.heap.size) (hS : Sl wr vx x) (hB : Bs x) (hx : x.length ≤ 1000) (hn : ls.length + 1 ≤ 1000) (hm : ∀ x ∈ ls, x.length ≤ 1000) (hG : Gl w0) :
    Calls Tryd.prog 12 #[.pointer (some ⟨p, 0, none⟩), vx] wr fun e w' => e = .returned (.tuple #[]) ∧ GrF w0 (ls ++ [x]) p g w' ∧ ∃ S, g ∉ S ∧ Kp S wr w' := by
  obtain ⟨ao, m, c, lr, h1, h2, h3, f1, f2, f3⟩ := h
  have hl := map_len h2
  have hs := cnd_small ls (by omega)
  refine (append_any p _ ls.length w0.heap.size lr vx x (cndP 21 (ls ++ [x])) wr h1 (by rw [h2]; exact cndP_snoc 21 ls x (by omega)) hS hB hx (map_le h2 (cnd_le ls hm)) (by rw [hl]; exact cndP_tro 21 ls (by omega)) (by omega) (by omega) h3.size hG.pos (Gr.gl ⟨ao, m, c, lr, h1, h2, h3⟩ hG)).mono ?_
  rintro e w' ⟨rfl, ao2, m2, c2, l2, r2, s2, e2, hnew⟩
  refine ⟨rfl, ⟨ao2, m2, c2, l2, ?_, e2, s2.new h3 (fun i hi => h1.own i hi), f1, fun e => ?_, fun y hy e => ?_⟩, rfp p (.slice ao m c), fun hm => ?_, s2.1⟩
  · have : (ls ++ [x]).length = ls.length + 1 := by simp
    rw [this]; exact r2
  · rcases s2.2 g e with h4 | h4
    · exact f2 h4
    · omega
  · rcases hnew y hy with h4 | h4
    · exact f3 y h4 e
    · have := h4 g e; omega
  · simp only [rfp, List.mem_cons, Option.mem_toList] at hm
    rcases hm with h4 | h4
    · exact f1 h4.symm
    · exact f2 h4

/-- a row of slices whose bytes may have been written. -/
def Any7 (w : World) (vs : List Value) (v : Value) (W : World) : Prop := ∃ l, Parts W w.heap.size v l ∧ l.map (·.1) = vs ∧ Kp [] w W
theorem Row.poke {w : World} {base g k : Nat} {v : Value} {bs : List Int} (h : Row w base v bs) (hv : v.ownBlock = some g) (x : Int) : Row (w.setCell ⟨g, k, none⟩ (.int .u8 x)) base v (bs.set k x) := by
  rcases h.2 with ⟨rfl, _⟩ | ⟨g', cap, cur, rfl, hb, hg, _⟩
  · cases hv
  · cases hv
    have h1 : w.ownsRow base 5 1 (.slice (some ⟨g', 0, none⟩) bs.length cap) bs.length (bs.map (Value.int .u8)) := h
    have := (h1.stored k (.int .u8 x)).1
    unfold Row
    rw [List.length_set, List.map_set]
    exact this
theorem Any7.poke {w W : World} {vs : List Value} {v : Value} {g k : Nat} (h : Any7 w vs v W) (hg : w.heap.size ≤ g) (hv : v.ownBlock ≠ some g) (x : Int) (h0 : 0 ≤ x) (h1 : x ≤ 255) : Any7 w vs v (W.setCell ⟨g, k, none⟩ (.int .u8 x)) := by
  obtain ⟨l, hP, he, hK⟩ := h
  have K1 : Kp [g] W (W.setCell ⟨g, k, none⟩ (.int .u8 x)) := (Kp.refl [g] W).setCell (p := ⟨g, k, none⟩) (.inl (by simp)) _
  refine ⟨l.map (fun y => if y.1.ownBlock = some g then (y.1, y.2.set k x) else y), ⟨?_, fun y hy => ?_⟩, ?_, hK.setCell (p := ⟨g, k, none⟩) (.inr hg) _⟩
  · have e : (l.map (fun y => if y.1.ownBlock = some g then (y.1, y.2.set k x) else y)).map (·.1) = l.map (·.1) := by
      rw [List.map_map]
      refine List.map_congr_left (fun y _ => ?_)
      simp only [Function.comp]
      split <;> rfl
    rw [e]
    exact hP.1.kept K1 (fun i hi hm => hv (by simp at hm; rw [← hm]; exact hi))
  · obtain ⟨z, hz, rfl⟩ := List.mem_map.1 hy
    obtain ⟨z1, z2, z3⟩ := hP.2 z hz
    by_cases hc : z.1.ownBlock = some g
    · simp only [hc, if_true]
      exact ⟨z1.poke hc x, z2.set k x h0 h1, fun i hi => by cases hi; exact hv⟩
    · simp only [hc, if_false]
      exact ⟨z1.kept K1 (fun i hi hm => hc (by simp at hm; rw [← hm]; exact hi)), z2, z3⟩
  · rw [← he, List.map_map]
    refine List.map_congr_left (fun y _ => ?_)
    simp only [Function.comp]
    split <;> rfl
/-- what is known of one of them. -/
theorem Any7.at {w W : World} {vs : List Value} {ao : Option Addr} {m c : Nat} (h : Any7 w vs (.slice ao m c) W) (i : Nat) (hi : i < vs.length) : m = vs.length ∧ ∃ g ay ny cy, ao = some ⟨g, 0, none⟩ ∧ vs[i] = .slice ay ny cy ∧ W.cell? ⟨g, i, none⟩ = some (.slice ay ny cy) ∧
    ∀ k, k < ny → ∃ gy x, ay = some ⟨gy, 0, none⟩ ∧ w.heap.size ≤ gy ∧ ao ≠ some ⟨gy, 0, none⟩ ∧ gy ≠ g ∧ 0 ≤ x ∧ x ≤ 255 ∧ W.cell? ⟨gy, k, none⟩ = some (.int .u8 x) ∧ W.frozen? ⟨gy, k, none⟩ = false := by
  obtain ⟨l, hP, he, hK⟩ := h
  have hll : l.length = vs.length := by rw [← he]; simp
  have hm := hP.1.len
  have hil : i < l.length := by omega
  have e1 : vs[i] = (l[i]).1 := by simp [← he]
  rcases hP.1.2 with ⟨e0, h0⟩ | ⟨g, cap, cur, e0, _⟩
  · rw [List.length_map] at h0; omega
  · injection e0 with e0
    subst e0
    have hc := hP.1.cells (g := g) rfl i (l[i]).1 (by simp [List.getElem?_eq_getElem hil])
    rw [Addr.add_lit, Nat.zero_add] at hc
    obtain ⟨r1, r2, r3⟩ := hP.2 (l[i]) (List.getElem_mem hil)
    obtain ⟨ay, cy, ey⟩ := r1.shape
    refine ⟨by rw [hm]; simp [hll], g, ay, (l[i]).2.length, cy, rfl, by rw [e1, ey], by rw [← ey]; exact hc, fun k hk => ?_⟩
    rw [ey] at r1 r3
    obtain ⟨gy, eg, hb, _, hcell, hfr, _⟩ := r1.spot (by omega)
    subst eg
    have hbs := r2 _ (List.getElem_mem hk)
    exact ⟨gy, _, rfl, hb, fun e => r3 gy rfl (by rw [e]; rfl), fun e => r3 gy rfl (by rw [e]; rfl), hbs.1, hbs.2, hcell k hk, hfr k⟩

set_option maxRecDepth 100000 in
set_option maxHeartbeats 2000000 in
/-- each byte one more: of a row of one's own. -/
theorem bump_any (v : Value) (bs : List Int) (base : Nat) (w : World) (h : Row w base v bs) (hB : Bs bs) (hl : bs.length ≤ 1000) :
    Calls Tryd.prog 23 #[v] w fun e w' => e = .returned (.tuple #[]) ∧ Kp v.ownBlock.toList w w' := by
  obtain ⟨ao, c, ev⟩ := h.shape
  obtain ⟨N, hN⟩ : ∃ N, N = bs.length := ⟨_, rfl⟩
  rw [← hN] at ev hl
  subst ev
  have hNi : (N : Int) ≤ 1000 := by omega
  have H0 : Hid (∃ bs', bs'.length = N ∧ Bs bs' ∧ Row w base (.slice ao N c) bs') := ⟨bs, hN.symm, hB, h⟩
  clear h hB hN
  go_enter Tryd.func23, Tryd.ntmps23
  go_wp2_with fail
  go_loopw [2] (fun i wr => ∃ (k : Nat) (bs' : List Int), k ≤ N ∧ i = .int .i64 k ∧ bs'.length = N ∧ Bs bs' ∧ Row wr base (.slice ao N c) bs' ∧ Kp (Value.slice ao N c).ownBlock.toList w wr) (fun i _ => N - (intOf i).toNat)
  case atStart =>
    obtain ⟨bs', h1, h2, h3⟩ := unhide H0
    exact ⟨0, bs', by omega, rfl, h1, h2, h3, Kp.refl _ _⟩
  case round =>
    clear H0
    obtain ⟨k, bs', hk, rfl, h1, h2, h3, h4⟩ := hrel
    by_cases hlt : k < N
    · have hlt2 : (k : Int) < (N : Int) := by omega
      obtain ⟨g, rfl, hb, _, hcell, hfr, hset⟩ := h3.spot (by omega)
      have hkl : k < bs'.length := by omega
      have hc := hcell k hkl
      have hf := hfr k
      have hx := h2 _ (List.getElem_mem hkl)
      obtain ⟨x, hxx⟩ : ∃ x, x = bs'[k] := ⟨_, rfl⟩
      rw [← hxx] at hc hx
      obtain ⟨y, hy⟩ : ∃ y, y = IntKind.u8.wrap (x + 1) := ⟨_, rfl⟩
      have hy2 : 0 ≤ y ∧ y ≤ 255 := by rw [hy]; simp [IntKind.wrap, IntKind.signed, IntKind.bits]; omega
      have hR := hset k y
      rw [hy] at hR
      have HR := hide hR
      have HB2 : Hid (Bs (bs'.set k (IntKind.u8.wrap (x + 1)))) := by rw [← hy]; exact h2.set k y hy2.1 hy2.2
      have HK : Hid (Kp (Value.slice (some ⟨g, 0, none⟩) N c).ownBlock.toList w (wr.setCell ⟨g, k, none⟩ (.int .u8 (IntKind.u8.wrap (x + 1))))) := h4.setCell (p := ⟨g, k, none⟩) (.inl (by simp [Value.ownBlock])) _
      have HL : Hid ((bs'.set k (IntKind.u8.wrap (x + 1))).length = N) := hide (by rw [List.length_set]; exact h1)
      clear hcell hfr hset h1 h2 h3 h4 hkl hxx hx hy hy2 hR
      go_wp2_with fail
      go_roundw
      case rel => exact ⟨k + 1, _, by omega, by go_num, unhide HL, unhide HB2, unhide HR, unhide HK⟩
      case measure => simp [intOf]; omega
    · obtain rfl : N = k := by omega
      have HK := hide h4
      clear h1 h2 h3 h4
      go_wp2_with fail
      go_end0
      exact ⟨rfl, unhide HK⟩
end Go.Proofs.YtiabccgabbdedaaDoor
