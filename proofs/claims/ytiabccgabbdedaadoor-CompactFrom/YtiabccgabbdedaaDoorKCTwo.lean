/-
  Two ranges side by side.
-/
import Derived.Test.YtiabccgabbdedaaDoorKCGrow
namespace Go.Proofs.YtiabccgabbdedaaDoor
open Go.RowKit
open Go.Proofs

/-- a range that has these leaves' nodes. -/
def Rp (base : Nat) (ls : List (List Int)) (p : Nat) (v : Value) (wr : World) : Prop := ∃ lr, Rg wr base p v ls.length lr ∧ lr.map (·.2) = cndP 21 ls
/-- two ranges that share nothing. -/
def Gr2 (w0 : World) (la lb : List (List Int)) (p q : Nat) (wr : World) : Prop :=
  ∃ ao m c ao' m' c', Rp w0.heap.size la p (.slice ao m c) wr ∧ Rp w0.heap.size lb q (.slice ao' m' c') wr ∧ Kp [] w0 wr ∧ w0.heap.size ≤ p ∧ w0.heap.size ≤ q ∧ p ≠ q ∧ ∀ k, (Value.slice ao m c).ownBlock = some k → (Value.slice ao' m' c').ownBlock ≠ some k
theorem Gr2.swap {w0 wr : World} {la lb : List (List Int)} {p q : Nat} (h : Gr2 w0 la lb p q wr) : Gr2 w0 lb la q p wr := by
  obtain ⟨ao, m, c, ao', m', c', h1, h2, h3, h4, h5, h6, h7⟩ := h
  exact ⟨ao', m', c', ao, m, c, h2, h1, h3, h5, h4, h6.symm, fun k hk e => h7 k e hk⟩
theorem Gr2.mid {w0 wr w' : World} {la lb : List (List Int)} {p q : Nat} (h : Gr2 w0 la lb p q wr) (k : Kp [] wr w') : Gr2 w0 la lb p q w' := by
  obtain ⟨ao, m, c, ao', m', c', ⟨l1, h1, e1⟩, ⟨l2, h2, e2⟩, h3, h4, h5, h6, h7⟩ := h
  exact ⟨ao, m, c, ao', m', c', ⟨l1, h1.keptN k, e1⟩, ⟨l2, h2.keptN k, e2⟩, h3.trans k, h4, h5, h6, h7⟩
theorem Gr2.kp {w0 wr : World} {la lb : List (List Int)} {p q : Nat} (h : Gr2 w0 la lb p q wr) : Kp [] w0 wr := by
  obtain ⟨_, _, _, _, _, _, _, _, h3, _⟩ := h
  exact h3
theorem Gr2.left {w0 wr : World} {la lb : List (List Int)} {p q : Nat} (h : Gr2 w0 la lb p q wr) : Gr w0 la p wr := by
  obtain ⟨ao, m, c, ao', m', c', ⟨l1, h1, e1⟩, _, h3, _⟩ := h
  exact ⟨ao, m, c, l1, h1, e1, h3.mono (by simp)⟩
theorem Gr2.right {w0 wr : World} {la lb : List (List Int)} {p q : Nat} (h : Gr2 w0 la lb p q wr) : Gr w0 lb q wr := h.swap.left
theorem gr2_append (w0 : World) (la lb : List (List Int)) (p q : Nat) (vx : Value) (x : List Int) (wr : World) (h : Gr2 w0 la lb p q wr) (hS : Sl wr vx x) (hB : Bs x) (hx : x.length ≤ 1000) (hn : la.length + 1 ≤ 1000) (hm : ∀ x ∈ la, x.length ≤ 1000) (hG : Gl w0) :
    Calls Tryd.prog 12 #[.pointer (some ⟨p, 0, none⟩), vx] wr fun e w' => e = .returned (.tuple #[]) ∧ Gr2 w0 (la ++ [x]) lb p q w' := by
  obtain ⟨ao, m, c, ao', m', c', ⟨l1, h1, e1⟩, ⟨l2, h2, e2⟩, h3, h4, h5, h6, h7⟩ := h
  have hl := map_len e1
  have hs := cnd_small la (by omega)
  refine (append_any p _ la.length w0.heap.size l1 vx x (cndP 21 (la ++ [x])) wr h1 (by rw [e1]; exact cndP_snoc 21 la x (by omega)) hS hB hx (map_le e1 (cnd_le la hm)) (by rw [hl]; exact cndP_tro 21 la (by omega)) (by omega) (by omega) h3.size hG.pos (hG.kept h3 (by simp))).mono ?_
  rintro e w' ⟨rfl, ao2, m2, c2, l3, r2, s2, e3, -⟩
  have key : ∀ i ∈ rfp p (.slice ao m c), (∃ cc, wr.heap[i]? = some (.cells cc 49 (0, 0)) ∧ i = p) ∨ (∃ cc, wr.heap[i]? = some (.cells cc 28 (0, 0)) ∧ (Value.slice ao m c).ownBlock = some i) := fun i hi => by
    simp only [rfp, List.mem_cons, Option.mem_toList] at hi
    rcases hi with rfl | hi
    · exact .inl ⟨_, h1.here, rfl⟩
    · obtain ⟨cc, hc⟩ := rowv_type h1.parts.1 hi
      exact .inr ⟨cc, hc, hi⟩
  have kept2 : Rg w' w0.heap.size q (.slice ao' m' c') lb.length l2 := by
    refine h2.kept s2.1 (fun hm => ?_) (fun i hi hm => ?_) (fun i hm cc hc => ?_)
    · rcases key q hm with ⟨cc, _, e⟩ | ⟨cc, hc, _⟩
      · exact h6 e.symm
      · rw [h2.here] at hc
        injection hc with e
        injection e with _ e
        cases e
    · rcases key i hm with ⟨cc, hc, _⟩ | ⟨cc, _, e⟩
      · obtain ⟨c3, hc3⟩ := rowv_type h2.parts.1 hi
        rw [hc] at hc3
        injection hc3 with e
        injection e with _ e
        cases e
      · exact h7 i e hi
    · rcases key i hm with ⟨c3, hc3, _⟩ | ⟨c3, hc3, _⟩
      · rw [hc] at hc3
        injection hc3 with e
        injection e with _ e
        cases e
      · rw [hc] at hc3
        injection hc3 with e
        injection e with _ e
        cases e
  refine ⟨rfl, ao2, m2, c2, ao', m', c', ⟨l3, ?_, e3⟩, ⟨l2, kept2, e2⟩, ?_, h4, h5, h6, fun k hk => ?_⟩
  · have : (la ++ [x]).length = la.length + 1 := by simp
    rw [this]; exact r2
  · exact (s2.new (h3.mono (by simp)) (fun i hi => h1.own i hi)).shed h4
  · rcases s2.2 k hk with h8 | h8
    · exact h7 k h8
    · intro e
      have := h2.parts.1.lt e
      omega
theorem gr2_from {w0 wr w1 w2 : World} {la lb : List (List Int)} {p q : Nat} (h : Gr2 w0 la lb p q wr) (k : Kp [] wr w1) (f : FromAt w1 lb.length (cndP 21 lb) w2) : Gr2 w0 la lb p w1.heap.size w2 := by
  obtain ⟨ao, m, c, ao', m', c', ⟨l1, h1, e1⟩, _, h3, h4, h5, h6, h7⟩ := h
  obtain ⟨a2, m2, c2, l2, r2, e2, k2⟩ := f
  have hk := k.trans k2
  have hsz := h3.size
  have hsz2 := k.size
  refine ⟨ao, m, c, a2, m2, c2, ⟨l1, h1.keptN hk, e1⟩, ⟨l2, ⟨r2.here, r2.low, r2.parts.rebase (h3.trans k)⟩, e2⟩, h3.trans hk, h4, by omega, fun e => ?_, fun i hi e => ?_⟩
  · have := h1.lt; omega
  · have h8 := h1.parts.1.lt hi
    have h9 := r2.parts.1.own i e
    omega
theorem gr2_new {w0 w1 w2 : World} {p q : Nat} (hr : ∀ base, Rg w1 base p (.slice none 0 0) 0 []) (hq : ∀ base, Rg w2 base q (.slice none 0 0) 0 []) (k1 : Kp [] w0 w1) (k2 : Kp [] w1 w2) (h1 : w0.heap.size ≤ p) (h2 : p < w1.heap.size) (h3 : w1.heap.size ≤ q) : Gr2 w0 [] [] p q w2 :=
  ⟨none, 0, 0, none, 0, 0, ⟨[], (hr _).keptN k2, (cndP_nil 21).symm⟩, ⟨[], hq _, (cndP_nil 21).symm⟩, k1.trans k2, h1, by have := k1.size; omega, by omega, fun k hk => by cases hk⟩
end Go.Proofs.YtiabccgabbdedaaDoor
