/-
  Rows of a call's own of things of a fixed number of cells, each of which is told of; how they grow.
-/
import Derived.Test.YtfepkcjelecpkaaQOBatchNumbers1
import Derived.Test.YtfepkcjelecpkaaQC3
namespace Go.Proofs.Ytfepkcjelecpkaa
open Go.RowKit
open Go.Proofs
theorem flatN_at (sz : Nat) (xs : List (List Value)) (h : ∀ x ∈ xs, x.length = sz) : ∀ (i c : Nat) (hi : i < xs.length), c < sz → xs.flatten[i * sz + c]? = xs[i][c]? := by
  induction xs with
  | nil => intro i c hi; cases hi
  | cons x xs ih =>
    intro i c hi hc
    have hx : x.length = sz := h x (by simp)
    cases i with
    | zero =>
      rw [List.flatten_cons, List.getElem?_append_left (by omega)]
      simp
    | succ i =>
      have e : (i + 1) * sz + c - x.length = i * sz + c := by rw [Nat.add_mul, hx]; omega
      rw [List.flatten_cons, List.getElem?_append_right (by rw [Nat.add_mul, hx]; omega), e, ih (fun y hy => h y (by simp [hy])) i c (by simpa using hi) hc]
      simp
/-- a row of the call's own of things of sz cells. -/
def RowX (T : TypeId) (sz : Nat) (w : World) (base : Nat) (v : Value) (xs : List (List Value)) : Prop := w.ownsRow base T sz v xs.length xs.flatten ∧ ∀ x ∈ xs, x.length = sz
section
variable {T : TypeId} {sz : Nat} {w w' : World} {base : Nat} {v : Value} {xs : List (List Value)}
theorem RowX.shape (h : RowX T sz w base v xs) : ∃ ao c, v = .slice ao xs.length c := by
  rcases h.1.2 with ⟨rfl, h0⟩ | ⟨g, cap, cur, rfl, _⟩
  · exact ⟨none, 0, by rw [h0]⟩
  · exact ⟨_, _, rfl⟩
theorem RowX.block (h : RowX T sz w base v xs) : ∀ k, v.ownBlock = some k → base ≤ k ∧ k < w.heap.size ∧ ∃ cur, w.heap[k]? = some (.cells cur T (0, 0)) := by
  intro k hk
  rcases h.1.2 with ⟨rfl, _⟩ | ⟨g, cap, cur, rfl, hb, hg, _⟩
  · cases hk
  · cases hk; exact ⟨hb, lt_of_block hg, cur, hg⟩
theorem RowX.kept {S' : List Nat} (h : RowX T sz w base v xs) (k : Kp S' w w') (hv : ∀ i, v.ownBlock = some i → i ∉ S') : RowX T sz w' base v xs := ⟨k.owns h.1 hv, h.2⟩
theorem RowX.at (h : RowX T sz w base v xs) (h0 : 0 < xs.length) : ∃ g c, v = .slice (some ⟨g, 0, none⟩) xs.length c ∧ ∀ i (hi : i < xs.length), w.rangeAt g (i * sz) xs[i] := by
  have h1 := h.1
  rcases h1.2 with ⟨_, hz⟩ | ⟨g, cap, cur, rfl, hb, hg, _⟩
  · omega
  · refine ⟨g, cap, rfl, fun i hi j u hu => ?_⟩
    have hl : xs[i].length = sz := h.2 _ (List.getElem_mem hi)
    have hj : j < sz := by have := (List.getElem?_eq_some_iff.1 hu).1; omega
    have hb : i * sz + j < xs.length * sz := by
      have : (i + 1) * sz ≤ xs.length * sz := Nat.mul_le_mul_right sz hi
      rw [Nat.add_mul] at this
      omega
    rw [h1.cellAt (i * sz + j) hb, flatN_at sz xs h.2 i j hi hj]
    exact hu
theorem RowX.nil (w : World) (base : Nat) : RowX T sz w base (.slice none 0 0) [] := ⟨⟨by simp, .inl ⟨rfl, rfl⟩⟩, fun x hx => by cases hx⟩
end
/-- a row of n things, begun when the world was w: thing j is as P tells, whatever becomes of the row's own block. -/
def RowQ (T : TypeId) (sz : Nat) (P : Nat → World → List Value → Prop) (n : Nat) (w : World) (v : Value) (wr : World) : Prop :=
  (∃ xs, RowX T sz wr w.heap.size v xs ∧ xs.length = n ∧ ∀ j (hj : j < xs.length) w2, Kp v.ownBlock.toList wr w2 → P j w2 xs[j]) ∧ Kp [] w wr
section
variable {T : TypeId} {sz : Nat} {P : Nat → World → List Value → Prop} {n : Nat} {w wr w2 : World} {v : Value}
theorem RowQ.kp (h : RowQ T sz P n w v wr) : Kp [] w wr := h.2
theorem RowQ.kept (h : RowQ T sz P n w v wr) (k : Kp [] wr w2) : RowQ T sz P n w v w2 := by
  obtain ⟨⟨xs, h1, h2, h3⟩, h4⟩ := h
  exact ⟨⟨xs, h1.kept k (by simp), h2, fun j hj w3 k3 => h3 j hj w3 ((k.mono (by simp)).trans k3)⟩, h4.trans k⟩
theorem RowQ.nil (w : World) : RowQ T sz P 0 w (.slice none 0 0) w := ⟨⟨[], RowX.nil w _, rfl, fun j hj => by cases hj⟩, Kp.refl _ _⟩
theorem RowQ.shape (h : RowQ T sz P n w v wr) : ∃ ao c, v = .slice ao n c := by
  obtain ⟨⟨xs, h1, h2, _⟩, _⟩ := h
  obtain ⟨ao, c, e⟩ := h1.shape
  exact ⟨ao, c, by rw [e, h2]⟩
theorem RowQ.own (h : RowQ T sz P n w v wr) : ∀ k, v.ownBlock = some k → w.heap.size ≤ k ∧ k < wr.heap.size := by
  obtain ⟨⟨xs, h1, h2, _⟩, _⟩ := h
  exact fun k hk => ⟨(h1.block k hk).1, (h1.block k hk).2.1⟩
theorem RowQ.at (h : RowQ T sz P n w v wr) (j : Nat) (hj : j < n) : ∃ g c x, v = .slice (some ⟨g, 0, none⟩) n c ∧ x.length = sz ∧ wr.rangeAt g (j * sz) x ∧ P j wr x := by
  obtain ⟨⟨xs, h1, h2, h3⟩, _⟩ := h
  subst h2
  obtain ⟨g, c, e, h4⟩ := h1.at (by omega)
  exact ⟨g, c, xs[j], e, h1.2 _ (List.getElem_mem hj), h4 j hj, h3 j hj wr (Kp.refl _ _)⟩
theorem RowQ.imp {P' : Nat → World → List Value → Prop} (h : RowQ T sz P n w v wr) (hP : ∀ j w x, j < n → P j w x → P' j w x) : RowQ T sz P' n w v wr := by
  obtain ⟨⟨xs, h1, h2, h3⟩, h4⟩ := h
  exact ⟨⟨xs, h1, h2, fun j hj w2 k2 => hP j w2 _ (by omega) (h3 j hj w2 k2)⟩, h4⟩
theorem RowQ.after {w0 : World} (h : RowQ T sz P n w v wr) (k : Kp [] w0 w) : RowQ T sz P n w0 v wr := by
  obtain ⟨⟨xs, h1, h2, h3⟩, h4⟩ := h
  exact ⟨⟨xs, ⟨owns_rebase h1.1 (fun i hi => Nat.le_trans k.size (h1.block i hi).1), h1.2⟩, h2, h3⟩, k.trans h4⟩
end
end Go.Proofs.Ytfepkcjelecpkaa
