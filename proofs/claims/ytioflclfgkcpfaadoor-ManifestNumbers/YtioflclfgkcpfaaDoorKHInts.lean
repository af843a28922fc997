/-
  Slices of ints, and rows of slices that a call owns.
-/
import Derived.Test.YtioflclfgkcpfaaDoorKHAux
import Derived.Test.YtioflclfgkcpfaaDoorKLs
namespace Go.Proofs.YtioflclfgkcpfaaDoor
open Go.ChangeShapes Go.WideShapes Go.ChangeAt Go.RowKit
open Go.Deep

/-- v is a slice that reads as these ints. -/
def Ints (w : World) (v : Value) (l : List Int) : Prop :=
  ∃ ao c, v = .slice ao l.length c ∧ l.length ≤ maxLen ∧ (∀ x ∈ l, -9223372036854775808 ≤ x ∧ x ≤ 9223372036854775807) ∧ ∀ i (h : i < l.length), ∃ a, ao = some a ∧ w.cell? (a.add i) = some (.int .i64 l[i])
theorem Ints.kept {w w' : World} {v : Value} {l : List Int} (h : Ints w v l) (k : Kp [] w w') : Ints w' v l := by
  obtain ⟨ao, c, rfl, h1, h0, h2⟩ := h
  refine ⟨ao, c, rfl, h1, h0, fun i hi => ?_⟩
  obtain ⟨a, e, h3⟩ := h2 i hi
  exact ⟨a, e, k.cell h3 (by simp)⟩

theorem Tryd.infoSl : (Tryd.prog.info? 23).map (fun i => (i.zero, i.size, i.bytes)) = some (some (.slice none 0 0), 1, 24) := by kernel_rfl
/-- The row v of values of slices, of the call's own from base on. -/
def RowV (w : World) (base : Nat) (v : Value) (xs : List Value) : Prop := w.ownsRow base 23 1 v xs.length xs
theorem RowV.shape {w : World} {base : Nat} {v : Value} {xs : List Value} (h : RowV w base v xs) : ∃ ao c, v = .slice ao xs.length c := owns_shape h
theorem RowV.own {w : World} {base : Nat} {v : Value} {xs : List Value} (h : RowV w base v xs) : ∀ k, v.ownBlock = some k → base ≤ k := by
  intro k hk
  rcases h.2 with ⟨rfl, _⟩ | ⟨g, cap, cur, rfl, hb, _⟩
  · cases hk
  · cases hk; exact hb
theorem RowV.step {w w1 w2 : World} {v v' : Value} {xs : List Value} (h : RowV w1 w.heap.size v xs) (k : Kp [] w w1) (s : RStep w1 v w2 v') : Kp [] w w2 :=
  k.then s.1 (fun i hi => .inr (h.own i (by simpa using hi)))
theorem RowV.len {w : World} {base m c : Nat} {ao : Option Addr} {xs : List Value} (h : RowV w base (.slice ao m c) xs) : m = xs.length := by
  obtain ⟨_, _, e⟩ := h.shape; cases e; rfl
theorem RowV.kept {w w' : World} {base : Nat} {v : Value} {xs : List Value} {S : List Nat} (h : RowV w base v xs) (k : Kp S w w') (hv : ∀ i, v.ownBlock = some i → i ∉ S) : RowV w' base v xs := k.owns h hv

/-- append of slices that lie in a block of their own, onto such a row. -/
theorem wpList_append_rowv {w : World} {ops : Array Oper} {rest : List Oper} {o : Oper} {a : Act} {Q : Exit → Act → World → Prop} (hgd : o.guard = none) (s x : Operand)
    (ho : o.op = .call { callee := .builtin .append, args := #[s, x], argTypes := #[73, 73] }) (base : Nat) (v : Value) (xs : List Value) (hs : a.eval s = v) (hrow : RowV w base v xs)
    (ad : Addr) (c : Nat) (ys : List Value) (hx : a.eval x = .slice (some ad) ys.length c) (hy : ∀ j u, ys[j]? = some u → w.cell? (ad.add j) = some u) (h1 : ∀ u ∈ ys, u.oneCell' = true) (hb : xs.length + ys.length ≤ 1000000000) (hbase : base ≤ w.heap.size)
    (h : ∀ ao m c w', RowV w' base (.slice ao m c) (xs ++ ys) → RStep w v w' (.slice ao m c) → wpList Tryd.prog ops Q rest (a.put o.dst (.slice ao m c)) w') : wpList Tryd.prog ops Q (o :: rest) a w := by
  obtain ⟨i0, hi0, hz0, hz1, hz2⟩ := info_parts Tryd.infoSl
  obtain ⟨av, cv, rfl⟩ := hrow.shape
  refine wpList_append_own_at w hgd s x 73 ho base 23 i0 (.slice none 0 0) 1 24 Tryd.underlying73 hi0 hz0 hz1 hz2 rfl (by decide) _ xs.length xs hs hrow ad ys.length c ys hx (by simp) hy h1 (by unfold maxLen; omega) (by omega) hbase ?_
  intro v' w1 hown hgrow _ hat
  have R : RowV w1 base v' (xs ++ ys) := by unfold RowV; rw [List.length_append]; exact hown
  obtain ⟨ao', c', hv⟩ := R.shape
  subst hv
  refine h ao' _ c' w1 R ⟨(Kp.refl _ w).grown hgrow (fun k hk => .inl (by simp [hk])), fun k hk => ?_⟩
  rcases hat with e | e
  · exact .inl (e ▸ hk)
  · rw [e] at hk; cases hk; exact .inr (Nat.le_refl _)
/-- Such a row as a slice of slices. -/
theorem lists_of_rowv {w : World} {base : Nat} {v : Value} {l : List (Value × List Int)} (h : RowV w base v (l.map (·.1))) (hl : l.length ≤ 1000) (hS : ∀ x ∈ l, Sl w x.1 x.2 ∧ Bs x.2) : Lists w v l := by
  rcases h.2 with ⟨rfl, h0⟩ | ⟨g, cap, cur, rfl, _⟩
  · have : l = [] := List.eq_nil_of_length_eq_zero (by simpa using h0)
    subst this
    exact lists_nil w none 0
  · refine ⟨some ⟨g, 0, none⟩, cap, by simp, by omega, fun i hi => ⟨g, 0, rfl, ?_, (hS _ (List.getElem_mem hi)).1, (hS _ (List.getElem_mem hi)).2⟩⟩
    have := h.cells (g := g) rfl i l[i].1 (by simp [List.getElem?_eq_getElem hi])
    simpa [Addr.add_lit] using this
theorem cat_snoc (l : List (Value × List Int)) (x : Value × List Int) : cat (l ++ [x]) = cat l ++ x.2 := by simp [cat]
theorem take_cut (bs : List Int) (i k : Nat) (h : i ≤ k) : bs.take i ++ (bs.drop i).take (k - i) = bs.take k := by
  have e := List.take_append_drop i (bs.take k)
  rw [List.take_take, Nat.min_eq_left h, List.drop_take] at e
  exact e
theorem Sl.span {w : World} {ao : Option Addr} {len c : Nat} {bs : List Int} (h : Sl w (.slice ao len c) bs) (i k : Nat) (hi : i ≤ k) (hk : k ≤ bs.length) : Sl w (.slice (if c = i then ao else ao.map (·.add i)) (k - i) (c - i)) ((bs.drop i).take (k - i)) := by
  have h1 := h.drop i (by omega)
  have h2 := Sl.take h1 (k - i) (by simp; omega)
  exact h2
theorem run_span (ao : Option Addr) (n c p k : Nat) (w : World) (h1 : p ≤ k) (h2 : k ≤ c) (h4 : ao = none → c = 0) :
    (Instr.sliceAt 23 (.slice ao n c) (some (.int .i64 p)) (some (.int .i64 k)) none).run Tryd.prog w = .ok (.slice (if c = p then ao else ao.map (·.add p)) (k - p) (c - p)) w := by
  have e1 : (0 : Int) ≤ (p : Int) := by omega
  have e2 : (p : Int) ≤ (k : Int) := by omega
  have e3 : (k : Int) ≤ (c : Int) := by omega
  by_cases hc : c = p
  · rw [if_pos hc]
    subst hc
    simp [go_sem, e2, e3]
  · rw [if_neg hc]
    cases ao with
    | none => have := h4 rfl; omega
    | some a => simp [go_sem, e2, e3, hc]
theorem run_from (ao : Option Addr) (n c p : Nat) (w : World) (h1 : p ≤ n) (h2 : n ≤ c) (h4 : ao = none → c = 0) :
    (Instr.sliceAt 23 (.slice ao n c) (some (.int .i64 p)) none none).run Tryd.prog w = .ok (.slice (if c = p then ao else ao.map (·.add p)) (n - p) (c - p)) w := by
  have e2 : (p : Int) ≤ (n : Int) := by omega
  by_cases hc : c = p
  · rw [if_pos hc]
    subst hc
    simp [go_sem, e2]
  · rw [if_neg hc]
    cases ao with
    | none => have := h4 rfl; omega
    | some a => simp [go_sem, e2, hc]
end Go.Proofs.YtioflclfgkcpfaaDoor
