/-
  Helpers of the laws: Cut, Within; how an argument that is a row of bytes is read; what the laid table gives.
-/
import Derived.LaidMore
import Derived.Lib.SmallJoins
import Derived.Stop.Joined
import Derived.Test.YteabdojjllfcpaaGreatRows
import Derived.Test.YteabdojjllfcpaaGreatQC11
namespace Go.Proofs.YteabdojjllfcpaaGreat
open Go.ChangeShapes Go.WideShapes Go.ChangeAt Go.RowKit
open Go.Deep
section
variable {H : Type} {enc : TypeId × Value → H} {w : World}
end
theorem own : ownKnob Tryz.prog.godebug = none := by kernel_rfl
end Go.Proofs.YteabdojjllfcpaaGreat

/-
  Slices of ints, and rows of slices that a call owns.
-/
namespace Go.Proofs.YteabdojjllfcpaaGreat
open Go.ChangeShapes Go.WideShapes Go.ChangeAt Go.RowKit
open Go.Deep
/-- v is a slice that reads as these ints. -/
def Ints (w : World) (v : Value) (l : List Int) : Prop :=
  ∃ ao c, v = .slice ao l.length c ∧ l.length ≤ maxLen ∧ (∀ x ∈ l, -9223372036854775808 ≤ x ∧ x ≤ 9223372036854775807) ∧ ∀ i (h : i < l.length), ∃ a, ao = some a ∧ w.cell? (a.add i) = some (.int .i64 l[i])
theorem Ints.kept {w w' : World} {v : Value} {l : List Int} (h : Ints w v l) (k : Kp [] w w') : Ints w' v l := by
  obtain ⟨ao, c, rfl, h1, h0, h2⟩ := h
  refine ⟨ao, c, rfl, h1, h0, fun i hi => ?_⟩
  obtain ⟨a, e, h3⟩ := h2 i hi
  exact ⟨a, e, k.cell h3 (by simp)⟩
section
variable {H : Type} {enc : TypeId × Value → H} {w : World}
end
theorem Tryz.infoSl : (Tryz.prog.info? 28).map (fun i => (i.zero, i.size, i.bytes)) = some (some (.slice none 0 0), 1, 24) := by kernel_rfl
/-- The row v of values of slices, of the call's own from base on. -/
def RowV (w : World) (base : Nat) (v : Value) (xs : List Value) : Prop := w.ownsRow base 28 1 v xs.length xs
theorem RowV.shape {w : World} {base : Nat} {v : Value} {xs : List Value} (h : RowV w base v xs) : ∃ ao c, v = .slice ao xs.length c := owns_shape h
theorem RowV.own {w : World} {base : Nat} {v : Value} {xs : List Value} (h : RowV w base v xs) : ∀ k, v.ownBlock = some k → base ≤ k := by
  intro k hk
  rcases h.2 with ⟨rfl, _⟩ | ⟨g, cap, cur, rfl, hb, _⟩
  · cases hk
  · cases hk; exact hb
theorem RowV.step {w w1 w2 : World} {v v' : Value} {xs : List Value} (h : RowV w1 w.heap.size v xs) (k : Kp [] w w1) (s : RStep w1 v w2 v') : Kp [] w w2 :=
  k.then s.1 (fun i hi => .inr (h.own i (by simpa using hi)))
theorem RowV.len {w : World} {base m c : Nat} {ao : Option Addr} {xs : List Value} (h : RowV w base (.slice ao m c) xs) : m = xs.length := by
  obtain ⟨_, _, e⟩ := h.shape; cases e; rfl
theorem RowV.kept {w w' : World} {base : Nat} {v : Value} {xs : List Value} {S : List Nat} (h : RowV w base v xs) (k : Kp S w w') (hv : ∀ i, v.ownBlock = some i → i ∉ S) : RowV w' base v xs := k.owns h hv
/-- append of slices that lie in a block of their own, onto such a row. -/
theorem wpList_append_rowv {w : World} {ops : Array Oper} {rest : List Oper} {o : Oper} {a : Act} {Q : Exit → Act → World → Prop} (hgd : o.guard = none) (s x : Operand)
    (ho : o.op = .call { callee := .builtin .append, args := #[s, x], argTypes := #[47, 47] }) (base : Nat) (v : Value) (xs : List Value) (hs : a.eval s = v) (hrow : RowV w base v xs)
    (ad : Addr) (c : Nat) (ys : List Value) (hx : a.eval x = .slice (some ad) ys.length c) (hy : ∀ j u, ys[j]? = some u → w.cell? (ad.add j) = some u) (h1 : ∀ u ∈ ys, u.oneCell' = true) (hb : xs.length + ys.length ≤ 1000000000) (hbase : base ≤ w.heap.size)
    (h : ∀ ao m c w', RowV w' base (.slice ao m c) (xs ++ ys) → RStep w v w' (.slice ao m c) → wpList Tryz.prog ops Q rest (a.put o.dst (.slice ao m c)) w') : wpList Tryz.prog ops Q (o :: rest) a w := by
  obtain ⟨i0, hi0, hz0, hz1, hz2⟩ := info_parts Tryz.infoSl
  obtain ⟨av, cv, rfl⟩ := hrow.shape
  refine wpList_append_own_at w hgd s x 47 ho base 28 i0 (.slice none 0 0) 1 24 Tryz.underlying47 hi0 hz0 hz1 hz2 rfl (by decide) _ xs.length xs hs hrow ad ys.length c ys hx (by simp) hy h1 (by unfold maxLen; omega) (by omega) hbase ?_
  intro v' w1 hown hgrow _ hat
  have R : RowV w1 base v' (xs ++ ys) := by unfold RowV; rw [List.length_append]; exact hown
  obtain ⟨ao', c', hv⟩ := R.shape
  subst hv
  refine h ao' _ c' w1 R ⟨(Kp.refl _ w).grown hgrow (fun k hk => .inl (by simp [hk])), fun k hk => ?_⟩
  rcases hat with e | e
  · exact .inl (e ▸ hk)
  · rw [e] at hk; cases hk; exact .inr (Nat.le_refl _)
/-- Such a row as a slice of slices. -/
theorem lists_of_rowv {w : World} {base : Nat} {v : Value} {l : List (Value × List Int)} (h : RowV w base v (l.map (·.1))) (hl : l.length ≤ 1000) (hS : ∀ x ∈ l, Sl w x.1 x.2 ∧ Bs x.2) : Lists w v l := by
  rcases h.2 with ⟨rfl, h0⟩ | ⟨g, cap, cur, rfl, _⟩
  · have : l = [] := List.eq_nil_of_length_eq_zero (by simpa using h0)
    subst this
    exact lists_nil w none 0
  · refine ⟨some ⟨g, 0, none⟩, cap, by simp, by omega, fun i hi => ⟨g, 0, rfl, ?_, (hS _ (List.getElem_mem hi)).1, (hS _ (List.getElem_mem hi)).2⟩⟩
    have := h.cells (g := g) rfl i l[i].1 (by simp [List.getElem?_eq_getElem hi])
    simpa [Addr.add_lit] using this
end Go.Proofs.YteabdojjllfcpaaGreat

/-
  Lists of one and of two; rows of slices of a call's own, how they grow.
-/
namespace Go.Proofs.YteabdojjllfcpaaGreat
open Go.RowKit
open Go.Proofs
theorem lists1 {w : World} {v : Value} {bs : List Int} (h : Sl w v bs) (hB : Bs bs) : Lists (w.alloc (.cells #[v] 28)) (.slice (some ⟨w.heap.size, 0, none⟩) 1 1) [(v, bs)] :=
  lists_of_block (l := [(v, bs)]) (t := 28) (fr := (0, 0)) (heap_alloc_new w _) (by simp) (fun x hx => by
    obtain rfl : x = (v, bs) := by simpa using hx
    exact ⟨h.kept ((Kp.refl [] w).alloc _) (by simp), hB⟩)
theorem cat1 (v : Value) (bs : List Int) : cat [(v, bs)] = bs := by simp [cat]
theorem lists2 {w : World} {v u : Value} {bs cs : List Int} (h : Sl w v bs) (hB : Bs bs) (k : Sl w u cs) (hC : Bs cs) : Lists (w.alloc (.cells #[v, u] 28)) (.slice (some ⟨w.heap.size, 0, none⟩) 2 2) [(v, bs), (u, cs)] :=
  lists_of_block (l := [(v, bs), (u, cs)]) (t := 28) (fr := (0, 0)) (heap_alloc_new w _) (by simp) (fun x hx => by
    rcases (by simpa using hx : x = (v, bs) ∨ x = (u, cs)) with rfl | rfl
    · exact ⟨h.kept ((Kp.refl [] w).alloc _) (by simp), hB⟩
    · exact ⟨k.kept ((Kp.refl [] w).alloc _) (by simp), hC⟩)
theorem row_new {w w0 w' : World} {v : Value} {bs : List Int} (h : Row w' w0.heap.size v bs) (k : Kp [] w w0) : Row w' w.heap.size v bs :=
  owns_rebase h (fun i hi => Nat.le_trans k.size (Row.own h i hi))
theorem Row.lt {w : World} {base k : Nat} {v : Value} {bs : List Int} (h : Row w base v bs) (hk : v.ownBlock = some k) : k < w.heap.size := by
  rcases h.2 with ⟨rfl, _⟩ | ⟨g, cap, cur, rfl, hb, hg, _⟩
  · cases hk
  · cases hk; exact (Array.getElem?_eq_some_iff.1 hg).1
theorem RowV.lt {w : World} {base k : Nat} {v : Value} {xs : List Value} (h : RowV w base v xs) (hk : v.ownBlock = some k) : k < w.heap.size := by
  rcases h.2 with ⟨rfl, _⟩ | ⟨g, cap, cur, rfl, hb, hg, _⟩
  · cases hk
  · cases hk; exact (Array.getElem?_eq_some_iff.1 hg).1
/-- v is a row of slices, all of the call's own, each apart from it. -/
def Parts (w : World) (base : Nat) (v : Value) (l : List (Value × List Int)) : Prop :=
  RowV w base v (l.map (·.1)) ∧ ∀ x ∈ l, Row w base x.1 x.2 ∧ Bs x.2 ∧ ∀ k, x.1.ownBlock = some k → v.ownBlock ≠ some k
theorem Parts.kept {w w' : World} {base : Nat} {v : Value} {l : List (Value × List Int)} (h : Parts w base v l) (k : Kp [] w w') : Parts w' base v l :=
  ⟨h.1.kept k (by simp), fun x hx => ⟨(h.2 x hx).1.kept k (by simp), (h.2 x hx).2⟩⟩
theorem Parts.lists {w : World} {base : Nat} {v : Value} {l : List (Value × List Int)} (h : Parts w base v l) (hl : l.length ≤ 1000) : Lists w v l :=
  lists_of_rowv h.1 hl (fun x hx => ⟨(h.2 x hx).1.sl, (h.2 x hx).2.1⟩)
theorem Parts.rebase {w w0 w' : World} {v : Value} {l : List (Value × List Int)} (h : Parts w' w0.heap.size v l) (k : Kp [] w w0) : Parts w' w.heap.size v l :=
  ⟨owns_rebase h.1 (fun i hi => Nat.le_trans k.size (h.1.own i hi)), fun x hx => ⟨row_new (h.2 x hx).1 k, (h.2 x hx).2⟩⟩
theorem Parts.snoc {wr w2 w3 w4 : World} {base : Nat} {v v' : Value} {l : List (Value × List Int)} {x : Value × List Int} (h : Parts wr base v l) (k : Kp [] wr w2) (hx : Row w2 wr.heap.size x.1 x.2) (hb : Bs x.2) (k3 : Kp [] w2 w3)
    (r : RowV w4 base v' (l.map (·.1) ++ [x.1])) (s : RStep w3 v w4 v') (hbase : base ≤ wr.heap.size) : Parts w4 base v' (l ++ [x]) := by
  refine ⟨by rw [List.map_append]; exact r, fun y hy => ?_⟩
  rcases List.mem_append.1 hy with hy | hy
  · obtain ⟨h1, h2, h3⟩ := h.2 y hy
    refine ⟨((h1.kept k (by simp)).kept k3 (by simp)).kept s.1 (fun i hi hm => h3 i hi (by simpa using hm)), h2, fun i hi hv => ?_⟩
    rcases s.2 i hv with h4 | h4
    · exact h3 i hi h4
    · have := h1.lt hi
      have := k.size
      have := k3.size
      omega
  · obtain rfl : y = x := by simpa using hy
    have hlt : ∀ i, y.1.ownBlock = some i → i < w3.heap.size := fun i hi => by have := hx.lt hi; have := k3.size; omega
    have hne : ∀ i, y.1.ownBlock = some i → v.ownBlock ≠ some i := fun i hi hv => by have := h.1.lt hv; have := hx.own i hi; omega
    refine ⟨owns_rebase ((hx.kept k3 (by simp)).kept s.1 (fun i hi hm => hne i hi (by simpa using hm))) (fun i hi => Nat.le_trans hbase (hx.own i hi)), hb, fun i hi hv => ?_⟩
    rcases s.2 i hv with h4 | h4
    · exact hne i hi h4
    · have := hlt i hi; omega
/-- what is gathered so far. -/
def Acc (w : World) (ls : List (List Int)) (v : Value) (wr : World) : Prop := ∃ l, Parts wr w.heap.size v l ∧ l.map (·.2) = ls ∧ Kp [] w wr
theorem Acc.mid {w wr w2 : World} {ls : List (List Int)} {v : Value} (h : Acc w ls v wr) (k : Kp [] wr w2) : Acc w ls v w2 := by
  obtain ⟨l, h1, h2, h3⟩ := h
  exact ⟨l, h1.kept k, h2, h3.trans k⟩
theorem Acc.kp {w wr : World} {ls : List (List Int)} {v : Value} (h : Acc w ls v wr) : Kp [] w wr := by obtain ⟨_, _, _, h3⟩ := h; exact h3
theorem Acc.cap {w wr : World} {ls : List (List Int)} {ao : Option Addr} {m c : Nat} (h : Acc w ls (.slice ao m c) wr) : m = ls.length := by
  obtain ⟨l, h1, h2, _⟩ := h
  have := h1.1.len
  rw [this, ← h2]; simp
/-- one more slice behind them. -/
theorem wpList_acc {w wr w2 : World} {ops : Array Oper} {rest : List Oper} {o : Oper} {a : Act} {Q : Exit → Act → World → Prop} (hgd : o.guard = none) (s x : Operand)
    (ho : o.op = .call { callee := .builtin .append, args := #[s, x], argTypes := #[47, 47] }) (v : Value) (ls : List (List Int)) (hs : a.eval s = v) (hA : Acc w ls v wr) (hl : ls.length ≤ 1000000)
    (vx : Value) (bs : List Int) (k : Kp [] wr w2) (hr : Row w2 wr.heap.size vx bs) (hb : Bs bs) (hx : a.eval x = .slice (some ⟨w2.heap.size, 0, none⟩) 1 1)
    (h : ∀ ao m c w', Acc w (ls ++ [bs]) (.slice ao m c) w' → wpList Tryz.prog ops Q rest (a.put o.dst (.slice ao m c)) w') : wpList Tryz.prog ops Q (o :: rest) a (w2.alloc (.cells #[vx] 28)) := by
  obtain ⟨l, hP, hl2, hK⟩ := hA
  have hP2 := hP.kept (k.trans ((Kp.refl [] w2).alloc (.cells #[vx] 28)))
  obtain ⟨ax, cx, hvx⟩ := hr.shape
  refine wpList_append_rowv hgd s x ho w.heap.size v (l.map (·.1)) hs hP2.1 ⟨w2.heap.size, 0, none⟩ 1 [vx] hx ?_ ?_ ?_ ?_ ?_
  · intro j u hu
    exact World.news_of_block (heap_alloc_new w2 _) j u (by simpa using hu)
  · simp [hvx, Value.oneCell']
  · have : l.length = ls.length := by rw [← hl2]; simp
    simp; omega
  · have := hK.size
    have := k.size
    simp; omega
  · intro ao m c w' r st
    refine h ao m c w' ⟨l ++ [(vx, bs)], hP.snoc (x := (vx, bs)) k hr hb ((Kp.refl [] w2).alloc _) r st hK.size, by simp [hl2], ?_⟩
    exact (hK.trans (k.trans ((Kp.refl [] w2).alloc _))).then st.1 (fun i hi => .inr (hP.1.own i (by simpa using hi)))
theorem Acc.lists {w wr : World} {ls : List (List Int)} {v : Value} (h : Acc w ls v wr) (hl : ls.length ≤ 1000) : ∃ l, Lists wr v l ∧ l.map (·.2) = ls := by
  obtain ⟨l, h1, h2, _⟩ := h
  exact ⟨l, h1.lists (by rw [← List.length_map (f := (·.2)), h2]; exact hl), h2⟩
theorem Acc.after {w w0 wr : World} {ls : List (List Int)} {v : Value} (h : Acc w0 ls v wr) (k : Kp [] w w0) : Acc w ls v wr := by
  obtain ⟨l, h1, h2, h3⟩ := h
  exact ⟨l, h1.rebase k, h2, k.trans h3⟩
theorem cat_map {l : List (Value × List Int)} {ls : List (List Int)} (h : l.map (·.2) = ls) : cat l = ls.flatten := by unfold cat; rw [h]
theorem small_of_map {l : List (Value × List Int)} {ls : List (List Int)} (h : l.map (·.2) = ls) {n : Nat} (hn : ∀ x ∈ ls, x.length ≤ n) : ∀ x ∈ l, x.2.length ≤ n := fun x hx => hn x.2 (by rw [← h]; exact List.mem_map.2 ⟨x, hx, rfl⟩)
theorem Sl.apart {w w' : World} {v : Value} {bs : List Int} {S : List Nat} (h : Sl w v bs) (k : Kp S w w') (hv : ∀ i, v.ownBlock = some i → i ∈ S → bs = []) : Sl w' v bs := by
  by_cases hb : bs = []
  · subst hb
    obtain ⟨ao, c, rfl, h1, h2, h3, _⟩ := h
    exact ⟨ao, c, rfl, h1, h2, h3, fun a _ j u hu => by simp at hu⟩
  · exact h.kept k (fun i hi hm => hb (hv i hi hm))
/-- v is a row of the call's own of slices that read so; none that holds something lies in it. -/
def RowS (w : World) (base : Nat) (v : Value) (l : List (Value × List Int)) : Prop :=
  RowV w base v (l.map (·.1)) ∧ ∀ x ∈ l, Sl w x.1 x.2 ∧ Bs x.2 ∧ ∀ k, x.1.ownBlock = some k → v.ownBlock = some k → x.2 = []
theorem RowS.lists {w : World} {base : Nat} {v : Value} {l : List (Value × List Int)} (h : RowS w base v l) (hl : l.length ≤ 1000) : Lists w v l :=
  lists_of_rowv h.1 hl (fun x hx => ⟨(h.2 x hx).1, (h.2 x hx).2.1⟩)
theorem RowS.kept {w w' : World} {base : Nat} {v : Value} {l : List (Value × List Int)} (h : RowS w base v l) (k : Kp [] w w') : RowS w' base v l :=
  ⟨h.1.kept k (by simp), fun x hx => ⟨(h.2 x hx).1.kept k (by simp), (h.2 x hx).2⟩⟩
theorem Parts.rowS {w : World} {base : Nat} {v : Value} {l : List (Value × List Int)} (h : Parts w base v l) : RowS w base v l :=
  ⟨h.1, fun x hx => ⟨(h.2 x hx).1.sl, (h.2 x hx).2.1, fun k h1 h2 => absurd h2 ((h.2 x hx).2.2 k h1)⟩⟩
/-- a slice is put in at place p. -/
theorem RowS.set {w : World} {base g n c : Nat} {l : List (Value × List Int)} (h : RowS w base (.slice (some ⟨g, 0, none⟩) n c) l) (p : Nat) (x : Value × List Int) (hx : Sl w x.1 x.2) (hB : Bs x.2) (ha : x.1.ownBlock = some g → x.2 = []) :
    RowS (w.setCell ⟨g, p, none⟩ x.1) base (.slice (some ⟨g, 0, none⟩) n c) (l.set p x) := by
  have k : Kp [g] w (w.setCell ⟨g, p, none⟩ x.1) := (Kp.refl [g] w).setCell (p := ⟨g, p, none⟩) (.inl (by simp)) _
  have hn : n = l.length := by have := h.1.len; simpa using this
  refine ⟨?_, fun y hy => ?_⟩
  · have e : (l.map (·.1)).length = n := by simp [hn]
    have h1 : w.ownsRow base 28 1 (.slice (some ⟨g, 0, none⟩) n c) n (l.map (·.1)) := by have := h.1; unfold RowV at this; rw [e] at this; exact this
    have h2 := (h1.stored p x.1).1
    unfold RowV
    rw [List.map_set, List.length_set, e]
    exact h2
  · rcases List.mem_or_eq_of_mem_set hy with hy | rfl
    · obtain ⟨h1, h2, h3⟩ := h.2 y hy
      exact ⟨h1.apart k (fun i hi hm => h3 i hi (by simp at hm; subst hm; rfl)), h2, h3⟩
    · exact ⟨hx.apart k (fun i hi hm => ha (by simp at hm; subst hm; exact hi)), hB, fun i hi hv => ha (by cases hv; exact hi)⟩
theorem RowS.spot {w : World} {base n c : Nat} {ao : Option Addr} {l : List (Value × List Int)} (h : RowS w base (.slice ao n c) l) (hn : 0 < n) : ∃ g, ao = some ⟨g, 0, none⟩ ∧ base ≤ g ∧ g < w.heap.size ∧ n = l.length ∧ (∀ i, i < n → ∃ u, w.cell? ⟨g, i, none⟩ = some u) ∧ ∀ i, w.frozen? ⟨g, i, none⟩ = false := by
  have hl := h.1.len
  subst hl
  rcases h.1.2 with ⟨h', h0⟩ | ⟨g, cap, cur, h', hb, hg, _⟩
  · omega
  · have e : ao = some ⟨g, 0, none⟩ := by injection h'
    subst e
    have h1 : w.ownsRow base 28 1 (.slice (some ⟨g, 0, none⟩) (l.map (·.1)).length c) (l.map (·.1)).length (l.map (·.1)) := h.1
    refine ⟨g, rfl, hb, (Array.getElem?_eq_some_iff.1 hg).1, by simp, fun i hi => ?_, fun i => h1.frozenAt i⟩
    rw [h1.cellAt i (by omega)]
    exact ⟨_, List.getElem?_eq_getElem hi⟩
end Go.Proofs.YteabdojjllfcpaaGreat

/-
  The contract of the law package's Lists; lists of slices by their bytes, as what an operation yields.
-/
namespace Go.Proofs.YteabdojjllfcpaaGreat
open Go.RowKit
open Go.Deep
theorem wrap_at {x y : Int} (h : x = y) (h0 : -9223372036854775808 ≤ x) (h1 : x ≤ 9223372036854775807) : IntKind.i64.wrap x = y := by
  subst h
  simp [IntKind.wrap, IntKind.signed, IntKind.bits]
  omega
/-- The value is a slice of slices that reads as these bytes. -/
def LsM (ls : List (List Int)) : Tell := fun v w => ∃ l, Lists w v l ∧ l.map (·.2) = ls
theorem stable_lsm (ls : List (List Int)) : Tell.stable (LsM ls) := fun _ _ _ k ⟨l, h, e⟩ => ⟨l, h.kept k, e⟩
theorem reftagged_lsm {tag : Int} {v : Value} {ls : List (List Int)} {w : World} (r : List Int) (hr : r = sha (tag :: ls.flatten)) (h : LsM ls v w) (h0 : 0 ≤ tag) (h1 : tag ≤ 255) (hn : ls.length ≤ 100000) (hm : ∀ x ∈ ls, x.length ≤ 1000000) :
    Calls Tryz.prog 37 #[.int .u8 tag, v] w fun e w' => ∃ ao m c, e = .returned (.slice ao m c) ∧ Row w' w.heap.size (.slice ao m c) r ∧ Kp [] w w' := by
  obtain ⟨l, hL, he⟩ := h
  exact reftagged_any tag v l r (by rw [hr, cat_map he]) w hL h0 h1 (by rw [← List.length_map (f := (·.2)), he]; exact hn) (small_of_map he hm)
end Go.Proofs.YteabdojjllfcpaaGreat
