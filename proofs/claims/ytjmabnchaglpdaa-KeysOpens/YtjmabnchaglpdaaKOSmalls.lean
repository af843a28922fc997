/-
  Lists of one and of two; rows of slices of a call's own, how they grow.
-/
import Derived.Test.YtjmabnchaglpdaaKHSmalls
import Derived.Test.YtjmabnchaglpdaaKHTags
import Derived.Laws.EntriesVeiled
import Derived.Shelf.Abstract
namespace Go.Proofs.Ytjmabnchaglpdaa
open Go.RowKit
open Go.Proofs

theorem lists1 {w : World} {v : Value} {bs : List Int} (h : Sl w v bs) (hB : Bs bs) : Lists (w.alloc (.cells #[v] 24)) (.slice (some ⟨w.heap.size, 0, none⟩) 1 1) [(v, bs)] :=
  lists_of_block (l := [(v, bs)]) (t := 24) (fr := (0, 0)) (heap_alloc_new w _) (by simp) (fun x hx => by
    obtain rfl : x = (v, bs) := by simpa using hx
    exact ⟨h.kept ((Kp.refl [] w).alloc _) (by simp), hB⟩)
theorem cat1 (v : Value) (bs : List Int) : cat [(v, bs)] = bs := by simp [cat]
theorem lists2 {w : World} {v u : Value} {bs cs : List Int} (h : Sl w v bs) (hB : Bs bs) (k : Sl w u cs) (hC : Bs cs) : Lists (w.alloc (.cells #[v, u] 24)) (.slice (some ⟨w.heap.size, 0, none⟩) 2 2) [(v, bs), (u, cs)] :=
  lists_of_block (l := [(v, bs), (u, cs)]) (t := 24) (fr := (0, 0)) (heap_alloc_new w _) (by simp) (fun x hx => by
    rcases (by simpa using hx : x = (v, bs) ∨ x = (u, cs)) with rfl | rfl
    · exact ⟨h.kept ((Kp.refl [] w).alloc _) (by simp), hB⟩
    · exact ⟨k.kept ((Kp.refl [] w).alloc _) (by simp), hC⟩)
theorem cat2 (v u : Value) (bs cs : List Int) : cat [(v, bs), (u, cs)] = bs ++ cs := by simp [cat]
theorem row_new {w w0 w' : World} {v : Value} {bs : List Int} (h : Row w' w0.heap.size v bs) (k : Kp [] w w0) : Row w' w.heap.size v bs :=
  owns_rebase h (fun i hi => Nat.le_trans k.size (Row.own h i hi))

theorem Row.lt {w : World} {base k : Nat} {v : Value} {bs : List Int} (h : Row w base v bs) (hk : v.ownBlock = some k) : k < w.heap.size := by
  rcases h.2 with ⟨rfl, _⟩ | ⟨g, cap, cur, rfl, hb, hg, _⟩
  · cases hk
  · cases hk; exact (Array.getElem?_eq_some_iff.1 hg).1
theorem RowV.lt {w : World} {base k : Nat} {v : Value} {xs : List Value} (h : RowV w base v xs) (hk : v.ownBlock = some k) : k < w.heap.size := by
  rcases h.2 with ⟨rfl, _⟩ | ⟨g, cap, cur, rfl, hb, hg, _⟩
  · cases hk
  · cases hk; exact (Array.getElem?_eq_some_iff.1 hg).1

/-- v is a row of slices, all of the call's own, each apart from it. -/
def Parts (w : World) (base : Nat) (v : Value) (l : List (Value × List Int)) : Prop :=
  RowV w base v (l.map (·.1)) ∧ ∀ x ∈ l, Row w base x.1 x.2 ∧ Bs x.2 ∧ ∀ k, x.1.ownBlock = some k → v.ownBlock ≠ some k
theorem Parts.kept {w w' : World} {base : Nat} {v : Value} {l : List (Value × List Int)} (h : Parts w base v l) (k : Kp [] w w') : Parts w' base v l :=
  ⟨h.1.kept k (by simp), fun x hx => ⟨(h.2 x hx).1.kept k (by simp), (h.2 x hx).2⟩⟩
theorem Parts.lists {w : World} {base : Nat} {v : Value} {l : List (Value × List Int)} (h : Parts w base v l) (hl : l.length ≤ 1000) : Lists w v l :=
  lists_of_rowv h.1 hl (fun x hx => ⟨(h.2 x hx).1.sl, (h.2 x hx).2.1⟩)
theorem Parts.rebase {w w0 w' : World} {v : Value} {l : List (Value × List Int)} (h : Parts w' w0.heap.size v l) (k : Kp [] w w0) : Parts w' w.heap.size v l :=
  ⟨owns_rebase h.1 (fun i hi => Nat.le_trans k.size (h.1.own i hi)), fun x hx => ⟨row_new (h.2 x hx).1 k, (h.2 x hx).2⟩⟩
theorem Parts.snoc {wr w2 w3 w4 : World} {base : Nat} {v v' : Value} {l : List (Value × List Int)} {x : Value × List Int} (h : Parts wr base v l) (k : Kp [] wr w2) (hx : Row w2 wr.heap.size x.1 x.2) (hb : Bs x.2) (k3 : Kp [] w2 w3)
    (r : RowV w4 base v' (l.map (·.1) ++ [x.1])) (s : RStep w3 v w4 v') (hbase : base ≤ wr.heap.size) : Parts w4 base v' (l ++ [x]) := by
  refine ⟨by rw [List.map_append]; exact r, fun y hy => ?_⟩
  rcases List.mem_append.1 hy with hy | hy
  · obtain ⟨h1, h2, h3⟩ := h.2 y hy
    refine ⟨((h1.kept k (by simp)).kept k3 (by simp)).kept s.1 (fun i hi hm => h3 i hi (by simpa using hm)), h2, fun i hi hv => ?_⟩
    rcases s.2 i hv with h4 | h4
    · exact h3 i hi h4
    · have := h1.lt hi
      have := k.size
      have := k3.size
      omega
  · obtain rfl : y = x := by simpa using hy
    have hlt : ∀ i, y.1.ownBlock = some i → i < w3.heap.size := fun i hi => by have := hx.lt hi; have := k3.size; omega
    have hne : ∀ i, y.1.ownBlock = some i → v.ownBlock ≠ some i := fun i hi hv => by have := h.1.lt hv; have := hx.own i hi; omega
    refine ⟨owns_rebase ((hx.kept k3 (by simp)).kept s.1 (fun i hi hm => hne i hi (by simpa using hm))) (fun i hi => Nat.le_trans hbase (hx.own i hi)), hb, fun i hi hv => ?_⟩
    rcases s.2 i hv with h4 | h4
    · exact hne i hi h4
    · have := hlt i hi; omega
/-- what is gathered so far. -/
def Acc (w : World) (ls : List (List Int)) (v : Value) (wr : World) : Prop := ∃ l, Parts wr w.heap.size v l ∧ l.map (·.2) = ls ∧ Kp [] w wr
theorem Acc.mid {w wr w2 : World} {ls : List (List Int)} {v : Value} (h : Acc w ls v wr) (k : Kp [] wr w2) : Acc w ls v w2 := by
  obtain ⟨l, h1, h2, h3⟩ := h
  exact ⟨l, h1.kept k, h2, h3.trans k⟩
theorem Acc.kp {w wr : World} {ls : List (List Int)} {v : Value} (h : Acc w ls v wr) : Kp [] w wr := by obtain ⟨_, _, _, h3⟩ := h; exact h3
theorem Acc.cap {w wr : World} {ls : List (List Int)} {ao : Option Addr} {m c : Nat} (h : Acc w ls (.slice ao m c) wr) : m = ls.length := by
  obtain ⟨l, h1, h2, _⟩ := h
  have := h1.1.len
  rw [this, ← h2]; simp
/-- one more slice behind them. -/
theorem wpList_acc {w wr w2 : World} {ops : Array Oper} {rest : List Oper} {o : Oper} {a : Act} {Q : Exit → Act → World → Prop} (hgd : o.guard = none) (s x : Operand)
    (ho : o.op = .call { callee := .builtin .append, args := #[s, x], argTypes := #[34, 34] }) (v : Value) (ls : List (List Int)) (hs : a.eval s = v) (hA : Acc w ls v wr) (hl : ls.length ≤ 1000000)
    (vx : Value) (bs : List Int) (k : Kp [] wr w2) (hr : Row w2 wr.heap.size vx bs) (hb : Bs bs) (hx : a.eval x = .slice (some ⟨w2.heap.size, 0, none⟩) 1 1)
    (h : ∀ ao m c w', Acc w (ls ++ [bs]) (.slice ao m c) w' → wpList Try.prog ops Q rest (a.put o.dst (.slice ao m c)) w') : wpList Try.prog ops Q (o :: rest) a (w2.alloc (.cells #[vx] 24)) := by
  obtain ⟨l, hP, hl2, hK⟩ := hA
  have hP2 := hP.kept (k.trans ((Kp.refl [] w2).alloc (.cells #[vx] 24)))
  obtain ⟨ax, cx, hvx⟩ := hr.shape
  refine wpList_append_rowv hgd s x ho w.heap.size v (l.map (·.1)) hs hP2.1 ⟨w2.heap.size, 0, none⟩ 1 [vx] hx ?_ ?_ ?_ ?_ ?_
  · intro j u hu
    exact World.news_of_block (heap_alloc_new w2 _) j u (by simpa using hu)
  · simp [hvx, Value.oneCell']
  · have : l.length = ls.length := by rw [← hl2]; simp
    simp; omega
  · have := hK.size
    have := k.size
    simp; omega
  · intro ao m c w' r st
    refine h ao m c w' ⟨l ++ [(vx, bs)], hP.snoc (x := (vx, bs)) k hr hb ((Kp.refl [] w2).alloc _) r st hK.size, by simp [hl2], ?_⟩
    exact (hK.trans (k.trans ((Kp.refl [] w2).alloc _))).then st.1 (fun i hi => .inr (hP.1.own i (by simpa using hi)))

theorem Acc.lists {w wr : World} {ls : List (List Int)} {v : Value} (h : Acc w ls v wr) (hl : ls.length ≤ 1000) : ∃ l, Lists wr v l ∧ l.map (·.2) = ls := by
  obtain ⟨l, h1, h2, _⟩ := h
  exact ⟨l, h1.lists (by rw [← List.length_map (f := (·.2)), h2]; exact hl), h2⟩
theorem Acc.after {w w0 wr : World} {ls : List (List Int)} {v : Value} (h : Acc w0 ls v wr) (k : Kp [] w w0) : Acc w ls v wr := by
  obtain ⟨l, h1, h2, h3⟩ := h
  exact ⟨l, h1.rebase k, h2, k.trans h3⟩
theorem cat_map {l : List (Value × List Int)} {ls : List (List Int)} (h : l.map (·.2) = ls) : cat l = ls.flatten := by unfold cat; rw [h]
theorem small_of_map {l : List (Value × List Int)} {ls : List (List Int)} (h : l.map (·.2) = ls) {n : Nat} (hn : ∀ x ∈ ls, x.length ≤ n) : ∀ x ∈ l, x.2.length ≤ n := fun x hx => hn x.2 (by rw [← h]; exact List.mem_map.2 ⟨x, hx, rfl⟩)
theorem Sl.apart {w w' : World} {v : Value} {bs : List Int} {S : List Nat} (h : Sl w v bs) (k : Kp S w w') (hv : ∀ i, v.ownBlock = some i → i ∈ S → bs = []) : Sl w' v bs := by
  by_cases hb : bs = []
  · subst hb
    obtain ⟨ao, c, rfl, h1, h2, h3, _⟩ := h
    exact ⟨ao, c, rfl, h1, h2, h3, fun a _ j u hu => by simp at hu⟩
  · exact h.kept k (fun i hi hm => hb (hv i hi hm))
/-- v is a row of the call's own of slices that read so; none that holds something lies in it. -/
def RowS (w : World) (base : Nat) (v : Value) (l : List (Value × List Int)) : Prop :=
  RowV w base v (l.map (·.1)) ∧ ∀ x ∈ l, Sl w x.1 x.2 ∧ Bs x.2 ∧ ∀ k, x.1.ownBlock = some k → v.ownBlock = some k → x.2 = []
theorem RowS.lists {w : World} {base : Nat} {v : Value} {l : List (Value × List Int)} (h : RowS w base v l) (hl : l.length ≤ 1000) : Lists w v l :=
  lists_of_rowv h.1 hl (fun x hx => ⟨(h.2 x hx).1, (h.2 x hx).2.1⟩)
theorem RowS.kept {w w' : World} {base : Nat} {v : Value} {l : List (Value × List Int)} (h : RowS w base v l) (k : Kp [] w w') : RowS w' base v l :=
  ⟨h.1.kept k (by simp), fun x hx => ⟨(h.2 x hx).1.kept k (by simp), (h.2 x hx).2⟩⟩
theorem Parts.rowS {w : World} {base : Nat} {v : Value} {l : List (Value × List Int)} (h : Parts w base v l) : RowS w base v l :=
  ⟨h.1, fun x hx => ⟨(h.2 x hx).1.sl, (h.2 x hx).2.1, fun k h1 h2 => absurd h2 ((h.2 x hx).2.2 k h1)⟩⟩
/-- a slice is put in at place p. -/
theorem RowS.set {w : World} {base g n c : Nat} {l : List (Value × List Int)} (h : RowS w base (.slice (some ⟨g, 0, none⟩) n c) l) (p : Nat) (x : Value × List Int) (hx : Sl w x.1 x.2) (hB : Bs x.2) (ha : x.1.ownBlock = some g → x.2 = []) :
    RowS (w.setCell ⟨g, p, none⟩ x.1) base (.slice (some ⟨g, 0, none⟩) n c) (l.set p x) := by
  have k : Kp [g] w (w.setCell ⟨g, p, none⟩ x.1) := (Kp.refl [g] w).setCell (p := ⟨g, p, none⟩) (.inl (by simp)) _
  have hn : n = l.length := by have := h.1.len; simpa using this
  refine ⟨?_, fun y hy => ?_⟩
  · have e : (l.map (·.1)).length = n := by simp [hn]
    have h1 : w.ownsRow base 24 1 (.slice (some ⟨g, 0, none⟩) n c) n (l.map (·.1)) := by have := h.1; unfold RowV at this; rw [e] at this; exact this
    have h2 := (h1.stored p x.1).1
    unfold RowV
    rw [List.map_set, List.length_set, e]
    exact h2
  · rcases List.mem_or_eq_of_mem_set hy with hy | rfl
    · obtain ⟨h1, h2, h3⟩ := h.2 y hy
      exact ⟨h1.apart k (fun i hi hm => h3 i hi (by simp at hm; subst hm; rfl)), h2, h3⟩
    · exact ⟨hx.apart k (fun i hi hm => ha (by simp at hm; subst hm; exact hi)), hB, fun i hi hv => ha (by cases hv; exact hi)⟩
theorem RowS.spot {w : World} {base n c : Nat} {ao : Option Addr} {l : List (Value × List Int)} (h : RowS w base (.slice ao n c) l) (hn : 0 < n) : ∃ g, ao = some ⟨g, 0, none⟩ ∧ base ≤ g ∧ g < w.heap.size ∧ n = l.length ∧ (∀ i, i < n → ∃ u, w.cell? ⟨g, i, none⟩ = some u) ∧ ∀ i, w.frozen? ⟨g, i, none⟩ = false := by
  have hl := h.1.len
  subst hl
  rcases h.1.2 with ⟨h', h0⟩ | ⟨g, cap, cur, h', hb, hg, _⟩
  · omega
  · have e : ao = some ⟨g, 0, none⟩ := by injection h'
    subst e
    have h1 : w.ownsRow base 24 1 (.slice (some ⟨g, 0, none⟩) (l.map (·.1)).length c) (l.map (·.1)).length (l.map (·.1)) := h.1
    refine ⟨g, rfl, hb, (Array.getElem?_eq_some_iff.1 hg).1, by simp, fun i hi => ?_, fun i => h1.frozenAt i⟩
    rw [h1.cellAt i (by omega)]
    exact ⟨_, List.getElem?_eq_getElem hi⟩
/-- a list that is copied whole into a new row. -/
theorem rowS_copy {w w' : World} {al : Option Addr} {cl : Nat} {ao : Option Addr} {m c : Nat} {l : List (Value × List Int)} (hL : Lists w (.slice al l.length cl) l) (hr : RowV w' w.heap.size (.slice ao m c) (l.map (·.1))) (k : Kp [] w w') : RowS w' w.heap.size (.slice ao m c) l := by
  refine ⟨hr, fun x hx => ?_⟩
  obtain ⟨i, hi, rfl⟩ := List.getElem_of_mem hx
  obtain ⟨_, _, _, _, h2⟩ := hL
  obtain ⟨_, _, _, _, hS, hB⟩ := h2 i hi
  refine ⟨hS.kept k (by simp), hB, fun j hj hv => ?_⟩
  by_cases hb : l[i].2 = []
  · exact hb
  · obtain ⟨ao', c', e, h1, _, h3, h4⟩ := hS
    cases ao' with
    | none => exact List.eq_nil_of_length_eq_zero (by have := h3 rfl; omega)
    | some a =>
      have hpos : 0 < l[i].2.length := List.length_pos_iff.2 hb
      have hc := h4 a rfl 0 (.int .u8 l[i].2[0]) (by simp [List.getElem?_eq_getElem hpos])
      have hlt := World.block_lt_of_cell? _ _ hc
      rw [add_block] at hlt
      rw [e] at hj
      have : a.block = j := by simpa [Value.ownBlock] using hj
      have := hr.own j hv
      omega
end Go.Proofs.Ytjmabnchaglpdaa

/-
  The contracts of Digest, of the program and of the reference.
-/
namespace Go.Proofs.Ytjmabnchaglpdaa
open Go.RowKit

theorem val_take_succ (cs : List Int) (k : Nat) (h : k < cs.length) : val (cs.take (k + 1)) = val (cs.take k) * 256 + cs[k] := by
  rw [List.take_succ_eq_append_getElem h, val_snoc]
theorem val_small (cs : List Int) (hB : Bs cs) (h : cs.length ≤ 3) : val cs * 256 ≤ 4294967295 := by
  have h1 := val_bd cs hB
  have h2 : (256 : Nat) ^ cs.length ≤ 256 ^ 3 := Nat.pow_le_pow_right (by omega) h
  have h3 : (256 : Int) ^ cs.length = ((256 ^ cs.length : Nat) : Int) := by simp
  omega

end Go.Proofs.Ytjmabnchaglpdaa

/-
  The contracts of the program's Secret, Shown, and what they call.
-/
namespace Go.Proofs.Ytjmabnchaglpdaa
open Go.RowKit

end Go.Proofs.Ytjmabnchaglpdaa

/-
  The contracts of the program's sideOf, bothShown, signers and of what Sign hands on.
-/
namespace Go.Proofs.Ytjmabnchaglpdaa
open Go.RowKit

theorem and_one (n : Int) (h0 : 0 ≤ n) : bits .and .u32 n 1 = n % 2 := by
  obtain ⟨m, rfl⟩ := Int.eq_ofNat_of_zero_le h0
  show IntKind.u32.wrap ((BitVec.ofInt 32 (m : Int) &&& BitVec.ofInt 32 1).toNat : Int) = _
  have e1 : (BitVec.ofInt 32 (m : Int) &&& BitVec.ofInt 32 1).toNat = m % 2 := by
    rw [BitVec.toNat_and, show (BitVec.ofInt 32 1).toNat = 1 from rfl, Nat.and_one_is_mod, BitVec.ofInt_natCast, BitVec.toNat_ofNat]
    omega
  rw [e1]
  simp [IntKind.wrap, IntKind.signed, IntKind.bits]
  omega
theorem sd_val (d : Int) (j : Nat) : ((sdP d j : Nat) : Int) = d / 2 ^ (31 - j) % 2 := by unfold sdP; omega

theorem pair_set {w : World} {b : Nat} {t : TypeId} {x y : Value} (h : w.heap[b]? = some (.cells #[x, y] t (0, 0))) (u v : Value) (o : Obj) : (((w.setCell ⟨b, 0, none⟩ u).setCell ⟨b, 1, none⟩ v).alloc o).heap[b]? = some (.cells #[u, v] t (0, 0)) := by
  have h1 := heap_setCell_same w b 0 _ t u h
  have h2 := heap_setCell_same _ b 1 _ t v h1
  exact ((Kp.refl [] _).alloc o).heap h2 (by simp)
theorem pair_kp {a w : World} {b : Nat} (h : Kp [] a w) (hb : a.heap.size ≤ b) (u v : Value) (o : Obj) : Kp [] a (((w.setCell ⟨b, 0, none⟩ u).setCell ⟨b, 1, none⟩ v).alloc o) :=
  ((h.setCell (p := ⟨b, 0, none⟩) (.inr hb) u).setCell (p := ⟨b, 1, none⟩) (.inr hb) v).alloc o
theorem pair_kp2 {a w : World} {b : Nat} (h : Kp [] a w) (hb : a.heap.size ≤ b) (u v : Value) : Kp [] a ((w.setCell ⟨b, 0, none⟩ u).setCell ⟨b, 1, none⟩ v) :=
  ((h.setCell (p := ⟨b, 0, none⟩) (.inr hb) u).setCell (p := ⟨b, 1, none⟩) (.inr hb) v)
theorem pair_set2 {w : World} {b : Nat} {t : TypeId} {x y : Value} (h : w.heap[b]? = some (.cells #[x, y] t (0, 0))) (u v : Value) : ((w.setCell ⟨b, 0, none⟩ u).setCell ⟨b, 1, none⟩ v).heap[b]? = some (.cells #[u, v] t (0, 0)) := by
  have h1 := heap_setCell_same w b 0 _ t u h
  exact heap_setCell_same _ b 1 _ t v h1
end Go.Proofs.Ytjmabnchaglpdaa

/-
  The contract of the program's partsOf, for whatever chooses the sides; Public and Sign.
-/
namespace Go.Proofs.Ytjmabnchaglpdaa
open Go.RowKit
open Go.Proofs

theorem ptP_at (bs : List Int) (key : Int) (c : Nat → Nat → Bool) (k s : Nat) (hs : s < 2) : ptP bs key c (2 * k + s) = if c k s then secP bs key (k : Nat) (s : Nat) else shnP bs key (k : Nat) (s : Nat) := by
  unfold ptP
  rw [show (2 * k + s) / 2 = k by omega, show (2 * k + s) % 2 = s by omega]

end Go.Proofs.Ytjmabnchaglpdaa

/-
  The contracts of the program's Public and Sign.
-/
namespace Go.Proofs.Ytjmabnchaglpdaa
open Go.RowKit
open Go.Proofs

theorem ptsP_small (bs : List Int) (key : Int) (c : Nat → Nat → Bool) (n : Nat) : ∀ x ∈ ptsP bs key c n, x.length ≤ 1000000 := by
  intro x hx
  unfold ptsP at hx
  obtain ⟨i, _, rfl⟩ := List.mem_map.1 hx
  rw [ptP_len]; omega

end Go.Proofs.Ytjmabnchaglpdaa

/-
  The contract of the program's areHashes; plain facts on what Root makes of parts.
-/
namespace Go.Proofs.Ytjmabnchaglpdaa
open Go.RowKit

theorem areP_bad {ls : List (List Int)} (k : Nat) (h : k < ls.length) (hb : ls[k].length ≠ 32) : areP ls = false := by
  unfold areP
  have : ls.all (fun x => x.length == 32) = false := by
    rw [List.all_eq_false]
    exact ⟨ls[k], List.getElem_mem h, by simpa using hb⟩
  rw [this, Bool.and_false]
theorem areP_good {ls : List (List Int)} (h : ls.length = 64) (hb : ∀ i (h : i < ls.length), ls[i].length = 32) : areP ls = true := by
  unfold areP
  rw [Bool.and_eq_true]
  refine ⟨by simp [h], List.all_eq_true.2 (fun x hx => ?_)⟩
  obtain ⟨i, hi, rfl⟩ := List.getElem_of_mem hx
  simp [hb i hi]
theorem areP_len {ls : List (List Int)} (h : areP ls = true) : ls.length = 64 := by
  unfold areP at h
  simp only [Bool.and_eq_true, beq_iff_eq] at h
  exact h.1
theorem areP_at {ls : List (List Int)} (h : areP ls = true) : ∀ x ∈ ls, x.length = 32 := by
  unfold areP at h
  simp only [Bool.and_eq_true, List.all_eq_true, beq_iff_eq] at h
  exact h.2
theorem areP_short {ls : List (List Int)} (h : ls.length ≠ 64) : areP ls = false := by
  unfold areP
  simp [h]

/-- the parts of the first k bits as Root takes them. -/
def mixP (d : Int) (ls : List (List Int)) (k : Nat) : List (List Int) := ls.mapIdx (fun i x => if i < 2 * k then rtP d i x else x)
theorem mixP_zero (d : Int) (ls : List (List Int)) : mixP d ls 0 = ls := by
  unfold mixP
  apply List.ext_getElem
  · simp
  · intro i h1 h2; simp
theorem mixP_all (d : Int) (ls : List (List Int)) (h : ls.length = 64) : mixP d ls 32 = rtsP d ls := by
  unfold mixP rtsP
  apply List.ext_getElem
  · simp
  · intro i h1 h2
    simp only [List.getElem_mapIdx]
    rw [if_pos (by simp at h1; omega)]
theorem mixP_at (d : Int) (ls : List (List Int)) (k i : Nat) (hi : i < ls.length) (h : i < (mixP d ls k).length) : (mixP d ls k)[i] = if i < 2 * k then rtP d i ls[i] else ls[i] := by simp [mixP]
theorem mixP_succ (d : Int) (ls : List (List Int)) (k p : Nat) (hp : p = 2 * k + sdP d k) (hl : p < ls.length) : (mixP d ls k).set p (sha (11 :: ls[p])) = mixP d ls (k + 1) := by
  have hs := sdP_lt d k
  apply List.ext_getElem
  · simp [mixP]
  · intro i h1 h2
    have hi : i < ls.length := by simpa [mixP] using h2
    rw [List.getElem_set, mixP_at _ _ _ _ hi, mixP_at _ _ _ _ hi]
    by_cases hpi : p = i
    · subst hpi
      rw [if_pos rfl, if_pos (by omega)]
      unfold rtP digC
      rw [if_pos (by rw [show p / 2 = k by omega, show p % 2 = sdP d k by omega]; simp)]
    · rw [if_neg hpi]
      by_cases h3 : i < 2 * k
      · rw [if_pos h3, if_pos (by omega)]
      · rw [if_neg h3]
        by_cases h4 : i < 2 * (k + 1)
        · rw [if_pos h4]
          unfold rtP digC
          rw [if_neg (by rw [show i / 2 = k by omega]; simp; omega)]
        · rw [if_neg h4]
theorem mixP_len (d : Int) (ls : List (List Int)) (k : Nat) : (mixP d ls k).length = ls.length := by simp [mixP]
theorem rtsP_len (d : Int) (ls : List (List Int)) : (rtsP d ls).length = ls.length := by simp [rtsP]
theorem rtsP_small {d : Int} {ls : List (List Int)} (h : ∀ x ∈ ls, x.length = 32) : ∀ x ∈ rtsP d ls, x.length = 32 := by
  intro x hx
  obtain ⟨i, hi, rfl⟩ := List.getElem_of_mem hx
  simp only [rtsP, List.getElem_mapIdx]
  unfold rtP
  split
  · exact sha_len _
  · exact h _ (List.getElem_mem _)
end Go.Proofs.Ytjmabnchaglpdaa

/-
  The contract of the program's Root.
-/
namespace Go.Proofs.Ytjmabnchaglpdaa
open Go.RowKit

theorem are_cases (l : List (Value × List Int)) : (areP (l.map (·.2)) = true ∧ l.length = 64 ∧ ∀ x ∈ l, x.2.length = 32) ∨ areP (l.map (·.2)) = false := by
  cases h : areP (l.map (·.2))
  · exact .inr rfl
  · refine .inl ⟨rfl, by simpa using areP_len h, fun x hx => areP_at h x.2 (List.mem_map.2 ⟨x, hx, rfl⟩)⟩

/-- what Root answers. -/
def Rooted (b : Bool) (r : List Int) (base : Nat) (v : Value) (w : World) : Prop := if b then ∃ ao m c, v = .slice ao m c ∧ Row w base v r else v = .slice none 0 0

end Go.Proofs.Ytjmabnchaglpdaa
