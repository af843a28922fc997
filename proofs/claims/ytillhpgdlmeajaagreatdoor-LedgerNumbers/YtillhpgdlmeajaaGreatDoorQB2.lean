/-
  Single operations of a region that only makes memory.
-/
import Derived.BigCall
import Derived.Test.YtillhpgdlmeajaaGreatDoorQB1
import Derived.Maps.AppendAt
import Derived.Lib.ConvBytes
import Derived.Deep.RegionHeld3
import Derived.Laws.OwnMore
import Derived.StillTail
namespace Go.Proofs.YtillhpgdlmeajaaGreatDoor
open Go.RowKit
/-- The value is c. -/
def Is (c : Value) : Tell := fun v _ => v = c
/-- The value is a slice that reads as these bytes. -/
def SlT (bs : List Int) : Tell := fun v w => Sl w v bs
theorem stable_is (c : Value) : Tell.stable (Is c) := fun _ _ _ _ h => h
theorem stable_sl (bs : List Int) : Tell.stable (SlT bs) := fun _ _ _ k h => h.kept k (by simp)
section
variable {P : Program} {ops : Array Oper} {o : Oper} {a : Act} {w : World} {R : Tell}
theorem wants_plain (hg : o.guard = none) (h : grown P w R ((execOp a.eval o).run P w)) : wants P ops o a w R := by
  unfold wants
  rw [if_pos (by simp [Region.wanted, hg])]
  exact h
theorem wanted_iff {g : Nat} {b b' : Bool} {d : Tmp} (hg : o.guard = some (g, b)) (hd : (ops[g]?).bind (·.dst) = some d) (he : a.eval (.tmp d) = .bool b') : Region.wanted o (yielded ops a.tmps) = (b' == b) := by
  have h1 : a.tmps[d]? = some (.bool b') := by
    rcases Nat.lt_or_ge d a.tmps.size with h | h
    · simp [Act.eval, h] at he ⊢; exact he
    · simp [Act.eval, Array.getElem?_eq_none h, undef] at he
  have h2 : yielded ops a.tmps g = some b' := by
    unfold yielded
    rw [hd]
    simp only [Option.bind_some, h1]
  simp only [Region.wanted, hg, h2]
  cases b <;> cases b' <;> rfl
theorem wants_guard {g : Nat} {b : Bool} {d : Tmp} (hg : o.guard = some (g, b)) (hd : (ops[g]?).bind (·.dst) = some d) (he : a.eval (.tmp d) = .bool b) (h : grown P w R ((execOp a.eval o).run P w)) : wants P ops o a w R := by
  unfold wants
  rw [if_pos (by rw [wanted_iff hg hd he]; simp)]
  exact h
theorem wants_not {g : Nat} {b : Bool} {d : Tmp} (hg : o.guard = some (g, b)) (hd : (ops[g]?).bind (·.dst) = some d) (he : a.eval (.tmp d) = .bool (!b)) (h : R undef w) : wants P ops o a w R := by
  unfold wants
  rw [if_neg (by rw [wanted_iff hg hd he]; cases b <;> simp)]
  exact h
theorem grown_move (x : Operand) (ho : o.op = .move x) (h : R (a.eval x) w) : grown P w R ((execOp a.eval o).run P w) := by
  unfold execOp; simp only [ho]; exact ⟨Kp.refl _ _, h⟩
theorem grown_assign (x : Operand) (ho : o.op = .assign x) (h : R (a.eval x) w) : grown P w R ((execOp a.eval o).run P w) := by
  unfold execOp; simp only [ho]; exact ⟨Kp.refl _ _, h⟩
theorem grown_pick (c x y : Operand) (b : Bool) (ho : o.op = .pick c x y) (hc : a.eval c = .bool b) (h : R (if b then a.eval x else a.eval y) w) : grown P w R ((execOp a.eval o).run P w) := by
  unfold execOp; simp only [ho, hc, asBool]; exact ⟨Kp.refl _ _, h⟩
theorem grown_run {v : Value} {w' : World} (h : (execOp a.eval o).run P w = .ok (.value v) w') (hk : Kp [] w w') (hR : R v w') : grown P w R ((execOp a.eval o).run P w) := by
  rw [h]; exact ⟨hk, hR⟩
theorem grown_call {f : FuncId} {fn : Func} {xs : Array Operand} {ats : Array TypeId} (ho : o.op = .call { callee := .value (.func f), args := xs, argTypes := ats }) (hf : P.funcs[f]? = some fn) (hn : (fn.name == "runtime.NumGoroutine") = false) (hb : fn.body.isNone = false)
    (h : Calls P f (xs.map a.eval) w fun e w' => ∃ v, e = .returned v ∧ Kp [] w w' ∧ R v w') : grown P w R ((execOp a.eval o).run P w) := by
  have e : (execOp a.eval o).run P w = .ok (.enter f (xs.map a.eval)) w := by
    obtain ⟨dst, op, ty, pos, after, guard⟩ := o
    simp only at ho
    subst ho
    rw [execOp_call_go]
    have h1 : fn.name ≠ "runtime.NumGoroutine" := by simpa using hn
    have h2 : ¬ fn.body = none := by intro h2; rw [h2] at hb; cases hb
    simp [callFunc, hf, h1, h2]
  rw [e]
  exact h
end
theorem steps_cons {P : Program} {ops : Array Oper} {a0 : Act} {w0 : World} {Rs : List Tell} {o : Oper} {l : List Oper} {ks : List (Tmp × Option Nat)} {kss : List (List (Tmp × Option Nat))} {R : Tell} {rs : List Tell}
    (h1 : ∀ a w, Kp [] w0 w → Knows a0 Rs a w ks → wants P ops o a w R) (h2 : StepsR P ops a0 w0 Rs l kss rs) : StepsR P ops a0 w0 Rs (o :: l) (ks :: kss) (R :: rs) := ⟨h1, h2⟩
theorem fin_nil {Q : Exit → Act → World → Prop} {a : Act} {w : World} (h : Q .normal a w) : FinR Q [] [] a w := h
theorem eval_is (a : Act) : ∃ ρ : Operand → Value, a.eval = ρ ∧ (∀ v, ρ (.const v) = v) ∧ (∀ f, ρ (.func f) = .func (.func f) #[] #[]) ∧ ∀ g, ρ (.global g) = .pointer (some ⟨g, 0, none⟩) := ⟨_, rfl, fun _ => rfl, fun _ => rfl, fun _ => rfl⟩
end Go.Proofs.YtillhpgdlmeajaaGreatDoor

/-
  Lists of one and of two; rows of slices of a call's own, how they grow.
-/
namespace Go.Proofs.YtillhpgdlmeajaaGreatDoor
open Go.RowKit
open Go.Proofs
theorem lists1 {w : World} {v : Value} {bs : List Int} (h : Sl w v bs) (hB : Bs bs) : Lists (w.alloc (.cells #[v] 22)) (.slice (some ⟨w.heap.size, 0, none⟩) 1 1) [(v, bs)] :=
  lists_of_block (l := [(v, bs)]) (t := 22) (fr := (0, 0)) (heap_alloc_new w _) (by simp) (fun x hx => by
    obtain rfl : x = (v, bs) := by simpa using hx
    exact ⟨h.kept ((Kp.refl [] w).alloc _) (by simp), hB⟩)
theorem cat1 (v : Value) (bs : List Int) : cat [(v, bs)] = bs := by simp [cat]
theorem lists2 {w : World} {v u : Value} {bs cs : List Int} (h : Sl w v bs) (hB : Bs bs) (k : Sl w u cs) (hC : Bs cs) : Lists (w.alloc (.cells #[v, u] 22)) (.slice (some ⟨w.heap.size, 0, none⟩) 2 2) [(v, bs), (u, cs)] :=
  lists_of_block (l := [(v, bs), (u, cs)]) (t := 22) (fr := (0, 0)) (heap_alloc_new w _) (by simp) (fun x hx => by
    rcases (by simpa using hx : x = (v, bs) ∨ x = (u, cs)) with rfl | rfl
    · exact ⟨h.kept ((Kp.refl [] w).alloc _) (by simp), hB⟩
    · exact ⟨k.kept ((Kp.refl [] w).alloc _) (by simp), hC⟩)
theorem cat2 (v u : Value) (bs cs : List Int) : cat [(v, bs), (u, cs)] = bs ++ cs := by simp [cat]
theorem row_new {w w0 w' : World} {v : Value} {bs : List Int} (h : Row w' w0.heap.size v bs) (k : Kp [] w w0) : Row w' w.heap.size v bs :=
  owns_rebase h (fun i hi => Nat.le_trans k.size (Row.own h i hi))
theorem Row.lt {w : World} {base k : Nat} {v : Value} {bs : List Int} (h : Row w base v bs) (hk : v.ownBlock = some k) : k < w.heap.size := by
  rcases h.2 with ⟨rfl, _⟩ | ⟨g, cap, cur, rfl, hb, hg, _⟩
  · cases hk
  · cases hk; exact (Array.getElem?_eq_some_iff.1 hg).1
theorem RowV.lt {w : World} {base k : Nat} {v : Value} {xs : List Value} (h : RowV w base v xs) (hk : v.ownBlock = some k) : k < w.heap.size := by
  rcases h.2 with ⟨rfl, _⟩ | ⟨g, cap, cur, rfl, hb, hg, _⟩
  · cases hk
  · cases hk; exact (Array.getElem?_eq_some_iff.1 hg).1
/-- v is a row of slices, all of the call's own, each apart from it. -/
def Parts (w : World) (base : Nat) (v : Value) (l : List (Value × List Int)) : Prop :=
  RowV w base v (l.map (·.1)) ∧ ∀ x ∈ l, Row w base x.1 x.2 ∧ Bs x.2 ∧ ∀ k, x.1.ownBlock = some k → v.ownBlock ≠ some k
theorem Parts.kept {w w' : World} {base : Nat} {v : Value} {l : List (Value × List Int)} (h : Parts w base v l) (k : Kp [] w w') : Parts w' base v l :=
  ⟨h.1.kept k (by simp), fun x hx => ⟨(h.2 x hx).1.kept k (by simp), (h.2 x hx).2⟩⟩
theorem Parts.lists {w : World} {base : Nat} {v : Value} {l : List (Value × List Int)} (h : Parts w base v l) (hl : l.length ≤ 1000) : Lists w v l :=
  lists_of_rowv h.1 hl (fun x hx => ⟨(h.2 x hx).1.sl, (h.2 x hx).2.1⟩)
theorem Parts.rebase {w w0 w' : World} {v : Value} {l : List (Value × List Int)} (h : Parts w' w0.heap.size v l) (k : Kp [] w w0) : Parts w' w.heap.size v l :=
  ⟨owns_rebase h.1 (fun i hi => Nat.le_trans k.size (h.1.own i hi)), fun x hx => ⟨row_new (h.2 x hx).1 k, (h.2 x hx).2⟩⟩
theorem Parts.snoc {wr w2 w3 w4 : World} {base : Nat} {v v' : Value} {l : List (Value × List Int)} {x : Value × List Int} (h : Parts wr base v l) (k : Kp [] wr w2) (hx : Row w2 wr.heap.size x.1 x.2) (hb : Bs x.2) (k3 : Kp [] w2 w3)
    (r : RowV w4 base v' (l.map (·.1) ++ [x.1])) (s : RStep w3 v w4 v') (hbase : base ≤ wr.heap.size) : Parts w4 base v' (l ++ [x]) := by
  refine ⟨by rw [List.map_append]; exact r, fun y hy => ?_⟩
  rcases List.mem_append.1 hy with hy | hy
  · obtain ⟨h1, h2, h3⟩ := h.2 y hy
    refine ⟨((h1.kept k (by simp)).kept k3 (by simp)).kept s.1 (fun i hi hm => h3 i hi (by simpa using hm)), h2, fun i hi hv => ?_⟩
    rcases s.2 i hv with h4 | h4
    · exact h3 i hi h4
    · have := h1.lt hi
      have := k.size
      have := k3.size
      omega
  · obtain rfl : y = x := by simpa using hy
    have hlt : ∀ i, y.1.ownBlock = some i → i < w3.heap.size := fun i hi => by have := hx.lt hi; have := k3.size; omega
    have hne : ∀ i, y.1.ownBlock = some i → v.ownBlock ≠ some i := fun i hi hv => by have := h.1.lt hv; have := hx.own i hi; omega
    refine ⟨owns_rebase ((hx.kept k3 (by simp)).kept s.1 (fun i hi hm => hne i hi (by simpa using hm))) (fun i hi => Nat.le_trans hbase (hx.own i hi)), hb, fun i hi hv => ?_⟩
    rcases s.2 i hv with h4 | h4
    · exact hne i hi h4
    · have := hlt i hi; omega
/-- what is gathered so far. -/
def Acc (w : World) (ls : List (List Int)) (v : Value) (wr : World) : Prop := ∃ l, Parts wr w.heap.size v l ∧ l.map (·.2) = ls ∧ Kp [] w wr
theorem Acc.mid {w wr w2 : World} {ls : List (List Int)} {v : Value} (h : Acc w ls v wr) (k : Kp [] wr w2) : Acc w ls v w2 := by
  obtain ⟨l, h1, h2, h3⟩ := h
  exact ⟨l, h1.kept k, h2, h3.trans k⟩
theorem Acc.kp {w wr : World} {ls : List (List Int)} {v : Value} (h : Acc w ls v wr) : Kp [] w wr := by obtain ⟨_, _, _, h3⟩ := h; exact h3
theorem Acc.cap {w wr : World} {ls : List (List Int)} {ao : Option Addr} {m c : Nat} (h : Acc w ls (.slice ao m c) wr) : m = ls.length := by
  obtain ⟨l, h1, h2, _⟩ := h
  have := h1.1.len
  rw [this, ← h2]; simp
/-- one more slice behind them. -/
theorem wpList_acc {w wr w2 : World} {ops : Array Oper} {rest : List Oper} {o : Oper} {a : Act} {Q : Exit → Act → World → Prop} (hgd : o.guard = none) (s x : Operand)
    (ho : o.op = .call { callee := .builtin .append, args := #[s, x], argTypes := #[33, 33] }) (v : Value) (ls : List (List Int)) (hs : a.eval s = v) (hA : Acc w ls v wr) (hl : ls.length ≤ 1000000)
    (vx : Value) (bs : List Int) (k : Kp [] wr w2) (hr : Row w2 wr.heap.size vx bs) (hb : Bs bs) (hx : a.eval x = .slice (some ⟨w2.heap.size, 0, none⟩) 1 1)
    (h : ∀ ao m c w', Acc w (ls ++ [bs]) (.slice ao m c) w' → wpList Tryz.prog ops Q rest (a.put o.dst (.slice ao m c)) w') : wpList Tryz.prog ops Q (o :: rest) a (w2.alloc (.cells #[vx] 22)) := by
  obtain ⟨l, hP, hl2, hK⟩ := hA
  have hP2 := hP.kept (k.trans ((Kp.refl [] w2).alloc (.cells #[vx] 22)))
  obtain ⟨ax, cx, hvx⟩ := hr.shape
  refine wpList_append_rowv hgd s x ho w.heap.size v (l.map (·.1)) hs hP2.1 ⟨w2.heap.size, 0, none⟩ 1 [vx] hx ?_ ?_ ?_ ?_ ?_
  · intro j u hu
    exact World.news_of_block (heap_alloc_new w2 _) j u (by simpa using hu)
  · simp [hvx, Value.oneCell']
  · have : l.length = ls.length := by rw [← hl2]; simp
    simp; omega
  · have := hK.size
    have := k.size
    simp; omega
  · intro ao m c w' r st
    refine h ao m c w' ⟨l ++ [(vx, bs)], hP.snoc (x := (vx, bs)) k hr hb ((Kp.refl [] w2).alloc _) r st hK.size, by simp [hl2], ?_⟩
    exact (hK.trans (k.trans ((Kp.refl [] w2).alloc _))).then st.1 (fun i hi => .inr (hP.1.own i (by simpa using hi)))
theorem Acc.lists {w wr : World} {ls : List (List Int)} {v : Value} (h : Acc w ls v wr) (hl : ls.length ≤ 1000) : ∃ l, Lists wr v l ∧ l.map (·.2) = ls := by
  obtain ⟨l, h1, h2, _⟩ := h
  exact ⟨l, h1.lists (by rw [← List.length_map (f := (·.2)), h2]; exact hl), h2⟩
theorem Acc.after {w w0 wr : World} {ls : List (List Int)} {v : Value} (h : Acc w0 ls v wr) (k : Kp [] w w0) : Acc w ls v wr := by
  obtain ⟨l, h1, h2, h3⟩ := h
  exact ⟨l, h1.rebase k, h2, k.trans h3⟩
theorem cat_map {l : List (Value × List Int)} {ls : List (List Int)} (h : l.map (·.2) = ls) : cat l = ls.flatten := by unfold cat; rw [h]
theorem small_of_map {l : List (Value × List Int)} {ls : List (List Int)} (h : l.map (·.2) = ls) {n : Nat} (hn : ∀ x ∈ ls, x.length ≤ n) : ∀ x ∈ l, x.2.length ≤ n := fun x hx => hn x.2 (by rw [← h]; exact List.mem_map.2 ⟨x, hx, rfl⟩)
theorem Sl.apart {w w' : World} {v : Value} {bs : List Int} {S : List Nat} (h : Sl w v bs) (k : Kp S w w') (hv : ∀ i, v.ownBlock = some i → i ∈ S → bs = []) : Sl w' v bs := by
  by_cases hb : bs = []
  · subst hb
    obtain ⟨ao, c, rfl, h1, h2, h3, _⟩ := h
    exact ⟨ao, c, rfl, h1, h2, h3, fun a _ j u hu => by simp at hu⟩
  · exact h.kept k (fun i hi hm => hb (hv i hi hm))
/-- v is a row of the call's own of slices that read so; none that holds something lies in it. -/
def RowS (w : World) (base : Nat) (v : Value) (l : List (Value × List Int)) : Prop :=
  RowV w base v (l.map (·.1)) ∧ ∀ x ∈ l, Sl w x.1 x.2 ∧ Bs x.2 ∧ ∀ k, x.1.ownBlock = some k → v.ownBlock = some k → x.2 = []
theorem RowS.lists {w : World} {base : Nat} {v : Value} {l : List (Value × List Int)} (h : RowS w base v l) (hl : l.length ≤ 1000) : Lists w v l :=
  lists_of_rowv h.1 hl (fun x hx => ⟨(h.2 x hx).1, (h.2 x hx).2.1⟩)
theorem RowS.kept {w w' : World} {base : Nat} {v : Value} {l : List (Value × List Int)} (h : RowS w base v l) (k : Kp [] w w') : RowS w' base v l :=
  ⟨h.1.kept k (by simp), fun x hx => ⟨(h.2 x hx).1.kept k (by simp), (h.2 x hx).2⟩⟩
theorem Parts.rowS {w : World} {base : Nat} {v : Value} {l : List (Value × List Int)} (h : Parts w base v l) : RowS w base v l :=
  ⟨h.1, fun x hx => ⟨(h.2 x hx).1.sl, (h.2 x hx).2.1, fun k h1 h2 => absurd h2 ((h.2 x hx).2.2 k h1)⟩⟩
/-- a slice is put in at place p. -/
theorem RowS.set {w : World} {base g n c : Nat} {l : List (Value × List Int)} (h : RowS w base (.slice (some ⟨g, 0, none⟩) n c) l) (p : Nat) (x : Value × List Int) (hx : Sl w x.1 x.2) (hB : Bs x.2) (ha : x.1.ownBlock = some g → x.2 = []) :
    RowS (w.setCell ⟨g, p, none⟩ x.1) base (.slice (some ⟨g, 0, none⟩) n c) (l.set p x) := by
  have k : Kp [g] w (w.setCell ⟨g, p, none⟩ x.1) := (Kp.refl [g] w).setCell (p := ⟨g, p, none⟩) (.inl (by simp)) _
  have hn : n = l.length := by have := h.1.len; simpa using this
  refine ⟨?_, fun y hy => ?_⟩
  · have e : (l.map (·.1)).length = n := by simp [hn]
    have h1 : w.ownsRow base 22 1 (.slice (some ⟨g, 0, none⟩) n c) n (l.map (·.1)) := by have := h.1; unfold RowV at this; rw [e] at this; exact this
    have h2 := (h1.stored p x.1).1
    unfold RowV
    rw [List.map_set, List.length_set, e]
    exact h2
  · rcases List.mem_or_eq_of_mem_set hy with hy | rfl
    · obtain ⟨h1, h2, h3⟩ := h.2 y hy
      exact ⟨h1.apart k (fun i hi hm => h3 i hi (by simp at hm; subst hm; rfl)), h2, h3⟩
    · exact ⟨hx.apart k (fun i hi hm => ha (by simp at hm; subst hm; exact hi)), hB, fun i hi hv => ha (by cases hv; exact hi)⟩
theorem RowS.spot {w : World} {base n c : Nat} {ao : Option Addr} {l : List (Value × List Int)} (h : RowS w base (.slice ao n c) l) (hn : 0 < n) : ∃ g, ao = some ⟨g, 0, none⟩ ∧ base ≤ g ∧ g < w.heap.size ∧ n = l.length ∧ (∀ i, i < n → ∃ u, w.cell? ⟨g, i, none⟩ = some u) ∧ ∀ i, w.frozen? ⟨g, i, none⟩ = false := by
  have hl := h.1.len
  subst hl
  rcases h.1.2 with ⟨h', h0⟩ | ⟨g, cap, cur, h', hb, hg, _⟩
  · omega
  · have e : ao = some ⟨g, 0, none⟩ := by injection h'
    subst e
    have h1 : w.ownsRow base 22 1 (.slice (some ⟨g, 0, none⟩) (l.map (·.1)).length c) (l.map (·.1)).length (l.map (·.1)) := h.1
    refine ⟨g, rfl, hb, (Array.getElem?_eq_some_iff.1 hg).1, by simp, fun i hi => ?_, fun i => h1.frozenAt i⟩
    rw [h1.cellAt i (by omega)]
    exact ⟨_, List.getElem?_eq_getElem hi⟩
end Go.Proofs.YtillhpgdlmeajaaGreatDoor

/-
  The contracts of Digest, of the program and of the reference.
-/
namespace Go.Proofs.YtillhpgdlmeajaaGreatDoor
open Go.RowKit
theorem val_take_succ (cs : List Int) (k : Nat) (h : k < cs.length) : val (cs.take (k + 1)) = val (cs.take k) * 256 + cs[k] := by
  rw [List.take_succ_eq_append_getElem h, val_snoc]
theorem val_small (cs : List Int) (hB : Bs cs) (h : cs.length ≤ 3) : val cs * 256 ≤ 4294967295 := by
  have h1 := val_bd cs hB
  have h2 : (256 : Nat) ^ cs.length ≤ 256 ^ 3 := Nat.pow_le_pow_right (by omega) h
  have h3 : (256 : Int) ^ cs.length = ((256 ^ cs.length : Nat) : Int) := by simp
  omega
set_option maxRecDepth 100000 in
set_option maxHeartbeats 1000000 in
theorem digest_any (vb : Value) (bs : List Int) (d : Int) (hd : d = digP bs) (w : World) (hS : Sl w vb bs) (hB : Bs bs) (hl : bs.length ≤ 1000000) (hG : Gl w) :
    Calls Tryz.prog 176 #[vb] w fun e w' => e = .returned (.int .u32 d) ∧ Kp [] w w' := by
  have HL := hide (lists1 hS hB)
  have HG := hide hG
  have HD := hide hd
  obtain ⟨ab, cb, hvb, _⟩ := hS
  obtain ⟨nb, hnb⟩ : ∃ n, n = bs.length := ⟨_, rfl⟩
  rw [← hnb] at hvb
  subst hvb
  obtain ⟨r, hr⟩ : ∃ r, r = sha (13 :: cat [(Value.slice ab nb cb, bs)]) := ⟨_, rfl⟩
  have HR := hide hr
  have HRL : Hid (r.length = 32) := by rw [hr]; exact sha_len _
  have HRB : Hid (Bs r) := by rw [hr]; exact sha_bs _
  have HRD : Hid (d = val (r.take 4)) := by rw [hr, hd, cat1]; rfl
  clear hG hd hr hnb hB
  go_enter Tryz.func176, Tryz.ntmps176
  go_wp2_with (go_at_call 144; refine (tagged_any 13 _ _ r (unhide HR) _ (unhide HL) (by omega) (by omega) (by simp) (by simpa using hl) ((unhide HG).kept ((Kp.refl [] w).alloc _) (by simp))).mono ?_; rintro ee w2 ⟨ao2, m2, c2, rfl, R2, K2⟩; obtain rfl : m2 = 32 := R2.len.trans (unhide HRL); have hc2 : 32 ≤ c2 := (by obtain ⟨_, _, e, h', _⟩ := R2.sl; injection e with e1 e2 e3; have := unhide HRL; omega); have hc3 : (4 : Int) ≤ (c2 : Int) := by omega)
  obtain ⟨a2, c2', e2, hc4, hc5, hcell⟩ := R2.sl.at (unhide HRL) (by omega)
  injection e2 with e3 e4 e5
  subst e3
  subst e5
  have HK := hide (((Kp.refl [] w).alloc (.cells #[.slice ab nb cb] 22)).trans K2)
  have HC := hide hcell
  clear R2 K2 hcell HL HR
  go_loopw [3, 11] (fun x i wr => ∃ k : Nat, k ≤ 4 ∧ i = .int .i64 k ∧ x = .int .u32 (val (r.take k)) ∧ wr = w2) (fun _ i _ => 4 - (intOf i).toNat)
  case atStart => exact ⟨0, by omega, rfl, rfl, rfl⟩
  case round =>
    obtain ⟨k, hk, rfl, rfl, hw⟩ := hrel
    subst wr
    by_cases hlt : k < 4
    · have hlt2 : (k : Int) < 4 := by omega
      have hc := unhide HC k (by omega)
      have hkr : k < r.length := by have := unhide HRL; omega
      have hb1 := unhide HRB r[k] (List.getElem_mem hkr)
      have hvb := val_bd (r.take k) ((unhide HRB).take k)
      have hv1 := val_small (r.take k) ((unhide HRB).take k) (by simp; omega)
      rw [show r.getD k 0 = r[k] by simp [List.getElem?_eq_getElem hkr]] at hc
      obtain ⟨x, hx⟩ : ∃ x, x = val (r.take k) := ⟨_, rfl⟩
      obtain ⟨y, hy⟩ : ∃ y, y = r[k] := ⟨_, rfl⟩
      have HX : Hid (val (r.take (k + 1)) = x * 256 + y) := by rw [hx, hy]; exact val_take_succ r k hkr
      rw [← hx] at hvb hv1
      rw [← hx]
      rw [← hy] at hc hb1
      obtain ⟨hb1, hb2⟩ := hb1
      obtain ⟨hx0, _⟩ := hvb
      have hor := bits_or_byte x y hx0 hv1 hb1 hb2
      clear hx hy
      go_wp2_with fail
      go_roundw
      case rel => exact ⟨k + 1, by omega, by go_num, by rw [unhide HX], by trivial⟩
      case measure => simp [intOf]; omega
    · obtain rfl : k = 4 := by omega
      go_wp2_with fail
      go_ret
      exact ⟨by rw [unhide HRD]; rfl, unhide HK⟩
end Go.Proofs.YtillhpgdlmeajaaGreatDoor

/-
  The contracts of package wire's copies and of its reader over this seat's program: copyOf, Done, Read, take, spoil, number, Num, End, Bad.
-/
namespace Go.Proofs.YtillhpgdlmeajaaGreatDoor
open Go.RowKit
/-- A reader: its two cells at block q hold the slice v, which reads as the bytes bs, and whether it is bad. -/
def Rd (w : World) (q : Nat) (v : Value) (bad : Bool) (bs : List Int) : Prop :=
  w.heap[q]? = some (.cells #[v, .bool bad] 199 (0, 0)) ∧ Sl w v bs ∧ v.ownBlock ≠ some q
theorem cell_of_two {w : World} {b : Nat} {v u : Value} {t : TypeId} (h : w.heap[b]? = some (.cells #[v, u] t (0, 0))) : w.cell? ⟨b, 0, none⟩ = some v ∧ w.cell? ⟨b, 1, none⟩ = some u :=
  ⟨by rw [cell_of_row w b 0 _ t _ h]; rfl, by rw [cell_of_row w b 1 _ t _ h]; rfl⟩
theorem free_of_two {w : World} {b : Nat} {c : Array Value} {t : TypeId} (h : w.heap[b]? = some (.cells c t (0, 0))) (j : Nat) : w.frozen? ⟨b, j, none⟩ = false := by
  simp [World.frozen?, h]
theorem two_setCell0 {w : World} {b : Nat} {v u x : Value} {t : TypeId} (h : w.heap[b]? = some (.cells #[v, u] t (0, 0))) : (w.setCell ⟨b, 0, none⟩ x).heap[b]? = some (.cells #[x, u] t (0, 0)) := by
  have hlt := lt_of_block h
  have h' : w.heap[b] = .cells #[v, u] t (0, 0) := by simpa [Array.getElem?_eq_getElem hlt] using h
  show (w.heap.modify b _)[b]? = _
  rw [Array.getElem?_eq_getElem (by simpa using hlt), Array.getElem_modify_self, h']
  rfl
theorem two_setCell1 {w : World} {b : Nat} {v u x : Value} {t : TypeId} (h : w.heap[b]? = some (.cells #[v, u] t (0, 0))) : (w.setCell ⟨b, 1, none⟩ x).heap[b]? = some (.cells #[v, x] t (0, 0)) := by
  have hlt := lt_of_block h
  have h' : w.heap[b] = .cells #[v, u] t (0, 0) := by simpa [Array.getElem?_eq_getElem hlt] using h
  show (w.heap.modify b _)[b]? = _
  rw [Array.getElem?_eq_getElem (by simpa using hlt), Array.getElem_modify_self, h']
  rfl
theorem Rd.kept {w w' : World} {q : Nat} {v : Value} {bad : Bool} {bs : List Int} {S : List Nat} (h : Rd w q v bad bs) (k : Kp S w w') (hp : q ∉ S) (hv : ∀ i, v.ownBlock = some i → i ∉ S) : Rd w' q v bad bs :=
  ⟨k.heap h.1 hp, h.2.1.kept k hv, h.2.2⟩
theorem copy_any (v : Value) (bs : List Int) (w : World) (h : Sl w v bs) (hb : bs.length ≤ 140737488355328) :
    Calls Tryz.prog 153 #[v] w fun e w' => ∃ ao c, e = .returned (.slice ao bs.length c) ∧ w'.ownsRow w.heap.size 5 1 (.slice ao bs.length c) bs.length (bs.map (Value.int .u8)) ∧ Kp [] w w' := by
  obtain ⟨i0, hi0, hz0, hz1, hz2⟩ := info_parts Tryz.info5
  obtain ⟨ao, c, rfl, h1, h2, h3, h4⟩ := h
  cases ao with
  | none =>
    have : bs = [] := List.eq_nil_of_length_eq_zero (by have := h3 rfl; omega)
    subst this
    obtain rfl := h3 rfl
    go_enter Tryz.func153, Tryz.ntmps153
    go_wp2_with (at_builtin; refine wpList_append_own_none rfl _ _ 22 rfl w.heap.size 5 i0 1 Tryz.underlying22 hi0 (.slice none 0 0) 0 [] rfl (World.ownsRow_nil _ _ _ _) rfl ?_)
    go_ret
    exact ⟨_, _, rfl, World.ownsRow_nil _ _ _ _, Kp.refl _ _⟩
  | some a =>
    go_enter Tryz.func153, Tryz.ntmps153
    go_wp2_with (at_builtin; refine wpList_append_own _ rfl _ _ 22 rfl w.heap.size 5 i0 (.int .u8 0) 1 1 Tryz.underlying22 hi0 hz0 hz1 hz2 rfl (by decide) (.slice none 0 0) 0 [] rfl (World.ownsRow_nil _ _ _ _) a bs.length c (bs.map (Value.int .u8)) rfl (by simp) (h4 a rfl) (by simp [Value.oneCell']) (by omega) (by omega) (Nat.le_refl _) ?_; intro v' w1 hown hgrow _)
    go_ret
    have hown' : w1.ownsRow w.heap.size 5 1 v' bs.length (bs.map (Value.int .u8)) := by simpa using hown
    obtain ⟨ao, c', rfl⟩ := owns_shape hown'
    exact ⟨ao, c', rfl, hown', (Kp.refl [] w).grown hgrow (fun k hk => by cases hk)⟩
theorem done_any (p : Nat) (v : Value) (bs : List Int) (w : World) (h : Wr w p v bs) (hb : bs.length ≤ 140737488355328) :
    Calls Tryz.prog 135 #[.pointer (some ⟨p, 0, none⟩)] w fun e w' => ∃ ao c, e = .returned (.slice ao bs.length c) ∧ w'.ownsRow w.heap.size 5 1 (.slice ao bs.length c) bs.length (bs.map (Value.int .u8)) ∧ Kp [] w w' := by
  have hc := h.cell
  have hs := Sl.of_owns h.2
  go_enter Tryz.func135, Tryz.ntmps135
  go_wp2_with (go_at_call 153; refine (copy_any v bs _ hs hb).mono ?_; rintro e w' ⟨ao, c, rfl, h1, h2⟩)
  go_ret
  exact ⟨ao, c, rfl, h1, h2⟩
theorem read_any (v : Value) (bs : List Int) (w : World) (h : Sl w v bs) (hb : bs.length ≤ 140737488355328) :
    Calls Tryz.prog 124 #[v] w fun e w' => ∃ q v', e = .returned (.pointer (some ⟨q, 0, none⟩)) ∧ w.heap.size ≤ q ∧ Rd w' q v' false bs ∧ (∀ k, v'.ownBlock = some k → w.heap.size ≤ k ∧ k < w'.heap.size) ∧ Kp [] w w' := by
  go_enter Tryz.func124, Tryz.ntmps124
  go_wp2_with (go_at_call 153; refine (copy_any v bs _ h hb).mono ?_; rintro e w' ⟨ao, c, rfl, h1, h2⟩)
  go_ret
  have hlt := h1.lt
  exact ⟨w'.heap.size, _, rfl, h2.size, ⟨heap_alloc_new w' _, (Sl.of_owns h1).kept ((Kp.refl [] w').alloc _) (by simp), fun e => by have := (hlt _ e).2; omega⟩, fun k hk => ⟨(hlt k hk).1, by have := (hlt k hk).2; simp; omega⟩, h2.alloc _⟩
theorem spoil_any (q : Nat) (v : Value) (bad : Bool) (bs : List Int) (w : World) (h : Rd w q v bad bs) :
    Calls Tryz.prog 156 #[.pointer (some ⟨q, 0, none⟩)] w fun e w' => e = .returned (.tuple #[]) ∧ Rd w' q (.slice none 0 0) true [] ∧ Kp [q] w w' := by
  have hc := cell_of_two h.1
  have hc0 := hc.1
  have hc1 := hc.2
  have hf := free_of_two h.1
  have hf0 := hf 0
  have hf1 := hf 1
  clear hc hf
  go_enter Tryz.func156, Tryz.ntmps156
  go_wp2
  go_end0
  refine ⟨rfl, ⟨two_setCell1 (two_setCell0 h.1), Sl.nil _, by simp [Value.ownBlock]⟩, ((Kp.refl [q] w).setCell (p := ⟨q, 0, none⟩) (.inl (by simp)) _).setCell (p := ⟨q, 1, none⟩) (.inl (by simp)) _⟩
/-- what take leaves of a reader where there is enough: the piece r, and the rest. -/
def Took (w : World) (q n : Nat) (v : Value) (bad : Bool) (bs : List Int) (r : Value) (w' : World) : Prop :=
  Sl w' r (bs.take n) ∧ (∃ v2, Rd w' q v2 bad (bs.drop n) ∧ ∀ k, v2.ownBlock = some k → v.ownBlock = some k) ∧ Kp [q] w w' ∧ ∀ k, r.ownBlock = some k → v.ownBlock = some k
theorem take_end {w : World} {q : Nat} {ao : Option Addr} {c : Nat} {bad : Bool} {bs : List Int} {n : Nat} (h : Rd w q (.slice ao bs.length c) bad bs) (hn : n ≤ bs.length) (x : Option Addr) (l cc : Nat)
    (hx : x = if c = n then ao else ao.map (·.add n)) (hl : l = bs.length - n) (hcc : cc = c - n) : Took w q n (.slice ao bs.length c) bad bs (.slice ao n c) (w.setCell ⟨q, 0, none⟩ (.slice x l cc)) := by
  subst hl hcc hx
  have hk : Kp [q] w (w.setCell ⟨q, 0, none⟩ (.slice (if c = n then ao else ao.map (·.add n)) (bs.length - n) (c - n))) := (Kp.refl [q] w).setCell (p := ⟨q, 0, none⟩) (.inl (by simp)) _
  have ho : ∀ k, (Value.slice (if c = n then ao else ao.map (·.add n)) (bs.length - n) (c - n)).ownBlock = some k → (Value.slice ao bs.length c).ownBlock = some k := by
    intro k
    split
    · cases ao with
      | none => exact id
      | some a => exact id
    · cases ao with
      | none => exact id
      | some a => simp [Value.ownBlock, add_block]
  have hq : ∀ k, (Value.slice ao bs.length c).ownBlock = some k → k ∉ [q] := fun k hk1 hm => by
    simp only [List.mem_singleton] at hm; subst hm; exact h.2.2 hk1
  have hao : ∀ k, (Value.slice ao n c).ownBlock = some k → (Value.slice ao bs.length c).ownBlock = some k := fun k hk1 => by
    cases ao with
    | none => cases hk1
    | some a => exact hk1
  exact ⟨(h.2.1.take n hn).kept hk (fun k hk => hq k (hao k hk)), ⟨_, ⟨two_setCell0 h.1, (h.2.1.drop n hn).kept hk (fun k hk => hq k (ho k hk)), fun e => hq q (ho q e) (by simp)⟩, ho⟩, hk, hao⟩
set_option maxHeartbeats 400000 in
theorem take_ok (q : Nat) (v : Value) (bad : Bool) (bs : List Int) (n : Nat) (w : World) (hR : Rd w q v bad bs) (hn : n ≤ bs.length) :
    Calls Tryz.prog 155 #[.pointer (some ⟨q, 0, none⟩), .int .i64 n] w fun e w' => ∃ ao c, e = .returned (.slice ao n c) ∧ Took w q n v bad bs (.slice ao n c) w' := by
  obtain ⟨ao, c, rfl, h1, h2, h3, h4⟩ := hR.2.1
  have hc0 := (cell_of_two hR.1).1
  have hf0 := free_of_two hR.1 0
  have hlt : ¬ (n : Int) < 0 := by omega
  have hle : (n : Int) ≤ (bs.length : Int) := by omega
  have hle2 : (n : Int) ≤ (c : Int) := by omega
  unfold maxLen at h2
  clear h4 h3
  by_cases hcn : c = n
  · subst hcn
    go_enter Tryz.func155, Tryz.ntmps155
    go_wp2
    go_ret
    refine ⟨_, _, rfl, take_end hR hn _ _ _ ?_ ?_ ?_⟩
    · simp
    · omega
    · omega
  · go_enter Tryz.func155, Tryz.ntmps155
    go_wp2
    go_ret
    refine ⟨_, _, rfl, take_end hR hn _ _ _ ?_ ?_ ?_⟩
    · simp [hcn]
    · rfl
    · rfl
theorem take_bad (q : Nat) (v : Value) (bad : Bool) (bs : List Int) (n : Int) (w : World) (h : Rd w q v bad bs) (hn : n < 0 ∨ (bs.length : Int) < n) :
    Calls Tryz.prog 155 #[.pointer (some ⟨q, 0, none⟩), .int .i64 n] w fun e w' => e = .returned (.slice none 0 0) ∧ Rd w' q (.slice none 0 0) true [] ∧ Kp [q] w w' := by
  have h0 := h
  obtain ⟨ao, c, rfl, h1, h2, h3, h4⟩ := h.2.1
  have hc0 := (cell_of_two h.1).1
  clear h4 h3 h
  rcases Int.lt_or_le n 0 with hlt | hlt
  · go_enter Tryz.func155, Tryz.ntmps155
    go_wp2_with (go_at_call 156; refine (spoil_any q _ bad bs _ h0).mono ?_; rintro e w' ⟨rfl, k1, k2⟩)
    go_ret
    exact ⟨rfl, k1, k2⟩
  · have hgt : (bs.length : Int) < n := by omega
    go_enter Tryz.func155, Tryz.ntmps155
    go_wp2_with (go_at_call 156; refine (spoil_any q _ bad bs _ h0).mono ?_; rintro e w' ⟨rfl, k1, k2⟩)
    go_ret
    exact ⟨rfl, k1, k2⟩
theorem Sl.at2 {w : World} {ao : Option Addr} {n c : Nat} {bs : List Int} (h : Sl w (.slice ao n c) bs) (h0 : 0 < n) :
    ∃ b off, ao = some ⟨b, off, none⟩ ∧ n = bs.length ∧ ∀ k (hk : k < bs.length), w.cell? ⟨b, off + k, none⟩ = some (.int .u8 bs[k]) := by
  obtain ⟨ao', c', he, h1, h2, h3, h4⟩ := h
  injection he with e1 e2 e3
  subst e1 e2 e3
  cases ao with
  | none => have := h3 rfl; omega
  | some a =>
    obtain ⟨b, off, spot⟩ := a
    have hc := h4 _ rfl 0 (.int .u8 bs[0]) (by simp [List.getElem?_eq_getElem h0])
    have hspot : spot = none := by simpa [Addr.add] using World.cell?_spot hc
    subst hspot
    refine ⟨b, off, rfl, rfl, fun k hk => ?_⟩
    have := h4 _ rfl k (.int .u8 bs[k]) (by simp [List.getElem?_eq_getElem hk])
    rwa [Addr.add_lit] at this
theorem Bs.append {bs cs : List Int} (h : Bs bs) (k : Bs cs) : Bs (bs ++ cs) := fun b hb => by
  rcases List.mem_append.1 hb with h1 | h1
  · exact h b h1
  · exact k b h1
set_option maxHeartbeats 400000 in
theorem rnumber_ok (q : Nat) (v : Value) (bad : Bool) (bs : List Int) (n : Nat) (w : World) (hR : Rd w q v bad bs) (hn : n ≤ bs.length) (h0 : 0 < n) (h4 : n ≤ 4) (hB : Bs bs) :
    Calls Tryz.prog 154 #[.pointer (some ⟨q, 0, none⟩), .int .i64 n] w fun e w' => e = .returned (.int .u32 (val (bs.take n))) ∧ ∃ r, Took w q n v bad bs r w' := by
  go_enter Tryz.func154, Tryz.ntmps154
  go_wp2_with (go_at_call 155; refine (take_ok q v bad bs n _ hR hn).mono ?_; rintro e w1 ⟨ao, c, rfl, hT⟩)
  obtain ⟨b, off, rfl, hl, hcell⟩ := hT.1.at2 h0
  obtain ⟨cs, hcs⟩ : ∃ cs, cs = bs.take n := ⟨_, rfl⟩
  have hBc : Bs cs := hcs ▸ hB.take n
  rw [← hcs] at hl hcell
  have HC : Hid (cs = bs.take n) := hcs
  have HT : Hid (∃ r, Took w q n v bad bs r w1) := ⟨_, hT⟩
  clear hcs hT hB hR hn
  subst hl
  go_loop [5, 12] (fun x i => ∃ k : Nat, k ≤ cs.length ∧ i = .int .i64 k ∧ x = .int .u32 (val (cs.take k))) (fun _ i => cs.length - (intOf i).toNat)
  case atStart => exact ⟨0, Nat.zero_le _, rfl, rfl⟩
  case round =>
    obtain ⟨k, hk, rfl, rfl⟩ := hrel
    by_cases hlt : k < cs.length
    · have hc := hcell k hlt
      have hb1 := hBc cs[k] (List.getElem_mem hlt)
      have hvb := val_bd (cs.take k) (hBc.take k)
      have hlen : (cs.take k).length ≤ 3 := by simp; omega
      have hv1 := val_small (cs.take k) (hBc.take k) hlen
      obtain ⟨x, hx⟩ : ∃ x, x = val (cs.take k) := ⟨_, rfl⟩
      obtain ⟨y, hy⟩ : ∃ y, y = cs[k] := ⟨_, rfl⟩
      have HX : Hid (val (cs.take (k + 1)) = x * 256 + y) := by rw [hx, hy]; exact val_take_succ cs k hlt
      rw [← hx] at hvb hv1
      rw [← hx]
      rw [← hy] at hc hb1
      obtain ⟨hb1, hb2⟩ := hb1
      obtain ⟨hx0, _⟩ := hvb
      have hor := bits_or_byte x y hx0 hv1 hb1 hb2
      clear hx hy hlen hBc hcell
      go_wp2
      go_round
      case rel => exact ⟨k + 1, by omega, by go_num, by rw [HX.out]⟩
      case measure => simp [intOf]; omega
    · obtain rfl : k = cs.length := by omega
      go_wp2
      go_ret
      exact ⟨congrArg (fun l => Ending.returned (.int .u32 (val l))) HC.out, HT.out⟩
set_option maxHeartbeats 400000 in
theorem rnumber_bad (q : Nat) (v : Value) (bad : Bool) (bs : List Int) (n : Nat) (w : World) (hR : Rd w q v bad bs) (hn : bs.length < n) :
    Calls Tryz.prog 154 #[.pointer (some ⟨q, 0, none⟩), .int .i64 n] w fun e w' => e = .returned (.int .u32 0) ∧ Rd w' q (.slice none 0 0) true [] ∧ Kp [q] w w' := by
  go_enter Tryz.func154, Tryz.ntmps154
  go_wp2_with (go_at_call 155; refine (take_bad q v bad bs n _ hR (by omega)).mono ?_; rintro e w1 ⟨rfl, h1, h2⟩)
  refine wp_loop_rounds 1 ?_
  rw [rounds_succ]
  go_wp2
  go_ret
  exact ⟨rfl, h1, h2⟩
theorem rnum_ok (q : Nat) (v : Value) (bad : Bool) (bs : List Int) (w : World) (hR : Rd w q v bad bs) (hn : 4 ≤ bs.length) (hB : Bs bs) :
    Calls Tryz.prog 126 #[.pointer (some ⟨q, 0, none⟩)] w fun e w' => e = .returned (.int .u32 (val (bs.take 4))) ∧ ∃ r, Took w q 4 v bad bs r w' := by
  go_enter Tryz.func126, Tryz.ntmps126
  go_wp2_with (go_at_call 154; refine (rnumber_ok q v bad bs 4 _ hR hn (by omega) (by omega) hB).mono ?_; rintro e w1 ⟨rfl, h1⟩)
  go_ret
  exact ⟨rfl, h1⟩
end Go.Proofs.YtillhpgdlmeajaaGreatDoor

/-
  The contracts of package wire's Raw and Bytes of a writer over this seat's program.
-/
namespace Go.Proofs.YtillhpgdlmeajaaGreatDoor
open Go.RowKit
theorem wr_step' {wr w0 w1 : World} {p : Nat} {v v' : Value} {bs new : List Int} (h : Wr wr p v bs) (h0 : Kp [] wr w0)
    (hown : w1.ownsRow (p + 1) 5 1 v' (bs.length + new.length) (bs.map (Value.int .u8) ++ new.map (Value.int .u8)))
    (hgrow : w0.grownBy w1 v.ownBlock) (hat : ∀ k, v'.ownBlock = some k → v.ownBlock = some k ∨ wr.heap.size ≤ k) :
    Wr (w1.setCell ⟨p, 0, none⟩ v') p v' (bs ++ new) ∧ Step p wr v (w1.setCell ⟨p, 0, none⟩ v') v' := by
  have h1 : w1.heap[p]? = some (.cells #[v] 202 (0, 0)) := by
    rw [hgrow.block p (Nat.lt_of_lt_of_le h.lt h0.size) (Ne.symm h.ne)]
    exact h0.heap h.1 (by simp)
  refine ⟨⟨one_setCell h1, ?_⟩, ?_, hat⟩
  · have := ownsRow_setCell_below hown (a := ⟨p, 0, none⟩) (by simp) v'
    simpa using this
  · have k1 : Kp (p :: v.ownBlock.toList) wr w0 := h0.mono (by simp)
    have k2 := k1.grown hgrow (fun k hk => .inl (by simp [hk]))
    exact k2.setCell (p := ⟨p, 0, none⟩) (.inl (by simp)) _
theorem wr_same {w : World} {p : Nat} {v : Value} {bs : List Int} (h : Wr w p v bs) : Wr (w.setCell ⟨p, 0, none⟩ v) p v bs ∧ Step p w v (w.setCell ⟨p, 0, none⟩ v) v :=
  ⟨⟨one_setCell h.1, ownsRow_setCell_below h.2 (a := ⟨p, 0, none⟩) (by simp) v⟩, (Kp.refl _ w).setCell (p := ⟨p, 0, none⟩) (.inl (by simp)) _, fun _ hk => .inl hk⟩
set_option maxHeartbeats 400000 in
theorem raw_any (p : Nat) (v : Value) (bs : List Int) (vb : Value) (cs : List Int) (w : World) (hw : Wr w p v bs) (hs : Sl w vb cs) (hb : bs.length + cs.length ≤ 140737488355328) :
    Calls Tryz.prog 157 #[.pointer (some ⟨p, 0, none⟩), vb] w fun e w' => e = .returned (.tuple #[]) ∧ ∃ v', Wr w' p v' (bs ++ cs) ∧ Step p w v w' v' := by
  obtain ⟨i0, hi0, hz0, hz1, hz2⟩ := info_parts Tryz.info5
  obtain ⟨ao, c, rfl, h1, h2, h3, h4⟩ := hs
  obtain ⟨av, cv, rfl⟩ := owns_shape hw.2
  have hc := hw.cell
  have hf := hw.free
  have hown := hw.2
  have hne := hw.ne
  have hlt := hw.lt
  cases ao with
  | none =>
    have : cs = [] := List.eq_nil_of_length_eq_zero (by have := h3 rfl; omega)
    subst this
    obtain rfl := h3 rfl
    have R := wr_same hw
    go_enter Tryz.func157, Tryz.ntmps157
    go_wp2_with (at_builtin; refine wpList_append_own_none rfl _ _ 22 rfl (p + 1) 5 i0 1 Tryz.underlying22 hi0 _ _ _ rfl hown rfl ?_)
    go_end0
    exact ⟨rfl, _, by simpa using R.1, R.2⟩
  | some a =>
    go_enter Tryz.func157, Tryz.ntmps157
    go_wp2_with (at_builtin; (refine wpList_append_own_at _ rfl _ _ 22 rfl (p + 1) 5 i0 (.int .u8 0) 1 1 Tryz.underlying22 hi0 hz0 hz1 hz2 rfl (by decide) (.slice av bs.length cv) bs.length (bs.map (Value.int .u8)) rfl hown a cs.length c (cs.map (Value.int .u8)) rfl (by simp) (h4 a rfl) (by simp [Value.oneCell']) (by unfold maxLen; omega) (by omega) (by omega) ?_; intro v' w1 hown1 hgrow _ hat; obtain ⟨av', cv', rfl⟩ := owns_shape hown1; have hc1 : w1.cell? ⟨p, 0, none⟩ = some (.slice av bs.length cv) := (by rw [hgrow.cell_far _ hlt (Ne.symm hne)]; exact hc); have hf1 : w1.frozen? ⟨p, 0, none⟩ = false := (by rw [hgrow.frozen_far _ hlt (Ne.symm hne)]; exact hf)))
    have R := wr_step' (new := cs) hw (Kp.refl [] w) hown1 hgrow (fun k hk => by rcases hat with e | e; exact .inl (e ▸ hk); exact .inr (by rw [e] at hk; cases hk; exact Nat.le_refl _))
    go_end0
    exact ⟨rfl, _, R.1, R.2⟩
end Go.Proofs.YtillhpgdlmeajaaGreatDoor

/-
  The contracts of package wire's reader for every call, by one plain function of what is left: Raw, Byte, Num, Bytes, Left; and of the helpers Cut and Within.
-/
namespace Go.Proofs.YtillhpgdlmeajaaGreatDoor
open Go.RowKit
/-- n bytes off the bytes bs: what is told, whether it is bad now, what is left. -/
def tk (bad : Bool) (bs : List Int) (n : Int) : List Int × Bool × List Int :=
  if 0 ≤ n ∧ n ≤ (bs.length : Int) then (bs.take n.toNat, bad, bs.drop n.toNat) else ([], true, [])
/-- a text behind its length. -/
def tkb (bad : Bool) (bs : List Int) (most : Int) : List Int × Bool × List Int :=
  if max most 0 < val (tk bad bs 2).1 then ([], true, []) else tk (tk bad bs 2).2.1 (tk bad bs 2).2.2 (val (tk bad bs 2).1)
theorem tk_ok (bad : Bool) (bs : List Int) (n : Nat) (h : n ≤ bs.length) : tk bad bs n = (bs.take n, bad, bs.drop n) := by
  unfold tk; rw [if_pos (by omega)]; simp
theorem tk_no (bad : Bool) (bs : List Int) (n : Int) (h : n < 0 ∨ (bs.length : Int) < n) : tk bad bs n = ([], true, []) := by
  unfold tk; rw [if_neg (by omega)]
theorem tk_bs1 {bad : Bool} {bs : List Int} {n : Int} (h : Bs bs) : Bs (tk bad bs n).1 := by
  unfold tk; split
  · exact h.take _
  · intro b hb; cases hb
theorem tk_bs2 {bad : Bool} {bs : List Int} {n : Int} (h : Bs bs) : Bs (tk bad bs n).2.2 := by
  unfold tk; split
  · exact h.drop _
  · intro b hb; cases hb
theorem tk_len {bad : Bool} {bs : List Int} {n : Int} : (tk bad bs n).1.length + (tk bad bs n).2.2.length ≤ bs.length := by
  unfold tk; split
  · simp; omega
  · simp
theorem tk_len1 {bad : Bool} {bs : List Int} {n : Nat} : (tk bad bs n).1.length ≤ n := by
  unfold tk; split
  · simp; omega
  · simp
theorem tkb_bs2 {bad : Bool} {bs : List Int} {n : Int} (h : Bs bs) : Bs (tkb bad bs n).2.2 := by
  unfold tkb; split
  · intro b hb; cases hb
  · exact tk_bs2 (tk_bs2 h)
theorem tkb_bs1 {bad : Bool} {bs : List Int} {n : Int} (h : Bs bs) : Bs (tkb bad bs n).1 := by
  unfold tkb; split
  · intro b hb; cases hb
  · exact tk_bs1 (tk_bs2 h)
theorem tkb_len {bad : Bool} {bs : List Int} {n : Int} : (tkb bad bs n).1.length + (tkb bad bs n).2.2.length ≤ bs.length := by
  unfold tkb; split
  · simp
  · have h1 := @tk_len bad bs 2
    have h2 := @tk_len (tk bad bs 2).2.1 (tk bad bs 2).2.2 (val (tk bad bs 2).1)
    omega
/-- what a call of a reader leaves: the state s, besides its two cells nothing old changed. -/
def Left (w : World) (q : Nat) (v : Value) (s : Bool × List Int) (w' : World) : Prop :=
  (∃ v2, Rd w' q v2 s.1 s.2 ∧ ∀ k, v2.ownBlock = some k → v.ownBlock = some k) ∧ Kp [q] w w'
theorem Left.trans {a b c : World} {q : Nat} {v : Value} {s t : Bool × List Int} (h : Left a q v s b) (k : ∀ v2, Rd b q v2 s.1 s.2 → Left b q v2 t c) : Left a q v t c := by
  obtain ⟨⟨v2, r2, o2⟩, k2⟩ := h
  obtain ⟨⟨v3, r3, o3⟩, k3⟩ := k v2 r2
  exact ⟨⟨v3, r3, fun i hi => o2 i (o3 i hi)⟩, k2.trans k3⟩
theorem Took.left {w w' : World} {q n : Nat} {v : Value} {bad : Bool} {bs : List Int} {r : Value} (h : Took w q n v bad bs r w') : Left w q v (bad, bs.drop n) w' := ⟨h.2.1, h.2.2.1⟩
theorem Left.bad {w w' : World} {q : Nat} {v : Value} (h : Rd w' q (.slice none 0 0) true []) (k : Kp [q] w w') : Left w q v (true, []) w' := ⟨⟨_, h, fun _ hk => by cases hk⟩, k⟩
theorem rnumber_any (q : Nat) (v : Value) (bad : Bool) (bs : List Int) (n : Nat) (w : World) (hR : Rd w q v bad bs) (h0 : 0 < n) (h4 : n ≤ 4) (hB : Bs bs) :
    Calls Tryz.prog 154 #[.pointer (some ⟨q, 0, none⟩), .int .i64 n] w fun e w' => e = .returned (.int .u32 (val (tk bad bs n).1)) ∧ Left w q v (tk bad bs n).2 w' := by
  rcases Nat.lt_or_ge bs.length n with h | h
  · rw [tk_no bad bs n (.inr (by omega))]
    exact (rnumber_bad q v bad bs n w hR h).mono fun _ _ ⟨h1, h2, h3⟩ => ⟨h1, Left.bad h2 h3⟩
  · rw [tk_ok bad bs n h]
    exact (rnumber_ok q v bad bs n w hR h h0 h4 hB).mono fun _ _ ⟨h1, r, h2⟩ => ⟨h1, h2.left⟩
theorem rnum_any (q : Nat) (v : Value) (bad : Bool) (bs : List Int) (w : World) (hR : Rd w q v bad bs) (hB : Bs bs) :
    Calls Tryz.prog 126 #[.pointer (some ⟨q, 0, none⟩)] w fun e w' => e = .returned (.int .u32 (val (tk bad bs 4).1)) ∧ Left w q v (tk bad bs 4).2 w' := by
  go_enter Tryz.func126, Tryz.ntmps126
  go_wp2_with (go_at_call 154; refine (rnumber_any q v bad bs 4 _ hR (by omega) (by omega) hB).mono ?_; rintro e w1 ⟨rfl, h1⟩)
  go_ret
  exact ⟨rfl, h1⟩
/-- a slice r of the call's own that reads as bs. -/
def Own (w w' : World) (r : Value) (bs : List Int) : Prop := Sl w' r bs ∧ ∀ k, r.ownBlock = some k → w.heap.size ≤ k
theorem raw_ok (q : Nat) (v : Value) (bad : Bool) (bs : List Int) (n : Int) (w : World) (hR : Rd w q v bad bs) (hb : bs.length ≤ 140737488355328) :
    Calls Tryz.prog 127 #[.pointer (some ⟨q, 0, none⟩), .int .i64 n] w fun e w' => ∃ ao c, e = .returned (.slice ao (tk bad bs n).1.length c) ∧ Own w w' (.slice ao (tk bad bs n).1.length c) (tk bad bs n).1 ∧ Left w q v (tk bad bs n).2 w' := by
  by_cases hn : 0 ≤ n ∧ n ≤ (bs.length : Int)
  · obtain ⟨m, rfl⟩ := Int.eq_ofNat_of_zero_le hn.1
    have hm : m ≤ bs.length := by omega
    rw [tk_ok bad bs m hm]
    have hl : (bs.take m).length = m := by simp; omega
    obtain ⟨cs, hcs⟩ : ∃ cs, cs = bs.take m := ⟨_, rfl⟩
    simp only
    rw [← hcs] at hl ⊢
    have HC : Hid (cs = bs.take m) := hcs
    clear hcs hn
    subst hl
    go_enter Tryz.func127, Tryz.ntmps127
    go_wp2_with fail
    refine (take_ok q v bad bs cs.length _ hR hm).mono ?_
    rintro e w1 ⟨ao, c, rfl, hT⟩
    have hS : Sl w1 (.slice ao cs.length c) cs := by have := hT.1; rwa [← HC.out] at this
    have hL := hT.left
    clear hT
    go_wp2_with fail
    refine (copy_any _ cs _ hS (by omega)).mono ?_
    rintro e w2 ⟨ao2, c2, rfl, h1, h2⟩
    go_wp2_with fail
    go_ret
    refine ⟨ao2, c2, rfl, ⟨Sl.of_owns h1, fun k hk => Nat.le_trans hL.2.size (h1.lt k hk).1⟩, ?_⟩
    obtain ⟨⟨v2, r2, o2⟩, k2⟩ := hL
    exact ⟨⟨v2, r2.kept h2 (by simp) (by simp), o2⟩, k2.trans (h2.mono (by simp))⟩
  · have hn' : n < 0 ∨ (bs.length : Int) < n := by omega
    rw [tk_no bad bs n hn']
    go_enter Tryz.func127, Tryz.ntmps127
    go_wp2_with fail
    refine (take_bad q v bad bs n _ hR hn').mono ?_
    rintro e w1 ⟨rfl, h1, h2⟩
    go_wp2_with fail
    refine (copy_any _ [] _ (Sl.nil w1) (by simp)).mono ?_
    rintro e w2 ⟨ao2, c2, rfl, h3, h4⟩
    go_wp2_with fail
    go_ret
    exact ⟨ao2, c2, rfl, ⟨Sl.of_owns h3, fun k hk => Nat.le_trans h2.size (h3.lt k hk).1⟩, Left.bad (h1.kept h4 (by simp) (by simp)) (h2.trans (h4.mono (by simp)))⟩
end Go.Proofs.YtillhpgdlmeajaaGreatDoor

/-
  A string turned into bytes: it makes memory, and reads as the string's bytes; strings and the lists of their bytes.
-/
namespace Go.Proofs.YtillhpgdlmeajaaGreatDoor
open Go.RowKit
def nums (S : ByteArray) : List Int := S.data.toList.map fun b => (b.toNat : Int)
theorem nums_len (S : ByteArray) : (nums S).length = S.size := by simp [nums]
theorem conv_big (S : ByteArray) (w : World) (hS : S.size ≤ 9223372036854775807) : ∃ c w', (convert 9 22 (.string S)).run Tryz.prog w = .ok (.slice (some ⟨w.heap.size, 0, none⟩) S.size c) w' ∧ Sl w' (.slice (some ⟨w.heap.size, 0, none⟩) S.size c) (nums S) ∧ Kp [] w w' := by
  refine ⟨_, _, Lib.run_convert_string_bytes (P := Tryz.prog) w 9 22 5 S Tryz.underlying9 Tryz.underlying22 Tryz.underlying5, ?_, ?_⟩
  · refine ⟨some ⟨w.heap.size, 0, none⟩, grownCap w S.size 0 5, by rw [nums_len], by rw [nums_len]; exact grownCap_ge _ _ _ _, grownCap_le_maxLen _ _ _ _ (by unfold maxLen; omega), (fun h => by cases h), fun a ha j u hu => ?_⟩
    cases ha
    have hj : j < S.size := by have := (List.getElem?_eq_some_iff.1 hu).1; simpa [nums] using this
    rw [Addr.add_lit, Nat.zero_add, Lib.bytesWorld_cell w 5 S j hj, ← hu]
    have hj2 : j < S.data.toList.length := by simpa using hj
    simp [nums, List.getD, List.getElem?_eq_getElem hj2]
  · refine ⟨rfl, rfl, rfl, by rw [Lib.bytesWorld_size]; omega, fun k hk _ => Lib.bytesWorld_at_old w 5 S k hk⟩
theorem u8_of (x : Int) (h0 : 0 ≤ x) (h1 : x ≤ 255) : (((UInt8.ofNat x.toNat).toNat : Nat) : Int) = x := by
  rw [UInt8.toNat_ofNat']
  omega
theorem nums_str (bs : List Int) (h : Bs bs) : nums (strOfNums bs) = bs := by
  unfold nums strOfNums
  simp only [List.map_map]
  conv => rhs; rw [← List.map_id bs]
  refine List.map_congr_left (fun x hx => ?_)
  have := h x hx
  simp only [Function.comp, id]
  exact u8_of x this.1 this.2
theorem str_size (bs : List Int) : (strOfNums bs).size = bs.length := by
  show (List.map (fun n : Int => UInt8.ofNat n.toNat) bs).toArray.size = _
  simp
/-- two strings are one just if their bytes are. -/
theorem str_same {a b : List Int} (ha : Bs a) (hb : Bs b) (h : strOfNums a = strOfNums b) : a = b := by
  rw [← nums_str a ha, ← nums_str b hb, h]
end Go.Proofs.YtillhpgdlmeajaaGreatDoor

/-
  Chapter 9 as plain functions: which names and manifests may be, a manifest as bytes, bytes as a manifest; that what is written is read, that what is read is written so, that what is cut off or has more behind it is none.
-/
namespace Go.Proofs.YtillhpgdlmeajaaGreatDoor
open Go.RowKit
/-- A manifest: its name, version, firmware and notes. -/
structure Mf where
  s : ByteArray
  v : Int
  f : List Int
  n : List Int
/-- A manifest of plain data. -/
structure Mf.ok (m : Mf) : Prop where
  v0 : 0 ≤ m.v
  v1 : m.v ≤ 4294967295
  f : Bs m.f
  n : Bs m.n
def be2 (n : Int) : List Int := [n / 256 % 256, n % 256]
def d1 (B : List Int) := tk false B 1
def d2 (B : List Int) := tkb (d1 B).2.1 (d1 B).2.2 20
def d3 (B : List Int) := tk (d2 B).2.1 (d2 B).2.2 4
/-- a bad reader stays bad. -/
theorem tk_bad {bad : Bool} {bs : List Int} {n : Int} (h : (tk bad bs n).2.1 = false) : bad = false ∧ 0 ≤ n ∧ n ≤ (bs.length : Int) := by
  unfold tk at h
  split at h
  · rename_i hc; exact ⟨h, hc⟩
  · cases h
theorem tkb_bad {bad : Bool} {bs : List Int} {n : Int} (h : (tkb bad bs n).2.1 = false) : bad = false ∧ 2 ≤ bs.length ∧ val (bs.take 2) ≤ max n 0 ∧ tkb bad bs n = tk false (bs.drop 2) (val (bs.take 2)) := by
  have hu : tkb bad bs n = if max n 0 < val (tk bad bs 2).1 then ([], true, []) else tk (tk bad bs 2).2.1 (tk bad bs 2).2.2 (val (tk bad bs 2).1) := rfl
  by_cases hc : max n 0 < val (tk bad bs 2).1
  · rw [hu, if_pos hc] at h; cases h
  · rw [if_neg hc] at hu
    have h1 := tk_bad (by rw [← hu]; exact h)
    have h2 := tk_bad h1.1
    have e := tk_ok bad bs 2 (by omega)
    rw [show ((2 : Nat) : Int) = 2 from rfl] at e
    rw [e] at hu hc
    refine ⟨h2.1, by omega, by simp only at hc; omega, ?_⟩
    rw [hu]
    simp only
    rw [h2.1]
theorem be2_bs (n : Int) : Bs (be2 n) := by
  intro b hb
  simp only [be2, List.mem_cons, List.not_mem_nil, or_false] at hb
  rcases hb with rfl | rfl <;> omega
end Go.Proofs.YtillhpgdlmeajaaGreatDoor

/-
  Chapter 13 as plain functions: how records lie, and what is read of any bytes.
-/
namespace Go.Proofs.YtillhpgdlmeajaaGreatDoor
/-- four bytes of a number, the highest first. -/
def bq (n : Int) : List Int := [n / 16777216 % 256, n / 65536 % 256, n / 256 % 256, n % 256]
theorem bq_len (n : Int) : (bq n).length = 4 := rfl
theorem bq_bs (n : Int) : Bs (bq n) := fun b hb => by
  rcases (by simpa [bq] using hb : b = n / 16777216 % 256 ∨ b = n / 65536 % 256 ∨ b = n / 256 % 256 ∨ b = n % 256) with rfl | rfl | rfl | rfl <;> omega
theorem val_bq {n : Int} (h0 : 0 ≤ n) (h1 : n ≤ 4294967295) : val (bq n) = n := by
  unfold val bq
  simp only [List.foldl_cons, List.foldl_nil]
  omega
/-- A record as it lies. -/
def recP (r : List Int) : List Int := bq r.length ++ bq (4294967295 - r.length) ++ r
def layP (l : List (List Int)) : List Int := (l.map recP).flatten
theorem recP_len (r : List Int) : (recP r).length = 8 + r.length := by simp [recP, bq_len]; omega
theorem layP_cons (r : List Int) (l : List (List Int)) : layP (r :: l) = recP r ++ layP l := rfl
theorem layP_snoc (a : List (List Int)) (r : List Int) : layP (a ++ [r]) = layP a ++ recP r := by simp [layP]
theorem recP_bs {r : List Int} (h : Bs r) : Bs (recP r) := fun b hb => by
  rcases List.mem_append.1 hb with hb | hb
  · rcases List.mem_append.1 hb with hb | hb
    · exact bq_bs _ b hb
    · exact bq_bs _ b hb
  · exact h b hb
/-- the two numbers at the beginning. -/
def num1 (b : List Int) : Int := val (b.take 4)
def num2 (b : List Int) : Int := val ((b.drop 4).take 4)
/-- What is read of any bytes, by a number of steps. -/
def opnF : Nat → List Int → List (List Int) × Nat × Bool
  | 0, _ => ([], 0, true)
  | f + 1, b =>
    if b.length < 8 then ([], 0, true)
    else if num2 b ≠ 4294967295 - num1 b ∨ 65535 < num1 b then ([], 0, false)
    else if ((b.length - 8 : Nat) : Int) < num1 b then ([], 0, true)
    else ((b.drop 8).take (num1 b).toNat :: (opnF f (b.drop (8 + (num1 b).toNat))).1, 8 + (num1 b).toNat + (opnF f (b.drop (8 + (num1 b).toNat))).2.1, (opnF f (b.drop (8 + (num1 b).toNat))).2.2)
/-- What is read of any bytes: the records, where they end, and whether what is left is nothing or torn. -/
def opnP (b : List Int) : List (List Int) × Nat × Bool := opnF (b.length + 1) b
theorem opnF_fuel : ∀ (f g : Nat) (b : List Int), b.length < f → b.length < g → opnF f b = opnF g b
  | 0, _, _, h, _ => by omega
  | _ + 1, 0, _, _, h => by omega
  | f + 1, g + 1, b, hf, hg => by
    unfold opnF
    by_cases h8 : b.length < 8
    · rw [if_pos h8, if_pos h8]
    · rw [if_neg h8, if_neg h8, opnF_fuel f g (b.drop (8 + (num1 b).toNat)) (by rw [List.length_drop]; omega) (by rw [List.length_drop]; omega)]
theorem opnP_eq (b : List Int) : opnP b =
    if b.length < 8 then ([], 0, true)
    else if num2 b ≠ 4294967295 - num1 b ∨ 65535 < num1 b then ([], 0, false)
    else if ((b.length - 8 : Nat) : Int) < num1 b then ([], 0, true)
    else ((b.drop 8).take (num1 b).toNat :: (opnP (b.drop (8 + (num1 b).toNat))).1, 8 + (num1 b).toNat + (opnP (b.drop (8 + (num1 b).toNat))).2.1, (opnP (b.drop (8 + (num1 b).toNat))).2.2) := by
  by_cases h8 : b.length < 8
  · show opnF (b.length + 1) b = _
    unfold opnF
    rw [if_pos h8, if_pos h8]
  · have e : opnP (b.drop (8 + (num1 b).toNat)) = opnF b.length (b.drop (8 + (num1 b).toNat)) := opnF_fuel _ _ _ (by omega) (by rw [List.length_drop]; omega)
    rw [e]
    rfl
theorem opnP_short {b : List Int} (h : b.length < 8) : opnP b = ([], 0, true) := by rw [opnP_eq, if_pos h]
theorem opnP_bad {b : List Int} (h : 8 ≤ b.length) (hb : num2 b ≠ 4294967295 - num1 b ∨ 65535 < num1 b) : opnP b = ([], 0, false) := by rw [opnP_eq, if_neg (by omega), if_pos hb]
theorem opnP_torn {b : List Int} (h : 8 ≤ b.length) (h1 : num2 b = 4294967295 - num1 b) (h2 : num1 b ≤ 65535) (h3 : ((b.length - 8 : Nat) : Int) < num1 b) : opnP b = ([], 0, true) := by rw [opnP_eq, if_neg (by omega), if_neg (by omega), if_pos h3]
theorem opnP_one {b : List Int} (h : 8 ≤ b.length) (h1 : num2 b = 4294967295 - num1 b) (h2 : num1 b ≤ 65535) (h3 : num1 b ≤ ((b.length - 8 : Nat) : Int)) :
    opnP b = ((b.drop 8).take (num1 b).toNat :: (opnP (b.drop (8 + (num1 b).toNat))).1, 8 + (num1 b).toNat + (opnP (b.drop (8 + (num1 b).toNat))).2.1, (opnP (b.drop (8 + (num1 b).toNat))).2.2) := by
  rw [opnP_eq, if_neg (by omega), if_neg (by omega), if_neg (by omega)]
theorem num1_rec (r t : List Int) (h : r.length ≤ 65535) : num1 (recP r ++ t) = r.length := by
  have e : (recP r ++ t).take 4 = bq r.length := by
    unfold recP
    rw [List.append_assoc, List.append_assoc, List.take_left' (bq_len _)]
  unfold num1
  rw [e, val_bq (by omega) (by omega)]
theorem num2_rec (r t : List Int) (h : r.length ≤ 65535) : num2 (recP r ++ t) = 4294967295 - r.length := by
  have e : ((recP r ++ t).drop 4).take 4 = bq (4294967295 - r.length) := by
    unfold recP
    rw [List.append_assoc, List.append_assoc, List.drop_left' (bq_len _), List.take_left' (bq_len _)]
  unfold num2
  rw [e, val_bq (by omega) (by omega)]
theorem rec_body (r t : List Int) : (recP r ++ t).drop 8 = r ++ t := by
  unfold recP
  rw [List.append_assoc, List.drop_left' (by simp [bq_len])]
theorem rec_rest (r t : List Int) : (recP r ++ t).drop (8 + r.length) = t := by
  rw [List.drop_left' (recP_len r)]
/-- a record ahead of whatever is read. -/
theorem opnP_rec (r t : List Int) (h : r.length ≤ 65535) : opnP (recP r ++ t) = (r :: (opnP t).1, 8 + r.length + (opnP t).2.1, (opnP t).2.2) := by
  have e1 := num1_rec r t h
  have e2 := num2_rec r t h
  have hl : (recP r ++ t).length = 8 + r.length + t.length := by rw [List.length_append, recP_len]
  rw [opnP_one (by omega) (by omega) (by omega) (by omega), e1, Int.toNat_natCast, rec_body, rec_rest, List.take_left' rfl]
theorem opnP_lay (l : List (List Int)) (t : List Int) (h : ∀ r ∈ l, r.length ≤ 65535) : opnP (layP l ++ t) = (l ++ (opnP t).1, (layP l).length + (opnP t).2.1, (opnP t).2.2) := by
  induction l with
  | nil => simp [layP]
  | cons r l ih =>
    rw [layP_cons, List.append_assoc, opnP_rec r _ (h r (by simp)), ih (fun x hx => h x (by simp [hx]))]
    simp only [List.cons_append, List.length_append, recP_len, Nat.add_assoc]
theorem opnP_nil : opnP [] = ([], 0, true) := opnP_short (by simp)
theorem opnP_all (l : List (List Int)) (h : ∀ r ∈ l, r.length ≤ 65535) : opnP (layP l) = (l, (layP l).length, true) := by
  have := opnP_lay l [] h
  rw [List.append_nil, opnP_nil] at this
  simpa using this
/-- where the records end. -/
theorem opnP_at (b : List Int) : (opnP b).2.1 ≤ b.length := by
  induction hl : b.length using Nat.strongRecOn generalizing b with
  | ind n ih =>
    subst hl
    rw [opnP_eq]
    split
    · exact Nat.zero_le _
    · split
      · exact Nat.zero_le _
      · split
        · exact Nat.zero_le _
        · have := ih (b.drop (8 + (num1 b).toNat)).length (by rw [List.length_drop]; omega) _ rfl
          rw [List.length_drop] at this
          simp only []
          omega
/-- a step of a loop that reads them. -/
theorem opnP_step (b : List Int) (at_ : Nat) (out : List (List Int)) (h : opnP b = (out ++ (opnP (b.drop at_)).1, at_ + (opnP (b.drop at_)).2.1, (opnP (b.drop at_)).2.2)) (h8 : 8 ≤ (b.drop at_).length) (h1 : num2 (b.drop at_) = 4294967295 - num1 (b.drop at_)) (h2 : num1 (b.drop at_) ≤ 65535) (h3 : num1 (b.drop at_) ≤ (((b.drop at_).length - 8 : Nat) : Int)) :
    opnP b = ((out ++ [((b.drop at_).drop 8).take (num1 (b.drop at_)).toNat]) ++ (opnP (b.drop (at_ + (8 + (num1 (b.drop at_)).toNat)))).1, (at_ + (8 + (num1 (b.drop at_)).toNat)) + (opnP (b.drop (at_ + (8 + (num1 (b.drop at_)).toNat)))).2.1, (opnP (b.drop (at_ + (8 + (num1 (b.drop at_)).toNat)))).2.2) := by
  have hd : (b.drop at_).drop (8 + (num1 (b.drop at_)).toNat) = b.drop (at_ + (8 + (num1 (b.drop at_)).toNat)) := List.drop_drop
  rw [h, opnP_one h8 h1 h2 h3, hd]
  simp only [List.append_assoc, List.cons_append, List.nil_append, Nat.add_assoc]
end Go.Proofs.YtillhpgdlmeajaaGreatDoor

/-
  Chapter 15 as plain functions: items each once, their numbers, a batch as a record, what a journal's records hold.
-/
namespace Go.Proofs.YtillhpgdlmeajaaGreatDoor
open Go.RowKit
open Go.Proofs
/-- one more item, if it is new. -/
def insU (l : List (List Int)) (x : List Int) : List (List Int) := if x ∈ l then l else l ++ [x]
/-- all items behind an Add. -/
def allU (l xs : List (List Int)) : List (List Int) := xs.foldl insU l
/-- the number of each. -/
def numU (l xs : List (List Int)) : List Nat := xs.map fun x => (allU l xs).idxOf x
/-- the new ones. -/
def newU (l xs : List (List Int)) : List (List Int) := (allU l xs).drop l.length
theorem insU_old {l : List (List Int)} {x : List Int} (h : x ∈ l) : insU l x = l := if_pos h
theorem insU_new {l : List (List Int)} {x : List Int} (h : x ∉ l) : insU l x = l ++ [x] := if_neg h
theorem insU_pre (l : List (List Int)) (x : List Int) : ∃ t, insU l x = l ++ t := by
  unfold insU
  split
  · exact ⟨[], by simp⟩
  · exact ⟨[x], rfl⟩
theorem insU_nodup {l : List (List Int)} {x : List Int} (h : l.Nodup) : (insU l x).Nodup := by
  unfold insU
  split
  · exact h
  · rename_i hx
    rw [List.nodup_append]
    exact ⟨h, by simp, fun a ha b hb => by simp at hb; subst hb; exact fun e => hx (e ▸ ha)⟩
theorem allU_cons (l : List (List Int)) (x : List Int) (xs : List (List Int)) : allU l (x :: xs) = allU (insU l x) xs := rfl
theorem allU_snoc (l xs : List (List Int)) (x : List Int) : allU l (xs ++ [x]) = insU (allU l xs) x := by simp [allU, List.foldl_append]
theorem allU_pre (l xs : List (List Int)) : ∃ t, allU l xs = l ++ t := by
  induction xs generalizing l with
  | nil => exact ⟨[], by simp [allU]⟩
  | cons x xs ih =>
    obtain ⟨t, ht⟩ := insU_pre l x
    obtain ⟨u, hu⟩ := ih (insU l x)
    exact ⟨t ++ u, by rw [allU_cons, hu, ht, List.append_assoc]⟩
theorem allU_new (l xs : List (List Int)) : allU l xs = l ++ newU l xs := by
  obtain ⟨t, ht⟩ := allU_pre l xs
  unfold newU
  rw [ht, List.drop_left]
theorem allU_len (l xs : List (List Int)) : (allU l xs).length = l.length + (newU l xs).length := by
  have := congrArg List.length (allU_new l xs)
  rwa [List.length_append] at this
theorem allU_nodup {l xs : List (List Int)} (h : l.Nodup) : (allU l xs).Nodup := by
  induction xs generalizing l with
  | nil => exact h
  | cons x xs ih => exact ih (insU_nodup h)
theorem allU_mem (l xs : List (List Int)) (y : List Int) : y ∈ allU l xs ↔ y ∈ l ∨ y ∈ xs := by
  induction xs generalizing l with
  | nil => simp [allU]
  | cons x xs ih =>
    rw [allU_cons, ih]
    unfold insU
    split
    · rename_i hx
      constructor
      · rintro (h | h)
        · exact .inl h
        · exact .inr (List.mem_cons_of_mem _ h)
      · rintro (h | h)
        · exact .inl h
        · rcases List.mem_cons.1 h with rfl | h
          · exact .inl hx
          · exact .inr h
    · simp only [List.mem_append, List.mem_cons, List.not_mem_nil, or_false]
      constructor
      · rintro ((h | h) | h)
        · exact .inl h
        · exact .inr (.inl h)
        · exact .inr (.inr h)
      · rintro (h | h | h)
        · exact .inl (.inl h)
        · exact .inl (.inr h)
        · exact .inr h
theorem allU_le (l xs : List (List Int)) : (allU l xs).length ≤ l.length + xs.length := by
  induction xs generalizing l with
  | nil => simp [allU]
  | cons x xs ih =>
    have := ih (insU l x)
    rw [allU_cons]
    unfold insU at this ⊢
    split at this
    · rename_i hx; rw [if_pos hx]; simp only [List.length_cons]; omega
    · rename_i hx; rw [if_neg hx]; simp only [List.length_append, List.length_cons, List.length_nil] at this ⊢; omega
theorem newU_le (l xs : List (List Int)) : (newU l xs).length ≤ xs.length := by
  have := allU_le l xs
  have := allU_len l xs
  omega
theorem newU_mem {l xs : List (List Int)} {y : List Int} (hl : l.Nodup) (h : y ∈ newU l xs) : y ∈ xs ∧ y ∉ l := by
  have hn := allU_nodup (xs := xs) hl
  rw [allU_new] at hn
  have hd := (List.nodup_append.1 hn).2.2
  have h1 : y ∉ l := fun hy => hd y hy y h rfl
  have h2 : y ∈ allU l xs := by rw [allU_new]; exact List.mem_append.2 (.inr h)
  exact ⟨((allU_mem l xs y).1 h2).resolve_left h1, h1⟩
theorem newU_snoc (l xs : List (List Int)) (x : List Int) : newU l (xs ++ [x]) = if x ∈ allU l xs then newU l xs else newU l xs ++ [x] := by
  have h := allU_snoc l xs x
  rw [allU_new l xs] at h
  by_cases hx : x ∈ allU l xs
  · rw [if_pos hx]
    rw [allU_new] at hx
    rw [insU_old hx, allU_new] at h
    exact List.append_cancel_left h
  · rw [if_neg hx]
    rw [allU_new] at hx
    rw [insU_new hx, allU_new, List.append_assoc] at h
    exact List.append_cancel_left h
theorem idx_pre {l t : List (List Int)} {x : List Int} (h : x ∈ l) : (l ++ t).idxOf x = l.idxOf x := by rw [List.idxOf_append, if_pos h]
theorem idx_post {l t : List (List Int)} {x : List Int} (h : x ∉ l) : (l ++ t).idxOf x = t.idxOf x + l.length := by rw [List.idxOf_append, if_neg h]
theorem idx_none {l : List (List Int)} {x : List Int} (h : x ∉ l) : l.idxOf x = l.length := List.idxOf_eq_length h
theorem idx_ins (l : List (List Int)) (x : List Int) : (insU l x).idxOf x = l.idxOf x := by
  unfold insU
  split
  · rfl
  · rename_i h
    rw [idx_post h, idx_none h]
    simp
theorem numU_snoc (l xs : List (List Int)) (x : List Int) : numU l (xs ++ [x]) = numU l xs ++ [(allU l xs).idxOf x] := by
  unfold numU
  rw [List.map_append, allU_snoc]
  congr 1
  · refine List.map_congr_left (fun y hy => ?_)
    obtain ⟨t, ht⟩ := insU_pre (allU l xs) x
    rw [ht, idx_pre ((allU_mem l xs y).2 (.inr hy))]
  · simp [idx_ins]
theorem newU_nil (l : List (List Int)) : newU l [] = [] := by simp [newU, allU]
/-- an item in a batch. -/
def itmU (x : List Int) : List Int := be2 x.length ++ x
/-- a batch. -/
def batU (l : List (List Int)) : List Int := bq l.length ++ (l.map itmU).flatten
theorem itmU_len (x : List Int) : (itmU x).length = 2 + x.length := by simp [itmU, be2]; omega
theorem itmU_bs {x : List Int} (h : Bs x) : Bs (itmU x) := fun b hb => by
  rcases List.mem_append.1 hb with hb | hb
  · exact be2_bs _ b hb
  · exact h b hb
theorem flatU_bs {l : List (List Int)} (h : ∀ x ∈ l, Bs x) : Bs (l.map itmU).flatten := fun b hb => by
  obtain ⟨x, hx, hb⟩ := List.mem_flatten.1 hb
  obtain ⟨y, hy, rfl⟩ := List.mem_map.1 hx
  exact itmU_bs (h y hy) b hb
theorem batU_bs {l : List (List Int)} (h : ∀ x ∈ l, Bs x) : Bs (batU l) := fun b hb => by
  rcases List.mem_append.1 hb with hb | hb
  · exact bq_bs _ b hb
  · exact flatU_bs h b hb
theorem flatU_len (l : List (List Int)) (m : Nat) (h : ∀ x ∈ l, x.length ≤ m) : ((l.map itmU).flatten).length ≤ l.length * (2 + m) := by
  induction l with
  | nil => simp
  | cons x l ih =>
    have h1 := h x (by simp)
    have h2 := ih (fun y hy => h y (by simp [hy]))
    simp only [List.map_cons, List.flatten_cons, List.length_append, itmU_len, List.length_cons, Nat.add_mul, Nat.one_mul]
    omega
theorem batU_len (l : List (List Int)) (m : Nat) (h : ∀ x ∈ l, x.length ≤ m) : (batU l).length ≤ 4 + l.length * (2 + m) := by
  have := flatU_len l m h
  unfold batU
  rw [List.length_append, bq_len]
  omega
/-- n items, and nothing behind them. -/
def itsU : Nat → List Int → Option (List (List Int))
  | 0, bs => if bs = [] then some [] else none
  | n + 1, bs => if (tkb false bs 65535).2.1 then none else (itsU n (tkb false bs 65535).2.2).map ((tkb false bs 65535).1 :: ·)
/-- a record's items. -/
def unlU (b : List Int) : Option (List (List Int)) := if b.length < 4 then none else if (val (b.take 4)).toNat = 0 then none else itsU (val (b.take 4)).toNat (b.drop 4)
/-- the items of records, behind those of earlier ones. -/
def gatU : List (List Int) → List (List Int) → Option (List (List Int))
  | l, [] => some l
  | l, r :: rs => match unlU r with
    | none => none
    | some xs => if (l ++ xs).Nodup then gatU (l ++ xs) rs else none
def redU (rs : List (List Int)) : Option (List (List Int)) := match gatU [] rs with
  | none => none
  | some l => if l.length ≤ 256 then some l else none
theorem gatU_snoc (l rs : List (List Int)) (r : List Int) : gatU l (rs ++ [r]) = (gatU l rs).bind (fun m => gatU m [r]) := by
  induction rs generalizing l with
  | nil => rfl
  | cons x rs ih =>
    simp only [List.cons_append, gatU]
    split
    · rfl
    · split
      · exact ih _
      · rfl
end Go.Proofs.YtillhpgdlmeajaaGreatDoor

/-
  Chapter 12 as plain functions: a disk of one file, what each call answers and what it leaves.
-/
namespace Go.Proofs.YtillhpgdlmeajaaGreatDoor
/-- A disk: its bytes, how many of them are synced, its limit, at which call from now on power goes (none where it is not above 0), whether power is gone. -/
structure Dk where
  bs : List Int
  syn : Nat
  lim : Int
  arm : Int
  down : Bool
namespace Dk
/-- One call of Append, Sync, Cut: may it be done, is it the one at which power goes, and the disk behind it. -/
def cal (d : Dk) : Bool × Bool × Dk :=
  if d.down then (false, false, d)
  else if 0 < d.arm then (if d.arm = 1 then (false, true, { d with arm := 0, down := true }) else (true, false, { d with arm := d.arm - 1 }))
  else (true, false, d)
def app (d : Dk) (b : List Int) : Bool × Dk :=
  if (!d.cal.1 && !d.cal.2.1) || decide (d.lim < ((d.bs.length + b.length : Nat) : Int)) then (false, d.cal.2.2)
  else (d.cal.1, { d.cal.2.2 with bs := d.bs ++ b })
def sync (d : Dk) : Bool × Dk :=
  if d.cal.1 then (true, { d.cal.2.2 with syn := d.bs.length }) else (false, d.cal.2.2)
/-- Cut: the refusal's number (0: none). -/
def cut (d : Dk) (n : Int) : Int × Dk :=
  if d.down then (13, d)
  else if n < 0 ∨ (d.bs.length : Int) < n then (1, d)
  else if d.cal.1 then (0, { d.cal.2.2 with bs := d.bs.take n.toNat, syn := n.toNat }) else (13, d.cal.2.2)
/-- How many bytes stay behind a crash. -/
def left (d : Dk) (keep : Int) : Nat := d.syn + min keep.toNat (d.bs.length - d.syn)
/-- A disk as calls make it. -/
structure Ok (d : Dk) : Prop where
  syn : d.syn ≤ d.bs.length
  fits : (d.bs.length : Int) ≤ d.lim
  lim : d.lim ≤ 1048576
theorem cal_plain {d : Dk} (h : d.down = false) (ha : d.arm ≤ 0) : d.cal = (true, false, d) := by
  unfold cal
  rw [if_neg (by rw [h]; decide), if_neg (by omega)]
theorem cal_down {d : Dk} (h : d.down = true) : d.cal = (false, false, d) := by
  unfold cal
  rw [if_pos h]
theorem app_plain {d : Dk} (h : d.down = false) (ha : d.arm ≤ 0) (b : List Int) (hf : ((d.bs.length + b.length : Nat) : Int) ≤ d.lim) : d.app b = (true, { d with bs := d.bs ++ b }) := by
  unfold app
  rw [cal_plain h ha, if_neg (by simp; omega)]
theorem app_down {d : Dk} (h : d.down = true) (b : List Int) : d.app b = (false, d) := by
  unfold app
  rw [cal_down h, if_pos (by simp)]
theorem sync_plain {d : Dk} (h : d.down = false) (ha : d.arm ≤ 0) : d.sync = (true, { d with syn := d.bs.length }) := by
  unfold sync
  rw [cal_plain h ha, if_pos rfl]
theorem cut_plain {d : Dk} (h : d.down = false) (ha : d.arm ≤ 0) (n : Int) (h0 : 0 ≤ n) (h1 : n ≤ d.bs.length) : d.cut n = (0, { d with bs := d.bs.take n.toNat, syn := n.toNat }) := by
  unfold cut
  rw [if_neg (by rw [h]; decide), if_neg (by omega), cal_plain h ha, if_pos rfl]
theorem cut_bad {d : Dk} (h : d.down = false) (n : Int) (hn : n < 0 ∨ (d.bs.length : Int) < n) : d.cut n = (1, d) := by
  unfold cut
  rw [if_neg (by rw [h]; decide), if_pos hn]
end Dk
end Go.Proofs.YtillhpgdlmeajaaGreatDoor

/-
  The contract of the reference's block: one block of 64 bytes.
-/
namespace Go.Proofs.YtillhpgdlmeajaaGreatDoor
open Go.RowKit
theorem ad_comm (x y : Int) : ad x y = ad y x := by unfold ad; rw [Int.add_comm]
theorem next_ref (x0 x1 x2 x3 : Int) : (x3 + bits .xor .u32 (bits .xor .u32 (rot x2 7) (rot x2 18)) (x2 / 8) + x1 + bits .xor .u32 (bits .xor .u32 (rot x0 17) (rot x0 19)) (x0 / 1024)) % 4294967296 = ad (ad (ad (sS1 x0) x1) (sS0 x2)) x3 := by
  rw [ad4]
  show (x3 + sS0 x2 + x1 + sS1 x0) % 4294967296 = _
  congr 1
  omega
theorem blk_ref (h bs : List Int) : List.zipWith ad h (rds (sch bs 64) h 64) = blk h bs := by
  unfold blk
  rw [List.zipWith_comm]
  congr 1
  funext x y
  exact ad_comm y x
theorem rnd_raw (a b c d e f g h k w : Int) : rnd [a, b, c, d, e, f, g, h] k w = [((h + bits .xor .u32 (bits .xor .u32 (rot e 6) (rot e 11)) (rot e 25) + bits .xor .u32 (bits .and .u32 e f) (bits .and .u32 (bits .xor .u32 IntKind.u32.max e) g) + k + w) % 4294967296 + (bits .xor .u32 (bits .xor .u32 (rot a 2) (rot a 13)) (rot a 22) + bits .xor .u32 (bits .xor .u32 (bits .and .u32 a b) (bits .and .u32 a c)) (bits .and .u32 b c)) % 4294967296) % 4294967296, a, b, c, (d + (h + bits .xor .u32 (bits .xor .u32 (rot e 6) (rot e 11)) (rot e 25) + bits .xor .u32 (bits .and .u32 e f) (bits .and .u32 (bits .xor .u32 IntKind.u32.max e) g) + k + w) % 4294967296) % 4294967296, e, f, g] := by
  rw [rnd_eq]
  simp only [bS0, bS1, chs, maj]
theorem rnd_raw2 (a b c d e f g h k w : Int) : rnd [a, b, c, d, e, f, g, h] k w = [(h + bits .xor .u32 (bits .xor .u32 (rot e 6) (rot e 11)) (rot e 25) + bits .xor .u32 (bits .and .u32 e f) (bits .and .u32 (bits .xor .u32 IntKind.u32.max e) g) + k + w + (bits .xor .u32 (bits .xor .u32 (rot a 2) (rot a 13)) (rot a 22) + bits .xor .u32 (bits .xor .u32 (bits .and .u32 a b) (bits .and .u32 a c)) (bits .and .u32 b c))) % 4294967296, a, b, c, (d + (h + bits .xor .u32 (bits .xor .u32 (rot e 6) (rot e 11)) (rot e 25) + bits .xor .u32 (bits .and .u32 e f) (bits .and .u32 (bits .xor .u32 IntKind.u32.max e) g) + k + w)) % 4294967296, e, f, g] := by
  rw [rnd_raw]
  simp only [List.cons.injEq, and_true, true_and]
  constructor <;> omega
set_option maxRecDepth 100000 in
set_option maxHeartbeats 2000000 in
theorem block_any (h0 : List Int) (bk : Nat) (vb : Value) (bs : List Int) (w : World) (hh : h0.length = 8) (hk0 : Ar w bk 163 consts) (hS : Sl w vb bs) (hl : bs.length = 64) (hB : Bs bs) :
    Calls Tryz.prog 112 #[ag h0, .pointer (some ⟨bk, 0, none⟩), vb] w fun e w' => e = .returned (ag (blk h0 bs)) ∧ Kp [] w w' := by
  obtain ⟨i0, hi0, hz0⟩ := Tryz.zero64
  obtain ⟨i8, hi8, hz8⟩ := Tryz.zero8
  obtain ⟨ab, cb, rfl, h1, h2, h4⟩ := hS.at hl (by omega)
  have h1i : (64 : Int) ≤ (cb : Int) := by omega
  have H4 := hide h4
  have hab : ab.block < w.heap.size := by have := World.block_lt_of_cell? _ _ (h4 0 (by omega)); rwa [add_block] at this
  have hbk := hk0.lt
  have HK0 := hide hk0
  clear h4 hS hk0
  go_enter Tryz.func112, Tryz.ntmps112
  go_wp2_with (first
    | (refine wpList_box_ar (w := w) rfl 162 (.tmp 0) rfl _ rfl ?_; intro wa Aa Ka za)
    | (refine wpList_alloc_ar (w := wa) rfl 162 rfl i8 _ hi8 hz8 ?_; intro wb Ab Kb zb)
    | (refine wpList_alloc_ar (w := wb) rfl 163 rfl i0 _ hi0 hz0 ?_; intro w1 A1 K1 z1))
  obtain ⟨b1, hb1⟩ : ∃ b, b = w.heap.size := ⟨_, rfl⟩
  obtain ⟨b2, hb2⟩ : ∃ b, b = b1 + 1 := ⟨_, rfl⟩
  obtain ⟨b3, hb3⟩ : ∃ b, b = b2 + 1 := ⟨_, rfl⟩
  rw [← hb1] at Aa
  rw [za, ← hb1, ← hb2] at Ab
  rw [zb, za, ← hb1, show b1 + 1 + 1 = b3 by omega] at A1
  have K2 := (Ka.trans Kb).trans K1
  have AH := (Aa.kept Kb (by simp)).kept K1 (by simp)
  have AR := Ab.kept K1 (by simp)
  have hbw : w.heap.size ≤ b1 := by omega
  have hb12 : b2 = b1 + 1 := hb2
  have hb13 : b3 = b1 + 2 := by omega
  simp only [← hb1, ← hb2, ← hb3]
  have HC : Hid (∀ j, j < 64 → w1.cell? (ab.add j) = some (.int .u8 (bs.getD j 0))) := fun j hj => K2.cell (unhide H4 j hj) (by simp)
  have HKK := hide ((unhide HK0).kept K2 (by simp))
  have hAH := hide AH
  have hAR := hide AR
  have hA1 := hide A1
  have hK2 := hide K2
  have HB12 := hide hb12
  have HB13 := hide hb13
  have hsz1 : w1.heap.size = b1 + 3 := by omega
  have HSZ := hide hsz1
  clear H4 hb1 hb2 hb3 Ka Kb K1 Aa Ab za zb z1 A1 AH AR K2 hb12 hb13 hsz1
  go_loopw [8] (fun i wr => ∃ k : Nat, k ≤ 16 ∧ i = .int .i64 k ∧ Kp [b3] w1 wr ∧ Ar wr b3 163 (sch bs k ++ List.replicate (64 - k) 0)) (fun i _ => 16 - (intOf i).toNat)
  case atStart => exact ⟨0, by omega, rfl, Kp.refl _ _, unhide hA1⟩
  case round =>
    obtain ⟨k, hk, rfl, Kr, Ak⟩ := hrel
    by_cases hlt : k < 16
    · have hlt2 : (k : Int) < 16 := by omega
      have hck : ∀ j, j < 64 → wr.cell? (ab.add j) = some (.int .u8 (bs.getD j 0)) := fun j hj => Kr.cell (unhide HC j hj) (by have := unhide HB13; rw [add_block]; simp; omega)
      obtain ⟨x0, hx0⟩ : ∃ x, x = bs.getD (4 * k) 0 := ⟨_, rfl⟩
      obtain ⟨x1, hx1⟩ : ∃ x, x = bs.getD (4 * k + 1) 0 := ⟨_, rfl⟩
      obtain ⟨x2, hx2⟩ : ∃ x, x = bs.getD (4 * k + 2) 0 := ⟨_, rfl⟩
      obtain ⟨x3, hx3⟩ : ∃ x, x = bs.getD (4 * k + 3) 0 := ⟨_, rfl⟩
      have hc0 := hck (4 * k) (by omega)
      have hc1 := hck (4 * k + 1) (by omega)
      have hc2 := hck (4 * k + 2) (by omega)
      have hc3 := hck (4 * k + 3) (by omega)
      rw [← hx0] at hc0
      rw [Addr.add_succ', ← hx1] at hc1
      rw [Addr.add_succ', ← hx2] at hc2
      rw [Addr.add_succ', ← hx3] at hc3
      have d0 := hB.at (4 * k)
      have d1 := hB.at (4 * k + 1)
      have d2 := hB.at (4 * k + 2)
      have d3 := hB.at (4 * k + 3)
      rw [← hx0] at d0
      rw [← hx1] at d1
      rw [← hx2] at d2
      rw [← hx3] at d3
      have hsch : sch bs (k + 1) = sch bs k ++ [wd x0 x1 x2 x3] := by simp only [sch, if_pos hlt, wordAt, hx0, hx1, hx2, hx3]
      have hset := sch_set bs k (by omega) _ hsch
      obtain ⟨ys, hys⟩ : ∃ ys, ys = sch bs k ++ List.replicate (64 - k) 0 := ⟨_, rfl⟩
      rw [← hys] at Ak hset
      have hyl : ys.length = 64 := by rw [hys]; simp [sch_len]; omega
      have hck' := Ak.cell k (by omega)
      have hfk := Ak.frozen k
      have HA := hide Ak
      have HS := hide hset
      have hkr := hide Kr
      obtain ⟨old, hold⟩ : ∃ old, old = ys.getD k 0 := ⟨_, rfl⟩
      rw [← hold] at hck'
      clear hck hx0 hx1 hx2 hx3 hsch hset hys Ak Kr hold
      go_wp2_with fail
      refine region_tail 35 Tryz.mixed (by kernel_rfl) ?_
      simp only [List.take_succ_cons, List.take_zero, List.drop_succ_cons, List.drop_zero]
      repeat (first | go_big_quiet_skip | (go_big_quiet_want; go_big_quiet_op; go_big_quiet_on))
      refine wpQuiet_nil ?_
      go_wp2_with fail
      go_roundw
      case rel =>
        refine ⟨k + 1, by omega, by go_num, ((unhide hkr).setCell (p := ⟨b3, k, none⟩) (.inl (by simp)) _).drew, ?_⟩
        rw [← unhide HS]
        exact (unhide HA).set k _
      case measure => simp [intOf]; omega
    · obtain rfl : k = 16 := by omega
      obtain ⟨w2, hw2⟩ : ∃ w2, w2 = wr := ⟨_, rfl⟩
      subst hw2
      have HK := hide Kr
      have hAk := hide Ak
      clear Kr Ak
      go_wp2_with fail
      go_loopw [9] (fun i wr => ∃ k : Nat, 16 ≤ k ∧ k ≤ 64 ∧ i = .int .i64 k ∧ Kp [b3] w1 wr ∧ Ar wr b3 163 (sch bs k ++ List.replicate (64 - k) 0)) (fun i _ => 64 - (intOf i).toNat)
      case atStart => exact ⟨16, by omega, by omega, rfl, unhide HK, unhide hAk⟩
      case round =>
        obtain ⟨k, hk1, hk, rfl, Kr, Ar1⟩ := hrel
        clear hAk HK
        by_cases hlt : k < 64
        · have hlt2 : (k : Int) < 64 := by omega
          have hk2 : (16 : Int) ≤ (k : Int) := by omega
          have hnl : ¬ k < 16 := by omega
          obtain ⟨ys, hys⟩ : ∃ ys, ys = sch bs k ++ List.replicate (64 - k) 0 := ⟨_, rfl⟩
          have hgd : ∀ j, j < k → ys.getD j 0 = (sch bs k).getD j 0 := fun j hj => by
            rw [hys, List.getD_eq_getElem?_getD, List.getD_eq_getElem?_getD, List.getElem?_append_left (by rw [sch_len]; exact hj)]
          have hyl : ys.length = 64 := by rw [hys]; simp [sch_len]; omega
          have hset := fun x hx => sch_set bs k (by omega) x hx
          rw [← hys] at Ar1 hset
          obtain ⟨x0, hx0⟩ : ∃ x, x = ys.getD (k - 2) 0 := ⟨_, rfl⟩
          obtain ⟨x1, hx1⟩ : ∃ x, x = ys.getD (k - 7) 0 := ⟨_, rfl⟩
          obtain ⟨x2, hx2⟩ : ∃ x, x = ys.getD (k - 15) 0 := ⟨_, rfl⟩
          obtain ⟨x3, hx3⟩ : ∃ x, x = ys.getD (k - 16) 0 := ⟨_, rfl⟩
          have hc0 := Ar1.cell (k - 2) (by omega)
          have hc1 := Ar1.cell (k - 7) (by omega)
          have hc2 := Ar1.cell (k - 15) (by omega)
          have hc3 := Ar1.cell (k - 16) (by omega)
          rw [← hx0] at hc0
          rw [← hx1] at hc1
          rw [← hx2] at hc2
          rw [← hx3] at hc3
          have hsch : sch bs (k + 1) = sch bs k ++ [ad (ad (ad (sS1 x0) x1) (sS0 x2)) x3] := by
            simp only [sch, if_neg hnl, nextW, hx0, hx1, hx2, hx3]
            rw [hgd _ (by omega), hgd _ (by omega), hgd _ (by omega), hgd _ (by omega)]
          have HS := hide (hset _ hsch)
          have HA := hide Ar1
          have hkr := hide Kr
          have hck' := Ar1.cell k (by omega)
          have hfk := Ar1.frozen k
          obtain ⟨old, hold⟩ : ∃ old, old = ys.getD k 0 := ⟨_, rfl⟩
          rw [← hold] at hck'
          clear hx0 hx1 hx2 hx3 hsch hset hys Ar1 Kr hold hgd
          go_wp2_with fail
          refine region_read Tryz.mixed (by kernel_rfl) ?_
          repeat (first | go_big_quiet_skip | (go_big_quiet_want; go_big_quiet_op; go_big_quiet_on))
          refine wpQuiet_nil ?_
          go_wp2_with fail
          refine region_tail 29 Tryz.mixed (by kernel_rfl) ?_
          simp only [List.take_succ_cons, List.take_zero, List.drop_succ_cons, List.drop_zero]
          repeat (first | go_big_quiet_skip | (go_big_quiet_want; go_big_quiet_op; first | go_big_quiet_on | (refine ⟨_, turn_any _ _ _ (by omega) (by omega), ?_⟩; go_big_quiet_on)))
          refine wpQuiet_nil ?_
          go_wp2_with fail
          go_roundw
          case rel =>
            refine ⟨k + 1, by omega, by omega, by go_num, (((unhide hkr).setCell (p := ⟨b3, k, none⟩) (.inl (by simp)) _).drew).drew, ?_⟩
            rw [← unhide HS, ← next_ref]
            exact (unhide HA).set k _
          case measure => simp [intOf]; omega
        · obtain rfl : k = 64 := by omega
          obtain ⟨ws, hws⟩ : ∃ ws, ws = sch bs 64 := ⟨_, rfl⟩
          have hwl : ws.length = 64 := by rw [hws]; exact sch_len _ _
          have AW : Ar wr b3 163 ws := by rw [hws]; simpa using Ar1
          have AH := (unhide hAH).kept Kr (by have := unhide HB13; simp; omega)
          have AR := (unhide hAR).kept Kr (by have := unhide HB13; have := unhide HB12; simp; omega)
          have AK := (unhide HKK).kept Kr (by have := unhide HB13; simp; omega)
          have KW : Kp [] w wr := (unhide hK2).then Kr (by have := unhide HB13; simp; omega)
          obtain ⟨w4, hw4⟩ : ∃ w4, w4 = wr := ⟨_, rfl⟩
          subst hw4
          have HW := hide hws
          have hszw : w.heap.size ≤ w4.heap.size := KW.size
          have hl1 := AH.lt
          have hl2 := AR.lt
          have hl3 := AW.lt
          have hl4 := AK.lt
          have hi : (Tryz.prog.info? 162).map (·.size) = some h0.length := by rw [hh]; exact Tryz.sz8
          clear Ar1 Kr hws
          go_wp2_with (first
            | (refine wpList_load_ar rfl 162 (.tmp 3) rfl b1 rfl _ _ 8 103 AH Tryz.underlying162 hi ?_)
            | (refine wpList_alloc_ar (w := w4) rfl 162 rfl i8 _ hi8 hz8 ?_; intro w5 A5 K5 z5)
            | (refine wpList_store_ar rfl 162 (.tmp 12) (.tmp 99) rfl w4.heap.size rfl _ _ h0 A5 rfl (by rw [hh]; rfl) hi ?_; intro w6 A6 K6 z6))
          obtain ⟨b4, hb4⟩ : ∃ b, b = w4.heap.size := ⟨_, rfl⟩
          rw [← hb4] at A5 A6 K6 hl1 hl2 hl3 hl4
          simp only [← hb4]
          have n1 : b1 ≠ b4 := by omega
          have n2 : b2 ≠ b4 := by omega
          have n3 : b3 ≠ b4 := by omega
          have n4 : bk ≠ b4 := by omega
          have hb4w : w.heap.size ≤ b4 := by omega
          have hAW := hide ((AW.kept K5 (by simp)).kept K6 (by simp; omega))
          have hAH := hide ((AH.kept K5 (by simp)).kept K6 (by simp; omega))
          have hAR := hide ((AR.kept K5 (by simp)).kept K6 (by simp; omega))
          have hAK := hide ((AK.kept K5 (by simp)).kept K6 (by simp; omega))
          have hK6 : Hid (Kp [] w w6) := (KW.trans K5).then K6 (by simp; omega)
          have hA6 := hide A6
          clear A5 A6 K5 K6 z5 z6 AW AH AR AK KW hl1 hl2 hl3 hl4 hszw hb4
          go_loopw [13] (fun i wr => ∃ k : Nat, k ≤ 64 ∧ i = .int .i64 k ∧ Kp [b4] w6 wr ∧ Ar wr b4 162 (rds ws h0 k)) (fun i _ => 64 - (intOf i).toNat)
          case atStart => exact ⟨0, by omega, rfl, Kp.refl _ _, unhide hA6⟩
          case round =>
            obtain ⟨k, hk, rfl, Kr, Ak⟩ := hrel
            have hrl := rds_len ws h0 hh k
            by_cases hlt : k < 64
            · have hlt2 : (k : Int) < 64 := by omega
              have hcw := ((unhide hAW).kept Kr (by simpa using n3)).cell k (by omega)
              have hck := ((unhide hAK).kept Kr (by simpa using n4)).cell k (by simpa [consts] using hlt)
              obtain ⟨a, b, c, d, e, f, g, q, hrd⟩ := eight hrl
              rw [hrd] at Ak
              have hnx : rds ws h0 (k + 1) = rnd [a, b, c, d, e, f, g, q] (consts.getD k 0) (ws.getD k 0) := by simp only [rds, hrd]
              obtain ⟨x, hx⟩ : ∃ x, x = ws.getD k 0 := ⟨_, rfl⟩
              obtain ⟨y, hy⟩ : ∃ y, y = consts.getD k 0 := ⟨_, rfl⟩
              rw [← hx] at hcw hnx
              rw [← hy] at hck hnx
              have HN := hide hnx
              have c0 := Ak.cell 0 (by simp)
              have c1 := Ak.cell 1 (by simp)
              have c2 := Ak.cell 2 (by simp)
              have c3 := Ak.cell 3 (by simp)
              have c4 := Ak.cell 4 (by simp)
              have c5 := Ak.cell 5 (by simp)
              have c6 := Ak.cell 6 (by simp)
              have c7 := Ak.cell 7 (by simp)
              simp only [List.getD_cons_zero, List.getD_cons_succ] at c0 c1 c2 c3 c4 c5 c6 c7
              have hA := hide Ak
              have hkr := hide Kr
              clear Ak Kr hx hy hnx hrd hrl
              go_wp2_with fail
              refine region_read Tryz.mixed (by kernel_rfl) ?_
              repeat (first | go_big_quiet_skip | (go_big_quiet_want; go_big_quiet_op; go_big_quiet_on))
              refine wpQuiet_nil ?_
              go_wp2_with fail
              refine region_read Tryz.mixed (by kernel_rfl) ?_
              repeat (first | go_big_quiet_skip | (go_big_quiet_want; go_big_quiet_op; first | go_big_quiet_on | (refine ⟨_, turn_any _ _ _ (by omega) (by omega), ?_⟩; go_big_quiet_on)))
              refine wpQuiet_nil ?_
              go_wp2_with fail
              refine region_read Tryz.mixed (by kernel_rfl) ?_
              repeat (first | go_big_quiet_skip | (go_big_quiet_want; go_big_quiet_op; first | go_big_quiet_on | (refine ⟨_, turn_any _ _ _ (by omega) (by omega), ?_⟩; go_big_quiet_on)))
              refine wpQuiet_nil ?_
              have hA3 : Ar wr.drew.drew.drew b4 162 [a, b, c, d, e, f, g, q] := unhide hA
              go_wp2_with (refine wpList_store_ar rfl 162 (.tmp 12) (.tmp 181) rfl b4 rfl _ _ [_, _, _, _, _, _, _, _] hA3 rfl rfl Tryz.sz8 ?_; intro w9 A9 K9 z9)
              go_roundw
              case rel =>
                refine ⟨k + 1, by omega, by go_num, ((unhide hkr).drew.drew.drew).trans K9, ?_⟩
                rw [unhide HN, rnd_raw2]
                exact A9
              case measure => simp [intOf]; omega
            · obtain rfl : k = 64 := by omega
              clear hk hlt
              obtain ⟨tt, htt⟩ : ∃ tt, tt = rds ws h0 64 := ⟨_, rfl⟩
              rw [← htt] at Ak hrl
              have HT := hide htt
              have hAk := hide Ak
              have AH := (unhide hAH).kept Kr (by simpa using n1)
              have hAR8 := hide ((unhide hAR).kept Kr (by simpa using n2))
              have hKW : Hid (Kp [] w wr) := (unhide hK6).then Kr (by simp; omega)
              have h00 : h0 = List.zipWith ad (h0.take 0) tt ++ h0.drop 0 := by simp
              rw [h00] at AH
              have hAH8 := hide AH
              obtain ⟨w8, hw8⟩ : ∃ w8, w8 = wr := ⟨_, rfl⟩
              subst hw8
              have hb21 : b1 ≠ b2 := by have := unhide HB12; omega
              clear Ak Kr AH h00 htt hA6 hAW hAH hAR hAK hK6
              go_wp2_with fail
              go_loopw [18] (fun i wr => ∃ k : Nat, k ≤ 8 ∧ i = .int .i64 k ∧ Kp [b1] w8 wr ∧ Ar wr b1 162 (List.zipWith ad (h0.take k) tt ++ h0.drop k)) (fun i _ => 8 - (intOf i).toNat)
              case atStart => exact ⟨0, by omega, rfl, Kp.refl _ _, unhide hAH8⟩
              case round =>
                obtain ⟨k, hk, rfl, Kr, Ak⟩ := hrel
                clear hAH8
                have A9 := (unhide hAk).kept Kr (by simp; omega)
                by_cases hlt : k < 8
                · have hlt2 : (k : Int) < 8 := by omega
                  obtain ⟨ys, hys⟩ : ∃ ys, ys = List.zipWith ad (h0.take k) tt ++ h0.drop k := ⟨_, rfl⟩
                  have hz : (List.zipWith ad (h0.take k) tt).length = k := by simp; omega
                  have hyl : ys.length = 8 := by rw [hys]; simp [hz]; omega
                  have hset : ys.set k (ad (ys.getD k 0) (tt.getD k 0)) = List.zipWith ad (h0.take (k + 1)) tt ++ h0.drop (k + 1) := zip_step h0 tt k (by omega) (by omega) ys hys
                  rw [← hys] at Ak
                  have hc1 := Ak.cell k (by omega)
                  have hc2 := A9.cell k (by omega)
                  have hfk := Ak.frozen k
                  obtain ⟨x, hx⟩ : ∃ x, x = ys.getD k 0 := ⟨_, rfl⟩
                  obtain ⟨y, hy⟩ : ∃ y, y = tt.getD k 0 := ⟨_, rfl⟩
                  rw [← hx] at hc1 hset
                  rw [← hy] at hc2 hset
                  have HS := hide hset
                  have HA := hide Ak
                  have hkr := hide Kr
                  clear hx hy hset Ak Kr A9 hys hz
                  go_wp2_with fail
                  refine region_tail 9 Tryz.mixed (by kernel_rfl) ?_
                  simp only [List.take_succ_cons, List.take_zero, List.drop_succ_cons, List.drop_zero]
                  repeat (first | go_big_quiet_skip | (go_big_quiet_want; go_big_quiet_op; go_big_quiet_on))
                  refine wpQuiet_nil ?_
                  go_wp2_with fail
                  go_roundw
                  case rel =>
                    refine ⟨k + 1, by omega, by go_num, ((unhide hkr).setCell (p := ⟨b1, k, none⟩) (.inl (by simp)) _).drew, ?_⟩
                    rw [← unhide HS]
                    exact (unhide HA).set k _
                  case measure => simp [intOf]; omega
                · obtain rfl : k = 8 := by omega
                  have A10 := (unhide hAR8).kept Kr (by simp; omega)
                  have hfin : List.zipWith ad (h0.take 8) tt ++ h0.drop 8 = blk h0 bs := by
                    rw [List.take_of_length_le (by omega), List.drop_of_length_le (by omega), List.append_nil, unhide HT, unhide HW, blk_ref]
                  rw [hfin] at Ak
                  have hbl : (blk h0 bs).length = 8 := blk_len _ _ hh
                  have hib : (Tryz.prog.info? 162).map (·.size) = some (blk h0 bs).length := by rw [hbl]; exact Tryz.sz8
                  go_wp2_with (first
                    | (refine wpList_load_ar rfl 162 (.tmp 3) rfl b1 rfl _ _ 8 103 Ak Tryz.underlying162 hib ?_)
                    | (refine wpList_store_ar rfl 162 (.tmp 6) (.tmp 195) rfl b2 rfl _ _ _ A10 rfl (by rw [hbl]; rfl) hib ?_; intro w9 A9 K9 z9))
                  refine bodyPost_ret (results_cell_row rfl _ w9 b2 _ _ (0, 0) (.array 8 103) rfl A9 Tryz.underlying162 rfl (by simpa using hib)) rfl ?_
                  refine ⟨rfl, ?_⟩
                  have hbw2 : w.heap.size ≤ b2 := by have := unhide HB12; omega
                  exact ((unhide hKW).then Kr (by simp; omega)).then K9 (by simp; omega)
end Go.Proofs.YtillhpgdlmeajaaGreatDoor

/-
  The contracts of the reference's constants and Sum.
-/
namespace Go.Proofs.YtillhpgdlmeajaaGreatDoor
open Go.RowKit
set_option maxRecDepth 100000 in
set_option maxHeartbeats 4000000 in
theorem consts_any (w : World) : Calls Tryz.prog 111 #[] w fun e w' => e = .returned (ag consts) ∧ Kp [] w w' := by
  obtain ⟨i0, hi0, hz0⟩ := Tryz.zero64
  go_enter Tryz.func111, Tryz.ntmps111
  go_wp2_with (first
    | (refine wpList_alloc_ar (w := w) rfl 163 rfl i0 _ hi0 hz0 ?_; intro w1 A1 K1 z1)
    | (refine wpList_store_ar rfl 163 (.tmp 0) (.tmp 1) rfl w.heap.size rfl _ _ consts A1 rfl rfl Tryz.sz64 ?_; intro w2 A2 K2 z2))
  refine bodyPost_ret (results_cell_row rfl _ w2 w.heap.size _ _ (0, 0) (.array 64 103) rfl A2 Tryz.underlying163 rfl Tryz.sz64) rfl ?_
  exact ⟨rfl, K1.then K2 (by simp)⟩
/-- What is left of a text behind k blocks. -/
theorem blks_succ (k : Nat) (s bs : List Int) : blks (k + 1) s bs = blk (blks k s bs) ((bs.drop (64 * k)).take 64) := rfl
set_option maxRecDepth 100000 in
set_option maxHeartbeats 2000000 in
theorem refsum_any (vb : Value) (bs : List Int) (w : World) (hS : Sl w vb bs) (hB : Bs bs) (hl : bs.length ≤ 1000000000000) :
    Calls Tryz.prog 69 #[vb] w fun e w' => ∃ ao m c, e = .returned (.slice ao m c) ∧ Row w' w.heap.size (.slice ao m c) (sha bs) ∧ Kp [] w w' := by
  obtain ⟨i0, hi0, hz0⟩ := Tryz.zero64
  obtain ⟨i8, hi8, hz8⟩ := Tryz.zero8
  have HB : Hid (Bs bs) := hB
  have HSl : Hid (Sl w vb bs) := hS
  obtain ⟨ab, cb, rfl, h1, h2, h3, _⟩ := hS
  obtain ⟨N, hN⟩ : ∃ N, N = bs.length := ⟨_, rfl⟩
  rw [← hN] at h1 HSl ⊢
  have HN := hide hN
  have hNl : N ≤ 1000000000000 := by omega
  clear hB hN hl
  go_enter Tryz.func69, Tryz.ntmps69
  go_wp2_with (first
    | (refine wpList_alloc_ar (w := w) rfl 162 rfl i8 _ hi8 hz8 ?_; intro w1 A1 K1 z1)
    | (refine wpList_store_ar rfl 162 (.tmp 3) (.tmp 10) rfl w.heap.size rfl _ _ begin8 A1 rfl rfl Tryz.sz8 ?_; intro w2 A2 K2 z2)
    | (go_at_call 111; refine (consts_any _).mono ?_; rintro ee w3 ⟨rfl, K3⟩)
    | (refine wpList_alloc_ar (w := w3) rfl 163 rfl i0 _ hi0 hz0 ?_; intro w4 A4 K4 z4)
    | (refine wpList_store_ar rfl 163 (.tmp 4) (.tmp 11) rfl w3.heap.size rfl _ _ consts A4 rfl rfl Tryz.sz64 ?_; intro w5 A5 K5 z5))
  obtain ⟨b1, hb1⟩ : ∃ b, b = w.heap.size := ⟨_, rfl⟩
  obtain ⟨b2, hb2⟩ : ∃ b, b = w3.heap.size := ⟨_, rfl⟩
  rw [← hb2] at A4 A5 K5
  rw [← hb1] at A1 A2 K2
  simp only [← hb1, ← hb2]
  have hs3 := K3.size
  have hs1 := K1.size
  have hA2l := A2.lt
  have hne : b1 ≠ b2 := by omega
  have K25 : Kp [] w2 w4 := K3.trans K4
  have hAH : Hid (Ar w5 b1 162 begin8) := (A2.kept K25 (by simp)).kept K5 (by simpa using hne)
  have hAK : Hid (Ar w5 b2 163 consts) := A5
  have hKW : Hid (Kp [] w w5) := ((K1.then K2 (by simp; omega)).trans K25).then K5 (by simp; omega)
  have hbw2 : w.heap.size ≤ b2 := by omega
  have HB1 := hide hb1
  clear A1 A2 A4 A5 K1 K2 K3 K4 K5 K25 z1 z2 z4 z5 hs3 hs1 hA2l hb1 hb2
  go_loopw [0] (fun v wr => ∃ (k m c : Nat) (ao : Option Addr), 64 * k ≤ N ∧ v = .slice ao m c ∧ Sl w v (bs.drop (64 * k)) ∧ Kp [b1] w5 wr ∧ Ar wr b1 162 (blks k begin8 bs)) (fun v _ => (match v with | .slice _ m _ => m | _ => 0))
  case atStart => exact ⟨0, N, cb, ab, by omega, rfl, by simpa using unhide HSl, Kp.refl _ _, unhide hAH⟩
  case round =>
    obtain ⟨k, m, c, ao, hk, rfl, Sk, Kr, Ak⟩ := hrel
    have hlk := blks_len begin8 bs rfl k
    have hml : m = N - 64 * k := by obtain ⟨_, _, e, _⟩ := Sk; injection e with _ e2 _; rw [e2]; simp; have := unhide HN; omega
    have hmc : m ≤ c ∧ c ≤ maxLen ∧ (ao = none → c = 0) := by obtain ⟨_, _, e, x1, x2, x3, _⟩ := Sk; injection e with e1 e2 e3; subst e1; subst e3; exact ⟨by omega, x2, x3⟩
    obtain ⟨hmc, hcx, hao⟩ := hmc
    unfold maxLen at hcx
    have hKw : Hid (Kp [b1] w wr) := ((unhide hKW).mono (by simp)).trans Kr
    have hbl1 : w.heap.size ≤ b1 := by have := unhide HB1; omega
    by_cases hge : 64 ≤ m
    · cases ao with
      | none => have := hao rfl; omega
      | some a =>
      have hgi : (64 : Int) ≤ (m : Int) := by omega
      have hgc : (64 : Int) ≤ (c : Int) := by omega
      have hdl : (bs.drop (64 * k)).length = m := by have := unhide HN; simp; omega
      have ST := Sk.take 64 (by omega)
      have hST : Hid (Sl wr.drew (.slice (some a) 64 c) ((bs.drop (64 * k)).take 64)) := (ST.old (unhide hKw) (by intro i _ hi; simp; omega)).kept (kp_drew wr) (by simp)
      have hSD := hide (Sk.drop 64 (by omega))
      have hdd : (bs.drop (64 * k)).drop 64 = bs.drop (64 * (k + 1)) := by rw [List.drop_drop]; congr 1
      rw [hdd] at hSD
      have hb64 : ((bs.drop (64 * k)).take 64).length = 64 := by simp; have := unhide HN; omega
      have hKr := hide Kr
      obtain ⟨sk, hsk⟩ : ∃ sk, sk = blks k begin8 bs := ⟨_, rfl⟩
      have HSK := hide hsk
      have AD : Ar wr.drew b1 162 (blks k begin8 bs) := Ak
      rw [← hsk] at AD hlk
      have hAD := hide AD
      have hAKr : Hid (Ar wr.drew b2 163 consts) := (unhide hAK).kept Kr.drew (by simpa using Ne.symm hne)
      have hi : (Tryz.prog.info? 162).map (·.size) = some sk.length := by rw [hlk]; exact Tryz.sz8
      have HML := hide hml
      clear Sk ST Kr Ak AD hsk hdd hdl hml
      go_wp2_with fail
      refine region_tail 3 Tryz.mixed (by kernel_rfl) ?_
      simp only [List.take_succ_cons, List.take_zero, List.drop_succ_cons, List.drop_zero]
      go_big_quiet_want
      refine quiet_load_ar 162 (.tmp 3) rfl b1 rfl _ sk 8 103 (unhide hAD) Tryz.underlying162 hi ?_
      simp only [Act.put, List.set_cons_zero, List.set_cons_succ, List.setIfInBounds_toArray]
      go_big_quiet_on
      repeat (first | go_big_quiet_skip | (go_big_quiet_want; go_big_quiet_op; go_big_quiet_on))
      refine wpQuiet_nil ?_
      have hbl := blk_len sk ((bs.drop (64 * k)).take 64) hlk
      have hi6 : (Tryz.prog.info? 162).map (·.size) = some (blk sk ((bs.drop (64 * k)).take 64)).length := by rw [hbl]; exact Tryz.sz8
      by_cases hc : c = 64
      · obtain rfl : c = 64 := hc
        obtain rfl : m = 64 := by omega
        go_wp2_with (first
          | (go_at_call 112; refine (block_any sk b2 _ _ _ hlk (unhide hAKr) (unhide hST) hb64 (((unhide HB).drop _).take _)).mono ?_; rintro ee w6 ⟨rfl, K6⟩; have A6 := (unhide hAD).kept K6 (by simp))
          | (refine wpList_store_ar rfl 162 (.tmp 3) (.tmp 20) rfl b1 rfl _ _ _ A6 rfl (by rw [hbl]; exact hlk) hi6 ?_; intro w7 A7 K7 z7))
        go_roundw
        case rel =>
          refine ⟨k + 1, 0, 0, some a, by have := unhide HML; omega, rfl, ?_, (((unhide hKr).drew).trans (K6.mono (by simp))).trans K7, ?_⟩
          · have := unhide hSD; rwa [if_pos trivial] at this
          · rw [blks_succ, ← unhide HSK]; exact A7
        case measure => show 0 < 64; omega
      · go_wp2_with (first
          | (go_at_call 112; refine (block_any sk b2 _ _ _ hlk (unhide hAKr) (unhide hST) hb64 (((unhide HB).drop _).take _)).mono ?_; rintro ee w6 ⟨rfl, K6⟩; have A6 := (unhide hAD).kept K6 (by simp))
          | (refine wpList_store_ar rfl 162 (.tmp 3) (.tmp 20) rfl b1 rfl _ _ _ A6 rfl (by rw [hbl]; exact hlk) hi6 ?_; intro w7 A7 K7 z7))
        go_roundw
        case rel =>
          refine ⟨k + 1, m - 64, c - 64, some (a.add 64), by have := unhide HML; omega, rfl, ?_, (((unhide hKr).drew).trans (K6.mono (by simp))).trans K7, ?_⟩
          · have := unhide hSD; rwa [if_neg hc] at this
          · rw [blks_succ, ← unhide HSK]; exact A7
        case measure => show m - 64 < m; omega
    · have hk64 : k = N / 64 := by omega
      obtain ⟨w6, hw6⟩ : ∃ w6, w6 = wr := ⟨_, rfl⟩
      subst hw6
      obtain ⟨rs, hrs⟩ : ∃ rs, rs = bs.drop (64 * k) := ⟨_, rfl⟩
      have hrl : rs.length = m := by rw [hrs]; simp; have := unhide HN; omega
      have hrl64 : rs.length < 64 := by omega
      have hS6 : Sl w6 (.slice ao m c) rs := by rw [hrs]; exact Sk.old (unhide hKw) (by intro i _ hi; simp; omega)
      obtain ⟨s1, hs1⟩ : ∃ s1, s1 = blks k begin8 bs := ⟨_, rfl⟩
      rw [← hs1] at Ak hlk
      have HRS := hide hrs
      have HS1 := hide hs1
      have HK64 := hide hk64
      have hA6 := hide Ak
      have hA26 : Hid (Ar w6 b2 163 consts) := (unhide hAK).kept Kr (by simpa using Ne.symm hne)
      have hl1 := Ak.lt
      have hl2 := (unhide hA26).lt
      have HS6 := hide hS6
      have HBr : Hid (Bs rs) := by rw [hrs]; exact (unhide HB).drop _
      have hmi : (m : Int) < 64 := by omega
      have HRL := hide hrl
      clear Sk Kr Ak hS6 hrs hs1 hk64 hrl hml hAH hAK hge
      have R0 : Row (w6.alloc (.cells #[] 5)) w6.heap.size (.slice (some ⟨w6.heap.size, 0, none⟩) 0 0) [] := World.ownsRow_made w6 #[] 0 (Nat.le_refl _) (by simp [maxLen]) rfl
      have hR0 := hide R0
      have HS60 := hide ((unhide HS6).kept ((Kp.refl [] w6).alloc (.cells #[] 5)) (by simp))
      have K60 : Kp [] w6 (w6.alloc (.cells #[] 5)) := (Kp.refl [] w6).alloc _
      clear R0
      go_wp2_with (first
        | (at_builtin; refine wpList_append_row rfl (.tmp 23) (.tmp 24) rfl w6.heap.size _ [] rfl (unhide hR0) _ rs rfl (unhide HS60) (by simp; omega) K60.size ?_; intro ao7 m7 c7 w7 r7 s7; have K7 := (unhide hR0).step K60 s7; rw [List.nil_append] at r7)
        | (at_builtin; refine wpList_append_row rfl (.tmp 25) (.tmp 26) rfl w6.heap.size _ rs rfl (r7.kept ((Kp.refl [] w7).alloc _) (by simp)) _ [128] rfl (one_block w7 128) (by simp; omega) (by have := K7.size; simp; omega) ?_; intro ao8 m8 c8 w8 r8 s8; have K8 := r7.step K7 (s8.after ((Kp.refl [] w7).alloc _))))
      have hm8 := r8.len
      have hR3 : Row w8 w6.heap.size (.slice ao8 m8 c8) (rs ++ [128] ++ List.replicate 0 0) := by simpa using r8
      have hR := hide hR3
      have hK8 := hide K8
      clear r7 r8 hR3 K7 K8 s7 s8 hm8 K60 hR0 HS60
      go_loopw [6] (fun v wr => ∃ (z m c : Nat) (ao : Option Addr), z ≤ zeros rs.length ∧ v = .slice ao m c ∧ Row wr w6.heap.size v (rs ++ [128] ++ List.replicate z 0) ∧ Kp [] w6 wr) (fun v _ => 200 - (match v with | .slice _ m _ => m | _ => 0))
      case atStart => exact ⟨0, m8, c8, ao8, by omega, rfl, unhide hR, unhide hK8⟩
      case round =>
        obtain ⟨z, m, c, ao, hz, rfl, Rr, Kr⟩ := hrel
        have hml := Rr.len
        simp only [List.length_append, List.length_replicate, List.length_cons, List.length_nil] at hml
        have hzb : zeros rs.length < 64 := by unfold zeros; omega
        by_cases hlt : z < zeros rs.length
        · have hne6 : ¬ ((m : Int) % 64 = 56) := by unfold zeros at hlt; omega
          have hmm : m ≤ 150 := by omega
          have HML := hide hml
          have hrb : (rs ++ [128] ++ List.replicate z (0 : Int)).length ≤ 150 := by simp; omega
          clear hml
          go_wp2_with (at_builtin; refine wpList_append_row rfl (.tmp 32) (.tmp 33) rfl w6.heap.size _ _ rfl (Rr.kept ((Kp.refl [] wr).alloc _) (by simp)) _ [0] rfl (one_block wr 0) (by simp only [List.length_cons, List.length_nil]; omega) (by have := Kr.size; simp; omega) ?_; intro ao2 m2 c2 w2 r2 s2)
          have hm2 := r2.len
          simp only [List.length_append, List.length_replicate, List.length_cons, List.length_nil] at hm2
          go_roundw
          case rel =>
            refine ⟨z + 1, m2, c2, ao2, by omega, rfl, ?_, Rr.step Kr (s2.after ((Kp.refl [] wr).alloc _))⟩
            rw [List.replicate_succ', ← List.append_assoc]
            exact r2
          case measure => show 200 - m2 < 200 - m; have := unhide HML; omega
        · have hzz : z = zeros rs.length := by omega
          have he : (m : Int) % 64 = 56 := by rw [hzz] at hml; unfold zeros at hml; omega
          obtain ⟨pre, hpre⟩ : ∃ pre, pre = rs ++ [128] ++ List.replicate z 0 := ⟨_, rfl⟩
          have hpl : pre.length ≤ 128 := by rw [hpre]; simp; omega
          have hR9 : Row wr w6.heap.size (.slice ao m c) (pre ++ (be8 (N * 8)).take 0) := by simpa [hpre] using Rr
          have HR9 := hide hR9
          have HK9 := hide Kr
          have HP : Hid (pre ++ (be8 (N * 8)).take 8 = pad rs N) := by
            show _ = _
            unfold pad
            rw [hpre, hzz, List.take_of_length_le (by simp [be8])]
          clear hpre Rr Kr hR9 hml hzz hlt hz hzb
          have hN8 : (N : Int) * 8 ≤ 8000000000000 := by omega
          go_wp2_with fail
          clear he
          go_loopw [6, 7] (fun v i wr => ∃ (j m c : Nat) (ao : Option Addr), j ≤ 8 ∧ v = .slice ao m c ∧ i = .int .i64 (7 - (j : Int)) ∧ Row wr w6.heap.size v (pre ++ (be8 (N * 8)).take j) ∧ Kp [] w6 wr) (fun _ i _ => (intOf i + 1).toNat)
          case atStart => exact ⟨0, m, c, ao, by omega, rfl, rfl, unhide HR9, unhide HK9⟩
          case round =>
            obtain ⟨j, m, c, ao, hj, rfl, rfl, Rr, Kr⟩ := hrel
            by_cases hlt : j < 8
            · have hj2 : (j : Int) < 8 := by omega
              have hj3 : (j : Int) ≤ 7 := by omega
              have HT := hide (be8_take (N * 8) j hlt)
              have hpj : (pre ++ (be8 (N * 8)).take j).length ≤ 136 := by simp [be8]; omega
              obtain ⟨q, hq⟩ : ∃ q, q = pre ++ (be8 (N * 8)).take j := ⟨_, rfl⟩
              rw [← hq] at hpj Rr
              have HQ := hide hq
              clear hq
              go_wp2_with (at_builtin; refine wpList_append_row rfl (.tmp 39) (.tmp 48) rfl w6.heap.size _ _ rfl (Rr.kept ((Kp.refl [] wr).alloc _) (by simp)) _ [(N : Int) * 8 / 2 ^ (8 * (7 - j)) % 256] rfl (one_block wr _) (by simp; omega) (by have := Kr.size; simp; omega) ?_; intro ao2 m2 c2 w2 r2 s2)
              go_roundw
              case rel =>
                refine ⟨j + 1, m2, c2, ao2, by omega, rfl, by go_num, ?_, Rr.step Kr (s2.after ((Kp.refl [] wr).alloc _))⟩
                rw [unhide HT, ← List.append_assoc, ← unhide HQ]
                exact r2
              case measure => simp [intOf]; omega
            · obtain rfl : j = 8 := by omega
              rw [unhide HP] at Rr
              have e78 : (7 : Int) - ((8 : Nat) : Int) = -1 := by decide
              simp only [e78]
              clear e78
              obtain ⟨w9, hw9⟩ : ∃ w9, w9 = wr := ⟨_, rfl⟩
              subst hw9
              obtain ⟨pp, hpp⟩ : ∃ pp, pp = pad rs N := ⟨_, rfl⟩
              have hpl2 := pad_len rs N hrl64
              have HBp : Hid (Bs pp) := by rw [hpp]; exact pad_bs rs N (unhide HBr)
              rw [← hpp] at Rr hpl2
              obtain ⟨q, hq⟩ : ∃ q, q = pp.length / 64 := ⟨_, rfl⟩
              rw [← hq] at hpl2
              obtain ⟨hpq, hp128⟩ := hpl2
              have hmp : m = pp.length := Rr.len
              have hown : ∀ i, (Value.slice ao m c).ownBlock = some i → b1 ≠ i := fun i hi => by have := Rr.own i hi; omega
              have hown2 : ∀ i, (Value.slice ao m c).ownBlock = some i → b2 ≠ i := fun i hi => by have := Rr.own i hi; omega
              have hS9 := hide Rr.sl
              have hA9 := hide ((unhide hA6).kept Kr (by simp))
              have hA29 := hide ((unhide hA26).kept Kr (by simp))
              have hK9w : Hid (Kp [b1] w w9) := (unhide hKw).trans (Kr.mono (by simp))
              have HPP := hide hpp
              have HQ := hide hq
              have HPQ := hide hpq
              have hq2 : q ≤ 2 := by omega
              have HMP := hide hmp
              clear Rr Kr hpp hq hmp HR9 HK9 HP hpl hN8 hK8 hR hA6 hA26
              go_wp2_with fail
              go_loopw [6] (fun v wr => ∃ (j m c : Nat) (ao : Option Addr), j ≤ q ∧ v = .slice ao m c ∧ m = 64 * (q - j) ∧ (∀ i, v.ownBlock = some i → b1 ≠ i) ∧ Sl w9 v (pp.drop (64 * j)) ∧ Kp [b1] w9 wr ∧ Ar wr b1 162 (blks j s1 pp)) (fun v _ => (match v with | .slice _ m _ => m | _ => 0))
              case atStart => exact ⟨0, m, c, ao, by omega, rfl, by have := unhide HMP; have := unhide HPQ; omega, hown, by simpa using unhide hS9, Kp.refl _ _, unhide hA9⟩
              case round =>
                obtain ⟨j, m, c, ao, hj, rfl, hm, ho1, Sj, Kr, Aj⟩ := hrel
                have hlj := blks_len s1 pp hlk j
                have hmc : m ≤ c ∧ c ≤ maxLen ∧ (ao = none → c = 0) := by obtain ⟨_, _, e, x1, x2, x3, _⟩ := Sj; injection e with e1 e2 e3; subst e1; subst e3; exact ⟨by omega, x2, x3⟩
                obtain ⟨hmc, hcx, hao⟩ := hmc
                unfold maxLen at hcx
                by_cases hlt : j < q
                · have hge : 64 ≤ m := by omega
                  cases ao with
                  | none => have := hao rfl; omega
                  | some a =>
                  have hgi : (64 : Int) ≤ (m : Int) := by omega
                  have hg0 : (0 : Int) < (m : Int) := by omega
                  have hgc : (64 : Int) ≤ (c : Int) := by omega
                  have hdl : (pp.drop (64 * j)).length = m := by have := unhide HPQ; simp; omega
                  have ST := Sj.take 64 (by omega)
                  have hST : Hid (Sl wr.drew (.slice (some a) 64 c) ((pp.drop (64 * j)).take 64)) := (ST.kept Kr (by intro i hi; have := ho1 i hi; simp; omega)).kept (kp_drew wr) (by simp)
                  have hSD := hide (Sj.drop 64 (by omega))
                  have hdd : (pp.drop (64 * j)).drop 64 = pp.drop (64 * (j + 1)) := by rw [List.drop_drop]; congr 1
                  rw [hdd] at hSD
                  have hb64 : ((pp.drop (64 * j)).take 64).length = 64 := by simp; have := unhide HPQ; omega
                  have hKr := hide Kr
                  obtain ⟨sk, hsk⟩ : ∃ sk, sk = blks j s1 pp := ⟨_, rfl⟩
                  have HSK := hide hsk
                  have AD : Ar wr.drew b1 162 (blks j s1 pp) := Aj
                  rw [← hsk] at AD hlj
                  have hAD := hide AD
                  have hAKr : Hid (Ar wr.drew b2 163 consts) := (unhide hA29).kept Kr.drew (by simpa using Ne.symm hne)
                  have hi : (Tryz.prog.info? 162).map (·.size) = some sk.length := by rw [hlj]; exact Tryz.sz8
                  have HML := hide hm
                  have HO1 := hide ho1
                  have hab1 : b1 ≠ a.block := ho1 a.block rfl
                  clear Sj ST Kr Aj AD hsk hdd hdl hm ho1
                  go_wp2_with fail
                  refine region_tail 3 Tryz.mixed (by kernel_rfl) ?_
                  simp only [List.take_succ_cons, List.take_zero, List.drop_succ_cons, List.drop_zero]
                  go_big_quiet_want
                  refine quiet_load_ar 162 (.tmp 3) rfl b1 rfl _ sk 8 103 (unhide hAD) Tryz.underlying162 hi ?_
                  simp only [Act.put, List.set_cons_zero, List.set_cons_succ, List.setIfInBounds_toArray]
                  go_big_quiet_on
                  repeat (first | go_big_quiet_skip | (go_big_quiet_want; go_big_quiet_op; go_big_quiet_on))
                  refine wpQuiet_nil ?_
                  have hbl := blk_len sk ((pp.drop (64 * j)).take 64) hlj
                  have hi6 : (Tryz.prog.info? 162).map (·.size) = some (blk sk ((pp.drop (64 * j)).take 64)).length := by rw [hbl]; exact Tryz.sz8
                  by_cases hc : c = 64
                  · obtain rfl : c = 64 := hc
                    obtain rfl : m = 64 := by omega
                    go_wp2_with (first
                      | (go_at_call 112; refine (block_any sk b2 _ _ _ hlj (unhide hAKr) (unhide hST) hb64 (((unhide HBp).drop _).take _)).mono ?_; rintro ee w10 ⟨rfl, K10⟩; have A10 := (unhide hAD).kept K10 (by simp))
                      | (refine wpList_store_ar rfl 162 (.tmp 3) (.tmp 56) rfl b1 rfl _ _ _ A10 rfl (by rw [hbl]; exact hlj) hi6 ?_; intro w11 A11 K11 z11))
                    go_roundw
                    case rel =>
                      refine ⟨j + 1, 0, 0, some a, by omega, rfl, by have := unhide HML; omega, unhide HO1, ?_, (((unhide hKr).drew).trans (K10.mono (by simp))).trans K11, ?_⟩
                      · have := unhide hSD; rwa [if_pos trivial] at this
                      · rw [blks_succ, ← unhide HSK]; exact A11
                    case measure => show 0 < 64; omega
                  · go_wp2_with (first
                      | (go_at_call 112; refine (block_any sk b2 _ _ _ hlj (unhide hAKr) (unhide hST) hb64 (((unhide HBp).drop _).take _)).mono ?_; rintro ee w10 ⟨rfl, K10⟩; have A10 := (unhide hAD).kept K10 (by simp))
                      | (refine wpList_store_ar rfl 162 (.tmp 3) (.tmp 56) rfl b1 rfl _ _ _ A10 rfl (by rw [hbl]; exact hlj) hi6 ?_; intro w11 A11 K11 z11))
                    go_roundw
                    case rel =>
                      refine ⟨j + 1, m - 64, c - 64, some (a.add 64), by omega, rfl, by have := unhide HML; omega, ?_, ?_, (((unhide hKr).drew).trans (K10.mono (by simp))).trans K11, ?_⟩
                      · intro i hi
                        have : i = a.block := by have e := hi; simp only [Value.ownBlock, Option.some.injEq] at e; rw [← e]
                        rw [this]; exact hab1
                      · have := unhide hSD; rwa [if_neg hc] at this
                      · rw [blks_succ, ← unhide HSK]; exact A11
                    case measure => show m - 64 < m; omega
                · obtain rfl : j = q := by omega
                  obtain rfl : m = 0 := by omega
                  obtain ⟨w10, hw10⟩ : ∃ w10, w10 = wr := ⟨_, rfl⟩
                  subst hw10
                  obtain ⟨s2, hs2⟩ : ∃ s2, s2 = blks j s1 pp := ⟨_, rfl⟩
                  rw [← hs2] at Aj hlj
                  have hfin : lay8 s2 = sha bs := by
                    have e1 := unhide HN
                    have e2 := unhide HK64
                    unfold sha fin8
                    rw [← e1, ← e2, hs2, unhide HS1, unhide HQ, unhide HPP, unhide HRS, Nat.mul_comm k 64]
                  have HF := hide hfin
                  have hA10 := hide Aj
                  have hl10 := Aj.lt
                  have hK10 : Hid (Kp [] w w10) := ((unhide hK9w).trans Kr).then (Kp.refl [] w10) (by simp) |>.below (Nat.le_refl _) (by simp; omega) |> fun h => ⟨h.os, h.tape, h.output, h.size, fun k hk _ => h.block k hk⟩
                  clear Sj Kr Aj hs2 hfin hA9 hA29 hK9w hS9 ho1 hm hmc
                  go_wp2_with fail
                  go_loopw [8, 9] (fun v i wr => ∃ (k m c : Nat) (ao : Option Addr), k ≤ 8 ∧ v = .slice ao m c ∧ i = .int .i64 k ∧ Row wr w10.heap.size v (lay8 (s2.take k)) ∧ Kp [] w10 wr) (fun _ i _ => 8 - (intOf i).toNat)
                  case atStart => exact ⟨0, 0, 0, none, by omega, rfl, rfl, ⟨rfl, .inl ⟨rfl, rfl⟩⟩, Kp.refl _ _⟩
                  case round =>
                    obtain ⟨k, m, c, ao, hk, rfl, rfl, Rr, Kr⟩ := hrel
                    by_cases hlt : k < 8
                    · have hlt2 : (k : Int) < 8 := by omega
                      have hck := ((unhide hA10).kept Kr (by simp)).cell k (by omega)
                      have hsn := lay8_snoc s2 k (by omega)
                      obtain ⟨x, hx⟩ : ∃ x, x = s2.getD k 0 := ⟨_, rfl⟩
                      rw [← hx] at hck hsn
                      have HS := hide hsn
                      have hll : (lay8 (s2.take k)).length ≤ 32 := by rw [lay8_len]; simp; omega
                      have hRr := hide Rr
                      have hKr := hide Kr
                      clear hx hsn Rr Kr
                      have hnb : b1 ∉ (Value.slice ao m c).ownBlock.toList := by intro h; have := (unhide hRr).own b1 (by simpa using h); omega
                      go_wp2_with fail
                      go_region_held3 (fun W => W.cell? ⟨b1, k, none⟩ = some (.int .u32 x)) (first | go_keep | exact s2'.1.cell (((Kp.refl [] wr).alloc _).drew.cell hck (by simp)) hnb) ((refine step_append_row (by rfl) (.tmp 63) (.tmp 83) (by rfl) w10.heap.size _ _ (by rfl) ((unhide hRr).kept ((Kp.refl [] wr).alloc _).drew (by simp)) _ [_, _, _, _] (by rfl) (Sl.block (cs := [_, _, _, _]) (t := 5) (heap_alloc_new wr _) (by simp [maxLen])) (by simp only [List.length_cons, List.length_nil]; omega) (by have := (unhide hKr).size; simp; omega) ?_; intro ao2 m2 c2 w2 r2 s2'))
                      go_wp2_with fail
                      go_roundw
                      case rel =>
                        refine ⟨k + 1, m2, c2, ao2, by omega, rfl, by go_num, ?_, (unhide hRr).step (unhide hKr) (s2'.after ((Kp.refl [] wr).alloc _).drew)⟩
                        rw [unhide HS]; exact r2
                      case measure => simp [intOf]; omega
                    · obtain rfl : k = 8 := by omega
                      rw [List.take_of_length_le (by omega), unhide HF] at Rr
                      go_wp2_with fail
                      go_ret
                      exact ⟨ao, m, c, rfl, owns_rebase Rr (fun i hi => Nat.le_trans (unhide hK10).size (Rr.own i hi)), (unhide hK10).trans Kr⟩
theorem refsum_at (vb : Value) (bs r : List Int) (hr : r = sha bs) (w : World) (hS : Sl w vb bs) (hB : Bs bs) (hl : bs.length ≤ 1000000000000) :
    Calls Tryz.prog 69 #[vb] w fun e w' => ∃ ao m c, e = .returned (.slice ao m c) ∧ Row w' w.heap.size (.slice ao m c) r ∧ Kp [] w w' := by
  subst hr
  exact refsum_any vb bs w hS hB hl
end Go.Proofs.YtillhpgdlmeajaaGreatDoor

/-
  The contracts of the reference's Tagged and of the law package's hex.
-/
namespace Go.Proofs.YtillhpgdlmeajaaGreatDoor
open Go.RowKit
set_option maxRecDepth 100000 in
set_option maxHeartbeats 1000000 in
theorem reftagged_any (tag : Int) (vl : Value) (l : List (Value × List Int)) (r : List Int) (hr : r = sha (tag :: cat l)) (w : World) (hL : Lists w vl l) (h0 : 0 ≤ tag) (h1 : tag ≤ 255) (hn : l.length ≤ 100000) (hm : ∀ x ∈ l, x.2.length ≤ 1000000) :
    Calls Tryz.prog 40 #[.int .u8 tag, vl] w fun e w' => ∃ ao m c, e = .returned (.slice ao m c) ∧ Row w' w.heap.size (.slice ao m c) r ∧ Kp [] w w' := by
  have hBl := hL.bs
  have HBl := hide hBl
  have HR := hide hr
  have HM := hide hm
  obtain ⟨al, cl, rfl, hll, hcell⟩ := hL
  have hlen : (l.length : Int) ≤ 100000 := by omega
  have HC := hide hcell
  clear hcell hr hm hBl hll
  go_enter Tryz.func40, Tryz.ntmps40
  go_wp2_with fail
  have R0 : Row (w.alloc (.cells #[.int .u8 tag] 5)) w.heap.size (.slice (some ⟨w.heap.size, 0, none⟩) 1 1) [tag] := row_of_block (bs := [tag]) (Nat.le_refl _) (heap_alloc_new w _) rfl (by simp [maxLen])
  have hR0 := hide R0
  clear R0
  go_loopw [5, 6] (fun v i wr => ∃ (k m c : Nat) (ao : Option Addr), k ≤ l.length ∧ v = .slice ao m c ∧ i = .int .i64 k ∧ Row wr w.heap.size v (tag :: cat (l.take k)) ∧ Kp [] w wr) (fun _ i _ => l.length - (intOf i).toNat)
  case atStart => exact ⟨0, 1, 1, some ⟨w.heap.size, 0, none⟩, Nat.zero_le _, rfl, rfl, by simpa [cat] using unhide hR0, (Kp.refl [] w).alloc _⟩
  case round =>
    obtain ⟨k, m, c, ao, hk, rfl, rfl, Rr, Kr⟩ := hrel
    by_cases hlt : k < l.length
    · have hlt2 : (k : Int) < (l.length : Int) := by omega
      obtain ⟨b, off, rfl, hc, hS, hB⟩ := unhide HC k hlt
      have hcl : (cat (l.take k)).length ≤ 100000 * 1000000 := by
        have e1 := cat_len (l.take k) 1000000 (fun x hx => unhide HM x (List.mem_of_mem_take hx))
        have e2 : (l.take k).length ≤ 100000 := by simp; omega
        exact Nat.le_trans e1 (Nat.mul_le_mul_right _ e2)
      have hxl := unhide HM l[k] (List.getElem_mem hlt)
      have hE := cat_take l k hlt
      obtain ⟨x, hx⟩ : ∃ x, x = l[k] := ⟨_, rfl⟩
      rw [← hx] at hc hS hxl hE
      have hcw := Kr.cell hc (by simp)
      have hSw := hS.kept Kr (by simp)
      obtain ⟨ax, cx, hxv⟩ : ∃ ax cx, x.1 = .slice ax x.2.length cx := by obtain ⟨ax, cx, e, _⟩ := hS; exact ⟨ax, cx, e⟩
      have HE := hide hE
      rw [hxv] at hSw hcw
      have HSw := hide hSw
      obtain ⟨nx, hnx⟩ : ∃ nx, nx = x.2.length := ⟨_, rfl⟩
      rw [← hnx] at HSw hcw
      clear hE hx hc hS hB hSw hxv HC hnx
      go_wp2_with (at_builtin; refine wpList_append_row rfl (.tmp 15) (.tmp 19) rfl w.heap.size _ _ rfl Rr _ x.2 rfl (unhide HSw) (by simp only [List.length_cons]; omega) Kr.size ?_; intro ao2 m2 c2 w2 r2 s2)
      go_roundw
      case rel =>
        refine ⟨k + 1, m2, c2, ao2, by omega, rfl, by go_num, ?_, Rr.step Kr s2⟩
        rw [unhide HE]; exact r2
      case measure => simp [intOf]; omega
    · obtain rfl : k = l.length := by omega
      rw [List.take_length] at Rr
      have hcl := cat_len l 1000000 (unhide HM)
      have hmul := Nat.mul_le_mul_right 1000000 hn
      have hRr := hide Rr
      have hKr := hide Kr
      have hBt : Hid (Bs (tag :: cat l)) := fun b hb => by
        rcases List.mem_cons.1 hb with rfl | hb
        · exact ⟨h0, h1⟩
        · exact cat_bs l (unhide HBl) b hb
      clear Rr Kr HC
      go_wp2_with (go_at_call 69; refine (refsum_at _ (tag :: cat l) r (unhide HR) _ (unhide hRr).sl (unhide hBt) (by simp only [List.length_cons]; omega)).mono ?_; rintro ee w3 ⟨ao3, m3, c3, rfl, R3, K3⟩)
      go_ret
      exact ⟨ao3, m3, c3, rfl, owns_rebase R3 (fun i hi => Nat.le_trans (unhide hKr).size (R3.own i hi)), (unhide hKr).trans K3⟩
end Go.Proofs.YtillhpgdlmeajaaGreatDoor

/-
  The contract of the law package's Lists; lists of slices by their bytes, as what an operation yields.
-/
namespace Go.Proofs.YtillhpgdlmeajaaGreatDoor
open Go.RowKit
open Go.Deep
theorem wrap_at {x y : Int} (h : x = y) (h0 : -9223372036854775808 ≤ x) (h1 : x ≤ 9223372036854775807) : IntKind.i64.wrap x = y := by
  subst h
  simp [IntKind.wrap, IntKind.signed, IntKind.bits]
  omega
end Go.Proofs.YtillhpgdlmeajaaGreatDoor

/-
  Lists of slices as arguments; the contracts of the law package's helpers Few and Sized over this seat's program.
-/
namespace Go.Proofs.YtillhpgdlmeajaaGreatDoor
open Go.ChangeShapes Go.WideShapes Go.ChangeAt Go.RowKit
open Go.Deep
section
variable {H : Type} {enc : TypeId × Value → H} {w : World}
end
theorem Lists.take {w : World} {ao : Option Addr} {len c n : Nat} {l : List (Value × List Int)} (h : Lists w (.slice ao len c) l) (hn : n ≤ l.length) : Lists w (.slice ao n c) (l.take n) := by
  obtain ⟨ao', c', e, h1, h2⟩ := h
  cases e
  have hl : (l.take n).length = n := by simp; omega
  refine ⟨ao, c, by rw [hl], by omega, fun i hi => ?_⟩
  obtain ⟨b, off, e, h3, h4, h5⟩ := h2 i (by omega)
  have e2 : (l.take n)[i] = l[i]'(by omega) := List.getElem_take
  rw [e2]
  exact ⟨b, off, e, h3, h4, h5⟩
/-- the row of texts that Few has made so far. -/
def FewAt (w wr : World) (l : List (Value × List Int)) (most k : Nat) (o : Value) : Prop :=
  ∃ l' : List (Value × List Int), l'.length = k ∧ wr.ownsRow w.heap.size 22 1 o k (l'.map (·.1)) ∧ Kp [] w wr ∧ (∀ x ∈ l', Sl w x.1 x.2) ∧ l'.map (·.2) = (l.take k).map fun x => x.2.take most
theorem FewAt.lists {w wr : World} {l : List (Value × List Int)} {most k : Nat} {o : Value} (h : FewAt w wr l most k o) (hB : ∀ x ∈ l, Bs x.2) (hk : k ≤ 1000) : ∃ l', Lists wr o l' ∧ l'.map (·.2) = (l.take k).map fun x => x.2.take most := by
  obtain ⟨l', rfl, ho, hK, hS, he⟩ := h
  refine ⟨l', ?_, he⟩
  have hBs : ∀ x ∈ l', Bs x.2 := fun x hx => by
    have : x.2 ∈ l'.map (·.2) := List.mem_map_of_mem hx
    rw [he] at this
    obtain ⟨y, hy, hy2⟩ := List.mem_map.1 this
    rw [← hy2]
    exact (hB y (List.mem_of_mem_take hy)).take _
  rcases ho.2 with ⟨rfl, h0⟩ | ⟨g, cap, cur, rfl, _, hg, _⟩
  · exact ⟨none, 0, by rw [h0], by omega, fun i hi => by omega⟩
  · refine ⟨some ⟨g, 0, none⟩, cap, rfl, by omega, fun i hi => ⟨g, 0, rfl, ?_, (hS _ (List.getElem_mem hi)).kept hK (by simp), hBs _ (List.getElem_mem hi)⟩⟩
    have := ho.cells (g := g) rfl i l'[i].1 (by simp [List.getElem?_eq_getElem hi])
    rwa [Addr.add_lit] at this
end Go.Proofs.YtillhpgdlmeajaaGreatDoor

/-
  Within as a plain function.
-/
namespace Go.Proofs.YtillhpgdlmeajaaGreatDoor
open Go.RowKit
open Go.Proofs
/-- what Within tells. -/
def wiP (n lo hi : Int) : Int := if lo ≤ n ∧ n ≤ hi then n else if n.tmod (hi - lo + 1) < 0 then lo + (n.tmod (hi - lo + 1) + hi - lo + 1) else lo + n.tmod (hi - lo + 1)
theorem tmod_bnd (n c : Int) (hc : 0 < c) : -c < n.tmod c ∧ n.tmod c < c := by
  have h1 := Int.emod_nonneg n (by omega : c ≠ 0)
  have h2 := Int.emod_lt_of_pos n hc
  constructor
  · have := Int.lt_tmod_of_pos n hc; omega
  · exact Int.tmod_lt_of_pos n hc
theorem wiP_ge (n lo hi : Int) (h : lo ≤ hi) : lo ≤ wiP n lo hi ∧ wiP n lo hi ≤ hi := by
  have := tmod_bnd n (hi - lo + 1) (by omega)
  unfold wiP
  split
  · assumption
  · split <;> omega
set_option maxHeartbeats 1000000 in
theorem within_wi (n lo hi : Int) (w : World) (h1 : -1000 ≤ lo) (h2 : lo ≤ hi) (h3 : hi ≤ 1073741824) : Calls Tryz.prog 20 #[.int .i64 n, .int .i64 lo, .int .i64 hi] w fun e w' => e = .returned (.int .i64 (wiP n lo hi)) ∧ w' = w := by
  have hb := tmod_bnd n (hi - lo + 1) (by omega)
  have hc : hi - lo + 1 ≠ 0 := by omega
  have hwi : wiP n lo hi = if lo ≤ n ∧ n ≤ hi then n else if n.tmod (hi - lo + 1) < 0 then lo + (n.tmod (hi - lo + 1) + hi - lo + 1) else lo + n.tmod (hi - lo + 1) := rfl
  have W := hide hwi
  clear hwi
  go_enter Tryz.func20, Tryz.ntmps20
  go_wp2
  all_goals
    go_ret
    refine ⟨congrArg Ending.returned (congrArg (Value.int IntKind.i64) ?_), rfl⟩
    rw [unhide W]
    split <;> first | rfl | omega | (split <;> omega)
end Go.Proofs.YtillhpgdlmeajaaGreatDoor

/-
  Regions that draw their order, whose first operations only make memory and all come ahead of the rest: one look at each of the first serves every order; what is left is walked behind them.
-/
namespace Go.Proofs.YtillhpgdlmeajaaGreatDoor
open Go.RowKit
section
variable {P : Program} {m : List Oper} {ops : Array Oper} {Q : Exit → Act → World → Prop} {a0 : Act} {w0 : World} {Rs : List Tell} {kss : List (List (Tmp × Option Nat))} {n i : Nat} {listed : Array Bool} {a : Act} {w w' : World} {o : Oper} {R : Tell} {v : Value}
/-- The head m of the operations ops: what is listed of it so far. -/
structure InvT (m : List Oper) (ops : Array Oper) (Rs : List Tell) (a0 : Act) (w0 : World) (listed : Array Bool) (a : Act) (w : World) : Prop where
  kp : Kp [] w0 w
  size : a.tmps.size = a0.tmps.size
  defers : a.defers = a0.defers
  told : ∀ i d R, listed.getD i false = true → dstAt m i = some d → Rs[i]? = some R → R (a.eval (.tmp d)) w
  rest : ∀ t, (∀ i, listed.getD i false = true → dstAt m i ≠ some t) → a.eval (.tmp t) = a0.eval (.tmp t)
  head : HeadInv .any ops m.length listed
theorem InvT.closed (hsub : ∀ (i : Nat) o, m[i]? = some o → ops[i]? = some o) (hinv : InvT m ops Rs a0 w0 listed a w) : ∀ (i : Nat) o, m[i]? = some o → listed.getD i false = true → ∀ j ∈ odeps o, listed.getD j false = true := by
  intro i o ho hl j hj
  obtain ⟨e, he, hb, rfl⟩ := mem_deps.1 hj
  exact hinv.head.closed i o (hsub i o ho) hl e he hb
theorem knows_ofT (hsub : ∀ (i : Nat) o, m[i]? = some o → ops[i]? = some o) (hinv : InvT m ops Rs a0 w0 listed a w) (hr : i ∈ Region.ready .any ops listed) (ho : m[i]? = some o) (hlen : m.length = Rs.length) : ∀ ks : List (Tmp × Option Nat), (∀ k ∈ ks, lookOk m i o k = true) → Knows a0 Rs a w ks
  | [], _ => trivial
  | (t, some j) :: ks, h => by
    refine ⟨?_, knows_ofT hsub hinv hr ho hlen ks (fun k hk => h k (by simp [hk]))⟩
    have h1 := h (t, some j) (by simp)
    simp only [lookOk, Bool.and_eq_true, List.contains_iff_mem, beq_iff_eq] at h1
    obtain ⟨hd, hdst⟩ := h1
    obtain ⟨e, he, hb, rfl⟩ := mem_deps.1 hd
    obtain ⟨_, o', ho', hall⟩ := mem_ready.1 hr
    have : o' = o := by rw [hsub i o ho] at ho'; exact (Option.some.inj ho').symm
    subst this
    have hl := hall e he hb
    have hlt : e.on < Rs.length := by
      unfold dstAt at hdst
      cases hx : m[e.on]? with
      | none => simp [hx] at hdst
      | some _ => rw [← hlen]; exact (List.getElem?_eq_some_iff.1 hx).1
    rw [List.getD_eq_getElem?_getD, List.getElem?_eq_getElem hlt, Option.getD_some]
    exact hinv.told e.on t _ hl hdst (List.getElem?_eq_getElem hlt)
  | (t, none) :: ks, h => by
    refine ⟨?_, knows_ofT hsub hinv hr ho hlen ks (fun k hk => h k (by simp [hk]))⟩
    have h1 := h (t, none) (by simp)
    simp only [lookOk, List.all_eq_true, List.mem_range, Bool.or_eq_true, beq_iff_eq, bne_iff_ne, ne_eq] at h1
    refine hinv.rest t (fun k hk hkd => ?_)
    have hnot : listed.getD i false = false := getD_both (mem_ready.1 hr).1
    have hlt : k < m.length := by
      unfold dstAt at hkd
      cases hx : m[k]? with
      | none => simp [hx] at hkd
      | some _ => exact (List.getElem?_eq_some_iff.1 hx).1
    rcases h1 k hlt with (h2 | h2) | h2
    · subst h2; rw [hk] at hnot; cases hnot
    · exact h2 hkd
    · rw [List.getElem?_eq_getElem hlt] at h2
      simp only [Option.map_some, Option.getD_some, List.contains_iff_mem] at h2
      have := hinv.closed hsub k _ (List.getElem?_eq_getElem hlt) hk i h2
      rw [this] at hnot; cases hnot
theorem inv_stepT (hsub : ∀ (i : Nat) o, m[i]? = some o → ops[i]? = some o) (hok : regionOk m kss a0.tmps.size = true) (hst : ∀ R ∈ Rs, Tell.stable R) (hinv : InvT m ops Rs a0 w0 listed a w) (hr : i ∈ Region.ready .any ops listed) (ho : m[i]? = some o) (hR : Rs[i]? = some R)
    (hk : Kp [] w w') (hv : R v w') : InvT m ops Rs a0 w0 (listed.setIfInBounds i true) (a.put o.dst v) w' := by
  obtain ⟨ks, d, _, hd, hdn, _, _, _⟩ := regionOk_at hok ho
  have hdi : dstAt m i = some d := by unfold dstAt; simp [ho, hd]
  have hilt : i < m.length := (List.getElem?_eq_some_iff.1 ho).1
  have hget : ∀ j, (listed.setIfInBounds i true).getD j false = true → j = i ∨ listed.getD j false = true := fun j hj => by
    by_cases hij : i = j
    · exact .inl hij.symm
    · rw [getD_set_ne false hij] at hj; exact .inr hj
  have hlt : i < listed.size := by rw [hinv.head.size]; exact (Array.getElem?_eq_some_iff.1 (hsub i o ho)).1
  rw [hd]
  refine ⟨hinv.kp.trans hk, ?_, ?_, ?_, ?_, hinv.head.set hr hilt⟩
  · simpa [Act.put] using hinv.size
  · simpa [Act.put] using hinv.defers
  · intro j dj Rj hj hdj hRj
    by_cases hji : j = i
    · subst hji
      rw [hdi] at hdj; cases hdj
      rw [hR] at hRj; cases hRj
      rw [eval_put_same (by rw [hinv.size]; exact hdn)]
      exact hv
    · have hl := (hget j hj).resolve_left hji
      have hne : d ≠ dj := fun e => hji (dst_inj hok (e ▸ hdj) hdi)
      rw [eval_put_ne hne]
      exact hst Rj (List.mem_of_getElem? hRj) _ _ _ hk (hinv.told j dj Rj hl hdj hRj)
  · intro t ht
    have hne : d ≠ t := fun e => ht i (by simp [hlt]) (e ▸ hdi)
    rw [eval_put_ne hne]
    refine hinv.rest t (fun j hj => ht j ?_)
    exact getD_set_true hj
theorem fin_ofT {K : Act → World → Prop} (hok : regionOk m kss a0.tmps.size = true) (hlen : m.length = Rs.length) (hinv : InvT m ops Rs a0 w0 listed a w) (hall : ∀ i, i < m.length → listed.getD i false = true) (hf : FinR (fun _ a w => K a w) m Rs a0 w) : K a w := by
  have hlt : ∀ i d, dstAt m i = some d → i < m.length := fun i d hd => by
    unfold dstAt at hd
    cases hx : m[i]? with
    | none => simp [hx] at hd
    | some _ => exact (List.getElem?_eq_some_iff.1 hx).1
  have hre : ∀ i, i < m.length → (Array.replicate m.length true).getD i false = true := fun i hi => by simp [hi]
  refine fin_of (l := m) (Q := fun _ a w => K a w) (listed := Array.replicate m.length true) hok hlen ⟨hinv.kp, hinv.size, hinv.defers, by simp, fun i d R _ hd hR => hinv.told i d R (hall i (hlt i d hd)) hd hR, fun t ht => hinv.rest t (fun i _ hd => ht i (hre i (hlt i t hd)) hd), fun i o ho _ j hj => ?_⟩
    hre m Rs 0 a0 (by simp) (by simp) rfl rfl (fun t ht => (hinv.rest t (fun i _ hd => ht i t (by rw [Nat.zero_add]; exact hd) rfl)).symm) hf
  obtain ⟨ks, d, _, _, _, hdep, _, _⟩ := regionOk_at hok ho
  exact hre j (Nat.lt_trans (hdep j hj) (List.getElem?_eq_some_iff.1 ho).1)
theorem headReady (hsub : ∀ (i : Nat) o, m[i]? = some o → ops[i]? = some o) (hok : regionOk m kss n = true) (hinv : HeadInv .any ops m.length listed) (hno : ∀ i, i < m.length → i ∉ Region.ready .any ops listed) : ∀ i, i < m.length → listed.getD i false = true := by
  intro i
  induction i using Nat.strongRecOn with
  | _ i ih =>
    intro hi
    cases hc : listed.getD i false with
    | true => rfl
    | false =>
      have ho : m[i]? = some m[i] := List.getElem?_eq_getElem hi
      obtain ⟨_, _, _, _, _, hdeps, _, _⟩ := regionOk_at hok ho
      refine absurd ?_ (hno i hi)
      rw [mem_ready]
      refine ⟨?_, m[i], hsub i _ ho, fun e he hb => ?_⟩
      · have hls : i < listed.size := by rw [hinv.size]; exact (Array.getElem?_eq_some_iff.1 (hsub i _ ho)).1
        exact getD_in hls hc
      · have hm : e.on ∈ odeps m[i] := mem_deps.2 ⟨e, he, hb, rfl⟩
        exact ih e.on (hdeps _ hm) (Nat.lt_trans (hdeps _ hm) hi)
theorem wpAny_growT (hsub : ∀ (i : Nat) o, m[i]? = some o → ops[i]? = some o) (hok : regionOk m kss a0.tmps.size = true) (hst : ∀ R ∈ Rs, Tell.stable R) (hs : StepsR P ops a0 w0 Rs m kss Rs)
    (hsink : Region.sinkB .any ops m.length = true) (hchain : Region.chainB .any ops m.length = true) (hn : m.length < ops.size) {g : Nat}
    (hf : ∀ w', Kp [] w0 w' → FinR (fun _ a w => ∀ listed, HeadInv .any ops m.length listed → (∀ i, i < m.length → listed.getD i false = true) → wpAny P .any ops Q g listed a w) m Rs a0 w') :
    ∀ (fuel : Nat) (listed : Array Bool) (a : Act) (w : World), InvT m ops Rs a0 w0 listed a w → ((List.range m.length).filter fun i => !listed.getD i false).length = fuel → wpAny P .any ops Q (fuel + g) listed a w := by
  obtain ⟨hlen, _, hat⟩ := StepsR.at _ hs
  have hdone : ∀ (listed : Array Bool) (a : Act) (w : World), InvT m ops Rs a0 w0 listed a w → (∀ i, i < m.length → listed.getD i false = true) → wpAny P .any ops Q g listed a w := fun listed a w hinv hall =>
    fin_ofT (K := fun a w => ∀ listed, HeadInv .any ops m.length listed → (∀ i, i < m.length → listed.getD i false = true) → wpAny P .any ops Q g listed a w) hok hlen hinv hall (hf w hinv.kp) listed hinv.head hall
  intro fuel
  induction fuel with
  | zero =>
    intro listed a w hinv hc
    rw [Nat.zero_add]
    refine hdone listed a w hinv (fun i hi => ?_)
    have h1 := List.filter_eq_nil_iff.1 (List.eq_nil_of_length_eq_zero hc) i (List.mem_range.2 hi)
    simpa using h1
  | succ fuel ih =>
    intro listed a w hinv hc
    obtain ⟨k, hk, hkun⟩ : ∃ k, k < m.length ∧ listed.getD k false = false := by
      have hne : ((List.range m.length).filter fun i => !listed.getD i false) ≠ [] := by intro h; rw [h] at hc; simp at hc
      obtain ⟨k, hk⟩ := List.exists_mem_of_ne_nil _ hne
      obtain ⟨h1, h2⟩ := List.mem_filter.1 hk
      exact ⟨k, List.mem_range.1 h1, by simpa using h2⟩
    have hks : k < listed.size := by rw [hinv.head.size]; omega
    have htw := tail_waits hsink hchain hn hinv.head _ k rfl hk (getD_in hks hkun)
    rw [show fuel + 1 + g = (fuel + g) + 1 by omega]
    refine ⟨fun h0 => ?_, fun i hi => ?_⟩
    · have := headReady hsub hok hinv.head (fun i _ hr => by rw [h0] at hr; cases hr) k hk
      rw [this] at hkun; cases hkun
    · have him : i < m.length := by
        rcases Nat.lt_or_ge i m.length with h | h
        · exact h
        · exact absurd hi (htw i h)
      obtain ⟨hun, o, ho', hall⟩ := mem_ready.1 hi
      have ho : m[i]? = some m[i] := List.getElem?_eq_getElem him
      have hoo : o = m[i] := by rw [hsub i _ ho] at ho'; exact (Option.some.inj ho').symm
      subst hoo
      obtain ⟨ks, d, hks', hd, hdn, _, hlk, _⟩ := regionOk_at hok ho
      have hR : Rs[i]? = some Rs[i] := List.getElem?_eq_getElem (by omega)
      have hw := hat i m[i] ks Rs[i] ho hks' hR a w hinv.kp (knows_ofT hsub hinv hi ho hlen ks hlk)
      have hil : i < listed.size := by rw [hinv.head.size]; omega
      have hcnt : ((List.range m.length).filter fun j => !(listed.setIfInBounds i true).getD j false).length = fuel := by
        have e1 : (List.range m.length).filter (fun j => !(listed.setIfInBounds i true).getD j false) = ((List.range m.length).filter fun j => !listed.getD j false).filter (fun j => j != i) := by
          rw [List.filter_filter]
          refine List.filter_congr (fun j _ => ?_)
          by_cases hij : i = j
          · subst hij; simp [hil]
          · rw [getD_set_ne false hij]
            simp [Ne.symm hij]
        have hmem : i ∈ (List.range m.length).filter (fun j => !listed.getD j false) := List.mem_filter.2 ⟨List.mem_range.2 him, by rw [getD_both hun]; rfl⟩
        have hnd : ((List.range m.length).filter fun j => !listed.getD j false).Nodup := List.Pairwise.filter _ List.nodup_range
        rw [e1, ← hnd.erase_eq_filter, List.length_erase_of_mem hmem, hc]
        rfl
      have next : ∀ v w', Kp [] w w' → Rs[i] v w' → wpAny P .any ops Q (fuel + g) (listed.setIfInBounds i true) (a.put m[i].dst v) w' := fun v w' hk hv =>
        ih _ _ _ (inv_stepT hsub hok hst hinv hi ho hR hk hv) hcnt
      unfold wants at hw
      unfold wpOp
      simp only [ho']
      split
      · rename_i hwn
        rw [if_pos hwn] at hw
        refine .inl ?_
        unfold Oper.wp
        generalize (execOp a.eval m[i]).run P w = r at *
        cases r with
        | ok x w' =>
          cases x <;> simp only [grown] at hw <;> simp only [Oper.upon]
          case value v => exact next v w' hw.1 hw.2
          case skip => exact next undef w' hw.1 hw.2
          case enter f args =>
            refine hw.mono ?_
            rintro e w'' ⟨v, rfl, h1, h2⟩
            exact next v w'' h1 h2
        | halt x w' => simp only [grown] at hw
      · rename_i hwn
        rw [if_neg hwn] at hw
        exact next undef w (Kp.refl _ _) hw
/-- the array that has the first n listed. -/
def firsts (n s : Nat) : Array Bool := Array.replicate n true ++ Array.replicate (s - n) false
theorem firsts_eq {s : Nat} (hn : n ≤ s) (hinv : HeadInv .any ops n listed) (hs : ops.size = s) (hall : ∀ i, i < n → listed.getD i false = true) : listed = firsts n s := by
  have hsz : listed.size = s := by rw [hinv.size, hs]
  refine Array.ext (by simp [firsts]; omega) (fun i h1 h2 => ?_)
  rcases Nat.lt_or_ge i n with h | h
  · have := hall i h
    simp [h1] at this
    simp [firsts, this, h]
  · have := hinv.tail i h (by omega)
    simp [h1] at this
    simp [firsts, this, Array.getElem_append, Nat.not_lt.2 h]
/-- **The first n operations only make memory, the rest comes behind them, one by one.** -/
theorem region_grow_tail {id : Nat} {w : World} {l : List Oper} (n : Nat) (hm : P.follows .mixedOrders = true) (Rs : List Tell) (kss : List (List (Tmp × Option Nat))) (hok : (regionOk (l.take n) kss a0.tmps.size && decide (n < l.length) && Region.sinkB .any l.toArray n && Region.chainB .any l.toArray n && Region.seqB .any l.toArray (l.length - n) n (firsts n l.length)) = true) (hst : ∀ R ∈ Rs, Tell.stable R)
    (hs : StepsR P l.toArray a0 w.drew Rs (l.take n) kss Rs) (hf : ∀ w', Kp [] w.drew w' → FinR (fun _ a w => wpList P l.toArray Q (l.drop n) a w) (l.take n) Rs a0 w') : (Code.region id l.toArray true).wp P Q a0 w := by
  simp only [Bool.and_eq_true, decide_eq_true_eq] at hok
  obtain ⟨⟨⟨⟨hok, hn⟩, hsink⟩, hchain⟩, hseq⟩ := hok
  have htl : (l.take n).length = n := by simp; omega
  refine wp_region_any hm ?_
  have hsub : ∀ (i : Nat) o, (l.take n)[i]? = some o → l.toArray[i]? = some o := fun i o h => by
    rw [List.getElem?_take] at h
    split at h
    · rw [List.getElem?_toArray]; exact h
    · cases h
  have H := wpAny_growT (m := l.take n) (ops := l.toArray) (Q := Q) (g := l.length - n) (w0 := w.drew) hsub hok hst hs (by rw [htl]; exact hsink) (by rw [htl]; exact hchain) (by rw [htl]; simpa using hn) (fun w' hk => by
    have key : ∀ (m : List Oper) (rs : List Tell) (b : Act), FinR (fun _ a w => wpList P l.toArray Q (l.drop n) a w) m rs b w' → FinR (fun _ a w => ∀ listed, HeadInv .any l.toArray (l.take n).length listed → (∀ i, i < (l.take n).length → listed.getD i false = true) → wpAny P .any l.toArray Q (l.length - n) listed a w) m rs b w' := by
      intro m
      have base : ∀ b : Act, wpList P l.toArray Q (l.drop n) b w' → ∀ listed, HeadInv .any l.toArray (l.take n).length listed → (∀ i, i < (l.take n).length → listed.getD i false = true) → wpAny P .any l.toArray Q (l.length - n) listed b w' := by
        intro b hb listed hinv hall
        rw [htl] at hinv hall
        rw [firsts_eq (Nat.le_of_lt hn) hinv (by simp) hall]
        have := wpAny_of_seq (P := P) (md := .any) (Q' := Q) (ops := l.toArray) (l.drop n) n (firsts n l.length) b w' (fun j => by simp [List.getElem?_drop]) (by rw [List.length_drop]; exact hseq) hb
        rwa [List.length_drop] at this
      induction m with
      | nil => intro rs b h; cases rs <;> exact base b h
      | cons o m ih =>
        intro rs b h
        cases rs with
        | nil => exact base b h
        | cons R rs => exact fun v hv => ih rs _ (h v hv)
    exact key _ _ _ (hf w' hk)) n (Array.replicate l.toArray.size false) a0 w.drew
    ⟨Kp.refl _ _, rfl, rfl, (fun i d R h => by rw [getD_replicate_false] at h; cases h), fun _ _ => rfl, ⟨by simp, fun j oj _ hl => (by rw [getD_replicate_false] at hl; cases hl), fun t _ ht => getD_in (by simpa using ht) (getD_replicate_false _ _)⟩⟩ (by
      rw [htl, List.filter_eq_self.2 (fun i _ => by rw [getD_replicate_false]; rfl)]; simp)
  rw [show n + (l.length - n) = l.toArray.size by simp; omega] at H
  exact H
end
end Go.Proofs.YtillhpgdlmeajaaGreatDoor
