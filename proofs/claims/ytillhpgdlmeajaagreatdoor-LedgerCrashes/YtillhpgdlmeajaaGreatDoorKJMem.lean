/-
  Records in memory: rows of slices of a call's own that stay while an older block is written; a journal's block.
-/
import Derived.Test.YtillhpgdlmeajaaGreatDoorKJSpec
import Derived.Test.YtillhpgdlmeajaaGreatDoorKDLoop
import Derived.Test.YtillhpgdlmeajaaGreatDoorKLSmalls
import Derived.Test.YtillhpgdlmeajaaGreatDoorKXEncs
namespace Go.Proofs.YtillhpgdlmeajaaGreatDoor
open Go.RowKit
open Go.Proofs

theorem be_bq (n : Int) : be n 4 0 = bq n := by simp [be, byteAt, List.range_succ, bq]
theorem Parts.keptS {w w' : World} {base : Nat} {v : Value} {l : List (Value × List Int)} {S : List Nat} (h : Parts w base v l) (k : Kp S w w') (hS : ∀ i ∈ S, i < base) : Parts w' base v l :=
  ⟨h.1.kept k (fun i hi hm => by have := h.1.own i hi; have := hS i hm; omega), fun x hx => ⟨(h.2 x hx).1.kept k (fun i hi hm => by have := Row.own (h.2 x hx).1 i hi; have := hS i hm; omega), (h.2 x hx).2⟩⟩
theorem Parts.snocS {wr w2 w3 w4 : World} {base : Nat} {v v' : Value} {l : List (Value × List Int)} {x : Value × List Int} {S : List Nat} (h : Parts wr base v l) (k : Kp S wr w2) (hS : ∀ i ∈ S, i < base) (hx : Row w2 wr.heap.size x.1 x.2) (hb : Bs x.2) (k3 : Kp [] w2 w3)
    (r : RowV w4 base v' (l.map (·.1) ++ [x.1])) (s : RStep w3 v w4 v') (hbase : base ≤ wr.heap.size) : Parts w4 base v' (l ++ [x]) := by
  refine ⟨by rw [List.map_append]; exact r, fun y hy => ?_⟩
  rcases List.mem_append.1 hy with hy | hy
  · obtain ⟨h1, h2, h3⟩ := h.2 y hy
    obtain ⟨g1, _, _⟩ := (h.keptS k hS).2 y hy
    refine ⟨(g1.kept k3 (by simp)).kept s.1 (fun i hi hm => h3 i hi (by simpa using hm)), h2, fun i hi hv => ?_⟩
    rcases s.2 i hv with h4 | h4
    · exact h3 i hi h4
    · have := h1.lt hi
      have := k.size
      have := k3.size
      omega
  · obtain rfl : y = x := by simpa using hy
    have hlt : ∀ i, y.1.ownBlock = some i → i < w3.heap.size := fun i hi => by have := hx.lt hi; have := k3.size; omega
    have hne : ∀ i, y.1.ownBlock = some i → v.ownBlock ≠ some i := fun i hi hv => by have := h.1.lt hv; have := hx.own i hi; omega
    refine ⟨owns_rebase ((hx.kept k3 (by simp)).kept s.1 (fun i hi hm => hne i hi (by simpa using hm))) (fun i hi => Nat.le_trans hbase (hx.own i hi)), hb, fun i hi hv => ?_⟩
    rcases s.2 i hv with h4 | h4
    · exact hne i hi h4
    · have := hlt i hi; omega
/-- one more slice behind them. -/
theorem wpList_parts {base : Nat} {wr w2 : World} {ops : Array Oper} {rest : List Oper} {o : Oper} {a : Act} {Q : Exit → Act → World → Prop} (hgd : o.guard = none) (s x : Operand)
    (ho : o.op = .call { callee := .builtin .append, args := #[s, x], argTypes := #[33, 33] }) (v : Value) (l : List (Value × List Int)) (hs : a.eval s = v) (hP : Parts wr base v l) (hbase : base ≤ wr.heap.size) (hl : l.length ≤ 1000000)
    (vx : Value) (bs : List Int) (S : List Nat) (k : Kp S wr w2) (hS : ∀ i ∈ S, i < base) (hr : Row w2 wr.heap.size vx bs) (hb : Bs bs) (hx : a.eval x = .slice (some ⟨w2.heap.size, 0, none⟩) 1 1)
    (h : ∀ ao m c w', Parts w' base (.slice ao m c) (l ++ [(vx, bs)]) → Kp v.ownBlock.toList w2 w' → wpList Tryz.prog ops Q rest (a.put o.dst (.slice ao m c)) w') : wpList Tryz.prog ops Q (o :: rest) a (w2.alloc (.cells #[vx] 22)) := by
  have k2 : Kp [] w2 (w2.alloc (.cells #[vx] 22)) := (Kp.refl [] w2).alloc _
  have hP2 := (hP.keptS k hS).kept k2
  obtain ⟨ax, cx, hvx⟩ := hr.shape
  refine wpList_append_rowv hgd s x ho base v (l.map (·.1)) hs hP2.1 ⟨w2.heap.size, 0, none⟩ 1 [vx] hx ?_ ?_ ?_ ?_ ?_
  · intro j u hu
    exact World.news_of_block (heap_alloc_new w2 _) j u (by simpa using hu)
  · simp [hvx, Value.oneCell']
  · simp; omega
  · have := k.size
    simp; omega
  · intro ao m c w' r st
    refine h ao m c w' (hP.snocS (x := (vx, bs)) k hS hr hb k2 r st hbase) ?_
    exact (k2.mono (by simp)).trans st.1
theorem opnP_count (b : List Int) : (opnP b).1.length * 8 ≤ b.length := by
  induction hl : b.length using Nat.strongRecOn generalizing b with
  | ind n ih =>
    subst hl
    rw [opnP_eq]
    split
    · exact Nat.zero_le _
    · split
      · exact Nat.zero_le _
      · split
        · exact Nat.zero_le _
        · have := ih (b.drop (8 + (num1 b).toNat)).length (by rw [List.length_drop]; omega) _ rfl
          rw [List.length_drop] at this
          simp only [List.length_cons]
          omega
/-- the journal at j: its disk at p, how many records. -/
def Jr (w : World) (j p : Nat) (n : Int) : Prop := w.heap[j]? = some (.cells #[.pointer (some ⟨p, 0, none⟩), .int .i64 n] 149 (0, 0))
theorem Jr.kept {w w' : World} {j p : Nat} {n : Int} {S : List Nat} (h : Jr w j p n) (k : Kp S w w') (hj : j ∉ S) : Jr w' j p n := k.heap h hj
theorem Jr.lt {w : World} {j p : Nat} {n : Int} (h : Jr w j p n) : j < w.heap.size := (Array.getElem?_eq_some_iff.1 h).1
/-- a journal's block is none of a disk's. -/
theorem Jr.off {w : World} {j p : Nat} {n : Int} {base p' : Nat} {v : Value} {d : Dk} (h : Jr w j p n) (D : DskP w base p' v d) : j ∉ dfp p' v := fun hm => by
  rcases mem_dfp.1 hm with rfl | hm
  · have h2 := D.here
    unfold Fv at h2
    unfold Jr at h
    rw [h2] at h
    injection h with h
    injection h with h3
    have := congrArg Array.size h3
    simp at this
  · obtain ⟨c, hc⟩ := row_typ D.row hm
    unfold Jr at h
    rw [hc] at h
    injection h with h
    injection h with _ h3
    cases h3
/-- A journal and its disk, both made since w0. -/
structure Jn (w0 w : World) (p : Nat) (v : Value) (d : Dk) (j : Nat) (n : Nat) : Prop where
  nw : Nw w0 w p v d
  jr : Jr w j p n
  new : w0.heap.size ≤ j
section
variable {w0 w w' : World} {p j n : Nat} {v v' : Value} {d d' : Dk}
theorem Jn.off (h : Jn w0 w p v d j n) : j ∉ dfp p v := h.jr.off h.nw.dk
theorem Jn.on (h : Jn w0 w p v d j n) (k : Kp [] w w') : Jn w0 w' p v d j n := ⟨h.nw.on k, h.jr.kept k (by simp), h.new⟩
/-- the disk takes a step. -/
theorem Jn.disk (h : Jn w0 w p v d j n) (g : Nw w0 w' p v' d') (t : DSt p w v w' v') : Jn w0 w' p v' d' j n := ⟨g, h.jr.kept t.1 h.off, h.new⟩
end
/-- what a step of a journal may write. -/
def JSt (p j : Nat) (w : World) (v : Value) (w' : World) (v' : Value) : Prop := Kp (j :: dfp p v) w w' ∧ ∀ k, v'.ownBlock = some k → v.ownBlock = some k ∨ w.heap.size ≤ k
theorem DSt.jst {p j : Nat} {w w' : World} {v v' : Value} (h : DSt p w v w' v') : JSt p j w v w' v' := ⟨h.1.mono (fun i hi => by simp [hi]), h.2⟩
theorem JSt.refl (p j : Nat) (w : World) (v : Value) : JSt p j w v w v := ⟨Kp.refl _ _, fun _ h => .inl h⟩
theorem JSt.trans {p j : Nat} {a b c : World} {u v x : Value} (h : JSt p j a u b v) (k : JSt p j b v c x) : JSt p j a u c x := by
  refine ⟨h.1.then k.1 (fun i hi => ?_), fun i hi => ?_⟩
  · rcases List.mem_cons.1 hi with rfl | hi
    · exact .inl (by simp)
    · rcases mem_dfp.1 hi with rfl | hi
      · exact .inl (by simp [dfp])
      · rcases h.2 i hi with h1 | h1
        · exact .inl (by simp [mem_dfp, h1])
        · exact .inr h1
  · rcases k.2 i hi with h1 | h1
    · exact h.2 i h1
    · exact .inr (Nat.le_trans h.1.size h1)
theorem JSt.mid {p j : Nat} {a b : World} (v : Value) (k : Kp [] a b) : JSt p j a v b v := ⟨k.mono (by simp), fun _ h => .inl h⟩
end Go.Proofs.YtillhpgdlmeajaaGreatDoor
