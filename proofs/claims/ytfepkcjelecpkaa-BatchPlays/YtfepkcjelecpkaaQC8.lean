/-
  Lists of slices as arguments; the contracts of the law package's helpers Few and Sized over this seat's program.
-/
import Derived.Laws.CopyOwn
import Derived.Test.YtfepkcjelecpkaaQC7
import Derived.Test.YtfepkcjelecpkaaQC3
import Derived.Test.YtfepkcjelecpkaaQC5
namespace Go.Proofs.Ytfepkcjelecpkaa
open Go.ChangeShapes Go.WideShapes Go.ChangeAt Go.RowKit
open Go.Deep
section
variable {H : Type} {enc : TypeId × Value → H} {w : World}
end
theorem Lists.take {w : World} {ao : Option Addr} {len c n : Nat} {l : List (Value × List Int)} (h : Lists w (.slice ao len c) l) (hn : n ≤ l.length) : Lists w (.slice ao n c) (l.take n) := by
  obtain ⟨ao', c', e, h1, h2⟩ := h
  cases e
  have hl : (l.take n).length = n := by simp; omega
  refine ⟨ao, c, by rw [hl], by omega, fun i hi => ?_⟩
  obtain ⟨b, off, e, h3, h4, h5⟩ := h2 i (by omega)
  have e2 : (l.take n)[i] = l[i]'(by omega) := List.getElem_take
  rw [e2]
  exact ⟨b, off, e, h3, h4, h5⟩
end Go.Proofs.Ytfepkcjelecpkaa

/-
  A disk in memory: its block of five cells, its row of bytes; what a step of it may change. Both the program's and the reference's lie so.
-/
namespace Go.Proofs.Ytfepkcjelecpkaa
open Go.RowKit
open Go.Proofs
/-- five cells at p. -/
def Fv (T : TypeId) (w : World) (p : Nat) (a b c d e : Value) : Prop := w.heap[p]? = some (.cells #[a, b, c, d, e] T (0, 0))
section
variable {T : TypeId} {w w' : World} {p : Nat} {a b c d e : Value}
theorem Fv.lt (h : Fv T w p a b c d e) : p < w.heap.size := (Array.getElem?_eq_some_iff.1 h).1
theorem Fv.c0 (h : Fv T w p a b c d e) : w.cell? ⟨p, 0, none⟩ = some a := by rw [cell_of_row w p 0 _ _ _ h]; rfl
theorem Fv.c1 (h : Fv T w p a b c d e) : w.cell? ⟨p, 1, none⟩ = some b := by rw [cell_of_row w p 1 _ _ _ h]; rfl
theorem Fv.c3 (h : Fv T w p a b c d e) : w.cell? ⟨p, 3, none⟩ = some d := by rw [cell_of_row w p 3 _ _ _ h]; rfl
theorem Fv.f (h : Fv T w p a b c d e) (i : Nat) : w.frozen? ⟨p, i, none⟩ = false := by
  unfold World.frozen?
  unfold Fv at h
  simp [h]
theorem set_at {w : World} {p : Nat} {cs : Array Value} {t : TypeId} (h : w.heap[p]? = some (.cells cs t (0, 0))) (i : Nat) (u : Value) : (w.setCell ⟨p, i, none⟩ u).heap[p]? = some (.cells (cs.setIfInBounds i u) t (0, 0)) := heap_setCell_same w p i _ _ _ h
theorem Fv.s0 (h : Fv T w p a b c d e) (u : Value) : Fv T (w.setCell ⟨p, 0, none⟩ u) p u b c d e := by have := set_at h 0 u; simpa [Fv] using this
theorem Fv.s1 (h : Fv T w p a b c d e) (u : Value) : Fv T (w.setCell ⟨p, 1, none⟩ u) p a u c d e := by have := set_at h 1 u; simpa [Fv] using this
theorem Fv.s3 (h : Fv T w p a b c d e) (u : Value) : Fv T (w.setCell ⟨p, 3, none⟩ u) p a b c u e := by have := set_at h 3 u; simpa [Fv] using this
theorem Fv.kept {S : List Nat} (h : Fv T w p a b c d e) (k : Kp S w w') (hp : p ∉ S) : Fv T w' p a b c d e := k.heap h hp
end
theorem kp_set (w : World) (p i : Nat) (u : Value) : Kp [p] w (w.setCell ⟨p, i, none⟩ u) := (Kp.refl [p] w).setCell (p := ⟨p, i, none⟩) (.inl (by simp)) _
/-- What calls leave besides. -/
structure Dk.Fit (d : Dk) : Prop where
  ok : d.Ok
  lo : -9223372036854775808 ≤ d.arm
  hi : d.arm ≤ 9223372036854775807
  dn : d.down = true → d.arm = 0
  bytes : Bs d.bs
/-- The disk at p. -/
structure Dsk (T : TypeId) (w : World) (base p : Nat) (v : Value) (d : Dk) : Prop where
  here : Fv T w p v (.int .i64 d.syn) (.int .i64 d.lim) (.int .i64 d.arm) (.bool d.down)
  row : Row w base v d.bs
  fit : d.Fit
  typ : T ≠ 5
/-- the blocks that a step of the disk may write. -/
def dfp (p : Nat) (v : Value) : List Nat := p :: v.ownBlock.toList
theorem mem_dfp {p i : Nat} {v : Value} : i ∈ dfp p v ↔ i = p ∨ v.ownBlock = some i := by simp [dfp, Option.mem_toList]
def DSt (p : Nat) (w : World) (v : Value) (w' : World) (v' : Value) : Prop := Kp (dfp p v) w w' ∧ ∀ k, v'.ownBlock = some k → v.ownBlock = some k ∨ w.heap.size ≤ k
theorem DSt.refl (p : Nat) (w : World) (v : Value) : DSt p w v w v := ⟨Kp.refl _ _, fun _ h => .inl h⟩
theorem DSt.trans {p : Nat} {a b c : World} {u v x : Value} (h : DSt p a u b v) (k : DSt p b v c x) : DSt p a u c x := by
  refine ⟨h.1.then k.1 (fun i hi => ?_), fun i hi => ?_⟩
  · rcases mem_dfp.1 hi with rfl | hi
    · exact .inl (mem_dfp.2 (.inl rfl))
    · rcases h.2 i hi with h1 | h1
      · exact .inl (mem_dfp.2 (.inr h1))
      · exact .inr h1
  · rcases k.2 i hi with h1 | h1
    · exact h.2 i h1
    · exact .inr (Nat.le_trans h.1.size h1)
theorem DSt.mid {p : Nat} {a b : World} (v : Value) (k : Kp [] a b) : DSt p a v b v := ⟨k.mono (by simp), fun _ h => .inl h⟩
section
variable {T : TypeId} {w w' : World} {base p : Nat} {v : Value} {d d' : Dk}
theorem row_typ {bs : List Int} (h : Row w base v bs) {k : Nat} (hk : v.ownBlock = some k) : ∃ c, w.heap[k]? = some (.cells c 5 (0, 0)) := by
  rcases h.2 with ⟨rfl, _⟩ | ⟨g, cap, cur, rfl, hb, hg, _⟩
  · cases hk
  · cases hk; exact ⟨_, hg⟩
theorem apart_of {bs : List Int} {a b c d e : Value} (h : Fv T w p a b c d e) (hr : Row w base v bs) (hT : T ≠ 5) : v.ownBlock ≠ some p := fun e => by
  obtain ⟨c, hc⟩ := row_typ hr e
  unfold Fv at h
  rw [h] at hc
  injection hc with h1
  injection h1 with _ h2
  exact hT h2
theorem Dsk.apart (h : Dsk T w base p v d) : v.ownBlock ≠ some p := apart_of h.here h.row h.typ
theorem Dsk.lt (h : Dsk T w base p v d) : ∀ i ∈ dfp p v, i < w.heap.size := fun i hi => by
  rcases mem_dfp.1 hi with rfl | hi
  · exact h.here.lt
  · exact h.row.lt hi
theorem Dsk.own (h : Dsk T w base p v d) : ∀ i ∈ dfp p v, i = p ∨ base ≤ i := fun i hi => by
  rcases mem_dfp.1 hi with rfl | hi
  · exact .inl rfl
  · exact .inr (h.row.own i hi)
theorem Dsk.kept {S : List Nat} (h : Dsk T w base p v d) (k : Kp S w w') (hS : ∀ i ∈ dfp p v, i ∉ S) : Dsk T w' base p v d :=
  ⟨h.here.kept k (hS p (mem_dfp.2 (.inl rfl))), h.row.kept k (fun i hi => hS i (mem_dfp.2 (.inr hi))), h.fit, h.typ⟩
theorem Dsk.keptN (h : Dsk T w base p v d) (k : Kp [] w w') : Dsk T w' base p v d := h.kept k (by simp)
theorem Dsk.shape (h : Dsk T w base p v d) : ∃ ao c, v = .slice ao d.bs.length c := h.row.shape
end
/-- fewer bytes of a row. -/
theorem Row.take {w : World} {base m c : Nat} {ao : Option Addr} {bs : List Int} (h : Row w base (.slice ao m c) bs) (n : Nat) (hn : n ≤ bs.length) : Row w base (.slice ao n c) (bs.take n) := by
  have hm := h.len
  subst hm
  have hl : (bs.take n).length = n := by simp; omega
  rcases h.2 with ⟨h', h0⟩ | ⟨g, cap, cur, h', hb, hg, hc, hx, hs, ht⟩
  · injection h' with h1 h2 h3
    subst h1
    obtain rfl : n = 0 := by omega
    have : bs = [] := List.eq_nil_of_length_eq_zero h0
    subst this
    subst h3
    exact ⟨by simp, .inl ⟨rfl, rfl⟩⟩
  · injection h' with h1 h2 h3
    subst h1
    subst h3
    refine ⟨by simp, .inr ⟨g, c, cur, by rw [hl], hb, hg, by omega, hx, hs, ?_⟩⟩
    rw [hl, List.map_take, ← ht, List.take_take]
    congr 1
    omega
theorem Row.room {w : World} {base m c : Nat} {ao : Option Addr} {bs : List Int} (h : Row w base (.slice ao m c) bs) : m ≤ c ∧ (ao = none → c = 0) := by
  rcases h.2 with ⟨h', h0⟩ | ⟨g, cap, cur, h', hb, hg, hc, hx, hs, ht⟩
  · injection h' with h1 h2 h3
    exact ⟨by omega, fun _ => h3⟩
  · injection h' with h1 h2 h3
    subst h3
    rw [h2]
    exact ⟨hc, fun e => by rw [h1] at e; cases e⟩
namespace Dk
/-- One call counted, as the program does. -/
def cnt (d : Dk) : Dk := if d.arm = 0 then d else { d with arm := d.arm - 1, down := decide (d.arm - 1 = 0) }
end Dk
end Go.Proofs.Ytfepkcjelecpkaa

/-
  Lists of slices with the room behind them told: how they are cut.
-/
namespace Go.Proofs.Ytfepkcjelecpkaa
open Go.RowKit
/-- v is a slice of slices that reads so; its room is no less than its length. -/
def Lc (w : World) (v : Value) (l : List (Value × List Int)) : Prop :=
  Lists w v l ∧ ∃ ao c, v = .slice ao l.length c ∧ l.length ≤ c ∧ c ≤ maxLen ∧ (ao = none → c = 0)
theorem Lc.kept {w w' : World} {v : Value} {l : List (Value × List Int)} (h : Lc w v l) (k : Kp [] w w') : Lc w' v l := ⟨h.1.kept k, h.2⟩
theorem Lc.take {w : World} {ao : Option Addr} {len c : Nat} {l : List (Value × List Int)} (h : Lc w (.slice ao len c) l) (n : Nat) (hn : n ≤ l.length) : Lc w (.slice ao n c) (l.take n) := by
  obtain ⟨h1, ao', c', e, h2, h3, h4⟩ := h
  cases e
  have hl : (l.take n).length = n := by simp; omega
  exact ⟨h1.take hn, ao, c, by rw [hl], by omega, h3, h4⟩
theorem Lc.drop {w : World} {ao : Option Addr} {len c : Nat} {l : List (Value × List Int)} (h : Lc w (.slice ao len c) l) (n : Nat) (hn : n ≤ l.length) :
    Lc w (.slice (if c = n then ao else ao.map (·.add n)) (len - n) (c - n)) (l.drop n) := by
  obtain ⟨⟨_, _, _, g1, g2⟩, ao', c', e, h2, h3, h4⟩ := h
  rename_i x1 x2 x3
  cases e
  cases x3
  have hl : (l.drop n).length = l.length - n := by simp
  refine ⟨⟨_, c - n, by rw [hl], by omega, fun i hi => ?_⟩, _, c - n, by rw [hl], by omega, by omega, fun ha => ?_⟩
  · have hi2 : n + i < l.length := by omega
    obtain ⟨b, off, e, h5, h6, h7⟩ := g2 (n + i) hi2
    subst e
    have e2 : (l.drop n)[i] = l[n + i] := by simp
    rw [e2, if_neg (by omega)]
    exact ⟨b, off + n, by simp [Addr.add_lit], by rw [Nat.add_assoc]; exact h5, h6, h7⟩
  · split at ha
    · omega
    · cases hao : ao with
      | none => have := h4 hao; omega
      | some x => rw [hao] at ha; cases ha
theorem Lc.shape {w : World} {v : Value} {l : List (Value × List Int)} (h : Lc w v l) : ∃ ao c, v = .slice ao l.length c ∧ l.length ≤ c ∧ c ≤ 9223372036854775807 ∧ (ao = none → c = 0) := by
  obtain ⟨_, ao, c, e, h2, h3, h4⟩ := h
  exact ⟨ao, c, e, h2, by unfold maxLen at h3; omega, h4⟩
end Go.Proofs.Ytfepkcjelecpkaa

/-
  Lists of slices by their bytes, cut and looked at, as what an operation yields.
-/
namespace Go.Proofs.Ytfepkcjelecpkaa
open Go.RowKit
/-- The value is a slice of slices that reads as these bytes; its room is told. -/
def LcM (ls : List (List Int)) : Tell := fun v w => ∃ l, Lc w v l ∧ l.map (·.2) = ls
theorem stable_lcm (ls : List (List Int)) : Tell.stable (LcM ls) := fun _ _ _ k ⟨l, h, e⟩ => ⟨l, h.kept k, e⟩
theorem LcM.kept {ls : List (List Int)} {v : Value} {w w' : World} (h : LcM ls v w) (k : Kp [] w w') : LcM ls v w' := stable_lcm ls _ _ _ k h
theorem LcM.bs {ls : List (List Int)} {v : Value} {w : World} (h : LcM ls v w) : ∀ x ∈ ls, Bs x := by
  obtain ⟨l, h1, rfl⟩ := h
  intro x hx
  obtain ⟨y, hy, rfl⟩ := List.mem_map.1 hx
  exact h1.1.bs y hy
theorem LcM.shape {ls : List (List Int)} {v : Value} {w : World} (h : LcM ls v w) : ∃ ao c, v = .slice ao ls.length c ∧ ls.length ≤ c ∧ c ≤ 9223372036854775807 ∧ (ao = none → c = 0) := by
  obtain ⟨l, h1, rfl⟩ := h
  rw [List.length_map]
  exact h1.shape
theorem LcM.take {ls : List (List Int)} {w : World} {ao : Option Addr} {len c : Nat} (h : LcM ls (.slice ao len c) w) (n : Nat) (hn : n ≤ ls.length) : LcM (ls.take n) (.slice ao n c) w := by
  obtain ⟨l, h1, rfl⟩ := h
  exact ⟨l.take n, h1.take n (by simpa using hn), by rw [List.map_take]⟩
theorem LcM.drop {ls : List (List Int)} {w : World} {ao : Option Addr} {len c : Nat} (h : LcM ls (.slice ao len c) w) (n : Nat) (hn : n ≤ ls.length) : LcM (ls.drop n) (.slice (if c = n then ao else ao.map (·.add n)) (len - n) (c - n)) w := by
  obtain ⟨l, h1, rfl⟩ := h
  exact ⟨l.drop n, h1.drop n (by simpa using hn), by rw [List.map_drop]⟩
/-- a slice at a place of a list. -/
theorem LcM.at {ls : List (List Int)} {w : World} {ao : Option Addr} {len c : Nat} (h : LcM ls (.slice ao len c) w) (i : Nat) (x : List Int) (hx : ls[i]? = some x) : len = ls.length ∧ ∃ b off u, ao = some ⟨b, off, none⟩ ∧ w.cell? ⟨b, off + i, none⟩ = some u ∧ Sl w u x ∧ Bs x := by
  obtain ⟨l, ⟨⟨_, _, e, _, h2⟩, _⟩, rfl⟩ := h
  cases e
  rw [List.getElem?_map] at hx
  obtain ⟨y, hy, rfl⟩ := Option.map_eq_some_iff.1 hx
  obtain ⟨hi, rfl⟩ := List.getElem?_eq_some_iff.1 hy
  obtain ⟨b, off, e, h3, h4, h5⟩ := h2 i hi
  exact ⟨by simp, b, off, _, e, h3, h4, h5⟩
section
variable {o : Oper} {a : Act} {w : World}
end
end Go.Proofs.Ytfepkcjelecpkaa

/-
  Rows of slices that lie anywhere: how they are gathered.
-/
namespace Go.Proofs.Ytfepkcjelecpkaa
open Go.RowKit
open Go.Proofs
/-- what is gathered, of slices wherever they lie. -/
def AccR (w : World) (ls : List (List Int)) (v : Value) (wr : World) : Prop := ∃ l, RowS wr w.heap.size v l ∧ l.map (·.2) = ls ∧ Kp [] w wr
theorem AccR.kp {w wr : World} {ls : List (List Int)} {v : Value} (h : AccR w ls v wr) : Kp [] w wr := by obtain ⟨_, _, _, h3⟩ := h; exact h3
end Go.Proofs.Ytfepkcjelecpkaa

/-
  The contracts of package disk: Bytes, keep, Append, Sync, Cut, Crash.
-/
namespace Go.Proofs.Ytfepkcjelecpkaa
open Go.RowKit
open Go.Proofs
theorem Dk.Fit.kept {d : Dk} (h : d.Fit) (n : Nat) (hn : n ≤ d.bs.length) : Dk.Fit { d with bs := d.bs.take n, syn := n } :=
  ⟨⟨by simp only [List.length_take]; omega, by have := h.ok.fits; simp only [List.length_take]; omega, h.ok.lim⟩, h.lo, h.hi, h.dn, fun b hb => h.bytes b (List.mem_of_mem_take hb)⟩
end Go.Proofs.Ytfepkcjelecpkaa

/-
  A new disk and its steps, as the law package takes them; Cut of the law package by its value; known.
-/
namespace Go.Proofs.Ytfepkcjelecpkaa
open Go.RowKit
open Go.Proofs
namespace Dk
end Dk
section
variable {w0 w w' : World} {p : Nat} {v v' : Value} {d d' : Dk}
end
/-- []byte of a constant: the row is made, then marked. -/
theorem lit_cv (w : World) (cs : List Int) (n : Nat) (hn : cs.length = n) : (convert 28 28 (.slice (some ⟨w.heap.size, 0, none⟩) n n)).run Try.prog (w.alloc (.cells (cs.map (Value.int .u8)).toArray 5)) = .ok (.slice (some ⟨w.heap.size, 0, none⟩) n n) (w.alloc (.cells (cs.map (Value.int .u8)).toArray 5 (n, n + 1))) := by
  have := Go.Lib.run_convert_bytes_const (P := Try.prog) w 28 5 (cs.map (Value.int .u8)).toArray n n Try.underlying28 Try.underlying5
  rw [this]
  simp [hn]
theorem lit_sl (w : World) (cs : List Int) (n : Nat) (fr : Nat × Nat) (hn : cs.length = n) (hm : n ≤ 1000) : Sl (w.alloc (.cells (cs.map (Value.int .u8)).toArray 5 fr)) (.slice (some ⟨w.heap.size, 0, none⟩) n n) cs := by
  subst hn
  exact Sl.block (heap_alloc_new w _) (by unfold maxLen; omega)
end Go.Proofs.Ytfepkcjelecpkaa
