/-
  A disk in memory: its block of five cells, its row of bytes; what a step of it may change. Both the program's and the reference's lie so.
-/
import Derived.Test.YtillhpgdlmeajaaGreatDoorKDSpec
import Derived.Test.YtillhpgdlmeajaaGreatDoorKLMore
import Derived.Test.YtillhpgdlmeajaaGreatDoorKLSmalls
import Derived.Test.YtillhpgdlmeajaaGreatDoorKLMarks
import Derived.Test.YtillhpgdlmeajaaGreatDoorKLFlat
namespace Go.Proofs.YtillhpgdlmeajaaGreatDoor
open Go.RowKit
open Go.Proofs

/-- five cells at p. -/
def Fv (T : TypeId) (w : World) (p : Nat) (a b c d e : Value) : Prop := w.heap[p]? = some (.cells #[a, b, c, d, e] T (0, 0))
section
variable {T : TypeId} {w w' : World} {p : Nat} {a b c d e : Value}
theorem Fv.lt (h : Fv T w p a b c d e) : p < w.heap.size := (Array.getElem?_eq_some_iff.1 h).1
theorem Fv.c0 (h : Fv T w p a b c d e) : w.cell? ⟨p, 0, none⟩ = some a := by rw [cell_of_row w p 0 _ _ _ h]; rfl
theorem Fv.c1 (h : Fv T w p a b c d e) : w.cell? ⟨p, 1, none⟩ = some b := by rw [cell_of_row w p 1 _ _ _ h]; rfl
theorem Fv.c2 (h : Fv T w p a b c d e) : w.cell? ⟨p, 2, none⟩ = some c := by rw [cell_of_row w p 2 _ _ _ h]; rfl
theorem Fv.c3 (h : Fv T w p a b c d e) : w.cell? ⟨p, 3, none⟩ = some d := by rw [cell_of_row w p 3 _ _ _ h]; rfl
theorem Fv.c4 (h : Fv T w p a b c d e) : w.cell? ⟨p, 4, none⟩ = some e := by rw [cell_of_row w p 4 _ _ _ h]; rfl
theorem Fv.f (h : Fv T w p a b c d e) (i : Nat) : w.frozen? ⟨p, i, none⟩ = false := by
  unfold World.frozen?
  unfold Fv at h
  simp [h]
theorem set_at {w : World} {p : Nat} {cs : Array Value} {t : TypeId} (h : w.heap[p]? = some (.cells cs t (0, 0))) (i : Nat) (u : Value) : (w.setCell ⟨p, i, none⟩ u).heap[p]? = some (.cells (cs.setIfInBounds i u) t (0, 0)) := heap_setCell_same w p i _ _ _ h
theorem Fv.s0 (h : Fv T w p a b c d e) (u : Value) : Fv T (w.setCell ⟨p, 0, none⟩ u) p u b c d e := by have := set_at h 0 u; simpa [Fv] using this
theorem Fv.s1 (h : Fv T w p a b c d e) (u : Value) : Fv T (w.setCell ⟨p, 1, none⟩ u) p a u c d e := by have := set_at h 1 u; simpa [Fv] using this
theorem Fv.s2 (h : Fv T w p a b c d e) (u : Value) : Fv T (w.setCell ⟨p, 2, none⟩ u) p a b u d e := by have := set_at h 2 u; simpa [Fv] using this
theorem Fv.s3 (h : Fv T w p a b c d e) (u : Value) : Fv T (w.setCell ⟨p, 3, none⟩ u) p a b c u e := by have := set_at h 3 u; simpa [Fv] using this
theorem Fv.s4 (h : Fv T w p a b c d e) (u : Value) : Fv T (w.setCell ⟨p, 4, none⟩ u) p a b c d u := by have := set_at h 4 u; simpa [Fv] using this
theorem Fv.kept {S : List Nat} (h : Fv T w p a b c d e) (k : Kp S w w') (hp : p ∉ S) : Fv T w' p a b c d e := k.heap h hp
end
theorem kp_set (w : World) (p i : Nat) (u : Value) : Kp [p] w (w.setCell ⟨p, i, none⟩ u) := (Kp.refl [p] w).setCell (p := ⟨p, i, none⟩) (.inl (by simp)) _

/-- What calls leave besides. -/
structure Dk.Fit (d : Dk) : Prop where
  ok : d.Ok
  lo : -9223372036854775808 ≤ d.arm
  hi : d.arm ≤ 9223372036854775807
  dn : d.down = true → d.arm = 0
  bytes : Bs d.bs
/-- The disk at p. -/
structure Dsk (T : TypeId) (w : World) (base p : Nat) (v : Value) (d : Dk) : Prop where
  here : Fv T w p v (.int .i64 d.syn) (.int .i64 d.lim) (.int .i64 d.arm) (.bool d.down)
  row : Row w base v d.bs
  fit : d.Fit
  typ : T ≠ 5
/-- the blocks that a step of the disk may write. -/
def dfp (p : Nat) (v : Value) : List Nat := p :: v.ownBlock.toList
theorem mem_dfp {p i : Nat} {v : Value} : i ∈ dfp p v ↔ i = p ∨ v.ownBlock = some i := by simp [dfp, Option.mem_toList]
def DSt (p : Nat) (w : World) (v : Value) (w' : World) (v' : Value) : Prop := Kp (dfp p v) w w' ∧ ∀ k, v'.ownBlock = some k → v.ownBlock = some k ∨ w.heap.size ≤ k
theorem DSt.refl (p : Nat) (w : World) (v : Value) : DSt p w v w v := ⟨Kp.refl _ _, fun _ h => .inl h⟩
theorem DSt.trans {p : Nat} {a b c : World} {u v x : Value} (h : DSt p a u b v) (k : DSt p b v c x) : DSt p a u c x := by
  refine ⟨h.1.then k.1 (fun i hi => ?_), fun i hi => ?_⟩
  · rcases mem_dfp.1 hi with rfl | hi
    · exact .inl (mem_dfp.2 (.inl rfl))
    · rcases h.2 i hi with h1 | h1
      · exact .inl (mem_dfp.2 (.inr h1))
      · exact .inr h1
  · rcases k.2 i hi with h1 | h1
    · exact h.2 i h1
    · exact .inr (Nat.le_trans h.1.size h1)
theorem DSt.mid {p : Nat} {a b : World} (v : Value) (k : Kp [] a b) : DSt p a v b v := ⟨k.mono (by simp), fun _ h => .inl h⟩
theorem DSt.one {p : Nat} {a b : World} (v : Value) (k : Kp [p] a b) : DSt p a v b v := ⟨k.mono (fun i hi => mem_dfp.2 (.inl (by simpa using hi))), fun _ h => .inl h⟩
section
variable {T : TypeId} {w w' : World} {base p : Nat} {v : Value} {d d' : Dk}
theorem row_typ {bs : List Int} (h : Row w base v bs) {k : Nat} (hk : v.ownBlock = some k) : ∃ c, w.heap[k]? = some (.cells c 5 (0, 0)) := by
  rcases h.2 with ⟨rfl, _⟩ | ⟨g, cap, cur, rfl, hb, hg, _⟩
  · cases hk
  · cases hk; exact ⟨_, hg⟩
theorem apart_of {bs : List Int} {a b c d e : Value} (h : Fv T w p a b c d e) (hr : Row w base v bs) (hT : T ≠ 5) : v.ownBlock ≠ some p := fun e => by
  obtain ⟨c, hc⟩ := row_typ hr e
  unfold Fv at h
  rw [h] at hc
  injection hc with h1
  injection h1 with _ h2
  exact hT h2
theorem Dsk.apart (h : Dsk T w base p v d) : v.ownBlock ≠ some p := apart_of h.here h.row h.typ
theorem Dsk.lt (h : Dsk T w base p v d) : ∀ i ∈ dfp p v, i < w.heap.size := fun i hi => by
  rcases mem_dfp.1 hi with rfl | hi
  · exact h.here.lt
  · exact h.row.lt hi
theorem Dsk.own (h : Dsk T w base p v d) : ∀ i ∈ dfp p v, i = p ∨ base ≤ i := fun i hi => by
  rcases mem_dfp.1 hi with rfl | hi
  · exact .inl rfl
  · exact .inr (h.row.own i hi)
theorem Dsk.kept {S : List Nat} (h : Dsk T w base p v d) (k : Kp S w w') (hS : ∀ i ∈ dfp p v, i ∉ S) : Dsk T w' base p v d :=
  ⟨h.here.kept k (hS p (mem_dfp.2 (.inl rfl))), h.row.kept k (fun i hi => hS i (mem_dfp.2 (.inr hi))), h.fit, h.typ⟩
theorem Dsk.keptN (h : Dsk T w base p v d) (k : Kp [] w w') : Dsk T w' base p v d := h.kept k (by simp)
/-- other numbers beside the same bytes. -/
theorem Dsk.poke (h : Dsk T w base p v d) (k : Kp [p] w w') (he : Fv T w' p v (.int .i64 d'.syn) (.int .i64 d'.lim) (.int .i64 d'.arm) (.bool d'.down)) (hb : d'.bs = d.bs) (hf : d'.Fit) : Dsk T w' base p v d' :=
  ⟨he, by rw [hb]; exact h.row.kept k (fun i hi hm => h.apart (by simp at hm; rw [← hm]; exact hi)), hf, h.typ⟩
theorem Dsk.shape (h : Dsk T w base p v d) : ∃ ao c, v = .slice ao d.bs.length c := h.row.shape
theorem Dsk.sl (h : Dsk T w base p v d) : Sl w v d.bs := h.row.sl
/-- bytes do not lie in a disk's block. -/
theorem Sl.offp {vb : Value} {bs : List Int} {a b c d e : Value} (hS : Sl w vb bs) (h : Fv T w p a b c d e) (hv : ∀ x ∈ [a, b, c, d, e], ∀ y, x ≠ .int .u8 y) (k : Kp [p] w w') : Sl w' vb bs := by
  obtain ⟨ao, cc, rfl, h1, h2, h3, h4⟩ := hS
  refine ⟨ao, cc, rfl, h1, h2, h3, fun ad ha j u hu => ?_⟩
  have hc := h4 ad ha j u hu
  refine k.cell hc ?_
  rw [add_block]
  intro hm
  have hm : ad.block = p := by simpa using hm
  obtain ⟨x, hx⟩ : ∃ x, u = .int .u8 x := by
    rw [List.getElem?_map] at hu
    cases hb : bs[j]? with
    | none => rw [hb] at hu; cases hu
    | some y => rw [hb] at hu; exact ⟨y, by simpa using hu.symm⟩
  have hsp := World.cell?_spot hc
  obtain ⟨i, hi⟩ : ∃ i, ad.add j = ⟨p, i, none⟩ := by
    refine ⟨(ad.add j).off, ?_⟩
    have hb := add_block ad j
    rw [← hsp, ← hm, ← hb]
  rw [hi, cell_of_row w p i _ _ _ h] at hc
  have hmem : u ∈ [a, b, c, d, e] := by
    have := Array.mem_of_getElem? hc
    simpa using this
  exact hv u hmem x hx
theorem dsk_noby (v : Value) (hv : ∃ ao n c, v = .slice ao n c) (a b c : Int) (e : Bool) : ∀ x ∈ [v, .int .i64 a, .int .i64 b, .int .i64 c, .bool e], ∀ y, x ≠ .int .u8 y := by
  obtain ⟨ao, n, c', rfl⟩ := hv
  intro x hx y
  rcases (by simpa using hx : x = .slice ao n c' ∨ x = .int .i64 a ∨ x = .int .i64 b ∨ x = .int .i64 c ∨ x = .bool e) with rfl | rfl | rfl | rfl | rfl <;> simp
theorem Dsk.sloff {vb : Value} {bs : List Int} (h : Dsk T w base p v d) (hS : Sl w vb bs) (k : Kp [p] w w') : Sl w' vb bs := by
  obtain ⟨ao, c, e⟩ := h.shape
  exact hS.offp h.here (dsk_noby v ⟨_, _, _, e⟩ _ _ _ _) k
end
/-- fewer bytes of a row. -/
theorem Row.take {w : World} {base m c : Nat} {ao : Option Addr} {bs : List Int} (h : Row w base (.slice ao m c) bs) (n : Nat) (hn : n ≤ bs.length) : Row w base (.slice ao n c) (bs.take n) := by
  have hm := h.len
  subst hm
  have hl : (bs.take n).length = n := by simp; omega
  rcases h.2 with ⟨h', h0⟩ | ⟨g, cap, cur, h', hb, hg, hc, hx, hs, ht⟩
  · injection h' with h1 h2 h3
    subst h1
    obtain rfl : n = 0 := by omega
    have : bs = [] := List.eq_nil_of_length_eq_zero h0
    subst this
    subst h3
    exact ⟨by simp, .inl ⟨rfl, rfl⟩⟩
  · injection h' with h1 h2 h3
    subst h1
    subst h3
    refine ⟨by simp, .inr ⟨g, c, cur, by rw [hl], hb, hg, by omega, hx, hs, ?_⟩⟩
    rw [hl, List.map_take, ← ht, List.take_take]
    congr 1
    omega
theorem Row.room {w : World} {base m c : Nat} {ao : Option Addr} {bs : List Int} (h : Row w base (.slice ao m c) bs) : m ≤ c ∧ (ao = none → c = 0) := by
  rcases h.2 with ⟨h', h0⟩ | ⟨g, cap, cur, h', hb, hg, hc, hx, hs, ht⟩
  · injection h' with h1 h2 h3
    exact ⟨by omega, fun _ => h3⟩
  · injection h' with h1 h2 h3
    subst h3
    rw [h2]
    exact ⟨hc, fun e => by rw [h1] at e; cases e⟩
/-- slicing a slice at its beginning, as an equation. -/
theorem run_first (ao : Option Addr) (n c k : Nat) (w : World) (h2 : k ≤ c) (h4 : ao = none → c = 0) :
    (Instr.sliceAt 22 (.slice ao n c) none (some (.int .i64 (k : Nat))) none).run Tryz.prog w = .ok (.slice ao k c) w := by
  cases ao with
  | none =>
    have h0 := h4 rfl
    obtain rfl : k = 0 := by omega
    subst h0
    simp [go_sem, Tryz.underlying22]
  | some a =>
    have : (k : Int) ≤ (c : Int) := by omega
    simp [go_sem, Tryz.underlying22, this]
namespace Dk
/-- One call counted, as the program does. -/
def cnt (d : Dk) : Dk := if d.arm = 0 then d else { d with arm := d.arm - 1, down := decide (d.arm - 1 = 0) }
theorem cnt_bs (d : Dk) : d.cnt.bs = d.bs ∧ d.cnt.syn = d.syn ∧ d.cnt.lim = d.lim := by unfold cnt; split <;> exact ⟨rfl, rfl, rfl⟩
theorem cal_cnt {d : Dk} (h : d.Fit) (h0 : 0 ≤ d.arm) : d.cal = (!d.cnt.down, (!d.down && d.cnt.down), d.cnt) := by
  unfold cal cnt
  by_cases hd : d.down = true
  · rw [if_pos hd, if_pos (h.dn hd), hd]; rfl
  · have hd' : d.down = false := by simpa using hd
    rw [if_neg hd]
    by_cases ha : d.arm = 0
    · rw [if_neg (by omega), if_pos ha, hd']; rfl
    · rw [if_pos (by omega), if_neg ha]
      by_cases h1 : d.arm = 1
      · rw [if_pos h1, h1, hd']; rfl
      · rw [if_neg h1]
        have : decide (d.arm - 1 = 0) = false := decide_eq_false (by omega)
        rw [this, hd']
        simp
theorem app_cnt {d : Dk} (h : d.Fit) (h0 : 0 ≤ d.arm) (hd : d.down = false) (b : List Int) : d.app b = if d.lim < ((d.bs.length + b.length : Nat) : Int) then (false, d.cnt) else (!d.cnt.down, { d.cnt with bs := d.bs ++ b }) := by
  unfold app
  rw [cal_cnt h h0, hd]
  by_cases hl : d.lim < ((d.bs.length + b.length : Nat) : Int)
  · rw [if_pos (by simp; omega), if_pos hl]
  · rw [if_neg (by simp; omega), if_neg hl]
theorem sync_cnt {d : Dk} (h : d.Fit) (h0 : 0 ≤ d.arm) : d.sync = if d.cnt.down then (false, d.cnt) else (true, { d.cnt with syn := d.bs.length }) := by
  unfold sync
  rw [cal_cnt h h0]
  cases d.cnt.down <;> rfl
theorem cut_cnt {d : Dk} (h : d.Fit) (h0 : 0 ≤ d.arm) (n : Int) (hn : d.down = true ∨ (0 ≤ n ∧ n ≤ d.bs.length)) : d.cut n = if d.cnt.down then (13, d.cnt) else (0, { d.cnt with bs := d.bs.take n.toNat, syn := n.toNat }) := by
  unfold cut
  by_cases hd : d.down = true
  · have : d.cnt = d := by unfold cnt; rw [if_pos (h.dn hd)]
    rw [if_pos hd, this, if_pos hd]
  · have hn := hn.resolve_left hd
    rw [if_neg hd, if_neg (by omega), cal_cnt h h0]
    cases d.cnt.down <;> rfl
theorem cnt_fit {d : Dk} (h : d.Fit) (h0 : 0 ≤ d.arm) : d.cnt.Fit ∧ 0 ≤ d.cnt.arm := by
  obtain ⟨e1, e2, e3⟩ := d.cnt_bs
  have hh := h.hi
  refine ⟨⟨⟨by rw [e1, e2]; exact h.ok.syn, by rw [e1, e3]; exact h.ok.fits, by rw [e3]; exact h.ok.lim⟩, ?_, ?_, ?_, by rw [e1]; exact h.bytes⟩, ?_⟩
  all_goals unfold cnt
  all_goals split
  all_goals try simp only []
  · omega
  · omega
  · omega
  · omega
  · exact h.dn
  · intro hd; exact of_decide_eq_true hd
  · omega
  · omega
theorem cnt_down {d : Dk} (h : d.Fit) (hd : d.down = true) : d.cnt = d := by unfold cnt; rw [if_pos (h.dn hd)]
end Dk
end Go.Proofs.YtillhpgdlmeajaaGreatDoor
