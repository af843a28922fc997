/-
  Lists of few texts that stay whatever becomes of newer blocks; a disk and a row of bytes that grow side by side.
-/
import Derived.Test.YtillhpgdlmeajaaGreatDoorKDLaw
namespace Go.Proofs.YtillhpgdlmeajaaGreatDoor
open Go.ChangeShapes Go.WideShapes Go.ChangeAt Go.RowKit
open Go.Proofs
open Go.Deep

theorem str_app (a b : List Int) : strOfNums a ++ strOfNums b = strOfNums (a ++ b) := by
  refine ByteArray.ext ?_
  rw [ByteArray.data_append]
  refine Array.ext' ?_
  have h := fun l => strOfNums_data l
  simp only [Array.toList_append]
  rw [h, h, h, List.map_append]
/-- the row of texts that Few has made so far; each text was there in w0. -/
def Few0 (w0 w wr : World) (l : List (Value × List Int)) (most k : Nat) (o : Value) : Prop :=
  ∃ l' : List (Value × List Int), l'.length = k ∧ wr.ownsRow w.heap.size 22 1 o k (l'.map (·.1)) ∧ Kp [] w wr ∧ (∀ x ∈ l', Sl w0 x.1 x.2) ∧ l'.map (·.2) = (l.take k).map fun x => x.2.take most
/-- Few's answer stays as it is while blocks are written that were there ahead of the call. -/
theorem Few0.lists {w0 w wr : World} {l : List (Value × List Int)} {most k : Nat} {o : Value} (h : Few0 w0 w wr l most k o) (hB : ∀ x ∈ l, Bs x.2) (hk : k ≤ 1000) :
    ∃ l' : List (Value × List Int), l'.length = k ∧ l'.map (·.2) = (l.take k).map (fun x => x.2.take most) ∧ ∀ (S : List Nat) (w' : World), (∀ i ∈ S, i < w.heap.size) → Kp S wr w' → Kp [] w0 w' → Lists w' o l' := by
  obtain ⟨l', rfl, ho, hK, hS, he⟩ := h
  refine ⟨l', rfl, he, fun S w' hlt kS k0 => ?_⟩
  have hBs : ∀ x ∈ l', Bs x.2 := fun x hx => by
    have : x.2 ∈ l'.map (·.2) := List.mem_map_of_mem hx
    rw [he] at this
    obtain ⟨y, hy, hy2⟩ := List.mem_map.1 this
    rw [← hy2]
    exact (hB y (List.mem_of_mem_take hy)).takes _
  have ho' := kS.owns ho (fun i hi hm => by have := (ho.lt i hi).1; have := hlt i hm; omega)
  rcases ho'.2 with ⟨rfl, h0⟩ | ⟨g, cap, cur, rfl, _, hg, _⟩
  · exact ⟨none, 0, by rw [h0], by omega, fun i hi => by omega⟩
  · refine ⟨some ⟨g, 0, none⟩, cap, rfl, by omega, fun i hi => ⟨g, 0, rfl, ?_, (hS _ (List.getElem_mem hi)).kept k0 (by simp), hBs _ (List.getElem_mem hi)⟩⟩
    have := ho'.cells (g := g) rfl i l'[i].1 (by simp [List.getElem?_eq_getElem hi])
    rwa [Addr.add_lit] at this
/-- a disk that was there when the world was wB, and a row beside it that is new since. -/
structure Lp (w0 wB : World) (vB : Value) (p : Nat) (wr : World) (v : Value) (d : Dk) (x : Value) (X : List Int) : Prop where
  nw : Nw w0 wr p v d
  st : Kp (dfp p vB) wB wr
  ch : ∀ k, v.ownBlock = some k → vB.ownBlock = some k ∨ wB.heap.size ≤ k
  row : Row wr wB.heap.size x X
  dj : ∀ k, x.ownBlock = some k → k ∉ dfp p v
theorem Lp.start {w0 w : World} {p : Nat} {v : Value} {d : Dk} (h : Nw w0 w p v d) : Lp w0 w v p w v d (.slice none 0 0) [] :=
  ⟨h, Kp.refl _ _, fun _ hk => .inl hk, ⟨rfl, .inl ⟨rfl, rfl⟩⟩, fun k hk => by cases hk⟩
section
variable {w0 wB wr w1 w2 : World} {vB : Value} {p : Nat} {v v1 : Value} {d d1 : Dk} {x x2 : Value} {X Y : List Int}
/-- the disk takes a step. -/
theorem Lp.disk (h : Lp w0 wB vB p wr v d x X) (n : Nw w0 w1 p v1 d1) (t : DSt p wr v w1 v1) : Lp w0 wB vB p w1 v1 d1 x X := by
  refine ⟨n, h.st.then t.1 (fun i hi => ?_), fun k hk => ?_, h.row.kept t.1 h.dj, fun k hk hm => ?_⟩
  · rcases mem_dfp.1 hi with rfl | hi
    · exact .inl (mem_dfp.2 (.inl rfl))
    · exact (h.ch i hi).imp (fun e => mem_dfp.2 (.inr e)) id
  · rcases t.2 k hk with e | e
    · exact h.ch k e
    · exact .inr (Nat.le_trans h.st.size e)
  · rcases mem_dfp.1 hm with rfl | hm
    · exact h.dj k hk (mem_dfp.2 (.inl rfl))
    · rcases t.2 k hm with e | e
      · exact h.dj k hk (mem_dfp.2 (.inr e))
      · have := h.row.lt hk; omega
/-- more bytes behind the row. -/
theorem Lp.more (h : Lp w0 wB vB p wr v d x X) (r : Row w2 wB.heap.size x2 Y) (s : RStep wr x w2 x2) (hw : w0.heap.size ≤ wB.heap.size) : Lp w0 wB vB p w2 v d x2 Y := by
  have hin : ∀ i ∈ x.ownBlock.toList, x.ownBlock = some i := fun i hi => by simpa [Option.mem_toList] using hi
  refine ⟨⟨h.nw.dk.kept s.1 (fun i hi hm => h.dj i (hin i hm) hi), h.nw.new, h.nw.kp.then s.1 (fun i hi => .inr ?_), h.nw.arm⟩, h.st.then s.1 (fun i hi => .inr (h.row.own i (hin i hi))), h.ch, r, fun k hk hm => ?_⟩
  · have := h.row.own i (hin i hi); omega
  · rcases s.2 k hk with e | e
    · exact h.dj k e hm
    · have := h.nw.dk.lt k hm; omega
theorem Lp.on (h : Lp w0 wB vB p wr v d x X) (k : Kp [] wr w1) : Lp w0 wB vB p w1 v d x X :=
  ⟨h.nw.on k, h.st.trans (k.mono (by simp)), h.ch, h.row.kept k (by simp), h.dj⟩
end
theorem cat_small (l : List (Value × List Int)) (l0 : List (Value × List Int)) (k most : Nat) (h : l.map (·.2) = (l0.take k).map fun x => x.2.take most) : ∀ x ∈ l, x.2.length ≤ most := fun x hx => by
  have : x.2 ∈ l.map (·.2) := List.mem_map_of_mem hx
  rw [h] at this
  obtain ⟨y, _, hy⟩ := List.mem_map.1 this
  rw [← hy]; simp; omega
end Go.Proofs.YtillhpgdlmeajaaGreatDoor
