/-
  Lists of slices as arguments; the contracts of the law package's helpers Few and Sized over this seat's program.
-/
import Derived.Test.YtfepkcjelecpkaaQC8
import Derived.Test.YtfepkcjelecpkaaQOBatchOrders6
import Derived.Test.YtfepkcjelecpkaaQOBatchOrders5
import Derived.Test.YtfepkcjelecpkaaQOBatchOrders3
namespace Go.Proofs.Ytfepkcjelecpkaa
open Go.ChangeShapes Go.WideShapes Go.ChangeAt Go.RowKit
open Go.Deep
section
variable {H : Type} {enc : TypeId × Value → H} {w : World}
end
/-- the row of texts that Few has made so far. -/
def FewAt (w wr : World) (l : List (Value × List Int)) (most k : Nat) (o : Value) : Prop :=
  ∃ l' : List (Value × List Int), l'.length = k ∧ wr.ownsRow w.heap.size 28 1 o k (l'.map (·.1)) ∧ Kp [] w wr ∧ (∀ x ∈ l', Sl w x.1 x.2) ∧ l'.map (·.2) = (l.take k).map fun x => x.2.take most
theorem FewAt.lists {w wr : World} {l : List (Value × List Int)} {most k : Nat} {o : Value} (h : FewAt w wr l most k o) (hB : ∀ x ∈ l, Bs x.2) (hk : k ≤ 1000) : ∃ l', Lists wr o l' ∧ l'.map (·.2) = (l.take k).map fun x => x.2.take most := by
  obtain ⟨l', rfl, ho, hK, hS, he⟩ := h
  refine ⟨l', ?_, he⟩
  have hBs : ∀ x ∈ l', Bs x.2 := fun x hx => by
    have : x.2 ∈ l'.map (·.2) := List.mem_map_of_mem hx
    rw [he] at this
    obtain ⟨y, hy, hy2⟩ := List.mem_map.1 this
    rw [← hy2]
    exact (hB y (List.mem_of_mem_take hy)).take _
  rcases ho.2 with ⟨rfl, h0⟩ | ⟨g, cap, cur, rfl, _, hg, _⟩
  · exact ⟨none, 0, by rw [h0], by omega, fun i hi => by omega⟩
  · refine ⟨some ⟨g, 0, none⟩, cap, rfl, by omega, fun i hi => ⟨g, 0, rfl, ?_, (hS _ (List.getElem_mem hi)).kept hK (by simp), hBs _ (List.getElem_mem hi)⟩⟩
    have := ho.cells (g := g) rfl i l'[i].1 (by simp [List.getElem?_eq_getElem hi])
    rwa [Addr.add_lit] at this
end Go.Proofs.Ytfepkcjelecpkaa

/-
  A disk in memory: its block of five cells, its row of bytes; what a step of it may change. Both the program's and the reference's lie so.
-/
namespace Go.Proofs.Ytfepkcjelecpkaa
open Go.RowKit
open Go.Proofs
section
variable {T : TypeId} {w w' : World} {p : Nat} {a b c d e : Value}
theorem Fv.c2 (h : Fv T w p a b c d e) : w.cell? ⟨p, 2, none⟩ = some c := by rw [cell_of_row w p 2 _ _ _ h]; rfl
theorem Fv.c4 (h : Fv T w p a b c d e) : w.cell? ⟨p, 4, none⟩ = some e := by rw [cell_of_row w p 4 _ _ _ h]; rfl
end
theorem DSt.one {p : Nat} {a b : World} (v : Value) (k : Kp [p] a b) : DSt p a v b v := ⟨k.mono (fun i hi => mem_dfp.2 (.inl (by simpa using hi))), fun _ h => .inl h⟩
section
variable {T : TypeId} {w w' : World} {base p : Nat} {v : Value} {d d' : Dk}
theorem Dsk.sl (h : Dsk T w base p v d) : Sl w v d.bs := h.row.sl
end
namespace Dk
end Dk
end Go.Proofs.Ytfepkcjelecpkaa

/-
  Rows of slices that lie anywhere: how they are gathered.
-/
namespace Go.Proofs.Ytfepkcjelecpkaa
open Go.RowKit
open Go.Proofs
/-- one more slice, wherever it lies but in the row itself. -/
theorem RowS.snocR {w1 w2 : World} {base : Nat} {v v' : Value} {l : List (Value × List Int)} {x : Value × List Int} (h : RowS w1 base v l) (hx : Sl w1 x.1 x.2) (hB : Bs x.2) (ha : ∀ k, x.1.ownBlock = some k → v.ownBlock = some k → x.2 = [])
    (r : RowV w2 base v' (l.map (·.1) ++ [x.1])) (s : RStep w1 v w2 v') : RowS w2 base v' (l ++ [x]) := by
  have one : ∀ y : Value × List Int, Sl w1 y.1 y.2 → (∀ k, y.1.ownBlock = some k → v.ownBlock = some k → y.2 = []) → Sl w2 y.1 y.2 ∧ ∀ k, y.1.ownBlock = some k → v'.ownBlock = some k → y.2 = [] := by
    intro y hy hay
    refine ⟨hy.apart s.1 (fun i hi hm => hay i hi (by simpa [Option.mem_toList] using hm)), fun k hk hv => ?_⟩
    rcases s.2 k hv with h1 | h1
    · exact hay k hk h1
    · by_cases hb : y.2 = []
      · exact hb
      · obtain ⟨ao', c', e, h1', _, h3, h4⟩ := hy
        cases ao' with
        | none => exact List.eq_nil_of_length_eq_zero (by have := h3 rfl; omega)
        | some a =>
          have hpos : 0 < y.2.length := List.length_pos_iff.2 hb
          have hc := h4 a rfl 0 (.int .u8 y.2[0]) (by simp [List.getElem?_eq_getElem hpos])
          have hlt := World.block_lt_of_cell? _ _ hc
          rw [add_block] at hlt
          rw [e] at hk
          have : a.block = k := by simpa [Value.ownBlock] using hk
          omega
  refine ⟨by rw [List.map_append]; exact r, fun y hy => ?_⟩
  rcases List.mem_append.1 hy with hy | hy
  · obtain ⟨h1, h2, h3⟩ := h.2 y hy
    exact ⟨(one y h1 h3).1, h2, (one y h1 h3).2⟩
  · obtain rfl : y = x := by simpa using hy
    exact ⟨(one y hx ha).1, hB, (one y hx ha).2⟩
end Go.Proofs.Ytfepkcjelecpkaa
