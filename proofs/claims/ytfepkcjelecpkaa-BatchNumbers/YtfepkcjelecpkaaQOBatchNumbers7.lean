/-
  A disk in memory: its block of five cells, its row of bytes; what a step of it may change. Both the program's and the reference's lie so.
-/
import Derived.Test.YtfepkcjelecpkaaQC8
import Derived.Test.YtfepkcjelecpkaaQOBatchNumbers6
import Derived.Test.YtfepkcjelecpkaaQOBatchNumbers4
namespace Go.Proofs.Ytfepkcjelecpkaa
open Go.RowKit
open Go.Proofs
section
variable {T : TypeId} {w w' : World} {p : Nat} {a b c d e : Value}
theorem Fv.c2 (h : Fv T w p a b c d e) : w.cell? ⟨p, 2, none⟩ = some c := by rw [cell_of_row w p 2 _ _ _ h]; rfl
theorem Fv.c4 (h : Fv T w p a b c d e) : w.cell? ⟨p, 4, none⟩ = some e := by rw [cell_of_row w p 4 _ _ _ h]; rfl
end
theorem DSt.one {p : Nat} {a b : World} (v : Value) (k : Kp [p] a b) : DSt p a v b v := ⟨k.mono (fun i hi => mem_dfp.2 (.inl (by simpa using hi))), fun _ h => .inl h⟩
section
variable {T : TypeId} {w w' : World} {base p : Nat} {v : Value} {d d' : Dk}
end
namespace Dk
end Dk
end Go.Proofs.Ytfepkcjelecpkaa

/-
  Rows of slices that lie anywhere: how they are gathered.
-/
namespace Go.Proofs.Ytfepkcjelecpkaa
open Go.RowKit
open Go.Proofs
/-- one more slice, wherever it lies but in the row itself. -/
theorem RowS.snocR {w1 w2 : World} {base : Nat} {v v' : Value} {l : List (Value × List Int)} {x : Value × List Int} (h : RowS w1 base v l) (hx : Sl w1 x.1 x.2) (hB : Bs x.2) (ha : ∀ k, x.1.ownBlock = some k → v.ownBlock = some k → x.2 = [])
    (r : RowV w2 base v' (l.map (·.1) ++ [x.1])) (s : RStep w1 v w2 v') : RowS w2 base v' (l ++ [x]) := by
  have one : ∀ y : Value × List Int, Sl w1 y.1 y.2 → (∀ k, y.1.ownBlock = some k → v.ownBlock = some k → y.2 = []) → Sl w2 y.1 y.2 ∧ ∀ k, y.1.ownBlock = some k → v'.ownBlock = some k → y.2 = [] := by
    intro y hy hay
    refine ⟨hy.apart s.1 (fun i hi hm => hay i hi (by simpa [Option.mem_toList] using hm)), fun k hk hv => ?_⟩
    rcases s.2 k hv with h1 | h1
    · exact hay k hk h1
    · by_cases hb : y.2 = []
      · exact hb
      · obtain ⟨ao', c', e, h1', _, h3, h4⟩ := hy
        cases ao' with
        | none => exact List.eq_nil_of_length_eq_zero (by have := h3 rfl; omega)
        | some a =>
          have hpos : 0 < y.2.length := List.length_pos_iff.2 hb
          have hc := h4 a rfl 0 (.int .u8 y.2[0]) (by simp [List.getElem?_eq_getElem hpos])
          have hlt := World.block_lt_of_cell? _ _ hc
          rw [add_block] at hlt
          rw [e] at hk
          have : a.block = k := by simpa [Value.ownBlock] using hk
          omega
  refine ⟨by rw [List.map_append]; exact r, fun y hy => ?_⟩
  rcases List.mem_append.1 hy with hy | hy
  · obtain ⟨h1, h2, h3⟩ := h.2 y hy
    exact ⟨(one y h1 h3).1, h2, (one y h1 h3).2⟩
  · obtain rfl : y = x := by simpa using hy
    exact ⟨(one y hx ha).1, hB, (one y hx ha).2⟩
end Go.Proofs.Ytfepkcjelecpkaa

/-
  The contracts of package disk: Bytes, keep, Append, Sync, Cut, Crash.
-/
namespace Go.Proofs.Ytfepkcjelecpkaa
open Go.RowKit
open Go.Proofs
/-- more bytes behind. -/
theorem Dsk.more {T : TypeId} {w w1 : World} {base p : Nat} {v v' : Value} {d : Dk} {b : List Int} (h : Dsk T w base p v d) (r : Row w1 base v' (d.bs ++ b)) (s : RStep w v w1 v') (hf : Dk.Fit { d with bs := d.bs ++ b }) :
    Dsk T (w1.setCell ⟨p, 0, none⟩ v') base p v' { d with bs := d.bs ++ b } ∧ DSt p w v (w1.setCell ⟨p, 0, none⟩ v') v' ∧ w1.cell? ⟨p, 0, none⟩ = some v ∧ w1.frozen? ⟨p, 0, none⟩ = false := by
  have h1 : Fv T w1 p v (.int .i64 d.syn) (.int .i64 d.lim) (.int .i64 d.arm) (.bool d.down) := h.here.kept s.1 (by simpa [Option.mem_toList] using h.apart)
  have ne := apart_of h1 r h.typ
  refine ⟨⟨h1.s0 _, r.kept (kp_set w1 p 0 v') (fun i hi hm => ne (by simp at hm; rw [← hm]; exact hi)), hf, h.typ⟩, ⟨?_, s.2⟩, h1.c0, h1.f 0⟩
  exact (s.1.mono (fun i hi => mem_dfp.2 (.inr (by simpa [Option.mem_toList] using hi)))).then (kp_set w1 p 0 v') (fun i hi => .inl (mem_dfp.2 (.inl (by simpa using hi))))
end Go.Proofs.Ytfepkcjelecpkaa

/-
  A new disk and its steps, as the law package takes them; Cut of the law package by its value; known.
-/
namespace Go.Proofs.Ytfepkcjelecpkaa
open Go.RowKit
open Go.Proofs
theorem sl_nlen {w : World} {a : Option Addr} {l c : Nat} {bs : List Int} (h : Sl w (.slice a l c) bs) : l = bs.length := by
  obtain ⟨ao, c', e, _⟩ := h
  injection e with e1 e2 e3
theorem cutv_any (a : Option Addr) (l c : Nat) (n : Nat) (bs : List Int) (w : World) (h : Sl w (.slice a l c) bs) :
    Calls Try.prog 17 #[.slice a l c, .int .i64 n] w fun e w' => e = .returned (.slice a (min l n) c) ∧ w' = w := by
  have hl := sl_nlen h
  obtain ⟨ao, c', e, h1, h2, h3, h4⟩ := h
  injection e with e1 e2 e3
  subst e1
  subst e3
  unfold maxLen at h2
  clear h4 h3 e2
  by_cases hn : n < l
  · have hlt : (n : Int) < (l : Int) := by omega
    have hc : (n : Int) ≤ (c : Int) := by omega
    rw [show min l n = n from by omega]
    clear hl h1 h2
    go_enter Try.func17, Try.ntmps17
    go_wp2_with fail
    go_ret
    exact ⟨rfl, rfl⟩
  · have hlt : ¬ (n : Int) < (l : Int) := by omega
    rw [show min l n = l from by omega]
    clear hl h1 h2
    go_enter Try.func17, Try.ntmps17
    go_wp2_with fail
    go_ret
    exact ⟨rfl, rfl⟩
theorem cutv_sl {w : World} {a : Option Addr} {l c : Nat} {bs : List Int} (n : Nat) (h : Sl w (.slice a l c) bs) : Sl w (.slice a (min l n) c) (bs.take n) := by
  have hl := sl_nlen h
  by_cases hn : n ≤ bs.length
  · rw [show min l n = n from by omega]; exact h.take n hn
  · rw [show min l n = l from by omega, List.take_of_length_le (by omega)]; exact h
theorem Bs.takes {bs : List Int} (h : Bs bs) (n : Nat) : Bs (bs.take n) := fun b hb => h b (List.mem_of_mem_take hb)
namespace Dk
end Dk
section
variable {w0 w w' : World} {p : Nat} {v v' : Value} {d d' : Dk}
end
end Go.Proofs.Ytfepkcjelecpkaa
