/-
  Helpers of the laws: Cut, Within; how an argument that is a row of bytes is read; what the laid table gives.
-/
import Derived.LaidMore
import Derived.Lib.SmallJoins
import Derived.Stop.Joined
import Derived.Test.YtfepkcjelecpkaaRows
import Derived.Test.YtfepkcjelecpkaaQC6
namespace Go.Proofs.Ytfepkcjelecpkaa
open Go.ChangeShapes Go.WideShapes Go.ChangeAt Go.RowKit
open Go.Deep
section
variable {H : Type} {enc : TypeId × Value → H} {w : World}
end
theorem own : ownKnob Try.prog.godebug = none := by kernel_rfl
end Go.Proofs.Ytfepkcjelecpkaa

/-
  Slices of ints, and rows of slices that a call owns.
-/
namespace Go.Proofs.Ytfepkcjelecpkaa
open Go.ChangeShapes Go.WideShapes Go.ChangeAt Go.RowKit
open Go.Deep
/-- v is a slice that reads as these ints. -/
def Ints (w : World) (v : Value) (l : List Int) : Prop :=
  ∃ ao c, v = .slice ao l.length c ∧ l.length ≤ maxLen ∧ (∀ x ∈ l, -9223372036854775808 ≤ x ∧ x ≤ 9223372036854775807) ∧ ∀ i (h : i < l.length), ∃ a, ao = some a ∧ w.cell? (a.add i) = some (.int .i64 l[i])
theorem Ints.kept {w w' : World} {v : Value} {l : List Int} (h : Ints w v l) (k : Kp [] w w') : Ints w' v l := by
  obtain ⟨ao, c, rfl, h1, h0, h2⟩ := h
  refine ⟨ao, c, rfl, h1, h0, fun i hi => ?_⟩
  obtain ⟨a, e, h3⟩ := h2 i hi
  exact ⟨a, e, k.cell h3 (by simp)⟩
section
variable {H : Type} {enc : TypeId × Value → H} {w : World}
end
/-- The row v of values of slices, of the call's own from base on. -/
def RowV (w : World) (base : Nat) (v : Value) (xs : List Value) : Prop := w.ownsRow base 28 1 v xs.length xs
theorem RowV.shape {w : World} {base : Nat} {v : Value} {xs : List Value} (h : RowV w base v xs) : ∃ ao c, v = .slice ao xs.length c := owns_shape h
theorem RowV.own {w : World} {base : Nat} {v : Value} {xs : List Value} (h : RowV w base v xs) : ∀ k, v.ownBlock = some k → base ≤ k := by
  intro k hk
  rcases h.2 with ⟨rfl, _⟩ | ⟨g, cap, cur, rfl, hb, _⟩
  · cases hk
  · cases hk; exact hb
theorem RowV.step {w w1 w2 : World} {v v' : Value} {xs : List Value} (h : RowV w1 w.heap.size v xs) (k : Kp [] w w1) (s : RStep w1 v w2 v') : Kp [] w w2 :=
  k.then s.1 (fun i hi => .inr (h.own i (by simpa using hi)))
theorem RowV.len {w : World} {base m c : Nat} {ao : Option Addr} {xs : List Value} (h : RowV w base (.slice ao m c) xs) : m = xs.length := by
  obtain ⟨_, _, e⟩ := h.shape; cases e; rfl
theorem RowV.kept {w w' : World} {base : Nat} {v : Value} {xs : List Value} {S : List Nat} (h : RowV w base v xs) (k : Kp S w w') (hv : ∀ i, v.ownBlock = some i → i ∉ S) : RowV w' base v xs := k.owns h hv
end Go.Proofs.Ytfepkcjelecpkaa

/-
  Lists of one and of two; rows of slices of a call's own, how they grow.
-/
namespace Go.Proofs.Ytfepkcjelecpkaa
open Go.RowKit
open Go.Proofs
theorem row_new {w w0 w' : World} {v : Value} {bs : List Int} (h : Row w' w0.heap.size v bs) (k : Kp [] w w0) : Row w' w.heap.size v bs :=
  owns_rebase h (fun i hi => Nat.le_trans k.size (Row.own h i hi))
theorem Row.lt {w : World} {base k : Nat} {v : Value} {bs : List Int} (h : Row w base v bs) (hk : v.ownBlock = some k) : k < w.heap.size := by
  rcases h.2 with ⟨rfl, _⟩ | ⟨g, cap, cur, rfl, hb, hg, _⟩
  · cases hk
  · cases hk; exact (Array.getElem?_eq_some_iff.1 hg).1
theorem RowV.lt {w : World} {base k : Nat} {v : Value} {xs : List Value} (h : RowV w base v xs) (hk : v.ownBlock = some k) : k < w.heap.size := by
  rcases h.2 with ⟨rfl, _⟩ | ⟨g, cap, cur, rfl, hb, hg, _⟩
  · cases hk
  · cases hk; exact (Array.getElem?_eq_some_iff.1 hg).1
/-- v is a row of slices, all of the call's own, each apart from it. -/
def Parts (w : World) (base : Nat) (v : Value) (l : List (Value × List Int)) : Prop :=
  RowV w base v (l.map (·.1)) ∧ ∀ x ∈ l, Row w base x.1 x.2 ∧ Bs x.2 ∧ ∀ k, x.1.ownBlock = some k → v.ownBlock ≠ some k
theorem Parts.kept {w w' : World} {base : Nat} {v : Value} {l : List (Value × List Int)} (h : Parts w base v l) (k : Kp [] w w') : Parts w' base v l :=
  ⟨h.1.kept k (by simp), fun x hx => ⟨(h.2 x hx).1.kept k (by simp), (h.2 x hx).2⟩⟩
theorem Parts.rebase {w w0 w' : World} {v : Value} {l : List (Value × List Int)} (h : Parts w' w0.heap.size v l) (k : Kp [] w w0) : Parts w' w.heap.size v l :=
  ⟨owns_rebase h.1 (fun i hi => Nat.le_trans k.size (h.1.own i hi)), fun x hx => ⟨row_new (h.2 x hx).1 k, (h.2 x hx).2⟩⟩
/-- what is gathered so far. -/
def Acc (w : World) (ls : List (List Int)) (v : Value) (wr : World) : Prop := ∃ l, Parts wr w.heap.size v l ∧ l.map (·.2) = ls ∧ Kp [] w wr
theorem Acc.mid {w wr w2 : World} {ls : List (List Int)} {v : Value} (h : Acc w ls v wr) (k : Kp [] wr w2) : Acc w ls v w2 := by
  obtain ⟨l, h1, h2, h3⟩ := h
  exact ⟨l, h1.kept k, h2, h3.trans k⟩
theorem Acc.kp {w wr : World} {ls : List (List Int)} {v : Value} (h : Acc w ls v wr) : Kp [] w wr := by obtain ⟨_, _, _, h3⟩ := h; exact h3
theorem Acc.cap {w wr : World} {ls : List (List Int)} {ao : Option Addr} {m c : Nat} (h : Acc w ls (.slice ao m c) wr) : m = ls.length := by
  obtain ⟨l, h1, h2, _⟩ := h
  have := h1.1.len
  rw [this, ← h2]; simp
theorem Acc.after {w w0 wr : World} {ls : List (List Int)} {v : Value} (h : Acc w0 ls v wr) (k : Kp [] w w0) : Acc w ls v wr := by
  obtain ⟨l, h1, h2, h3⟩ := h
  exact ⟨l, h1.rebase k, h2, k.trans h3⟩
theorem Sl.apart {w w' : World} {v : Value} {bs : List Int} {S : List Nat} (h : Sl w v bs) (k : Kp S w w') (hv : ∀ i, v.ownBlock = some i → i ∈ S → bs = []) : Sl w' v bs := by
  by_cases hb : bs = []
  · subst hb
    obtain ⟨ao, c, rfl, h1, h2, h3, _⟩ := h
    exact ⟨ao, c, rfl, h1, h2, h3, fun a _ j u hu => by simp at hu⟩
  · exact h.kept k (fun i hi hm => hb (hv i hi hm))
/-- v is a row of the call's own of slices that read so; none that holds something lies in it. -/
def RowS (w : World) (base : Nat) (v : Value) (l : List (Value × List Int)) : Prop :=
  RowV w base v (l.map (·.1)) ∧ ∀ x ∈ l, Sl w x.1 x.2 ∧ Bs x.2 ∧ ∀ k, x.1.ownBlock = some k → v.ownBlock = some k → x.2 = []
theorem RowS.kept {w w' : World} {base : Nat} {v : Value} {l : List (Value × List Int)} (h : RowS w base v l) (k : Kp [] w w') : RowS w' base v l :=
  ⟨h.1.kept k (by simp), fun x hx => ⟨(h.2 x hx).1.kept k (by simp), (h.2 x hx).2⟩⟩
end Go.Proofs.Ytfepkcjelecpkaa
