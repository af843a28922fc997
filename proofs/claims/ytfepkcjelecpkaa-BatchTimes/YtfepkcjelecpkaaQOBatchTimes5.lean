/-
  The contracts of package wire's copies and of its reader over this seat's program: copyOf, Done, Read, take, spoil, number, Num, End, Bad.
-/
import Derived.Test.YtfepkcjelecpkaaQOBatchTimes4
import Derived.Test.YtfepkcjelecpkaaQOBatchTimes3
import Derived.Test.YtfepkcjelecpkaaQOBatchTimes2
import Derived.Test.YtfepkcjelecpkaaQC8
namespace Go.Proofs.Ytfepkcjelecpkaa
open Go.RowKit
theorem Bs.append {bs cs : List Int} (h : Bs bs) (k : Bs cs) : Bs (bs ++ cs) := fun b hb => by
  rcases List.mem_append.1 hb with h1 | h1
  · exact h b h1
  · exact k b h1
end Go.Proofs.Ytfepkcjelecpkaa

/-
  The contracts of the reference reader over this seat's program: Raw, Number, Bytes, End, Left, by the same plain function of what is left as the program's own reader.
-/
namespace Go.Proofs.Ytfepkcjelecpkaa
open Go.RowKit
/-- what is left of it. -/
def rest (i : Nat) (bad : Bool) (B : List Int) : List Int := if bad then [] else B.drop i
end Go.Proofs.Ytfepkcjelecpkaa

/-
  Records in memory: rows of slices of a call's own that stay while an older block is written; a journal's block.
-/
namespace Go.Proofs.Ytfepkcjelecpkaa
open Go.RowKit
open Go.Proofs
section
variable {w0 w w' : World} {p j n : Nat} {v v' : Value} {d d' : Dk}
end
/-- what a step of a journal may write. -/
def JSt (p j : Nat) (w : World) (v : Value) (w' : World) (v' : Value) : Prop := Kp (j :: dfp p v) w w' ∧ ∀ k, v'.ownBlock = some k → v.ownBlock = some k ∨ w.heap.size ≤ k
theorem JSt.refl (p j : Nat) (w : World) (v : Value) : JSt p j w v w v := ⟨Kp.refl _ _, fun _ h => .inl h⟩
theorem JSt.trans {p j : Nat} {a b c : World} {u v x : Value} (h : JSt p j a u b v) (k : JSt p j b v c x) : JSt p j a u c x := by
  refine ⟨h.1.then k.1 (fun i hi => ?_), fun i hi => ?_⟩
  · rcases List.mem_cons.1 hi with rfl | hi
    · exact .inl (by simp)
    · rcases mem_dfp.1 hi with rfl | hi
      · exact .inl (by simp [dfp])
      · rcases h.2 i hi with h1 | h1
        · exact .inl (by simp [mem_dfp, h1])
        · exact .inr h1
  · rcases k.2 i hi with h1 | h1
    · exact h.2 i h1
    · exact .inr (Nat.le_trans h.1.size h1)
theorem JSt.mid {p j : Nat} {a b : World} (v : Value) (k : Kp [] a b) : JSt p j a v b v := ⟨k.mono (by simp), fun _ h => .inl h⟩
end Go.Proofs.Ytfepkcjelecpkaa

/-
  The contracts of package journal: Open, Put, Sync, Add, Count.
-/
namespace Go.Proofs.Ytfepkcjelecpkaa
open Go.RowKit
open Go.Proofs
/-- records beside a journal and its disk. -/
structure Pj (w : World) (base : Nat) (o : Value) (l : List (Value × List Int)) (p j : Nat) (v : Value) : Prop where
  parts : Parts w base o l
  off : ∀ i ∈ j :: dfp p v, o.ownBlock ≠ some i ∧ ∀ x ∈ l, x.1.ownBlock ≠ some i
theorem Parts.off {w w' : World} {base : Nat} {o : Value} {l : List (Value × List Int)} {S : List Nat} (h : Parts w base o l) (k : Kp S w w') (hS : ∀ i ∈ S, o.ownBlock ≠ some i ∧ ∀ x ∈ l, x.1.ownBlock ≠ some i) : Parts w' base o l :=
  ⟨h.1.kept k (fun i hi hm => (hS i hm).1 hi), fun x hx => ⟨(h.2 x hx).1.kept k (fun i hi hm => (hS i hm).2 x hx hi), (h.2 x hx).2⟩⟩
theorem Parts.ltO {w : World} {base : Nat} {o : Value} {l : List (Value × List Int)} (h : Parts w base o l) (i : Nat) (hi : w.heap.size ≤ i) : o.ownBlock ≠ some i ∧ ∀ x ∈ l, x.1.ownBlock ≠ some i :=
  ⟨fun e => by have := h.1.lt e; omega, fun x hx e => by have := (h.2 x hx).1.lt e; omega⟩
theorem Pj.step {w w' : World} {base : Nat} {o : Value} {l : List (Value × List Int)} {p j : Nat} {v v' : Value} (h : Pj w base o l p j v) (t : JSt p j w v w' v') : Pj w' base o l p j v' := by
  refine ⟨h.parts.off t.1 h.off, fun i hi => ?_⟩
  rcases List.mem_cons.1 hi with rfl | hi
  · exact h.off _ (by simp)
  · rcases mem_dfp.1 hi with rfl | hi
    · exact h.off _ (by simp [dfp])
    · rcases t.2 i hi with h1 | h1
      · exact h.off i (by simp [mem_dfp, h1])
      · exact h.parts.ltO i h1
namespace Dk
end Dk
end Go.Proofs.Ytfepkcjelecpkaa

/-
  The contracts of package journal: Put, Sync, Add, Count.
-/
namespace Go.Proofs.Ytfepkcjelecpkaa
open Go.ChangeShapes Go.WideShapes Go.ChangeAt Go.RowKit
open Go.Proofs
open Go.Deep
set_option linter.unusedVariables false
/-- Add: Put, and then Sync: the first refusal. -/
def Dk.add (d : Dk) (b : List Int) : Bool × Dk := if (d.app b).1 then (d.app b).2.sync else (false, (d.app b).2)
end Go.Proofs.Ytfepkcjelecpkaa

/-
  A place of a row of the call's own: read, written.
-/
namespace Go.Proofs.Ytfepkcjelecpkaa
open Go.RowKit
theorem Bs.set {bs : List Int} (h : Bs bs) (i : Nat) (x : Int) (h0 : 0 ≤ x) (h1 : x ≤ 255) : Bs (bs.set i x) := fun b hb => by
  rcases List.mem_or_eq_of_mem_set hb with h2 | rfl
  · exact h b h2
  · exact ⟨h0, h1⟩
theorem Row.spot {w : World} {base n c : Nat} {ao : Option Addr} {bs : List Int} (h : Row w base (.slice ao n c) bs) (h0 : 0 < n) :
    ∃ g, ao = some ⟨g, 0, none⟩ ∧ base ≤ g ∧ g < w.heap.size ∧ (∀ k (hk : k < bs.length), w.cell? ⟨g, k, none⟩ = some (.int .u8 bs[k])) ∧ (∀ k, w.frozen? ⟨g, k, none⟩ = false) ∧ ∀ k x, Row (w.setCell ⟨g, k, none⟩ (.int .u8 x)) base (.slice ao n c) (bs.set k x) := by
  have hn := h.len
  subst hn
  rcases h.2 with ⟨h', h1⟩ | ⟨g, cap, cur, h', hb, hg, _⟩
  · injection h'; omega
  · have e : ao = some ⟨g, 0, none⟩ := by injection h'
    subst e
    have h1 : w.ownsRow base 5 1 (.slice (some ⟨g, 0, none⟩) bs.length c) bs.length (bs.map (Value.int .u8)) := h
    refine ⟨g, rfl, hb, (Array.getElem?_eq_some_iff.1 hg).1, fun k hk => ?_, fun k => h1.frozenAt k, fun k x => ?_⟩
    · rw [h1.cellAt k (by omega)]; simp [List.getElem?_eq_getElem hk]
    · have := (h1.stored k (.int .u8 x)).1
      unfold Row
      rw [List.length_set, List.map_set]
      exact this
end Go.Proofs.Ytfepkcjelecpkaa
