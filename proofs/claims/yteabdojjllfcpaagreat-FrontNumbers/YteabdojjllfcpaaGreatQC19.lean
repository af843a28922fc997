/-
  The contract of the reference's Get of a signed checkpoint.
-/
import Derived.Test.YteabdojjllfcpaaGreatQC8
import Derived.Test.YteabdojjllfcpaaGreatQC18
namespace Go.Proofs.YteabdojjllfcpaaGreat
open Go.RowKit
open Go.Proofs
section
variable {w w' : World} {g : Nat} {x y : Int} {a1 a2 a3 : Option Addr} {n1 c1 n2 c2 n3 c3 : Nat} {t : TypeId} {fr : Nat × Nat}
end
/-- While a signed checkpoint is read: the reader at q, the result's place at g0. -/
structure GrS (w : World) (g0 q : Nat) (v : Value) (B : List Int) (s : Bool × List Int) (wr : World) : Prop where
  rr : ∃ j bad, RR wr q v j bad B ∧ s = (bad, rest j bad B)
  res : wr.heap[g0]? = some (.cells #[.int .i64 0, .slice none 0 0, .int .i64 0, .slice none 0 0, .slice none 0 0] 150 (0, 0))
  kp : Kp [q] w wr
  o1 : w.heap.size = g0
  o2 : q < g0
  o3 : ∀ k, v.ownBlock = some k → k < g0
section
variable {w w1 w' : World} {g0 q : Nat} {v : Value} {B : List Int} {s s' : Bool × List Int}
theorem GrS.call (h : GrS w g0 q v B s w1) (L : RLeft w1 q v B s' w') : GrS w g0 q v B s' w' := by
  obtain ⟨j, bad, R, e, K⟩ := L
  have := h.o2
  exact ⟨⟨j, bad, R, e⟩, K.heap h.res (by simp; omega), h.kp.trans K, h.o1, h.o2, h.o3⟩
theorem GrS.kept (h : GrS w g0 q v B s w1) (K : Kp [] w1 w') : GrS w g0 q v B s w' := by
  obtain ⟨j, bad, R, e⟩ := h.rr
  exact ⟨⟨j, bad, R.kept K (by simp) (by simp), e⟩, K.heap h.res (by simp), h.kp.trans (K.mono (by simp)), h.o1, h.o2, h.o3⟩
theorem GrS.left (h : GrS w g0 q v B s w1) (K : Kp [g0] w1 w') : RLeft w q v B s w' := by
  have := h.o2
  have h1 := h.o1
  obtain ⟨j, bad, R, e⟩ := h.rr
  exact ⟨j, bad, R.kept K (by simp; omega) (fun i hi => by have := h.o3 i hi; simp; omega), e, h.kp.then K (fun i hi => .inr (by simp at hi; omega))⟩
end
end Go.Proofs.YteabdojjllfcpaaGreat
