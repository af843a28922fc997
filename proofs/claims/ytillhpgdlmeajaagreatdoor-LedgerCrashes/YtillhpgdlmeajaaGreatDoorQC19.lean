/-
  The contract of the law package's signed: a checkpoint that is signed, as it is drawn.
-/
import Derived.Test.YtillhpgdlmeajaaGreatDoorQC9
import Derived.Test.YtillhpgdlmeajaaGreatDoorQC18
namespace Go.Proofs.YtillhpgdlmeajaaGreatDoor
open Go.RowKit
open Go.Proofs
theorem noBy_sgd {w : World} {g : Nat} {n i : Int} {a1 a2 a3 : Option Addr} {n1 c1 n2 c2 n3 c3 : Nat} {t : TypeId} {fr : Nat × Nat} (hg : w.heap[g]? = some (.cells #[.int .i64 n, .slice a1 n1 c1, .int .i64 i, .slice a2 n2 c2, .slice a3 n3 c3] t fr)) : NoBy w [g] := by
  intro x hx
  obtain rfl : x = g := by simpa using hx
  refine ⟨_, _, _, hg, fun x hx y => ?_⟩
  rcases (by simpa using hx : x = .int .i64 n ∨ x = .slice a1 n1 c1 ∨ x = .int .i64 i ∨ x = .slice a2 n2 c2 ∨ x = .slice a3 n3 c3) with rfl | rfl | rfl | rfl | rfl <;> simp
end Go.Proofs.YtillhpgdlmeajaaGreatDoor

/-
  The contract of the reference's Get of a signed checkpoint.
-/
namespace Go.Proofs.YtillhpgdlmeajaaGreatDoor
open Go.RowKit
open Go.Proofs
section
variable {w w' : World} {g : Nat} {x y : Int} {a1 a2 a3 : Option Addr} {n1 c1 n2 c2 n3 c3 : Nat} {t : TypeId} {fr : Nat × Nat}
/-- a list of three slices or more does not lie in a signed checkpoint's block. -/
theorem lists_off5 (hg : w.heap[g]? = some (.cells #[.int .i64 x, .slice a1 n1 c1, .int .i64 y, .slice a2 n2 c2, .slice a3 n3 c3] t fr)) (k : Kp [g] w w') {v : Value} {l : List (Value × List Int)} (h : Lists w v l) (hl : 3 ≤ l.length) : Lists w' v l := by
  obtain ⟨ao, c, rfl, h1, h2⟩ := h
  refine ⟨ao, c, rfl, h1, fun i hi => ?_⟩
  obtain ⟨b, off, e, h3, h4, h5⟩ := h2 i hi
  refine ⟨b, off, e, ?_, ?_, h5⟩
  · by_cases hb : b = g
    · exfalso
      subst hb
      subst e
      have at' : ∀ j (hj : j < l.length), ∃ p q r, (#[Value.int .i64 x, .slice a1 n1 c1, .int .i64 y, .slice a2 n2 c2, .slice a3 n3 c3])[off + j]? = some (.slice p q r) := fun j hj => by
        obtain ⟨b', off', e', h3', h4', _⟩ := h2 j hj
        injection e' with e'
        injection e' with e1 e2
        subst e1
        subst e2
        obtain ⟨p, r, es, _⟩ := h4'
        rw [cell_of_row w b (off + j) _ _ _ hg, es] at h3'
        exact ⟨p, _, r, h3'⟩
      obtain ⟨p0, q0, r0, e0⟩ := at' 0 (by omega)
      obtain ⟨p1, q1, r1, e1⟩ := at' 1 (by omega)
      obtain ⟨p2, q2, r2, e2⟩ := at' 2 (by omega)
      have : off = 0 ∨ off = 1 ∨ off = 2 ∨ 3 ≤ off := by omega
      rcases this with rfl | rfl | rfl | h
      · simp at e0
      · simp at e1
      · simp at e0
      · rw [Array.getElem?_eq_none (by simp; omega)] at e2
        cases e2
    · exact k.cell h3 (by simpa using hb)
  · obtain ⟨p, q, es, _⟩ := id h4
    rw [es] at h4 ⊢
    exact Sl.offBy h4 (noBy_sgd hg) k
theorem sig_off5 (hg : w.heap[g]? = some (.cells #[.int .i64 x, .slice a1 n1 c1, .int .i64 y, .slice a2 n2 c2, .slice a3 n3 c3] t fr)) (k : Kp [g] w w') {v : Value} {i : Int} {ps qs : List (List Int)} (h : SigV w v i ps qs) (hp : 3 ≤ ps.length) (hq : 3 ≤ qs.length) : SigV w' v i ps qs := by
  obtain ⟨vp, vq, lp, lq, e, h1, h2, h3, h4⟩ := h
  exact ⟨vp, vq, lp, lq, e, lists_off5 hg k h1 (by rw [← List.length_map (f := (·.2)), h2]; exact hp), h2, lists_off5 hg k h3 (by rw [← List.length_map (f := (·.2)), h4]; exact hq), h4⟩
end
/-- While a signed checkpoint is read: the reader at q, the result's place at g0. -/
structure GrS (w : World) (g0 q : Nat) (v : Value) (B : List Int) (s : Bool × List Int) (wr : World) : Prop where
  rr : ∃ j bad, RR wr q v j bad B ∧ s = (bad, rest j bad B)
  res : wr.heap[g0]? = some (.cells #[.int .i64 0, .slice none 0 0, .int .i64 0, .slice none 0 0, .slice none 0 0] 72 (0, 0))
  kp : Kp [q] w wr
  o1 : w.heap.size = g0
  o2 : q < g0
  o3 : ∀ k, v.ownBlock = some k → k < g0
section
variable {w w1 w' : World} {g0 q : Nat} {v : Value} {B : List Int} {s s' : Bool × List Int}
theorem GrS.call (h : GrS w g0 q v B s w1) (L : RLeft w1 q v B s' w') : GrS w g0 q v B s' w' := by
  obtain ⟨j, bad, R, e, K⟩ := L
  have := h.o2
  exact ⟨⟨j, bad, R, e⟩, K.heap h.res (by simp; omega), h.kp.trans K, h.o1, h.o2, h.o3⟩
theorem GrS.kept (h : GrS w g0 q v B s w1) (K : Kp [] w1 w') : GrS w g0 q v B s w' := by
  obtain ⟨j, bad, R, e⟩ := h.rr
  exact ⟨⟨j, bad, R.kept K (by simp) (by simp), e⟩, K.heap h.res (by simp), h.kp.trans (K.mono (by simp)), h.o1, h.o2, h.o3⟩
theorem GrS.left (h : GrS w g0 q v B s w1) (K : Kp [g0] w1 w') : RLeft w q v B s w' := by
  have := h.o2
  have h1 := h.o1
  obtain ⟨j, bad, R, e⟩ := h.rr
  exact ⟨j, bad, R.kept K (by simp; omega) (fun i hi => by have := h.o3 i hi; simp; omega), e, h.kp.then K (fun i hi => .inr (by simp at hi; omega))⟩
end
end Go.Proofs.YtillhpgdlmeajaaGreatDoor

/-
  The contracts of package check's Encode and Decode.
-/
namespace Go.Proofs.YtillhpgdlmeajaaGreatDoor
open Go.RowKit
open Go.Proofs
theorem sg_off5 {w w' : World} {g : Nat} {x y : Int} {a1 a2 a3 : Option Addr} {n1 c1 n2 c2 n3 c3 : Nat} {t : TypeId} {fr : Nat × Nat} (hg : w.heap[g]? = some (.cells #[.int .i64 x, .slice a1 n1 c1, .int .i64 y, .slice a2 n2 c2, .slice a3 n3 c3] t fr)) (k : Kp [g] w w') {v : Value} {s : Sg} (h : SgV w v s) (hp : 3 ≤ s.ps.length) (hq : 3 ≤ s.qs.length) : SgV w' v s := by
  obtain ⟨a, m, c, vp, vq, e, h1, h2⟩ := h
  exact ⟨a, m, c, vp, vq, e, ⟨Sl.offBy h1.1 (noBy_sgd hg) k, h1.2⟩, sig_off5 hg k h2 hp hq⟩
end Go.Proofs.YtillhpgdlmeajaaGreatDoor
