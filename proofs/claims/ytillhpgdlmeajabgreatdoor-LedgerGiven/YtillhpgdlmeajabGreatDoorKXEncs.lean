/-
  What is left of a reader: package wire's Left, and the reference's.
-/
import Derived.Test.YtillhpgdlmeajabGreatDoorKSRefReader
import Derived.Test.YtillhpgdlmeajabGreatDoorKSWire
import Derived.Test.YtillhpgdlmeajabGreatDoorKXLaws
import Derived.Test.YtillhpgdlmeajabGreatDoorKSRefD
import Derived.Test.YtillhpgdlmeajabGreatDoorKMRd
import Derived.Test.YtillhpgdlmeajabGreatDoorKXProg
import Derived.Test.YtillhpgdlmeajabGreatDoorKMWire
namespace Go.Proofs.YtillhpgdlmeajabGreatDoor
open Go.RowKit
open Go.Proofs

theorem left_any (q : Nat) (v : Value) (bad : Bool) (bs : List Int) (w : World) (h : Rd w q v bad bs) :
    Calls Tryz.prog 73 #[.pointer (some ⟨q, 0, none⟩)] w fun e w' => e = .returned (.int .i64 bs.length) ∧ w' = w := by
  obtain ⟨ao, c, rfl, h1, h2, h3, h4⟩ := h.2.1
  have hc0 := (cell_of_two h.1).1
  clear h4 h3 h
  go_enter Tryz.func73, Tryz.ntmps73
  go_wp2
  go_ret
  exact ⟨rfl, rfl⟩
end Go.Proofs.YtillhpgdlmeajabGreatDoor

/-
  The contract of the reference's Get of a signed checkpoint.
-/
namespace Go.Proofs.YtillhpgdlmeajabGreatDoor
open Go.RowKit
open Go.Proofs

section
variable {w w' : World} {g : Nat} {x y : Int} {a1 a2 a3 : Option Addr} {n1 c1 n2 c2 n3 c3 : Nat} {t : TypeId} {fr : Nat × Nat}
/-- a list of three slices or more does not lie in a signed checkpoint's block. -/
theorem lists_off5 (hg : w.heap[g]? = some (.cells #[.int .i64 x, .slice a1 n1 c1, .int .i64 y, .slice a2 n2 c2, .slice a3 n3 c3] t fr)) (k : Kp [g] w w') {v : Value} {l : List (Value × List Int)} (h : Lists w v l) (hl : 3 ≤ l.length) : Lists w' v l := by
  obtain ⟨ao, c, rfl, h1, h2⟩ := h
  refine ⟨ao, c, rfl, h1, fun i hi => ?_⟩
  obtain ⟨b, off, e, h3, h4, h5⟩ := h2 i hi
  refine ⟨b, off, e, ?_, ?_, h5⟩
  · by_cases hb : b = g
    · exfalso
      subst hb
      subst e
      have at' : ∀ j (hj : j < l.length), ∃ p q r, (#[Value.int .i64 x, .slice a1 n1 c1, .int .i64 y, .slice a2 n2 c2, .slice a3 n3 c3])[off + j]? = some (.slice p q r) := fun j hj => by
        obtain ⟨b', off', e', h3', h4', _⟩ := h2 j hj
        injection e' with e'
        injection e' with e1 e2
        subst e1
        subst e2
        obtain ⟨p, r, es, _⟩ := h4'
        rw [cell_of_row w b (off + j) _ _ _ hg, es] at h3'
        exact ⟨p, _, r, h3'⟩
      obtain ⟨p0, q0, r0, e0⟩ := at' 0 (by omega)
      obtain ⟨p1, q1, r1, e1⟩ := at' 1 (by omega)
      obtain ⟨p2, q2, r2, e2⟩ := at' 2 (by omega)
      have : off = 0 ∨ off = 1 ∨ off = 2 ∨ 3 ≤ off := by omega
      rcases this with rfl | rfl | rfl | h
      · simp at e0
      · simp at e1
      · simp at e0
      · rw [Array.getElem?_eq_none (by simp; omega)] at e2
        cases e2
    · exact k.cell h3 (by simpa using hb)
  · obtain ⟨p, q, es, _⟩ := id h4
    rw [es] at h4 ⊢
    exact Sl.offBy h4 (noBy_sgd hg) k
theorem sig_off5 (hg : w.heap[g]? = some (.cells #[.int .i64 x, .slice a1 n1 c1, .int .i64 y, .slice a2 n2 c2, .slice a3 n3 c3] t fr)) (k : Kp [g] w w') {v : Value} {i : Int} {ps qs : List (List Int)} (h : SigV w v i ps qs) (hp : 3 ≤ ps.length) (hq : 3 ≤ qs.length) : SigV w' v i ps qs := by
  obtain ⟨vp, vq, lp, lq, e, h1, h2, h3, h4⟩ := h
  exact ⟨vp, vq, lp, lq, e, lists_off5 hg k h1 (by rw [← List.length_map (f := (·.2)), h2]; exact hp), h2, lists_off5 hg k h3 (by rw [← List.length_map (f := (·.2)), h4]; exact hq), h4⟩
end
section
variable {w w1 w' : World} {g0 q : Nat} {v : Value} {B : List Int} {s s' : Bool × List Int}
end

end Go.Proofs.YtillhpgdlmeajabGreatDoor

/-
  The contracts of package check's Encode and Decode.
-/
namespace Go.Proofs.YtillhpgdlmeajabGreatDoor
open Go.RowKit
open Go.Proofs

theorem sg_off5 {w w' : World} {g : Nat} {x y : Int} {a1 a2 a3 : Option Addr} {n1 c1 n2 c2 n3 c3 : Nat} {t : TypeId} {fr : Nat × Nat} (hg : w.heap[g]? = some (.cells #[.int .i64 x, .slice a1 n1 c1, .int .i64 y, .slice a2 n2 c2, .slice a3 n3 c3] t fr)) (k : Kp [g] w w') {v : Value} {s : Sg} (h : SgV w v s) (hp : 3 ≤ s.ps.length) (hq : 3 ≤ s.qs.length) : SgV w' v s := by
  obtain ⟨a, m, c, vp, vq, e, h1, h2⟩ := h
  exact ⟨a, m, c, vp, vq, e, ⟨Sl.offBy h1.1 (noBy_sgd hg) k, h1.2⟩, sig_off5 hg k h2 hp hq⟩
/-- OK, or ErrForm. -/
def errX (b : Bool) : Int := if b then 0 else 12
theorem errX_t : errX true = 0 := rfl
theorem errX_f : errX false = 12 := rfl

end Go.Proofs.YtillhpgdlmeajabGreatDoor
