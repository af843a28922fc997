/-
  Where a checkpoint's root lies, where a writer's bytes lie.
-/
import Derived.Test.YtillhpgdlmeajaaGreatDoorKXSmalls
import Derived.Test.YtillhpgdlmeajaaGreatDoorKSWire
import Derived.Test.YtillhpgdlmeajaaGreatDoorKLSmalls
namespace Go.Proofs.YtillhpgdlmeajaaGreatDoor
open Go.RowKit
open Go.Proofs

theorem CkV.sl {w : World} {a : Option Addr} {m c : Nat} {n : Int} {r : List Int} (h : CkV w (.agg #[.int .i64 n, .slice a m c]) n r) : Sl w (.slice a m c) r := by
  obtain ⟨a', m', c', e, h1, _⟩ := h
  simp only [Value.agg.injEq, Array.mk.injEq, List.cons.injEq, and_true, true_and] at e
  rw [e]
  exact h1
theorem Wr.vlt {w : World} {p : Nat} {v : Value} {bs : List Int} (h : Wr w p v bs) : ∀ k, v.ownBlock = some k → k < w.heap.size := by
  intro k hk
  rcases h.2.2 with ⟨rfl, _⟩ | ⟨g, cap, cur, rfl, _, hg, _⟩
  · cases hk
  · cases hk; exact (Array.getElem?_eq_some_iff.1 hg).1
end Go.Proofs.YtillhpgdlmeajaaGreatDoor
