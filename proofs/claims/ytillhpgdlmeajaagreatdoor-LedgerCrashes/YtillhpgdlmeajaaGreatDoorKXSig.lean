/-
  Checkpoints (api.Checkpoint) and signed ones (api.Signed) as values and in memory.
-/
import Derived.Test.YtillhpgdlmeajaaGreatDoorKXSpec
import Derived.Test.YtillhpgdlmeajaaGreatDoorKSOwner
namespace Go.Proofs.YtillhpgdlmeajaaGreatDoor
open Go.RowKit
open Go.Proofs

theorem Tryz.sgdSize : (Tryz.prog.info? 72).map (·.size) = some 5 := by kernel_rfl
/-- v is the signed checkpoint s. -/
def SgV (w : World) (v : Value) (s : Sg) : Prop := ∃ a m c vp vq, v = .agg #[.int .i64 s.n, .slice a m c, .int .i64 s.i, vp, vq] ∧ (Sl w (.slice a m c) s.r ∧ Bs s.r) ∧ SigV w (.agg #[.int .i64 s.i, vp, vq]) s.i s.ps s.qs
theorem SgV.kept {w w' : World} {v : Value} {s : Sg} (h : SgV w v s) (k : Kp [] w w') : SgV w' v s := by
  obtain ⟨a, m, c, vp, vq, e, h1, h2⟩ := h
  exact ⟨a, m, c, vp, vq, e, ⟨h1.1.kept k (by simp), h1.2⟩, h2.kept k⟩
theorem SgV.shape {w : World} {v : Value} {s : Sg} (h : SgV w v s) : ∃ a m c ap np cp aq nq cq, v = .agg #[.int .i64 s.n, .slice a m c, .int .i64 s.i, .slice ap np cp, .slice aq nq cq] ∧ (Sl w (.slice a m c) s.r ∧ Bs s.r) ∧ SigV w (.agg #[.int .i64 s.i, .slice ap np cp, .slice aq nq cq]) s.i s.ps s.qs := by
  obtain ⟨a, m, c, vp, vq, e, h1, h2⟩ := h
  obtain ⟨ap, np, cp, aq, nq, cq, lp, lq, e2, _⟩ := h2.shape
  simp only [Value.agg.injEq, Array.mk.injEq, List.cons.injEq, and_true, true_and] at e2
  obtain ⟨rfl, rfl⟩ := e2
  exact ⟨a, m, c, ap, np, cp, aq, nq, cq, e, h1, h2⟩
def sgd0 : Value := .agg #[.int .i64 0, .slice none 0 0, .int .i64 0, .slice none 0 0, .slice none 0 0]
theorem sgd0_v (w : World) : SgV w sgd0 sg0 := ⟨none, 0, 0, _, _, rfl, ⟨Sl.nil w, fun b hb => by cases hb⟩, sig0_v w⟩
theorem SgV.bs {w : World} {v : Value} {s : Sg} (h : SgV w v s) : Bs s.r ∧ (∀ x ∈ s.ps, Bs x) ∧ ∀ x ∈ s.qs, Bs x := by
  obtain ⟨a, m, c, vp, vq, e, h1, h2⟩ := h
  exact ⟨h1.2, h2.bs⟩
/-- a signed checkpoint that stays so, whatever becomes of the blocks below b. -/
def SgA (b : Nat) (w : World) (v : Value) (s : Sg) : Prop := ∀ (S : List Nat) (w2 : World), (∀ q ∈ S, q < b) → Kp S w w2 → SgV w2 v s
theorem SgA.v {b : Nat} {w : World} {v : Value} {s : Sg} (h : SgA b w v s) : SgV w v s := h [] w (by simp) (Kp.refl _ _)
theorem SgA.kept {b : Nat} {w w' : World} {v : Value} {s : Sg} {S : List Nat} (h : SgA b w v s) (hS : ∀ q ∈ S, q < b) (k : Kp S w w') : SgA b w' v s := fun S2 w2 h2 k2 =>
  h (S ++ S2) w2 (fun q hq => (List.mem_append.1 hq).elim (hS q) (h2 q)) ((k.mono (by simp; intro x hx; exact .inl hx)).trans (k2.mono (by simp; intro x hx; exact .inr hx)))
theorem SgA.low {b c : Nat} {w : World} {v : Value} {s : Sg} (h : SgA b w v s) (hc : c ≤ b) : SgA c w v s := fun S w2 h2 k2 => h S w2 (fun q hq => Nat.lt_of_lt_of_le (h2 q hq) hc) k2
def SgT (s : Sg) : Tell := fun v w => SgV w v s
theorem stable_sg (s : Sg) : Tell.stable (SgT s) := fun _ _ _ k h => h.kept k
end Go.Proofs.YtillhpgdlmeajaaGreatDoor
