/-
  append of bytes onto a slice that has no room: it only makes memory.
-/
import Derived.Test.YtdioaohejoflcaaDoorM7
import Derived.Deep.Upon
import Derived.ArgAppend
namespace Go.Proofs.YtdioaohejoflcaaDoor
open Go.RowKit

/-- The value is a slice that reads as these bytes, and has no room behind them. -/
def Full (bs : List Int) : Tell := fun v w => (∃ a, v = .slice (some a) bs.length bs.length) ∧ Sl w v bs
theorem stable_full (bs : List Int) : Tell.stable (Full bs) := fun _ _ _ k h => ⟨h.1, h.2.kept k (by simp)⟩
theorem grown_append_full {o : Oper} {a : Act} {w : World} {R : Tell} (s x : Operand) (bs cs : List Int) (ho : o.op = .call { callee := .builtin .append, args := #[s, x], argTypes := #[24, 24] })
    (hs : Full bs (a.eval s) w) (hx : Sl w (a.eval x) cs) (hb : bs.length + cs.length ≤ 140737488355328) (hR : ∀ v w', Sl w' v (bs ++ cs) → R v w') : grown Tryd.prog w R ((execOp a.eval o).run Tryd.prog w) := by
  obtain ⟨i0, hi0, hz0, hz1, hz2⟩ := info_parts Tryd.info5
  obtain ⟨⟨b, hv⟩, hS⟩ := hs
  obtain ⟨ax, cx, hxv, h1, h2, h3, h4⟩ := hx
  by_cases hc : cs = []
  · subst hc
    have hrun := run_append_nothing (P := Tryd.prog) w 24 24 o.type 5 i0 Tryd.underlying24 hi0 (some b) bs.length bs.length (Nat.le_refl _) (.slice ax 0 cx) (by
      cases ax with
      | none => exact Src.ofNil w Tryd.underlying24 cx
      | some ad => exact Src.ofSlice w Tryd.underlying24 ad 0 cx [] (by simp) (by simp) (by simp))
    refine grown_run (v := .slice (some b) bs.length bs.length) (w' := w) ?_ (Kp.refl _ _) (hR _ _ ?_)
    · simp [execOp, ho, resolve, invoke, builtin, hv, hxv, hrun, Result.andThen]
    · rw [List.append_nil, ← hv]; exact hS
  · cases ax with
    | none => exact absurd (List.eq_nil_of_length_eq_zero (by have := h3 rfl; omega)) hc
    | some ad =>
      have hpos : 0 < cs.length := List.length_pos_iff.2 hc
      obtain ⟨ao', c', he, g1, g2, g3, g4⟩ := hS
      rw [hv] at he
      injection he with e1 e2 e3
      subst e1
      obtain ⟨v', w', hrun, r1, r2⟩ := run_append_arg_grows (P := Tryd.prog) w 24 o.type 5 i0 (.int .u8 0) 1 1 Tryd.underlying24 hi0 hz0 hz1 hz2 rfl (by decide) b bs.length bs.length (bs.map (Value.int .u8)) (by simp) (g4 b rfl) ad cs.length cx (cs.map (Value.int .u8)) (by simp) (h4 ad rfl) (by omega) (by unfold maxLen; omega) (by omega)
      refine grown_run (v := v') (w' := w') ?_ ((Kp.refl [] w).grown r2 (by intro k hk; cases hk)) (hR _ _ ?_)
      · simp [execOp, ho, resolve, invoke, builtin, hv, hxv, hrun, Result.andThen]
      · rw [← List.map_append] at r1
        exact Sl.of_owns r1
end Go.Proofs.YtdioaohejoflcaaDoor
