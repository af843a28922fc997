/-
  Single operations of a region that only makes memory.
-/
import Derived.Test.YtacfciimialobaaDoorRGrow
import Derived.Test.YtacfciimialobaaDoorBytes
import Derived.BigCall
namespace Go.Proofs.YtacfciimialobaaDoor
open Go.RowKit

/-- The value is c. -/
def Is (c : Value) : Tell := fun v _ => v = c
/-- The value is a slice that reads as these bytes. -/
def SlT (bs : List Int) : Tell := fun v w => Sl w v bs
theorem stable_is (c : Value) : Tell.stable (Is c) := fun _ _ _ _ h => h
theorem stable_sl (bs : List Int) : Tell.stable (SlT bs) := fun _ _ _ k h => h.kept k (by simp)

section
variable {P : Program} {ops : Array Oper} {o : Oper} {a : Act} {w : World} {R : Tell}
theorem wants_plain (hg : o.guard = none) (h : grown P w R ((execOp a.eval o).run P w)) : wants P ops o a w R := by
  unfold wants
  rw [if_pos (by simp [Region.wanted, hg])]
  exact h
theorem wanted_iff {g : Nat} {b b' : Bool} {d : Tmp} (hg : o.guard = some (g, b)) (hd : (ops[g]?).bind (·.dst) = some d) (he : a.eval (.tmp d) = .bool b') : Region.wanted o (yielded ops a.tmps) = (b' == b) := by
  have h1 : a.tmps[d]? = some (.bool b') := by
    rcases Nat.lt_or_ge d a.tmps.size with h | h
    · simp [Act.eval, h] at he ⊢; exact he
    · simp [Act.eval, Array.getElem?_eq_none h, undef] at he
  have h2 : yielded ops a.tmps g = some b' := by
    unfold yielded
    rw [hd]
    simp only [Option.bind_some, h1]
  simp only [Region.wanted, hg, h2]
  cases b <;> cases b' <;> rfl
theorem wants_guard {g : Nat} {b : Bool} {d : Tmp} (hg : o.guard = some (g, b)) (hd : (ops[g]?).bind (·.dst) = some d) (he : a.eval (.tmp d) = .bool b) (h : grown P w R ((execOp a.eval o).run P w)) : wants P ops o a w R := by
  unfold wants
  rw [if_pos (by rw [wanted_iff hg hd he]; simp)]
  exact h
theorem wants_not {g : Nat} {b : Bool} {d : Tmp} (hg : o.guard = some (g, b)) (hd : (ops[g]?).bind (·.dst) = some d) (he : a.eval (.tmp d) = .bool (!b)) (h : R undef w) : wants P ops o a w R := by
  unfold wants
  rw [if_neg (by rw [wanted_iff hg hd he]; cases b <;> simp)]
  exact h
theorem grown_move (x : Operand) (ho : o.op = .move x) (h : R (a.eval x) w) : grown P w R ((execOp a.eval o).run P w) := by
  unfold execOp; simp only [ho]; exact ⟨Kp.refl _ _, h⟩
theorem grown_assign (x : Operand) (ho : o.op = .assign x) (h : R (a.eval x) w) : grown P w R ((execOp a.eval o).run P w) := by
  unfold execOp; simp only [ho]; exact ⟨Kp.refl _ _, h⟩
theorem grown_pick (c x y : Operand) (b : Bool) (ho : o.op = .pick c x y) (hc : a.eval c = .bool b) (h : R (if b then a.eval x else a.eval y) w) : grown P w R ((execOp a.eval o).run P w) := by
  unfold execOp; simp only [ho, hc, asBool]; exact ⟨Kp.refl _ _, h⟩
theorem grown_run {v : Value} {w' : World} (h : (execOp a.eval o).run P w = .ok (.value v) w') (hk : Kp [] w w') (hR : R v w') : grown P w R ((execOp a.eval o).run P w) := by
  rw [h]; exact ⟨hk, hR⟩
theorem grown_conv (x : Operand) (src dst e : TypeId) (bs : List Int) (ho : o.op = .convert src dst x) (hS : Sl w (a.eval x) bs) (hs : P.underlying src = some (.slice e)) (he : P.underlying e = some (.int .u8)) (hd : P.underlying dst = some .string) (hR : R (.string (strOfNums bs)) w) : grown P w R ((execOp a.eval o).run P w) := by
  refine grown_run ?_ (Kp.refl _ _) hR
  unfold execOp
  simp only [ho, Sem.run_bind, hS.conv src dst e hs he hd, Result.andThen_ok, Sem.run_pure]
theorem grown_call {f : FuncId} {fn : Func} {xs : Array Operand} {ats : Array TypeId} (ho : o.op = .call { callee := .value (.func f), args := xs, argTypes := ats }) (hf : P.funcs[f]? = some fn) (hn : (fn.name == "runtime.NumGoroutine") = false) (hb : fn.body.isNone = false)
    (h : Calls P f (xs.map a.eval) w fun e w' => ∃ v, e = .returned v ∧ Kp [] w w' ∧ R v w') : grown P w R ((execOp a.eval o).run P w) := by
  have e : (execOp a.eval o).run P w = .ok (.enter f (xs.map a.eval)) w := by
    obtain ⟨dst, op, ty, pos, after, guard⟩ := o
    simp only at ho
    subst ho
    rw [execOp_call_go]
    have h1 : fn.name ≠ "runtime.NumGoroutine" := by simpa using hn
    have h2 : ¬ fn.body = none := by intro h2; rw [h2] at hb; cases hb
    simp [callFunc, hf, h1, h2]
  rw [e]
  exact h
end
theorem steps_cons {P : Program} {ops : Array Oper} {a0 : Act} {w0 : World} {Rs : List Tell} {o : Oper} {l : List Oper} {ks : List (Tmp × Option Nat)} {kss : List (List (Tmp × Option Nat))} {R : Tell} {rs : List Tell}
    (h1 : ∀ a w, Kp [] w0 w → Knows a0 Rs a w ks → wants P ops o a w R) (h2 : StepsR P ops a0 w0 Rs l kss rs) : StepsR P ops a0 w0 Rs (o :: l) (ks :: kss) (R :: rs) := ⟨h1, h2⟩
theorem fin_nil {Q : Exit → Act → World → Prop} {a : Act} {w : World} (h : Q .normal a w) : FinR Q [] [] a w := h
theorem eval_is (a : Act) : ∃ ρ : Operand → Value, a.eval = ρ ∧ (∀ v, ρ (.const v) = v) ∧ (∀ f, ρ (.func f) = .func (.func f) #[] #[]) ∧ ∀ g, ρ (.global g) = .pointer (some ⟨g, 0, none⟩) := ⟨_, rfl, fun _ => rfl, fun _ => rfl, fun _ => rfl⟩
end Go.Proofs.YtacfciimialobaaDoor
