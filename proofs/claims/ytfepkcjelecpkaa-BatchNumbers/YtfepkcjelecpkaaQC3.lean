/-
  Regions that draw their order, whose first operations only make memory and all come ahead of the rest: one look at each of the first serves every order; what is left is walked behind them.
-/
import Derived.StillTail
import Derived.Test.YtfepkcjelecpkaaQC2
namespace Go.Proofs.Ytfepkcjelecpkaa
open Go.RowKit
section
variable {P : Program} {m : List Oper} {ops : Array Oper} {Q : Exit → Act → World → Prop} {a0 : Act} {w0 : World} {Rs : List Tell} {kss : List (List (Tmp × Option Nat))} {n i : Nat} {listed : Array Bool} {a : Act} {w w' : World} {o : Oper} {R : Tell} {v : Value}
/-- The head m of the operations ops: what is listed of it so far. -/
structure InvT (m : List Oper) (ops : Array Oper) (Rs : List Tell) (a0 : Act) (w0 : World) (listed : Array Bool) (a : Act) (w : World) : Prop where
  kp : Kp [] w0 w
  size : a.tmps.size = a0.tmps.size
  defers : a.defers = a0.defers
  told : ∀ i d R, listed.getD i false = true → dstAt m i = some d → Rs[i]? = some R → R (a.eval (.tmp d)) w
  rest : ∀ t, (∀ i, listed.getD i false = true → dstAt m i ≠ some t) → a.eval (.tmp t) = a0.eval (.tmp t)
  head : HeadInv .any ops m.length listed
theorem InvT.closed (hsub : ∀ (i : Nat) o, m[i]? = some o → ops[i]? = some o) (hinv : InvT m ops Rs a0 w0 listed a w) : ∀ (i : Nat) o, m[i]? = some o → listed.getD i false = true → ∀ j ∈ odeps o, listed.getD j false = true := by
  intro i o ho hl j hj
  obtain ⟨e, he, hb, rfl⟩ := mem_deps.1 hj
  exact hinv.head.closed i o (hsub i o ho) hl e he hb
end
end Go.Proofs.Ytfepkcjelecpkaa

/-
  Structs of any number of cells in memory: stored whole or in part, loaded, handed back.
-/
namespace Go.Proofs.Ytfepkcjelecpkaa
open Go.RowKit
open Go.Proofs
theorem flat_range {w : World} {g : Nat} {C : Array Value} {t : TypeId} {fr : Nat × Nat} (hg : w.heap[g]? = some (.cells C t fr)) (o : Nat) (cs : List Value) (h : ∀ (j : Nat) v, cs[j]? = some v → C[o + j]? = some v) : w.rangeAt g o cs := fun j v hv => by
  rw [cell_of_row w g (o + j) C t fr hg]; exact h j v hv
theorem load_flat {w : World} {g off : Nat} {C : Array Value} {t T : TypeId} {fr : Nat × Nat} {d : TypeDesc} (hg : w.heap[g]? = some (.cells C t fr)) (cs : List Value) (hc : ∀ (j : Nat) v, cs[j]? = some v → C[off + j]? = some v)
    (hu : Try.prog.underlying T = some d) (hd : d.isRow = true) (hi : (Try.prog.info? T).map (·.size) = some cs.length) : (loadVar T ⟨g, off, none⟩).run Try.prog w = .ok (.agg cs.toArray) w :=
  run_loadVar_mid w g off T cs d (flat_range hg off cs hc) hu hd hi
theorem grown_loadf {o : Oper} {a : Act} {w : World} {R : Tell} (T : TypeId) (p : Operand) (ho : o.op = .load T p) (g off : Nat) (hp : a.eval p = .pointer (some ⟨g, off, none⟩)) (C : Array Value) (t : TypeId) (fr : Nat × Nat) (d : TypeDesc) (hg : w.heap[g]? = some (.cells C t fr)) (cs : List Value) (hc : ∀ (j : Nat) v, cs[j]? = some v → C[off + j]? = some v)
    (hu : Try.prog.underlying T = some d) (hd : d.isRow = true) (hi : (Try.prog.info? T).map (·.size) = some cs.length) (hR : R (.agg cs.toArray) w) : grown Try.prog w R ((execOp a.eval o).run Try.prog w) := by
  refine grown_run ?_ (Kp.refl _ _) hR
  unfold execOp
  simp only [ho, hp, Instr.loadAt, Instr.sureAddr, Sem.run_bind, Sem.run_pure, Result.andThen_ok, load_flat hg cs hc hu hd hi]
end Go.Proofs.Ytfepkcjelecpkaa
