/-
  Manifests that are asked one by one: each unlike the others.
-/
import Derived.Test.YteabdojjllfcpaaGreatQC26
namespace Go.Proofs.YteabdojjllfcpaaGreat
open Go.RowKit
open Go.Proofs
set_option linter.unusedVariables false
theorem itF_inj {a v f a' v' f' : Int} (h : itF a v f = itF a' v' f') : mkM a v f = mkM a' v' f' := by
  have h1 := (dec_enc _ (mkM_ok a v f) (mkM_rgt a v f)).1
  have h2 := (dec_enc _ (mkM_ok a' v' f') (mkM_rgt a' v' f')).1
  unfold itF at h
  rw [h] at h1
  rw [← h1, h2]
theorem ans_field (k n : Int) (w : World) : (Instr.field 57 (.agg #[.int .i64 k, .int .i64 n]) 0).run Tryz.prog w = .ok (.int .i64 k) w := by kernel_rfl
/-- the kind, or the number, of an answer. -/
theorem wpList_ansK {w : World} {ops : Array Oper} {rest : List Oper} {o : Oper} {a : Act} {Q : Exit → Act → World → Prop} (hgd : o.guard = none) (x : Operand) (ho : o.op = .field 57 x 0) (k n : Int) (hx : a.eval x = ansV k n) (h : wpList Tryz.prog ops Q rest (a.put o.dst (.int .i64 k)) w) : wpList Tryz.prog ops Q (o :: rest) a w := by
  refine wpList_plain hgd fun K hK => ?_
  have hrun : (execOp a.eval o).run Tryz.prog w = .ok (.value (.int .i64 k)) w := by
    obtain ⟨dst, op, ty, pos, after, guard⟩ := o
    simp only at ho
    subst ho
    obtain ⟨ρ, hρ, hc, hf, hg⟩ := eval_is a
    rw [hρ] at hx ⊢
    unfold ansV at hx
    simp [go_sem, hx, ans_field]
  unfold Oper.wp
  rw [hrun]
  simp only [Oper.upon]
  exact hK _ _ h
/-- the k-th: each name in turn, then the next version. -/
def itK (k : Nat) : List Int := itF (k : Int) ((k : Int) / 4) 0
def keyK (k : Nat) : Nat × Int := ((nmK (wiP (k : Int) 0 1000 % 4).toNat).size, 1 + wiP ((k : Int) / 4) 0 100000 % 9)
theorem keyK_ne : ∀ i : Fin 12, ∀ j : Fin 12, i ≠ j → keyK i.1 ≠ keyK j.1 := by decide +kernel
theorem itK_ne {i j : Nat} (hi : i < 12) (hj : j < 12) (h : i ≠ j) : itK i ≠ itK j := fun e => by
  have e2 := itF_inj e
  refine keyK_ne ⟨i, hi⟩ ⟨j, hj⟩ (fun e => h (by simpa using e)) ?_
  have hs : (mkM (i : Int) ((i : Int) / 4) 0).s.size = (mkM (j : Int) ((j : Int) / 4) 0).s.size := by rw [e2]
  have hv : (mkM (i : Int) ((i : Int) / 4) 0).v = (mkM (j : Int) ((j : Int) / 4) 0).v := by rw [e2]
  exact Prod.ext hs hv
theorem itK_ok (k : Nat) : okM (itK k) = true := itF_ok _ _ _
theorem itK_bs (k : Nat) : Bs (itK k) := itF_bs _ _ _
theorem itK_len (k : Nat) : (itK k).length ≤ 125 := itF_len _ _ _
/-- the first k of them. -/
def rcK (k : Nat) : List (List Int) := (List.range k).map itK
theorem rcK_len (k : Nat) : (rcK k).length = k := by simp [rcK]
theorem rcK_succ (k : Nat) : rcK (k + 1) = rcK k ++ [itK k] := by simp [rcK, List.range_succ]
theorem rcK_mem {k : Nat} {x : List Int} (h : x ∈ rcK k) : ∃ i, i < k ∧ x = itK i := by
  obtain ⟨i, hi, rfl⟩ := List.mem_map.1 h
  exact ⟨i, List.mem_range.1 hi, rfl⟩
theorem rcK_new {k : Nat} (hk : k < 12) : itK k ∉ rcK k := fun h => by
  obtain ⟨i, hi, e⟩ := rcK_mem h
  exact itK_ne (by omega) hk (by omega) e.symm
theorem rcK_nodup {k : Nat} (hk : k ≤ 12) : (rcK k).Nodup := by
  induction k with
  | zero => exact List.nodup_nil
  | succ k ih =>
    rw [rcK_succ, List.nodup_append]
    exact ⟨ih (by omega), by simp, fun a ha b hb => by simp at hb; subst hb; exact fun e => rcK_new (by omega) (e ▸ ha)⟩
theorem rcK_bs {k : Nat} : ∀ x ∈ rcK k, Bs x ∧ x.length ≤ 125 := fun x hx => by
  obtain ⟨i, _, rfl⟩ := rcK_mem hx
  exact ⟨itK_bs i, itK_len i⟩
/-- what lies on the disk. -/
theorem layK_len (k : Nat) : (layP (rcK k)).length ≤ 133 * k := by
  induction k with
  | zero => simp [rcK, layP]
  | succ k ih =>
    rw [rcK_succ, layP_snoc, List.length_append, recP_len]
    have := itK_len k
    omega
end Go.Proofs.YteabdojjllfcpaaGreat
