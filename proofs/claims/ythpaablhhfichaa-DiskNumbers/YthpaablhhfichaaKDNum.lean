/-
  A literal row of asks, made in whatever order; what DiskNumbers stands on.
-/
import Derived.Test.YthpaablhhfichaaKDPlay
import Derived.Test.YthpaablhhfichaaKRGrowC
import Derived.Test.YthpaablhhfichaaKLFlats
import Derived.Laws.OwnMore
namespace Go.Proofs.Ythpaablhhfichaa
open Go.ChangeShapes Go.WideShapes Go.ChangeAt Go.RowKit
open Go.Proofs
open Go.Deep

theorem grown_make13 {o : Oper} {a : Act} {w : World} (x : Operand) (n : Nat) (hn : n ≤ 1000000) (ho : o.op = .makeSlice 28 x x) (hx : a.eval x = .int .i64 (n : Nat)) : grown Try.prog w (SlT (List.replicate n 0)) ((execOp a.eval o).run Try.prog w) := by
  obtain ⟨i0, hi0, hz0, hz1, hz2⟩ := info_parts Try.info5
  obtain ⟨w', hrun, hrow, hgb⟩ := run_make_full (P := Try.prog) w w.heap.size 28 5 i0 (.int .u8 0) 1 Try.underlying28 hi0 hz0 hz1 .i64 .i64 n (by rw [hz2]; omega) (by unfold maxLen; omega) (Nat.le_refl _)
  refine grown_run (v := .slice (some ⟨w.heap.size, 0, none⟩) n n) (w' := w') ?_ ((Kp.refl [] w).grown hgb (by intro k hk; cases hk)) ?_
  · obtain ⟨ρ, hρ, _⟩ := eval_is a
    rw [hρ] at hx ⊢
    simp [execOp, ho, hx, hrun]
  · have e : (madeCells (Value.int .u8 0).cells (n * 1)).toList = (List.replicate n (0 : Int)).map (Value.int .u8) := by
      rw [Nat.mul_one]; show (madeCells #[Value.int .u8 0] n).toList = _
      rw [toList_madeCells_one]; simp
    rw [e] at hrow
    exact Sl.of_owns (by simpa using hrow)
/-- a value that is an ask. -/
def AkT : Tell := fun v w => ∃ x : AskE, v = .agg #[.int .i64 x.kind, .int .i64 x.n, x.v] ∧ (∃ ao m c, x.v = .slice ao m c) ∧ Sl w x.v x.bs ∧ Bs x.bs ∧ (-9223372036854775808 ≤ x.n ∧ x.n ≤ 9223372036854775807)
theorem stableC_ak : Tell.stableC AkT := fun _ _ _ k ⟨x, h1, h2, h3, h4⟩ => ⟨x, h1, h2, h3.kc k, h4⟩
/-- a value that is a slice of asks. -/
def AlT : Tell := fun v w => ∃ l, AskL w v l
theorem AskL.kc {w w' : World} {v : Value} {l : List AskE} (h : AskL w v l) (k : Kc w w') : AskL w' v l := by
  obtain ⟨ao, c, rfl, h1, h2⟩ := h
  refine ⟨ao, c, rfl, h1, fun i hi => ?_⟩
  obtain ⟨b, off, e, h3, h4, h5⟩ := h2 i hi
  exact ⟨b, off, e, fun j u hu => k.2 _ _ (h3 j u hu), h4.kc k, h5⟩
theorem stableC_al : Tell.stableC AlT := fun _ _ _ k ⟨l, h⟩ => ⟨l, h.kc k⟩
theorem zero_bd : (-9223372036854775808 : Int) ≤ 0 ∧ (0 : Int) ≤ 9223372036854775807 := by decide
section
variable {o : Oper} {a : Act} {w : World}
theorem grown_ak0 (k : Int) (c0 : Operand) (ho : o.op = .build 30 #[(0, c0)]) (h0 : a.eval c0 = .int .i64 k) : grown Try.prog w AkT ((execOp a.eval o).run Try.prog w) := by
  refine grown_run (v := .agg #[.int .i64 k, .int .i64 0, .slice none 0 0]) (w' := w) ?_ (Kp.refl _ _) ⟨⟨k, 0, .slice none 0 0, []⟩, rfl, ⟨_, _, _, rfl⟩, Sl.nil w, (fun b hb => by cases hb), zero_bd⟩
  obtain ⟨ρ, hρ, _⟩ := eval_is a
  rw [hρ] at h0 ⊢
  unfold execOp
  simp only [ho]
  simp [go_sem, h0]
theorem grown_ak1 (k n : Int) (c0 c1 : Operand) (ho : o.op = .build 30 #[(0, c0), (1, c1)]) (h0 : a.eval c0 = .int .i64 k) (h1 : a.eval c1 = .int .i64 n) (hn : -9223372036854775808 ≤ n ∧ n ≤ 9223372036854775807) : grown Try.prog w AkT ((execOp a.eval o).run Try.prog w) := by
  refine grown_run (v := .agg #[.int .i64 k, .int .i64 n, .slice none 0 0]) (w' := w) ?_ (Kp.refl _ _) ⟨⟨k, n, .slice none 0 0, []⟩, rfl, ⟨_, _, _, rfl⟩, Sl.nil w, (fun b hb => by cases hb), hn⟩
  obtain ⟨ρ, hρ, _⟩ := eval_is a
  rw [hρ] at h0 h1 ⊢
  unfold execOp
  simp only [ho]
  simp [go_sem, h0, h1]
theorem grown_ak2 (k : Int) (bs : List Int) (c0 c2 : Operand) (ho : o.op = .build 30 #[(0, c0), (2, c2)]) (h0 : a.eval c0 = .int .i64 k) (h2 : Sl w (a.eval c2) bs) (hB : Bs bs) : grown Try.prog w AkT ((execOp a.eval o).run Try.prog w) := by
  obtain ⟨ao, c, e, hr⟩ := id h2
  refine grown_run (v := .agg #[.int .i64 k, .int .i64 0, .slice ao bs.length c]) (w' := w) ?_ (Kp.refl _ _) ⟨⟨k, 0, .slice ao bs.length c, bs⟩, rfl, ⟨_, _, _, rfl⟩, by rw [e] at h2; exact h2, hB, zero_bd⟩
  obtain ⟨ρ, hρ, _⟩ := eval_is a
  rw [hρ] at h0 e ⊢
  unfold execOp
  simp only [ho]
  simp [go_sem, h0, e]
end
def AskE.row (x : AskE) : List Value := [.int .i64 x.kind, .int .i64 x.n, x.v]
theorem askL_of_block {w : World} {g : Nat} {xs : List AskE} {t : TypeId} {fr : Nat × Nat} (h : w.heap[g]? = some (.cells ((xs.map AskE.row).flatten).toArray t fr)) (hl : xs.length ≤ 1000) (hx : ∀ x ∈ xs, Sl w x.v x.bs ∧ Bs x.bs ∧ (-9223372036854775808 ≤ x.n ∧ x.n ≤ 9223372036854775807)) :
    AskL w (.slice (some ⟨g, 0, none⟩) xs.length xs.length) xs := by
  refine ⟨some ⟨g, 0, none⟩, xs.length, rfl, by omega, fun i hi => ⟨g, 0, rfl, fun j u hu => ?_, hx _ (List.getElem_mem hi)⟩⟩
  have hj : j < 3 := by have := (List.getElem?_eq_some_iff.1 hu).1; simpa using this
  rw [cell_of_row w g _ _ t fr h, Nat.zero_add, List.getElem?_toArray, flatN_at 3 (xs.map AskE.row) (fun y hy => by obtain ⟨x, _, rfl⟩ := List.mem_map.1 hy; rfl) i j (by simpa using hi) hj]
  rw [List.getElem_map]
  exact hu
theorem dplayE_any (limit : Int) (vl : Value) (w : World) (h0 : 0 ≤ limit) (h1 : limit ≤ 1048576) (hl : ∃ l, AskL w vl l) :
    Calls Try.prog 10 #[.int .i64 limit, vl] w fun e w' => e = .returned (.bool true) ∧ Kp [] w w' := by
  obtain ⟨l, hl⟩ := hl
  exact dplay_any limit vl l w h0 h1 hl
theorem bs_lit (l : List Int) (h : l.all (fun b => decide (0 ≤ b) && decide (b ≤ 255)) = true) : Bs l := fun b hb => by
  have := List.all_eq_true.1 h b hb
  simpa using this
end Go.Proofs.Ythpaablhhfichaa
