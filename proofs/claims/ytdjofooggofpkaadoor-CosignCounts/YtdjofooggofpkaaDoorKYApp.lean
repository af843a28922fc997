/-
  A row of cosignatures that is copied twice into a new one, in a region that draws its order.
-/
import Derived.Test.YtdjofooggofpkaaDoorKYSpecs
import Derived.Test.YtdjofooggofpkaaDoorKYMixs
namespace Go.Proofs.YtdjofooggofpkaaDoor
open Go.RowKit
open Go.Proofs

set_option maxRecDepth 100000 in
/-- one append of a whole row behind another. -/
theorem run_rowq_app {P : Nat → World → List Value → Prop} {n : Nat} {w0 w : World} {v vs : Value} {base : Nat} {xs : List (List Value)} (tt : TypeId) (hR : RowQ 33 4 P n w0 v w) (hX : RowX 33 4 w base vs xs) (h1 : ∀ x ∈ xs, ∀ u ∈ x, u.oneCell' = true) (hn : n + xs.length ≤ 1000000)
    (hP : ∀ j (hj : j < xs.length) w3, Kp v.ownBlock.toList w w3 → P (n + j) w3 xs[j]) :
    ∃ v' w', (Builtin.append_ #[28, 28] tt #[v, vs]).run Tryd.prog w = .ok v' w' ∧ RowQ 33 4 P (n + xs.length) w0 v' w' := by
  obtain ⟨i0, hi0, hz0, hz1, hz2⟩ := info_parts Tryd.infoCos
  obtain ⟨⟨ys, hY, hyn, hPs⟩, hK⟩ := hR
  have hX1 := hX.1
  rcases hX1.2 with ⟨rfl, h0⟩ | ⟨g, cap, cur, rfl, hb, hg, _⟩
  · have hxs : xs = [] := List.eq_nil_of_length_eq_zero h0
    subst hxs
    refine ⟨v, w, run_append_owned_none w w0.heap.size 28 tt 33 i0 4 Tryd.underlying28 hi0 v ys.length ys.flatten hY.1, ?_⟩
    exact ⟨⟨ys, hY, by simpa using hyn, hPs⟩, hK⟩
  · have hcells : ∀ j u, xs.flatten[j]? = some u → w.cell? ((⟨g, 0, none⟩ : Addr).add j) = some u := fun j u hu => World.ownsRow.cells hX1 (g := g) rfl j u hu
    have hbb : (ys.length + xs.length) * 64 ≤ 1000000 * 64 := Nat.mul_le_mul_right 64 (by omega)
    obtain ⟨v', w', hrun, hown, hgrow, -, hat⟩ := run_append_own_at (P := Tryd.prog) w w0.heap.size 28 tt 33 i0 (.agg #[.int .i64 0, .int .i64 0, .slice none 0 0, .slice none 0 0]) 4 64 Tryd.underlying28 hi0 hz0 hz1 hz2 rfl (by decide) v ys.length ys.flatten hY.1 ⟨g, 0, none⟩ xs.length cap xs.flatten (flatN_len 4 xs hX.2) hcells (fun u hu => by obtain ⟨y, hy, hu⟩ := List.mem_flatten.1 hu; exact h1 y hy u hu) (by unfold maxLen; omega) (by omega) hK.size
    refine ⟨v', w', hrun, ?_⟩
    have K' : Kp v.ownBlock.toList w w' := (Kp.refl _ _).grown hgrow (fun k hk => .inl (Option.mem_toList.2 hk))
    have X' : RowX 33 4 w' w0.heap.size v' (ys ++ xs) := ⟨by rw [List.length_append, List.flatten_append]; exact hown, fun x hx => (List.mem_append.1 hx).elim (hY.2 x) (hX.2 x)⟩
    have HC : ∀ w3, Kp v'.ownBlock.toList w' w3 → Kp v.ownBlock.toList w w3 := fun w3 k3 => K'.then k3 (fun i hi => by
      rcases hat with h | h
      · exact .inl (by rw [← h]; exact hi)
      · rw [h] at hi
        simp at hi
        exact .inr (by omega))
    refine ⟨⟨ys ++ xs, X', by rw [List.length_append, hyn], fun j hj w3 k3 => ?_⟩, hK.then K' (fun i hi => .inr (hY.block i (by simpa using hi)).1)⟩
    have k4 := HC w3 k3
    by_cases hjx : j < ys.length
    · rw [List.getElem_append_left hjx]
      exact hPs j hjx w3 k4
    · rw [List.getElem_append_right (by omega)]
      have hj2 : j - ys.length < xs.length := by rw [List.length_append] at hj; omega
      have := hP (j - ys.length) hj2 w3 k4
      rw [show n + (j - ys.length) = j by omega] at this
      exact this
/-- what is known while the row is copied twice. -/
def GC (w0 : World) (gl : List Co) (listed : Array Bool) (a : Act) (w : World) : Prop :=
  (Kp [] w0 w ∧ 100 < a.tmps.size) ∧ (listed.getD 17 false = true → listed.getD 19 false = false → RowQ 33 4 (CoP (gl ++ gl)) 0 w0 (a.eval (.tmp 91)) w) ∧ (listed.getD 19 false = true → listed.getD 21 false = false → RowQ 33 4 (CoP (gl ++ gl)) gl.length w0 (a.eval (.tmp 93)) w) ∧ (listed.getD 21 false = true → CoL w (a.eval (.tmp 95)) (gl ++ gl))
theorem stableK_any : Tell.stableG KT AnyT := fun _ _ _ _ h => h
section
variable {w0 w w' : World} {gl : List Co} {listed : Array Bool} {a : Act}
theorem GC.free (h : GC w0 gl listed a w) (k : Nat) (hk : k ≠ 17 ∧ k ≠ 19 ∧ k ≠ 21) (d : Tmp) (hd : d ≠ 91 ∧ d ≠ 93 ∧ d ≠ 95) (v : Value) (K : Kp [] w w') : GC w0 gl (listed.setIfInBounds k true) (a.put (some d) v) w' := by
  obtain ⟨h0, h1, h2, h3⟩ := h
  refine ⟨⟨h0.1.trans K, by simpa [Act.put] using h0.2⟩, fun a1 a2 => ?_, fun a1 a2 => ?_, fun a1 => ?_⟩
  · rw [getD_set_neM hk.1] at a1
    rw [getD_set_neM hk.2.1] at a2
    rw [eval_put_ne hd.1]
    exact (h1 a1 a2).kept K
  · rw [getD_set_neM hk.2.1] at a1
    rw [getD_set_neM hk.2.2] at a2
    rw [eval_put_ne hd.2.1]
    exact (h2 a1 a2).kept K
  · rw [getD_set_neM hk.2.2] at a1
    rw [eval_put_ne hd.2.2]
    exact (h3 a1).kept K
theorem GC.build {ops : Array Oper} {o : Oper} (h : GC w0 gl listed a w) (hn : listed.getD 19 false = false) (hn2 : listed.getD 21 false = false) (hw : Region.wanted o (yielded ops a.tmps) = true) (ho : o.op = .buildSlice 28 0 #[]) (hd : o.dst = some 91) : wantsG KT (GC w0 gl (listed.setIfInBounds 17 true)) Tryd.prog ops o a w AnyT := by
  unfold wantsG
  rw [if_pos hw]
  have e : (execOp a.eval o).run Tryd.prog w = .ok (.value (.slice (some ⟨w.heap.size, 0, none⟩) 0 0)) (w.alloc (.cells #[] 33)) := by
    unfold execOp
    simp only [ho]
    simp [go_sem]
  rw [e]
  obtain ⟨⟨h0, hS⟩, h1, h2, h3⟩ := h
  have K : Kp [] w (w.alloc (.cells #[] 33)) := (Kp.refl [] w).alloc _
  refine ⟨⟨trivial, ⟨h0.trans K, by rw [hd]; simpa [Act.put] using hS⟩, fun a1 a2 => ?_, fun a1 a2 => ?_, fun a1 => ?_⟩, trivial⟩
  · rw [hd, eval_put_same (Nat.lt_trans (by decide) hS)]
    refine ⟨⟨[], ⟨⟨by simp, .inr ⟨w.heap.size, 0, #[], rfl, h0.size, heap_alloc_new w _, Nat.le_refl _, by unfold maxLen; omega, rfl, rfl⟩⟩, fun x hx => by cases hx⟩, rfl, fun j hj => by cases hj⟩, h0.trans K⟩
  · rw [getD_set_neM (by decide), hn] at a1
    cases a1
  · rw [getD_set_neM (by decide), hn2] at a1
    cases a1
theorem GC.app1 {ops : Array Oper} {o : Oper} {vs : Value} {base : Nat} {xs : List (List Value)} (h : GC w0 gl listed a w) (hl : listed.getD 17 false = true) (hn : listed.getD 19 false = false) (hn2 : listed.getD 21 false = false) (hsz : 19 < listed.size) (hw : Region.wanted o (yielded ops a.tmps) = true) (ho : o.op = .call { callee := .builtin .append, args := #[.tmp 91, .tmp 92], argTypes := #[28, 28] }) (hd : o.dst = some 93)
    (hs : a.eval (.tmp 92) = vs) (hX : RowX 33 4 w base vs xs) (hxl : xs.length = gl.length) (h1 : ∀ x ∈ xs, ∀ u ∈ x, u.oneCell' = true) (hle : gl.length ≤ 1000) (hP : ∀ j (hj : j < xs.length) w3, Kp [] w0 w3 → CoV w3 (.agg xs[j].toArray) (gl.getD j co0)) : wantsG KT (GC w0 gl (listed.setIfInBounds 19 true)) Tryd.prog ops o a w AnyT := by
  obtain ⟨⟨h0, hS⟩, c1, c2, c3⟩ := h
  have hR := c1 hl hn
  obtain ⟨v', w', hrun, hQ⟩ := run_rowq_app o.type hR hX h1 (by omega) (fun j hj w3 k3 => by
    show CoV w3 _ ((gl ++ gl).getD (0 + j) co0)
    rw [Nat.zero_add, show (gl ++ gl).getD j co0 = gl.getD j co0 by simp [List.getD, List.getElem?_append_left (show j < gl.length by omega)]]
    exact hP j hj w3 (h0.then k3 (fun i hi => .inr (hR.own i (by simpa using hi)).1)))
  unfold wantsG
  rw [if_pos hw]
  have e : (execOp a.eval o).run Tryd.prog w = .ok (.value v') w' := by
    unfold execOp
    simp only [ho, resolve, invoke, builtin, Sem.run_bind, Sem.run_pure, Result.andThen_ok, List.map_toArray, List.map_cons, List.map_nil, hs, hrun]
  rw [e]
  refine ⟨⟨trivial, ⟨hQ.kp, by rw [hd]; simpa [Act.put] using hS⟩, fun a1 a2 => ?_, fun a1 a2 => ?_, fun a1 => ?_⟩, trivial⟩
  · rw [getD_set_selfM 19 hsz] at a2
    cases a2
  · rw [hd, eval_put_same (Nat.lt_trans (by decide) hS)]
    rw [hxl, Nat.zero_add] at hQ
    exact hQ
  · rw [getD_set_neM (by decide), hn2] at a1
    cases a1
theorem GC.app2 {ops : Array Oper} {o : Oper} {vs : Value} {base : Nat} {xs : List (List Value)} (h : GC w0 gl listed a w) (hl : listed.getD 19 false = true) (hn2 : listed.getD 21 false = false) (hsz : 21 < listed.size) (hw : Region.wanted o (yielded ops a.tmps) = true) (ho : o.op = .call { callee := .builtin .append, args := #[.tmp 93, .tmp 94], argTypes := #[28, 28] }) (hd : o.dst = some 95)
    (hs : a.eval (.tmp 94) = vs) (hX : RowX 33 4 w base vs xs) (hxl : xs.length = gl.length) (h1 : ∀ x ∈ xs, ∀ u ∈ x, u.oneCell' = true) (hle : gl.length ≤ 1000) (hP : ∀ j (hj : j < xs.length) w3, Kp [] w0 w3 → CoV w3 (.agg xs[j].toArray) (gl.getD j co0)) : wantsG KT (GC w0 gl (listed.setIfInBounds 21 true)) Tryd.prog ops o a w AnyT := by
  obtain ⟨⟨h0, hS⟩, c1, c2, c3⟩ := h
  have hR := c2 hl hn2
  obtain ⟨v', w', hrun, hQ⟩ := run_rowq_app o.type hR hX h1 (by omega) (fun j hj w3 k3 => by
    show CoV w3 _ ((gl ++ gl).getD (gl.length + j) co0)
    rw [show (gl ++ gl).getD (gl.length + j) co0 = gl.getD j co0 by simp [List.getD, List.getElem?_append_right]]
    exact hP j hj w3 (h0.then k3 (fun i hi => .inr (hR.own i (by simpa using hi)).1)))
  unfold wantsG
  rw [if_pos hw]
  have e : (execOp a.eval o).run Tryd.prog w = .ok (.value v') w' := by
    unfold execOp
    simp only [ho, resolve, invoke, builtin, Sem.run_bind, Sem.run_pure, Result.andThen_ok, List.map_toArray, List.map_cons, List.map_nil, hs, hrun]
  rw [e]
  refine ⟨⟨trivial, ⟨hQ.kp, by rw [hd]; simpa [Act.put] using hS⟩, fun a1 a2 => ?_, fun a1 a2 => ?_, fun a1 => ?_⟩, trivial⟩
  · rw [getD_set_neM (by decide), hl] at a2
    cases a2
  · rw [getD_set_selfM 21 hsz] at a2
    cases a2
  · rw [hd, eval_put_same (Nat.lt_trans (by decide) hS)]
    have h2 : RowQ 33 4 (CoP (gl ++ gl)) (gl ++ gl).length w0 v' w' := by rw [List.length_append, ← hxl]; rw [hxl] at hQ ⊢; exact hQ
    exact h2.col (by rw [List.length_append]; omega)
end
end Go.Proofs.YtdjofooggofpkaaDoor
