/-
  Rows of bytes with zeros in their room: a nought that is appended changes no cell that was there.
-/
import Derived.Test.YtdioaohejoflcaaDoorM17
import Derived.Test.YtdioaohejoflcaaDoorM12
import Derived.Test.YtdioaohejoflcaaDoorM16
namespace Go.Proofs.YtdioaohejoflcaaDoor
open Go.ChangeShapes Go.WideShapes Go.ChangeAt Go.RowKit
open Go.Deep

/-- a row of bytes with noughts in its room. -/
def ZRow (bs : List Int) : Tell := fun v w => ∃ (g k : Nat) (cur : Array Value), v = .slice (some ⟨g, 0, none⟩) bs.length (bs.length + k) ∧ bs.length + k ≤ maxLen ∧ w.heap[g]? = some (.cells cur 5 (0, 0)) ∧ (∀ (j : Nat) (u : Value), (bs.map (Value.int .u8))[j]? = some u → cur[j]? = some u) ∧ ∀ j : Nat, bs.length ≤ j → j < bs.length + k → cur[j]? = some (.int .u8 0)
theorem stable_zrow (bs : List Int) : Tell.stable (ZRow bs) := fun _ _ _ k ⟨g, n, cur, e, h1, h2, h3, h4⟩ => ⟨g, n, cur, e, h1, k.heap h2 (by simp), h3, h4⟩
theorem ZRow.sl {bs : List Int} {v : Value} {w : World} (h : ZRow bs v w) : Sl w v bs := by
  obtain ⟨g, k, cur, rfl, h1, h2, h3, h4⟩ := h
  refine ⟨some ⟨g, 0, none⟩, _, rfl, by omega, h1, (fun e => by cases e), fun a ha j u hu => ?_⟩
  injection ha with ha
  subst ha
  rw [Addr.add_lit, Nat.zero_add, cell_of_row w g j _ _ _ h2]
  exact h3 j u hu
theorem zero_at (k j : Nat) (h : j < k) : (Builtin.zeroCells #[Value.int .u8 0] k)[j]? = some (.int .u8 0) := by
  simp [Builtin.zeroCells, h, Nat.mod_one]
theorem grown_append_z {o : Oper} {a : Act} {w : World} {R : Tell} (s x : Operand) (cs : List Int) (ho : o.op = .call { callee := .builtin .append, args := #[s, x], argTypes := #[24, 24] })
    (hs : Full [] (a.eval s) w) (hx : Sl w (a.eval x) cs) (hne : cs ≠ []) (hb : cs.length ≤ 1000000) (hR : ∀ v w', ZRow cs v w' → R v w') : grown Tryd.prog w R ((execOp a.eval o).run Tryd.prog w) := by
  obtain ⟨i0, hi0, hz0, hz1, hz2⟩ := info_parts Tryd.info5
  obtain ⟨⟨b, hv⟩, _⟩ := hs
  obtain ⟨ax, cx, hxv, h1, h2, h3, h4⟩ := hx
  have hpos : 0 < cs.length := List.length_pos_iff.2 hne
  cases ax with
  | none => have := h3 rfl; omega
  | some ad =>
    have hg := grownCap_ge w (0 + cs.length) 0 5
    have hm := grownCap_le_maxLen w (0 + cs.length) 0 5 (by unfold maxLen; omega)
    have hrun := run_append_grow (P := Tryd.prog) w 24 o.type 5 i0 (.int .u8 0) Tryd.underlying24 hi0 hz0 b 0 0 [] (by simp) (by simp) ad cs.length cx (cs.map (Value.int .u8)) (by simp [hz1]) (h4 ad rfl) (by omega) (by omega) (growslice_fits (by omega) (by rw [hz2]; omega))
    obtain ⟨vv, hvv⟩ : ∃ v, v = Value.slice (some ⟨w.heap.size, 0, none⟩) (0 + cs.length) (grownCap w (0 + cs.length) 0 5) := ⟨_, rfl⟩
    obtain ⟨ob, hob⟩ : ∃ o, o = Obj.cells (([] : List Value).toArray ++ (cs.map (Value.int .u8)).toArray ++ Builtin.zeroCells (Value.int .u8 0).cells (grownCap w (0 + cs.length) 0 5 - (0 + cs.length))) 5 := ⟨_, rfl⟩
    rw [← hvv, ← hob] at hrun
    refine grown_run (v := vv) (w' := w.drew.alloc ob) ?_ ((kp_drew w).alloc _) (hR _ _ ?_)
    · simp [execOp, ho, resolve, invoke, builtin, hv, hxv, hrun, Result.andThen]
    · rw [hvv, hob]
      generalize grownCap w (0 + cs.length) 0 5 = gc at hg hm ⊢
      refine ⟨w.heap.size, gc - cs.length, _, ?_, by omega, heap_alloc_new w.drew _, fun j u hu => ?_, fun j h5 h6 => ?_⟩
      · rw [Nat.zero_add, Nat.add_sub_cancel' (by omega)]
      · have hj : j < cs.length := by have := (List.getElem?_eq_some_iff.1 hu).1; simpa using this
        rw [Array.getElem?_append_left (by simpa using hj)]
        simpa using hu
      · rw [Array.getElem?_append_right (by simpa using h5)]
        exact zero_at _ _ (by simp; omega)
theorem grown_append_0 {o : Oper} {a : Act} {w : World} {R : Tell} (s x : Operand) (bs : List Int) (ho : o.op = .call { callee := .builtin .append, args := #[s, x], argTypes := #[24, 24] })
    (hs : ZRow bs (a.eval s) w) (hx : Sl w (a.eval x) [0]) (hb : bs.length ≤ 1000000) (hR : ∀ v w', Sl w' v (bs ++ [0]) → R v w') : grown Tryd.prog w R ((execOp a.eval o).run Tryd.prog w) := by
  obtain ⟨i0, hi0, hz0, hz1, hz2⟩ := info_parts Tryd.info5
  have hS := hs.sl
  obtain ⟨g, k, cur, hv, hm, hg, hc, h0⟩ := hs
  obtain ⟨ax, cx, hxv, h1, h2, h3, h4⟩ := hx
  cases ax with
  | none => have := h3 rfl; simp at h1; omega
  | some ad =>
    by_cases hk : k = 0
    · subst hk
      obtain ⟨ao', c', he, g1, g2, g3, g4⟩ := hS
      rw [hv] at he
      injection he with e1 e2 e3
      subst e1
      obtain ⟨v', w', hrun, r1, r2⟩ := run_append_arg_grows (P := Tryd.prog) w 24 o.type 5 i0 (.int .u8 0) 1 1 Tryd.underlying24 hi0 hz0 hz1 hz2 rfl (by decide) ⟨g, 0, none⟩ bs.length (bs.length + 0) (bs.map (Value.int .u8)) (by simp) (g4 _ rfl) ad 1 cx ([0].map (Value.int .u8)) (by simp) (h4 ad rfl) (by omega) (by unfold maxLen; omega) (by omega)
      refine grown_run (v := v') (w' := w') ?_ ((Kp.refl [] w).grown r2 (by intro k hk; cases hk)) (hR _ _ ?_)
      · simp [execOp, ho, resolve, invoke, builtin, hv, hxv, Result.andThen] at hrun ⊢
        rw [hrun]
      · rw [← List.map_append] at r1
        have := Sl.of_owns (bs := bs ++ [0]) (by simpa using r1)
        exact this
    · have hcell : w.cell? ⟨g, bs.length, none⟩ = some (.int .u8 0) := by rw [cell_of_row w g _ _ _ _ hg]; exact h0 _ (Nat.le_refl _) (by omega)
      have hrun := run_append_room_cells (P := Tryd.prog) w 24 o.type 5 i0 Tryd.underlying24 hi0 g 0 bs.length (bs.length + k) ad 1 cx [.int .u8 0] (by simp [hz1]) (by simpa using h4 ad rfl) (by simp [Value.oneCell']) (by omega) (fun j hj => by
        have : j = 0 := by simpa using hj
        subst this
        rw [hz1]
        simp [hcell]) (fun j hj => frozen_of_row w g _ _ _ hg)
      have hset : cur.setIfInBounds bs.length (.int .u8 0) = cur := by
        have := h0 bs.length (Nat.le_refl _) (by omega)
        obtain ⟨hlt, he⟩ := Array.getElem?_eq_some_iff.1 this
        refine Array.ext (by simp) (fun i h1 h2 => ?_)
        rw [Array.getElem_setIfInBounds (by simpa using h1)]
        split
        · next e => subst e; exact he.symm
        · rfl
      have hg' : (w.setCell ⟨g, bs.length, none⟩ (.int .u8 0)).heap[g]? = some (.cells cur 5 (0, 0)) := by rw [heap_setCell_same w g _ _ _ _ hg, hset]
      have hK : Kp [] w (w.setCell ⟨g, bs.length, none⟩ (.int .u8 0)) := by
        have k1 := setCell_kp w g bs.length (.int .u8 0)
        refine ⟨k1.os, k1.tape, k1.output, k1.size, fun j hj _ => ?_⟩
        by_cases e : j = g
        · subst e; rw [hg', hg]
        · exact k1.block j hj (by simpa using e)
      refine grown_run (v := .slice (some ⟨g, 0, none⟩) (bs.length + 1) (bs.length + k)) (w' := w.setCell ⟨g, bs.length, none⟩ (.int .u8 0)) ?_ hK (hR _ _ ?_)
      · simp [World.setCells, hz1] at hrun
        simp [execOp, ho, resolve, invoke, builtin, hv, hxv, Result.andThen] at hrun ⊢
        rw [hrun]
      · have := ZRow.sl (bs := bs ++ [0]) (w := w.setCell ⟨g, bs.length, none⟩ (.int .u8 0)) (v := .slice (some ⟨g, 0, none⟩) (bs.length + 1) (bs.length + k)) ⟨g, k - 1, cur, by simp; omega, by simp; omega, hg', fun j u hu => ?_, fun j h5 h6 => h0 j (by simp at h5; omega) (by simp at h6; omega)⟩
        · exact this
        · by_cases hj : j < bs.length
          · exact hc j u (by rw [← hu, List.map_append, List.getElem?_append_left (by simpa using hj)])
          · have hj' : j = bs.length := by have := (List.getElem?_eq_some_iff.1 hu).1; simp at this; omega
            subst hj'
            simp at hu
            subst hu
            exact h0 _ (Nat.le_refl _) (by omega)
end Go.Proofs.YtdioaohejoflcaaDoor
