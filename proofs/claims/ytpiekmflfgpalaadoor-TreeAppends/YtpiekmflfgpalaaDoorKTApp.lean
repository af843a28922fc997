/-
  A list that is copied and has one more slice put behind it, in a region that draws: the copy's room holds nothing, or that slice.
-/
import Derived.Test.YtpiekmflfgpalaaDoorKTGrow
import Derived.Test.YtpiekmflfgpalaaDoorKRGrowK
import Derived.Test.YtpiekmflfgpalaaDoorKRGrowApp
import Derived.Test.YtpiekmflfgpalaaDoorKLSpot
namespace Go.Proofs.YtpiekmflfgpalaaDoor
open Go.RowKit

/-- each cell stays, or held a nil slice and holds X. -/
structure Kx (X : Value) (w w' : World) : Prop where
  cell : ∀ a v, w.cell? a = some v → w'.cell? a = some v ∨ (v = .slice none 0 0 ∧ w'.cell? a = some X)
  frozen : ∀ a v, w.cell? a = some v → w'.frozen? a = w.frozen? a
theorem Kp.frozen {w w' : World} (h : Kp [] w w') {a : Addr} {v : Value} (hc : w.cell? a = some v) : w'.frozen? a = w.frozen? a :=
  World.frozen?_of_block (h.block a.block (World.block_lt_of_cell? w a hc) (by simp))
theorem kx_step (X : Value) : StepK (Kx X) := ⟨fun _ => ⟨fun _ _ h => .inl h, fun _ _ _ => rfl⟩, fun _ _ h => ⟨fun _ _ hc => .inl (h.cell hc (by simp)), fun _ _ hc => h.frozen hc⟩⟩
theorem Kx.keeps {X : Value} {w w' : World} (h : Kx X w w') {a : Addr} {v : Value} (hc : w.cell? a = some v) (hv : v ≠ .slice none 0 0) : w'.cell? a = some v := (h.cell a v hc).resolve_right (fun e => hv e.1)
theorem Sl.kx {X : Value} {w w' : World} {v : Value} {bs : List Int} (h : Sl w v bs) (k : Kx X w w') : Sl w' v bs := by
  obtain ⟨ao, c, rfl, h1, h2, h3, h4⟩ := h
  refine ⟨ao, c, rfl, h1, h2, h3, fun a ha j u hu => k.keeps (h4 a ha j u hu) ?_⟩
  rw [List.getElem?_map] at hu
  obtain ⟨y, _, rfl⟩ := Option.map_eq_some_iff.1 hu
  intro e; cases e
/-- none of them is nil. -/
def Nn (l : List (Value × List Int)) : Prop := ∀ x ∈ l, x.1 ≠ .slice none 0 0
/-- a list as LcM tells it, of slices that are not nil. -/
def LcN (ls : List (List Int)) : Tell := fun v w => ∃ l, Lc w v l ∧ l.map (·.2) = ls ∧ Nn l
theorem LcN.lcm {ls : List (List Int)} {v : Value} {w : World} (h : LcN ls v w) : LcM ls v w := by obtain ⟨l, h1, h2, _⟩ := h; exact ⟨l, h1, h2⟩
theorem LcN.kept {ls : List (List Int)} {v : Value} {w w' : World} (h : LcN ls v w) (k : Kp [] w w') : LcN ls v w' := by obtain ⟨l, h1, h2, h3⟩ := h; exact ⟨l, h1.kept k, h2, h3⟩
theorem stableK_is {X : Value} (c : Value) : Tell.stableK (Kx X) (Is c) := fun _ _ _ _ h => h
theorem stableK_sl {X : Value} (bs : List Int) : Tell.stableK (Kx X) (SlT bs) := fun _ _ _ k h => h.kx k
theorem stableK_lcn {X : Value} (ls : List (List Int)) : Tell.stableK (Kx X) (LcN ls) := by
  rintro v w w' k ⟨l, ⟨⟨ao, c, e, h1, h2⟩, h3⟩, e2, hn⟩
  refine ⟨l, ⟨⟨ao, c, e, h1, fun i hi => ?_⟩, h3⟩, e2, hn⟩
  obtain ⟨b, off, e, h4, h5, h6⟩ := h2 i hi
  exact ⟨b, off, e, k.keeps h4 (hn _ (List.getElem_mem hi)), h5.kx k, h6⟩
/-- an empty slice without room. -/
def NoR : Tell := fun v _ => ∃ b, v = .slice (some b) 0 0
theorem stableK_nor {X : Value} : Tell.stableK (Kx X) NoR := fun _ _ _ _ h => h
/-- a slice of the one value X. -/
def OneX (X : Value) : Tell := fun v w => ∃ ad c, v = .slice (some ad) 1 c ∧ w.cell? (ad.add 0) = some X
theorem stableK_onex {X : Value} (hX : X ≠ .slice none 0 0) : Tell.stableK (Kx X) (OneX X) := fun _ _ _ k ⟨ad, c, e, h⟩ => ⟨ad, c, e, k.keeps h hX⟩
/-- a copy whose room holds nothing, or X. -/
def CopX (X : Value) (base : Nat) (ls : List (List Int)) : Tell := fun v w => ∃ (g k : Nat) (l : List (Value × List Int)), v = .slice (some ⟨g, 0, none⟩) l.length (l.length + k) ∧ l.length + k ≤ maxLen ∧ base ≤ g ∧ l.map (·.2) = ls ∧ Nn l ∧
  (∀ i (h : i < l.length), w.cell? ⟨g, i, none⟩ = some l[i].1 ∧ Sl w l[i].1 l[i].2 ∧ Bs l[i].2) ∧ ∀ j, l.length ≤ j → j < l.length + k → ∃ u, w.cell? ⟨g, j, none⟩ = some u ∧ (u = .slice none 0 0 ∨ u = X) ∧ w.frozen? ⟨g, j, none⟩ = false
theorem stableK_cop {X : Value} (base : Nat) (ls : List (List Int)) : Tell.stableK (Kx X) (CopX X base ls) := by
  rintro v w w' k ⟨g, n, l, e, h1, h2, h3, h4, h5, h6⟩
  refine ⟨g, n, l, e, h1, h2, h3, h4, fun i hi => ?_, fun j hj hj2 => ?_⟩
  · obtain ⟨c1, c2, c3⟩ := h5 i hi
    exact ⟨k.keeps c1 (h4 _ (List.getElem_mem hi)), c2.kx k, c3⟩
  · obtain ⟨u, c1, c2, c3⟩ := h6 j hj hj2
    have hf := k.frozen _ _ c1
    rcases k.cell _ _ c1 with c4 | ⟨_, c4⟩
    · exact ⟨u, c4, c2, by rw [hf, c3]⟩
    · exact ⟨X, c4, .inr rfl, by rw [hf, c3]⟩

theorem nil_zero_at (k j : Nat) (h : j < k) : (Builtin.zeroCells #[Value.slice none 0 0] k)[j]? = some (.slice none 0 0) := by
  simp [Builtin.zeroCells, h, Nat.mod_one]
section
variable {o : Oper} {a : Act} {w0 w : World} {X : Value}
theorem grown_nor (ho : o.op = .buildSlice 22 0 #[]) : grown Tryd.prog w NoR ((execOp a.eval o).run Tryd.prog w) := by
  refine grown_run (v := .slice (some ⟨w.heap.size, 0, none⟩) 0 0) (w' := w.alloc (.cells #[] 24)) ?_ ((Kp.refl _ _).alloc _) ⟨_, rfl⟩
  unfold execOp
  simp only [ho]
  simp [go_sem]
theorem grown_onex (x : Operand) (ho : o.op = .buildSlice 22 1 #[(0, x)]) (hx : a.eval x = X) (h1 : ∃ ax nx cx, X = .slice ax nx cx) : grown Tryd.prog w (OneX X) ((execOp a.eval o).run Tryd.prog w) := by
  obtain ⟨ax, nx, cx, rfl⟩ := h1
  refine grown_run (v := .slice (some ⟨w.heap.size, 0, none⟩) 1 1) (w' := w.alloc (.cells #[.slice ax nx cx] 24)) ?_ ((Kp.refl _ _).alloc _) ⟨_, _, rfl, cell_one_new _ _ _ 0 _ rfl⟩
  obtain ⟨ρ, hρ, hc, hf, hg⟩ := eval_is a
  rw [hρ] at hx ⊢
  unfold execOp
  simp only [ho]
  simp [go_sem, hx]
/-- a whole list copied behind nothing. -/
theorem grown_cop (s x : Operand) (ls : List (List Int)) (ho : o.op = .call { callee := .builtin .append, args := #[s, x], argTypes := #[22, 22] })
    (hk : Kp [] w0 w) (hs : NoR (a.eval s) w) (hx : LcN ls (a.eval x) w) (hne : ls ≠ []) (hb : ls.length ≤ 1000000) : grown Tryd.prog w (CopX X w0.heap.size ls) ((execOp a.eval o).run Tryd.prog w) := by
  obtain ⟨i0, hi0, hz0, hz1, hz2⟩ := info_parts Tryd.infoSl
  obtain ⟨b, hv⟩ := hs
  obtain ⟨l, ⟨⟨ax, cx, hxv, h1, h2⟩, _⟩, rfl, hn⟩ := hx
  rw [List.length_map] at hb
  have hpos : 0 < l.length := by cases l with | nil => exact absurd rfl hne | cons _ _ => simp
  obtain ⟨b0, off, rfl, _⟩ := h2 0 hpos
  have hcs : ∀ j u, (l.map (·.1))[j]? = some u → w.cell? ((⟨b0, off, none⟩ : Addr).add j) = some u := fun j u hu => by
    rw [List.getElem?_map] at hu
    obtain ⟨y, hy, rfl⟩ := Option.map_eq_some_iff.1 hu
    obtain ⟨hj, rfl⟩ := List.getElem?_eq_some_iff.1 hy
    obtain ⟨b1, off1, e1, h3, _⟩ := h2 j hj
    cases e1
    rw [Addr.add_lit]
    exact h3
  have hg := grownCap_ge w (0 + l.length) 0 24
  have hm := grownCap_le_maxLen w (0 + l.length) 0 24 (by unfold maxLen; omega)
  have hrun := run_append_grow (P := Tryd.prog) w 22 o.type 24 i0 (.slice none 0 0) Tryd.underlying22 hi0 hz0 b 0 0 [] (by simp) (by simp) ⟨b0, off, none⟩ l.length cx (l.map (·.1)) (by simp [hz1]) hcs (by omega) (by omega) (growslice_fits (by omega) (by rw [hz2]; omega))
  obtain ⟨vv, hvv⟩ : ∃ v, v = Value.slice (some ⟨w.heap.size, 0, none⟩) (0 + l.length) (grownCap w (0 + l.length) 0 24) := ⟨_, rfl⟩
  obtain ⟨ob, hob⟩ : ∃ o, o = Obj.cells (([] : List Value).toArray ++ (l.map (·.1)).toArray ++ Builtin.zeroCells (Value.slice none 0 0).cells (grownCap w (0 + l.length) 0 24 - (0 + l.length))) 24 := ⟨_, rfl⟩
  rw [← hvv, ← hob] at hrun
  have hKa : Kp [] w (w.drew.alloc ob) := (kp_drew w).alloc _
  have hnew := heap_alloc_new w.drew ob
  refine grown_run (v := vv) (w' := w.drew.alloc ob) ?_ hKa ?_
  · simp [execOp, ho, resolve, invoke, builtin, hv, hxv, hrun, Result.andThen]
  · clear hrun
    subst hob
    rw [hvv]
    clear hvv
    generalize grownCap w (0 + l.length) 0 24 = gc at hg hm hnew hKa ⊢
    have hsz : w.drew.heap.size = w.heap.size := rfl
    rw [hsz] at hnew
    refine ⟨w.heap.size, gc - l.length, l, by rw [Nat.zero_add, Nat.add_sub_cancel' (by omega)], by omega, hk.size, rfl, hn, fun i hi => ?_, fun j h5 h6 => ⟨.slice none 0 0, ?_, .inl rfl, frozen_of_row _ _ _ _ _ hnew⟩⟩
    · obtain ⟨b1, off1, e1, h3, h4, h5⟩ := h2 i hi
      refine ⟨?_, h4.kept hKa (by simp), h5⟩
      rw [cell_of_row _ _ i _ _ _ hnew, Array.getElem?_append_left (by simpa using hi)]
      simp [List.getElem?_eq_getElem hi]
    · rw [cell_of_row _ _ j _ _ _ hnew, Array.getElem?_append_right (by simpa using h5)]
      exact nil_zero_at _ _ (by simp; omega)
/-- X behind such a copy. -/
theorem wantsK_putx {ops : Array Oper} (hg : o.guard = none) (s x : Operand) (ls : List (List Int)) (xb : List Int) (ho : o.op = .call { callee := .builtin .append, args := #[s, x], argTypes := #[22, 22] })
    (hk : Kp [] w0 w) (hs : CopX X w0.heap.size ls (a.eval s) w) (hx : OneX X (a.eval x) w) (hX : X ≠ .slice none 0 0) (h1 : X.oneCell' = true) (hS : Sl w X xb) (hB : Bs xb) (hb : ls.length ≤ 1000000) : wantsK (Kx X) Tryd.prog ops o a w0 w (LcN (ls ++ [xb])) := by
  obtain ⟨i0, hi0, hz0, hz1, hz2⟩ := info_parts Tryd.infoSl
  obtain ⟨g, k, l, hv, hm, hgb, rfl, hn, hc, h0⟩ := hs
  obtain ⟨ad, cx, hxv, hxc⟩ := hx
  rw [List.length_map] at hb
  have hsrc : ∀ j u, [X][j]? = some u → w.cell? (ad.add j) = some u := fun j u hu => by
    have hj : j = 0 := by have := (List.getElem?_eq_some_iff.1 hu).1; simpa using this
    subst hj
    have : u = X := by simpa using hu.symm
    rw [this]; exact hxc
  have hcells : ∀ j u, (l.map (·.1))[j]? = some u → w.cell? ((⟨g, 0, none⟩ : Addr).add j) = some u := fun j u hu => by
    rw [List.getElem?_map] at hu
    obtain ⟨y, hy, rfl⟩ := Option.map_eq_some_iff.1 hu
    obtain ⟨hj, rfl⟩ := List.getElem?_eq_some_iff.1 hy
    rw [Addr.add_lit, Nat.zero_add]
    exact (hc j hj).1
  have hmap : (l ++ [(X, xb)]).map (·.2) = l.map (·.2) ++ [xb] := by simp
  have hnn : Nn (l ++ [(X, xb)]) := fun y hy => by
    rcases List.mem_append.1 hy with hy | hy
    · exact hn y hy
    · obtain rfl : y = (X, xb) := by simpa using hy
      exact hX
  unfold wantsK
  rw [if_pos (by simp [Region.wanted, hg])]
  by_cases hk0 : k = 0
  · subst hk0
    obtain ⟨v', w', hrun, r1, r2⟩ := run_append_arg_grows (P := Tryd.prog) w 22 o.type 24 i0 (.slice none 0 0) 1 24 Tryd.underlying22 hi0 hz0 hz1 hz2 rfl (by decide) ⟨g, 0, none⟩ l.length (l.length + 0) (l.map (·.1)) (by simp) hcells ad 1 cx [X] (by simp) hsrc (by omega) (by unfold maxLen; omega) (by omega)
    have hK : Kp [] w w' := (Kp.refl [] w).grown r2 (by intro k hk; cases hk)
    have e : (execOp a.eval o).run Tryd.prog w = .ok (.value v') w' := by
      simp [execOp, ho, resolve, invoke, builtin, hv, hxv, Result.andThen] at hrun ⊢
      rw [hrun]
    rw [e]
    have hr : RowV w' w.heap.size v' ((l ++ [(X, xb)]).map (·.1)) := by
      unfold RowV
      rw [List.length_map, List.length_append, List.map_append]
      exact r1
    refine ⟨⟨(kx_step X).kp _ _ hK, hk.trans hK⟩, l ++ [(X, xb)], ?_, hmap, hnn⟩
    have hel : ∀ y ∈ l ++ [(X, xb)], Sl w' y.1 y.2 ∧ Bs y.2 := fun y hy => by
      rcases List.mem_append.1 hy with hy | hy
      · obtain ⟨i, hi, rfl⟩ := List.getElem_of_mem hy
        exact ⟨(hc i hi).2.1.kept hK (by simp), (hc i hi).2.2⟩
      · obtain rfl : y = (X, xb) := by simpa using hy
        exact ⟨hS.kept hK (by simp), hB⟩
    refine lc_of_owns hr ?_
    rcases hr.2 with ⟨_, h0'⟩ | ⟨g', cap, cur, rfl, _⟩
    · simp at h0'
    · refine ⟨some ⟨g', 0, none⟩, cap, by simp, by simp; omega, fun i hi => ⟨g', 0, rfl, ?_, hel _ (List.getElem_mem hi)⟩⟩
      have := World.ownsRow.cells hr (g := g') rfl i (l ++ [(X, xb)])[i].1 (by rw [List.getElem?_map, List.getElem?_eq_getElem hi]; rfl)
      simpa [Addr.add_lit] using this
  · obtain ⟨u, hu, hux, huf⟩ := h0 l.length (Nat.le_refl _) (by omega)
    have hrun := run_append_room_cells (P := Tryd.prog) w 22 o.type 24 i0 Tryd.underlying22 hi0 g 0 l.length (l.length + k) ad 1 cx [X] (by simp [hz1]) hsrc (by simpa using h1) (by omega) (fun j hj => by
      have : j = 0 := by simpa using hj
      subst this
      rw [hz1]
      simp [hu]) (fun j hj => by
      have : j = 0 := by simpa using hj
      subst this
      rw [hz1]
      simpa using huf)
    have e : (execOp a.eval o).run Tryd.prog w = .ok (.value (.slice (some ⟨g, 0, none⟩) (l.length + 1) (l.length + k))) (w.setCell ⟨g, l.length, none⟩ X) := by
      simp [World.setCells, hz1] at hrun
      simp [execOp, ho, resolve, invoke, builtin, hv, hxv, Result.andThen] at hrun ⊢
      rw [hrun]
    rw [e]
    have hKx : Kx X w (w.setCell ⟨g, l.length, none⟩ X) := by
      refine ⟨fun p y hp => ?_, fun p y hp => World.frozen?_setCell ..⟩
      by_cases he : p = ⟨g, l.length, none⟩
      · subst he
        rw [hu] at hp
        cases hp
        rw [cell_setCell_same hu]
        rcases hux with rfl | rfl
        · exact .inr ⟨rfl, rfl⟩
        · exact .inl rfl
      · rw [cell_setCell_ne rfl he (spot_of_cell hp)]
        exact .inl hp
    have hK : Kp [] w0 (w.setCell ⟨g, l.length, none⟩ X) := hk.setCell (p := ⟨g, l.length, none⟩) (.inr hgb) _
    refine ⟨⟨hKx, hK⟩, l ++ [(X, xb)], ⟨⟨some ⟨g, 0, none⟩, l.length + k, by simp, by simp; omega, fun i hi => ⟨g, 0, rfl, ?_⟩⟩, some ⟨g, 0, none⟩, l.length + k, by simp, by simp; omega, hm, fun h => by cases h⟩, hmap, hnn⟩
    rw [Nat.zero_add]
    by_cases hi2 : i < l.length
    · rw [List.getElem_append_left hi2]
      obtain ⟨c1, c2, c3⟩ := hc i hi2
      exact ⟨hKx.keeps c1 (hn _ (List.getElem_mem hi2)), c2.kx hKx, c3⟩
    · have hie : i = l.length := by simp at hi; omega
      subst hie
      rw [List.getElem_append_right (Nat.le_refl _)]
      simp only [Nat.sub_self, List.getElem_cons_zero]
      exact ⟨cell_setCell_same hu, hS.kx hKx, hB⟩
end
end Go.Proofs.YtpiekmflfgpalaaDoor
