/-
  Manifests (api.Manifest) as values and in memory: loaded, stored, handed back.
-/
import Derived.Test.YtillhpgdlmeajaaGreatDoorKMSpec
import Derived.Test.YtillhpgdlmeajaaGreatDoorKRGrows
import Derived.Laws.ResultCell
import Derived.Laws.Rows
import Derived.Deep.MidRow
namespace Go.Proofs.YtillhpgdlmeajaaGreatDoor
open Go.RowKit
open Go.Proofs

/-- v is the manifest m. -/
def MV (w : World) (v : Value) (m : Mf) : Prop :=
  ∃ af nf cf an nn cn, v = .agg #[.string m.s, .int .u32 m.v, .slice af nf cf, .slice an nn cn] ∧ Sl w (.slice af nf cf) m.f ∧ Sl w (.slice an nn cn) m.n ∧ m.ok
theorem MV.kept {w w' : World} {v : Value} {m : Mf} (h : MV w v m) (k : Kp [] w w') : MV w' v m := by
  obtain ⟨af, nf, cf, an, nn, cn, e, h1, h2, h3⟩ := h
  exact ⟨af, nf, cf, an, nn, cn, e, h1.kept k (by simp), h2.kept k (by simp), h3⟩
theorem MV.ok {w : World} {v : Value} {m : Mf} (h : MV w v m) : m.ok := by
  obtain ⟨_, _, _, _, _, _, _, _, _, h3⟩ := h
  exact h3
theorem sl_nlenM {w : World} {ao : Option Addr} {n c : Nat} {bs : List Int} (h : Sl w (.slice ao n c) bs) : n = bs.length := by
  obtain ⟨_, _, e, _⟩ := h
  injection e
/-- a manifest that is nothing. -/
def man0 : Value := .agg #[.string ⟨#[]⟩, .int .u32 0, .slice none 0 0, .slice none 0 0]
theorem man0_v (w : World) : MV w man0 mf0 := ⟨none, 0, 0, none, 0, 0, rfl, Sl.nil w, Sl.nil w, mf0_ok⟩

theorem Tryz.manSize : (Tryz.prog.info? 160).map (·.size) = some 4 := by kernel_rfl
section
variable {w : World} {g : Nat} {x y z u : Value} {fr : Nat × Nat}
theorem load_man (hg : w.heap[g]? = some (.cells #[x, y, z, u] 160 fr)) : (loadVar 160 ⟨g, 0, none⟩).run Tryz.prog w = .ok (.agg #[x, y, z, u]) w :=
  run_loadVar_row w g 160 160 #[x, y, z, u] fr _ hg Tryz.underlying160 rfl Tryz.manSize
theorem cell_man {t : TypeId} (hg : w.heap[g]? = some (.cells #[x, y, z, u] t fr)) : w.cell? ⟨g, 0, none⟩ = some x ∧ w.cell? ⟨g, 1, none⟩ = some y ∧ w.cell? ⟨g, 2, none⟩ = some z ∧ w.cell? ⟨g, 3, none⟩ = some u := by
  refine ⟨?_, ?_, ?_, ?_⟩ <;> rw [cell_of_row w g _ _ _ _ hg] <;> rfl
theorem results_man {fn : Func} {p r : Tmp} (h : fn.results = #[.cell p 160, .tmp r]) (tmps : Array Value) (hp : tmps.getD p undef = .pointer (some ⟨g, 0, none⟩)) (hg : w.heap[g]? = some (.cells #[x, y, z, u] 160 fr)) : (results fn tmps).run Tryz.prog w = .ok (.tuple #[.agg #[x, y, z, u], tmps.getD r undef]) w := by
  rw [results_cell_tmp h, hp]
  simp [asAddr, Result.andThen, load_man hg]
theorem results_man1 {fn : Func} {p : Tmp} (h : fn.results = #[.cell p 160]) (tmps : Array Value) (hp : tmps.getD p undef = .pointer (some ⟨g, 0, none⟩)) (hg : w.heap[g]? = some (.cells #[x, y, z, u] 160 fr)) : (results fn tmps).run Tryz.prog w = .ok (.agg #[x, y, z, u]) w :=
  results_cell_row h tmps w g 160 #[x, y, z, u] fr _ hp hg Tryz.underlying160 rfl Tryz.manSize
theorem kp_mcells (w : World) (g : Nat) : ∀ (l : List Value) (o : Nat) (w1 : World), Kp [g] w w1 → Kp [g] w (w1.setCells g o l)
  | [], _, _, h => h
  | x :: l, o, w1, h => kp_mcells w g l (o + 1) _ (h.setCell (p := ⟨g, o, none⟩) (.inl (by simp)) x)
theorem setCell_kpm (w : World) (g j : Nat) (u : Value) : Kp [g] w (w.setCell ⟨g, j, none⟩ u) := (Kp.refl [g] w).setCell (p := ⟨g, j, none⟩) (.inl (by simp)) _
theorem wpList_store_man {ops : Array Oper} {rest : List Oper} {o : Oper} {a : Act} {Q : Exit → Act → World → Prop} (hgd : o.guard = none) (p r : Operand) (ho : o.op = .store 160 p r) (g : Nat) (hp : a.eval p = .pointer (some ⟨g, 0, none⟩)) (x0 y0 z0 u0 x y z u : Value)
    (hg : w.heap[g]? = some (.cells #[x0, y0, z0, u0] 160 (0, 0))) (hu : a.eval r = .agg #[x, y, z, u]) (h1 : x.oneCell' = true ∧ y.oneCell' = true ∧ z.oneCell' = true ∧ u.oneCell' = true)
    (h : ∀ w', w'.heap[g]? = some (.cells #[x, y, z, u] 160 (0, 0)) → Kp [g] w w' → wpList Tryz.prog ops Q rest (a.put o.dst undef) w') : wpList Tryz.prog ops Q (o :: rest) a w := by
  refine wpList_store_mid hgd 160 p r ho g 0 #[x, y, z, u] hp hu ?_ (by simpa using Tryz.manSize) (all_oneCell_toArray (by simp [h1])) ?_
  · intro j hj
    simp only [List.size_toArray, List.length_cons, List.length_nil] at hj
    rw [Nat.zero_add, cell_of_row w g j _ _ _ hg]
    refine ⟨?_, frozen_of_row w g j _ _ hg⟩
    rcases (by omega : j = 0 ∨ j = 1 ∨ j = 2 ∨ j = 3) with rfl | rfl | rfl | rfl <;> rfl
  · refine h _ ?_ (kp_mcells w g _ 0 w (Kp.refl _ _))
    simp only [World.setCells]
    have e1 := heap_setCell_same w g 0 _ _ x hg
    have e2 := heap_setCell_same (w.setCell ⟨g, 0, none⟩ x) g 1 _ _ y e1
    have e3 := heap_setCell_same ((w.setCell ⟨g, 0, none⟩ x).setCell ⟨g, 1, none⟩ y) g 2 _ _ z e2
    have e4 := heap_setCell_same (((w.setCell ⟨g, 0, none⟩ x).setCell ⟨g, 1, none⟩ y).setCell ⟨g, 2, none⟩ z) g 3 _ _ u e3
    simpa using e4
end
/-- The value is the manifest m. -/
def MvT (m : Mf) : Tell := fun v w => MV w v m
theorem stable_mv (m : Mf) : Tell.stable (MvT m) := fun _ _ _ k h => h.kept k
section
variable {o : Oper} {a : Act} {w : World} {R : Tell} {g : Nat} {x y z u : Value} {fr : Nat × Nat}
theorem grown_loadman (p : Operand) (ho : o.op = .load 160 p) (hp : a.eval p = .pointer (some ⟨g, 0, none⟩)) (hg : w.heap[g]? = some (.cells #[x, y, z, u] 160 fr)) (hR : R (.agg #[x, y, z, u]) w) : grown Tryz.prog w R ((execOp a.eval o).run Tryz.prog w) := by
  refine grown_run ?_ (Kp.refl _ _) hR
  unfold execOp
  simp only [ho, hp, Instr.loadAt, Instr.sureAddr, Sem.run_bind, Sem.run_pure, Result.andThen_ok, load_man hg]
theorem man_fld (g j : Nat) (hj : j < 4) (w : World) : (Instr.fieldAt 160 (.pointer (some ⟨g, 0, none⟩)) j).run Tryz.prog w = .ok (.pointer (some ⟨g, j, none⟩)) w := by
  rcases (by omega : j = 0 ∨ j = 1 ∨ j = 2 ∨ j = 3) with rfl | rfl | rfl | rfl <;> simp [go_sem]
theorem grown_mfld (p : Operand) (j : Nat) (hj : j < 4) (ho : o.op = .fieldAddr 160 p j) (hp : a.eval p = .pointer (some ⟨g, 0, none⟩)) : grown Tryz.prog w (Is (.pointer (some ⟨g, j, none⟩))) ((execOp a.eval o).run Tryz.prog w) := by
  refine grown_run ?_ (Kp.refl _ _) rfl
  unfold execOp
  simp only [ho, hp, Sem.run_bind, man_fld g j hj w, Result.andThen_ok, Sem.run_pure]
theorem grown_lds (p : Operand) (ho : o.op = .load 9 p) (j : Nat) (S : ByteArray) (hp : a.eval p = .pointer (some ⟨g, j, none⟩)) (hc : w.cell? ⟨g, j, none⟩ = some (.string S)) : grown Tryz.prog w (Is (.string S)) ((execOp a.eval o).run Tryz.prog w) := by
  refine grown_run (v := .string S) ?_ (Kp.refl _ _) rfl
  obtain ⟨ρ, hρ, _⟩ := eval_is a
  rw [hρ] at hp ⊢
  unfold execOp
  simp only [ho]
  simp [go_sem, hp, hc]
theorem grown_ldu (p : Operand) (ho : o.op = .load 103 p) (j : Nat) (i : Int) (hp : a.eval p = .pointer (some ⟨g, j, none⟩)) (hc : w.cell? ⟨g, j, none⟩ = some (.int .u32 i)) : grown Tryz.prog w (Is (.int .u32 i)) ((execOp a.eval o).run Tryz.prog w) := by
  refine grown_run (v := .int .u32 i) ?_ (Kp.refl _ _) rfl
  obtain ⟨ρ, hρ, _⟩ := eval_is a
  rw [hρ] at hp ⊢
  unfold execOp
  simp only [ho]
  simp [go_sem, hp, hc]
theorem grown_ldb (p : Operand) (ho : o.op = .load 22 p) (j : Nat) (ao : Option Addr) (m c : Nat) (hp : a.eval p = .pointer (some ⟨g, j, none⟩)) (hc : w.cell? ⟨g, j, none⟩ = some (.slice ao m c)) : grown Tryz.prog w (Is (.slice ao m c)) ((execOp a.eval o).run Tryz.prog w) := by
  refine grown_run (v := .slice ao m c) ?_ (Kp.refl _ _) rfl
  obtain ⟨ρ, hρ, _⟩ := eval_is a
  rw [hρ] at hp ⊢
  unfold execOp
  simp only [ho]
  simp [go_sem, hp, hc]
end
/-- bytes do not lie in a block that holds none. -/
theorem sl_block {w : World} {v : Value} {bs : List Int} {g : Nat} {cs : Array Value} {t : TypeId} {fr : Nat × Nat} (h : Sl w v bs) (hg : w.heap[g]? = some (.cells cs t fr)) (hn : ∀ x ∈ cs.toList, ∀ y, x ≠ .int .u8 y) (hv : v.ownBlock = some g) : bs = [] := by
  by_cases hb0 : bs = []
  · exact hb0
  · obtain ⟨ao', c', e, h1, _, h3, h4⟩ := h
    cases ao' with
    | none => exact List.eq_nil_of_length_eq_zero (by have := h3 rfl; omega)
    | some ad =>
      have hpos : 0 < bs.length := List.length_pos_iff.2 hb0
      have hc := h4 ad rfl 0 (.int .u8 bs[0]) (by simp [List.getElem?_eq_getElem hpos])
      rw [e] at hv
      have hbk : ad.block = g := by simpa [Value.ownBlock] using hv
      rw [Addr.add_zero'] at hc
      have hsp := World.cell?_spot hc
      obtain ⟨b, off, sp⟩ := ad
      simp only at hsp hbk
      subst hsp
      subst hbk
      rw [cell_of_row w b off _ _ _ hg] at hc
      exact absurd rfl (hn _ (by simpa using Array.mem_of_getElem? hc) bs[0])
theorem sl_empty {w w' : World} {ao : Option Addr} {n c : Nat} (h : Sl w (.slice ao n c) []) : Sl w' (.slice ao n c) [] := by
  obtain ⟨ao', c', e, h1, h2, h3, _⟩ := h
  exact ⟨ao', c', e, h1, h2, h3, fun a _ j u hu => by simp at hu⟩
/-- blocks that hold no bytes. -/
def NoBy (w : World) (S : List Nat) : Prop := ∀ g ∈ S, ∃ cs t fr, w.heap[g]? = some (.cells cs t fr) ∧ ∀ x ∈ cs.toList, ∀ y, x ≠ .int .u8 y
theorem Sl.offBy {w w' : World} {ao : Option Addr} {n c : Nat} {bs : List Int} {S : List Nat} (h : Sl w (.slice ao n c) bs) (hS : NoBy w S) (k : Kp S w w') : Sl w' (.slice ao n c) bs := by
  by_cases hb : bs = []
  · subst hb; exact sl_empty h
  · refine h.kept k (fun i hi hm => hb ?_)
    obtain ⟨cs, t, fr, hg, hn⟩ := hS i hm
    exact sl_block h hg hn hi
theorem man_no {S : ByteArray} {i : Int} {v u : Value} (hv : ∀ y, v ≠ .int .u8 y) (hu : ∀ y, u ≠ .int .u8 y) : ∀ x ∈ (#[Value.string S, .int .u32 i, v, u]).toList, ∀ y, x ≠ .int .u8 y := by
  intro x hx y
  rcases (by simpa using hx : x = .string S ∨ x = .int .u32 i ∨ x = v ∨ x = u) with rfl | rfl | rfl | rfl
  · simp
  · simp
  · exact hv y
  · exact hu y
theorem noBy_man {w : World} {g : Nat} {S : ByteArray} {i : Int} {a1 a2 : Option Addr} {n1 c1 n2 c2 : Nat} {t : TypeId} {fr : Nat × Nat} (hg : w.heap[g]? = some (.cells #[.string S, .int .u32 i, .slice a1 n1 c1, .slice a2 n2 c2] t fr)) : NoBy w [g] := by
  intro x hx
  obtain rfl : x = g := by simpa using hx
  exact ⟨_, _, _, hg, man_no (by simp) (by simp)⟩
theorem MV.offBy {w w' : World} {v : Value} {m : Mf} {S : List Nat} (h : MV w v m) (hS : NoBy w S) (k : Kp S w w') : MV w' v m := by
  obtain ⟨af, nf, cf, an, nn, cn, e, h1, h2, h3⟩ := h
  exact ⟨af, nf, cf, an, nn, cn, e, h1.offBy hS k, h2.offBy hS k, h3⟩
end Go.Proofs.YtillhpgdlmeajaaGreatDoor
