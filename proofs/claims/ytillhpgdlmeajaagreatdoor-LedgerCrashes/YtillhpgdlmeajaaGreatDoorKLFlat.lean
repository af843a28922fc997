/-
  Structs of any number of cells in memory: stored whole or in part, loaded, handed back.
-/
import Derived.Test.YtillhpgdlmeajaaGreatDoorKRGrows
import Derived.Laws.ResultCell
import Derived.Laws.Rows
import Derived.Deep.MidRow
namespace Go.Proofs.YtillhpgdlmeajaaGreatDoor
open Go.RowKit
open Go.Proofs

/-- cells with others laid over them from a place on. -/
def putAll : Array Value → Nat → List Value → Array Value
  | C, _, [] => C
  | C, o, x :: l => putAll (C.setIfInBounds o x) (o + 1) l
theorem heap_fcells (g : Nat) (t : TypeId) : ∀ (l : List Value) (o : Nat) (w : World) (C : Array Value), w.heap[g]? = some (.cells C t (0, 0)) → (w.setCells g o l).heap[g]? = some (.cells (putAll C o l) t (0, 0))
  | [], _, _, _, h => h
  | x :: l, o, w, C, h => heap_fcells g t l (o + 1) _ _ (heap_setCell_same w g o C t x h)
theorem kp_fcells (w : World) (g : Nat) : ∀ (l : List Value) (o : Nat) (w1 : World), Kp [g] w w1 → Kp [g] w (w1.setCells g o l)
  | [], _, _, h => h
  | x :: l, o, w1, h => kp_fcells w g l (o + 1) _ (h.setCell (p := ⟨g, o, none⟩) (.inl (by simp)) x)
theorem kp_fcell (w : World) (g j : Nat) (u : Value) : Kp [g] w (w.setCell ⟨g, j, none⟩ u) := (Kp.refl [g] w).setCell (p := ⟨g, j, none⟩) (.inl (by simp)) _
theorem flat_range {w : World} {g : Nat} {C : Array Value} {t : TypeId} {fr : Nat × Nat} (hg : w.heap[g]? = some (.cells C t fr)) (o : Nat) (cs : List Value) (h : ∀ (j : Nat) v, cs[j]? = some v → C[o + j]? = some v) : w.rangeAt g o cs := fun j v hv => by
  rw [cell_of_row w g (o + j) C t fr hg]; exact h j v hv
theorem flat_in {C : Array Value} {off : Nat} {cs : List Value} (h : (C.toList.drop off).take cs.length = cs) : ∀ (j : Nat) v, cs[j]? = some v → C[off + j]? = some v := fun j v hv => by
  rw [← h, List.getElem?_take] at hv
  split at hv
  · rw [List.getElem?_drop] at hv
    simpa using hv
  · cases hv
/-- a struct stored whole, at a place within a block. -/
theorem wpList_store_flat {w : World} {ops : Array Oper} {rest : List Oper} {o : Oper} {a : Act} {Q : Exit → Act → World → Prop} (hgd : o.guard = none) (T : TypeId) (p r : Operand) (ho : o.op = .store T p r) (g off : Nat) (hp : a.eval p = .pointer (some ⟨g, off, none⟩)) (C : Array Value) (t : TypeId) (cs : List Value)
    (hg : w.heap[g]? = some (.cells C t (0, 0))) (hu : a.eval r = .agg cs.toArray) (hsz : off + cs.length ≤ C.size) (hi : (Tryz.prog.info? T).map (·.size) = some cs.length) (h1 : ∀ v ∈ cs, v.oneCell' = true) (C' : Array Value) (hC : putAll C off cs = C')
    (h : ∀ w', w'.heap[g]? = some (.cells C' t (0, 0)) → Kp [g] w w' → wpList Tryz.prog ops Q rest (a.put o.dst undef) w') : wpList Tryz.prog ops Q (o :: rest) a w := by
  refine wpList_store_mid hgd T p r ho g off cs.toArray hp hu ?_ (by simpa using hi) (all_oneCell_toArray h1) ?_
  · intro j hj
    simp only [List.size_toArray] at hj
    rw [cell_of_row w g (off + j) _ _ _ hg]
    refine ⟨?_, frozen_of_row w g (off + j) _ _ hg⟩
    rw [Array.getElem?_eq_getElem (by omega)]
    rfl
  · refine h _ ?_ (kp_fcells w g _ off w (Kp.refl _ _))
    rw [← hC]
    exact heap_fcells g t cs off w C hg
theorem step_store_flat {w : World} {ops : Array Oper} {o : Oper} {a : Act} {K : Act → World → Prop} {Q : Exit → Act → World → Prop} {E : Prop} (hgd : o.guard = none) (T : TypeId) (p r : Operand) (ho : o.op = .store T p r) (g off : Nat) (hp : a.eval p = .pointer (some ⟨g, off, none⟩)) (C : Array Value) (t : TypeId) (cs : List Value)
    (hg : w.heap[g]? = some (.cells C t (0, 0))) (hu : a.eval r = .agg cs.toArray) (hsz : off + cs.length ≤ C.size) (hi : (Tryz.prog.info? T).map (·.size) = some cs.length) (h1 : ∀ v ∈ cs, v.oneCell' = true) (C' : Array Value) (hC : putAll C off cs = C')
    (h : ∀ w', w'.heap[g]? = some (.cells C' t (0, 0)) → Kp [g] w w' → K (a.put o.dst undef) w') : if Region.wanted o (yielded ops a.tmps) = true then Oper.wp Tryz.prog o a w K Q else E := by
  have hw : Region.wanted o (yielded ops a.tmps) = true := by simp [Region.wanted, hgd]
  rw [if_pos hw]
  refine wp_store_mid T p r ho g off cs.toArray hp hu ?_ (by simpa using hi) (all_oneCell_toArray h1) ?_
  · intro j hj
    simp only [List.size_toArray] at hj
    rw [cell_of_row w g (off + j) _ _ _ hg]
    refine ⟨?_, frozen_of_row w g (off + j) _ _ hg⟩
    rw [Array.getElem?_eq_getElem (by omega)]
    rfl
  · refine h _ ?_ (kp_fcells w g _ off w (Kp.refl _ _))
    rw [← hC]
    exact heap_fcells g t cs off w C hg
theorem load_flat {w : World} {g off : Nat} {C : Array Value} {t T : TypeId} {fr : Nat × Nat} {d : TypeDesc} (hg : w.heap[g]? = some (.cells C t fr)) (cs : List Value) (hc : ∀ (j : Nat) v, cs[j]? = some v → C[off + j]? = some v)
    (hu : Tryz.prog.underlying T = some d) (hd : d.isRow = true) (hi : (Tryz.prog.info? T).map (·.size) = some cs.length) : (loadVar T ⟨g, off, none⟩).run Tryz.prog w = .ok (.agg cs.toArray) w :=
  run_loadVar_mid w g off T cs d (flat_range hg off cs hc) hu hd hi
theorem wpList_load_flat {w : World} {ops : Array Oper} {rest : List Oper} {o : Oper} {a : Act} {Q : Exit → Act → World → Prop} (hgd : o.guard = none) (T : TypeId) (x : Operand) (ho : o.op = .load T x) (g off : Nat) (hx : a.eval x = .pointer (some ⟨g, off, none⟩)) (C : Array Value) (t : TypeId) (fr : Nat × Nat) (d : TypeDesc) (hg : w.heap[g]? = some (.cells C t fr)) (cs : List Value) (hc : ∀ (j : Nat) v, cs[j]? = some v → C[off + j]? = some v)
    (hu : Tryz.prog.underlying T = some d) (hd : d.isRow = true) (hi : (Tryz.prog.info? T).map (·.size) = some cs.length)
    (h : wpList Tryz.prog ops Q rest (a.put o.dst (.agg cs.toArray)) w) : wpList Tryz.prog ops Q (o :: rest) a w :=
  wpList_load_mid hgd T x ho g off hx cs d (flat_range hg off cs hc) hu hd hi h
theorem grown_loadf {o : Oper} {a : Act} {w : World} {R : Tell} (T : TypeId) (p : Operand) (ho : o.op = .load T p) (g off : Nat) (hp : a.eval p = .pointer (some ⟨g, off, none⟩)) (C : Array Value) (t : TypeId) (fr : Nat × Nat) (d : TypeDesc) (hg : w.heap[g]? = some (.cells C t fr)) (cs : List Value) (hc : ∀ (j : Nat) v, cs[j]? = some v → C[off + j]? = some v)
    (hu : Tryz.prog.underlying T = some d) (hd : d.isRow = true) (hi : (Tryz.prog.info? T).map (·.size) = some cs.length) (hR : R (.agg cs.toArray) w) : grown Tryz.prog w R ((execOp a.eval o).run Tryz.prog w) := by
  refine grown_run ?_ (Kp.refl _ _) hR
  unfold execOp
  simp only [ho, hp, Instr.loadAt, Instr.sureAddr, Sem.run_bind, Sem.run_pure, Result.andThen_ok, load_flat hg cs hc hu hd hi]
theorem grown_loadc {o : Oper} {a : Act} {w : World} (T : TypeId) (p : Operand) (ho : o.op = .load T p) (g j : Nat) (v : Value) (hp : a.eval p = .pointer (some ⟨g, j, none⟩)) (hc : w.cell? ⟨g, j, none⟩ = some v) (hT : (loadVar T ⟨g, j, none⟩).run Tryz.prog w = (load ⟨g, j, none⟩).run Tryz.prog w) : grown Tryz.prog w (Is v) ((execOp a.eval o).run Tryz.prog w) := by
  refine grown_run (v := v) ?_ (Kp.refl _ _) rfl
  unfold execOp
  simp only [ho, hp, Instr.loadAt, Instr.sureAddr, Sem.run_bind, Sem.run_pure, Result.andThen_ok, hT]
  simp [go_sem, hc]
theorem load_whole {w : World} {g : Nat} {C : Array Value} {t T : TypeId} {fr : Nat × Nat} {d : TypeDesc} (hg : w.heap[g]? = some (.cells C t fr)) (hu : Tryz.prog.underlying T = some d) (hd : d.isRow = true) (hi : (Tryz.prog.info? T).map (·.size) = some C.size) : (loadVar T ⟨g, 0, none⟩).run Tryz.prog w = .ok (.agg C) w := by
  have := load_flat (off := 0) hg C.toList (fun j v hv => by rw [Nat.zero_add]; simpa using hv) hu hd (by simpa using hi)
  simpa using this
theorem results_flat1 {fn : Func} {p : Tmp} {T : TypeId} {w : World} {g : Nat} {C : Array Value} {t : TypeId} {fr : Nat × Nat} {d : TypeDesc} (h : fn.results = #[.cell p T]) (tmps : Array Value) (hp : tmps.getD p undef = .pointer (some ⟨g, 0, none⟩)) (hg : w.heap[g]? = some (.cells C t fr)) (hu : Tryz.prog.underlying T = some d) (hd : d.isRow = true) (hi : (Tryz.prog.info? T).map (·.size) = some C.size) : (results fn tmps).run Tryz.prog w = .ok (.agg C) w := by
  have hp' : tmps[p]?.getD undef = .pointer (some ⟨g, 0, none⟩) := by simpa using hp
  simp [results, h, hp', asAddr, load_whole hg hu hd hi]
theorem results_flat2 {fn : Func} {p u : Tmp} {T : TypeId} {w : World} {g : Nat} {C : Array Value} {t : TypeId} {fr : Nat × Nat} {d : TypeDesc} (h : fn.results = #[.cell p T, .tmp u]) (tmps : Array Value) (hp : tmps.getD p undef = .pointer (some ⟨g, 0, none⟩)) (hg : w.heap[g]? = some (.cells C t fr)) (hu : Tryz.prog.underlying T = some d) (hd : d.isRow = true) (hi : (Tryz.prog.info? T).map (·.size) = some C.size) : (results fn tmps).run Tryz.prog w = .ok (.tuple #[.agg C, tmps.getD u undef]) w := by
  rw [results_cell_tmp h, hp]
  simp [asAddr, Result.andThen, load_whole hg hu hd hi]
end Go.Proofs.YtillhpgdlmeajaaGreatDoor
