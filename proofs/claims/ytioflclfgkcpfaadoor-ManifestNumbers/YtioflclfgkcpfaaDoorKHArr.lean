/-
  Arrays of words: as values, in memory; how a walk makes, reads and writes them whole.
-/
import Derived.Test.YtioflclfgkcpfaaDoorKHSpec
import Derived.Deep.MidRow
import Derived.Laws.Rows
import Derived.Laws.NewBlocks
namespace Go.Proofs.YtioflclfgkcpfaaDoor
open Go.RowKit

/-- The array of these words, as a value. -/
def ag (s : List Int) : Value := .agg (s.map (Value.int .u32)).toArray
/-- The block b holds the array of these words. -/
def Ar (w : World) (b : Nat) (t : TypeId) (s : List Int) : Prop := w.heap[b]? = some (.cells (s.map (Value.int .u32)).toArray t (0, 0))
theorem Ar.kept {w w' : World} {b : Nat} {t : TypeId} {s : List Int} {S : List Nat} (h : Ar w b t s) (k : Kp S w w') (hb : b ∉ S) : Ar w' b t s := k.heap h hb
theorem Ar.lt {w : World} {b : Nat} {t : TypeId} {s : List Int} (h : Ar w b t s) : b < w.heap.size := (Array.getElem?_eq_some_iff.1 h).1
theorem Ar.drewN {w : World} {b : Nat} {t : TypeId} {s : List Int} (h : Ar w b t s) (n : Nat) : Ar (w.drewN n) b t s := h
theorem Ar.cell {w : World} {b : Nat} {t : TypeId} {s : List Int} (h : Ar w b t s) (i : Nat) (hi : i < s.length) : w.cell? ⟨b, i, none⟩ = some (.int .u32 (s.getD i 0)) := by
  rw [cell_of_row w b i _ t (0, 0) h]
  simp [List.getElem?_eq_getElem hi]
theorem Ar.frozen {w : World} {b : Nat} {t : TypeId} {s : List Int} (h : Ar w b t s) (i : Nat) : w.frozen? ⟨b, i, none⟩ = false := frozen_of_row w b i _ t h
theorem Ar.set {w : World} {b : Nat} {t : TypeId} {s : List Int} (h : Ar w b t s) (i : Nat) (x : Int) : Ar (w.setCell ⟨b, i, none⟩ (.int .u32 x)) b t (s.set i x) := by
  have := heap_setCell_same w b i _ t (.int .u32 x) h
  unfold Ar
  rw [this]
  simp [List.map_set]

section
variable {ops : Array Oper} {rest : List Oper} {o : Oper} {a : Act} {w : World} {Q : Exit → Act → World → Prop}

theorem wpList_box_ar (hgd : o.guard = none) (ty : TypeId) (x : Operand) (ho : o.op = .box ty x) (s : List Int) (hx : a.eval x = ag s)
    (h : ∀ w', Ar w' w.heap.size ty s → Kp [] w w' → w'.heap.size = w.heap.size + 1 → wpList Tryd.prog ops Q rest (a.put o.dst (.pointer (some ⟨w.heap.size, 0, none⟩))) w') : wpList Tryd.prog ops Q (o :: rest) a w := by
  refine wpList_plain hgd fun K hK => ?_
  have e : (Instr.box ty (ag s)).run Tryd.prog w = .ok (.pointer (some ⟨w.heap.size, 0, none⟩)) (w.alloc (.cells (s.map (Value.int .u32)).toArray ty)) := by
    simp [Instr.box, newVar, ag, Value.cells, go_sem]
  unfold Oper.wp execOp
  simp only [ho, hx, Sem.run_bind, e, Sem.run_pure, Result.andThen_ok]
  exact hK _ _ (h _ (heap_alloc_new w _) ((Kp.refl [] w).alloc _) (by simp))

theorem wpList_alloc_ar (hgd : o.guard = none) (ty : TypeId) (ho : o.op = .alloc ty) (i : TypeInfo) (s : List Int) (hi : Tryd.prog.info? ty = some i) (hz : i.zero = some (ag s))
    (h : ∀ w', Ar w' w.heap.size ty s → Kp [] w w' → w'.heap.size = w.heap.size + 1 → wpList Tryd.prog ops Q rest (a.put o.dst (.pointer (some ⟨w.heap.size, 0, none⟩))) w') : wpList Tryd.prog ops Q (o :: rest) a w := by
  refine wpList_plain hgd fun K hK => ?_
  have e : (Instr.alloc ty true (.tuple #[])).run Tryd.prog w = .ok (.pointer (some ⟨w.heap.size, 0, none⟩)) (w.alloc (.cells (s.map (Value.int .u32)).toArray ty)) := by
    simp [Instr.alloc, zeroValue, typeInfo, hi, hz, newVar, ag, Value.cells, go_sem]
  unfold Oper.wp execOp
  simp only [ho, Sem.run_bind, e, Sem.run_pure, Result.andThen_ok]
  exact hK _ _ (h _ (heap_alloc_new w _) ((Kp.refl [] w).alloc _) (by simp))

theorem wpList_load_ar (hgd : o.guard = none) (ty : TypeId) (x : Operand) (ho : o.op = .load ty x) (b : Nat) (hx : a.eval x = .pointer (some ⟨b, 0, none⟩)) (t : TypeId) (s : List Int) (n : Nat) (e : TypeId) (hA : Ar w b t s)
    (hu : Tryd.prog.underlying ty = some (.array n e)) (hi : (Tryd.prog.info? ty).map (·.size) = some s.length)
    (h : wpList Tryd.prog ops Q rest (a.put o.dst (ag s)) w) : wpList Tryd.prog ops Q (o :: rest) a w :=
  wpList_load_row hgd ty x ho b hx t _ (0, 0) (.array n e) hA hu rfl (by simpa using hi) h

theorem kp_setCells (w : World) (b : Nat) : ∀ (vs : List Value) (o : Nat) (w1 : World), Kp [b] w w1 → Kp [b] w (w1.setCells b o vs)
  | [], _, _, h => h
  | v :: r, o, w1, h => kp_setCells w b r (o + 1) _ (h.setCell (p := ⟨b, o, none⟩) (.inl (by simp)) v)
theorem ar_setCells (b : Nat) (t : TypeId) (ys : List Int) : ∀ (o : Nat) (s : List Int) (w : World), Ar w b t s → o + ys.length = s.length → Ar (w.setCells b o (ys.map (Value.int .u32))) b t (s.take o ++ ys) := by
  induction ys with
  | nil =>
    intro o s w h hl
    simp only [List.length_nil, Nat.add_zero] at hl
    simp only [List.map_nil, World.setCells, List.append_nil]
    rw [List.take_of_length_le (by omega)]
    exact h
  | cons y ys ih =>
    intro o s w h hl
    simp only [List.map_cons, World.setCells]
    have := ih (o + 1) (s.set o y) _ (h.set o y) (by simp at hl ⊢; omega)
    rw [List.take_succ_eq_append_getElem (by simp at hl ⊢; omega), List.take_set_of_le (Nat.le_refl _), List.getElem_set_self, List.append_assoc] at this
    exact this

theorem wpList_store_ar (hgd : o.guard = none) (ty : TypeId) (x y : Operand) (ho : o.op = .store ty x y) (b : Nat) (hx : a.eval x = .pointer (some ⟨b, 0, none⟩)) (t : TypeId) (s0 s : List Int) (hA : Ar w b t s0) (hy : a.eval y = ag s) (hl : s0.length = s.length)
    (hi : (Tryd.prog.info? ty).map (·.size) = some s.length)
    (h : ∀ w', Ar w' b t s → Kp [b] w w' → w'.heap.size = w.heap.size → wpList Tryd.prog ops Q rest (a.put o.dst undef) w') : wpList Tryd.prog ops Q (o :: rest) a w := by
  refine wpList_store_mid hgd ty x y ho b 0 (s.map (Value.int .u32)).toArray hx hy ?_ (by simpa using hi) (all_oneCell_toArray (by simp [Value.oneCell'])) ?_
  · intro j hj
    simp only [List.size_toArray, List.length_map] at hj
    rw [Nat.zero_add, hA.cell j (by omega)]
    exact ⟨rfl, hA.frozen j⟩
  · refine h _ ?_ (kp_setCells w b _ 0 w (Kp.refl _ _)) ?_
    · have := ar_setCells b t s 0 s0 w hA (by omega)
      simpa using this
    · have : ∀ (vs : List Value) (o : Nat) (w1 : World), (w1.setCells b o vs).heap.size = w1.heap.size := by
        intro vs
        induction vs with
        | nil => intro o w1; rfl
        | cons v r ih => intro o w1; simp only [World.setCells]; rw [ih]; simp [World.setCell]
      exact this _ _ _
end

/-- One word of an array that is a value. -/
theorem run_index_ag (t : TypeId) (n : Nat) (e : TypeId) (i : TypeInfo) (s : List Int) (k : Nat) (w : World) (hu : Tryd.prog.underlying t = some (.array n e)) (he : Tryd.prog.underlying e = some (.int .u32)) (hi : Tryd.prog.info? e = some i) (hs : i.size = 1) (hk : k < n) (hl : s.length = n) :
    (Instr.index t (ag s) (.int .i64 (k : Int))).run Tryd.prog w = .ok (.int .u32 (s.getD k 0)) w := by
  have h1 : (0 : Int) ≤ (k : Int) ∧ (k : Int) < (n : Int) := by omega
  have h3 : (isAgg e).run Tryd.prog w = .ok false w := by
    unfold isAgg
    rw [Sem.run_bind, run_underlying he w]
    rfl
  simp [Instr.index, asIntOf, ag, Sem.run_bind, run_underlying hu w, h1, sizeOf, typeInfo, hi, hs, part, h3, List.getElem?_eq_getElem (show k < s.length by omega)]
  intro h; omega

theorem Tryd.infoU32 : ∃ i, Tryd.prog.info? 22 = some i ∧ i.size = 1 := by
  have h : (Tryd.prog.info? 22).map (·.size) = some 1 := by kernel_rfl
  exact Option.map_eq_some_iff.1 h
theorem Tryd.sz64 : (Tryd.prog.info? 75).map (·.size) = some 64 := by kernel_rfl
theorem Tryd.sz8 : (Tryd.prog.info? 74).map (·.size) = some 8 := by kernel_rfl
theorem Tryd.szW : (Tryd.prog.info? 80).map (·.size) = some 8 := by kernel_rfl
theorem Tryd.zero64 : ∃ i, Tryd.prog.info? 75 = some i ∧ i.zero = some (ag (List.replicate 64 0)) := by
  have h : (Tryd.prog.info? 75).map (·.zero) = some (some (ag (List.replicate 64 0))) := by kernel_rfl
  exact Option.map_eq_some_iff.1 h
theorem Tryd.zero8 : ∃ i, Tryd.prog.info? 74 = some i ∧ i.zero = some (ag (List.replicate 8 0)) := by
  have h : (Tryd.prog.info? 74).map (·.zero) = some (some (ag (List.replicate 8 0))) := by kernel_rfl
  exact Option.map_eq_some_iff.1 h
theorem Tryd.zeroW : ∃ i, Tryd.prog.info? 80 = some i ∧ i.zero = some (ag (List.replicate 8 0)) := by
  have h : (Tryd.prog.info? 80).map (·.zero) = some (some (ag (List.replicate 8 0))) := by kernel_rfl
  exact Option.map_eq_some_iff.1 h
theorem index64 (s : List Int) (k : Nat) (w : World) (hk : k < 64) (hl : s.length = 64) : (Instr.index 75 (ag s) (.int .i64 (k : Int))).run Tryd.prog w = .ok (.int .u32 (s.getD k 0)) w := by
  obtain ⟨i, hi, hs⟩ := Tryd.infoU32
  exact run_index_ag _ 64 22 i s k w Tryd.underlying75 Tryd.underlying22 hi hs hk hl
theorem indexW (s : List Int) (k : Nat) (w : World) (hk : k < 8) (hl : s.length = 8) : (Instr.index 80 (ag s) (.int .i64 (k : Int))).run Tryd.prog w = .ok (.int .u32 (s.getD k 0)) w := by
  obtain ⟨i, hi, hs⟩ := Tryd.infoU32
  exact run_index_ag _ 8 22 i s k w Tryd.underlying80 Tryd.underlying22 hi hs hk hl
end Go.Proofs.YtioflclfgkcpfaaDoor
