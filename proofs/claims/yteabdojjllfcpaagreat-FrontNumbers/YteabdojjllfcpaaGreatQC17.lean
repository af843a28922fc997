/-
  Rows of items (a text and a time, two cells each) that lie from whichever place of their block on: reading, cutting, append onto them, clear.
-/
import Derived.Deep.AppendSrc
import Derived.Test.YteabdojjllfcpaaGreatQC15
namespace Go.Proofs.YteabdojjllfcpaaGreat
open Go.RowKit
open Go.Proofs
set_option linter.unusedVariables false
/-- one that waits: its bytes, its time. -/
structure It where
  bs : List Int
  at_ : Int
def It.cells (e : It) : List Value := [.string (strOfNums e.bs), .int .i64 e.at_]
def It.val (e : It) : Value := .agg #[.string (strOfNums e.bs), .int .i64 e.at_]
def flatI (l : List It) : List Value := l.flatMap It.cells
theorem flatI_cons (e : It) (l : List It) : flatI (e :: l) = e.cells ++ flatI l := rfl
theorem flatI_length (l : List It) : (flatI l).length = l.length * 2 := by
  induction l with
  | nil => rfl
  | cons e l ih => rw [flatI_cons, List.length_append, ih]; simp [It.cells]; omega
theorem flatI_app (l l' : List It) : flatI (l ++ l') = flatI l ++ flatI l' := by simp [flatI]
theorem flatI_one (l : List It) : ∀ u ∈ flatI l, u.oneCell' = true := by
  intro u hu
  obtain ⟨e, _, he⟩ := List.mem_flatMap.1 hu
  simp only [It.cells, List.mem_cons, List.mem_nil_iff, or_false] at he
  rcases he with rfl | rfl <;> rfl
theorem flatI_get (l : List It) (i c : Nat) (hc : c < 2) (hi : i < l.length) : (flatI l)[i * 2 + c]? = (l[i].cells)[c]? := by
  induction l generalizing i with
  | nil => cases hi
  | cons e l ih =>
    cases i with
    | zero =>
      simp only [flatI_cons, Nat.zero_mul, Nat.zero_add, List.getElem_cons_zero]
      rw [List.getElem?_append_left (by simpa [It.cells] using hc)]
    | succ i =>
      simp only [flatI_cons, List.getElem_cons_succ]
      rw [List.getElem?_append_right (by simp [It.cells]; omega), ← ih i (by simpa using hi)]
      congr 1
      simp [It.cells]; omega
theorem flatI_take (l : List It) (k : Nat) : flatI (l.take k) = (flatI l).take (k * 2) := by
  induction l generalizing k with
  | nil => simp [flatI]
  | cons e l ih =>
    cases k with
    | zero => simp [flatI]
    | succ k =>
      rw [List.take_succ_cons, flatI_cons, flatI_cons, ih k, show (k + 1) * 2 = k * 2 + 2 by omega]
      simp [It.cells]
theorem flatI_drop (l : List It) (k : Nat) : flatI (l.drop k) = (flatI l).drop (k * 2) := by
  induction l generalizing k with
  | nil => simp [flatI]
  | cons e l ih =>
    cases k with
    | zero => simp
    | succ k =>
      rw [List.drop_succ_cons, flatI_cons, ih k, show (k + 1) * 2 = k * 2 + 2 by omega]
      simp [It.cells]
/-- the cells of a block, some of which were set. -/
theorem heap_setCells (g : Nat) (T : TypeId) : ∀ (vs : List Value) (o : Nat) (w : World) (cur : Array Value), w.heap[g]? = some (.cells cur T (0, 0)) → o + vs.length ≤ cur.size →
    ∃ cur', (w.setCells g o vs).heap[g]? = some (.cells cur' T (0, 0)) ∧ cur'.size = cur.size ∧ (∀ i, i < o ∨ o + vs.length ≤ i → cur'[i]? = cur[i]?) ∧ ∀ j u, vs[j]? = some u → cur'[o + j]? = some u
  | [], o, w, cur, h, _ => ⟨cur, h, rfl, fun _ _ => rfl, fun j u hu => by simp at hu⟩
  | v :: vs, o, w, cur, h, hl => by
    have h1 := set_at h o v
    obtain ⟨cur', a1, a2, a3, a4⟩ := heap_setCells g T vs (o + 1) _ _ h1 (by simp only [Array.size_setIfInBounds]; simp at hl; omega)
    refine ⟨cur', a1, by rw [a2]; simp, fun i hi => ?_, fun j u hu => ?_⟩
    · rw [a3 i (by simp at hi; omega)]
      rw [Array.getElem?_setIfInBounds_ne (by simp at hi; omega)]
    · cases j with
      | zero =>
        simp at hu
        subst hu
        rw [Nat.add_zero, a3 o (by omega)]
        simp at hl
        rw [Array.getElem?_setIfInBounds_self_of_lt (by omega)]
      | succ j =>
        have := a4 j u (by simpa using hu)
        rw [show o + (j + 1) = o + 1 + j by omega]
        exact this
theorem kp_setsI (g : Nat) : ∀ (vs : List Value) (o : Nat) (w : World), Kp [g] w (w.setCells g o vs)
  | [], _, w => Kp.refl _ _
  | v :: vs, o, w => (kp_set w g o v).trans (kp_setsI g vs (o + 1) _)
/-- v is a row of the call's own, from whichever place of its block on. -/
def RowBt (T : TypeId) (w : World) (base : Nat) (v : Value) (l : List It) : Prop :=
  (v = .slice none 0 0 ∧ l = []) ∨ ∃ g off cap cur, v = .slice (some ⟨g, off, none⟩) l.length cap ∧ base ≤ g ∧ w.heap[g]? = some (.cells cur T (0, 0)) ∧ l.length ≤ cap ∧ cap ≤ maxLen ∧ off + cap * 2 ≤ cur.size ∧ ∀ j u, (flatI l)[j]? = some u → cur[off + j]? = some u
section
variable {T : TypeId} {w w' : World} {base : Nat} {v v' : Value} {l l' : List It}
theorem RowBt.nil (T : TypeId) (w : World) (base : Nat) : RowBt T w base (.slice none 0 0) [] := .inl ⟨rfl, rfl⟩
theorem RowBt.kept (h : RowBt T w base v l) {S : List Nat} (k : Kp S w w') (hd : ∀ i, v.ownBlock = some i → i ∉ S) : RowBt T w' base v l := by
  rcases h with h | ⟨g, off, cap, cur, rfl, h1, h2, h3⟩
  · exact .inl h
  · exact .inr ⟨g, off, cap, cur, rfl, h1, k.heap h2 (hd g rfl), h3⟩
theorem RowBt.keptN (h : RowBt T w base v l) (k : Kp [] w w') : RowBt T w' base v l := h.kept k (by simp)
theorem RowBt.shape (h : RowBt T w base v l) : ∃ ao c, v = .slice ao l.length c ∧ l.length ≤ c ∧ c ≤ maxLen ∧ (ao = none → c = 0) := by
  rcases h with ⟨rfl, rfl⟩ | ⟨g, off, cap, cur, rfl, h1, h2, h3, h4, _⟩
  · exact ⟨none, 0, rfl, Nat.le_refl _, by simp [maxLen], fun _ => rfl⟩
  · exact ⟨_, cap, rfl, h3, h4, fun e => by cases e⟩
theorem RowBt.typ (h : RowBt T w base v l) {k : Nat} (hk : v.ownBlock = some k) : base ≤ k ∧ ∃ c, w.heap[k]? = some (.cells c T (0, 0)) := by
  rcases h with ⟨rfl, _⟩ | ⟨g, off, cap, cur, rfl, h1, h2, _⟩
  · cases hk
  · cases hk; exact ⟨h1, _, h2⟩
theorem RowBt.lt (h : RowBt T w base v l) {k : Nat} (hk : v.ownBlock = some k) : k < w.heap.size := by
  obtain ⟨_, c, hc⟩ := h.typ hk
  exact (Array.getElem?_eq_some_iff.1 hc).1
theorem RowBt.rebase {base' : Nat} (h : RowBt T w base v l) (hn : ∀ k, v.ownBlock = some k → base' ≤ k) : RowBt T w base' v l := by
  rcases h with h | ⟨g, off, cap, cur, rfl, h1, h2, h3⟩
  · exact .inl h
  · exact .inr ⟨g, off, cap, cur, rfl, hn g rfl, h2, h3⟩
theorem RowBt.own (h : RowBt T w base v l) {k : Nat} (hk : v.ownBlock = some k) : base ≤ k := (h.typ hk).1
theorem cell_of_cur {g : Nat} {cur : Array Value} (h : w.heap[g]? = some (.cells cur T (0, 0))) (i : Nat) : w.cell? ⟨g, i, none⟩ = cur[i]? := by
  rw [cell_of_row w g i _ _ _ h]
theorem frozen_of_cur {g : Nat} {cur : Array Value} (h : w.heap[g]? = some (.cells cur T (0, 0))) (i : Nat) : w.frozen? ⟨g, i, none⟩ = false := by
  unfold World.frozen?
  simp [h]
theorem RowBt.at {ao : Option Addr} {n c : Nat} (h : RowBt T w base (.slice ao n c) l) (i : Nat) (hi : i < l.length) : ∃ g off, ao = some ⟨g, off, none⟩ ∧ w.cell? ⟨g, off + i * 2, none⟩ = some (.string (strOfNums l[i].bs)) ∧ w.cell? ⟨g, off + i * 2 + 1, none⟩ = some (.int .i64 l[i].at_) := by
  rcases h with ⟨_, rfl⟩ | ⟨g, off, cap, cur, e, h1, h2, h3, h4, h5, h6⟩
  · cases hi
  · injection e with e1 e2 e3
    refine ⟨g, off, e1, ?_, ?_⟩
    · rw [cell_of_cur h2]
      exact h6 (i * 2) _ (by have := flatI_get l i 0 (by omega) hi; simpa [It.cells] using this)
    · rw [cell_of_cur h2, Nat.add_assoc]
      exact h6 (i * 2 + 1) _ (by have := flatI_get l i 1 (by omega) hi; simpa [It.cells] using this)
/-- what append reads of it. -/
theorem RowBt.news {a : Addr} {n c : Nat} (h : RowBt T w base (.slice (some a) n c) l) : n = l.length ∧ ∀ j u, (flatI l)[j]? = some u → w.cell? (a.add j) = some u := by
  rcases h with ⟨e, rfl⟩ | ⟨g, off, cap, cur, e, h1, h2, h3, h4, h5, h6⟩
  · cases e
  · injection e with e1 e2 e3
    injection e1 with e1
    subst e1
    refine ⟨e2, fun j u hu => ?_⟩
    rw [Addr.add_lit, cell_of_cur h2]
    exact h6 j u hu
theorem RowBt.take {ao : Option Addr} {n c : Nat} (h : RowBt T w base (.slice ao n c) l) (k : Nat) (hk : k ≤ n) : RowBt T w base (.slice ao k c) (l.take k) := by
  rcases h with ⟨e, rfl⟩ | ⟨g, off, cap, cur, e, h1, h2, h3, h4, h5, h6⟩
  · injection e with e1 e2 e3
    subst e1 e3
    obtain rfl : k = 0 := by omega
    exact .inl ⟨rfl, rfl⟩
  · injection e with e1 e2 e3
    subst e1 e2 e3
    refine .inr ⟨g, off, c, cur, by rw [List.length_take]; congr 1; omega, h1, h2, by rw [List.length_take]; omega, h4, h5, fun j u hu => h6 j u ?_⟩
    rw [flatI_take, List.getElem?_take] at hu
    split at hu
    · exact hu
    · cases hu
theorem RowBt.drop {ao : Option Addr} {n c : Nat} (h : RowBt T w base (.slice ao n c) l) (k : Nat) (hk : k ≤ n) : RowBt T w base (.slice (if c = k then ao else ao.map (·.add (k * 2))) (n - k) (c - k)) (l.drop k) := by
  rcases h with ⟨e, rfl⟩ | ⟨g, off, cap, cur, e, h1, h2, h3, h4, h5, h6⟩
  · injection e with e1 e2 e3
    subst e1 e2 e3
    obtain rfl : k = 0 := by omega
    exact .inl ⟨rfl, rfl⟩
  · injection e with e1 e2 e3
    subst e1 e2 e3
    by_cases hck : c = k
    · have hl : l.drop k = [] := List.drop_eq_nil_of_le (by omega)
      rw [hl, if_pos hck]
      refine .inr ⟨g, off, c - k, cur, by congr 1; simp; omega, h1, h2, by simp, by omega, by omega, fun j u hu => ?_⟩
      simp [flatI] at hu
    · rw [if_neg hck]
      simp only [Option.map_some, Addr.add_lit]
      refine .inr ⟨g, off + k * 2, c - k, cur, by rw [List.length_drop], h1, h2, by rw [List.length_drop]; omega, by omega, by omega, fun j u hu => ?_⟩
      rw [flatI_drop, List.getElem?_drop] at hu
      rw [Nat.add_assoc]
      exact h6 _ u hu
theorem RowBt.len {ao : Option Addr} {n c : Nat} (h : RowBt T w base (.slice ao n c) l) : n = l.length ∧ n ≤ c ∧ (ao = none → c = 0) := by
  obtain ⟨ao', c', e, h1, h2, h3⟩ := h.shape
  injection e with e1 e2 e3
  subst e1 e2 e3
  exact ⟨rfl, h1, h3⟩
end
/-- the source of an append. -/
def SrcI (w : World) (vx : Value) (l : List It) : Prop := ∃ ax c, vx = .slice ax l.length c ∧ (ax = none → l = [] ∧ c = 0) ∧ ∀ a, ax = some a → ∀ j u, (flatI l)[j]? = some u → w.cell? (a.add j) = some u
theorem RowBt.src {T : TypeId} {w : World} {base : Nat} {v : Value} {l : List It} (h : RowBt T w base v l) : SrcI w v l := by
  obtain ⟨ao, c, rfl, h1, h2, h3⟩ := h.shape
  refine ⟨ao, c, rfl, fun e => ?_, fun a e => ?_⟩
  · have := h3 e
    exact ⟨List.eq_nil_of_length_eq_zero (by omega), this⟩
  · subst e
    exact h.news.2
theorem SrcI.kept {w w' : World} {v : Value} {l : List It} {S : List Nat} (h : SrcI w v l) (k : Kp S w w') (hd : ∀ i, v.ownBlock = some i → i ∉ S) : SrcI w' v l := by
  obtain ⟨ao, c, rfl, h1, h2⟩ := h
  refine ⟨ao, c, rfl, h1, fun a e j u hu => k.cell (h2 a e j u hu) ?_⟩
  subst e
  rw [add_block]
  exact hd a.block rfl
/-- the step of a row. -/
theorem run_appT (T TS : TypeId) (hTS : Tryz.prog.underlying TS = some (.slice T)) (hi : (Tryz.prog.info? T).map (fun i => (i.zero, i.size, i.bytes)) = some (some (.agg #[.string ⟨#[]⟩, .int .i64 0]), 2, 24)) (ty : TypeId) (base : Nat) (v vx : Value) (l l' : List It) (w : World) (h : RowBt T w base v l) (hx : SrcI w vx l') (hb : l.length + l'.length ≤ 1000000) (hbase : base ≤ w.heap.size) :
    ∃ ao m c w', (Builtin.append_ #[TS, TS] ty #[v, vx]).run Tryz.prog w = .ok (.slice ao m c) w' ∧ RowBt T w' base (.slice ao m c) (l ++ l') ∧ RStep w v w' (.slice ao m c) := by
  obtain ⟨i0, hi0, hz0, hz1, hz2⟩ := info_parts hi
  obtain ⟨ax, cx, rfl, hn0, hx1⟩ := hx
  have hsrc : Src Tryz.prog i0.size TS (.slice ax l'.length cx) l'.length (flatI l') w := by
    rw [hz1]
    cases ax with
    | none =>
      obtain ⟨h0, h1⟩ := hn0 rfl
      subst h0
      exact Src.ofNil w hTS cx
    | some a => exact Src.ofSlice w hTS a _ cx _ (flatI_length l') (hx1 a rfl) (flatI_one l')
  have hll : (l ++ l').length = l.length + l'.length := List.length_append
  -- a new row
  have grown : ∀ (old : Nat), old < l.length + l'.length → RowBt T (w.drew.alloc (.cells ((flatI l ++ flatI l').toArray ++ Builtin.zeroCells (Value.agg #[.string ⟨#[]⟩, .int .i64 0]).cells (grownCap w (l.length + l'.length) old T - (l.length + l'.length))) T)) base (.slice (some ⟨w.heap.size, 0, none⟩) (l.length + l'.length) (grownCap w (l.length + l'.length) old T)) (l ++ l') := by
    intro old ho
    have hge := grownCap_ge w (l.length + l'.length) old T
    have hcm : grownCap w (l.length + l'.length) old T ≤ maxLen := grownCap_le_maxLen w _ old T (by unfold maxLen; omega)
    refine .inr ⟨w.heap.size, 0, _, _, by rw [hll], hbase, heap_alloc_new w.drew _, by rw [hll]; exact hge, hcm, ?_, fun j u hu => ?_⟩
    · simp only [Array.size_append, List.size_toArray, size_zeroCells, List.length_append, flatI_length]
      simp only [Value.cells, List.size_toArray, List.length_cons, List.length_nil]
      omega
    · rw [flatI_app] at hu
      have hlt := (List.getElem?_eq_some_iff.1 hu).1
      rw [Nat.zero_add, Array.getElem?_append_left (by simpa using hlt)]
      simpa using hu
  rcases h with ⟨rfl, rfl⟩ | ⟨g, off, cap, cur, rfl, h1, h2, h3, h4, h5, h6⟩
  · by_cases hm : l'.length = 0
    · have h0 : l' = [] := List.eq_nil_of_length_eq_zero hm
      subst h0
      refine ⟨none, 0, 0, w, ?_, .inl ⟨rfl, rfl⟩, RStep.refl _ _⟩
      clear grown hsrc hll hb hm hn0 hx1
      cases ax <;> simp [Builtin.append_, run_underlying hTS, sizeOf, typeInfo, hi0, Builtin.lenOf, Builtin.firstCells, loadCells, loadCellsFrom]
    · have hr := run_append_grow_src (P := Tryz.prog) w TS TS ty T i0 _ hTS hi0 hz0 none 0 0 [] (by simp [Builtin.firstCells]) _ l'.length (flatI l') hsrc (by omega) (by simp; omega) (growslice_fits (by omega) (by rw [hz2]; omega))
      have hg := grown 0 (by simp; omega)
      simp only [List.length_nil] at hg
      exact ⟨_, _, _, _, hr, hg, ((Kp.refl _ w).drew).alloc _, fun k hk => by cases hk; exact .inr (Nat.le_refl _)⟩
  · by_cases hroom : l.length + l'.length ≤ cap
    · have hfit : off + l.length * 2 + (flatI l').length ≤ cur.size := by rw [flatI_length]; omega
      have hr := run_append_room_src (P := Tryz.prog) w TS TS ty T i0 hTS hi0 g off l.length cap _ l'.length (flatI l') hsrc hroom (fun j hj => by
        rw [cell_of_cur h2, hz1]
        rw [Array.getElem?_eq_getElem (by omega)]
        rfl) (fun j hj => frozen_of_cur h2 _)
      rw [hz1] at hr
      obtain ⟨cur', a1, a2, a3, a4⟩ := heap_setCells g T (flatI l') (off + l.length * 2) w cur h2 hfit
      refine ⟨_, _, _, _, hr, .inr ⟨g, off, cap, cur', by rw [hll], h1, a1, by rw [hll]; exact hroom, h4, by rw [a2]; exact h5, fun j u hu => ?_⟩, (kp_setsI g _ _ w).mono (by simp [Value.ownBlock]), fun k hk => .inl (by simpa [Value.ownBlock] using hk)⟩
      rw [flatI_app] at hu
      by_cases hj : j < (flatI l).length
      · rw [List.getElem?_append_left hj] at hu
        rw [a3 _ (.inl (by rw [flatI_length] at hj; omega))]
        exact h6 j u hu
      · rw [List.getElem?_append_right (by omega), flatI_length] at hu
        have := a4 _ u hu
        rw [flatI_length] at hj
        rw [show off + l.length * 2 + (j - l.length * 2) = off + j by omega] at this
        exact this
    · have hr := run_append_grow_src (P := Tryz.prog) w TS TS ty T i0 _ hTS hi0 hz0 (some ⟨g, off, none⟩) l.length cap (flatI l) (by
        refine run_firstCells_some (P := Tryz.prog) w.drew i0.size l.length ⟨g, off, none⟩ l.length cap _ (by rw [hz1, flatI_length]) (fun j u hu => ?_)
        rw [Addr.add_lit]
        have : w.drew.cell? ⟨g, off + j, none⟩ = w.cell? ⟨g, off + j, none⟩ := rfl
        rw [this, cell_of_cur h2]
        exact h6 j u hu) _ l'.length (flatI l') hsrc (by omega) (by omega) (growslice_fits (by omega) (by rw [hz2]; omega))
      exact ⟨_, _, _, _, hr, grown cap (by omega), ((Kp.refl _ w).drew).alloc _, fun k hk => by cases hk; exact .inr (Nat.le_refl _)⟩
theorem zerosI_ok (n : Nat) : ∀ u ∈ (Builtin.zeroCells (Value.agg #[.string ⟨#[]⟩, .int .i64 0]).cells n).toList, u.oneCell' = true := by
  intro u hu
  have : u ∈ Builtin.zeroCells (Value.agg #[.string ⟨#[]⟩, .int .i64 0]).cells n := by simpa using hu
  unfold Builtin.zeroCells at this
  simp [Value.cells] at this
  obtain ⟨i, _, rfl⟩ := this
  have : i % 2 = 0 ∨ i % 2 = 1 := by omega
  rcases this with h | h <;> simp [h, Value.oneCell']
/-- clear of a row's beginning: its end stands. -/
theorem run_clearT (T TS : TypeId) (hTS : Tryz.prog.underlying TS = some (.slice T)) (hi : (Tryz.prog.info? T).map (fun i => (i.zero, i.size, i.bytes)) = some (some (.agg #[.string ⟨#[]⟩, .int .i64 0]), 2, 24)) (ty : TypeId) (base : Nat) (ao : Option Addr) (n c k : Nat) (l : List It) (w : World) (h : RowBt T w base (.slice ao n c) l) (hk : k ≤ n) :
    ∃ w', (Builtin.clear_ #[TS] ty #[.slice ao k c]).run Tryz.prog w = .ok (.tuple #[]) w' ∧ RowBt T w' base (.slice (if c = k then ao else ao.map (·.add (k * 2))) (n - k) (c - k)) (l.drop k) ∧ Kp (Value.slice ao n c).ownBlock.toList w w' := by
  obtain ⟨i0, hi0, hz0, hz1, hz2⟩ := info_parts hi
  have hd := h.drop k hk
  by_cases h0 : k = 0
  · subst h0
    refine ⟨w, ?_, hd, Kp.refl _ _⟩
    cases ao <;> simp [Builtin.clear_, run_underlying hTS]
  · rcases h with ⟨e, rfl⟩ | ⟨g, off, cap, cur, e, h1, h2, h3, h4, h5, h6⟩
    · injection e with e1 e2 e3
      omega
    · injection e with e1 e2 e3
      subst e1 e2 e3
      obtain ⟨Z, hZ⟩ : ∃ Z, Z = (Builtin.zeroCells (Value.agg #[.string ⟨#[]⟩, .int .i64 0]).cells k).toList := ⟨_, rfl⟩
      have hz : Z.length = k * 2 := by rw [hZ]; simp [size_zeroCells, Value.cells]
      have hok : ∀ u ∈ Z, u.oneCell' = true := by rw [hZ]; exact zerosI_ok _
      have hst := run_storeCells_cells (P := Tryz.prog) g off Z 0 w (fun j hj => by rw [cell_of_cur h2, Array.getElem?_eq_getElem (by omega)]; rfl) (fun j hj => frozen_of_cur h2 _) hok
      rw [Nat.add_zero] at hst
      obtain ⟨cur', a1, a2, a3, a4⟩ := heap_setCells g T Z off w cur h2 (by omega)
      refine ⟨w.setCells g off Z, ?_, ?_, (kp_setsI g _ _ w).mono (by simp [Value.ownBlock])⟩
      · obtain ⟨m, rfl⟩ : ∃ m, k = m + 1 := ⟨k - 1, by omega⟩
        rw [hZ] at hst ⊢
        simp [Builtin.clear_, run_underlying hTS, zeroValue, typeInfo, hi0, hz0, hst]
      · by_cases hck : c = k
        · have hl : l.drop k = [] := List.drop_eq_nil_of_le (by omega)
          rw [hl, if_pos hck]
          refine .inr ⟨g, off, c - k, cur', by rw [show l.length - k = ([] : List It).length from by simp; omega], h1, a1, by simp, by omega, by omega, fun j u hu => ?_⟩
          simp [flatI] at hu
        · rw [if_neg hck]
          simp only [Option.map_some, Addr.add_lit]
          refine .inr ⟨g, off + k * 2, c - k, cur', by rw [List.length_drop], h1, a1, by rw [List.length_drop]; omega, by omega, by omega, fun j u hu => ?_⟩
          rw [flatI_drop, List.getElem?_drop] at hu
          rw [a3 _ (.inr (by omega)), Nat.add_assoc]
          exact h6 _ u hu
theorem Tryz.infoWt : (Tryz.prog.info? 137).map (fun i => (i.zero, i.size, i.bytes)) = some (some (.agg #[.string ⟨#[]⟩, .int .i64 0]), 2, 24) := by kernel_rfl
/-- a literal of items. -/
theorem src_lit (w : World) (T : TypeId) (l : List It) (n : Nat) (hn : n = l.length) : SrcI (w.alloc (.cells (flatI l).toArray T)) (.slice (some ⟨w.heap.size, 0, none⟩) n n) l := by
  subst hn
  refine ⟨_, l.length, rfl, (fun e => by cases e), fun a e j u hu => ?_⟩
  cases e
  exact World.news_of_block (heap_alloc_new w _) j u (by simpa using hu)
section
variable {w : World} {ao : Option Addr} {n c : Nat}
theorem run_headW (k : Nat) (w : World) (h1 : k ≤ n) (h2 : n ≤ c) (h3 : ao = none → c = 0) : (Instr.sliceAt 133 (.slice ao n c) none (some (.int .i64 k)) none).run Tryz.prog w = .ok (.slice ao k c) w := by
  have e3 : (k : Int) ≤ (c : Int) := by omega
  cases ao with
  | none =>
    have := h3 rfl
    subst this
    obtain rfl : k = 0 := by omega
    simp [go_sem]
  | some a => simp [go_sem, e3]
theorem run_restW (k : Nat) (w : World) (h1 : k ≤ n) (h2 : n ≤ c) (h3 : ao = none → c = 0) : (Instr.sliceAt 133 (.slice ao n c) (some (.int .i64 k)) none none).run Tryz.prog w = .ok (.slice (if c = k then ao else ao.map (·.add (k * 2))) (n - k) (c - k)) w := by
  have e3 : (k : Int) ≤ (n : Int) := by omega
  cases ao with
  | none =>
    have := h3 rfl
    subst this
    obtain rfl : k = 0 := by omega
    obtain rfl : n = 0 := by omega
    simp [go_sem]
  | some a =>
    by_cases hc : c = k
    · subst hc
      obtain rfl : n = c := by omega
      simp [go_sem]
    · simp [go_sem, e3, hc]
end
end Go.Proofs.YteabdojjllfcpaaGreat

/-
  Package batch's queue in memory; the contracts of New, Len, Put.
-/
namespace Go.Proofs.YteabdojjllfcpaaGreat
open Go.RowKit
open Go.Proofs
set_option linter.unusedVariables false
/-- four cells at p. -/
def Fo (T : TypeId) (w : World) (p : Nat) (a b c d : Value) : Prop := w.heap[p]? = some (.cells #[a, b, c, d] T (0, 0))
section
variable {T : TypeId} {w w' : World} {p : Nat} {a b c d : Value}
theorem Fo.lt (h : Fo T w p a b c d) : p < w.heap.size := (Array.getElem?_eq_some_iff.1 h).1
theorem Fo.c0 (h : Fo T w p a b c d) : w.cell? ⟨p, 0, none⟩ = some a := by rw [cell_of_row w p 0 _ _ _ h]; rfl
theorem Fo.c1 (h : Fo T w p a b c d) : w.cell? ⟨p, 1, none⟩ = some b := by rw [cell_of_row w p 1 _ _ _ h]; rfl
theorem Fo.c2 (h : Fo T w p a b c d) : w.cell? ⟨p, 2, none⟩ = some c := by rw [cell_of_row w p 2 _ _ _ h]; rfl
theorem Fo.c3 (h : Fo T w p a b c d) : w.cell? ⟨p, 3, none⟩ = some d := by rw [cell_of_row w p 3 _ _ _ h]; rfl
theorem Fo.f (h : Fo T w p a b c d) (i : Nat) : w.frozen? ⟨p, i, none⟩ = false := by
  unfold World.frozen?
  unfold Fo at h
  simp [h]
theorem Fo.s3 (h : Fo T w p a b c d) (u : Value) : Fo T (w.setCell ⟨p, 3, none⟩ u) p a b c u := by have := set_at h 3 u; simpa [Fo] using this
theorem Fo.kept {S : List Nat} (h : Fo T w p a b c d) (k : Kp S w w') (hp : p ∉ S) : Fo T w' p a b c d := k.heap h hp
end
/-- a queue. -/
structure Qd where
  room : Int
  size : Int
  wait : Int
  ms : List It
def It.Ok (e : It) : Prop := Bs e.bs ∧ e.bs.length ≤ 1000 ∧ -9223372036854775808 ≤ e.at_ ∧ e.at_ ≤ 9223372036854775807
structure Qd.Fit (q : Qd) : Prop where
  r0 : 1 ≤ q.room
  r1 : q.room ≤ 16
  s0 : 1 ≤ q.size
  s1 : q.size ≤ 8
  t0 : 0 ≤ q.wait
  t1 : q.wait ≤ 1000
  cnt : q.ms.length ≤ 1000
  its : ∀ e ∈ q.ms, e.Ok
/-- the queue at p. -/
structure Qm (w : World) (base p : Nat) (v : Value) (q : Qd) : Prop where
  here : Fo 135 w p (.int .i64 q.room) (.int .i64 q.size) (.int .i64 q.wait) v
  row : RowBt 137 w base v q.ms
  fit : q.Fit
section
variable {w w' w1 : World} {base p : Nat} {v v' : Value} {q q' : Qd}
theorem Qm.apart (h : Qm w base p v q) : v.ownBlock ≠ some p := fun e => by
  obtain ⟨_, c, hc⟩ := h.row.typ e
  have := h.here
  unfold Fo at this
  rw [this] at hc
  injection hc with h1
  injection h1 with _ h2
  exact absurd h2 (by decide)
theorem Qm.lt (h : Qm w base p v q) : ∀ i ∈ dfp p v, i < w.heap.size := fun i hi => by
  rcases mem_dfp.1 hi with rfl | hi
  · exact h.here.lt
  · exact h.row.lt hi
theorem Qm.kept {S : List Nat} (h : Qm w base p v q) (k : Kp S w w') (hS : ∀ i ∈ dfp p v, i ∉ S) : Qm w' base p v q :=
  ⟨h.here.kept k (hS p (mem_dfp.2 (.inl rfl))), h.row.kept k (fun i hi => hS i (mem_dfp.2 (.inr hi))), h.fit⟩
theorem Qm.keptN (h : Qm w base p v q) (k : Kp [] w w') : Qm w' base p v q := h.kept k (by simp)
/-- another row is stored. -/
theorem Qm.put (h : Qm w base p v q) (r : RowBt 137 w1 base v' q'.ms) (s : RStep w v w1 v') (hr : q'.room = q.room) (hs : q'.size = q.size) (ht : q'.wait = q.wait) (hf : q'.Fit) :
    Qm (w1.setCell ⟨p, 3, none⟩ v') base p v' q' ∧ DSt p w v (w1.setCell ⟨p, 3, none⟩ v') v' ∧ w1.cell? ⟨p, 3, none⟩ = some v ∧ w1.frozen? ⟨p, 3, none⟩ = false := by
  have h1 := h.here.kept s.1 (by simpa [Option.mem_toList] using h.apart)
  have ne : v'.ownBlock ≠ some p := fun e => by
    obtain ⟨_, c, hc⟩ := r.typ e
    have := h1
    unfold Fo at this
    rw [this] at hc
    injection hc with h1
    injection h1 with _ h2
    exact absurd h2 (by decide)
  refine ⟨⟨by rw [hr, hs, ht]; exact h1.s3 _, r.kept (kp_set w1 p 3 v') (fun i hi hm => ne (by simp at hm; rw [← hm]; exact hi)), hf⟩, ⟨?_, s.2⟩, h1.c3, h1.f 3⟩
  exact (s.1.mono (fun i hi => mem_dfp.2 (.inr (by simpa [Option.mem_toList] using hi)))).then (kp_set w1 p 3 v') (fun i hi => .inl (mem_dfp.2 (.inl (by simpa using hi))))
theorem Qm.shape (h : Qm w base p v q) : ∃ ao c, v = .slice ao q.ms.length c ∧ q.ms.length ≤ c ∧ c ≤ maxLen ∧ (ao = none → c = 0) := h.row.shape
end
section
variable {w : World} {base : Nat} {v vx : Value} {l l' : List It}
theorem step_appT {ops : Array Oper} {o : Oper} {a : Act} {K : Act → World → Prop} {Q : Exit → Act → World → Prop} {E : Prop} (hgd : o.guard = none) (T TS : TypeId) (hTS : Tryz.prog.underlying TS = some (.slice T)) (hi : (Tryz.prog.info? T).map (fun i => (i.zero, i.size, i.bytes)) = some (some (.agg #[.string ⟨#[]⟩, .int .i64 0]), 2, 24)) (s x : Operand)
    (ho : o.op = .call { callee := .builtin .append, args := #[s, x], argTypes := #[TS, TS] }) (base : Nat) (v : Value) (l : List It) (hs : a.eval s = v) (hr : RowBt T w base v l) (vx : Value) (l' : List It) (hx : a.eval x = vx) (hS : SrcI w vx l') (hb : l.length + l'.length ≤ 1000000) (hbase : base ≤ w.heap.size)
    (h : ∀ ao m c w', RowBt T w' base (.slice ao m c) (l ++ l') → RStep w v w' (.slice ao m c) → K (a.put o.dst (.slice ao m c)) w') :
    if Region.wanted o (yielded ops a.tmps) = true then Oper.wp Tryz.prog o a w K Q else E := by
  have hw : Region.wanted o (yielded ops a.tmps) = true := by simp [Region.wanted, hgd]
  rw [if_pos hw]
  obtain ⟨ao, m, c, w1, hrun, h1, h2⟩ := run_appT T TS hTS hi o.type base v vx l l' w hr hS hb hbase
  unfold Oper.wp execOp
  simp only [ho, resolve, invoke, builtin, Sem.run_bind, Sem.run_pure, Result.andThen_ok, List.map_toArray, List.map_cons, List.map_nil, hs, hx, hrun]
  exact h ao m c w1 h1 h2
theorem wpList_appT {ops : Array Oper} {rest : List Oper} {o : Oper} {a : Act} {Q : Exit → Act → World → Prop} (hgd : o.guard = none) (T TS : TypeId) (hTS : Tryz.prog.underlying TS = some (.slice T)) (hi : (Tryz.prog.info? T).map (fun i => (i.zero, i.size, i.bytes)) = some (some (.agg #[.string ⟨#[]⟩, .int .i64 0]), 2, 24)) (s x : Operand)
    (ho : o.op = .call { callee := .builtin .append, args := #[s, x], argTypes := #[TS, TS] }) (base : Nat) (v : Value) (l : List It) (hs : a.eval s = v) (hr : RowBt T w base v l) (vx : Value) (l' : List It) (hx : a.eval x = vx) (hS : SrcI w vx l') (hb : l.length + l'.length ≤ 1000000) (hbase : base ≤ w.heap.size)
    (h : ∀ ao m c w', RowBt T w' base (.slice ao m c) (l ++ l') → RStep w v w' (.slice ao m c) → wpList Tryz.prog ops Q rest (a.put o.dst (.slice ao m c)) w') : wpList Tryz.prog ops Q (o :: rest) a w := by
  refine wpList_plain hgd fun K hK => ?_
  obtain ⟨ao, m, c, w1, hrun, h1, h2⟩ := run_appT T TS hTS hi o.type base v vx l l' w hr hS hb hbase
  unfold Oper.wp execOp
  simp only [ho, resolve, invoke, builtin, Sem.run_bind, Sem.run_pure, Result.andThen_ok, List.map_toArray, List.map_cons, List.map_nil, hs, hx, hrun]
  exact hK _ _ (h ao m c w1 h1 h2)
end
theorem bnew_any (r s t : Int) (w : World) (h1 : 1 ≤ r) (h2 : r ≤ 16) (h3 : 1 ≤ s) (h4 : s ≤ 8) (h5 : 0 ≤ t) (h6 : t ≤ 1000) :
    Calls Tryz.prog 38 #[.int .i64 r, .int .i64 s, .int .i64 t] w fun e w' => ∃ p, e = .returned (.tuple #[.pointer (some ⟨p, 0, none⟩), .int .i64 0]) ∧ (∀ base, Qm w' base p (.slice none 0 0) ⟨r, s, t, []⟩) ∧ Kp [] w w' ∧ w.heap.size ≤ p := by
  have HF := hide (show Qd.Fit ⟨r, s, t, []⟩ from ⟨h1, h2, h3, h4, h5, h6, by simp, by simp⟩)
  go_enter Tryz.func38, Tryz.ntmps38
  go_wp2_with fail
  go_ret2
  exact ⟨w.heap.size, rfl, fun base => ⟨heap_alloc_new w _, RowBt.nil _ _ _, HF.out⟩, (Kp.refl [] w).alloc _, Nat.le_refl _⟩
theorem blen_any (base p : Nat) (v : Value) (q : Qd) (w : World) (h : Qm w base p v q) (n : Nat) (hn : n = q.ms.length) :
    Calls Tryz.prog 47 #[.pointer (some ⟨p, 0, none⟩)] w fun e w' => e = .returned (.int .i64 (n : Nat)) ∧ w' = w := by
  have hc := h.here.c3
  obtain ⟨ao, c, rfl, -⟩ := h.shape
  rw [← hn] at hc
  clear h hn
  go_enter Tryz.func47, Tryz.ntmps47
  go_wp2_with fail
  go_ret
  exact ⟨rfl, rfl⟩
theorem Qm.drewN {base p : Nat} {v : Value} {q : Qd} {w : World} (h : Qm w base p v q) (n : Nat) : Qm (w.drewN n) base p v q := h.keptN (kp_drewN w n)
set_option maxHeartbeats 4000000 in
set_option maxRecDepth 100000 in
theorem bput_any (base p : Nat) (v vb : Value) (q : Qd) (b : List Int) (now : Int) (w : World) (h : Qm w base p v q) (hf : (q.ms.length : Int) < q.room) (hS : Sl w vb b) (hB : Bs b) (hl : b.length ≤ 1000) (h0 : -9223372036854775808 ≤ now) (h1 : now ≤ 9223372036854775807) (hbase : base ≤ w.heap.size) :
    Calls Tryz.prog 61 #[.pointer (some ⟨p, 0, none⟩), vb, .int .i64 now] w fun e w' => e = .returned (.int .i64 0) ∧ ∃ v', Qm w' base p v' { q with ms := q.ms ++ [⟨b, now⟩] } ∧ DSt p w v w' v' := by
  obtain ⟨n, hn⟩ : ∃ n, n = q.ms.length := ⟨_, rfl⟩
  have HL := hide (fun k => blen_any base p v q _ (h.drewN k) n hn)
  obtain ⟨r, hr⟩ : ∃ r, r = q.room := ⟨_, rfl⟩
  have hc := h.here.c0
  have hc3 := h.here.c3
  have hf3 := h.here.f 3
  have hlt := h.here.lt
  have FIT : Hid (Qd.Fit { q with ms := q.ms ++ [⟨b, now⟩] }) := ⟨h.fit.r0, h.fit.r1, h.fit.s0, h.fit.s1, h.fit.t0, h.fit.t1, by have := h.fit.r1; simp; omega, fun e he => by
    rcases List.mem_append.1 he with he | he
    · exact h.fit.its e he
    · obtain rfl : e = ⟨b, now⟩ := by simpa using he
      exact ⟨hB, hl, h0, h1⟩⟩
  rw [← hr] at hc hf
  rw [← hn] at hf
  have hnl : ¬ (r ≤ (n : Int)) := by omega
  have H := hide h
  have HS := hide hS
  have HBA := hide hbase
  have HCN : Hid (q.ms.length ≤ 1000) := h.fit.cnt
  obtain ⟨ax, cx, rfl, -⟩ := id hS
  clear h hn hr hS hB hbase hf
  go_enter Tryz.func61, Tryz.ntmps61
  go_wp2_with fail
  go_quiet (first | (go_at_call 47; exact Calls.quiet_of_same (HL.out _)))
  go_wp2_with fail
  clear HL hc hc3 hf3 hlt hnl
  have H2 := hide (H.out.drewN nq)
  have S2 := HS.out.kept (kp_drewN w nq) (by simp)
  have HBB : Hid (base ≤ (w.drewN nq).heap.size) := HBA.out
  have HKD := hide (kp_drewN w nq)
  obtain ⟨W, hW⟩ : ∃ W, W = w.drewN nq := ⟨_, rfl⟩
  rw [← hW] at H2 S2 HBB HKD ⊢
  clear hW H HS HBA
  obtain ⟨S, hS⟩ : ∃ S, S = strOfNums b := ⟨_, rfl⟩
  have cv1 := S2.conv (P := Tryz.prog) 28 9 5 Tryz.underlying28 Tryz.underlying5 Tryz.underlying9
  have cv2 := (S2.kept (kp_drew W) (by simp)).conv (P := Tryz.prog) 28 9 5 Tryz.underlying28 Tryz.underlying5 Tryz.underlying9
  rw [← hS] at cv1 cv2
  have hc := H2.out.here.c3
  have hf := H2.out.here.f 3
  have hlt := H2.out.here.lt
  have hfa : ∀ o, (W.alloc o).frozen? ⟨p, 3, none⟩ = false := fun o => by rw [World.frozen?_alloc_old _ _ _ (by simp; omega)]; exact hf
  have hca : ∀ o, (W.alloc o).cell? ⟨p, 3, none⟩ = some v := fun o => (World.cell?_alloc_lt _ _ _ (by exact hlt)).trans hc
  obtain ⟨av, cv, ev, -⟩ := H2.out.shape
  have hfl : (flatI [⟨b, now⟩]).toArray = #[.string S, .int .i64 now] := by rw [hS]; rfl
  have LIT : Hid (SrcI (W.alloc (.cells #[.string S, .int .i64 now] 137)) (.slice (some ⟨W.heap.size, 0, none⟩) 1 1) [⟨b, now⟩]) := by
    have := src_lit W 137 [⟨b, now⟩] 1 rfl
    rw [hfl] at this
    exact this
  obtain ⟨n, hn⟩ : ∃ n, n = q.ms.length := ⟨_, rfl⟩
  rw [← hn] at ev
  have R0 := hide (H2.out.row.keptN (((Kp.refl [] W).alloc (.cells #[.string S, .int .i64 now] 137)).drew))
  have QK := hide (H2.out.keptN (((Kp.refl [] W).alloc (.cells #[.string S, .int .i64 now] 137)).drew))
  have DK := hide (DSt.mid (p := p) v (((Kp.refl [] W).alloc (.cells #[.string S, .int .i64 now] 137)).drew))
  have HSZ : Hid (base ≤ ((W.alloc (.cells #[.string S, .int .i64 now] 137)).drew).heap.size) := by have := HBB.out; show _ ≤ _; simp; omega
  clear hfl hS hn S2
  subst ev
  go_region_law ((refine step_appT (by rfl) 137 133 Tryz.underlying133 Tryz.infoWt (.tmp 18) (.tmp 23) (by rfl) base _ q.ms (by rfl) (by exact R0.out) (.slice (some ⟨W.heap.size, 0, none⟩) 1 1) [⟨b, now⟩] (by rfl) (by exact LIT.out) (by have := HCN.out; simp; omega) (by exact HSZ.out) ?_; intro ao m c w1 R1 S1; obtain ⟨Q1, D1, hc1, hf1⟩ := QK.out.put (q' := { q with ms := q.ms ++ [⟨b, now⟩] }) R1 S1 rfl rfl rfl FIT.out; have HQ1 := hide Q1; have HD1 := hide (DK.out.trans D1); clear R1 S1 Q1 D1))
  all_goals
    go_wp2
    go_ret
    exact ⟨rfl, _, HQ1.out, (DSt.mid _ HKD.out).trans HD1.out⟩
/-- has one waited long enough. -/
def oldP (at_ wait now : Int) : Bool := decide (at_ = -9223372036854775808) || (decide (at_ ≤ now) && decide (wait ≤ now - at_))
theorem box_cells (w : World) (S : ByteArray) (t : Int) (T : TypeId) : (w.alloc (.cells #[.string S, .int .i64 t] T)).cell? ⟨w.heap.size, 0, none⟩ = some (.string S) ∧ (w.alloc (.cells #[.string S, .int .i64 t] T)).cell? ⟨w.heap.size, 1, none⟩ = some (.int .i64 t) := by
  refine ⟨?_, ?_⟩ <;> (rw [World.cell?_alloc_at _ _ _ _ rfl]; rfl)
theorem sub_u64 (a n : Int) (a0 : -9223372036854775808 ≤ a) (a1 : a ≤ 9223372036854775807) (n0 : -9223372036854775808 ≤ n) (n1 : n ≤ 9223372036854775807) (h : a ≤ n) : IntKind.u64.wrap (IntKind.u64.wrap n - IntKind.u64.wrap a) = n - a := by
  simp [IntKind.wrap, IntKind.signed, IntKind.bits]
  omega
set_option maxHeartbeats 2000000 in
theorem bold_any (S : ByteArray) (at_ wait now : Int) (w : World) (a0 : -9223372036854775808 ≤ at_) (a1 : at_ ≤ 9223372036854775807) (n0 : -9223372036854775808 ≤ now) (n1 : now ≤ 9223372036854775807) (t0 : 0 ≤ wait) (t1 : wait ≤ 1000) (b : Bool) (hb : b = oldP at_ wait now) :
    Calls Tryz.prog 84 #[.agg #[.string S, .int .i64 at_], .int .i64 wait, .int .i64 now] w fun e w' => e = .returned (.bool b) ∧ Kp [] w w' := by
  obtain ⟨c0, c1⟩ := box_cells w S at_ 137
  have K := hide ((Kp.refl [] w).alloc (.cells #[.string S, .int .i64 at_] 137))
  by_cases h1 : at_ = -9223372036854775808
  · have e1 : (at_ == -9223372036854775808) = true := by simpa using h1
    have e : b = true := by rw [hb]; simp [oldP, h1]
    subst e
    clear hb h1
    go_enter Tryz.func84, Tryz.ntmps84
    go_wp2_with fail
    go_ret
    exact ⟨rfl, K.out⟩
  · have e1 : (at_ == -9223372036854775808) = false := by simpa using h1
    by_cases h2 : at_ ≤ now
    · have HB : Hid (b = decide (wait ≤ IntKind.u64.wrap (IntKind.u64.wrap now - IntKind.u64.wrap at_))) := by
        show _ = _
        rw [hb, sub_u64 at_ now a0 a1 n0 n1 h2]
        simp [oldP, h1, h2]
      clear hb
      go_enter Tryz.func84, Tryz.ntmps84
      go_wp2_with fail
      rw [← HB.out]
      go_ret
      exact ⟨rfl, K.out⟩
    · have e : b = false := by rw [hb]; simp [oldP, h1, h2]
      subst e
      have h2' : decide (at_ ≤ now) = false := decide_eq_false h2
      clear hb h1
      go_enter Tryz.func84, Tryz.ntmps84
      go_wp2_with fail
      go_ret
      exact ⟨rfl, K.out⟩
end Go.Proofs.YteabdojjllfcpaaGreat

/-
  The contracts of package batch: Due, texts.
-/
namespace Go.Proofs.YteabdojjllfcpaaGreat
open Go.RowKit
open Go.Proofs
set_option linter.unusedVariables false
theorem Tryz.wtSize : (Tryz.prog.info? 137).map (·.size) = some 2 := by kernel_rfl
/-- is there to be a Take. -/
def Qd.due (q : Qd) (now : Int) : Bool := match q.ms with
  | [] => false
  | e :: _ => decide (q.size ≤ (q.ms.length : Int)) || oldP e.at_ q.wait now
set_option maxHeartbeats 4000000 in
set_option maxRecDepth 100000 in
theorem bdue_any (base p : Nat) (v : Value) (q : Qd) (now : Int) (w : World) (h : Qm w base p v q) (h0 : -9223372036854775808 ≤ now) (h1 : now ≤ 9223372036854775807) (bo : Bool) (hbo : bo = q.due now) :
    Calls Tryz.prog 55 #[.pointer (some ⟨p, 0, none⟩), .int .i64 now] w fun e w' => e = .returned (.bool bo) ∧ Kp [] w w' := by
  obtain ⟨n, hn⟩ : ∃ n, n = q.ms.length := ⟨_, rfl⟩
  have HL := hide (blen_any base p v q _ h n hn)
  cases hms : q.ms with
  | nil =>
    have e : bo = false := by rw [hbo]; simp [Qd.due, hms]
    have hn0 : n = 0 := by rw [hn, hms]; rfl
    subst e
    subst hn0
    clear hn hbo h hms
    go_enter Tryz.func55, Tryz.ntmps55
    go_wp2_with (go_at_call 47; refine HL.out.mono ?_; rintro e w1 ⟨rfl, hw⟩; subst w1)
    go_ret
    exact ⟨rfl, Kp.refl _ _⟩
  | cons x l =>
    have hn0 : 0 < n := by rw [hn, hms]; simp
    have hne : ¬ (n : Int) = 0 := by omega
    have hne' : ((n : Int) == 0) = false := by simpa using hne
    obtain ⟨s, hs⟩ : ∃ s, s = q.size := ⟨_, rfl⟩
    have HD := hide (fun k => blen_any base p v q _ (h.drewN k) n hn)
    have c1 := h.here.c1
    rw [← hs] at c1
    by_cases hle : s ≤ (n : Int)
    · have e : bo = true := by rw [hbo]; simp [Qd.due, hms, ← hs]; left; rw [hn, hms] at hle; simpa using hle
      subst e
      have hd : decide (s ≤ (n : Int)) = true := decide_eq_true hle
      clear hn hbo h hms hs
      go_enter Tryz.func55, Tryz.ntmps55
      go_wp2_with (go_at_call 47; refine HL.out.mono ?_; rintro e w1 ⟨rfl, hw⟩; subst w1)
      go_quiet (first | (go_at_call 47; exact Calls.quiet_of_same (HD.out _)))
      go_wp2_with fail
      go_ret
      exact ⟨rfl, kp_drewN _ _⟩
    · have hd : decide (s ≤ (n : Int)) = false := decide_eq_false hle
      obtain ⟨S, hS⟩ : ∃ S, S = strOfNums x.bs := ⟨_, rfl⟩
      obtain ⟨at_, hat⟩ : ∃ t, t = x.at_ := ⟨_, rfl⟩
      obtain ⟨t, ht⟩ : ∃ t, t = q.wait := ⟨_, rfl⟩
      obtain ⟨r, hr⟩ : ∃ r, r = q.room := ⟨_, rfl⟩
      have hx := h.fit.its x (by rw [hms]; simp)
      have HO : Hid (∀ w', Calls Tryz.prog 84 #[.agg #[.string S, .int .i64 at_], .int .i64 t, .int .i64 now] w' fun e w'' => e = .returned (.bool bo) ∧ Kp [] w' w'') := fun w' =>
        bold_any S at_ t now w' (by rw [hat]; exact hx.2.2.1) (by rw [hat]; exact hx.2.2.2) h0 h1 (by rw [ht]; exact h.fit.t0) (by rw [ht]; exact h.fit.t1) bo (by
          rw [hbo]
          have : decide (q.size ≤ (q.ms.length : Int)) = false := decide_eq_false (by rw [← hs, ← hn]; exact hle)
          unfold Qd.due
          rw [hms] at this ⊢
          simp only [this, Bool.false_or, hat, ht])
      rcases h.row with ⟨e1, e2⟩ | ⟨g, off, cap, cur, rfl, b1, b2, b3, b4, b5, b6⟩
      · rw [hms] at e2; cases e2
      rw [← hn] at h
      have HP : Hid (∀ w', Kp [] w.drew w' → w'.heap[p]? = some (.cells #[.int .i64 r, .int .i64 s, .int .i64 t, .slice (some ⟨g, off, none⟩) n cap] 135 (0, 0))) := fun w' k' => by
        rw [hr, hs, ht]; exact (h.keptN ((kp_drew w).trans k')).here
      have HQ : Hid (∀ w', Kp [] w.drew w' → Calls Tryz.prog 47 #[.pointer (some ⟨p, 0, none⟩)] w' fun e w'' => e = .returned (.int .i64 (n : Nat)) ∧ w'' = w') := fun w' k' => blen_any base p _ q w' (h.keptN ((kp_drew w).trans k')) n hn
      have HG : Hid (∀ w', Kp [] w.drew w' → w'.heap[g]? = some (.cells cur 137 (0, 0))) := fun w' k' => ((kp_drew w).trans k').heap b2 (by simp)
      have HC : Hid (∀ (j : Nat) y, [Value.string S, .int .i64 at_][j]? = some y → cur[off + j]? = some y) := fun j y hy => b6 j y (by
        rw [hms, flatI_cons, List.getElem?_append_left (by have := (List.getElem?_eq_some_iff.1 hy).1; simpa [It.cells] using this), It.cells, ← hS, ← hat]
        exact hy)
      have hnz : ¬ n = 0 := by omega
      clear HD c1 hbo h hms hs hS hat ht hr hx b1 b2 b3 b4 b5 b6 hn
      go_enter Tryz.func55, Tryz.ntmps55
      go_wp2_with (go_at_call 47; refine HL.out.mono ?_; rintro e w1 ⟨rfl, hw⟩; subst w1)
      refine region_grow Tryz.mixed [Is (.pointer (some ⟨p, 0, none⟩)), Is (.int .i64 n), Is (.pointer (some ⟨p, 0, none⟩)), Is (.pointer (some ⟨p, 0, none⟩)), Is (.pointer (some ⟨p, 1, none⟩)), Is (.int .i64 s), Is (.bool false), Is (.bool false), Is (.pointer (some ⟨p, 0, none⟩)), Is (.pointer (some ⟨p, 0, none⟩)), Is (.pointer (some ⟨p, 3, none⟩)), Is (.slice (some ⟨g, off, none⟩) n cap), Is (.pointer (some ⟨g, off, none⟩)), Is (.agg #[.string S, .int .i64 at_]), Is (.pointer (some ⟨p, 0, none⟩)), Is (.pointer (some ⟨p, 0, none⟩)), Is (.pointer (some ⟨p, 2, none⟩)), Is (.int .i64 t), Is (.int .i64 now), Is (.bool bo), Is (.bool bo), Is (.bool bo)] [[(0, none)], [(8, some 0)], [(0, none)], [(10, some 2)], [(11, some 3)], [(12, some 4)], [(9, some 1), (13, some 5)], [(14, some 6)], [(0, none), (15, some 7)], [(16, some 8), (15, some 7)], [(17, some 9), (15, some 7)], [(18, some 10), (15, some 7)], [(19, some 11), (15, some 7)], [(20, some 12), (15, some 7)], [(0, none), (15, some 7)], [(22, some 14), (15, some 7)], [(23, some 15), (15, some 7)], [(24, some 16), (15, some 7)], [(1, none), (15, some 7)], [(21, some 13), (25, some 17), (26, some 18), (15, some 7)], [(15, some 7), (27, some 19)], [(28, some 20)]] (by kernel_rfl) ?_ ?_ ?_
      · simp only [List.mem_cons, List.not_mem_nil, or_false]
        intro R hR
        rcases hR with rfl | rfl | rfl | rfl | rfl | rfl | rfl | rfl | rfl | rfl | rfl | rfl | rfl | rfl | rfl | rfl | rfl | rfl | rfl | rfl | rfl | rfl <;> first | exact stable_is _
      · refine steps_cons (fun a w hk hn => ?_) ?_
        · have h0 : a.eval (.tmp 0) = .pointer (some ⟨p, 0, none⟩) := hn.1
          clear hn
          refine wants_plain rfl ?_
          exact grown_move (.tmp 0) rfl h0
        refine steps_cons (fun a w hk hn => ?_) ?_
        · have h8 : a.eval (.tmp 8) = .pointer (some ⟨p, 0, none⟩) := hn.1
          clear hn
          refine wants_plain rfl ?_
          refine grown_call (f := 47) rfl Tryz.func47 (by kernel_rfl) (by kernel_rfl) ?_
          simp only [List.map_toArray, List.map_cons, List.map_nil, h8]
          refine (unhide HQ w hk).mono ?_
          rintro e w' ⟨rfl, rfl⟩
          exact ⟨_, rfl, Kp.refl _ _, rfl⟩
        refine steps_cons (fun a w hk hn => ?_) ?_
        · have h0 : a.eval (.tmp 0) = .pointer (some ⟨p, 0, none⟩) := hn.1
          clear hn
          refine wants_plain rfl ?_
          exact grown_move (.tmp 0) rfl h0
        refine steps_cons (fun a w hk hn => ?_) ?_
        · have h10 : a.eval (.tmp 10) = .pointer (some ⟨p, 0, none⟩) := hn.1
          clear hn
          refine wants_plain rfl ?_
          refine grown_run (v := .pointer (some ⟨p, 0, none⟩)) ?_ (Kp.refl _ _) rfl
          obtain ⟨ρ, hρ, hc, hf, hg⟩ := eval_is a
          rw [hρ] at h10 ⊢
          simp [go_sem, h10]
        refine steps_cons (fun a w hk hn => ?_) ?_
        · have h11 : a.eval (.tmp 11) = .pointer (some ⟨p, 0, none⟩) := hn.1
          clear hn
          refine wants_plain rfl ?_
          refine grown_run (v := .pointer (some ⟨p, 1, none⟩)) ?_ (Kp.refl _ _) rfl
          obtain ⟨ρ, hρ, hc, hf, hg⟩ := eval_is a
          rw [hρ] at h11 ⊢
          simp [go_sem, h11]
        refine steps_cons (fun a w hk hn => ?_) ?_
        · have h12 : a.eval (.tmp 12) = .pointer (some ⟨p, 1, none⟩) := hn.1
          clear hn
          refine wants_plain rfl ?_
          refine grown_run (v := .int .i64 s) ?_ (Kp.refl _ _) rfl
          have hcell : w.cell? ⟨p, 1, none⟩ = some (.int .i64 s) := by rw [cell_of_row w p 1 _ _ _ (unhide HP w hk)]; rfl
          obtain ⟨ρ, hρ, hc, hf, hg⟩ := eval_is a
          rw [hρ] at h12 ⊢
          simp [go_sem, h12, hcell]
        refine steps_cons (fun a w hk hn => ?_) ?_
        · have h9 : a.eval (.tmp 9) = .int .i64 n := hn.1
          have h13 : a.eval (.tmp 13) = .int .i64 s := hn.2.1
          clear hn
          refine wants_plain rfl ?_
          refine grown_run (v := .bool false) ?_ (Kp.refl _ _) rfl
          obtain ⟨ρ, hρ, hc, hf, hg⟩ := eval_is a
          rw [hρ] at h9 h13 ⊢
          simp [go_sem, h9, h13, hd]
        refine steps_cons (fun a w hk hn => ?_) ?_
        · have h14 : a.eval (.tmp 14) = .bool false := hn.1
          clear hn
          refine wants_plain rfl ?_
          exact grown_move (.tmp 14) rfl h14
        refine steps_cons (fun a w hk hn => ?_) ?_
        · have h0 : a.eval (.tmp 0) = .pointer (some ⟨p, 0, none⟩) := hn.1
          have h15 : a.eval (.tmp 15) = .bool false := hn.2.1
          clear hn
          refine wants_guard (d := 15) rfl rfl h15 ?_
          exact grown_move (.tmp 0) rfl h0
        refine steps_cons (fun a w hk hn => ?_) ?_
        · have h16 : a.eval (.tmp 16) = .pointer (some ⟨p, 0, none⟩) := hn.1
          have h15 : a.eval (.tmp 15) = .bool false := hn.2.1
          clear hn
          refine wants_guard (d := 15) rfl rfl h15 ?_
          refine grown_run (v := .pointer (some ⟨p, 0, none⟩)) ?_ (Kp.refl _ _) rfl
          obtain ⟨ρ, hρ, hc, hf, hg⟩ := eval_is a
          rw [hρ] at h16 ⊢
          simp [go_sem, h16]
        refine steps_cons (fun a w hk hn => ?_) ?_
        · have h17 : a.eval (.tmp 17) = .pointer (some ⟨p, 0, none⟩) := hn.1
          have h15 : a.eval (.tmp 15) = .bool false := hn.2.1
          clear hn
          refine wants_guard (d := 15) rfl rfl h15 ?_
          refine grown_run (v := .pointer (some ⟨p, 3, none⟩)) ?_ (Kp.refl _ _) rfl
          obtain ⟨ρ, hρ, hc, hf, hg⟩ := eval_is a
          rw [hρ] at h17 ⊢
          simp [go_sem, h17]
        refine steps_cons (fun a w hk hn => ?_) ?_
        · have h18 : a.eval (.tmp 18) = .pointer (some ⟨p, 3, none⟩) := hn.1
          have h15 : a.eval (.tmp 15) = .bool false := hn.2.1
          clear hn
          refine wants_guard (d := 15) rfl rfl h15 ?_
          refine grown_run (v := .slice (some ⟨g, off, none⟩) n cap) ?_ (Kp.refl _ _) rfl
          have hcell : w.cell? ⟨p, 3, none⟩ = some (.slice (some ⟨g, off, none⟩) n cap) := by rw [cell_of_row w p 3 _ _ _ (unhide HP w hk)]; rfl
          obtain ⟨ρ, hρ, hc, hf, hg⟩ := eval_is a
          rw [hρ] at h18 ⊢
          simp [go_sem, h18, hcell]
        refine steps_cons (fun a w hk hn => ?_) ?_
        · have h19 : a.eval (.tmp 19) = .slice (some ⟨g, off, none⟩) n cap := hn.1
          have h15 : a.eval (.tmp 15) = .bool false := hn.2.1
          clear hn
          refine wants_guard (d := 15) rfl rfl h15 ?_
          refine grown_run (v := .pointer (some ⟨g, off, none⟩)) ?_ (Kp.refl _ _) rfl
          obtain ⟨ρ, hρ, hc, hf, hg⟩ := eval_is a
          rw [hρ] at h19 ⊢
          simp [go_sem, hc, h19, hnz]
        refine steps_cons (fun a w hk hn => ?_) ?_
        · have h20 : a.eval (.tmp 20) = .pointer (some ⟨g, off, none⟩) := hn.1
          have h15 : a.eval (.tmp 15) = .bool false := hn.2.1
          clear hn
          refine wants_guard (d := 15) rfl rfl h15 ?_
          exact grown_loadf 137 (.tmp 20) rfl g off h20 _ _ _ _ (unhide HG w hk) [.string S, .int .i64 at_] (unhide HC) Tryz.underlying137 rfl Tryz.wtSize rfl
        refine steps_cons (fun a w hk hn => ?_) ?_
        · have h0 : a.eval (.tmp 0) = .pointer (some ⟨p, 0, none⟩) := hn.1
          have h15 : a.eval (.tmp 15) = .bool false := hn.2.1
          clear hn
          refine wants_guard (d := 15) rfl rfl h15 ?_
          exact grown_move (.tmp 0) rfl h0
        refine steps_cons (fun a w hk hn => ?_) ?_
        · have h22 : a.eval (.tmp 22) = .pointer (some ⟨p, 0, none⟩) := hn.1
          have h15 : a.eval (.tmp 15) = .bool false := hn.2.1
          clear hn
          refine wants_guard (d := 15) rfl rfl h15 ?_
          refine grown_run (v := .pointer (some ⟨p, 0, none⟩)) ?_ (Kp.refl _ _) rfl
          obtain ⟨ρ, hρ, hc, hf, hg⟩ := eval_is a
          rw [hρ] at h22 ⊢
          simp [go_sem, h22]
        refine steps_cons (fun a w hk hn => ?_) ?_
        · have h23 : a.eval (.tmp 23) = .pointer (some ⟨p, 0, none⟩) := hn.1
          have h15 : a.eval (.tmp 15) = .bool false := hn.2.1
          clear hn
          refine wants_guard (d := 15) rfl rfl h15 ?_
          refine grown_run (v := .pointer (some ⟨p, 2, none⟩)) ?_ (Kp.refl _ _) rfl
          obtain ⟨ρ, hρ, hc, hf, hg⟩ := eval_is a
          rw [hρ] at h23 ⊢
          simp [go_sem, h23]
        refine steps_cons (fun a w hk hn => ?_) ?_
        · have h24 : a.eval (.tmp 24) = .pointer (some ⟨p, 2, none⟩) := hn.1
          have h15 : a.eval (.tmp 15) = .bool false := hn.2.1
          clear hn
          refine wants_guard (d := 15) rfl rfl h15 ?_
          refine grown_run (v := .int .i64 t) ?_ (Kp.refl _ _) rfl
          have hcell : w.cell? ⟨p, 2, none⟩ = some (.int .i64 t) := by rw [cell_of_row w p 2 _ _ _ (unhide HP w hk)]; rfl
          obtain ⟨ρ, hρ, hc, hf, hg⟩ := eval_is a
          rw [hρ] at h24 ⊢
          simp [go_sem, h24, hcell]
        refine steps_cons (fun a w hk hn => ?_) ?_
        · have h1 : a.eval (.tmp 1) = .int .i64 now := hn.1
          have h15 : a.eval (.tmp 15) = .bool false := hn.2.1
          clear hn
          refine wants_guard (d := 15) rfl rfl h15 ?_
          exact grown_move (.tmp 1) rfl h1
        refine steps_cons (fun a w hk hn => ?_) ?_
        · have h21 : a.eval (.tmp 21) = .agg #[.string S, .int .i64 at_] := hn.1
          have h25 : a.eval (.tmp 25) = .int .i64 t := hn.2.1
          have h26 : a.eval (.tmp 26) = .int .i64 now := hn.2.2.1
          have h15 : a.eval (.tmp 15) = .bool false := hn.2.2.2.1
          clear hn
          refine wants_guard (d := 15) rfl rfl h15 ?_
          refine grown_call (f := 84) rfl Tryz.func84 (by kernel_rfl) (by kernel_rfl) ?_
          simp only [List.map_toArray, List.map_cons, List.map_nil, h21, h25, h26]
          refine (unhide HO w).mono ?_
          rintro e w' ⟨rfl, K⟩
          exact ⟨_, rfl, K, rfl⟩
        refine steps_cons (fun a w hk hn => ?_) ?_
        · have h15 : a.eval (.tmp 15) = .bool false := hn.1
          have h27 : a.eval (.tmp 27) = .bool bo := hn.2.1
          clear hn
          refine wants_plain rfl ?_
          exact grown_pick _ _ _ false rfl h15 h27
        refine steps_cons (fun a w hk hn => ?_) ?_
        · have h28 : a.eval (.tmp 28) = .bool bo := hn.1
          clear hn
          refine wants_plain rfl ?_
          exact grown_assign (.tmp 28) rfl h28
        exact trivial
      intro W1 hkW1
      rintro _ rfl
      rintro _ rfl
      rintro _ rfl
      rintro _ rfl
      rintro _ rfl
      rintro _ rfl
      rintro _ rfl
      rintro _ rfl
      rintro _ rfl
      rintro _ rfl
      rintro _ rfl
      rintro _ rfl
      rintro _ rfl
      rintro _ rfl
      rintro _ rfl
      rintro _ rfl
      rintro _ rfl
      rintro _ rfl
      rintro _ rfl
      rintro _ rfl
      rintro _ rfl
      rintro _ rfl
      refine fin_nil ?_
      simp only [Act.put, List.set_cons_zero, List.set_cons_succ, List.setIfInBounds_toArray]
      go_wp2_with fail
      go_ret
      exact ⟨rfl, (kp_drew w).trans hkW1⟩
end Go.Proofs.YteabdojjllfcpaaGreat

/-
  The contract of package batch's texts.
-/
namespace Go.Proofs.YteabdojjllfcpaaGreat
open Go.RowKit
open Go.Proofs
set_option linter.unusedVariables false
/-- v is a row of slices that read so; it and all that they hold lies in blocks from B on. -/
def Tl (B : Nat) (w : World) (v : Value) (ls : List (List Int)) : Prop := ∃ l, RowS w B v l ∧ l.map (·.2) = ls ∧ ∀ x ∈ l, ∀ i, x.1.ownBlock = some i → B ≤ i
theorem Tl.kept {B : Nat} {w w' : World} {v : Value} {ls : List (List Int)} {S : List Nat} (h : Tl B w v ls) (k : Kp S w w') (hS : ∀ i ∈ S, i < B) : Tl B w' v ls := by
  obtain ⟨l, ⟨h1, h2⟩, h3, h4⟩ := h
  refine ⟨l, ⟨k.owns h1 (fun i hi hm => by have := h1.own i hi; have := hS i hm; omega), fun x hx => ?_⟩, h3, h4⟩
  obtain ⟨g1, g2, g3⟩ := h2 x hx
  exact ⟨g1.kept k (fun i hi hm => by have := h4 x hx i hi; have := hS i hm; omega), g2, g3⟩
theorem Tl.keptN {B : Nat} {w w' : World} {v : Value} {ls : List (List Int)} (h : Tl B w v ls) (k : Kp [] w w') : Tl B w' v ls := h.kept k (by simp)
theorem Tl.lists {B : Nat} {w : World} {v : Value} {ls : List (List Int)} (h : Tl B w v ls) (hl : ls.length ≤ 1000) : ∃ l, Lists w v l ∧ l.map (·.2) = ls := by
  obtain ⟨l, h1, h2, _⟩ := h
  exact ⟨l, h1.lists (by rw [← List.length_map (f := (·.2)), h2]; exact hl), h2⟩
theorem Tl.shape {B : Nat} {w : World} {v : Value} {ls : List (List Int)} (h : Tl B w v ls) : ∃ ao c, v = .slice ao ls.length c := by
  obtain ⟨l, h1, rfl, _⟩ := h
  obtain ⟨ao, c, e⟩ := h1.1.shape
  exact ⟨ao, c, by simpa using e⟩
theorem Tl.bs {B : Nat} {w : World} {v : Value} {ls : List (List Int)} (h : Tl B w v ls) : ∀ x ∈ ls, Bs x := by
  obtain ⟨l, h1, rfl, _⟩ := h
  intro x hx
  obtain ⟨y, hy, rfl⟩ := List.mem_map.1 hx
  exact (h1.2 y hy).2.1
/-- one of them. -/
theorem Tl.at {B : Nat} {w : World} {ao : Option Addr} {m c : Nat} {ls : List (List Int)} (h : Tl B w (.slice ao m c) ls) (i : Nat) (hi : i < ls.length) : ∃ g vx, ao = some ⟨g, 0, none⟩ ∧ w.cell? ⟨g, i, none⟩ = some vx ∧ Sl w vx ls[i] := by
  obtain ⟨l, h1, rfl, _⟩ := h
  have hil : i < l.length := by simpa using hi
  rcases h1.1.2 with ⟨e, h0⟩ | ⟨g, cap, cur, e, hr⟩
  · simp at h0; subst h0; cases hil
  · injection e with e1 e2 e3
    subst e1
    have h0 : w.ownsRow B 28 1 (.slice (some ⟨g, 0, none⟩) m c) (l.map (·.1)).length (l.map (·.1)) := h1.1
    have := h0.cells (g := g) rfl i l[i].1 (by simp [List.getElem?_eq_getElem hil])
    refine ⟨g, l[i].1, rfl, by simpa [Addr.add_lit] using this, ?_⟩
    have := (h1.2 l[i] (List.getElem_mem hil)).1
    simpa using this
theorem Tl.lower {B B' : Nat} {w : World} {v : Value} {ls : List (List Int)} (h : Tl B w v ls) (hB : B' ≤ B) : Tl B' w v ls := by
  obtain ⟨l, ⟨h1, h2⟩, h3, h4⟩ := h
  exact ⟨l, ⟨owns_rebase h1 (fun i hi => Nat.le_trans hB (h1.own i hi)), h2⟩, h3, fun x hx i hi => Nat.le_trans hB (h4 x hx i hi)⟩
/-- what is gathered so far. -/
def AccN (w : World) (ls : List (List Int)) (v : Value) (wr : World) : Prop := Tl w.heap.size wr v ls ∧ Kp [] w wr
theorem AccN.kp {w wr : World} {ls : List (List Int)} {v : Value} (h : AccN w ls v wr) : Kp [] w wr := h.2
/-- one more slice, that is new since the gathering's last step. -/
theorem wpList_accn {w wr w2 : World} {ops : Array Oper} {rest : List Oper} {o : Oper} {a : Act} {Q : Exit → Act → World → Prop} (hgd : o.guard = none) (s x : Operand)
    (ho : o.op = .call { callee := .builtin .append, args := #[s, x], argTypes := #[47, 47] }) (v : Value) (ls : List (List Int)) (hs : a.eval s = v) (hA : AccN w ls v wr) (hl : ls.length ≤ 1000000)
    (vx : Value) (bs : List Int) (k : Kp [] wr w2) (hSl : Sl w2 vx bs) (hnew : ∀ i, vx.ownBlock = some i → wr.heap.size ≤ i ∧ i < w2.heap.size) (hb : Bs bs) (hx : a.eval x = .slice (some ⟨w2.heap.size, 0, none⟩) 1 1)
    (h : ∀ ao m c w', AccN w (ls ++ [bs]) (.slice ao m c) w' → wpList Tryz.prog ops Q rest (a.put o.dst (.slice ao m c)) w') : wpList Tryz.prog ops Q (o :: rest) a (w2.alloc (.cells #[vx] 28)) := by
  obtain ⟨⟨l, hP, hl2, hN⟩, hK⟩ := hA
  have kk := k.trans ((Kp.refl [] w2).alloc (.cells #[vx] 28))
  have hP2 := hP.kept kk
  have hap : ∀ i, vx.ownBlock = some i → v.ownBlock = some i → bs = [] := fun i h1 h2 => by
    have := hP.1.lt h2
    have := hnew i h1
    omega
  obtain ⟨ax, cx, hvx, _⟩ := id hSl
  refine wpList_append_rowv hgd s x ho w.heap.size v (l.map (·.1)) hs hP2.1 ⟨w2.heap.size, 0, none⟩ 1 [vx] hx ?_ ?_ ?_ ?_ ?_
  · intro j u hu
    exact World.news_of_block (heap_alloc_new w2 _) j u (by simpa using hu)
  · simp [hvx, Value.oneCell']
  · have : l.length = ls.length := by rw [← hl2]; simp
    simp; omega
  · have := hK.size
    have := kk.size
    omega
  · intro ao m c w' r st
    have hSl2 : Sl (w2.alloc (.cells #[vx] 28)) vx bs := hSl.kept ((Kp.refl [] w2).alloc _) (by simp)
    refine h ao m c w' ⟨⟨l ++ [(vx, bs)], hP2.snocR (x := (vx, bs)) hSl2 hb hap r st, by simp [hl2], fun y hy i hi => ?_⟩, ?_⟩
    · rcases List.mem_append.1 hy with hy | hy
      · exact hN y hy i hi
      · obtain rfl : y = (vx, bs) := by simpa using hy
        have := hK.size
        have := (hnew i hi).1
        omega
    · exact (hK.trans kk).then st.1 (fun i hi => .inr (hP.1.own i (by simpa using hi)))
set_option maxHeartbeats 4000000 in
set_option maxRecDepth 100000 in
theorem btexts_any (base : Nat) (ao : Option Addr) (n c : Nat) (l : List It) (w : World) (h : RowBt 137 w base (.slice ao n c) l) (hl : l.length ≤ 1000) (hok : ∀ e ∈ l, e.Ok) :
    Calls Tryz.prog 85 #[.slice ao n c] w fun e w' => ∃ ao' m' c', e = .returned (.slice ao' m' c') ∧ AccN w (l.map It.bs) (.slice ao' m' c') w' := by
  obtain ⟨hn, -, -⟩ := h.len
  obtain ⟨i0, hi0, hz0, hz1, hz2⟩ := info_parts Tryz.infoSl
  have H := hide h
  have HN := hide hn
  have HOK := hide hok
  rw [← hn] at hl
  clear h hok hn
  go_enter Tryz.func85, Tryz.ntmps85
  go_wp2_with (at_make; refine wpList_make_own _ rfl _ _ 47 rfl w.heap.size 28 i0 (.slice none 0 0) 1 Tryz.underlying47 hi0 hz0 hz1 .i64 .i64 _ n rfl rfl (by omega) (by rw [hz2]; omega) (by unfold maxLen; omega) (Nat.le_refl _) ?_; intro w1 o1 g1; have K1 : Kp [] w w1 := (Kp.refl [] w).grown g1 (by intro k hk; cases hk); have R1 : RowV w1 w.heap.size _ [] := o1)
  have A1 : Hid (AccN w [] (.slice (some ⟨w.heap.size, 0, none⟩) 0 n) w1) := ⟨⟨[], ⟨R1, by simp⟩, rfl, by simp⟩, K1⟩
  clear o1 g1 R1 K1
  go_loopw [3, 11] (fun v i wr => ∃ (k m c' : Nat) (a' : Option Addr), k ≤ n ∧ v = .slice a' m c' ∧ i = .int .i64 k ∧ AccN w ((l.take k).map It.bs) v wr) (fun _ i _ => n - (intOf i).toNat)
  case atStart => exact ⟨0, 0, n, some ⟨w.heap.size, 0, none⟩, by omega, rfl, rfl, A1.out⟩
  case round =>
    obtain ⟨k, m, c', a', hk, rfl, rfl, A⟩ := hrel
    have HA := hide A
    clear A A1
    by_cases hlt : k < n
    · have hlt2 : (k : Int) < (n : Int) := by omega
      have hkl : k < l.length := by rw [← HN.out]; exact hlt
      obtain ⟨g, off, rfl, c0, c1⟩ := (H.out.keptN HA.out.kp).at k hkl
      have hx := HOK.out l[k] (List.getElem_mem hkl)
      have ht : Hid ((l.take (k + 1)).map It.bs = (l.take k).map It.bs ++ [l[k].bs]) := by
        show _ = _
        rw [List.take_succ_eq_append_getElem hkl, List.map_append]
        rfl
      have HLT : Hid (((l.take k).map It.bs).length ≤ 1000000) := by show _ ≤ _; simp; omega
      obtain ⟨x, hxe⟩ : ∃ x, x = l[k] := ⟨_, rfl⟩
      rw [← hxe] at c0 c1 hx ht
      obtain ⟨S, hS⟩ : ∃ S, S = strOfNums x.bs := ⟨_, rfl⟩
      rw [← hS] at c0
      have HS := hide hS
      have HX := hide hx
      clear hxe hS hx
      have KA := hide ((Kp.refl [] wr).alloc (.cells #[.string S, .int .i64 x.at_] 137))
      obtain ⟨c5, w5, hcv, S5, K5⟩ := conv_big S (wr.alloc (.cells #[.string S, .int .i64 x.at_] 137)) (by rw [HS.out, str_size]; have := HX.out.2.1; omega)
      rw [HS.out, nums_str x.bs HX.out.1, ← HS.out] at S5
      have HS5 := hide S5
      have HK5 := hide (KA.out.trans K5)
      have hsz2 : Hid (wr.heap.size + 1 < w5.heap.size) := by
        have h5 := Lib.run_convert_string_bytes (P := Tryz.prog) (wr.alloc (.cells #[.string S, .int .i64 x.at_] 137)) 9 28 5 S Tryz.underlying9 Tryz.underlying28 Tryz.underlying5
        rw [hcv] at h5
        injection h5 with _ e5
        show _ < _
        rw [e5, Lib.bytesWorld_size]
        simp
      have esz : (wr.alloc (.cells #[.string S, .int .i64 x.at_] 137)).heap.size = wr.heap.size + 1 := by simp
      rw [esz] at hcv HS5
      clear esz
      have HNW : Hid (∀ i, (Value.slice (some ⟨wr.heap.size + 1, 0, none⟩) S.size c5).ownBlock = some i → wr.heap.size ≤ i ∧ i < w5.heap.size) := fun i hi => by
        have e : wr.heap.size + 1 = i := by simpa [Value.ownBlock] using hi
        have := hsz2.out
        omega
      clear S5 K5
      go_wp2_with (at_builtin; refine wpList_accn rfl (.tmp 15) (.tmp 19) rfl _ _ rfl HA.out HLT.out (.slice (some ⟨wr.heap.size + 1, 0, none⟩) S.size c5) x.bs HK5.out HS5.out HNW.out HX.out.1 rfl ?_; intro ao4 m4 c4 w4 A4; rw [← ht.out] at A4; have HA4 := hide A4; clear A4)
      go_roundw
      case rel => exact ⟨k + 1, m4, c4, ao4, by omega, rfl, by go_num, HA4.out⟩
      case measure => simp [intOf]; omega
    · have hkn : k = n := by omega
      have hnlt : ¬ (k : Int) < (n : Int) := by omega
      have HF : Hid (AccN w (l.map It.bs) (.slice a' m c') wr) := by
        have := HA.out
        rw [hkn, HN.out, List.take_length] at this
        exact this
      clear hkn HA
      go_wp2_with fail
      go_ret
      exact ⟨a', m, c', rfl, HF.out⟩
end Go.Proofs.YteabdojjllfcpaaGreat

/-
  The contracts of package batch: Take, All.
-/
namespace Go.Proofs.YteabdojjllfcpaaGreat
open Go.RowKit
open Go.Proofs
set_option linter.unusedVariables false
theorem own_rest (ao : Option Addr) (n c k : Nat) : (Value.slice (if c = k then ao else ao.map (·.add (k * 2))) (n - k) (c - k)).ownBlock = (Value.slice ao n c).ownBlock := by
  cases ao with
  | none => split <;> rfl
  | some a =>
    split
    · rfl
    · simp [Value.ownBlock, add_block]
set_option maxHeartbeats 4000000 in
set_option maxRecDepth 100000 in
theorem btake_any (base p : Nat) (v : Value) (q : Qd) (w : World) (h : Qm w base p v q) (k : Nat) (hk : k = min q.size.toNat q.ms.length) :
    Calls Tryz.prog 56 #[.pointer (some ⟨p, 0, none⟩)] w fun e w' => ∃ ao' m' c' v', e = .returned (.slice ao' m' c') ∧ Tl w.heap.size w' (.slice ao' m' c') ((q.ms.take k).map It.bs) ∧ Qm w' base p v' { q with ms := q.ms.drop k } ∧ DSt p w v w' v' := by
  obtain ⟨ao, c, rfl, hc1, hc2, hc3⟩ := h.shape
  obtain ⟨n, hn⟩ : ∃ n, n = q.ms.length := ⟨_, rfl⟩
  obtain ⟨r, hr⟩ : ∃ r, r = q.room := ⟨_, rfl⟩
  obtain ⟨s, hs⟩ : ∃ s, s = q.size := ⟨_, rfl⟩
  obtain ⟨t, ht⟩ : ∃ t, t = q.wait := ⟨_, rfl⟩
  rw [← hn] at h hk hc1 ⊢
  have HP : Hid (∀ w', Kp [] w.drew w' → w'.heap[p]? = some (.cells #[.int .i64 r, .int .i64 s, .int .i64 t, .slice ao n c] 135 (0, 0))) := fun w' k' => by
    rw [hr, hs, ht]; exact (h.keptN ((kp_drew w).trans k')).here
  have HQ : Hid (∀ w', Kp [] w.drew w' → Calls Tryz.prog 47 #[.pointer (some ⟨p, 0, none⟩)] w' fun e w'' => e = .returned (.int .i64 (n : Nat)) ∧ w'' = w') := fun w' k' => blen_any base p _ q w' (h.keptN ((kp_drew w).trans k')) n hn
  have hs0 := h.fit.s0
  rw [← hs] at hs0 hk
  have hmin : (k : Int) = if (n : Int) < s then (n : Int) else s := by split <;> omega
  have hkn : k ≤ n := by omega
  have H := hide h
  have HC1 := hide hc1
  have HC3 := hide hc3
  have HCN : Hid ((q.ms.take k).length ≤ 1000) := by have := h.fit.cnt; show _ ≤ _; simp; omega
  have HIT : Hid (∀ e ∈ q.ms.take k, e.Ok) := fun e he => h.fit.its e (List.mem_of_mem_take he)
  have HF : Hid (Qd.Fit { q with ms := q.ms.drop k }) := ⟨h.fit.r0, h.fit.r1, h.fit.s0, h.fit.s1, h.fit.t0, h.fit.t1, by have := h.fit.cnt; simp; omega, fun e he => h.fit.its e (List.mem_of_mem_drop he)⟩
  have HMIN := hide hmin
  have HKN := hide hkn
  clear h hn hr hs ht hs0 hk hc1 hc2 hc3 hmin hkn
  go_enter Tryz.func56, Tryz.ntmps56
  go_wp2_with fail
  refine region_grow Tryz.mixed [Is (.pointer (some ⟨p, 0, none⟩)), Is (.pointer (some ⟨p, 0, none⟩)), Is (.pointer (some ⟨p, 1, none⟩)), Is (.int .i64 s), Is (.pointer (some ⟨p, 0, none⟩)), Is (.int .i64 n), Is (.int .i64 k), Is (.int .i64 k)] [[(0, none)], [(5, some 0)], [(6, some 1)], [(7, some 2)], [(0, none)], [(9, some 4)], [(8, some 3), (10, some 5)], [(11, some 6)]] (by kernel_rfl) ?_ ?_ ?_
  · simp only [List.mem_cons, List.not_mem_nil, or_false]
    intro R hR
    rcases hR with rfl | rfl | rfl | rfl | rfl | rfl | rfl | rfl <;> first | exact stable_is _
  · refine steps_cons (fun a w hk hn => ?_) ?_
    · have h0 : a.eval (.tmp 0) = .pointer (some ⟨p, 0, none⟩) := hn.1
      clear hn
      refine wants_plain rfl ?_
      exact grown_move (.tmp 0) rfl h0
    refine steps_cons (fun a w hk hn => ?_) ?_
    · have h5 : a.eval (.tmp 5) = .pointer (some ⟨p, 0, none⟩) := hn.1
      clear hn
      refine wants_plain rfl ?_
      refine grown_run (v := .pointer (some ⟨p, 0, none⟩)) ?_ (Kp.refl _ _) rfl
      obtain ⟨ρ, hρ, hc, hf, hg⟩ := eval_is a
      rw [hρ] at h5 ⊢
      simp [go_sem, h5]
    refine steps_cons (fun a w hk hn => ?_) ?_
    · have h6 : a.eval (.tmp 6) = .pointer (some ⟨p, 0, none⟩) := hn.1
      clear hn
      refine wants_plain rfl ?_
      refine grown_run (v := .pointer (some ⟨p, 1, none⟩)) ?_ (Kp.refl _ _) rfl
      obtain ⟨ρ, hρ, hc, hf, hg⟩ := eval_is a
      rw [hρ] at h6 ⊢
      simp [go_sem, h6]
    refine steps_cons (fun a w hk hn => ?_) ?_
    · have h7 : a.eval (.tmp 7) = .pointer (some ⟨p, 1, none⟩) := hn.1
      clear hn
      refine wants_plain rfl ?_
      refine grown_run (v := .int .i64 s) ?_ (Kp.refl _ _) rfl
      have hcell : w.cell? ⟨p, 1, none⟩ = some (.int .i64 s) := by rw [cell_of_row w p 1 _ _ _ (unhide HP w hk)]; rfl
      obtain ⟨ρ, hρ, hc, hf, hg⟩ := eval_is a
      rw [hρ] at h7 ⊢
      simp [go_sem, h7, hcell]
    refine steps_cons (fun a w hk hn => ?_) ?_
    · have h0 : a.eval (.tmp 0) = .pointer (some ⟨p, 0, none⟩) := hn.1
      clear hn
      refine wants_plain rfl ?_
      exact grown_move (.tmp 0) rfl h0
    refine steps_cons (fun a w hk hn => ?_) ?_
    · have h9 : a.eval (.tmp 9) = .pointer (some ⟨p, 0, none⟩) := hn.1
      clear hn
      refine wants_plain rfl ?_
      refine grown_call (f := 47) rfl Tryz.func47 (by kernel_rfl) (by kernel_rfl) ?_
      simp only [List.map_toArray, List.map_cons, List.map_nil, h9]
      refine (unhide HQ w hk).mono ?_
      rintro e w' ⟨rfl, rfl⟩
      exact ⟨_, rfl, Kp.refl _ _, rfl⟩
    refine steps_cons (fun a w hk hn => ?_) ?_
    · have h8 : a.eval (.tmp 8) = .int .i64 s := hn.1
      have h10 : a.eval (.tmp 10) = .int .i64 n := hn.2.1
      clear hn
      refine wants_plain rfl ?_
      refine grown_run (v := .int .i64 k) ?_ (Kp.refl _ _) rfl
      obtain ⟨ρ, hρ, hc, hf, hg⟩ := eval_is a
      rw [hρ] at h8 h10 ⊢
      simp [go_sem, h8, h10, HMIN.out]
    refine steps_cons (fun a w hk hn => ?_) ?_
    · have h11 : a.eval (.tmp 11) = .int .i64 k := hn.1
      clear hn
      refine wants_plain rfl ?_
      exact grown_assign (.tmp 11) rfl h11
    exact trivial
  intro W1 hkW1
  rintro _ rfl
  rintro _ rfl
  rintro _ rfl
  rintro _ rfl
  rintro _ rfl
  rintro _ rfl
  rintro _ rfl
  rintro _ rfl
  refine fin_nil ?_
  simp only [Act.put, List.set_cons_zero, List.set_cons_succ, List.setIfInBounds_toArray]
  have K1 := hide ((kp_drew w).trans hkW1)
  have H1 := hide (H.out.keptN K1.out)
  have x0 := H1.out.here.c3
  have run1 := fun w => run_headW (ao := ao) (n := n) (c := c) k w HKN.out HC1.out HC3.out
  have HT := hide (btexts_any base ao k c (q.ms.take k) W1 (H1.out.row.take k HKN.out) HCN.out HIT.out)
  have run2 := fun w => run_restW (ao := ao) (n := n) (c := c) k w HKN.out HC1.out HC3.out
  clear HP HQ hkW1 H HMIN
  go_wp2_with (go_at_call 85; refine HT.out.mono ?_; rintro e w2 ⟨ao', m', c', rfl, A⟩; have HA := hide A; clear A HT; obtain ⟨w3, hcl, r3, k3⟩ := run_clearT 137 133 Tryz.underlying133 Tryz.infoWt 0 base ao n c k q.ms w2 (H1.out.row.keptN HA.out.kp) HKN.out; have hcl' : ∀ ty, (Builtin.clear_ #[133] ty #[.slice ao k c]).run Tryz.prog w2 = .ok (.tuple #[]) w3 := fun ty => hcl; have x2 := (H1.out.keptN HA.out.kp).here.c3; have hV3 := own_rest ao n c k; obtain ⟨a2, ha2⟩ : ∃ a2, a2 = (if c = k then ao else ao.map (·.add (k * 2))) := ⟨_, rfl⟩; obtain ⟨n2, hn2⟩ : ∃ n2, n2 = n - k := ⟨_, rfl⟩; obtain ⟨c2, hc2⟩ : ∃ c2, c2 = c - k := ⟨_, rfl⟩; rw [← ha2, ← hn2, ← hc2] at hV3 run2 r3; obtain ⟨Q3, D3, x3, f3⟩ := (H1.out.keptN HA.out.kp).put (q' := { q with ms := q.ms.drop k }) r3 ⟨k3, fun i hi => .inl (by rw [← hV3]; exact hi)⟩ rfl rfl rfl HF.out; have HQ3 := hide Q3; have HD3 := hide D3; clear ha2 hn2 hc2 hV3 r3 k3 Q3 D3 hcl)
  go_ret
  refine ⟨ao', m', c', _, rfl, ?_, HQ3.out, ?_⟩
  · exact (HA.out.1.kept HD3.out.1 (fun i hi => H1.out.lt i hi)).lower K1.out.size
  · exact (DSt.mid _ (K1.out.trans HA.out.kp)).trans HD3.out
end Go.Proofs.YteabdojjllfcpaaGreat

/-
  The contract of package batch's Has; slices.ContainsFunc and slices.IndexFunc with its function.
-/
namespace Go.Proofs.YteabdojjllfcpaaGreat
open Go.RowKit
open Go.Proofs
set_option linter.unusedVariables false
theorem str_decB (S T : ByteArray) : (S.toList == T.toList) = decide (S = T) := by
  rw [Bool.eq_iff_iff]
  simp only [beq_iff_eq, decide_eq_true_eq]
  refine ⟨fun h => ?_, fun h => by rw [h]⟩
  rw [ByteArray.toList_eq, ByteArray.toList_eq] at h
  exact ByteArray.ext (Array.ext' h)
def sameI (bs : List Int) (e : It) : Bool := decide (e.bs = bs)
theorem str_eq_iff {a b : List Int} (ha : Bs a) (hb : Bs b) : (strOfNums a = strOfNums b) ↔ a = b := ⟨str_same ha hb, fun h => by rw [h]⟩
set_option maxHeartbeats 1000000 in
theorem bhas1_any (b : Nat) (vb : Value) (bs : List Int) (e : It) (w : World) (hc : w.cell? ⟨b, 0, none⟩ = some vb) (hS : Sl w vb bs) (hB : Bs bs) (he : e.Ok) (r : Bool) (hr : r = sameI bs e) :
    Calls Tryz.prog 96 #[.agg #[.string (strOfNums e.bs), .int .i64 e.at_], .pointer (some ⟨b, 0, none⟩)] w fun x w' => x = .returned (.bool r) ∧ Kp [] w w' := by
  obtain ⟨S, hS1⟩ : ∃ S, S = strOfNums e.bs := ⟨_, rfl⟩
  obtain ⟨T, hT⟩ : ∃ T, T = strOfNums bs := ⟨_, rfl⟩
  have hst : r = decide (S = T) := by
    rw [hr, hS1, hT]
    unfold sameI
    exact (decide_eq_decide.2 (str_eq_iff he.1 hB)).symm
  rw [← hS1]
  obtain ⟨c0, c1⟩ := box_cells w S e.at_ 137
  have K := (Kp.refl [] w).alloc (.cells #[.string S, .int .i64 e.at_] 137)
  have hc2 := K.cell hc (by simp)
  have cv := (hS.kept K (by simp)).conv (P := Tryz.prog) 28 9 5 Tryz.underlying28 Tryz.underlying5 Tryz.underlying9
  rw [← hT] at cv
  have HK := hide K
  have HR := hide hst
  obtain ⟨ax, cx, rfl, -⟩ := hS
  clear hS1 hT hr hst K hc
  go_enter Tryz.func96, Tryz.ntmps96
  go_wp2_with fail
  rw [str_decB, ← HR.out]
  go_ret
  exact ⟨rfl, HK.out⟩
set_option maxHeartbeats 2000000 in
set_option maxRecDepth 100000 in
theorem bindex_any (base b : Nat) (v vb : Value) (l : List It) (bs : List Int) (w : World) (h : RowBt 137 w base v l) (hc : w.cell? ⟨b, 0, none⟩ = some vb) (hS : Sl w vb bs) (hB : Bs bs) (hok : ∀ e ∈ l, e.Ok) (hl : l.length ≤ 1000) :
    Calls Tryz.prog 115 #[v, .func (.func 96) #[] #[.pointer (some ⟨b, 0, none⟩)]] w fun r w' =>
      ∃ i : Int, r = .returned (.int .i64 i) ∧ decide (0 ≤ i) = l.any (sameI bs) ∧ -1 ≤ i ∧ Kp [] w w' := by
  obtain ⟨ao, c, rfl, hc1, hc2, hc3⟩ := h.shape
  obtain ⟨n, hn⟩ : ∃ n, n = l.length := ⟨_, rfl⟩
  rw [← hn] at h hl ⊢
  have HC := hide hc
  have HS := hide hS
  have HN := hide hn
  have HOK := hide hok
  have H := hide h
  clear h hc hS hn hok hc1 hc2 hc3
  go_enter Tryz.func115, Tryz.ntmps115
  go_wp2_with fail
  go_loopw [8] (fun i wr => ∃ k : Nat, k ≤ n ∧ i = .int .i64 k ∧ Kp [] w wr ∧ Hid ((l.take k).any (sameI bs) = false)) (fun i _ => n - (intOf i).toNat)
  case atStart => exact ⟨0, by omega, rfl, Kp.refl _ _, by simp [Hid]⟩
  case round =>
    obtain ⟨k, hk, rfl, K, HF⟩ := hrel
    have HK := hide K
    clear K
    by_cases hlt : k < n
    · have hlt2 : (k : Int) < (n : Int) := by omega
      have hkl : k < l.length := by rw [← HN.out]; exact hlt
      obtain ⟨g, off, rfl, c0, c1⟩ := (H.out.keptN HK.out).at k hkl
      have HX := hide (bhas1_any b vb bs l[k] wr (HK.out.cell HC.out (by simp)) (HS.out.kept HK.out (by simp)) hB (HOK.out l[k] (List.getElem_mem hkl)) _ rfl)
      have HT : Hid ((l.take (k + 1)).any (sameI bs) = sameI bs l[k]) := by
        show _ = _
        rw [List.take_succ_eq_append_getElem hkl, List.any_append, HF.out]
        simp
      have HA : Hid (sameI bs l[k] = true → l.any (sameI bs) = true) := fun hh => List.any_eq_true.2 ⟨l[k], List.getElem_mem hkl, hh⟩
      obtain ⟨x, hx⟩ : ∃ x, x = l[k] := ⟨_, rfl⟩
      rw [← hx] at c0 c1 HX HT HA
      obtain ⟨S, hS⟩ : ∃ S, S = strOfNums x.bs := ⟨_, rfl⟩
      rw [← hS] at c0 HX
      clear hx hS
      cases hb : sameI bs x with
      | true =>
        rw [hb] at HX HA
        clear hb
        go_wp2_with (go_at_call 96; refine HX.out.mono ?_; rintro r w1 ⟨rfl, k1⟩; have HK1 := hide (HK.out.trans k1); clear k1)
        go_ret
        exact ⟨k, rfl, by rw [HA.out trivial]; simp, by omega, HK1.out⟩
      | false =>
        rw [hb] at HX HT
        clear hb
        go_wp2_with (go_at_call 96; refine HX.out.mono ?_; rintro r w1 ⟨rfl, k1⟩; have HK1 := hide (HK.out.trans k1); clear k1)
        go_roundw
        case rel => exact ⟨k + 1, by omega, by go_num, HK1.out, HT.out⟩
        case measure => simp [intOf]; omega
    · have hkn : k = n := by omega
      have hnlt : ¬ (k : Int) < (n : Int) := by omega
      have HFF : Hid (l.any (sameI bs) = false) := by
        have := HF.out
        rw [hkn, HN.out, List.take_length] at this
        exact this
      clear hkn HF
      go_wp2_with fail
      go_ret
      exact ⟨-1, rfl, by rw [HFF.out]; rfl, by omega, HK.out⟩
set_option maxHeartbeats 1000000 in
theorem bcontains_any (base b : Nat) (v vb : Value) (l : List It) (bs : List Int) (w : World) (h : RowBt 137 w base v l) (hc : w.cell? ⟨b, 0, none⟩ = some vb) (hS : Sl w vb bs) (hB : Bs bs) (hok : ∀ e ∈ l, e.Ok) (hl : l.length ≤ 1000) :
    Calls Tryz.prog 95 #[v, .func (.func 96) #[] #[.pointer (some ⟨b, 0, none⟩)]] w fun r w' => r = .returned (.bool (l.any (sameI bs))) ∧ Kp [] w w' := by
  have HI := hide (bindex_any base b v vb l bs w h hc hS hB hok hl)
  obtain ⟨ao, c, rfl, -⟩ := h.shape
  obtain ⟨n, hn⟩ : ∃ n, n = l.length := ⟨_, rfl⟩
  rw [← hn] at HI ⊢
  obtain ⟨r, hr⟩ : ∃ r, r = l.any (sameI bs) := ⟨_, rfl⟩
  rw [← hr] at HI ⊢
  clear h hc hS hn hr hok
  go_enter Tryz.func95, Tryz.ntmps95
  go_wp2_with (go_at_call 115; refine HI.out.mono ?_; rintro r w1 ⟨i, rfl, hi, hi1, k1⟩; have HE := hide hi; clear hi)
  rw [HE.out]
  go_ret
  exact ⟨rfl, k1⟩
set_option maxHeartbeats 1000000 in
theorem bhas_any (base p : Nat) (v vb : Value) (q : Qd) (bs : List Int) (w : World) (h : Qm w base p v q) (hS : Sl w vb bs) (hB : Bs bs) (r : Bool) (hr : r = q.ms.any (sameI bs)) :
    Calls Tryz.prog 59 #[.pointer (some ⟨p, 0, none⟩), vb] w fun x w' => x = .returned (.bool r) ∧ Kp [] w w' := by
  have K := (Kp.refl [] w).alloc (.cells #[vb] 28)
  have h1 := h.keptN K
  have hc3 := h1.here.c3
  have HI := hide (bcontains_any base w.heap.size v vb q.ms bs _ h1.row (by rw [World.cell?_alloc_at _ _ _ _ rfl]; rfl) (hS.kept K (by simp)) hB h.fit.its h.fit.cnt)
  rw [← hr] at HI
  obtain ⟨ao, c, rfl, -⟩ := h.shape
  obtain ⟨ax, cx, rfl, -⟩ := hS
  obtain ⟨n, hn⟩ : ∃ n, n = q.ms.length := ⟨_, rfl⟩
  rw [← hn] at HI hc3
  have HK := hide K
  clear h h1 hn hr K
  go_enter Tryz.func59, Tryz.ntmps59
  go_wp2_with (go_at_call 95; refine HI.out.mono ?_; rintro x w1 ⟨rfl, k1⟩)
  go_ret
  exact ⟨rfl, HK.out.trans k1⟩
end Go.Proofs.YteabdojjllfcpaaGreat

/-
  The contract of package batch's Back.
-/
namespace Go.Proofs.YteabdojjllfcpaaGreat
open Go.RowKit
open Go.Proofs
set_option linter.unusedVariables false
theorem RowBt.of_owns {T : TypeId} {w : World} {base : Nat} {v : Value} {l : List It} (h : w.ownsRow base T 2 v l.length (flatI l)) : RowBt T w base v l := by
  rcases h.2 with ⟨rfl, h0⟩ | ⟨g, cap, cur, rfl, hb, hg, hn, hm, hs, ht⟩
  · exact .inl ⟨rfl, List.eq_nil_of_length_eq_zero h0⟩
  · refine .inr ⟨g, 0, cap, cur, rfl, hb, hg, hn, hm, by omega, fun j u hu => ?_⟩
    rw [← ht, List.getElem?_take] at hu
    split at hu
    · rw [Nat.zero_add]
      simpa using hu
    · cases hu
/-- since ever. -/
def evr (bs : List Int) : It := ⟨bs, -9223372036854775808⟩
set_option maxHeartbeats 4000000 in
set_option maxRecDepth 100000 in
theorem bback_any (base p : Nat) (v vi : Value) (q : Qd) (li : List (Value × List Int)) (w : World) (h : Qm w base p v q) (hL : Lists w vi li) (hli : ∀ x ∈ li, x.2.length ≤ 1000) (hn : q.ms.length + li.length ≤ 1000) (hbase : base ≤ w.heap.size) :
    Calls Tryz.prog 40 #[.pointer (some ⟨p, 0, none⟩), vi] w fun e w' => e = .returned (.tuple #[]) ∧ ∃ v', Qm w' base p v' { q with ms := (li.map (fun x => evr x.2)) ++ q.ms } ∧ DSt p w v w' v' := by
  obtain ⟨n, hnn⟩ : ∃ n, n = q.ms.length := ⟨_, rfl⟩
  have HLen := hide (blen_any base p v q w h n hnn)
  obtain ⟨i0, hi0, hz0, hz1, hz2⟩ := info_parts Tryz.infoWt
  obtain ⟨ai, ci, rfl, hm1, hm2⟩ := id hL
  obtain ⟨m, hm⟩ : ∃ m, m = li.length := ⟨_, rfl⟩
  rw [← hm] at hm1 hn ⊢
  have HM := hide hm
  have HN := hide hnn
  have H := hide h
  have HLI := hide hli
  have HL2 := hide hm2
  have HB := hide hbase
  rw [← hnn] at hn
  have hnm : n + m ≤ 1000 := by omega
  clear hm2 hm hnn h hli hbase hL hn
  go_enter Tryz.func40, Tryz.ntmps40
  go_wp2_with (first
    | (go_at_call 47; refine HLen.out.mono ?_; rintro e w1 ⟨rfl, hw⟩; subst w1)
    | (at_make; refine wpList_make_own _ rfl _ _ 133 rfl w.heap.size 137 i0 (.agg #[.string ⟨#[]⟩, .int .i64 0]) 2 Tryz.underlying133 hi0 hz0 hz1 .i64 .i64 _ (m + n) rfl rfl (by omega) (by rw [hz2]; omega) (by unfold maxLen; omega) (Nat.le_refl _) ?_; intro w1 o1 g1; have K1 : Kp [] w w1 := (Kp.refl [] w).grown g1 (by intro k hk; cases hk); have R1 : RowBt 137 w1 w.heap.size _ [] := RowBt.of_owns o1; have HR1 := hide R1; have HK1 := hide K1; clear o1 g1 R1 K1))
  clear HLen
  go_loopw [4, 15] (fun u i wr => ∃ (k j c : Nat) (a : Option Addr), k ≤ m ∧ u = .slice a j c ∧ i = .int .i64 k ∧ RowBt 137 wr w.heap.size (.slice a j c) ((li.take k).map (fun x => evr x.2)) ∧ Kp [] w wr) (fun _ i _ => m - (intOf i).toNat)
  case atStart => exact ⟨0, 0, m + n, some ⟨w.heap.size, 0, none⟩, by omega, rfl, rfl, HR1.out, HK1.out⟩
  case round =>
    obtain ⟨k, j, c, a, hk, rfl, rfl, R, K⟩ := hrel
    have HR := hide R
    have HK := hide K
    clear R K HR1 HK1
    by_cases hlt : k < m
    · have hlt2 : (k : Int) < (m : Int) := by omega
      have hkl : k < li.length := by rw [← HM.out]; exact hlt
      obtain ⟨b, off, rfl, c0, hS, hB⟩ := HL2.out k hkl
      have hlx := HLI.out li[k] (List.getElem_mem hkl)
      have ht : Hid ((li.take (k + 1)).map (fun x => evr x.2) = (li.take k).map (fun x => evr x.2) ++ [evr li[k].2]) := by
        show _ = _
        rw [List.take_succ_eq_append_getElem hkl, List.map_append]
        rfl
      have HLT : Hid (((li.take k).map (fun x => evr x.2)).length + [evr li[k].2].length ≤ 1000000) := by show _ ≤ _; simp; omega
      obtain ⟨x, hxe⟩ : ∃ x, x = li[k] := ⟨_, rfl⟩
      rw [← hxe] at c0 hS hB hlx ht HLT
      have d0 := HK.out.cell c0 (by simp)
      obtain ⟨S, hSS⟩ : ∃ S, S = strOfNums x.2 := ⟨_, rfl⟩
      have cv := (hS.kept HK.out (by simp)).conv (P := Tryz.prog) 28 9 5 Tryz.underlying28 Tryz.underlying5 Tryz.underlying9
      rw [← hSS] at cv
      obtain ⟨ax, cx, ex, -⟩ := hS
      obtain ⟨nx, hnx⟩ : ∃ nx, nx = x.2.length := ⟨_, rfl⟩
      rw [← hnx] at ex
      rw [ex] at d0 cv
      have LIT : Hid (SrcI (wr.alloc (.cells #[.string S, .int .i64 (-9223372036854775808)] 137)) (.slice (some ⟨wr.heap.size, 0, none⟩) 1 1) [evr x.2]) := by
        have := src_lit wr 137 [evr x.2] 1 rfl
        have e : (flatI [evr x.2]).toArray = #[.string S, .int .i64 (-9223372036854775808)] := by rw [hSS]; rfl
        rw [e] at this
        exact this
      have KA := hide ((Kp.refl [] wr).alloc (.cells #[.string S, .int .i64 (-9223372036854775808)] 137))
      have R0 := hide (HR.out.keptN KA.out)
      have HSZ : Hid (w.heap.size ≤ (wr.alloc (.cells #[.string S, .int .i64 (-9223372036854775808)] 137)).heap.size) := Nat.le_trans HK.out.size KA.out.size
      clear hxe c0 hSS ex hnx hB hlx
      go_wp2_with (at_builtin; refine wpList_appT rfl 137 133 Tryz.underlying133 Tryz.infoWt (.tmp 19) (.tmp 23) rfl w.heap.size (.slice a j c) _ rfl R0.out (.slice (some ⟨wr.heap.size, 0, none⟩) 1 1) _ rfl LIT.out HLT.out HSZ.out ?_; intro a2 m2 c2 w2 R2 S2; rw [← ht.out] at R2; have HR2 := hide R2; have HK2 := hide ((HK.out.trans KA.out).then S2.1 (fun i hi => .inr (R0.out.own (by simpa using hi)))); clear R2 S2)
      go_roundw
      case rel => exact ⟨k + 1, m2, c2, a2, by omega, rfl, by go_num, HR2.out, HK2.out⟩
      case measure => simp [intOf]; omega
    · have hkn : k = m := by omega
      have hnlt : ¬ (k : Int) < (m : Int) := by omega
      have HF : Hid (RowBt 137 wr w.heap.size (.slice a j c) (li.map (fun x => evr x.2))) := by
        have := HR.out
        rw [hkn, HM.out, List.take_length] at this
        exact this
      have HLI2 : Hid (∀ x ∈ li, Bs x.2) := fun x hx => by
        obtain ⟨i, hi, rfl⟩ := List.getElem_of_mem hx
        obtain ⟨_, _, _, _, _, hB⟩ := HL2.out i hi
        exact hB
      have FIT : Hid (Qd.Fit { q with ms := (li.map (fun x => evr x.2)) ++ q.ms }) := by
        have f := H.out.fit
        refine ⟨f.r0, f.r1, f.s0, f.s1, f.t0, f.t1, by have := HM.out; have := HN.out; simp; omega, fun e he => ?_⟩
        rcases List.mem_append.1 he with he | he
        · obtain ⟨x, hx, rfl⟩ := List.mem_map.1 he
          exact ⟨HLI2.out x hx, HLI.out x hx, by simp [evr], by simp [evr]⟩
        · exact f.its e he
      have H1 := hide (H.out.keptN HK.out)
      have x0 := H1.out.here.c3
      obtain ⟨av, cv, ev, -⟩ := H1.out.shape
      have HSZ : Hid (w.heap.size ≤ wr.heap.size) := HK.out.size
      have HLT : Hid ((li.map (fun x => evr x.2)).length + q.ms.length ≤ 1000000) := by have := HM.out; have := HN.out; show _ ≤ _; simp; omega
      rw [← HN.out] at ev
      clear hkn HR
      subst ev
      go_wp2_with (at_builtin; refine wpList_appT rfl 137 133 Tryz.underlying133 Tryz.infoWt (.tmp 27) (.tmp 31) rfl w.heap.size (.slice a j c) _ rfl HF.out (.slice av n cv) q.ms rfl H1.out.row.src HLT.out HSZ.out ?_; intro a2 m2 c2 w2 R2 S2; have K2 : Kp [] w w2 := HK.out.then S2.1 (fun i hi => .inr (HF.out.own (by simpa using hi))); obtain ⟨Q3, D3, x3, f3⟩ := H.out.put (q' := { q with ms := (li.map (fun x => evr x.2)) ++ q.ms }) (R2.rebase (base' := base) (fun i hi => Nat.le_trans HB.out (R2.own hi))) ⟨K2.mono (by simp), fun i hi => .inr (R2.own hi)⟩ rfl rfl rfl FIT.out; have HQ3 := hide Q3; have HD3 := hide D3; clear R2 S2 K2 Q3 D3)
      go_end0
      exact ⟨rfl, _, HQ3.out, HD3.out⟩
end Go.Proofs.YteabdojjllfcpaaGreat
