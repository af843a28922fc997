/-
  Structs of any number of cells in memory: stored whole or in part, loaded, handed back.
-/
import Derived.Test.YthpaablhhfichaaKRGrows
import Derived.Laws.ResultCell
import Derived.Laws.Rows
import Derived.Deep.MidRow
import Derived.Maps.AppendAt
import Derived.Laws.AppendOwnNone
namespace Go.Proofs.Ythpaablhhfichaa
open Go.RowKit
open Go.Proofs

/-- cells with others laid over them from a place on. -/
def putAll : Array Value → Nat → List Value → Array Value
  | C, _, [] => C
  | C, o, x :: l => putAll (C.setIfInBounds o x) (o + 1) l
theorem heap_fcells (g : Nat) (t : TypeId) : ∀ (l : List Value) (o : Nat) (w : World) (C : Array Value), w.heap[g]? = some (.cells C t (0, 0)) → (w.setCells g o l).heap[g]? = some (.cells (putAll C o l) t (0, 0))
  | [], _, _, _, h => h
  | x :: l, o, w, C, h => heap_fcells g t l (o + 1) _ _ (heap_setCell_same w g o C t x h)
theorem kp_fcells (w : World) (g : Nat) : ∀ (l : List Value) (o : Nat) (w1 : World), Kp [g] w w1 → Kp [g] w (w1.setCells g o l)
  | [], _, _, h => h
  | x :: l, o, w1, h => kp_fcells w g l (o + 1) _ (h.setCell (p := ⟨g, o, none⟩) (.inl (by simp)) x)
theorem kp_fcell (w : World) (g j : Nat) (u : Value) : Kp [g] w (w.setCell ⟨g, j, none⟩ u) := (Kp.refl [g] w).setCell (p := ⟨g, j, none⟩) (.inl (by simp)) _
theorem flat_range {w : World} {g : Nat} {C : Array Value} {t : TypeId} {fr : Nat × Nat} (hg : w.heap[g]? = some (.cells C t fr)) (o : Nat) (cs : List Value) (h : ∀ (j : Nat) v, cs[j]? = some v → C[o + j]? = some v) : w.rangeAt g o cs := fun j v hv => by
  rw [cell_of_row w g (o + j) C t fr hg]; exact h j v hv
theorem flat_in {C : Array Value} {off : Nat} {cs : List Value} (h : (C.toList.drop off).take cs.length = cs) : ∀ (j : Nat) v, cs[j]? = some v → C[off + j]? = some v := fun j v hv => by
  rw [← h, List.getElem?_take] at hv
  split at hv
  · rw [List.getElem?_drop] at hv
    simpa using hv
  · cases hv
/-- a struct stored whole, at a place within a block. -/
theorem wpList_store_flat {w : World} {ops : Array Oper} {rest : List Oper} {o : Oper} {a : Act} {Q : Exit → Act → World → Prop} (hgd : o.guard = none) (T : TypeId) (p r : Operand) (ho : o.op = .store T p r) (g off : Nat) (hp : a.eval p = .pointer (some ⟨g, off, none⟩)) (C : Array Value) (t : TypeId) (cs : List Value)
    (hg : w.heap[g]? = some (.cells C t (0, 0))) (hu : a.eval r = .agg cs.toArray) (hsz : off + cs.length ≤ C.size) (hi : (Try.prog.info? T).map (·.size) = some cs.length) (h1 : ∀ v ∈ cs, v.oneCell' = true) (C' : Array Value) (hC : putAll C off cs = C')
    (h : ∀ w', w'.heap[g]? = some (.cells C' t (0, 0)) → Kp [g] w w' → wpList Try.prog ops Q rest (a.put o.dst undef) w') : wpList Try.prog ops Q (o :: rest) a w := by
  refine wpList_store_mid hgd T p r ho g off cs.toArray hp hu ?_ (by simpa using hi) (all_oneCell_toArray h1) ?_
  · intro j hj
    simp only [List.size_toArray] at hj
    rw [cell_of_row w g (off + j) _ _ _ hg]
    refine ⟨?_, frozen_of_row w g (off + j) _ _ hg⟩
    rw [Array.getElem?_eq_getElem (by omega)]
    rfl
  · refine h _ ?_ (kp_fcells w g _ off w (Kp.refl _ _))
    rw [← hC]
    exact heap_fcells g t cs off w C hg
theorem step_store_flat {w : World} {ops : Array Oper} {o : Oper} {a : Act} {K : Act → World → Prop} {Q : Exit → Act → World → Prop} {E : Prop} (hgd : o.guard = none) (T : TypeId) (p r : Operand) (ho : o.op = .store T p r) (g off : Nat) (hp : a.eval p = .pointer (some ⟨g, off, none⟩)) (C : Array Value) (t : TypeId) (cs : List Value)
    (hg : w.heap[g]? = some (.cells C t (0, 0))) (hu : a.eval r = .agg cs.toArray) (hsz : off + cs.length ≤ C.size) (hi : (Try.prog.info? T).map (·.size) = some cs.length) (h1 : ∀ v ∈ cs, v.oneCell' = true) (C' : Array Value) (hC : putAll C off cs = C')
    (h : ∀ w', w'.heap[g]? = some (.cells C' t (0, 0)) → Kp [g] w w' → K (a.put o.dst undef) w') : if Region.wanted o (yielded ops a.tmps) = true then Oper.wp Try.prog o a w K Q else E := by
  have hw : Region.wanted o (yielded ops a.tmps) = true := by simp [Region.wanted, hgd]
  rw [if_pos hw]
  refine wp_store_mid T p r ho g off cs.toArray hp hu ?_ (by simpa using hi) (all_oneCell_toArray h1) ?_
  · intro j hj
    simp only [List.size_toArray] at hj
    rw [cell_of_row w g (off + j) _ _ _ hg]
    refine ⟨?_, frozen_of_row w g (off + j) _ _ hg⟩
    rw [Array.getElem?_eq_getElem (by omega)]
    rfl
  · refine h _ ?_ (kp_fcells w g _ off w (Kp.refl _ _))
    rw [← hC]
    exact heap_fcells g t cs off w C hg
theorem load_flat {w : World} {g off : Nat} {C : Array Value} {t T : TypeId} {fr : Nat × Nat} {d : TypeDesc} (hg : w.heap[g]? = some (.cells C t fr)) (cs : List Value) (hc : ∀ (j : Nat) v, cs[j]? = some v → C[off + j]? = some v)
    (hu : Try.prog.underlying T = some d) (hd : d.isRow = true) (hi : (Try.prog.info? T).map (·.size) = some cs.length) : (loadVar T ⟨g, off, none⟩).run Try.prog w = .ok (.agg cs.toArray) w :=
  run_loadVar_mid w g off T cs d (flat_range hg off cs hc) hu hd hi
theorem wpList_load_flat {w : World} {ops : Array Oper} {rest : List Oper} {o : Oper} {a : Act} {Q : Exit → Act → World → Prop} (hgd : o.guard = none) (T : TypeId) (x : Operand) (ho : o.op = .load T x) (g off : Nat) (hx : a.eval x = .pointer (some ⟨g, off, none⟩)) (C : Array Value) (t : TypeId) (fr : Nat × Nat) (d : TypeDesc) (hg : w.heap[g]? = some (.cells C t fr)) (cs : List Value) (hc : ∀ (j : Nat) v, cs[j]? = some v → C[off + j]? = some v)
    (hu : Try.prog.underlying T = some d) (hd : d.isRow = true) (hi : (Try.prog.info? T).map (·.size) = some cs.length)
    (h : wpList Try.prog ops Q rest (a.put o.dst (.agg cs.toArray)) w) : wpList Try.prog ops Q (o :: rest) a w :=
  wpList_load_mid hgd T x ho g off hx cs d (flat_range hg off cs hc) hu hd hi h
theorem grown_loadf {o : Oper} {a : Act} {w : World} {R : Tell} (T : TypeId) (p : Operand) (ho : o.op = .load T p) (g off : Nat) (hp : a.eval p = .pointer (some ⟨g, off, none⟩)) (C : Array Value) (t : TypeId) (fr : Nat × Nat) (d : TypeDesc) (hg : w.heap[g]? = some (.cells C t fr)) (cs : List Value) (hc : ∀ (j : Nat) v, cs[j]? = some v → C[off + j]? = some v)
    (hu : Try.prog.underlying T = some d) (hd : d.isRow = true) (hi : (Try.prog.info? T).map (·.size) = some cs.length) (hR : R (.agg cs.toArray) w) : grown Try.prog w R ((execOp a.eval o).run Try.prog w) := by
  refine grown_run ?_ (Kp.refl _ _) hR
  unfold execOp
  simp only [ho, hp, Instr.loadAt, Instr.sureAddr, Sem.run_bind, Sem.run_pure, Result.andThen_ok, load_flat hg cs hc hu hd hi]
theorem grown_loadc {o : Oper} {a : Act} {w : World} (T : TypeId) (p : Operand) (ho : o.op = .load T p) (g j : Nat) (v : Value) (hp : a.eval p = .pointer (some ⟨g, j, none⟩)) (hc : w.cell? ⟨g, j, none⟩ = some v) (hT : (loadVar T ⟨g, j, none⟩).run Try.prog w = (load ⟨g, j, none⟩).run Try.prog w) : grown Try.prog w (Is v) ((execOp a.eval o).run Try.prog w) := by
  refine grown_run (v := v) ?_ (Kp.refl _ _) rfl
  unfold execOp
  simp only [ho, hp, Instr.loadAt, Instr.sureAddr, Sem.run_bind, Sem.run_pure, Result.andThen_ok, hT]
  simp [go_sem, hc]
theorem load_whole {w : World} {g : Nat} {C : Array Value} {t T : TypeId} {fr : Nat × Nat} {d : TypeDesc} (hg : w.heap[g]? = some (.cells C t fr)) (hu : Try.prog.underlying T = some d) (hd : d.isRow = true) (hi : (Try.prog.info? T).map (·.size) = some C.size) : (loadVar T ⟨g, 0, none⟩).run Try.prog w = .ok (.agg C) w := by
  have := load_flat (off := 0) hg C.toList (fun j v hv => by rw [Nat.zero_add]; simpa using hv) hu hd (by simpa using hi)
  simpa using this
theorem results_flat1 {fn : Func} {p : Tmp} {T : TypeId} {w : World} {g : Nat} {C : Array Value} {t : TypeId} {fr : Nat × Nat} {d : TypeDesc} (h : fn.results = #[.cell p T]) (tmps : Array Value) (hp : tmps.getD p undef = .pointer (some ⟨g, 0, none⟩)) (hg : w.heap[g]? = some (.cells C t fr)) (hu : Try.prog.underlying T = some d) (hd : d.isRow = true) (hi : (Try.prog.info? T).map (·.size) = some C.size) : (results fn tmps).run Try.prog w = .ok (.agg C) w := by
  have hp' : tmps[p]?.getD undef = .pointer (some ⟨g, 0, none⟩) := by simpa using hp
  simp [results, h, hp', asAddr, load_whole hg hu hd hi]
theorem results_flat2 {fn : Func} {p u : Tmp} {T : TypeId} {w : World} {g : Nat} {C : Array Value} {t : TypeId} {fr : Nat × Nat} {d : TypeDesc} (h : fn.results = #[.cell p T, .tmp u]) (tmps : Array Value) (hp : tmps.getD p undef = .pointer (some ⟨g, 0, none⟩)) (hg : w.heap[g]? = some (.cells C t fr)) (hu : Try.prog.underlying T = some d) (hd : d.isRow = true) (hi : (Try.prog.info? T).map (·.size) = some C.size) : (results fn tmps).run Try.prog w = .ok (.tuple #[.agg C, tmps.getD u undef]) w := by
  rw [results_cell_tmp h, hp]
  simp [asAddr, Result.andThen, load_whole hg hu hd hi]
end Go.Proofs.Ythpaablhhfichaa

/-
  Rows of a call's own of things of a fixed number of cells, each of which is told of; how they grow.
-/
namespace Go.Proofs.Ythpaablhhfichaa
open Go.RowKit
open Go.Proofs

theorem flatN_at (sz : Nat) (xs : List (List Value)) (h : ∀ x ∈ xs, x.length = sz) : ∀ (i c : Nat) (hi : i < xs.length), c < sz → xs.flatten[i * sz + c]? = xs[i][c]? := by
  induction xs with
  | nil => intro i c hi; cases hi
  | cons x xs ih =>
    intro i c hi hc
    have hx : x.length = sz := h x (by simp)
    cases i with
    | zero =>
      rw [List.flatten_cons, List.getElem?_append_left (by omega)]
      simp
    | succ i =>
      have e : (i + 1) * sz + c - x.length = i * sz + c := by rw [Nat.add_mul, hx]; omega
      rw [List.flatten_cons, List.getElem?_append_right (by rw [Nat.add_mul, hx]; omega), e, ih (fun y hy => h y (by simp [hy])) i c (by simpa using hi) hc]
      simp
theorem flatN_len (sz : Nat) (xs : List (List Value)) (h : ∀ x ∈ xs, x.length = sz) : xs.flatten.length = xs.length * sz := by
  induction xs with
  | nil => simp
  | cons x xs ih =>
    rw [List.flatten_cons, List.length_append, ih (fun y hy => h y (by simp [hy])), h x (by simp), List.length_cons, Nat.add_mul]
    omega
/-- a row of the call's own of things of sz cells. -/
def RowX (T : TypeId) (sz : Nat) (w : World) (base : Nat) (v : Value) (xs : List (List Value)) : Prop := w.ownsRow base T sz v xs.length xs.flatten ∧ ∀ x ∈ xs, x.length = sz
section
variable {T : TypeId} {sz : Nat} {w w' : World} {base : Nat} {v : Value} {xs : List (List Value)}
theorem RowX.shape (h : RowX T sz w base v xs) : ∃ ao c, v = .slice ao xs.length c := by
  rcases h.1.2 with ⟨rfl, h0⟩ | ⟨g, cap, cur, rfl, _⟩
  · exact ⟨none, 0, by rw [h0]⟩
  · exact ⟨_, _, rfl⟩
theorem RowX.block (h : RowX T sz w base v xs) : ∀ k, v.ownBlock = some k → base ≤ k ∧ k < w.heap.size ∧ ∃ cur, w.heap[k]? = some (.cells cur T (0, 0)) := by
  intro k hk
  rcases h.1.2 with ⟨rfl, _⟩ | ⟨g, cap, cur, rfl, hb, hg, _⟩
  · cases hk
  · cases hk; exact ⟨hb, lt_of_block hg, cur, hg⟩
theorem RowX.kept {S' : List Nat} (h : RowX T sz w base v xs) (k : Kp S' w w') (hv : ∀ i, v.ownBlock = some i → i ∉ S') : RowX T sz w' base v xs := ⟨k.owns h.1 hv, h.2⟩
theorem RowX.at (h : RowX T sz w base v xs) (h0 : 0 < xs.length) : ∃ g c, v = .slice (some ⟨g, 0, none⟩) xs.length c ∧ ∀ i (hi : i < xs.length), w.rangeAt g (i * sz) xs[i] := by
  have h1 := h.1
  rcases h1.2 with ⟨_, hz⟩ | ⟨g, cap, cur, rfl, hb, hg, _⟩
  · omega
  · refine ⟨g, cap, rfl, fun i hi j u hu => ?_⟩
    have hl : xs[i].length = sz := h.2 _ (List.getElem_mem hi)
    have hj : j < sz := by have := (List.getElem?_eq_some_iff.1 hu).1; omega
    have hb : i * sz + j < xs.length * sz := by
      have : (i + 1) * sz ≤ xs.length * sz := Nat.mul_le_mul_right sz hi
      rw [Nat.add_mul] at this
      omega
    rw [h1.cellAt (i * sz + j) hb, flatN_at sz xs h.2 i j hi hj]
    exact hu
theorem RowX.nil (w : World) (base : Nat) : RowX T sz w base (.slice none 0 0) [] := ⟨⟨by simp, .inl ⟨rfl, rfl⟩⟩, fun x hx => by cases hx⟩
end
/-- a row of n things, begun when the world was w: thing j is as P tells, whatever becomes of the row's own block. -/
def RowQ (T : TypeId) (sz : Nat) (P : Nat → World → List Value → Prop) (n : Nat) (w : World) (v : Value) (wr : World) : Prop :=
  (∃ xs, RowX T sz wr w.heap.size v xs ∧ xs.length = n ∧ ∀ j (hj : j < xs.length) w2, Kp v.ownBlock.toList wr w2 → P j w2 xs[j]) ∧ Kp [] w wr
section
variable {T : TypeId} {sz : Nat} {P : Nat → World → List Value → Prop} {n : Nat} {w wr w2 : World} {v : Value}
theorem RowQ.kp (h : RowQ T sz P n w v wr) : Kp [] w wr := h.2
theorem RowQ.kept (h : RowQ T sz P n w v wr) (k : Kp [] wr w2) : RowQ T sz P n w v w2 := by
  obtain ⟨⟨xs, h1, h2, h3⟩, h4⟩ := h
  exact ⟨⟨xs, h1.kept k (by simp), h2, fun j hj w3 k3 => h3 j hj w3 ((k.mono (by simp)).trans k3)⟩, h4.trans k⟩
theorem RowQ.nil (w : World) : RowQ T sz P 0 w (.slice none 0 0) w := ⟨⟨[], RowX.nil w _, rfl, fun j hj => by cases hj⟩, Kp.refl _ _⟩
theorem RowQ.shape (h : RowQ T sz P n w v wr) : ∃ ao c, v = .slice ao n c := by
  obtain ⟨⟨xs, h1, h2, _⟩, _⟩ := h
  obtain ⟨ao, c, e⟩ := h1.shape
  exact ⟨ao, c, by rw [e, h2]⟩
theorem RowQ.own (h : RowQ T sz P n w v wr) : ∀ k, v.ownBlock = some k → w.heap.size ≤ k ∧ k < wr.heap.size := by
  obtain ⟨⟨xs, h1, h2, _⟩, _⟩ := h
  exact fun k hk => ⟨(h1.block k hk).1, (h1.block k hk).2.1⟩
theorem RowQ.at (h : RowQ T sz P n w v wr) (j : Nat) (hj : j < n) : ∃ g c x, v = .slice (some ⟨g, 0, none⟩) n c ∧ x.length = sz ∧ wr.rangeAt g (j * sz) x ∧ P j wr x := by
  obtain ⟨⟨xs, h1, h2, h3⟩, _⟩ := h
  subst h2
  obtain ⟨g, c, e, h4⟩ := h1.at (by omega)
  exact ⟨g, c, xs[j], e, h1.2 _ (List.getElem_mem hj), h4 j hj, h3 j hj wr (Kp.refl _ _)⟩
theorem RowQ.imp {P' : Nat → World → List Value → Prop} (h : RowQ T sz P n w v wr) (hP : ∀ j w x, j < n → P j w x → P' j w x) : RowQ T sz P' n w v wr := by
  obtain ⟨⟨xs, h1, h2, h3⟩, h4⟩ := h
  exact ⟨⟨xs, h1, h2, fun j hj w2 k2 => hP j w2 _ (by omega) (h3 j hj w2 k2)⟩, h4⟩
theorem RowQ.after {w0 : World} (h : RowQ T sz P n w v wr) (k : Kp [] w0 w) : RowQ T sz P n w0 v wr := by
  obtain ⟨⟨xs, h1, h2, h3⟩, h4⟩ := h
  exact ⟨⟨xs, ⟨owns_rebase h1.1 (fun i hi => Nat.le_trans k.size (h1.block i hi).1), h1.2⟩, h2, h3⟩, k.trans h4⟩
/-- more behind them. -/
theorem wpList_rowq {TS : TypeId} {z : Value} {by' : Nat} (hinfo : (Try.prog.info? T).map (fun i => (i.zero, i.size, i.bytes)) = some (some z, sz, by')) (hzs : z.cells.size = sz) (hsz : 0 < sz) (hby : by' ≤ 1000) (hTS : Try.prog.underlying TS = some (.slice T))
    {ops : Array Oper} {rest : List Oper} {o : Oper} {a : Act} {Q : Exit → Act → World → Prop} (hgd : o.guard = none) (s x : Operand) (ho : o.op = .call { callee := .builtin .append, args := #[s, x], argTypes := #[TS, TS] })
    (hs : a.eval s = v) (hR : RowQ T sz P n w v wr) (k : Kp [] wr w2) (ad : Addr) (c m : Nat) (nls : List (List Value)) (hm : nls.length = m) (hx : a.eval x = .slice (some ad) m c) (hl : ∀ x ∈ nls, x.length = sz)
    (hnews : ∀ j u, nls.flatten[j]? = some u → w2.cell? (ad.add j) = some u) (h1 : ∀ x ∈ nls, ∀ u ∈ x, u.oneCell' = true) (hn : n + m ≤ 1000000) (hP : ∀ j (hj : j < nls.length) w3, Kp v.ownBlock.toList w2 w3 → P (n + j) w3 nls[j])
    (h : ∀ ao mm cc w', mm = n + m → RowQ T sz P (n + m) w (.slice ao mm cc) w' → wpList Try.prog ops Q rest (a.put o.dst (.slice ao mm cc)) w') : wpList Try.prog ops Q (o :: rest) a w2 := by
  obtain ⟨⟨xs, hX, hxn, hPs⟩, hK⟩ := hR
  obtain ⟨i0, hi0, hz0, hz1, hz2⟩ := info_parts hinfo
  have hX2 := hX.kept k (by simp)
  have hbb : (xs.length + m) * by' ≤ 1000000 * 1000 := Nat.mul_le_mul (by omega) hby
  refine wpList_append_own_at w2 hgd s x TS ho w.heap.size T i0 z sz by' hTS hi0 hz0 hz1 hz2 hzs hsz v xs.length xs.flatten hs hX2.1 ad m c nls.flatten hx (by rw [flatN_len sz nls hl, hm]) hnews (fun u hu => by obtain ⟨y, hy, hu⟩ := List.mem_flatten.1 hu; exact h1 y hy u hu) (by unfold maxLen; omega) (by omega) (Nat.le_trans hK.size k.size) ?_
  intro v' w' hown hgrow _ hat
  have K' : Kp v.ownBlock.toList w2 w' := (Kp.refl _ _).grown hgrow (fun k hk => .inl (Option.mem_toList.2 hk))
  have X' : RowX T sz w' w.heap.size v' (xs ++ nls) := ⟨by rw [List.length_append, List.flatten_append, hm]; exact hown, fun x hx => (List.mem_append.1 hx).elim (hX.2 x) (hl x)⟩
  have HC : ∀ w3, Kp v'.ownBlock.toList w' w3 → Kp v.ownBlock.toList w2 w3 := fun w3 k3 => K'.then k3 (fun i hi => by
    rcases hat with h | h
    · exact .inl (by rw [← h]; exact hi)
    · rw [h] at hi
      simp at hi
      exact .inr (by omega))
  obtain ⟨ao, cc, e⟩ := X'.shape
  have hR' : RowQ T sz P (n + m) w v' w' := by
    refine ⟨⟨xs ++ nls, X', by rw [List.length_append, hxn, hm], fun j hj w3 k3 => ?_⟩, (hK.trans k).then K' (fun i hi => .inr (hX.block i (by simpa using hi)).1)⟩
    have k4 := HC w3 k3
    by_cases hjx : j < xs.length
    · rw [List.getElem_append_left hjx]
      exact hPs j hjx w3 ((k.mono (by simp)).trans k4)
    · rw [List.getElem_append_right (by omega)]
      have hj2 : j - xs.length < nls.length := by rw [List.length_append] at hj; omega
      have := hP (j - xs.length) hj2 w3 k4
      rw [show n + (j - xs.length) = j by omega] at this
      exact this
  rw [e] at hR' ⊢
  exact h ao _ cc w' (by rw [List.length_append, hxn, hm]) hR'
end
theorem one_at {P : Nat → World → List Value → Prop} {w : World} {x : List Value} {k j : Nat} (hj : j < [x].length) (h : P k w x) : P (k + j) w ([x][j]'hj) := by
  have : j = 0 := by simp at hj; omega
  subst this
  exact h
theorem news_one (w : World) (g : Nat) (nl : List Value) (t : TypeId) (fr : Nat × Nat) (hg : w.heap[g]? = some (.cells nl.toArray t fr)) : ∀ j u, [nl].flatten[j]? = some u → w.cell? ((⟨g, 0, none⟩ : Addr).add j) = some u := fun j u hu => by
  rw [Addr.add_lit, Nat.zero_add, cell_of_row _ g j _ _ _ hg]
  simpa using hu
end Go.Proofs.Ythpaablhhfichaa
