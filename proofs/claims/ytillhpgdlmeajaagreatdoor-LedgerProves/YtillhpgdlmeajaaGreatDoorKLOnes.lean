/-
  Rows of slices that lie anywhere: how they are gathered.
-/
import Derived.Test.YtillhpgdlmeajaaGreatDoorKTLcs
import Derived.Laws.ResultCell
import Derived.Laws.Rows
import Derived.Deep.MidRow
namespace Go.Proofs.YtillhpgdlmeajaaGreatDoor
open Go.RowKit
open Go.Proofs

/-- one more slice, wherever it lies but in the row itself. -/
theorem RowS.snocR {w1 w2 : World} {base : Nat} {v v' : Value} {l : List (Value × List Int)} {x : Value × List Int} (h : RowS w1 base v l) (hx : Sl w1 x.1 x.2) (hB : Bs x.2) (ha : ∀ k, x.1.ownBlock = some k → v.ownBlock = some k → x.2 = [])
    (r : RowV w2 base v' (l.map (·.1) ++ [x.1])) (s : RStep w1 v w2 v') : RowS w2 base v' (l ++ [x]) := by
  have one : ∀ y : Value × List Int, Sl w1 y.1 y.2 → (∀ k, y.1.ownBlock = some k → v.ownBlock = some k → y.2 = []) → Sl w2 y.1 y.2 ∧ ∀ k, y.1.ownBlock = some k → v'.ownBlock = some k → y.2 = [] := by
    intro y hy hay
    refine ⟨hy.apart s.1 (fun i hi hm => hay i hi (by simpa [Option.mem_toList] using hm)), fun k hk hv => ?_⟩
    rcases s.2 k hv with h1 | h1
    · exact hay k hk h1
    · by_cases hb : y.2 = []
      · exact hb
      · obtain ⟨ao', c', e, h1', _, h3, h4⟩ := hy
        cases ao' with
        | none => exact List.eq_nil_of_length_eq_zero (by have := h3 rfl; omega)
        | some a =>
          have hpos : 0 < y.2.length := List.length_pos_iff.2 hb
          have hc := h4 a rfl 0 (.int .u8 y.2[0]) (by simp [List.getElem?_eq_getElem hpos])
          have hlt := World.block_lt_of_cell? _ _ hc
          rw [add_block] at hlt
          rw [e] at hk
          have : a.block = k := by simpa [Value.ownBlock] using hk
          omega
  refine ⟨by rw [List.map_append]; exact r, fun y hy => ?_⟩
  rcases List.mem_append.1 hy with hy | hy
  · obtain ⟨h1, h2, h3⟩ := h.2 y hy
    exact ⟨(one y h1 h3).1, h2, (one y h1 h3).2⟩
  · obtain rfl : y = x := by simpa using hy
    exact ⟨(one y hx ha).1, hB, (one y hx ha).2⟩
/-- what is gathered, of slices wherever they lie. -/
def AccR (w : World) (ls : List (List Int)) (v : Value) (wr : World) : Prop := ∃ l, RowS wr w.heap.size v l ∧ l.map (·.2) = ls ∧ Kp [] w wr
theorem AccR.kp {w wr : World} {ls : List (List Int)} {v : Value} (h : AccR w ls v wr) : Kp [] w wr := by obtain ⟨_, _, _, h3⟩ := h; exact h3
theorem AccR.lcm {w wr : World} {ls : List (List Int)} {v : Value} (h : AccR w ls v wr) (hl : ls.length ≤ 1000) : LcM ls v wr := by
  obtain ⟨l, h1, h2, _⟩ := h
  exact ⟨l, lc_of_owns h1.1 (h1.lists (by rw [← List.length_map (f := (·.2)), h2]; exact hl)), h2⟩
/-- a slice that lay there when the gathering began, or is new since. -/
def Ok1 (w wr w2 : World) (vx : Value) (x : List Int) : Prop := Row w2 wr.heap.size vx x ∨ Sl w vx x
theorem wpList_accr {w wr w2 : World} {ops : Array Oper} {rest : List Oper} {o : Oper} {a : Act} {Q : Exit → Act → World → Prop} (hgd : o.guard = none) (s x : Operand)
    (ho : o.op = .call { callee := .builtin .append, args := #[s, x], argTypes := #[33, 33] }) (v : Value) (ls : List (List Int)) (hs : a.eval s = v) (hA : AccR w ls v wr) (hl : ls.length ≤ 1000000)
    (vx : Value) (bs : List Int) (k : Kp [] wr w2) (hr : Ok1 w wr w2 vx bs) (hb : Bs bs) (hx : a.eval x = .slice (some ⟨w2.heap.size, 0, none⟩) 1 1)
    (h : ∀ ao m c w', AccR w (ls ++ [bs]) (.slice ao m c) w' → wpList Tryz.prog ops Q rest (a.put o.dst (.slice ao m c)) w') : wpList Tryz.prog ops Q (o :: rest) a (w2.alloc (.cells #[vx] 22)) := by
  obtain ⟨l, hP, hl2, hK⟩ := hA
  have kk := k.trans ((Kp.refl [] w2).alloc (.cells #[vx] 22))
  have hP2 := hP.kept kk
  have hSl : Sl w2 vx bs := by
    rcases hr with h1 | h1
    · exact h1.sl
    · exact h1.kept (hK.trans k) (by simp)
  have hap : ∀ i, vx.ownBlock = some i → v.ownBlock = some i → bs = [] := by
    intro i h1 h2
    have hlt := hP.1.lt h2
    have hge := hP.1.own i h2
    rcases hr with h3 | h3
    · have := Row.own h3 i h1
      omega
    · by_cases hb0 : bs = []
      · exact hb0
      · obtain ⟨ao', c', e, h1', _, h3', h4⟩ := h3
        cases ao' with
        | none => exact List.eq_nil_of_length_eq_zero (by have := h3' rfl; omega)
        | some ad =>
          have hpos : 0 < bs.length := List.length_pos_iff.2 hb0
          have hc := h4 ad rfl 0 (.int .u8 bs[0]) (by simp [List.getElem?_eq_getElem hpos])
          have hlt2 := World.block_lt_of_cell? _ _ hc
          rw [add_block] at hlt2
          rw [e] at h1
          have : ad.block = i := by simpa [Value.ownBlock] using h1
          omega
  obtain ⟨ax, cx, hvx, _⟩ := hSl
  refine wpList_append_rowv hgd s x ho w.heap.size v (l.map (·.1)) hs hP2.1 ⟨w2.heap.size, 0, none⟩ 1 [vx] hx ?_ ?_ ?_ ?_ ?_
  · intro j u hu
    exact World.news_of_block (heap_alloc_new w2 _) j u (by simpa using hu)
  · simp [hvx, Value.oneCell']
  · have : l.length = ls.length := by rw [← hl2]; simp
    simp; omega
  · have := hK.size
    have := kk.size
    omega
  · intro ao m c w' r st
    have hSl2 : Sl (w2.alloc (.cells #[vx] 22)) vx bs := by
      rcases hr with h1 | h1
      · exact h1.sl.kept ((Kp.refl [] w2).alloc _) (by simp)
      · exact h1.kept (hK.trans kk) (by simp)
    refine h ao m c w' ⟨l ++ [(vx, bs)], hP2.snocR (x := (vx, bs)) hSl2 hb hap r st, by simp [hl2], ?_⟩
    exact (hK.trans kk).then st.1 (fun i hi => .inr (hP.1.own i (by simpa [Option.mem_toList] using hi)))
end Go.Proofs.YtillhpgdlmeajaaGreatDoor

/-
  One more slice behind a row of slices of the call's own, wherever the slice lies, behind a region that draws.
-/
namespace Go.Proofs.YtillhpgdlmeajaaGreatDoor
open Go.RowKit
open Go.Proofs

section
variable {w w' w0 : World} {base B : Nat} {v : Value} {bs : List Int}
theorem rowv_ty {xs : List Value} (h : RowV w base v xs) {k : Nat} (hk : v.ownBlock = some k) : ∃ c, w.heap[k]? = some (.cells c 22 (0, 0)) := by
  rcases h.2 with ⟨rfl, _⟩ | ⟨g, cap, cur, rfl, hb, hg, _⟩
  · cases hk
  · cases hk; exact ⟨_, hg⟩
theorem row_ty (h : Row w base v bs) {k : Nat} (hk : v.ownBlock = some k) : ∃ c, w.heap[k]? = some (.cells c 5 (0, 0)) := by
  rcases h.2 with ⟨rfl, _⟩ | ⟨g, cap, cur, rfl, hb, hg, _⟩
  · cases hk
  · cases hk; exact ⟨_, hg⟩
/-- what holds something lies in no row of slices from B on. -/
def Ap (B : Nat) (w : World) (v : Value) (bs : List Int) : Prop := ∀ k, v.ownBlock = some k → bs = [] ∨ k < B ∨ ∃ c, w.heap[k]? = some (.cells c 5 (0, 0))
theorem Ap.kept (h : Ap B w v bs) (k : Kp [] w w') : Ap B w' v bs := fun i hi => by
  rcases h i hi with h | h | ⟨c, h⟩
  · exact .inl h
  · exact .inr (.inl h)
  · exact .inr (.inr ⟨c, k.heap h (by simp)⟩)
theorem ap_row (h : Row w base v bs) : Ap B w v bs := fun _ hi => .inr (.inr (row_ty h hi))
theorem ap_old (h : Sl w0 v bs) (k : w0.heap.size ≤ B) : Ap B w v bs := fun i hi => by
  by_cases hb : bs = []
  · exact .inl hb
  · obtain ⟨ao', c', e, h1, _, h3, h4⟩ := h
    cases ao' with
    | none => exact .inl (List.eq_nil_of_length_eq_zero (by have := h3 rfl; omega))
    | some a =>
      have hpos : 0 < bs.length := List.length_pos_iff.2 hb
      have hc := h4 a rfl 0 (.int .u8 bs[0]) (by simp [List.getElem?_eq_getElem hpos])
      have hlt := World.block_lt_of_cell? _ _ hc
      rw [add_block] at hlt
      rw [e] at hi
      have : a.block = i := by simpa [Value.ownBlock] using hi
      exact .inr (.inl (by omega))
theorem Ap.mono {B' : Nat} (h : Ap B w v bs) (hb : B ≤ B') : Ap B' w v bs := fun i hi => by
  rcases h i hi with h | h | h
  · exact .inl h
  · exact .inr (.inl (by omega))
  · exact .inr (.inr h)
/-- The value is a slice that reads so and lies in no row of slices from B on. -/
def RtT (B : Nat) (bs : List Int) : Tell := fun v w => ∃ ao m c, v = .slice ao m c ∧ Sl w (.slice ao m c) bs ∧ Ap B w (.slice ao m c) bs
theorem stable_rt (B : Nat) (bs : List Int) : Tell.stable (RtT B bs) := fun _ _ _ k ⟨ao, m, c, e, h1, h2⟩ => ⟨ao, m, c, e, h1.kept k (by simp), h2.kept k⟩
/-- The value is a list of one such slice. -/
def OneT (B : Nat) (bs : List Int) : Tell := fun v w => ∃ g u, v = .slice (some ⟨g, 0, none⟩) 1 1 ∧ w.cell? ⟨g, 0, none⟩ = some u ∧ RtT B bs u w
theorem stable_onet (B : Nat) (bs : List Int) : Tell.stable (OneT B bs) := fun _ _ _ k ⟨g, u, e, h1, h2⟩ => ⟨g, u, e, k.cell h1 (by simp), stable_rt B bs _ _ _ k h2⟩
/-- The value is a row of slices from B on that reads so. -/
def ARt (B : Nat) (ls : List (List Int)) : Tell := fun v w => ∃ ao m c l, v = .slice ao m c ∧ RowS w B (.slice ao m c) l ∧ l.map (·.2) = ls
theorem stable_ar (B : Nat) (ls : List (List Int)) : Tell.stable (ARt B ls) := fun _ _ _ k ⟨ao, m, c, l, e, h1, h2⟩ => ⟨ao, m, c, l, e, h1.kept k, h2⟩
theorem RowS.rebase {l : List (Value × List Int)} (h : RowS w base v l) (hb : B ≤ base) : RowS w B v l := ⟨owns_rebase h.1 (fun i hi => Nat.le_trans hb (h.1.own i hi)), h.2⟩
theorem AccR.ar {ls : List (List Int)} {ao : Option Addr} {m c : Nat} (h : AccR w0 ls (.slice ao m c) w) (hb : B ≤ w0.heap.size) : ARt B ls (.slice ao m c) w := by
  obtain ⟨l, h1, h2, _⟩ := h
  exact ⟨ao, m, c, l, rfl, h1.rebase hb, h2⟩
theorem AccR.nil (w : World) : AccR w [] (.slice none 0 0) w := ⟨[], ⟨World.ownsRow_nil _ _ _ _, fun x hx => by cases hx⟩, rfl, Kp.refl _ _⟩
theorem AccR.mid {ls : List (List Int)} (h : AccR w0 ls v w) (k : Kp [] w w') : AccR w0 ls v w' := by
  obtain ⟨l, h1, h2, h3⟩ := h
  exact ⟨l, h1.kept k, h2, h3.trans k⟩
theorem AccR.after {ls : List (List Int)} (h : AccR w0 ls v w') (k : Kp [] w w0) : AccR w ls v w' := by
  obtain ⟨l, h1, h2, h3⟩ := h
  exact ⟨l, h1.rebase k.size, h2, k.trans h3⟩
theorem AccR.len {ls : List (List Int)} {ao : Option Addr} {m c : Nat} (h : AccR w0 ls (.slice ao m c) w) : m = ls.length := by
  obtain ⟨l, h1, h2, _⟩ := h
  have := h1.1.len
  rw [this, ← h2]; simp
theorem AccR.allbs {ls : List (List Int)} (h : AccR w0 ls v w) : ∀ x ∈ ls, Bs x := by
  obtain ⟨l, h1, rfl, _⟩ := h
  intro x hx
  obtain ⟨y, hy, rfl⟩ := List.mem_map.1 hx
  exact (h1.2 y hy).2.1
end
section
variable {o : Oper} {a : Act} {w : World}
theorem grown_onet (x : Operand) (ho : o.op = .buildSlice 33 1 #[(0, x)]) (B : Nat) (bs : List Int) (h : RtT B bs (a.eval x) w) : grown Tryz.prog w (OneT B bs) ((execOp a.eval o).run Tryz.prog w) := by
  have h' := h
  obtain ⟨ao, m, c, e, _⟩ := h
  refine grown_run (v := .slice (some ⟨w.heap.size, 0, none⟩) 1 1) (w' := w.alloc (.cells #[a.eval x] 22)) ?_ ((Kp.refl _ _).alloc _) ⟨w.heap.size, a.eval x, rfl, ?_, stable_rt B bs _ _ _ ((Kp.refl [] w).alloc _) h'⟩
  · obtain ⟨ρ, hρ, hc, hf, hg⟩ := eval_is a
    rw [hρ] at e ⊢
    unfold execOp
    simp only [ho]
    simp [go_sem, e]
  · exact World.news_of_block (heap_alloc_new w _) 0 (a.eval x) (by simp)
end
/-- a list of one as a row. -/
theorem accr_one {w w2 : World} {ao : Option Addr} {m c : Nat} {bs : List Int} (k : Kp [] w w2) (h : Sl w2 (.slice ao m c) bs) (hb : Bs bs) : AccR w [bs] (.slice (some ⟨w2.heap.size, 0, none⟩) 1 1) (w2.alloc (.cells #[.slice ao m c] 22)) := by
  have kk := k.trans ((Kp.refl [] w2).alloc (.cells #[.slice ao m c] 22))
  refine ⟨[(.slice ao m c, bs)], ⟨⟨by simp, .inr ⟨w2.heap.size, 1, #[.slice ao m c], rfl, k.size, heap_alloc_new w2 _, by simp, by simp [maxLen], by simp, by simp⟩⟩, fun x hx => ?_⟩, rfl, kk⟩
  obtain rfl : x = (.slice ao m c, bs) := by simpa using hx
  refine ⟨h.kept ((Kp.refl [] w2).alloc _) (by simp), hb, fun i hi hv => ?_⟩
  cases hv
  show bs = []
  by_cases hb0 : bs = []
  · exact hb0
  · obtain ⟨ao', c', e, h1, _, h3, h4⟩ := h
    cases ao' with
    | none => exact List.eq_nil_of_length_eq_zero (by have := h3 rfl; omega)
    | some ad =>
      have hpos : 0 < bs.length := List.length_pos_iff.2 hb0
      have hc := h4 ad rfl 0 (.int .u8 bs[0]) (by simp [List.getElem?_eq_getElem hpos])
      have hlt := World.block_lt_of_cell? _ _ hc
      rw [add_block] at hlt
      simp only [e, Value.ownBlock, Option.some.injEq] at hi
      omega
/-- one more behind the row. -/
theorem wpList_accp {w W : World} {ops : Array Oper} {rest : List Oper} {o : Oper} {a : Act} {Q : Exit → Act → World → Prop} (hgd : o.guard = none) (s x : Operand)
    (ho : o.op = .call { callee := .builtin .append, args := #[s, x], argTypes := #[33, 33] }) (v vx : Value) (hs : a.eval s = v) (hsx : a.eval x = vx) (ls : List (List Int)) (hA : ARt w.heap.size ls v W) (hl : ls.length ≤ 1000000)
    (bs : List Int) (hx : OneT w.heap.size bs vx W) (hb : Bs bs) (k : Kp [] w W)
    (h : ∀ ao m c w', AccR w (ls ++ [bs]) (.slice ao m c) w' → wpList Tryz.prog ops Q rest (a.put o.dst (.slice ao m c)) w') : wpList Tryz.prog ops Q (o :: rest) a W := by
  obtain ⟨av, mv, cv, l, rfl, hP, hl2⟩ := hA
  obtain ⟨g, u, rfl, hcu, au, mu, cu, rfl, hSu, hAp⟩ := hx
  have hap : ∀ i, (Value.slice au mu cu).ownBlock = some i → (Value.slice av mv cv).ownBlock = some i → bs = [] := by
    intro i h1 h2
    obtain ⟨cc, hcc⟩ := rowv_ty hP.1 h2
    rcases hAp i h1 with h3 | h3 | ⟨c3, h3⟩
    · exact h3
    · have := hP.1.own i h2; omega
    · rw [hcc] at h3
      injection h3 with h3
      injection h3 with _ h3
      cases h3
  refine wpList_append_rowv hgd s x ho w.heap.size (.slice av mv cv) (l.map (·.1)) hs hP.1 ⟨g, 0, none⟩ 1 [.slice au mu cu] hsx ?_ ?_ ?_ k.size ?_
  · intro j y hy
    match j, hy with
    | 0, hy =>
      have : y = .slice au mu cu := by simpa using hy.symm
      subst this
      rw [Addr.add_zero']
      exact hcu
    | j + 1, hy => simp at hy
  · simp [Value.oneCell']
  · have : l.length = ls.length := by rw [← hl2]; simp
    simp; omega
  · intro ao m c w' r st
    refine h ao m c w' ⟨l ++ [(.slice au mu cu, bs)], hP.snocR (x := (.slice au mu cu, bs)) hSu hb hap r st, by simp [hl2], ?_⟩
    exact k.then st.1 (fun i hi => .inr (hP.1.own i (by simpa [Option.mem_toList] using hi)))
/-- The value is a list that read so in an earlier world. -/
def L0 (w0 : World) (ls : List (List Int)) : Tell := fun v _ => LcM ls v w0
theorem stable_l0 (w0 : World) (ls : List (List Int)) : Tell.stable (L0 w0 ls) := fun _ _ _ _ h => h
section
variable {o : Oper} {a : Act} {w w0 : World}
theorem grown_lhead0 (s k : Operand) (ls : List (List Int)) (n : Nat) (ho : o.op = .slice 33 s none (some k) none) (h : LcM ls (a.eval s) w0) (hk : a.eval k = .int .i64 (n : Nat)) (hn : n ≤ ls.length) : grown Tryz.prog w (L0 w0 (ls.take n)) ((execOp a.eval o).run Tryz.prog w) := by
  obtain ⟨ao, c, e, h1, h2, h3⟩ := h.shape
  rw [e] at h
  refine grown_run (v := .slice ao n c) (w' := w) ?_ (Kp.refl _ _) (h.take n hn)
  have hr := run_lhead ao ls.length c n w (by omega)
  unfold execOp
  simp only [ho, e, hk, Sem.run_bind, hr, Result.andThen_ok, Sem.run_pure, Option.map_some, Option.map_none]
theorem grown_lfrom0 (s k : Operand) (ls : List (List Int)) (n : Nat) (ho : o.op = .slice 33 s (some k) none none) (h : LcM ls (a.eval s) w0) (hk : a.eval k = .int .i64 (n : Nat)) (hn : n ≤ ls.length) : grown Tryz.prog w (L0 w0 (ls.drop n)) ((execOp a.eval o).run Tryz.prog w) := by
  obtain ⟨ao, c, e, h1, h2, h3⟩ := h.shape
  rw [e] at h
  refine grown_run (w' := w) ?_ (Kp.refl _ _) (h.drop n hn)
  have hr := run_lfrom ao ls.length c n w hn h1 h3
  unfold execOp
  simp only [ho, e, hk, Sem.run_bind, hr, Result.andThen_ok, Sem.run_pure, Option.map_some, Option.map_none]
end
end Go.Proofs.YtillhpgdlmeajaaGreatDoor

/-
  Structs of two numbers and a list of slices (api.Proof, api.Growth): as values, in memory, stored, loaded, handed back.
-/
namespace Go.Proofs.YtillhpgdlmeajaaGreatDoor
open Go.RowKit
open Go.Proofs

/-- v is such a struct. -/
def TV (w : World) (v : Value) (i n : Int) (ps : List (List Int)) : Prop := ∃ ao m c, v = .agg #[.int .i64 i, .int .i64 n, .slice ao m c] ∧ LcM ps (.slice ao m c) w
theorem TV.kept {w w' : World} {v : Value} {i n : Int} {ps : List (List Int)} (h : TV w v i n ps) (k : Kp [] w w') : TV w' v i n ps := by
  obtain ⟨ao, m, c, e, h1⟩ := h
  exact ⟨ao, m, c, e, h1.kept k⟩
def TvT (i n : Int) (ps : List (List Int)) : Tell := fun v w => TV w v i n ps
theorem stable_tv (i n : Int) (ps : List (List Int)) : Tell.stable (TvT i n ps) := fun _ _ _ k h => h.kept k
theorem TV.shape {w : World} {v : Value} {i n : Int} {ps : List (List Int)} (h : TV w v i n ps) : ∃ ao c, v = .agg #[.int .i64 i, .int .i64 n, .slice ao ps.length c] ∧ LcM ps (.slice ao ps.length c) w := by
  obtain ⟨ao, m, c, e, h1⟩ := h
  obtain ⟨a1, c1, e1, _⟩ := h1.shape
  injection e1 with e2 e3 e4
  subst e2
  subst e3
  subst e4
  exact ⟨_, _, e, h1⟩
theorem tv_nil (w : World) : TV w (.agg #[.int .i64 0, .int .i64 0, .slice none 0 0]) 0 0 [] := ⟨none, 0, 0, rfl, lcm_nil w⟩

/-- what is known of the type of such a struct. -/
structure Tri (t : TypeId) : Prop where
  size : (Tryz.prog.info? t).map (·.size) = some 3
  und : ∃ fs, Tryz.prog.underlying t = some (.struct fs)
  fld0 : ∀ g w, (Instr.fieldAt t (.pointer (some ⟨g, 0, none⟩)) 0).run Tryz.prog w = .ok (.pointer (some ⟨g, 0, none⟩)) w
  fld1 : ∀ g w, (Instr.fieldAt t (.pointer (some ⟨g, 0, none⟩)) 1).run Tryz.prog w = .ok (.pointer (some ⟨g, 1, none⟩)) w
  fld2 : ∀ g w, (Instr.fieldAt t (.pointer (some ⟨g, 0, none⟩)) 2).run Tryz.prog w = .ok (.pointer (some ⟨g, 2, none⟩)) w
theorem triP : Tri 54 := ⟨by kernel_rfl, ⟨_, Tryz.underlying54⟩, fun _ _ => by simp [go_sem], fun _ _ => by simp [go_sem], fun _ _ => by simp [go_sem]⟩
theorem triG : Tri 60 := ⟨by kernel_rfl, ⟨_, Tryz.underlying60⟩, fun _ _ => by simp [go_sem], fun _ _ => by simp [go_sem], fun _ _ => by simp [go_sem]⟩
section
variable {t : TypeId} {w : World} {g : Nat} {x y z : Value} {fr : Nat × Nat}
theorem load_tri (T : Tri t) (hg : w.heap[g]? = some (.cells #[x, y, z] t fr)) : (loadVar t ⟨g, 0, none⟩).run Tryz.prog w = .ok (.agg #[x, y, z]) w := by
  obtain ⟨d, hd⟩ := T.und
  exact run_loadVar_row w g t t #[x, y, z] fr (.struct d) hg hd rfl T.size
theorem cell_tri (hg : w.heap[g]? = some (.cells #[x, y, z] t fr)) : w.cell? ⟨g, 0, none⟩ = some x ∧ w.cell? ⟨g, 1, none⟩ = some y ∧ w.cell? ⟨g, 2, none⟩ = some z := by
  refine ⟨?_, ?_, ?_⟩ <;> rw [cell_of_row w g _ _ _ _ hg] <;> rfl
theorem results_tri (T : Tri t) {fn : Func} {p u : Tmp} (h : fn.results = #[.cell p t, .tmp u]) (tmps : Array Value) (hp : tmps.getD p undef = .pointer (some ⟨g, 0, none⟩)) (hg : w.heap[g]? = some (.cells #[x, y, z] t fr)) : (results fn tmps).run Tryz.prog w = .ok (.tuple #[.agg #[x, y, z], tmps.getD u undef]) w := by
  rw [results_cell_tmp h, hp]
  simp [asAddr, Result.andThen, load_tri T hg]
theorem kp_cells (w : World) (g : Nat) : ∀ (l : List Value) (o : Nat) (w1 : World), Kp [g] w w1 → Kp [g] w (w1.setCells g o l)
  | [], _, _, h => h
  | x :: l, o, w1, h => kp_cells w g l (o + 1) _ (h.setCell (p := ⟨g, o, none⟩) (.inl (by simp)) x)
theorem wpList_store_tri (T : Tri t) {ops : Array Oper} {rest : List Oper} {o : Oper} {a : Act} {Q : Exit → Act → World → Prop} (hgd : o.guard = none) (p u : Operand) (ho : o.op = .store t p u) (g : Nat) (hp : a.eval p = .pointer (some ⟨g, 0, none⟩)) (x0 y0 z0 x y z : Value)
    (hg : w.heap[g]? = some (.cells #[x0, y0, z0] t (0, 0))) (hu : a.eval u = .agg #[x, y, z]) (h1 : x.oneCell' = true ∧ y.oneCell' = true ∧ z.oneCell' = true)
    (h : ∀ w', w'.heap[g]? = some (.cells #[x, y, z] t (0, 0)) → Kp [g] w w' → wpList Tryz.prog ops Q rest (a.put o.dst undef) w') : wpList Tryz.prog ops Q (o :: rest) a w := by
  refine wpList_store_mid hgd t p u ho g 0 #[x, y, z] hp hu ?_ (by simpa using T.size) (all_oneCell_toArray (by simp [h1])) ?_
  · intro j hj
    simp only [List.size_toArray, List.length_cons, List.length_nil] at hj
    rw [Nat.zero_add, cell_of_row w g j _ _ _ hg]
    refine ⟨?_, frozen_of_row w g j _ _ hg⟩
    rcases (by omega : j = 0 ∨ j = 1 ∨ j = 2) with rfl | rfl | rfl <;> rfl
  · refine h _ ?_ (kp_cells w g _ 0 w (Kp.refl _ _))
    simp only [World.setCells]
    have e1 := heap_setCell_same w g 0 _ _ x hg
    have e2 := heap_setCell_same (w.setCell ⟨g, 0, none⟩ x) g 1 _ _ y e1
    have e3 := heap_setCell_same ((w.setCell ⟨g, 0, none⟩ x).setCell ⟨g, 1, none⟩ y) g 2 _ _ z e2
    simpa using e3
end
section
variable {t : TypeId} {o : Oper} {a : Act} {w : World} {R : Tell} {g : Nat} {x y z : Value} {fr : Nat × Nat}
theorem grown_loadtri (T : Tri t) (p : Operand) (ho : o.op = .load t p) (hp : a.eval p = .pointer (some ⟨g, 0, none⟩)) (hg : w.heap[g]? = some (.cells #[x, y, z] t fr)) (hR : R (.agg #[x, y, z]) w) : grown Tryz.prog w R ((execOp a.eval o).run Tryz.prog w) := by
  refine grown_run ?_ (Kp.refl _ _) hR
  unfold execOp
  simp only [ho, hp, Instr.loadAt, Instr.sureAddr, Sem.run_bind, Sem.run_pure, Result.andThen_ok, load_tri T hg]
theorem grown_fld0 (T : Tri t) (p : Operand) (ho : o.op = .fieldAddr t p 0) (hp : a.eval p = .pointer (some ⟨g, 0, none⟩)) : grown Tryz.prog w (Is (.pointer (some ⟨g, 0, none⟩))) ((execOp a.eval o).run Tryz.prog w) := by
  refine grown_run ?_ (Kp.refl _ _) rfl
  unfold execOp
  simp only [ho, hp, Sem.run_bind, T.fld0 g w, Result.andThen_ok, Sem.run_pure]
theorem grown_fld1 (T : Tri t) (p : Operand) (ho : o.op = .fieldAddr t p 1) (hp : a.eval p = .pointer (some ⟨g, 0, none⟩)) : grown Tryz.prog w (Is (.pointer (some ⟨g, 1, none⟩))) ((execOp a.eval o).run Tryz.prog w) := by
  refine grown_run ?_ (Kp.refl _ _) rfl
  unfold execOp
  simp only [ho, hp, Sem.run_bind, T.fld1 g w, Result.andThen_ok, Sem.run_pure]
theorem grown_fld2 (T : Tri t) (p : Operand) (ho : o.op = .fieldAddr t p 2) (hp : a.eval p = .pointer (some ⟨g, 0, none⟩)) : grown Tryz.prog w (Is (.pointer (some ⟨g, 2, none⟩))) ((execOp a.eval o).run Tryz.prog w) := by
  refine grown_run ?_ (Kp.refl _ _) rfl
  unfold execOp
  simp only [ho, hp, Sem.run_bind, T.fld2 g w, Result.andThen_ok, Sem.run_pure]
theorem grown_ldi (p : Operand) (ho : o.op = .load 3 p) (j : Nat) (i : Int) (hp : a.eval p = .pointer (some ⟨g, j, none⟩)) (hc : w.cell? ⟨g, j, none⟩ = some (.int .i64 i)) : grown Tryz.prog w (Is (.int .i64 i)) ((execOp a.eval o).run Tryz.prog w) := by
  refine grown_run (v := .int .i64 i) ?_ (Kp.refl _ _) rfl
  obtain ⟨ρ, hρ, _⟩ := eval_is a
  rw [hρ] at hp ⊢
  unfold execOp
  simp only [ho]
  simp [go_sem, hp, hc]
theorem grown_ldl (p : Operand) (ho : o.op = .load 33 p) (j : Nat) (ao : Option Addr) (m c : Nat) (hp : a.eval p = .pointer (some ⟨g, j, none⟩)) (hc : w.cell? ⟨g, j, none⟩ = some (.slice ao m c)) : grown Tryz.prog w (Is (.slice ao m c)) ((execOp a.eval o).run Tryz.prog w) := by
  refine grown_run (v := .slice ao m c) ?_ (Kp.refl _ _) rfl
  obtain ⟨ρ, hρ, _⟩ := eval_is a
  rw [hρ] at hp ⊢
  unfold execOp
  simp only [ho]
  simp [go_sem, hp, hc]
end
/-- The value is a pair: a slice that reads so, and this truth. -/
def TwoT (r : List Int) (b : Bool) : Tell := fun v w => ∃ ao m c, v = .tuple #[.slice ao m c, .bool b] ∧ Sl w (.slice ao m c) r
theorem stable_two (r : List Int) (b : Bool) : Tell.stable (TwoT r b) := fun _ _ _ k ⟨ao, m, c, e, h⟩ => ⟨ao, m, c, e, h.kept k (by simp)⟩
theorem grown_ext0 {o : Oper} {a : Act} {w : World} (x : Operand) (ho : o.op = .extract x 0) (r : List Int) (b : Bool) (h : TwoT r b (a.eval x) w) : grown Tryz.prog w (SlT r) ((execOp a.eval o).run Tryz.prog w) := by
  obtain ⟨ao, m, c, e, h1⟩ := h
  refine grown_run (v := .slice ao m c) ?_ (Kp.refl _ _) h1
  obtain ⟨ρ, hρ, _⟩ := eval_is a
  rw [hρ] at e ⊢
  unfold execOp
  simp only [ho]
  simp [go_sem, e]
theorem grown_ext1 {o : Oper} {a : Act} {w : World} (x : Operand) (ho : o.op = .extract x 1) (r : List Int) (b : Bool) (h : TwoT r b (a.eval x) w) : grown Tryz.prog w (Is (.bool b)) ((execOp a.eval o).run Tryz.prog w) := by
  obtain ⟨ao, m, c, e, h1⟩ := h
  refine grown_run (v := .bool b) ?_ (Kp.refl _ _) rfl
  obtain ⟨ρ, hρ, _⟩ := eval_is a
  rw [hρ] at e ⊢
  unfold execOp
  simp only [ho]
  simp [go_sem, e]
/-- bytes do not lie in a struct that has none. -/
theorem sl_struct {w : World} {v : Value} {bs : List Int} {g : Nat} {cs : Array Value} {t : TypeId} {fr : Nat × Nat} (h : Sl w v bs) (hg : w.heap[g]? = some (.cells cs t fr)) (hn : ∀ x ∈ cs.toList, ∀ y, x ≠ .int .u8 y) (hv : v.ownBlock = some g) : bs = [] := by
  by_cases hb0 : bs = []
  · exact hb0
  · obtain ⟨ao', c', e, h1, _, h3, h4⟩ := h
    cases ao' with
    | none => exact List.eq_nil_of_length_eq_zero (by have := h3 rfl; omega)
    | some ad =>
      have hpos : 0 < bs.length := List.length_pos_iff.2 hb0
      have hc := h4 ad rfl 0 (.int .u8 bs[0]) (by simp [List.getElem?_eq_getElem hpos])
      rw [e] at hv
      have hbk : ad.block = g := by simpa [Value.ownBlock] using hv
      rw [Addr.add_zero'] at hc
      have hsp := World.cell?_spot hc
      obtain ⟨b, off, sp⟩ := ad
      simp only at hsp hbk
      subst hsp
      subst hbk
      rw [cell_of_row w b off _ _ _ hg] at hc
      exact absurd rfl (hn _ (by simpa using Array.mem_of_getElem? hc) bs[0])
theorem tri_no {i n : Int} {ao : Option Addr} {m c : Nat} : ∀ x ∈ (#[Value.int .i64 i, .int .i64 n, .slice ao m c]).toList, ∀ y, x ≠ .int .u8 y := by
  intro x hx y
  rcases (by simpa using hx : x = .int .i64 i ∨ x = .int .i64 n ∨ x = .slice ao m c) with rfl | rfl | rfl <;> simp
theorem RowS.lcm {w : World} {B : Nat} {v : Value} {l : List (Value × List Int)} (h : RowS w B v l) (hl : l.length ≤ 1000) : LcM (l.map (·.2)) v w := ⟨l, lc_of_owns h.1 (h.lists hl), rfl⟩
/-- blocks that hold no bytes and lie below B. -/
def NoB (B : Nat) (w : World) (S : List Nat) : Prop := ∀ g ∈ S, g < B ∧ ∃ cs t fr, w.heap[g]? = some (.cells cs t fr) ∧ ∀ x ∈ cs.toList, ∀ y, x ≠ .int .u8 y
/-- what was gathered behind structs is as it was when these are written. -/
theorem AccR.off {w0 w2 w4 : World} {ls : List (List Int)} {v : Value} {S : List Nat} (h : AccR w0 ls v w2) (hl : ls.length ≤ 1000) (hS : NoB w0.heap.size w2 S) (k : Kp S w2 w4) : LcM ls v w4 := by
  obtain ⟨l, h1, h2, _⟩ := h
  have R : RowS w4 w0.heap.size v l := by
    refine ⟨h1.1.kept k (fun i hi hm => ?_), fun x hx => ?_⟩
    · have := h1.1.own i hi
      have := (hS i hm).1
      omega
    · obtain ⟨g1, g2, g3⟩ := h1.2 x hx
      refine ⟨g1.apart k (fun i hi hm => ?_), g2, g3⟩
      obtain ⟨_, cs, t, fr, hg, hn⟩ := hS i hm
      exact sl_struct g1 hg hn hi
  rw [← h2]
  exact R.lcm (by rw [← List.length_map (f := (·.2)), h2]; exact hl)
theorem nob1 {B g : Nat} {w : World} {i n : Int} {ao : Option Addr} {m c : Nat} {t : TypeId} {fr : Nat × Nat} (h : g < B) (hg : w.heap[g]? = some (.cells #[.int .i64 i, .int .i64 n, .slice ao m c] t fr)) : NoB B w [g] := by
  intro x hx
  obtain rfl : x = g := by simpa using hx
  exact ⟨h, _, _, _, hg, tri_no⟩
theorem nob2 {B g q : Nat} {w : World} {i n : Int} {ao : Option Addr} {m c : Nat} {t : TypeId} {fr : Nat × Nat} (h : g < B) (hg : w.heap[g]? = some (.cells #[.int .i64 i, .int .i64 n, .slice ao m c] t fr)) (k : NoB B w [q]) : NoB B w [g, q] := by
  intro x hx
  rcases (by simpa using hx : x = g ∨ x = q) with rfl | rfl
  · exact ⟨h, _, _, _, hg, tri_no⟩
  · exact k x (by simp)
end Go.Proofs.YtillhpgdlmeajaaGreatDoor
