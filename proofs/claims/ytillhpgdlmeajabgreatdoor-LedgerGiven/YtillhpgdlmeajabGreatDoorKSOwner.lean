/-
  The reference's owners: their contracts New, Public, Sign.
-/
import Derived.Test.YtillhpgdlmeajabGreatDoorKSCode
import Derived.Test.YtillhpgdlmeajabGreatDoorKORefs
namespace Go.Proofs.YtillhpgdlmeajabGreatDoor
open Go.RowKit
open Go.Proofs

theorem Tryz.infoLs : (Tryz.prog.info? 31).map (fun i => (i.zero, i.size, i.bytes)) = some (some (.slice none 0 0), 1, 24) := by kernel_rfl
/-- a row of the call's own of slices of slices. -/
def RowL (w : World) (base : Nat) (v : Value) (xs : List Value) : Prop := w.ownsRow base 31 1 v xs.length xs
theorem RowL.shape {w : World} {base : Nat} {v : Value} {xs : List Value} (h : RowL w base v xs) : ∃ ao c, v = .slice ao xs.length c := owns_shape h
theorem RowL.own {w : World} {base : Nat} {v : Value} {xs : List Value} (h : RowL w base v xs) : ∀ k, v.ownBlock = some k → base ≤ k ∧ k < w.heap.size := by
  intro k hk
  rcases h.2 with ⟨rfl, _⟩ | ⟨g, cap, cur, rfl, hb, hg, _⟩
  · cases hk
  · cases hk; exact ⟨hb, (Array.getElem?_eq_some_iff.1 hg).1⟩
theorem RowL.kept {w w' : World} {base : Nat} {v : Value} {xs : List Value} {S : List Nat} (h : RowL w base v xs) (k : Kp S w w') (hv : ∀ i, v.ownBlock = some i → i ∉ S) : RowL w' base v xs := k.owns h hv
theorem RowL.at {w : World} {base : Nat} {v : Value} {xs : List Value} (h : RowL w base v xs) (h0 : 0 < xs.length) : ∃ g c, v = .slice (some ⟨g, 0, none⟩) xs.length c ∧ ∀ i (hi : i < xs.length), w.cell? ⟨g, i, none⟩ = some xs[i] := by
  rcases h.2 with ⟨h', h1⟩ | ⟨g, cap, cur, h', hb, hg, _⟩
  · omega
  · subst h'
    have h1 : w.ownsRow base 31 1 (.slice (some ⟨g, 0, none⟩) xs.length cap) xs.length xs := h
    exact ⟨g, cap, rfl, fun i hi => by rw [h1.cellAt i (by omega)]; simp [List.getElem?_eq_getElem hi]⟩
theorem grown_build2 {o : Oper} {a : Act} {w : World} (x y : Operand) (ho : o.op = .buildSlice 31 2 #[(0, x), (1, y)]) (bs cs : List Int) (h : Sl w (a.eval x) bs) (hB : Bs bs) (k : Sl w (a.eval y) cs) (hC : Bs cs) : grown Tryz.prog w (LsM [bs, cs]) ((execOp a.eval o).run Tryz.prog w) := by
  have h2 := lists2 h hB k hC
  obtain ⟨ao, c, e, _⟩ := h
  obtain ⟨ao', c', e', _⟩ := k
  refine grown_run (v := .slice (some ⟨w.heap.size, 0, none⟩) 2 2) (w' := w.alloc (.cells #[a.eval x, a.eval y] 29)) ?_ ((Kp.refl _ _).alloc _) ⟨_, h2, rfl⟩
  obtain ⟨ρ, hρ, hc, hf, hg⟩ := eval_is a
  rw [hρ] at e e' ⊢
  unfold execOp
  simp only [ho]
  simp [go_sem, e, e']
/-- a level of nodes that lies apart from the block g and from pv. -/
def Lo (g : Nat) (pv : Value) (w : World) (x : Value) (ls : List (List Int)) : Prop :=
  ∃ ao n c l, x = .slice ao n c ∧ Lists w x l ∧ l.map (·.2) = ls ∧ ∀ q, (x.ownBlock = some q ∨ ∃ y ∈ l, y.1.ownBlock = some q) → q < w.heap.size ∧ g < q ∧ pv.ownBlock ≠ some q
theorem Lo.kept {g : Nat} {pv x : Value} {w w' : World} {ls : List (List Int)} (h : Lo g pv w x ls) (k : Kp [] w w') : Lo g pv w' x ls := by
  obtain ⟨ao, n, c, l, e, h1, h2, h3⟩ := h
  exact ⟨ao, n, c, l, e, h1.kept k, h2, fun q hq => ⟨Nat.lt_of_lt_of_le (h3 q hq).1 k.size, (h3 q hq).2⟩⟩
theorem Lo.step {g : Nat} {pv pv' x : Value} {w w' : World} {ls : List (List Int)} (h : Lo g pv w x ls) (s : RStep w pv w' pv') : Lo g pv' w' x ls := by
  obtain ⟨ao, n, c, l, e, h1, h2, h3⟩ := h
  refine ⟨ao, n, c, l, e, h1.off s.1 (fun q hq hm => (h3 q (.inl hq)).2.2 (by simpa using hm)) (fun y hy q hq hm => (h3 q (.inr ⟨y, hy, hq⟩)).2.2 (by simpa using hm)), h2, fun q hq => ⟨Nat.lt_of_lt_of_le (h3 q hq).1 s.1.size, (h3 q hq).2.1, fun e' => ?_⟩⟩
  rcases s.2 q e' with h5 | h5
  · exact (h3 q hq).2.2 h5
  · have := (h3 q hq).1; omega
theorem Lo.store {g : Nat} {pv x : Value} {w w' : World} {ls : List (List Int)} (h : Lo g pv w x ls) (k : Kp [g] w w') : Lo g pv w' x ls := by
  obtain ⟨ao, n, c, l, e, h1, h2, h3⟩ := h
  exact ⟨ao, n, c, l, e, h1.off k (fun q hq hm => by have := (h3 q (.inl hq)).2.1; simp at hm; omega) (fun y hy q hq hm => by have := (h3 q (.inr ⟨y, hy, hq⟩)).2.1; simp at hm; omega), h2, fun q hq => ⟨Nat.lt_of_lt_of_le (h3 q hq).1 k.size, (h3 q hq).2⟩⟩
theorem Lo.of_acc {g : Nat} {pv : Value} {w1 w2 : World} {ao : Option Addr} {n c : Nat} {ls : List (List Int)} (h : Acc w1 ls (.slice ao n c) w2) (hl : ls.length ≤ 1000) (hg : g < w1.heap.size) (hp : ∀ q, pv.ownBlock = some q → q < w1.heap.size) : Lo g pv w2 (.slice ao n c) ls := by
  obtain ⟨l, h1, h2, h3⟩ := h
  refine ⟨ao, n, c, l, rfl, h1.lists (by rw [← List.length_map (f := (·.2)), h2]; exact hl), h2, fun q hq => ?_⟩
  have hq2 : w1.heap.size ≤ q ∧ q < w2.heap.size := by
    rcases hq with hq | ⟨y, hy, hq⟩
    · exact ⟨h1.1.own q hq, h1.1.lt hq⟩
    · exact ⟨(h1.2 y hy).1.own q hq, (h1.2 y hy).1.lt hq⟩
  exact ⟨hq2.2, by omega, fun e => by have := hp q e; omega⟩
theorem Lo.lists {g : Nat} {pv x : Value} {w : World} {ls : List (List Int)} (h : Lo g pv w x ls) : ∃ l, Lists w x l ∧ l.map (·.2) = ls := by
  obtain ⟨_, _, _, l, _, h1, h2, _⟩ := h
  exact ⟨l, h1, h2⟩

/-- how many a slice has. -/
def lenOf : Value → Nat | .slice _ n _ => n | _ => 0

end Go.Proofs.YtillhpgdlmeajabGreatDoor

/-
  The contracts of the reference's owner's Public, and of its Right.
-/
namespace Go.Proofs.YtillhpgdlmeajabGreatDoor
open Go.RowKit
open Go.Proofs

theorem lists_atA {w : World} {ao : Option Addr} {n c : Nat} {l : List (Value × List Int)} {ls : List (List Int)} (hL : Lists w (.slice ao n c) l) (he : l.map (·.2) = ls) (i : Nat) (hi : i < ls.length) :
    ∃ b off ax nx cx, ao = some ⟨b, off, none⟩ ∧ w.cell? ⟨b, off + i, none⟩ = some (.slice ax nx cx) ∧ Sl w (.slice ax nx cx) (ls.getD i []) ∧ Bs (ls.getD i []) ∧ ∃ y ∈ l, y.1 = .slice ax nx cx := by
  subst he
  obtain ⟨ao', c', e, _, h2⟩ := hL
  have hi2 : i < l.length := by simpa using hi
  obtain ⟨b, off, e2, h3, h4, h5⟩ := h2 i hi2
  injection e with e0
  subst e0
  have hg : (l.map (·.2)).getD i [] = l[i].2 := by simp [List.getD, hi2]
  rw [hg]
  obtain ⟨ax, cx, e4, _⟩ := id h4
  have e5 : ∃ y ∈ l, y.1 = .slice ax l[i].2.length cx := ⟨l[i], List.getElem_mem hi2, e4⟩
  rw [e4] at h3 h4
  exact ⟨b, off, ax, _, cx, e2, h3, h4, h5, e5⟩

end Go.Proofs.YtillhpgdlmeajabGreatDoor

/-
  The contract of the reference's owner's Sign.
-/
namespace Go.Proofs.YtillhpgdlmeajabGreatDoor
open Go.RowKit
open Go.Proofs

/-- one more slice, that lies wherever it lies, behind them, at a step of a region that draws its order. -/
theorem step_accs {S : List Nat} {F : Nat → Prop} {w wr w3 : World} {ops : Array Oper} {o : Oper} {a : Act} {K : Act → World → Prop} {Q : Exit → Act → World → Prop} {E : Prop} (hgd : o.guard = none) (s x : Operand)
    (ho : o.op = .call { callee := .builtin .append, args := #[s, x], argTypes := #[31, 31] }) (v : Value) (ls : List (List Int)) (hs : a.eval s = v) (hA : AccS S F w ls v wr) (hl : ls.length ≤ 1000000)
    (vx : Value) (bs : List Int) (hS : Sl wr vx bs) (hB : Bs bs) (hap : ∀ q, vx.ownBlock = some q → v.ownBlock = some q → bs = []) (hF : ∀ q, vx.ownBlock = some q → F q) (g : Nat) (hx : a.eval x = .slice (some ⟨g, 0, none⟩) 1 1) (hc : w3.cell? ⟨g, 0, none⟩ = some vx) (k : Kp [] wr w3)
    (h : ∀ ao m c w', AccS S F w (ls ++ [bs]) (.slice ao m c) w' → RStep wr v w' (.slice ao m c) → K (a.put o.dst (.slice ao m c)) w') :
    if Region.wanted o (yielded ops a.tmps) = true then Oper.wp Tryz.prog o a w3 K Q else E := by
  have hw : Region.wanted o (yielded ops a.tmps) = true := by simp [Region.wanted, hgd]
  rw [if_pos hw]
  obtain ⟨i0, hi0, hz0, hz1, hz2⟩ := info_parts Tryz.infoSl
  obtain ⟨l, hP, hl2, hK, hF4⟩ := hA
  have hP2 := hP.kept k
  obtain ⟨ax, cx, hvx, _⟩ := id hS
  obtain ⟨av, cv, hv⟩ := hP2.1.shape
  have hll : l.length = ls.length := by rw [← hl2]; simp
  have hbase : w.heap.size ≤ w3.heap.size := Nat.le_trans hK.size k.size
  obtain ⟨ys, hys⟩ : ∃ ys, ys = l.map (·.1) := ⟨_, rfl⟩
  have hP2r : RowV w3 w.heap.size v ys := by rw [hys]; exact hP2.1
  have hyl : ys.length ≤ 1000000 := by rw [hys, List.length_map]; omega
  obtain ⟨v', w1, hr, hown1, hgrow, _, hat⟩ := run_append_own_at (P := Tryz.prog) w3 w.heap.size 31 o.type 29 i0 (.slice none 0 0) 1 24 Tryz.underlying31 hi0 hz0 hz1 hz2 rfl (by decide) v ys.length ys hP2r ⟨g, 0, none⟩ 1 1 [vx] (by simp) (fun j u hu => by
    have hj : j = 0 := by have := (List.getElem?_eq_some_iff.1 hu).1; simpa using this
    subst hj
    simp at hu
    subst hu
    exact hc) (by simp [hvx, Value.oneCell']) (by unfold maxLen; omega) (by omega) hbase
  have R : RowV w1 w.heap.size v' (ys ++ [vx]) := by unfold RowV; rw [List.length_append]; exact hown1
  rw [hys] at R
  obtain ⟨ao', c', hv'⟩ := R.shape
  subst hv'
  have st : RStep w3 v w1 (.slice ao' (l.map (·.1) ++ [vx]).length c') := ⟨(Kp.refl _ w3).grown hgrow (fun k hk => .inl (by simp [hk])), fun k hk => by
    rcases hat with e | e
    · exact .inl (e ▸ hk)
    · rw [e] at hk; cases hk; exact .inr (Nat.le_refl _)⟩
  have hKK := h ao' _ c' w1 ⟨l ++ [(vx, bs)], hP2.snoc (hS.kept k (by simp)) hB hap R st, by simp [hl2], (hK.trans (k.mono (by simp))).then st.1 (fun i hi => .inr (hP.1.own i (by simpa using hi))), fun y hy => by
    rcases List.mem_append.1 hy with hy | hy
    · exact hF4 y hy
    · obtain rfl : y = (vx, bs) := by simpa using hy
      exact hF⟩ (st.after k)
  unfold Oper.wp execOp
  simp only [ho, resolve, invoke, builtin, Sem.run_bind, Sem.run_pure, Result.andThen_ok, List.map_toArray, List.map_cons, List.map_nil, hs, hx, hr]
  exact hKK
end Go.Proofs.YtillhpgdlmeajabGreatDoor
