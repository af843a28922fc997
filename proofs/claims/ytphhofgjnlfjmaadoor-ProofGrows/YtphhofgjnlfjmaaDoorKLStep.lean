/-
  Rows of rows of the call's own, gathered while other blocks change; lists of which one byte is turned; Within as a function.
-/
import Derived.Test.YtphhofgjnlfjmaaDoorKLOnes
import Derived.Test.YtphhofgjnlfjmaaDoorKLSpot
import Derived.Test.YtphhofgjnlfjmaaDoorKHHex
import Derived.OneCell
namespace Go.Proofs.YtphhofgjnlfjmaaDoor
open Go.RowKit
open Go.Proofs

/-- rows that are gathered, all of the call's own, while blocks in S may change. -/
def AccP (S : List Nat) (w : World) (ls : List (List Int)) (v : Value) (wr : World) : Prop := ∃ l, Parts wr w.heap.size v l ∧ l.map (·.2) = ls ∧ Kp S w wr
theorem AccP.kp {S : List Nat} {w wr : World} {ls : List (List Int)} {v : Value} (h : AccP S w ls v wr) : Kp S w wr := by obtain ⟨_, _, _, h3⟩ := h; exact h3
theorem AccP.own {S : List Nat} {w wr : World} {ls : List (List Int)} {v : Value} (h : AccP S w ls v wr) : ∀ q, v.ownBlock = some q → w.heap.size ≤ q ∧ q < wr.heap.size := by obtain ⟨_, h1, _, _⟩ := h; exact fun q hq => ⟨h1.1.own q hq, h1.1.lt hq⟩
theorem Parts.off {w w' : World} {base q : Nat} {v : Value} {l : List (Value × List Int)} (h : Parts w base v l) (k : Kp [q] w w') (hq : q < base) : Parts w' base v l :=
  ⟨h.1.kept k (fun i hi => by have := h.1.own i hi; simp; omega), fun x hx => ⟨(h.2 x hx).1.kept k (fun i hi => by have := (h.2 x hx).1.own i hi; simp; omega), (h.2 x hx).2⟩⟩
theorem AccP.off {S : List Nat} {w wr w2 : World} {ls : List (List Int)} {v : Value} {q : Nat} (h : AccP S w ls v wr) (k : Kp [q] wr w2) (hq : q ∈ S) (hlt : q < w.heap.size) : AccP S w ls v w2 := by
  obtain ⟨l, h1, h2, h3⟩ := h
  exact ⟨l, h1.off k hlt, h2, h3.trans (k.mono (by simpa using hq))⟩
theorem AccP.mid {S : List Nat} {w wr w2 : World} {ls : List (List Int)} {v : Value} (h : AccP S w ls v wr) (k : Kp [] wr w2) : AccP S w ls v w2 := by
  obtain ⟨l, h1, h2, h3⟩ := h
  exact ⟨l, h1.kept k, h2, h3.trans (k.mono (by simp))⟩
theorem AccP.len {S : List Nat} {w wr : World} {ls : List (List Int)} {ao : Option Addr} {m c : Nat} (h : AccP S w ls (.slice ao m c) wr) : m = ls.length := by
  obtain ⟨l, h1, h2, _⟩ := h
  have := h1.1.len
  rw [this, ← h2]; simp
/-- one more row behind them, at a step of a region that draws its order. -/
theorem step_accp {S : List Nat} {w wr w2 w3 : World} {ops : Array Oper} {o : Oper} {a : Act} {K : Act → World → Prop} {Q : Exit → Act → World → Prop} {E : Prop} (hgd : o.guard = none) (s x : Operand)
    (ho : o.op = .call { callee := .builtin .append, args := #[s, x], argTypes := #[22, 22] }) (v : Value) (ls : List (List Int)) (hs : a.eval s = v) (hA : AccP S w ls v wr) (hl : ls.length ≤ 1000000)
    (vx : Value) (bs : List Int) (k : Kp [] wr w2) (hR : Row w2 wr.heap.size vx bs) (hB : Bs bs) (g : Nat) (hx : a.eval x = .slice (some ⟨g, 0, none⟩) 1 1) (hc : w3.cell? ⟨g, 0, none⟩ = some vx) (k3 : Kp [] w2 w3)
    (h : ∀ ao m c w', AccP S w (ls ++ [bs]) (.slice ao m c) w' → RStep wr v w' (.slice ao m c) → K (a.put o.dst (.slice ao m c)) w') :
    if Region.wanted o (yielded ops a.tmps) = true then Oper.wp Tryd.prog o a w3 K Q else E := by
  have hw : Region.wanted o (yielded ops a.tmps) = true := by simp [Region.wanted, hgd]
  rw [if_pos hw]
  obtain ⟨i0, hi0, hz0, hz1, hz2⟩ := info_parts Tryd.infoSl
  obtain ⟨l, hP, hl2, hK⟩ := hA
  have hP2 := hP.kept (k.trans k3)
  obtain ⟨ax, cx, hvx⟩ := hR.shape
  obtain ⟨av, cv, hv⟩ := hP2.1.shape
  have hll : l.length = ls.length := by rw [← hl2]; simp
  have hbase : w.heap.size ≤ w3.heap.size := Nat.le_trans hK.size (k.trans k3).size
  obtain ⟨ys, hys⟩ : ∃ ys, ys = l.map (·.1) := ⟨_, rfl⟩
  have hP2r : RowV w3 w.heap.size v ys := by rw [hys]; exact hP2.1
  have hyl : ys.length ≤ 1000000 := by rw [hys, List.length_map]; omega
  obtain ⟨v', w1, hr, hown1, hgrow, _, hat⟩ := run_append_own_at (P := Tryd.prog) w3 w.heap.size 22 o.type 30 i0 (.slice none 0 0) 1 24 Tryd.underlying22 hi0 hz0 hz1 hz2 rfl (by decide) v ys.length ys hP2r ⟨g, 0, none⟩ 1 1 [vx] (by simp) (fun j u hu => by
    have hj : j = 0 := by have := (List.getElem?_eq_some_iff.1 hu).1; simpa using this
    subst hj
    simp at hu
    subst hu
    exact hc) (by simp [hvx, Value.oneCell']) (by unfold maxLen; omega) (by omega) hbase
  have R : RowV w1 w.heap.size v' (ys ++ [vx]) := by unfold RowV; rw [List.length_append]; exact hown1
  rw [hys] at R
  obtain ⟨ao', c', hv'⟩ := R.shape
  subst hv'
  have st : RStep w3 v w1 (.slice ao' (l.map (·.1) ++ [vx]).length c') := ⟨(Kp.refl _ w3).grown hgrow (fun k hk => .inl (by simp [hk])), fun k hk => by
    rcases hat with e | e
    · exact .inl (e ▸ hk)
    · rw [e] at hk; cases hk; exact .inr (Nat.le_refl _)⟩
  have hKK := h ao' _ c' w1 ⟨l ++ [(vx, bs)], hP.snoc (x := (vx, bs)) k hR hB k3 R st hK.size, by simp [hl2], (hK.trans ((k.trans k3).mono (by simp))).then st.1 (fun i hi => .inr (hP.1.own i (by simpa using hi)))⟩ (st.after (k.trans k3))
  unfold Oper.wp execOp
  simp only [ho, resolve, invoke, builtin, Sem.run_bind, Sem.run_pure, Result.andThen_ok, List.map_toArray, List.map_cons, List.map_nil, hs, hx, hr]
  exact hKK

/-- one byte is turned: whatever reads as bytes still does. -/
theorem Sl.poke {w : World} {v : Value} {bs : List Int} {b off : Nat} {y : Value} (h : Sl w v bs) (hB : Bs bs) (x : Int) (h0 : 0 ≤ x) (h1 : x ≤ 255) (hc : w.cell? ⟨b, off, none⟩ = some y) : ∃ cs, Sl (w.setCell ⟨b, off, none⟩ (.int .u8 x)) v cs ∧ Bs cs := by
  obtain ⟨ao, c, rfl, k1, k2, k3, k4⟩ := h
  cases ao with
  | none =>
    have : bs = [] := List.eq_nil_of_length_eq_zero (by have := k3 rfl; omega)
    subst this
    exact ⟨[], ⟨none, c, rfl, k1, k2, k3, fun a ha => by cases ha⟩, hB⟩
  | some a =>
    refine ⟨(List.range bs.length).map fun j => if a.add j = ⟨b, off, none⟩ then x else bs.getD j 0, ⟨some a, c, by simp, by simpa using k1, k2, (fun h => by cases h), fun a' ha j u hu => ?_⟩, fun z hz => ?_⟩
    · cases ha
      have hj : j < bs.length := by have := (List.getElem?_eq_some_iff.1 hu).1; simpa using this
      have hold := k4 a rfl j (.int .u8 bs[j]) (by simp [List.getElem?_eq_getElem hj])
      have hg : bs.getD j 0 = bs[j] := by simp [List.getD, hj]
      simp only [List.map_map, List.getElem?_map, List.getElem?_range hj, Option.map_some, Option.some.injEq, Function.comp] at hu
      rw [← hu]
      by_cases he : a.add j = ⟨b, off, none⟩
      · rw [if_pos he, he]
        exact cell_setCell_same hc
      · rw [if_neg he, hg, cell_setCell_ne rfl he (spot_of_cell hold)]
        exact hold
    · obtain ⟨j, hj, rfl⟩ := List.mem_map.1 hz
      split
      · exact ⟨h0, h1⟩
      · exact hB.at j
theorem AccP.cap {S : List Nat} {w wr : World} {ls : List (List Int)} {ao : Option Addr} {m c : Nat} (h : AccP S w ls (.slice ao m c) wr) : m ≤ c := by
  obtain ⟨l, h1, _, _⟩ := h
  have hm := h1.1.len
  rcases h1.1.2 with ⟨e, h0⟩ | ⟨g, cap, cur, e, _, _, hc, _⟩
  · injection e with _ e2 e3; omega
  · injection e with _ e2 e3; omega
/-- a list of which one byte is turned is a list. -/
theorem LcM.poke {w : World} {v : Value} {ls : List (List Int)} {b off : Nat} {y : Int} (h : LcM ls v w) (x : Int) (h0 : 0 ≤ x) (h1 : x ≤ 255) (hc : w.cell? ⟨b, off, none⟩ = some (.int .u8 y)) : ∃ ls', LcM ls' v (w.setCell ⟨b, off, none⟩ (.int .u8 x)) := by
  obtain ⟨l, ⟨⟨ao, c, e, k1, k2⟩, ao2, c2, e2, q1, q2, q3⟩, _⟩ := h
  subst e
  have hex : ∀ i (hi : i < l.length), ∃ cs, Sl (w.setCell ⟨b, off, none⟩ (.int .u8 x)) l[i].1 cs ∧ Bs cs := fun i hi => by
    obtain ⟨_, _, _, _, k5, k6⟩ := k2 i hi
    exact k5.poke k6 x h0 h1 hc
  have hf : ∃ f : Nat → List Int, ∀ i (hi : i < l.length), Sl (w.setCell ⟨b, off, none⟩ (.int .u8 x)) l[i].1 (f i) ∧ Bs (f i) := by
    refine ⟨fun i => if hi : i < l.length then (hex i hi).choose else [], fun i hi => ?_⟩
    simp only [hi, dif_pos]
    exact (hex i hi).choose_spec
  obtain ⟨f, hf⟩ := hf
  have hll : (l.mapIdx (fun i y => (y.1, f i))).length = l.length := by simp
  refine ⟨_, l.mapIdx (fun i y => (y.1, f i)), ⟨⟨ao, c, by rw [hll], by rw [hll]; exact k1, fun i hi => ?_⟩, ao2, c2, by rw [hll]; exact e2, by rw [hll]; exact q1, q2, q3⟩, rfl⟩
  have hi2 : i < l.length := by simpa using hi
  obtain ⟨b', off', e', k4, k5, k6⟩ := k2 i hi2
  have hv : l[i].1 ≠ .int .u8 y := fun e => by obtain ⟨_, _, e2, _⟩ := k5; rw [e] at e2; cases e2
  refine ⟨b', off', e', ?_, by simpa using (hf i hi2).1, by simpa using (hf i hi2).2⟩
  simp only [List.getElem_mapIdx]
  rw [cell_setCell_ne rfl (fun e2 => hv (by rw [e2, hc] at k4; exact (Option.some.inj k4).symm)) rfl]
  exact k4
/-- the byte o of the part i, where a byte may be put in. -/
theorem AccP.byte {S : List Nat} {w wr : World} {ls : List (List Int)} {ao : Option Addr} {m c : Nat} (h : AccP S w ls (.slice ao m c) wr) (i : Nat) (X : List Int) (hi : ls[i]? = some X) (o : Nat) (ho : o < X.length) : ∃ gr b cx B, ao = some ⟨gr, 0, none⟩ ∧ w.heap.size ≤ b ∧ wr.cell? ⟨gr, i, none⟩ = some (.slice (some ⟨b, 0, none⟩) X.length cx) ∧ wr.cell? ⟨b, o, none⟩ = some (.int .u8 B) ∧ wr.frozen? ⟨b, o, none⟩ = false := by
  obtain ⟨l, h1, h2, _⟩ := h
  subst h2
  rw [List.getElem?_map] at hi
  obtain ⟨y, hy, rfl⟩ := Option.map_eq_some_iff.1 hi
  obtain ⟨hi2, rfl⟩ := List.getElem?_eq_some_iff.1 hy
  obtain ⟨gr, e, hb, hlt, hn, hcs, hfr⟩ := h1.rowS.spot (by have := h1.1.len; rw [this]; simp; omega)
  subst e
  obtain ⟨k1, k2, k3⟩ := h1.2 l[i] (List.getElem_mem hi2)
  have hrow : wr.cell? ⟨gr, i, none⟩ = some l[i].1 := by
    have hm := h1.1.len
    subst hm
    have hr : wr.ownsRow w.heap.size 30 1 (.slice (some ⟨gr, 0, none⟩) (l.map (·.1)).length c) (l.map (·.1)).length (l.map (·.1)) := h1.1
    rw [hr.cellAt i (by simp; omega)]
    simp [hi2]
  obtain ⟨ax, cx, ev⟩ := k1.shape
  rw [ev] at k1 hrow
  obtain ⟨b, e2, hb2, _, hc2, hf2, _⟩ := k1.spot (by omega)
  subst e2
  exact ⟨gr, b, cx, _, rfl, hb2, hrow, hc2 o ho, hf2 o⟩
theorem AccP.lcm {S : List Nat} {w wr : World} {ls : List (List Int)} {v : Value} (h : AccP S w ls v wr) (hl : ls.length ≤ 1000) : LcM ls v wr := by
  obtain ⟨l, h1, h2, _⟩ := h
  rw [← h2]
  exact h1.rowS.lcm (by rw [← List.length_map (f := (·.2)), h2]; exact hl)
theorem kp_set (w : World) (g j : Nat) (u : Value) : Kp [g] w (w.setCell ⟨g, j, none⟩ u) := (Kp.refl [g] w).setCell (p := ⟨g, j, none⟩) (.inl (by simp)) _
theorem xor_byte (x y : Int) : 0 ≤ bits .xor .u8 x y ∧ bits .xor .u8 x y ≤ 255 := by
  show 0 ≤ IntKind.u8.wrap _ ∧ IntKind.u8.wrap _ ≤ 255
  simp [IntKind.wrap, IntKind.signed, IntKind.bits]
  omega
theorem Kp.frz {S : List Nat} {a w : World} (h : Kp S a w) {p : Addr} (hlt : p.block < a.heap.size) (hn : p.block ∉ S) : w.frozen? p = a.frozen? p := by
  unfold World.frozen?
  rw [h.block p.block hlt hn]
/-- a list that is cut, by its value. -/
theorem grown_cutv {o : Oper} {a : Act} {w : World} (s k : Operand) (ho : o.op = .slice 22 s none (some k) none) (ao : Option Addr) (m c y : Nat) (hs : a.eval s = .slice ao m c) (hk : a.eval k = .int .i64 (y : Nat)) (hy : y ≤ c) : grown Tryd.prog w (Is (.slice ao y c)) ((execOp a.eval o).run Tryd.prog w) := by
  refine grown_run (v := .slice ao y c) (w' := w) ?_ (Kp.refl _ _) rfl
  have hr := run_lhead ao m c y w hy
  unfold execOp
  simp only [ho, hs, hk, Sem.run_bind, hr, Result.andThen_ok, Sem.run_pure, Option.map_some, Option.map_none]
/-- The value is a slice of bytes, whichever. -/
def SbT : Tell := fun v w => ∃ bs, Sl w v bs ∧ Bs bs
theorem stable_sb : Tell.stable SbT := fun _ _ _ k ⟨bs, h, hb⟩ => ⟨bs, h.kept k (by simp), hb⟩
/-- what Within tells. -/
def wiP (n lo hi : Int) : Int := if lo ≤ n ∧ n ≤ hi then n else if n.tmod (hi - lo + 1) < 0 then lo + (n.tmod (hi - lo + 1) + hi - lo + 1) else lo + n.tmod (hi - lo + 1)
theorem tmod_bnd (n c : Int) (hc : 0 < c) : -c < n.tmod c ∧ n.tmod c < c := by
  have h1 := Int.emod_nonneg n (by omega : c ≠ 0)
  have h2 := Int.emod_lt_of_pos n hc
  constructor
  · have := Int.lt_tmod_of_pos n hc; omega
  · exact Int.tmod_lt_of_pos n hc
theorem wiP_ge (n lo hi : Int) (h : lo ≤ hi) : lo ≤ wiP n lo hi ∧ wiP n lo hi ≤ hi := by
  have := tmod_bnd n (hi - lo + 1) (by omega)
  unfold wiP
  split
  · assumption
  · split <;> omega
set_option maxHeartbeats 1000000 in
theorem within_wi (n lo hi : Int) (w : World) (h1 : -1000 ≤ lo) (h2 : lo ≤ hi) (h3 : hi ≤ 1073741824) : Calls Tryd.prog 15 #[.int .i64 n, .int .i64 lo, .int .i64 hi] w fun e w' => e = .returned (.int .i64 (wiP n lo hi)) ∧ w' = w := by
  have hb := tmod_bnd n (hi - lo + 1) (by omega)
  have hc : hi - lo + 1 ≠ 0 := by omega
  have hwi : wiP n lo hi = if lo ≤ n ∧ n ≤ hi then n else if n.tmod (hi - lo + 1) < 0 then lo + (n.tmod (hi - lo + 1) + hi - lo + 1) else lo + n.tmod (hi - lo + 1) := rfl
  have W := hide hwi
  clear hwi
  go_enter Tryd.func15, Tryd.ntmps15
  go_wp2
  all_goals
    go_ret
    refine ⟨congrArg Ending.returned (congrArg (Value.int IntKind.i64) ?_), rfl⟩
    rw [unhide W]
    split <;> first | rfl | omega | (split <;> omega)
end Go.Proofs.YtphhofgjnlfjmaaDoor
