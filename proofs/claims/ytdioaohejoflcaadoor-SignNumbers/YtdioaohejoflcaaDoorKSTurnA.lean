/-
  Rows of rows of the call's own, gathered while other blocks change; slices and lists of which one byte is turned.
-/
import Derived.Test.YtdioaohejoflcaaDoorKSSameL
import Derived.Test.YtdioaohejoflcaaDoorKOMore
import Derived.Test.YtdioaohejoflcaaDoorKOTurn
namespace Go.Proofs.YtdioaohejoflcaaDoor
open Go.RowKit
open Go.Proofs

/-- rows that are gathered, all of the call's own, while blocks in S may change. -/
def AccP (S : List Nat) (w : World) (ls : List (List Int)) (v : Value) (wr : World) : Prop := ∃ l, Parts wr w.heap.size v l ∧ l.map (·.2) = ls ∧ Kp S w wr
theorem AccP.kp {S : List Nat} {w wr : World} {ls : List (List Int)} {v : Value} (h : AccP S w ls v wr) : Kp S w wr := by obtain ⟨_, _, _, h3⟩ := h; exact h3
theorem AccP.own {S : List Nat} {w wr : World} {ls : List (List Int)} {v : Value} (h : AccP S w ls v wr) : ∀ q, v.ownBlock = some q → w.heap.size ≤ q ∧ q < wr.heap.size := by obtain ⟨_, h1, _, _⟩ := h; exact fun q hq => ⟨h1.1.own q hq, h1.1.lt hq⟩
theorem Parts.off {w w' : World} {base q : Nat} {v : Value} {l : List (Value × List Int)} (h : Parts w base v l) (k : Kp [q] w w') (hq : q < base) : Parts w' base v l :=
  ⟨h.1.kept k (fun i hi => by have := h.1.own i hi; simp; omega), fun x hx => ⟨(h.2 x hx).1.kept k (fun i hi => by have := (h.2 x hx).1.own i hi; simp; omega), (h.2 x hx).2⟩⟩
theorem AccP.off {S : List Nat} {w wr w2 : World} {ls : List (List Int)} {v : Value} {q : Nat} (h : AccP S w ls v wr) (k : Kp [q] wr w2) (hq : q ∈ S) (hlt : q < w.heap.size) : AccP S w ls v w2 := by
  obtain ⟨l, h1, h2, h3⟩ := h
  exact ⟨l, h1.off k hlt, h2, h3.trans (k.mono (by simpa using hq))⟩
theorem AccP.mid {S : List Nat} {w wr w2 : World} {ls : List (List Int)} {v : Value} (h : AccP S w ls v wr) (k : Kp [] wr w2) : AccP S w ls v w2 := by
  obtain ⟨l, h1, h2, h3⟩ := h
  exact ⟨l, h1.kept k, h2, h3.trans (k.mono (by simp))⟩
theorem AccP.len {S : List Nat} {w wr : World} {ls : List (List Int)} {ao : Option Addr} {m c : Nat} (h : AccP S w ls (.slice ao m c) wr) : m = ls.length := by
  obtain ⟨l, h1, h2, _⟩ := h
  have := h1.1.len
  rw [this, ← h2]; simp
/-- one more row behind them, at a step of a region that draws its order. -/
theorem step_accp {S : List Nat} {w wr w2 w3 : World} {ops : Array Oper} {o : Oper} {a : Act} {K : Act → World → Prop} {Q : Exit → Act → World → Prop} {E : Prop} (hgd : o.guard = none) (s x : Operand)
    (ho : o.op = .call { callee := .builtin .append, args := #[s, x], argTypes := #[31, 31] }) (v : Value) (ls : List (List Int)) (hs : a.eval s = v) (hA : AccP S w ls v wr) (hl : ls.length ≤ 1000000)
    (vx : Value) (bs : List Int) (k : Kp [] wr w2) (hR : Row w2 wr.heap.size vx bs) (hB : Bs bs) (g : Nat) (hx : a.eval x = .slice (some ⟨g, 0, none⟩) 1 1) (hc : w3.cell? ⟨g, 0, none⟩ = some vx) (k3 : Kp [] w2 w3)
    (h : ∀ ao m c w', AccP S w (ls ++ [bs]) (.slice ao m c) w' → RStep wr v w' (.slice ao m c) → K (a.put o.dst (.slice ao m c)) w') :
    if Region.wanted o (yielded ops a.tmps) = true then Oper.wp Tryd.prog o a w3 K Q else E := by
  have hw : Region.wanted o (yielded ops a.tmps) = true := by simp [Region.wanted, hgd]
  rw [if_pos hw]
  obtain ⟨i0, hi0, hz0, hz1, hz2⟩ := info_parts Tryd.infoSl
  obtain ⟨l, hP, hl2, hK⟩ := hA
  have hP2 := hP.kept (k.trans k3)
  obtain ⟨ax, cx, hvx⟩ := hR.shape
  obtain ⟨av, cv, hv⟩ := hP2.1.shape
  have hll : l.length = ls.length := by rw [← hl2]; simp
  have hbase : w.heap.size ≤ w3.heap.size := Nat.le_trans hK.size (k.trans k3).size
  obtain ⟨ys, hys⟩ : ∃ ys, ys = l.map (·.1) := ⟨_, rfl⟩
  have hP2r : RowV w3 w.heap.size v ys := by rw [hys]; exact hP2.1
  have hyl : ys.length ≤ 1000000 := by rw [hys, List.length_map]; omega
  obtain ⟨v', w1, hr, hown1, hgrow, _, hat⟩ := run_append_own_at (P := Tryd.prog) w3 w.heap.size 31 o.type 24 i0 (.slice none 0 0) 1 24 Tryd.underlying31 hi0 hz0 hz1 hz2 rfl (by decide) v ys.length ys hP2r ⟨g, 0, none⟩ 1 1 [vx] (by simp) (fun j u hu => by
    have hj : j = 0 := by have := (List.getElem?_eq_some_iff.1 hu).1; simpa using this
    subst hj
    simp at hu
    subst hu
    exact hc) (by simp [hvx, Value.oneCell']) (by unfold maxLen; omega) (by omega) hbase
  have R : RowV w1 w.heap.size v' (ys ++ [vx]) := by unfold RowV; rw [List.length_append]; exact hown1
  rw [hys] at R
  obtain ⟨ao', c', hv'⟩ := R.shape
  subst hv'
  have st : RStep w3 v w1 (.slice ao' (l.map (·.1) ++ [vx]).length c') := ⟨(Kp.refl _ w3).grown hgrow (fun k hk => .inl (by simp [hk])), fun k hk => by
    rcases hat with e | e
    · exact .inl (e ▸ hk)
    · rw [e] at hk; cases hk; exact .inr (Nat.le_refl _)⟩
  have hKK := h ao' _ c' w1 ⟨l ++ [(vx, bs)], hP.snoc (x := (vx, bs)) k hR hB k3 R st hK.size, by simp [hl2], (hK.trans ((k.trans k3).mono (by simp))).then st.1 (fun i hi => .inr (hP.1.own i (by simpa using hi)))⟩ (st.after (k.trans k3))
  unfold Oper.wp execOp
  simp only [ho, resolve, invoke, builtin, Sem.run_bind, Sem.run_pure, Result.andThen_ok, List.map_toArray, List.map_cons, List.map_nil, hs, hx, hr]
  exact hKK

/-- a list of slices that lies apart from the block g. -/
def Lz (g : Nat) (w : World) (v : Value) (ls : List (List Int)) : Prop :=
  ∃ l, Lists w v l ∧ l.map (·.2) = ls ∧ (∀ q, v.ownBlock = some q → q ≠ g) ∧ ∀ x ∈ l, ∀ q, x.1.ownBlock = some q → q ≠ g
theorem Lz.kept {g : Nat} {w w' : World} {v : Value} {ls : List (List Int)} (h : Lz g w v ls) (k : Kp [] w w') : Lz g w' v ls := by
  obtain ⟨l, h1, h2⟩ := h
  exact ⟨l, h1.kept k, h2⟩
theorem Lz.off {g : Nat} {w w' : World} {v : Value} {ls : List (List Int)} (h : Lz g w v ls) (k : Kp [g] w w') : Lz g w' v ls := by
  obtain ⟨l, h1, h2, h3, h4⟩ := h
  exact ⟨l, h1.off k (fun q hq => by simpa using h3 q hq) (fun y hy q hq => by simpa using h4 y hy q hq), h2, h3, h4⟩
theorem AccP.lz {S : List Nat} {w wr : World} {ls : List (List Int)} {v : Value} (h : AccP S w ls v wr) (hl : ls.length ≤ 1000) (g : Nat) (hg : g < w.heap.size) : Lz g wr v ls := by
  obtain ⟨l, h1, h2, h3⟩ := h
  refine ⟨l, h1.lists (by rw [← List.length_map (f := (·.2)), h2]; exact hl), h2, fun q hq => ?_, fun x hx q hq => ?_⟩
  · have := h1.1.own q hq; omega
  · have := (h1.2 x hx).1.own q hq; omega
theorem cell_setCell_ne {w : World} {a b : Addr} {u : Value} (hs : a.spot = none) (h : b ≠ a) (hb : b.spot = none) : (w.setCell a u).cell? b = w.cell? b := by
  obtain ⟨ab, ao, as'⟩ := a
  obtain ⟨bb, bo, bs'⟩ := b
  simp only at hs hb
  subst hs
  subst hb
  by_cases hblk : bb = ab
  · subst hblk
    have hoff : ao ≠ bo := fun e => h (by rw [e])
    unfold World.cell? World.setCell
    simp only
    cases hx : w.heap[bb]? with
    | none =>
      have hle := Array.getElem?_eq_none_iff.1 hx
      rw [Array.getElem?_eq_none (by simpa using hle)]
    | some o =>
      have hlt : bb < w.heap.size := (Array.getElem?_eq_some_iff.1 hx).1
      have hx' : w.heap[bb] = o := by simpa [Array.getElem?_eq_getElem hlt] using hx
      rw [Array.getElem?_eq_getElem (by simpa using hlt), Array.getElem_modify_self, hx']
      cases o <;> simp [Array.getElem?_setIfInBounds_ne hoff]
  · exact World.cell?_of_block (Below.heap_setCell _ _ _ _ (by simpa using hblk))
theorem cell_setCell_same {w : World} {b off : Nat} {u y : Value} (h : w.cell? ⟨b, off, none⟩ = some y) : (w.setCell ⟨b, off, none⟩ u).cell? ⟨b, off, none⟩ = some u := by
  unfold World.cell? World.setCell at *
  simp only at *
  cases hx : w.heap[b]? with
  | none => simp [hx] at h
  | some o =>
    have hlt : b < w.heap.size := (Array.getElem?_eq_some_iff.1 hx).1
    have hx' : w.heap[b] = o := by simpa [Array.getElem?_eq_getElem hlt] using hx
    rw [hx] at h
    rw [Array.getElem?_eq_getElem (by simpa using hlt), Array.getElem_modify_self, hx']
    cases o with
    | cells c t fr =>
      simp at h ⊢
      have : off < c.size := (Array.getElem?_eq_some_iff.1 h).1
      simp [this]
    | _ => simp at h
theorem spot_of_cell {w : World} {a : Addr} {v : Value} (h : w.cell? a = some v) : a.spot = none := by
  unfold World.cell? at h
  cases hx : w.heap[a.block]? with
  | none => rw [hx] at h; cases h
  | some o =>
    rw [hx] at h
    cases o with
    | cells c t fr =>
      simp only at h
      cases hs : a.spot with
      | none => rfl
      | some x => rw [hs] at h; simp at h
    | _ => simp at h
/-- one byte is turned: whatever reads as bytes still does. -/
theorem Sl.poke {w : World} {v : Value} {bs : List Int} {b off : Nat} {y : Value} (h : Sl w v bs) (hB : Bs bs) (x : Int) (h0 : 0 ≤ x) (h1 : x ≤ 255) (hc : w.cell? ⟨b, off, none⟩ = some y) : ∃ cs, Sl (w.setCell ⟨b, off, none⟩ (.int .u8 x)) v cs ∧ Bs cs := by
  obtain ⟨ao, c, rfl, k1, k2, k3, k4⟩ := h
  cases ao with
  | none =>
    have : bs = [] := List.eq_nil_of_length_eq_zero (by have := k3 rfl; omega)
    subst this
    exact ⟨[], ⟨none, c, rfl, k1, k2, k3, fun a ha => by cases ha⟩, hB⟩
  | some a =>
    refine ⟨(List.range bs.length).map fun j => if a.add j = ⟨b, off, none⟩ then x else bs.getD j 0, ⟨some a, c, by simp, by simpa using k1, k2, (fun h => by cases h), fun a' ha j u hu => ?_⟩, fun z hz => ?_⟩
    · cases ha
      have hj : j < bs.length := by have := (List.getElem?_eq_some_iff.1 hu).1; simpa using this
      have hold := k4 a rfl j (.int .u8 bs[j]) (by simp [List.getElem?_eq_getElem hj])
      have hg : bs.getD j 0 = bs[j] := by simp [List.getD, hj]
      simp only [List.map_map, List.getElem?_map, List.getElem?_range hj, Option.map_some, Option.some.injEq, Function.comp] at hu
      rw [← hu]
      by_cases he : a.add j = ⟨b, off, none⟩
      · rw [if_pos he, he]
        exact cell_setCell_same hc
      · rw [if_neg he, hg, cell_setCell_ne rfl he (spot_of_cell hold)]
        exact hold
    · obtain ⟨j, hj, rfl⟩ := List.mem_map.1 hz
      split
      · exact ⟨h0, h1⟩
      · exact hB.at j
theorem Lz.poke {g : Nat} {w : World} {v : Value} {ls : List (List Int)} {b off : Nat} {y : Int} (h : Lz g w v ls) (x : Int) (h0 : 0 ≤ x) (h1 : x ≤ 255) (hc : w.cell? ⟨b, off, none⟩ = some (.int .u8 y)) : ∃ ls', Lz g (w.setCell ⟨b, off, none⟩ (.int .u8 x)) v ls' := by
  obtain ⟨l, ⟨ao, c, e, k1, k2⟩, _, h3, h4⟩ := h
  subst e
  have hex : ∀ i (hi : i < l.length), ∃ cs, Sl (w.setCell ⟨b, off, none⟩ (.int .u8 x)) l[i].1 cs ∧ Bs cs := fun i hi => by
    obtain ⟨_, _, _, _, k5, k6⟩ := k2 i hi
    exact k5.poke k6 x h0 h1 hc
  have hf : ∃ f : Nat → List Int, ∀ i (hi : i < l.length), Sl (w.setCell ⟨b, off, none⟩ (.int .u8 x)) l[i].1 (f i) ∧ Bs (f i) := by
    refine ⟨fun i => if hi : i < l.length then (hex i hi).choose else [], fun i hi => ?_⟩
    simp only [hi, dif_pos]
    exact (hex i hi).choose_spec
  obtain ⟨f, hf⟩ := hf
  refine ⟨_, l.mapIdx (fun i y => (y.1, f i)), ⟨ao, c, by simp, by simpa using k1, fun i hi => ?_⟩, rfl, h3, fun y hy q hq => ?_⟩
  · have hi2 : i < l.length := by simpa using hi
    obtain ⟨b', off', e', k4, k5, k6⟩ := k2 i hi2
    have hv : l[i].1 ≠ .int .u8 y := fun e => by obtain ⟨_, _, e2, _⟩ := k5; rw [e] at e2; cases e2
    refine ⟨b', off', e', ?_, by simpa using (hf i hi2).1, by simpa using (hf i hi2).2⟩
    simp only [List.getElem_mapIdx]
    rw [cell_setCell_ne rfl (fun e2 => hv (by rw [e2, hc] at k4; exact (Option.some.inj k4).symm)) rfl]
    exact k4
  · obtain ⟨i, hi, rfl⟩ := List.getElem_of_mem hy
    have hi2 : i < l.length := by simpa using hi
    simp only [List.getElem_mapIdx] at hq
    exact h4 l[i] (List.getElem_mem hi2) q hq
/-- the first byte of the part i, where a byte may be put in. -/
theorem AccP.at {S : List Nat} {w wr : World} {ls : List (List Int)} {ao : Option Addr} {m c : Nat} (h : AccP S w ls (.slice ao m c) wr) (i : Nat) (hi : i < ls.length) (hne : 0 < (ls.getD i []).length) : ∃ gr b cx, ao = some ⟨gr, 0, none⟩ ∧ w.heap.size ≤ b ∧ wr.cell? ⟨gr, i, none⟩ = some (.slice (some ⟨b, 0, none⟩) (ls.getD i []).length cx) ∧ wr.cell? ⟨b, 0, none⟩ = some (.int .u8 ((ls.getD i []).getD 0 0)) ∧ wr.frozen? ⟨b, 0, none⟩ = false ∧ Row wr w.heap.size (.slice (some ⟨b, 0, none⟩) (ls.getD i []).length cx) (ls.getD i []) ∧ Bs (ls.getD i []) ∧ (∀ j, wr.frozen? ⟨gr, j, none⟩ = false) ∧ b ≠ gr := by
  obtain ⟨l, h1, h2, _⟩ := h
  subst h2
  have hi2 : i < l.length := by simpa using hi
  have hg : (l.map (·.2)).getD i [] = l[i].2 := by simp [List.getD, hi2]
  rw [hg] at hne ⊢
  obtain ⟨gr, e, hb, hlt, hn, hcs, hfr⟩ := h1.rowS.spot (by have := h1.1.len; rw [this]; simp; omega)
  subst e
  obtain ⟨k1, k2, k3⟩ := h1.2 l[i] (List.getElem_mem hi2)
  have hrow : wr.cell? ⟨gr, i, none⟩ = some l[i].1 := by
    have hm := h1.1.len
    subst hm
    have hr : wr.ownsRow w.heap.size 24 1 (.slice (some ⟨gr, 0, none⟩) (l.map (·.1)).length c) (l.map (·.1)).length (l.map (·.1)) := h1.1
    rw [hr.cellAt i (by simp; omega)]
    simp [hi2]
  obtain ⟨ax, cx, ev⟩ := k1.shape
  rw [ev] at k1 hrow k3
  obtain ⟨b, e2, hb2, _, hc2, hf2, _⟩ := k1.spot hne
  subst e2
  refine ⟨gr, b, cx, rfl, hb2, hrow, ?_, hf2 0, k1, k2, hfr, fun e => k3 b rfl (by rw [e]; rfl)⟩
  rw [hc2 0 hne]
  simp [List.getD, hne]
theorem AccP.lzoff {S : List Nat} {w wr w2 : World} {ls : List (List Int)} {v : Value} {q : Nat} (h : AccP S w ls v wr) (k : Kp [q] wr w2) (hlt : q < w.heap.size) (hl : ls.length ≤ 1000) (g : Nat) (hg : g < w.heap.size) : Lz g w2 v ls := by
  obtain ⟨l, h1, h2, h3⟩ := h
  have h1' := h1.off k hlt
  refine ⟨l, h1'.lists (by rw [← List.length_map (f := (·.2)), h2]; exact hl), h2, fun q hq => ?_, fun x hx q hq => ?_⟩
  · have := h1.1.own q hq; omega
  · have := (h1.2 x hx).1.own q hq; omega
theorem AccP.cap {S : List Nat} {w wr : World} {ls : List (List Int)} {ao : Option Addr} {m c : Nat} (h : AccP S w ls (.slice ao m c) wr) : m ≤ c := by
  obtain ⟨l, h1, _, _⟩ := h
  have hm := h1.1.len
  rcases h1.1.2 with ⟨e, h0⟩ | ⟨g, cap, cur, e, _, _, hc, _⟩
  · injection e with _ e2 e3; omega
  · injection e with _ e2 e3; omega
theorem Lz.take {g : Nat} {w : World} {ao : Option Addr} {n c : Nat} {ls : List (List Int)} (h : Lz g w (.slice ao n c) ls) {k : Nat} (hk : k ≤ ls.length) : Lz g w (.slice ao k c) (ls.take k) := by
  obtain ⟨l, h1, h2, h3, h4⟩ := h
  exact ⟨l.take k, h1.take (by rw [← List.length_map (f := (·.2)), h2]; exact hk), by rw [List.map_take, h2], (by cases ao <;> exact h3), fun x hx => h4 x (List.mem_of_mem_take hx)⟩
theorem run_cut (ao : Option Addr) (n c k : Nat) (w : World) (h1 : k ≤ n) (h2 : n ≤ c) (h3 : ao = none → c = 0) : (Instr.sliceAt 31 (.slice ao n c) none (some (.int .i64 k)) none).run Tryd.prog w = .ok (.slice ao k c) w := by
  have e3 : (k : Int) ≤ (c : Int) := by omega
  cases ao with
  | none =>
    have := h3 rfl
    have hk : k = 0 := by omega
    subst hk
    simp [Instr.sliceAt, Sem.run_bind, go_sem]
  | some a =>
    simp [Instr.sliceAt, Sem.run_bind, go_sem, e3]
theorem run_cut1 (ao : Option Addr) (n c k : Nat) (w : World) (h1 : k ≤ n) (h2 : n ≤ c) (h3 : ao = none → c = 0) : (Instr.sliceAt 24 (.slice ao n c) none (some (.int .i64 k)) none).run Tryd.prog w = .ok (.slice ao k c) w := by
  have e3 : (k : Int) ≤ (c : Int) := by omega
  cases ao with
  | none =>
    have := h3 rfl
    have hk : k = 0 := by omega
    subst hk
    simp [Instr.sliceAt, Sem.run_bind, go_sem]
  | some a =>
    simp [Instr.sliceAt, Sem.run_bind, go_sem, e3]
/-- the part i is cut to its first bytes. -/
theorem AccP.half {S : List Nat} {w wr w2 : World} {ls : List (List Int)} {gr m c b cx : Nat} (h : AccP S w ls (.slice (some ⟨gr, 0, none⟩) m c) wr) (i : Nat) (k : Kp [] wr w2) (hR : Row wr w.heap.size (.slice (some ⟨b, 0, none⟩) 32 cx) (ls.getD i [])) (hB : Bs (ls.getD i [])) (hne : b ≠ gr) (hl : ls.length ≤ 1000) (g : Nat) (hg : g < w.heap.size) :
    Lz g (w2.setCell ⟨gr, i, none⟩ (.slice (some ⟨b, 0, none⟩) 16 cx)) (.slice (some ⟨gr, 0, none⟩) m c) (ls.set i ((ls.getD i []).take 16)) := by
  obtain ⟨l, h1, h2, h3⟩ := h
  have hlen : (ls.getD i []).length = 32 := hR.len.symm
  have hS := ((hR.sl.kept k (by simp)).take 16 (by omega))
  have hRS := ((h1.kept k).rowS).set i (.slice (some ⟨b, 0, none⟩) 16 cx, (ls.getD i []).take 16) hS (hB.take _) (fun e => absurd (by simpa [Value.ownBlock] using e) hne)
  refine ⟨_, hRS.lists (by rw [List.length_set, ← List.length_map (f := (·.2)), h2]; exact hl), by rw [List.map_set, h2], fun q hq => ?_, fun x hx q hq => ?_⟩
  · have := h1.1.own q hq; omega
  · rcases List.mem_or_eq_of_mem_set hx with hx | rfl
    · have := (h1.2 x hx).1.own q hq; omega
    · have := hR.own q hq; omega
/-- The value is a number below n. -/
def InT (n : Nat) : Tell := fun v _ => ∃ x : Nat, v = .int .i64 x ∧ x < n
theorem stable_in (n : Nat) : Tell.stable (InT n) := fun _ _ _ _ h => h
end Go.Proofs.YtdioaohejoflcaaDoor
