/-
  A range in memory; the contracts of New, Size, add, takeLast, copyOf.
-/
import Derived.Test.YtiabccgabbdedaaDoorKCBits
import Derived.Test.YtiabccgabbdedaaDoorKTGrow
import Derived.Test.YtiabccgabbdedaaDoorKTNode
import Derived.Test.YtiabccgabbdedaaDoorKLSpot
namespace Go.Proofs.YtiabccgabbdedaaDoor
open Go.RowKit
open Go.Proofs

/-- append of slices that lie in a block of their own, onto such a row, by whatever name its type has. -/
theorem wpList_append_rowt {w : World} {ops : Array Oper} {rest : List Oper} {o : Oper} {a : Act} {Q : Exit → Act → World → Prop} (hgd : o.guard = none) (s x : Operand) (t : TypeId) (ht : Tryd.prog.underlying t = some (.slice 28))
    (ho : o.op = .call { callee := .builtin .append, args := #[s, x], argTypes := #[t, t] }) (base : Nat) (v : Value) (xs : List Value) (hs : a.eval s = v) (hrow : RowV w base v xs)
    (ad : Addr) (c : Nat) (ys : List Value) (hx : a.eval x = .slice (some ad) ys.length c) (hy : ∀ j u, ys[j]? = some u → w.cell? (ad.add j) = some u) (h1 : ∀ u ∈ ys, u.oneCell' = true) (hb : xs.length + ys.length ≤ 1000000000) (hbase : base ≤ w.heap.size)
    (h : ∀ ao m c w', RowV w' base (.slice ao m c) (xs ++ ys) → RStep w v w' (.slice ao m c) → wpList Tryd.prog ops Q rest (a.put o.dst (.slice ao m c)) w') : wpList Tryd.prog ops Q (o :: rest) a w := by
  obtain ⟨i0, hi0, hz0, hz1, hz2⟩ := info_parts Tryd.infoSl
  obtain ⟨av, cv, rfl⟩ := hrow.shape
  refine wpList_append_own_at w hgd s x t ho base 28 i0 (.slice none 0 0) 1 24 ht hi0 hz0 hz1 hz2 rfl (by decide) _ xs.length xs hs hrow ad ys.length c ys hx (by simp) hy h1 (by unfold maxLen; omega) (by omega) hbase ?_
  intro v' w1 hown hgrow _ hat
  have R : RowV w1 base v' (xs ++ ys) := by unfold RowV; rw [List.length_append]; exact hown
  obtain ⟨ao', c', hv⟩ := R.shape
  subst hv
  refine h ao' _ c' w1 R ⟨(Kp.refl _ w).grown hgrow (fun k hk => .inl (by simp [hk])), fun k hk => ?_⟩
  rcases hat with e | e
  · exact .inl (e ▸ hk)
  · rw [e] at hk; cases hk; exact .inr (Nat.le_refl _)

theorem pair_setCell {w : World} {p : Nat} {a b u : Value} {t : TypeId} (h : w.heap[p]? = some (.cells #[a, b] t (0, 0))) : (w.setCell ⟨p, 0, none⟩ u).heap[p]? = some (.cells #[u, b] t (0, 0)) ∧ (w.setCell ⟨p, 1, none⟩ u).heap[p]? = some (.cells #[a, u] t (0, 0)) := by
  have hlt := (Array.getElem?_eq_some_iff.1 h).1
  have h' : w.heap[p] = .cells #[a, b] t (0, 0) := by simpa [Array.getElem?_eq_getElem hlt] using h
  constructor
  · show (w.heap.modify p _)[p]? = _
    rw [Array.getElem?_eq_getElem (by simpa using hlt), Array.getElem_modify_self, h']
    rfl
  · show (w.heap.modify p _)[p]? = _
    rw [Array.getElem?_eq_getElem (by simpa using hlt), Array.getElem_modify_self, h']
    rfl
theorem setCell_size (w : World) (p : Addr) (u : Value) : (w.setCell p u).heap.size = w.heap.size := by simp [World.setCell]

/-- The range at p: how many leaves, its row of nodes, each with its bytes. -/
structure Rg (w : World) (base p : Nat) (v : Value) (n : Nat) (l : List (Value × List Int)) : Prop where
  here : w.heap[p]? = some (.cells #[.int .u64 n, v] 49 (0, 0))
  low : 3 ≤ p
  parts : Parts w base v l
/-- the blocks that a step of the range may write. -/
def rfp (p : Nat) (v : Value) : List Nat := p :: v.ownBlock.toList
section
variable {w w' : World} {base p n : Nat} {v : Value} {l : List (Value × List Int)}
theorem Rg.lt (h : Rg w base p v n l) : p < w.heap.size := (Array.getElem?_eq_some_iff.1 h.here).1
theorem Rg.cell0 (h : Rg w base p v n l) : w.cell? ⟨p, 0, none⟩ = some (.int .u64 n) := by
  rw [cell_of_row w p 0 _ _ _ h.here]; rfl
theorem Rg.cell1 (h : Rg w base p v n l) : w.cell? ⟨p, 1, none⟩ = some v := by
  rw [cell_of_row w p 1 _ _ _ h.here]; rfl
theorem Rg.frz (h : Rg w base p v n l) (i : Nat) : w.frozen? ⟨p, i, none⟩ = false := by
  unfold World.frozen?
  simp [h.here]
theorem rowv_type {xs : List Value} (h : RowV w base v xs) {k : Nat} (hk : v.ownBlock = some k) : ∃ c, w.heap[k]? = some (.cells c 28 (0, 0)) := by
  rcases h.2 with ⟨rfl, _⟩ | ⟨g, cap, cur, rfl, hb, hg, _⟩
  · cases hk
  · cases hk; exact ⟨_, hg⟩
theorem row_type {bs : List Int} (h : Row w base v bs) {k : Nat} (hk : v.ownBlock = some k) : ∃ c, w.heap[k]? = some (.cells c 5 (0, 0)) := by
  rcases h.2 with ⟨rfl, _⟩ | ⟨g, cap, cur, rfl, hb, hg, _⟩
  · cases hk
  · cases hk; exact ⟨_, hg⟩
theorem Rg.apart (h : Rg w base p v n l) : v.ownBlock ≠ some p := fun e => by
  obtain ⟨c, hc⟩ := rowv_type h.parts.1 e
  rw [h.here] at hc
  injection hc with h1
  injection h1 with _ h2
  cases h2
theorem Rg.nodeApart (h : Rg w base p v n l) {x : Value × List Int} (hx : x ∈ l) : x.1.ownBlock ≠ some p := fun e => by
  obtain ⟨c, hc⟩ := row_type (h.parts.2 x hx).1 e
  rw [h.here] at hc
  injection hc with h1
  injection h1 with _ h2
  cases h2
theorem Rg.keptN (h : Rg w base p v n l) (k : Kp [] w w') : Rg w' base p v n l := ⟨k.heap h.here (by simp), h.low, h.parts.kept k⟩
/-- as long as neither its block nor its row's nor one of bytes is written. -/
theorem Rg.kept {S : List Nat} (h : Rg w base p v n l) (k : Kp S w w') (h1 : p ∉ S) (h2 : ∀ i, v.ownBlock = some i → i ∉ S) (h3 : ∀ i ∈ S, ∀ c, w.heap[i]? ≠ some (.cells c 5 (0, 0))) : Rg w' base p v n l :=
  ⟨k.heap h.here h1, h.low, h.parts.1.kept k h2, fun x hx => ⟨(h.parts.2 x hx).1.kept k (fun i hi hm => by
    obtain ⟨c, hc⟩ := row_type (h.parts.2 x hx).1 hi
    exact h3 i hm c hc), (h.parts.2 x hx).2⟩⟩
theorem Rg.own (h : Rg w base p v n l) : ∀ i ∈ rfp p v, i = p ∨ base ≤ i := by
  intro i hi
  simp only [rfp, List.mem_cons, Option.mem_toList] at hi
  rcases hi with rfl | hi
  · exact .inl rfl
  · exact .inr (h.parts.1.own i hi)
theorem Rg.gn (h : Rg w base p v n l) (hg : 3 ≤ base) : ∀ i ∈ rfp p v, 3 ≤ i := by
  intro i hi
  rcases h.own i hi with rfl | hi
  · exact h.low
  · exact Nat.le_trans hg hi
theorem Rg.shape (h : Rg w base p v n l) : ∃ ao c, v = .slice ao l.length c := by
  obtain ⟨ao, c, e⟩ := h.parts.1.shape
  exact ⟨ao, c, by rw [e]; simp⟩
end
/-- a step of a range. -/
def RgS (p : Nat) (w : World) (v : Value) (w' : World) (v' : Value) : Prop := Kp (rfp p v) w w' ∧ ∀ k, v'.ownBlock = some k → v.ownBlock = some k ∨ w.heap.size ≤ k
theorem RgS.refl (p : Nat) (w : World) (v : Value) : RgS p w v w v := ⟨Kp.refl _ _, fun _ h => .inl h⟩
theorem RgS.trans {p : Nat} {a b c : World} {u v x : Value} (h : RgS p a u b v) (k : RgS p b v c x) : RgS p a u c x := by
  refine ⟨h.1.then k.1 (fun i hi => ?_), fun i hi => ?_⟩
  · simp only [rfp, List.mem_cons, Option.mem_toList] at hi ⊢
    rcases hi with rfl | hi
    · exact .inl (.inl rfl)
    · rcases h.2 i hi with h1 | h1
      · exact .inl (.inr h1)
      · exact .inr h1
  · rcases k.2 i hi with h1 | h1
    · exact h.2 i h1
    · exact .inr (Nat.le_trans h.1.size h1)
theorem RgS.mid {p : Nat} {a b : World} (v : Value) (k : Kp [] a b) : RgS p a v b v := ⟨k.mono (by simp), fun _ h => .inl h⟩
theorem RgS.new {p : Nat} {w0 w w' : World} {v v' : Value} (h : RgS p w v w' v') (k : Kp [p] w0 w) (ho : ∀ i ∈ rfp p v, i = p ∨ w0.heap.size ≤ i) : Kp [p] w0 w' := k.then h.1 (fun i hi => (ho i hi).imp (fun e => by simp [e]) id)
theorem Kp.shed {p : Nat} {w w' : World} (k : Kp [p] w w') (h : w.heap.size ≤ p) : Kp [] w w' := (Kp.refl [] w).then k (fun i hi => .inr (by simp at hi; omega))
theorem RgS.gl {p : Nat} {w w' : World} {v v' : Value} (h : RgS p w v w' v') (hG : Gl w) (ho : ∀ i ∈ rfp p v, 3 ≤ i) : Gl w' := hG.kept h.1 ho
theorem rowv_pop {w : World} {base g c : Nat} {xs : List Value} {x : Value} (h : RowV w base (.slice (some ⟨g, 0, none⟩) (xs.length + 1) c) (xs ++ [x])) (u : Value) : RowV (w.setCell ⟨g, xs.length, none⟩ u) base (.slice (some ⟨g, 0, none⟩) xs.length c) xs := by
  have e : (xs ++ [x]).length = xs.length + 1 := by simp
  have h1 : w.ownsRow base 28 1 (.slice (some ⟨g, 0, none⟩) (xs.length + 1) c) (xs.length + 1) (xs ++ [x]) := by have := h; unfold RowV at this; rw [e] at this; exact this
  have h2 := (h1.stored xs.length u).1
  rcases h2.2 with ⟨h', _⟩ | ⟨g', cap, cur, h', hb, hg, hc, hm, hs, ht⟩
  · cases h'
  · cases h'
    refine ⟨by simp, .inr ⟨g, c, cur, rfl, hb, hg, by omega, hm, hs, ?_⟩⟩
    have e2 : (cur.toList.take ((xs.length + 1) * 1)).take (xs.length * 1) = cur.toList.take (xs.length * 1) := by
      rw [List.take_take]; congr 1; omega
    rw [← e2, ht, List.set_append_right _ _ (by omega)]
    simp

set_option maxHeartbeats 1000000 in
theorem copyOf_any (v : Value) (bs : List Int) (w : World) (hS : Sl w v bs) (hl : bs.length ≤ 1000000) :
    Calls Tryd.prog 27 #[v] w fun e w' => ∃ ao m c, e = .returned (.slice ao m c) ∧ Row w' w.heap.size (.slice ao m c) bs ∧ Kp [] w w' := by
  have ob := (Kp.refl [] w).alloc (.cells #[] 5)
  have HK := hide ob
  have HSw := hide (hS.kept ob (by simp))
  obtain ⟨ax, cx, hux, _⟩ := hS
  obtain ⟨nx, hnx⟩ : ∃ nx, nx = bs.length := ⟨_, rfl⟩
  rw [← hnx] at hux
  subst hux
  have hR0 : Hid (Row (w.alloc (.cells #[] 5)) w.heap.size (.slice (some ⟨w.heap.size, 0, none⟩) 0 0) []) := row_of_block (bs := []) (Nat.le_refl _) (heap_alloc_new w _) rfl (by simp [maxLen])
  clear ob hnx
  go_enter Tryd.func27, Tryd.ntmps27
  go_wp2_with (at_builtin; refine wpList_append_row rfl (.tmp 3) (.tmp 4) rfl w.heap.size _ _ rfl (unhide hR0) _ bs rfl (unhide HSw) (by simp; omega) (by simp) ?_; intro ao2 m2 c2 w2 r2 s2)
  go_ret
  exact ⟨ao2, m2, c2, rfl, by simpa using r2, (unhide hR0).step (unhide HK) s2⟩

theorem new_any (w : World) (hg : 3 ≤ w.heap.size) : Calls Tryd.prog 9 #[] w fun e w' => ∃ p, e = .returned (.pointer (some ⟨p, 0, none⟩)) ∧ (∀ base, Rg w' base p (.slice none 0 0) 0 []) ∧ Kp [] w w' ∧ w.heap.size ≤ p ∧ p < w'.heap.size := by
  go_enter Tryd.func9, Tryd.ntmps9
  go_wp2_with fail
  go_ret
  exact ⟨w.heap.size, rfl, fun base => ⟨heap_alloc_new w _, hg, World.ownsRow_nil _ _ _ _, fun x hx => by cases hx⟩, (Kp.refl [] w).alloc _, by simp⟩

theorem size_any (p : Nat) (v : Value) (n base : Nat) (l : List (Value × List Int)) (w : World) (h : Rg w base p v n l) (hn : n ≤ 9223372036854775807) :
    Calls Tryd.prog 17 #[.pointer (some ⟨p, 0, none⟩)] w fun e w' => e = .returned (.int .i64 (n : Nat)) ∧ w' = w := by
  have hc := h.cell0
  clear h
  go_enter Tryd.func17, Tryd.ntmps17
  go_wp2_with fail
  go_ret
  exact ⟨by simp, rfl⟩
end Go.Proofs.YtiabccgabbdedaaDoor
