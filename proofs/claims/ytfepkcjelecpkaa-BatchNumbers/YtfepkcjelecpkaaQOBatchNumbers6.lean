/-
  Slices of ints, and rows of slices that a call owns.
-/
import Derived.Test.YtfepkcjelecpkaaQC7
import Derived.Test.YtfepkcjelecpkaaQOBatchNumbers5
namespace Go.Proofs.Ytfepkcjelecpkaa
open Go.ChangeShapes Go.WideShapes Go.ChangeAt Go.RowKit
open Go.Deep
section
variable {H : Type} {enc : TypeId × Value → H} {w : World}
end
theorem Try.infoSl : (Try.prog.info? 28).map (fun i => (i.zero, i.size, i.bytes)) = some (some (.slice none 0 0), 1, 24) := by kernel_rfl
/-- append of slices that lie in a block of their own, onto such a row. -/
theorem wpList_append_rowv {w : World} {ops : Array Oper} {rest : List Oper} {o : Oper} {a : Act} {Q : Exit → Act → World → Prop} (hgd : o.guard = none) (s x : Operand)
    (ho : o.op = .call { callee := .builtin .append, args := #[s, x], argTypes := #[36, 36] }) (base : Nat) (v : Value) (xs : List Value) (hs : a.eval s = v) (hrow : RowV w base v xs)
    (ad : Addr) (c : Nat) (ys : List Value) (hx : a.eval x = .slice (some ad) ys.length c) (hy : ∀ j u, ys[j]? = some u → w.cell? (ad.add j) = some u) (h1 : ∀ u ∈ ys, u.oneCell' = true) (hb : xs.length + ys.length ≤ 1000000000) (hbase : base ≤ w.heap.size)
    (h : ∀ ao m c w', RowV w' base (.slice ao m c) (xs ++ ys) → RStep w v w' (.slice ao m c) → wpList Try.prog ops Q rest (a.put o.dst (.slice ao m c)) w') : wpList Try.prog ops Q (o :: rest) a w := by
  obtain ⟨i0, hi0, hz0, hz1, hz2⟩ := info_parts Try.infoSl
  obtain ⟨av, cv, rfl⟩ := hrow.shape
  refine wpList_append_own_at w hgd s x 36 ho base 28 i0 (.slice none 0 0) 1 24 Try.underlying36 hi0 hz0 hz1 hz2 rfl (by decide) _ xs.length xs hs hrow ad ys.length c ys hx (by simp) hy h1 (by unfold maxLen; omega) (by omega) hbase ?_
  intro v' w1 hown hgrow _ hat
  have R : RowV w1 base v' (xs ++ ys) := by unfold RowV; rw [List.length_append]; exact hown
  obtain ⟨ao', c', hv⟩ := R.shape
  subst hv
  refine h ao' _ c' w1 R ⟨(Kp.refl _ w).grown hgrow (fun k hk => .inl (by simp [hk])), fun k hk => ?_⟩
  rcases hat with e | e
  · exact .inl (e ▸ hk)
  · rw [e] at hk; cases hk; exact .inr (Nat.le_refl _)
end Go.Proofs.Ytfepkcjelecpkaa

/-
  Lists of one and of two; rows of slices of a call's own, how they grow.
-/
namespace Go.Proofs.Ytfepkcjelecpkaa
open Go.RowKit
open Go.Proofs
theorem lists2 {w : World} {v u : Value} {bs cs : List Int} (h : Sl w v bs) (hB : Bs bs) (k : Sl w u cs) (hC : Bs cs) : Lists (w.alloc (.cells #[v, u] 28)) (.slice (some ⟨w.heap.size, 0, none⟩) 2 2) [(v, bs), (u, cs)] :=
  lists_of_block (l := [(v, bs), (u, cs)]) (t := 28) (fr := (0, 0)) (heap_alloc_new w _) (by simp) (fun x hx => by
    rcases (by simpa using hx : x = (v, bs) ∨ x = (u, cs)) with rfl | rfl
    · exact ⟨h.kept ((Kp.refl [] w).alloc _) (by simp), hB⟩
    · exact ⟨k.kept ((Kp.refl [] w).alloc _) (by simp), hC⟩)
/-- a slice is put in at place p. -/
theorem RowS.set {w : World} {base g n c : Nat} {l : List (Value × List Int)} (h : RowS w base (.slice (some ⟨g, 0, none⟩) n c) l) (p : Nat) (x : Value × List Int) (hx : Sl w x.1 x.2) (hB : Bs x.2) (ha : x.1.ownBlock = some g → x.2 = []) :
    RowS (w.setCell ⟨g, p, none⟩ x.1) base (.slice (some ⟨g, 0, none⟩) n c) (l.set p x) := by
  have k : Kp [g] w (w.setCell ⟨g, p, none⟩ x.1) := (Kp.refl [g] w).setCell (p := ⟨g, p, none⟩) (.inl (by simp)) _
  have hn : n = l.length := by have := h.1.len; simpa using this
  refine ⟨?_, fun y hy => ?_⟩
  · have e : (l.map (·.1)).length = n := by simp [hn]
    have h1 : w.ownsRow base 28 1 (.slice (some ⟨g, 0, none⟩) n c) n (l.map (·.1)) := by have := h.1; unfold RowV at this; rw [e] at this; exact this
    have h2 := (h1.stored p x.1).1
    unfold RowV
    rw [List.map_set, List.length_set, e]
    exact h2
  · rcases List.mem_or_eq_of_mem_set hy with hy | rfl
    · obtain ⟨h1, h2, h3⟩ := h.2 y hy
      exact ⟨h1.apart k (fun i hi hm => h3 i hi (by simp at hm; subst hm; rfl)), h2, h3⟩
    · exact ⟨hx.apart k (fun i hi hm => ha (by simp at hm; subst hm; exact hi)), hB, fun i hi hv => ha (by cases hv; exact hi)⟩
end Go.Proofs.Ytfepkcjelecpkaa
