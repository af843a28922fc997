/-
  An agenda in memory: its queue and its number; (*queue).Push.
-/
import Derived.Test.YtlmbheobaiibeaaQHeapB
import Derived.Deep.RegionLaw
namespace Go.Proofs.Ytlmbheobaiibeaa
open Go.RowKit Go.Sort Go.Lib

theorem Try.infoEn : (Try.prog.info? 53).map (fun i => (i.zero, i.size, i.bytes)) = some (some (.agg #[.int .i64 0, .int .i64 0, .int .i64 0]), 3, 24) := by kernel_rfl
/-- An agenda's memory: the block p holds the slice v and the number k; v owns the entries d. -/
structure Qs (w : World) (p : Nat) (v : Value) (d : Array En) (k : Int) : Prop where
  blk : w.heap[p]? = some (.cells #[v, .int .i64 k] 49 (0, 0))
  own : w.ownsRow (p + 1) 53 3 v d.size (flat d)
/-- One step of an agenda: besides its block and its row nothing old was changed; its row is the old one, or new. -/
def Ste (p : Nat) (w : World) (v : Value) (w' : World) (v' : Value) : Prop :=
  Kp (p :: v.ownBlock.toList) w w' ∧ ∀ k, v'.ownBlock = some k → v.ownBlock = some k ∨ w.heap.size ≤ k
theorem Ste.refl (p : Nat) (w : World) (v : Value) : Ste p w v w v := ⟨Kp.refl _ _, fun _ h => .inl h⟩
theorem Ste.trans {p : Nat} {a b c : World} {u v x : Value} (h : Ste p a u b v) (k : Ste p b v c x) : Ste p a u c x := by
  refine ⟨h.1.then k.1 (fun i hi => ?_), fun i hi => ?_⟩
  · simp only [List.mem_cons, Option.mem_toList] at hi ⊢
    rcases hi with rfl | hi
    · exact .inl (.inl rfl)
    · rcases h.2 i hi with h1 | h1
      · exact .inl (.inr h1)
      · exact .inr h1
  · rcases k.2 i hi with h1 | h1
    · exact h.2 i h1
    · exact .inr (Nat.le_trans h.1.size h1)
section
variable {w w' : World} {p : Nat} {v : Value} {d : Array En} {k : Int}
theorem Qs.cell (h : Qs w p v d k) : w.cell? ⟨p, 0, none⟩ = some v := by rw [cell_of_row w p 0 _ _ (0, 0) h.blk]; rfl
theorem Qs.cell1 (h : Qs w p v d k) : w.cell? ⟨p, 1, none⟩ = some (.int .i64 k) := by rw [cell_of_row w p 1 _ _ (0, 0) h.blk]; rfl
theorem Qs.free (h : Qs w p v d k) (j : Nat) : w.frozen? ⟨p, j, none⟩ = false := frozen_of_row w p j _ _ h.blk
theorem Qs.lt (h : Qs w p v d k) : p < w.heap.size := (Array.getElem?_eq_some_iff.1 h.blk).1
theorem Qs.ne (h : Qs w p v d k) : v.ownBlock ≠ some p := fun e => by have := h.own.lt p e; omega
theorem Qs.kept (h : Qs w p v d k) {S : List Nat} (q : Kp S w w') (hp : p ∉ S) (hv : ∀ i, v.ownBlock = some i → i ∉ S) : Qs w' p v d k := ⟨q.heap h.blk hp, q.owns h.own hv⟩
theorem Qs.keptN (h : Qs w p v d k) (q : Kp [] w w') : Qs w' p v d k := h.kept q (by simp) (by simp)
theorem Qs.ro {g n cap : Nat} (h : Qs w p (.slice (some ⟨g, 0, none⟩) n cap) d k) : d.size = n ∧ Ro g cap n w d ∧ p < g := by
  have hn : d.size = n := by
    rcases h.own.2 with ⟨h0, _⟩ | ⟨g', cap', cur, hv, _⟩
    · cases h0
    · cases hv; rfl
  have hg := (h.own.lt g rfl).1
  refine ⟨hn, ⟨hn, ?_⟩, by omega⟩
  have := h.own
  rw [hn] at this
  exact owns_rebase this (fun _ _ => Nat.zero_le _)
/-- A walk over its row alone. -/
theorem Qs.of_st {g n cap : Nat} {d' : Array En} (h : Qs w p (.slice (some ⟨g, 0, none⟩) n cap) d k) (s : St g cap n w w' d') : Qs w' p (.slice (some ⟨g, 0, none⟩) n cap) d' k ∧ Ste p w (.slice (some ⟨g, 0, none⟩) n cap) w' (.slice (some ⟨g, 0, none⟩) n cap) := by
  obtain ⟨_, _, hpg⟩ := h.ro
  refine ⟨⟨s.kp.heap h.blk (by simp; omega), ?_⟩, ?_, fun _ e => .inl e⟩
  · rw [s.ro.size]
    exact owns_rebase s.ro.own (fun i hi => by simp [Value.ownBlock] at hi; subst hi; omega)
  · exact s.kp.mono (fun i hi => by simp at hi; subst hi; simp [Value.ownBlock])
end
theorem flat_push (d : Array En) (e : En) : flat (d.push e) = flat d ++ e.cells := by unfold flat; simp
theorem setCell_two {w : World} {p : Nat} {a b u : Value} {t : TypeId} (h : w.heap[p]? = some (.cells #[a, b] t (0, 0))) : (w.setCell ⟨p, 0, none⟩ u).heap[p]? = some (.cells #[u, b] t (0, 0)) := by
  have := heap_setCell_same w p 0 _ t u h
  simpa using this
theorem setCell_two1 {w : World} {p : Nat} {a b u : Value} {t : TypeId} (h : w.heap[p]? = some (.cells #[a, b] t (0, 0))) : (w.setCell ⟨p, 1, none⟩ u).heap[p]? = some (.cells #[a, u] t (0, 0)) := by
  have := heap_setCell_same w p 1 _ t u h
  simpa using this

/-- behind an append and the store of its slice. -/
theorem qs_step {wr w0 w1 : World} {p g cap n : Nat} {v : Value} {d : Array En} {k : Int} {e : En} (h : Qs wr p v d k) (hn : d.size = n) (h0 : Kp [] wr w0)
    (hown : w1.ownsRow (p + 1) 53 3 (.slice (some ⟨g, 0, none⟩) (n + 1) cap) (n + 1) (flat d ++ e.cells))
    (hgrow : w0.grownBy w1 v.ownBlock) (hat : v.ownBlock = some g ∨ wr.heap.size ≤ g) :
    Qs (w1.setCell ⟨p, 0, none⟩ (.slice (some ⟨g, 0, none⟩) (n + 1) cap)) p (.slice (some ⟨g, 0, none⟩) (n + 1) cap) (d.push e) k ∧
      Ste p wr v (w1.setCell ⟨p, 0, none⟩ (.slice (some ⟨g, 0, none⟩) (n + 1) cap)) (.slice (some ⟨g, 0, none⟩) (n + 1) cap) := by
  have h1 : w1.heap[p]? = some (.cells #[v, .int .i64 k] 49 (0, 0)) := by
    rw [hgrow.block p (Nat.lt_of_lt_of_le h.lt h0.size) (Ne.symm h.ne)]
    exact h0.heap h.blk (by simp)
  refine ⟨⟨setCell_two h1, ?_⟩, ?_, ?_⟩
  · have := ownsRow_setCell_below hown (a := ⟨p, 0, none⟩) (by simp) (.slice (some ⟨g, 0, none⟩) (n + 1) cap)
    rw [flat_push, Array.size_push, hn]
    exact this
  · have k1 : Kp (p :: v.ownBlock.toList) wr w0 := h0.mono (by simp)
    have k2 := k1.grown hgrow (fun k hk => .inl (by simp [hk]))
    exact k2.setCell (p := ⟨p, 0, none⟩) (.inl (by simp)) _
  · intro k hk
    simp only [Value.ownBlock, Option.some.injEq] at hk
    subst hk
    exact hat

theorem assert_entry (x : Value) (w : World) : Sem.run Try.prog (Instr.typeAssert (.iface 53 x) 20 53 false) w = .ok x w := by kernel_rfl
set_option maxHeartbeats 1000000 in
theorem qpush_any (p : Nat) (v : Value) (d : Array En) (k : Int) (e : En) (w : World) (h : Qs w p v d k) (hb : d.size ≤ 1000000) :
    Calls Try.prog 70 #[.pointer (some ⟨p, 0, none⟩), .iface 53 (.agg #[.int .i64 e.at_, .int .i64 e.num, .int .i64 e.what])] w fun x w' => x = .returned (.tuple #[]) ∧ ∃ g cap, Qs w' p (.slice (some ⟨g, 0, none⟩) (d.size + 1) cap) (d.push e) k ∧ Ste p w v w' (.slice (some ⟨g, 0, none⟩) (d.size + 1) cap) := by
  obtain ⟨i0, hi0, hz0, hz1, hz2⟩ := info_parts Try.infoEn
  have hc := h.cell
  have hf := h.free 0
  have hown := h.own
  have hlt := h.lt
  have hfa : ∀ o, (w.alloc o).frozen? ⟨p, 0, none⟩ = false := fun o => by rw [World.frozen?_alloc_old _ _ _ (by simp; omega)]; exact hf
  have hca : ∀ o, (w.alloc o).cell? ⟨p, 0, none⟩ = some v := fun o => (World.cell?_alloc_lt _ _ _ (by exact hlt)).trans hc
  have hne := h.ne
  have hta := assert_entry (.agg #[.int .i64 e.at_, .int .i64 e.num, .int .i64 e.what])
  have H := hide h
  obtain ⟨n, hn⟩ : ∃ n, d.size = n := ⟨_, rfl⟩
  rw [hn] at hown ⊢
  have HN := hide hn
  have hb' : n ≤ 1000000 := by omega
  clear h hn hb
  go_enter Try.func70, Try.ntmps70
  go_wp2
  go_region_law ((refine step_append_lies _ (by rfl) _ _ _ (by rfl) (p + 1) 53 i0 _ 3 24 (by kernel_rfl) hi0 hz0 hz1 hz2 rfl (by omega) v _ _ (by rfl) ((hown.alloc _).drew) ⟨w.heap.size, 0, none⟩ 1 1 [.int .i64 e.at_, .int .i64 e.num, .int .i64 e.what] (by rfl) (by rfl) (World.news_of_block (cs := #[.int .i64 e.at_, .int .i64 e.num, .int .i64 e.what]) (t := 53) (fr := (0, 0)) (heap_alloc_new w _)) (by simp [Value.oneCell']) (by omega) (by unfold maxLen; omega) (by omega) (by simp; omega) (w.heap.size + 1) (by simp) ?_; intro gg cap w1 hown1 hgrow hat hltg; have hc1 : w1.cell? ⟨p, 0, none⟩ = some v := (by rw [hgrow.cell_far _ (by simp; omega) (Ne.symm hne)]; simpa using hca _); have hf1 : w1.frozen? ⟨p, 0, none⟩ = false := (by rw [hgrow.frozen_far _ (by simp; omega) (Ne.symm hne)]; simpa using hfa _)))
  all_goals
    have R := qs_step (e := e) H.out HN.out (((Kp.refl [] w).alloc _).drew) hown1 hgrow (hat.imp id (fun e => by omega))
    clear hown1 hgrow hat hltg hown hc hf hfa hca hne hc1 hf1
    go_wp2
    go_end0
    exact ⟨rfl, _, _, R.1, R.2⟩
end Go.Proofs.Ytlmbheobaiibeaa
