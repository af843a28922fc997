/-
  Plain facts on lists of entries in the agenda's order.
-/
import Derived.Test.YtlmbheobaiibeaaQHeapP
namespace Go.Proofs.Ytlmbheobaiibeaa
open Go.Sort

/-- In the agenda's order, no two alike. -/
def Srt (m : List En) : Prop := m.Pairwise (fun a b => ltE a b = true)
/-- An entry put in behind all that are not after it. -/
def insE : List En → En → List En
  | [], e => [e]
  | x :: l, e => if ltE e x then e :: x :: l else x :: insE l e
theorem insE_perm (l : List En) (e : En) : (insE l e).Perm (e :: l) := by
  induction l with
  | nil => exact List.Perm.refl _
  | cons x l ih =>
    unfold insE
    split
    · exact List.Perm.refl _
    · exact (List.Perm.cons x ih).trans (List.Perm.swap e x l)
theorem lt_of_not {x e : En} (h : ltE e x = false) (hn : x.num < e.num) : ltE x e = true := by
  unfold ltE at *
  split at h <;> split <;> simp at * <;> omega
theorem insE_srt {l : List En} {e : En} (h : Srt l) (hn : ∀ x ∈ l, x.num < e.num) : Srt (insE l e) := by
  induction l with
  | nil => exact List.pairwise_singleton _ _
  | cons x l ih =>
    have h1 := List.pairwise_cons.1 h
    unfold insE
    split
    · rename_i he
      refine List.pairwise_cons.2 ⟨fun y hy => ?_, h⟩
      rcases List.mem_cons.1 hy with rfl | hy
      · exact he
      · exact swoE'.trans _ _ _ he (h1.1 y hy)
    · rename_i he
      refine List.pairwise_cons.2 ⟨fun y hy => ?_, ih h1.2 (fun z hz => hn z (List.mem_cons_of_mem _ hz))⟩
      have := (insE_perm l e).mem_iff.1 hy
      rcases List.mem_cons.1 this with rfl | hy'
      · exact lt_of_not (by simpa using he) (hn x (by simp))
      · exact h1.1 y hy'
theorem srt_lt {m : List En} (h : Srt m) (i j : Nat) (hij : i < j) (hj : j < m.length) : ltE m[i] m[j] = true := List.pairwise_iff_getElem.1 h i j (by omega) hj hij
/-- Two rows in order with the same entries are one. -/
theorem srt_unique {m l : List En} (h : Srt m) (hl : l.Pairwise (fun a b => ltE b a = false)) (hp : l.Perm m) : l = m := by
  have hm : m.Pairwise (fun a b => ltE b a = false) := h.imp (fun hab => swoE'.asym hab)
  have hu : ∀ a b : En, a ∈ m → b ∈ m → ltE a b = false → ltE b a = false → a = b := by
    intro a b ha hb h1 h2
    obtain ⟨i, hi, rfl⟩ := List.getElem_of_mem ha
    obtain ⟨j, hj, rfl⟩ := List.getElem_of_mem hb
    rcases Nat.lt_trichotomy i j with h3 | h3 | h3
    · rw [srt_lt h i j h3 hj] at h1; cases h1
    · subst h3; rfl
    · rw [srt_lt h j i h3 hi] at h2; cases h2
  exact List.Perm.eq_of_pairwise (le := fun a b => ltE b a = false) (fun a b ha hb h1 h2 => hu a b (hp.mem_iff.1 ha) hb h2 h1) hl hm hp
/-- The root of a heap is the first in order. -/
theorem root_head {d : Array En} {x : En} {l : List En} (h : Hp d d.size) (hp : d.toList.Perm (x :: l)) (hs : Srt (x :: l)) : 0 < d.size ∧ d[0]! = x := by
  have h0 : 0 < d.size := by
    have := hp.length_eq
    simp at this
    omega
  refine ⟨h0, ?_⟩
  have hmem : d[0]! ∈ x :: l := by
    rw [← hp.mem_iff]
    simp [h0]
  have hx : x ∈ d.toList := hp.mem_iff.2 (by simp)
  obtain ⟨i, hi, he⟩ := List.getElem_of_mem hx
  have hi' : i < d.size := by simpa using hi
  have hr := hp_root h i hi'
  have e : d[i]! = x := by rw [← he]; simp [hi']
  rw [e] at hr
  rcases List.mem_cons.1 hmem with h1 | h1
  · exact h1
  · have := (List.pairwise_cons.1 hs).1 _ h1
    rw [hr] at this
    cases this
theorem getE (l : List En) (i : Nat) (h : i < l.length) : l.toArray[i]! = l[i] := by simp [h]
/-- What is left behind heap.Pop. -/
theorem pop_left {d : Array En} {x : En} {l : List En} {m : Nat} (hm : d.size = m + 1) (h : Hp d d.size) (hp : d.toList.Perm (x :: l)) (hs : Srt (x :: l)) :
    Hp (siftDown gtE m 0 0 (swp d 0 m)).pop m ∧ (siftDown gtE m 0 0 (swp d 0 m)).pop.size = m ∧ (siftDown gtE m 0 0 (swp d 0 m)).pop.toList.Perm l := by
  have hsz : (swp d 0 m).size = m + 1 := by rw [size_swp]; exact hm
  have hother : ∀ k, 0 < k → k < m → (swp d 0 m)[k]! = d[k]! := fun k h1 h2 => swp_other d _ _ _ (by omega) (by omega)
  obtain ⟨r1, r2⟩ := down_root (d := swp d 0 m) (n := m) (by omega) (fun k h1 h2 h3 => by
    rw [hother k h1 h2, hother _ (by omega) (by omega)]
    exact h k h1 (by omega))
  obtain ⟨D, hD⟩ : ∃ D, D = siftDown gtE m 0 0 (swp d 0 m) := ⟨_, rfl⟩
  rw [← hD] at r1 r2 ⊢
  have hDs : D.size = m + 1 := by rw [r2.1]; exact hsz
  have hlast : D[m]! = x := by
    rw [r2.2.1 m (Or.inr (Nat.le_refl _))]
    by_cases h0 : m = 0
    · subst h0
      rw [swp_right d _ _ (by omega)]
      exact (root_head h hp hs).2
    · rw [swp_right d _ _ (by omega)]
      exact (root_head h hp hs).2
  have hget : ∀ k, k < m → D.pop[k]! = D[k]! := fun k hk => by
    have h1 : k < D.size := by omega
    have h2 : k < D.pop.size := by simp; omega
    rw [getElem!_pos D.pop k h2, getElem!_pos D k h1]
    simp
  refine ⟨fun k h1 h2 => ?_, by simp [hDs], ?_⟩
  · rw [hget k h2, hget _ (by omega)]
    exact r1 k h1 h2
  · have pw : D.toList.Perm d.toList := by
      have p1 : PermIn 0 (m + 1) d (swp d 0 m) := swp_permIn d 0 (m + 1) 0 m (by omega) (by omega) (by omega) (by omega) (by omega)
      have p2 : PermIn 0 (m + 1) (swp d 0 m) D := permIn_mono _ _ 0 m 0 (m + 1) (Nat.le_refl _) (by omega) (by omega) r2
      have p3 := permIn_trans _ _ _ _ _ p1 p2
      rw [← hm] at p3
      exact perm_all p3
    have e : D.toList = D.pop.toList ++ [x] := by
      have e1 : D.toList = D.toList.take m ++ [D[m]!] := by
        have := List.take_append_drop m D.toList
        have hd : D.toList.drop m = [D[m]!] := by
          rw [List.drop_eq_getElem_cons (by simp; omega)]
          simp [hDs]
        rw [hd] at this
        exact this.symm
      rw [e1, hlast]
      congr 1
      rw [Array.toList_pop, List.dropLast_eq_take, Array.length_toList, hDs]
      rfl
    rw [e] at pw
    have p4 : (x :: D.pop.toList).Perm (x :: l) := (List.perm_append_singleton x D.pop.toList).symm.trans (pw.trans hp)
    exact (List.perm_cons x).1 p4
theorem srt_filter {m : List En} (h : Srt m) (f : En → Bool) : Srt (m.filter f) := List.Pairwise.filter f h
end Go.Proofs.Ytlmbheobaiibeaa
