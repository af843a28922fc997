/-
  Lists of slices with the room behind them told: how they are cut.
-/
import Derived.Test.YtphhofgjnlfjmaaDoorKLMore
namespace Go.Proofs.YtphhofgjnlfjmaaDoor
open Go.RowKit

/-- v is a slice of slices that reads so; its room is no less than its length. -/
def Lc (w : World) (v : Value) (l : List (Value × List Int)) : Prop :=
  Lists w v l ∧ ∃ ao c, v = .slice ao l.length c ∧ l.length ≤ c ∧ c ≤ maxLen ∧ (ao = none → c = 0)
theorem Lc.kept {w w' : World} {v : Value} {l : List (Value × List Int)} (h : Lc w v l) (k : Kp [] w w') : Lc w' v l := ⟨h.1.kept k, h.2⟩
theorem lc_nil (w : World) : Lc w (.slice none 0 0) [] := ⟨lists_nil w none 0, none, 0, rfl, by simp, by simp, fun _ => rfl⟩
theorem Lc.take {w : World} {ao : Option Addr} {len c : Nat} {l : List (Value × List Int)} (h : Lc w (.slice ao len c) l) (n : Nat) (hn : n ≤ l.length) : Lc w (.slice ao n c) (l.take n) := by
  obtain ⟨h1, ao', c', e, h2, h3, h4⟩ := h
  cases e
  have hl : (l.take n).length = n := by simp; omega
  exact ⟨h1.take hn, ao, c, by rw [hl], by omega, h3, h4⟩
theorem Lc.drop {w : World} {ao : Option Addr} {len c : Nat} {l : List (Value × List Int)} (h : Lc w (.slice ao len c) l) (n : Nat) (hn : n ≤ l.length) :
    Lc w (.slice (if c = n then ao else ao.map (·.add n)) (len - n) (c - n)) (l.drop n) := by
  obtain ⟨⟨_, _, _, g1, g2⟩, ao', c', e, h2, h3, h4⟩ := h
  rename_i x1 x2 x3
  cases e
  cases x3
  have hl : (l.drop n).length = l.length - n := by simp
  refine ⟨⟨_, c - n, by rw [hl], by omega, fun i hi => ?_⟩, _, c - n, by rw [hl], by omega, by omega, fun ha => ?_⟩
  · have hi2 : n + i < l.length := by omega
    obtain ⟨b, off, e, h5, h6, h7⟩ := g2 (n + i) hi2
    subst e
    have e2 : (l.drop n)[i] = l[n + i] := by simp
    rw [e2, if_neg (by omega)]
    exact ⟨b, off + n, by simp [Addr.add_lit], by rw [Nat.add_assoc]; exact h5, h6, h7⟩
  · split at ha
    · omega
    · cases hao : ao with
      | none => have := h4 hao; omega
      | some x => rw [hao] at ha; cases ha
theorem Lc.span {w : World} {ao : Option Addr} {len c : Nat} {l : List (Value × List Int)} (h : Lc w (.slice ao len c) l) (i k : Nat) (hi : i ≤ k) (hk : k ≤ l.length) :
    Lc w (.slice (if c = i then ao else ao.map (·.add i)) (k - i) (c - i)) ((l.drop i).take (k - i)) :=
  Lc.take (h.drop i (by omega)) (k - i) (by simp; omega)
theorem Lc.shape {w : World} {v : Value} {l : List (Value × List Int)} (h : Lc w v l) : ∃ ao c, v = .slice ao l.length c ∧ l.length ≤ c ∧ c ≤ 9223372036854775807 ∧ (ao = none → c = 0) := by
  obtain ⟨_, ao, c, e, h2, h3, h4⟩ := h
  exact ⟨ao, c, e, h2, by unfold maxLen at h3; omega, h4⟩
theorem lc_of_owns {w : World} {base : Nat} {v : Value} {l : List (Value × List Int)} (h : RowV w base v (l.map (·.1))) (hL : Lists w v l) : Lc w v l := by
  refine ⟨hL, ?_⟩
  rcases h.2 with ⟨rfl, h0⟩ | ⟨g, cap, cur, rfl, _, hg, hc, hm, _⟩
  · have : l.length = 0 := by simpa using h0
    exact ⟨none, 0, by rw [this], by omega, by simp, fun _ => rfl⟩
  · exact ⟨some ⟨g, 0, none⟩, cap, by simp, by simpa using hc, hm, fun h => by cases h⟩
theorem Acc.lc {w wr : World} {ls : List (List Int)} {v : Value} (h : Acc w ls v wr) (hl : ls.length ≤ 1000) : ∃ l, Lc wr v l ∧ l.map (·.2) = ls := by
  obtain ⟨l, h1, h2, _⟩ := h
  exact ⟨l, lc_of_owns h1.1 (h1.lists (by rw [← List.length_map (f := (·.2)), h2]; exact hl)), h2⟩
theorem FewAt.lc {w wr : World} {l : List (Value × List Int)} {most k : Nat} {o : Value} (h : FewAt w wr l most k o) (hB : ∀ x ∈ l, Bs x.2) (hk : k ≤ 1000) : ∃ l', Lc wr o l' ∧ l'.map (·.2) = (l.take k).map fun x => x.2.take most := by
  obtain ⟨l1, h1, e1⟩ := h.lists hB hk
  refine ⟨l1, ?_, e1⟩
  obtain ⟨l', rfl, ho, hK, hS, he⟩ := h
  have hll : l1.length = l'.length := by rw [← List.length_map (f := (·.2)), e1, ← he]; simp
  refine ⟨h1, ?_⟩
  rcases ho.2 with ⟨rfl, h0⟩ | ⟨g, cap, cur, rfl, _, hg, hc, hm, _⟩
  · exact ⟨none, 0, by rw [hll, h0], by omega, by simp, fun _ => rfl⟩
  · exact ⟨some ⟨g, 0, none⟩, cap, by rw [hll], by omega, hm, fun h => by cases h⟩

theorem run_lhead (ao : Option Addr) (n c k : Nat) (w : World) (h2 : k ≤ c) :
    (Instr.sliceAt 22 (.slice ao n c) none (some (.int .i64 k)) none).run Tryd.prog w = .ok (.slice ao k c) w := by
  have e3 : (k : Int) ≤ (c : Int) := by omega
  simp [go_sem, e3]
theorem run_lspan (ao : Option Addr) (n c p k : Nat) (w : World) (h1 : p ≤ k) (h2 : k ≤ c) (h4 : ao = none → c = 0) :
    (Instr.sliceAt 22 (.slice ao n c) (some (.int .i64 p)) (some (.int .i64 k)) none).run Tryd.prog w = .ok (.slice (if c = p then ao else ao.map (·.add p)) (k - p) (c - p)) w := by
  have e1 : (0 : Int) ≤ (p : Int) := by omega
  have e2 : (p : Int) ≤ (k : Int) := by omega
  have e3 : (k : Int) ≤ (c : Int) := by omega
  by_cases hc : c = p
  · rw [if_pos hc]
    subst hc
    simp [go_sem, e2, e3]
  · rw [if_neg hc]
    cases ao with
    | none => have := h4 rfl; omega
    | some a => simp [go_sem, e2, e3, hc]
theorem run_lfrom (ao : Option Addr) (n c p : Nat) (w : World) (h1 : p ≤ n) (h2 : n ≤ c) (h4 : ao = none → c = 0) :
    (Instr.sliceAt 22 (.slice ao n c) (some (.int .i64 p)) none none).run Tryd.prog w = .ok (.slice (if c = p then ao else ao.map (·.add p)) (n - p) (c - p)) w := by
  have e2 : (p : Int) ≤ (n : Int) := by omega
  by_cases hc : c = p
  · rw [if_pos hc]
    subst hc
    simp [go_sem, e2]
  · rw [if_neg hc]
    cases ao with
    | none => have := h4 rfl; omega
    | some a => simp [go_sem, e2, hc]
end Go.Proofs.YtphhofgjnlfjmaaDoor
