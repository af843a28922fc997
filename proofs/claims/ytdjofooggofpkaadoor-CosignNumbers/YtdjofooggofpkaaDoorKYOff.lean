/-
  What lies elsewhere stays, when a policy's place is changed.
-/
import Derived.Test.YtdjofooggofpkaaDoorKYOwn
import Derived.Test.YtdjofooggofpkaaDoorKYMix
namespace Go.Proofs.YtdjofooggofpkaaDoor
open Go.RowKit
open Go.Proofs
section
variable {w w' : World} {g : Nat} {a1 a2 : Option Addr} {n1 c1 n2 c2 : Nat} {q : Int} {t : TypeId} {fr : Nat × Nat}
theorem ckv_offP {v : Value} {n : Int} {r : List Int} (h : CkV w v n r) (hg : w.heap[g]? = some (.cells #[.slice a1 n1 c1, .slice a2 n2 c2, .int .i64 q] t fr)) (k : Kp [g] w w') : CkV w' v n r := by
  obtain ⟨a, m, c, e, h1, h2⟩ := h
  exact ⟨a, m, c, e, h1.offBy' (noBy_pol hg) k, h2⟩
theorem lists_offV {v : Value} {l : List (Value × List Int)} (h : Lists w v l) (hv : v.ownBlock ≠ some g) (hg : w.heap[g]? = some (.cells #[.slice a1 n1 c1, .slice a2 n2 c2, .int .i64 q] t fr)) (k : Kp [g] w w') : Lists w' v l := by
  obtain ⟨ao, c, rfl, h1, h2⟩ := h
  refine ⟨ao, c, rfl, h1, fun i hi => ?_⟩
  obtain ⟨b, off, e, h3, h4, h5⟩ := h2 i hi
  subst e
  exact ⟨b, off, rfl, k.cell h3 (fun hm => hv (congrArg some (show b = g by simpa using hm))), h4.offBy' (noBy_pol hg) k, h5⟩
theorem lc_offV {v : Value} {l : List (Value × List Int)} (h : Lc w v l) (hv : v.ownBlock ≠ some g) (hg : w.heap[g]? = some (.cells #[.slice a1 n1 c1, .slice a2 n2 c2, .int .i64 q] t fr)) (k : Kp [g] w w') : Lc w' v l := ⟨lists_offV h.1 hv hg k, h.2⟩
theorem lists_offP (hg : w.heap[g]? = some (.cells #[.slice a1 n1 c1, .slice a2 n2 c2, .int .i64 q] t fr)) (k : Kp [g] w w') {v : Value} {l : List (Value × List Int)} (h : Lists w v l) (hl : l = [] ∨ 3 ≤ l.length) : Lists w' v l := by
  by_cases hv : v.ownBlock = some g
  · obtain ⟨ao, c, rfl, h1, h2⟩ := h
    rcases hl with rfl | hl
    · exact ⟨ao, c, rfl, h1, fun i hi => by cases hi⟩
    · exfalso
      obtain ⟨b, off, e, -, -, -⟩ := h2 0 (by omega)
      subst e
      have hb : b = g := by simpa [Value.ownBlock] using hv
      subst hb
      have at' : ∀ j (hj : j < l.length), ∃ p q' r, (#[Value.slice a1 n1 c1, .slice a2 n2 c2, .int .i64 q])[off + j]? = some (.slice p q' r) := fun j hj => by
        obtain ⟨b', off', e', h3', h4', _⟩ := h2 j hj
        injection e' with e'
        injection e' with e1 e2
        subst e1
        subst e2
        obtain ⟨p, r, es, _⟩ := h4'
        rw [cell_of_row w b (off + j) _ _ _ hg, es] at h3'
        exact ⟨p, _, r, h3'⟩
      obtain ⟨p2, q2, r2, e2⟩ := at' 2 (by omega)
      have : off = 0 ∨ 1 ≤ off := by omega
      rcases this with rfl | h
      · simp at e2
      · rw [Array.getElem?_eq_none (by simp; omega)] at e2
        cases e2
  · exact lists_offV h hv hg k
theorem CoV.offP {v : Value} {c : Co} (h : CoV w v c) (hc : c.big) (hg : w.heap[g]? = some (.cells #[.slice a1 n1 c1, .slice a2 n2 c2, .int .i64 q] t fr)) (k : Kp [g] w w') : CoV w' v c := by
  obtain ⟨ap, np, cp, aq, nq, cq, e, vp, vq, lp, lq, e2, h1, h2, h3, h4⟩ := h
  have hp : lp = [] ∨ 3 ≤ lp.length := by
    rcases hc.1 with h | h
    · left; rw [h] at h2; exact List.map_eq_nil_iff.1 h2
    · right; rw [← List.length_map (f := (·.2)), h2]; exact h
  have hq : lq = [] ∨ 3 ≤ lq.length := by
    rcases hc.2 with h | h
    · left; rw [h] at h4; exact List.map_eq_nil_iff.1 h4
    · right; rw [← List.length_map (f := (·.2)), h4]; exact h
  exact ⟨ap, np, cp, aq, nq, cq, e, vp, vq, lp, lq, e2, lists_offP hg k h1 hp, h2, lists_offP hg k h3 hq, h4⟩
theorem col_offP {T : TypeId} {l : List Co} {w0 : World} {v : Value} (h : RowQ T 4 (CoP l) l.length w0 v w) (hb : ∀ c ∈ l, c.big) (hl : l.length ≤ 1000000) (hg : w.heap[g]? = some (.cells #[.slice a1 n1 c1, .slice a2 n2 c2, .int .i64 q] t fr)) (hlt : g < w0.heap.size) (k : Kp [g] w w') : CoL w' v l := by
  obtain ⟨ao, c, rfl⟩ := h.shape
  refine ⟨ao, c, rfl, hl, fun i hi => ?_⟩
  obtain ⟨gb, c', x, e, hx, hr, hp⟩ := h.at i hi
  injection e with e1
  have hgb := (h.own gb (by rw [e1]; rfl)).1
  have hge : l.getD i co0 = l[i] := by simp [List.getD, hi]
  have hp' : CoV w' (.agg x.toArray) l[i] := by
    have h1 : CoV w (.agg x.toArray) (l.getD i co0) := hp
    rw [hge] at h1
    exact h1.offP (hb _ (List.getElem_mem hi)) hg k
  obtain ⟨ap, np, cp, aq, nq, cq, e, hs⟩ := hp'
  have ex : x = [.int .i64 l[i].k, .int .i64 l[i].i, .slice ap np cp, .slice aq nq cq] := by simpa using e
  rw [ex] at hr
  refine ⟨gb, 0, ap, np, cp, aq, nq, cq, e1, ?_, hs⟩
  rw [Nat.zero_add]
  exact fun j u hu => k.cell (hr j u hu) (by simp; omega)
end
theorem FewAt.own {w wr : World} {l : List (Value × List Int)} {most k : Nat} {o : Value} (h : FewAt w wr l most k o) : Kp [] w wr ∧ ∀ q, o.ownBlock = some q → w.heap.size ≤ q := by
  obtain ⟨l', _, ho, hK, _, _⟩ := h
  refine ⟨hK, fun q hq => ?_⟩
  rcases ho.2 with ⟨rfl, _⟩ | ⟨g, cap, cur, rfl, hb, _⟩
  · cases hq
  · cases hq; exact hb
end Go.Proofs.YtdjofooggofpkaaDoor
