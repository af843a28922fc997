/-
  The contracts of the law package's helpers Roomy, Same and Intact at bytes over this seat's program.
-/
import Derived.Test.YtdioaohejoflcaaDoorM5
import Derived.Laws.CopyOwn
import Derived.Deep.QuietTactic
import Derived.BigQuiet
import Derived.SizedLaws
import Derived.ProofKit
namespace Go.Proofs.YtdioaohejoflcaaDoor
open Go.RowKit

theorem Sl.spot {w : World} {ao : Option Addr} {n c : Nat} {bs : List Int} (h : Sl w (.slice ao n c) bs) (h0 : 0 < n) :
    ∃ b off, ao = some ⟨b, off, none⟩ ∧ n = bs.length ∧ ∀ k (hk : k < bs.length), w.cell? ⟨b, off + k, none⟩ = some (.int .u8 bs[k]) := by
  obtain ⟨ao', c', he, h1, h2, h3, h4⟩ := h
  injection he with e1 e2 e3
  subst e1 e2 e3
  cases ao with
  | none => have := h3 rfl; omega
  | some a =>
    obtain ⟨b, off, spot⟩ := a
    have hc := h4 _ rfl 0 (.int .u8 bs[0]) (by simp [List.getElem?_eq_getElem h0])
    have hspot : spot = none := by simpa [Addr.add] using World.cell?_spot hc
    subst hspot
    refine ⟨b, off, rfl, rfl, fun k hk => ?_⟩
    have := h4 _ rfl k (.int .u8 bs[k]) (by simp [List.getElem?_eq_getElem hk])
    rwa [Addr.add_lit] at this
theorem owns_of_heap {w : World} {base g n : Nat} {ys : List Value} (hb : base ≤ g) (h : w.heap[g]? = some (.cells ys.toArray 5 (0, 0))) (hn : ys.length = n) (hm : n ≤ maxLen) :
    w.ownsRow base 5 1 (.slice (some ⟨g, 0, none⟩) n n) n ys :=
  ⟨by omega, .inr ⟨g, n, _, rfl, hb, h, Nat.le_refl _, hm, by simpa using hn, by rw [Nat.mul_one]; exact List.take_of_length_le (by simp; omega)⟩⟩
theorem Kp.of_below {w w' : World} (h : Below w.heap.size w w') : Kp [] w w' := ⟨h.os, h.tape, h.output, h.size, fun k hk _ => h.block k hk⟩

theorem made_row {w : World} {base g n : Nat} {xs : List Value} (h : w.ownsRow base 5 1 (.slice (some ⟨g, 0, none⟩) n n) n xs) : ∃ cur : List Value, w.heap[g]? = some (.cells cur.toArray 5 (0, 0)) ∧ cur.length = n := by
  rcases h.2 with ⟨h', _⟩ | ⟨g', cap, cur, h', _, hg, _, _, hs, _⟩
  · cases h'
  · cases h'
    exact ⟨cur.toList, by simpa using hg, by simpa using hs⟩
theorem copy_src {w w1 : World} {ao : Option Addr} {cs : List Value} {c : Nat} (hB : Below w.heap.size w w1) (h : ∀ a, ao = some a → ∀ j u, cs[j]? = some u → w.cell? (a.add j) = some u) (h3 : ao = none → c = 0) (hpos : c ≠ 0) : ∃ ad, ao = some ad ∧ ∀ j v, cs[j]? = some v → w1.cell? (ad.add j) = some v := by
  cases ao with
  | none => exact absurd (h3 rfl) hpos
  | some a => exact ⟨a, rfl, fun j u hu => (Kp.of_below hB).cell (h a rfl j u hu) (by simp)⟩

end Go.Proofs.YtdioaohejoflcaaDoor
