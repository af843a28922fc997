/-
  The contracts of package ledger: leaves, Root, Entry, Public, KeysLeft, isSize.
-/
import Derived.Lib.Slices
import Derived.Lib.Small
import Derived.Lib.Walk
import Derived.Test.YteabdojjllfcpaaGreatQC21
namespace Go.Proofs.YteabdojjllfcpaaGreat
open Go.RowKit
open Go.Proofs
set_option linter.unusedVariables false
theorem RowU.room {w : World} {base m c : Nat} {ao : Option Addr} {l : List (List Int)} (h : RowU w base (.slice ao m c) l) : m ≤ c ∧ c ≤ maxLen ∧ (ao = none → c = 0) := by
  rcases h.2 with ⟨h', h0⟩ | ⟨g, cap, cur, h', hb, hg, hc, hx, hs, ht⟩
  · injection h' with h1 h2 h3
    exact ⟨by omega, by rw [h3]; unfold maxLen; omega, fun _ => h3⟩
  · injection h' with h1 h2 h3
    subst h3
    rw [h2]
    exact ⟨hc, by omega, fun e => by rw [h1] at e; cases e⟩
section
variable {w0 w : World} {l pd pk : Nat} {S : LS} {f : Fps}
end
end Go.Proofs.YteabdojjllfcpaaGreat

/-
  The contracts of package ledger: copyOfEach, copyOf.
-/
namespace Go.Proofs.YteabdojjllfcpaaGreat
open Go.RowKit
open Go.Proofs
set_option linter.unusedVariables false
def RO (B : Nat) (r : List Int) : Tell := fun v w => ∃ a m c, v = .slice a m c ∧ Sl w (.slice a m c) r ∧ ∀ k, (Value.slice a m c).ownBlock = some k → B ≤ k
theorem stable_ro (B : Nat) (r : List Int) : Tell.stable (RO B r) := fun _ _ _ k ⟨a, m, c, e, h1, h2⟩ => ⟨a, m, c, e, h1.kept k (by simp), h2⟩
/-- the block of a slice may be written. -/
def Fz (w : World) (v : Value) : Prop := ∀ g, v.ownBlock = some g → g < w.heap.size ∧ ∀ k, w.frozen? ⟨g, k, none⟩ = false
theorem frz_kept {w w' : World} {S : List Nat} {g i : Nat} (k : Kp S w w') (hl : g < w.heap.size) (hn : g ∉ S) (h : w.frozen? ⟨g, i, none⟩ = false) : w'.frozen? ⟨g, i, none⟩ = false := by
  have e := k.block g hl hn
  unfold World.frozen? at h ⊢
  simp only at h ⊢
  rw [e]
  exact h
theorem Fz.kept {w w' : World} {v : Value} {S : List Nat} (h : Fz w v) (k : Kp S w w') (hS : ∀ g, v.ownBlock = some g → g ∉ S) : Fz w' v := fun g hg => ⟨Nat.lt_of_lt_of_le (h g hg).1 k.size, fun i => frz_kept k (h g hg).1 (hS g hg) ((h g hg).2 i)⟩
/-- a signed checkpoint that stays so whatever becomes of the blocks below b; its root may be written. -/
def SgU (b : Nat) (w : World) (v : Value) (s : Sg) : Prop := SgA b w v s ∧ ∀ n vr i p q, v = .agg #[n, vr, i, p, q] → Fz w vr ∧ ∀ g, vr.ownBlock = some g → b ≤ g
theorem SgU.v {b : Nat} {w : World} {v : Value} {s : Sg} (h : SgU b w v s) : SgV w v s := h.1.v
theorem SgU.f {b : Nat} {w w' : World} {v : Value} {s : Sg} (h : SgU b w v s) (k : Kp [] w w') : SgF (fun i => b ≤ i ∧ i < w'.heap.size) w' v s := h.1.f k
theorem SgU.low {b c : Nat} {w : World} {v : Value} {s : Sg} (h : SgU b w v s) (hc : c ≤ b) : SgU c w v s := ⟨h.1.low hc, fun n vr i p q e => ⟨(h.2 n vr i p q e).1, fun g hg => Nat.le_trans hc ((h.2 n vr i p q e).2 g hg)⟩⟩
theorem SgU.kept {b : Nat} {w w' : World} {v : Value} {s : Sg} {S : List Nat} (h : SgU b w v s) (hS : ∀ q ∈ S, q < b) (k : Kp S w w') : SgU b w' v s :=
  ⟨h.1.kept hS k, fun n vr i p q e => ⟨(h.2 n vr i p q e).1.kept k (fun g hg hm => by have := (h.2 n vr i p q e).2 g hg; have := hS g hm; omega), (h.2 n vr i p q e).2⟩⟩
/-- a list that stays so whatever becomes of the blocks below B. -/
def LO (B : Nat) (ls : List (List Int)) : Tell := fun v w => ∃ a m c, v = .slice a m c ∧ ∀ (S : List Nat) (w2 : World), (∀ q ∈ S, q < B) → Kp S w w2 → ∃ l, Lists w2 (.slice a m c) l ∧ l.map (·.2) = ls
theorem Acc.lo {B : Nat} {w wr : World} {ls : List (List Int)} {a : Option Addr} {m c : Nat} (h : Acc w ls (.slice a m c) wr) (hB : B ≤ w.heap.size) (hl : ls.length ≤ 1000) : LO B ls (.slice a m c) wr := by
  obtain ⟨l, h1, h2, h3⟩ := h
  refine ⟨a, m, c, rfl, fun S w2 hS k => ⟨l, (h1.keptS k (fun i hi => by have := hS i hi; omega)).lists (by rw [← List.length_map (f := (·.2)), h2]; exact hl), h2⟩⟩
end Go.Proofs.YteabdojjllfcpaaGreat
