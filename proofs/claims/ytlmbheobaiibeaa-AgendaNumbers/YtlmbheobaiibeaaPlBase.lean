/-
  The agenda and the plain list beside it, as the statements' own play keeps them.
-/
import Derived.Test.YtlmbheobaiibeaaPlPut
import Derived.Test.YtlmbheobaiibeaaAgTakes
namespace Go.Proofs.Ytlmbheobaiibeaa
open Go.RowKit Go.Sort Go.Lib

/-- An agenda made since w0, and a slice that reads as l beside it. -/
structure Pl (w0 w : World) (p : Nat) (v : Value) (m : List En) (k : Nat) (vm : Value) (l : List (Int × Int)) : Prop where
  ag : Ag w p v m k
  fr : Fr w0 p v
  ref : RefE w vm l
  dj : Dj vm (fp p v)
  lt : ∀ i, vm.ownBlock = some i → i < w.heap.size
  kp : Kp [] w0 w
section
variable {w0 w w' : World} {p : Nat} {v v' : Value} {m m' : List En} {k k' : Nat} {vm vm' : Value} {l l' : List (Int × Int)}
theorem Pl.on (h : Pl w0 w p v m k vm l) (q : Kp [] w w') : Pl w0 w' p v m k vm l := ⟨h.ag.keptN q, h.fr, h.ref.keptN q, h.dj, fun i hi => Nat.lt_of_lt_of_le (h.lt i hi) q.size, h.kp.trans q⟩
theorem Pl.stepA (h : Pl w0 w p v m k vm l) (g : Ag w' p v' m' k') (T : Ste p w v w' v') : Pl w0 w' p v' m' k' vm l := by
  obtain ⟨K, F⟩ := Ste.fresh h.kp h.fr T
  exact ⟨g, F, h.ref.kept T.1 h.dj, h.dj.step h.lt (fp_step T), fun i hi => Nat.lt_of_lt_of_le (h.lt i hi) T.1.size, K⟩
theorem Pl.made (h : Pl w0 w p v m k vm l) (M : Mk w w' vm' l') : Pl w0 w' p v m k vm' l' :=
  ⟨h.ag.keptN M.2.1, h.fr, M.1.ref, fun i hi hn => by have := h.ag.lt i hn; have := M.2.2 i hi; omega, M.1.lt, h.kp.trans M.2.1⟩
theorem Pl.tail {ao : Option Addr} {n c : Nat} (h : Pl w0 w p v m k (.slice ao n c) l) (hn : 1 ≤ n) : Pl w0 w p v m k (.slice (if c = 1 then ao else ao.map (·.add (1 * 2))) (n - 1) (c - 1)) (l.drop 1) := by
  have hb : ∀ i, (Value.slice (if c = 1 then ao else ao.map (·.add (1 * 2))) (n - 1) (c - 1)).ownBlock = some i → (Value.slice ao n c).ownBlock = some i := by
    intro i hi
    cases ao with
    | none => simp [Value.ownBlock] at hi
    | some a =>
      by_cases hc : c = 1
      · rw [if_pos hc] at hi
        simpa [Value.ownBlock] using hi
      · rw [if_neg hc] at hi
        obtain ⟨b, off, spot⟩ := a
        cases spot <;> simpa [Value.ownBlock, Addr.add] using hi
  exact ⟨h.ag, h.fr, h.ref.drop 1 hn, fun i hi => h.dj i (hb i hi), fun i hi => h.lt i (hb i hi), h.kp⟩
theorem pl_new {w1 : World} (A : Ag w1 p (.slice none 0 0) [] 0) (ha : w.heap.size ≤ p) (k1 : Kp [] w w1) : Pl w w1 p (.slice none 0 0) [] 0 (.slice none 0 0) [] :=
  ⟨A, fr_new ha, RefE.nil _, fun i h => by simp [Value.ownBlock] at h, fun i h => by simp [Value.ownBlock] at h, k1⟩
theorem Pl.shape (h : Pl w0 w p v m k vm l) : ∃ ao c, vm = .slice ao l.length c ∧ l.length ≤ c ∧ (ao = none → c = 0) := by
  obtain ⟨ao, c, rfl, h1, h2, h3, h4⟩ := h.ref
  exact ⟨ao, c, rfl, h1, h3⟩
end
theorem boxA_cells (w : World) (x y z : Int) (t : TypeId) : (w.alloc (.cells #[.int .i64 x, .int .i64 y, .int .i64 z] t)).cell? ⟨w.heap.size, 0, none⟩ = some (.int .i64 x) ∧ (w.alloc (.cells #[.int .i64 x, .int .i64 y, .int .i64 z] t)).cell? ⟨w.heap.size, 1, none⟩ = some (.int .i64 y) ∧ (w.alloc (.cells #[.int .i64 x, .int .i64 y, .int .i64 z] t)).cell? ⟨w.heap.size, 2, none⟩ = some (.int .i64 z) := by
  refine ⟨?_, ?_, ?_⟩ <;> (rw [World.cell?_alloc_at _ _ _ _ rfl]; rfl)
theorem ref_zero {w : World} {b off n c : Nat} {x : Int × Int} {l : List (Int × Int)} (h : RefE w (.slice (some ⟨b, off, none⟩) n c) (x :: l)) : w.cell? ⟨b, off, none⟩ = some (.int .i64 x.1) ∧ w.cell? ⟨b, off + 1, none⟩ = some (.int .i64 x.2) := by
  obtain ⟨b', o', e, h1, h2⟩ := h.at 0 (by simp)
  cases e
  simp at h1 h2
  exact ⟨h1, h2⟩
theorem ref_some {w : World} {ao : Option Addr} {n c : Nat} {x : Int × Int} {l : List (Int × Int)} (h : RefE w (.slice ao n c) (x :: l)) : ∃ b off, ao = some ⟨b, off, none⟩ := by
  obtain ⟨b', o', e, h1, h2⟩ := h.at 0 (by simp)
  exact ⟨b', o', e⟩
/-- Things other than x stay. -/
def keepP (x : Int) (e : Int × Int) : Bool := decide (e.2 ≠ x)
theorem keep_pr (m : List En) (x : Int) : (m.filter (keepW x)).map pr = (m.map pr).filter (keepP x) := by
  rw [List.filter_map]; rfl
theorem keep_snoc (l : List (Int × Int)) (x : Int) (j : Nat) (hj : j < l.length) : (l.take (j + 1)).filter (keepP x) = (l.take j).filter (keepP x) ++ (if (l.getD j (0, 0)).2 = x then [] else [l.getD j (0, 0)]) := by
  rw [List.take_add_one, List.filter_append, List.getElem?_eq_getElem hj]
  simp [hj]
  by_cases h : l[j].2 = x
  · rw [if_pos h]; simp [keepP, h]
  · rw [if_neg h]; simp [keepP, h]
theorem what_snoc (m : List En) (j : Nat) (hj : j < m.length) : (m.map En.what).take (j + 1) = (m.map En.what).take j ++ [((m.map pr).getD j (0, 0)).2] := by
  rw [List.take_add_one]
  simp [hj, pr]
/-- A slice of asks: what each of its places holds. -/
def Asks3 (w : World) (v : Value) (ks : List (Int × Int × Int)) : Prop :=
  ∃ ao c, v = .slice ao ks.length c ∧ ks.length ≤ c ∧ ∀ i, i < ks.length → ∃ b off, ao = some ⟨b, off, none⟩ ∧
    w.cell? ⟨b, off + i * 3, none⟩ = some (.int .i64 (ks.getD i (0, 0, 0)).1) ∧ w.cell? ⟨b, off + i * 3 + 1, none⟩ = some (.int .i64 (ks.getD i (0, 0, 0)).2.1) ∧ w.cell? ⟨b, off + i * 3 + 2, none⟩ = some (.int .i64 (ks.getD i (0, 0, 0)).2.2)
end Go.Proofs.Ytlmbheobaiibeaa
