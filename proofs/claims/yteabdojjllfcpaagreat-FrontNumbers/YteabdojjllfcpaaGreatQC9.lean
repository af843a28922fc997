/-
  Slices of slices of bytes: how they are read.
-/
import Derived.Deep.Slices
import Derived.ProofKit
import Derived.Test.YteabdojjllfcpaaGreatQC5
namespace Go.Proofs.YteabdojjllfcpaaGreat
open Go.RowKit
/-- v is a slice of slices: each with its value and its bytes. -/
def Lists (w : World) (v : Value) (l : List (Value × List Int)) : Prop :=
  ∃ ao c, v = .slice ao l.length c ∧ l.length ≤ 9223372036854775807 ∧ ∀ i (h : i < l.length), ∃ b off, ao = some ⟨b, off, none⟩ ∧ w.cell? ⟨b, off + i, none⟩ = some l[i].1 ∧ Sl w l[i].1 l[i].2 ∧ Bs l[i].2
theorem Lists.kept {w w' : World} {v : Value} {l : List (Value × List Int)} (h : Lists w v l) (k : Kp [] w w') : Lists w' v l := by
  obtain ⟨ao, c, rfl, h1, h2⟩ := h
  refine ⟨ao, c, rfl, h1, fun i hi => ?_⟩
  obtain ⟨b, off, e, h3, h4, h5⟩ := h2 i hi
  exact ⟨b, off, e, k.cell h3 (by simp), h4.kept k (by simp), h5⟩
theorem lists_nil (w : World) (ao : Option Addr) (c : Nat) : Lists w (.slice ao 0 c) [] := ⟨ao, c, rfl, by simp, fun i hi => by cases hi⟩
theorem lists_of_block {w : World} {g : Nat} {l : List (Value × List Int)} {t : TypeId} {fr : Nat × Nat} (hg : w.heap[g]? = some (.cells (l.map (·.1)).toArray t fr)) (hl : l.length ≤ 1000) (hS : ∀ x ∈ l, Sl w x.1 x.2 ∧ Bs x.2) : Lists w (.slice (some ⟨g, 0, none⟩) l.length l.length) l := by
  refine ⟨_, _, rfl, by omega, fun i hi => ⟨g, 0, rfl, ?_, (hS _ (List.getElem_mem hi)).1, (hS _ (List.getElem_mem hi)).2⟩⟩
  rw [cell_of_row w g (0 + i) _ t fr hg]
  simp [List.getElem?_eq_getElem hi]
/-- all bytes of the parts, one behind the other. -/
def cat (l : List (Value × List Int)) : List Int := (l.map (·.2)).flatten
theorem cat_take (l : List (Value × List Int)) (k : Nat) (h : k < l.length) : cat (l.take (k + 1)) = cat (l.take k) ++ l[k].2 := by
  unfold cat
  rw [List.take_succ_eq_append_getElem h, List.map_append, List.flatten_append]
  simp
theorem cat_len (l : List (Value × List Int)) (m : Nat) (hm : ∀ x ∈ l, x.2.length ≤ m) : (cat l).length ≤ l.length * m := by
  unfold cat
  induction l with
  | nil => simp
  | cons a l ih =>
    have h1 := ih (fun x hx => hm x (by simp [hx]))
    have h2 := hm a (by simp)
    simp only [List.map_cons, List.flatten_cons, List.length_append, List.length_cons]
    rw [Nat.add_mul]
    omega
theorem cat_bs (l : List (Value × List Int)) (hB : ∀ x ∈ l, Bs x.2) : Bs (cat l) := by
  intro b hb
  simp only [cat, List.mem_flatten, List.mem_map] at hb
  obtain ⟨y, ⟨x, hx, rfl⟩, hb⟩ := hb
  exact hB x hx b hb
theorem Lists.bs {w : World} {v : Value} {l : List (Value × List Int)} (h : Lists w v l) : ∀ x ∈ l, Bs x.2 := by
  obtain ⟨_, _, _, _, h2⟩ := h
  intro x hx
  obtain ⟨i, hi, rfl⟩ := List.getElem_of_mem hx
  obtain ⟨_, _, _, _, _, h5⟩ := h2 i hi
  exact h5
/-- a block of bytes that was made whole is a row. -/
theorem row_of_block {w : World} {base g n : Nat} {bs : List Int} (hb : base ≤ g) (h : w.heap[g]? = some (.cells (bs.map (Value.int .u8)).toArray 5 (0, 0))) (hn : bs.length = n) (hm : n ≤ maxLen) : Row w base (.slice (some ⟨g, 0, none⟩) n n) bs := by
  subst hn
  exact ⟨by simp, .inr ⟨g, bs.length, _, rfl, hb, h, Nat.le_refl _, hm, by simp, by rw [Nat.mul_one]; exact List.take_of_length_le (by simp)⟩⟩
end Go.Proofs.YteabdojjllfcpaaGreat
