/-
  Arguments of the laws of keys: slices of numbers.
-/
import Derived.Test.YtillhpgdlmeajaaGreatDoorKKLaw
import Derived.ChangeSame
namespace Go.Proofs.YtillhpgdlmeajaaGreatDoor
open Go.RowKit
open Go.Proofs
open Go.Deep Go.ChangeShapes Go.WideShapes

def IntsK (w : World) (v : Value) (l : List Int) : Prop :=
  ∃ ao c, v = .slice ao l.length c ∧ l.length ≤ 9223372036854775807 ∧ ∀ i (h : i < l.length), ∃ b off, ao = some ⟨b, off, none⟩ ∧ w.cell? ⟨b, off + i, none⟩ = some (.int .i64 l[i])
theorem IntsK.kept {w w' : World} {v : Value} {l : List Int} (h : IntsK w v l) (k : Kp [] w w') : IntsK w' v l := by
  obtain ⟨ao, c, rfl, h1, h2⟩ := h
  refine ⟨ao, c, rfl, h1, fun i hi => ?_⟩
  obtain ⟨b, off, e, h3⟩ := h2 i hi
  exact ⟨b, off, e, k.cell h3 (by simp)⟩
theorem Tryz.cellsIntK : Tryz.prog.cellsOf 3 = 1 := by kernel_rfl
section
variable {H : Type} {enc : TypeId × Value → H} {w : World}
theorem intsK_of_trod {v : Value} {fuel : Nat} {x : DataW H × List MemPlace} (h : DataW.trod enc Tryz.prog w 0 (fun _ => true) true fuel 35 [v] = some x) : ∃ l, IntsK w v l := by
  rcases open_slice Tryz.underlying35 h with ⟨hcs, _⟩ | ⟨a, len, cap, m, n, D, Pl, hcs, _, hl, hm, hmm, _, hx⟩
  · simp only [List.cons.injEq, and_true] at hcs
    subst hcs
    exact ⟨[], none, 0, rfl, by simp, fun i hi => by cases hi⟩
  · simp only [List.cons.injEq, and_true] at hcs
    subst hcs
    simp only [if_true] at hmm
    subst hmm
    rw [Tryz.cellsIntK] at hx
    have key : ∀ i, i < len → ∃ d : Int, w.cell? (a.add i) = some (.int .i64 d) := fun i hi => by
      obtain ⟨cs', h1, h2⟩ := hx i (by omega)
      obtain ⟨d, e, _⟩ := DataW.trod_int Tryz.underlying3 h2
      obtain ⟨_, hlen, hcell⟩ := World.cells?_some h1
      subst e
      have k0 := hcell 0 (by omega)
      rw [Nat.mul_one, Addr.add_zero'] at k0
      exact ⟨d, by simpa using k0⟩
    have inst : Inhabited Int := ⟨0⟩
    obtain ⟨F, hF⟩ := @choose_lt Int inst len (fun i d => w.cell? (a.add i) = some (.int .i64 d)) key
    have hlen : ((List.range len).map F).length = len := by simp
    refine ⟨(List.range len).map F, some a, m, by rw [hlen], by unfold maxLen at hm; rw [hlen]; omega, fun i hi => ?_⟩
    rw [hlen] at hi
    have hA := hF i hi
    have h0 := hF 0 (by omega)
    obtain ⟨b, off, spot⟩ := a
    have hspot : spot = none := by simpa [Addr.add] using World.cell?_spot h0
    subst hspot
    rw [Addr.add_lit] at hA
    have hg : ((List.range len).map F)[i]'(by rw [hlen]; exact hi) = F i := by simp
    rw [hg]
    exact ⟨b, off, rfl, hA⟩
end
end Go.Proofs.YtillhpgdlmeajaaGreatDoor
