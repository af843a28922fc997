/-
  Lists gathered behind one another; records cut off by a crash.
-/
import Derived.Test.YteabdojjllfcpaaGreatQC18
import Derived.Test.YteabdojjllfcpaaGreatQOFrontKeeps4
namespace Go.Proofs.YteabdojjllfcpaaGreat
open Go.RowKit
open Go.Proofs
/-- what a crash leaves of records that were added and put. -/
theorem crash_lay (A B : List (List Int)) (keep : Int) (hA : ∀ r ∈ A, r.length ≤ 65535) (hB : ∀ r ∈ B, r.length ≤ 65535) :
    ∃ (q jj : Nat), q ≤ (layP (A ++ B)).length ∧ (⟨layP (A ++ B), (layP A).length, 1048576, 0, false⟩ : Dk).crash keep = ⟨(layP (A ++ B)).take q, q, 1048576, 0, false⟩ ∧
      A.length ≤ jj ∧ jj ≤ A.length + B.length ∧ opnP ((layP (A ++ B)).take q) = ((A ++ B).take jj, (layP ((A ++ B).take jj)).length, true) ∧
      (⟨(layP (A ++ B)).take q, q, 1048576, 0, false⟩ : Dk).opn = dkOn (layP ((A ++ B).take jj)) := by
  have hAB : ∀ r ∈ A ++ B, r.length ≤ 65535 := fun r hr => (List.mem_append.1 hr).elim (hA r) (hB r)
  have hle : (layP A).length ≤ (layP (A ++ B)).length := by rw [layP_append, List.length_append]; omega
  obtain ⟨q, hq⟩ : ∃ q, q = (⟨layP (A ++ B), (layP A).length, 1048576, 0, false⟩ : Dk).left keep := ⟨_, rfl⟩
  have hq' : q = (layP A).length + min keep.toNat ((layP (A ++ B)).length - (layP A).length) := hq
  have hq1 : q ≤ (layP (A ++ B)).length := by omega
  have hq2 : (layP A).length ≤ q := by omega
  obtain ⟨jj, h1, h2, h3, h4⟩ := opnP_take (A ++ B) hAB q hq1
  have hjA : A.length ≤ jj := h4 A.length (by simp) (by rw [List.take_left' rfl]; exact hq2)
  refine ⟨q, jj, hq1, ?_, hjA, by simpa using h1, h2, ?_⟩
  · unfold Dk.crash
    rw [← hq]
    show (⟨(layP (A ++ B)).take q, min q (layP (A ++ B)).length, 1048576, 0, false⟩ : Dk) = _
    rw [show min q (layP (A ++ B)).length = q from by omega]
  · have hl : ((layP (A ++ B)).take q).length = q := by simp; omega
    have hpre : (layP (A ++ B)).take (layP ((A ++ B).take jj)).length = layP ((A ++ B).take jj) := by
      have e : layP (A ++ B) = layP ((A ++ B).take jj) ++ layP ((A ++ B).drop jj) := by rw [← layP_append, List.take_append_drop]
      rw [e, List.take_left' rfl]
      
    unfold Dk.opn
    have hbs : (⟨(layP (A ++ B)).take q, q, 1048576, 0, false⟩ : Dk).bs = (layP (A ++ B)).take q := rfl
    rw [hbs, h2]
    simp only [hl]
    split
    · rw [List.take_take, show min (layP ((A ++ B).take jj)).length q = (layP ((A ++ B).take jj)).length from by omega, hpre]
      rfl
    · have hqe : q = (layP ((A ++ B).take jj)).length := by omega
      rw [hqe, hpre]
      rfl
end Go.Proofs.YteabdojjllfcpaaGreat

/-
  Chapter 14 as plain functions: the records of the first keys.
-/
namespace Go.Proofs.YteabdojjllfcpaaGreat
namespace Dk
/-- a key's record is added where there is room and power. -/
theorem add_up {d : Dk} (h : d.down = false) (ha : d.arm ≤ 0) (b : List Int) (hf : ((d.bs.length + b.length : Nat) : Int) ≤ d.lim) : d.add b = (true, { d with bs := d.bs ++ b, syn := (d.bs ++ b).length }) := by
  unfold add
  rw [app_plain h ha b hf, if_pos rfl]
  exact sync_plain (d := { d with bs := d.bs ++ b }) h ha
theorem add_down {d : Dk} (h : d.down = true) (b : List Int) : d.add b = (false, d) := by
  unfold add
  rw [app_down h b, if_neg (by simp)]
end Dk
end Go.Proofs.YteabdojjllfcpaaGreat

/-
  Disks, journals and boxes with the blocks that they lie in.
-/
namespace Go.Proofs.YteabdojjllfcpaaGreat
open Go.RowKit
open Go.Proofs
set_option linter.unusedVariables false
section
variable {w0 w w' : World} {p q j n k : Nat} {d d' : Dk} {F : Nat → Prop} {v : Value}
/-- a disk takes a step. -/
theorem Dx.stepD {v v' : Value} (hF : ∀ i ∈ dfp p v, F i) (g : Nw w0 w' p v' d') (t : DSt p w v w' v') : ∃ F', Dx w0 w' p d' F' ∧ Stp F w w' F' ∧ ∀ i, F i → F' i :=
  ⟨grF F v', ⟨v', g, grF_fp (hF p (mem_dfp.2 (.inl rfl)))⟩, t.stp hF g.rlt, fun i h => .inl h⟩
theorem Jx.stepD {v v' : Value} (h : ∃ m, m ≤ k ∧ Jn w0 w p v d j m ∧ F j ∧ ∀ i ∈ dfp p v, F i) (g : Nw w0 w' p v' d') (t : DSt p w v w' v') : ∃ F', Jx w0 w' p d' j k F' ∧ Stp F w w' F' := by
  obtain ⟨m, h1, h2, h3, h4⟩ := h
  exact ⟨grF F v', ⟨v', m, h1, h2.disk g t, .inl h3, grF_fp (h4 p (mem_dfp.2 (.inl rfl)))⟩, t.stp h4 g.rlt⟩
theorem Bf.stepD {v v' : Value} (h : ∃ j m, m ≤ k ∧ Jn w0 w p v d j m ∧ Kb w q j n ∧ w0.heap.size ≤ q ∧ F q ∧ F j ∧ ∀ i ∈ dfp p v, F i) (g : Nw w0 w' p v' d') (t : DSt p w v w' v') : ∃ F', Bf w0 w' p d' q n k F' ∧ Stp F w w' F' := by
  obtain ⟨j, m, h1, h2, h3, h4, h5, h6, h7⟩ := h
  exact ⟨grF F v', ⟨v', j, m, h1, h2.disk g t, h3.kept t.1 (h3.off h2.nw.dk), h4, .inl h5, .inl h6, grF_fp (h7 p (mem_dfp.2 (.inl rfl)))⟩, t.stp h7 g.rlt⟩
end
end Go.Proofs.YteabdojjllfcpaaGreat
