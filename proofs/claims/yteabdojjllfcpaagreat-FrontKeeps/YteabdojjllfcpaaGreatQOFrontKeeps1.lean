/-
  Single operations of a region that only makes memory.
-/
import Derived.Test.YteabdojjllfcpaaGreatQC2
namespace Go.Proofs.YteabdojjllfcpaaGreat
open Go.RowKit
section
variable {P : Program} {ops : Array Oper} {o : Oper} {a : Act} {w : World} {R : Tell}
theorem wants_not {g : Nat} {b : Bool} {d : Tmp} (hg : o.guard = some (g, b)) (hd : (ops[g]?).bind (·.dst) = some d) (he : a.eval (.tmp d) = .bool (!b)) (h : R undef w) : wants P ops o a w R := by
  unfold wants
  rw [if_neg (by rw [wanted_iff hg hd he]; cases b <;> simp)]
  exact h
theorem grown_conv (x : Operand) (src dst e : TypeId) (bs : List Int) (ho : o.op = .convert src dst x) (hS : Sl w (a.eval x) bs) (hs : P.underlying src = some (.slice e)) (he : P.underlying e = some (.int .u8)) (hd : P.underlying dst = some .string) (hR : R (.string (strOfNums bs)) w) : grown P w R ((execOp a.eval o).run P w) := by
  refine grown_run ?_ (Kp.refl _ _) hR
  unfold execOp
  simp only [ho, Sem.run_bind, hS.conv src dst e hs he hd, Result.andThen_ok, Sem.run_pure]
end
end Go.Proofs.YteabdojjllfcpaaGreat

/-
  Chapter 13 as plain functions: how records lie, and what is read of any bytes.
-/
namespace Go.Proofs.YteabdojjllfcpaaGreat
theorem layP_append (a b : List (List Int)) : layP (a ++ b) = layP a ++ layP b := by simp [layP]
theorem layP_len (l : List (List Int)) (m : Nat) (h : ∀ r ∈ l, r.length ≤ m) : (layP l).length ≤ l.length * (8 + m) := by
  induction l with
  | nil => simp [layP]
  | cons r l ih =>
    have h1 := ih (fun x hx => h x (by simp [hx]))
    have h2 := h r (by simp)
    rw [layP_cons, List.length_append, recP_len, List.length_cons, Nat.add_mul]
    omega
/-- a record that was cut off is torn. -/
theorem opnP_cut (r : List Int) (k : Nat) (h : r.length ≤ 65535) (hk : k < 8 + r.length) : opnP ((recP r).take k) = ([], 0, true) := by
  by_cases h8 : k < 8
  · exact opnP_short (by simp; omega)
  · have e0 : ((recP r).take k).length = k := by rw [List.length_take, recP_len]; omega
    have e1 : num1 ((recP r).take k) = r.length := by
      have := num1_rec r [] h
      rw [List.append_nil] at this
      unfold num1 at this ⊢
      rw [List.take_take, show min 4 k = 4 from by omega]; exact this
    have e2 : num2 ((recP r).take k) = 4294967295 - r.length := by
      have := num2_rec r [] h
      rw [List.append_nil] at this
      unfold num2 at this ⊢
      rw [List.drop_take, List.take_take, show min 4 (k - 4) = 4 from by omega]; exact this
    exact opnP_torn (by omega) (by omega) (by omega) (by omega)
/-- records cut off anywhere: the first ones, whole. -/
theorem opnP_take (l : List (List Int)) (h : ∀ r ∈ l, r.length ≤ 65535) : ∀ k, k ≤ (layP l).length → ∃ j, j ≤ l.length ∧ opnP ((layP l).take k) = (l.take j, (layP (l.take j)).length, true) ∧ (layP (l.take j)).length ≤ k ∧ ∀ i, i ≤ l.length → (layP (l.take i)).length ≤ k → i ≤ j := by
  induction l with
  | nil =>
    intro k hk
    refine ⟨0, Nat.le_refl _, ?_, ?_, fun i hi _ => hi⟩
    · simp [layP, opnP_nil]
    · simp [layP]
  | cons r l ih =>
    intro k hk
    have hr := h r (by simp)
    rw [layP_cons, List.length_append, recP_len] at hk
    by_cases hlt : k < 8 + r.length
    · refine ⟨0, Nat.zero_le _, ?_, by simp [layP], fun i hi hle => ?_⟩
      · rw [layP_cons, List.take_append_of_le_length (by rw [recP_len]; omega), opnP_cut r k hr hlt]
        simp [layP]
      · cases i with
        | zero => exact Nat.le_refl _
        | succ i => rw [List.take_succ_cons, layP_cons, List.length_append, recP_len] at hle; omega
    · obtain ⟨j, h1, h2, h3, h4⟩ := ih (fun x hx => h x (by simp [hx])) (k - (8 + r.length)) (by omega)
      refine ⟨j + 1, by simpa using h1, ?_, ?_, fun i hi hle => ?_⟩
      · have e : (layP (r :: l)).take k = recP r ++ (layP l).take (k - (8 + r.length)) := by
          rw [layP_cons, List.take_append, recP_len, List.take_of_length_le (by rw [recP_len]; omega)]
        rw [e, opnP_rec r _ hr, h2, List.take_succ_cons, layP_cons, List.length_append, recP_len]
      · rw [List.take_succ_cons, layP_cons, List.length_append, recP_len]; omega
      · cases i with
        | zero => omega
        | succ i =>
          rw [List.take_succ_cons, layP_cons, List.length_append, recP_len] at hle
          have := h4 i (by simpa using hi) (by omega)
          omega
end Go.Proofs.YteabdojjllfcpaaGreat

/-
  Chapter 12 as plain functions: a disk of one file, what each call answers and what it leaves.
-/
namespace Go.Proofs.YteabdojjllfcpaaGreat
namespace Dk
def armed (d : Dk) (n : Int) : Dk := if d.down then d else { d with arm := n }
def crash (d : Dk) (keep : Int) : Dk := { d with bs := d.bs.take (d.left keep), syn := min (d.left keep) d.bs.length, arm := 0, down := false }
theorem app_at {d : Dk} (h : d.down = false) (ha : d.arm = 1) (b : List Int) (hf : ((d.bs.length + b.length : Nat) : Int) ≤ d.lim) : d.app b = (false, { d with bs := d.bs ++ b, arm := 0, down := true }) := by
  have hc : d.cal = (false, true, { d with arm := 0, down := true }) := by
    unfold cal
    rw [if_neg (by rw [h]; decide), if_pos (by omega), if_pos ha]
  unfold app
  rw [hc, if_neg (by simp; omega)]
theorem armed_down {d : Dk} (h : d.down = true) (n : Int) : d.armed n = d := by
  unfold armed
  rw [if_pos h]
theorem left_le {d : Dk} (h : d.Ok) (keep : Int) : d.left keep ≤ d.bs.length := by
  have := h.syn
  unfold left
  omega
theorem crash_ok {d : Dk} (h : d.Ok) (keep : Int) : (d.crash keep).Ok := by
  have h2 := h.fits
  unfold crash
  refine ⟨?_, ?_, h.lim⟩
  · simp only [List.length_take]; omega
  · simp only [List.length_take]; omega
end Dk
end Go.Proofs.YteabdojjllfcpaaGreat

/-
  What an operation yields that is looked for only where a test is true.
-/
namespace Go.Proofs.YteabdojjllfcpaaGreat
open Go.RowKit
theorem wants_none {P : Program} {ops : Array Oper} {o : Oper} {a : Act} {w : World} {R : Tell} {g : Nat} {b : Bool} {d : Tmp} (hg : o.guard = some (g, b)) (hd : (ops[g]?).bind (·.dst) = some d) (he : a.eval (.tmp d) = undef) (h : R undef w) : wants P ops o a w R := by
  have h2 : yielded ops a.tmps g = none := by
    unfold yielded
    rw [hd]
    simp only [Option.bind_some]
    have h1 : a.tmps[d]?.getD undef = undef := by simpa [Act.eval] using he
    cases hx : a.tmps[d]? with
    | none => rfl
    | some x =>
      rw [hx, Option.getD_some] at h1
      subst h1
      rfl
  unfold wants
  rw [if_neg (by simp [Region.wanted, hg, h2])]
  exact h
end Go.Proofs.YteabdojjllfcpaaGreat
