/-
  Chapter 13 as plain functions: how records lie, and what is read of any bytes.
-/
import Derived.Test.YtillhpgdlmeajaaGreatDoorQC2
namespace Go.Proofs.YtillhpgdlmeajaaGreatDoor
theorem layP_append (a b : List (List Int)) : layP (a ++ b) = layP a ++ layP b := by simp [layP]
/-- a record that was cut off is torn. -/
theorem opnP_cut (r : List Int) (k : Nat) (h : r.length ≤ 65535) (hk : k < 8 + r.length) : opnP ((recP r).take k) = ([], 0, true) := by
  by_cases h8 : k < 8
  · exact opnP_short (by simp; omega)
  · have e0 : ((recP r).take k).length = k := by rw [List.length_take, recP_len]; omega
    have e1 : num1 ((recP r).take k) = r.length := by
      have := num1_rec r [] h
      rw [List.append_nil] at this
      unfold num1 at this ⊢
      rw [List.take_take, show min 4 k = 4 from by omega]; exact this
    have e2 : num2 ((recP r).take k) = 4294967295 - r.length := by
      have := num2_rec r [] h
      rw [List.append_nil] at this
      unfold num2 at this ⊢
      rw [List.drop_take, List.take_take, show min 4 (k - 4) = 4 from by omega]; exact this
    exact opnP_torn (by omega) (by omega) (by omega) (by omega)
/-- records cut off anywhere: the first ones, whole. -/
theorem opnP_take (l : List (List Int)) (h : ∀ r ∈ l, r.length ≤ 65535) : ∀ k, k ≤ (layP l).length → ∃ j, j ≤ l.length ∧ opnP ((layP l).take k) = (l.take j, (layP (l.take j)).length, true) ∧ (layP (l.take j)).length ≤ k ∧ ∀ i, i ≤ l.length → (layP (l.take i)).length ≤ k → i ≤ j := by
  induction l with
  | nil =>
    intro k hk
    refine ⟨0, Nat.le_refl _, ?_, ?_, fun i hi _ => hi⟩
    · simp [layP, opnP_nil]
    · simp [layP]
  | cons r l ih =>
    intro k hk
    have hr := h r (by simp)
    rw [layP_cons, List.length_append, recP_len] at hk
    by_cases hlt : k < 8 + r.length
    · refine ⟨0, Nat.zero_le _, ?_, by simp [layP], fun i hi hle => ?_⟩
      · rw [layP_cons, List.take_append_of_le_length (by rw [recP_len]; omega), opnP_cut r k hr hlt]
        simp [layP]
      · cases i with
        | zero => exact Nat.le_refl _
        | succ i => rw [List.take_succ_cons, layP_cons, List.length_append, recP_len] at hle; omega
    · obtain ⟨j, h1, h2, h3, h4⟩ := ih (fun x hx => h x (by simp [hx])) (k - (8 + r.length)) (by omega)
      refine ⟨j + 1, by simpa using h1, ?_, ?_, fun i hi hle => ?_⟩
      · have e : (layP (r :: l)).take k = recP r ++ (layP l).take (k - (8 + r.length)) := by
          rw [layP_cons, List.take_append, recP_len, List.take_of_length_le (by rw [recP_len]; omega)]
        rw [e, opnP_rec r _ hr, h2, List.take_succ_cons, layP_cons, List.length_append, recP_len]
      · rw [List.take_succ_cons, layP_cons, List.length_append, recP_len]; omega
      · cases i with
        | zero => omega
        | succ i =>
          rw [List.take_succ_cons, layP_cons, List.length_append, recP_len] at hle
          have := h4 i (by simpa using hi) (by omega)
          omega
end Go.Proofs.YtillhpgdlmeajaaGreatDoor

/-
  Chapter 12 as plain functions: a disk of one file, what each call answers and what it leaves.
-/
namespace Go.Proofs.YtillhpgdlmeajaaGreatDoor
namespace Dk
def armed (d : Dk) (n : Int) : Dk := if d.down then d else { d with arm := n }
def crash (d : Dk) (keep : Int) : Dk := { d with bs := d.bs.take (d.left keep), syn := min (d.left keep) d.bs.length, arm := 0, down := false }
theorem app_at {d : Dk} (h : d.down = false) (ha : d.arm = 1) (b : List Int) (hf : ((d.bs.length + b.length : Nat) : Int) ≤ d.lim) : d.app b = (false, { d with bs := d.bs ++ b, arm := 0, down := true }) := by
  have hc : d.cal = (false, true, { d with arm := 0, down := true }) := by
    unfold cal
    rw [if_neg (by rw [h]; decide), if_pos (by omega), if_pos ha]
  unfold app
  rw [hc, if_neg (by simp; omega)]
theorem armed_down {d : Dk} (h : d.down = true) (n : Int) : d.armed n = d := by
  unfold armed
  rw [if_pos h]
theorem left_le {d : Dk} (h : d.Ok) (keep : Int) : d.left keep ≤ d.bs.length := by
  have := h.syn
  unfold left
  omega
theorem crash_ok {d : Dk} (h : d.Ok) (keep : Int) : (d.crash keep).Ok := by
  have h2 := h.fits
  unfold crash
  refine ⟨?_, ?_, h.lim⟩
  · simp only [List.length_take]; omega
  · simp only [List.length_take]; omega
end Dk
end Go.Proofs.YtillhpgdlmeajaaGreatDoor
