/-
  What stands on a box's disk between its calls, and behind a crash.
-/
import Derived.Test.YtillhpgdlmeajaaGreatDoorKKArg
namespace Go.Proofs.YtillhpgdlmeajaaGreatDoor
/-- n keys were told, power goes at the a-th call. -/
def upD (n : Nat) (a : Int) : Dk := ⟨klay n, (klay n).length, 1048576, a, false⟩
/-- power went while the n-th was taken: its record may be lost. -/
def dnD (n : Nat) : Dk := ⟨klay (n + 1), (klay n).length, 1048576, 0, true⟩
def Stn (d : Dk) (n : Nat) : Prop := n ≤ 16 ∧ ((∃ a, 0 ≤ a ∧ d = upD n a) ∨ (n < 16 ∧ d = dnD n))
theorem upD_arm (n : Nat) (a : Int) (h : 0 ≤ a) : (upD n 0).armed (max a 0) = upD n a := by
  unfold Dk.armed
  rw [if_neg (by show ¬ false = true; decide)]
  show (⟨klay n, (klay n).length, 1048576, max a 0, false⟩ : Dk) = _
  rw [show max a 0 = a by omega]
  rfl
theorem upD_fits {n : Nat} (a : Int) (h : n < 16) : (((upD n a).bs.length + (recP [(n : Int)]).length : Nat) : Int) ≤ (upD n a).lim := by
  show (((klay n).length + (recP [(n : Int)]).length : Nat) : Int) ≤ 1048576
  rw [klay_len, recP_len]; simp; omega
theorem stn_take {d : Dk} {n : Nat} (h : Stn d n) (hn : n < 16) : ∃ er d', d.add (recP [(n : Int)]) = (er, d') ∧ Stn d' (if er then n + 1 else n) := by
  obtain ⟨-, ⟨a, ha, rfl⟩ | ⟨-, rfl⟩⟩ := h
  · by_cases h0 : a = 0
    · subst h0
      refine ⟨true, upD (n + 1) 0, ?_, by simp; omega, .inl ⟨0, Int.le_refl 0, rfl⟩⟩
      have := Dk.add_up (d := upD n 0) rfl (Int.le_refl 0) (recP [(n : Int)]) (upD_fits 0 hn)
      rw [this]
      show (true, (⟨klay n ++ recP [(n : Int)], (klay n ++ recP [(n : Int)]).length, 1048576, 0, false⟩ : Dk)) = _
      rw [← klay_succ]
      rfl
    · by_cases h1 : a = 1
      · subst h1
        refine ⟨false, dnD n, ?_, by simp; omega, .inr ⟨hn, rfl⟩⟩
        unfold Dk.add
        rw [Dk.app_at (d := upD n 1) rfl rfl (recP [(n : Int)]) (upD_fits 1 hn), if_neg (by simp)]
        show (false, (⟨klay n ++ recP [(n : Int)], (klay n).length, 1048576, 0, true⟩ : Dk)) = _
        rw [← klay_succ]
        rfl
      · have hc : (upD n a).cal = (true, false, upD n (a - 1)) := by
          unfold Dk.cal
          rw [if_neg (by show ¬ false = true; decide), if_pos (by show 0 < a; omega), if_neg (by show ¬ a = 1; omega)]
          rfl
        have happ : (upD n a).app (recP [(n : Int)]) = (true, ⟨klay (n + 1), (klay n).length, 1048576, a - 1, false⟩) := by
          have := upD_fits a hn
          unfold Dk.app
          rw [hc, if_neg (by simp; omega)]
          show (true, (⟨klay n ++ recP [(n : Int)], (klay n).length, 1048576, a - 1, false⟩ : Dk)) = _
          rw [← klay_succ]
        by_cases h2 : a = 2
        · subst h2
          refine ⟨false, dnD n, ?_, by simp; omega, .inr ⟨hn, rfl⟩⟩
          unfold Dk.add
          rw [happ, if_pos rfl]
          rfl
        · refine ⟨true, upD (n + 1) (a - 2), ?_, by simp; omega, .inl ⟨a - 2, by omega, rfl⟩⟩
          unfold Dk.add
          rw [happ, if_pos rfl]
          have hc2 : (⟨klay (n + 1), (klay n).length, 1048576, a - 1, false⟩ : Dk).cal = (true, false, ⟨klay (n + 1), (klay n).length, 1048576, a - 1 - 1, false⟩) := by
            unfold Dk.cal
            rw [if_neg (by show ¬ false = true; decide), if_pos (by show 0 < a - 1; omega), if_neg (by show ¬ a - 1 = 1; omega)]
          show Dk.sync _ = _
          unfold Dk.sync
          rw [hc2, if_pos rfl]
          show (true, (⟨klay (n + 1), (klay (n + 1)).length, 1048576, a - 1 - 1, false⟩ : Dk)) = _
          rw [show a - 1 - 1 = a - 2 by omega]
          rfl
  · exact ⟨false, dnD n, Dk.add_down rfl _, by simp; omega, .inr ⟨hn, rfl⟩⟩
/-- a disk as it stands between crashes: so many keys are on it. -/
structure Rst (d : Dk) (m : Nat) : Prop where
  le : m ≤ 16
  down : d.down = false
  arm : d.arm ≤ 0
  opn : ∃ at_, opnP d.bs = (keyL m, at_, true)
  cut : d.opn = upD m 0
theorem rst0 : Rst (dkOn []) 0 := ⟨by omega, rfl, Int.le_refl 0, ⟨0, klay_opn 0⟩, klay_dk 0⟩
theorem stn_crash {d : Dk} {n : Nat} (h : Stn d n) (keep : Int) : ∃ m, n ≤ m ∧ Rst (d.crash keep) m := by
  obtain ⟨hn, ⟨a, ha, rfl⟩ | ⟨hn', rfl⟩⟩ := h
  · obtain ⟨q, jj, h1, h2, h3, h4, h5, h6⟩ := crash_lay (keyL n) [] keep (keyL_short n) (by simp)
    rw [List.append_nil] at h1 h2 h5 h6
    have e : (upD n a).crash keep = (⟨layP (keyL n), (layP (keyL n)).length, 1048576, 0, false⟩ : Dk).crash keep := rfl
    rw [keyL_len] at h3 h4
    simp only [List.length_nil, Nat.add_zero] at h4
    rw [keyL_take (by omega)] at h5 h6
    refine ⟨jj, by omega, ?_⟩
    rw [e, h2]
    exact ⟨by omega, rfl, Int.le_refl 0, ⟨_, h5⟩, h6⟩
  · obtain ⟨q, jj, h1, h2, h3, h4, h5, h6⟩ := crash_lay (keyL n) [[(n : Int)]] keep (keyL_short n) (by simp)
    rw [← keyL_succ] at h1 h2 h5 h6
    have e : (dnD n).crash keep = (⟨layP (keyL (n + 1)), (layP (keyL n)).length, 1048576, 0, false⟩ : Dk).crash keep := rfl
    rw [keyL_len] at h3 h4
    simp only [List.length_cons, List.length_nil, Nat.zero_add] at h4
    rw [keyL_take (by omega)] at h5 h6
    refine ⟨jj, by omega, ?_⟩
    rw [e, h2]
    exact ⟨by omega, rfl, Int.le_refl 0, ⟨_, h5⟩, h6⟩
end Go.Proofs.YtillhpgdlmeajaaGreatDoor
