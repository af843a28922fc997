/-
  Helpers of the laws: Cut, Within; how an argument that is a row of bytes is read; what the laid table gives.
-/
import Derived.Test.YtioflclfgkcpfaaDoorKHKnown
import Derived.Test.YtioflclfgkcpfaaDoorRows
import Derived.Deep.Slices
import Derived.Lib.SmallJoins
import Derived.Lib.LaidTab
import Derived.ProofKit
import Derived.LaidMore
import Derived.OpenShut
import Derived.Stop.Joined
import Derived.ShutString
import Derived.ChangeOld
import Derived.Below
namespace Go.Proofs.YtioflclfgkcpfaaDoor
open Go.ChangeShapes Go.WideShapes Go.ChangeAt Go.RowKit
open Go.Deep

theorem cut_any (v : Value) (bs : List Int) (n : Nat) (w : World) (h : Sl w v bs) :
    Calls Tryd.prog 9 #[v, .int .i64 n] w fun e w' => ∃ ao c, e = .returned (.slice ao (bs.take n).length c) ∧ (∀ W, Sl W v bs → Sl W (.slice ao (bs.take n).length c) (bs.take n)) ∧ w' = w := by
  obtain ⟨ao, c, rfl, h1, h2, h3, h4⟩ := h
  unfold maxLen at h2
  clear h4
  by_cases hn : n < bs.length
  · have hlt : (n : Int) < (bs.length : Int) := by omega
    have hc : (n : Int) ≤ (c : Int) := by omega
    have hT := fun W (hs : Sl W (.slice ao bs.length c) bs) => hs.take n (by omega)
    have hl : (bs.take n).length = n := by simp; omega
    rw [hl]
    have HT := hide hT
    clear hT
    go_enter Tryd.func9, Tryd.ntmps9
    go_wp2
    go_ret
    exact ⟨ao, c, rfl, unhide HT, rfl⟩
  · have hlt : ¬ (n : Int) < (bs.length : Int) := by omega
    rw [List.take_of_length_le (by omega)]
    go_enter Tryd.func9, Tryd.ntmps9
    go_wp2
    go_ret
    exact ⟨ao, c, rfl, fun _ hs => hs, rfl⟩

theorem tmod_bd (n m : Int) (hn : n < 0) (hm : 0 < m) : -m < n.tmod m ∧ n.tmod m ≤ 0 := by
  have e : n.tmod m = -((-n) % m) := by
    rw [← Int.tmod_eq_emod_of_nonneg (by omega), Int.neg_tmod, Int.neg_neg]
  rw [e]
  have h1 := Int.emod_nonneg (-n) (show m ≠ 0 by omega)
  have h2 := Int.emod_lt_of_pos (-n) hm
  omega

theorem within_any (n lo hi : Int) (w : World) (h0 : 0 ≤ lo) (h1 : lo ≤ hi) (h2 : hi ≤ 4611686018427387904) (hn : -9223372036854775808 ≤ n ∧ n ≤ 9223372036854775807) :
    Calls Tryd.prog 10 #[.int .i64 n, .int .i64 lo, .int .i64 hi] w fun e w' => ∃ x, e = .returned (.int .i64 x) ∧ lo ≤ x ∧ x ≤ hi ∧ w' = w := by
  have hm : (hi - lo + 1 == 0) = false := beq_eq_false_iff_ne.2 (by omega)
  by_cases a3 : 0 ≤ n
  · have hr : 0 ≤ n % (hi - lo + 1) ∧ n % (hi - lo + 1) < hi - lo + 1 := ⟨Int.emod_nonneg _ (by omega), Int.emod_lt_of_pos _ (by omega)⟩
    obtain ⟨hr1, hr2⟩ := hr
    by_cases a1 : lo ≤ n
    · by_cases a2 : n ≤ hi
      · go_enter Tryd.func10, Tryd.ntmps10
        go_wp2
        go_ret
        exact ⟨n, rfl, a1, a2, rfl⟩
      · go_enter Tryd.func10, Tryd.ntmps10
        go_wp2
        go_ret
        exact ⟨_, rfl, by omega, by omega, rfl⟩
    · go_enter Tryd.func10, Tryd.ntmps10
      go_wp2
      go_ret
      exact ⟨_, rfl, by omega, by omega, rfl⟩
  · obtain ⟨hr1, hr2⟩ := tmod_bd n (hi - lo + 1) (by omega) (by omega)
    by_cases a4 : n.tmod (hi - lo + 1) < 0
    · go_enter Tryd.func10, Tryd.ntmps10
      go_wp2
      go_ret
      exact ⟨_, rfl, by omega, by omega, rfl⟩
    · go_enter Tryd.func10, Tryd.ntmps10
      go_wp2
      go_ret
      exact ⟨_, rfl, by omega, by omega, rfl⟩
section
variable {H : Type} {enc : TypeId × Value → H} {w : World}

theorem bytes_of_trod {v : Value} {fuel : Nat} {x : DataW H × List MemPlace} (h : DataW.trod enc Tryd.prog w 0 (fun _ => true) true fuel 23 [v] = some x) : ∃ bs, Sl w v bs ∧ Bs bs := by
  rcases open_ints Tryd.underlying23 Tryd.underlying5 (by kernel_rfl) h with ⟨hcs, _⟩ | ⟨a, len, cap, zs, hcs, _, hl, hm, hz, _, hcell, hwz⟩
  · simp only [List.cons.injEq, and_true] at hcs
    subst hcs
    exact ⟨[], Sl.nil w, fun b hb => by cases hb⟩
  · simp only [List.cons.injEq, and_true] at hcs
    subst hcs
    simp only [if_true] at hz
    have hlen : (zs.take len).length = len := by simp; omega
    refine ⟨zs.take len, ⟨some a, cap, by rw [hlen], by omega, hm, (fun h => by cases h), fun a' ha j u hu => ?_⟩, fun b hb => bounds_u8 (hwz b (List.mem_of_mem_take hb))⟩
    cases ha
    have hj : j < (zs.take len).length := by have := (List.getElem?_eq_some_iff.1 hu).1; simpa using this
    rw [hcell j (by simp at hj; omega)]
    rw [List.getElem?_map, List.getElem?_take] at hu
    split at hu
    · rw [← hu]
      have : j < zs.length := by omega
      simp [List.getD, List.getElem?_eq_getElem this]
    · cases hu
end


abbrev laid1 : List (String × DataW Unit) := [("broadsheet/hash.roundWords", Rows.laid_broadsheet_hash_roundWords)]
theorem own : ownKnob Tryd.prog.godebug = none := by kernel_rfl
theorem laidOut : laidOutB Tryd.prog = true := by kernel_rfl
set_option maxRecDepth 100000 in
theorem door_met (os : Os) (args : Array Value) : laidMetH Tryd.prog laid1 ((World.doorLaid Tryd.prog 400 os).forCall (fun _ _ => 0) ⟨#[], args, []⟩).memory :=
  laidMetH_of_parts3 (fuel := 8) (laidMet_of_run' 8 (by kernel_rfl) (by kernel_rfl)) (by kernel_rfl) (by kernel_rfl)
set_option maxRecDepth 100000 in
theorem gl_of_laid {W : World} (h : laidMetH Tryd.prog laid1 W) : Gl W := by
  rw [MakeChecks.laidMetH_plain _ _ _ (by kernel_rfl)] at h
  have h2 : laidMet Tryd.prog [("broadsheet/hash.roundWords", Lib.tabData .u32 consts)] W := h
  have hT := Lib.tabIs_of_head (P := Tryd.prog) (g := 0) (t := 75) (e := 22) (n := 64) (by kernel_rfl) (by kernel_rfl) Tryd.underlying75 Tryd.underlying22 (by kernel_rfl) (by kernel_rfl) h2
  have hR : Rw W := by
    intro k hk
    exact hT.cell (by kernel_rfl) k (by simpa [consts] using hk)
  exact ⟨hR, trivial, World.block_lt_of_cell? _ _ (hR 0 (by omega))⟩
end Go.Proofs.YtioflclfgkcpfaaDoor
