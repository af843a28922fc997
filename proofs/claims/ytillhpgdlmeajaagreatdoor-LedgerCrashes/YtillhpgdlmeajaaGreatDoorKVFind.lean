/-
  The contract of the reference ledger's Find.
-/
import Derived.Test.YtillhpgdlmeajaaGreatDoorKUArg
namespace Go.Proofs.YtillhpgdlmeajaaGreatDoor
open Go.RowKit
open Go.Proofs
set_option linter.unusedVariables false

theorem fdU_none {l : List (List Int)} {x : List Int} (h : fdU l x = -1) : x ∉ l := fun hm => by
  unfold fdU at h
  rw [if_pos hm] at h
  omega
set_option maxRecDepth 100000 in
set_option maxHeartbeats 4000000 in
theorem rfind_any (p : Nat) (va : Value) (la : List (Value × List Int)) (vx : Value) (x : List Int) (r : Int) (w : World) (hc : w.cell? ⟨p, 0, none⟩ = some va) (hL : Lists w va la) (hS : Sl w vx x) (hB : Bs x) (hl : la.length ≤ 1000000) (hr : r = fdU (la.map (·.2)) x) :
    Calls Tryz.prog 65 #[.pointer (some ⟨p, 0, none⟩), vx] w fun e w' => e = .returned (.int .i64 r) ∧ Kp [] w w' := by
  have HBx := hide hB
  have HR := hide hr
  obtain ⟨ax, cx, hvx, -⟩ := id hS
  obtain ⟨nx, hnx⟩ : ∃ n, n = x.length := ⟨_, rfl⟩
  rw [← hnx] at hvx
  subst hvx
  have HSx := hide hS
  obtain ⟨aa, ca, rfl, -, hcell⟩ := hL
  have HC := hide hcell
  obtain ⟨N, hN⟩ : ∃ N, N = la.length := ⟨_, rfl⟩
  have HN := hide hN
  rw [← hN] at hc hl
  have HCp := hide hc
  clear hcell hN hB hr hS hnx hc
  go_enter Tryz.func65, Tryz.ntmps65
  go_wp2_with fail
  go_loopw [5] (fun j wr => ∃ i : Nat, i ≤ N ∧ j = .int .i64 i ∧ Hid (x ∉ (la.map (·.2)).take i) ∧ Hid (Kp [] w wr)) (fun j _ => N - (intOf j).toNat)
  case atStart => exact ⟨0, by omega, rfl, hide (by simp), hide (Kp.refl _ _)⟩
  case round =>
    obtain ⟨i, hi, rfl, HNi, HK⟩ := hrel
    have hcp := HK.out.cell HCp.out (by simp)
    by_cases hlt : i < N
    · have hi' : (i : Int) < (N : Int) := by omega
      have hdi : decide ((i : Int) < (N : Int)) = true := decide_eq_true hi'
      have hil : i < la.length := by rw [← HN.out]; exact hlt
      obtain ⟨b1, o1, rfl, hc1, hS1, hB1⟩ := HC.out i hil
      have HKd := hide (HK.out.trans (kp_drew _))
      have d0 := HKd.out.cell HCp.out (by simp)
      have d1 := HKd.out.cell hc1 (by simp)
      have v1 := (hS1.kept HKd.out (by simp)).conv (P := Tryz.prog) 22 9 5 Tryz.underlying22 Tryz.underlying5 Tryz.underlying9
      have v2 := (HSx.out.kept HKd.out (by simp)).conv (P := Tryz.prog) 22 9 5 Tryz.underlying22 Tryz.underlying5 Tryz.underlying9
      have htk : (la.map (·.2)).take (i + 1) = (la.map (·.2)).take i ++ [la[i].2] := by
        have := List.take_succ_eq_append_getElem (l := la.map (·.2)) (i := i) (by rw [List.length_map]; exact hil)
        rw [this, List.getElem_map]
      have hall : la.map (·.2) = ((la.map (·.2)).take i ++ [la[i].2]) ++ (la.map (·.2)).drop (i + 1) := by rw [← htk, List.take_append_drop]
      have hli : ((la.map (·.2)).take i).length = i := by rw [List.length_take, List.length_map]; omega
      obtain ⟨bi, hbi⟩ : ∃ x, x = la[i].2 := ⟨_, rfl⟩
      obtain ⟨vi, hvi⟩ : ∃ x, x = la[i].1 := ⟨_, rfl⟩
      rw [← hbi] at hS1 hB1 v1 htk hall
      rw [← hvi] at hS1 d1 v1
      obtain ⟨ai, ci, hvi', -⟩ := hS1
      obtain ⟨mi, hmi⟩ : ∃ n, n = bi.length := ⟨_, rfl⟩
      rw [← hmi] at hvi'
      subst hvi'
      have HTk := hide htk
      have HAl := hide hall
      have HLi := hide hli
      by_cases hxy : bi = x
      · subst hxy
        obtain ⟨S1, hS1⟩ : ∃ S, S = strOfNums bi := ⟨_, rfl⟩
        rw [← hS1] at v1 v2
        clear hS1 hbi hvi hmi htk hall hli hB1 hil hc1 hcp
        have hcp := HK.out.cell HCp.out (by simp)
        go_wp2_with fail
        refine region_read Tryz.mixed (by kernel_rfl) ?_
        repeat (first | go_big_quiet_skip | (go_big_quiet_want; go_big_quiet_op; go_big_quiet_on))
        refine wpQuiet_nil ?_
        go_wp2_with fail
        go_ret
        refine ⟨?_, HKd.out⟩
        rw [HR.out, HAl.out]
        unfold fdU
        rw [if_pos (by simp), idx_pre (by simp), idx_post HNi.out, HLi.out]
        simp
      · have hss := str_beq bi x hB1 HBx.out
        rw [decide_eq_false hxy] at hss
        have HXy := hide hxy
        obtain ⟨S1, hS1⟩ : ∃ S, S = strOfNums bi := ⟨_, rfl⟩
        obtain ⟨S2, hS2⟩ : ∃ S, S = strOfNums x := ⟨_, rfl⟩
        rw [← hS1, ← hS2] at hss
        rw [← hS1] at v1
        rw [← hS2] at v2
        clear hS1 hS2 hbi hvi hmi htk hall hli hB1 hil hc1 hxy
        go_wp2_with fail
        refine region_read Tryz.mixed (by kernel_rfl) ?_
        repeat (first | go_big_quiet_skip | (go_big_quiet_want; go_big_quiet_op; go_big_quiet_on))
        refine wpQuiet_nil ?_
        go_wp2_with fail
        go_roundw
        case rel => exact ⟨i + 1, by omega, by go_num, hide (by rw [HTk.out]; simp only [List.mem_append, List.mem_singleton, not_or]; exact ⟨HNi.out, fun e => HXy.out e.symm⟩), HKd⟩
        case measure => simp [intOf]; omega
    · obtain rfl : i = N := by omega
      have hi' : ¬ (i : Int) < (i : Int) := by omega
      have hdi : decide ((i : Int) < (i : Int)) = false := decide_eq_false hi'
      have hnm : x ∉ la.map (·.2) := by
        have := HNi.out
        rwa [List.take_of_length_le (by rw [List.length_map, HN.out]; omega)] at this
      have HNm := hide hnm
      clear hnm
      go_wp2_with fail
      go_ret
      refine ⟨?_, HK.out⟩
      rw [HR.out]
      unfold fdU
      rw [if_neg HNm.out]
      rfl
end Go.Proofs.YtillhpgdlmeajaaGreatDoor
