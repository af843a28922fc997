/-
  The statement ProofNumbersCardSaid: the law function ProofNumbers returns true; the table hash.roundWords starts as the program's text lays it (tied). No other condition.
-/
import Derived.Test.YtphhofgjnlfjmaaDoorKPInc
import Derived.Test.YtphhofgjnlfjmaaDoorKPKnown
import Derived.Test.YtphhofgjnlfjmaaDoorTie
import Derived.Test.YtphhofgjnlfjmaaDoorCards
import Derived.SevenTiedAt
namespace Go.Proofs.YtphhofgjnlfjmaaDoor.proofNumbers
open Go.ChangeShapes Go.WideShapes Go.ChangeAt Go.RowKit
open Go.Proofs.YtphhofgjnlfjmaaDoor
set_option linter.unusedVariables false

set_option maxRecDepth 100000 in
set_option maxHeartbeats 1500000 in
theorem walk (w : World) (hG : Gl w) :
    Calls Tryd.prog 3 #[] w fun e w' => e = .returned (.bool true) ∧ Below w.heap.size w w' := by
  have HG := hide hG
  clear hG
  go_enter Tryd.func3, Tryd.ntmps3
  go_wp2_with fail
  go_loopw [1] (fun i wr => ∃ k : Nat, k ≤ 20 ∧ i = .int .i64 k ∧ Kp [] w wr) (fun i _ => 20 - (intOf i).toNat)
  case atStart => exact ⟨0, by omega, rfl, Kp.refl _ _⟩
  case round =>
    obtain ⟨N, hN, rfl, Kr⟩ := hrel
    have HKr := hide Kr
    clear Kr
    obtain ⟨wo, hwo⟩ : ∃ wo, wo = wr := ⟨_, rfl⟩
    subst hwo
    by_cases hlt : N < 20
    · have hlt2 : (N : Int) < 20 := by omega
      have HC := hide (kl_any N wo (by omega))
      go_wp2_with fail
      refine (unhide HC).mono ?_
      rintro ee w1 ⟨al, cl, rfl, L1, K1⟩
      have HL1 := hide L1
      have HK1 := hide ((unhide HKr).trans K1)
      clear L1 K1 HC
      go_wp2_with fail
      go_loopw [3] (fun i wr => ∃ k : Nat, k ≤ N + 3 ∧ i = .int .i64 ((k : Int) - 1) ∧ Kp [] w1 wr) (fun i _ => N + 3 - (intOf i + 1).toNat)
      case atStart => exact ⟨0, by omega, rfl, Kp.refl _ _⟩
      case round =>
        obtain ⟨k, hk, rfl, Kq⟩ := hrel
        have HKq := hide Kq
        clear Kq
        by_cases hkt : k < N + 3
        · have hkt2 : (k : Int) - 1 ≤ (N : Int) + 1 := by omega
          have h32 := kleavesP_all N
          have hlen : (kleavesP N).length ≤ 1000 := by rw [kleavesP_len]; omega
          have HI := hide (linclude_any _ (kleavesP N) ((k : Int) - 1) wr ((unhide HL1).kept (unhide HKq)) h32 hlen ((unhide HG).kept ((unhide HK1).trans (unhide HKq)) (by simp)))
          have HJ := hide (fun w' (kk : Kp [] wr w') => lgrow_any _ (kleavesP N) ((k : Int) - 1) w' ((unhide HL1).kept ((unhide HKq).trans kk)) h32 hlen ((unhide HG).kept (((unhide HK1).trans (unhide HKq)).trans kk) (by simp)))
          clear h32 hlen
          go_wp2_with fail
          refine (unhide HI).mono ?_
          rintro ee w2 ⟨rfl, K2⟩
          have HK2 := hide K2
          clear K2 HI
          go_wp2_with fail
          refine (unhide HJ w2 (unhide HK2)).mono ?_
          rintro ee w3 ⟨rfl, K3⟩
          have HK3 := hide K3
          clear K3 HJ
          go_wp2_with fail
          go_roundw
          case rel => exact ⟨k + 1, by omega, by go_num, ((unhide HKq).trans (unhide HK2)).trans (unhide HK3)⟩
          case measure => simp [intOf]; omega
        · have hkt2 : ¬ (k : Int) - 1 ≤ (N : Int) + 1 := by omega
          go_wp2_with fail
          go_roundw
          case rel => exact ⟨N + 1, by omega, by go_num, (unhide HK1).trans (unhide HKq)⟩
          case measure => simp [intOf]; omega
    · have hlt2 : ¬ (N : Int) < 20 := by omega
      have HC := hide (pknown_any wo ((unhide HG).kept (unhide HKr) (by simp)))
      go_wp2_with fail
      refine (unhide HC).mono ?_
      rintro ee w1 ⟨rfl, K1⟩
      have HK1 := hide K1
      clear K1 HC
      go_wp2_with fail
      go_ret
      exact ⟨rfl, ((unhide HKr).trans (unhide HK1)).below (Nat.le_refl _) (by simp)⟩

set_option maxRecDepth 100000 in
theorem lifted (os : Os) (started : os.Started) (H : Type) (enc : TypeId × Value → H) :
    ReturnsInHanded {} Tryd.checked os 3 .any (fun w args => (Rows.proofNumbersSpec.pre enc Tryd.prog Tryd.f3 [] false w args ∧ laidMetH Tryd.prog laid1 w) ∧ sizedMet enc Tryd.prog Tryd.f3 (OpenSpec.ofChange Rows.proofNumbersSpec) false w args) (Rows.proofNumbersSpec.post enc Tryd.prog Tryd.f3 false true false false) := by
  refine returnsInHanded_of_change_and (C := Tryd.checked) (X := fun w _ => laidMetH Tryd.prog laid1 w) (fun _ _ _ hh h => h.of_heap hh) own started (by kernel_rfl) Tryd.func3
    (ChangeSpec.witness_shaped (enc := enc) (C := Tryd.checked) (os := os) (X := fun w _ => laidMetH Tryd.prog laid1 w) false (World.doorLaid Tryd.prog 400 os) #[] 8 rfl (World.shaped_of_RefB (by kernel_rfl) (by kernel_rfl)) (by kernel_rfl) (by kernel_rfl) (by kernel_rfl) (door_met os _)) ?_
  intro W base args ds gs before hval0 hW hcnd hsz0 hL _
  have hG := gl_of_laid hL
  have hval : ∀ (j : Nat) t v, Tryd.f3.params[j]? = some t → args[j]? = some v → Value.okWide Tryd.prog W .any base t v := hval0
  have hW' := hW
  obtain ⟨p, q, hA0, hV, rfl, hfz, hnd⟩ := hW
  have hA : DataW.TrodAll enc Tryd.prog W 0 (fun _ => true) true Tryd.f3.params.toList args.toList ds p := hA0
  rw [Tryd.params3] at hA hval
  obtain ⟨hargs, rfl, rfl⟩ := trodAll_nil hA
  obtain rfl : args = #[] := by cases args; simp_all
  obtain ⟨rfl, rfl⟩ := trodVars_none hV
  clear hA0 hval0
  refine (walk  W hG).mono fun e W' ⟨he, bel⟩ => ?_
  subst he
  exact ⟨_, rfl, _, _, _, [], _, [], hW', trodAll_mk1 (shut_bool Tryd.underlying4 _), trodAll_mk0, rfl, bel.frame _, fun h => by cases h⟩

theorem over : Rows.proofNumbersRow.holds Tryd.pinned (OpenSpec.ofChange Rows.proofNumbersSpec) :=
  OpenClaim.holds_of_wide 3 Tryd.f3 rfl rfl rfl rfl rfl rfl rfl ⟨rfl, rfl, rfl, rfl, rfl⟩ rfl rfl rfl rfl rfl (by kernel_rfl) Tryd.func3 (by kernel_rfl)
    (of_decide_eq_true (by kernel_rfl)) (by unfold Func.isWrapper; first | (rw [if_pos (by decide +kernel)]; kernel_rfl) | (rw [if_neg (by decide +kernel)]; exact ⟨rfl, rfl⟩))
    (fun os started H enc _ => lifted os started H enc)
end Go.Proofs.YtphhofgjnlfjmaaDoor.proofNumbers

namespace Go.Proofs.YtphhofgjnlfjmaaDoor
/-- The given statement: the tied card. -/
theorem ProofNumbers_holds : Rows.ProofNumbersCardSaid :=
  Claim7.holds_tied_plain_at .later [] [.data] true Rows.proofNumbersCard.stood.harness false
    proofNumbers.over (fun _ h => by cases h) (by kernel_rfl) (fun _ h => by cases h) proofNumbers_row_tie rfl ⟨rfl, rfl⟩ (by kernel_rfl) rfl
    (fun f fn hf hfn => by
      obtain rfl : f = 3 := Option.some.inj ((show Tryd.prog.funcNamed "broadsheet/broadsheetlaw8.ProofNumbers" = some 3 by kernel_rfl).symm.trans hf) |>.symm
      obtain rfl : fn = Tryd.f3 := (Option.some.inj (Tryd.func3.symm.trans hfn)).symm
      exact ⟨by kernel_rfl, fun j t ht => by
        rw [Tryd.params3] at ht
        have hm : t ∈ ([] : List TypeId) := by simpa using Array.mem_of_getElem? ht
        have hall : (([] : List TypeId).all fun u => !Tryd.prog.wantsStandIn u) = true := by kernel_rfl
        exact (show Tryd.prog.wantsStandIn t = false by simpa using List.all_eq_true.1 hall t hm)⟩)
    (by kernel_rfl)
#print axioms ProofNumbers_holds
end Go.Proofs.YtphhofgjnlfjmaaDoor
