/-
  The statement ProofTellsCardSaid: for all items and numbers the law function ProofTells returns true and leaves its arguments as they were; the table hash.roundWords starts as the program's text lays it (tied). No other condition.
-/
import Derived.Test.YtphhofgjnlfjmaaDoorKPInc
import Derived.Test.YtphhofgjnlfjmaaDoorKPKnown
import Derived.Test.YtphhofgjnlfjmaaDoorKLMore
import Derived.Test.YtphhofgjnlfjmaaDoorTie
import Derived.Test.YtphhofgjnlfjmaaDoorCards
import Derived.SevenTiedAt
namespace Go.Proofs.YtphhofgjnlfjmaaDoor.proofTells
open Go.ChangeShapes Go.WideShapes Go.ChangeAt Go.RowKit
open Go.Proofs.YtphhofgjnlfjmaaDoor
set_option linter.unusedVariables false

set_option maxRecDepth 100000 in
set_option maxHeartbeats 1500000 in
theorem walk (v0 : Value) (l0 : List (Value × List Int)) (i m : Int) (w : World) (hG : Gl w) (hL0 : Lists w v0 l0) (hi : -9223372036854775808 ≤ i ∧ i ≤ 9223372036854775807) (hm : -9223372036854775808 ≤ m ∧ m ≤ 9223372036854775807) :
    Calls Tryd.prog 4 #[v0, .int .i64 i, .int .i64 m] w fun e w' => e = .returned (.bool true) ∧ Below w.heap.size w w' := by
  have HG := hide hG
  have HB0 := hide hL0.bs
  have HC1 := hide (few_any v0 l0 60 20 w hL0 (by omega))
  obtain ⟨fs, hfs⟩ : ∃ fs, fs = (l0.take (min 60 l0.length)).map fun x => x.2.take 20 := ⟨_, rfl⟩
  have HFS := hide hfs
  have HFL : Hid (fs.length ≤ 60) := by rw [hfs]; exact hide (by simp; omega)
  have HFM : Hid (∀ x ∈ fs, x.length ≤ 1000) := by
    rw [hfs]
    intro x hx
    obtain ⟨y, _, rfl⟩ := List.mem_map.1 hx
    simp; omega
  obtain ⟨ls, hls⟩ : ∃ ls, ls = fs.map tleafP := ⟨_, rfl⟩
  have HLS := hide hls
  have HLN : Hid (ls.length ≤ 60) := by rw [hls]; exact hide (by rw [List.length_map]; exact unhide HFL)
  have HLM : Hid (∀ x ∈ ls, x.length = 32) := by
    rw [hls]
    intro x hx
    obtain ⟨y, _, rfl⟩ := List.mem_map.1 hx
    exact sha_len _
  obtain ⟨al, cl, hv, _⟩ := hL0
  obtain ⟨nl, hnl⟩ : ∃ n, n = l0.length := ⟨_, rfl⟩
  rw [← hnl] at hv
  subst hv
  clear hG hfs hls hnl
  go_enter Tryd.func4, Tryd.ntmps4
  go_wp2_with fail
  refine (unhide HC1).mono ?_
  rintro ee w1 ⟨o1, rfl, F1⟩
  have K1 : Kp [] w w1 := by obtain ⟨_, _, _, h, _⟩ := F1; exact h
  have M1 : LcM fs o1 w1 := by rw [unhide HFS]; exact F1.lc (unhide HB0) (by omega)
  obtain ⟨ao1, co1, hvo, -⟩ := M1.shape
  obtain ⟨no1, hno1⟩ : ∃ n, n = fs.length := ⟨_, rfl⟩
  rw [← hno1] at hvo
  subst hvo
  have HC2 := hide (rleaves_any _ fs w1 M1 (Nat.le_trans (unhide HFL) (by omega)) (unhide HFM))
  have HK1 := hide K1
  clear K1 M1 F1 hno1 HC1
  go_wp2_with fail
  refine (unhide HC2).mono ?_
  rintro ee w2 ⟨a2, m2, c2, rfl, A2⟩
  rw [← unhide HLS] at A2
  have M2 : LcM ls (.slice a2 m2 c2) w2 := A2.lc (Nat.le_trans (unhide HLN) (by omega))
  have hm2 : m2 = ls.length := by obtain ⟨_, _, e, _⟩ := M2.shape; injection e
  have hm60 : m2 ≤ 60 := by rw [hm2]; exact unhide HLN
  have HK2 := hide ((unhide HK1).trans A2.kp)
  have HI := hide (fun (j : Int) w' (kk : Kp [] w2 w') => linclude_any _ ls j w' (M2.kept kk) (unhide HLM) (Nat.le_trans (unhide HLN) (by omega)) ((unhide HG).kept ((unhide HK2).trans kk) (by simp)))
  have HJ := hide (fun (j : Int) w' (kk : Kp [] w2 w') => lgrow_any _ ls j w' (M2.kept kk) (unhide HLM) (Nat.le_trans (unhide HLN) (by omega)) ((unhide HG).kept ((unhide HK2).trans kk) (by simp)))
  have HW := hide (fun (j : Int) (hj : -9223372036854775808 ≤ j ∧ j ≤ 9223372036854775807) w' => within_any j 0 m2 w' (by omega) (by omega) (by omega) hj)
  have HN := hide (fun w' (kk : Kp [] w2 w') => pknown_any w' ((unhide HG).kept ((unhide HK2).trans kk) (by simp)))
  clear A2 M2 hm2 HC2
  go_wp2_with fail
  refine (unhide HI i w2 (Kp.refl _ _)).mono ?_
  rintro ee w3 ⟨rfl, K3⟩
  have HK3 := hide K3
  clear K3
  go_wp2_with fail
  refine (unhide HJ m w3 (unhide HK3)).mono ?_
  rintro ee w4 ⟨rfl, K4⟩
  have HK4 := hide ((unhide HK3).trans K4)
  clear K4
  go_wp2_with fail
  refine (unhide HW i hi w4).mono ?_
  rintro ee w9 ⟨xi, rfl, -, -, hw⟩
  subst w9
  go_wp2_with fail
  refine (unhide HI xi w4 (unhide HK4)).mono ?_
  rintro ee w5 ⟨rfl, K5⟩
  have HK5 := hide ((unhide HK4).trans K5)
  clear K5
  go_wp2_with fail
  refine (unhide HW m hm w5).mono ?_
  rintro ee w9 ⟨xj, rfl, -, -, hw⟩
  subst w9
  go_wp2_with fail
  refine (unhide HJ xj w5 (unhide HK5)).mono ?_
  rintro ee w6 ⟨rfl, K6⟩
  have HK6 := hide ((unhide HK5).trans K6)
  clear K6
  go_wp2_with fail
  refine (unhide HN w6 (unhide HK6)).mono ?_
  rintro ee w7 ⟨rfl, K7⟩
  have HK7 := hide ((unhide HK6).trans K7)
  clear K7
  go_wp2_with fail
  go_ret
  exact ⟨rfl, ((unhide HK2).trans (unhide HK7)).below (Nat.le_refl _) (by simp)⟩

set_option maxRecDepth 100000 in
theorem lifted (os : Os) (started : os.Started) (H : Type) (enc : TypeId × Value → H) :
    ReturnsInHanded {} Tryd.checked os 4 .any (fun w args => (Rows.proofTellsSpec.pre enc Tryd.prog Tryd.f4 [] false w args ∧ laidMetH Tryd.prog laid1 w) ∧ sizedMet enc Tryd.prog Tryd.f4 (OpenSpec.ofChange Rows.proofTellsSpec) false w args) (Rows.proofTellsSpec.post enc Tryd.prog Tryd.f4 false true false false) := by
  refine returnsInHanded_of_change_and (C := Tryd.checked) (X := fun w _ => laidMetH Tryd.prog laid1 w) (fun _ _ _ hh h => h.of_heap hh) own started (by kernel_rfl) Tryd.func4
    (ChangeSpec.witness_shaped (enc := enc) (C := Tryd.checked) (os := os) (X := fun w _ => laidMetH Tryd.prog laid1 w) false (World.doorLaid Tryd.prog 400 os) #[.slice none 0 0, .int .i64 0, .int .i64 0] 8 rfl (World.shaped_of_RefB (by kernel_rfl) (by kernel_rfl)) (by kernel_rfl) (by kernel_rfl) (by kernel_rfl) (door_met os _)) ?_
  intro W base args ds gs before hval0 hW hcnd hsz0 hL _
  have hG := gl_of_laid hL
  have hval : ∀ (j : Nat) t v, Tryd.f4.params[j]? = some t → args[j]? = some v → Value.okWide Tryd.prog W .any base t v := hval0
  have hW' := hW
  obtain ⟨p, q, hA0, hV, rfl, hfz, hnd⟩ := hW
  have hA : DataW.TrodAll enc Tryd.prog W 0 (fun _ => true) true Tryd.f4.params.toList args.toList ds p := hA0
  rw [Tryd.params4] at hA hval
  obtain ⟨v0, vs0, d0, ds0, p0, q0, hargs, rfl, rfl, h0, r0⟩ := trodAll_cons hA
  obtain ⟨v1, vs1, d1, ds1, p1, q1, rfl, rfl, rfl, h1, r1⟩ := trodAll_cons r0
  obtain ⟨v2, vs2, d2, ds2, p2, q2, rfl, rfl, rfl, h2, r2⟩ := trodAll_cons r1
  obtain ⟨rfl, rfl, rfl⟩ := trodAll_nil r2
  obtain rfl : args = #[v0, v1, v2] := by cases args; simp_all
  obtain ⟨rfl, rfl⟩ := trodVars_none hV
  obtain ⟨a0, len0, cap0, rfl⟩ := okWide_slice Tryd.underlying22 (hval 0 22 v0 rfl rfl)
  have k0 := h0
  have lt0 : ∀ x ∈ p0, x.block < W.heap.size := by obtain ⟨m, hm⟩ := k0; exact DataW.trod_lt m _ _ _ hm
  obtain ⟨l0, s0⟩ : ∃ l, Lists W (.slice a0 len0 cap0) l := by
    obtain ⟨fuel, hf⟩ := h0
    exact lists_of_trod (by simpa [Value.cells] using hf)
  obtain ⟨a1, rfl, rfl, rfl, w1⟩ := open_int Tryd.underlying3 (hval 1 3 v1 rfl rfl) h1
  obtain ⟨a2, rfl, rfl, rfl, w2⟩ := open_int Tryd.underlying3 (hval 2 3 v2 rfl rfl) h2
  clear hA0 hval0
  refine (walk (.slice a0 len0 cap0) l0 a1 a2 W hG s0 (bounds_i64 w1) (bounds_i64 w2)).mono fun e W' ⟨he, bel⟩ => ?_
  subst he
  exact ⟨_, rfl, _, _, _, [], _, [], hW', trodAll_mk1 (shut_bool Tryd.underlying4 _), (trodAll_cons_mk (Below.trod laidOut (by kernel_rfl) (of_decide_eq_true (by kernel_rfl)) k0 bel lt0) (trodAll_cons_mk (shut_int Tryd.underlying3 w1) (trodAll_cons_mk (shut_int Tryd.underlying3 w2) trodAll_mk0))), rfl, bel.frame _, fun h => by cases h⟩

theorem over : Rows.proofTellsRow.holds Tryd.pinned (OpenSpec.ofChange Rows.proofTellsSpec) :=
  OpenClaim.holds_of_wide 4 Tryd.f4 rfl rfl rfl rfl rfl rfl rfl ⟨rfl, rfl, rfl, rfl, rfl⟩ rfl rfl rfl rfl rfl (by kernel_rfl) Tryd.func4 (by kernel_rfl)
    (of_decide_eq_true (by kernel_rfl)) (by unfold Func.isWrapper; first | (rw [if_pos (by decide +kernel)]; kernel_rfl) | (rw [if_neg (by decide +kernel)]; exact ⟨rfl, rfl⟩))
    (fun os started H enc _ => lifted os started H enc)
end Go.Proofs.YtphhofgjnlfjmaaDoor.proofTells

namespace Go.Proofs.YtphhofgjnlfjmaaDoor
/-- The given statement: the tied card. -/
theorem ProofTells_holds : Rows.ProofTellsCardSaid :=
  Claim7.holds_tied_plain_at .later [] [.data] true Rows.proofTellsCard.stood.harness false
    proofTells.over (fun _ h => by cases h) (by kernel_rfl) (fun _ h => by cases h) proofTells_row_tie rfl ⟨rfl, rfl⟩ (by kernel_rfl) rfl
    (fun f fn hf hfn => by
      obtain rfl : f = 4 := Option.some.inj ((show Tryd.prog.funcNamed "broadsheet/broadsheetlaw8.ProofTells" = some 4 by kernel_rfl).symm.trans hf) |>.symm
      obtain rfl : fn = Tryd.f4 := (Option.some.inj (Tryd.func4.symm.trans hfn)).symm
      exact ⟨by kernel_rfl, fun j t ht => by
        rw [Tryd.params4] at ht
        have hm : t ∈ ([22, 3, 3] : List TypeId) := by simpa using Array.mem_of_getElem? ht
        have hall : (([22, 3, 3] : List TypeId).all fun u => !Tryd.prog.wantsStandIn u) = true := by kernel_rfl
        exact (show Tryd.prog.wantsStandIn t = false by simpa using List.all_eq_true.1 hall t hm)⟩)
    (by kernel_rfl)
#print axioms ProofTells_holds
end Go.Proofs.YtphhofgjnlfjmaaDoor
