/-
  For every wait and gaps: a queue that is not full is due when its first one is old enough, and not before, whatever came later.
-/
import Derived.Test.YtfepkcjelecpkaaQC9
import Derived.Test.YtfepkcjelecpkaaQOBatchTimes6
namespace Go.Proofs.Ytfepkcjelecpkaa.batchTimes
open Go.ChangeShapes Go.WideShapes Go.ChangeAt Go.RowKit
open Go.Proofs.Ytfepkcjelecpkaa
set_option linter.unusedVariables false
theorem own : ownKnob Try.prog.godebug = none := by kernel_rfl
theorem laidOut : laidOutB Try.prog = true := by kernel_rfl
/-- a queue that is not full, whose first one waits since 0: when it is due. -/
theorem due_two (r t : Int) (ms : List It) (hl : 0 < ms.length) (h7 : ms.length ≤ 7) (h0 : ∀ e, ms.head? = some e → e.at_ = 0) (ht : 0 ≤ t) : Qd.due ⟨r, 8, t, ms⟩ (t - 1) = false ∧ Qd.due ⟨r, 8, t, ms⟩ t = true := by
  cases ms with
  | nil => simp at hl
  | cons x l =>
    have hx := h0 x rfl
    have h8 : decide ((8 : Int) ≤ ((x :: l).length : Int)) = false := decide_eq_false (by omega)
    constructor
    · simp only [Qd.due, h8, hx, oldP, Bool.false_or]
      simp
      omega
    · simp only [Qd.due, h8, hx, oldP, Bool.false_or]
      simp
      omega
set_option maxHeartbeats 4000000 in
set_option maxRecDepth 100000 in
theorem walk (wait : Int) (v0 : Value) (l0 : List Int) (w : World) (hr : -9223372036854775808 ≤ wait ∧ wait ≤ 9223372036854775807) (s0 : IntsK w v0 l0) :
    Calls Try.prog 7 #[.int .i64 wait, v0] w fun e w' => e = .returned (.bool true) ∧ Below w.heap.size w w' := by
  have h1 := wiP_ge wait 0 1000 (by omega)
  have HW1 := hide (within_wi wait 0 1000 w (by omega) (by omega) (by omega))
  obtain ⟨T, hT⟩ : ∃ T, T = wiP wait 0 1000 := ⟨_, rfl⟩
  rw [← hT] at h1 HW1
  clear hT
  have HN := hide (nb_new 16 8 T w (by omega) (by omega) (by omega) (by omega) (by omega) (by omega))
  obtain ⟨al, cl, e0, hll, hcell⟩ := id s0
  obtain ⟨L, hL⟩ : ∃ L, L = l0.length := ⟨_, rfl⟩
  rw [← hL] at e0 hll
  subst e0
  have HL := hide hL
  have HCL := hide hcell
  clear hL hcell s0
  go_enter Try.func7, Try.ntmps7
  go_wp2_with (first
    | (go_at_call 11; refine HW1.out.mono ?_; rintro e w1 ⟨rfl, hw⟩; subst w1; clear HW1)
    | (go_at_call 8; refine HN.out.mono ?_; rintro e w1 ⟨p, rfl, N1⟩; clear HN; have HD := hide (nb_due N1 1073741824 (by omega) (by omega) false rfl); clear N1)
    | (go_at_call 16; refine HD.out.mono ?_; rintro e w2 ⟨rfl, -, N2⟩; clear HD; have HN2 := hide N2; clear N2))
  go_loopw [8, 9] (fun o i wr => ∃ (k : Nat) (nw : Int) (ms : List It), k ≤ 7 ∧ k ≤ L ∧ i = .int .i64 k ∧ o = .int .i64 nw ∧ 0 ≤ nw ∧ nw ≤ 100 * k ∧ ms.length = k ∧ Hid (∀ e : It, (ms ++ [It.mk [] nw]).head? = some e → e.at_ = 0) ∧ Nb w wr p ⟨16, 8, T, ms⟩) (fun _ i _ => 7 - (intOf i).toNat)
  case atStart => exact ⟨0, 0, [], by omega, by omega, rfl, rfl, by omega, by omega, rfl, fun e he => by simp at he; rw [← he], HN2.out⟩
  case round =>
    obtain ⟨k, nw, ms, hk, hkL, rfl, rfl, hn0, hn1, hml, HF, NK⟩ := hrel
    have HNK := hide NK
    have HML := hide hml
    clear NK HN2 hml
    by_cases hgo : k < L ∧ k < 7
    · obtain ⟨hlt, hlt7⟩ := hgo
      have hlt2 : (k : Int) < (L : Int) := by omega
      have hlt3 : (k : Int) < 7 := by omega
      have h8 : IntKind.u8.wrap (k : Int) = k := by simp [IntKind.wrap, IntKind.signed, IntKind.bits]; omega
      obtain ⟨b, off, rfl, c0⟩ := HCL.out k (by rw [← HL.out]; exact hlt)
      generalize l0[k]'(by rw [← HL.out]; exact hlt) = g at c0
      have hg := wiP_ge g 0 100 (by omega)
      have HWG := hide (fun w' => within_wi g 0 100 w' (by omega) (by omega) (by omega))
      obtain ⟨G, hG⟩ : ∃ G, G = wiP g 0 100 := ⟨_, rfl⟩
      rw [← hG] at hg HWG
      have hDU := due_two 16 T (ms ++ [It.mk [(k : Int)] nw]) (by simp) (by have := HML.out; simp; omega) (fun e he => by
        cases ms with
        | nil => simp at he; rw [← he]; exact HF.out (It.mk [] nw) rfl
        | cons x l => exact HF.out e (by simpa using he)) h1.1
      have HDA := hide hDU.1
      have HDB := hide hDU.2
      have HFN : Hid (∀ e : It, ((ms ++ [It.mk [(k : Int)] nw]) ++ [It.mk [] (nw + G)]).head? = some e → e.at_ = 0) := fun e he => by
        cases ms with
        | nil => simp at he; rw [← he]; exact HF.out (It.mk [] nw) rfl
        | cons x l => exact HF.out e (by simpa using he)
      have HMN : Hid ((ms ++ [It.mk [(k : Int)] nw]).length = k + 1) := by show _ = _; have := HML.out; simp; omega
      have HP := hide (nb_put (HNK.out.keptN ((Kp.refl [] wr).alloc (.cells #[.int .u8 (k : Int)] 5 (0, 0)))) nw (by show (ms.length : Int) < 16; rw [HML.out]; omega) (lit_sl wr [(k : Int)] 1 (0, 0) rfl (by omega)) (fun b hb => by simp at hb; omega) (by simp) (by omega) (by omega) ⟨16, 8, T, ms ++ [It.mk [(k : Int)] nw]⟩ rfl)
      have hT1 := h1.1
      have hT2 := h1.2
      have hG1 := hg.1
      have hG2 := hg.2
      clear hG hg h1 hDU
      go_wp2_with (first
        | (go_at_call 12; refine HP.out.mono ?_; rintro e w3 ⟨rfl, N3, -⟩; clear HP; have HD1 := hide (nb_due N3 (T - 1) (by omega) (by omega) false HDA.out.symm); clear N3)
        | (go_at_call 16; refine HD1.out.mono ?_; rintro e w4 ⟨rfl, -, N4⟩; clear HD1; have HD2 := hide (nb_due N4 T (by omega) (by omega) true HDB.out.symm); clear N4)
        | (go_at_call 16; refine HD2.out.mono ?_; rintro e w5 ⟨rfl, -, N5⟩; clear HD2; have d0 := N5.kp.cell c0 (by simp); have HN5 := hide N5; clear N5)
        | (go_at_call 11; refine (HWG.out _).mono ?_; rintro e w6 ⟨rfl, hw⟩; subst w6))
      go_roundw
      case rel => exact ⟨k + 1, nw + G, _, by omega, by omega, by go_num, by go_num, by omega, by omega, HMN.out, HFN.out, HN5.out⟩
      case measure => simp [intOf]; omega
    · have hgo' : (¬ (k : Int) < (L : Int)) ∨ ((k : Int) < (L : Int) ∧ ¬ (k : Int) < 7) := by omega
      clear hgo
      rcases hgo' with hgo | ⟨hgo, hgo2⟩
      all_goals
        go_wp2_with (go_at_call 10; refine (bknown_any _).mono ?_; rintro e w5 ⟨rfl, k5⟩)
        go_ret
        exact ⟨rfl, (HNK.out.kp.trans k5).below (Nat.le_refl _) (by simp)⟩
set_option maxRecDepth 100000 in
theorem lifted (os : Os) (started : os.Started) (H : Type) (enc : TypeId × Value → H) :
    ReturnsInHanded {} Try.checked os 7 .any (Rows.batchTimesSpec.pre6 enc Try.prog Try.f7 Rows.batchTimesRow.domain false) (Rows.batchTimesSpec.post enc Try.prog Try.f7 false true false false) := by
  refine returnsInHanded_of_change (C := Try.checked) own started (by kernel_rfl) Try.func7
    (ChangeSpec.witness6 (enc := enc) (C := Try.checked) false ⟨#[], #[.int .i64 0, .slice none 0 0], []⟩ 8 (by kernel_rfl) (by kernel_rfl) (by kernel_rfl) (by kernel_rfl)) ?_
  intro W base args ds gs before hval0 hW hcnd _
  have hval : ∀ (j : Nat) t v, Try.f7.params[j]? = some t → args[j]? = some v → Value.okWide Try.prog W .any base t v := hval0
  have hW' := hW
  obtain ⟨p, q, hA0, hV, rfl, hfz, hnd⟩ := hW
  have hA : DataW.TrodAll enc Try.prog W 0 (fun _ => true) true Try.f7.params.toList args.toList ds p := hA0
  rw [Try.params7] at hA hval
  obtain ⟨v0, vs0, d0, ds0, p0, q0, hargs, rfl, rfl, h0, r0⟩ := trodAll_cons hA
  obtain ⟨v1, vs1, d1, ds1, p1, q1, rfl, rfl, rfl, h1, r1⟩ := trodAll_cons r0
  obtain ⟨rfl, rfl, rfl⟩ := trodAll_nil r1
  obtain rfl : args = #[v0, v1] := by cases args; simp_all
  obtain ⟨rfl, rfl⟩ := trodVars_none hV
  obtain ⟨a0, rfl, rfl, rfl, w0⟩ := open_int Try.underlying3 (hval 0 3 v0 rfl rfl) h0
  obtain ⟨a1, len1, cap1, rfl⟩ := okWide_slice Try.underlying22 (hval 1 22 v1 rfl rfl)
  have k1 := h1
  have lt1 : ∀ x ∈ p1, x.block < W.heap.size := by obtain ⟨m, hm⟩ := k1; exact DataW.trod_lt m _ _ _ hm
  obtain ⟨l1, s1⟩ : ∃ l, IntsK W (.slice a1 len1 cap1) l := by
    obtain ⟨fuel, hf⟩ := h1
    exact intsK_of_trod (by simpa [Value.cells] using hf)
  clear hA0 hval0
  refine (walk a0 (.slice a1 len1 cap1) l1 W (bounds_i64 w0) s1).mono fun e W' ⟨he, bel⟩ => ?_
  subst he
  exact ⟨_, rfl, _, _, _, [], _, [], hW', trodAll_mk1 (shut_bool Try.underlying4 _), (trodAll_cons_mk (shut_int Try.underlying3 w0) (trodAll_cons_mk (Below.trod laidOut (by kernel_rfl) (of_decide_eq_true (by kernel_rfl)) k1 bel lt1) trodAll_mk0)), rfl, bel.frame _, fun h => by cases h⟩
theorem over : Rows.batchTimesRow.holds Try.pinned (OpenSpec.ofChange Rows.batchTimesSpec) :=
  OpenClaim.holds_of_wide 7 Try.f7 rfl rfl rfl rfl rfl rfl rfl ⟨rfl, rfl, rfl, rfl, rfl⟩ rfl rfl rfl rfl rfl (by kernel_rfl) Try.func7 (by kernel_rfl)
    (of_decide_eq_true (by kernel_rfl)) (by unfold Func.isWrapper; first | (rw [if_pos (by decide +kernel)]; kernel_rfl) | (rw [if_neg (by decide +kernel)]; exact ⟨rfl, rfl⟩))
    (fun os started H enc _ => lifted os started H enc)
end Go.Proofs.Ytfepkcjelecpkaa.batchTimes
namespace Go.Proofs.Ytfepkcjelecpkaa
/-- The given statement. -/
theorem BatchTimes_holds : Rows.BatchTimesSaid := batchTimes.over
#print axioms BatchTimes_holds
end Go.Proofs.Ytfepkcjelecpkaa
