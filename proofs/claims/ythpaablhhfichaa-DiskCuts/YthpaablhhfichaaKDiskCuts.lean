/-
  DiskCuts: a cut keeps the first bytes, and they are synced.
-/
import Derived.Test.YthpaablhhfichaaKDLaw
import Derived.ShutString
import Derived.ChangeOld
import Derived.Below
namespace Go.Proofs.Ythpaablhhfichaa.diskCuts
open Go.ChangeShapes Go.WideShapes Go.ChangeAt Go.RowKit
open Go.Proofs.Ythpaablhhfichaa
set_option linter.unusedVariables false

theorem own : ownKnob Try.prog.godebug = none := by kernel_rfl
theorem laidOut : laidOutB Try.prog = true := by kernel_rfl
set_option maxHeartbeats 4000000 in
set_option maxRecDepth 100000 in
theorem walk (v0 : Value) (l0 : List Int) (n keep : Int) (w : World) (s0 : Sl w v0 l0) (b0 : Bs l0) (hn : -9223372036854775808 ≤ n ∧ n ≤ 9223372036854775807) (hkp : -9223372036854775808 ≤ keep ∧ keep ≤ 9223372036854775807) :
    Calls Try.prog 8 #[v0, .int .i64 n, .int .i64 keep] w fun e w' => e = .returned (.bool true) ∧ Below w.heap.size w w' := by
  obtain ⟨a0, c0, e0, hc1, hc2, hc3, -⟩ := id s0
  obtain ⟨L, hL⟩ : ∃ L, L = l0.length := ⟨_, rfl⟩
  rw [← hL] at e0
  subst e0
  obtain ⟨B, hB⟩ : ∃ B, B = l0.take 300 := ⟨_, rfl⟩
  obtain ⟨m, hm⟩ : ∃ m, m = min L 300 := ⟨_, rfl⟩
  have hBl : B.length = m := by rw [hB, hm, hL]; simp; omega
  have HBB : Hid (Bs B) := by rw [hB]; exact b0.takes _
  have HS : Hid (∀ w', Kp [] w w' → Sl w' (.slice a0 m c0) B) := fun w' k => by
    have := cutv_sl 300 (s0.kept k (by simp))
    rw [hB, hm]; exact this
  have HC : Hid (∀ w', Kp [] w w' → Calls Try.prog 19 #[.slice a0 L c0, .int .i64 300] w' fun e w'' => e = .returned (.slice a0 m c0) ∧ w'' = w') := fun w' k => by
    rw [hm]; exact cutv_any a0 L c0 300 l0 w' (s0.kept k (by simp))
  have hm3 : (m : Int) ≤ 300 := by omega
  have hmc : m ≤ c0 := by omega
  have hwi := wiP_ge n 0 m (by omega)
  obtain ⟨k, hk⟩ : ∃ k : Nat, (k : Int) = wiP n 0 m := ⟨(wiP n 0 m).toNat, by omega⟩
  have hkm : (k : Int) ≤ (m : Int) := by omega
  have HW : Hid (∀ w', Calls Try.prog 12 #[.int .i64 n, .int .i64 0, .int .i64 m] w' fun e w'' => e = .returned (.int .i64 k) ∧ w'' = w') := fun w' => by
    rw [hk]; exact within_wi n 0 m w' (by omega) (by omega) (by omega)
  obtain ⟨C, hC⟩ : ∃ C, C = B.take k := ⟨_, rfl⟩
  have hCl : C.length = k := by rw [hC]; simp; omega
  have HSC : Hid (∀ w', Kp [] w w' → Sl w' (.slice a0 k c0) C) := fun w' kk => by
    rw [hC]; exact (HS.out w' kk).take k (by omega)
  have HA : Hid ((dk0 1000).app B = (true, ⟨B, 0, 1000, 0, false⟩)) := by
    show _ = _
    rw [Dk.app_plain rfl (Int.le_refl 0) B (by show ((0 + B.length : Nat) : Int) ≤ 1000; omega)]; rfl
  have HC1 : Hid (Dk.cut ⟨B, 0, 1000, 0, false⟩ k = (0, ⟨C, k, 1000, 0, false⟩)) := by
    show _ = _
    rw [Dk.cut_plain rfl (Int.le_refl 0) _ (by omega) (by show (k : Int) ≤ (B.length : Nat); omega), Int.toNat_natCast, hC]
  have HC2 : Hid (Dk.cut ⟨C, k, 1000, 0, false⟩ (k + 1) = (1, ⟨C, k, 1000, 0, false⟩)) := Dk.cut_bad rfl _ (.inr (by show ((C.length : Nat) : Int) < _; omega))
  have HC3 : Hid (Dk.cut ⟨C, k, 1000, 0, false⟩ (-1) = (1, ⟨C, k, 1000, 0, false⟩)) := Dk.cut_bad rfl _ (.inl (by omega))
  have HCR : Hid (Dk.crash ⟨C, k, 1000, 0, false⟩ keep = ⟨C, k, 1000, 0, false⟩) := by
    show _ = _
    have hl : Dk.left ⟨C, k, 1000, 0, false⟩ keep = k := by show k + min keep.toNat (C.length - k) = k; omega
    unfold Dk.crash
    rw [hl]
    show (⟨C.take k, min k C.length, 1000, 0, false⟩ : Dk) = _
    rw [List.take_of_length_le (by omega), show min k C.length = k from by omega]
  have HCL := hide hCl
  obtain ⟨T, hT⟩ : ∃ T, T = strOfNums C := ⟨_, rfl⟩
  have HT := hide hT
  have hN := hide (nw_new 1000 w (by omega) (by omega))
  have hk1 : ¬ 9223372036854775807 < (k : Int) + 1 := by omega
  clear hB hm hL hk hC hCl hT hwi s0 b0 hc1 hc2 hBl
  go_enter Try.func8, Try.ntmps8
  go_wp2_with (first
    | (go_at_call 9; refine hN.out.mono ?_; rintro e w1 ⟨p, rfl, N1⟩; clear hN; have HN1 := hide N1; clear N1)
    | (go_at_call 19; refine (HC.out w1 HN1.out.kp).mono ?_; rintro e w2 ⟨rfl, hw⟩; subst w2; clear HC)
    | (go_at_call 14; refine (nw_append HN1.out (HS.out w1 HN1.out.kp) HBB.out true HA.out 0 rfl).mono ?_; rintro e w2 ⟨rfl, v2, N2, -⟩; have HN2 := hide N2; clear HN1 N2)
    | (go_at_call 12; refine (HW.out w2).mono ?_; rintro e w3 ⟨rfl, hw⟩; subst w3; clear HW)
    | (go_at_call 22; refine (nw_cut HN2.out k 0 HC1.out).mono ?_; rintro e w3 ⟨rfl, v3, N3, -⟩; have HN3 := hide N3; clear HN2 N3 HC1)
    | (go_at_call 22; refine (nw_cut HN3.out (k + 1) 1 HC2.out).mono ?_; rintro e w4 ⟨rfl, v4, N4, -⟩; have HN4 := hide N4; clear HN3 N4 HC2)
    | (go_at_call 22; refine (nw_cut HN4.out (-1) 1 HC3.out).mono ?_; rintro e w5 ⟨rfl, v5, N5, -⟩; have HN5 := hide N5; clear HN4 N5 HC3)
    | (go_at_call 18; refine (synced_any p _ _ _ w5 HN5.out.dk).mono ?_; rintro e w6 ⟨rfl, hw⟩; subst w6)
    | (go_at_call 16; refine (nw_crash HN5.out keep HCR.out).mono ?_; rintro e w6 ⟨rfl, v6, N6, -⟩; have HN6 := hide N6; clear HN5 N6 HCR))
  have HD : Hid (∀ w', Kp [] w6.drew w' → DskP w' w.heap.size p v6 ⟨C, k, 1000, 0, false⟩) := fun w' k' => HN6.out.dk.keptN ((kp_drew w6).trans k')
  have HZ : Hid (∀ w', Kp [] w6.drew w' → Sl w' (.slice a0 k c0) C) := fun w' k' => HSC.out w' (HN6.out.kp.trans ((kp_drew w6).trans k'))
  refine region_grow Try.mixed [Is (.pointer (some ⟨p, 0, none⟩)), SlT (C), Is (.string T), Is (.slice a0 m c0), Is (.int .i64 k), Is (.slice a0 k c0), Is (.string T), Is (.bool true), Is (.bool true), Is (.pointer (some ⟨p, 0, none⟩)), Is (.int .i64 k), Is (.int .i64 k), Is (.bool true), Is (.bool true), Is (.bool true), Is (.bool true), Is (.bool true), Is (.bool true)] [[(7, none)], [(57, some 0)], [(58, some 1)], [(0, none)], [(9, none)], [(60, some 3), (61, some 4)], [(62, some 5)], [(59, some 2), (63, some 6)], [(64, some 7)], [(7, none), (65, some 8)], [(66, some 9), (65, some 8)], [(9, none), (65, some 8)], [(67, some 10), (68, some 11), (65, some 8)], [(65, some 8), (69, some 12)], [(70, some 13)], [(71, some 14)], [(71, some 14), (72, some 15)], [(73, some 16)]] (by kernel_rfl) ?_ ?_ ?_
  · simp only [List.mem_cons, List.not_mem_nil, or_false]
    intro R hR
    rcases hR with rfl | rfl | rfl | rfl | rfl | rfl | rfl | rfl | rfl | rfl | rfl | rfl | rfl | rfl | rfl | rfl | rfl | rfl <;> first | exact stable_is _ | exact stable_sl _
  · refine steps_cons (fun a w hk hn => ?_) ?_
    · have h7 : a.eval (.tmp 7) = .pointer (some ⟨p, 0, none⟩) := hn.1
      clear hn
      refine wants_plain rfl ?_
      exact grown_move (.tmp 7) rfl h7
    refine steps_cons (fun a w hk hn => ?_) ?_
    · have h57 : a.eval (.tmp 57) = .pointer (some ⟨p, 0, none⟩) := hn.1
      clear hn
      refine wants_plain rfl ?_
      refine grown_call (f := 17) rfl Try.func17 (by kernel_rfl) (by kernel_rfl) ?_
      simp only [List.map_toArray, List.map_cons, List.map_nil, h57]
      refine (dbytes_any p v6 _ _ w (unhide HD w hk)).mono ?_
      rintro e w' ⟨ao, m, c, rfl, R, K⟩
      exact ⟨_, rfl, K, R.sl⟩
    refine steps_cons (fun a w hk hn => ?_) ?_
    · have h58 : Sl w (a.eval (.tmp 58)) (C) := hn.1
      clear hn
      refine wants_plain rfl ?_
      exact grown_conv (.tmp 58) _ _ 5 _ rfl h58 Try.underlying28 Try.underlying5 Try.underlying9 (congrArg Value.string (unhide HT).symm)
    refine steps_cons (fun a w hk hn => ?_) ?_
    · have h0 : a.eval (.tmp 0) = .slice a0 m c0 := hn.1
      clear hn
      refine wants_plain rfl ?_
      exact grown_move (.tmp 0) rfl h0
    refine steps_cons (fun a w hk hn => ?_) ?_
    · have h9 : a.eval (.tmp 9) = .int .i64 k := hn.1
      clear hn
      refine wants_plain rfl ?_
      exact grown_move (.tmp 9) rfl h9
    refine steps_cons (fun a w hk hn => ?_) ?_
    · have h60 : a.eval (.tmp 60) = .slice a0 m c0 := hn.1
      have h61 : a.eval (.tmp 61) = .int .i64 k := hn.2.1
      clear hn
      refine wants_plain rfl ?_
      exact grown_bfirst (.tmp 60) (.tmp 61) rfl a0 m c0 k h60 h61 (by omega) hc3
    refine steps_cons (fun a w hk hn => ?_) ?_
    · have h62 : a.eval (.tmp 62) = .slice a0 k c0 := hn.1
      clear hn
      refine wants_plain rfl ?_
      exact grown_conv (.tmp 62) _ _ 5 (C) rfl (by rw [h62]; exact unhide HZ w hk) Try.underlying28 Try.underlying5 Try.underlying9 (congrArg Value.string (unhide HT).symm)
    refine steps_cons (fun a w hk hn => ?_) ?_
    · have h59 : a.eval (.tmp 59) = .string T := hn.1
      have h63 : a.eval (.tmp 63) = .string T := hn.2.1
      clear hn
      refine wants_plain rfl ?_
      refine grown_run (v := .bool true) ?_ (Kp.refl _ _) rfl
      obtain ⟨ρ, hρ, hc, hf, hg⟩ := eval_is a
      rw [hρ] at h59 h63 ⊢
      simp [go_sem, h59, h63]
    refine steps_cons (fun a w hk hn => ?_) ?_
    · have h64 : a.eval (.tmp 64) = .bool true := hn.1
      clear hn
      refine wants_plain rfl ?_
      exact grown_move (.tmp 64) rfl h64
    refine steps_cons (fun a w hk hn => ?_) ?_
    · have h7 : a.eval (.tmp 7) = .pointer (some ⟨p, 0, none⟩) := hn.1
      have h65 : a.eval (.tmp 65) = .bool true := hn.2.1
      clear hn
      refine wants_guard (d := 65) rfl rfl h65 ?_
      exact grown_move (.tmp 7) rfl h7
    refine steps_cons (fun a w hk hn => ?_) ?_
    · have h66 : a.eval (.tmp 66) = .pointer (some ⟨p, 0, none⟩) := hn.1
      have h65 : a.eval (.tmp 65) = .bool true := hn.2.1
      clear hn
      refine wants_guard (d := 65) rfl rfl h65 ?_
      refine grown_call (f := 23) rfl Try.func23 (by kernel_rfl) (by kernel_rfl) ?_
      simp only [List.map_toArray, List.map_cons, List.map_nil, h66]
      refine (sizen_any p v6 _ _ w (unhide HD w hk) k (unhide HCL)).mono ?_
      rintro e w' ⟨rfl, rfl⟩
      exact ⟨_, rfl, Kp.refl _ _, rfl⟩
    refine steps_cons (fun a w hk hn => ?_) ?_
    · have h9 : a.eval (.tmp 9) = .int .i64 k := hn.1
      have h65 : a.eval (.tmp 65) = .bool true := hn.2.1
      clear hn
      refine wants_guard (d := 65) rfl rfl h65 ?_
      exact grown_move (.tmp 9) rfl h9
    refine steps_cons (fun a w hk hn => ?_) ?_
    · have h67 : a.eval (.tmp 67) = .int .i64 k := hn.1
      have h68 : a.eval (.tmp 68) = .int .i64 k := hn.2.1
      have h65 : a.eval (.tmp 65) = .bool true := hn.2.2.1
      clear hn
      refine wants_guard (d := 65) rfl rfl h65 ?_
      refine grown_run (v := .bool true) ?_ (Kp.refl _ _) rfl
      obtain ⟨ρ, hρ, hc, hf, hg⟩ := eval_is a
      rw [hρ] at h67 h68 ⊢
      simp [go_sem, h67, h68]
    refine steps_cons (fun a w hk hn => ?_) ?_
    · have h65 : a.eval (.tmp 65) = .bool true := hn.1
      have h69 : a.eval (.tmp 69) = .bool true := hn.2.1
      clear hn
      refine wants_plain rfl ?_
      exact grown_pick _ _ _ true rfl h65 h69
    refine steps_cons (fun a w hk hn => ?_) ?_
    · have h70 : a.eval (.tmp 70) = .bool true := hn.1
      clear hn
      refine wants_plain rfl ?_
      exact grown_move (.tmp 70) rfl h70
    refine steps_cons (fun a w hk hn => ?_) ?_
    · have h71 : a.eval (.tmp 71) = .bool true := hn.1
      clear hn
      refine wants_guard (d := 71) rfl rfl h71 ?_
      refine grown_call (f := 11) rfl Try.func11 (by kernel_rfl) (by kernel_rfl) ?_
      simp only [List.map_toArray, List.map_nil]
      refine (dknown_any w).mono ?_
      rintro e w' ⟨rfl, K⟩
      exact ⟨_, rfl, K, rfl⟩
    refine steps_cons (fun a w hk hn => ?_) ?_
    · have h71 : a.eval (.tmp 71) = .bool true := hn.1
      have h72 : a.eval (.tmp 72) = .bool true := hn.2.1
      clear hn
      refine wants_plain rfl ?_
      exact grown_pick _ _ _ true rfl h71 h72
    refine steps_cons (fun a w hk hn => ?_) ?_
    · have h73 : a.eval (.tmp 73) = .bool true := hn.1
      clear hn
      refine wants_plain rfl ?_
      exact grown_assign (.tmp 73) rfl h73
    exact trivial
  intro W1 hkW1
  rintro _ rfl
  intro v58 h58
  rintro _ rfl
  rintro _ rfl
  rintro _ rfl
  rintro _ rfl
  rintro _ rfl
  rintro _ rfl
  rintro _ rfl
  rintro _ rfl
  rintro _ rfl
  rintro _ rfl
  rintro _ rfl
  rintro _ rfl
  rintro _ rfl
  rintro _ rfl
  rintro _ rfl
  rintro _ rfl
  refine fin_nil ?_
  simp only [Act.put, List.set_cons_zero, List.set_cons_succ, List.setIfInBounds_toArray]
  go_wp2_with fail
  go_ret
  exact ⟨rfl, (HN6.out.kp.trans ((kp_drew w6).trans hkW1)).below (Nat.le_refl _) (by simp)⟩

set_option maxRecDepth 100000 in
theorem lifted (os : Os) (started : os.Started) (H : Type) (enc : TypeId × Value → H) :
    ReturnsInHanded {} Try.checked os 8 .any (Rows.diskCutsSpec.pre6 enc Try.prog Try.f8 Rows.diskCutsRow.domain false) (Rows.diskCutsSpec.post enc Try.prog Try.f8 false true false false) := by
  refine returnsInHanded_of_change (C := Try.checked) own started (by kernel_rfl) Try.func8
    (ChangeSpec.witness6 (enc := enc) (C := Try.checked) false ⟨#[], #[.slice none 0 0, .int .i64 0, .int .i64 0], []⟩ 8 (by kernel_rfl) (by kernel_rfl) (by kernel_rfl) (by kernel_rfl)) ?_
  intro W base args ds gs before hval0 hW hcnd _
  have hval : ∀ (j : Nat) t v, Try.f8.params[j]? = some t → args[j]? = some v → Value.okWide Try.prog W .any base t v := hval0
  have hW' := hW
  obtain ⟨p, q, hA0, hV, rfl, hfz, hnd⟩ := hW
  have hA : DataW.TrodAll enc Try.prog W 0 (fun _ => true) true Try.f8.params.toList args.toList ds p := hA0
  rw [Try.params8] at hA hval
  obtain ⟨v0, vs0, d0, ds0, p0, q0, hargs, rfl, rfl, h0, r0⟩ := trodAll_cons hA
  obtain ⟨v1, vs1, d1, ds1, p1, q1, rfl, rfl, rfl, h1, r1⟩ := trodAll_cons r0
  obtain ⟨v2, vs2, d2, ds2, p2, q2, rfl, rfl, rfl, h2, r2⟩ := trodAll_cons r1
  obtain ⟨rfl, rfl, rfl⟩ := trodAll_nil r2
  obtain rfl : args = #[v0, v1, v2] := by cases args; simp_all
  obtain ⟨rfl, rfl⟩ := trodVars_none hV
  obtain ⟨a0, len0, cap0, rfl⟩ := okWide_slice Try.underlying28 (hval 0 28 v0 rfl rfl)
  have k0 := h0
  have lt0 : ∀ x ∈ p0, x.block < W.heap.size := by obtain ⟨m, hm⟩ := k0; exact DataW.trod_lt m _ _ _ hm
  obtain ⟨l0, s0, b0⟩ : ∃ bs, Sl W (.slice a0 len0 cap0) bs ∧ Bs bs := by
    obtain ⟨fuel, hf⟩ := h0
    exact bytes_of_trod (by simpa [Value.cells] using hf)
  obtain ⟨a1, rfl, rfl, rfl, w1⟩ := open_int Try.underlying3 (hval 1 3 v1 rfl rfl) h1
  obtain ⟨a2, rfl, rfl, rfl, w2⟩ := open_int Try.underlying3 (hval 2 3 v2 rfl rfl) h2
  clear hA0 hval0
  refine (walk (.slice a0 len0 cap0) l0 a1 a2 W s0 b0 (bounds_i64 w1) (bounds_i64 w2)).mono fun e W' ⟨he, bel⟩ => ?_
  subst he
  exact ⟨_, rfl, _, _, _, [], _, [], hW', trodAll_mk1 (shut_bool Try.underlying4 _), (trodAll_cons_mk (Below.trod laidOut (by kernel_rfl) (of_decide_eq_true (by kernel_rfl)) k0 bel lt0) (trodAll_cons_mk (shut_int Try.underlying3 w1) (trodAll_cons_mk (shut_int Try.underlying3 w2) trodAll_mk0))), rfl, bel.frame _, fun h => by cases h⟩

theorem over : Rows.diskCutsRow.holds Try.pinned (OpenSpec.ofChange Rows.diskCutsSpec) :=
  OpenClaim.holds_of_wide 8 Try.f8 rfl rfl rfl rfl rfl rfl rfl ⟨rfl, rfl, rfl, rfl, rfl⟩ rfl rfl rfl rfl rfl (by kernel_rfl) Try.func8 (by kernel_rfl)
    (of_decide_eq_true (by kernel_rfl)) (by unfold Func.isWrapper; first | (rw [if_pos (by decide +kernel)]; kernel_rfl) | (rw [if_neg (by decide +kernel)]; exact ⟨rfl, rfl⟩))
    (fun os started H enc _ => lifted os started H enc)
end Go.Proofs.Ythpaablhhfichaa.diskCuts

namespace Go.Proofs.Ythpaablhhfichaa
/-- The given statement. -/
theorem DiskCuts_holds : Rows.DiskCutsSaid := diskCuts.over
#print axioms DiskCuts_holds
end Go.Proofs.Ythpaablhhfichaa
