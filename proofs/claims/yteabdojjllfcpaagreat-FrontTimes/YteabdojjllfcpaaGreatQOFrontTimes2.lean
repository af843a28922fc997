/-
  For every wait, number and time: a batch that is not full is taken when its first one has waited long enough, and not before.
-/
import Derived.Test.YteabdojjllfcpaaGreatQOFrontTimes1
namespace Go.Proofs.YteabdojjllfcpaaGreat.frontTimes
open Go.ChangeShapes Go.WideShapes Go.ChangeAt Go.RowKit
open Go.Proofs.YteabdojjllfcpaaGreat
set_option linter.unusedVariables false
theorem own : ownKnob Tryz.prog.godebug = none := by kernel_rfl
open Go.Proofs
/-- k of them since t, one behind the other. -/
def tmI (t : Int) (k : Nat) : List It := (List.range k).map (fun i => ⟨itK i, t + (i : Int)⟩)
theorem tmI_len (t : Int) (k : Nat) : (tmI t k).length = k := by simp [tmI]
theorem tmI_succ (t : Int) (k : Nat) : tmI t (k + 1) = tmI t k ++ [⟨itK k, t + (k : Int)⟩] := by simp [tmI, List.range_succ]
theorem tmI_bs (t : Int) (k : Nat) : (tmI t k).map It.bs = rcK k := by simp [tmI, rcK, Function.comp_def]
def tmS (T t : Int) (k : Nat) : FS := ⟨16, 8, T, tmI t k, rcK k, dkOn (layP (rcK k)), k⟩
theorem tmS_sub (T t : Int) (k : Nat) (hk : k < 7) : subP [] (tmS T t k) (itK k) (t + (k : Int)) = (1, (k : Int), tmS T t (k + 1)) := by
  rw [subP_new (D := layP (rcK k)) (itK_ok k) (by simp) (by rw [any_same, tmS, tmI_bs]; exact decide_eq_false (rcK_new (by omega))) (by show ((tmI t k).length : Int) < 16; rw [tmI_len]; omega) rfl (by rw [recP_len]; have := layK_len k; have := itK_len k; omega)]
  unfold tmS FS.put
  simp only [rcK_len, tmI_succ, rcK_succ, layP_snoc]
theorem due_at (T t : Int) (k : Nat) (h0 : 0 < k) (h7 : k ≤ 7) (hT : 0 ≤ T) (ht : 0 ≤ t) : (tmS T t k).q.due (t + T - 1) = false ∧ (tmS T t k).q.due (t + T) = true := by
  have hl := tmI_len t k
  have h8 : decide ((8 : Int) ≤ ((tmI t k).length : Int)) = false := decide_eq_false (by omega)
  obtain ⟨k', rfl⟩ : ∃ k', k = k' + 1 := ⟨k - 1, by omega⟩
  have hc : tmI t (k' + 1) = ⟨itK 0, t⟩ :: (tmI t (k' + 1)).tail := by
    simp [tmI, List.range_succ_eq_map]
  rw [hc] at h8 hl
  have e : (tmS T t (k' + 1)).q = ⟨16, 8, T, ⟨itK 0, t⟩ :: (tmI t (k' + 1)).tail⟩ := by
    unfold tmS FS.q
    simp only
    rw [← hc]
  rw [e]
  constructor
  · simp only [Qd.due, h8, oldP, Bool.false_or]
    simp
    omega
  · simp only [Qd.due, h8, oldP, Bool.false_or]
    simp
    omega
set_option maxHeartbeats 16000000 in
set_option maxRecDepth 100000 in
theorem walk (wait n now : Int) (w : World) (hr : -9223372036854775808 ≤ wait ∧ wait ≤ 9223372036854775807) (hs : -9223372036854775808 ≤ n ∧ n ≤ 9223372036854775807) (hn : -9223372036854775808 ≤ now ∧ now ≤ 9223372036854775807) :
    Calls Tryz.prog 8 #[.int .i64 wait, .int .i64 n, .int .i64 now] w fun e w' => e = .returned (.bool true) ∧ Below w.heap.size w w' := by
  have h1 := wiP_ge wait 0 1000 (by omega)
  have h2 := wiP_ge n 1 7 (by omega)
  have h3 := wiP_ge now 0 1048576 (by omega)
  have HW1 := hide (within_wi wait 0 1000 w (by omega) (by omega) (by omega))
  have HW2 := hide (within_wi n 1 7 w (by omega) (by omega) (by omega))
  have HW3 := hide (fun w => within_wi now 0 1048576 w (by omega) (by omega) (by omega))
  obtain ⟨T, hT⟩ : ∃ T, T = wiP wait 0 1000 := ⟨_, rfl⟩
  obtain ⟨t, ht⟩ : ∃ t, t = wiP now 0 1048576 := ⟨_, rfl⟩
  obtain ⟨N, hN⟩ : ∃ N : Nat, (N : Int) = wiP n 1 7 := ⟨(wiP n 1 7).toNat, by omega⟩
  rw [← hT] at h1 HW1
  rw [← ht] at h3 HW3
  rw [← hN] at h2 HW2
  obtain ⟨hT0, hT1⟩ := h1
  obtain ⟨hN0, hN1⟩ := h2
  obtain ⟨ht0, ht1⟩ := h3
  clear hT ht hN hr hs hn
  have HO := hide (open0_any 16 8 T w (by omega) (by omega) (by omega) (by omega) hT0 hT1)
  go_enter Tryz.func8, Tryz.ntmps8
  go_wp2_with fail
  refine HW1.out.mono ?_
  rintro ee w1 ⟨rfl, hw⟩
  subst w1
  clear HW1
  go_wp2_with fail
  refine HW2.out.mono ?_
  rintro ee w1 ⟨rfl, hw⟩
  subst w1
  clear HW2
  go_wp2_with fail
  refine HO.out.mono ?_
  rintro ee w1 ⟨x, p, l, pd, pl, pk, g, f, pw, rfl, Z1, -⟩
  have HZ1 : Hid (Wz w w1 x p l pd pl pk (tmS T t 0) (ls0 (seedX 0)) g f (.pointer (some ⟨pw, 0, none⟩)) (.slice none 0 0) (.slice none 0 0)) := Z1
  clear HO Z1
  go_wp2_with fail
  refine (HW3.out w1).mono ?_
  rintro ee w2 ⟨rfl, hw⟩
  subst w2
  clear HW3
  go_wp2_with fail
  obtain ⟨vw, hvw⟩ : ∃ v, v = Value.pointer (some ⟨pw, 0, none⟩) := ⟨_, rfl⟩
  rw [← hvw] at HZ1
  clear hvw
  go_loopw [11] (fun i wr => ∃ k : Nat, k ≤ N ∧ i = .int .i64 k ∧ ∃ g', Wz w wr x p l pd pl pk (tmS T t k) (ls0 (seedX 0)) g' f vw (.slice none 0 0) (.slice none 0 0)) (fun i _ => N - (intOf i).toNat)
  case atStart => exact ⟨0, by omega, rfl, g, HZ1.out⟩
  case round =>
    obtain ⟨k, hk, rfl, g2, Zk⟩ := hrel
    have HZk := hide Zk
    clear Zk HZ1
    by_cases hlt : k < N
    · have hlt' : (k : Int) < (N : Int) := by omega
      have HQ4 : Hid (IntKind.i64.wrap ((k : Int) / 4) = (k : Int) / 4) := hide (by simp [IntKind.wrap, IntKind.signed, IntKind.bits]; omega)
      have HTk : Hid (IntKind.i64.wrap (t + (k : Int)) = t + (k : Int)) := hide (by simp [IntKind.wrap, IntKind.signed, IntKind.bits]; omega)
      have HWd : Hid (∀ w', Kp [] wr.drew w' → Wd w' x (.pointer (some ⟨p, 0, none⟩)) (.pointer (some ⟨l, 0, none⟩)) (.pointer (some ⟨pd, 0, none⟩)) (.pointer (some ⟨pl, 0, none⟩)) (.pointer (some ⟨pk, 0, none⟩)) 16 8 T vw (.slice none 0 0) (.slice none 0 0)) := fun w' k => (HZk.out.on ((kp_drew wr).trans k)).at_
      go_wp2_with fail
      refine region_grow_tail 11 Tryz.mixed [Is (.pointer (some ⟨x, 0, none⟩)), Is (.pointer (some ⟨x, 0, none⟩)), Is (.pointer (some ⟨x, 0, none⟩)), Is (.pointer (some ⟨p, 0, none⟩)), Is (.int .i64 (k : Int)), Is (.int .i64 (k : Int)), Is (.int .i64 ((k : Int) / 4)), RO wr.drew.heap.size (itK k), Is (.int .i64 t), Is (.int .i64 (k : Int)), Is (.int .i64 (t + (k : Int)))] [[(9, none)], [(31, some 0)], [(32, some 1)], [(33, some 2)], [(11, none)], [(11, none)], [(36, some 5)], [(35, some 4), (37, some 6)], [(10, none)], [(11, none)], [(39, some 8), (40, some 9)]] (by kernel_rfl) ?_ ?_ ?_
      all_goals try simp only [List.take_succ_cons, List.take_zero, List.drop_succ_cons, List.drop_zero]
      · simp only [List.mem_cons, List.not_mem_nil, or_false]
        intro R hR
        rcases hR with rfl | rfl | rfl | rfl | rfl | rfl | rfl | rfl | rfl | rfl | rfl <;> first | exact stable_is _ | exact stable_ro _ _
      · refine steps_cons (fun a w hk hn => ?_) ?_
        · have h9 : a.eval (.tmp 9) = .pointer (some ⟨x, 0, none⟩) := hn.1
          clear hn
          refine wants_plain rfl ?_
          exact grown_move (.tmp 9) rfl h9
        refine steps_cons (fun a w hk hn => ?_) ?_
        · have h31 : a.eval (.tmp 31) = .pointer (some ⟨x, 0, none⟩) := hn.1
          clear hn
          refine wants_plain rfl ?_
          refine grown_run (v := .pointer (some ⟨x, 0, none⟩)) ?_ (Kp.refl _ _) rfl
          obtain ⟨ρ, hρ, hc, hf, hg⟩ := eval_is a
          rw [hρ] at h31 ⊢
          simp [go_sem, h31]
        refine steps_cons (fun a w hk hn => ?_) ?_
        · have h32 : a.eval (.tmp 32) = .pointer (some ⟨x, 0, none⟩) := hn.1
          clear hn
          refine wants_plain rfl ?_
          refine grown_run (v := .pointer (some ⟨x, 0, none⟩)) ?_ (Kp.refl _ _) rfl
          obtain ⟨ρ, hρ, hc, hf, hg⟩ := eval_is a
          rw [hρ] at h32 ⊢
          simp [go_sem, h32]
        refine steps_cons (fun a w hk hn => ?_) ?_
        · have h33 : a.eval (.tmp 33) = .pointer (some ⟨x, 0, none⟩) := hn.1
          clear hn
          refine wants_plain rfl ?_
          refine grown_run (v := .pointer (some ⟨p, 0, none⟩)) ?_ (Kp.refl _ _) rfl
          have hcell : w.cell? ⟨x, 0, none⟩ = some (.pointer (some ⟨p, 0, none⟩)) := by rw [cell_of_row w x 0 _ _ _ (HWd.out w hk)]; rfl
          obtain ⟨ρ, hρ, hc, hf, hg⟩ := eval_is a
          rw [hρ] at h33 ⊢
          simp [go_sem, h33, hcell]
        refine steps_cons (fun a w hk hn => ?_) ?_
        · have h11 : a.eval (.tmp 11) = .int .i64 (k : Int) := hn.1
          clear hn
          refine wants_plain rfl ?_
          exact grown_move (.tmp 11) rfl h11
        refine steps_cons (fun a w hk hn => ?_) ?_
        · have h11 : a.eval (.tmp 11) = .int .i64 (k : Int) := hn.1
          clear hn
          refine wants_plain rfl ?_
          exact grown_move (.tmp 11) rfl h11
        refine steps_cons (fun a w hk hn => ?_) ?_
        · have h36 : a.eval (.tmp 36) = .int .i64 (k : Int) := hn.1
          clear hn
          refine wants_plain rfl ?_
          refine grown_run (v := .int .i64 ((k : Int) / 4)) ?_ (Kp.refl _ _) rfl
          obtain ⟨ρ, hρ, hc, hf, hg⟩ := eval_is a
          rw [hρ] at h36 ⊢
          simp [go_sem, hc, h36, HQ4.out]
        refine steps_cons (fun a w hk hn => ?_) ?_
        · have h35 : a.eval (.tmp 35) = .int .i64 (k : Int) := hn.1
          have h37 : a.eval (.tmp 37) = .int .i64 ((k : Int) / 4) := hn.2.1
          clear hn
          refine wants_plain rfl ?_
          refine grown_call (f := 15) rfl Tryz.func15 (by kernel_rfl) (by kernel_rfl) ?_
          simp only [List.map_toArray, List.map_cons, List.map_nil, h35, h37]
          refine (kitem_any (k : Int) ((k : Int) / 4) 0 w).mono ?_
          rintro e w' ⟨ao, m, c, rfl, R, K⟩
          exact ⟨_, rfl, K, ⟨ao, m, c, rfl, R.sl, fun i hi => Nat.le_trans hk.size (R.own i hi)⟩⟩
        refine steps_cons (fun a w hk hn => ?_) ?_
        · have h10 : a.eval (.tmp 10) = .int .i64 t := hn.1
          clear hn
          refine wants_plain rfl ?_
          exact grown_move (.tmp 10) rfl h10
        refine steps_cons (fun a w hk hn => ?_) ?_
        · have h11 : a.eval (.tmp 11) = .int .i64 (k : Int) := hn.1
          clear hn
          refine wants_plain rfl ?_
          exact grown_move (.tmp 11) rfl h11
        refine steps_cons (fun a w hk hn => ?_) ?_
        · have h39 : a.eval (.tmp 39) = .int .i64 t := hn.1
          have h40 : a.eval (.tmp 40) = .int .i64 (k : Int) := hn.2.1
          clear hn
          refine wants_plain rfl ?_
          refine grown_run (v := .int .i64 (t + (k : Int))) ?_ (Kp.refl _ _) rfl
          obtain ⟨ρ, hρ, hc, hf, hg⟩ := eval_is a
          rw [hρ] at h39 h40 ⊢
          simp [go_sem, h39, h40, HTk.out]
        exact trivial
      intro W1 hkW1
      rintro _ rfl
      rintro _ rfl
      rintro _ rfl
      rintro _ rfl
      rintro _ rfl
      rintro _ rfl
      rintro _ rfl
      intro v38 h38
      rintro _ rfl
      rintro _ rfl
      rintro _ rfl
      refine fin_nil ?_
      simp only [Act.put, List.set_cons_zero, List.set_cons_succ, List.setIfInBounds_toArray]
      obtain ⟨av, mv, cv, ev, Sv, Nv⟩ := h38
      subst ev
      have ZW := HZk.out.on ((kp_drew wr).trans hkW1)
      have HSub := hide (wz_sub ZW (.slice av mv cv) (itK k) Sv (itK_bs k) (by have := itK_len k; omega) (fun i hi e => by
        have h1 := Nv i hi
        have h2 := HZk.out.low i (.inl e)
        exact absurd (show wr.drew.heap.size = wr.heap.size from rfl) (by omega)) (t + (k : Int)) (by omega) (by omega) (by show (rcK k).length ≤ 1000; rw [rcK_len]; omega) (by show k ≤ 1000; omega) _ _ _ (tmS_sub T t k (by omega)))
      clear HZk hkW1 Sv Nv ZW HWd HQ4 HTk
      go_wp2_with fail
      refine HSub.out.mono ?_
      rintro ee w4 ⟨rfl, g4, Z4, -⟩
      have HZ4 := hide Z4
      clear HSub Z4
      go_wp2_with (refine wpList_ansK rfl (.tmp 42) rfl 1 (k : Int) rfl ?_)
      go_roundw
      case rel => exact ⟨k + 1, by omega, by go_num, g4, HZ4.out⟩
      case measure => simp [intOf]; omega
    · have hkn : k = N := by omega
      have hnlt : ¬ (k : Int) < (N : Int) := by omega
      subst hkn
      have hdue := due_at T t k (by omega) (by omega) hT0 ht0
      have hdue2 := hide hdue.2
      have hwA : IntKind.i64.wrap (t + T) = t + T := by simp [IntKind.wrap, IntKind.signed, IntKind.bits]; omega
      have hwB : IntKind.i64.wrap (t + T - 1) = t + T - 1 := by simp [IntKind.wrap, IntKind.signed, IntKind.bits]; omega
      have hc0 := HZk.out.at_.c0
      have HS1 := hide (wz_step_no HZk.out (t + T - 1) (by omega) (by omega) hdue.1)
      clear hdue
      go_wp2_with fail
      refine HS1.out.mono ?_
      rintro ee w5 ⟨rfl, K5⟩
      have Z5 := HZk.out.on K5
      have hc0' := Z5.at_.c0
      have hadd : (ls0 (seedX 0)).dd.add (recP (batU (rcK k))) = (true, dkOn ([] ++ recP (batU (rcK k)))) := Dk.add_on [] _ (by
        rw [recP_len]
        have h2 := batU_len (rcK k) 125 (fun x hx => (rcK_bs x hx).2)
        rw [rcK_len] at h2
        have h3 : k * (2 + 125) ≤ 7 * (2 + 125) := Nat.mul_le_mul_right _ (by omega)
        simp only [List.length_nil]
        omega)
      have HS2 := hide (wz_step Z5 (t + T) (by omega) (by omega) hdue2.out k (by show k = min (8 : Int).toNat (tmI t k).length; rw [tmI_len]; omega) (by omega) (rcK k) (by show rcK k = ((tmI t k).take k).map It.bs; rw [List.take_of_length_le (by rw [tmI_len]; exact Nat.le_refl _), tmI_bs]) (by simpa [ls0] using rcK_nodup (by omega)) (by simp [ls0, rcK_len]; omega) (by simp [ls0]) (by show (tmI t k).length ≤ 500; rw [tmI_len]; omega) true _ hadd 0 rfl _ rfl _ rfl)
      clear HS1 K5 Z5 hadd hdue2 hc0 HZk
      go_wp2_with fail
      refine HS2.out.mono ?_
      rintro ee w6 ⟨u, rfl, hu, g6, f6, Z6, -, -⟩
      have hu : RowI w6 w5.heap.size u (seqF 0 k) := hu
      obtain ⟨au, cu, hus⟩ : ∃ au cu, u = .slice au k cu := by
        have hl : (seqF 0 k).length = k := by simp [seqF]
        obtain ⟨au, cu, e, -⟩ := hu.ints (by omega)
        rw [hl] at e
        exact ⟨au, cu, e⟩
      subst hus
      have hc1 := Z6.at_.c1
      have HZs := hide (usize_any Z6.bo.lg (k : Int) (by simp [ls0, rcK_len]))
      have HKp := hide Z6.bo.kp
      have HKn := hide (fknown_any w6)
      clear HS2 hu Z6 hc0'
      go_wp2_with fail
      refine HZs.out.mono ?_
      rintro ee w7 ⟨rfl, hw⟩
      subst w7
      clear HZs
      go_wp2_with fail
      refine HKn.out.mono ?_
      rintro ee w8 ⟨rfl, K8⟩
      have HK8 := hide (HKp.out.trans K8)
      clear HKn K8
      go_wp2_with fail
      go_ret
      exact ⟨rfl, HK8.out.below (Nat.le_refl _) (by simp)⟩
set_option maxRecDepth 100000 in
theorem lifted (os : Os) (started : os.Started) (H : Type) (enc : TypeId × Value → H) :
    ReturnsInHanded {} Tryz.checked os 8 .any (Rows.frontTimesSpec.pre6 enc Tryz.prog Tryz.f8 Rows.frontTimesRow.domain false) (Rows.frontTimesSpec.post enc Tryz.prog Tryz.f8 false true false false) := by
  refine returnsInHanded_of_change (C := Tryz.checked) own started (by kernel_rfl) Tryz.func8
    (ChangeSpec.witness6 (enc := enc) (C := Tryz.checked) false ⟨#[], #[.int .i64 0, .int .i64 0, .int .i64 0], []⟩ 8 (by kernel_rfl) (by kernel_rfl) (by kernel_rfl) (by kernel_rfl)) ?_
  intro W base args ds gs before hval0 hW hcnd _
  have hval : ∀ (j : Nat) t v, Tryz.f8.params[j]? = some t → args[j]? = some v → Value.okWide Tryz.prog W .any base t v := hval0
  have hW' := hW
  obtain ⟨p, q, hA0, hV, rfl, hfz, hnd⟩ := hW
  have hA : DataW.TrodAll enc Tryz.prog W 0 (fun _ => true) true Tryz.f8.params.toList args.toList ds p := hA0
  rw [Tryz.params8] at hA hval
  obtain ⟨v0, vs0, d0, ds0, p0, q0, hargs, rfl, rfl, h0, r0⟩ := trodAll_cons hA
  obtain ⟨v1, vs1, d1, ds1, p1, q1, rfl, rfl, rfl, h1, r1⟩ := trodAll_cons r0
  obtain ⟨v2, vs2, d2, ds2, p2, q2, rfl, rfl, rfl, h2, r2⟩ := trodAll_cons r1
  obtain ⟨rfl, rfl, rfl⟩ := trodAll_nil r2
  obtain rfl : args = #[v0, v1, v2] := by cases args; simp_all
  obtain ⟨rfl, rfl⟩ := trodVars_none hV
  obtain ⟨a0, rfl, rfl, rfl, w0⟩ := open_int Tryz.underlying3 (hval 0 3 v0 rfl rfl) h0
  obtain ⟨a1, rfl, rfl, rfl, w1⟩ := open_int Tryz.underlying3 (hval 1 3 v1 rfl rfl) h1
  obtain ⟨a2, rfl, rfl, rfl, w2⟩ := open_int Tryz.underlying3 (hval 2 3 v2 rfl rfl) h2
  clear hA0 hval0
  refine (walk a0 a1 a2 W (bounds_i64 w0) (bounds_i64 w1) (bounds_i64 w2)).mono fun e W' ⟨he, bel⟩ => ?_
  subst he
  exact ⟨_, rfl, _, _, _, [], _, [], hW', trodAll_mk1 (shut_bool Tryz.underlying4 _), (trodAll_cons_mk (shut_int Tryz.underlying3 w0) (trodAll_cons_mk (shut_int Tryz.underlying3 w1) (trodAll_cons_mk (shut_int Tryz.underlying3 w2) trodAll_mk0))), rfl, bel.frame _, fun h => by cases h⟩
theorem over : Rows.frontTimesRow.holds Tryz.pinned (OpenSpec.ofChange Rows.frontTimesSpec) :=
  OpenClaim.holds_of_wide 8 Tryz.f8 rfl rfl rfl rfl rfl rfl rfl ⟨rfl, rfl, rfl, rfl, rfl⟩ rfl rfl rfl rfl rfl (by kernel_rfl) Tryz.func8 (by kernel_rfl)
    (of_decide_eq_true (by kernel_rfl)) (by unfold Func.isWrapper; first | (rw [if_pos (by decide +kernel)]; kernel_rfl) | (rw [if_neg (by decide +kernel)]; exact ⟨rfl, rfl⟩))
    (fun os started H enc _ => lifted os started H enc)
end Go.Proofs.YteabdojjllfcpaaGreat.frontTimes
namespace Go.Proofs.YteabdojjllfcpaaGreat
/-- The given statement. -/
theorem FrontTimes_holds : Rows.FrontTimesSaid := frontTimes.over
#print axioms FrontTimes_holds
end Go.Proofs.YteabdojjllfcpaaGreat
