/-
  For every room, size, wait and any calls: a front answers as the document says, opened anew whenever it crashed.
-/
import Derived.Test.YteabdojjllfcpaaGreatQOFrontPlays9
namespace Go.Proofs.YteabdojjllfcpaaGreat.frontPlays
open Go.ChangeShapes Go.WideShapes Go.ChangeAt Go.RowKit
open Go.Proofs.YteabdojjllfcpaaGreat
set_option linter.unusedVariables false
theorem own : ownKnob Tryz.prog.godebug = none := by kernel_rfl
theorem laidOut : laidOutB Tryz.prog = true := by kernel_rfl
open Go.Proofs
set_option maxHeartbeats 8000000 in
set_option maxRecDepth 100000 in
theorem walk (room size wait : Int) (v0 : Value) (l0 : List AskFE) (w : World) (hr : -9223372036854775808 ≤ room ∧ room ≤ 9223372036854775807) (hs : -9223372036854775808 ≤ size ∧ size ≤ 9223372036854775807) (ht : -9223372036854775808 ≤ wait ∧ wait ≤ 9223372036854775807) (hL : AskF w v0 l0) :
    Calls Tryz.prog 4 #[.int .i64 room, .int .i64 size, .int .i64 wait, v0] w fun e w' => e = .returned (.bool true) ∧ Below w.heap.size w w' := by
  have h1 := wiP_ge room 1 16 (by omega)
  have h2 := wiP_ge size 1 8 (by omega)
  have h3 := wiP_ge wait 0 40 (by omega)
  have HW1 := hide (within_wi room 1 16 w (by omega) (by omega) (by omega))
  have HW2 := hide (within_wi size 1 8 w (by omega) (by omega) (by omega))
  have HW3 := hide (within_wi wait 0 40 w (by omega) (by omega) (by omega))
  have HP := hide (fplay_any (wiP room 1 16) (wiP size 1 8) (wiP wait 0 40) v0 l0 w h1.1 h1.2 h2.1 h2.2 h3.1 (by omega) hL)
  obtain ⟨al, cl, rfl, -⟩ := hL
  generalize l0.length = N at *
  generalize wiP room 1 16 = r at *
  generalize wiP size 1 8 = s at *
  generalize wiP wait 0 40 = t at *
  clear h1 h2 h3
  go_enter Tryz.func4, Tryz.ntmps4
  go_wp2_with fail
  refine HW1.out.mono ?_
  rintro ee w2 ⟨rfl, hw⟩
  subst w2
  clear HW1
  go_wp2_with fail
  refine HW2.out.mono ?_
  rintro ee w2 ⟨rfl, hw⟩
  subst w2
  clear HW2
  go_wp2_with fail
  refine HW3.out.mono ?_
  rintro ee w2 ⟨rfl, hw⟩
  subst w2
  clear HW3
  go_wp2_with fail
  refine HP.out.mono ?_
  rintro ee w3 ⟨rfl, K3⟩
  have HK3 := hide K3
  have HKn := hide (fknown_any w3)
  clear HP K3
  go_wp2_with fail
  refine HKn.out.mono ?_
  rintro ee w4 ⟨rfl, K4⟩
  have HK4 := hide (HK3.out.trans K4)
  clear HKn K4 HK3
  go_wp2_with fail
  go_ret
  exact ⟨rfl, HK4.out.below (Nat.le_refl _) (by simp)⟩
set_option maxRecDepth 100000 in
theorem lifted (os : Os) (started : os.Started) (H : Type) (enc : TypeId × Value → H) :
    ReturnsInHanded {} Tryz.checked os 4 .any (Rows.frontPlaysSpec.pre6 enc Tryz.prog Tryz.f4 Rows.frontPlaysRow.domain false) (Rows.frontPlaysSpec.post enc Tryz.prog Tryz.f4 false true false false) := by
  refine returnsInHanded_of_change (C := Tryz.checked) own started (by kernel_rfl) Tryz.func4
    (ChangeSpec.witness6 (enc := enc) (C := Tryz.checked) false ⟨#[], #[.int .i64 0, .int .i64 0, .int .i64 0, .slice none 0 0], []⟩ 8 (by kernel_rfl) (by kernel_rfl) (by kernel_rfl) (by kernel_rfl)) ?_
  intro W base args ds gs before hval0 hW hcnd _
  have hval : ∀ (j : Nat) t v, Tryz.f4.params[j]? = some t → args[j]? = some v → Value.okWide Tryz.prog W .any base t v := hval0
  have hW' := hW
  obtain ⟨p, q, hA0, hV, rfl, hfz, hnd⟩ := hW
  have hA : DataW.TrodAll enc Tryz.prog W 0 (fun _ => true) true Tryz.f4.params.toList args.toList ds p := hA0
  rw [Tryz.params4] at hA hval
  obtain ⟨v0, vs0, d0, ds0, p0, q0, hargs, rfl, rfl, h0, r0⟩ := trodAll_cons hA
  obtain ⟨v1, vs1, d1, ds1, p1, q1, rfl, rfl, rfl, h1, r1⟩ := trodAll_cons r0
  obtain ⟨v2, vs2, d2, ds2, p2, q2, rfl, rfl, rfl, h2, r2⟩ := trodAll_cons r1
  obtain ⟨v3, vs3, d3, ds3, p3, q3, rfl, rfl, rfl, h3, r3⟩ := trodAll_cons r2
  obtain ⟨rfl, rfl, rfl⟩ := trodAll_nil r3
  obtain rfl : args = #[v0, v1, v2, v3] := by cases args; simp_all
  obtain ⟨rfl, rfl⟩ := trodVars_none hV
  obtain ⟨a0, rfl, rfl, rfl, w0⟩ := open_int Tryz.underlying3 (hval 0 3 v0 rfl rfl) h0
  obtain ⟨a1, rfl, rfl, rfl, w1⟩ := open_int Tryz.underlying3 (hval 1 3 v1 rfl rfl) h1
  obtain ⟨a2, rfl, rfl, rfl, w2⟩ := open_int Tryz.underlying3 (hval 2 3 v2 rfl rfl) h2
  obtain ⟨a3, len3, cap3, rfl⟩ := okWide_slice Tryz.underlying37 (hval 3 37 v3 rfl rfl)
  have k3 := h3
  have lt3 : ∀ x ∈ p3, x.block < W.heap.size := by obtain ⟨m, hm⟩ := k3; exact DataW.trod_lt m _ _ _ hm
  obtain ⟨l3, s3⟩ : ∃ l, AskF W (.slice a3 len3 cap3) l := by
    obtain ⟨fuel, hf⟩ := h3
    exact askF_of_trod (by simpa [Value.cells] using hf)
  clear hA0 hval0
  refine (walk a0 a1 a2 (.slice a3 len3 cap3) l3 W (bounds_i64 w0) (bounds_i64 w1) (bounds_i64 w2) s3).mono fun e W' ⟨he, bel⟩ => ?_
  subst he
  exact ⟨_, rfl, _, _, _, [], _, [], hW', trodAll_mk1 (shut_bool Tryz.underlying4 _), (trodAll_cons_mk (shut_int Tryz.underlying3 w0) (trodAll_cons_mk (shut_int Tryz.underlying3 w1) (trodAll_cons_mk (shut_int Tryz.underlying3 w2) (trodAll_cons_mk (Below.trod laidOut (by kernel_rfl) (of_decide_eq_true (by kernel_rfl)) k3 bel lt3) trodAll_mk0)))), rfl, bel.frame _, fun h => by cases h⟩
theorem over : Rows.frontPlaysRow.holds Tryz.pinned (OpenSpec.ofChange Rows.frontPlaysSpec) :=
  OpenClaim.holds_of_wide 4 Tryz.f4 rfl rfl rfl rfl rfl rfl rfl ⟨rfl, rfl, rfl, rfl, rfl⟩ rfl rfl rfl rfl rfl (by kernel_rfl) Tryz.func4 (by kernel_rfl)
    (of_decide_eq_true (by kernel_rfl)) (by unfold Func.isWrapper; first | (rw [if_pos (by decide +kernel)]; kernel_rfl) | (rw [if_neg (by decide +kernel)]; exact ⟨rfl, rfl⟩))
    (fun os started H enc _ => lifted os started H enc)
end Go.Proofs.YteabdojjllfcpaaGreat.frontPlays
namespace Go.Proofs.YteabdojjllfcpaaGreat
/-- The given statement. -/
theorem FrontPlays_holds : Rows.FrontPlaysSaid := frontPlays.over
#print axioms FrontPlays_holds
end Go.Proofs.YteabdojjllfcpaaGreat
