/-
  DiskPlays: a disk is what the document says, for any calls, whenever power goes.
-/
import Derived.Test.YthpaablhhfichaaKDPlay
import Derived.ShutString
import Derived.ChangeOld
import Derived.Below
namespace Go.Proofs.Ythpaablhhfichaa.diskPlays
open Go.ChangeShapes Go.WideShapes Go.ChangeAt Go.RowKit
open Go.Proofs.Ythpaablhhfichaa
set_option linter.unusedVariables false

theorem own : ownKnob Try.prog.godebug = none := by kernel_rfl
theorem laidOut : laidOutB Try.prog = true := by kernel_rfl
set_option maxHeartbeats 4000000 in
set_option maxRecDepth 100000 in
theorem walk (limit : Int) (v0 : Value) (l0 : List AskE) (w : World) (hkp : -9223372036854775808 ≤ limit ∧ limit ≤ 9223372036854775807) (s0 : AskL w v0 l0) :
    Calls Try.prog 4 #[.int .i64 limit, v0] w fun e w' => e = .returned (.bool true) ∧ Below w.heap.size w w' := by
  have hwi := wiP_ge limit 0 300 (by omega)
  obtain ⟨N, hN⟩ : ∃ N, N = wiP limit 0 300 := ⟨_, rfl⟩
  have HW : Hid (Calls Try.prog 12 #[.int .i64 limit, .int .i64 0, .int .i64 300] w fun e w'' => e = .returned (.int .i64 N) ∧ w'' = w) := by
    rw [hN]; exact within_wi limit 0 300 w (by omega) (by omega) (by omega)
  rw [← hN] at hwi
  have HP1 := hide (dplay_any N v0 l0 w hwi.1 (by omega) s0)
  have HS := hide s0
  clear hN hwi s0
  go_enter Try.func4, Try.ntmps4
  go_wp2_with (first
    | (go_at_call 12; refine HW.out.mono ?_; rintro e w1 ⟨rfl, hw⟩; subst w1; clear HW)
    | (go_at_call 10; refine HP1.out.mono ?_; rintro e w1 ⟨rfl, k1⟩; clear HP1; have HP2 := hide (dplay_any 1048576 v0 l0 w1 (by omega) (by omega) (HS.out.kept k1)))
    | (go_at_call 10; refine HP2.out.mono ?_; rintro e w2 ⟨rfl, k2⟩; clear HP2)
    | (go_at_call 11; refine (dknown_any _).mono ?_; rintro e w3 ⟨rfl, k3⟩))
  go_ret
  exact ⟨rfl, ((k1.trans k2).trans k3).below (Nat.le_refl _) (by simp)⟩

set_option maxRecDepth 100000 in
theorem lifted (os : Os) (started : os.Started) (H : Type) (enc : TypeId × Value → H) :
    ReturnsInHanded {} Try.checked os 4 .any (Rows.diskPlaysSpec.pre6 enc Try.prog Try.f4 Rows.diskPlaysRow.domain false) (Rows.diskPlaysSpec.post enc Try.prog Try.f4 false true false false) := by
  refine returnsInHanded_of_change (C := Try.checked) own started (by kernel_rfl) Try.func4
    (ChangeSpec.witness6 (enc := enc) (C := Try.checked) false ⟨#[], #[.int .i64 0, .slice none 0 0], []⟩ 8 (by kernel_rfl) (by kernel_rfl) (by kernel_rfl) (by kernel_rfl)) ?_
  intro W base args ds gs before hval0 hW hcnd _
  have hval : ∀ (j : Nat) t v, Try.f4.params[j]? = some t → args[j]? = some v → Value.okWide Try.prog W .any base t v := hval0
  have hW' := hW
  obtain ⟨p, q, hA0, hV, rfl, hfz, hnd⟩ := hW
  have hA : DataW.TrodAll enc Try.prog W 0 (fun _ => true) true Try.f4.params.toList args.toList ds p := hA0
  rw [Try.params4] at hA hval
  obtain ⟨v0, vs0, d0, ds0, p0, q0, hargs, rfl, rfl, h0, r0⟩ := trodAll_cons hA
  obtain ⟨v1, vs1, d1, ds1, p1, q1, rfl, rfl, rfl, h1, r1⟩ := trodAll_cons r0
  obtain ⟨rfl, rfl, rfl⟩ := trodAll_nil r1
  obtain rfl : args = #[v0, v1] := by cases args; simp_all
  obtain ⟨rfl, rfl⟩ := trodVars_none hV
  obtain ⟨a0, rfl, rfl, rfl, w0⟩ := open_int Try.underlying3 (hval 0 3 v0 rfl rfl) h0
  obtain ⟨a1, len1, cap1, rfl⟩ := okWide_slice Try.underlying31 (hval 1 31 v1 rfl rfl)
  have k1 := h1
  have lt1 : ∀ x ∈ p1, x.block < W.heap.size := by obtain ⟨m, hm⟩ := k1; exact DataW.trod_lt m _ _ _ hm
  obtain ⟨l1, s1⟩ : ∃ l, AskL W (.slice a1 len1 cap1) l := by
    obtain ⟨fuel, hf⟩ := h1
    exact askL_of_trod (by simpa [Value.cells] using hf)
  clear hA0 hval0
  refine (walk a0 (.slice a1 len1 cap1) l1 W (bounds_i64 w0) s1).mono fun e W' ⟨he, bel⟩ => ?_
  subst he
  exact ⟨_, rfl, _, _, _, [], _, [], hW', trodAll_mk1 (shut_bool Try.underlying4 _), (trodAll_cons_mk (shut_int Try.underlying3 w0) (trodAll_cons_mk (Below.trod laidOut (by kernel_rfl) (of_decide_eq_true (by kernel_rfl)) k1 bel lt1) trodAll_mk0)), rfl, bel.frame _, fun h => by cases h⟩

theorem over : Rows.diskPlaysRow.holds Try.pinned (OpenSpec.ofChange Rows.diskPlaysSpec) :=
  OpenClaim.holds_of_wide 4 Try.f4 rfl rfl rfl rfl rfl rfl rfl ⟨rfl, rfl, rfl, rfl, rfl⟩ rfl rfl rfl rfl rfl (by kernel_rfl) Try.func4 (by kernel_rfl)
    (of_decide_eq_true (by kernel_rfl)) (by unfold Func.isWrapper; first | (rw [if_pos (by decide +kernel)]; kernel_rfl) | (rw [if_neg (by decide +kernel)]; exact ⟨rfl, rfl⟩))
    (fun os started H enc _ => lifted os started H enc)
end Go.Proofs.Ythpaablhhfichaa.diskPlays

namespace Go.Proofs.Ythpaablhhfichaa
/-- The given statement. -/
theorem DiskPlays_holds : Rows.DiskPlaysSaid := diskPlays.over
#print axioms DiskPlays_holds
end Go.Proofs.Ythpaablhhfichaa
