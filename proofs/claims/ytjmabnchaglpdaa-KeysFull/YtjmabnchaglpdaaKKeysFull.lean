/-
  KeysFull: a box whose disk is full tells no key, and loses none; with room again it goes on.
-/
import Derived.Test.YtjmabnchaglpdaaKKLaw
import Derived.ShutString
import Derived.ChangeOld
import Derived.Below
namespace Go.Proofs.Ytjmabnchaglpdaa.keysFull
open Go.ChangeShapes Go.WideShapes Go.ChangeAt Go.RowKit
open Go.Proofs.Ytjmabnchaglpdaa
set_option linter.unusedVariables false

theorem own : ownKnob Try.prog.godebug = none := by kernel_rfl
theorem laidOut : laidOutB Try.prog = true := by kernel_rfl
/-- a disk with the records of i keys, whose limit is L. -/
def dkL (i : Nat) (L : Int) : Dk := ⟨klay i, (klay i).length, L, 0, false⟩
theorem dkL_opn (i : Nat) (L : Int) : (dkL i L).opn = dkL i L := by
  unfold Dk.opn
  have e : (dkL i L).bs = klay i := rfl
  rw [e, klay_opn, if_neg (by show ¬ 9 * i < (klay i).length; rw [klay_len]; omega)]
theorem dkL_add {i : Nat} {L : Int} (h : 9 * (i : Int) + 9 ≤ L) : (dkL i L).add (recP [(i : Int)]) = (true, dkL (i + 1) L) := by
  have h1 := Dk.add_up (d := dkL i L) rfl (Int.le_refl 0) (recP [(i : Int)]) (by
    show (((klay i).length + (recP [(i : Int)]).length : Nat) : Int) ≤ L
    rw [klay_len, recP_len]; simp; omega)
  rw [h1]
  show (true, (⟨klay i ++ recP [(i : Int)], (klay i ++ recP [(i : Int)]).length, L, 0, false⟩ : Dk)) = _
  rw [← klay_succ]
  rfl
theorem dkL_full {i : Nat} {L : Int} (h : L < 9 * (i : Int) + 9) : (dkL i L).add (recP [(i : Int)]) = (false, dkL i L) :=
  Dk.add_full (d := dkL i L) rfl (Int.le_refl 0) (recP [(i : Int)]) (by
    show L < (((klay i).length + (recP [(i : Int)]).length : Nat) : Int)
    rw [klay_len, recP_len]; simp; omega)
theorem dkL_grow {i : Nat} {L : Int} (h : i ≤ 16) : (dkL i L).grow 1000 = (true, dkL i 1000) := by
  unfold Dk.grow
  rw [if_pos ⟨by show ((klay i).length : Int) ≤ 1000; rw [klay_len]; omega, by omega⟩]
  rfl
set_option maxHeartbeats 8000000 in
set_option maxRecDepth 100000 in
theorem walk (n more : Int) (w : World) (hn0 : -9223372036854775808 ≤ n ∧ n ≤ 9223372036854775807) (hm0 : -9223372036854775808 ≤ more ∧ more ≤ 9223372036854775807) :
    Calls Try.prog 5 #[.int .i64 n, .int .i64 more] w fun e w' => e = .returned (.bool true) ∧ Below w.heap.size w w' := by
  have hwk := wiP_ge n 0 15 (by omega)
  have hwm := wiP_ge more 0 8 (by omega)
  have HW1 := hide (within_wi n 0 15 w (by omega) (by omega) (by omega))
  have HW2 := hide (within_wi more 0 8 w (by omega) (by omega) (by omega))
  obtain ⟨k, hk⟩ := Int.eq_ofNat_of_zero_le hwk.1
  obtain ⟨M, hM⟩ : ∃ M, M = wiP more 0 8 := ⟨_, rfl⟩
  rw [hk] at HW1 hwk
  rw [← hM] at HW2 hwm
  obtain ⟨L, hL⟩ : ∃ L, L = 9 * (k : Int) + M := ⟨_, rfl⟩
  have h9 : IntKind.i64.wrap (9 * (k : Int)) = 9 * (k : Int) := by simp [IntKind.wrap, IntKind.signed, IntKind.bits]; omega
  have h9m : IntKind.i64.wrap (9 * (k : Int) + M) = L := by rw [hL]; simp [IntKind.wrap, IntKind.signed, IntKind.bits]; omega
  have HN := hide (nw_new L w (by omega) (by omega))
  have hLb : 9 * (k : Int) ≤ L ∧ L < 9 * (k : Int) + 9 := by omega
  have HLb := hide hLb
  have hk15 : k ≤ 15 := by omega
  have HL := hide hL
  clear hk hM hL hLb hwk hwm hn0 hm0
  go_enter Try.func5, Try.ntmps5
  go_wp2_with fail
  refine HW1.out.mono ?_
  rintro ee w1 ⟨rfl, hw1⟩
  subst w1
  clear HW1
  go_wp2_with fail
  refine HW2.out.mono ?_
  rintro ee w1 ⟨rfl, hw1⟩
  subst w1
  clear HW2
  go_wp2_with fail
  refine HN.out.mono ?_
  rintro ee w1 ⟨p, rfl, N1⟩
  have HOp := hide (kopen_ok (n := 0) (d' := dkL 0 L) ⟨_, N1⟩ rfl (Int.le_refl 0) rfl (Nat.zero_le _) (klay_opn 0) (dkL_opn 0 L))
  clear N1 HN h9 h9m
  go_wp2_with fail
  refine HOp.out.mono ?_
  rintro ee w2 ⟨q, rfl, B2⟩
  have HB2 := hide B2
  clear B2 HOp
  go_wp2_with fail
  go_loopw [10] (fun i wr => ∃ m : Nat, m ≤ k ∧ i = .int .i64 m ∧ Bx w wr p (dkL m L) q m m) (fun i _ => k - (intOf i).toNat)
  case atStart => exact ⟨0, by omega, rfl, HB2.out⟩
  case round =>
    obtain ⟨m, hm, rfl, BM⟩ := hrel
    have HBM := hide BM
    clear BM
    by_cases hmt : m < k
    · have hmt' : (m : Int) < (k : Int) := by omega
      have HT := hide (take_any HBM.out (by omega) (by omega) true (dkL_add (by have := HLb.out; omega)) m 0 rfl rfl (m + 1) rfl)
      go_wp2_with fail
      refine HT.out.mono ?_
      rintro ee w5 ⟨rfl, B5⟩
      have HB5 := hide B5
      clear B5 HT
      go_wp2_with fail
      go_roundw
      case rel => exact ⟨m + 1, by omega, by go_num, HB5.out⟩
      case measure => simp [intOf]; omega
    · obtain rfl : m = k := by omega
      have hmt' : ¬ (m : Int) < (m : Int) := by omega
      have HT := hide (take_any HBM.out (by omega) (by omega) false (dkL_full HLb.out.2) 0 13 rfl rfl m rfl)
      go_wp2_with fail
      refine HT.out.mono ?_
      rintro ee w5 ⟨rfl, B5⟩
      have HNx := hide (next_any B5)
      have HLf := hide (left_keys B5 (by omega) (16 - (m : Int)) rfl)
      have HGr := hide (bx_grow B5 1000 true (dkL_grow (by omega)))
      clear B5 HT
      have hm15 : (m : Int) ≤ 15 := by omega
      go_wp2_with (first
        | (go_at_call 10; refine HNx.out.mono ?_; rintro ee w6 ⟨rfl, hw⟩; subst w6; clear HNx)
        | (go_at_call 11; refine HLf.out.mono ?_; rintro ee w6 ⟨rfl, hw⟩; subst w6; clear HLf)
        | (go_at_call 20; refine HGr.out.mono ?_; rintro ee w6 ⟨rfl, B6⟩; have HB6 := hide B6; clear B6 HGr; have HT2 := hide (take_any HB6.out (by omega) (by omega) true (dkL_add (by omega)) m 0 rfl rfl (m + 1) rfl)))
      refine HT2.out.mono ?_
      rintro ee w7 ⟨rfl, B7⟩
      have HK7 := hide B7.kp
      clear B7 HT2
      go_wp2_with fail
      refine (kknown_any _).mono ?_
      rintro ee w8 ⟨rfl, K8⟩
      have HK8 := hide (HK7.out.trans K8)
      clear K8
      go_wp2_with fail
      go_ret
      exact ⟨rfl, HK8.out.below (Nat.le_refl _) (by simp)⟩

set_option maxRecDepth 100000 in
theorem lifted (os : Os) (started : os.Started) (H : Type) (enc : TypeId × Value → H) :
    ReturnsInHanded {} Try.checked os 5 .any (Rows.keysFullSpec.pre6 enc Try.prog Try.f5 Rows.keysFullRow.domain false) (Rows.keysFullSpec.post enc Try.prog Try.f5 false true false false) := by
  refine returnsInHanded_of_change (C := Try.checked) own started (by kernel_rfl) Try.func5
    (ChangeSpec.witness6 (enc := enc) (C := Try.checked) false ⟨#[], #[.int .i64 0, .int .i64 0], []⟩ 8 (by kernel_rfl) (by kernel_rfl) (by kernel_rfl) (by kernel_rfl)) ?_
  intro W base args ds gs before hval0 hW hcnd _
  have hval : ∀ (j : Nat) t v, Try.f5.params[j]? = some t → args[j]? = some v → Value.okWide Try.prog W .any base t v := hval0
  have hW' := hW
  obtain ⟨p, q, hA0, hV, rfl, hfz, hnd⟩ := hW
  have hA : DataW.TrodAll enc Try.prog W 0 (fun _ => true) true Try.f5.params.toList args.toList ds p := hA0
  rw [Try.params5] at hA hval
  obtain ⟨v0, vs0, d0, ds0, p0, q0, hargs, rfl, rfl, h0, r0⟩ := trodAll_cons hA
  obtain ⟨v1, vs1, d1, ds1, p1, q1, rfl, rfl, rfl, h1, r1⟩ := trodAll_cons r0
  obtain ⟨rfl, rfl, rfl⟩ := trodAll_nil r1
  obtain rfl : args = #[v0, v1] := by cases args; simp_all
  obtain ⟨rfl, rfl⟩ := trodVars_none hV
  obtain ⟨a0, rfl, rfl, rfl, w0⟩ := open_int Try.underlying3 (hval 0 3 v0 rfl rfl) h0
  obtain ⟨a1, rfl, rfl, rfl, w1⟩ := open_int Try.underlying3 (hval 1 3 v1 rfl rfl) h1
  clear hA0 hval0
  refine (walk a0 a1 W (bounds_i64 w0) (bounds_i64 w1)).mono fun e W' ⟨he, bel⟩ => ?_
  subst he
  exact ⟨_, rfl, _, _, _, [], _, [], hW', trodAll_mk1 (shut_bool Try.underlying4 _), (trodAll_cons_mk (shut_int Try.underlying3 w0) (trodAll_cons_mk (shut_int Try.underlying3 w1) trodAll_mk0)), rfl, bel.frame _, fun h => by cases h⟩

theorem over : Rows.keysFullRow.holds Try.pinned (OpenSpec.ofChange Rows.keysFullSpec) :=
  OpenClaim.holds_of_wide 5 Try.f5 rfl rfl rfl rfl rfl rfl rfl ⟨rfl, rfl, rfl, rfl, rfl⟩ rfl rfl rfl rfl rfl (by kernel_rfl) Try.func5 (by kernel_rfl)
    (of_decide_eq_true (by kernel_rfl)) (by unfold Func.isWrapper; first | (rw [if_pos (by decide +kernel)]; kernel_rfl) | (rw [if_neg (by decide +kernel)]; exact ⟨rfl, rfl⟩))
    (fun os started H enc _ => lifted os started H enc)
end Go.Proofs.Ytjmabnchaglpdaa.keysFull

namespace Go.Proofs.Ytjmabnchaglpdaa
/-- The given statement. -/
theorem KeysFull_holds : Rows.KeysFullSaid := keysFull.over
#print axioms KeysFull_holds
end Go.Proofs.Ytjmabnchaglpdaa
