/-
  For every room, size and number: a queue takes as many as there is room for, then none, till some are taken; then it takes as many again.
-/
import Derived.Test.YtfepkcjelecpkaaQOBatchRooms4
namespace Go.Proofs.Ytfepkcjelecpkaa.batchRooms
open Go.ChangeShapes Go.WideShapes Go.ChangeAt Go.RowKit
open Go.Proofs.Ytfepkcjelecpkaa
set_option linter.unusedVariables false
theorem own : ownKnob Try.prog.godebug = none := by kernel_rfl
/-- the items that were put first. -/
def roomI (k : Nat) : List It := (List.range k).map (fun j : Nat => ⟨[(j : Int)], 0⟩)
theorem roomI_len (k : Nat) : (roomI k).length = k := by simp [roomI]
theorem roomI_succ (k : Nat) : roomI (k + 1) = roomI k ++ [⟨[(k : Int)], 0⟩] := by simp [roomI, List.range_succ]
set_option maxHeartbeats 4000000 in
set_option maxRecDepth 100000 in
theorem walk (room size n : Int) (w : World) (hr : -9223372036854775808 ≤ room ∧ room ≤ 9223372036854775807) (hs : -9223372036854775808 ≤ size ∧ size ≤ 9223372036854775807) (hn : -9223372036854775808 ≤ n ∧ n ≤ 9223372036854775807) :
    Calls Try.prog 6 #[.int .i64 room, .int .i64 size, .int .i64 n] w fun e w' => e = .returned (.bool true) ∧ Below w.heap.size w w' := by
  have h1 := wiP_ge room 1 16 (by omega)
  have h2 := wiP_ge size 1 8 (by omega)
  have HW1 := hide (within_wi room 1 16 w (by omega) (by omega) (by omega))
  have HW2 := hide (within_wi size 1 8 w (by omega) (by omega) (by omega))
  obtain ⟨R, hR⟩ : ∃ R : Nat, (R : Int) = wiP room 1 16 := ⟨(wiP room 1 16).toNat, by omega⟩
  obtain ⟨S, hS⟩ : ∃ S : Nat, (S : Int) = wiP size 1 8 := ⟨(wiP size 1 8).toNat, by omega⟩
  rw [← hR] at h1 HW1
  rw [← hS] at h2 HW2
  clear hR hS
  have HN := hide (nb_new (R : Int) (S : Int) 0 w (by omega) (by omega) (by omega) (by omega) (by omega) (by omega))
  go_enter Try.func6, Try.ntmps6
  go_wp2_with (first
    | (go_at_call 11; refine HW1.out.mono ?_; rintro e w1 ⟨rfl, hw⟩; subst w1; clear HW1)
    | (go_at_call 11; refine HW2.out.mono ?_; rintro e w1 ⟨rfl, hw⟩; subst w1; clear HW2)
    | (go_at_call 8; refine HN.out.mono ?_; rintro e w1 ⟨p, rfl, N1⟩; clear HN; have HN1 := hide N1; clear N1))
  go_loopw [11] (fun i wr => ∃ k : Nat, k ≤ 20 ∧ i = .int .i64 k ∧ Nb w wr p ⟨R, S, 0, roomI (min k R)⟩) (fun i _ => 20 - (intOf i).toNat)
  case atStart => exact ⟨0, by omega, rfl, by simpa [roomI] using HN1.out⟩
  case round =>
    obtain ⟨k, hk, rfl, NK⟩ := hrel
    have HNK := hide NK
    clear NK HN1
    by_cases hlt : k < 20
    · have hlt' : (k : Int) < 20 := by omega
      have h8 : IntKind.u8.wrap (k : Int) = k := by simp [IntKind.wrap, IntKind.signed, IntKind.bits]; omega
      have HA := hide (HNK.out.keptN ((Kp.refl [] wr).alloc (.cells #[.int .u8 (k : Int)] 5 (0, 0))))
      by_cases hkr : k < R
      · have hkr' : (k : Int) < (R : Int) := by omega
        have HP := hide (nb_put HA.out 0 (by show ((roomI (min k R)).length : Int) < (R : Int); rw [roomI_len]; omega) (lit_sl wr [(k : Int)] 1 (0, 0) rfl (by omega)) (fun b hb => by simp at hb; omega) (by simp) (by omega) (by omega) ⟨R, S, 0, roomI (min (k + 1) R)⟩ (by rw [show min (k + 1) R = k + 1 by omega, show min k R = k by omega, roomI_succ]))
        clear HA
        go_wp2_with (go_at_call 12; refine HP.out.mono ?_; rintro e w2 ⟨rfl, N2, -⟩; clear HP; have HN2 := hide N2; clear N2)
        go_roundw
        case rel => exact ⟨k + 1, by omega, by go_num, HN2.out⟩
        case measure => simp [intOf]; omega
      · have hkr' : ¬ (k : Int) < (R : Int) := by omega
        have hkd : decide ((k : Int) < (R : Int)) = false := decide_eq_false hkr'
        have HP := hide (nb_full HA.out (.slice (some ⟨wr.heap.size, 0, none⟩) 1 1) 0 (by show (R : Int) ≤ ((roomI (min k R)).length : Int); rw [roomI_len]; omega))
        have HE : Hid (min k R = min (k + 1) R) := by show _ = _; omega
        clear HA
        go_wp2_with (go_at_call 12; refine HP.out.mono ?_; rintro e w2 ⟨rfl, -, N2⟩; clear HP; rw [HE.out] at N2; have HN2 := hide N2; clear N2)
        go_roundw
        case rel => exact ⟨k + 1, by omega, by go_num, HN2.out⟩
        case measure => simp [intOf]; omega
    · have hnlt : ¬ (k : Int) < 20 := by omega
      have HR : Hid (Nb w wr p ⟨R, S, 0, roomI R⟩) := by have := HNK.out; rw [show min k R = R by omega] at this; exact this
      obtain ⟨K, hK⟩ : ∃ K, K = min S R := ⟨_, rfl⟩
      have HT := hide (nb_take HR.out K (by rw [hK]; show _ = min (S : Int).toNat (roomI R).length; rw [roomI_len]; omega) ⟨R, S, 0, (roomI R).drop K⟩ rfl)
      have hK1 : (1 : Int) ≤ (K : Int) := by omega
      have hK2 : (K : Int) ≤ (S : Int) := by omega
      have hK3 : (K : Int) ≤ (R : Int) := by omega
      clear HR HNK hK
      go_wp2_with (go_at_call 14; refine HT.out.mono ?_; rintro e w2 ⟨at2, ct2, rfl, -, N2, -⟩; clear HT; have HN2 := hide N2; clear N2)
      go_loopw [14] (fun i wq => ∃ j : Nat, j ≤ K ∧ i = .int .i64 j ∧ Nb w wq p ⟨R, S, 0, (roomI R).drop K ++ roomI j⟩) (fun i _ => K - (intOf i).toNat)
      case atStart => exact ⟨0, by omega, rfl, by simpa [roomI] using HN2.out⟩
      case round =>
        obtain ⟨j, hj, rfl, NJ⟩ := hrel
        have HNJ := hide NJ
        clear NJ HN2
        by_cases hjl : j < K
        · have hjl' : (j : Int) < (K : Int) := by omega
          have h8 : IntKind.u8.wrap (j : Int) = j := by simp [IntKind.wrap, IntKind.signed, IntKind.bits]; omega
          have HP := hide (nb_put (HNJ.out.keptN ((Kp.refl [] _).alloc (.cells #[.int .u8 (j : Int)] 5 (0, 0)))) 0 (by show (((roomI R).drop K ++ roomI j).length : Int) < (R : Int); rw [List.length_append, List.length_drop, roomI_len, roomI_len]; omega) (lit_sl _ [(j : Int)] 1 (0, 0) rfl (by omega)) (fun b hb => by simp at hb; omega) (by simp) (by omega) (by omega) ⟨R, S, 0, (roomI R).drop K ++ roomI (j + 1)⟩ (by rw [roomI_succ, List.append_assoc]))
          go_wp2_with (go_at_call 12; refine HP.out.mono ?_; rintro e w3 ⟨rfl, N3, -⟩; clear HP; have HN3 := hide N3; clear N3)
          go_roundw
          case rel => exact ⟨j + 1, by omega, by go_num, HN3.out⟩
          case measure => simp [intOf]; omega
        · have hjn : ¬ (j : Int) < (K : Int) := by omega
          have hln : ((roomI R).drop K ++ roomI j).length = R := by rw [List.length_append, List.length_drop, roomI_len, roomI_len]; omega
          have HL := hide (nb_len HNJ.out R hln.symm)
          have HP := hide (nb_full HNJ.out (.slice none 0 0) n (by show (R : Int) ≤ (((roomI R).drop K ++ roomI j).length : Int); rw [hln]; omega))
          clear hln
          go_wp2_with (first
            | (go_at_call 13; refine HL.out.mono ?_; rintro e w3 ⟨rfl, hw⟩; subst w3; clear HL)
            | (go_at_call 12; refine HP.out.mono ?_; rintro e w4 ⟨rfl, -, N4⟩; clear HP; have HN4 := hide N4; clear N4)
            | (go_at_call 10; refine (bknown_any _).mono ?_; rintro e w5 ⟨rfl, k5⟩))
          go_ret
          exact ⟨rfl, (HN4.out.kp.trans k5).below (Nat.le_refl _) (by simp)⟩
set_option maxRecDepth 100000 in
theorem lifted (os : Os) (started : os.Started) (H : Type) (enc : TypeId × Value → H) :
    ReturnsInHanded {} Try.checked os 6 .any (Rows.batchRoomsSpec.pre6 enc Try.prog Try.f6 Rows.batchRoomsRow.domain false) (Rows.batchRoomsSpec.post enc Try.prog Try.f6 false true false false) := by
  refine returnsInHanded_of_change (C := Try.checked) own started (by kernel_rfl) Try.func6
    (ChangeSpec.witness6 (enc := enc) (C := Try.checked) false ⟨#[], #[.int .i64 0, .int .i64 0, .int .i64 0], []⟩ 8 (by kernel_rfl) (by kernel_rfl) (by kernel_rfl) (by kernel_rfl)) ?_
  intro W base args ds gs before hval0 hW hcnd _
  have hval : ∀ (j : Nat) t v, Try.f6.params[j]? = some t → args[j]? = some v → Value.okWide Try.prog W .any base t v := hval0
  have hW' := hW
  obtain ⟨p, q, hA0, hV, rfl, hfz, hnd⟩ := hW
  have hA : DataW.TrodAll enc Try.prog W 0 (fun _ => true) true Try.f6.params.toList args.toList ds p := hA0
  rw [Try.params6] at hA hval
  obtain ⟨v0, vs0, d0, ds0, p0, q0, hargs, rfl, rfl, h0, r0⟩ := trodAll_cons hA
  obtain ⟨v1, vs1, d1, ds1, p1, q1, rfl, rfl, rfl, h1, r1⟩ := trodAll_cons r0
  obtain ⟨v2, vs2, d2, ds2, p2, q2, rfl, rfl, rfl, h2, r2⟩ := trodAll_cons r1
  obtain ⟨rfl, rfl, rfl⟩ := trodAll_nil r2
  obtain rfl : args = #[v0, v1, v2] := by cases args; simp_all
  obtain ⟨rfl, rfl⟩ := trodVars_none hV
  obtain ⟨a0, rfl, rfl, rfl, w0⟩ := open_int Try.underlying3 (hval 0 3 v0 rfl rfl) h0
  obtain ⟨a1, rfl, rfl, rfl, w1⟩ := open_int Try.underlying3 (hval 1 3 v1 rfl rfl) h1
  obtain ⟨a2, rfl, rfl, rfl, w2⟩ := open_int Try.underlying3 (hval 2 3 v2 rfl rfl) h2
  clear hA0 hval0
  refine (walk a0 a1 a2 W (bounds_i64 w0) (bounds_i64 w1) (bounds_i64 w2)).mono fun e W' ⟨he, bel⟩ => ?_
  subst he
  exact ⟨_, rfl, _, _, _, [], _, [], hW', trodAll_mk1 (shut_bool Try.underlying4 _), (trodAll_cons_mk (shut_int Try.underlying3 w0) (trodAll_cons_mk (shut_int Try.underlying3 w1) (trodAll_cons_mk (shut_int Try.underlying3 w2) trodAll_mk0))), rfl, bel.frame _, fun h => by cases h⟩
theorem over : Rows.batchRoomsRow.holds Try.pinned (OpenSpec.ofChange Rows.batchRoomsSpec) :=
  OpenClaim.holds_of_wide 6 Try.f6 rfl rfl rfl rfl rfl rfl rfl ⟨rfl, rfl, rfl, rfl, rfl⟩ rfl rfl rfl rfl rfl (by kernel_rfl) Try.func6 (by kernel_rfl)
    (of_decide_eq_true (by kernel_rfl)) (by unfold Func.isWrapper; first | (rw [if_pos (by decide +kernel)]; kernel_rfl) | (rw [if_neg (by decide +kernel)]; exact ⟨rfl, rfl⟩))
    (fun os started H enc _ => lifted os started H enc)
end Go.Proofs.Ytfepkcjelecpkaa.batchRooms
namespace Go.Proofs.Ytfepkcjelecpkaa
/-- The given statement. -/
theorem BatchRooms_holds : Rows.BatchRoomsSaid := batchRooms.over
#print axioms BatchRooms_holds
end Go.Proofs.Ytfepkcjelecpkaa
