/-
  The statement WireCutsSaid: for all texts and every number the law function WireCuts returns true and leaves its arguments as they were. Its conditions: none.
-/
import Derived.Test.YthpekclkclpbpaaCutsPlain
import Derived.Test.YthpekclkclpbpaaRows
import Derived.ShutString
import Derived.ChangeOld
import Derived.Below
import Derived.Deep.QuietTactic
import Derived.BigQuiet
namespace Go.Proofs.Ythpekclkclpbpaa.wireCuts
open Go.ChangeShapes Go.WideShapes Go.ChangeAt Go.RowKit
open Go.Proofs.Ythpekclkclpbpaa
set_option linter.unusedVariables false

theorem own : ownKnob Try.prog.godebug = none := by kernel_rfl
theorem laidOut : laidOutB Try.prog = true := by kernel_rfl
theorem kp_drewN (w : World) (n : Nat) : Kp [] w (w.drewN n) := ⟨rfl, rfl, rfl, Nat.le_refl _, fun _ _ _ => rfl⟩

set_option maxHeartbeats 2000000 in
theorem walk (v0 : Value) (l0 : List (Value × List Int)) (cut : Int) (w : World) (h0 : Lists w v0 l0) (hcut : -9223372036854775808 ≤ cut ∧ cut ≤ 9223372036854775807) :
    Calls Try.prog 8 #[v0, .int .i64 cut] w fun e w' => e = .returned (.bool true) ∧ Below w.heap.size w w' := by
  have hB0 : ∀ x ∈ l0, Bs x.2 := fun x hx => by
    obtain ⟨i, hi, rfl⟩ := List.getElem_of_mem hx
    obtain ⟨ao, c, _, _, h2⟩ := h0
    obtain ⟨b, off, _, _, _, h3⟩ := h2 i hi
    exact h3
  go_enter Try.func8, Try.ntmps8
  go_wp2_with fail
  refine (few_any v0 l0 15 50 _ h0 (by omega)).mono ?_
  rintro e w1 ⟨o, rfl, hF⟩
  have K1 : Kp [] w w1 := by obtain ⟨_, _, _, h, _⟩ := hF; exact h
  obtain ⟨l, hL, hle⟩ := hF.lists hB0 (by omega)
  have hnl : l.length ≤ 15 := by have := congrArg List.length hle; simp at this; omega
  have hml : ∀ x ∈ l, x.2.length ≤ 50 := fun x hx => by
    have : x.2 ∈ l.map (·.2) := List.mem_map_of_mem hx
    rw [hle] at this
    obtain ⟨y, _, hy⟩ := List.mem_map.1 this
    rw [← hy]; simp; omega
  have hBl : ∀ x ∈ l.map (·.2), Bs x := fun x hx => by
    rw [hle] at hx
    obtain ⟨y, hy, rfl⟩ := List.mem_map.1 hx
    exact (hB0 y (List.mem_of_mem_take hy)).take _
  clear hF hle hB0 h0
  go_wp2_with fail
  refine (new_abs _).mono ?_
  rintro e w2 ⟨p, rfl, a2, hp, k2⟩
  go_wp2_with fail
  refine (each_any p _ [] o l w1 _ a2 hL k2 hp (by intro k hk; cases hk) (fun x hx => by have := hml x hx; omega) (by omega) (by simp)).mono ?_
  rintro e w3 ⟨rfl, v3, a3, s3⟩
  have K3 : Kp [] w1 w3 := k2.then s3.1 (by intro i hi; simp [Value.ownBlock] at hi; omega)
  rw [List.nil_append] at a3
  obtain ⟨B, hBd⟩ : ∃ B, B = encs (l.map (·.2)) := ⟨_, rfl⟩
  rw [← hBd] at a3
  have hBlen : B.length ≤ 1000 := by
    have := encs_len l 50 l.length hml
    rw [List.take_length] at this
    rw [hBd]; omega
  have hBB : Bs B := hBd ▸ encs_bs _ hBl
  have HBd := hide hBd
  clear hBd a2 s3 k2
  go_wp2_with fail
  refine (done_any p v3 B _ a3 (by omega)).mono ?_
  rintro e w4 ⟨ao, c, rfl, r4, k4⟩
  have s4 := Sl.of_owns r4
  clear r4
  go_wp2_with fail
  refine (within_any cut 0 B.length _ (by omega) (by omega) (by omega) hcut).mono ?_
  rintro e w5 ⟨x, rfl, hx0, hx1, hw⟩
  subst w5
  obtain ⟨k, rfl⟩ := Int.eq_ofNat_of_zero_le hx0
  have hkB : k ≤ B.length := by omega
  have hkc : (k : Int) ≤ (c : Int) := by obtain ⟨_, _, e, h1, _⟩ := s4; cases e; omega
  have s5 := s4.take k hkB
  obtain ⟨C, hC⟩ : ∃ C, C = B.take k := ⟨_, rfl⟩
  have hCl : C.length = k := by rw [hC]; simp; omega
  rw [← hC] at s5
  have hBC : Bs C := hC ▸ hBB.take k
  have HC := hide hC
  clear hC s4
  go_wp2_with fail
  refine (read_any _ C _ s5 (by omega)).mono ?_
  rintro e w6 ⟨q, v6, rfl, hq, r6, o6, k6⟩
  have K6 : Kp [] w1 w6 := (K3.trans k4).trans k6
  have hqw : w1.heap.size ≤ q := Nat.le_trans (K3.trans k4).size hq
  have HCl := hide hCl
  clear hCl s5 k4 k6 o6 a3 K3
  obtain ⟨al, cl, rfl, hll, hcell⟩ := hL
  go_wp2_with fail
  go_loopw [9, 10] (fun at_ i wr => ∃ j m a : Nat, j ≤ l.length ∧ i = .int .i64 j ∧ at_ = .int .i64 a ∧ a + m = k ∧ m ≤ (encs ((l.drop j).map (·.2))).length ∧ ∃ v', Rd wr q v' false ((encs ((l.drop j).map (·.2))).take m) ∧ Kp [] w1 wr) (fun _ i _ => l.length - (intOf i).toNat)
  case atStart => exact ⟨0, k, 0, Nat.zero_le _, rfl, rfl, by omega, by rw [List.drop_zero, ← unhide HBd]; exact hkB, v6, by rw [List.drop_zero, ← unhide HBd, ← unhide HC]; exact r6, K6⟩
  case round =>
    obtain ⟨j, m, a, hj, rfl, rfl, ham, hmE, v', r', K'⟩ := hrel
    clear r6 K6
    by_cases hlt : j < l.length
    · obtain ⟨b, off, rfl, hc, hS, hB⟩ := hcell j hlt
      have hdr : (l.drop j).map (·.2) = l[j].2 :: (l.drop (j + 1)).map (·.2) := by rw [List.drop_eq_getElem_cons hlt]; rfl
      have hx50 := hml l[j] (List.getElem_mem hlt)
      obtain ⟨x, hx⟩ : ∃ x, x = l[j] := ⟨_, rfl⟩
      rw [← hx] at hc hS hB hdr hx50
      rw [hdr, encs_cons] at hmE r'
      have hcw := K'.cell hc (by simp)
      have hSw := hS.kept K' (by simp)
      obtain ⟨ax, cx, hxv⟩ : ∃ ax cx, x.1 = .slice ax x.2.length cx := by obtain ⟨ax, cx, e, _⟩ := hS; exact ⟨ax, cx, e⟩
      have hcutx := tkb_cut x.2 (encs ((l.drop (j + 1)).map (·.2))) m hx50 hmE
      have hBr : Bs ((be x.2.length 2 0 ++ (x.2 ++ encs ((l.drop (j + 1)).map (·.2)))).take m) := by
        refine Bs.take ((be_bs _ _ _).append (hB.append (encs_bs _ (fun y hy => hBl y ?_)))) _
        rw [List.map_drop] at hy
        exact List.mem_of_mem_drop hy
      have hlr : ((be x.2.length 2 0 ++ (x.2 ++ encs ((l.drop (j + 1)).map (·.2)))).take m).length ≤ 140737488355328 := by rw [List.length_take]; omega
      obtain ⟨E, hE⟩ : ∃ E, E = encs ((l.drop (j + 1)).map (·.2)) := ⟨_, rfl⟩
      rw [← hE] at hcutx hBr hlr r' hmE
      have hmE2 : m ≤ 2 + (x.2.length + E.length) := by simpa [be_length] using hmE
      obtain ⟨T, hT⟩ : ∃ T, T = (be x.2.length 2 0 ++ (x.2 ++ E)).take m := ⟨_, rfl⟩
      rw [← hT] at hcutx hBr hlr r'
      have HE := hide hE
      have hak : (a : Int) ≤ 1000 := by omega
      have hx50' : (x.2.length : Int) ≤ 50 := by omega
      have hqq : ∀ i, i ∈ [q] → i ∈ ([] : List Nat) ∨ w1.heap.size ≤ i := by intro i hi; simp only [List.mem_singleton] at hi; subst hi; exact .inr hqw
      have HS := hide hS
      have hc' := hc
      rw [hxv] at hSw hc'
      have HCC := hide hc'
      have HW := hide hSw
      have HB := hide hBr
      clear hE hT hS hc hc' hcell hx hdr hmE hSw hBr
      by_cases hfit : 2 + x.2.length ≤ m
      · rw [if_pos hfit] at hcutx
        have hend : ¬ ((k : Int) < (a : Int) + 2 + (x.2.length : Int)) := by omega
        have HCX := hide hcutx
        clear hcutx
        go_wp2_with fail
        refine (rbytes_any q v' false T 50 _ r' (unhide HB) hlr).mono ?_
        rw [unhide HCX]
        rintro e w7 ⟨a7, c7, rfl, hO, ⟨⟨v7, r7, _⟩, k7⟩⟩
        have K7 := K'.then k7 hqq
        have hcw7 : w7.cell? ⟨b, off + j, none⟩ = some (.slice ax x.2.length cx) := K7.cell (unhide HCC) (by simp)
        have hS7 := (unhide HS).kept K7 (by simp)
        rw [hxv] at hS7
        obtain ⟨T2, hT2⟩ : ∃ T2, T2 = E.take (m - 2 - x.2.length) := ⟨_, rfl⟩
        simp only [← hT2] at r7
        have hleft : (((T2.length : Nat) : Int) != (k : Int) - ((a : Int) + 2 + (x.2.length : Int))) = false := by
          have : T2.length = m - 2 - x.2.length := by rw [hT2, List.length_take]; omega
          rw [bne_eq_false_iff_eq]; omega
        have hcv1 : ∀ n, (convert 25 9 (.slice a7 x.2.length c7)).run Try.prog (w7.drewN n) = .ok (.string (strOfNums x.2)) (w7.drewN n) := fun n => (hO.1.kept (kp_drewN w7 n) (by simp)).conv 25 9 5 Try.underlying25 Try.underlying5 Try.underlying9
        have hcv2 : ∀ n, (convert 25 9 (.slice ax x.2.length cx)).run Try.prog (w7.drewN n) = .ok (.string (strOfNums x.2)) (w7.drewN n) := fun n => (hS7.kept (kp_drewN w7 n) (by simp)).conv 25 9 5 Try.underlying25 Try.underlying5 Try.underlying9
        have HT2 := hide hT2
        have HO := hide hO
        clear hT2 hO hS7 r' K' k7 hcw hxv
        go_wp2_with fail
        go_quiet (first | (go_at_call 24; exact Calls.quiet_of_same (bad_any q _ _ _ _ (r7.kept (kp_drewN w7 _) (by simp) (by simp)))) | (go_at_call 26; exact Calls.quiet_of_same (left_any q _ _ _ _ (r7.kept (kp_drewN w7 _) (by simp) (by simp)))))
        go_wp2_with fail
        go_roundw
        case rel => exact ⟨j + 1, m - 2 - x.2.length, a + 2 + x.2.length, by omega, by go_num, by go_num, by omega, by rw [← unhide HE]; omega, v7, by rw [← unhide HE, ← unhide HT2]; exact r7.kept (kp_drewN w7 _) (by simp) (by simp), K7.trans (kp_drewN w7 _)⟩
        case measure => simp [intOf]; omega
      · rw [if_neg hfit] at hcutx
        have hend : (k : Int) < (a : Int) + 2 + (x.2.length : Int) := by omega
        have HCX := hide hcutx
        clear hcutx
        go_wp2_with fail
        refine (rbytes_any q v' false T 50 _ r' (unhide HB) hlr).mono ?_
        rw [unhide HCX]
        rintro e w7 ⟨a7, c7, rfl, hO, ⟨⟨v7, r7, _⟩, k7⟩⟩
        have K7 := K'.then k7 hqq
        clear r' K' k7 hcw hxv
        go_wp2_with fail
        refine (bad_any q _ _ _ _ r7).mono ?_
        rintro e w8 ⟨rfl, hw⟩
        subst w8
        go_wp2_with fail
        refine (known_any _).mono ?_
        rintro e w9 ⟨rfl, k9⟩
        go_wp2_with fail
        go_ret
        exact ⟨rfl, ((K1.trans K7).trans k9).below (Nat.le_refl _) (by simp)⟩
    · obtain rfl : j = l.length := by omega
      have hnil : (encs ((l.drop l.length).map (·.2))).take m = [] := by simp [encs]
      rw [hnil] at r'
      clear hnil hcell hmE
      go_wp2_with fail
      refine (end_any q _ _ _ _ r').mono ?_
      rintro e w8 ⟨rfl, hw⟩
      subst w8
      go_wp2_with fail
      refine (known_any _).mono ?_
      rintro e w9 ⟨rfl, k9⟩
      go_wp2_with fail
      go_ret
      exact ⟨rfl, ((K1.trans K').trans k9).below (Nat.le_refl _) (by simp)⟩

set_option maxRecDepth 100000 in
theorem lifted (os : Os) (started : os.Started) (H : Type) (enc : TypeId × Value → H) :
    ReturnsInHanded {} Try.checked os 8 .any (Rows.wireCutsSpec.pre6 enc Try.prog Try.f8 Rows.wireCutsRow.domain false) (Rows.wireCutsSpec.post enc Try.prog Try.f8 false true false false) := by
  refine returnsInHanded_of_change (C := Try.checked) own started (by kernel_rfl) Try.func8
    (ChangeSpec.witness6 (enc := enc) (C := Try.checked) false ⟨#[], #[.slice none 0 0, .int .i64 0], []⟩ 8 (by kernel_rfl) (by kernel_rfl) (by kernel_rfl) (by kernel_rfl)) ?_
  intro W base args ds gs before hval0 hW hcnd _
  have hval : ∀ (j : Nat) t v, Try.f8.params[j]? = some t → args[j]? = some v → Value.okWide Try.prog W .any base t v := hval0
  have hW' := hW
  obtain ⟨p, q, hA0, hV, rfl, hfz, hnd⟩ := hW
  have hA : DataW.TrodAll enc Try.prog W 0 (fun _ => true) true Try.f8.params.toList args.toList ds p := hA0
  rw [Try.params8] at hA hval
  obtain ⟨v0, vs0, d0, ds0, p0, q0, hargs, rfl, rfl, h0, r0⟩ := trodAll_cons hA
  obtain ⟨v1, vs1, d1, ds1, p1, q1, rfl, rfl, rfl, h1, r1⟩ := trodAll_cons r0
  obtain ⟨rfl, rfl, rfl⟩ := trodAll_nil r1
  obtain rfl : args = #[v0, v1] := by cases args; simp_all
  obtain ⟨rfl, rfl⟩ := trodVars_none hV
  obtain ⟨a0, len0, cap0, rfl⟩ := okWide_slice Try.underlying28 (hval 0 28 v0 rfl rfl)
  have k0 := h0
  have lt0 : ∀ x ∈ p0, x.block < W.heap.size := by obtain ⟨m, hm⟩ := k0; exact DataW.trod_lt m _ _ _ hm
  obtain ⟨l0, s0⟩ : ∃ l, Lists W (.slice a0 len0 cap0) l := by
    obtain ⟨fuel, hf⟩ := h0
    exact lists_of_trod (by simpa [Value.cells] using hf)
  obtain ⟨a1, rfl, rfl, rfl, w1⟩ := open_int Try.underlying3 (hval 1 3 v1 rfl rfl) h1
  clear hA0 hval0
  refine (walk (.slice a0 len0 cap0) l0 a1 W s0 (bounds_i64 w1)).mono fun e W' ⟨he, bel⟩ => ?_
  subst he
  exact ⟨_, rfl, _, _, _, [], _, [], hW', trodAll_mk1 (shut_bool Try.underlying4 _), (trodAll_cons_mk (Below.trod laidOut (by kernel_rfl) (of_decide_eq_true (by kernel_rfl)) k0 bel lt0) (trodAll_cons_mk (shut_int Try.underlying3 w1) trodAll_mk0)), rfl, bel.frame _, fun h => by cases h⟩

theorem over : Rows.wireCutsRow.holds Try.pinned (OpenSpec.ofChange Rows.wireCutsSpec) :=
  OpenClaim.holds_of_wide 8 Try.f8 rfl rfl rfl rfl rfl rfl rfl ⟨rfl, rfl, rfl, rfl, rfl⟩ rfl rfl rfl rfl rfl (by kernel_rfl) Try.func8 (by kernel_rfl)
    (of_decide_eq_true (by kernel_rfl)) (by unfold Func.isWrapper; first | (rw [if_pos (by decide +kernel)]; kernel_rfl) | (rw [if_neg (by decide +kernel)]; exact ⟨rfl, rfl⟩))
    (fun os started H enc _ => lifted os started H enc)
end Go.Proofs.Ythpekclkclpbpaa.wireCuts

namespace Go.Proofs.Ythpekclkclpbpaa
/-- The given statement. -/
theorem WireCuts_holds : Rows.WireCutsSaid := wireCuts.over
#print axioms WireCuts_holds
end Go.Proofs.Ythpekclkclpbpaa
