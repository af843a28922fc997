/-
  KeysOnce: through any takes and crashes, at any call of the disk, no key is told twice; the ones that are told rise.
-/
import Derived.Test.YtjmabnchaglpdaaKKSt
import Derived.ShutString
import Derived.ChangeOld
import Derived.Below
namespace Go.Proofs.Ytjmabnchaglpdaa.keysOnce
open Go.ChangeShapes Go.WideShapes Go.ChangeAt Go.RowKit
open Go.Proofs.Ytjmabnchaglpdaa
set_option linter.unusedVariables false

theorem own : ownKnob Try.prog.godebug = none := by kernel_rfl
theorem laidOut : laidOutB Try.prog = true := by kernel_rfl
theorem next_at {w0 w : World} {p q n k : Nat} {d : Dk} (h : Bx w0 w p d q n k) (x : Int) (hx : (n : Int) = x) : Calls Try.prog 10 #[.pointer (some ⟨q, 0, none⟩)] w fun e w' => e = .returned (.int .i64 x) ∧ w' = w := by
  rw [← hx]; exact next_any h
set_option maxHeartbeats 8000000 in
set_option maxRecDepth 100000 in
theorem walk (v0 : Value) (l0 : List Int) (v1 : Value) (l1 : List Int) (w : World) (s0 : IntsK w v0 l0) (s1 : IntsK w v1 l1) :
    Calls Try.prog 4 #[v0, v1] w fun e w' => e = .returned (.bool true) ∧ Below w.heap.size w w' := by
  have HOn := hide (kon_any (.slice none 0 0) [] w (Sl.nil w) (fun b hb => by cases hb) (by simp))
  have HS0 := hide (fun w' (k : Kp [] w w') => s0.kept k)
  have HS1 := hide (fun w' (k : Kp [] w w') => s1.kept k)
  obtain ⟨a0, c0, e0, hl0, -⟩ := id s0
  obtain ⟨L0, hL0⟩ : ∃ L, L = l0.length := ⟨_, rfl⟩
  rw [← hL0] at e0 hl0
  subst e0
  obtain ⟨a1, c1, e1, hl1, -⟩ := id s1
  obtain ⟨L1, hL1⟩ : ∃ L, L = l1.length := ⟨_, rfl⟩
  rw [← hL1] at e1 hl1
  subst e1
  have HL0 := hide hL0
  have HL1 := hide hL1
  clear s0 s1 hL0 hL1
  go_enter Try.func4, Try.ntmps4
  go_wp2_with fail
  refine HOn.out.mono ?_
  rintro ee w1 ⟨p, rfl, N1⟩
  have HN1 := hide N1
  clear N1 HOn
  go_wp2_with fail
  go_loopw [6, 7] (fun la i wr => ∃ (k m : Nat) (last : Int) (d : Dk), k ≤ 30 ∧ la = .int .i64 last ∧ i = .int .i64 k ∧ -1 ≤ last ∧ last < m ∧ Rst d m ∧ Nx w wr p d) (fun _ i _ => 30 - (intOf i).toNat)
  case atStart => exact ⟨0, 0, -1, _, by omega, rfl, rfl, by omega, by omega, rst0, HN1.out⟩
  case round =>
    obtain ⟨k, m, last, d, hk, rfl, rfl, hla, hlm, hR, NR⟩ := hrel
    have HNR := hide NR
    have HR := hide hR
    clear NR
    have hkb : (k : Int) ≤ 30 := by omega
    by_cases hlt : k < L0 ∧ k < 30
    · obtain ⟨hlt0, hlt30⟩ := hlt
      have hlt0' : (k : Int) < (L0 : Int) := by omega
      have hlt30' : (k : Int) < 30 := by omega
      have hm16 := hR.le
      obtain ⟨at_, hat⟩ := hR.opn
      have HOp := hide (kopen_ok HNR.out hR.down hR.arm rfl hm16 hat hR.cut)
      clear hR hat
      go_wp2_with fail
      refine HOp.out.mono ?_
      rintro ee w2 ⟨q, rfl, B2⟩
      have HB2 := hide B2
      have HNx := hide (next_any B2)
      have HLf := hide (left_keys B2 hm16 (16 - (m : Int)) rfl)
      have hnl : ¬ (m : Int) ≤ last := by omega
      have hm16' : (m : Int) ≤ 16 := by omega
      obtain ⟨b, off, x, hao, hcx⟩ : ∃ b off, ∃ x : Int, a0 = some ⟨b, off, none⟩ ∧ w2.cell? ⟨b, off + k, none⟩ = some (.int .i64 x) := by
        obtain ⟨aB, cB, eB, -, hbc⟩ := HS0.out w2 B2.kp
        injection eB with f1 f2 f3
        obtain ⟨b2, off2, h1, h2⟩ := hbc k (by have := HL0.out; omega)
        exact ⟨b2, off2, _, by rw [f1]; exact h1, h2⟩
      subst hao
      have hwi := wiP_ge x 0 9 (by omega)
      have HW := hide (within_wi x 0 9 w2 (by omega) (by omega) (by omega))
      obtain ⟨a, ha⟩ : ∃ a, a = wiP x 0 9 := ⟨_, rfl⟩
      rw [← ha] at HW hwi
      have HAr := hide (bx_arm B2 a (by omega) (upD_arm m a hwi.1))
      have HWi := hide hwi
      clear B2 HOp ha hwi
      go_wp2_with (first
        | (go_at_call 10; refine HNx.out.mono ?_; rintro ee w4 ⟨rfl, hw⟩; subst w4)
        | (go_at_call 11; refine HLf.out.mono ?_; rintro ee w4 ⟨rfl, hw⟩; subst w4; clear HLf)
        | (go_at_call 17; refine HW.out.mono ?_; rintro ee w4 ⟨rfl, hw⟩; subst w4; clear HW)
        | (go_at_call 16; refine HAr.out.mono ?_; rintro ee w3 ⟨rfl, B3⟩; have HB3 := hide B3; clear B3 HAr))
      have HSt : Hid (Stn (upD m a) m) := ⟨hm16, .inl ⟨a, HWi.out.1, rfl⟩⟩
      clear HNx hcx HWi hnl HN1 HR HNR
      go_loopw [6, 10] (fun la i wr => ∃ (j n : Nat) (last : Int) (d : Dk), j ≤ 3 ∧ la = .int .i64 last ∧ i = .int .i64 j ∧ -1 ≤ last ∧ last < n ∧ Stn d n ∧ Bx w wr p d q n (16 + j)) (fun _ i _ => 3 - (intOf i).toNat)
      case atStart => exact ⟨0, m, last, _, by omega, rfl, rfl, hla, hlm, HSt.out, HB3.out.more (by omega)⟩
      case round =>
        obtain ⟨j, n, last, d, hj, rfl, rfl, hla, hln, hS, BJ⟩ := hrel
        have HBJ := hide BJ
        have HS := hide hS
        have hn16 := hS.1
        have hjb : (j : Int) ≤ 3 := by omega
        have hnb : (n : Int) ≤ 16 := by omega
        clear BJ hS
        by_cases hj3 : j < 3
        · have hj3' : (j : Int) < 3 := by omega
          by_cases hn : n = 16
          · subst hn
            have HT := hide (take_used HBJ.out)
            have HNx := hide (next_at HBJ.out 16 rfl)
            go_wp2_with (first
              | (go_at_call 10; refine HNx.out.mono ?_; rintro ee w4 ⟨rfl, hw⟩; subst w4)
              | (go_at_call 12; refine HT.out.mono ?_; rintro ee w4 ⟨rfl, hw⟩; subst w4; clear HT))
            go_roundw
            case rel => exact ⟨j + 1, 16, last, d, by omega, rfl, by go_num, hla, hln, HS.out, HBJ.out.more (by omega)⟩
            case measure => simp [intOf]; omega
          · have hn' : n < 16 := by omega
            obtain ⟨er, d', hadd, hS'⟩ := stn_take HS.out hn'
            cases er
            · have HT := hide (take_any HBJ.out hn' (by omega) false hadd 0 13 rfl rfl n rfl)
              have HNx := hide (next_any HBJ.out)
              have HS' : Hid (Stn d' n) := hS'
              clear hS' hadd
              go_wp2_with (first
                | (go_at_call 10; refine HNx.out.mono ?_; rintro ee w4 ⟨rfl, hw⟩; subst w4; clear HNx)
                | (go_at_call 12; refine HT.out.mono ?_; rintro ee w4 ⟨rfl, B4⟩; have HB4 := hide B4; clear B4 HT; have HNx := hide (next_any HB4.out)))
              go_roundw
              case rel => exact ⟨j + 1, n, last, d', by omega, rfl, by go_num, hla, hln, HS'.out, HB4.out⟩
              case measure => simp [intOf]; omega
            · have HT := hide (take_any HBJ.out hn' (by omega) true hadd n 0 rfl rfl (n + 1) rfl)
              have HNx := hide (next_any HBJ.out)
              have HS' : Hid (Stn d' (n + 1)) := hS'
              have hnl : ¬ (n : Int) ≤ last := by omega
              clear hS' hadd
              go_wp2_with (first
                | (go_at_call 10; refine HNx.out.mono ?_; rintro ee w4 ⟨rfl, hw⟩; subst w4; clear HNx)
                | (go_at_call 12; refine HT.out.mono ?_; rintro ee w4 ⟨rfl, B4⟩; have HB4 := hide B4; clear B4 HT; have HNx := hide (next_at HB4.out ((n : Int) + 1) (by omega))))
              go_roundw
              case rel => exact ⟨j + 1, n + 1, n, d', by omega, rfl, by go_num, by omega, by omega, HS'.out, HB4.out⟩
              case measure => simp [intOf]; omega
        · have hj3' : ¬ (j : Int) < 3 := by omega
          have HNJ := hide HBJ.out.nx
          by_cases hkl : k < L1
          · have hkl' : (k : Int) < (L1 : Int) := by omega
            obtain ⟨b1, off1, x1, hao1, hcx1⟩ : ∃ b off, ∃ x : Int, a1 = some ⟨b, off, none⟩ ∧ wr.cell? ⟨b, off + k, none⟩ = some (.int .i64 x) := by
              obtain ⟨aB, cB, eB, -, hbc⟩ := HS1.out wr HNJ.out.kp
              injection eB with f1 f2 f3
              obtain ⟨b2, off2, h1, h2⟩ := hbc k (by have := HL1.out; omega)
              exact ⟨b2, off2, _, by rw [f1]; exact h1, h2⟩
            subst hao1
            obtain ⟨m', hm', hR'⟩ := stn_crash HS.out x1
            have HCr := hide (nx_crash HNJ.out x1 rfl)
            have HR' := hide hR'
            clear hR'
            go_wp2_with fail
            refine HCr.out.mono ?_
            rintro ee w5 ⟨rfl, N5⟩
            have HN5 := hide N5
            clear N5 HCr
            go_wp2_with fail
            go_roundw
            case rel => exact ⟨k + 1, m', last, _, by omega, rfl, by go_num, hla, by omega, HR'.out, HN5.out⟩
            case measure => simp [intOf]; omega
          · have hkl' : ¬ (k : Int) < (L1 : Int) := by omega
            obtain ⟨m', hm', hR'⟩ := stn_crash HS.out 0
            have HCr := hide (nx_crash HNJ.out 0 rfl)
            have HR' := hide hR'
            clear hR'
            go_wp2_with fail
            refine HCr.out.mono ?_
            rintro ee w5 ⟨rfl, N5⟩
            have HN5 := hide N5
            clear N5 HCr
            go_wp2_with fail
            go_roundw
            case rel => exact ⟨k + 1, m', last, _, by omega, rfl, by go_num, hla, by omega, HR'.out, HN5.out⟩
            case measure => simp [intOf]; omega
    · have HKn := hide (kknown_any wr)
      by_cases hlt0 : k < L0
      · have hlt0' : (k : Int) < (L0 : Int) := by omega
        have hlt30' : ¬ (k : Int) < 30 := by omega
        go_wp2_with fail
        refine HKn.out.mono ?_
        rintro ee w8 ⟨rfl, K8⟩
        have HK8 := hide (HNR.out.kp.trans K8)
        clear K8 HKn
        go_wp2_with fail
        go_ret
        exact ⟨rfl, HK8.out.below (Nat.le_refl _) (by simp)⟩
      · have hlt0' : ¬ (k : Int) < (L0 : Int) := by omega
        go_wp2_with fail
        refine HKn.out.mono ?_
        rintro ee w8 ⟨rfl, K8⟩
        have HK8 := hide (HNR.out.kp.trans K8)
        clear K8 HKn
        go_wp2_with fail
        go_ret
        exact ⟨rfl, HK8.out.below (Nat.le_refl _) (by simp)⟩

set_option maxRecDepth 100000 in
theorem lifted (os : Os) (started : os.Started) (H : Type) (enc : TypeId × Value → H) :
    ReturnsInHanded {} Try.checked os 4 .any (Rows.keysOnceSpec.pre6 enc Try.prog Try.f4 Rows.keysOnceRow.domain false) (Rows.keysOnceSpec.post enc Try.prog Try.f4 false true false false) := by
  refine returnsInHanded_of_change (C := Try.checked) own started (by kernel_rfl) Try.func4
    (ChangeSpec.witness6 (enc := enc) (C := Try.checked) false ⟨#[], #[.slice none 0 0, .slice none 0 0], []⟩ 8 (by kernel_rfl) (by kernel_rfl) (by kernel_rfl) (by kernel_rfl)) ?_
  intro W base args ds gs before hval0 hW hcnd _
  have hval : ∀ (j : Nat) t v, Try.f4.params[j]? = some t → args[j]? = some v → Value.okWide Try.prog W .any base t v := hval0
  have hW' := hW
  obtain ⟨p, q, hA0, hV, rfl, hfz, hnd⟩ := hW
  have hA : DataW.TrodAll enc Try.prog W 0 (fun _ => true) true Try.f4.params.toList args.toList ds p := hA0
  rw [Try.params4] at hA hval
  obtain ⟨v0, vs0, d0, ds0, p0, q0, hargs, rfl, rfl, h0, r0⟩ := trodAll_cons hA
  obtain ⟨v1, vs1, d1, ds1, p1, q1, rfl, rfl, rfl, h1, r1⟩ := trodAll_cons r0
  obtain ⟨rfl, rfl, rfl⟩ := trodAll_nil r1
  obtain rfl : args = #[v0, v1] := by cases args; simp_all
  obtain ⟨rfl, rfl⟩ := trodVars_none hV
  obtain ⟨a0, len0, cap0, rfl⟩ := okWide_slice Try.underlying37 (hval 0 37 v0 rfl rfl)
  have k0 := h0
  have lt0 : ∀ x ∈ p0, x.block < W.heap.size := by obtain ⟨m, hm⟩ := k0; exact DataW.trod_lt m _ _ _ hm
  obtain ⟨l0, s0⟩ : ∃ l, IntsK W (.slice a0 len0 cap0) l := by
    obtain ⟨fuel, hf⟩ := h0
    exact intsK_of_trod (by simpa [Value.cells] using hf)
  obtain ⟨a1, len1, cap1, rfl⟩ := okWide_slice Try.underlying37 (hval 1 37 v1 rfl rfl)
  have k1 := h1
  have lt1 : ∀ x ∈ p1, x.block < W.heap.size := by obtain ⟨m, hm⟩ := k1; exact DataW.trod_lt m _ _ _ hm
  obtain ⟨l1, s1⟩ : ∃ l, IntsK W (.slice a1 len1 cap1) l := by
    obtain ⟨fuel, hf⟩ := h1
    exact intsK_of_trod (by simpa [Value.cells] using hf)
  clear hA0 hval0
  refine (walk (.slice a0 len0 cap0) l0 (.slice a1 len1 cap1) l1 W s0 s1).mono fun e W' ⟨he, bel⟩ => ?_
  subst he
  exact ⟨_, rfl, _, _, _, [], _, [], hW', trodAll_mk1 (shut_bool Try.underlying4 _), (trodAll_cons_mk (Below.trod laidOut (by kernel_rfl) (of_decide_eq_true (by kernel_rfl)) k0 bel lt0) (trodAll_cons_mk (Below.trod laidOut (by kernel_rfl) (of_decide_eq_true (by kernel_rfl)) k1 bel lt1) trodAll_mk0)), rfl, bel.frame _, fun h => by cases h⟩

theorem over : Rows.keysOnceRow.holds Try.pinned (OpenSpec.ofChange Rows.keysOnceSpec) :=
  OpenClaim.holds_of_wide 4 Try.f4 rfl rfl rfl rfl rfl rfl rfl ⟨rfl, rfl, rfl, rfl, rfl⟩ rfl rfl rfl rfl rfl (by kernel_rfl) Try.func4 (by kernel_rfl)
    (of_decide_eq_true (by kernel_rfl)) (by unfold Func.isWrapper; first | (rw [if_pos (by decide +kernel)]; kernel_rfl) | (rw [if_neg (by decide +kernel)]; exact ⟨rfl, rfl⟩))
    (fun os started H enc _ => lifted os started H enc)
end Go.Proofs.Ytjmabnchaglpdaa.keysOnce

namespace Go.Proofs.Ytjmabnchaglpdaa
/-- The given statement. -/
theorem KeysOnce_holds : Rows.KeysOnceSaid := keysOnce.over
#print axioms KeysOnce_holds
end Go.Proofs.Ytjmabnchaglpdaa
