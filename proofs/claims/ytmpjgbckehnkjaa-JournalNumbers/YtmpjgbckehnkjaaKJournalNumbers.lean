/-
  JournalNumbers: chapter 13's runs, a journal that is cut off at each place, and turned at each.
-/
import Derived.Test.YtmpjgbckehnkjaaKJFew
import Derived.ShutString
import Derived.ChangeOld
import Derived.Below
namespace Go.Proofs.Ytmpjgbckehnkjaa.journalNumbers
open Go.ChangeShapes Go.WideShapes Go.ChangeAt Go.RowKit
open Go.Proofs.Ytmpjgbckehnkjaa
set_option linter.unusedVariables false

theorem own : ownKnob Try.prog.godebug = none := by kernel_rfl
theorem laidOut : laidOutB Try.prog = true := by kernel_rfl
set_option maxHeartbeats 8000000 in
set_option maxRecDepth 100000 in
theorem walk (w : World) :
    Calls Try.prog 3 #[] w fun e w' => e = .returned (.bool true) ∧ Below w.heap.size w w' := by
  have cv1 := lit_cv w [111, 110, 101] 3 rfl
  have cv2 := lit_cv (w.alloc (.cells #[.int .u8 111, .int .u8 110, .int .u8 101] 5 (3, 4))) [116, 104, 114, 101, 101, 32, 97, 110, 100, 32, 109, 111, 114, 101] 14 rfl
  have hsz : (w.alloc (.cells #[.int .u8 111, .int .u8 110, .int .u8 101] 5 (3, 4))).heap.size = w.heap.size + 1 := by simp
  simp only [List.map_cons, List.map_nil, hsz] at cv1 cv2
  obtain ⟨wA, hwA⟩ : ∃ wA, wA = w.alloc (.cells #[.int .u8 111, .int .u8 110, .int .u8 101] 5 (3, 4)) := ⟨_, rfl⟩
  obtain ⟨wB, hwB⟩ : ∃ wB, wB = wA.alloc (.cells #[.int .u8 116, .int .u8 104, .int .u8 114, .int .u8 101, .int .u8 101, .int .u8 32, .int .u8 97, .int .u8 110, .int .u8 100, .int .u8 32, .int .u8 109, .int .u8 111, .int .u8 114, .int .u8 101] 5 (14, 15)) := ⟨_, rfl⟩
  obtain ⟨wC, hwC⟩ : ∃ wC, wC = wB.alloc (.cells #[.int .u8 1] 5) := ⟨_, rfl⟩
  have kA : Kp [] w wA := by rw [hwA]; exact (Kp.refl [] w).alloc _
  have kB : Kp [] wA wB := by rw [hwB]; exact (Kp.refl [] wA).alloc _
  have kC : Kp [] wB wC := by rw [hwC]; exact (Kp.refl [] wB).alloc _
  have zA : wA.heap.size = w.heap.size + 1 := by rw [hwA]; simp
  have zB : wB.heap.size = w.heap.size + 2 := by rw [hwB]; simp [zA]
  have zC : wC.heap.size = w.heap.size + 3 := by rw [hwC]; simp [zB]
  have sA : Sl wC (.slice (some ⟨w.heap.size, 0, none⟩) 3 3) [111, 110, 101] := by
    have := lit_sl w [111, 110, 101] 3 (3, 4) rfl (by omega)
    simp only [List.map_cons, List.map_nil] at this
    rw [← hwA] at this
    exact this.kept (kB.trans kC) (by simp)
  have sB : Sl wC (.slice (some ⟨w.heap.size + 1, 0, none⟩) 14 14) [116, 104, 114, 101, 101, 32, 97, 110, 100, 32, 109, 111, 114, 101] := by
    have := lit_sl wA [116, 104, 114, 101, 101, 32, 97, 110, 100, 32, 109, 111, 114, 101] 14 (14, 15) rfl (by omega)
    simp only [List.map_cons, List.map_nil] at this
    rw [← hwB, zA] at this
    exact this.kept kC (by simp)
  have sC : Sl wC (.slice (some ⟨w.heap.size + 2, 0, none⟩) 1 1) [1] := by
    have := lit_sl wB [1] 1 (0, 0) rfl (by omega)
    simp only [List.map_cons, List.map_nil] at this
    rw [← hwC, zB] at this
    exact this
  obtain ⟨la, hla⟩ : ∃ la : List (Value × List Int), la = [(.slice (some ⟨w.heap.size, 0, none⟩) 3 3, [111, 110, 101]), (.slice none 0 0, []), (.slice (some ⟨w.heap.size + 1, 0, none⟩) 14 14, [116, 104, 114, 101, 101, 32, 97, 110, 100, 32, 109, 111, 114, 101]), (.slice (some ⟨w.heap.size + 2, 0, none⟩) 1 1, [1])] := ⟨_, rfl⟩
  have HL : Hid (Lists (wC.alloc (.cells #[.slice (some ⟨w.heap.size, 0, none⟩) 3 3, .slice none 0 0, .slice (some ⟨w.heap.size + 1, 0, none⟩) 14 14, .slice (some ⟨w.heap.size + 2, 0, none⟩) 1 1] 22)) (.slice (some ⟨w.heap.size + 3, 0, none⟩) 4 4) la) := by
    have kD : Kp [] wC (wC.alloc (.cells #[.slice (some ⟨w.heap.size, 0, none⟩) 3 3, .slice none 0 0, .slice (some ⟨w.heap.size + 1, 0, none⟩) 14 14, .slice (some ⟨w.heap.size + 2, 0, none⟩) 1 1] 22)) := (Kp.refl [] wC).alloc _
    have := lists_of_block (w := wC.alloc (.cells #[.slice (some ⟨w.heap.size, 0, none⟩) 3 3, .slice none 0 0, .slice (some ⟨w.heap.size + 1, 0, none⟩) 14 14, .slice (some ⟨w.heap.size + 2, 0, none⟩) 1 1] 22)) (g := wC.heap.size) (l := la) (t := 22) (fr := (0, 0)) (by rw [hla]; exact heap_alloc_new wC _) (by rw [hla]; simp) (fun x hx => by
      rw [hla] at hx
      rcases (by simpa using hx : x = (.slice (some ⟨w.heap.size, 0, none⟩) 3 3, [111, 110, 101]) ∨ x = (.slice none 0 0, []) ∨ x = (.slice (some ⟨w.heap.size + 1, 0, none⟩) 14 14, [116, 104, 114, 101, 101, 32, 97, 110, 100, 32, 109, 111, 114, 101]) ∨ x = (.slice (some ⟨w.heap.size + 2, 0, none⟩) 1 1, [1])) with rfl | rfl | rfl | rfl
      · exact ⟨sA.kept kD (by simp), fun b hb => by simp at hb; omega⟩
      · exact ⟨Sl.nil _, fun b hb => by cases hb⟩
      · exact ⟨sB.kept kD (by simp), fun b hb => by simp at hb; omega⟩
      · exact ⟨sC.kept kD (by simp), fun b hb => by simp at hb; omega⟩)
    rw [zC] at this
    have hl : la.length = 4 := by rw [hla]; rfl
    rw [hl] at this
    exact this
  have hsm : ∀ x ∈ la, x.2.length ≤ 100 := fun x hx => by
    rw [hla] at hx
    rcases (by simpa using hx : x = (.slice (some ⟨w.heap.size, 0, none⟩) 3 3, [111, 110, 101]) ∨ x = (.slice none 0 0, []) ∨ x = (.slice (some ⟨w.heap.size + 1, 0, none⟩) 14 14, [116, 104, 114, 101, 101, 32, 97, 110, 100, 32, 109, 111, 114, 101]) ∨ x = (.slice (some ⟨w.heap.size + 2, 0, none⟩) 1 1, [1])) with rfl | rfl | rfl | rfl <;> simp
  have hll : la.length = 4 := by rw [hla]; rfl
  have HLy := hide (lay_any _ la _ HL.out (fun x hx => Nat.le_trans (hsm x hx) (by omega)) (by omega))
  obtain ⟨B, hB⟩ : ∃ B, B = layP (la.map (·.2)) := ⟨_, rfl⟩
  have HBl : Hid (B.length ≤ 1000) := by
    have := lay_len la 4 100 (by omega) hsm
    rw [← hB] at this
    exact hide (by omega)
  have HBB : Hid (Bs B) := by rw [hB]; exact lay_bs HL.out
  rw [← hB, hwC, hwB, hwA] at HLy
  have HKD : Hid (Kp [] w ((((w.alloc (.cells #[.int .u8 111, .int .u8 110, .int .u8 101] 5 (3, 4))).alloc (.cells #[.int .u8 116, .int .u8 104, .int .u8 114, .int .u8 101, .int .u8 101, .int .u8 32, .int .u8 97, .int .u8 110, .int .u8 100, .int .u8 32, .int .u8 109, .int .u8 111, .int .u8 114, .int .u8 101] 5 (14, 15))).alloc (.cells #[.int .u8 1] 5)).alloc (.cells #[.slice (some ⟨w.heap.size, 0, none⟩) 3 3, .slice none 0 0, .slice (some ⟨w.heap.size + 1, 0, none⟩) 14 14, .slice (some ⟨w.heap.size + 2, 0, none⟩) 1 1] 22))) := ((((Kp.refl [] w).alloc _).alloc _).alloc _).alloc _
  clear hB hla hsm hll HL sA sB sC zA zB zC kA kB kC hwA hwB hwC hsz
  go_enter Try.func3, Try.ntmps3
  go_wp2_with fail
  refine HLy.out.mono ?_
  rintro ee w1 ⟨ab, mb, cb, rfl, R1, K1⟩
  have HR1 := hide R1
  have HM := hide R1.len
  have HK1 := hide (HKD.out.trans K1)
  have hm1 : (mb : Int) ≤ 1000 := by have := HM.out; have := HBl.out; omega
  have hrm := R1.room
  have hmc : (mb : Int) ≤ (cb : Int) := by omega
  have HRM := hide hrm.2
  clear R1 K1 HLy HKD cv1 cv2 hrm
  go_wp2_with fail
  go_loopw [2] (fun i wr => ∃ k : Nat, k ≤ mb + 1 ∧ i = .int .i64 k ∧ Kp [] w1 wr) (fun i _ => mb + 1 - (intOf i).toNat)
  case atStart => exact ⟨0, by omega, rfl, Kp.refl _ _⟩
  case round =>
    obtain ⟨k, hk, rfl, KR⟩ := hrel
    have HKR := hide KR
    clear KR
    by_cases hlt : k ≤ mb
    · have hlt' : (k : Int) ≤ (mb : Int) := by omega
      have hkc : (k : Int) ≤ (cb : Int) := by omega
      have hrun : ∀ W, (Instr.sliceAt 22 (.slice ab mb cb) none (some (.int .i64 k)) none).run Try.prog W = .ok (.slice ab k cb) W := fun W => run_first ab mb cb k W (by omega) HRM.out
      have HO := hide (opens_any (.slice ab k cb) (B.take k) wr ((HR1.out.sl.kept HKR.out (by simp)).take k (by have := HM.out; omega)) (HBB.out.takes k) (by have := HBl.out; simp; omega))
      go_wp2_with fail
      refine HO.out.mono ?_
      rintro ee w2 ⟨rfl, K2⟩
      have HK2 := hide (HKR.out.trans K2)
      clear HO K2 hrun
      by_cases hk2 : k < mb
      · have hk2' : (k : Int) < (mb : Int) := by omega
        have hr0 := row_none w2
        have hxa : Sl (w2.alloc (.cells #[] 5)) (.slice ab mb cb) B := (HR1.out.sl.kept HK2.out (by simp)).kept ((Kp.refl [] w2).alloc _) (by simp)
        have ka : Kp [] w2 (w2.alloc (.cells #[] 5)) := (Kp.refl [] w2).alloc _
        have hbl := HBl.out
        go_wp2_with (at_builtin; refine wpList_append_row rfl (.tmp 33) (.tmp 34) rfl w2.heap.size _ [] rfl hr0 _ B rfl hxa (by simp; omega) (by simp) ?_; intro ay my cy w3 RY SY; have HK23 : Hid (Kp [] w2 w3) := SY.kpn ka hr0; rw [List.nil_append] at RY; obtain rfl : mb = my := HM.out.trans RY.len.symm; have HRY := hide RY; clear SY hr0 hxa ka; obtain ⟨g, rfl, hg1, hg2, hcl, hfz, hst⟩ := RY.spot (by omega); have hcq := hcl k (by have := HM.out; omega); have hfq := hfz k; obtain ⟨y, hy⟩ : ∃ y, y = B[k]'(by have := HM.out; omega) := ⟨_, rfl⟩; rw [← hy] at hcq; have HST := hide (hst k); have HG1 := hide hg1; obtain ⟨z, hz⟩ : ∃ z, z = bits .xor .u8 y 64 := ⟨_, rfl⟩; have HZB : Hid (0 ≤ z ∧ z ≤ 255) := (by rw [hz]; exact xor8 _ _); have hzr : Op.intBits .xor .u8 y 64 = pure (.int .u8 z) := (by rw [intBits_xor, hz]); clear hcl hfz hst hy hg1 hg2 hz RY)
        obtain ⟨w4, hw4⟩ : ∃ w4, w4 = w3.setCell ⟨g, k, none⟩ (.int .u8 z) := ⟨_, rfl⟩
        have HK24 : Hid (Kp [] w1 w4) := by rw [hw4]; exact (HK2.out.trans HK23.out).then (kp_set w3 g k _) (fun i hi => .inr (by simp at hi; have := HG1.out; have := HK2.out.size; omega))
        have HO2 := hide (opens_any (.slice (some ⟨g, 0, none⟩) mb cy) (B.set k z) w4 (by rw [hw4]; exact (HST.out z).sl) (HBB.out.set k z HZB.out.1 HZB.out.2) (by rw [List.length_set]; omega))
        rw [← hw4]
        clear hw4 hzr hcq hfq HST hbl
        go_wp2_with fail
        refine HO2.out.mono ?_
        rintro ee w5 ⟨rfl, K5⟩
        have HK5 := hide (HK24.out.trans K5)
        clear HO2 K5 HK24
        go_wp2_with fail
        go_roundw
        case rel => exact ⟨k + 1, by omega, by go_num, HK5.out⟩
        case measure => simp [intOf]; omega
      · have hk2' : ¬ (k : Int) < (mb : Int) := by omega
        go_wp2_with fail
        go_roundw
        case rel => exact ⟨k + 1, by omega, by go_num, HK2.out⟩
        case measure => simp [intOf]; omega
    · have hlt' : ¬ (k : Int) ≤ (mb : Int) := by omega
      have HKr := hide (HK1.out.trans HKR.out)
      go_wp2_with fail
      refine (open_nil wr).mono ?_
      rintro ee w2 ⟨rfl, hw2⟩
      subst w2
      have HOn := hide (on_any (.slice none 0 0) [] wr (Sl.nil wr) (fun b hb => by cases hb) (by simp))
      go_wp2_with fail
      refine HOn.out.mono ?_
      rintro ee w2 ⟨p, v2, rfl, N2⟩
      have HOp := hide (open_ok N2 rfl (Int.le_refl 0) rfl opnP_nil opn0)
      simp only [List.length_nil] at HOp
      clear N2 HOn
      go_wp2_with fail
      refine HOp.out.mono ?_
      rintro ee w3 ⟨j, v3, al, cl, l, rfl, J3, -, -, -, -⟩
      have HJ3 := hide J3
      clear J3 HOp
      obtain ⟨n16, hn16⟩ : ∃ n : Nat, n = 65536 := ⟨_, rfl⟩
      have hn16' : (65536 : Int) = (n16 : Int) := by omega
      have HN16 := hide hn16
      obtain ⟨w4, hmk4, S4, K4⟩ := make_j w3 n16 (by omega)
      rw [← hn16'] at hmk4
      have HA := hide (jadd_long (j := j) S4 (by simp; omega))
      obtain ⟨w5, hmk5, S5, K5⟩ := make_j w4 n16 (by omega)
      rw [← hn16'] at hmk5
      have HP := hide (jput_long (j := j) S5 (by simp; omega))
      have HJ5 := hide (HJ3.out.on (K4.trans K5))
      have HS := hide (sizen_any p v3 _ _ w5 HJ5.out.nw.dk 0 rfl)
      have hsl := lit_sl w5 [0, 1, 0, 0, 255, 254, 255, 255] 8 (0, 0) rfl (by omega)
      simp only [List.map_cons, List.map_nil] at hsl
      have HO := hide (opens_any _ _ _ hsl (fun b hb => by simp at hb; omega) (by simp))
      have HK5 : Hid (Kp [] w (w5.alloc (.cells #[.int .u8 0, .int .u8 1, .int .u8 0, .int .u8 0, .int .u8 255, .int .u8 254, .int .u8 255, .int .u8 255] 5))) := (HKr.out.trans HJ5.out.nw.kp).alloc _
      clear hsl K4 K5 S4 S5 hn16 hn16' HJ3
      go_wp2_with (first
        | (go_at_call 13; refine HA.out.mono ?_; rintro ee w6 ⟨rfl, hw6⟩; subst w6; clear HA)
        | (go_at_call 14; refine HP.out.mono ?_; rintro ee w6 ⟨rfl, hw6⟩; subst w6; clear HP)
        | (go_at_call 15; refine HS.out.mono ?_; rintro ee w6 ⟨rfl, hw6⟩; subst w6; clear HS)
        | (go_at_call 16; refine (jcount_any HJ5.out).mono ?_; rintro ee w6 ⟨rfl, hw6⟩; subst w6)
        | (go_at_call 10; refine HO.out.mono ?_; rintro ee w6 ⟨rfl, K6⟩; have HK6 := hide (HK5.out.trans K6); clear HO K6))
      refine (jknown_any w6).mono ?_
      rintro ee w7 ⟨rfl, K7⟩
      have HK7 := hide (HK6.out.trans K7)
      clear K7 HK6
      go_wp2_with fail
      go_ret
      exact ⟨rfl, HK7.out.below (Nat.le_refl _) (by simp)⟩

set_option maxRecDepth 100000 in
theorem lifted (os : Os) (started : os.Started) (H : Type) (enc : TypeId × Value → H) :
    ReturnsInHanded {} Try.checked os 3 .any (Rows.journalNumbersSpec.pre6 enc Try.prog Try.f3 Rows.journalNumbersRow.domain false) (Rows.journalNumbersSpec.post enc Try.prog Try.f3 false true false false) := by
  refine returnsInHanded_of_change (C := Try.checked) own started (by kernel_rfl) Try.func3
    (ChangeSpec.witness6 (enc := enc) (C := Try.checked) false ⟨#[], #[], []⟩ 8 (by kernel_rfl) (by kernel_rfl) (by kernel_rfl) (by kernel_rfl)) ?_
  intro W base args ds gs before hval0 hW hcnd _
  have hval : ∀ (j : Nat) t v, Try.f3.params[j]? = some t → args[j]? = some v → Value.okWide Try.prog W .any base t v := hval0
  have hW' := hW
  obtain ⟨p, q, hA0, hV, rfl, hfz, hnd⟩ := hW
  have hA : DataW.TrodAll enc Try.prog W 0 (fun _ => true) true Try.f3.params.toList args.toList ds p := hA0
  rw [Try.params3] at hA hval
  obtain ⟨hargs, rfl, rfl⟩ := trodAll_nil hA
  obtain rfl : args = #[] := by cases args; simp_all
  obtain ⟨rfl, rfl⟩ := trodVars_none hV
  clear hA0 hval0
  refine (walk  W ).mono fun e W' ⟨he, bel⟩ => ?_
  subst he
  exact ⟨_, rfl, _, _, _, [], _, [], hW', trodAll_mk1 (shut_bool Try.underlying4 _), trodAll_mk0, rfl, bel.frame _, fun h => by cases h⟩

theorem over : Rows.journalNumbersRow.holds Try.pinned (OpenSpec.ofChange Rows.journalNumbersSpec) :=
  OpenClaim.holds_of_wide 3 Try.f3 rfl rfl rfl rfl rfl rfl rfl ⟨rfl, rfl, rfl, rfl, rfl⟩ rfl rfl rfl rfl rfl (by kernel_rfl) Try.func3 (by kernel_rfl)
    (of_decide_eq_true (by kernel_rfl)) (by unfold Func.isWrapper; first | (rw [if_pos (by decide +kernel)]; kernel_rfl) | (rw [if_neg (by decide +kernel)]; exact ⟨rfl, rfl⟩))
    (fun os started H enc _ => lifted os started H enc)
end Go.Proofs.Ytmpjgbckehnkjaa.journalNumbers

namespace Go.Proofs.Ytmpjgbckehnkjaa
/-- The given statement. -/
theorem JournalNumbers_holds : Rows.JournalNumbersSaid := journalNumbers.over
#print axioms JournalNumbers_holds
end Go.Proofs.Ytmpjgbckehnkjaa
