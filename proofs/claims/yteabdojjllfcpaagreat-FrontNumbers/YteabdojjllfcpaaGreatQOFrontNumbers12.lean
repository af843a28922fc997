/-
  The closed sentence: chapter 17's runs, what can't be opened, rooms that are full.
-/
import Derived.Test.YteabdojjllfcpaaGreatQOFrontNumbers11
namespace Go.Proofs.YteabdojjllfcpaaGreat.frontNumbers
open Go.ChangeShapes Go.WideShapes Go.ChangeAt Go.RowKit
open Go.Proofs.YteabdojjllfcpaaGreat
set_option linter.unusedVariables false
theorem own : ownKnob Tryz.prog.godebug = none := by kernel_rfl
open Go.Proofs
def rubN : List Int := [114, 117, 98, 98, 105, 115, 104]
theorem rub_bs : Bs rubN := fun b hb => by simp [rubN] at hb; omega
theorem lay_one (r : List Int) (h : r.length ≤ 1000) : ∃ a, opnP (recP r) = ([r], a, true) := by
  have h1 := opnP_lay [r] [] (fun x hx => by rw [List.mem_singleton.1 hx]; omega)
  have h2 : layP [r] ++ [] = recP r := by simp [layP]
  rw [h2, opnP_nil] at h1
  exact ⟨_, h1⟩
theorem quo3 (j : Nat) : (j : Int).tdiv 3 = ((j / 3 : Nat) : Int) := by
  rw [Int.tdiv_eq_ediv_of_nonneg (by omega)]
  omega
theorem rem4 (j : Nat) : (j : Int).tmod 4 = ((j % 4 : Nat) : Int) := by
  rw [Int.tmod_eq_emod_of_nonneg (by omega)]
  omega
set_option maxHeartbeats 16000000 in
set_option maxRecDepth 100000 in
theorem walk (w : World) :
    Calls Tryz.prog 3 #[] w fun e w' => e = .returned (.bool true) ∧ Below w.heap.size w w' := by
  have HF := hide (ffresh_any w)
  go_enter Tryz.func3, Tryz.ntmps3
  go_wp2_with fail
  refine HF.out.mono ?_
  rintro ee w1 ⟨p1, rfl, N1⟩
  have HN1 := hide N1
  have HF1 := hide (ffresh_any w1)
  clear HF N1
  go_wp2_with fail
  refine HF1.out.mono ?_
  rintro ee w2 ⟨p2, rfl, N2⟩
  have HN2 := hide N2
  have HSe := hide (xseed_any 0 w2)
  clear HF1 N2
  go_wp2_with fail
  refine HSe.out.mono ?_
  rintro ee w3 ⟨a3, m3, c3, rfl, R3, K3⟩
  have HOp := hide (uopen_fresh HN1.out HN2.out K3 R3 (seedX_bs 0) (seedX_len 0))
  clear HSe R3 K3 HN1 HN2
  go_wp2_with fail
  refine HOp.out.mono ?_
  rintro ee w4 ⟨l, rfl, f4, L4⟩
  have HL4 := hide L4
  have HF4 := hide (ffresh_any w4)
  clear HOp L4
  go_wp2_with fail
  refine HF4.out.mono ?_
  rintro ee w5 ⟨p5, rfl, N5⟩
  have HK5 := hide N5.kp
  have HA5 := hide (fopen_arg (.pointer (some ⟨p5, 0, none⟩)) (.int .i64 4) (.int .i64 4) (.int .i64 4) w5)
  clear HF4 N5
  go_wp2_with fail
  refine HA5.out.mono ?_
  rintro ee w6 ⟨rfl, hw⟩
  subst w6
  have HF5 := hide (ffresh_any w5)
  clear HA5
  go_wp2_with fail
  refine HF5.out.mono ?_
  rintro ee w6 ⟨p6, rfl, N6⟩
  have HK6 := hide N6.kp
  have HA6 := hide (fopen_room (.pointer (some ⟨p6, 0, none⟩)) l 0 4 4 w6 (by omega))
  clear HF5 N6
  go_wp2_with fail
  refine HA6.out.mono ?_
  rintro ee w7 ⟨rfl, hw⟩
  subst w7
  have HA7 := hide (fopen_nil l 4 4 4 w6 (by omega) (by omega) (by omega) (by omega) (by omega) (by omega))
  clear HA6
  go_wp2_with fail
  refine HA7.out.mono ?_
  rintro ee w7 ⟨rfl, K7⟩
  have HK7 : Hid (Kp [] w4 w7) := hide ((HK5.out.trans HK6.out).trans K7)
  obtain ⟨ob, hob⟩ : ∃ ob : Obj, ob = .cells #[.int .u8 114, .int .u8 117, .int .u8 98, .int .u8 98, .int .u8 105, .int .u8 115, .int .u8 104] 5 (7, 8) := ⟨_, rfl⟩
  have hcv : (convert 28 28 (.slice (some ⟨w7.heap.size, 0, none⟩) 7 7)).run Tryz.prog (w7.alloc (.cells #[.int .u8 114, .int .u8 117, .int .u8 98, .int .u8 98, .int .u8 105, .int .u8 115, .int .u8 104] 5)) = .ok (.slice (some ⟨w7.heap.size, 0, none⟩) 7 7) (w7.alloc ob) := by rw [hob]; exact lit_cv w7 [114, 117, 98, 98, 105, 115, 104] 7 rfl
  have hR8 : Sl (w7.alloc ob) (.slice (some ⟨w7.heap.size, 0, none⟩) 7 7) rubN := by rw [hob]; exact lit_sl w7 [114, 117, 98, 98, 105, 115, 104] 7 (7, 8) rfl (by omega)
  have HK8 : Hid (Kp [] w4 (w7.alloc ob)) := hide (HK7.out.alloc _)
  have HRc := hide (record_any (.slice (some ⟨w7.heap.size, 0, none⟩) 7 7) rubN (w7.alloc ob) hR8 (by simp [rubN]))
  clear HA7 K7 HK5 HK6 HK7 hR8 hob
  go_wp2_with fail
  refine HRc.out.mono ?_
  rintro ee w9 ⟨a9, m9, c9, rfl, R9, K9⟩
  have HK9 := hide (HK8.out.trans K9)
  have HOn := hide (fon_any (.slice a9 m9 c9) (recP rubN) w9 R9.sl (recP_bs rub_bs) (by rw [recP_len]; simp [rubN]))
  clear HRc R9 K9 HK8 hcv
  go_wp2_with fail
  refine HOn.out.mono ?_
  rintro ee w10 ⟨p10, v10, rfl, N10⟩
  have hD10 : Dx w9 w10 p10 (dkOn (recP rubN)) (fun i => w9.heap.size ≤ i ∧ i < w10.heap.size) := ⟨v10, N10, fun i hi => ⟨N10.news i hi, N10.dk.lt i hi⟩⟩
  obtain ⟨at1, hop1⟩ := lay_one rubN (by simp [rubN])
  have HFb := hide (fopen_bad (l := l) hD10 rfl (Int.le_refl 0) rfl hop1 (by decide) (fun r hr => by rw [List.mem_singleton.1 hr]; exact ⟨rub_bs, by simp [rubN]⟩) (by simp) (fun i hi => hi) (r := 4) (s := 4) (t := 4) (by omega) (by omega) (by omega) (by omega) (by omega) (by omega))
  have HK10 := hide (HK9.out.trans N10.kp)
  have Hs9 : Hid (w4.heap.size ≤ w9.heap.size) := hide HK9.out.size
  clear HOn N10 hD10 hop1 HK9
  go_wp2_with fail
  refine HFb.out.mono ?_
  rintro ee w11 ⟨rfl, S11, hS11, K11⟩
  have HL11 : Hid (Lg w w11 l p1 p2 (ls0 (seedX 0)) f4) := hide ((HL4.out.on HK10.out).beside K11 (fun i hi => by
    have h1 := hS11 i hi
    have h2 := Hs9.out
    have h3 := HL4.out.kp.size
    exact ⟨by omega, fun e => by have := (HL4.out.lt i e).2; omega⟩))
  have HIt := hide (kitem_any 1 1 1 w11)
  clear HFb hS11 K11 HK10 Hs9 HL4
  go_wp2_with fail
  refine HIt.out.mono ?_
  rintro ee w12 ⟨a12, m12, c12, rfl, R12, K12⟩
  obtain ⟨b, hb⟩ : ∃ b, b = itF 1 1 1 := ⟨_, rfl⟩
  have R12 : Row w12 w11.heap.size (.slice a12 m12 c12) b := by rw [hb]; exact R12
  have Hbo : Hid (okM b = true) := by rw [hb]; exact itF_ok 1 1 1
  have HbB : Hid (Bs b) := by rw [hb]; exact itF_bs 1 1 1
  have Hbl : Hid (b.length ≤ 125) := by rw [hb]; exact itF_len 1 1 1
  have HK12 := hide K12
  have HRc := hide (record_any (.slice a12 m12 c12) b w12 R12.sl (by have := Hbl.out; omega))
  clear HIt R12 K12 hb
  go_wp2_with fail
  refine HRc.out.mono ?_
  rintro ee w13 ⟨a13, m13, c13, rfl, R13, K13⟩
  have HK13 := hide (HK12.out.trans K13)
  have HOn := hide (fon_any (.slice a13 m13 c13) (recP b) w13 R13.sl (recP_bs HbB.out) (by rw [recP_len]; have := Hbl.out; omega))
  clear HRc R13 K13 HK12
  go_wp2_with fail
  refine HOn.out.mono ?_
  rintro ee w14 ⟨p14, v14, rfl, N14⟩
  have hL13 := HL11.out.on HK13.out
  have hL14 := hL13.on N14.kp
  have hD14 : Dx w w14 p14 (dkOn (recP b)) (fun i => w13.heap.size ≤ i ∧ i < w14.heap.size) := ⟨v14, N14.low hL13.kp, fun i hi => ⟨N14.news i hi, N14.dk.lt i hi⟩⟩
  obtain ⟨at2, hop2⟩ := lay_one b (by have := Hbl.out; omega)
  have hd14 : (dkOn (recP b)).opn = dkOn (recP b) := by
    have h1 := Dk.opn_all [b] (fun x hx => by rw [List.mem_singleton.1 hx]; have := Hbl.out; omega)
    have h2 : layP [b] = recP b := by simp [layP]
    rw [h2] at h1
    exact h1
  have hsz := hL13.kp.size
  have HFo := hide (fopen_ok hD14 rfl (Int.le_refl 0) rfl hop2 hd14 (by simp [Hbo.out]) (fun r hr => by rw [List.mem_singleton.1 hr]; exact ⟨HbB.out, by have := Hbl.out; omega⟩) (by simp) (fun i hi => ⟨by omega, hi.2⟩) hL14 (fun i hi e => by have := (hL13.lt i e).2; omega) (r := 4) (s := 4) (t := 4) (by omega) (by omega) (by omega) (by omega) (by omega) (by omega))
  clear HOn N14 hL13 hL14 hD14 hop2 hd14 hsz HL11 HK13 Hbl HbB Hbo
  go_wp2_with fail
  refine HFo.out.mono ?_
  rintro ee w15 ⟨p15, rfl, g15, B15, -⟩
  have HK15 : Hid (Kp [] w w15) := hide B15.kp
  have HWa := hide (fwaits_any B15.fr 1 (by simp [lackP, ls0]))
  have HRs := hide (frcs_any B15.fr 1 rfl)
  clear HFo B15
  go_wp2_with fail
  refine HWa.out.mono ?_
  rintro ee w16 ⟨rfl, hw⟩
  subst w16
  clear HWa
  go_wp2_with fail
  refine HRs.out.mono ?_
  rintro ee w16 ⟨rfl, hw⟩
  subst w16
  clear HRs
  go_wp2_with fail
  go_loopw [13, 14] (fun v i wr => ∃ j : Nat, j ≤ 12 ∧ i = .int .i64 j ∧ ∃ (av : Option Addr) (nv cv : Nat) (l : List AskFE), v = .slice av nv cv ∧ nv = l.length ∧ nv ≤ 5 * j ∧ AskRF wr w15.heap.size (.slice av nv cv) l ∧ Kp [] w15 wr) (fun _ i _ => 12 - (intOf i).toNat)
  case atStart => exact ⟨0, by omega, rfl, none, 0, 0, [], rfl, rfl, by omega, AskRF.none _ _, Kp.refl _ _⟩
  case round =>
    obtain ⟨j, hj, rfl, av, nv, cv, ls, rfl, hnv, hn5, hR, hK⟩ := hrel
    have HR := hide hR
    have HK := hide hK
    have Hnv := hide hnv
    clear hR hK hnv
    by_cases hlt : j < 12
    · have hlt' : (j : Int) < 12 := by omega
      have hq := quo3 j
      have hr := rem4 j
      obtain ⟨q, hqq⟩ : ∃ q : Nat, q = j / 3 := ⟨_, rfl⟩
      have hq12 : q ≤ 12 := by omega
      rw [← hqq] at hq
      clear hqq
      by_cases h4 : j % 4 = 3
      · have hr3 : (j : Int).tmod 4 = 3 := by rw [hr, h4]; rfl
        clear hr h4
        go_wp2_with (first
          | (at_builtin; refine wpList_asksF rfl (.tmp 77) (.tmp 86) rfl w15.heap.size (.slice av nv cv) ls [⟨1, (j : Int), (q : Int), 0, .slice none 0 0, []⟩, ⟨1, (j : Int), (q : Int), 0, .slice none 0 0, []⟩] rfl HR.out 2 rfl rfl (fun y hy => by simp at hy; subst hy; exact ⟨rfl, rfl⟩) rfl (by have := Hnv.out; simp; omega) HK.out.size ?_; intro a8 m8 c8 w8 R8 K8; have HR8 := hide R8; have HK8 := hide (K8 w15 (Nat.le_refl _) HK.out); clear R8 K8)
          | (at_builtin; refine wpList_asksF rfl (.tmp 91) (.tmp 95) rfl w15.heap.size (.slice a8 m8 c8) _ [⟨3, 0, 0, 0, .slice none 0 0, []⟩, ⟨4, 0, 0, 0, .slice none 0 0, []⟩, ⟨3, 0, 0, 20, .slice none 0 0, []⟩] rfl HR8.out 3 rfl rfl (fun y hy => by simp at hy; rcases hy with rfl | rfl | rfl <;> exact ⟨rfl, rfl⟩) rfl (by have := Hnv.out; simp; omega) HK8.out.size ?_; intro a9' m9' c9' w9' R9 K9; have HR9 := hide R9; have HK9 := hide (K9 w15 (Nat.le_refl _) HK8.out); clear R9 K9))
        obtain ⟨_, _, em⟩ := HR9.out.shape
        injection em with _ em _
        have Hm := hide em
        clear em
        go_roundw
        case rel => exact ⟨j + 1, by omega, by go_num, a9', m9', c9', _, rfl, Hm.out, (by have := Hnv.out; rw [Hm.out]; simp; omega), HR9.out, HK9.out⟩
        case measure => simp [intOf]; omega
      · have h4' : (((j % 4 : Nat) : Int) == 3) = false := by simp; omega
        obtain ⟨m, hm⟩ : ∃ m, m = j % 4 := ⟨_, rfl⟩
        rw [← hm] at h4' hr
        clear hm h4
        go_wp2_with (at_builtin; refine wpList_asksF rfl (.tmp 77) (.tmp 86) rfl w15.heap.size (.slice av nv cv) ls [⟨1, (j : Int), (q : Int), 0, .slice none 0 0, []⟩, ⟨1, (j : Int), (q : Int), 0, .slice none 0 0, []⟩] rfl HR.out 2 rfl rfl (fun y hy => by simp at hy; subst hy; exact ⟨rfl, rfl⟩) rfl (by have := Hnv.out; simp; omega) HK.out.size ?_; intro a8 m8 c8 w8 R8 K8; have HR8 := hide R8; have HK8 := hide (K8 w15 (Nat.le_refl _) HK.out); clear R8 K8)
        obtain ⟨_, _, em⟩ := HR8.out.shape
        injection em with _ em _
        have Hm := hide em
        clear em
        go_roundw
        case rel => exact ⟨j + 1, by omega, by go_num, a8, m8, c8, _, rfl, Hm.out, (by have := Hnv.out; rw [Hm.out]; simp; omega), HR8.out, HK8.out⟩
        case measure => simp [intOf]; omega
    · have hnlt : ¬ (j : Int) < 12 := by omega
      have HA := hide (HR.out.askF (by have := Hnv.out; omega))
      have HP1 := hide (fplay_any 3 2 10 (.slice av nv cv) ls wr (by omega) (by omega) (by omega) (by omega) (by omega) (by omega) HA.out)
      go_wp2_with fail
      refine HP1.out.mono ?_
      rintro ee wa ⟨rfl, Ka⟩
      have HKa := hide Ka
      have HP2 := hide (fplay_any 1 1 0 (.slice av nv cv) ls wa (by omega) (by omega) (by omega) (by omega) (by omega) (by omega) (HA.out.kept Ka))
      clear HP1 Ka
      go_wp2_with fail
      refine HP2.out.mono ?_
      rintro ee wb ⟨rfl, Kb⟩
      have HKb := hide (HKa.out.trans Kb)
      have HP3 := hide (fplay_any 16 8 1000 (.slice av nv cv) ls wb (by omega) (by omega) (by omega) (by omega) (by omega) (by omega) (HA.out.kept HKb.out))
      clear HP2 Kb HKa
      go_wp2_with fail
      refine HP3.out.mono ?_
      rintro ee wc ⟨rfl, Kc⟩
      have HKc := hide (HKb.out.trans Kc)
      have HKn := hide (fknown_any wc)
      clear HP3 Kc HKb
      go_wp2_with fail
      refine HKn.out.mono ?_
      rintro ee wd ⟨rfl, Kd⟩
      have HKd := hide (((HK15.out.trans HK.out).trans HKc.out).trans Kd)
      clear HKn Kd
      go_wp2_with fail
      go_ret
      exact ⟨rfl, HKd.out.below (Nat.le_refl _) (by simp)⟩
set_option maxRecDepth 100000 in
theorem lifted (os : Os) (started : os.Started) (H : Type) (enc : TypeId × Value → H) :
    ReturnsInHanded {} Tryz.checked os 3 .any (Rows.frontNumbersSpec.pre6 enc Tryz.prog Tryz.f3 Rows.frontNumbersRow.domain false) (Rows.frontNumbersSpec.post enc Tryz.prog Tryz.f3 false true false false) := by
  refine returnsInHanded_of_change (C := Tryz.checked) own started (by kernel_rfl) Tryz.func3
    (ChangeSpec.witness6 (enc := enc) (C := Tryz.checked) false ⟨#[], #[], []⟩ 8 (by kernel_rfl) (by kernel_rfl) (by kernel_rfl) (by kernel_rfl)) ?_
  intro W base args ds gs before hval0 hW hcnd _
  have hval : ∀ (j : Nat) t v, Tryz.f3.params[j]? = some t → args[j]? = some v → Value.okWide Tryz.prog W .any base t v := hval0
  have hW' := hW
  obtain ⟨p, q, hA0, hV, rfl, hfz, hnd⟩ := hW
  have hA : DataW.TrodAll enc Tryz.prog W 0 (fun _ => true) true Tryz.f3.params.toList args.toList ds p := hA0
  rw [Tryz.params3] at hA hval
  obtain ⟨hargs, rfl, rfl⟩ := trodAll_nil hA
  obtain rfl : args = #[] := by cases args; simp_all
  obtain ⟨rfl, rfl⟩ := trodVars_none hV
  clear hA0 hval0
  refine (walk  W ).mono fun e W' ⟨he, bel⟩ => ?_
  subst he
  exact ⟨_, rfl, _, _, _, [], _, [], hW', trodAll_mk1 (shut_bool Tryz.underlying4 _), trodAll_mk0, rfl, bel.frame _, fun h => by cases h⟩
theorem over : Rows.frontNumbersRow.holds Tryz.pinned (OpenSpec.ofChange Rows.frontNumbersSpec) :=
  OpenClaim.holds_of_wide 3 Tryz.f3 rfl rfl rfl rfl rfl rfl rfl ⟨rfl, rfl, rfl, rfl, rfl⟩ rfl rfl rfl rfl rfl (by kernel_rfl) Tryz.func3 (by kernel_rfl)
    (of_decide_eq_true (by kernel_rfl)) (by unfold Func.isWrapper; first | (rw [if_pos (by decide +kernel)]; kernel_rfl) | (rw [if_neg (by decide +kernel)]; exact ⟨rfl, rfl⟩))
    (fun os started H enc _ => lifted os started H enc)
end Go.Proofs.YteabdojjllfcpaaGreat.frontNumbers
namespace Go.Proofs.YteabdojjllfcpaaGreat
/-- The given statement. -/
theorem FrontNumbers_holds : Rows.FrontNumbersSaid := frontNumbers.over
#print axioms FrontNumbers_holds
end Go.Proofs.YteabdojjllfcpaaGreat
