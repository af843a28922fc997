/-
  JournalOpens: any bytes on a disk are opened, cut or refused as the document says.
-/
import Derived.Test.YtmpjgbckehnkjaaKJFew
import Derived.ShutString
import Derived.ChangeOld
import Derived.Below
namespace Go.Proofs.Ytmpjgbckehnkjaa.journalOpens
open Go.ChangeShapes Go.WideShapes Go.ChangeAt Go.RowKit
open Go.Proofs.Ytmpjgbckehnkjaa
set_option linter.unusedVariables false

theorem own : ownKnob Try.prog.godebug = none := by kernel_rfl
theorem laidOut : laidOutB Try.prog = true := by kernel_rfl
set_option maxHeartbeats 8000000 in
set_option maxRecDepth 100000 in
theorem walk (v0 : Value) (l0 : List (Value × List Int)) (v1 : Value) (l1 : List Int) (at_ : Int) (turn : Int) (cut : Int) (w : World) (s0 : Lists w v0 l0) (s1 : Sl w v1 l1) (b1 : Bs l1) (ha : -9223372036854775808 ≤ at_ ∧ at_ ≤ 9223372036854775807) (ht : 0 ≤ turn ∧ turn ≤ 255) (hc : -9223372036854775808 ≤ cut ∧ cut ≤ 9223372036854775807) :
    Calls Try.prog 4 #[v0, v1, .int .i64 at_, .int .u8 turn, .int .i64 cut] w fun e w' => e = .returned (.bool true) ∧ Below w.heap.size w w' := by
  obtain ⟨a1, c1, e1, hc1, hc2, hc3, -⟩ := id s1
  obtain ⟨L1, hL1⟩ : ∃ L, L = l1.length := ⟨_, rfl⟩
  rw [← hL1] at e1 hc1
  subst e1
  obtain ⟨C, hC⟩ : ∃ C, C = l1.take 100 := ⟨_, rfl⟩
  obtain ⟨m1, hm1⟩ : ∃ m, m = min L1 100 := ⟨_, rfl⟩
  have hCl : C.length ≤ 100 := by rw [hC]; simp; omega
  have HCL := hide hCl
  have HCB : Hid (Bs C) := by rw [hC]; exact b1.takes _
  have HZ : Hid (∀ w', Kp [] w w' → Sl w' (.slice a1 m1 c1) C) := fun w' k => by
    have := cutv_sl 100 (s1.kept k (by simp))
    rw [hC, hm1]; exact this
  have HC : Hid (∀ w', Kp [] w w' → Calls Try.prog 20 #[.slice a1 L1 c1, .int .i64 100] w' fun e w'' => e = .returned (.slice a1 m1 c1) ∧ w'' = w') := fun w' k => by
    rw [hm1]; exact cutv_any a1 L1 c1 100 l1 w' (s1.kept k (by simp))
  have HF := hide (few_j v0 l0 12 60 w s0 (by omega))
  obtain ⟨al0, cl0, e0, -⟩ := id s0
  obtain ⟨L0, hL0⟩ : ∃ L, L = l0.length := ⟨_, rfl⟩
  rw [← hL0] at e0
  subst e0
  clear hC hm1 hL1 s0 s1 b1 hc1 hc2 hCl hL0 hc3
  go_enter Try.func4, Try.ntmps4
  go_wp2_with fail
  refine HF.out.mono ?_
  rintro ee w1 ⟨ol, oc, la, rfl, La, K1, hla, hsm⟩
  have HLy := hide (lay_any _ la w1 La (fun x hx => Nat.le_trans (hsm x hx) (by omega)) (by omega))
  obtain ⟨X, hX⟩ : ∃ X, X = layP (la.map (·.2)) := ⟨_, rfl⟩
  have hXl : X.length ≤ 816 := by rw [hX]; exact lay_len la 12 60 hla hsm
  have HBX : Hid (Bs X) := by rw [hX]; exact lay_bs La
  rw [← hX] at HLy
  have HK1 := hide K1
  obtain ⟨L, hL⟩ : ∃ L, L = la.length := ⟨_, rfl⟩
  rw [← hL] at HLy ⊢
  clear La K1 hla hsm hX HF hL
  go_wp2_with fail
  refine HLy.out.mono ?_
  rintro ee w2 ⟨ax, mx, cx, rfl, RX, K2⟩
  have HMX := hide RX.len
  have HRX := hide RX
  have HK2 := hide (HK1.out.trans K2)
  have hr0 := row_none w2
  have hxa : Sl (w2.alloc (.cells #[] 5)) (.slice ax mx cx) X := RX.sl.kept ((Kp.refl [] w2).alloc _) (by simp)
  have HXL := hide hXl
  have HKL := hide K2
  clear RX K2 HLy
  have ka : Kp [] w2 (w2.alloc (.cells #[] 5)) := (Kp.refl [] w2).alloc _
  have hmx' : (mx : Int) ≤ 816 := by have := HMX.out; omega
  by_cases h0 : mx = 0
  · have hneg : ¬ (0 : Int) < (mx : Int) := by omega
    clear h0
    go_wp2_with (at_builtin; refine wpList_append_row rfl (.tmp 17) (.tmp 18) rfl w2.heap.size _ [] rfl hr0 _ X rfl hxa (by simp; omega) (by simp) ?_; intro ay my cy w3 RY SY; have HK23 : Hid (Kp [] w2 w3) := SY.kpn ka hr0; rw [List.nil_append] at RY; obtain rfl : mx = my := HMX.out.trans RY.len.symm; have HRY := hide RY; clear RY SY hr0 hxa ka)
    obtain ⟨w4, hw4⟩ : ∃ w4, w4 = w3 := ⟨_, rfl⟩
    obtain ⟨Y, hY⟩ : ∃ Y, Y = X := ⟨_, rfl⟩
    have HSX : Hid (∀ w', Kp [] w4 w' → Sl w' (.slice ax mx cx) X) := fun w' k => by rw [hw4] at k; exact HRX.out.sl.kept (HK23.out.trans k) (by simp)
    have HSY : Hid (∀ w', Kp [] w4 w' → Sl w' (.slice ay mx cy) Y) := fun w' k => by rw [hw4] at k; rw [hY]; exact HRY.out.sl.kept k (by simp)
    have HBY : Hid (Bs Y) := by rw [hY]; exact HBX.out
    have HYL : Hid (Y.length ≤ 8000) := by rw [hY]; have := HXL.out; exact hide (by omega)
    have HK24 : Hid (Kp [] w2 w4) := by rw [hw4]; exact HK23.out
    rw [← hw4]
    clear hw4 hY
    have HRW : Hid (w1.heap.size ≤ w2.heap.size) := HKL.out.size
    have HOX := hide (opens_any (.slice ax mx cx) X w4 (HSX.out w4 (Kp.refl [] w4)) HBX.out (by have := HXL.out; omega))
    have HCt := hide (HC.out w4 (HK2.out.trans HK24.out))
    clear HC
    go_wp2_with fail
    refine HCt.out.mono ?_
    rintro ee w5 ⟨rfl, hw5⟩
    subst w5
    clear HCt
    go_wp2_with fail
    refine HOX.out.mono ?_
    rintro ee w5 ⟨rfl, K5⟩
    have HK5 := hide K5
    have HOY := hide (opens_any (.slice ay mx cy) Y w5 (HSY.out w5 K5) HBY.out HYL.out)
    clear K5 HOX
    go_wp2_with fail
    refine HOY.out.mono ?_
    rintro ee w6 ⟨rfl, K6⟩
    have HK6 := hide (HK5.out.trans K6)
    have hwi := wiP_ge cut 0 (mx : Int) (by omega)
    obtain ⟨q, hq⟩ : ∃ q : Nat, (q : Int) = wiP cut 0 (mx : Int) := ⟨(wiP cut 0 (mx : Int)).toNat, by omega⟩
    have hqm : (q : Int) ≤ (mx : Int) := by omega
    have HW := hide (within_wi cut 0 (mx : Int) w6 (by omega) (by omega) (by omega))
    rw [← hq] at HW
    have hrm := HRX.out.room
    have hqc : (q : Int) ≤ (cx : Int) := by omega
    have hrun : ∀ W, (Instr.sliceAt 22 (.slice ax mx cx) none (some (.int .i64 q)) none).run Try.prog W = .ok (.slice ax q cx) W := fun W => run_first ax mx cx q W (by omega) hrm.2
    clear K6 HOY hq hwi hrm
    go_wp2_with fail
    refine HW.out.mono ?_
    rintro ee w7 ⟨rfl, hw7⟩
    subst w7
    clear HW
    have HOQ := hide (opens_any (.slice ax q cx) (X.take q) w6 ((HSX.out w6 HK6.out).take q (by have := HMX.out; omega)) (HBX.out.takes q) (by have := HXL.out; simp; omega))
    go_wp2_with fail
    refine HOQ.out.mono ?_
    rintro ee w7 ⟨rfl, K7⟩
    have HK7 := hide (HK6.out.trans K7)
    have HOC := hide (opens_any (.slice a1 m1 c1) C w7 (HZ.out w7 (HK2.out.trans (HK24.out.trans HK7.out))) HCB.out (by have := HCL.out; omega))
    clear K7 HOQ hrun
    go_wp2_with fail
    refine HOC.out.mono ?_
    rintro ee w8 ⟨rfl, K8⟩
    have HK8 := hide (HK7.out.trans K8)
    have hzc := HZ.out w8 (HK2.out.trans (HK24.out.trans HK8.out))
    have hrx := HRX.out.kept (HK24.out.trans HK8.out) (by simp)
    have hxl := HXL.out
    have hcl := HCL.out
    have hbs : w1.heap.size ≤ w8.heap.size := by have := HRW.out; have := (HK24.out.trans HK8.out).size; omega
    clear K8 HOC
    go_wp2_with (at_builtin; refine wpList_wanted (by rfl) ?_; refine wpList_append_row rfl (.tmp 56) (.tmp 57) rfl w1.heap.size _ X rfl hrx _ C rfl hzc (by omega) hbs ?_; intro az mz cz w9 RZ SZ)
    have HK9 : Hid (Kp [] w w9) := HK1.out.trans (SZ.kpn (HKL.out.trans (HK24.out.trans HK8.out)) hrx)
    have HOZ := hide (opens_any (.slice az mz cz) (X ++ C) w9 RZ.sl (HBX.out.append HCB.out) (by rw [List.length_append]; omega))
    clear RZ SZ hrx hzc hbs hxl hcl
    go_wp2_with fail
    refine HOZ.out.mono ?_
    rintro ee w10 ⟨rfl, K10⟩
    have HKn := hide (jknown_any w10)
    have HK10 := hide (HK9.out.trans K10)
    clear K10 HOZ HK9
    go_wp2_with fail
    refine HKn.out.mono ?_
    rintro ee w11 ⟨rfl, K11⟩
    have HK11 := hide (HK10.out.trans K11)
    clear K11 HKn HK10
    go_wp2_with fail
    go_ret
    exact ⟨rfl, HK11.out.below (Nat.le_refl _) (by simp)⟩
  · have hpos : (0 : Int) < (mx : Int) := by omega
    have hwi := wiP_ge at_ 0 ((mx : Int) - 1) (by omega)
    obtain ⟨q, hq⟩ : ∃ q : Nat, (q : Int) = wiP at_ 0 ((mx : Int) - 1) := ⟨(wiP at_ 0 ((mx : Int) - 1)).toNat, by omega⟩
    have hqm : (q : Int) < (mx : Int) := by omega
    have HW := hide (fun w' => within_wi at_ 0 ((mx : Int) - 1) w' (by omega) (by omega) (by omega))
    rw [← hq] at HW
    have hq0 : (0 : Int) ≤ (q : Int) := by omega
    have hwm : IntKind.i64.wrap ((mx : Int) - 1) = (mx : Int) - 1 := by simp [IntKind.wrap, IntKind.signed, IntKind.bits]; omega
    clear hwi hq h0
    go_wp2_with (at_builtin; refine wpList_append_row rfl (.tmp 17) (.tmp 18) rfl w2.heap.size _ [] rfl hr0 _ X rfl hxa (by simp; omega) (by simp) ?_; intro ay my cy w3 RY SY; have HK23 : Hid (Kp [] w2 w3) := SY.kpn ka hr0; rw [List.nil_append] at RY; obtain rfl : mx = my := HMX.out.trans RY.len.symm; have HRY := hide RY; clear RY SY hr0 hxa ka)
    refine (HW.out w3).mono ?_
    rintro ee w4' ⟨rfl, hw4'⟩
    subst w4'
    clear HW
    obtain ⟨g, rfl, hg1, hg2, hcl, hfz, hst⟩ := HRY.out.spot (by omega)
    have hqx : q < X.length := by have := HMX.out; omega
    have hcq := hcl q hqx
    have hfq := hfz q
    obtain ⟨y, hy⟩ : ∃ y, y = X[q] := ⟨_, rfl⟩
    rw [← hy] at hcq
    have HST := hide (hst q)
    have HG1 := hide hg1
    obtain ⟨z, hz⟩ : ∃ z, z = bits .xor .u8 y turn := ⟨_, rfl⟩
    have HZB : Hid (0 ≤ z ∧ z ≤ 255) := by rw [hz]; exact xor8 _ _
    have hz' := hz.symm
    have hzr : Op.intBits .xor .u8 y turn = pure (.int .u8 z) := by rw [intBits_xor, hz']
    clear hcl hfz hst hy hqx hg1 hg2 hz hz'
    go_wp2_with fail
    obtain ⟨w4, hw4⟩ : ∃ w4, w4 = w3.setCell ⟨g, q, none⟩ (.int .u8 z) := ⟨_, rfl⟩
    obtain ⟨Y, hY⟩ : ∃ Y, Y = X.set q z := ⟨_, rfl⟩
    have HK24 : Hid (Kp [] w2 w4) := by rw [hw4]; exact HK23.out.then (kp_set w3 g q _) (fun i hi => .inr (by simp at hi; have := HG1.out; omega))
    have HSX : Hid (∀ w', Kp [] w4 w' → Sl w' (.slice ax mx cx) X) := fun w' k => HRX.out.sl.kept (HK24.out.trans k) (by simp)
    have HSY : Hid (∀ w', Kp [] w4 w' → Sl w' (.slice (some ⟨g, 0, none⟩) mx cy) Y) := fun w' k => by
      have := (HST.out z).sl
      rw [← hw4, ← hY] at this
      exact this.kept k (by simp)
    have HBY : Hid (Bs Y) := by rw [hY]; exact HBX.out.set q z HZB.out.1 HZB.out.2
    have HYL : Hid (Y.length ≤ 8000) := by rw [hY, List.length_set]; have := HXL.out; exact hide (by omega)
    rw [← hw4]
    clear hw4 hY hzr hcq hfq HST
    have HRW : Hid (w1.heap.size ≤ w2.heap.size) := HKL.out.size
    have HOX := hide (opens_any (.slice ax mx cx) X w4 (HSX.out w4 (Kp.refl [] w4)) HBX.out (by have := HXL.out; omega))
    have HCt := hide (HC.out w4 (HK2.out.trans HK24.out))
    clear HC
    go_wp2_with fail
    refine HCt.out.mono ?_
    rintro ee w5 ⟨rfl, hw5⟩
    subst w5
    clear HCt
    go_wp2_with fail
    refine HOX.out.mono ?_
    rintro ee w5 ⟨rfl, K5⟩
    have HK5 := hide K5
    have HOY := hide (opens_any (.slice (some ⟨g, 0, none⟩) mx cy) Y w5 (HSY.out w5 K5) HBY.out HYL.out)
    clear K5 HOX
    go_wp2_with fail
    refine HOY.out.mono ?_
    rintro ee w6 ⟨rfl, K6⟩
    have HK6 := hide (HK5.out.trans K6)
    have hwi := wiP_ge cut 0 (mx : Int) (by omega)
    obtain ⟨q, hq⟩ : ∃ q : Nat, (q : Int) = wiP cut 0 (mx : Int) := ⟨(wiP cut 0 (mx : Int)).toNat, by omega⟩
    have hqm : (q : Int) ≤ (mx : Int) := by omega
    have HW := hide (within_wi cut 0 (mx : Int) w6 (by omega) (by omega) (by omega))
    rw [← hq] at HW
    have hrm := HRX.out.room
    have hqc : (q : Int) ≤ (cx : Int) := by omega
    have hrun : ∀ W, (Instr.sliceAt 22 (.slice ax mx cx) none (some (.int .i64 q)) none).run Try.prog W = .ok (.slice ax q cx) W := fun W => run_first ax mx cx q W (by omega) hrm.2
    clear K6 HOY hq hwi hrm
    go_wp2_with fail
    refine HW.out.mono ?_
    rintro ee w7 ⟨rfl, hw7⟩
    subst w7
    clear HW
    have HOQ := hide (opens_any (.slice ax q cx) (X.take q) w6 ((HSX.out w6 HK6.out).take q (by have := HMX.out; omega)) (HBX.out.takes q) (by have := HXL.out; simp; omega))
    go_wp2_with fail
    refine HOQ.out.mono ?_
    rintro ee w7 ⟨rfl, K7⟩
    have HK7 := hide (HK6.out.trans K7)
    have HOC := hide (opens_any (.slice a1 m1 c1) C w7 (HZ.out w7 (HK2.out.trans (HK24.out.trans HK7.out))) HCB.out (by have := HCL.out; omega))
    clear K7 HOQ hrun
    go_wp2_with fail
    refine HOC.out.mono ?_
    rintro ee w8 ⟨rfl, K8⟩
    have HK8 := hide (HK7.out.trans K8)
    have hzc := HZ.out w8 (HK2.out.trans (HK24.out.trans HK8.out))
    have hrx := HRX.out.kept (HK24.out.trans HK8.out) (by simp)
    have hxl := HXL.out
    have hcl := HCL.out
    have hbs : w1.heap.size ≤ w8.heap.size := by have := HRW.out; have := (HK24.out.trans HK8.out).size; omega
    clear K8 HOC
    go_wp2_with (at_builtin; refine wpList_wanted (by rfl) ?_; refine wpList_append_row rfl (.tmp 56) (.tmp 57) rfl w1.heap.size _ X rfl hrx _ C rfl hzc (by omega) hbs ?_; intro az mz cz w9 RZ SZ)
    have HK9 : Hid (Kp [] w w9) := HK1.out.trans (SZ.kpn (HKL.out.trans (HK24.out.trans HK8.out)) hrx)
    have HOZ := hide (opens_any (.slice az mz cz) (X ++ C) w9 RZ.sl (HBX.out.append HCB.out) (by rw [List.length_append]; omega))
    clear RZ SZ hrx hzc hbs hxl hcl
    go_wp2_with fail
    refine HOZ.out.mono ?_
    rintro ee w10 ⟨rfl, K10⟩
    have HKn := hide (jknown_any w10)
    have HK10 := hide (HK9.out.trans K10)
    clear K10 HOZ HK9
    go_wp2_with fail
    refine HKn.out.mono ?_
    rintro ee w11 ⟨rfl, K11⟩
    have HK11 := hide (HK10.out.trans K11)
    clear K11 HKn HK10
    go_wp2_with fail
    go_ret
    exact ⟨rfl, HK11.out.below (Nat.le_refl _) (by simp)⟩

set_option maxRecDepth 100000 in
theorem lifted (os : Os) (started : os.Started) (H : Type) (enc : TypeId × Value → H) :
    ReturnsInHanded {} Try.checked os 4 .any (Rows.journalOpensSpec.pre6 enc Try.prog Try.f4 Rows.journalOpensRow.domain false) (Rows.journalOpensSpec.post enc Try.prog Try.f4 false true false false) := by
  refine returnsInHanded_of_change (C := Try.checked) own started (by kernel_rfl) Try.func4
    (ChangeSpec.witness6 (enc := enc) (C := Try.checked) false ⟨#[], #[.slice none 0 0, .slice none 0 0, .int .i64 0, .int .u8 0, .int .i64 0], []⟩ 8 (by kernel_rfl) (by kernel_rfl) (by kernel_rfl) (by kernel_rfl)) ?_
  intro W base args ds gs before hval0 hW hcnd _
  have hval : ∀ (j : Nat) t v, Try.f4.params[j]? = some t → args[j]? = some v → Value.okWide Try.prog W .any base t v := hval0
  have hW' := hW
  obtain ⟨p, q, hA0, hV, rfl, hfz, hnd⟩ := hW
  have hA : DataW.TrodAll enc Try.prog W 0 (fun _ => true) true Try.f4.params.toList args.toList ds p := hA0
  rw [Try.params4] at hA hval
  obtain ⟨v0, vs0, d0, ds0, p0, q0, hargs, rfl, rfl, h0, r0⟩ := trodAll_cons hA
  obtain ⟨v1, vs1, d1, ds1, p1, q1, rfl, rfl, rfl, h1, r1⟩ := trodAll_cons r0
  obtain ⟨v2, vs2, d2, ds2, p2, q2, rfl, rfl, rfl, h2, r2⟩ := trodAll_cons r1
  obtain ⟨v3, vs3, d3, ds3, p3, q3, rfl, rfl, rfl, h3, r3⟩ := trodAll_cons r2
  obtain ⟨v4, vs4, d4, ds4, p4, q4, rfl, rfl, rfl, h4, r4⟩ := trodAll_cons r3
  obtain ⟨rfl, rfl, rfl⟩ := trodAll_nil r4
  obtain rfl : args = #[v0, v1, v2, v3, v4] := by cases args; simp_all
  obtain ⟨rfl, rfl⟩ := trodVars_none hV
  obtain ⟨a0, len0, cap0, rfl⟩ := okWide_slice Try.underlying24 (hval 0 24 v0 rfl rfl)
  have k0 := h0
  have lt0 : ∀ x ∈ p0, x.block < W.heap.size := by obtain ⟨m, hm⟩ := k0; exact DataW.trod_lt m _ _ _ hm
  obtain ⟨l0, s0⟩ : ∃ l, Lists W (.slice a0 len0 cap0) l := by
    obtain ⟨fuel, hf⟩ := h0
    exact lists_of_trod (by simpa [Value.cells] using hf)
  obtain ⟨a1, len1, cap1, rfl⟩ := okWide_slice Try.underlying22 (hval 1 22 v1 rfl rfl)
  have k1 := h1
  have lt1 : ∀ x ∈ p1, x.block < W.heap.size := by obtain ⟨m, hm⟩ := k1; exact DataW.trod_lt m _ _ _ hm
  obtain ⟨l1, s1, b1⟩ : ∃ bs, Sl W (.slice a1 len1 cap1) bs ∧ Bs bs := by
    obtain ⟨fuel, hf⟩ := h1
    exact bytes_of_trod (by simpa [Value.cells] using hf)
  obtain ⟨a2, rfl, rfl, rfl, w2⟩ := open_int Try.underlying3 (hval 2 3 v2 rfl rfl) h2
  obtain ⟨a3, rfl, rfl, rfl, w3⟩ := open_int Try.underlying5 (hval 3 5 v3 rfl rfl) h3
  obtain ⟨a4, rfl, rfl, rfl, w4⟩ := open_int Try.underlying3 (hval 4 3 v4 rfl rfl) h4
  clear hA0 hval0
  refine (walk (.slice a0 len0 cap0) l0 (.slice a1 len1 cap1) l1 a2 a3 a4 W s0 s1 b1 (bounds_i64 w2) (bounds_u8 w3) (bounds_i64 w4)).mono fun e W' ⟨he, bel⟩ => ?_
  subst he
  exact ⟨_, rfl, _, _, _, [], _, [], hW', trodAll_mk1 (shut_bool Try.underlying4 _), (trodAll_cons_mk (Below.trod laidOut (by kernel_rfl) (of_decide_eq_true (by kernel_rfl)) k0 bel lt0) (trodAll_cons_mk (Below.trod laidOut (by kernel_rfl) (of_decide_eq_true (by kernel_rfl)) k1 bel lt1) (trodAll_cons_mk (shut_int Try.underlying3 w2) (trodAll_cons_mk (shut_int Try.underlying5 w3) (trodAll_cons_mk (shut_int Try.underlying3 w4) trodAll_mk0))))), rfl, bel.frame _, fun h => by cases h⟩

theorem over : Rows.journalOpensRow.holds Try.pinned (OpenSpec.ofChange Rows.journalOpensSpec) :=
  OpenClaim.holds_of_wide 4 Try.f4 rfl rfl rfl rfl rfl rfl rfl ⟨rfl, rfl, rfl, rfl, rfl⟩ rfl rfl rfl rfl rfl (by kernel_rfl) Try.func4 (by kernel_rfl)
    (of_decide_eq_true (by kernel_rfl)) (by unfold Func.isWrapper; first | (rw [if_pos (by decide +kernel)]; kernel_rfl) | (rw [if_neg (by decide +kernel)]; exact ⟨rfl, rfl⟩))
    (fun os started H enc _ => lifted os started H enc)
end Go.Proofs.Ytmpjgbckehnkjaa.journalOpens

namespace Go.Proofs.Ytmpjgbckehnkjaa
/-- The given statement. -/
theorem JournalOpens_holds : Rows.JournalOpensSaid := journalOpens.over
#print axioms JournalOpens_holds
end Go.Proofs.Ytmpjgbckehnkjaa
