/-
  The statement ManifestCutsSaid: for all numbers and bytes the law function ManifestCuts returns true and leaves its arguments as they were. No condition.
-/
import Derived.Test.YtioflclfgkcpfaaKMKnown
import Derived.Test.YtioflclfgkcpfaaKMSame
import Derived.ShutString
import Derived.ChangeOld
import Derived.Below
namespace Go.Proofs.Ytioflclfgkcpfaa.manifestCuts
open Go.ChangeShapes Go.WideShapes Go.ChangeAt Go.RowKit
open Go.Proofs.Ytioflclfgkcpfaa
set_option linter.unusedVariables false

theorem own : ownKnob Try.prog.godebug = none := by kernel_rfl
theorem laidOut : laidOutB Try.prog = true := by kernel_rfl
set_option maxRecDepth 100000 in
set_option maxHeartbeats 4000000 in
theorem walk (p v f q : Int) (vm : Value) (ms : List Int) (w : World) (hp : -9223372036854775808 ≤ p ∧ p ≤ 9223372036854775807) (hv : -9223372036854775808 ≤ v ∧ v ≤ 9223372036854775807) (hf : -9223372036854775808 ≤ f ∧ f ≤ 9223372036854775807) (hq : -9223372036854775808 ≤ q ∧ q ≤ 9223372036854775807) (hS : Sl w vm ms) (hB : Bs ms) :
    Calls Try.prog 5 #[.int .i64 p, .int .i64 v, .int .i64 f, .int .i64 q, vm] w fun e w' => e = .returned (.bool true) ∧ Below w.heap.size w w' := by
  have HS := hide hS
  obtain ⟨am, cm, hvm, -⟩ := hS
  obtain ⟨nm, hnm⟩ : ∃ n, n = ms.length := ⟨_, rfl⟩
  rw [← hnm] at hvm
  subst hvm
  have HC := hide (kitem_any p v f w)
  obtain ⟨m, hm⟩ : ∃ m, m = mkM p v f := ⟨_, rfl⟩
  rw [← hm] at HC
  have hok : m.ok := by rw [hm]; exact mkM_ok _ _ _
  have hrt : rgtM m = true := by rw [hm]; exact mkM_rgt _ _ _
  obtain ⟨B, hBE⟩ : ∃ B, B = encM m := ⟨_, rfl⟩
  rw [← hBE] at HC
  have hlen : 9 ≤ B.length ∧ B.length ≤ 200 := by
    obtain ⟨q1, q2, q3, q4⟩ := (rgtM_iff m).1 hrt
    have := nameP_len q1
    rw [hBE, encM_len]; omega
  have hde := dec_enc m hok hrt
  have HCUT : Hid (∀ k, k < B.length → okM (B.take k) = false) := fun k hk => by rw [hBE]; exact okM_cut m hok hrt k (by rw [← hBE]; exact hk)
  have HMORE : Hid (∀ Y, Y ≠ [] → okM (B ++ Y) = false) := fun Y hY => okM_more (by rw [hBE]; exact hde.2) hY
  have HYES : Hid (okM B = true) := hide (by rw [hBE]; exact hde.2)
  have HBB : Hid (Bs B) := hide (by rw [hBE]; exact encM_bs m hok)
  have HLB := hide hlen
  have HMB := hide hB
  clear hnm hm hok hrt hBE hlen hde hB hp hv hf
  go_enter Try.func5, Try.ntmps5
  go_wp2_with fail
  refine (unhide HC).mono ?_
  rintro ee w1 ⟨a1, L, c1, rfl, R1, K1⟩
  have hL := R1.len
  have HS1 := hide R1.sl
  have HK1 := hide K1
  have hLb := unhide HLB
  rw [← hL] at hLb
  obtain ⟨hLb0, hLb1⟩ := hLb
  have hcc : L ≤ c1 ∧ c1 ≤ 9223372036854775807 := by obtain ⟨_, _, e, h1, h2, _⟩ := R1.sl; injection e with _ e2 e3; unfold maxLen at h2; omega
  have HC2 := hide (within_any q 0 ((L : Int) - 1) w1 (by omega) (by omega) (by omega) hq)
  have HLL := hide hL
  clear HC R1 K1 hL hq
  go_wp2_with fail
  refine (unhide HC2).mono ?_
  rintro ee w9 ⟨x, rfl, hx0, hx1, hw9⟩
  subst w9
  obtain ⟨k, rfl⟩ := Int.eq_ofNat_of_zero_le hx0
  have hkL : k < L := by omega
  have hkc : (k : Int) ≤ (c1 : Int) := by omega
  have hno := unhide HCUT k (by rw [← unhide HLL]; exact hkL)
  have hST : Sl w1 (.slice a1 k c1) (B.take k) := (unhide HS1).take k (by rw [← unhide HLL]; omega)
  have hC := mdecode_any (.slice a1 k c1) (B.take k) w1 hST ((unhide HBB).take k) (by rw [List.length_take]; have := unhide HLB; omega)
  have hans : ansM (B.take k) = mf0 := by unfold ansM; rw [hno]; rfl
  rw [hno, hans, errOf_f] at hC
  have HC3 := hide hC
  clear HC2 hno hST hC hans
  go_wp2_with fail
  refine (unhide HC3).mono ?_
  rintro ee w2 ⟨v2, rfl, V2, K2⟩
  have HV2 := hide V2
  obtain ⟨a2, n2, c2, b2, k2, e2, rfl, -⟩ := V2
  have Gz := heap_alloc_new w2 (.cells #[.string ⟨#[]⟩, .int .u32 0, .slice none 0 0, .slice none 0 0] 25)
  have HS2 := hide ((unhide HS1).kept K2 (by simp))
  have HK2 := hide ((unhide HK1).trans K2)
  clear HC3 K2 HS1 HK1 hkc
  go_wp2_with (refine wpList_store_man rfl (.tmp 13) (.tmp 33) rfl w2.heap.size rfl _ _ _ _ _ _ _ _ Gz rfl ⟨rfl, rfl, rfl, rfl⟩ ?_; intro w3 G3 K3; refine Hid.out ?_)
  obtain ⟨g3, hg3⟩ : ∃ g, g = w2.heap.size := ⟨_, rfl⟩
  rw [← hg3] at G3 K3 ⊢
  have k3 := kp_at hg3 K3
  have HV3 := hide ((unhide HV2).kept k3)
  have HS3 := hide ((unhide HS2).kept k3 (by simp))
  have HK3 := hide ((unhide HK2).trans k3)
  have HG3 := hide G3
  have r0 : Row (w3.alloc (.cells #[] 5)) w3.heap.size (.slice (some ⟨w3.heap.size, 0, none⟩) 0 0) [] := World.ownsRow_made w3 #[] 0 (Nat.le_refl _) (by simp [maxLen]) rfl
  have hS0 : Sl (w3.alloc (.cells #[] 5)) (.slice a1 L c1) B := (unhide HS3).kept ((Kp.refl [] w3).alloc _) (by simp)
  have HK30 := hide ((Kp.refl [] w3).alloc (.cells #[] 5))
  clear Gz G3 K3 k3 hg3 HV2 HS2 HK2
  refine hide ?_
  go_wp2_with (at_builtin; refine wpList_append_row rfl (.tmp 36) (.tmp 37) rfl w3.heap.size _ [] rfl r0 _ B rfl hS0 (by have := unhide HLB; simp; omega) (by simp) ?_; intro a4 m4 c4 w4 r4 s4; refine Hid.out ?_)
  have K4 : Kp [] w3 w4 := r0.step (unhide HK30) s4
  rw [List.nil_append] at r4
  have HR4 := hide r4
  have HK4 := hide K4
  have hcut : Sl (w4.alloc (.cells #[.int .u8 1] 5)) (.slice am nm cm) ms := (unhide HS).kept (((unhide HK3).trans K4).alloc _) (by simp)
  have HC4 := hide (cut_any (.slice am nm cm) ms 20 (w4.alloc (.cells #[.int .u8 1] 5)) hcut)
  have r1 : Row (w4.alloc (.cells #[.int .u8 1] 5)) w4.heap.size (.slice (some ⟨w4.heap.size, 0, none⟩) 1 1) [1] := owns_of_heap (ys := [.int .u8 1]) (Nat.le_refl _) (heap_alloc_new w4 _) rfl (by simp [maxLen])
  have HR1 := hide r1
  have HCUT4 := hide hcut
  clear r0 hS0 HK30 r4 s4 K4 r1 hcut
  refine hide ?_
  go_wp2_with fail
  refine (unhide HC4).mono ?_
  rintro ee w9 ⟨a5, c5, rfl, hT, hw9⟩
  subst w9
  have hS5 := hT _ (unhide HCUT4)
  obtain ⟨X, hX⟩ : ∃ X, X = ms.take 20 := ⟨_, rfl⟩
  rw [← hX] at hS5 ⊢
  have hXl : X.length ≤ 20 := by rw [hX, List.length_take]; omega
  have HXB : Hid (Bs X) := hide (by rw [hX]; exact (unhide HMB).take 20)
  obtain ⟨n5, hn5⟩ : ∃ n, n = X.length := ⟨_, rfl⟩
  rw [← hn5] at hS5 ⊢
  have hR1 := unhide HR1
  obtain ⟨W, hW⟩ : ∃ W, W = w4.alloc (.cells #[.int .u8 1] 5) := ⟨_, rfl⟩
  rw [← hW] at hS5 hR1 ⊢
  have HKW : Hid (Kp [] w4 W) := hide (by rw [hW]; exact (Kp.refl [] w4).alloc _)
  have hbs : w4.heap.size ≤ W.heap.size := (unhide HKW).size
  clear HC4 hT HCUT4 hX hn5 hW HR1
  go_wp2_with (at_builtin; refine wpList_append_row rfl (.tmp 39) (.tmp 41) rfl w4.heap.size _ [1] rfl hR1 _ X rfl hS5 (by simp; omega) hbs ?_; intro a6 m6 c6 w6 r6 s6; refine Hid.out ?_)
  have K6 : Kp [] w4 w6 := hR1.step (unhide HKW) s6
  have hR4 : Row w6 w3.heap.size (.slice a4 m4 c4) B := (unhide HR4).kept K6 (by simp)
  have hS6 := r6.sl
  have hb6 : w3.heap.size ≤ w6.heap.size := ((unhide HK4).trans K6).size
  have HK6 := hide ((unhide HK4).trans K6)
  clear hR1 hS5 hbs HKW HR4 HK4 r6 s6 K6
  refine hide ?_
  go_wp2_with (at_builtin; refine wpList_append_row rfl (.tmp 38) (.tmp 42) rfl w3.heap.size _ B rfl hR4 _ ([1] ++ X) rfl hS6 (by have := unhide HLB; simp; omega) hb6 ?_; intro a7 m7 c7 w7 r7 s7; refine Hid.out ?_)
  have K7 : Kp [] w3 w7 := hR4.step (unhide HK6) s7
  have HK7 := hide ((unhide HK3).trans K7)
  have HS7 := hide ((unhide HS3).kept K7 (by simp))
  have HV7 := hide ((unhide HV3).kept K7)
  have HG7 := hide (K7.heap (unhide HG3) (by simp))
  have hno := unhide HMORE ([1] ++ X) (by simp)
  have h1B : Bs [1] := fun b hb => by simp at hb; omega
  have hC := mdecode_any (.slice a7 m7 c7) (B ++ ([1] ++ X)) w7 r7.sl ((unhide HBB).append (h1B.append (unhide HXB))) (by simp only [List.length_append, List.length_cons, List.length_nil]; have := unhide HLB; omega)
  have hans : ansM (B ++ ([1] ++ X)) = mf0 := by unfold ansM; rw [hno]; rfl
  rw [hno, hans, errOf_f] at hC
  have HC7 := hide hC
  clear hR4 hS6 hb6 HK6 r7 s7 K7 hno h1B hC hans HK3 HS3 HV3 HG3 HXB hXl
  refine hide ?_
  go_wp2_with fail
  refine (unhide HC7).mono ?_
  rintro ee w8 ⟨v8, rfl, V8, K8⟩
  have HV8 := hide V8
  obtain ⟨a8, n8, c8, b8, k8, e8, rfl, -⟩ := V8
  have Gz := heap_alloc_new w8 (.cells #[.string ⟨#[]⟩, .int .u32 0, .slice none 0 0, .slice none 0 0] 25)
  have HS8 := hide ((unhide HS7).kept K8 (by simp))
  have HK8 := hide ((unhide HK7).trans K8)
  have HV38 := hide ((unhide HV7).kept K8)
  have HG38 := hide (K8.heap (unhide HG7) (by simp))
  clear HC7 K8 HS7 HK7 HV7 HG7
  go_wp2_with (refine wpList_store_man rfl (.tmp 15) (.tmp 45) rfl w8.heap.size rfl _ _ _ _ _ _ _ _ Gz rfl ⟨rfl, rfl, rfl, rfl⟩ ?_; intro wa Ga Ka; refine Hid.out ?_)
  obtain ⟨ga, hga⟩ : ∃ g, g = w8.heap.size := ⟨_, rfl⟩
  rw [← hga] at Ga Ka ⊢
  have ka := kp_at hga Ka
  have HVa := hide ((unhide HV8).kept ka)
  have HV3a := hide ((unhide HV38).kept ka)
  have HG3a := hide (ka.heap (unhide HG38) (by simp))
  have HSa := hide ((unhide HS8).kept ka (by simp))
  have HKa := hide ((unhide HK8).trans ka)
  have HGa := hide Ga
  have hC := mdecode_any (.slice a1 L c1) B wa (unhide HSa) (unhide HBB) (by have := unhide HLB; omega)
  rw [unhide HYES, errOf_t] at hC
  have HCa := hide hC
  clear Gz Ga Ka ka hga HV8 HV38 HG38 HS8 HK8 hC
  refine hide ?_
  go_wp2_with fail
  refine (unhide HCa).mono ?_
  rintro ee wb ⟨vb, rfl, Vb, Kb⟩
  obtain ⟨ab, nb, cb, bb, kb, eb, rfl, -⟩ := Vb
  obtain ⟨sz, hsz⟩ : ∃ s, s = (ansM B).s := ⟨_, rfl⟩
  obtain ⟨xz, hxz⟩ : ∃ s, s = (ansM B).v := ⟨_, rfl⟩
  rw [← hsz, ← hxz]
  have Gz := heap_alloc_new wb (.cells #[.string ⟨#[]⟩, .int .u32 0, .slice none 0 0, .slice none 0 0] 25)
  have HKb := hide ((unhide HKa).trans Kb)
  have HVab := hide ((unhide HVa).kept Kb)
  have HV3b := hide ((unhide HV3a).kept Kb)
  have HGab := hide (Kb.heap (unhide HGa) (by simp))
  have HG3b := hide (Kb.heap (unhide HG3a) (by simp))
  clear HCa Kb HKa HVa HV3a HG3a HGa HSa hsz hxz
  go_wp2_with (refine wpList_store_man rfl (.tmp 17) (.tmp 50) rfl wb.heap.size rfl _ _ _ _ _ _ _ _ Gz rfl ⟨rfl, rfl, rfl, rfl⟩ ?_; intro wc Gc Kc; refine Hid.out ?_)
  obtain ⟨gc, hgc⟩ : ∃ g, g = wb.heap.size := ⟨_, rfl⟩
  rw [← hgc] at Gc Kc ⊢
  have kc := kp_at hgc Kc
  have HKc := hide ((unhide HKb).trans kc)
  have HVac := hide ((unhide HVab).kept kc)
  have HV3c := hide ((unhide HV3b).kept kc)
  have HGac := hide (kc.heap (unhide HGab) (by simp))
  have HG3c := hide (kc.heap (unhide HG3b) (by simp))
  have HC1 := hide (rsame_any _ man0 mf0 mf0 true (sameM_refl mf0).symm wc (unhide HV3c) (man0_v wc))
  obtain ⟨y0, y1, y2, y3⟩ := cell_man (unhide HG3c)
  clear Gz Gc Kc kc hgc HKb HVab HV3b HGab HG3b
  refine hide ?_
  go_wp2_with fail
  refine (unhide HC1).mono ?_
  rintro ee wd ⟨rfl, Kd⟩
  have HC2 := hide (rsame_any _ man0 mf0 mf0 true (sameM_refl mf0).symm wd ((unhide HVac).kept Kd) (man0_v wd))
  have HKd := hide ((unhide HKc).trans Kd)
  have gx := Kd.heap (unhide HGac) (by simp)
  clear HC1 y0 y1 y2 y3 HKc
  obtain ⟨y0, y1, y2, y3⟩ := cell_man gx
  clear gx Kd HGac HG3c HVac HV3c
  go_wp2_with fail
  refine (unhide HC2).mono ?_
  rintro ee we ⟨rfl, Ke⟩
  have HKe := hide ((unhide HKd).trans Ke)
  have HC3 := hide (mknown_any we)
  clear HC2 y0 y1 y2 y3 Ke HKd
  go_wp2_with fail
  refine (unhide HC3).mono ?_
  rintro ee wf ⟨rfl, Kf⟩
  have HKf := hide ((unhide HKe).trans Kf)
  clear HC3 Kf HKe
  go_wp2_with fail
  go_ret
  exact ⟨rfl, (unhide HKf).below (Nat.le_refl _) (by simp)⟩

set_option maxRecDepth 100000 in
theorem lifted (os : Os) (started : os.Started) (H : Type) (enc : TypeId × Value → H) :
    ReturnsInHanded {} Try.checked os 5 .any (Rows.manifestCutsSpec.pre6 enc Try.prog Try.f5 Rows.manifestCutsRow.domain false) (Rows.manifestCutsSpec.post enc Try.prog Try.f5 false true false false) := by
  refine returnsInHanded_of_change (C := Try.checked) own started (by kernel_rfl) Try.func5
    (ChangeSpec.witness6 (enc := enc) (C := Try.checked) false ⟨#[], #[.int .i64 0, .int .i64 0, .int .i64 0, .int .i64 0, .slice none 0 0], []⟩ 8 (by kernel_rfl) (by kernel_rfl) (by kernel_rfl) (by kernel_rfl)) ?_
  intro W base args ds gs before hval0 hW hcnd _
  have hval : ∀ (j : Nat) t v, Try.f5.params[j]? = some t → args[j]? = some v → Value.okWide Try.prog W .any base t v := hval0
  have hW' := hW
  obtain ⟨p, q, hA0, hV, rfl, hfz, hnd⟩ := hW
  have hA : DataW.TrodAll enc Try.prog W 0 (fun _ => true) true Try.f5.params.toList args.toList ds p := hA0
  rw [Try.params5] at hA hval
  obtain ⟨v0, vs0, d0, ds0, p0, q0, hargs, rfl, rfl, h0, r0⟩ := trodAll_cons hA
  obtain ⟨v1, vs1, d1, ds1, p1, q1, rfl, rfl, rfl, h1, r1⟩ := trodAll_cons r0
  obtain ⟨v2, vs2, d2, ds2, p2, q2, rfl, rfl, rfl, h2, r2⟩ := trodAll_cons r1
  obtain ⟨v3, vs3, d3, ds3, p3, q3, rfl, rfl, rfl, h3, r3⟩ := trodAll_cons r2
  obtain ⟨v4, vs4, d4, ds4, p4, q4, rfl, rfl, rfl, h4, r4⟩ := trodAll_cons r3
  obtain ⟨rfl, rfl, rfl⟩ := trodAll_nil r4
  obtain rfl : args = #[v0, v1, v2, v3, v4] := by cases args; simp_all
  obtain ⟨rfl, rfl⟩ := trodVars_none hV
  obtain ⟨a0, rfl, rfl, rfl, w0⟩ := open_int Try.underlying3 (hval 0 3 v0 rfl rfl) h0
  obtain ⟨a1, rfl, rfl, rfl, w1⟩ := open_int Try.underlying3 (hval 1 3 v1 rfl rfl) h1
  obtain ⟨a2, rfl, rfl, rfl, w2⟩ := open_int Try.underlying3 (hval 2 3 v2 rfl rfl) h2
  obtain ⟨a3, rfl, rfl, rfl, w3⟩ := open_int Try.underlying3 (hval 3 3 v3 rfl rfl) h3
  obtain ⟨a4, len4, cap4, rfl⟩ := okWide_slice Try.underlying23 (hval 4 23 v4 rfl rfl)
  have k4 := h4
  have lt4 : ∀ x ∈ p4, x.block < W.heap.size := by obtain ⟨m, hm⟩ := k4; exact DataW.trod_lt m _ _ _ hm
  obtain ⟨l4, s4, b4⟩ : ∃ bs, Sl W (.slice a4 len4 cap4) bs ∧ Bs bs := by
    obtain ⟨fuel, hf⟩ := h4
    exact bytes_of_trod (by simpa [Value.cells] using hf)
  clear hA0 hval0
  refine (walk a0 a1 a2 a3 (.slice a4 len4 cap4) l4 W (bounds_i64 w0) (bounds_i64 w1) (bounds_i64 w2) (bounds_i64 w3) s4 b4).mono fun e W' ⟨he, bel⟩ => ?_
  subst he
  exact ⟨_, rfl, _, _, _, [], _, [], hW', trodAll_mk1 (shut_bool Try.underlying4 _), (trodAll_cons_mk (shut_int Try.underlying3 w0) (trodAll_cons_mk (shut_int Try.underlying3 w1) (trodAll_cons_mk (shut_int Try.underlying3 w2) (trodAll_cons_mk (shut_int Try.underlying3 w3) (trodAll_cons_mk (Below.trod laidOut (by kernel_rfl) (of_decide_eq_true (by kernel_rfl)) k4 bel lt4) trodAll_mk0))))), rfl, bel.frame _, fun h => by cases h⟩

theorem over : Rows.manifestCutsRow.holds Try.pinned (OpenSpec.ofChange Rows.manifestCutsSpec) :=
  OpenClaim.holds_of_wide 5 Try.f5 rfl rfl rfl rfl rfl rfl rfl ⟨rfl, rfl, rfl, rfl, rfl⟩ rfl rfl rfl rfl rfl (by kernel_rfl) Try.func5 (by kernel_rfl)
    (of_decide_eq_true (by kernel_rfl)) (by unfold Func.isWrapper; first | (rw [if_pos (by decide +kernel)]; kernel_rfl) | (rw [if_neg (by decide +kernel)]; exact ⟨rfl, rfl⟩))
    (fun os started H enc _ => lifted os started H enc)
end Go.Proofs.Ytioflclfgkcpfaa.manifestCuts

namespace Go.Proofs.Ytioflclfgkcpfaa
/-- The given statement. -/
theorem ManifestCuts_holds : Rows.ManifestCutsSaid := manifestCuts.over
#print axioms ManifestCuts_holds
end Go.Proofs.Ytioflclfgkcpfaa
