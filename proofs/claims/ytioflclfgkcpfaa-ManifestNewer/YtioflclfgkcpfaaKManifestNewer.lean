/-
  The statement ManifestNewerSaid: for all manifests and numbers the law function ManifestNewer returns true and leaves its arguments as they were. No condition.
-/
import Derived.Test.YtioflclfgkcpfaaKMKnown
import Derived.Test.YtioflclfgkcpfaaKMSame
import Derived.Test.YtioflclfgkcpfaaKMArg
import Derived.Test.YtioflclfgkcpfaaKLIft
import Derived.ShutString
import Derived.ChangeOld
import Derived.Below
namespace Go.Proofs.Ytioflclfgkcpfaa.manifestNewer
open Go.ChangeShapes Go.WideShapes Go.ChangeAt Go.RowKit
open Go.Proofs.Ytioflclfgkcpfaa
set_option linter.unusedVariables false

theorem own : ownKnob Try.prog.godebug = none := by kernel_rfl
theorem laidOut : laidOutB Try.prog = true := by kernel_rfl
set_option maxRecDepth 100000 in
set_option maxHeartbeats 4000000 in
theorem walk (va : Value) (ma : Mf) (vb : Value) (mb : Mf) (n v u : Int) (w : World) (hA : MV w va ma) (zA : ma.s.size ≤ 9223372036854775807) (hB : MV w vb mb) (zB : mb.s.size ≤ 9223372036854775807) (hn : -9223372036854775808 ≤ n ∧ n ≤ 9223372036854775807) (hv : -9223372036854775808 ≤ v ∧ v ≤ 9223372036854775807) (hu : -9223372036854775808 ≤ u ∧ u ≤ 9223372036854775807) :
    Calls Try.prog 4 #[va, vb, .int .i64 n, .int .i64 v, .int .i64 u] w fun e w' => e = .returned (.bool true) ∧ Below w.heap.size w w' := by
  have HA := hide hA
  have HB := hide hB
  obtain ⟨a3, n3, c3, b3, k3, e3, rfl, -⟩ := hA
  obtain ⟨a4, n4, c4, b4, k4, e4, rfl, -⟩ := hB
  obtain ⟨sa, hsa⟩ : ∃ s, s = ma.s := ⟨_, rfl⟩
  obtain ⟨xa, hxa⟩ : ∃ s, s = ma.v := ⟨_, rfl⟩
  obtain ⟨sb, hsb⟩ : ∃ s, s = mb.s := ⟨_, rfl⟩
  obtain ⟨xb, hxb⟩ : ∃ s, s = mb.v := ⟨_, rfl⟩
  rw [← hsa, ← hxa] at HA ⊢
  rw [← hsb, ← hxb] at HB ⊢
  obtain ⟨w0, hw0⟩ : ∃ w0, w0 = (w.alloc (.cells #[.string sa, .int .u32 xa, .slice a3 n3 c3, .slice b3 k3 e3] 25)).alloc (.cells #[.string sb, .int .u32 xb, .slice a4 n4 c4, .slice b4 k4 e4] 25) := ⟨_, rfl⟩
  obtain ⟨ga, hga⟩ : ∃ g, g = w.heap.size := ⟨_, rfl⟩
  obtain ⟨gb, hgb⟩ : ∃ g, g = w.heap.size + 1 := ⟨_, rfl⟩
  have K0 : Kp [] w w0 := by rw [hw0]; exact ((Kp.refl [] w).alloc _).alloc _
  have GA : w0.heap[ga]? = some (.cells #[.string sa, .int .u32 xa, .slice a3 n3 c3, .slice b3 k3 e3] 25 (0, 0)) := by rw [hw0, hga]; exact ((Kp.refl [] _).alloc _).heap (heap_alloc_new w _) (by simp)
  have GB : w0.heap[gb]? = some (.cells #[.string sb, .int .u32 xb, .slice a4 n4 c4, .slice b4 k4 e4] 25 (0, 0)) := by rw [hw0, hgb]; have := heap_alloc_new (w.alloc (.cells #[.string sa, .int .u32 xa, .slice a3 n3 c3, .slice b3 k3 e3] 25)) (.cells #[.string sb, .int .u32 xb, .slice a4 n4 c4, .slice b4 k4 e4] 25); simpa using this
  have HM1 := hide (kman_any n v 0 w0)
  have HM2 := hide (fun w' => kman_any n u 1 w')
  obtain ⟨mx, hmx⟩ : ∃ m, m = mkM n v 0 := ⟨_, rfl⟩
  obtain ⟨my, hmy⟩ : ∃ m, m = mkM n u 1 := ⟨_, rfl⟩
  rw [← hmx] at HM1
  rw [← hmy] at HM2
  obtain ⟨S0, hS0⟩ : ∃ s, s = mx.s := ⟨_, rfl⟩
  have hS0y : S0 = my.s := by rw [hS0, hmx, hmy]; rfl
  obtain ⟨px, hpx⟩ : ∃ s, s = mx.v := ⟨_, rfl⟩
  obtain ⟨py, hpy⟩ : ∃ s, s = my.v := ⟨_, rfl⟩
  obtain ⟨bq, hbq⟩ : ∃ b, b = decide (py < px) := ⟨_, rfl⟩
  have HBQ := hide hbq
  have HXY : Hid (bq = newerM mx my) := hide (by unfold newerM; rw [← hS0, ← hS0y, ← hpx, ← hpy, hbq]; simp)
  have HXX : Hid (false = newerM mx mx) := hide (by unfold newerM; simp)
  have HYX : Hid (bq = true → false = newerM my mx) := by
    intro h
    rw [hbq] at h
    simp only [decide_eq_true_eq] at h
    have h' : ¬ px < py := by omega
    unfold newerM
    rw [← hpx, ← hpy]
    simp [h']
  have HSZ : Hid (S0.size ≤ 20) := hide (by rw [hS0, hmx]; exact mkM_size _ _ _)
  have HS0 := hide hS0
  have HS0y := hide hS0y
  have HPX := hide hpx
  have HPY := hide hpy
  have HMOK : Hid (my.ok) := hide (by rw [hmy]; exact mkM_ok _ _ _)
  have HK0 := hide K0
  have HGA := hide GA
  have HGB := hide GB
  have HW0 := hide hw0
  have HGa := hide hga
  have HGb := hide hgb
  have HSa := hide hsa
  have HXa := hide hxa
  have HSb := hide hsb
  have HXb := hide hxb
  clear hw0 hga hgb K0 GA GB hmx hmy hS0 hS0y hpx hpy hbq hsa hxa hsb hxb hn hv hu zA zB
  go_enter Try.func4, Try.ntmps4
  go_wp2_with fail
  rw [← unhide HW0, ← unhide HGb, ← unhide HGa]
  refine (unhide HM1).mono ?_
  rintro ee w1 ⟨x1, rfl, V1, K1⟩
  have HV1 := hide V1
  obtain ⟨a1, n1, c1, b1, k1, e1, rfl, -⟩ := V1
  rw [← unhide HS0, ← unhide HPX] at HV1 ⊢
  have HK1 := hide K1
  have HC := hide (unhide HM2 w1)
  clear K1 HM1 HM2 HW0
  go_wp2_with fail
  refine (unhide HC).mono ?_
  rintro ee w2 ⟨x2, rfl, V2, K2⟩
  have HV2 := hide V2
  obtain ⟨a2, n2, c2, b2, k2, e2, rfl, -⟩ := V2
  rw [← unhide HS0y, ← unhide HPY] at HV2 ⊢
  have HV12 := hide ((unhide HV1).kept K2)
  have HK2 := hide ((unhide HK1).trans K2)
  have Gz2 : ((w2.alloc (.cells #[.string ⟨#[]⟩, .int .u32 0, .slice none 0 0, .slice none 0 0] 25)).alloc (.cells #[.string ⟨#[]⟩, .int .u32 0, .slice none 0 0, .slice none 0 0] 25)).heap[w2.heap.size + 1]? = some (.cells #[.string ⟨#[]⟩, .int .u32 0, .slice none 0 0, .slice none 0 0] 25) := by have := heap_alloc_new (w2.alloc (.cells #[.string ⟨#[]⟩, .int .u32 0, .slice none 0 0, .slice none 0 0] 25)) (.cells #[.string ⟨#[]⟩, .int .u32 0, .slice none 0 0, .slice none 0 0] 25); simpa using this
  have Gz1 : ((w2.alloc (.cells #[.string ⟨#[]⟩, .int .u32 0, .slice none 0 0, .slice none 0 0] 25)).alloc (.cells #[.string ⟨#[]⟩, .int .u32 0, .slice none 0 0, .slice none 0 0] 25)).heap[w2.heap.size]? = some (.cells #[.string ⟨#[]⟩, .int .u32 0, .slice none 0 0, .slice none 0 0] 25) := ((Kp.refl [] _).alloc _).heap (heap_alloc_new w2 _) (by simp)
  have HKz : Hid (Kp [] w2 ((w2.alloc (.cells #[.string ⟨#[]⟩, .int .u32 0, .slice none 0 0, .slice none 0 0] 25)).alloc (.cells #[.string ⟨#[]⟩, .int .u32 0, .slice none 0 0, .slice none 0 0] 25))) := ((Kp.refl [] w2).alloc _).alloc _
  clear HC K2 HV1 HK1
  go_wp2_with (first
    | (refine wpList_store_man rfl (.tmp 11) (.tmp 15) rfl w2.heap.size rfl _ _ _ _ _ _ _ _ Gz1 rfl ⟨rfl, rfl, rfl, rfl⟩ ?_; intro w3 G3 K3; have Gz3 := K3.heap Gz2 (by simp))
    | (refine wpList_store_man rfl (.tmp 12) (.tmp 18) rfl (w2.heap.size + 1) rfl _ _ _ _ _ _ _ _ Gz3 rfl ⟨rfl, rfl, rfl, rfl⟩ ?_; intro w4 G4 K4; refine Hid.out ?_))
  obtain ⟨g1, hg1⟩ : ∃ g, g = w2.heap.size := ⟨_, rfl⟩
  obtain ⟨g2, hg2⟩ : ∃ g, g = w2.heap.size + 1 := ⟨_, rfl⟩
  have Kz : Kp [] w2 w4 := ((unhide HKz).then K3 (by simp)).then K4 (by simp)
  have G34 := K4.heap G3 (by simp)
  rw [← hg2] at G4 K4 ⊢
  rw [← hg1] at G3 G34 K3 ⊢
  have K24 : Kp [] w0 w4 := (unhide HK2).trans Kz
  have HD : Hid (∀ w', Kp [] w4.drew w' → Kp [] w4 w') := fun w' k' => (kp_drew w4).trans k'
  have HS1 : Hid (∀ w', Kp [] w4.drew w' → w'.heap[g1]? = some (.cells #[.string S0, .int .u32 px, .slice a1 n1 c1, .slice b1 k1 e1] 25 (0, 0))) := fun w' k' => (unhide HD w' k').heap G34 (by simp)
  have HS2 : Hid (∀ w', Kp [] w4.drew w' → w'.heap[g2]? = some (.cells #[.string S0, .int .u32 py, .slice a2 n2 c2, .slice b2 k2 e2] 25 (0, 0))) := fun w' k' => (unhide HD w' k').heap G4 (by simp)
  have HX : Hid (∀ w', Kp [] w4.drew w' → MV w' (.agg #[.string S0, .int .u32 px, .slice a1 n1 c1, .slice b1 k1 e1]) mx) := fun w' k' => (unhide HV12).kept (Kz.trans (unhide HD w' k'))
  have HY : Hid (∀ w', Kp [] w4.drew w' → MV w' (.agg #[.string S0, .int .u32 py, .slice a2 n2 c2, .slice b2 k2 e2]) my) := fun w' k' => (unhide HV2).kept (Kz.trans (unhide HD w' k'))
  have HAA : Hid (∀ w', Kp [] w4.drew w' → w'.heap[ga]? = some (.cells #[.string sa, .int .u32 xa, .slice a3 n3 c3, .slice b3 k3 e3] 25 (0, 0)) ∧ w'.heap[gb]? = some (.cells #[.string sb, .int .u32 xb, .slice a4 n4 c4, .slice b4 k4 e4] 25 (0, 0)) ∧ MV w' (.agg #[.string sa, .int .u32 xa, .slice a3 n3 c3, .slice b3 k3 e3]) ma ∧ MV w' (.agg #[.string sb, .int .u32 xb, .slice a4 n4 c4, .slice b4 k4 e4]) mb) := fun w' k' =>
    have k2 := K24.trans (unhide HD w' k')
    ⟨k2.heap (unhide HGA) (by simp), k2.heap (unhide HGB) (by simp), (unhide HA).kept ((unhide HK0).trans k2), (unhide HB).kept ((unhide HK0).trans k2)⟩
  have HO : Hid (ga < g2 ∧ gb < g2 ∧ g1 < g2 ∧ w.heap.size ≤ g2) := hide (by
    have h1 := (Array.getElem?_eq_some_iff.1 (unhide HGA)).1
    have h2 := (Array.getElem?_eq_some_iff.1 (unhide HGB)).1
    have h3 := (unhide HK2).size
    have h4 := (unhide HK0).size
    omega)
  have HK4 := hide ((unhide HK0).trans K24)
  clear Gz1 Gz2 Gz3 HKz G3 G34 G4 K3 K4 Kz K24 hg1 hg2 HV12 HV2 HK2 HGA HGB HGa HGb HA HB
  refine hide ?_
  go_wp2_with fail
  refine region_grow Try.mixed [Is (.agg #[.string S0, .int .u32 px, .slice a1 n1 c1, .slice b1 k1 e1]), Is (.agg #[.string S0, .int .u32 py, .slice a2 n2 c2, .slice b2 k2 e2]), Is (.bool bq), Is (.pointer (some ⟨g1, 1, none⟩)), Is (.int .u32 px), Is (.pointer (some ⟨g2, 1, none⟩)), Is (.int .u32 py), Is (.bool bq), Is (.bool false), Is (.bool false), Is (.agg #[.string S0, .int .u32 px, .slice a1 n1 c1, .slice b1 k1 e1]), Is (.agg #[.string S0, .int .u32 px, .slice a1 n1 c1, .slice b1 k1 e1]), Is (.bool false), Is (.bool false), Is (.bool false), Is (.agg #[.string S0, .int .u32 px, .slice a1 n1 c1, .slice b1 k1 e1]), Is (.agg #[.string S0, .int .u32 py, .slice a2 n2 c2, .slice b2 k2 e2]), Is (.bool bq), Is (.bool bq), IfT bq (Is (.agg #[.string S0, .int .u32 py, .slice a2 n2 c2, .slice b2 k2 e2])), IfT bq (Is (.agg #[.string S0, .int .u32 px, .slice a1 n1 c1, .slice b1 k1 e1])), IfT bq (Is (.bool false)), Is (.bool false), Is (.bool false)] [[(11, none)], [(12, none)], [(19, some 0), (20, some 1)], [(11, none)], [(22, some 3)], [(12, none)], [(24, some 5)], [(23, some 4), (25, some 6)], [(21, some 2), (26, some 7)], [(27, some 8)], [(11, none), (28, some 9)], [(11, none), (28, some 9)], [(29, some 10), (30, some 11), (28, some 9)], [(28, some 9), (31, some 12)], [(32, some 13)], [(11, none), (33, some 14)], [(12, none), (33, some 14)], [(34, some 15), (35, some 16), (33, some 14)], [(36, some 17), (33, some 14)], [(12, none), (37, some 18)], [(11, none), (37, some 18)], [(38, some 19), (39, some 20), (37, some 18)], [(37, some 18), (40, some 21), (33, some 14)], [(33, some 14), (41, some 22)]] (by kernel_rfl) ?_ ?_ ?_
  · simp only [List.mem_cons, List.not_mem_nil, or_false]
    intro R hR
    rcases hR with rfl | rfl | rfl | rfl | rfl | rfl | rfl | rfl | rfl | rfl | rfl | rfl | rfl | rfl | rfl | rfl | rfl | rfl | rfl | rfl | rfl | rfl | rfl | rfl <;> first | exact stable_is _ | exact stable_ift (stable_is _)
  · refine steps_cons (fun a w hk hn => ?_) ?_
    · have h11 : a.eval (.tmp 11) = .pointer (some ⟨g1, 0, none⟩) := hn.1
      clear hn
      refine wants_plain rfl ?_
      exact grown_loadman (.tmp 11) rfl h11 (unhide HS1 w hk) rfl
    refine steps_cons (fun a w hk hn => ?_) ?_
    · have h12 : a.eval (.tmp 12) = .pointer (some ⟨g2, 0, none⟩) := hn.1
      clear hn
      refine wants_plain rfl ?_
      exact grown_loadman (.tmp 12) rfl h12 (unhide HS2 w hk) rfl
    refine steps_cons (fun a w hk hn => ?_) ?_
    · have h19 : a.eval (.tmp 19) = .agg #[.string S0, .int .u32 px, .slice a1 n1 c1, .slice b1 k1 e1] := hn.1
      have h20 : a.eval (.tmp 20) = .agg #[.string S0, .int .u32 py, .slice a2 n2 c2, .slice b2 k2 e2] := hn.2.1
      clear hn
      refine wants_plain rfl ?_
      refine grown_call (f := 13) rfl Try.func13 (by kernel_rfl) (by kernel_rfl) ?_
      simp only [List.map_toArray, List.map_cons, List.map_nil, h19, h20]
      refine (mnewer_any _ _ mx my bq (unhide HXY) w (unhide HX w hk) (unhide HY w hk)).mono ?_
      rintro e w' ⟨rfl, K⟩
      exact ⟨_, rfl, K, rfl⟩
    refine steps_cons (fun a w hk hn => ?_) ?_
    · have h11 : a.eval (.tmp 11) = .pointer (some ⟨g1, 0, none⟩) := hn.1
      clear hn
      refine wants_plain rfl ?_
      exact grown_mfld (.tmp 11) 1 (by omega) rfl h11
    refine steps_cons (fun a w hk hn => ?_) ?_
    · have h22 : a.eval (.tmp 22) = .pointer (some ⟨g1, 1, none⟩) := hn.1
      clear hn
      refine wants_plain rfl ?_
      exact grown_ldu (.tmp 22) rfl 1 _ h22 (cell_man (unhide HS1 w hk)).2.1
    refine steps_cons (fun a w hk hn => ?_) ?_
    · have h12 : a.eval (.tmp 12) = .pointer (some ⟨g2, 0, none⟩) := hn.1
      clear hn
      refine wants_plain rfl ?_
      exact grown_mfld (.tmp 12) 1 (by omega) rfl h12
    refine steps_cons (fun a w hk hn => ?_) ?_
    · have h24 : a.eval (.tmp 24) = .pointer (some ⟨g2, 1, none⟩) := hn.1
      clear hn
      refine wants_plain rfl ?_
      exact grown_ldu (.tmp 24) rfl 1 _ h24 (cell_man (unhide HS2 w hk)).2.1
    refine steps_cons (fun a w hk hn => ?_) ?_
    · have h23 : a.eval (.tmp 23) = .int .u32 px := hn.1
      have h25 : a.eval (.tmp 25) = .int .u32 py := hn.2.1
      clear hn
      refine wants_plain rfl ?_
      refine grown_run (v := .bool bq) ?_ (Kp.refl _ _) rfl
      obtain ⟨ρ, hρ, hc, hf, hg⟩ := eval_is a
      rw [hρ] at h23 h25 ⊢
      simp [go_sem, h23, h25]
      exact (unhide HBQ).symm
    refine steps_cons (fun a w hk hn => ?_) ?_
    · have h21 : a.eval (.tmp 21) = .bool bq := hn.1
      have h26 : a.eval (.tmp 26) = .bool bq := hn.2.1
      clear hn
      refine wants_plain rfl ?_
      refine grown_run (v := .bool false) ?_ (Kp.refl _ _) rfl
      obtain ⟨ρ, hρ, hc, hf, hg⟩ := eval_is a
      rw [hρ] at h21 h26 ⊢
      simp [go_sem, h21, h26]
    refine steps_cons (fun a w hk hn => ?_) ?_
    · have h27 : a.eval (.tmp 27) = .bool false := hn.1
      clear hn
      refine wants_plain rfl ?_
      exact grown_move (.tmp 27) rfl h27
    refine steps_cons (fun a w hk hn => ?_) ?_
    · have h11 : a.eval (.tmp 11) = .pointer (some ⟨g1, 0, none⟩) := hn.1
      have h28 : a.eval (.tmp 28) = .bool false := hn.2.1
      clear hn
      refine wants_guard (d := 28) rfl rfl h28 ?_
      exact grown_loadman (.tmp 11) rfl h11 (unhide HS1 w hk) rfl
    refine steps_cons (fun a w hk hn => ?_) ?_
    · have h11 : a.eval (.tmp 11) = .pointer (some ⟨g1, 0, none⟩) := hn.1
      have h28 : a.eval (.tmp 28) = .bool false := hn.2.1
      clear hn
      refine wants_guard (d := 28) rfl rfl h28 ?_
      exact grown_loadman (.tmp 11) rfl h11 (unhide HS1 w hk) rfl
    refine steps_cons (fun a w hk hn => ?_) ?_
    · have h29 : a.eval (.tmp 29) = .agg #[.string S0, .int .u32 px, .slice a1 n1 c1, .slice b1 k1 e1] := hn.1
      have h30 : a.eval (.tmp 30) = .agg #[.string S0, .int .u32 px, .slice a1 n1 c1, .slice b1 k1 e1] := hn.2.1
      have h28 : a.eval (.tmp 28) = .bool false := hn.2.2.1
      clear hn
      refine wants_guard (d := 28) rfl rfl h28 ?_
      refine grown_call (f := 13) rfl Try.func13 (by kernel_rfl) (by kernel_rfl) ?_
      simp only [List.map_toArray, List.map_cons, List.map_nil, h29, h30]
      refine (mnewer_any _ _ mx mx false (unhide HXX) w (unhide HX w hk) (unhide HX w hk)).mono ?_
      rintro e w' ⟨rfl, K⟩
      exact ⟨_, rfl, K, rfl⟩
    refine steps_cons (fun a w hk hn => ?_) ?_
    · have h28 : a.eval (.tmp 28) = .bool false := hn.1
      have h31 : a.eval (.tmp 31) = .bool false := hn.2.1
      clear hn
      refine wants_plain rfl ?_
      exact grown_pick _ _ _ false rfl h28 h31
    refine steps_cons (fun a w hk hn => ?_) ?_
    · have h32 : a.eval (.tmp 32) = .bool false := hn.1
      clear hn
      refine wants_plain rfl ?_
      exact grown_move (.tmp 32) rfl h32
    refine steps_cons (fun a w hk hn => ?_) ?_
    · have h11 : a.eval (.tmp 11) = .pointer (some ⟨g1, 0, none⟩) := hn.1
      have h33 : a.eval (.tmp 33) = .bool false := hn.2.1
      clear hn
      refine wants_guard (d := 33) rfl rfl h33 ?_
      exact grown_loadman (.tmp 11) rfl h11 (unhide HS1 w hk) rfl
    refine steps_cons (fun a w hk hn => ?_) ?_
    · have h12 : a.eval (.tmp 12) = .pointer (some ⟨g2, 0, none⟩) := hn.1
      have h33 : a.eval (.tmp 33) = .bool false := hn.2.1
      clear hn
      refine wants_guard (d := 33) rfl rfl h33 ?_
      exact grown_loadman (.tmp 12) rfl h12 (unhide HS2 w hk) rfl
    refine steps_cons (fun a w hk hn => ?_) ?_
    · have h34 : a.eval (.tmp 34) = .agg #[.string S0, .int .u32 px, .slice a1 n1 c1, .slice b1 k1 e1] := hn.1
      have h35 : a.eval (.tmp 35) = .agg #[.string S0, .int .u32 py, .slice a2 n2 c2, .slice b2 k2 e2] := hn.2.1
      have h33 : a.eval (.tmp 33) = .bool false := hn.2.2.1
      clear hn
      refine wants_guard (d := 33) rfl rfl h33 ?_
      refine grown_call (f := 13) rfl Try.func13 (by kernel_rfl) (by kernel_rfl) ?_
      simp only [List.map_toArray, List.map_cons, List.map_nil, h34, h35]
      refine (mnewer_any _ _ mx my bq (unhide HXY) w (unhide HX w hk) (unhide HY w hk)).mono ?_
      rintro e w' ⟨rfl, K⟩
      exact ⟨_, rfl, K, rfl⟩
    refine steps_cons (fun a w hk hn => ?_) ?_
    · have h36 : a.eval (.tmp 36) = .bool bq := hn.1
      have h33 : a.eval (.tmp 33) = .bool false := hn.2.1
      clear hn
      refine wants_guard (d := 33) rfl rfl h33 ?_
      exact grown_move (.tmp 36) rfl h36
    refine steps_cons (fun a w hk hn => ?_) ?_
    · have h12 : a.eval (.tmp 12) = .pointer (some ⟨g2, 0, none⟩) := hn.1
      have h37 : a.eval (.tmp 37) = .bool bq := hn.2.1
      clear hn
      exact wants_ift (d := 37) rfl rfl h37 (fun _ => grown_loadman (.tmp 12) rfl h12 (unhide HS2 w hk) rfl)
    refine steps_cons (fun a w hk hn => ?_) ?_
    · have h11 : a.eval (.tmp 11) = .pointer (some ⟨g1, 0, none⟩) := hn.1
      have h37 : a.eval (.tmp 37) = .bool bq := hn.2.1
      clear hn
      exact wants_ift (d := 37) rfl rfl h37 (fun _ => grown_loadman (.tmp 11) rfl h11 (unhide HS1 w hk) rfl)
    refine steps_cons (fun a w hk hn => ?_) ?_
    · have h38 : (IfT bq (Is (.agg #[.string S0, .int .u32 py, .slice a2 n2 c2, .slice b2 k2 e2]))) (a.eval (.tmp 38)) w := hn.1
      have h39 : (IfT bq (Is (.agg #[.string S0, .int .u32 px, .slice a1 n1 c1, .slice b1 k1 e1]))) (a.eval (.tmp 39)) w := hn.2.1
      have h37 : a.eval (.tmp 37) = .bool bq := hn.2.2.1
      clear hn
      refine wants_ift (d := 37) rfl rfl h37 (fun hb => ?_)
      have h38' := h38 hb
      have h39' := h39 hb
      simp only [Is] at h38' h39'
      refine grown_call (f := 13) rfl Try.func13 (by kernel_rfl) (by kernel_rfl) ?_
      simp only [List.map_toArray, List.map_cons, List.map_nil, h38', h39']
      refine (mnewer_any _ _ my mx false (unhide HYX hb) w (unhide HY w hk) (unhide HX w hk)).mono ?_
      rintro e w' ⟨rfl, K⟩
      exact ⟨_, rfl, K, rfl⟩
    refine steps_cons (fun a w hk hn => ?_) ?_
    · have h37 : a.eval (.tmp 37) = .bool bq := hn.1
      have h40 : (IfT bq (Is (.bool false))) (a.eval (.tmp 40)) w := hn.2.1
      have h33 : a.eval (.tmp 33) = .bool false := hn.2.2.1
      clear hn
      refine wants_guard (d := 33) rfl rfl h33 ?_
      refine grown_pick (.tmp 37) (.tmp 40) _ bq rfl h37 ?_
      cases bq
      · rfl
      · exact h40 rfl
    refine steps_cons (fun a w hk hn => ?_) ?_
    · have h33 : a.eval (.tmp 33) = .bool false := hn.1
      have h41 : a.eval (.tmp 41) = .bool false := hn.2.1
      clear hn
      refine wants_plain rfl ?_
      exact grown_pick _ _ _ false rfl h33 h41
    exact trivial
  intro W1 hkW1
  rintro _ rfl
  rintro _ rfl
  rintro _ rfl
  rintro _ rfl
  rintro _ rfl
  rintro _ rfl
  rintro _ rfl
  rintro _ rfl
  rintro _ rfl
  rintro _ rfl
  rintro _ rfl
  rintro _ rfl
  rintro _ rfl
  rintro _ rfl
  rintro _ rfl
  rintro _ rfl
  rintro _ rfl
  rintro _ rfl
  rintro _ rfl
  intro v38 h38
  intro v39 h39
  intro v40 h40
  rintro _ rfl
  rintro _ rfl
  refine fin_nil ?_
  simp only [Act.put, List.set_cons_zero, List.set_cons_succ, List.setIfInBounds_toArray]
  have KW := (unhide HD W1 hkW1)
  obtain ⟨S1, hS1⟩ : ∃ S, S = S0 ++ ⟨#[122]⟩ := ⟨_, rfl⟩
  have hne : S0 ≠ S1 := by
    intro e
    have := congrArg ByteArray.size e
    rw [hS1, ByteArray.size_append] at this
    have h1 : (ByteArray.mk #[122]).size = 1 := rfl
    omega
  have GW := unhide HS2 W1 hkW1
  have hc0 : W1.cell? ⟨g2, 0, none⟩ = some (.string S0) := (cell_man GW).1
  have hf0 : W1.frozen? ⟨g2, 0, none⟩ = false := frozen_of_row W1 g2 0 _ _ GW
  obtain ⟨w5, hw5⟩ : ∃ w5, w5 = W1.setCell ⟨g2, 0, none⟩ (.string S1) := ⟨_, rfl⟩
  have K5 : Kp [g2] W1 w5 := by rw [hw5]; exact setCell_kpm W1 g2 0 _
  have G5 : w5.heap[g2]? = some (.cells #[.string S1, .int .u32 py, .slice a2 n2 c2, .slice b2 k2 e2] 25 (0, 0)) := by rw [hw5]; simpa using heap_setCell_same W1 g2 0 _ _ (.string S1) GW
  obtain ⟨o1, o2, o3, o4⟩ := unhide HO
  have NB := noBy_man GW
  have hd5 : ∀ w', Kp [] w5.drew w' → Kp [] w5 w' := fun w' k' => (kp_drew w5).trans k'
  have GX := K5.heap (unhide HS1 W1 hkW1) (by simp; omega)
  obtain ⟨A1, A2, A3, A4⟩ := unhide HAA W1 hkW1
  have GA5 := K5.heap A1 (by simp; omega)
  have GB5 := K5.heap A2 (by simp; omega)
  have VA5 := A3.offBy NB K5
  have VB5 := A4.offBy NB K5
  have VX5 := (unhide HX W1 hkW1).offBy NB K5
  have VY5 := (unhide HY W1 hkW1).offBy NB K5
  obtain ⟨my1, hmy1⟩ : ∃ m : Mf, m = ⟨S1, py, my.f, my.n⟩ := ⟨_, rfl⟩
  have VY51 : MV w5 (.agg #[.string S1, .int .u32 py, .slice a2 n2 c2, .slice b2 k2 e2]) my1 := by
    obtain ⟨_, _, _, _, _, _, e, p1, p2, p3⟩ := VY5
    injection e with e
    simp at e
    obtain ⟨-, -, ⟨rfl, rfl, rfl⟩, rfl, rfl, rfl⟩ := e
    rw [hmy1]
    exact ⟨_, _, _, _, _, _, rfl, p1, p2, ⟨by rw [unhide HPY]; exact (unhide HMOK).v0, by rw [unhide HPY]; exact (unhide HMOK).v1, p3.f, p3.n⟩⟩
  have HT1 : Hid (∀ w', Kp [] w5.drew w' → w'.heap[g1]? = some (.cells #[.string S0, .int .u32 px, .slice a1 n1 c1, .slice b1 k1 e1] 25 (0, 0))) := fun w' k' => (hd5 w' k').heap GX (by simp)
  have HT2 : Hid (∀ w', Kp [] w5.drew w' → w'.heap[g2]? = some (.cells #[.string S1, .int .u32 py, .slice a2 n2 c2, .slice b2 k2 e2] 25 (0, 0))) := fun w' k' => (hd5 w' k').heap G5 (by simp)
  have HTA : Hid (∀ w', Kp [] w5.drew w' → w'.heap[ga]? = some (.cells #[.string sa, .int .u32 xa, .slice a3 n3 c3, .slice b3 k3 e3] 25 (0, 0))) := fun w' k' => (hd5 w' k').heap GA5 (by simp)
  have HTB : Hid (∀ w', Kp [] w5.drew w' → w'.heap[gb]? = some (.cells #[.string sb, .int .u32 xb, .slice a4 n4 c4, .slice b4 k4 e4] 25 (0, 0))) := fun w' k' => (hd5 w' k').heap GB5 (by simp)
  have HX5 : Hid (∀ w', Kp [] w5.drew w' → MV w' (.agg #[.string S0, .int .u32 px, .slice a1 n1 c1, .slice b1 k1 e1]) mx) := fun w' k' => VX5.kept (hd5 w' k')
  have HY5 : Hid (∀ w', Kp [] w5.drew w' → MV w' (.agg #[.string S1, .int .u32 py, .slice a2 n2 c2, .slice b2 k2 e2]) my1) := fun w' k' => VY51.kept (hd5 w' k')
  have HA5 : Hid (∀ w', Kp [] w5.drew w' → MV w' (.agg #[.string sa, .int .u32 xa, .slice a3 n3 c3, .slice b3 k3 e3]) ma) := fun w' k' => VA5.kept (hd5 w' k')
  have HB5 : Hid (∀ w', Kp [] w5.drew w' → MV w' (.agg #[.string sb, .int .u32 xb, .slice a4 n4 c4, .slice b4 k4 e4]) mb) := fun w' k' => VB5.kept (hd5 w' k')
  have HXY1 : Hid (false = newerM mx my1) := hide (by unfold newerM; rw [← unhide HS0, hmy1]; simp [hne])
  have HYX1 : Hid (false = newerM my1 mx) := hide (by unfold newerM; rw [← unhide HS0, hmy1]; simp [Ne.symm hne])
  obtain ⟨sq, hsq⟩ : ∃ b, b = (sa.toList == sb.toList) := ⟨_, rfl⟩
  obtain ⟨nb, hnb⟩ : ∃ b, b = newerM ma mb := ⟨_, rfl⟩
  obtain ⟨mb1, hmb1⟩ : ∃ b, b = sameM ma mb := ⟨_, rfl⟩
  have hN2 : nb = (sq && decide (xb < xa)) := by rw [hnb, hsq, str_dec]; unfold newerM; rw [← unhide HSa, ← unhide HSb, ← unhide HXa, ← unhide HXb]
  have HNF : Hid (sq = false → nb = false) := hide (fun h => by rw [hN2, h]; rfl)
  have HNT : Hid (sq = true → nb = decide (xb < xa)) := hide (fun h => by rw [hN2, h]; rfl)
  have HSQ := hide hsq
  have HNB := hide hnb
  have HSB := hide hmb1
  have HSA : Hid (true = sameM ma ma) := hide (sameM_refl ma).symm
  have HKW5 : Hid (Kp [] w w5) := ((unhide HK4).trans KW).then K5 (fun i hi => .inr (by simp at hi; omega))
  have HW5 := hide hw5
  have HS1' := hide hS1
  clear hkW1 KW hS1 hne GW hw5 K5 G5 o1 o2 o3 o4 NB hd5 GX A1 A2 A3 A4 GA5 GB5 VA5 VB5 VX5 VY5 hmy1 VY51 hsq hnb hmb1 hN2 HD HS1 HS2 HX HY HAA HO HK4
  have hcat : ¬ 9223372036854775807 < S0.size + 1 := by have := unhide HSZ; omega
  go_wp2_with fail
  rw [← unhide HS1', ← unhide HW5]
  clear hcat hc0 hf0
  refine region_grow Try.mixed [Is (.agg #[.string S0, .int .u32 px, .slice a1 n1 c1, .slice b1 k1 e1]), Is (.agg #[.string S1, .int .u32 py, .slice a2 n2 c2, .slice b2 k2 e2]), Is (.bool false), Is (.bool true), Is (.bool true), Is (.agg #[.string S1, .int .u32 py, .slice a2 n2 c2, .slice b2 k2 e2]), Is (.agg #[.string S0, .int .u32 px, .slice a1 n1 c1, .slice b1 k1 e1]), Is (.bool false), Is (.bool true), Is (.bool true), Is (.bool true), Is (.agg #[.string sa, .int .u32 xa, .slice a3 n3 c3, .slice b3 k3 e3]), Is (.agg #[.string sb, .int .u32 xb, .slice a4 n4 c4, .slice b4 k4 e4]), Is (.bool nb), Is (.pointer (some ⟨ga, 0, none⟩)), Is (.string sa), Is (.pointer (some ⟨gb, 0, none⟩)), Is (.string sb), Is (.bool sq), Is (.bool sq), IfT sq (Is (.pointer (some ⟨ga, 1, none⟩))), IfT sq (Is (.int .u32 xa)), IfT sq (Is (.pointer (some ⟨gb, 1, none⟩))), IfT sq (Is (.int .u32 xb)), IfT sq (Is (.bool nb)), Is (.bool nb), Is (.bool true), Is (.bool true), Is (.bool true), Is (.agg #[.string sa, .int .u32 xa, .slice a3 n3 c3, .slice b3 k3 e3]), Is (.agg #[.string sb, .int .u32 xb, .slice a4 n4 c4, .slice b4 k4 e4]), Is (.bool mb1), Is (.agg #[.string sa, .int .u32 xa, .slice a3 n3 c3, .slice b3 k3 e3]), Is (.agg #[.string sb, .int .u32 xb, .slice a4 n4 c4, .slice b4 k4 e4]), Is (.bool mb1), Is (.bool true), Is (.bool true), Is (.bool true), Is (.agg #[.string sa, .int .u32 xa, .slice a3 n3 c3, .slice b3 k3 e3]), Is (.agg #[.string sa, .int .u32 xa, .slice a3 n3 c3, .slice b3 k3 e3]), Is (.bool true), Is (.bool true), Is (.bool true), Is (.bool true), Is (.bool true), Is (.bool true)] [[(11, none)], [(12, none)], [(47, some 0), (48, some 1)], [(49, some 2)], [(50, some 3)], [(12, none), (51, some 4)], [(11, none), (51, some 4)], [(52, some 5), (53, some 6), (51, some 4)], [(54, some 7), (51, some 4)], [(51, some 4), (55, some 8)], [(56, some 9)], [(5, none), (57, some 10)], [(6, none), (57, some 10)], [(58, some 11), (59, some 12), (57, some 10)], [(5, none), (57, some 10)], [(61, some 14), (57, some 10)], [(6, none), (57, some 10)], [(63, some 16), (57, some 10)], [(62, some 15), (64, some 17), (57, some 10)], [(65, some 18), (57, some 10)], [(5, none), (66, some 19)], [(67, some 20), (66, some 19)], [(6, none), (66, some 19)], [(69, some 22), (66, some 19)], [(68, some 21), (70, some 23), (66, some 19)], [(66, some 19), (71, some 24), (57, some 10)], [(60, some 13), (72, some 25), (57, some 10)], [(57, some 10), (73, some 26)], [(74, some 27)], [(5, none), (75, some 28)], [(6, none), (75, some 28)], [(76, some 29), (77, some 30), (75, some 28)], [(5, none), (75, some 28)], [(6, none), (75, some 28)], [(79, some 32), (80, some 33), (75, some 28)], [(78, some 31), (81, some 34), (75, some 28)], [(75, some 28), (82, some 35)], [(83, some 36)], [(5, none), (84, some 37)], [(5, none), (84, some 37)], [(85, some 38), (86, some 39), (84, some 37)], [(84, some 37), (87, some 40)], [(88, some 41)], [(89, some 42)], [(89, some 42), (90, some 43)], [(91, some 44)]] (by kernel_rfl) ?_ ?_ ?_
  · simp only [List.mem_cons, List.not_mem_nil, or_false]
    intro R hR
    rcases hR with rfl | rfl | rfl | rfl | rfl | rfl | rfl | rfl | rfl | rfl | rfl | rfl | rfl | rfl | rfl | rfl | rfl | rfl | rfl | rfl | rfl | rfl | rfl | rfl | rfl | rfl | rfl | rfl | rfl | rfl | rfl | rfl | rfl | rfl | rfl | rfl | rfl | rfl | rfl | rfl | rfl | rfl | rfl | rfl | rfl | rfl <;> first | exact stable_is _ | exact stable_ift (stable_is _)
  · refine steps_cons (fun a w hk hn => ?_) ?_
    · have h11 : a.eval (.tmp 11) = .pointer (some ⟨g1, 0, none⟩) := hn.1
      clear hn
      refine wants_plain rfl ?_
      exact grown_loadman (.tmp 11) rfl h11 (unhide HT1 w hk) rfl
    refine steps_cons (fun a w hk hn => ?_) ?_
    · have h12 : a.eval (.tmp 12) = .pointer (some ⟨g2, 0, none⟩) := hn.1
      clear hn
      refine wants_plain rfl ?_
      exact grown_loadman (.tmp 12) rfl h12 (unhide HT2 w hk) rfl
    refine steps_cons (fun a w hk hn => ?_) ?_
    · have h47 : a.eval (.tmp 47) = .agg #[.string S0, .int .u32 px, .slice a1 n1 c1, .slice b1 k1 e1] := hn.1
      have h48 : a.eval (.tmp 48) = .agg #[.string S1, .int .u32 py, .slice a2 n2 c2, .slice b2 k2 e2] := hn.2.1
      clear hn
      refine wants_plain rfl ?_
      refine grown_call (f := 13) rfl Try.func13 (by kernel_rfl) (by kernel_rfl) ?_
      simp only [List.map_toArray, List.map_cons, List.map_nil, h47, h48]
      refine (mnewer_any _ _ mx my1 false (unhide HXY1) w (unhide HX5 w hk) (unhide HY5 w hk)).mono ?_
      rintro e w' ⟨rfl, K⟩
      exact ⟨_, rfl, K, rfl⟩
    refine steps_cons (fun a w hk hn => ?_) ?_
    · have h49 : a.eval (.tmp 49) = .bool false := hn.1
      clear hn
      refine wants_plain rfl ?_
      refine grown_run (v := .bool true) ?_ (Kp.refl _ _) rfl
      obtain ⟨ρ, hρ, hc, hf, hg⟩ := eval_is a
      rw [hρ] at h49 ⊢
      simp [go_sem, h49]
    refine steps_cons (fun a w hk hn => ?_) ?_
    · have h50 : a.eval (.tmp 50) = .bool true := hn.1
      clear hn
      refine wants_plain rfl ?_
      exact grown_move (.tmp 50) rfl h50
    refine steps_cons (fun a w hk hn => ?_) ?_
    · have h12 : a.eval (.tmp 12) = .pointer (some ⟨g2, 0, none⟩) := hn.1
      have h51 : a.eval (.tmp 51) = .bool true := hn.2.1
      clear hn
      refine wants_guard (d := 51) rfl rfl h51 ?_
      exact grown_loadman (.tmp 12) rfl h12 (unhide HT2 w hk) rfl
    refine steps_cons (fun a w hk hn => ?_) ?_
    · have h11 : a.eval (.tmp 11) = .pointer (some ⟨g1, 0, none⟩) := hn.1
      have h51 : a.eval (.tmp 51) = .bool true := hn.2.1
      clear hn
      refine wants_guard (d := 51) rfl rfl h51 ?_
      exact grown_loadman (.tmp 11) rfl h11 (unhide HT1 w hk) rfl
    refine steps_cons (fun a w hk hn => ?_) ?_
    · have h52 : a.eval (.tmp 52) = .agg #[.string S1, .int .u32 py, .slice a2 n2 c2, .slice b2 k2 e2] := hn.1
      have h53 : a.eval (.tmp 53) = .agg #[.string S0, .int .u32 px, .slice a1 n1 c1, .slice b1 k1 e1] := hn.2.1
      have h51 : a.eval (.tmp 51) = .bool true := hn.2.2.1
      clear hn
      refine wants_guard (d := 51) rfl rfl h51 ?_
      refine grown_call (f := 13) rfl Try.func13 (by kernel_rfl) (by kernel_rfl) ?_
      simp only [List.map_toArray, List.map_cons, List.map_nil, h52, h53]
      refine (mnewer_any _ _ my1 mx false (unhide HYX1) w (unhide HY5 w hk) (unhide HX5 w hk)).mono ?_
      rintro e w' ⟨rfl, K⟩
      exact ⟨_, rfl, K, rfl⟩
    refine steps_cons (fun a w hk hn => ?_) ?_
    · have h54 : a.eval (.tmp 54) = .bool false := hn.1
      have h51 : a.eval (.tmp 51) = .bool true := hn.2.1
      clear hn
      refine wants_guard (d := 51) rfl rfl h51 ?_
      refine grown_run (v := .bool true) ?_ (Kp.refl _ _) rfl
      obtain ⟨ρ, hρ, hc, hf, hg⟩ := eval_is a
      rw [hρ] at h54 ⊢
      simp [go_sem, h54]
    refine steps_cons (fun a w hk hn => ?_) ?_
    · have h51 : a.eval (.tmp 51) = .bool true := hn.1
      have h55 : a.eval (.tmp 55) = .bool true := hn.2.1
      clear hn
      refine wants_plain rfl ?_
      exact grown_pick _ _ _ true rfl h51 h55
    refine steps_cons (fun a w hk hn => ?_) ?_
    · have h56 : a.eval (.tmp 56) = .bool true := hn.1
      clear hn
      refine wants_plain rfl ?_
      exact grown_move (.tmp 56) rfl h56
    refine steps_cons (fun a w hk hn => ?_) ?_
    · have h5 : a.eval (.tmp 5) = .pointer (some ⟨ga, 0, none⟩) := hn.1
      have h57 : a.eval (.tmp 57) = .bool true := hn.2.1
      clear hn
      refine wants_guard (d := 57) rfl rfl h57 ?_
      exact grown_loadman (.tmp 5) rfl h5 (unhide HTA w hk) rfl
    refine steps_cons (fun a w hk hn => ?_) ?_
    · have h6 : a.eval (.tmp 6) = .pointer (some ⟨gb, 0, none⟩) := hn.1
      have h57 : a.eval (.tmp 57) = .bool true := hn.2.1
      clear hn
      refine wants_guard (d := 57) rfl rfl h57 ?_
      exact grown_loadman (.tmp 6) rfl h6 (unhide HTB w hk) rfl
    refine steps_cons (fun a w hk hn => ?_) ?_
    · have h58 : a.eval (.tmp 58) = .agg #[.string sa, .int .u32 xa, .slice a3 n3 c3, .slice b3 k3 e3] := hn.1
      have h59 : a.eval (.tmp 59) = .agg #[.string sb, .int .u32 xb, .slice a4 n4 c4, .slice b4 k4 e4] := hn.2.1
      have h57 : a.eval (.tmp 57) = .bool true := hn.2.2.1
      clear hn
      refine wants_guard (d := 57) rfl rfl h57 ?_
      refine grown_call (f := 13) rfl Try.func13 (by kernel_rfl) (by kernel_rfl) ?_
      simp only [List.map_toArray, List.map_cons, List.map_nil, h58, h59]
      refine (mnewer_any _ _ ma mb nb (unhide HNB) w (unhide HA5 w hk) (unhide HB5 w hk)).mono ?_
      rintro e w' ⟨rfl, K⟩
      exact ⟨_, rfl, K, rfl⟩
    refine steps_cons (fun a w hk hn => ?_) ?_
    · have h5 : a.eval (.tmp 5) = .pointer (some ⟨ga, 0, none⟩) := hn.1
      have h57 : a.eval (.tmp 57) = .bool true := hn.2.1
      clear hn
      refine wants_guard (d := 57) rfl rfl h57 ?_
      exact grown_mfld (.tmp 5) 0 (by omega) rfl h5
    refine steps_cons (fun a w hk hn => ?_) ?_
    · have h61 : a.eval (.tmp 61) = .pointer (some ⟨ga, 0, none⟩) := hn.1
      have h57 : a.eval (.tmp 57) = .bool true := hn.2.1
      clear hn
      refine wants_guard (d := 57) rfl rfl h57 ?_
      exact grown_lds (.tmp 61) rfl 0 _ h61 (cell_man (unhide HTA w hk)).1
    refine steps_cons (fun a w hk hn => ?_) ?_
    · have h6 : a.eval (.tmp 6) = .pointer (some ⟨gb, 0, none⟩) := hn.1
      have h57 : a.eval (.tmp 57) = .bool true := hn.2.1
      clear hn
      refine wants_guard (d := 57) rfl rfl h57 ?_
      exact grown_mfld (.tmp 6) 0 (by omega) rfl h6
    refine steps_cons (fun a w hk hn => ?_) ?_
    · have h63 : a.eval (.tmp 63) = .pointer (some ⟨gb, 0, none⟩) := hn.1
      have h57 : a.eval (.tmp 57) = .bool true := hn.2.1
      clear hn
      refine wants_guard (d := 57) rfl rfl h57 ?_
      exact grown_lds (.tmp 63) rfl 0 _ h63 (cell_man (unhide HTB w hk)).1
    refine steps_cons (fun a w hk hn => ?_) ?_
    · have h62 : a.eval (.tmp 62) = .string sa := hn.1
      have h64 : a.eval (.tmp 64) = .string sb := hn.2.1
      have h57 : a.eval (.tmp 57) = .bool true := hn.2.2.1
      clear hn
      refine wants_guard (d := 57) rfl rfl h57 ?_
      refine grown_run (v := .bool sq) ?_ (Kp.refl _ _) rfl
      obtain ⟨ρ, hρ, hc, hf, hg⟩ := eval_is a
      rw [hρ] at h62 h64 ⊢
      simp [go_sem, h62, h64]
      exact (unhide HSQ).symm
    refine steps_cons (fun a w hk hn => ?_) ?_
    · have h65 : a.eval (.tmp 65) = .bool sq := hn.1
      have h57 : a.eval (.tmp 57) = .bool true := hn.2.1
      clear hn
      refine wants_guard (d := 57) rfl rfl h57 ?_
      exact grown_move (.tmp 65) rfl h65
    refine steps_cons (fun a w hk hn => ?_) ?_
    · have h5 : a.eval (.tmp 5) = .pointer (some ⟨ga, 0, none⟩) := hn.1
      have h66 : a.eval (.tmp 66) = .bool sq := hn.2.1
      clear hn
      exact wants_ift (d := 66) rfl rfl h66 (fun _ => grown_mfld (.tmp 5) 1 (by omega) rfl h5)
    refine steps_cons (fun a w hk hn => ?_) ?_
    · have h67 : (IfT sq (Is (.pointer (some ⟨ga, 1, none⟩)))) (a.eval (.tmp 67)) w := hn.1
      have h66 : a.eval (.tmp 66) = .bool sq := hn.2.1
      clear hn
      exact wants_ift (d := 66) rfl rfl h66 (fun hb => grown_ldu (.tmp 67) rfl 1 _ (h67 hb) (cell_man (unhide HTA w hk)).2.1)
    refine steps_cons (fun a w hk hn => ?_) ?_
    · have h6 : a.eval (.tmp 6) = .pointer (some ⟨gb, 0, none⟩) := hn.1
      have h66 : a.eval (.tmp 66) = .bool sq := hn.2.1
      clear hn
      exact wants_ift (d := 66) rfl rfl h66 (fun _ => grown_mfld (.tmp 6) 1 (by omega) rfl h6)
    refine steps_cons (fun a w hk hn => ?_) ?_
    · have h69 : (IfT sq (Is (.pointer (some ⟨gb, 1, none⟩)))) (a.eval (.tmp 69)) w := hn.1
      have h66 : a.eval (.tmp 66) = .bool sq := hn.2.1
      clear hn
      exact wants_ift (d := 66) rfl rfl h66 (fun hb => grown_ldu (.tmp 69) rfl 1 _ (h69 hb) (cell_man (unhide HTB w hk)).2.1)
    refine steps_cons (fun a w hk hn => ?_) ?_
    · have h68 : (IfT sq (Is (.int .u32 xa))) (a.eval (.tmp 68)) w := hn.1
      have h70 : (IfT sq (Is (.int .u32 xb))) (a.eval (.tmp 70)) w := hn.2.1
      have h66 : a.eval (.tmp 66) = .bool sq := hn.2.2.1
      clear hn
      refine wants_ift (d := 66) rfl rfl h66 (fun hb => ?_)
      have h68' := h68 hb
      have h70' := h70 hb
      simp only [Is] at h68' h70'
      refine grown_run (v := .bool nb) ?_ (Kp.refl _ _) rfl
      obtain ⟨ρ, hρ, hc, hf, hg⟩ := eval_is a
      rw [hρ] at h68' h70' ⊢
      simp [go_sem, h68', h70']
      exact (unhide HNT hb).symm
    refine steps_cons (fun a w hk hn => ?_) ?_
    · have h66 : a.eval (.tmp 66) = .bool sq := hn.1
      have h71 : (IfT sq (Is (.bool nb))) (a.eval (.tmp 71)) w := hn.2.1
      have h57 : a.eval (.tmp 57) = .bool true := hn.2.2.1
      clear hn
      refine wants_guard (d := 57) rfl rfl h57 ?_
      refine grown_pick (.tmp 66) (.tmp 71) _ sq rfl h66 ?_
      have hz := unhide HNF
      cases sq
      · rw [hz rfl]; rfl
      · exact h71 rfl
    refine steps_cons (fun a w hk hn => ?_) ?_
    · have h60 : a.eval (.tmp 60) = .bool nb := hn.1
      have h72 : a.eval (.tmp 72) = .bool nb := hn.2.1
      have h57 : a.eval (.tmp 57) = .bool true := hn.2.2.1
      clear hn
      refine wants_guard (d := 57) rfl rfl h57 ?_
      refine grown_run (v := .bool true) ?_ (Kp.refl _ _) rfl
      obtain ⟨ρ, hρ, hc, hf, hg⟩ := eval_is a
      rw [hρ] at h60 h72 ⊢
      simp [go_sem, h60, h72]
    refine steps_cons (fun a w hk hn => ?_) ?_
    · have h57 : a.eval (.tmp 57) = .bool true := hn.1
      have h73 : a.eval (.tmp 73) = .bool true := hn.2.1
      clear hn
      refine wants_plain rfl ?_
      exact grown_pick _ _ _ true rfl h57 h73
    refine steps_cons (fun a w hk hn => ?_) ?_
    · have h74 : a.eval (.tmp 74) = .bool true := hn.1
      clear hn
      refine wants_plain rfl ?_
      exact grown_move (.tmp 74) rfl h74
    refine steps_cons (fun a w hk hn => ?_) ?_
    · have h5 : a.eval (.tmp 5) = .pointer (some ⟨ga, 0, none⟩) := hn.1
      have h75 : a.eval (.tmp 75) = .bool true := hn.2.1
      clear hn
      refine wants_guard (d := 75) rfl rfl h75 ?_
      exact grown_loadman (.tmp 5) rfl h5 (unhide HTA w hk) rfl
    refine steps_cons (fun a w hk hn => ?_) ?_
    · have h6 : a.eval (.tmp 6) = .pointer (some ⟨gb, 0, none⟩) := hn.1
      have h75 : a.eval (.tmp 75) = .bool true := hn.2.1
      clear hn
      refine wants_guard (d := 75) rfl rfl h75 ?_
      exact grown_loadman (.tmp 6) rfl h6 (unhide HTB w hk) rfl
    refine steps_cons (fun a w hk hn => ?_) ?_
    · have h76 : a.eval (.tmp 76) = .agg #[.string sa, .int .u32 xa, .slice a3 n3 c3, .slice b3 k3 e3] := hn.1
      have h77 : a.eval (.tmp 77) = .agg #[.string sb, .int .u32 xb, .slice a4 n4 c4, .slice b4 k4 e4] := hn.2.1
      have h75 : a.eval (.tmp 75) = .bool true := hn.2.2.1
      clear hn
      refine wants_guard (d := 75) rfl rfl h75 ?_
      refine grown_call (f := 10) rfl Try.func10 (by kernel_rfl) (by kernel_rfl) ?_
      simp only [List.map_toArray, List.map_cons, List.map_nil, h76, h77]
      refine (msame_any _ _ ma mb mb1 (unhide HSB) w (unhide HA5 w hk) (unhide HB5 w hk)).mono ?_
      rintro e w' ⟨rfl, K⟩
      exact ⟨_, rfl, K, rfl⟩
    refine steps_cons (fun a w hk hn => ?_) ?_
    · have h5 : a.eval (.tmp 5) = .pointer (some ⟨ga, 0, none⟩) := hn.1
      have h75 : a.eval (.tmp 75) = .bool true := hn.2.1
      clear hn
      refine wants_guard (d := 75) rfl rfl h75 ?_
      exact grown_loadman (.tmp 5) rfl h5 (unhide HTA w hk) rfl
    refine steps_cons (fun a w hk hn => ?_) ?_
    · have h6 : a.eval (.tmp 6) = .pointer (some ⟨gb, 0, none⟩) := hn.1
      have h75 : a.eval (.tmp 75) = .bool true := hn.2.1
      clear hn
      refine wants_guard (d := 75) rfl rfl h75 ?_
      exact grown_loadman (.tmp 6) rfl h6 (unhide HTB w hk) rfl
    refine steps_cons (fun a w hk hn => ?_) ?_
    · have h79 : a.eval (.tmp 79) = .agg #[.string sa, .int .u32 xa, .slice a3 n3 c3, .slice b3 k3 e3] := hn.1
      have h80 : a.eval (.tmp 80) = .agg #[.string sb, .int .u32 xb, .slice a4 n4 c4, .slice b4 k4 e4] := hn.2.1
      have h75 : a.eval (.tmp 75) = .bool true := hn.2.2.1
      clear hn
      refine wants_guard (d := 75) rfl rfl h75 ?_
      refine grown_call (f := 11) rfl Try.func11 (by kernel_rfl) (by kernel_rfl) ?_
      simp only [List.map_toArray, List.map_cons, List.map_nil, h79, h80]
      refine (rsame_any _ _ ma mb mb1 (unhide HSB) w (unhide HA5 w hk) (unhide HB5 w hk)).mono ?_
      rintro e w' ⟨rfl, K⟩
      exact ⟨_, rfl, K, rfl⟩
    refine steps_cons (fun a w hk hn => ?_) ?_
    · have h78 : a.eval (.tmp 78) = .bool mb1 := hn.1
      have h81 : a.eval (.tmp 81) = .bool mb1 := hn.2.1
      have h75 : a.eval (.tmp 75) = .bool true := hn.2.2.1
      clear hn
      refine wants_guard (d := 75) rfl rfl h75 ?_
      refine grown_run (v := .bool true) ?_ (Kp.refl _ _) rfl
      obtain ⟨ρ, hρ, hc, hf, hg⟩ := eval_is a
      rw [hρ] at h78 h81 ⊢
      simp [go_sem, h78, h81]
    refine steps_cons (fun a w hk hn => ?_) ?_
    · have h75 : a.eval (.tmp 75) = .bool true := hn.1
      have h82 : a.eval (.tmp 82) = .bool true := hn.2.1
      clear hn
      refine wants_plain rfl ?_
      exact grown_pick _ _ _ true rfl h75 h82
    refine steps_cons (fun a w hk hn => ?_) ?_
    · have h83 : a.eval (.tmp 83) = .bool true := hn.1
      clear hn
      refine wants_plain rfl ?_
      exact grown_move (.tmp 83) rfl h83
    refine steps_cons (fun a w hk hn => ?_) ?_
    · have h5 : a.eval (.tmp 5) = .pointer (some ⟨ga, 0, none⟩) := hn.1
      have h84 : a.eval (.tmp 84) = .bool true := hn.2.1
      clear hn
      refine wants_guard (d := 84) rfl rfl h84 ?_
      exact grown_loadman (.tmp 5) rfl h5 (unhide HTA w hk) rfl
    refine steps_cons (fun a w hk hn => ?_) ?_
    · have h5 : a.eval (.tmp 5) = .pointer (some ⟨ga, 0, none⟩) := hn.1
      have h84 : a.eval (.tmp 84) = .bool true := hn.2.1
      clear hn
      refine wants_guard (d := 84) rfl rfl h84 ?_
      exact grown_loadman (.tmp 5) rfl h5 (unhide HTA w hk) rfl
    refine steps_cons (fun a w hk hn => ?_) ?_
    · have h85 : a.eval (.tmp 85) = .agg #[.string sa, .int .u32 xa, .slice a3 n3 c3, .slice b3 k3 e3] := hn.1
      have h86 : a.eval (.tmp 86) = .agg #[.string sa, .int .u32 xa, .slice a3 n3 c3, .slice b3 k3 e3] := hn.2.1
      have h84 : a.eval (.tmp 84) = .bool true := hn.2.2.1
      clear hn
      refine wants_guard (d := 84) rfl rfl h84 ?_
      refine grown_call (f := 10) rfl Try.func10 (by kernel_rfl) (by kernel_rfl) ?_
      simp only [List.map_toArray, List.map_cons, List.map_nil, h85, h86]
      refine (msame_any _ _ ma ma true (unhide HSA) w (unhide HA5 w hk) (unhide HA5 w hk)).mono ?_
      rintro e w' ⟨rfl, K⟩
      exact ⟨_, rfl, K, rfl⟩
    refine steps_cons (fun a w hk hn => ?_) ?_
    · have h84 : a.eval (.tmp 84) = .bool true := hn.1
      have h87 : a.eval (.tmp 87) = .bool true := hn.2.1
      clear hn
      refine wants_plain rfl ?_
      exact grown_pick _ _ _ true rfl h84 h87
    refine steps_cons (fun a w hk hn => ?_) ?_
    · have h88 : a.eval (.tmp 88) = .bool true := hn.1
      clear hn
      refine wants_plain rfl ?_
      exact grown_move (.tmp 88) rfl h88
    refine steps_cons (fun a w hk hn => ?_) ?_
    · have h89 : a.eval (.tmp 89) = .bool true := hn.1
      clear hn
      refine wants_guard (d := 89) rfl rfl h89 ?_
      refine grown_call (f := 12) rfl Try.func12 (by kernel_rfl) (by kernel_rfl) ?_
      simp only [List.map_toArray, List.map_nil]
      refine (mknown_any w).mono ?_
      rintro e w' ⟨rfl, K⟩
      exact ⟨_, rfl, K, rfl⟩
    refine steps_cons (fun a w hk hn => ?_) ?_
    · have h89 : a.eval (.tmp 89) = .bool true := hn.1
      have h90 : a.eval (.tmp 90) = .bool true := hn.2.1
      clear hn
      refine wants_plain rfl ?_
      exact grown_pick _ _ _ true rfl h89 h90
    refine steps_cons (fun a w hk hn => ?_) ?_
    · have h91 : a.eval (.tmp 91) = .bool true := hn.1
      clear hn
      refine wants_plain rfl ?_
      exact grown_assign (.tmp 91) rfl h91
    exact trivial
  intro W2 hkW2
  rintro _ rfl
  rintro _ rfl
  rintro _ rfl
  rintro _ rfl
  rintro _ rfl
  rintro _ rfl
  rintro _ rfl
  rintro _ rfl
  rintro _ rfl
  rintro _ rfl
  rintro _ rfl
  rintro _ rfl
  rintro _ rfl
  rintro _ rfl
  rintro _ rfl
  rintro _ rfl
  rintro _ rfl
  rintro _ rfl
  rintro _ rfl
  rintro _ rfl
  intro v67 h67
  intro v68 h68
  intro v69 h69
  intro v70 h70
  intro v71 h71
  rintro _ rfl
  rintro _ rfl
  rintro _ rfl
  rintro _ rfl
  rintro _ rfl
  rintro _ rfl
  rintro _ rfl
  rintro _ rfl
  rintro _ rfl
  rintro _ rfl
  rintro _ rfl
  rintro _ rfl
  rintro _ rfl
  rintro _ rfl
  rintro _ rfl
  rintro _ rfl
  rintro _ rfl
  rintro _ rfl
  rintro _ rfl
  rintro _ rfl
  rintro _ rfl
  refine fin_nil ?_
  simp only [Act.put, List.set_cons_zero, List.set_cons_succ, List.setIfInBounds_toArray]
  go_wp2_with fail
  go_ret
  exact ⟨rfl, ((unhide HKW5).trans ((kp_drew w5).trans hkW2)).below (Nat.le_refl _) (by simp)⟩

set_option maxRecDepth 100000 in
theorem lifted (os : Os) (started : os.Started) (H : Type) (enc : TypeId × Value → H) :
    ReturnsInHanded {} Try.checked os 4 .any (Rows.manifestNewerSpec.pre6 enc Try.prog Try.f4 Rows.manifestNewerRow.domain false) (Rows.manifestNewerSpec.post enc Try.prog Try.f4 false true false false) := by
  refine returnsInHanded_of_change (C := Try.checked) own started (by kernel_rfl) Try.func4
    (ChangeSpec.witness6 (enc := enc) (C := Try.checked) false ⟨#[], #[.agg #[.string ⟨#[]⟩, .int .u32 0, .slice none 0 0, .slice none 0 0], .agg #[.string ⟨#[]⟩, .int .u32 0, .slice none 0 0, .slice none 0 0], .int .i64 0, .int .i64 0, .int .i64 0], []⟩ 8 (by kernel_rfl) (by kernel_rfl) (by kernel_rfl) (by kernel_rfl)) ?_
  intro W base args ds gs before hval0 hW hcnd _
  have hval : ∀ (j : Nat) t v, Try.f4.params[j]? = some t → args[j]? = some v → Value.okWide Try.prog W .any base t v := hval0
  have hW' := hW
  obtain ⟨p, q, hA0, hV, rfl, hfz, hnd⟩ := hW
  have hA : DataW.TrodAll enc Try.prog W 0 (fun _ => true) true Try.f4.params.toList args.toList ds p := hA0
  rw [Try.params4] at hA hval
  obtain ⟨v0, vs0, d0, ds0, p0, q0, hargs, rfl, rfl, h0, r0⟩ := trodAll_cons hA
  obtain ⟨v1, vs1, d1, ds1, p1, q1, rfl, rfl, rfl, h1, r1⟩ := trodAll_cons r0
  obtain ⟨v2, vs2, d2, ds2, p2, q2, rfl, rfl, rfl, h2, r2⟩ := trodAll_cons r1
  obtain ⟨v3, vs3, d3, ds3, p3, q3, rfl, rfl, rfl, h3, r3⟩ := trodAll_cons r2
  obtain ⟨v4, vs4, d4, ds4, p4, q4, rfl, rfl, rfl, h4, r4⟩ := trodAll_cons r3
  obtain ⟨rfl, rfl, rfl⟩ := trodAll_nil r4
  obtain rfl : args = #[v0, v1, v2, v3, v4] := by cases args; simp_all
  obtain ⟨rfl, rfl⟩ := trodVars_none hV
  have k0 := h0
  have lt0 : ∀ x ∈ p0, x.block < W.heap.size := by obtain ⟨m, hm⟩ := k0; exact DataW.trod_lt m _ _ _ hm
  obtain ⟨l0, s0, z0⟩ := man_open (hval 0 25 v0 rfl rfl) h0
  have k1 := h1
  have lt1 : ∀ x ∈ p1, x.block < W.heap.size := by obtain ⟨m, hm⟩ := k1; exact DataW.trod_lt m _ _ _ hm
  obtain ⟨l1, s1, z1⟩ := man_open (hval 1 25 v1 rfl rfl) h1
  obtain ⟨a2, rfl, rfl, rfl, w2⟩ := open_int Try.underlying3 (hval 2 3 v2 rfl rfl) h2
  obtain ⟨a3, rfl, rfl, rfl, w3⟩ := open_int Try.underlying3 (hval 3 3 v3 rfl rfl) h3
  obtain ⟨a4, rfl, rfl, rfl, w4⟩ := open_int Try.underlying3 (hval 4 3 v4 rfl rfl) h4
  clear hA0 hval0
  refine (walk v0 l0 v1 l1 a2 a3 a4 W s0 z0 s1 z1 (bounds_i64 w2) (bounds_i64 w3) (bounds_i64 w4)).mono fun e W' ⟨he, bel⟩ => ?_
  subst he
  exact ⟨_, rfl, _, _, _, [], _, [], hW', trodAll_mk1 (shut_bool Try.underlying4 _), (trodAll_cons_mk (Below.trod laidOut (by kernel_rfl) (of_decide_eq_true (by kernel_rfl)) k0 bel lt0) (trodAll_cons_mk (Below.trod laidOut (by kernel_rfl) (of_decide_eq_true (by kernel_rfl)) k1 bel lt1) (trodAll_cons_mk (shut_int Try.underlying3 w2) (trodAll_cons_mk (shut_int Try.underlying3 w3) (trodAll_cons_mk (shut_int Try.underlying3 w4) trodAll_mk0))))), rfl, bel.frame _, fun h => by cases h⟩

theorem over : Rows.manifestNewerRow.holds Try.pinned (OpenSpec.ofChange Rows.manifestNewerSpec) :=
  OpenClaim.holds_of_wide 4 Try.f4 rfl rfl rfl rfl rfl rfl rfl ⟨rfl, rfl, rfl, rfl, rfl⟩ rfl rfl rfl rfl rfl (by kernel_rfl) Try.func4 (by kernel_rfl)
    (of_decide_eq_true (by kernel_rfl)) (by unfold Func.isWrapper; first | (rw [if_pos (by decide +kernel)]; kernel_rfl) | (rw [if_neg (by decide +kernel)]; exact ⟨rfl, rfl⟩))
    (fun os started H enc _ => lifted os started H enc)
end Go.Proofs.Ytioflclfgkcpfaa.manifestNewer

namespace Go.Proofs.Ytioflclfgkcpfaa
/-- The given statement. -/
theorem ManifestNewer_holds : Rows.ManifestNewerSaid := manifestNewer.over
#print axioms ManifestNewer_holds
end Go.Proofs.Ytioflclfgkcpfaa
