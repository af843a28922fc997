/-
  The contract of the law package's known.
-/
import Derived.Test.YtacfciimialobaaDoorOKeep
namespace Go.Proofs.YtacfciimialobaaDoor
open Go.RowKit

theorem bs109 : Bs [109] := fun b hb => by
  obtain rfl : b = 109 := by simpa using hb
  omega
theorem sl109 (w : World) : Sl (w.alloc (.cells #[.int .u8 109] 5 (1, 2))) (.slice (some ⟨w.heap.size, 0, none⟩) 1 1) [109] := Sl.block (cs := [109]) (t := 5) (fr := (1, 2)) (heap_alloc_new w _) (by simp [maxLen])

set_option maxRecDepth 100000 in
set_option maxHeartbeats 4000000 in
theorem known_any (w : World) (hG : Gl w) : Calls Tryd.prog 22 #[] w fun e w' => e = .returned (.bool true) ∧ Kp [] w w' := by
  have HG := hide hG
  clear hG
  go_enter Tryd.func22, Tryd.ntmps22
  go_wp2_with fail
  refine (seed_any 1 w (by omega)).mono ?_
  rintro ee w1 ⟨a1, m1, c1, sd, rfl, R1, hsl, hsb, K1⟩
  have HR1 := hide R1
  have HK1 := hide K1
  have HSB := hide hsb
  clear R1 K1 hsb
  obtain ⟨ob, hob⟩ : ∃ o : Obj, o = (.cells #[.int .u8 109] 5 (1, 2)) := ⟨_, rfl⟩
  have kc1 := Lib.run_convert_bytes_const (P := Tryd.prog) w1 22 5 #[.int .u8 109] 1 1 Tryd.underlying22 Tryd.underlying5
  have kc2 := Lib.run_convert_bytes_const (P := Tryd.prog) (w1.alloc ob) 22 5 #[.int .u8 109] 1 1 Tryd.underlying22 Tryd.underlying5
  rw [show (#[Value.int .u8 109].size, #[Value.int .u8 109].size + 1) = (1, 2) from rfl, ← hob] at kc1 kc2
  rw [show (w1.alloc ob).heap.size = w1.heap.size + 1 by simp] at kc2
  have HM1 : Hid (Sl (w1.alloc ob) (.slice (some ⟨w1.heap.size, 0, none⟩) 1 1) [109]) := by rw [hob]; exact sl109 w1
  have HM2 : Hid (Sl ((w1.alloc ob).alloc ob) (.slice (some ⟨w1.heap.size + 1, 0, none⟩) 1 1) [109]) := by
    have := sl109 (w1.alloc ob)
    rw [show (w1.alloc ob).heap.size = w1.heap.size + 1 by simp, ← hob] at this
    exact this
  have HK2 := hide (((unhide HK1).alloc ob).alloc ob)
  obtain ⟨d, hd⟩ : ∃ d, d = digP [109] := ⟨_, rfl⟩
  have HD := hide hd
  clear hob hd
  go_wp2_with fail
  refine (sign_any _ sd 3 _ [109] d (unhide HD) _ ((unhide HR1).sl.kept (((Kp.refl [] w1).alloc ob).alloc ob) (by simp)) (unhide HSB) (by omega) (unhide HM2) bs109 (by simp) ((unhide HG).kept (unhide HK2) (by simp))).mono ?_
  rintro ee w3 ⟨a3, m3, c3, rfl, A3⟩
  obtain ⟨l, hL, hl2⟩ := A3.lists (by rw [sgnP, ptsP_len]; omega)
  have HK3 := hide A3.kp
  have HL := hide hL
  have HL2 := hide hl2
  clear A3 hL hl2 kc1 kc2
  go_wp2_with fail
  obtain ⟨rP, hrP⟩ : ∃ r, r = pubP sd 3 := ⟨_, rfl⟩
  have hrPl : rP.length = 32 := by rw [hrP]; exact pubP_len _ _
  have HRP := hide hrP
  clear hrP
  have K13 := (((Kp.refl [] w1).alloc ob).alloc ob).trans (unhide HK3)
  have HKw3 := hide ((unhide HK2).trans (unhide HK3))
  refine (root_any _ [109] _ l d true rP (unhide HD) (by rw [unhide HL2, areP_sgn]) (by rw [unhide HL2, rootP_sgn, unhide HRP]) w3 (((unhide HM1).kept ((Kp.refl [] _).alloc ob) (by simp)).kept (unhide HK3) (by simp)) bs109 (by simp) (unhide HL) ((unhide HG).kept (unhide HKw3) (by simp))).mono ?_
  rintro ee w4 ⟨v, rfl, hRt, K4⟩
  obtain ⟨a4, m4, c4, rfl, R4⟩ : ∃ ao m c, v = .slice ao m c ∧ Row w4 w3.heap.size v rP := hRt
  obtain rfl : m4 = 32 := R4.len.trans hrPl
  have HR4 := hide R4
  have HK4 := hide ((unhide HKw3).trans K4)
  have HS4 := hide ((unhide HR1).sl.kept (K13.trans K4) (by simp))
  clear R4 K4 K13 HKw3 HK3 HL HL2 HM1 HM2 HK2 HR1 HK1
  obtain ⟨ob, hob⟩ : ∃ o : Obj, o = (.cells #[.int .u8 109] 5 (1, 2)) := ⟨_, rfl⟩
  have kc3 := Lib.run_convert_bytes_const (P := Tryd.prog) w4 22 5 #[.int .u8 109] 1 1 Tryd.underlying22 Tryd.underlying5
  rw [show (#[Value.int .u8 109].size, #[Value.int .u8 109].size + 1) = (1, 2) from rfl, ← hob] at kc3
  have HM3 : Hid (Sl (w4.alloc ob) (.slice (some ⟨w4.heap.size, 0, none⟩) 1 1) [109]) := by rw [hob]; exact sl109 w4
  clear hob
  go_wp2_with fail
  refine (root_any _ [109] (.slice none 0 0) [] d false _ (unhide HD) rfl rfl (w4.alloc ob) (unhide HM3) bs109 (by simp) (lists_nil _ _ _) ((unhide HG).kept ((unhide HK4).alloc ob) (by simp))).mono ?_
  rintro ee w5 ⟨v, rfl, hRt, K5⟩
  obtain rfl : v = .slice none 0 0 := hRt
  have HK5 := hide (((unhide HK4).alloc ob).trans K5)
  have K45 := ((Kp.refl [] w4).alloc ob).trans K5
  have HR5 := hide ((unhide HR4).sl.kept K45 (by simp))
  have HS5 := hide ((unhide HS4).kept K45 (by simp))
  clear K5 K45 HR4 HS4 HM3 HK4 kc3
  obtain ⟨SR, hSR⟩ : ∃ S, S = strOfNums rP := ⟨_, rfl⟩
  have HEQ31 := hide hSR
  have HEQ34 := hide hSR
  clear hSR
  have SLR : ∀ w', Kp [] w5.drew w' → Sl w' (.slice a4 32 c4) rP := fun w' h => (unhide HR5).kept ((kp_drew w5).trans h) (by simp)
  have SLS : ∀ w', Kp [] w5.drew w' → Sl w' (.slice a1 m1 c1) sd := fun w' h => (unhide HS5).kept ((kp_drew w5).trans h) (by simp)
  have GL : ∀ w', Kp [] w5.drew w' → Gl w' := fun w' h => (unhide HG).kept ((unhide HK5).trans ((kp_drew w5).trans h)) (by simp)
  go_wp2_with fail
  refine region_grow Tryd.mixed [Is (.bool true), Is (.bool true), Is (.slice a4 32 c4), Is (.int .i64 32), Is (.bool true), Is (.bool true), Is (.bool true), Is (.slice a4 32 c4), Is (.string SR), Is (.slice a1 m1 c1), SlT (rP), Is (.string SR), Is (.bool true), Is (.bool true), Is (.bool true), Is (.bool false), Is (.bool true), Is (.bool true), Is (.bool true)] [[(3, none)], [(23, some 0)], [(2, none), (24, some 1)], [(25, some 2), (24, some 1)], [(26, some 3), (24, some 1)], [(24, some 1), (27, some 4)], [(28, some 5)], [(2, none), (29, some 6)], [(30, some 7), (29, some 6)], [(1, none), (29, some 6)], [(32, some 9), (29, some 6)], [(33, some 10), (29, some 6)], [(31, some 8), (34, some 11), (29, some 6)], [(29, some 6), (35, some 12)], [(36, some 13)], [(5, none), (37, some 14)], [(38, some 15), (37, some 14)], [(37, some 14), (39, some 16)], [(40, some 17)]] (by kernel_rfl) ?_ ?_ ?_
  · simp only [List.mem_cons, List.not_mem_nil, or_false]
    intro R hR
    rcases hR with rfl | rfl | rfl | rfl | rfl | rfl | rfl | rfl | rfl | rfl | rfl | rfl | rfl | rfl | rfl | rfl | rfl | rfl | rfl <;> first | exact stable_is _ | exact stable_sl _
  · refine steps_cons (fun a w hk hn => ?_) ?_
    · have h3 : a.eval (.tmp 3) = .bool true := hn.1
      clear hn
      refine wants_plain rfl ?_
      exact grown_move (.tmp 3) rfl h3
    refine steps_cons (fun a w hk hn => ?_) ?_
    · have h23 : a.eval (.tmp 23) = .bool true := hn.1
      clear hn
      refine wants_plain rfl ?_
      exact grown_move (.tmp 23) rfl h23
    refine steps_cons (fun a w hk hn => ?_) ?_
    · have h2 : a.eval (.tmp 2) = .slice a4 32 c4 := hn.1
      have h24 : a.eval (.tmp 24) = .bool true := hn.2.1
      clear hn
      refine wants_guard (d := 24) rfl rfl h24 ?_
      exact grown_move (.tmp 2) rfl h2
    refine steps_cons (fun a w hk hn => ?_) ?_
    · have h25 : a.eval (.tmp 25) = .slice a4 32 c4 := hn.1
      have h24 : a.eval (.tmp 24) = .bool true := hn.2.1
      clear hn
      refine wants_guard (d := 24) rfl rfl h24 ?_
      refine grown_run (v := .int .i64 32) ?_ (Kp.refl _ _) rfl
      obtain ⟨ρ, hρ, hc, hf, hg⟩ := eval_is a
      rw [hρ] at h25 ⊢
      simp [go_sem, h25]
    refine steps_cons (fun a w hk hn => ?_) ?_
    · have h26 : a.eval (.tmp 26) = .int .i64 32 := hn.1
      have h24 : a.eval (.tmp 24) = .bool true := hn.2.1
      clear hn
      refine wants_guard (d := 24) rfl rfl h24 ?_
      refine grown_run (v := .bool true) ?_ (Kp.refl _ _) rfl
      obtain ⟨ρ, hρ, hc, hf, hg⟩ := eval_is a
      rw [hρ] at h26 ⊢
      simp [go_sem, hc, h26]
    refine steps_cons (fun a w hk hn => ?_) ?_
    · have h24 : a.eval (.tmp 24) = .bool true := hn.1
      have h27 : a.eval (.tmp 27) = .bool true := hn.2.1
      clear hn
      refine wants_plain rfl ?_
      exact grown_pick _ _ _ true rfl h24 h27
    refine steps_cons (fun a w hk hn => ?_) ?_
    · have h28 : a.eval (.tmp 28) = .bool true := hn.1
      clear hn
      refine wants_plain rfl ?_
      exact grown_move (.tmp 28) rfl h28
    refine steps_cons (fun a w hk hn => ?_) ?_
    · have h2 : a.eval (.tmp 2) = .slice a4 32 c4 := hn.1
      have h29 : a.eval (.tmp 29) = .bool true := hn.2.1
      clear hn
      refine wants_guard (d := 29) rfl rfl h29 ?_
      exact grown_move (.tmp 2) rfl h2
    refine steps_cons (fun a w hk hn => ?_) ?_
    · have h30 : a.eval (.tmp 30) = .slice a4 32 c4 := hn.1
      have h29 : a.eval (.tmp 29) = .bool true := hn.2.1
      clear hn
      refine wants_guard (d := 29) rfl rfl h29 ?_
      exact grown_conv (.tmp 30) _ _ 5 rP rfl (by rw [h30]; exact SLR w hk) Tryd.underlying22 Tryd.underlying5 Tryd.underlying9 (congrArg Value.string (unhide HEQ31).symm)
    refine steps_cons (fun a w hk hn => ?_) ?_
    · have h1 : a.eval (.tmp 1) = .slice a1 m1 c1 := hn.1
      have h29 : a.eval (.tmp 29) = .bool true := hn.2.1
      clear hn
      refine wants_guard (d := 29) rfl rfl h29 ?_
      exact grown_move (.tmp 1) rfl h1
    refine steps_cons (fun a w hk hn => ?_) ?_
    · have h32 : a.eval (.tmp 32) = .slice a1 m1 c1 := hn.1
      have h29 : a.eval (.tmp 29) = .bool true := hn.2.1
      clear hn
      refine wants_guard (d := 29) rfl rfl h29 ?_
      refine grown_call (f := 20) rfl Tryd.func20 (by kernel_rfl) (by kernel_rfl) ?_
      simp only [List.map_toArray, List.map_cons, List.map_nil, h32]
      refine (public_any _ sd 3 rP (unhide HRP) w (SLS w hk) (unhide HSB) (by omega) (GL w hk)).mono ?_
      rintro e w' ⟨ao, m, c, rfl, R, K⟩
      exact ⟨_, rfl, K, R.sl⟩
    refine steps_cons (fun a w hk hn => ?_) ?_
    · have h33 : Sl w (a.eval (.tmp 33)) (rP) := hn.1
      have h29 : a.eval (.tmp 29) = .bool true := hn.2.1
      clear hn
      refine wants_guard (d := 29) rfl rfl h29 ?_
      exact grown_conv (.tmp 33) _ _ 5 _ rfl h33 Tryd.underlying22 Tryd.underlying5 Tryd.underlying9 (congrArg Value.string (by first | rfl | exact (unhide HEQ34).symm))
    refine steps_cons (fun a w hk hn => ?_) ?_
    · have h31 : a.eval (.tmp 31) = .string SR := hn.1
      have h34 : a.eval (.tmp 34) = .string SR := hn.2.1
      have h29 : a.eval (.tmp 29) = .bool true := hn.2.2.1
      clear hn
      refine wants_guard (d := 29) rfl rfl h29 ?_
      refine grown_run (v := .bool true) ?_ (Kp.refl _ _) rfl
      obtain ⟨ρ, hρ, hc, hf, hg⟩ := eval_is a
      rw [hρ] at h31 h34 ⊢
      simp [go_sem, h31, h34]
    refine steps_cons (fun a w hk hn => ?_) ?_
    · have h29 : a.eval (.tmp 29) = .bool true := hn.1
      have h35 : a.eval (.tmp 35) = .bool true := hn.2.1
      clear hn
      refine wants_plain rfl ?_
      exact grown_pick _ _ _ true rfl h29 h35
    refine steps_cons (fun a w hk hn => ?_) ?_
    · have h36 : a.eval (.tmp 36) = .bool true := hn.1
      clear hn
      refine wants_plain rfl ?_
      exact grown_move (.tmp 36) rfl h36
    refine steps_cons (fun a w hk hn => ?_) ?_
    · have h5 : a.eval (.tmp 5) = .bool false := hn.1
      have h37 : a.eval (.tmp 37) = .bool true := hn.2.1
      clear hn
      refine wants_guard (d := 37) rfl rfl h37 ?_
      exact grown_move (.tmp 5) rfl h5
    refine steps_cons (fun a w hk hn => ?_) ?_
    · have h38 : a.eval (.tmp 38) = .bool false := hn.1
      have h37 : a.eval (.tmp 37) = .bool true := hn.2.1
      clear hn
      refine wants_guard (d := 37) rfl rfl h37 ?_
      refine grown_run (v := .bool true) ?_ (Kp.refl _ _) rfl
      obtain ⟨ρ, hρ, hc, hf, hg⟩ := eval_is a
      rw [hρ] at h38 ⊢
      simp [go_sem, h38]
    refine steps_cons (fun a w hk hn => ?_) ?_
    · have h37 : a.eval (.tmp 37) = .bool true := hn.1
      have h39 : a.eval (.tmp 39) = .bool true := hn.2.1
      clear hn
      refine wants_plain rfl ?_
      exact grown_pick _ _ _ true rfl h37 h39
    refine steps_cons (fun a w hk hn => ?_) ?_
    · have h40 : a.eval (.tmp 40) = .bool true := hn.1
      clear hn
      refine wants_plain rfl ?_
      exact grown_assign (.tmp 40) rfl h40
    exact trivial
  intro W1 hkW1
  rintro _ rfl
  rintro _ rfl
  rintro _ rfl
  rintro _ rfl
  rintro _ rfl
  rintro _ rfl
  rintro _ rfl
  rintro _ rfl
  rintro _ rfl
  rintro _ rfl
  intro v33 h33
  rintro _ rfl
  rintro _ rfl
  rintro _ rfl
  rintro _ rfl
  rintro _ rfl
  rintro _ rfl
  rintro _ rfl
  rintro _ rfl
  refine fin_nil ?_
  simp only [Act.put, List.set_cons_zero, List.set_cons_succ, List.setIfInBounds_toArray]
  go_wp2_with fail
  go_ret
  exact ⟨rfl, (unhide HK5).trans ((kp_drew w5).trans hkW1)⟩
end Go.Proofs.YtacfciimialobaaDoor
