/-
  The contracts of package manifest's ID and of the law package's same and reads.
-/
import Derived.Test.YtioflclfgkcpfaaDoorKMRefDs
import Derived.Test.YtioflclfgkcpfaaDoorKMKeeps
import Derived.Test.YtioflclfgkcpfaaDoorKMCode
import Derived.Test.YtioflclfgkcpfaaDoorKMKnown
import Derived.Test.YtioflclfgkcpfaaDoorKMSame
import Derived.Test.YtioflclfgkcpfaaDoorKHBigs
import Derived.Test.YtioflclfgkcpfaaDoorKLSmalls
namespace Go.Proofs.YtioflclfgkcpfaaDoor
open Go.RowKit
open Go.Proofs

theorem mid_any (v : Value) (bs : List Int) (r : List Int) (hr : r = tleafP bs) (w : World) (hS : Sl w v bs) (hB : Bs bs) (hl : bs.length ≤ 140737488351232) (hG : Gl w) :
    Calls Tryd.prog 21 #[v] w fun e w' => ∃ ao m c, e = .returned (.slice ao m c) ∧ Row w' w.heap.size (.slice ao m c) r ∧ Kp [] w w' := by
  have HC := hide (tleaf_big v bs r hr w hS hB hl hG)
  obtain ⟨ab, cb, hvb, -⟩ := hS
  obtain ⟨nb, hnb⟩ : ∃ n, n = bs.length := ⟨_, rfl⟩
  rw [← hnb] at hvb
  subst hvb
  clear hr hB hl hG hnb
  go_enter Tryd.func21, Tryd.ntmps21
  go_wp2_with fail
  refine (unhide HC).mono ?_
  rintro ee w2 ⟨a2, m2, c2, rfl, R2, K2⟩
  have HR := hide R2
  have HK := hide K2
  clear R2 K2 HC
  go_wp2_with fail
  go_ret
  exact ⟨a2, m2, c2, rfl, unhide HR, unhide HK⟩

set_option maxRecDepth 100000 in
set_option maxHeartbeats 4000000 in
theorem lsame_any (v : Value) (m : Mf) (w : World) (hV : MV w v m) (hz : m.s.size ≤ 1000) :
    Calls Tryd.prog 5 #[v] w fun e w' => e = .returned (.bool true) ∧ Kp [] w w' := by
  have HV := hide hV
  obtain ⟨af, nf, cf, an, nn, cn, rfl, -⟩ := hV
  obtain ⟨s, hs⟩ : ∃ s, s = m.s := ⟨_, rfl⟩
  obtain ⟨x, hx⟩ : ∃ s, s = m.v := ⟨_, rfl⟩
  rw [← hs, ← hx] at HV ⊢
  have HSZ := hide hz
  obtain ⟨g1, hg1⟩ : ∃ g, g = w.heap.size := ⟨_, rfl⟩
  obtain ⟨w0, hw0⟩ : ∃ w0, w0 = w.alloc (.cells #[.string s, .int .u32 x, .slice af nf cf, .slice an nn cn] 25) := ⟨_, rfl⟩
  have K0 : Kp [] w w0 := by rw [hw0]; exact (Kp.refl [] w).alloc _
  have G0 : w0.heap[g1]? = some (.cells #[.string s, .int .u32 x, .slice af nf cf, .slice an nn cn] 25 (0, 0)) := by rw [hw0, hg1]; exact heap_alloc_new w _
  have V0 := (unhide HV).kept K0
  obtain ⟨r, hr⟩ : ∃ r, r = rgtM m := ⟨_, rfl⟩
  have HRR := hide (fun w' (k : Kp [] w0 w') => rright_any _ m r hr w' (V0.kept k) hz)
  have HV0 := hide V0
  have HG0 := hide G0
  have HK0 := hide K0
  have HW0 := hide hw0
  have HGW := hide hg1
  have HR0 := hide hr
  clear hs hx hz hg1 hw0 K0 G0 V0 hr
  cases r
  · have HE := hide (mencode_no _ m (unhide HR0).symm w0 (unhide HV0))
    go_enter Tryd.func5, Tryd.ntmps5
    go_wp2_with fail
    rw [← unhide HW0, ← unhide HGW]
    refine (unhide HE).mono ?_
    rintro ee w2 ⟨rfl, K2⟩
    have HK2 := hide K2
    obtain ⟨z0, z1, z2, z3⟩ := cell_man (K2.heap (unhide HG0) (by simp))
    have HC2 := hide (unhide HRR w2 K2)
    clear K2 HE
    go_wp2_with fail
    refine (unhide HC2).mono ?_
    rintro ee w3 ⟨rfl, K3⟩
    have HK3 := hide ((unhide HK2).trans K3)
    have HD : Hid (∀ w', Kp [] w3.drew w' → Kp [] w0 w') := fun w' k' => (unhide HK3).trans ((kp_drew w3).trans k')
    have HST : Hid (∀ w', Kp [] w3.drew w' → w'.heap[g1]? = some (.cells #[.string s, .int .u32 x, .slice af nf cf, .slice an nn cn] 25 (0, 0))) := fun w' k' => (unhide HD w' k').heap (unhide HG0) (by simp)
    have HVW : Hid (∀ w', Kp [] w3.drew w' → MV w' (.agg #[.string s, .int .u32 x, .slice af nf cf, .slice an nn cn]) m) := fun w' k' => (unhide HV0).kept (unhide HD w' k')
    clear K3 HC2 HK2 z0 z1 z2 z3 HRR
    go_wp2_with fail
    refine region_grow Tryd.mixed [Is (.agg #[.string s, .int .u32 x, .slice af nf cf, .slice an nn cn]), Is (.bool false), Is (.bool false), Is (.bool true), Is (.bool true), Is (.int .i64 12), Is (.bool false), Is (.bool false), Is (.bool true), Is (.bool true), Is (.bool true), Is (.bool false), Is (.bool false), Is (undef), Is (undef), Is (undef), Is (undef), Is (undef), Is (undef), Is (.bool false), Is (.bool false), Is (.bool false), Is (.bool true), Is (.bool true), Is (.int .i64 12), Is (.bool true), Is (.bool true), Is (.bool true), Is (.slice none 0 0), Is (.int .i64 0), Is (.bool true), Is (.bool true), Is (.bool true), Is (.bool true), Is (.bool true)] [[(1, none)], [(13, some 0)], [(5, none)], [(14, some 1), (15, some 2)], [(16, some 3)], [(4, none), (17, some 4)], [(18, some 5), (17, some 4)], [(5, none), (17, some 4)], [(19, some 6), (20, some 7), (17, some 4)], [(17, some 4), (21, some 8)], [(22, some 9)], [(5, none), (23, some 10)], [(24, some 11), (23, some 10)], [(3, none), (25, some 12)], [(26, some 13), (25, some 12)], [(1, none), (25, some 12)], [(28, some 15), (25, some 12)], [(29, some 16), (25, some 12)], [(27, some 14), (30, some 17), (25, some 12)], [(25, some 12), (31, some 18), (23, some 10)], [(32, some 19), (23, some 10)], [(5, none), (33, some 20)], [(34, some 21), (33, some 20)], [(35, some 22), (33, some 20)], [(4, none), (36, some 23)], [(37, some 24), (36, some 23)], [(36, some 23), (38, some 25), (33, some 20)], [(39, some 26), (33, some 20)], [(3, none), (40, some 27)], [(41, some 28), (40, some 27)], [(42, some 29), (40, some 27)], [(40, some 27), (43, some 30), (33, some 20)], [(33, some 20), (44, some 31), (23, some 10)], [(23, some 10), (45, some 32)], [(46, some 33)]] (by kernel_rfl) ?_ ?_ ?_
    · simp only [List.mem_cons, List.not_mem_nil, or_false]
      intro R hR
      rcases hR with rfl | rfl | rfl | rfl | rfl | rfl | rfl | rfl | rfl | rfl | rfl | rfl | rfl | rfl | rfl | rfl | rfl | rfl | rfl | rfl | rfl | rfl | rfl | rfl | rfl | rfl | rfl | rfl | rfl | rfl | rfl | rfl | rfl | rfl | rfl <;> first | exact stable_is _
    · refine steps_cons (fun a w hk hn => ?_) ?_
      · have h1 : a.eval (.tmp 1) = .pointer (some ⟨g1, 0, none⟩) := hn.1
        clear hn
        refine wants_plain rfl ?_
        exact grown_loadman (.tmp 1) rfl h1 (unhide HST w hk) rfl
      refine steps_cons (fun a w hk hn => ?_) ?_
      · have h13 : a.eval (.tmp 13) = .agg #[.string s, .int .u32 x, .slice af nf cf, .slice an nn cn] := hn.1
        clear hn
        refine wants_plain rfl ?_
        refine grown_call (f := 16) rfl Tryd.func16 (by kernel_rfl) (by kernel_rfl) ?_
        simp only [List.map_toArray, List.map_cons, List.map_nil, h13]
        refine (mright_any _ m false (unhide HR0) w (unhide HVW w hk)).mono ?_
        rintro e w' ⟨rfl, K⟩
        exact ⟨_, rfl, K, rfl⟩
      refine steps_cons (fun a w hk hn => ?_) ?_
      · have h5 : a.eval (.tmp 5) = .bool false := hn.1
        clear hn
        refine wants_plain rfl ?_
        exact grown_move (.tmp 5) rfl h5
      refine steps_cons (fun a w hk hn => ?_) ?_
      · have h14 : a.eval (.tmp 14) = .bool false := hn.1
        have h15 : a.eval (.tmp 15) = .bool false := hn.2.1
        clear hn
        refine wants_plain rfl ?_
        refine grown_run (v := .bool true) ?_ (Kp.refl _ _) rfl
        obtain ⟨ρ, hρ, hc, hf, hg⟩ := eval_is a
        rw [hρ] at h14 h15 ⊢
        simp [go_sem, h14, h15]
      refine steps_cons (fun a w hk hn => ?_) ?_
      · have h16 : a.eval (.tmp 16) = .bool true := hn.1
        clear hn
        refine wants_plain rfl ?_
        exact grown_move (.tmp 16) rfl h16
      refine steps_cons (fun a w hk hn => ?_) ?_
      · have h4 : a.eval (.tmp 4) = .int .i64 12 := hn.1
        have h17 : a.eval (.tmp 17) = .bool true := hn.2.1
        clear hn
        refine wants_guard (d := 17) rfl rfl h17 ?_
        exact grown_move (.tmp 4) rfl h4
      refine steps_cons (fun a w hk hn => ?_) ?_
      · have h18 : a.eval (.tmp 18) = .int .i64 12 := hn.1
        have h17 : a.eval (.tmp 17) = .bool true := hn.2.1
        clear hn
        refine wants_guard (d := 17) rfl rfl h17 ?_
        refine grown_run (v := .bool false) ?_ (Kp.refl _ _) rfl
        obtain ⟨ρ, hρ, hc, hf, hg⟩ := eval_is a
        rw [hρ] at h18 ⊢
        simp [go_sem, hc, h18]
      refine steps_cons (fun a w hk hn => ?_) ?_
      · have h5 : a.eval (.tmp 5) = .bool false := hn.1
        have h17 : a.eval (.tmp 17) = .bool true := hn.2.1
        clear hn
        refine wants_guard (d := 17) rfl rfl h17 ?_
        exact grown_move (.tmp 5) rfl h5
      refine steps_cons (fun a w hk hn => ?_) ?_
      · have h19 : a.eval (.tmp 19) = .bool false := hn.1
        have h20 : a.eval (.tmp 20) = .bool false := hn.2.1
        have h17 : a.eval (.tmp 17) = .bool true := hn.2.2.1
        clear hn
        refine wants_guard (d := 17) rfl rfl h17 ?_
        refine grown_run (v := .bool true) ?_ (Kp.refl _ _) rfl
        obtain ⟨ρ, hρ, hc, hf, hg⟩ := eval_is a
        rw [hρ] at h19 h20 ⊢
        simp [go_sem, h19, h20]
      refine steps_cons (fun a w hk hn => ?_) ?_
      · have h17 : a.eval (.tmp 17) = .bool true := hn.1
        have h21 : a.eval (.tmp 21) = .bool true := hn.2.1
        clear hn
        refine wants_plain rfl ?_
        exact grown_pick _ _ _ true rfl h17 h21
      refine steps_cons (fun a w hk hn => ?_) ?_
      · have h22 : a.eval (.tmp 22) = .bool true := hn.1
        clear hn
        refine wants_plain rfl ?_
        exact grown_move (.tmp 22) rfl h22
      refine steps_cons (fun a w hk hn => ?_) ?_
      · have h5 : a.eval (.tmp 5) = .bool false := hn.1
        have h23 : a.eval (.tmp 23) = .bool true := hn.2.1
        clear hn
        refine wants_guard (d := 23) rfl rfl h23 ?_
        exact grown_move (.tmp 5) rfl h5
      refine steps_cons (fun a w hk hn => ?_) ?_
      · have h24 : a.eval (.tmp 24) = .bool false := hn.1
        have h23 : a.eval (.tmp 23) = .bool true := hn.2.1
        clear hn
        refine wants_guard (d := 23) rfl rfl h23 ?_
        exact grown_move (.tmp 24) rfl h24
      refine steps_cons (fun a w hk hn => ?_) ?_
      · have h3 : a.eval (.tmp 3) = .slice none 0 0 := hn.1
        have h25 : a.eval (.tmp 25) = .bool false := hn.2.1
        clear hn
        exact wants_not (d := 25) rfl rfl h25 rfl
      refine steps_cons (fun a w hk hn => ?_) ?_
      · have h26 : a.eval (.tmp 26) = undef := hn.1
        have h25 : a.eval (.tmp 25) = .bool false := hn.2.1
        clear hn
        exact wants_not (d := 25) rfl rfl h25 rfl
      refine steps_cons (fun a w hk hn => ?_) ?_
      · have h1 : a.eval (.tmp 1) = .pointer (some ⟨g1, 0, none⟩) := hn.1
        have h25 : a.eval (.tmp 25) = .bool false := hn.2.1
        clear hn
        exact wants_not (d := 25) rfl rfl h25 rfl
      refine steps_cons (fun a w hk hn => ?_) ?_
      · have h28 : a.eval (.tmp 28) = undef := hn.1
        have h25 : a.eval (.tmp 25) = .bool false := hn.2.1
        clear hn
        exact wants_not (d := 25) rfl rfl h25 rfl
      refine steps_cons (fun a w hk hn => ?_) ?_
      · have h29 : a.eval (.tmp 29) = undef := hn.1
        have h25 : a.eval (.tmp 25) = .bool false := hn.2.1
        clear hn
        exact wants_not (d := 25) rfl rfl h25 rfl
      refine steps_cons (fun a w hk hn => ?_) ?_
      · have h27 : a.eval (.tmp 27) = undef := hn.1
        have h30 : a.eval (.tmp 30) = undef := hn.2.1
        have h25 : a.eval (.tmp 25) = .bool false := hn.2.2.1
        clear hn
        exact wants_not (d := 25) rfl rfl h25 rfl
      refine steps_cons (fun a w hk hn => ?_) ?_
      · have h25 : a.eval (.tmp 25) = .bool false := hn.1
        have h31 : a.eval (.tmp 31) = undef := hn.2.1
        have h23 : a.eval (.tmp 23) = .bool true := hn.2.2.1
        clear hn
        refine wants_guard (d := 23) rfl rfl h23 ?_
        exact grown_pick _ _ _ false rfl h25 rfl
      refine steps_cons (fun a w hk hn => ?_) ?_
      · have h32 : a.eval (.tmp 32) = .bool false := hn.1
        have h23 : a.eval (.tmp 23) = .bool true := hn.2.1
        clear hn
        refine wants_guard (d := 23) rfl rfl h23 ?_
        exact grown_move (.tmp 32) rfl h32
      refine steps_cons (fun a w hk hn => ?_) ?_
      · have h5 : a.eval (.tmp 5) = .bool false := hn.1
        have h33 : a.eval (.tmp 33) = .bool false := hn.2.1
        clear hn
        refine wants_guard (d := 33) rfl rfl h33 ?_
        exact grown_move (.tmp 5) rfl h5
      refine steps_cons (fun a w hk hn => ?_) ?_
      · have h34 : a.eval (.tmp 34) = .bool false := hn.1
        have h33 : a.eval (.tmp 33) = .bool false := hn.2.1
        clear hn
        refine wants_guard (d := 33) rfl rfl h33 ?_
        refine grown_run (v := .bool true) ?_ (Kp.refl _ _) rfl
        obtain ⟨ρ, hρ, hc, hf, hg⟩ := eval_is a
        rw [hρ] at h34 ⊢
        simp [go_sem, h34]
      refine steps_cons (fun a w hk hn => ?_) ?_
      · have h35 : a.eval (.tmp 35) = .bool true := hn.1
        have h33 : a.eval (.tmp 33) = .bool false := hn.2.1
        clear hn
        refine wants_guard (d := 33) rfl rfl h33 ?_
        exact grown_move (.tmp 35) rfl h35
      refine steps_cons (fun a w hk hn => ?_) ?_
      · have h4 : a.eval (.tmp 4) = .int .i64 12 := hn.1
        have h36 : a.eval (.tmp 36) = .bool true := hn.2.1
        clear hn
        refine wants_guard (d := 36) rfl rfl h36 ?_
        exact grown_move (.tmp 4) rfl h4
      refine steps_cons (fun a w hk hn => ?_) ?_
      · have h37 : a.eval (.tmp 37) = .int .i64 12 := hn.1
        have h36 : a.eval (.tmp 36) = .bool true := hn.2.1
        clear hn
        refine wants_guard (d := 36) rfl rfl h36 ?_
        refine grown_run (v := .bool true) ?_ (Kp.refl _ _) rfl
        obtain ⟨ρ, hρ, hc, hf, hg⟩ := eval_is a
        rw [hρ] at h37 ⊢
        simp [go_sem, hc, h37]
      refine steps_cons (fun a w hk hn => ?_) ?_
      · have h36 : a.eval (.tmp 36) = .bool true := hn.1
        have h38 : a.eval (.tmp 38) = .bool true := hn.2.1
        have h33 : a.eval (.tmp 33) = .bool false := hn.2.2.1
        clear hn
        refine wants_guard (d := 33) rfl rfl h33 ?_
        exact grown_pick _ _ _ true rfl h36 h38
      refine steps_cons (fun a w hk hn => ?_) ?_
      · have h39 : a.eval (.tmp 39) = .bool true := hn.1
        have h33 : a.eval (.tmp 33) = .bool false := hn.2.1
        clear hn
        refine wants_guard (d := 33) rfl rfl h33 ?_
        exact grown_move (.tmp 39) rfl h39
      refine steps_cons (fun a w hk hn => ?_) ?_
      · have h3 : a.eval (.tmp 3) = .slice none 0 0 := hn.1
        have h40 : a.eval (.tmp 40) = .bool true := hn.2.1
        clear hn
        refine wants_guard (d := 40) rfl rfl h40 ?_
        exact grown_move (.tmp 3) rfl h3
      refine steps_cons (fun a w hk hn => ?_) ?_
      · have h41 : a.eval (.tmp 41) = .slice none 0 0 := hn.1
        have h40 : a.eval (.tmp 40) = .bool true := hn.2.1
        clear hn
        refine wants_guard (d := 40) rfl rfl h40 ?_
        refine grown_run (v := .int .i64 0) ?_ (Kp.refl _ _) rfl
        obtain ⟨ρ, hρ, hc, hf, hg⟩ := eval_is a
        rw [hρ] at h41 ⊢
        simp [go_sem, h41]
      refine steps_cons (fun a w hk hn => ?_) ?_
      · have h42 : a.eval (.tmp 42) = .int .i64 0 := hn.1
        have h40 : a.eval (.tmp 40) = .bool true := hn.2.1
        clear hn
        refine wants_guard (d := 40) rfl rfl h40 ?_
        refine grown_run (v := .bool true) ?_ (Kp.refl _ _) rfl
        obtain ⟨ρ, hρ, hc, hf, hg⟩ := eval_is a
        rw [hρ] at h42 ⊢
        simp [go_sem, hc, h42]
      refine steps_cons (fun a w hk hn => ?_) ?_
      · have h40 : a.eval (.tmp 40) = .bool true := hn.1
        have h43 : a.eval (.tmp 43) = .bool true := hn.2.1
        have h33 : a.eval (.tmp 33) = .bool false := hn.2.2.1
        clear hn
        refine wants_guard (d := 33) rfl rfl h33 ?_
        exact grown_pick _ _ _ true rfl h40 h43
      refine steps_cons (fun a w hk hn => ?_) ?_
      · have h33 : a.eval (.tmp 33) = .bool false := hn.1
        have h44 : a.eval (.tmp 44) = .bool true := hn.2.1
        have h23 : a.eval (.tmp 23) = .bool true := hn.2.2.1
        clear hn
        refine wants_guard (d := 23) rfl rfl h23 ?_
        exact grown_pick _ _ _ false rfl h33 h44
      refine steps_cons (fun a w hk hn => ?_) ?_
      · have h23 : a.eval (.tmp 23) = .bool true := hn.1
        have h45 : a.eval (.tmp 45) = .bool true := hn.2.1
        clear hn
        refine wants_plain rfl ?_
        exact grown_pick _ _ _ true rfl h23 h45
      refine steps_cons (fun a w hk hn => ?_) ?_
      · have h46 : a.eval (.tmp 46) = .bool true := hn.1
        clear hn
        refine wants_plain rfl ?_
        exact grown_assign (.tmp 46) rfl h46
      exact trivial
    intro W1 hkW1
    rintro _ rfl
    rintro _ rfl
    rintro _ rfl
    rintro _ rfl
    rintro _ rfl
    rintro _ rfl
    rintro _ rfl
    rintro _ rfl
    rintro _ rfl
    rintro _ rfl
    rintro _ rfl
    rintro _ rfl
    rintro _ rfl
    rintro _ rfl
    rintro _ rfl
    rintro _ rfl
    rintro _ rfl
    rintro _ rfl
    rintro _ rfl
    rintro _ rfl
    rintro _ rfl
    rintro _ rfl
    rintro _ rfl
    rintro _ rfl
    rintro _ rfl
    rintro _ rfl
    rintro _ rfl
    rintro _ rfl
    rintro _ rfl
    rintro _ rfl
    rintro _ rfl
    rintro _ rfl
    rintro _ rfl
    rintro _ rfl
    rintro _ rfl
    refine fin_nil ?_
    simp only [Act.put, List.set_cons_zero, List.set_cons_succ, List.setIfInBounds_toArray]
    go_wp2_with fail
    go_ret
    exact ⟨rfl, (unhide HK0).trans (unhide HD W1 hkW1)⟩
  · have hrt : rgtM m = true := (unhide HR0).symm
    have hq := (rgtM_iff m).1 hrt
    have HZ : Hid (m.s.size ≤ 1000 ∧ m.f.length ≤ 1000 ∧ m.n.length ≤ 1000) := hide ⟨unhide HSZ, by have := hq.2.2.1; omega, by have := hq.2.2.2; omega⟩
    have HE := hide (mencode_ok _ m hrt w0 (unhide HV0))
    clear hrt hq
    go_enter Tryd.func5, Tryd.ntmps5
    go_wp2_with fail
    rw [← unhide HW0, ← unhide HGW]
    refine (unhide HE).mono ?_
    rintro ee w2 ⟨ae, me, ce, rfl, R2, K2⟩
    obtain ⟨en, hen⟩ : ∃ e, e = encM m := ⟨_, rfl⟩
    rw [← hen] at R2
    have HS2 := hide R2.sl
    have HEN := hide hen
    have HK2 := hide K2
    obtain ⟨z0, z1, z2, z3⟩ := cell_man (K2.heap (unhide HG0) (by simp))
    have HC2 := hide (unhide HRR w2 K2)
    clear K2 HE R2 hen
    go_wp2_with fail
    refine (unhide HC2).mono ?_
    rintro ee w3 ⟨rfl, K3⟩
    have HK3 := hide ((unhide HK2).trans K3)
    have HD : Hid (∀ w', Kp [] w3.drew w' → Kp [] w0 w') := fun w' k' => (unhide HK3).trans ((kp_drew w3).trans k')
    have HST : Hid (∀ w', Kp [] w3.drew w' → w'.heap[g1]? = some (.cells #[.string s, .int .u32 x, .slice af nf cf, .slice an nn cn] 25 (0, 0))) := fun w' k' => (unhide HD w' k').heap (unhide HG0) (by simp)
    have HVW : Hid (∀ w', Kp [] w3.drew w' → MV w' (.agg #[.string s, .int .u32 x, .slice af nf cf, .slice an nn cn]) m) := fun w' k' => (unhide HV0).kept (unhide HD w' k')
    have HSE : Hid (∀ w', Kp [] w3.drew w' → Sl w' (.slice ae me ce) en) := fun w' k' => (unhide HS2).kept (K3.trans ((kp_drew w3).trans k')) (by simp)
    obtain ⟨SE, hSE⟩ : ∃ S, S = strOfNums en := ⟨_, rfl⟩
    have HSS := hide hSE
    clear K3 HC2 HK2 z0 z1 z2 z3 HRR HS2 hSE
    go_wp2_with fail
    refine region_grow Tryd.mixed [Is (.agg #[.string s, .int .u32 x, .slice af nf cf, .slice an nn cn]), Is (.bool true), Is (.bool true), Is (.bool true), Is (.bool true), Is (.int .i64 0), Is (.bool true), Is (.bool true), Is (.bool true), Is (.bool true), Is (.bool true), Is (.bool true), Is (.bool true), Is (.slice ae me ce), Is (.string SE), Is (.agg #[.string s, .int .u32 x, .slice af nf cf, .slice an nn cn]), SlT (en), Is (.string SE), Is (.bool true), Is (.bool true), Is (.bool true), Is (undef), Is (undef), Is (undef), Is (undef), Is (undef), Is (undef), Is (undef), Is (undef), Is (undef), Is (undef), Is (undef), Is (.bool true), Is (.bool true), Is (.bool true)] [[(1, none)], [(13, some 0)], [(5, none)], [(14, some 1), (15, some 2)], [(16, some 3)], [(4, none), (17, some 4)], [(18, some 5), (17, some 4)], [(5, none), (17, some 4)], [(19, some 6), (20, some 7), (17, some 4)], [(17, some 4), (21, some 8)], [(22, some 9)], [(5, none), (23, some 10)], [(24, some 11), (23, some 10)], [(3, none), (25, some 12)], [(26, some 13), (25, some 12)], [(1, none), (25, some 12)], [(28, some 15), (25, some 12)], [(29, some 16), (25, some 12)], [(27, some 14), (30, some 17), (25, some 12)], [(25, some 12), (31, some 18), (23, some 10)], [(32, some 19), (23, some 10)], [(5, none), (33, some 20)], [(34, some 21), (33, some 20)], [(35, some 22), (33, some 20)], [(4, none), (36, some 23)], [(37, some 24), (36, some 23)], [(36, some 23), (38, some 25), (33, some 20)], [(39, some 26), (33, some 20)], [(3, none), (40, some 27)], [(41, some 28), (40, some 27)], [(42, some 29), (40, some 27)], [(40, some 27), (43, some 30), (33, some 20)], [(33, some 20), (44, some 31), (23, some 10)], [(23, some 10), (45, some 32)], [(46, some 33)]] (by kernel_rfl) ?_ ?_ ?_
    · simp only [List.mem_cons, List.not_mem_nil, or_false]
      intro R hR
      rcases hR with rfl | rfl | rfl | rfl | rfl | rfl | rfl | rfl | rfl | rfl | rfl | rfl | rfl | rfl | rfl | rfl | rfl | rfl | rfl | rfl | rfl | rfl | rfl | rfl | rfl | rfl | rfl | rfl | rfl | rfl | rfl | rfl | rfl | rfl | rfl <;> first | exact stable_is _ | exact stable_sl _
    · refine steps_cons (fun a w hk hn => ?_) ?_
      · have h1 : a.eval (.tmp 1) = .pointer (some ⟨g1, 0, none⟩) := hn.1
        clear hn
        refine wants_plain rfl ?_
        exact grown_loadman (.tmp 1) rfl h1 (unhide HST w hk) rfl
      refine steps_cons (fun a w hk hn => ?_) ?_
      · have h13 : a.eval (.tmp 13) = .agg #[.string s, .int .u32 x, .slice af nf cf, .slice an nn cn] := hn.1
        clear hn
        refine wants_plain rfl ?_
        refine grown_call (f := 16) rfl Tryd.func16 (by kernel_rfl) (by kernel_rfl) ?_
        simp only [List.map_toArray, List.map_cons, List.map_nil, h13]
        refine (mright_any _ m true (unhide HR0) w (unhide HVW w hk)).mono ?_
        rintro e w' ⟨rfl, K⟩
        exact ⟨_, rfl, K, rfl⟩
      refine steps_cons (fun a w hk hn => ?_) ?_
      · have h5 : a.eval (.tmp 5) = .bool true := hn.1
        clear hn
        refine wants_plain rfl ?_
        exact grown_move (.tmp 5) rfl h5
      refine steps_cons (fun a w hk hn => ?_) ?_
      · have h14 : a.eval (.tmp 14) = .bool true := hn.1
        have h15 : a.eval (.tmp 15) = .bool true := hn.2.1
        clear hn
        refine wants_plain rfl ?_
        refine grown_run (v := .bool true) ?_ (Kp.refl _ _) rfl
        obtain ⟨ρ, hρ, hc, hf, hg⟩ := eval_is a
        rw [hρ] at h14 h15 ⊢
        simp [go_sem, h14, h15]
      refine steps_cons (fun a w hk hn => ?_) ?_
      · have h16 : a.eval (.tmp 16) = .bool true := hn.1
        clear hn
        refine wants_plain rfl ?_
        exact grown_move (.tmp 16) rfl h16
      refine steps_cons (fun a w hk hn => ?_) ?_
      · have h4 : a.eval (.tmp 4) = .int .i64 0 := hn.1
        have h17 : a.eval (.tmp 17) = .bool true := hn.2.1
        clear hn
        refine wants_guard (d := 17) rfl rfl h17 ?_
        exact grown_move (.tmp 4) rfl h4
      refine steps_cons (fun a w hk hn => ?_) ?_
      · have h18 : a.eval (.tmp 18) = .int .i64 0 := hn.1
        have h17 : a.eval (.tmp 17) = .bool true := hn.2.1
        clear hn
        refine wants_guard (d := 17) rfl rfl h17 ?_
        refine grown_run (v := .bool true) ?_ (Kp.refl _ _) rfl
        obtain ⟨ρ, hρ, hc, hf, hg⟩ := eval_is a
        rw [hρ] at h18 ⊢
        simp [go_sem, hc, h18]
      refine steps_cons (fun a w hk hn => ?_) ?_
      · have h5 : a.eval (.tmp 5) = .bool true := hn.1
        have h17 : a.eval (.tmp 17) = .bool true := hn.2.1
        clear hn
        refine wants_guard (d := 17) rfl rfl h17 ?_
        exact grown_move (.tmp 5) rfl h5
      refine steps_cons (fun a w hk hn => ?_) ?_
      · have h19 : a.eval (.tmp 19) = .bool true := hn.1
        have h20 : a.eval (.tmp 20) = .bool true := hn.2.1
        have h17 : a.eval (.tmp 17) = .bool true := hn.2.2.1
        clear hn
        refine wants_guard (d := 17) rfl rfl h17 ?_
        refine grown_run (v := .bool true) ?_ (Kp.refl _ _) rfl
        obtain ⟨ρ, hρ, hc, hf, hg⟩ := eval_is a
        rw [hρ] at h19 h20 ⊢
        simp [go_sem, h19, h20]
      refine steps_cons (fun a w hk hn => ?_) ?_
      · have h17 : a.eval (.tmp 17) = .bool true := hn.1
        have h21 : a.eval (.tmp 21) = .bool true := hn.2.1
        clear hn
        refine wants_plain rfl ?_
        exact grown_pick _ _ _ true rfl h17 h21
      refine steps_cons (fun a w hk hn => ?_) ?_
      · have h22 : a.eval (.tmp 22) = .bool true := hn.1
        clear hn
        refine wants_plain rfl ?_
        exact grown_move (.tmp 22) rfl h22
      refine steps_cons (fun a w hk hn => ?_) ?_
      · have h5 : a.eval (.tmp 5) = .bool true := hn.1
        have h23 : a.eval (.tmp 23) = .bool true := hn.2.1
        clear hn
        refine wants_guard (d := 23) rfl rfl h23 ?_
        exact grown_move (.tmp 5) rfl h5
      refine steps_cons (fun a w hk hn => ?_) ?_
      · have h24 : a.eval (.tmp 24) = .bool true := hn.1
        have h23 : a.eval (.tmp 23) = .bool true := hn.2.1
        clear hn
        refine wants_guard (d := 23) rfl rfl h23 ?_
        exact grown_move (.tmp 24) rfl h24
      refine steps_cons (fun a w hk hn => ?_) ?_
      · have h3 : a.eval (.tmp 3) = .slice ae me ce := hn.1
        have h25 : a.eval (.tmp 25) = .bool true := hn.2.1
        clear hn
        refine wants_guard (d := 25) rfl rfl h25 ?_
        exact grown_move (.tmp 3) rfl h3
      refine steps_cons (fun a w hk hn => ?_) ?_
      · have h26 : a.eval (.tmp 26) = .slice ae me ce := hn.1
        have h25 : a.eval (.tmp 25) = .bool true := hn.2.1
        clear hn
        refine wants_guard (d := 25) rfl rfl h25 ?_
        exact grown_conv (.tmp 26) _ _ 5 (en) rfl (by rw [h26]; exact unhide HSE w hk) Tryd.underlying23 Tryd.underlying5 Tryd.underlying9 (congrArg Value.string (unhide HSS).symm)
      refine steps_cons (fun a w hk hn => ?_) ?_
      · have h1 : a.eval (.tmp 1) = .pointer (some ⟨g1, 0, none⟩) := hn.1
        have h25 : a.eval (.tmp 25) = .bool true := hn.2.1
        clear hn
        refine wants_guard (d := 25) rfl rfl h25 ?_
        exact grown_loadman (.tmp 1) rfl h1 (unhide HST w hk) rfl
      refine steps_cons (fun a w hk hn => ?_) ?_
      · have h28 : a.eval (.tmp 28) = .agg #[.string s, .int .u32 x, .slice af nf cf, .slice an nn cn] := hn.1
        have h25 : a.eval (.tmp 25) = .bool true := hn.2.1
        clear hn
        refine wants_guard (d := 25) rfl rfl h25 ?_
        refine grown_call (f := 17) rfl Tryd.func17 (by kernel_rfl) (by kernel_rfl) ?_
        simp only [List.map_toArray, List.map_cons, List.map_nil, h28]
        refine (rencode_any _ m w (unhide HVW w hk) (unhide HZ).1 (unhide HZ).2.1 (unhide HZ).2.2).mono ?_
        rintro e w' ⟨ao, k, c, rfl, R, K⟩
        rw [← unhide HEN] at R
        exact ⟨_, rfl, K, R.sl⟩
      refine steps_cons (fun a w hk hn => ?_) ?_
      · have h29 : Sl w (a.eval (.tmp 29)) (en) := hn.1
        have h25 : a.eval (.tmp 25) = .bool true := hn.2.1
        clear hn
        refine wants_guard (d := 25) rfl rfl h25 ?_
        exact grown_conv (.tmp 29) _ _ 5 _ rfl h29 Tryd.underlying23 Tryd.underlying5 Tryd.underlying9 (congrArg Value.string (unhide HSS).symm)
      refine steps_cons (fun a w hk hn => ?_) ?_
      · have h27 : a.eval (.tmp 27) = .string SE := hn.1
        have h30 : a.eval (.tmp 30) = .string SE := hn.2.1
        have h25 : a.eval (.tmp 25) = .bool true := hn.2.2.1
        clear hn
        refine wants_guard (d := 25) rfl rfl h25 ?_
        refine grown_run (v := .bool true) ?_ (Kp.refl _ _) rfl
        obtain ⟨ρ, hρ, hc, hf, hg⟩ := eval_is a
        rw [hρ] at h27 h30 ⊢
        simp [go_sem, h27, h30]
      refine steps_cons (fun a w hk hn => ?_) ?_
      · have h25 : a.eval (.tmp 25) = .bool true := hn.1
        have h31 : a.eval (.tmp 31) = .bool true := hn.2.1
        have h23 : a.eval (.tmp 23) = .bool true := hn.2.2.1
        clear hn
        refine wants_guard (d := 23) rfl rfl h23 ?_
        exact grown_pick _ _ _ true rfl h25 h31
      refine steps_cons (fun a w hk hn => ?_) ?_
      · have h32 : a.eval (.tmp 32) = .bool true := hn.1
        have h23 : a.eval (.tmp 23) = .bool true := hn.2.1
        clear hn
        refine wants_guard (d := 23) rfl rfl h23 ?_
        exact grown_move (.tmp 32) rfl h32
      refine steps_cons (fun a w hk hn => ?_) ?_
      · have h5 : a.eval (.tmp 5) = .bool true := hn.1
        have h33 : a.eval (.tmp 33) = .bool true := hn.2.1
        clear hn
        exact wants_not (d := 33) rfl rfl h33 rfl
      refine steps_cons (fun a w hk hn => ?_) ?_
      · have h34 : a.eval (.tmp 34) = undef := hn.1
        have h33 : a.eval (.tmp 33) = .bool true := hn.2.1
        clear hn
        exact wants_not (d := 33) rfl rfl h33 rfl
      refine steps_cons (fun a w hk hn => ?_) ?_
      · have h35 : a.eval (.tmp 35) = undef := hn.1
        have h33 : a.eval (.tmp 33) = .bool true := hn.2.1
        clear hn
        exact wants_not (d := 33) rfl rfl h33 rfl
      refine steps_cons (fun a w hk hn => ?_) ?_
      · have h4 : a.eval (.tmp 4) = .int .i64 0 := hn.1
        have h36 : a.eval (.tmp 36) = undef := hn.2.1
        clear hn
        exact wants_none (d := 36) rfl rfl h36 rfl
      refine steps_cons (fun a w hk hn => ?_) ?_
      · have h37 : a.eval (.tmp 37) = undef := hn.1
        have h36 : a.eval (.tmp 36) = undef := hn.2.1
        clear hn
        exact wants_none (d := 36) rfl rfl h36 rfl
      refine steps_cons (fun a w hk hn => ?_) ?_
      · have h36 : a.eval (.tmp 36) = undef := hn.1
        have h38 : a.eval (.tmp 38) = undef := hn.2.1
        have h33 : a.eval (.tmp 33) = .bool true := hn.2.2.1
        clear hn
        exact wants_not (d := 33) rfl rfl h33 rfl
      refine steps_cons (fun a w hk hn => ?_) ?_
      · have h39 : a.eval (.tmp 39) = undef := hn.1
        have h33 : a.eval (.tmp 33) = .bool true := hn.2.1
        clear hn
        exact wants_not (d := 33) rfl rfl h33 rfl
      refine steps_cons (fun a w hk hn => ?_) ?_
      · have h3 : a.eval (.tmp 3) = .slice ae me ce := hn.1
        have h40 : a.eval (.tmp 40) = undef := hn.2.1
        clear hn
        exact wants_none (d := 40) rfl rfl h40 rfl
      refine steps_cons (fun a w hk hn => ?_) ?_
      · have h41 : a.eval (.tmp 41) = undef := hn.1
        have h40 : a.eval (.tmp 40) = undef := hn.2.1
        clear hn
        exact wants_none (d := 40) rfl rfl h40 rfl
      refine steps_cons (fun a w hk hn => ?_) ?_
      · have h42 : a.eval (.tmp 42) = undef := hn.1
        have h40 : a.eval (.tmp 40) = undef := hn.2.1
        clear hn
        exact wants_none (d := 40) rfl rfl h40 rfl
      refine steps_cons (fun a w hk hn => ?_) ?_
      · have h40 : a.eval (.tmp 40) = undef := hn.1
        have h43 : a.eval (.tmp 43) = undef := hn.2.1
        have h33 : a.eval (.tmp 33) = .bool true := hn.2.2.1
        clear hn
        exact wants_not (d := 33) rfl rfl h33 rfl
      refine steps_cons (fun a w hk hn => ?_) ?_
      · have h33 : a.eval (.tmp 33) = .bool true := hn.1
        have h44 : a.eval (.tmp 44) = undef := hn.2.1
        have h23 : a.eval (.tmp 23) = .bool true := hn.2.2.1
        clear hn
        refine wants_guard (d := 23) rfl rfl h23 ?_
        exact grown_pick _ _ _ true rfl h33 rfl
      refine steps_cons (fun a w hk hn => ?_) ?_
      · have h23 : a.eval (.tmp 23) = .bool true := hn.1
        have h45 : a.eval (.tmp 45) = .bool true := hn.2.1
        clear hn
        refine wants_plain rfl ?_
        exact grown_pick _ _ _ true rfl h23 h45
      refine steps_cons (fun a w hk hn => ?_) ?_
      · have h46 : a.eval (.tmp 46) = .bool true := hn.1
        clear hn
        refine wants_plain rfl ?_
        exact grown_assign (.tmp 46) rfl h46
      exact trivial
    intro W1 hkW1
    rintro _ rfl
    rintro _ rfl
    rintro _ rfl
    rintro _ rfl
    rintro _ rfl
    rintro _ rfl
    rintro _ rfl
    rintro _ rfl
    rintro _ rfl
    rintro _ rfl
    rintro _ rfl
    rintro _ rfl
    rintro _ rfl
    rintro _ rfl
    rintro _ rfl
    rintro _ rfl
    intro v29 h29
    rintro _ rfl
    rintro _ rfl
    rintro _ rfl
    rintro _ rfl
    rintro _ rfl
    rintro _ rfl
    rintro _ rfl
    rintro _ rfl
    rintro _ rfl
    rintro _ rfl
    rintro _ rfl
    rintro _ rfl
    rintro _ rfl
    rintro _ rfl
    rintro _ rfl
    rintro _ rfl
    rintro _ rfl
    rintro _ rfl
    refine fin_nil ?_
    simp only [Act.put, List.set_cons_zero, List.set_cons_succ, List.setIfInBounds_toArray]
    go_wp2_with fail
    go_ret
    exact ⟨rfl, (unhide HK0).trans (unhide HD W1 hkW1)⟩

set_option maxRecDepth 100000 in
set_option maxHeartbeats 4000000 in
theorem lreads_any (vb : Value) (B : List Int) (w : World) (hS : Sl w vb B) (hB : Bs B) (hl : B.length ≤ 140737488351232) (hv : ∀ k, vb.ownBlock = some k → k < w.heap.size) (hG : Gl w) :
    Calls Tryd.prog 7 #[vb] w fun e w' => e = .returned (.bool true) ∧ Kp [] w w' := by
  have HC := hide (mdecode_any vb B w hS hB (by omega))
  have HSB0 := hide hS
  have HB := hide hB
  have HLN := hide hl
  have HG := hide hG
  have HV0 := hide hv
  obtain ⟨ab, cb, hvb, -⟩ := hS
  obtain ⟨nb, hnb⟩ : ∃ n, n = B.length := ⟨_, rfl⟩
  rw [← hnb] at hvb
  subst hvb
  obtain ⟨oq, hoq⟩ : ∃ o, o = okM B := ⟨_, rfl⟩
  obtain ⟨m, hm⟩ : ∃ m, m = ansM B := ⟨_, rfl⟩
  obtain ⟨s, hs⟩ : ∃ s, s = m.s := ⟨_, rfl⟩
  obtain ⟨x, hx⟩ : ∃ s, s = m.v := ⟨_, rfl⟩
  obtain ⟨lf, hlf⟩ : ∃ r, r = tleafP B := ⟨_, rfl⟩
  obtain ⟨SL, hSL⟩ : ∃ S, S = strOfNums lf := ⟨_, rfl⟩
  rw [← hoq, ← hm] at HC
  have HOQ := hide hoq
  have HM := hide hm
  have HMS := hide hs
  have HMX := hide hx
  have HLF := hide hlf
  have HSL := hide hSL
  clear hB hl hv hG hnb hoq hm hs hx hlf hSL
  go_enter Tryd.func7, Tryd.ntmps7
  go_wp2_with fail
  refine (unhide HC).mono ?_
  rintro ee w1 ⟨v1, rfl, V1, K1⟩
  have HV1 := hide V1
  obtain ⟨af, nf, cf, an, nn, cn, rfl, -⟩ := V1
  rw [← unhide HMS, ← unhide HMX] at HV1 ⊢
  have Gz := heap_alloc_new w1 (.cells #[.string ⟨#[]⟩, .int .u32 0, .slice none 0 0, .slice none 0 0] 25)
  have HK1 := hide K1
  clear K1 HC
  cases oq
  · simp only [errOf_f]
    go_wp2_with (refine wpList_store_man rfl (.tmp 3) (.tmp 10) rfl w1.heap.size rfl _ _ _ _ _ _ _ _ Gz rfl ⟨rfl, rfl, rfl, rfl⟩ ?_; intro w2 G2 K2; refine Hid.out ?_)
    obtain ⟨g1, hg1⟩ : ∃ g, g = w1.heap.size := ⟨_, rfl⟩
    rw [← hg1] at G2 K2 ⊢
    have k2 := kp_at hg1 K2
    have HV2 := hide ((unhide HV1).kept k2)
    have HK2 := hide ((unhide HK1).trans k2)
    have HG2 := hide G2
    have hC := rdecode_any (.slice ab nb cb) B w2 ((unhide HSB0).kept (unhide HK2) (by simp)) (unhide HB) (by have := unhide HLN; omega) (fun k hk => Nat.lt_of_lt_of_le (unhide HV0 k hk) (unhide HK2).size)
    rw [← unhide HOQ, ← unhide HM] at hC
    have HC2 := hide hC
    clear Gz G2 K2 k2 hg1 HV1 HK1 hC
    refine hide ?_
    go_wp2_with fail
    refine (unhide HC2).mono ?_
    rintro ee w3 ⟨v3, rfl, V3, K3⟩
    have HV3 := hide V3
    obtain ⟨bf, mf, ef, bn, mn, en, rfl, -⟩ := V3
    rw [← unhide HMS, ← unhide HMX] at HV3 ⊢
    have Gz := heap_alloc_new w3 (.cells #[.string ⟨#[]⟩, .int .u32 0, .slice none 0 0, .slice none 0 0] 25)
    have HK3 := hide ((unhide HK2).trans K3)
    have HV23 := hide ((unhide HV2).kept K3)
    have HG23 := hide (K3.heap (unhide HG2) (by simp))
    clear HC2 K3 HK2 HV2 HG2
    go_wp2_with (refine wpList_store_man rfl (.tmp 5) (.tmp 15) rfl w3.heap.size rfl _ _ _ _ _ _ _ _ Gz rfl ⟨rfl, rfl, rfl, rfl⟩ ?_; intro w4 G4 K4; refine Hid.out ?_)
    obtain ⟨g2, hg2⟩ : ∃ g, g = w3.heap.size := ⟨_, rfl⟩
    rw [← hg2] at G4 K4 ⊢
    have k4 := kp_at hg2 K4
    have HK4 := hide ((unhide HK3).trans k4)
    have HD : Hid (∀ w', Kp [] w4.drew w' → Kp [] w4 w') := fun w' k' => (kp_drew w4).trans k'
    have hG1 := k4.heap (unhide HG23) (by simp)
    have HS1 : Hid (∀ w', Kp [] w4.drew w' → w'.heap[g1]? = some (.cells #[.string s, .int .u32 x, .slice af nf cf, .slice an nn cn] 25 (0, 0))) := fun w' k' => (unhide HD w' k').heap hG1 (by simp)
    have HS2 : Hid (∀ w', Kp [] w4.drew w' → w'.heap[g2]? = some (.cells #[.string s, .int .u32 x, .slice bf mf ef, .slice bn mn en] 25 (0, 0))) := fun w' k' => (unhide HD w' k').heap G4 (by simp)
    have HV1 : Hid (∀ w', Kp [] w4.drew w' → MV w' (.agg #[.string s, .int .u32 x, .slice af nf cf, .slice an nn cn]) m) := fun w' k' => (unhide HV23).kept (k4.trans (unhide HD w' k'))
    have HV2 : Hid (∀ w', Kp [] w4.drew w' → MV w' (.agg #[.string s, .int .u32 x, .slice bf mf ef, .slice bn mn en]) m) := fun w' k' => (unhide HV3).kept (k4.trans (unhide HD w' k'))
    have HSB : Hid (∀ w', Kp [] w4.drew w' → Sl w' (.slice ab nb cb) B) := fun w' k' => (unhide HSB0).kept ((unhide HK4).trans (unhide HD w' k')) (by simp)
    have HGL : Hid (∀ w', Kp [] w4.drew w' → Gl w') := fun w' k' => (unhide HG).kept ((unhide HK4).trans (unhide HD w' k')) (by simp)
    clear Gz G4 K4 k4 hg2 hG1 HV23 HG23 HV3 HK3
    refine hide ?_
    go_wp2_with fail
    refine region_grow Tryd.mixed [Is (.int .i64 12), Is (.bool false), Is (.bool false), Is (.bool true), Is (.bool true), Is (.agg #[.string s, .int .u32 x, .slice af nf cf, .slice an nn cn]), Is (.agg #[.string s, .int .u32 x, .slice bf mf ef, .slice bn mn en]), Is (.bool true), Is (.bool true), Is (.bool true), Is (.bool false), Is (.bool false), Is (.int .i64 12), Is (.bool true), Is (.bool true), Is (.bool true), Is (.bool true), Is (.slice ab nb cb), SlT (lf), Is (.string SL), Is (.slice ab nb cb), SlT (lf), Is (.string SL), Is (.bool true), Is (.bool true), Is (.bool true)] [[(4, none)], [(17, some 0)], [(6, none)], [(18, some 1), (19, some 2)], [(20, some 3)], [(3, none), (21, some 4)], [(5, none), (21, some 4)], [(22, some 5), (23, some 6), (21, some 4)], [(21, some 4), (24, some 7)], [(25, some 8)], [(6, none), (26, some 9)], [(27, some 10), (26, some 9)], [(4, none), (28, some 11)], [(29, some 12), (28, some 11)], [(28, some 11), (30, some 13), (26, some 9)], [(26, some 9), (31, some 14)], [(32, some 15)], [(0, none), (33, some 16)], [(34, some 17), (33, some 16)], [(35, some 18), (33, some 16)], [(0, none), (33, some 16)], [(37, some 20), (33, some 16)], [(38, some 21), (33, some 16)], [(36, some 19), (39, some 22), (33, some 16)], [(33, some 16), (40, some 23)], [(41, some 24)]] (by kernel_rfl) ?_ ?_ ?_
    · simp only [List.mem_cons, List.not_mem_nil, or_false]
      intro R hR
      rcases hR with rfl | rfl | rfl | rfl | rfl | rfl | rfl | rfl | rfl | rfl | rfl | rfl | rfl | rfl | rfl | rfl | rfl | rfl | rfl | rfl | rfl | rfl | rfl | rfl | rfl | rfl <;> first | exact stable_is _ | exact stable_sl _
    · refine steps_cons (fun a w hk hn => ?_) ?_
      · have h4 : a.eval (.tmp 4) = .int .i64 12 := hn.1
        clear hn
        refine wants_plain rfl ?_
        exact grown_move (.tmp 4) rfl h4
      refine steps_cons (fun a w hk hn => ?_) ?_
      · have h17 : a.eval (.tmp 17) = .int .i64 12 := hn.1
        clear hn
        refine wants_plain rfl ?_
        refine grown_run (v := .bool false) ?_ (Kp.refl _ _) rfl
        obtain ⟨ρ, hρ, hc, hf, hg⟩ := eval_is a
        rw [hρ] at h17 ⊢
        simp [go_sem, hc, h17]
      refine steps_cons (fun a w hk hn => ?_) ?_
      · have h6 : a.eval (.tmp 6) = .bool false := hn.1
        clear hn
        refine wants_plain rfl ?_
        exact grown_move (.tmp 6) rfl h6
      refine steps_cons (fun a w hk hn => ?_) ?_
      · have h18 : a.eval (.tmp 18) = .bool false := hn.1
        have h19 : a.eval (.tmp 19) = .bool false := hn.2.1
        clear hn
        refine wants_plain rfl ?_
        refine grown_run (v := .bool true) ?_ (Kp.refl _ _) rfl
        obtain ⟨ρ, hρ, hc, hf, hg⟩ := eval_is a
        rw [hρ] at h18 h19 ⊢
        simp [go_sem, h18, h19]
      refine steps_cons (fun a w hk hn => ?_) ?_
      · have h20 : a.eval (.tmp 20) = .bool true := hn.1
        clear hn
        refine wants_plain rfl ?_
        exact grown_move (.tmp 20) rfl h20
      refine steps_cons (fun a w hk hn => ?_) ?_
      · have h3 : a.eval (.tmp 3) = .pointer (some ⟨g1, 0, none⟩) := hn.1
        have h21 : a.eval (.tmp 21) = .bool true := hn.2.1
        clear hn
        refine wants_guard (d := 21) rfl rfl h21 ?_
        exact grown_loadman (.tmp 3) rfl h3 (unhide HS1 w hk) rfl
      refine steps_cons (fun a w hk hn => ?_) ?_
      · have h5 : a.eval (.tmp 5) = .pointer (some ⟨g2, 0, none⟩) := hn.1
        have h21 : a.eval (.tmp 21) = .bool true := hn.2.1
        clear hn
        refine wants_guard (d := 21) rfl rfl h21 ?_
        exact grown_loadman (.tmp 5) rfl h5 (unhide HS2 w hk) rfl
      refine steps_cons (fun a w hk hn => ?_) ?_
      · have h22 : a.eval (.tmp 22) = .agg #[.string s, .int .u32 x, .slice af nf cf, .slice an nn cn] := hn.1
        have h23 : a.eval (.tmp 23) = .agg #[.string s, .int .u32 x, .slice bf mf ef, .slice bn mn en] := hn.2.1
        have h21 : a.eval (.tmp 21) = .bool true := hn.2.2.1
        clear hn
        refine wants_guard (d := 21) rfl rfl h21 ?_
        refine grown_call (f := 20) rfl Tryd.func20 (by kernel_rfl) (by kernel_rfl) ?_
        simp only [List.map_toArray, List.map_cons, List.map_nil, h22, h23]
        refine (rsame_any _ _ m m true (sameM_refl m).symm w (unhide HV1 w hk) (unhide HV2 w hk)).mono ?_
        rintro e w' ⟨rfl, K⟩
        exact ⟨_, rfl, K, rfl⟩
      refine steps_cons (fun a w hk hn => ?_) ?_
      · have h21 : a.eval (.tmp 21) = .bool true := hn.1
        have h24 : a.eval (.tmp 24) = .bool true := hn.2.1
        clear hn
        refine wants_plain rfl ?_
        exact grown_pick _ _ _ true rfl h21 h24
      refine steps_cons (fun a w hk hn => ?_) ?_
      · have h25 : a.eval (.tmp 25) = .bool true := hn.1
        clear hn
        refine wants_plain rfl ?_
        exact grown_move (.tmp 25) rfl h25
      refine steps_cons (fun a w hk hn => ?_) ?_
      · have h6 : a.eval (.tmp 6) = .bool false := hn.1
        have h26 : a.eval (.tmp 26) = .bool true := hn.2.1
        clear hn
        refine wants_guard (d := 26) rfl rfl h26 ?_
        exact grown_move (.tmp 6) rfl h6
      refine steps_cons (fun a w hk hn => ?_) ?_
      · have h27 : a.eval (.tmp 27) = .bool false := hn.1
        have h26 : a.eval (.tmp 26) = .bool true := hn.2.1
        clear hn
        refine wants_guard (d := 26) rfl rfl h26 ?_
        exact grown_move (.tmp 27) rfl h27
      refine steps_cons (fun a w hk hn => ?_) ?_
      · have h4 : a.eval (.tmp 4) = .int .i64 12 := hn.1
        have h28 : a.eval (.tmp 28) = .bool false := hn.2.1
        clear hn
        refine wants_guard (d := 28) rfl rfl h28 ?_
        exact grown_move (.tmp 4) rfl h4
      refine steps_cons (fun a w hk hn => ?_) ?_
      · have h29 : a.eval (.tmp 29) = .int .i64 12 := hn.1
        have h28 : a.eval (.tmp 28) = .bool false := hn.2.1
        clear hn
        refine wants_guard (d := 28) rfl rfl h28 ?_
        refine grown_run (v := .bool true) ?_ (Kp.refl _ _) rfl
        obtain ⟨ρ, hρ, hc, hf, hg⟩ := eval_is a
        rw [hρ] at h29 ⊢
        simp [go_sem, hc, h29]
      refine steps_cons (fun a w hk hn => ?_) ?_
      · have h28 : a.eval (.tmp 28) = .bool false := hn.1
        have h30 : a.eval (.tmp 30) = .bool true := hn.2.1
        have h26 : a.eval (.tmp 26) = .bool true := hn.2.2.1
        clear hn
        refine wants_guard (d := 26) rfl rfl h26 ?_
        exact grown_pick _ _ _ false rfl h28 h30
      refine steps_cons (fun a w hk hn => ?_) ?_
      · have h26 : a.eval (.tmp 26) = .bool true := hn.1
        have h31 : a.eval (.tmp 31) = .bool true := hn.2.1
        clear hn
        refine wants_plain rfl ?_
        exact grown_pick _ _ _ true rfl h26 h31
      refine steps_cons (fun a w hk hn => ?_) ?_
      · have h32 : a.eval (.tmp 32) = .bool true := hn.1
        clear hn
        refine wants_plain rfl ?_
        exact grown_move (.tmp 32) rfl h32
      refine steps_cons (fun a w hk hn => ?_) ?_
      · have h0 : a.eval (.tmp 0) = .slice ab nb cb := hn.1
        have h33 : a.eval (.tmp 33) = .bool true := hn.2.1
        clear hn
        refine wants_guard (d := 33) rfl rfl h33 ?_
        exact grown_move (.tmp 0) rfl h0
      refine steps_cons (fun a w hk hn => ?_) ?_
      · have h34 : a.eval (.tmp 34) = .slice ab nb cb := hn.1
        have h33 : a.eval (.tmp 33) = .bool true := hn.2.1
        clear hn
        refine wants_guard (d := 33) rfl rfl h33 ?_
        refine grown_call (f := 21) rfl Tryd.func21 (by kernel_rfl) (by kernel_rfl) ?_
        simp only [List.map_toArray, List.map_cons, List.map_nil, h34]
        refine (mid_any _ B lf (unhide HLF) w (unhide HSB w hk) (unhide HB) (unhide HLN) (unhide HGL w hk)).mono ?_
        rintro e w' ⟨ao, m, c, rfl, R, K⟩
        exact ⟨_, rfl, K, R.sl⟩
      refine steps_cons (fun a w hk hn => ?_) ?_
      · have h35 : Sl w (a.eval (.tmp 35)) (lf) := hn.1
        have h33 : a.eval (.tmp 33) = .bool true := hn.2.1
        clear hn
        refine wants_guard (d := 33) rfl rfl h33 ?_
        exact grown_conv (.tmp 35) _ _ 5 _ rfl h35 Tryd.underlying23 Tryd.underlying5 Tryd.underlying9 (congrArg Value.string (unhide HSL).symm)
      refine steps_cons (fun a w hk hn => ?_) ?_
      · have h0 : a.eval (.tmp 0) = .slice ab nb cb := hn.1
        have h33 : a.eval (.tmp 33) = .bool true := hn.2.1
        clear hn
        refine wants_guard (d := 33) rfl rfl h33 ?_
        exact grown_move (.tmp 0) rfl h0
      refine steps_cons (fun a w hk hn => ?_) ?_
      · have h37 : a.eval (.tmp 37) = .slice ab nb cb := hn.1
        have h33 : a.eval (.tmp 33) = .bool true := hn.2.1
        clear hn
        refine wants_guard (d := 33) rfl rfl h33 ?_
        refine grown_call (f := 22) rfl Tryd.func22 (by kernel_rfl) (by kernel_rfl) ?_
        simp only [List.map_toArray, List.map_cons, List.map_nil, h37]
        refine (rleaf_big _ B lf (unhide HLF) w (unhide HSB w hk) (unhide HB) (unhide HLN)).mono ?_
        rintro e w' ⟨ao, m, c, rfl, R, K⟩
        exact ⟨_, rfl, K, R.sl⟩
      refine steps_cons (fun a w hk hn => ?_) ?_
      · have h38 : Sl w (a.eval (.tmp 38)) (lf) := hn.1
        have h33 : a.eval (.tmp 33) = .bool true := hn.2.1
        clear hn
        refine wants_guard (d := 33) rfl rfl h33 ?_
        exact grown_conv (.tmp 38) _ _ 5 _ rfl h38 Tryd.underlying23 Tryd.underlying5 Tryd.underlying9 (congrArg Value.string (unhide HSL).symm)
      refine steps_cons (fun a w hk hn => ?_) ?_
      · have h36 : a.eval (.tmp 36) = .string SL := hn.1
        have h39 : a.eval (.tmp 39) = .string SL := hn.2.1
        have h33 : a.eval (.tmp 33) = .bool true := hn.2.2.1
        clear hn
        refine wants_guard (d := 33) rfl rfl h33 ?_
        refine grown_run (v := .bool true) ?_ (Kp.refl _ _) rfl
        obtain ⟨ρ, hρ, hc, hf, hg⟩ := eval_is a
        rw [hρ] at h36 h39 ⊢
        simp [go_sem, h36, h39]
      refine steps_cons (fun a w hk hn => ?_) ?_
      · have h33 : a.eval (.tmp 33) = .bool true := hn.1
        have h40 : a.eval (.tmp 40) = .bool true := hn.2.1
        clear hn
        refine wants_plain rfl ?_
        exact grown_pick _ _ _ true rfl h33 h40
      refine steps_cons (fun a w hk hn => ?_) ?_
      · have h41 : a.eval (.tmp 41) = .bool true := hn.1
        clear hn
        refine wants_plain rfl ?_
        exact grown_assign (.tmp 41) rfl h41
      exact trivial
    intro W1 hkW1
    rintro _ rfl
    rintro _ rfl
    rintro _ rfl
    rintro _ rfl
    rintro _ rfl
    rintro _ rfl
    rintro _ rfl
    rintro _ rfl
    rintro _ rfl
    rintro _ rfl
    rintro _ rfl
    rintro _ rfl
    rintro _ rfl
    rintro _ rfl
    rintro _ rfl
    rintro _ rfl
    rintro _ rfl
    rintro _ rfl
    intro v35 h35
    rintro _ rfl
    rintro _ rfl
    intro v38 h38
    rintro _ rfl
    rintro _ rfl
    rintro _ rfl
    rintro _ rfl
    refine fin_nil ?_
    simp only [Act.put, List.set_cons_zero, List.set_cons_succ, List.setIfInBounds_toArray]
    go_wp2_with fail
    go_ret
    exact ⟨rfl, (unhide HK4).trans (unhide HD W1 hkW1)⟩
  · simp only [errOf_t]
    go_wp2_with (refine wpList_store_man rfl (.tmp 3) (.tmp 10) rfl w1.heap.size rfl _ _ _ _ _ _ _ _ Gz rfl ⟨rfl, rfl, rfl, rfl⟩ ?_; intro w2 G2 K2; refine Hid.out ?_)
    obtain ⟨g1, hg1⟩ : ∃ g, g = w1.heap.size := ⟨_, rfl⟩
    rw [← hg1] at G2 K2 ⊢
    have k2 := kp_at hg1 K2
    have HV2 := hide ((unhide HV1).kept k2)
    have HK2 := hide ((unhide HK1).trans k2)
    have HG2 := hide G2
    have hC := rdecode_any (.slice ab nb cb) B w2 ((unhide HSB0).kept (unhide HK2) (by simp)) (unhide HB) (by have := unhide HLN; omega) (fun k hk => Nat.lt_of_lt_of_le (unhide HV0 k hk) (unhide HK2).size)
    rw [← unhide HOQ, ← unhide HM] at hC
    have HC2 := hide hC
    clear Gz G2 K2 k2 hg1 HV1 HK1 hC
    refine hide ?_
    go_wp2_with fail
    refine (unhide HC2).mono ?_
    rintro ee w3 ⟨v3, rfl, V3, K3⟩
    have HV3 := hide V3
    obtain ⟨bf, mf, ef, bn, mn, en, rfl, -⟩ := V3
    rw [← unhide HMS, ← unhide HMX] at HV3 ⊢
    have Gz := heap_alloc_new w3 (.cells #[.string ⟨#[]⟩, .int .u32 0, .slice none 0 0, .slice none 0 0] 25)
    have HK3 := hide ((unhide HK2).trans K3)
    have HV23 := hide ((unhide HV2).kept K3)
    have HG23 := hide (K3.heap (unhide HG2) (by simp))
    clear HC2 K3 HK2 HV2 HG2
    go_wp2_with (refine wpList_store_man rfl (.tmp 5) (.tmp 15) rfl w3.heap.size rfl _ _ _ _ _ _ _ _ Gz rfl ⟨rfl, rfl, rfl, rfl⟩ ?_; intro w4 G4 K4; refine Hid.out ?_)
    obtain ⟨g2, hg2⟩ : ∃ g, g = w3.heap.size := ⟨_, rfl⟩
    rw [← hg2] at G4 K4 ⊢
    have k4 := kp_at hg2 K4
    have HK4 := hide ((unhide HK3).trans k4)
    have HD : Hid (∀ w', Kp [] w4.drew w' → Kp [] w4 w') := fun w' k' => (kp_drew w4).trans k'
    have hG1 := k4.heap (unhide HG23) (by simp)
    have HS1 : Hid (∀ w', Kp [] w4.drew w' → w'.heap[g1]? = some (.cells #[.string s, .int .u32 x, .slice af nf cf, .slice an nn cn] 25 (0, 0))) := fun w' k' => (unhide HD w' k').heap hG1 (by simp)
    have HS2 : Hid (∀ w', Kp [] w4.drew w' → w'.heap[g2]? = some (.cells #[.string s, .int .u32 x, .slice bf mf ef, .slice bn mn en] 25 (0, 0))) := fun w' k' => (unhide HD w' k').heap G4 (by simp)
    have HV1 : Hid (∀ w', Kp [] w4.drew w' → MV w' (.agg #[.string s, .int .u32 x, .slice af nf cf, .slice an nn cn]) m) := fun w' k' => (unhide HV23).kept (k4.trans (unhide HD w' k'))
    have HV2 : Hid (∀ w', Kp [] w4.drew w' → MV w' (.agg #[.string s, .int .u32 x, .slice bf mf ef, .slice bn mn en]) m) := fun w' k' => (unhide HV3).kept (k4.trans (unhide HD w' k'))
    have HSB : Hid (∀ w', Kp [] w4.drew w' → Sl w' (.slice ab nb cb) B) := fun w' k' => (unhide HSB0).kept ((unhide HK4).trans (unhide HD w' k')) (by simp)
    have HGL : Hid (∀ w', Kp [] w4.drew w' → Gl w') := fun w' k' => (unhide HG).kept ((unhide HK4).trans (unhide HD w' k')) (by simp)
    clear Gz G4 K4 k4 hg2 hG1 HV23 HG23 HV3 HK3
    refine hide ?_
    go_wp2_with fail
    refine region_grow Tryd.mixed [Is (.int .i64 0), Is (.bool true), Is (.bool true), Is (.bool true), Is (.bool true), Is (.agg #[.string s, .int .u32 x, .slice af nf cf, .slice an nn cn]), Is (.agg #[.string s, .int .u32 x, .slice bf mf ef, .slice bn mn en]), Is (.bool true), Is (.bool true), Is (.bool true), Is (.bool true), Is (.bool true), Is (undef), Is (undef), Is (.bool true), Is (.bool true), Is (.bool true), Is (.slice ab nb cb), SlT (lf), Is (.string SL), Is (.slice ab nb cb), SlT (lf), Is (.string SL), Is (.bool true), Is (.bool true), Is (.bool true)] [[(4, none)], [(17, some 0)], [(6, none)], [(18, some 1), (19, some 2)], [(20, some 3)], [(3, none), (21, some 4)], [(5, none), (21, some 4)], [(22, some 5), (23, some 6), (21, some 4)], [(21, some 4), (24, some 7)], [(25, some 8)], [(6, none), (26, some 9)], [(27, some 10), (26, some 9)], [(4, none), (28, some 11)], [(29, some 12), (28, some 11)], [(28, some 11), (30, some 13), (26, some 9)], [(26, some 9), (31, some 14)], [(32, some 15)], [(0, none), (33, some 16)], [(34, some 17), (33, some 16)], [(35, some 18), (33, some 16)], [(0, none), (33, some 16)], [(37, some 20), (33, some 16)], [(38, some 21), (33, some 16)], [(36, some 19), (39, some 22), (33, some 16)], [(33, some 16), (40, some 23)], [(41, some 24)]] (by kernel_rfl) ?_ ?_ ?_
    · simp only [List.mem_cons, List.not_mem_nil, or_false]
      intro R hR
      rcases hR with rfl | rfl | rfl | rfl | rfl | rfl | rfl | rfl | rfl | rfl | rfl | rfl | rfl | rfl | rfl | rfl | rfl | rfl | rfl | rfl | rfl | rfl | rfl | rfl | rfl | rfl <;> first | exact stable_is _ | exact stable_sl _
    · refine steps_cons (fun a w hk hn => ?_) ?_
      · have h4 : a.eval (.tmp 4) = .int .i64 0 := hn.1
        clear hn
        refine wants_plain rfl ?_
        exact grown_move (.tmp 4) rfl h4
      refine steps_cons (fun a w hk hn => ?_) ?_
      · have h17 : a.eval (.tmp 17) = .int .i64 0 := hn.1
        clear hn
        refine wants_plain rfl ?_
        refine grown_run (v := .bool true) ?_ (Kp.refl _ _) rfl
        obtain ⟨ρ, hρ, hc, hf, hg⟩ := eval_is a
        rw [hρ] at h17 ⊢
        simp [go_sem, hc, h17]
      refine steps_cons (fun a w hk hn => ?_) ?_
      · have h6 : a.eval (.tmp 6) = .bool true := hn.1
        clear hn
        refine wants_plain rfl ?_
        exact grown_move (.tmp 6) rfl h6
      refine steps_cons (fun a w hk hn => ?_) ?_
      · have h18 : a.eval (.tmp 18) = .bool true := hn.1
        have h19 : a.eval (.tmp 19) = .bool true := hn.2.1
        clear hn
        refine wants_plain rfl ?_
        refine grown_run (v := .bool true) ?_ (Kp.refl _ _) rfl
        obtain ⟨ρ, hρ, hc, hf, hg⟩ := eval_is a
        rw [hρ] at h18 h19 ⊢
        simp [go_sem, h18, h19]
      refine steps_cons (fun a w hk hn => ?_) ?_
      · have h20 : a.eval (.tmp 20) = .bool true := hn.1
        clear hn
        refine wants_plain rfl ?_
        exact grown_move (.tmp 20) rfl h20
      refine steps_cons (fun a w hk hn => ?_) ?_
      · have h3 : a.eval (.tmp 3) = .pointer (some ⟨g1, 0, none⟩) := hn.1
        have h21 : a.eval (.tmp 21) = .bool true := hn.2.1
        clear hn
        refine wants_guard (d := 21) rfl rfl h21 ?_
        exact grown_loadman (.tmp 3) rfl h3 (unhide HS1 w hk) rfl
      refine steps_cons (fun a w hk hn => ?_) ?_
      · have h5 : a.eval (.tmp 5) = .pointer (some ⟨g2, 0, none⟩) := hn.1
        have h21 : a.eval (.tmp 21) = .bool true := hn.2.1
        clear hn
        refine wants_guard (d := 21) rfl rfl h21 ?_
        exact grown_loadman (.tmp 5) rfl h5 (unhide HS2 w hk) rfl
      refine steps_cons (fun a w hk hn => ?_) ?_
      · have h22 : a.eval (.tmp 22) = .agg #[.string s, .int .u32 x, .slice af nf cf, .slice an nn cn] := hn.1
        have h23 : a.eval (.tmp 23) = .agg #[.string s, .int .u32 x, .slice bf mf ef, .slice bn mn en] := hn.2.1
        have h21 : a.eval (.tmp 21) = .bool true := hn.2.2.1
        clear hn
        refine wants_guard (d := 21) rfl rfl h21 ?_
        refine grown_call (f := 20) rfl Tryd.func20 (by kernel_rfl) (by kernel_rfl) ?_
        simp only [List.map_toArray, List.map_cons, List.map_nil, h22, h23]
        refine (rsame_any _ _ m m true (sameM_refl m).symm w (unhide HV1 w hk) (unhide HV2 w hk)).mono ?_
        rintro e w' ⟨rfl, K⟩
        exact ⟨_, rfl, K, rfl⟩
      refine steps_cons (fun a w hk hn => ?_) ?_
      · have h21 : a.eval (.tmp 21) = .bool true := hn.1
        have h24 : a.eval (.tmp 24) = .bool true := hn.2.1
        clear hn
        refine wants_plain rfl ?_
        exact grown_pick _ _ _ true rfl h21 h24
      refine steps_cons (fun a w hk hn => ?_) ?_
      · have h25 : a.eval (.tmp 25) = .bool true := hn.1
        clear hn
        refine wants_plain rfl ?_
        exact grown_move (.tmp 25) rfl h25
      refine steps_cons (fun a w hk hn => ?_) ?_
      · have h6 : a.eval (.tmp 6) = .bool true := hn.1
        have h26 : a.eval (.tmp 26) = .bool true := hn.2.1
        clear hn
        refine wants_guard (d := 26) rfl rfl h26 ?_
        exact grown_move (.tmp 6) rfl h6
      refine steps_cons (fun a w hk hn => ?_) ?_
      · have h27 : a.eval (.tmp 27) = .bool true := hn.1
        have h26 : a.eval (.tmp 26) = .bool true := hn.2.1
        clear hn
        refine wants_guard (d := 26) rfl rfl h26 ?_
        exact grown_move (.tmp 27) rfl h27
      refine steps_cons (fun a w hk hn => ?_) ?_
      · have h4 : a.eval (.tmp 4) = .int .i64 0 := hn.1
        have h28 : a.eval (.tmp 28) = .bool true := hn.2.1
        clear hn
        exact wants_not (d := 28) rfl rfl h28 rfl
      refine steps_cons (fun a w hk hn => ?_) ?_
      · have h29 : a.eval (.tmp 29) = undef := hn.1
        have h28 : a.eval (.tmp 28) = .bool true := hn.2.1
        clear hn
        exact wants_not (d := 28) rfl rfl h28 rfl
      refine steps_cons (fun a w hk hn => ?_) ?_
      · have h28 : a.eval (.tmp 28) = .bool true := hn.1
        have h30 : a.eval (.tmp 30) = undef := hn.2.1
        have h26 : a.eval (.tmp 26) = .bool true := hn.2.2.1
        clear hn
        refine wants_guard (d := 26) rfl rfl h26 ?_
        exact grown_pick _ _ _ true rfl h28 rfl
      refine steps_cons (fun a w hk hn => ?_) ?_
      · have h26 : a.eval (.tmp 26) = .bool true := hn.1
        have h31 : a.eval (.tmp 31) = .bool true := hn.2.1
        clear hn
        refine wants_plain rfl ?_
        exact grown_pick _ _ _ true rfl h26 h31
      refine steps_cons (fun a w hk hn => ?_) ?_
      · have h32 : a.eval (.tmp 32) = .bool true := hn.1
        clear hn
        refine wants_plain rfl ?_
        exact grown_move (.tmp 32) rfl h32
      refine steps_cons (fun a w hk hn => ?_) ?_
      · have h0 : a.eval (.tmp 0) = .slice ab nb cb := hn.1
        have h33 : a.eval (.tmp 33) = .bool true := hn.2.1
        clear hn
        refine wants_guard (d := 33) rfl rfl h33 ?_
        exact grown_move (.tmp 0) rfl h0
      refine steps_cons (fun a w hk hn => ?_) ?_
      · have h34 : a.eval (.tmp 34) = .slice ab nb cb := hn.1
        have h33 : a.eval (.tmp 33) = .bool true := hn.2.1
        clear hn
        refine wants_guard (d := 33) rfl rfl h33 ?_
        refine grown_call (f := 21) rfl Tryd.func21 (by kernel_rfl) (by kernel_rfl) ?_
        simp only [List.map_toArray, List.map_cons, List.map_nil, h34]
        refine (mid_any _ B lf (unhide HLF) w (unhide HSB w hk) (unhide HB) (unhide HLN) (unhide HGL w hk)).mono ?_
        rintro e w' ⟨ao, m, c, rfl, R, K⟩
        exact ⟨_, rfl, K, R.sl⟩
      refine steps_cons (fun a w hk hn => ?_) ?_
      · have h35 : Sl w (a.eval (.tmp 35)) (lf) := hn.1
        have h33 : a.eval (.tmp 33) = .bool true := hn.2.1
        clear hn
        refine wants_guard (d := 33) rfl rfl h33 ?_
        exact grown_conv (.tmp 35) _ _ 5 _ rfl h35 Tryd.underlying23 Tryd.underlying5 Tryd.underlying9 (congrArg Value.string (unhide HSL).symm)
      refine steps_cons (fun a w hk hn => ?_) ?_
      · have h0 : a.eval (.tmp 0) = .slice ab nb cb := hn.1
        have h33 : a.eval (.tmp 33) = .bool true := hn.2.1
        clear hn
        refine wants_guard (d := 33) rfl rfl h33 ?_
        exact grown_move (.tmp 0) rfl h0
      refine steps_cons (fun a w hk hn => ?_) ?_
      · have h37 : a.eval (.tmp 37) = .slice ab nb cb := hn.1
        have h33 : a.eval (.tmp 33) = .bool true := hn.2.1
        clear hn
        refine wants_guard (d := 33) rfl rfl h33 ?_
        refine grown_call (f := 22) rfl Tryd.func22 (by kernel_rfl) (by kernel_rfl) ?_
        simp only [List.map_toArray, List.map_cons, List.map_nil, h37]
        refine (rleaf_big _ B lf (unhide HLF) w (unhide HSB w hk) (unhide HB) (unhide HLN)).mono ?_
        rintro e w' ⟨ao, m, c, rfl, R, K⟩
        exact ⟨_, rfl, K, R.sl⟩
      refine steps_cons (fun a w hk hn => ?_) ?_
      · have h38 : Sl w (a.eval (.tmp 38)) (lf) := hn.1
        have h33 : a.eval (.tmp 33) = .bool true := hn.2.1
        clear hn
        refine wants_guard (d := 33) rfl rfl h33 ?_
        exact grown_conv (.tmp 38) _ _ 5 _ rfl h38 Tryd.underlying23 Tryd.underlying5 Tryd.underlying9 (congrArg Value.string (unhide HSL).symm)
      refine steps_cons (fun a w hk hn => ?_) ?_
      · have h36 : a.eval (.tmp 36) = .string SL := hn.1
        have h39 : a.eval (.tmp 39) = .string SL := hn.2.1
        have h33 : a.eval (.tmp 33) = .bool true := hn.2.2.1
        clear hn
        refine wants_guard (d := 33) rfl rfl h33 ?_
        refine grown_run (v := .bool true) ?_ (Kp.refl _ _) rfl
        obtain ⟨ρ, hρ, hc, hf, hg⟩ := eval_is a
        rw [hρ] at h36 h39 ⊢
        simp [go_sem, h36, h39]
      refine steps_cons (fun a w hk hn => ?_) ?_
      · have h33 : a.eval (.tmp 33) = .bool true := hn.1
        have h40 : a.eval (.tmp 40) = .bool true := hn.2.1
        clear hn
        refine wants_plain rfl ?_
        exact grown_pick _ _ _ true rfl h33 h40
      refine steps_cons (fun a w hk hn => ?_) ?_
      · have h41 : a.eval (.tmp 41) = .bool true := hn.1
        clear hn
        refine wants_plain rfl ?_
        exact grown_assign (.tmp 41) rfl h41
      exact trivial
    intro W1 hkW1
    rintro _ rfl
    rintro _ rfl
    rintro _ rfl
    rintro _ rfl
    rintro _ rfl
    rintro _ rfl
    rintro _ rfl
    rintro _ rfl
    rintro _ rfl
    rintro _ rfl
    rintro _ rfl
    rintro _ rfl
    rintro _ rfl
    rintro _ rfl
    rintro _ rfl
    rintro _ rfl
    rintro _ rfl
    rintro _ rfl
    intro v35 h35
    rintro _ rfl
    rintro _ rfl
    intro v38 h38
    rintro _ rfl
    rintro _ rfl
    rintro _ rfl
    rintro _ rfl
    refine fin_nil ?_
    simp only [Act.put, List.set_cons_zero, List.set_cons_succ, List.setIfInBounds_toArray]
    go_wp2_with fail
    go_ret
    exact ⟨rfl, (unhide HK4).trans (unhide HD W1 hkW1)⟩
end Go.Proofs.YtioflclfgkcpfaaDoor
