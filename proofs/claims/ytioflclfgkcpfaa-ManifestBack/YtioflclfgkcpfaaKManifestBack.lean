/-
  The statement ManifestBackSaid: for all manifests, numbers and bytes the law function ManifestBack returns true and leaves its arguments as they were. No condition.
-/
import Derived.Test.YtioflclfgkcpfaaKMKnown
import Derived.Test.YtioflclfgkcpfaaKMSame
import Derived.Test.YtioflclfgkcpfaaKMArg
import Derived.Test.YtioflclfgkcpfaaKLReach
import Derived.ShutString
import Derived.ChangeOld
import Derived.Below
namespace Go.Proofs.Ytioflclfgkcpfaa.manifestBack
open Go.ChangeShapes Go.WideShapes Go.ChangeAt Go.RowKit
open Go.Proofs.Ytioflclfgkcpfaa
set_option linter.unusedVariables false

theorem own : ownKnob Try.prog.godebug = none := by kernel_rfl
theorem laidOut : laidOutB Try.prog = true := by kernel_rfl
/-- The value is a list of two manifests. -/
def Two2 (m1 m2 : Mf) : Tell := fun v w => ∃ g, v = .slice (some ⟨g, 0, none⟩) 2 2 ∧ ∃ (s1 : ByteArray) (x1 : Int) (a1 : Option Addr) (n1 c1 : Nat) (b1 : Option Addr) (k1 e1 : Nat) (s2 : ByteArray) (x2 : Int) (a2 : Option Addr) (n2 c2 : Nat) (b2 : Option Addr) (k2 e2 : Nat),
  w.heap[g]? = some (.cells #[.string s1, .int .u32 x1, .slice a1 n1 c1, .slice b1 k1 e1, .string s2, .int .u32 x2, .slice a2 n2 c2, .slice b2 k2 e2] 25 (0, 0)) ∧ MV w (.agg #[.string s1, .int .u32 x1, .slice a1 n1 c1, .slice b1 k1 e1]) m1 ∧ MV w (.agg #[.string s2, .int .u32 x2, .slice a2 n2 c2, .slice b2 k2 e2]) m2
theorem stable_two2 (m1 m2 : Mf) : Tell.stable (Two2 m1 m2) := by
  rintro v w w' k ⟨g, e, s1, x1, a1, n1, c1, b1, k1, e1, s2, x2, a2, n2, c2, b2, k2, e2, h, h1, h2⟩
  exact ⟨g, e, s1, x1, a1, n1, c1, b1, k1, e1, s2, x2, a2, n2, c2, b2, k2, e2, k.heap h (by simp), h1.kept k, h2.kept k⟩
theorem grown_two2 {o : Oper} {a : Act} {w : World} (x y : Operand) (ho : o.op = .buildSlice 27 2 #[(0, x), (1, y)]) (m1 m2 : Mf) (h1 : MV w (a.eval x) m1) (h2 : MV w (a.eval y) m2) : grown Try.prog w (Two2 m1 m2) ((execOp a.eval o).run Try.prog w) := by
  have V1 := h1
  have V2 := h2
  obtain ⟨a1, n1, c1, b1, k1, e1, ex, -⟩ := h1
  obtain ⟨a2, n2, c2, b2, k2, e2, ey, -⟩ := h2
  rw [ex] at V1
  rw [ey] at V2
  obtain ⟨ob, hob⟩ : ∃ o : Obj, o = (.cells #[.string m1.s, .int .u32 m1.v, .slice a1 n1 c1, .slice b1 k1 e1, .string m2.s, .int .u32 m2.v, .slice a2 n2 c2, .slice b2 k2 e2] 25) := ⟨_, rfl⟩
  have K : Kp [] w (w.alloc ob) := (Kp.refl _ _).alloc _
  refine grown_run (v := .slice (some ⟨w.heap.size, 0, none⟩) 2 2) (w' := w.alloc ob) ?_ K ⟨w.heap.size, rfl, m1.s, m1.v, a1, n1, c1, b1, k1, e1, m2.s, m2.v, a2, n2, c2, b2, k2, e2, by rw [hob]; exact heap_alloc_new w _, V1.kept K, V2.kept K⟩
  obtain ⟨ρ, hρ, _⟩ := eval_is a
  rw [hρ] at ex ey ⊢
  unfold execOp
  simp only [ho]
  simp [go_sem, ex, ey, hob]
theorem grown_len2 {o : Oper} {a : Act} {w : World} (s : Operand) (m1 m2 : Mf) (ho : o.op = .call { callee := .builtin .len, args := #[s], argTypes := #[27] }) (h : Two2 m1 m2 (a.eval s) w) : grown Try.prog w (Is (.int .i64 2)) ((execOp a.eval o).run Try.prog w) := by
  obtain ⟨g, e, -⟩ := h
  refine grown_run (v := .int .i64 2) ?_ (Kp.refl _ _) rfl
  obtain ⟨ρ, hρ, _⟩ := eval_is a
  rw [hρ] at e ⊢
  unfold execOp
  simp only [ho]
  simp [go_sem, e]
/-- what stands at one of the two. -/
def At4 (w : World) (g o : Nat) (m : Mf) : Prop := ∃ (s : ByteArray) (x : Int) (a : Option Addr) (n c : Nat) (b : Option Addr) (k e : Nat), w.cell? ⟨g, o, none⟩ = some (.string s) ∧ w.cell? ⟨g, o + 1, none⟩ = some (.int .u32 x) ∧ w.cell? ⟨g, o + 2, none⟩ = some (.slice a n c) ∧ w.cell? ⟨g, o + 3, none⟩ = some (.slice b k e) ∧ MV w (.agg #[.string s, .int .u32 x, .slice a n c, .slice b k e]) m
theorem At4.kept {w w' : World} {g o : Nat} {m : Mf} (h : At4 w g o m) (k : Kp [] w w') : At4 w' g o m := by
  obtain ⟨s, x, a, n, c, b, p, e, h0, h1, h2, h3, h4⟩ := h
  exact ⟨s, x, a, n, c, b, p, e, k.cell h0 (by simp), k.cell h1 (by simp), k.cell h2 (by simp), k.cell h3 (by simp), h4.kept k⟩

set_option maxRecDepth 100000 in
set_option maxHeartbeats 4000000 in
theorem walk (vm : Value) (m : Mf) (p v f : Int) (vb : Value) (B : List Int) (w : World) (hM : MV w vm m) (zM : m.s.size ≤ 9223372036854775807) (hp : -9223372036854775808 ≤ p ∧ p ≤ 9223372036854775807) (hv : -9223372036854775808 ≤ v ∧ v ≤ 9223372036854775807) (hf : -9223372036854775808 ≤ f ∧ f ≤ 9223372036854775807) (hS : Sl w vb B) (hB : Bs B) (hl : B.length ≤ 140737488351232) :
    Calls Try.prog 3 #[vm, .int .i64 p, .int .i64 v, .int .i64 f, vb] w fun e w' => e = .returned (.bool true) ∧ Below w.heap.size w w' := by
  have HM := hide hM
  obtain ⟨a3, n3, c3, b3, k3, e3, rfl, -⟩ := hM
  obtain ⟨sm, hsm⟩ : ∃ s, s = m.s := ⟨_, rfl⟩
  obtain ⟨xm, hxm⟩ : ∃ s, s = m.v := ⟨_, rfl⟩
  rw [← hsm, ← hxm] at HM ⊢
  have HS := hide hS
  have HB := hide hB
  have HL := hide hl
  obtain ⟨ab, cb, hvb, -⟩ := hS
  obtain ⟨nb, hnb⟩ : ∃ n, n = B.length := ⟨_, rfl⟩
  rw [← hnb] at hvb
  subst hvb
  obtain ⟨gm, hgm⟩ : ∃ g, g = w.heap.size := ⟨_, rfl⟩
  obtain ⟨w0, hw0⟩ : ∃ w0, w0 = w.alloc (.cells #[.string sm, .int .u32 xm, .slice a3 n3 c3, .slice b3 k3 e3] 25) := ⟨_, rfl⟩
  have K0 : Kp [] w w0 := by rw [hw0]; exact (Kp.refl [] w).alloc _
  have G0 : w0.heap[gm]? = some (.cells #[.string sm, .int .u32 xm, .slice a3 n3 c3, .slice b3 k3 e3] 25 (0, 0)) := by rw [hw0, hgm]; exact heap_alloc_new w _
  have HSM : Hid (∀ w', Kp [] w0.drew w' → w'.heap[gm]? = some (.cells #[.string sm, .int .u32 xm, .slice a3 n3 c3, .slice b3 k3 e3] 25 (0, 0))) := fun w' k' => ((kp_drew w0).trans k').heap G0 (by simp)
  have HVM : Hid (∀ w', Kp [] w0.drew w' → MV w' (.agg #[.string sm, .int .u32 xm, .slice a3 n3 c3, .slice b3 k3 e3]) m) := fun w' k' => (unhide HM).kept (K0.trans ((kp_drew w0).trans k'))
  have HK0 := hide K0
  have HW0 := hide hw0
  have HGM := hide hgm
  have HMR := hide (mkM_rgt p v f)
  clear hsm hxm hB hl hnb hw0 hgm K0 G0 hp hv hf zM HM
  go_enter Try.func3, Try.ntmps3
  go_wp2_with fail
  rw [← unhide HW0, ← unhide HGM]
  refine region_grow Try.mixed [Is (.agg #[.string sm, .int .u32 xm, .slice a3 n3 c3, .slice b3 k3 e3]), Is (.int .i64 p), Is (.int .i64 v), Is (.int .i64 f), MvT (mkM p v f), Two2 m (mkM p v f), Is (.int .i64 2), Is (.int .i64 0)] [[(5, none)], [(1, none)], [(2, none)], [(3, none)], [(22, some 1), (23, some 2), (24, some 3)], [(21, some 0), (25, some 4)], [(26, some 5)], []] (by kernel_rfl) ?_ ?_ ?_
  · simp only [List.mem_cons, List.not_mem_nil, or_false]
    intro R hR
    rcases hR with rfl | rfl | rfl | rfl | rfl | rfl | rfl | rfl <;> first | exact stable_is _ | exact stable_mv _ | exact stable_two2 _ _
  · refine steps_cons (fun a w hk hn => ?_) ?_
    · have h5 : a.eval (.tmp 5) = .pointer (some ⟨gm, 0, none⟩) := hn.1
      clear hn
      refine wants_plain rfl ?_
      exact grown_loadman (.tmp 5) rfl h5 (unhide HSM w hk) rfl
    refine steps_cons (fun a w hk hn => ?_) ?_
    · have h1 : a.eval (.tmp 1) = .int .i64 p := hn.1
      clear hn
      refine wants_plain rfl ?_
      exact grown_move (.tmp 1) rfl h1
    refine steps_cons (fun a w hk hn => ?_) ?_
    · have h2 : a.eval (.tmp 2) = .int .i64 v := hn.1
      clear hn
      refine wants_plain rfl ?_
      exact grown_move (.tmp 2) rfl h2
    refine steps_cons (fun a w hk hn => ?_) ?_
    · have h3 : a.eval (.tmp 3) = .int .i64 f := hn.1
      clear hn
      refine wants_plain rfl ?_
      exact grown_move (.tmp 3) rfl h3
    refine steps_cons (fun a w hk hn => ?_) ?_
    · have h22 : a.eval (.tmp 22) = .int .i64 p := hn.1
      have h23 : a.eval (.tmp 23) = .int .i64 v := hn.2.1
      have h24 : a.eval (.tmp 24) = .int .i64 f := hn.2.2.1
      clear hn
      refine wants_plain rfl ?_
      refine grown_call (f := 7) rfl Try.func7 (by kernel_rfl) (by kernel_rfl) ?_
      simp only [List.map_toArray, List.map_cons, List.map_nil, h22, h23, h24]
      refine (kman_any p v f w).mono ?_
      rintro e w' ⟨x, rfl, V, K⟩
      exact ⟨_, rfl, K, V⟩
    refine steps_cons (fun a w hk hn => ?_) ?_
    · have h21 : a.eval (.tmp 21) = .agg #[.string sm, .int .u32 xm, .slice a3 n3 c3, .slice b3 k3 e3] := hn.1
      have h25 : (MvT (mkM p v f)) (a.eval (.tmp 25)) w := hn.2.1
      clear hn
      refine wants_plain rfl ?_
      refine grown_two2 (.tmp 21) (.tmp 25) rfl m (mkM p v f) ?_ h25
      rw [h21]
      exact unhide HVM w hk
    refine steps_cons (fun a w hk hn => ?_) ?_
    · have h26 : (Two2 m (mkM p v f)) (a.eval (.tmp 26)) w := hn.1
      clear hn
      refine wants_plain rfl ?_
      exact grown_len2 (.tmp 26) _ _ rfl h26
    refine steps_cons (fun a w hk hn => ?_) ?_
    · clear hn
      refine wants_plain rfl ?_
      exact grown_move _ rfl rfl
    exact trivial
  intro W1 hkW1
  rintro _ rfl
  rintro _ rfl
  rintro _ rfl
  rintro _ rfl
  intro v25 h25
  intro v26 h26
  rintro _ rfl
  rintro _ rfl
  refine fin_nil ?_
  simp only [Act.put, List.set_cons_zero, List.set_cons_succ, List.setIfInBounds_toArray]
  obtain ⟨gl, e26, s1, x1, a1, n1, c1, b1, k1, e1, s2, x2, a2, n2, c2, b2, k2, e2, hgl, V1, V2⟩ := h26
  subst e26
  have KW := (unhide HK0).trans ((kp_drew w0).trans hkW1)
  have HA1 : Hid (At4 W1 gl 0 m) := by
    refine ⟨s1, x1, a1, n1, c1, b1, k1, e1, ?_, ?_, ?_, ?_, V1⟩ <;> rw [cell_of_row W1 gl _ _ _ _ hgl] <;> rfl
  have HA2 : Hid (At4 W1 gl 4 (mkM p v f)) := by
    refine ⟨s2, x2, a2, n2, c2, b2, k2, e2, ?_, ?_, ?_, ?_, V2⟩ <;> rw [cell_of_row W1 gl _ _ _ _ hgl] <;> rfl
  have HKW := hide KW
  clear hgl V1 V2 KW hkW1 h25 HSM HVM HK0 HW0
  go_wp2_with fail
  go_loopw [12, 13, 14, 15, 16, 28] (fun _ _ _ _ _ i wr => ∃ k : Nat, k ≤ 2 ∧ i = .int .i64 k ∧ Kp [] W1 wr) (fun _ _ _ _ _ i _ => 2 - (intOf i).toNat)
  case atStart => exact ⟨0, by omega, rfl, Kp.refl _ _⟩
  case round =>
    obtain ⟨k, hk, rfl, Kr⟩ := hrel
    have HKr := hide Kr
    by_cases hlt : k < 2
    · obtain ⟨o, ho⟩ : ∃ o : Nat, o = k * 4 := ⟨_, rfl⟩
      obtain ⟨E, HE⟩ : ∃ E, At4 wr gl o E := by
        rcases (by omega : k = 0 ∨ k = 1) with e | e
        · subst e; exact ⟨m, by rw [ho]; exact (unhide HA1).kept Kr⟩
        · subst e; exact ⟨mkM p v f, by rw [ho]; exact (unhide HA2).kept Kr⟩
      obtain ⟨s, x, a, n, c, b, p1, q1, d0, d1, d2, d3, VE⟩ := HE
      have HVE := hide VE
      have hlt2 : (k : Int) < 2 := by omega
      rw [ho] at d0 d1 d2 d3
      have Gz := heap_alloc_new wr (.cells #[.string ⟨#[]⟩, .int .u32 0, .slice none 0 0, .slice none 0 0] 25)
      clear ho VE Kr
      go_wp2_with (refine wpList_store_man rfl (.tmp 12) (.tmp 31) rfl wr.heap.size rfl _ _ _ _ _ _ _ _ Gz rfl ⟨rfl, rfl, rfl, rfl⟩ ?_; intro w4 G4 K4; refine Hid.out ?_)
      obtain ⟨g4, hg4⟩ : ∃ g, g = wr.heap.size := ⟨_, rfl⟩
      rw [← hg4] at G4 K4 ⊢
      have k4 := kp_at hg4 K4
      have HV4 := hide ((unhide HVE).kept k4)
      have HK4 := hide ((unhide HKr).trans k4)
      have HG4 := hide G4
      obtain ⟨z0, z1, z2, z3⟩ := cell_man G4
      have HC := hide (mencode_any _ E w4 (unhide HV4))
      have HEok := hide (unhide HV4).ok
      clear Gz G4 K4 k4 hg4 d0 d1 d2 d3 HVE HKr
      refine hide ?_
      go_wp2_with fail
      refine (unhide HC).mono ?_
      rintro ee w5 ⟨a5, m5, c5, rfl, S5, -, K5⟩
      have HK5 := hide ((unhide HK4).trans K5)
      have HV5 := hide ((unhide HV4).kept K5)
      have HG5 := hide (K5.heap (unhide HG4) (by simp))
      have HS5 := hide S5
      clear HC HK4 HV4 HG4 K5 S5 z0 z1 z2 z3
      obtain ⟨r, hr⟩ : ∃ r, r = rgtM E := ⟨_, rfl⟩
      rw [← hr]
      have HR := hide hr
      clear hr
      cases r
      · simp only [errOf_f]
        go_wp2_with fail
        go_roundw
        case rel => exact ⟨k + 1, by omega, by go_num, unhide HK5⟩
        case measure => simp [intOf]; omega
      · simp only [errOf_t]
        have hrt : rgtM E = true := (unhide HR).symm
        have hde := dec_enc E (unhide HEok) hrt
        have hSE : Sl w5 (.slice a5 m5 c5) (encM E) := by have := unhide HS5; unfold encA at this; rw [hrt] at this; exact this
        have hlen : (encM E).length ≤ 200 := by
          obtain ⟨q1, q2, q3, q4⟩ := (rgtM_iff E).1 hrt
          have := nameP_len q1
          rw [encM_len]; omega
        have hC := mdecode_any _ (encM E) w5 hSE (encM_bs E (unhide HEok)) (by omega)
        have hans : ansM (encM E) = E := by unfold ansM; rw [hde.2]; exact hde.1
        rw [hde.2, hans, errOf_t] at hC
        have HC := hide hC
        clear hrt hde hSE hlen hC hans HS5
        go_wp2_with fail
        refine (unhide HC).mono ?_
        rintro ee w6 ⟨v6, rfl, V6, K6⟩
        have HV6 := hide V6
        obtain ⟨a6, n6, c6, b6, k6, e6, rfl, -⟩ := V6
        obtain ⟨sE, hsE⟩ : ∃ s, s = E.s := ⟨_, rfl⟩
        obtain ⟨xE, hxE⟩ : ∃ s, s = E.v := ⟨_, rfl⟩
        rw [← hsE, ← hxE] at HV6 ⊢
        have Gz := heap_alloc_new w6 (.cells #[.string ⟨#[]⟩, .int .u32 0, .slice none 0 0, .slice none 0 0] 25)
        have HK6 := hide ((unhide HK5).trans K6)
        have HV56 := hide ((unhide HV5).kept K6)
        have HG6 := hide (K6.heap (unhide HG5) (by simp))
        clear HC K6 HK5 HV5 HG5 hsE hxE
        go_wp2_with (refine wpList_store_man rfl (.tmp 15) (.tmp 42) rfl w6.heap.size rfl _ _ _ _ _ _ _ _ Gz rfl ⟨rfl, rfl, rfl, rfl⟩ ?_; intro w7 G7 K7; refine Hid.out ?_)
        obtain ⟨g7, hg7⟩ : ∃ g, g = w6.heap.size := ⟨_, rfl⟩
        rw [← hg7] at G7 K7 ⊢
        have k7 := kp_at hg7 K7
        have HVx := hide ((unhide HV56).kept k7)
        have HVz := hide ((unhide HV6).kept k7)
        have HK7 := hide ((unhide HK6).trans k7)
        have HGx := hide (k7.heap (unhide HG6) (by simp))
        have HGz := hide G7
        have HC1 := hide (msame_any _ _ E E true (sameM_refl E).symm w7 (unhide HVx) (unhide HVz))
        obtain ⟨y0, y1, y2, y3⟩ := cell_man (unhide HGx)
        obtain ⟨z0, z1, z2, z3⟩ := cell_man G7
        clear Gz G7 K7 k7 hg7 HV56 HV6 HK6 HG6
        refine hide ?_
        go_wp2_with fail
        refine (unhide HC1).mono ?_
        rintro ee w8 ⟨rfl, K8⟩
        have HC2 := hide (rsame_any _ _ E E true (sameM_refl E).symm w8 ((unhide HVx).kept K8) ((unhide HVz).kept K8))
        have HK8 := hide ((unhide HK7).trans K8)
        have gx := K8.heap (unhide HGx) (by simp)
        have gz := K8.heap (unhide HGz) (by simp)
        clear HC1 y0 y1 y2 y3 z0 z1 z2 z3
        obtain ⟨y0, y1, y2, y3⟩ := cell_man gx
        obtain ⟨z0, z1, z2, z3⟩ := cell_man gz
        clear gx gz K8 HK7 HGx HGz HVx HVz
        go_wp2_with fail
        refine (unhide HC2).mono ?_
        rintro ee w9 ⟨rfl, K9⟩
        have HK9 := hide ((unhide HK8).trans K9)
        clear HC2 y0 y1 y2 y3 z0 z1 z2 z3 K9 HK8
        go_wp2_with fail
        go_roundw
        case rel => exact ⟨k + 1, by omega, by go_num, unhide HK9⟩
        case measure => simp [intOf]; omega
    · have hk2 : k = 2 := by omega
      have hlt2 : ¬ (k : Int) < 2 := by omega
      have K0r := (unhide HKW).trans Kr
      have HC := hide (mdecode_any _ B wr ((unhide HS).kept K0r (by simp)) (unhide HB) (by have := unhide HL; omega))
      have HSr := hide ((unhide HS).kept K0r (by simp))
      have HKr' := hide K0r
      clear hk2 K0r Kr HKr HA1 HA2 HKW
      go_wp2_with fail
      refine (unhide HC).mono ?_
      rintro ee w2 ⟨v2, rfl, V2, K2⟩
      have HV2 := hide V2
      obtain ⟨a2', n2', c2', b2', k2', e2', rfl, -⟩ := V2
      obtain ⟨z, hz⟩ : ∃ z, z = ansM B := ⟨_, rfl⟩
      rw [← hz] at HV2 ⊢
      obtain ⟨sz, hsz⟩ : ∃ s, s = z.s := ⟨_, rfl⟩
      obtain ⟨xz, hxz⟩ : ∃ s, s = z.v := ⟨_, rfl⟩
      rw [← hsz, ← hxz] at HV2 ⊢
      have HZ := hide hz
      have Gz := heap_alloc_new w2 (.cells #[.string ⟨#[]⟩, .int .u32 0, .slice none 0 0, .slice none 0 0] 25)
      have HK2 := hide ((unhide HKr').trans K2)
      have HS2 := hide ((unhide HSr).kept K2 (by simp))
      obtain ⟨q, hq⟩ : ∃ q, q = okM B := ⟨_, rfl⟩
      rw [← hq]
      have HQ := hide hq
      clear HC K2 HKr' HSr hsz hxz hz hq
      cases q
      · simp only [errOf_f]
        go_wp2_with (refine wpList_store_man rfl (.tmp 17) (.tmp 62) rfl w2.heap.size rfl _ _ _ _ _ _ _ _ Gz rfl ⟨rfl, rfl, rfl, rfl⟩ ?_; intro w4 G4 K4; refine Hid.out ?_)
        obtain ⟨g4, hg4⟩ : ∃ g, g = w2.heap.size := ⟨_, rfl⟩
        rw [← hg4] at G4 K4 ⊢
        have HK4 := hide ((unhide HK2).trans (kp_at hg4 K4))
        clear Gz G4 K4 hg4 HK2
        refine hide ?_
        go_wp2_with fail
        refine (mknown_any w4).mono ?_
        rintro ee w5 ⟨rfl, K5⟩
        have HK5 := hide ((unhide HK4).trans K5)
        clear K5
        go_wp2_with fail
        go_ret
        exact ⟨rfl, (unhide HK5).below (Nat.le_refl _) (by simp)⟩
      · simp only [errOf_t]
        have hzd : z = decM B := by rw [unhide HZ]; unfold ansM; rw [← unhide HQ]; rfl
        have hrz : rgtM z = true := by rw [hzd]; exact ((okM_iff B).1 (unhide HQ).symm).2.2
        have hez : encM z = B := by rw [hzd]; exact enc_dec (unhide HB) (unhide HQ).symm
        have HRZ := hide hrz
        have HEZ := hide hez
        clear hzd hrz hez
        go_wp2_with (refine wpList_store_man rfl (.tmp 17) (.tmp 62) rfl w2.heap.size rfl _ _ _ _ _ _ _ _ Gz rfl ⟨rfl, rfl, rfl, rfl⟩ ?_; intro w4 G4 K4; refine Hid.out ?_)
        obtain ⟨g4, hg4⟩ : ∃ g, g = w2.heap.size := ⟨_, rfl⟩
        rw [← hg4] at G4 K4 ⊢
        have k4 := kp_at hg4 K4
        have HK4 := hide ((unhide HK2).trans k4)
        have HS4 := hide ((unhide HS2).kept k4 (by simp))
        obtain ⟨y0, y1, y2, y3⟩ := cell_man G4
        have hC := mencode_ok _ z (unhide HRZ) w4 ((unhide HV2).kept k4)
        rw [unhide HEZ] at hC
        have HC := hide hC
        clear Gz G4 K4 k4 hg4 HK2 HS2 hC
        refine hide ?_
        go_wp2_with fail
        refine (unhide HC).mono ?_
        rintro ee w5 ⟨a5, m5, c5, rfl, R5, K5⟩
        have HK5 := hide ((unhide HK4).trans K5)
        have q1 := R5.sl.conv (P := Try.prog) 23 9 5 Try.underlying23 Try.underlying5 Try.underlying9
        have q2 := ((unhide HS4).kept K5 (by simp)).conv (P := Try.prog) 23 9 5 Try.underlying23 Try.underlying5 Try.underlying9
        obtain ⟨T, hT⟩ : ∃ T, T = strOfNums B := ⟨_, rfl⟩
        rw [← hT] at q1 q2
        have HC5 := hide (mknown_any w5)
        clear HC R5 K5 HK4 HS4 y0 y1 y2 y3 hT
        go_wp2_with fail
        refine (unhide HC5).mono ?_
        rintro ee w6 ⟨rfl, K6⟩
        have HK6 := hide ((unhide HK5).trans K6)
        clear K6 HC5 q1 q2
        go_wp2_with fail
        go_ret
        exact ⟨rfl, (unhide HK6).below (Nat.le_refl _) (by simp)⟩

set_option maxRecDepth 100000 in
theorem lifted (os : Os) (started : os.Started) (H : Type) (enc : TypeId × Value → H) :
    ReturnsInHanded {} Try.checked os 3 .any (Rows.manifestBackSpec.pre6 enc Try.prog Try.f3 Rows.manifestBackRow.domain false) (Rows.manifestBackSpec.post enc Try.prog Try.f3 false true false false) := by
  refine returnsInHanded_of_change_sized (C := Try.checked) own started (by kernel_rfl) Try.func3
    (ChangeSpec.witness6 (enc := enc) (C := Try.checked) false ⟨#[], #[.agg #[.string ⟨#[]⟩, .int .u32 0, .slice none 0 0, .slice none 0 0], .int .i64 0, .int .i64 0, .int .i64 0, .slice none 0 0], []⟩ 8 (by kernel_rfl) (by kernel_rfl) (by kernel_rfl) (by kernel_rfl)) ?_
  intro W base args ds gs before hval0 hW hcnd hsz0 _
  have hsz : (DataW.weightsEach Try.prog (Try.f3.params.toList ++ Rows.manifestBackSpec.plain.varTypes Try.prog) (ds ++ gs)).all (· ≤ reachBytes) = true := hsz0
  have hval : ∀ (j : Nat) t v, Try.f3.params[j]? = some t → args[j]? = some v → Value.okWide Try.prog W .any base t v := hval0
  have hW' := hW
  obtain ⟨p, q, hA0, hV, rfl, hfz, hnd⟩ := hW
  have hA : DataW.TrodAll enc Try.prog W 0 (fun _ => true) true Try.f3.params.toList args.toList ds p := hA0
  rw [Try.params3] at hA hval hsz
  obtain ⟨v0, vs0, d0, ds0, p0, q0, hargs, rfl, rfl, h0, r0⟩ := trodAll_cons hA
  obtain ⟨v1, vs1, d1, ds1, p1, q1, rfl, rfl, rfl, h1, r1⟩ := trodAll_cons r0
  obtain ⟨v2, vs2, d2, ds2, p2, q2, rfl, rfl, rfl, h2, r2⟩ := trodAll_cons r1
  obtain ⟨v3, vs3, d3, ds3, p3, q3, rfl, rfl, rfl, h3, r3⟩ := trodAll_cons r2
  obtain ⟨v4, vs4, d4, ds4, p4, q4, rfl, rfl, rfl, h4, r4⟩ := trodAll_cons r3
  obtain ⟨rfl, rfl, rfl⟩ := trodAll_nil r4
  obtain rfl : args = #[v0, v1, v2, v3, v4] := by cases args; simp_all
  obtain ⟨rfl, rfl⟩ := trodVars_none hV
  have k0 := h0
  have lt0 : ∀ x ∈ p0, x.block < W.heap.size := by obtain ⟨m, hm⟩ := k0; exact DataW.trod_lt m _ _ _ hm
  obtain ⟨l0, s0, z0⟩ := man_open (hval 0 25 v0 rfl rfl) h0
  obtain ⟨a1, rfl, rfl, rfl, w1⟩ := open_int Try.underlying3 (hval 1 3 v1 rfl rfl) h1
  obtain ⟨a2, rfl, rfl, rfl, w2⟩ := open_int Try.underlying3 (hval 2 3 v2 rfl rfl) h2
  obtain ⟨a3, rfl, rfl, rfl, w3⟩ := open_int Try.underlying3 (hval 3 3 v3 rfl rfl) h3
  obtain ⟨a4, len4, cap4, rfl⟩ := okWide_slice Try.underlying23 (hval 4 23 v4 rfl rfl)
  have k4 := h4
  have lt4 : ∀ x ∈ p4, x.block < W.heap.size := by obtain ⟨m, hm⟩ := k4; exact DataW.trod_lt m _ _ _ hm
  obtain ⟨l4, s4, b4⟩ : ∃ bs, Sl W (.slice a4 len4 cap4) bs ∧ Bs bs := by
    obtain ⟨fuel, hf⟩ := h4
    exact bytes_of_trod (by simpa [Value.cells] using hf)
  have z4 : l4.length ≤ 140737488351232 := by
    obtain ⟨fuel, hf⟩ := k4
    exact sl_len s4 (reach_bytes (j := 4) (by simpa [Value.cells] using hf) hsz rfl rfl)
  clear hA0 hval0
  refine (walk v0 l0 a1 a2 a3 (.slice a4 len4 cap4) l4 W s0 z0 (bounds_i64 w1) (bounds_i64 w2) (bounds_i64 w3) s4 b4 z4).mono fun e W' ⟨he, bel⟩ => ?_
  subst he
  exact ⟨_, rfl, _, _, _, [], _, [], hW', trodAll_mk1 (shut_bool Try.underlying4 _), (trodAll_cons_mk (Below.trod laidOut (by kernel_rfl) (of_decide_eq_true (by kernel_rfl)) k0 bel lt0) (trodAll_cons_mk (shut_int Try.underlying3 w1) (trodAll_cons_mk (shut_int Try.underlying3 w2) (trodAll_cons_mk (shut_int Try.underlying3 w3) (trodAll_cons_mk (Below.trod laidOut (by kernel_rfl) (of_decide_eq_true (by kernel_rfl)) k4 bel lt4) trodAll_mk0))))), rfl, bel.frame _, fun h => by cases h⟩

theorem over : Rows.manifestBackRow.holds Try.pinned (OpenSpec.ofChange Rows.manifestBackSpec) :=
  OpenClaim.holds_of_wide 3 Try.f3 rfl rfl rfl rfl rfl rfl rfl ⟨rfl, rfl, rfl, rfl, rfl⟩ rfl rfl rfl rfl rfl (by kernel_rfl) Try.func3 (by kernel_rfl)
    (of_decide_eq_true (by kernel_rfl)) (by unfold Func.isWrapper; first | (rw [if_pos (by decide +kernel)]; kernel_rfl) | (rw [if_neg (by decide +kernel)]; exact ⟨rfl, rfl⟩))
    (fun os started H enc _ => lifted os started H enc)
end Go.Proofs.Ytioflclfgkcpfaa.manifestBack

namespace Go.Proofs.Ytioflclfgkcpfaa
/-- The given statement. -/
theorem ManifestBack_holds : Rows.ManifestBackSaid := manifestBack.over
#print axioms ManifestBack_holds
end Go.Proofs.Ytioflclfgkcpfaa
