/-
  The statement ProofChainsCardSaid: for all sizes the law function ProofChains returns true and leaves its argument as it was; the table hash.roundWords starts as the program's text lays it (tied). No other condition.
-/
import Derived.Test.YtphhofgjnlfjmaaDoorKPKnown
import Derived.Test.YtphhofgjnlfjmaaDoorKHInts
import Derived.Test.YtphhofgjnlfjmaaDoorTie
import Derived.Test.YtphhofgjnlfjmaaDoorCards
import Derived.SevenTiedAt
namespace Go.Proofs.YtphhofgjnlfjmaaDoor.proofChains
open Go.ChangeShapes Go.WideShapes Go.ChangeAt Go.RowKit
open Go.Proofs.YtphhofgjnlfjmaaDoor
set_option linter.unusedVariables false

set_option maxRecDepth 100000 in
set_option maxHeartbeats 1500000 in
theorem walk (v0 : Value) (zs : List Int) (w : World) (hG : Gl w) (hz0 : Ints w v0 zs) :
    Calls Tryd.prog 8 #[v0] w fun e w' => e = .returned (.bool true) ∧ Below w.heap.size w w' := by
  have HG := hide hG
  have HZ := hide hz0
  obtain ⟨az, cz, hv, hz1, -⟩ := hz0
  obtain ⟨Z, hZ⟩ : ∃ Z, Z = zs.length := ⟨_, rfl⟩
  rw [← hZ] at hv hz1
  subst hv
  have HZN := hide hZ
  have hZi : (Z : Int) ≤ 9223372036854775807 := by unfold maxLen at hz1; omega
  clear hG hZ hz1
  go_enter Tryd.func8, Tryd.ntmps8
  go_wp2_with fail
  go_loopw [3, 4] (fun a i wr => ∃ A k : Nat, k ≤ 12 ∧ k ≤ Z ∧ A ≤ 15 * k ∧ a = .int .i64 A ∧ i = .int .i64 k ∧ Kp [] w wr) (fun _ i _ => 12 - (intOf i).toNat)
  case atStart => exact ⟨0, 0, by omega, by omega, by omega, rfl, rfl, Kp.refl _ _⟩
  case round =>
    obtain ⟨A, k, hk12, hkZ, hA, rfl, rfl, Kr⟩ := hrel
    have HKr := hide Kr
    clear Kr
    by_cases hlt : k < 12 ∧ k < Z
    · obtain ⟨hlt1, hlt2⟩ := hlt
      have hl1 : (k : Int) < 12 := by omega
      have hl2 : (k : Int) < (Z : Int) := by omega
      obtain ⟨_, _, e, _, hzb, hzc⟩ := unhide HZ
      obtain ⟨ad, rfl, hcz⟩ := hzc k (by rw [← unhide HZN]; exact hlt2)
      injection e with e1 e2 e3
      subst e1
      have hcw := (unhide HKr).cell hcz (by simp)
      have hxb := hzb zs[k] (List.getElem_mem _)
      obtain ⟨x, hx⟩ : ∃ x, x = zs[k]'(by rw [← unhide HZN]; exact hlt2) := ⟨_, rfl⟩
      rw [← hx] at hcw hxb
      have HCW := hide (within_any x 0 15 wr (by omega) (by omega) (by omega) hxb)
      clear hcz hzb hzc hx e2 e3 hxb
      go_wp2_with fail
      refine (unhide HCW).mono ?_
      rintro ee w9 ⟨xy, rfl, hy0, hy1, hw⟩
      subst w9
      obtain ⟨y, rfl⟩ := Int.eq_ofNat_of_zero_le hy0
      obtain ⟨M, hM⟩ : ∃ M, A + y = M := ⟨_, rfl⟩
      have hMi : (A : Int) + (y : Int) = (M : Int) := by omega
      have hAM : A ≤ M := by omega
      have hM180 : M ≤ 15 * (k + 1) := by omega
      have hy15 : y ≤ 15 := by omega
      have HCK := hide (kl_any M wr (by omega))
      clear HCW hy0 hy1 hcw hM
      go_wp2_with fail
      clear hMi
      refine (unhide HCK).mono ?_
      rintro ee w1 ⟨al, cl, rfl, L1, K1⟩
      obtain ⟨ls, hls⟩ : ∃ ls, ls = kleavesP M := ⟨_, rfl⟩
      rw [← hls] at L1
      have hll : ls.length = M := by rw [hls, kleavesP_len]
      have h32 : ∀ x ∈ ls, x.length = 32 := by rw [hls]; exact kleavesP_all M
      have hm : ∀ x ∈ ls, x.length ≤ 1000 := fun x hx => by have := h32 x hx; omega
      have HK1 := hide ((unhide HKr).trans K1)
      have hG1 : Gl w1 := (unhide HG).kept (unhide HK1) (by simp)
      have hC := grow_ok _ ls A w1 L1 (by rw [hll]; exact hAM) (by rw [hll]; omega) hm hG1
      obtain ⟨ps, hps⟩ : ∃ ps, ps = growP A ls := ⟨_, rfl⟩
      obtain ⟨q, hq⟩ : ∃ q, q = trootP (ls.take A) := ⟨_, rfl⟩
      obtain ⟨r, hr⟩ : ∃ r, r = trootP ls := ⟨_, rfl⟩
      have hcp := cgrP_grow (m := A) h32 (by rw [hll]; omega) (by rw [hll]; exact hAM)
      rw [← hps, hll] at hC
      rw [← hps, ← hq, ← hr, hll] at hcp
      have HCP := hide hcp
      have HC := hide hC
      have HQ := hide hq
      have HRR := hide hr
      have HQB : Hid (Bs q) := by rw [hq]; exact trootP_bs _ (fun x hx => L1.bs x (List.mem_of_mem_take hx))
      have hpl : ps.length ≤ 11 := by rw [hps]; exact growP_1000 (by rw [hll]; omega) (by rw [hll]; exact hAM)
      have HMT : Hid (∀ x ∈ ls.take A, x.length ≤ 1000) := fun x hx => hm x (List.mem_of_mem_take hx)
      have HLT : Hid ((ls.take A).length = A) := hide (by rw [List.length_take, hll]; omega)
      have HAL : Hid (A ≤ ls.length) := hide (by rw [hll]; exact hAM)
      have HM := hide hm
      have HNL := hide hll
      have HL1 := hide L1
      have HG1 := hide hG1
      clear L1 K1 HCK hls hll h32 hm hG1 hC hps hq hr hcp
      go_wp2_with fail
      refine (unhide HC).mono ?_
      rintro ee w4 ⟨v4, rfl, V4, K4⟩
      obtain ⟨a4, c4, e4, -⟩ := V4.shape
      obtain ⟨m4, hm4⟩ : ∃ m, m = ps.length := ⟨_, rfl⟩
      rw [← hm4] at e4 hpl
      subst e4
      have hm16 : ¬ (16 : Int) < (m4 : Int) := by omega
      have HV4 := hide V4
      have HK4 := hide K4
      have G4 := heap_alloc_new w4 (.cells #[.int .i64 0, .int .i64 0, .slice none 0 0] 39)
      clear V4 K4 HC hm4 hpl
      go_wp2_with (refine wpList_store_tri triG rfl (.tmp 7) (.tmp 32) rfl w4.heap.size rfl _ _ _ _ _ _ G4 rfl ⟨rfl, rfl, rfl⟩ ?_; intro w5 G5 K5; refine Hid.out ?_)
      have K45 : Kp [] w4 w5 := ((Kp.refl [] w4).alloc _).then K5 (by simp)
      have K15 : Kp [] w1 w5 := (unhide HK4).trans K45
      have HK5 := hide ((unhide HK1).trans K15)
      obtain ⟨g0, hg0⟩ : ∃ g, g = w4.heap.size := ⟨_, rfl⟩
      rw [← hg0] at G5 ⊢
      have HST : Hid (∀ w', Kp [] w5 w' → w'.heap[g0]? = some (.cells #[.int .i64 A, .int .i64 M, .slice a4 m4 c4] 39 (0, 0))) := fun w' k => k.heap G5 (by simp)
      have HV5 : Hid (∀ w', Kp [] w5 w' → TV w' (.agg #[.int .i64 A, .int .i64 M, .slice a4 m4 c4]) A M ps) := fun w' k => (unhide HV4).kept (K45.trans k)
      have HLL : Hid (∀ w', Kp [] w5 w' → LcM ls (.slice al M cl) w') := fun w' k => (unhide HL1).kept (K15.trans k)
      have HG5 : Hid (∀ w', Kp [] w5 w' → Gl w') := fun w' k => (unhide HG1).kept (K15.trans k) (by simp)
      have HD5 : Hid (∀ w', Kp [] w5.drew w' → Kp [] w5 w') := fun w' k => (kp_drew w5).trans k
      clear G4 G5 K5 K45 K15 hg0
      refine hide ?_
      go_wp2_with fail
      refine region_grow Tryd.mixed [Is (.int .i64 0), Is (.bool false), Is (.bool false), Is (.agg #[.int .i64 A, .int .i64 M, .slice a4 m4 c4]), Is (.slice al M cl), Is (.int .i64 A), LcM ((ls).take A), SlT (q), Is (.slice al M cl), SlT (r), Is (.bool true), Is (.bool false), Is (.bool false), Is (.bool false), Is (.pointer (some ⟨g0, 2, none⟩)), Is (.slice a4 m4 c4), Is (.int .i64 m4), Is (.bool false), Is (.bool false)] [[(8, none)], [(34, some 0)], [(35, some 1)], [(7, none), (36, some 2)], [(6, none), (36, some 2)], [(3, none), (36, some 2)], [(38, some 4), (39, some 5), (36, some 2)], [(40, some 6), (36, some 2)], [(6, none), (36, some 2)], [(42, some 8), (36, some 2)], [(37, some 3), (41, some 7), (43, some 9), (36, some 2)], [(44, some 10), (36, some 2)], [(36, some 2), (45, some 11)], [(46, some 12)], [(7, none), (47, some 13)], [(48, some 14), (47, some 13)], [(49, some 15), (47, some 13)], [(50, some 16), (47, some 13)], [(47, some 13), (51, some 17)]] (by kernel_rfl) ?_ ?_ ?_
      · simp only [List.mem_cons, List.not_mem_nil, or_false]
        intro R hR
        rcases hR with rfl | rfl | rfl | rfl | rfl | rfl | rfl | rfl | rfl | rfl | rfl | rfl | rfl | rfl | rfl | rfl | rfl | rfl | rfl <;> first | exact stable_is _ | exact stable_lcm _ | exact stable_sl _
      · refine steps_cons (fun a w hk hn => ?_) ?_
        · have h8 : a.eval (.tmp 8) = .int .i64 0 := hn.1
          clear hn
          refine wants_plain rfl ?_
          exact grown_move (.tmp 8) rfl h8
        refine steps_cons (fun a w hk hn => ?_) ?_
        · have h34 : a.eval (.tmp 34) = .int .i64 0 := hn.1
          clear hn
          refine wants_plain rfl ?_
          refine grown_run (v := .bool false) ?_ (Kp.refl _ _) rfl
          obtain ⟨ρ, hρ, hc, hf, hg⟩ := eval_is a
          rw [hρ] at h34 ⊢
          simp [go_sem, hc, h34]
        refine steps_cons (fun a w hk hn => ?_) ?_
        · have h35 : a.eval (.tmp 35) = .bool false := hn.1
          clear hn
          refine wants_plain rfl ?_
          exact grown_move (.tmp 35) rfl h35
        refine steps_cons (fun a w hk hn => ?_) ?_
        · have h7 : a.eval (.tmp 7) = .pointer (some ⟨g0, 0, none⟩) := hn.1
          have h36 : a.eval (.tmp 36) = .bool false := hn.2.1
          clear hn
          refine wants_guard (d := 36) rfl rfl h36 ?_
          exact grown_loadtri triG (.tmp 7) rfl h7 ((fun w'' k => unhide HST w'' (unhide HD5 w'' k)) w hk) rfl
        refine steps_cons (fun a w hk hn => ?_) ?_
        · have h6 : a.eval (.tmp 6) = .slice al M cl := hn.1
          have h36 : a.eval (.tmp 36) = .bool false := hn.2.1
          clear hn
          refine wants_guard (d := 36) rfl rfl h36 ?_
          exact grown_move (.tmp 6) rfl h6
        refine steps_cons (fun a w hk hn => ?_) ?_
        · have h3 : a.eval (.tmp 3) = .int .i64 A := hn.1
          have h36 : a.eval (.tmp 36) = .bool false := hn.2.1
          clear hn
          refine wants_guard (d := 36) rfl rfl h36 ?_
          exact grown_move (.tmp 3) rfl h3
        refine steps_cons (fun a w hk hn => ?_) ?_
        · have h38 : a.eval (.tmp 38) = .slice al M cl := hn.1
          have h39 : a.eval (.tmp 39) = .int .i64 A := hn.2.1
          have h36 : a.eval (.tmp 36) = .bool false := hn.2.2.1
          clear hn
          refine wants_guard (d := 36) rfl rfl h36 ?_
          exact grown_lhead (.tmp 38) (.tmp 39) (ls) A rfl (by rw [h38]; exact (fun w'' k => unhide HLL w'' (unhide HD5 w'' k)) w hk) h39 (unhide HAL)
        refine steps_cons (fun a w hk hn => ?_) ?_
        · have h40 : (LcM ((ls).take A)) (a.eval (.tmp 40)) w := hn.1
          have h36 : a.eval (.tmp 36) = .bool false := hn.2.1
          clear hn
          refine wants_guard (d := 36) rfl rfl h36 ?_
          refine grown_call (f := 18) rfl Tryd.func18 (by kernel_rfl) (by kernel_rfl) ?_
          simp only [List.map_toArray, List.map_cons, List.map_nil]
          refine (rroot_any A _ (ls.take A) q w (unhide HQ) (unhide HLT) (by omega) h40 (unhide HMT)).mono ?_
          rintro e w' ⟨ao, m, c, rfl, R, K⟩
          exact ⟨_, rfl, K, R⟩
        refine steps_cons (fun a w hk hn => ?_) ?_
        · have h6 : a.eval (.tmp 6) = .slice al M cl := hn.1
          have h36 : a.eval (.tmp 36) = .bool false := hn.2.1
          clear hn
          refine wants_guard (d := 36) rfl rfl h36 ?_
          exact grown_move (.tmp 6) rfl h6
        refine steps_cons (fun a w hk hn => ?_) ?_
        · have h42 : a.eval (.tmp 42) = .slice al M cl := hn.1
          have h36 : a.eval (.tmp 36) = .bool false := hn.2.1
          clear hn
          refine wants_guard (d := 36) rfl rfl h36 ?_
          refine grown_call (f := 18) rfl Tryd.func18 (by kernel_rfl) (by kernel_rfl) ?_
          simp only [List.map_toArray, List.map_cons, List.map_nil, h42]
          refine (rroot_any M _ ls r w (unhide HRR) (unhide HNL) (by omega) (unhide HLL w (unhide HD5 w hk)) (unhide HM)).mono ?_
          rintro e w' ⟨ao, m, c, rfl, R, K⟩
          exact ⟨_, rfl, K, R⟩
        refine steps_cons (fun a w hk hn => ?_) ?_
        · have h37 : a.eval (.tmp 37) = .agg #[.int .i64 A, .int .i64 M, .slice a4 m4 c4] := hn.1
          have h41 : Sl w (a.eval (.tmp 41)) (q) := hn.2.1
          have h43 : Sl w (a.eval (.tmp 43)) (r) := hn.2.2.1
          have h36 : a.eval (.tmp 36) = .bool false := hn.2.2.2.1
          clear hn
          refine wants_guard (d := 36) rfl rfl h36 ?_
          refine grown_call (f := 27) rfl Tryd.func27 (by kernel_rfl) (by kernel_rfl) ?_
          simp only [List.map_toArray, List.map_cons, List.map_nil, h37]
          refine (cgrow_any _ _ _ A M ps q r w (unhide HV5 w (unhide HD5 w hk)) h41 (unhide HQB) h43 (by omega) (unhide HG5 w (unhide HD5 w hk))).mono ?_
          rintro e w' ⟨rfl, K⟩
          exact ⟨_, rfl, K, congrArg Value.bool (unhide HCP)⟩
        refine steps_cons (fun a w hk hn => ?_) ?_
        · have h44 : a.eval (.tmp 44) = .bool true := hn.1
          have h36 : a.eval (.tmp 36) = .bool false := hn.2.1
          clear hn
          refine wants_guard (d := 36) rfl rfl h36 ?_
          refine grown_run (v := .bool false) ?_ (Kp.refl _ _) rfl
          obtain ⟨ρ, hρ, hc, hf, hg⟩ := eval_is a
          rw [hρ] at h44 ⊢
          simp [go_sem, h44]
        refine steps_cons (fun a w hk hn => ?_) ?_
        · have h36 : a.eval (.tmp 36) = .bool false := hn.1
          have h45 : a.eval (.tmp 45) = .bool false := hn.2.1
          clear hn
          refine wants_plain rfl ?_
          exact grown_pick _ _ _ false rfl h36 h45
        refine steps_cons (fun a w hk hn => ?_) ?_
        · have h46 : a.eval (.tmp 46) = .bool false := hn.1
          clear hn
          refine wants_plain rfl ?_
          exact grown_move (.tmp 46) rfl h46
        refine steps_cons (fun a w hk hn => ?_) ?_
        · have h7 : a.eval (.tmp 7) = .pointer (some ⟨g0, 0, none⟩) := hn.1
          have h47 : a.eval (.tmp 47) = .bool false := hn.2.1
          clear hn
          refine wants_guard (d := 47) rfl rfl h47 ?_
          exact grown_fld2 triG (.tmp 7) rfl h7
        refine steps_cons (fun a w hk hn => ?_) ?_
        · have h48 : a.eval (.tmp 48) = .pointer (some ⟨g0, 2, none⟩) := hn.1
          have h47 : a.eval (.tmp 47) = .bool false := hn.2.1
          clear hn
          refine wants_guard (d := 47) rfl rfl h47 ?_
          exact grown_ldl (.tmp 48) rfl 2 _ _ _ h48 (cell_tri ((fun w'' k => unhide HST w'' (unhide HD5 w'' k)) w hk)).2.2
        refine steps_cons (fun a w hk hn => ?_) ?_
        · have h49 : a.eval (.tmp 49) = .slice a4 m4 c4 := hn.1
          have h47 : a.eval (.tmp 47) = .bool false := hn.2.1
          clear hn
          refine wants_guard (d := 47) rfl rfl h47 ?_
          refine grown_run (v := .int .i64 m4) ?_ (Kp.refl _ _) rfl
          obtain ⟨ρ, hρ, hc, hf, hg⟩ := eval_is a
          rw [hρ] at h49 ⊢
          simp [go_sem, h49]
        refine steps_cons (fun a w hk hn => ?_) ?_
        · have h50 : a.eval (.tmp 50) = .int .i64 m4 := hn.1
          have h47 : a.eval (.tmp 47) = .bool false := hn.2.1
          clear hn
          refine wants_guard (d := 47) rfl rfl h47 ?_
          refine grown_run (v := .bool false) ?_ (Kp.refl _ _) rfl
          obtain ⟨ρ, hρ, hc, hf, hg⟩ := eval_is a
          rw [hρ] at h50 ⊢
          simp [go_sem, hc, h50, hm16]
        refine steps_cons (fun a w hk hn => ?_) ?_
        · have h47 : a.eval (.tmp 47) = .bool false := hn.1
          have h51 : a.eval (.tmp 51) = .bool false := hn.2.1
          clear hn
          refine wants_plain rfl ?_
          exact grown_pick _ _ _ false rfl h47 h51
        exact trivial
      intro W1 hkW1
      rintro _ rfl
      rintro _ rfl
      rintro _ rfl
      rintro _ rfl
      rintro _ rfl
      rintro _ rfl
      intro v40 h40
      intro v41 h41
      rintro _ rfl
      intro v43 h43
      rintro _ rfl
      rintro _ rfl
      rintro _ rfl
      rintro _ rfl
      rintro _ rfl
      rintro _ rfl
      rintro _ rfl
      rintro _ rfl
      rintro _ rfl
      refine fin_nil ?_
      simp only [Act.put, List.set_cons_zero, List.set_cons_succ, List.setIfInBounds_toArray]
      have HKW := hide ((unhide HK5).trans (unhide HD5 W1 hkW1))
      clear hkW1 h40 h41 h43
      go_wp2_with fail
      go_roundw
      case rel => exact ⟨M, k + 1, by omega, by omega, by omega, rfl, by go_num, unhide HKW⟩
      case measure => simp [intOf]; omega
    · have HC := hide (pknown_any wr ((unhide HG).kept (unhide HKr) (by simp)))
      by_cases h1 : k < Z
      · have h2 : ¬ (k : Int) < 12 := by omega
        have h3 : (k : Int) < (Z : Int) := by omega
        clear hlt
        go_wp2_with fail
        refine (unhide HC).mono ?_
        rintro ee w1 ⟨rfl, K1⟩
        have HK1 := hide K1
        clear K1 HC
        go_wp2_with fail
        go_ret
        exact ⟨rfl, ((unhide HKr).trans (unhide HK1)).below (Nat.le_refl _) (by simp)⟩
      · have h3 : ¬ (k : Int) < (Z : Int) := by omega
        clear hlt
        go_wp2_with fail
        refine (unhide HC).mono ?_
        rintro ee w1 ⟨rfl, K1⟩
        have HK1 := hide K1
        clear K1 HC
        go_wp2_with fail
        go_ret
        exact ⟨rfl, ((unhide HKr).trans (unhide HK1)).below (Nat.le_refl _) (by simp)⟩

set_option maxRecDepth 100000 in
theorem lifted (os : Os) (started : os.Started) (H : Type) (enc : TypeId × Value → H) :
    ReturnsInHanded {} Tryd.checked os 8 .any (fun w args => (Rows.proofChainsSpec.pre enc Tryd.prog Tryd.f8 [] false w args ∧ laidMetH Tryd.prog laid1 w) ∧ sizedMet enc Tryd.prog Tryd.f8 (OpenSpec.ofChange Rows.proofChainsSpec) false w args) (Rows.proofChainsSpec.post enc Tryd.prog Tryd.f8 false true false false) := by
  refine returnsInHanded_of_change_and (C := Tryd.checked) (X := fun w _ => laidMetH Tryd.prog laid1 w) (fun _ _ _ hh h => h.of_heap hh) own started (by kernel_rfl) Tryd.func8
    (ChangeSpec.witness_shaped (enc := enc) (C := Tryd.checked) (os := os) (X := fun w _ => laidMetH Tryd.prog laid1 w) false (World.doorLaid Tryd.prog 400 os) #[.slice none 0 0] 8 rfl (World.shaped_of_RefB (by kernel_rfl) (by kernel_rfl)) (by kernel_rfl) (by kernel_rfl) (by kernel_rfl) (door_met os _)) ?_
  intro W base args ds gs before hval0 hW hcnd hsz0 hL _
  have hG := gl_of_laid hL
  have hval : ∀ (j : Nat) t v, Tryd.f8.params[j]? = some t → args[j]? = some v → Value.okWide Tryd.prog W .any base t v := hval0
  have hW' := hW
  obtain ⟨p, q, hA0, hV, rfl, hfz, hnd⟩ := hW
  have hA : DataW.TrodAll enc Tryd.prog W 0 (fun _ => true) true Tryd.f8.params.toList args.toList ds p := hA0
  rw [Tryd.params8] at hA hval
  obtain ⟨v0, vs0, d0, ds0, p0, q0, hargs, rfl, rfl, h0, r0⟩ := trodAll_cons hA
  obtain ⟨rfl, rfl, rfl⟩ := trodAll_nil r0
  obtain rfl : args = #[v0] := by cases args; simp_all
  obtain ⟨rfl, rfl⟩ := trodVars_none hV
  obtain ⟨a0, len0, cap0, rfl⟩ := okWide_slice Tryd.underlying48 (hval 0 48 v0 rfl rfl)
  have k0 := h0
  have lt0 : ∀ x ∈ p0, x.block < W.heap.size := by obtain ⟨m, hm⟩ := k0; exact DataW.trod_lt m _ _ _ hm
  obtain ⟨l0, s0⟩ : ∃ l, Ints W (.slice a0 len0 cap0) l := by
    obtain ⟨fuel, hf⟩ := h0
    exact ints_of_trod (by simpa [Value.cells] using hf)
  clear hA0 hval0
  refine (walk (.slice a0 len0 cap0) l0 W hG s0).mono fun e W' ⟨he, bel⟩ => ?_
  subst he
  exact ⟨_, rfl, _, _, _, [], _, [], hW', trodAll_mk1 (shut_bool Tryd.underlying4 _), (trodAll_cons_mk (Below.trod laidOut (by kernel_rfl) (of_decide_eq_true (by kernel_rfl)) k0 bel lt0) trodAll_mk0), rfl, bel.frame _, fun h => by cases h⟩

theorem over : Rows.proofChainsRow.holds Tryd.pinned (OpenSpec.ofChange Rows.proofChainsSpec) :=
  OpenClaim.holds_of_wide 8 Tryd.f8 rfl rfl rfl rfl rfl rfl rfl ⟨rfl, rfl, rfl, rfl, rfl⟩ rfl rfl rfl rfl rfl (by kernel_rfl) Tryd.func8 (by kernel_rfl)
    (of_decide_eq_true (by kernel_rfl)) (by unfold Func.isWrapper; first | (rw [if_pos (by decide +kernel)]; kernel_rfl) | (rw [if_neg (by decide +kernel)]; exact ⟨rfl, rfl⟩))
    (fun os started H enc _ => lifted os started H enc)
end Go.Proofs.YtphhofgjnlfjmaaDoor.proofChains

namespace Go.Proofs.YtphhofgjnlfjmaaDoor
/-- The given statement: the tied card. -/
theorem ProofChains_holds : Rows.ProofChainsCardSaid :=
  Claim7.holds_tied_plain_at .later [] [.data] true Rows.proofChainsCard.stood.harness false
    proofChains.over (fun _ h => by cases h) (by kernel_rfl) (fun _ h => by cases h) proofChains_row_tie rfl ⟨rfl, rfl⟩ (by kernel_rfl) rfl
    (fun f fn hf hfn => by
      obtain rfl : f = 8 := Option.some.inj ((show Tryd.prog.funcNamed "broadsheet/broadsheetlaw8.ProofChains" = some 8 by kernel_rfl).symm.trans hf) |>.symm
      obtain rfl : fn = Tryd.f8 := (Option.some.inj (Tryd.func8.symm.trans hfn)).symm
      exact ⟨by kernel_rfl, fun j t ht => by
        rw [Tryd.params8] at ht
        have hm : t ∈ ([48] : List TypeId) := by simpa using Array.mem_of_getElem? ht
        have hall : (([48] : List TypeId).all fun u => !Tryd.prog.wantsStandIn u) = true := by kernel_rfl
        exact (show Tryd.prog.wantsStandIn t = false by simpa using List.all_eq_true.1 hall t hm)⟩)
    (by kernel_rfl)
#print axioms ProofChains_holds
end Go.Proofs.YtphhofgjnlfjmaaDoor
