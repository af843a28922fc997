/-
  The statement ProofLiesCardSaid: for all numbers and bytes the law function ProofLies returns true and leaves its arguments as they were; the table hash.roundWords starts as the program's text lays it (tied). No other condition.
-/
import Derived.Test.YtphhofgjnlfjmaaDoorKPKnown
import Derived.Test.YtphhofgjnlfjmaaDoorKLMore
import Derived.Test.YtphhofgjnlfjmaaDoorKLSpot
import Derived.Test.YtphhofgjnlfjmaaDoorTie
import Derived.Test.YtphhofgjnlfjmaaDoorCards
import Derived.SevenTiedAt
namespace Go.Proofs.YtphhofgjnlfjmaaDoor.proofLies
open Go.ChangeShapes Go.WideShapes Go.ChangeAt Go.RowKit
open Go.Proofs.YtphhofgjnlfjmaaDoor
set_option linter.unusedVariables false

set_option maxRecDepth 100000 in
set_option maxHeartbeats 1500000 in
theorem walk (n i : Int) (v2 : Value) (bs2 : List Int) (w : World) (hG : Gl w) (hn : -9223372036854775808 ≤ n ∧ n ≤ 9223372036854775807) (hi : -9223372036854775808 ≤ i ∧ i ≤ 9223372036854775807) (hS2 : Sl w v2 bs2) (hB2 : Bs bs2) :
    Calls Tryd.prog 7 #[.int .i64 n, .int .i64 i, v2] w fun e w' => e = .returned (.bool true) ∧ Below w.heap.size w w' := by
  have HG := hide hG
  have HC := hide (within_any n 1 60 w (by omega) (by omega) (by omega) hn)
  have HS2 := hide hS2
  have HB2 := hide hB2
  obtain ⟨av, cv, hv, -⟩ := hS2
  obtain ⟨nv, hnv⟩ : ∃ m, m = bs2.length := ⟨_, rfl⟩
  rw [← hnv] at hv
  subst hv
  clear hG hB2 hnv hn
  go_enter Tryd.func7, Tryd.ntmps7
  go_wp2_with fail
  refine (unhide HC).mono ?_
  rintro ee w9 ⟨xn, rfl, hx0, hx1, hw⟩
  subst w9
  obtain ⟨N, rfl⟩ := Int.eq_ofNat_of_zero_le (by omega : 0 ≤ xn)
  have hN1 : 1 ≤ N := by omega
  have hN60 : N ≤ 60 := by omega
  have HCK := hide (kl_any N w (by omega))
  clear HC hx0 hx1
  go_wp2_with fail
  refine (unhide HCK).mono ?_
  rintro ee w1 ⟨al, cl, rfl, L1, K1⟩
  obtain ⟨ls, hls⟩ : ∃ ls, ls = kleavesP N := ⟨_, rfl⟩
  rw [← hls] at L1
  have hll : ls.length = N := by rw [hls, kleavesP_len]
  have h32 : ∀ x ∈ ls, x.length = 32 := by rw [hls]; exact kleavesP_all N
  have HNL := hide hll
  have H32 := hide h32
  have HML : Hid (∀ x ∈ ls, x.length ≤ 1000) := fun x hx => by have := h32 x hx; omega
  have hx0 := List.getElem?_eq_getElem (show 0 < ls.length by omega)
  obtain ⟨-, b, off, u, rfl, -⟩ := L1.at 0 _ hx0
  have HL1 := hide L1
  have HK1 := hide K1
  have HCW := hide (within_any i 0 ((N : Int) - 1) w1 (by omega) (by omega) (by omega) hi)
  clear L1 K1 HCK hls hx0 h32 hll hi
  go_wp2_with fail
  refine (unhide HCW).mono ?_
  rintro ee w9 ⟨xk, rfl, hk0, hk1, hw⟩
  subst w9
  obtain ⟨k, rfl⟩ := Int.eq_ofNat_of_zero_le hk0
  have hkN : k < N := by omega
  have HCS := hide (sized_any _ bs2 w1 ((unhide HS2).kept (unhide HK1) (by simp)) (unhide HB2))
  clear HCW hk0 hk1
  go_wp2_with fail
  refine (unhide HCS).mono ?_
  rintro ee w3 ⟨go, xs, rfl, hxl, hxb, R3, K3⟩
  have HXL := hide hxl
  have HXB := hide hxb
  have HR3 := hide R3
  have HK3 := hide ((unhide HK1).trans K3)
  have HL3 := hide ((unhide HL1).kept K3)
  have hC := include_ok _ ls k w3 (unhide HL3) (by rw [unhide HNL]; exact hkN) (by rw [unhide HNL]; omega) (unhide HML) ((unhide HG).kept (unhide HK3) (by simp))
  obtain ⟨ps, hps⟩ : ∃ ps, ps = incP ls k := ⟨_, rfl⟩
  rw [← hps, unhide HNL] at hC
  have HC := hide hC
  have HPS := hide hps
  clear hC hps hxl hxb R3 K3 HCS HL1
  go_wp2_with fail
  refine (unhide HC).mono ?_
  rintro ee w4 ⟨v4, rfl, V4, K4⟩
  obtain ⟨a4, c4, e4, -⟩ := V4.shape
  obtain ⟨m4, hm4⟩ : ∃ m, m = ps.length := ⟨_, rfl⟩
  rw [← hm4] at e4
  subst e4
  have HV4 := hide V4
  have HK4 := hide K4
  have G4 := heap_alloc_new w4 (.cells #[.int .i64 0, .int .i64 0, .slice none 0 0] 32)
  clear V4 K4 HC hm4
  go_wp2_with (refine wpList_store_tri triP rfl (.tmp 9) (.tmp 28) rfl w4.heap.size rfl _ _ _ _ _ _ G4 rfl ⟨rfl, rfl, rfl⟩ ?_; intro w5 G5 K5; refine Hid.out ?_)
  have K45 : Kp [] w4 w5 := ((Kp.refl [] w4).alloc _).then K5 (by simp)
  have HK5 := hide ((unhide HK3).trans ((unhide HK4).trans K45))
  have K35 : Kp [] w3 w5 := (unhide HK4).trans K45
  obtain ⟨g0, hg0⟩ : ∃ g, g = w4.heap.size := ⟨_, rfl⟩
  rw [← hg0] at G5 ⊢
  have HST : Hid (∀ w', Kp [] w5 w' → w'.heap[g0]? = some (.cells #[.int .i64 k, .int .i64 N, .slice a4 m4 c4] 32 (0, 0))) := fun w' k => k.heap G5 (by simp)
  have HV8 : Hid (∀ w', Kp [] w5 w' → TV w' (.agg #[.int .i64 k, .int .i64 N, .slice a4 m4 c4]) k N ps) := fun w' k => (unhide HV4).kept (K45.trans k)
  have HLL : Hid (∀ w', Kp [] w5 w' → LcM ls (.slice (some ⟨b, off, none⟩) N cl) w') := fun w' k => (unhide HL3).kept (K35.trans k)
  have HXR : Hid (∀ w', Kp [] w5 w' → Row w' w1.heap.size (.slice (some ⟨go, 0, none⟩) 32 32) xs) := fun w' k => (unhide HR3).kept (K35.trans k) (by simp)
  have HXS : Hid (∀ w', Kp [] w5 w' → Sl w' (.slice (some ⟨go, 0, none⟩) 32 32) xs) := fun w' k => (unhide HXR w' k).sl
  have HG8 : Hid (∀ w', Kp [] w5 w' → Gl w') := fun w' k => (unhide HG).kept ((unhide HK5).trans k) (by simp)
  obtain ⟨l, hLc, hlm⟩ := unhide HLL w5 (Kp.refl _ _)
  have hln : l.length = N := by rw [← List.length_map (f := (·.2)), hlm, unhide HNL]
  have hys : (l.map (·.1)).length = N := by rw [List.length_map, hln]
  have K6 : Kp [] w5 (w5.alloc (.cells #[] 30)) := (Kp.refl [] w5).alloc _
  have HLS : Hid (Lists w5 (.slice (some ⟨b, off, none⟩) l.length cl) l) := by rw [hln]; exact hLc.1
  have HCY : Hid (∀ j u, (l.map (·.1))[j]? = some u → (w5.alloc (.cells #[] 30)).cell? ((⟨b, off, none⟩ : Addr).add j) = some u) := by
    intro j u hu
    rw [List.getElem?_map] at hu
    obtain ⟨y, hy, rfl⟩ := Option.map_eq_some_iff.1 hu
    obtain ⟨hj, rfl⟩ := List.getElem?_eq_some_iff.1 hy
    obtain ⟨_, _, e, _, h2⟩ := hLc.1
    cases e
    obtain ⟨b', off', e', h3, _⟩ := h2 j hj
    cases e'
    rw [Addr.add_lit]
    exact K6.cell h3 (by simp)
  have HOC : Hid (∀ u ∈ l.map (·.1), u.oneCell' = true) := by
    intro u hu
    obtain ⟨y, hy, rfl⟩ := List.mem_map.1 hu
    obtain ⟨j, hj, rfl⟩ := List.getElem_of_mem hy
    obtain ⟨_, _, e, _, h2⟩ := hLc.1
    obtain ⟨_, _, _, _, hS, _⟩ := h2 j hj
    obtain ⟨_, _, e2, _⟩ := hS
    rw [e2]; rfl
  have R0 : RowV (w5.alloc (.cells #[] 30)) w5.heap.size (.slice (some ⟨w5.heap.size, 0, none⟩) 0 0) [] := ⟨by simp, .inr ⟨w5.heap.size, 0, #[], rfl, Nat.le_refl _, heap_alloc_new w5 _, by simp, by simp [maxLen], by simp, by simp⟩⟩
  have HR0 := hide R0
  have HYS := hide hys
  have HLM2 := hide hlm
  have HLN := hide hln
  have HK6 := hide K6
  clear G4 G5 K5 K45 K35 hg0 hLc hlm hln hys R0 K6
  refine hide ?_
  go_wp2_with (at_builtin; refine wpList_append_rowv rfl (.tmp 32) (.tmp 33) rfl w5.heap.size (.slice (some ⟨w5.heap.size, 0, none⟩) 0 0) [] rfl (unhide HR0) ⟨b, off, none⟩ cl (l.map (·.1)) (by rw [unhide HYS]; rfl) (unhide HCY) (unhide HOC) (by rw [unhide HYS]; simp; omega) (by simp) ?_; intro am mm cm w7 r7 s7; refine Hid.out ?_)
  have K7 : Kp [] w5 w7 := (unhide HK6).then s7.1 (fun i hi => .inr (by simp [Value.ownBlock] at hi; omega))
  rw [List.nil_append] at r7
  have RS7 := rowS_copy (unhide HLS) r7 K7
  have hmm : mm = N := by have := r7.len; rw [this, unhide HYS]
  subst hmm
  obtain ⟨gm, e, hb, hlt, -, hcells, hfr⟩ := RS7.spot (by omega)
  subst e
  obtain ⟨uk, hck⟩ := hcells k hkN
  have hfk := hfr k
  have hkNi : (k : Int) < (mm : Int) := by omega
  have hap : (Value.slice (some ⟨go, 0, none⟩) 32 32).ownBlock = some gm → xs = [] := fun e => by
    obtain ⟨c1, h1⟩ := row_ty (unhide HXR w7 K7) e
    obtain ⟨c2, h2⟩ := rowv_ty RS7.1 (k := gm) rfl
    rw [h1] at h2
    injection h2 with h2
    injection h2 with _ h2
    cases h2
  have RS8 := RS7.set k (.slice (some ⟨go, 0, none⟩) 32 32, xs) (unhide HXS w7 K7) (unhide HXB) hap
  have K8 : Kp [] w5 (w7.setCell ⟨gm, k, none⟩ (.slice (some ⟨go, 0, none⟩) 32 32)) := K7.setCell (p := ⟨gm, k, none⟩) (.inr hb) _
  have hl8 : (l.set k (.slice (some ⟨go, 0, none⟩) 32 32, xs)).map (·.2) = ls.set k xs := by rw [List.map_set, unhide HLM2]
  have hL8 := RS8.lcm (by rw [List.length_set, unhide HLN]; omega)
  rw [hl8] at hL8
  have HL8 := hide hL8
  have HK8 := hide K8
  obtain ⟨z0, z1, z2⟩ := cell_tri (unhide HST _ K8)
  clear K7 RS7 hcells hfr hap RS8 K8 hl8 hL8 r7 s7 hlt HR0 HLS HCY HOC
  refine hide ?_
  go_wp2_with fail
  obtain ⟨w8, hw8⟩ : ∃ w8, w8 = w7.setCell ⟨gm, k, none⟩ (.slice (some ⟨go, 0, none⟩) 32 32) := ⟨_, rfl⟩
  rw [← hw8] at HL8 HK8 ⊢
  have hlk : k < ls.length := by rw [unhide HNL]; exact hkN
  have hl1000 : ls.length ≤ 1000 := by rw [unhide HNL]; omega
  have hok := ledOk_inc (unhide H32) hl1000 hlk (unhide HXL)
  have hlr := ledR_set (unhide H32) hl1000 hlk (unhide HXL)
  rw [unhide HNL, ← unhide HPS] at hok hlr
  obtain ⟨rm, hrm⟩ : ∃ r, r = trootP (ls.set k xs) := ⟨_, rfl⟩
  obtain ⟨rl, hrl⟩ : ∃ r, r = trootP ls := ⟨_, rfl⟩
  obtain ⟨SM, hSM⟩ : ∃ S, S = strOfNums rm := ⟨_, rfl⟩
  obtain ⟨SL, hSL⟩ : ∃ S, S = strOfNums rl := ⟨_, rfl⟩
  obtain ⟨C, hC⟩ : ∃ C, C = (SM.toList == SL.toList) := ⟨_, rfl⟩
  rw [← hrm] at hlr
  have HCP : Hid (chkP k mm ps xs rl = C) := hide (by unfold chkP; rw [hok, hlr, hC, hSM, hSL]; rfl)
  have HRM := hide hrm
  have HRL := hide hrl
  have HSM := hide hSM
  have HSL := hide hSL
  have HCC := hide hC
  have HNM : Hid ((ls.set k xs).length = mm) := hide (by rw [List.length_set]; exact unhide HNL)
  have HMM : Hid (∀ x ∈ ls.set k xs, x.length ≤ 1000) := fun x hx => by
    rcases List.mem_or_eq_of_mem_set hx with h | rfl
    · exact unhide HML x h
    · rw [unhide HXL]; omega
  have hLd := lead_any _ (.slice (some ⟨go, 0, none⟩) 32 32) k mm ps xs w8 (unhide HV8 w8 (unhide HK8)) (unhide HXS w8 (unhide HK8)) (unhide HXB) (by omega) (unhide HG8 w8 (unhide HK8))
  rw [hok, hlr] at hLd
  have HLd := hide hLd
  clear hLd hok hlr hrm hrl hSM hSL hC hw8 hlk hl1000 z0 z1 z2 hck hfk hb
  refine (unhide HLd).mono ?_
  rintro ee w9 ⟨a12, m12, c12, rfl, S12, K9⟩
  have HK9 := hide ((unhide HK8).trans K9)
  have HD9 : Hid (∀ w', Kp [] w9.drew w' → Kp [] w5 w') := fun w' k => (unhide HK9).trans ((kp_drew w9).trans k)
  have HS12 : Hid (∀ w', Kp [] w9.drew w' → Sl w' (.slice a12 m12 c12) rm) := fun w' k => S12.kept ((kp_drew w9).trans k) (by simp)
  have HL9 : Hid (∀ w', Kp [] w9.drew w' → LcM (ls.set k xs) (.slice (some ⟨gm, 0, none⟩) mm cm) w') := fun w' k => (unhide HL8).kept (K9.trans ((kp_drew w9).trans k))
  obtain ⟨N, hNN⟩ : ∃ N, N = mm := ⟨_, rfl⟩
  subst hNN
  clear S12 K9 HLd
  go_wp2_with fail
  refine region_grow Tryd.mixed [Is (.bool true), Is (.bool true), Is (.slice a12 m12 c12), Is (.string SM), Is (.slice (some ⟨gm, 0, none⟩) N cm), SlT (rm), Is (.string SM), Is (.bool true), Is (.bool true), Is (.bool true), Is (.agg #[.int .i64 k, .int .i64 N, .slice a4 m4 c4]), Is (.slice (some ⟨go, 0, none⟩) 32 32), Is (.slice (some ⟨b, off, none⟩) N cl), SlT (rl), Is (.bool C), Is (.slice (some ⟨gm, 0, none⟩) N cm), SlT (rm), Is (.string SM), Is (.slice (some ⟨b, off, none⟩) N cl), SlT (rl), Is (.string SL), Is (.bool C), Is (.bool true), Is (.bool true), Is (.bool true), Is (.bool true), Is (.bool true), Is (.bool true)] [[(13, none)], [(45, some 0)], [(12, none), (46, some 1)], [(47, some 2), (46, some 1)], [(11, none), (46, some 1)], [(49, some 4), (46, some 1)], [(50, some 5), (46, some 1)], [(48, some 3), (51, some 6), (46, some 1)], [(46, some 1), (52, some 7)], [(53, some 8)], [(9, none), (54, some 9)], [(2, none), (54, some 9)], [(7, none), (54, some 9)], [(57, some 12), (54, some 9)], [(55, some 10), (56, some 11), (58, some 13), (54, some 9)], [(11, none), (54, some 9)], [(60, some 15), (54, some 9)], [(61, some 16), (54, some 9)], [(7, none), (54, some 9)], [(63, some 18), (54, some 9)], [(64, some 19), (54, some 9)], [(62, some 17), (65, some 20), (54, some 9)], [(59, some 14), (66, some 21), (54, some 9)], [(54, some 9), (67, some 22)], [(68, some 23)], [(69, some 24)], [(69, some 24), (70, some 25)], [(71, some 26)]] (by kernel_rfl) ?_ ?_ ?_
  · simp only [List.mem_cons, List.not_mem_nil, or_false]
    intro R hR
    rcases hR with rfl | rfl | rfl | rfl | rfl | rfl | rfl | rfl | rfl | rfl | rfl | rfl | rfl | rfl | rfl | rfl | rfl | rfl | rfl | rfl | rfl | rfl | rfl | rfl | rfl | rfl | rfl | rfl <;> first | exact stable_is _ | exact stable_sl _
  · refine steps_cons (fun a w hk hn => ?_) ?_
    · have h13 : a.eval (.tmp 13) = .bool true := hn.1
      clear hn
      refine wants_plain rfl ?_
      exact grown_move (.tmp 13) rfl h13
    refine steps_cons (fun a w hk hn => ?_) ?_
    · have h45 : a.eval (.tmp 45) = .bool true := hn.1
      clear hn
      refine wants_plain rfl ?_
      exact grown_move (.tmp 45) rfl h45
    refine steps_cons (fun a w hk hn => ?_) ?_
    · have h12 : a.eval (.tmp 12) = .slice a12 m12 c12 := hn.1
      have h46 : a.eval (.tmp 46) = .bool true := hn.2.1
      clear hn
      refine wants_guard (d := 46) rfl rfl h46 ?_
      exact grown_move (.tmp 12) rfl h12
    refine steps_cons (fun a w hk hn => ?_) ?_
    · have h47 : a.eval (.tmp 47) = .slice a12 m12 c12 := hn.1
      have h46 : a.eval (.tmp 46) = .bool true := hn.2.1
      clear hn
      refine wants_guard (d := 46) rfl rfl h46 ?_
      exact grown_conv (.tmp 47) _ _ 5 (rm) rfl (by rw [h47]; exact unhide HS12 w hk) Tryd.underlying30 Tryd.underlying5 Tryd.underlying9 (congrArg Value.string (unhide HSM).symm)
    refine steps_cons (fun a w hk hn => ?_) ?_
    · have h11 : a.eval (.tmp 11) = .slice (some ⟨gm, 0, none⟩) N cm := hn.1
      have h46 : a.eval (.tmp 46) = .bool true := hn.2.1
      clear hn
      refine wants_guard (d := 46) rfl rfl h46 ?_
      exact grown_move (.tmp 11) rfl h11
    refine steps_cons (fun a w hk hn => ?_) ?_
    · have h49 : a.eval (.tmp 49) = .slice (some ⟨gm, 0, none⟩) N cm := hn.1
      have h46 : a.eval (.tmp 46) = .bool true := hn.2.1
      clear hn
      refine wants_guard (d := 46) rfl rfl h46 ?_
      refine grown_call (f := 18) rfl Tryd.func18 (by kernel_rfl) (by kernel_rfl) ?_
      simp only [List.map_toArray, List.map_cons, List.map_nil, h49]
      refine (rroot_any N _ (ls.set k xs) rm w (unhide HRM) (unhide HNM) (by omega) (unhide HL9 w hk) (unhide HMM)).mono ?_
      rintro e w' ⟨ao, m, c, rfl, R, K⟩
      exact ⟨_, rfl, K, R⟩
    refine steps_cons (fun a w hk hn => ?_) ?_
    · have h50 : Sl w (a.eval (.tmp 50)) (rm) := hn.1
      have h46 : a.eval (.tmp 46) = .bool true := hn.2.1
      clear hn
      refine wants_guard (d := 46) rfl rfl h46 ?_
      exact grown_conv (.tmp 50) _ _ 5 _ rfl h50 Tryd.underlying30 Tryd.underlying5 Tryd.underlying9 (congrArg Value.string (unhide HSM).symm)
    refine steps_cons (fun a w hk hn => ?_) ?_
    · have h48 : a.eval (.tmp 48) = .string SM := hn.1
      have h51 : a.eval (.tmp 51) = .string SM := hn.2.1
      have h46 : a.eval (.tmp 46) = .bool true := hn.2.2.1
      clear hn
      refine wants_guard (d := 46) rfl rfl h46 ?_
      refine grown_run (v := .bool true) ?_ (Kp.refl _ _) rfl
      obtain ⟨ρ, hρ, hc, hf, hg⟩ := eval_is a
      rw [hρ] at h48 h51 ⊢
      simp [go_sem, h48, h51]
    refine steps_cons (fun a w hk hn => ?_) ?_
    · have h46 : a.eval (.tmp 46) = .bool true := hn.1
      have h52 : a.eval (.tmp 52) = .bool true := hn.2.1
      clear hn
      refine wants_plain rfl ?_
      exact grown_pick _ _ _ true rfl h46 h52
    refine steps_cons (fun a w hk hn => ?_) ?_
    · have h53 : a.eval (.tmp 53) = .bool true := hn.1
      clear hn
      refine wants_plain rfl ?_
      exact grown_move (.tmp 53) rfl h53
    refine steps_cons (fun a w hk hn => ?_) ?_
    · have h9 : a.eval (.tmp 9) = .pointer (some ⟨g0, 0, none⟩) := hn.1
      have h54 : a.eval (.tmp 54) = .bool true := hn.2.1
      clear hn
      refine wants_guard (d := 54) rfl rfl h54 ?_
      exact grown_loadtri triP (.tmp 9) rfl h9 ((fun w'' k => unhide HST w'' (unhide HD9 w'' k)) w hk) rfl
    refine steps_cons (fun a w hk hn => ?_) ?_
    · have h2 : a.eval (.tmp 2) = .slice (some ⟨go, 0, none⟩) 32 32 := hn.1
      have h54 : a.eval (.tmp 54) = .bool true := hn.2.1
      clear hn
      refine wants_guard (d := 54) rfl rfl h54 ?_
      exact grown_move (.tmp 2) rfl h2
    refine steps_cons (fun a w hk hn => ?_) ?_
    · have h7 : a.eval (.tmp 7) = .slice (some ⟨b, off, none⟩) N cl := hn.1
      have h54 : a.eval (.tmp 54) = .bool true := hn.2.1
      clear hn
      refine wants_guard (d := 54) rfl rfl h54 ?_
      exact grown_move (.tmp 7) rfl h7
    refine steps_cons (fun a w hk hn => ?_) ?_
    · have h57 : a.eval (.tmp 57) = .slice (some ⟨b, off, none⟩) N cl := hn.1
      have h54 : a.eval (.tmp 54) = .bool true := hn.2.1
      clear hn
      refine wants_guard (d := 54) rfl rfl h54 ?_
      refine grown_call (f := 18) rfl Tryd.func18 (by kernel_rfl) (by kernel_rfl) ?_
      simp only [List.map_toArray, List.map_cons, List.map_nil, h57]
      refine (rroot_any N _ ls rl w (unhide HRL) (unhide HNL) (by omega) (unhide HLL w (unhide HD9 w hk)) (unhide HML)).mono ?_
      rintro e w' ⟨ao, m, c, rfl, R, K⟩
      exact ⟨_, rfl, K, R⟩
    refine steps_cons (fun a w hk hn => ?_) ?_
    · have h55 : a.eval (.tmp 55) = .agg #[.int .i64 k, .int .i64 N, .slice a4 m4 c4] := hn.1
      have h56 : a.eval (.tmp 56) = .slice (some ⟨go, 0, none⟩) 32 32 := hn.2.1
      have h58 : Sl w (a.eval (.tmp 58)) (rl) := hn.2.2.1
      have h54 : a.eval (.tmp 54) = .bool true := hn.2.2.2.1
      clear hn
      refine wants_guard (d := 54) rfl rfl h54 ?_
      refine grown_call (f := 25) rfl Tryd.func25 (by kernel_rfl) (by kernel_rfl) ?_
      simp only [List.map_toArray, List.map_cons, List.map_nil, h55, h56]
      refine (check_any _ _ _ k N ps xs rl w (unhide HV8 w (unhide HD9 w hk)) (unhide HXS w (unhide HD9 w hk)) (unhide HXB) h58 (by omega) (unhide HG8 w (unhide HD9 w hk))).mono ?_
      rintro e w' ⟨rfl, K⟩
      exact ⟨_, rfl, K, congrArg Value.bool (unhide HCP)⟩
    refine steps_cons (fun a w hk hn => ?_) ?_
    · have h11 : a.eval (.tmp 11) = .slice (some ⟨gm, 0, none⟩) N cm := hn.1
      have h54 : a.eval (.tmp 54) = .bool true := hn.2.1
      clear hn
      refine wants_guard (d := 54) rfl rfl h54 ?_
      exact grown_move (.tmp 11) rfl h11
    refine steps_cons (fun a w hk hn => ?_) ?_
    · have h60 : a.eval (.tmp 60) = .slice (some ⟨gm, 0, none⟩) N cm := hn.1
      have h54 : a.eval (.tmp 54) = .bool true := hn.2.1
      clear hn
      refine wants_guard (d := 54) rfl rfl h54 ?_
      refine grown_call (f := 18) rfl Tryd.func18 (by kernel_rfl) (by kernel_rfl) ?_
      simp only [List.map_toArray, List.map_cons, List.map_nil, h60]
      refine (rroot_any N _ (ls.set k xs) rm w (unhide HRM) (unhide HNM) (by omega) (unhide HL9 w hk) (unhide HMM)).mono ?_
      rintro e w' ⟨ao, m, c, rfl, R, K⟩
      exact ⟨_, rfl, K, R⟩
    refine steps_cons (fun a w hk hn => ?_) ?_
    · have h61 : Sl w (a.eval (.tmp 61)) (rm) := hn.1
      have h54 : a.eval (.tmp 54) = .bool true := hn.2.1
      clear hn
      refine wants_guard (d := 54) rfl rfl h54 ?_
      exact grown_conv (.tmp 61) _ _ 5 _ rfl h61 Tryd.underlying30 Tryd.underlying5 Tryd.underlying9 (congrArg Value.string (unhide HSM).symm)
    refine steps_cons (fun a w hk hn => ?_) ?_
    · have h7 : a.eval (.tmp 7) = .slice (some ⟨b, off, none⟩) N cl := hn.1
      have h54 : a.eval (.tmp 54) = .bool true := hn.2.1
      clear hn
      refine wants_guard (d := 54) rfl rfl h54 ?_
      exact grown_move (.tmp 7) rfl h7
    refine steps_cons (fun a w hk hn => ?_) ?_
    · have h63 : a.eval (.tmp 63) = .slice (some ⟨b, off, none⟩) N cl := hn.1
      have h54 : a.eval (.tmp 54) = .bool true := hn.2.1
      clear hn
      refine wants_guard (d := 54) rfl rfl h54 ?_
      refine grown_call (f := 18) rfl Tryd.func18 (by kernel_rfl) (by kernel_rfl) ?_
      simp only [List.map_toArray, List.map_cons, List.map_nil, h63]
      refine (rroot_any N _ ls rl w (unhide HRL) (unhide HNL) (by omega) (unhide HLL w (unhide HD9 w hk)) (unhide HML)).mono ?_
      rintro e w' ⟨ao, m, c, rfl, R, K⟩
      exact ⟨_, rfl, K, R⟩
    refine steps_cons (fun a w hk hn => ?_) ?_
    · have h64 : Sl w (a.eval (.tmp 64)) (rl) := hn.1
      have h54 : a.eval (.tmp 54) = .bool true := hn.2.1
      clear hn
      refine wants_guard (d := 54) rfl rfl h54 ?_
      exact grown_conv (.tmp 64) _ _ 5 _ rfl h64 Tryd.underlying30 Tryd.underlying5 Tryd.underlying9 (congrArg Value.string (unhide HSL).symm)
    refine steps_cons (fun a w hk hn => ?_) ?_
    · have h62 : a.eval (.tmp 62) = .string SM := hn.1
      have h65 : a.eval (.tmp 65) = .string SL := hn.2.1
      have h54 : a.eval (.tmp 54) = .bool true := hn.2.2.1
      clear hn
      refine wants_guard (d := 54) rfl rfl h54 ?_
      refine grown_run (v := .bool C) ?_ (Kp.refl _ _) rfl
      obtain ⟨ρ, hρ, hc, hf, hg⟩ := eval_is a
      rw [hρ] at h62 h65 ⊢
      simp [go_sem, h62, h65, unhide HCC]
    refine steps_cons (fun a w hk hn => ?_) ?_
    · have h59 : a.eval (.tmp 59) = .bool C := hn.1
      have h66 : a.eval (.tmp 66) = .bool C := hn.2.1
      have h54 : a.eval (.tmp 54) = .bool true := hn.2.2.1
      clear hn
      refine wants_guard (d := 54) rfl rfl h54 ?_
      refine grown_run (v := .bool true) ?_ (Kp.refl _ _) rfl
      obtain ⟨ρ, hρ, hc, hf, hg⟩ := eval_is a
      rw [hρ] at h59 h66 ⊢
      simp [go_sem, h59, h66]
    refine steps_cons (fun a w hk hn => ?_) ?_
    · have h54 : a.eval (.tmp 54) = .bool true := hn.1
      have h67 : a.eval (.tmp 67) = .bool true := hn.2.1
      clear hn
      refine wants_plain rfl ?_
      exact grown_pick _ _ _ true rfl h54 h67
    refine steps_cons (fun a w hk hn => ?_) ?_
    · have h68 : a.eval (.tmp 68) = .bool true := hn.1
      clear hn
      refine wants_plain rfl ?_
      exact grown_move (.tmp 68) rfl h68
    refine steps_cons (fun a w hk hn => ?_) ?_
    · have h69 : a.eval (.tmp 69) = .bool true := hn.1
      clear hn
      refine wants_guard (d := 69) rfl rfl h69 ?_
      refine grown_call (f := 12) rfl Tryd.func12 (by kernel_rfl) (by kernel_rfl) ?_
      simp only [List.map_toArray, List.map_nil]
      refine (pknown_any w (unhide HG8 w (unhide HD9 w hk))).mono ?_
      rintro e w' ⟨rfl, K⟩
      exact ⟨_, rfl, K, rfl⟩
    refine steps_cons (fun a w hk hn => ?_) ?_
    · have h69 : a.eval (.tmp 69) = .bool true := hn.1
      have h70 : a.eval (.tmp 70) = .bool true := hn.2.1
      clear hn
      refine wants_plain rfl ?_
      exact grown_pick _ _ _ true rfl h69 h70
    refine steps_cons (fun a w hk hn => ?_) ?_
    · have h71 : a.eval (.tmp 71) = .bool true := hn.1
      clear hn
      refine wants_plain rfl ?_
      exact grown_assign (.tmp 71) rfl h71
    exact trivial
  intro W1 hkW1
  rintro _ rfl
  rintro _ rfl
  rintro _ rfl
  rintro _ rfl
  rintro _ rfl
  intro v50 h50
  rintro _ rfl
  rintro _ rfl
  rintro _ rfl
  rintro _ rfl
  rintro _ rfl
  rintro _ rfl
  rintro _ rfl
  intro v58 h58
  rintro _ rfl
  rintro _ rfl
  intro v61 h61
  rintro _ rfl
  rintro _ rfl
  intro v64 h64
  rintro _ rfl
  rintro _ rfl
  rintro _ rfl
  rintro _ rfl
  rintro _ rfl
  rintro _ rfl
  rintro _ rfl
  rintro _ rfl
  refine fin_nil ?_
  simp only [Act.put, List.set_cons_zero, List.set_cons_succ, List.setIfInBounds_toArray]
  go_wp2_with fail
  go_ret
  exact ⟨rfl, ((unhide HK5).trans (unhide HD9 W1 hkW1)).below (Nat.le_refl _) (by simp)⟩

set_option maxRecDepth 100000 in
theorem lifted (os : Os) (started : os.Started) (H : Type) (enc : TypeId × Value → H) :
    ReturnsInHanded {} Tryd.checked os 7 .any (fun w args => (Rows.proofLiesSpec.pre enc Tryd.prog Tryd.f7 [] false w args ∧ laidMetH Tryd.prog laid1 w) ∧ sizedMet enc Tryd.prog Tryd.f7 (OpenSpec.ofChange Rows.proofLiesSpec) false w args) (Rows.proofLiesSpec.post enc Tryd.prog Tryd.f7 false true false false) := by
  refine returnsInHanded_of_change_and (C := Tryd.checked) (X := fun w _ => laidMetH Tryd.prog laid1 w) (fun _ _ _ hh h => h.of_heap hh) own started (by kernel_rfl) Tryd.func7
    (ChangeSpec.witness_shaped (enc := enc) (C := Tryd.checked) (os := os) (X := fun w _ => laidMetH Tryd.prog laid1 w) false (World.doorLaid Tryd.prog 400 os) #[.int .i64 0, .int .i64 0, .slice none 0 0] 8 rfl (World.shaped_of_RefB (by kernel_rfl) (by kernel_rfl)) (by kernel_rfl) (by kernel_rfl) (by kernel_rfl) (door_met os _)) ?_
  intro W base args ds gs before hval0 hW hcnd hsz0 hL _
  have hG := gl_of_laid hL
  have hval : ∀ (j : Nat) t v, Tryd.f7.params[j]? = some t → args[j]? = some v → Value.okWide Tryd.prog W .any base t v := hval0
  have hW' := hW
  obtain ⟨p, q, hA0, hV, rfl, hfz, hnd⟩ := hW
  have hA : DataW.TrodAll enc Tryd.prog W 0 (fun _ => true) true Tryd.f7.params.toList args.toList ds p := hA0
  rw [Tryd.params7] at hA hval
  obtain ⟨v0, vs0, d0, ds0, p0, q0, hargs, rfl, rfl, h0, r0⟩ := trodAll_cons hA
  obtain ⟨v1, vs1, d1, ds1, p1, q1, rfl, rfl, rfl, h1, r1⟩ := trodAll_cons r0
  obtain ⟨v2, vs2, d2, ds2, p2, q2, rfl, rfl, rfl, h2, r2⟩ := trodAll_cons r1
  obtain ⟨rfl, rfl, rfl⟩ := trodAll_nil r2
  obtain rfl : args = #[v0, v1, v2] := by cases args; simp_all
  obtain ⟨rfl, rfl⟩ := trodVars_none hV
  obtain ⟨a0, rfl, rfl, rfl, w0⟩ := open_int Tryd.underlying3 (hval 0 3 v0 rfl rfl) h0
  obtain ⟨a1, rfl, rfl, rfl, w1⟩ := open_int Tryd.underlying3 (hval 1 3 v1 rfl rfl) h1
  obtain ⟨a2, len2, cap2, rfl⟩ := okWide_slice Tryd.underlying30 (hval 2 30 v2 rfl rfl)
  have k2 := h2
  have lt2 : ∀ x ∈ p2, x.block < W.heap.size := by obtain ⟨m, hm⟩ := k2; exact DataW.trod_lt m _ _ _ hm
  obtain ⟨l2, s2, b2⟩ : ∃ bs, Sl W (.slice a2 len2 cap2) bs ∧ Bs bs := by
    obtain ⟨fuel, hf⟩ := h2
    exact bytes_of_trod (by simpa [Value.cells] using hf)
  clear hA0 hval0
  refine (walk a0 a1 (.slice a2 len2 cap2) l2 W hG (bounds_i64 w0) (bounds_i64 w1) s2 b2).mono fun e W' ⟨he, bel⟩ => ?_
  subst he
  exact ⟨_, rfl, _, _, _, [], _, [], hW', trodAll_mk1 (shut_bool Tryd.underlying4 _), (trodAll_cons_mk (shut_int Tryd.underlying3 w0) (trodAll_cons_mk (shut_int Tryd.underlying3 w1) (trodAll_cons_mk (Below.trod laidOut (by kernel_rfl) (of_decide_eq_true (by kernel_rfl)) k2 bel lt2) trodAll_mk0))), rfl, bel.frame _, fun h => by cases h⟩

theorem over : Rows.proofLiesRow.holds Tryd.pinned (OpenSpec.ofChange Rows.proofLiesSpec) :=
  OpenClaim.holds_of_wide 7 Tryd.f7 rfl rfl rfl rfl rfl rfl rfl ⟨rfl, rfl, rfl, rfl, rfl⟩ rfl rfl rfl rfl rfl (by kernel_rfl) Tryd.func7 (by kernel_rfl)
    (of_decide_eq_true (by kernel_rfl)) (by unfold Func.isWrapper; first | (rw [if_pos (by decide +kernel)]; kernel_rfl) | (rw [if_neg (by decide +kernel)]; exact ⟨rfl, rfl⟩))
    (fun os started H enc _ => lifted os started H enc)
end Go.Proofs.YtphhofgjnlfjmaaDoor.proofLies

namespace Go.Proofs.YtphhofgjnlfjmaaDoor
/-- The given statement: the tied card. -/
theorem ProofLies_holds : Rows.ProofLiesCardSaid :=
  Claim7.holds_tied_plain_at .later [] [.data] true Rows.proofLiesCard.stood.harness false
    proofLies.over (fun _ h => by cases h) (by kernel_rfl) (fun _ h => by cases h) proofLies_row_tie rfl ⟨rfl, rfl⟩ (by kernel_rfl) rfl
    (fun f fn hf hfn => by
      obtain rfl : f = 7 := Option.some.inj ((show Tryd.prog.funcNamed "broadsheet/broadsheetlaw8.ProofLies" = some 7 by kernel_rfl).symm.trans hf) |>.symm
      obtain rfl : fn = Tryd.f7 := (Option.some.inj (Tryd.func7.symm.trans hfn)).symm
      exact ⟨by kernel_rfl, fun j t ht => by
        rw [Tryd.params7] at ht
        have hm : t ∈ ([3, 3, 30] : List TypeId) := by simpa using Array.mem_of_getElem? ht
        have hall : (([3, 3, 30] : List TypeId).all fun u => !Tryd.prog.wantsStandIn u) = true := by kernel_rfl
        exact (show Tryd.prog.wantsStandIn t = false by simpa using List.all_eq_true.1 hall t hm)⟩)
    (by kernel_rfl)
#print axioms ProofLies_holds
end Go.Proofs.YtphhofgjnlfjmaaDoor
