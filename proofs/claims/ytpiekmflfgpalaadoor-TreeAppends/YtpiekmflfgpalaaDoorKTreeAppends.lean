/-
  The statement TreeAppendsCardSaid: for all numbers and bytes the law function TreeAppends returns true and leaves its arguments as they were; the table hash.roundWords starts as the program's text lays it (tied). No other condition.
-/
import Derived.Test.YtpiekmflfgpalaaDoorKTKnown
import Derived.Test.YtpiekmflfgpalaaDoorKTApp
import Derived.Test.YtpiekmflfgpalaaDoorTie
import Derived.Test.YtpiekmflfgpalaaDoorCards
import Derived.SevenTiedAt
namespace Go.Proofs.YtpiekmflfgpalaaDoor.treeAppends
open Go.ChangeShapes Go.WideShapes Go.ChangeAt Go.RowKit
open Go.Proofs.YtpiekmflfgpalaaDoor
set_option linter.unusedVariables false

theorem lcn_of {ls : List (List Int)} {v : Value} {w : World} (h : LcM ls v w) (hne : ∀ x ∈ ls, x.length = 32) : LcN ls v w := by
  obtain ⟨l, h1, rfl⟩ := h
  refine ⟨l, h1, rfl, fun x hx e => ?_⟩
  obtain ⟨⟨_, _, _, _, h2⟩, _⟩ := h1
  obtain ⟨i, hi, rfl⟩ := List.getElem_of_mem hx
  obtain ⟨_, _, _, _, ⟨ao, c, e2, _⟩, _⟩ := h2 i hi
  rw [e2] at e
  injection e with _ e
  have := hne l[i].2 (List.mem_map.2 ⟨_, hx, rfl⟩)
  omega
/-- a whole tree and one leaf behind it. -/
theorem root_snoc {ls : List (List Int)} {j : Nat} (x : List Int) (h : ls.length = 2 ^ j) : trootP (ls ++ [x]) = tnodeP (trootP ls) x := by
  have hp : 1 ≤ 2 ^ j := Nat.one_le_two_pow
  rw [trootP_more (by simp; omega), show tsplP (ls ++ [x]).length = ls.length by rw [List.length_append, h]; exact tsplP_of (by simp) (by simp; omega)]
  rw [List.take_left, List.drop_left, trootP_one]
/-- a whole tree of two halves. -/
theorem root_halves {ls : List (List Int)} {j : Nat} (h : ls.length = 2 ^ (j + 1)) : trootP ls = tnodeP (trootP (ls.take (2 ^ j))) (trootP (ls.drop (2 ^ j))) := by
  have hp : 1 ≤ 2 ^ j := Nat.one_le_two_pow
  have h2 : 2 ^ (j + 1) = 2 ^ j * 2 := Nat.pow_succ ..
  rw [trootP_more (by omega), show tsplP ls.length = 2 ^ j from tsplP_of (by omega) (by omega)]

set_option maxRecDepth 100000 in
set_option maxHeartbeats 1500000 in
theorem walk (n : Int) (v1 : Value) (bs1 : List Int) (w : World) (hG : Gl w) (hn : -9223372036854775808 ≤ n ∧ n ≤ 9223372036854775807) (hS1 : Sl w v1 bs1) (hB1 : Bs bs1) :
    Calls Tryd.prog 7 #[.int .i64 n, v1] w fun e w' => e = .returned (.bool true) ∧ Below w.heap.size w w' := by
  have HG := hide hG
  have HCW := hide (within_any n 0 6 w (by omega) (by omega) (by omega) hn)
  have HS1 := hide hS1
  have HB1 := hide hB1
  obtain ⟨av, cv, hv, _⟩ := hS1
  obtain ⟨nv, hnv⟩ : ∃ n, n = bs1.length := ⟨_, rfl⟩
  rw [← hnv] at hv
  subst hv
  clear hG hn hB1 hnv
  go_enter Tryd.func7, Tryd.ntmps7
  go_wp2_with fail
  refine (unhide HCW).mono ?_
  rintro ee w5 ⟨xi, rfl, hx0, hx1, hw⟩
  subst w5
  obtain ⟨j, rfl⟩ := Int.eq_ofNat_of_zero_le hx0
  have hj6 : j ≤ 6 := by omega
  obtain ⟨k, hk⟩ : ∃ k, k = 2 ^ j := ⟨_, rfl⟩
  have hk1 : 1 ≤ k := by rw [hk]; exact Nat.one_le_two_pow
  have hk64 : k ≤ 64 := by rw [hk]; exact Nat.pow_le_pow_right (n := 2) (by omega) hj6
  have hsh : wrap64 ((2 : Int) ^ j) = (k : Int) := by rw [tshl j (by omega), hk]; simp
  have HKJ := hide hk
  have HC := hide (kleaves_any k w (by omega))
  clear HCW hk
  go_wp2_with fail
  simp only [hsh]
  clear hsh
  refine (unhide HC).mono ?_
  rintro ee w1 ⟨a1, m1, c1, rfl, A1⟩
  have K1 := A1.kp
  obtain ⟨ls, hls⟩ : ∃ x, x = kleavesP k := ⟨_, rfl⟩
  have L1 : LcM ls (.slice a1 m1 c1) w1 := by rw [hls]; exact A1.lc (by rw [kleavesP_len]; omega)
  have hlen : ls.length = k := by rw [hls, kleavesP_len]
  have hm1 : m1 = k := by obtain ⟨_, _, e, _⟩ := L1.shape; injection e with _ e; rw [e, hlen]
  subst hm1
  have HA : Hid (∀ x ∈ ls, x.length = 32) := by rw [hls]; exact kleavesP_all _
  have HM : Hid (∀ x ∈ ls, x.length ≤ 1000) := by rw [hls]; exact kleavesP_le _
  have HB := hide L1.bs
  have HLE := hide hlen
  have HL1 := hide L1
  have HK1 := hide K1
  have HC2 := hide (sized_any _ bs1 w1 ((unhide HS1).kept K1 (by simp)) (unhide HB1))
  clear A1 K1 L1 hls hlen HC HS1 HB1
  go_wp2_with fail
  refine (unhide HC2).mono ?_
  rintro ee w2 ⟨gx, xb, rfl, hxl, hxB, RX, K2⟩
  have HXL := hide hxl
  have HXB := hide hxB
  have hLC : LcN ls (.slice a1 m1 c1) w2 := lcn_of ((unhide HL1).kept K2) (unhide HA)
  have hSX : Sl w2 (.slice (some ⟨gx, 0, none⟩) 32 32) xb := RX.sl
  have HLN : Hid (∀ w', Kp [] w2.drew w' → LcN ls (.slice a1 m1 c1) w') := fun w' k' => hLC.kept ((kp_drew w2).trans k')
  have HSX : Hid (∀ w', Kp [] w2.drew w' → Sl w' (.slice (some ⟨gx, 0, none⟩) 32 32) xb) := fun w' k' => hSX.kept ((kp_drew w2).trans k') (by simp)
  have HK2 := hide ((unhide HK1).trans K2)
  have HGL : Hid (∀ w', Kp [] w2.drew w' → Gl w') := fun w' k' => (unhide HG).kept ((unhide HK2).trans ((kp_drew w2).trans k')) (by simp)
  have HLC := hide hLC
  obtain ⟨rl, hrl⟩ : ∃ r, r = trootP ls := ⟨_, rfl⟩
  obtain ⟨ra, hra⟩ : ∃ r, r = tnodeP rl xb := ⟨_, rfl⟩
  have HRL := hide hrl
  have HRA := hide hra
  have HRS : Hid (ra = trootP (ls ++ [xb])) := by rw [root_snoc xb (by rw [unhide HLE]; exact unhide HKJ), ← hrl]; exact hra
  have HRLO : Hid (rl.length ≤ 1000000 ∧ Bs rl) := by
    rw [hrl]
    exact ⟨Nat.le_trans (trootP_le 1000 (by omega) _ (unhide HM)) (by omega), trootP_bs _ (unhide HB)⟩
  have HXLE : Hid (xb.length ≤ 1000000) := hide (by rw [hxl]; omega)
  have HNE : Hid (ls ≠ []) := hide (fun e => by have := unhide HLE; rw [e] at this; simp at this; omega)
  have HLE2 : Hid (ls.length ≤ 1000000) := hide (by rw [unhide HLE]; omega)
  have HSN : Hid ((ls ++ [xb]).length = m1 + 1) := hide (by rw [List.length_append, unhide HLE]; rfl)
  have HSM : Hid (∀ x ∈ ls ++ [xb], x.length ≤ 1000) := hide (fun x hx => by
    rcases List.mem_append.1 hx with h | h
    · exact unhide HM x h
    · obtain rfl : x = xb := by simpa using h
      rw [hxl]; omega)
  obtain ⟨SA, hSA⟩ : ∃ S, S = strOfNums ra := ⟨_, rfl⟩
  obtain ⟨SL, hSL⟩ : ∃ S, S = strOfNums rl := ⟨_, rfl⟩
  have HSA := hide hSA
  have HSL := hide hSL
  clear RX K2 HC2 hLC hSX hrl hra hSA hSL hxl hxB HL1 HK1
  go_wp2_with fail
  refine region_growK (kx_step (.slice (some ⟨gx, 0, none⟩) 32 32)) Tryd.mixed [NoR, Is (.slice a1 m1 c1), CopX (.slice (some ⟨gx, 0, none⟩) 32 32) w2.drew.heap.size ls, Is (.slice (some ⟨gx, 0, none⟩) 32 32), OneX (.slice (some ⟨gx, 0, none⟩) 32 32), LcN (ls ++ [xb]), SlT (ra), Is (.string SA), Is (.slice a1 m1 c1), SlT (rl), Is (.slice (some ⟨gx, 0, none⟩) 32 32), SlT (ra), Is (.string SA), Is (.bool false)] [[], [(6, none)], [(16, some 0), (17, some 1)], [(7, none)], [(19, some 3)], [(18, some 2), (20, some 4)], [(21, some 5)], [(22, some 6)], [(6, none)], [(24, some 8)], [(7, none)], [(25, some 9), (26, some 10)], [(27, some 11)], [(23, some 7), (28, some 12)]] (by kernel_rfl) ?_ ?_ ?_
  · simp only [List.mem_cons, List.not_mem_nil, or_false]
    intro R hR
    rcases hR with rfl | rfl | rfl | rfl | rfl | rfl | rfl | rfl | rfl | rfl | rfl | rfl | rfl | rfl <;> first | exact stableK_nor | exact stableK_is _ | exact stableK_cop _ _ | exact stableK_onex (by intro e; cases e) | exact stableK_lcn _ | exact stableK_sl _
  · refine steps_consK (fun a w hk hn => ?_) ?_
    · clear hn
      refine wantsK_of (kx_step (.slice (some ⟨gx, 0, none⟩) 32 32)) hk ?_
      refine wants_plain rfl ?_
      exact grown_nor rfl
    refine steps_consK (fun a w hk hn => ?_) ?_
    · have h6 : a.eval (.tmp 6) = .slice a1 m1 c1 := hn.1
      clear hn
      refine wantsK_of (kx_step (.slice (some ⟨gx, 0, none⟩) 32 32)) hk ?_
      refine wants_plain rfl ?_
      exact grown_move (.tmp 6) rfl h6
    refine steps_consK (fun a w hk hn => ?_) ?_
    · have h16 : (NoR) (a.eval (.tmp 16)) w := hn.1
      have h17 : a.eval (.tmp 17) = .slice a1 m1 c1 := hn.2.1
      clear hn
      refine wantsK_of (kx_step (.slice (some ⟨gx, 0, none⟩) 32 32)) hk ?_
      refine wants_plain rfl ?_
      exact grown_cop (.tmp 16) (.tmp 17) ls rfl hk h16 (by rw [h17]; exact unhide HLN w hk) (unhide HNE) (unhide HLE2)
    refine steps_consK (fun a w hk hn => ?_) ?_
    · have h7 : a.eval (.tmp 7) = .slice (some ⟨gx, 0, none⟩) 32 32 := hn.1
      clear hn
      refine wantsK_of (kx_step (.slice (some ⟨gx, 0, none⟩) 32 32)) hk ?_
      refine wants_plain rfl ?_
      exact grown_move (.tmp 7) rfl h7
    refine steps_consK (fun a w hk hn => ?_) ?_
    · have h19 : a.eval (.tmp 19) = .slice (some ⟨gx, 0, none⟩) 32 32 := hn.1
      clear hn
      refine wantsK_of (kx_step (.slice (some ⟨gx, 0, none⟩) 32 32)) hk ?_
      refine wants_plain rfl ?_
      exact grown_onex (.tmp 19) rfl h19 ⟨_, _, _, rfl⟩
    refine steps_consK (fun a w hk hn => ?_) ?_
    · have h18 : (CopX (.slice (some ⟨gx, 0, none⟩) 32 32) w2.drew.heap.size ls) (a.eval (.tmp 18)) w := hn.1
      have h20 : (OneX (.slice (some ⟨gx, 0, none⟩) 32 32)) (a.eval (.tmp 20)) w := hn.2.1
      clear hn
      exact wantsK_putx rfl (.tmp 18) (.tmp 20) ls xb rfl hk h18 h20 (by intro e; cases e) rfl (unhide HSX w hk) (unhide HXB) (unhide HLE2)
    refine steps_consK (fun a w hk hn => ?_) ?_
    · have h21 : (LcN (ls ++ [xb])) (a.eval (.tmp 21)) w := hn.1
      clear hn
      refine wantsK_of (kx_step (.slice (some ⟨gx, 0, none⟩) 32 32)) hk ?_
      refine wants_plain rfl ?_
      refine grown_call (f := 10) rfl Tryd.func10 (by kernel_rfl) (by kernel_rfl) ?_
      simp only [List.map_toArray, List.map_cons, List.map_nil]
      refine (troot_any (m1 + 1) _ (ls ++ [xb]) ra w (unhide HRS) (unhide HSN) (by omega) h21.lcm (unhide HSM) (unhide HGL w hk)).mono ?_
      rintro e w' ⟨ao, m, c, rfl, R, K⟩
      exact ⟨_, rfl, K, R.sl⟩
    refine steps_consK (fun a w hk hn => ?_) ?_
    · have h22 : Sl w (a.eval (.tmp 22)) (ra) := hn.1
      clear hn
      refine wantsK_of (kx_step (.slice (some ⟨gx, 0, none⟩) 32 32)) hk ?_
      refine wants_plain rfl ?_
      exact grown_conv (.tmp 22) _ _ 5 _ rfl h22 Tryd.underlying24 Tryd.underlying5 Tryd.underlying9 (congrArg Value.string (unhide HSA).symm)
    refine steps_consK (fun a w hk hn => ?_) ?_
    · have h6 : a.eval (.tmp 6) = .slice a1 m1 c1 := hn.1
      clear hn
      refine wantsK_of (kx_step (.slice (some ⟨gx, 0, none⟩) 32 32)) hk ?_
      refine wants_plain rfl ?_
      exact grown_move (.tmp 6) rfl h6
    refine steps_consK (fun a w hk hn => ?_) ?_
    · have h24 : a.eval (.tmp 24) = .slice a1 m1 c1 := hn.1
      clear hn
      refine wantsK_of (kx_step (.slice (some ⟨gx, 0, none⟩) 32 32)) hk ?_
      refine wants_plain rfl ?_
      refine grown_call (f := 10) rfl Tryd.func10 (by kernel_rfl) (by kernel_rfl) ?_
      simp only [List.map_toArray, List.map_cons, List.map_nil, h24]
      refine (troot_any m1 _ ls rl w (unhide HRL) (unhide HLE) (by omega) (unhide HLN w hk).lcm (unhide HM) (unhide HGL w hk)).mono ?_
      rintro e w' ⟨ao, m, c, rfl, R, K⟩
      exact ⟨_, rfl, K, R.sl⟩
    refine steps_consK (fun a w hk hn => ?_) ?_
    · have h7 : a.eval (.tmp 7) = .slice (some ⟨gx, 0, none⟩) 32 32 := hn.1
      clear hn
      refine wantsK_of (kx_step (.slice (some ⟨gx, 0, none⟩) 32 32)) hk ?_
      refine wants_plain rfl ?_
      exact grown_move (.tmp 7) rfl h7
    refine steps_consK (fun a w hk hn => ?_) ?_
    · have h25 : Sl w (a.eval (.tmp 25)) (rl) := hn.1
      have h26 : a.eval (.tmp 26) = .slice (some ⟨gx, 0, none⟩) 32 32 := hn.2.1
      clear hn
      refine wantsK_of (kx_step (.slice (some ⟨gx, 0, none⟩) 32 32)) hk ?_
      refine wants_plain rfl ?_
      refine grown_call (f := 21) rfl Tryd.func21 (by kernel_rfl) (by kernel_rfl) ?_
      simp only [List.map_toArray, List.map_cons, List.map_nil, h26]
      refine (tnode_any _ _ rl xb ra (unhide HRA) w h25 (unhide HRLO).2 (unhide HRLO).1 (unhide HSX w hk) (unhide HXB) (unhide HXLE) (unhide HGL w hk)).mono ?_
      rintro e w' ⟨ao, m, c, rfl, R, K⟩
      exact ⟨_, rfl, K, R.sl⟩
    refine steps_consK (fun a w hk hn => ?_) ?_
    · have h27 : Sl w (a.eval (.tmp 27)) (ra) := hn.1
      clear hn
      refine wantsK_of (kx_step (.slice (some ⟨gx, 0, none⟩) 32 32)) hk ?_
      refine wants_plain rfl ?_
      exact grown_conv (.tmp 27) _ _ 5 _ rfl h27 Tryd.underlying24 Tryd.underlying5 Tryd.underlying9 (congrArg Value.string (unhide HSA).symm)
    refine steps_consK (fun a w hk hn => ?_) ?_
    · have h23 : a.eval (.tmp 23) = .string SA := hn.1
      have h28 : a.eval (.tmp 28) = .string SA := hn.2.1
      clear hn
      refine wantsK_of (kx_step (.slice (some ⟨gx, 0, none⟩) 32 32)) hk ?_
      refine wants_plain rfl ?_
      refine grown_run (v := .bool false) ?_ (Kp.refl _ _) rfl
      obtain ⟨ρ, hρ, hc, hf, hg⟩ := eval_is a
      rw [hρ] at h23 h28 ⊢
      simp [go_sem, h23, h28]
    exact trivial
  intro W1 hkW1
  intro v16 h16
  rintro _ rfl
  intro v18 h18
  rintro _ rfl
  intro v20 h20
  intro v21 h21
  intro v22 h22
  rintro _ rfl
  rintro _ rfl
  intro v25 h25
  rintro _ rfl
  intro v27 h27
  rintro _ rfl
  rintro _ rfl
  refine fin_nil ?_
  simp only [Act.put, List.set_cons_zero, List.set_cons_succ, List.setIfInBounds_toArray]
  have HKW : Hid (Kp [] w2 W1) := (kp_drew w2).trans hkW1
  have HLL : Hid (∀ w', Kp [] W1.drew w' → LcM ls (.slice a1 m1 c1) w') := fun w' k' => ((unhide HLC).kept ((unhide HKW).trans ((kp_drew W1).trans k'))).lcm
  have HGM : Hid (∀ w', Kp [] W1.drew w' → Gl w') := fun w' k' => (unhide HG).kept ((unhide HK2).trans ((unhide HKW).trans ((kp_drew W1).trans k'))) (by simp)
  clear hkW1 h16 h18 h20 h21 h22 h25 h27 HLN HSX HGL
  by_cases hone : j = 0
  · have hk1 : m1 = 1 := by rw [unhide HKJ, hone]
    clear hone
    subst hk1
    go_wp2_with fail
    refine region_grow Tryd.mixed [Is (.int .i64 1), Is (.bool true), Is (.bool true), Is (undef), Is (undef), Is (undef), Is (undef), Is (undef), Is (undef), Is (undef), Is (undef), Is (undef), Is (undef), Is (undef), Is (undef), Is (undef), Is (undef), Is (undef), Is (undef), Is (.bool true), Is (.bool true), Is (.bool true), Is (.bool true), Is (.bool true)] [[(5, none)], [(30, some 0)], [(31, some 1)], [(6, none), (32, some 2)], [(33, some 3), (32, some 2)], [(34, some 4), (32, some 2)], [(6, none), (32, some 2)], [(5, none), (32, some 2)], [(37, some 7), (32, some 2)], [(36, some 6), (38, some 8), (32, some 2)], [(39, some 9), (32, some 2)], [(6, none), (32, some 2)], [(5, none), (32, some 2)], [(42, some 12), (32, some 2)], [(41, some 11), (43, some 13), (32, some 2)], [(44, some 14), (32, some 2)], [(40, some 10), (45, some 15), (32, some 2)], [(46, some 16), (32, some 2)], [(35, some 5), (47, some 17), (32, some 2)], [(32, some 2), (48, some 18)], [(49, some 19)], [(50, some 20)], [(50, some 20), (51, some 21)], [(52, some 22)]] (by kernel_rfl) ?_ ?_ ?_
    · simp only [List.mem_cons, List.not_mem_nil, or_false]
      intro R hR
      rcases hR with rfl | rfl | rfl | rfl | rfl | rfl | rfl | rfl | rfl | rfl | rfl | rfl | rfl | rfl | rfl | rfl | rfl | rfl | rfl | rfl | rfl | rfl | rfl | rfl <;> first | exact stable_is _
    · refine steps_cons (fun a w hk hn => ?_) ?_
      · have h5 : a.eval (.tmp 5) = .int .i64 1 := hn.1
        clear hn
        refine wants_plain rfl ?_
        exact grown_move (.tmp 5) rfl h5
      refine steps_cons (fun a w hk hn => ?_) ?_
      · have h30 : a.eval (.tmp 30) = .int .i64 1 := hn.1
        clear hn
        refine wants_plain rfl ?_
        refine grown_run (v := .bool true) ?_ (Kp.refl _ _) rfl
        obtain ⟨ρ, hρ, hc, hf, hg⟩ := eval_is a
        rw [hρ] at h30 ⊢
        simp [go_sem, hc, h30]
      refine steps_cons (fun a w hk hn => ?_) ?_
      · have h31 : a.eval (.tmp 31) = .bool true := hn.1
        clear hn
        refine wants_plain rfl ?_
        exact grown_move (.tmp 31) rfl h31
      refine steps_cons (fun a w hk hn => ?_) ?_
      · have h6 : a.eval (.tmp 6) = .slice a1 1 c1 := hn.1
        have h32 : a.eval (.tmp 32) = .bool true := hn.2.1
        clear hn
        exact wants_not (d := 32) rfl rfl h32 rfl
      refine steps_cons (fun a w hk hn => ?_) ?_
      · have h33 : a.eval (.tmp 33) = undef := hn.1
        have h32 : a.eval (.tmp 32) = .bool true := hn.2.1
        clear hn
        exact wants_not (d := 32) rfl rfl h32 rfl
      refine steps_cons (fun a w hk hn => ?_) ?_
      · have h34 : a.eval (.tmp 34) = undef := hn.1
        have h32 : a.eval (.tmp 32) = .bool true := hn.2.1
        clear hn
        exact wants_not (d := 32) rfl rfl h32 rfl
      refine steps_cons (fun a w hk hn => ?_) ?_
      · have h6 : a.eval (.tmp 6) = .slice a1 1 c1 := hn.1
        have h32 : a.eval (.tmp 32) = .bool true := hn.2.1
        clear hn
        exact wants_not (d := 32) rfl rfl h32 rfl
      refine steps_cons (fun a w hk hn => ?_) ?_
      · have h5 : a.eval (.tmp 5) = .int .i64 1 := hn.1
        have h32 : a.eval (.tmp 32) = .bool true := hn.2.1
        clear hn
        exact wants_not (d := 32) rfl rfl h32 rfl
      refine steps_cons (fun a w hk hn => ?_) ?_
      · have h37 : a.eval (.tmp 37) = undef := hn.1
        have h32 : a.eval (.tmp 32) = .bool true := hn.2.1
        clear hn
        exact wants_not (d := 32) rfl rfl h32 rfl
      refine steps_cons (fun a w hk hn => ?_) ?_
      · have h36 : a.eval (.tmp 36) = undef := hn.1
        have h38 : a.eval (.tmp 38) = undef := hn.2.1
        have h32 : a.eval (.tmp 32) = .bool true := hn.2.2.1
        clear hn
        exact wants_not (d := 32) rfl rfl h32 rfl
      refine steps_cons (fun a w hk hn => ?_) ?_
      · have h39 : a.eval (.tmp 39) = undef := hn.1
        have h32 : a.eval (.tmp 32) = .bool true := hn.2.1
        clear hn
        exact wants_not (d := 32) rfl rfl h32 rfl
      refine steps_cons (fun a w hk hn => ?_) ?_
      · have h6 : a.eval (.tmp 6) = .slice a1 1 c1 := hn.1
        have h32 : a.eval (.tmp 32) = .bool true := hn.2.1
        clear hn
        exact wants_not (d := 32) rfl rfl h32 rfl
      refine steps_cons (fun a w hk hn => ?_) ?_
      · have h5 : a.eval (.tmp 5) = .int .i64 1 := hn.1
        have h32 : a.eval (.tmp 32) = .bool true := hn.2.1
        clear hn
        exact wants_not (d := 32) rfl rfl h32 rfl
      refine steps_cons (fun a w hk hn => ?_) ?_
      · have h42 : a.eval (.tmp 42) = undef := hn.1
        have h32 : a.eval (.tmp 32) = .bool true := hn.2.1
        clear hn
        exact wants_not (d := 32) rfl rfl h32 rfl
      refine steps_cons (fun a w hk hn => ?_) ?_
      · have h41 : a.eval (.tmp 41) = undef := hn.1
        have h43 : a.eval (.tmp 43) = undef := hn.2.1
        have h32 : a.eval (.tmp 32) = .bool true := hn.2.2.1
        clear hn
        exact wants_not (d := 32) rfl rfl h32 rfl
      refine steps_cons (fun a w hk hn => ?_) ?_
      · have h44 : a.eval (.tmp 44) = undef := hn.1
        have h32 : a.eval (.tmp 32) = .bool true := hn.2.1
        clear hn
        exact wants_not (d := 32) rfl rfl h32 rfl
      refine steps_cons (fun a w hk hn => ?_) ?_
      · have h40 : a.eval (.tmp 40) = undef := hn.1
        have h45 : a.eval (.tmp 45) = undef := hn.2.1
        have h32 : a.eval (.tmp 32) = .bool true := hn.2.2.1
        clear hn
        exact wants_not (d := 32) rfl rfl h32 rfl
      refine steps_cons (fun a w hk hn => ?_) ?_
      · have h46 : a.eval (.tmp 46) = undef := hn.1
        have h32 : a.eval (.tmp 32) = .bool true := hn.2.1
        clear hn
        exact wants_not (d := 32) rfl rfl h32 rfl
      refine steps_cons (fun a w hk hn => ?_) ?_
      · have h35 : a.eval (.tmp 35) = undef := hn.1
        have h47 : a.eval (.tmp 47) = undef := hn.2.1
        have h32 : a.eval (.tmp 32) = .bool true := hn.2.2.1
        clear hn
        exact wants_not (d := 32) rfl rfl h32 rfl
      refine steps_cons (fun a w hk hn => ?_) ?_
      · have h32 : a.eval (.tmp 32) = .bool true := hn.1
        have h48 : a.eval (.tmp 48) = undef := hn.2.1
        clear hn
        refine wants_plain rfl ?_
        exact grown_pick _ _ _ true rfl h32 rfl
      refine steps_cons (fun a w hk hn => ?_) ?_
      · have h49 : a.eval (.tmp 49) = .bool true := hn.1
        clear hn
        refine wants_plain rfl ?_
        exact grown_move (.tmp 49) rfl h49
      refine steps_cons (fun a w hk hn => ?_) ?_
      · have h50 : a.eval (.tmp 50) = .bool true := hn.1
        clear hn
        refine wants_guard (d := 50) rfl rfl h50 ?_
        refine grown_call (f := 15) rfl Tryd.func15 (by kernel_rfl) (by kernel_rfl) ?_
        simp only [List.map_toArray, List.map_nil]
        refine (tknown_any w (unhide HGM w hk)).mono ?_
        rintro e w' ⟨rfl, K⟩
        exact ⟨_, rfl, K, rfl⟩
      refine steps_cons (fun a w hk hn => ?_) ?_
      · have h50 : a.eval (.tmp 50) = .bool true := hn.1
        have h51 : a.eval (.tmp 51) = .bool true := hn.2.1
        clear hn
        refine wants_plain rfl ?_
        exact grown_pick _ _ _ true rfl h50 h51
      refine steps_cons (fun a w hk hn => ?_) ?_
      · have h52 : a.eval (.tmp 52) = .bool true := hn.1
        clear hn
        refine wants_plain rfl ?_
        exact grown_assign (.tmp 52) rfl h52
      exact trivial
    intro W2 hkW2
    rintro _ rfl
    rintro _ rfl
    rintro _ rfl
    rintro _ rfl
    rintro _ rfl
    rintro _ rfl
    rintro _ rfl
    rintro _ rfl
    rintro _ rfl
    rintro _ rfl
    rintro _ rfl
    rintro _ rfl
    rintro _ rfl
    rintro _ rfl
    rintro _ rfl
    rintro _ rfl
    rintro _ rfl
    rintro _ rfl
    rintro _ rfl
    rintro _ rfl
    rintro _ rfl
    rintro _ rfl
    rintro _ rfl
    rintro _ rfl
    refine fin_nil ?_
    simp only [Act.put, List.set_cons_zero, List.set_cons_succ, List.setIfInBounds_toArray]
    go_wp2_with fail
    go_ret
    exact ⟨rfl, ((unhide HK2).trans ((unhide HKW).trans ((kp_drew W1).trans hkW2))).below (Nat.le_refl _) (by simp)⟩
  · obtain ⟨i, hi⟩ : ∃ i, j = i + 1 := ⟨j - 1, by omega⟩
    obtain ⟨h, hh⟩ : ∃ h, h = 2 ^ i := ⟨_, rfl⟩
    have h2 : m1 = 2 * h := by have := unhide HKJ; rw [hi, Nat.pow_succ, ← hh] at this; omega
    have hh1 : 1 ≤ h := by rw [hh]; exact Nat.one_le_two_pow
    obtain ⟨rp, hrp⟩ : ∃ r, r = trootP (ls.take h) := ⟨_, rfl⟩
    obtain ⟨rq, hrq⟩ : ∃ r, r = trootP (ls.drop h) := ⟨_, rfl⟩
    have HRP := hide hrp
    have HRQ := hide hrq
    have HRH : Hid (rl = tnodeP rp rq) := by rw [unhide HRL, root_halves (j := i) (by rw [unhide HLE, unhide HKJ, hi]), ← hh, ← hrp, ← hrq]; exact hide rfl
    have HMA : Hid (∀ x ∈ ls.take h, x.length ≤ 1000) := hide (fun x hx => unhide HM x (List.mem_of_mem_take hx))
    have HMB : Hid (∀ x ∈ ls.drop h, x.length ≤ 1000) := hide (fun x hx => unhide HM x (List.mem_of_mem_drop hx))
    have HPO : Hid (rp.length ≤ 1000000 ∧ Bs rp) := by
      rw [hrp]
      exact ⟨Nat.le_trans (trootP_le 1000 (by omega) _ (unhide HMA)) (by omega), trootP_bs _ (fun x hx => unhide HB x (List.mem_of_mem_take hx))⟩
    have HQO : Hid (rq.length ≤ 1000000 ∧ Bs rq) := by
      rw [hrq]
      exact ⟨Nat.le_trans (trootP_le 1000 (by omega) _ (unhide HMB)) (by omega), trootP_bs _ (fun x hx => unhide HB x (List.mem_of_mem_drop hx))⟩
    have HLA : Hid ((ls.take h).length = h) := hide (by have := unhide HLE; simp; omega)
    have HLB : Hid ((ls.drop h).length = h) := hide (by have := unhide HLE; simp; omega)
    have HHL : Hid (h ≤ ls.length) := hide (by have := unhide HLE; omega)
    have hne1 : ¬ (m1 : Int) = 1 := by omega
    have hh64 : h ≤ 64 := by omega
    have hwh : IntKind.i64.wrap (h : Int) = (h : Int) := wrap_at rfl (by omega) (by omega)
    have hquo : (m1 : Int).tdiv 2 = (h : Int) := by rw [h2, Int.tdiv_eq_ediv_of_nonneg (by omega)]; omega
    clear hone hi hh hrp hrq h2 HKJ
    go_wp2_with fail
    refine region_grow Tryd.mixed [Is (.int .i64 m1), Is (.bool false), Is (.bool false), Is (.slice a1 m1 c1), SlT (rl), Is (.string SL), Is (.slice a1 m1 c1), Is (.int .i64 m1), Is (.int .i64 h), LcM ((ls).take h), SlT (rp), Is (.slice a1 m1 c1), Is (.int .i64 m1), Is (.int .i64 h), LcM ((ls).drop h), SlT (rq), SlT (rl), Is (.string SL), Is (.bool true), Is (.bool true), Is (.bool true), Is (.bool true), Is (.bool true), Is (.bool true)] [[(5, none)], [(30, some 0)], [(31, some 1)], [(6, none), (32, some 2)], [(33, some 3), (32, some 2)], [(34, some 4), (32, some 2)], [(6, none), (32, some 2)], [(5, none), (32, some 2)], [(37, some 7), (32, some 2)], [(36, some 6), (38, some 8), (32, some 2)], [(39, some 9), (32, some 2)], [(6, none), (32, some 2)], [(5, none), (32, some 2)], [(42, some 12), (32, some 2)], [(41, some 11), (43, some 13), (32, some 2)], [(44, some 14), (32, some 2)], [(40, some 10), (45, some 15), (32, some 2)], [(46, some 16), (32, some 2)], [(35, some 5), (47, some 17), (32, some 2)], [(32, some 2), (48, some 18)], [(49, some 19)], [(50, some 20)], [(50, some 20), (51, some 21)], [(52, some 22)]] (by kernel_rfl) ?_ ?_ ?_
    · simp only [List.mem_cons, List.not_mem_nil, or_false]
      intro R hR
      rcases hR with rfl | rfl | rfl | rfl | rfl | rfl | rfl | rfl | rfl | rfl | rfl | rfl | rfl | rfl | rfl | rfl | rfl | rfl | rfl | rfl | rfl | rfl | rfl | rfl <;> first | exact stable_is _ | exact stable_sl _ | exact stable_lcm _
    · refine steps_cons (fun a w hk hn => ?_) ?_
      · have h5 : a.eval (.tmp 5) = .int .i64 m1 := hn.1
        clear hn
        refine wants_plain rfl ?_
        exact grown_move (.tmp 5) rfl h5
      refine steps_cons (fun a w hk hn => ?_) ?_
      · have h30 : a.eval (.tmp 30) = .int .i64 m1 := hn.1
        clear hn
        refine wants_plain rfl ?_
        refine grown_run (v := .bool false) ?_ (Kp.refl _ _) rfl
        obtain ⟨ρ, hρ, hc, hf, hg⟩ := eval_is a
        rw [hρ] at h30 ⊢
        simp [go_sem, hc, h30, hne1]
      refine steps_cons (fun a w hk hn => ?_) ?_
      · have h31 : a.eval (.tmp 31) = .bool false := hn.1
        clear hn
        refine wants_plain rfl ?_
        exact grown_move (.tmp 31) rfl h31
      refine steps_cons (fun a w hk hn => ?_) ?_
      · have h6 : a.eval (.tmp 6) = .slice a1 m1 c1 := hn.1
        have h32 : a.eval (.tmp 32) = .bool false := hn.2.1
        clear hn
        refine wants_guard (d := 32) rfl rfl h32 ?_
        exact grown_move (.tmp 6) rfl h6
      refine steps_cons (fun a w hk hn => ?_) ?_
      · have h33 : a.eval (.tmp 33) = .slice a1 m1 c1 := hn.1
        have h32 : a.eval (.tmp 32) = .bool false := hn.2.1
        clear hn
        refine wants_guard (d := 32) rfl rfl h32 ?_
        refine grown_call (f := 10) rfl Tryd.func10 (by kernel_rfl) (by kernel_rfl) ?_
        simp only [List.map_toArray, List.map_cons, List.map_nil, h33]
        refine (troot_any m1 _ ls rl w (unhide HRL) (unhide HLE) (by omega) (unhide HLL w hk) (unhide HM) (unhide HGM w hk)).mono ?_
        rintro e w' ⟨ao, m, c, rfl, R, K⟩
        exact ⟨_, rfl, K, R.sl⟩
      refine steps_cons (fun a w hk hn => ?_) ?_
      · have h34 : Sl w (a.eval (.tmp 34)) (rl) := hn.1
        have h32 : a.eval (.tmp 32) = .bool false := hn.2.1
        clear hn
        refine wants_guard (d := 32) rfl rfl h32 ?_
        exact grown_conv (.tmp 34) _ _ 5 _ rfl h34 Tryd.underlying24 Tryd.underlying5 Tryd.underlying9 (congrArg Value.string (unhide HSL).symm)
      refine steps_cons (fun a w hk hn => ?_) ?_
      · have h6 : a.eval (.tmp 6) = .slice a1 m1 c1 := hn.1
        have h32 : a.eval (.tmp 32) = .bool false := hn.2.1
        clear hn
        refine wants_guard (d := 32) rfl rfl h32 ?_
        exact grown_move (.tmp 6) rfl h6
      refine steps_cons (fun a w hk hn => ?_) ?_
      · have h5 : a.eval (.tmp 5) = .int .i64 m1 := hn.1
        have h32 : a.eval (.tmp 32) = .bool false := hn.2.1
        clear hn
        refine wants_guard (d := 32) rfl rfl h32 ?_
        exact grown_move (.tmp 5) rfl h5
      refine steps_cons (fun a w hk hn => ?_) ?_
      · have h37 : a.eval (.tmp 37) = .int .i64 m1 := hn.1
        have h32 : a.eval (.tmp 32) = .bool false := hn.2.1
        clear hn
        refine wants_guard (d := 32) rfl rfl h32 ?_
        refine grown_run (v := .int .i64 h) ?_ (Kp.refl _ _) rfl
        obtain ⟨ρ, hρ, hc, hf, hg⟩ := eval_is a
        rw [hρ] at h37 ⊢
        simp [go_sem, hc, h37, hquo, hwh]
      refine steps_cons (fun a w hk hn => ?_) ?_
      · have h36 : a.eval (.tmp 36) = .slice a1 m1 c1 := hn.1
        have h38 : a.eval (.tmp 38) = .int .i64 h := hn.2.1
        have h32 : a.eval (.tmp 32) = .bool false := hn.2.2.1
        clear hn
        refine wants_guard (d := 32) rfl rfl h32 ?_
        exact grown_lhead (.tmp 36) (.tmp 38) (ls) h rfl (by rw [h36]; exact unhide HLL w hk) h38 (unhide HHL)
      refine steps_cons (fun a w hk hn => ?_) ?_
      · have h39 : (LcM ((ls).take h)) (a.eval (.tmp 39)) w := hn.1
        have h32 : a.eval (.tmp 32) = .bool false := hn.2.1
        clear hn
        refine wants_guard (d := 32) rfl rfl h32 ?_
        refine grown_call (f := 10) rfl Tryd.func10 (by kernel_rfl) (by kernel_rfl) ?_
        simp only [List.map_toArray, List.map_cons, List.map_nil]
        refine (troot_any h _ _ rp w (unhide HRP) (unhide HLA) (by omega) h39 (unhide HMA) (unhide HGM w hk)).mono ?_
        rintro e w' ⟨ao, m, c, rfl, R, K⟩
        exact ⟨_, rfl, K, R.sl⟩
      refine steps_cons (fun a w hk hn => ?_) ?_
      · have h6 : a.eval (.tmp 6) = .slice a1 m1 c1 := hn.1
        have h32 : a.eval (.tmp 32) = .bool false := hn.2.1
        clear hn
        refine wants_guard (d := 32) rfl rfl h32 ?_
        exact grown_move (.tmp 6) rfl h6
      refine steps_cons (fun a w hk hn => ?_) ?_
      · have h5 : a.eval (.tmp 5) = .int .i64 m1 := hn.1
        have h32 : a.eval (.tmp 32) = .bool false := hn.2.1
        clear hn
        refine wants_guard (d := 32) rfl rfl h32 ?_
        exact grown_move (.tmp 5) rfl h5
      refine steps_cons (fun a w hk hn => ?_) ?_
      · have h42 : a.eval (.tmp 42) = .int .i64 m1 := hn.1
        have h32 : a.eval (.tmp 32) = .bool false := hn.2.1
        clear hn
        refine wants_guard (d := 32) rfl rfl h32 ?_
        refine grown_run (v := .int .i64 h) ?_ (Kp.refl _ _) rfl
        obtain ⟨ρ, hρ, hc, hf, hg⟩ := eval_is a
        rw [hρ] at h42 ⊢
        simp [go_sem, hc, h42, hquo, hwh]
      refine steps_cons (fun a w hk hn => ?_) ?_
      · have h41 : a.eval (.tmp 41) = .slice a1 m1 c1 := hn.1
        have h43 : a.eval (.tmp 43) = .int .i64 h := hn.2.1
        have h32 : a.eval (.tmp 32) = .bool false := hn.2.2.1
        clear hn
        refine wants_guard (d := 32) rfl rfl h32 ?_
        exact grown_lfrom (.tmp 41) (.tmp 43) (ls) h rfl (by rw [h41]; exact unhide HLL w hk) h43 (unhide HHL)
      refine steps_cons (fun a w hk hn => ?_) ?_
      · have h44 : (LcM ((ls).drop h)) (a.eval (.tmp 44)) w := hn.1
        have h32 : a.eval (.tmp 32) = .bool false := hn.2.1
        clear hn
        refine wants_guard (d := 32) rfl rfl h32 ?_
        refine grown_call (f := 10) rfl Tryd.func10 (by kernel_rfl) (by kernel_rfl) ?_
        simp only [List.map_toArray, List.map_cons, List.map_nil]
        refine (troot_any h _ _ rq w (unhide HRQ) (unhide HLB) (by omega) h44 (unhide HMB) (unhide HGM w hk)).mono ?_
        rintro e w' ⟨ao, m, c, rfl, R, K⟩
        exact ⟨_, rfl, K, R.sl⟩
      refine steps_cons (fun a w hk hn => ?_) ?_
      · have h40 : Sl w (a.eval (.tmp 40)) (rp) := hn.1
        have h45 : Sl w (a.eval (.tmp 45)) (rq) := hn.2.1
        have h32 : a.eval (.tmp 32) = .bool false := hn.2.2.1
        clear hn
        refine wants_guard (d := 32) rfl rfl h32 ?_
        refine grown_call (f := 21) rfl Tryd.func21 (by kernel_rfl) (by kernel_rfl) ?_
        simp only [List.map_toArray, List.map_cons, List.map_nil]
        refine (tnode_any _ _ rp rq rl (unhide HRH) w h40 (unhide HPO).2 (unhide HPO).1 h45 (unhide HQO).2 (unhide HQO).1 (unhide HGM w hk)).mono ?_
        rintro e w' ⟨ao, m, c, rfl, R, K⟩
        exact ⟨_, rfl, K, R.sl⟩
      refine steps_cons (fun a w hk hn => ?_) ?_
      · have h46 : Sl w (a.eval (.tmp 46)) (rl) := hn.1
        have h32 : a.eval (.tmp 32) = .bool false := hn.2.1
        clear hn
        refine wants_guard (d := 32) rfl rfl h32 ?_
        exact grown_conv (.tmp 46) _ _ 5 _ rfl h46 Tryd.underlying24 Tryd.underlying5 Tryd.underlying9 (congrArg Value.string (unhide HSL).symm)
      refine steps_cons (fun a w hk hn => ?_) ?_
      · have h35 : a.eval (.tmp 35) = .string SL := hn.1
        have h47 : a.eval (.tmp 47) = .string SL := hn.2.1
        have h32 : a.eval (.tmp 32) = .bool false := hn.2.2.1
        clear hn
        refine wants_guard (d := 32) rfl rfl h32 ?_
        refine grown_run (v := .bool true) ?_ (Kp.refl _ _) rfl
        obtain ⟨ρ, hρ, hc, hf, hg⟩ := eval_is a
        rw [hρ] at h35 h47 ⊢
        simp [go_sem, h35, h47]
      refine steps_cons (fun a w hk hn => ?_) ?_
      · have h32 : a.eval (.tmp 32) = .bool false := hn.1
        have h48 : a.eval (.tmp 48) = .bool true := hn.2.1
        clear hn
        refine wants_plain rfl ?_
        exact grown_pick _ _ _ false rfl h32 h48
      refine steps_cons (fun a w hk hn => ?_) ?_
      · have h49 : a.eval (.tmp 49) = .bool true := hn.1
        clear hn
        refine wants_plain rfl ?_
        exact grown_move (.tmp 49) rfl h49
      refine steps_cons (fun a w hk hn => ?_) ?_
      · have h50 : a.eval (.tmp 50) = .bool true := hn.1
        clear hn
        refine wants_guard (d := 50) rfl rfl h50 ?_
        refine grown_call (f := 15) rfl Tryd.func15 (by kernel_rfl) (by kernel_rfl) ?_
        simp only [List.map_toArray, List.map_nil]
        refine (tknown_any w (unhide HGM w hk)).mono ?_
        rintro e w' ⟨rfl, K⟩
        exact ⟨_, rfl, K, rfl⟩
      refine steps_cons (fun a w hk hn => ?_) ?_
      · have h50 : a.eval (.tmp 50) = .bool true := hn.1
        have h51 : a.eval (.tmp 51) = .bool true := hn.2.1
        clear hn
        refine wants_plain rfl ?_
        exact grown_pick _ _ _ true rfl h50 h51
      refine steps_cons (fun a w hk hn => ?_) ?_
      · have h52 : a.eval (.tmp 52) = .bool true := hn.1
        clear hn
        refine wants_plain rfl ?_
        exact grown_assign (.tmp 52) rfl h52
      exact trivial
    intro W2 hkW2
    rintro _ rfl
    rintro _ rfl
    rintro _ rfl
    rintro _ rfl
    intro v34 h34
    rintro _ rfl
    rintro _ rfl
    rintro _ rfl
    rintro _ rfl
    intro v39 h39
    intro v40 h40
    rintro _ rfl
    rintro _ rfl
    rintro _ rfl
    intro v44 h44
    intro v45 h45
    intro v46 h46
    rintro _ rfl
    rintro _ rfl
    rintro _ rfl
    rintro _ rfl
    rintro _ rfl
    rintro _ rfl
    rintro _ rfl
    refine fin_nil ?_
    simp only [Act.put, List.set_cons_zero, List.set_cons_succ, List.setIfInBounds_toArray]
    go_wp2_with fail
    go_ret
    exact ⟨rfl, ((unhide HK2).trans ((unhide HKW).trans ((kp_drew W1).trans hkW2))).below (Nat.le_refl _) (by simp)⟩

set_option maxRecDepth 100000 in
theorem lifted (os : Os) (started : os.Started) (H : Type) (enc : TypeId × Value → H) :
    ReturnsInHanded {} Tryd.checked os 7 .any (fun w args => (Rows.treeAppendsSpec.pre enc Tryd.prog Tryd.f7 [] false w args ∧ laidMetH Tryd.prog laid1 w) ∧ sizedMet enc Tryd.prog Tryd.f7 (OpenSpec.ofChange Rows.treeAppendsSpec) false w args) (Rows.treeAppendsSpec.post enc Tryd.prog Tryd.f7 false true false false) := by
  refine returnsInHanded_of_change_and (C := Tryd.checked) (X := fun w _ => laidMetH Tryd.prog laid1 w) (fun _ _ _ hh h => h.of_heap hh) own started (by kernel_rfl) Tryd.func7
    (ChangeSpec.witness_shaped (enc := enc) (C := Tryd.checked) (os := os) (X := fun w _ => laidMetH Tryd.prog laid1 w) false (World.doorLaid Tryd.prog 400 os) #[.int .i64 0, .slice none 0 0] 8 rfl (World.shaped_of_RefB (by kernel_rfl) (by kernel_rfl)) (by kernel_rfl) (by kernel_rfl) (by kernel_rfl) (door_met os _)) ?_
  intro W base args ds gs before hval0 hW hcnd hsz0 hL _
  have hG := gl_of_laid hL
  have hval : ∀ (j : Nat) t v, Tryd.f7.params[j]? = some t → args[j]? = some v → Value.okWide Tryd.prog W .any base t v := hval0
  have hW' := hW
  obtain ⟨p, q, hA0, hV, rfl, hfz, hnd⟩ := hW
  have hA : DataW.TrodAll enc Tryd.prog W 0 (fun _ => true) true Tryd.f7.params.toList args.toList ds p := hA0
  rw [Tryd.params7] at hA hval
  obtain ⟨v0, vs0, d0, ds0, p0, q0, hargs, rfl, rfl, h0, r0⟩ := trodAll_cons hA
  obtain ⟨v1, vs1, d1, ds1, p1, q1, rfl, rfl, rfl, h1, r1⟩ := trodAll_cons r0
  obtain ⟨rfl, rfl, rfl⟩ := trodAll_nil r1
  obtain rfl : args = #[v0, v1] := by cases args; simp_all
  obtain ⟨rfl, rfl⟩ := trodVars_none hV
  obtain ⟨a0, rfl, rfl, rfl, w0⟩ := open_int Tryd.underlying3 (hval 0 3 v0 rfl rfl) h0
  obtain ⟨a1, len1, cap1, rfl⟩ := okWide_slice Tryd.underlying24 (hval 1 24 v1 rfl rfl)
  have k1 := h1
  have lt1 : ∀ x ∈ p1, x.block < W.heap.size := by obtain ⟨m, hm⟩ := k1; exact DataW.trod_lt m _ _ _ hm
  obtain ⟨l1, s1, b1⟩ : ∃ bs, Sl W (.slice a1 len1 cap1) bs ∧ Bs bs := by
    obtain ⟨fuel, hf⟩ := h1
    exact bytes_of_trod (by simpa [Value.cells] using hf)
  clear hA0 hval0
  refine (walk a0 (.slice a1 len1 cap1) l1 W hG (bounds_i64 w0) s1 b1).mono fun e W' ⟨he, bel⟩ => ?_
  subst he
  exact ⟨_, rfl, _, _, _, [], _, [], hW', trodAll_mk1 (shut_bool Tryd.underlying4 _), (trodAll_cons_mk (shut_int Tryd.underlying3 w0) (trodAll_cons_mk (Below.trod laidOut (by kernel_rfl) (of_decide_eq_true (by kernel_rfl)) k1 bel lt1) trodAll_mk0)), rfl, bel.frame _, fun h => by cases h⟩

theorem over : Rows.treeAppendsRow.holds Tryd.pinned (OpenSpec.ofChange Rows.treeAppendsSpec) :=
  OpenClaim.holds_of_wide 7 Tryd.f7 rfl rfl rfl rfl rfl rfl rfl ⟨rfl, rfl, rfl, rfl, rfl⟩ rfl rfl rfl rfl rfl (by kernel_rfl) Tryd.func7 (by kernel_rfl)
    (of_decide_eq_true (by kernel_rfl)) (by unfold Func.isWrapper; first | (rw [if_pos (by decide +kernel)]; kernel_rfl) | (rw [if_neg (by decide +kernel)]; exact ⟨rfl, rfl⟩))
    (fun os started H enc _ => lifted os started H enc)
end Go.Proofs.YtpiekmflfgpalaaDoor.treeAppends

namespace Go.Proofs.YtpiekmflfgpalaaDoor
/-- The given statement: the tied card. -/
theorem TreeAppends_holds : Rows.TreeAppendsCardSaid :=
  Claim7.holds_tied_plain_at .later [] [.data] true Rows.treeAppendsCard.stood.harness false
    treeAppends.over (fun _ h => by cases h) (by kernel_rfl) (fun _ h => by cases h) treeAppends_row_tie rfl ⟨rfl, rfl⟩ (by kernel_rfl) rfl
    (fun f fn hf hfn => by
      obtain rfl : f = 7 := Option.some.inj ((show Tryd.prog.funcNamed "broadsheet/broadsheetlaw6.TreeAppends" = some 7 by kernel_rfl).symm.trans hf) |>.symm
      obtain rfl : fn = Tryd.f7 := (Option.some.inj (Tryd.func7.symm.trans hfn)).symm
      exact ⟨by kernel_rfl, fun j t ht => by
        rw [Tryd.params7] at ht
        have hm : t ∈ ([3, 24] : List TypeId) := by simpa using Array.mem_of_getElem? ht
        have hall : (([3, 24] : List TypeId).all fun u => !Tryd.prog.wantsStandIn u) = true := by kernel_rfl
        exact (show Tryd.prog.wantsStandIn t = false by simpa using List.all_eq_true.1 hall t hm)⟩)
    (by kernel_rfl)
#print axioms TreeAppends_holds
end Go.Proofs.YtpiekmflfgpalaaDoor
