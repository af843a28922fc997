/-
  The statement TreeHalvesCardSaid: for all numbers the law function TreeHalves returns true; the table hash.roundWords starts as the program's text lays it (tied). No other condition.
-/
import Derived.Test.YtpiekmflfgpalaaDoorKTKnown
import Derived.Test.YtpiekmflfgpalaaDoorTie
import Derived.Test.YtpiekmflfgpalaaDoorCards
import Derived.SevenTiedAt
namespace Go.Proofs.YtpiekmflfgpalaaDoor.treeHalves
open Go.ChangeShapes Go.WideShapes Go.ChangeAt Go.RowKit
open Go.Proofs.YtpiekmflfgpalaaDoor
set_option linter.unusedVariables false

theorem tand (j : Nat) (h : j ≤ 7) : bits .and .i64 ((2 ^ j : Nat) : Int) (((2 ^ j : Nat) : Int) - 1) = 0 := by
  rcases (by omega : j = 0 ∨ j = 1 ∨ j = 2 ∨ j = 3 ∨ j = 4 ∨ j = 5 ∨ j = 6 ∨ j = 7) with rfl | rfl | rfl | rfl | rfl | rfl | rfl | rfl <;> decide +kernel

set_option maxRecDepth 100000 in
set_option maxHeartbeats 4000000 in
theorem walk (n : Int) (w : World) (hG : Gl w) (hn : -9223372036854775808 ≤ n ∧ n ≤ 9223372036854775807) :
    Calls Tryd.prog 5 #[.int .i64 n] w fun e w' => e = .returned (.bool true) ∧ Below w.heap.size w w' := by
  have HG := hide hG
  have HCW := hide (within_any n 2 200 w (by omega) (by omega) (by omega) hn)
  clear hG hn
  go_enter Tryd.func5, Tryd.ntmps5
  go_wp2_with fail
  refine (unhide HCW).mono ?_
  rintro ee w5 ⟨xi, rfl, hx0, hx1, hw⟩
  subst w5
  obtain ⟨N, rfl⟩ := Int.eq_ofNat_of_zero_le (by omega : 0 ≤ xi)
  have hN2 : 2 ≤ N := by omega
  have HC := hide (kleaves_any N w (by omega))
  clear HCW
  go_wp2_with fail
  refine (unhide HC).mono ?_
  rintro ee w1 ⟨a1, m1, c1, rfl, A1⟩
  have K1 := A1.kp
  obtain ⟨ls, hls⟩ : ∃ x, x = kleavesP N := ⟨_, rfl⟩
  have L1 : LcM ls (.slice a1 m1 c1) w1 := by rw [hls]; exact A1.lc (by rw [kleavesP_len]; omega)
  have hlen : ls.length = N := by rw [hls, kleavesP_len]
  have hm1 : m1 = N := by obtain ⟨_, _, e, _⟩ := L1.shape; injection e with _ e; rw [e, hlen]
  subst hm1
  have HM : Hid (∀ x ∈ ls, x.length ≤ 1000) := by rw [hls]; exact kleavesP_le _
  have HB := hide L1.bs
  obtain ⟨k, hk⟩ : ∃ k, k = tsplP m1 := ⟨_, rfl⟩
  have HC2 := hide (tsplit_any m1 k w1 (by rw [Int.toNat_natCast]; exact hk) (by omega))
  have k1 : 1 ≤ k := by rw [hk]; exact tsplP_pos hN2
  have k2 : k < m1 := by rw [hk]; exact tsplP_lt hN2
  have k3 : m1 ≤ 2 * k := by rw [hk]; exact tsplP_half hN2
  have kb : bits .and .i64 (k : Int) ((k : Int) - 1) = 0 := by
    obtain ⟨j, hj⟩ := tsplP_pow hN2
    rw [← hk] at hj
    have hj7 : j ≤ 7 := by
      rcases Nat.lt_or_ge j 8 with h | h
      · omega
      · have := Nat.pow_le_pow_right (n := 2) (by omega) h
        omega
    rw [hj]
    exact tand j hj7
  obtain ⟨ra, hra⟩ : ∃ r, r = trootP (ls.take k) := ⟨_, rfl⟩
  obtain ⟨rb, hrb⟩ : ∃ r, r = trootP (ls.drop k) := ⟨_, rfl⟩
  obtain ⟨rt, hrt⟩ : ∃ r, r = trootP ls := ⟨_, rfl⟩
  have HRTN : Hid (rt = tnodeP ra rb) := by rw [hrt, trootP_more (by omega), hlen, ← hk, hra, hrb]; exact hide rfl
  have HRA := hide hra
  have HRB := hide hrb
  have HRT := hide hrt
  have HRTT : Hid (rt = trootP (ls.take m1)) := by rw [hrt, List.take_of_length_le (by omega)]; exact hide rfl
  have HAO : Hid (ra.length ≤ 1000000 ∧ Bs ra) := by
    rw [hra]
    exact ⟨Nat.le_trans (trootP_le 1000 (by omega) _ (fun x hx => unhide HM x (List.mem_of_mem_take hx))) (by omega), trootP_bs _ (fun x hx => unhide HB x (List.mem_of_mem_take hx))⟩
  have HBO : Hid (rb.length ≤ 1000000 ∧ Bs rb) := by
    rw [hrb]
    exact ⟨Nat.le_trans (trootP_le 1000 (by omega) _ (fun x hx => unhide HM x (List.mem_of_mem_drop hx))) (by omega), trootP_bs _ (fun x hx => unhide HB x (List.mem_of_mem_drop hx))⟩
  have HMA : Hid (∀ x ∈ ls.take k, x.length ≤ 1000) := hide (fun x hx => unhide HM x (List.mem_of_mem_take hx))
  have HMB : Hid (∀ x ∈ ls.drop k, x.length ≤ 1000) := hide (fun x hx => unhide HM x (List.mem_of_mem_drop hx))
  have HLA : Hid ((ls.take k).length = k) := hide (by simp; omega)
  have HLB : Hid ((ls.drop k).length = m1 - k) := hide (by simp; omega)
  have HKL : Hid (k ≤ ls.length) := hide (by omega)
  have HLE := hide hlen
  obtain ⟨SA, hSA⟩ : ∃ S, S = strOfNums ra := ⟨_, rfl⟩
  obtain ⟨ST, hST⟩ : ∃ S, S = strOfNums rt := ⟨_, rfl⟩
  have HSA := hide hSA
  have HST := hide hST
  have HLL : Hid (∀ w', Kp [] w1.drew w' → LcM ls (.slice a1 m1 c1) w') := fun w' k' => L1.kept ((kp_drew w1).trans k')
  have HGL : Hid (∀ w', Kp [] w1.drew w' → Gl w') := fun w' k' => (unhide HG).kept (K1.trans ((kp_drew w1).trans k')) (by simp)
  have HK1 := hide K1
  have q1 : ¬ (k : Int) < 1 := by omega
  have q2 : ¬ (m1 : Int) ≤ (k : Int) := by omega
  have q3 : ¬ (2 * (k : Int)) < (m1 : Int) := by omega
  clear A1 K1 L1 hls hlen hra hrb hrt hSA hST HC hk
  go_wp2_with fail
  refine (unhide HC2).mono ?_
  rintro ee w2 ⟨rfl, hw⟩
  subst w2
  clear HC2
  go_wp2_with fail
  refine region_grow Tryd.mixed [Is (.slice a1 m1 c1), SlT (rt), Is (.string ST), Is (.slice a1 m1 c1), Is (.int .i64 k), LcM ((ls).take k), SlT (ra), Is (.slice a1 m1 c1), Is (.int .i64 k), LcM ((ls).drop k), SlT (rb), SlT (rt), Is (.string ST), Is (.bool true), Is (.bool true), Is (.slice a1 m1 c1), Is (.int .i64 k), SlT (ra), Is (.string SA), Is (.slice a1 m1 c1), Is (.int .i64 k), LcM ((ls).take k), SlT (ra), Is (.string SA), Is (.bool true), Is (.bool true), Is (.bool true), Is (.slice a1 m1 c1), Is (.int .i64 m1), SlT (rt), Is (.string ST), Is (.slice a1 m1 c1), SlT (rt), Is (.string ST), Is (.bool true), Is (.bool true), Is (.bool true), Is (.bool true), Is (.bool true), Is (.bool true)] [[(3, none)], [(31, some 0)], [(32, some 1)], [(3, none)], [(4, none)], [(34, some 3), (35, some 4)], [(36, some 5)], [(3, none)], [(4, none)], [(38, some 7), (39, some 8)], [(40, some 9)], [(37, some 6), (41, some 10)], [(42, some 11)], [(33, some 2), (43, some 12)], [(44, some 13)], [(3, none), (45, some 14)], [(4, none), (45, some 14)], [(46, some 15), (47, some 16), (45, some 14)], [(48, some 17), (45, some 14)], [(3, none), (45, some 14)], [(4, none), (45, some 14)], [(50, some 19), (51, some 20), (45, some 14)], [(52, some 21), (45, some 14)], [(53, some 22), (45, some 14)], [(49, some 18), (54, some 23), (45, some 14)], [(45, some 14), (55, some 24)], [(56, some 25)], [(3, none), (57, some 26)], [(0, none), (57, some 26)], [(58, some 27), (59, some 28), (57, some 26)], [(60, some 29), (57, some 26)], [(3, none), (57, some 26)], [(62, some 31), (57, some 26)], [(63, some 32), (57, some 26)], [(61, some 30), (64, some 33), (57, some 26)], [(57, some 26), (65, some 34)], [(66, some 35)], [(67, some 36)], [(67, some 36), (68, some 37)], [(69, some 38)]] (by kernel_rfl) ?_ ?_ ?_
  · simp only [List.mem_cons, List.not_mem_nil, or_false]
    intro R hR
    rcases hR with rfl | rfl | rfl | rfl | rfl | rfl | rfl | rfl | rfl | rfl | rfl | rfl | rfl | rfl | rfl | rfl | rfl | rfl | rfl | rfl | rfl | rfl | rfl | rfl | rfl | rfl | rfl | rfl | rfl | rfl | rfl | rfl | rfl | rfl | rfl | rfl | rfl | rfl | rfl | rfl <;> first | exact stable_is _ | exact stable_sl _ | exact stable_lcm _
  · refine steps_cons (fun a w hk hn => ?_) ?_
    · have h3 : a.eval (.tmp 3) = .slice a1 m1 c1 := hn.1
      clear hn
      refine wants_plain rfl ?_
      exact grown_move (.tmp 3) rfl h3
    refine steps_cons (fun a w hk hn => ?_) ?_
    · have h31 : a.eval (.tmp 31) = .slice a1 m1 c1 := hn.1
      clear hn
      refine wants_plain rfl ?_
      refine grown_call (f := 10) rfl Tryd.func10 (by kernel_rfl) (by kernel_rfl) ?_
      simp only [List.map_toArray, List.map_cons, List.map_nil, h31]
      refine (troot_any m1 _ ls rt w (unhide HRT) (unhide HLE) (by omega) (unhide HLL w hk) (unhide HM) (unhide HGL w hk)).mono ?_
      rintro e w' ⟨ao, m, c, rfl, R, K⟩
      exact ⟨_, rfl, K, R.sl⟩
    refine steps_cons (fun a w hk hn => ?_) ?_
    · have h32 : Sl w (a.eval (.tmp 32)) (rt) := hn.1
      clear hn
      refine wants_plain rfl ?_
      exact grown_conv (.tmp 32) _ _ 5 _ rfl h32 Tryd.underlying24 Tryd.underlying5 Tryd.underlying9 (congrArg Value.string (unhide HST).symm)
    refine steps_cons (fun a w hk hn => ?_) ?_
    · have h3 : a.eval (.tmp 3) = .slice a1 m1 c1 := hn.1
      clear hn
      refine wants_plain rfl ?_
      exact grown_move (.tmp 3) rfl h3
    refine steps_cons (fun a w hk hn => ?_) ?_
    · have h4 : a.eval (.tmp 4) = .int .i64 k := hn.1
      clear hn
      refine wants_plain rfl ?_
      exact grown_move (.tmp 4) rfl h4
    refine steps_cons (fun a w hk hn => ?_) ?_
    · have h34 : a.eval (.tmp 34) = .slice a1 m1 c1 := hn.1
      have h35 : a.eval (.tmp 35) = .int .i64 k := hn.2.1
      clear hn
      refine wants_plain rfl ?_
      exact grown_lhead (.tmp 34) (.tmp 35) (ls) k rfl (by rw [h34]; exact unhide HLL w hk) h35 (unhide HKL)
    refine steps_cons (fun a w hk hn => ?_) ?_
    · have h36 : (LcM ((ls).take k)) (a.eval (.tmp 36)) w := hn.1
      clear hn
      refine wants_plain rfl ?_
      refine grown_call (f := 10) rfl Tryd.func10 (by kernel_rfl) (by kernel_rfl) ?_
      simp only [List.map_toArray, List.map_cons, List.map_nil]
      refine (troot_any k _ _ ra w (unhide HRA) (unhide HLA) (by omega) h36 (unhide HMA) (unhide HGL w hk)).mono ?_
      rintro e w' ⟨ao, m, c, rfl, R, K⟩
      exact ⟨_, rfl, K, R.sl⟩
    refine steps_cons (fun a w hk hn => ?_) ?_
    · have h3 : a.eval (.tmp 3) = .slice a1 m1 c1 := hn.1
      clear hn
      refine wants_plain rfl ?_
      exact grown_move (.tmp 3) rfl h3
    refine steps_cons (fun a w hk hn => ?_) ?_
    · have h4 : a.eval (.tmp 4) = .int .i64 k := hn.1
      clear hn
      refine wants_plain rfl ?_
      exact grown_move (.tmp 4) rfl h4
    refine steps_cons (fun a w hk hn => ?_) ?_
    · have h38 : a.eval (.tmp 38) = .slice a1 m1 c1 := hn.1
      have h39 : a.eval (.tmp 39) = .int .i64 k := hn.2.1
      clear hn
      refine wants_plain rfl ?_
      exact grown_lfrom (.tmp 38) (.tmp 39) (ls) k rfl (by rw [h38]; exact unhide HLL w hk) h39 (unhide HKL)
    refine steps_cons (fun a w hk hn => ?_) ?_
    · have h40 : (LcM ((ls).drop k)) (a.eval (.tmp 40)) w := hn.1
      clear hn
      refine wants_plain rfl ?_
      refine grown_call (f := 10) rfl Tryd.func10 (by kernel_rfl) (by kernel_rfl) ?_
      simp only [List.map_toArray, List.map_cons, List.map_nil]
      refine (troot_any (m1 - k) _ _ rb w (unhide HRB) (unhide HLB) (by omega) h40 (unhide HMB) (unhide HGL w hk)).mono ?_
      rintro e w' ⟨ao, m, c, rfl, R, K⟩
      exact ⟨_, rfl, K, R.sl⟩
    refine steps_cons (fun a w hk hn => ?_) ?_
    · have h37 : Sl w (a.eval (.tmp 37)) (ra) := hn.1
      have h41 : Sl w (a.eval (.tmp 41)) (rb) := hn.2.1
      clear hn
      refine wants_plain rfl ?_
      refine grown_call (f := 21) rfl Tryd.func21 (by kernel_rfl) (by kernel_rfl) ?_
      simp only [List.map_toArray, List.map_cons, List.map_nil]
      refine (tnode_any _ _ ra rb rt (unhide HRTN) w h37 (unhide HAO).2 (unhide HAO).1 h41 (unhide HBO).2 (unhide HBO).1 (unhide HGL w hk)).mono ?_
      rintro e w' ⟨ao, m, c, rfl, R, K⟩
      exact ⟨_, rfl, K, R.sl⟩
    refine steps_cons (fun a w hk hn => ?_) ?_
    · have h42 : Sl w (a.eval (.tmp 42)) (rt) := hn.1
      clear hn
      refine wants_plain rfl ?_
      exact grown_conv (.tmp 42) _ _ 5 _ rfl h42 Tryd.underlying24 Tryd.underlying5 Tryd.underlying9 (congrArg Value.string (unhide HST).symm)
    refine steps_cons (fun a w hk hn => ?_) ?_
    · have h33 : a.eval (.tmp 33) = .string ST := hn.1
      have h43 : a.eval (.tmp 43) = .string ST := hn.2.1
      clear hn
      refine wants_plain rfl ?_
      refine grown_run (v := .bool true) ?_ (Kp.refl _ _) rfl
      obtain ⟨ρ, hρ, hc, hf, hg⟩ := eval_is a
      rw [hρ] at h33 h43 ⊢
      simp [go_sem, h33, h43]
    refine steps_cons (fun a w hk hn => ?_) ?_
    · have h44 : a.eval (.tmp 44) = .bool true := hn.1
      clear hn
      refine wants_plain rfl ?_
      exact grown_move (.tmp 44) rfl h44
    refine steps_cons (fun a w hk hn => ?_) ?_
    · have h3 : a.eval (.tmp 3) = .slice a1 m1 c1 := hn.1
      have h45 : a.eval (.tmp 45) = .bool true := hn.2.1
      clear hn
      refine wants_guard (d := 45) rfl rfl h45 ?_
      exact grown_move (.tmp 3) rfl h3
    refine steps_cons (fun a w hk hn => ?_) ?_
    · have h4 : a.eval (.tmp 4) = .int .i64 k := hn.1
      have h45 : a.eval (.tmp 45) = .bool true := hn.2.1
      clear hn
      refine wants_guard (d := 45) rfl rfl h45 ?_
      exact grown_move (.tmp 4) rfl h4
    refine steps_cons (fun a w hk hn => ?_) ?_
    · have h46 : a.eval (.tmp 46) = .slice a1 m1 c1 := hn.1
      have h47 : a.eval (.tmp 47) = .int .i64 k := hn.2.1
      have h45 : a.eval (.tmp 45) = .bool true := hn.2.2.1
      clear hn
      refine wants_guard (d := 45) rfl rfl h45 ?_
      refine grown_call (f := 14) rfl Tryd.func14 (by kernel_rfl) (by kernel_rfl) ?_
      simp only [List.map_toArray, List.map_cons, List.map_nil, h46, h47]
      refine (trange_to _ ls k ra w (unhide HRA) (unhide HKL) (by rw [unhide HLE]; omega) (unhide HLL w hk) (unhide HM) (unhide HGL w hk)).mono ?_
      rintro e w' ⟨ao, m, c, rfl, R, K⟩
      exact ⟨_, rfl, K, R.sl⟩
    refine steps_cons (fun a w hk hn => ?_) ?_
    · have h48 : Sl w (a.eval (.tmp 48)) (ra) := hn.1
      have h45 : a.eval (.tmp 45) = .bool true := hn.2.1
      clear hn
      refine wants_guard (d := 45) rfl rfl h45 ?_
      exact grown_conv (.tmp 48) _ _ 5 _ rfl h48 Tryd.underlying24 Tryd.underlying5 Tryd.underlying9 (congrArg Value.string (unhide HSA).symm)
    refine steps_cons (fun a w hk hn => ?_) ?_
    · have h3 : a.eval (.tmp 3) = .slice a1 m1 c1 := hn.1
      have h45 : a.eval (.tmp 45) = .bool true := hn.2.1
      clear hn
      refine wants_guard (d := 45) rfl rfl h45 ?_
      exact grown_move (.tmp 3) rfl h3
    refine steps_cons (fun a w hk hn => ?_) ?_
    · have h4 : a.eval (.tmp 4) = .int .i64 k := hn.1
      have h45 : a.eval (.tmp 45) = .bool true := hn.2.1
      clear hn
      refine wants_guard (d := 45) rfl rfl h45 ?_
      exact grown_move (.tmp 4) rfl h4
    refine steps_cons (fun a w hk hn => ?_) ?_
    · have h50 : a.eval (.tmp 50) = .slice a1 m1 c1 := hn.1
      have h51 : a.eval (.tmp 51) = .int .i64 k := hn.2.1
      have h45 : a.eval (.tmp 45) = .bool true := hn.2.2.1
      clear hn
      refine wants_guard (d := 45) rfl rfl h45 ?_
      exact grown_lhead (.tmp 50) (.tmp 51) (ls) k rfl (by rw [h50]; exact unhide HLL w hk) h51 (unhide HKL)
    refine steps_cons (fun a w hk hn => ?_) ?_
    · have h52 : (LcM ((ls).take k)) (a.eval (.tmp 52)) w := hn.1
      have h45 : a.eval (.tmp 45) = .bool true := hn.2.1
      clear hn
      refine wants_guard (d := 45) rfl rfl h45 ?_
      refine grown_call (f := 10) rfl Tryd.func10 (by kernel_rfl) (by kernel_rfl) ?_
      simp only [List.map_toArray, List.map_cons, List.map_nil]
      refine (troot_any k _ _ ra w (unhide HRA) (unhide HLA) (by omega) h52 (unhide HMA) (unhide HGL w hk)).mono ?_
      rintro e w' ⟨ao, m, c, rfl, R, K⟩
      exact ⟨_, rfl, K, R.sl⟩
    refine steps_cons (fun a w hk hn => ?_) ?_
    · have h53 : Sl w (a.eval (.tmp 53)) (ra) := hn.1
      have h45 : a.eval (.tmp 45) = .bool true := hn.2.1
      clear hn
      refine wants_guard (d := 45) rfl rfl h45 ?_
      exact grown_conv (.tmp 53) _ _ 5 _ rfl h53 Tryd.underlying24 Tryd.underlying5 Tryd.underlying9 (congrArg Value.string (unhide HSA).symm)
    refine steps_cons (fun a w hk hn => ?_) ?_
    · have h49 : a.eval (.tmp 49) = .string SA := hn.1
      have h54 : a.eval (.tmp 54) = .string SA := hn.2.1
      have h45 : a.eval (.tmp 45) = .bool true := hn.2.2.1
      clear hn
      refine wants_guard (d := 45) rfl rfl h45 ?_
      refine grown_run (v := .bool true) ?_ (Kp.refl _ _) rfl
      obtain ⟨ρ, hρ, hc, hf, hg⟩ := eval_is a
      rw [hρ] at h49 h54 ⊢
      simp [go_sem, h49, h54]
    refine steps_cons (fun a w hk hn => ?_) ?_
    · have h45 : a.eval (.tmp 45) = .bool true := hn.1
      have h55 : a.eval (.tmp 55) = .bool true := hn.2.1
      clear hn
      refine wants_plain rfl ?_
      exact grown_pick _ _ _ true rfl h45 h55
    refine steps_cons (fun a w hk hn => ?_) ?_
    · have h56 : a.eval (.tmp 56) = .bool true := hn.1
      clear hn
      refine wants_plain rfl ?_
      exact grown_move (.tmp 56) rfl h56
    refine steps_cons (fun a w hk hn => ?_) ?_
    · have h3 : a.eval (.tmp 3) = .slice a1 m1 c1 := hn.1
      have h57 : a.eval (.tmp 57) = .bool true := hn.2.1
      clear hn
      refine wants_guard (d := 57) rfl rfl h57 ?_
      exact grown_move (.tmp 3) rfl h3
    refine steps_cons (fun a w hk hn => ?_) ?_
    · have h0 : a.eval (.tmp 0) = .int .i64 m1 := hn.1
      have h57 : a.eval (.tmp 57) = .bool true := hn.2.1
      clear hn
      refine wants_guard (d := 57) rfl rfl h57 ?_
      exact grown_move (.tmp 0) rfl h0
    refine steps_cons (fun a w hk hn => ?_) ?_
    · have h58 : a.eval (.tmp 58) = .slice a1 m1 c1 := hn.1
      have h59 : a.eval (.tmp 59) = .int .i64 m1 := hn.2.1
      have h57 : a.eval (.tmp 57) = .bool true := hn.2.2.1
      clear hn
      refine wants_guard (d := 57) rfl rfl h57 ?_
      refine grown_call (f := 14) rfl Tryd.func14 (by kernel_rfl) (by kernel_rfl) ?_
      simp only [List.map_toArray, List.map_cons, List.map_nil, h58, h59]
      refine (trange_to _ ls m1 rt w (unhide HRTT) (by rw [unhide HLE]; omega) (by rw [unhide HLE]; omega) (unhide HLL w hk) (unhide HM) (unhide HGL w hk)).mono ?_
      rintro e w' ⟨ao, m, c, rfl, R, K⟩
      exact ⟨_, rfl, K, R.sl⟩
    refine steps_cons (fun a w hk hn => ?_) ?_
    · have h60 : Sl w (a.eval (.tmp 60)) (rt) := hn.1
      have h57 : a.eval (.tmp 57) = .bool true := hn.2.1
      clear hn
      refine wants_guard (d := 57) rfl rfl h57 ?_
      exact grown_conv (.tmp 60) _ _ 5 _ rfl h60 Tryd.underlying24 Tryd.underlying5 Tryd.underlying9 (congrArg Value.string (unhide HST).symm)
    refine steps_cons (fun a w hk hn => ?_) ?_
    · have h3 : a.eval (.tmp 3) = .slice a1 m1 c1 := hn.1
      have h57 : a.eval (.tmp 57) = .bool true := hn.2.1
      clear hn
      refine wants_guard (d := 57) rfl rfl h57 ?_
      exact grown_move (.tmp 3) rfl h3
    refine steps_cons (fun a w hk hn => ?_) ?_
    · have h62 : a.eval (.tmp 62) = .slice a1 m1 c1 := hn.1
      have h57 : a.eval (.tmp 57) = .bool true := hn.2.1
      clear hn
      refine wants_guard (d := 57) rfl rfl h57 ?_
      refine grown_call (f := 10) rfl Tryd.func10 (by kernel_rfl) (by kernel_rfl) ?_
      simp only [List.map_toArray, List.map_cons, List.map_nil, h62]
      refine (troot_any m1 _ ls rt w (unhide HRT) (unhide HLE) (by omega) (unhide HLL w hk) (unhide HM) (unhide HGL w hk)).mono ?_
      rintro e w' ⟨ao, m, c, rfl, R, K⟩
      exact ⟨_, rfl, K, R.sl⟩
    refine steps_cons (fun a w hk hn => ?_) ?_
    · have h63 : Sl w (a.eval (.tmp 63)) (rt) := hn.1
      have h57 : a.eval (.tmp 57) = .bool true := hn.2.1
      clear hn
      refine wants_guard (d := 57) rfl rfl h57 ?_
      exact grown_conv (.tmp 63) _ _ 5 _ rfl h63 Tryd.underlying24 Tryd.underlying5 Tryd.underlying9 (congrArg Value.string (unhide HST).symm)
    refine steps_cons (fun a w hk hn => ?_) ?_
    · have h61 : a.eval (.tmp 61) = .string ST := hn.1
      have h64 : a.eval (.tmp 64) = .string ST := hn.2.1
      have h57 : a.eval (.tmp 57) = .bool true := hn.2.2.1
      clear hn
      refine wants_guard (d := 57) rfl rfl h57 ?_
      refine grown_run (v := .bool true) ?_ (Kp.refl _ _) rfl
      obtain ⟨ρ, hρ, hc, hf, hg⟩ := eval_is a
      rw [hρ] at h61 h64 ⊢
      simp [go_sem, h61, h64]
    refine steps_cons (fun a w hk hn => ?_) ?_
    · have h57 : a.eval (.tmp 57) = .bool true := hn.1
      have h65 : a.eval (.tmp 65) = .bool true := hn.2.1
      clear hn
      refine wants_plain rfl ?_
      exact grown_pick _ _ _ true rfl h57 h65
    refine steps_cons (fun a w hk hn => ?_) ?_
    · have h66 : a.eval (.tmp 66) = .bool true := hn.1
      clear hn
      refine wants_plain rfl ?_
      exact grown_move (.tmp 66) rfl h66
    refine steps_cons (fun a w hk hn => ?_) ?_
    · have h67 : a.eval (.tmp 67) = .bool true := hn.1
      clear hn
      refine wants_guard (d := 67) rfl rfl h67 ?_
      refine grown_call (f := 15) rfl Tryd.func15 (by kernel_rfl) (by kernel_rfl) ?_
      simp only [List.map_toArray, List.map_nil]
      refine (tknown_any w (unhide HGL w hk)).mono ?_
      rintro e w' ⟨rfl, K⟩
      exact ⟨_, rfl, K, rfl⟩
    refine steps_cons (fun a w hk hn => ?_) ?_
    · have h67 : a.eval (.tmp 67) = .bool true := hn.1
      have h68 : a.eval (.tmp 68) = .bool true := hn.2.1
      clear hn
      refine wants_plain rfl ?_
      exact grown_pick _ _ _ true rfl h67 h68
    refine steps_cons (fun a w hk hn => ?_) ?_
    · have h69 : a.eval (.tmp 69) = .bool true := hn.1
      clear hn
      refine wants_plain rfl ?_
      exact grown_assign (.tmp 69) rfl h69
    exact trivial
  intro W1 hkW1
  rintro _ rfl
  intro v32 h32
  rintro _ rfl
  rintro _ rfl
  rintro _ rfl
  intro v36 h36
  intro v37 h37
  rintro _ rfl
  rintro _ rfl
  intro v40 h40
  intro v41 h41
  intro v42 h42
  rintro _ rfl
  rintro _ rfl
  rintro _ rfl
  rintro _ rfl
  rintro _ rfl
  intro v48 h48
  rintro _ rfl
  rintro _ rfl
  rintro _ rfl
  intro v52 h52
  intro v53 h53
  rintro _ rfl
  rintro _ rfl
  rintro _ rfl
  rintro _ rfl
  rintro _ rfl
  rintro _ rfl
  intro v60 h60
  rintro _ rfl
  rintro _ rfl
  intro v63 h63
  rintro _ rfl
  rintro _ rfl
  rintro _ rfl
  rintro _ rfl
  rintro _ rfl
  rintro _ rfl
  rintro _ rfl
  refine fin_nil ?_
  simp only [Act.put, List.set_cons_zero, List.set_cons_succ, List.setIfInBounds_toArray]
  go_wp2_with fail
  go_ret
  exact ⟨rfl, ((unhide HK1).trans ((kp_drew w1).trans hkW1)).below (Nat.le_refl _) (by simp)⟩

set_option maxRecDepth 100000 in
theorem lifted (os : Os) (started : os.Started) (H : Type) (enc : TypeId × Value → H) :
    ReturnsInHanded {} Tryd.checked os 5 .any (fun w args => (Rows.treeHalvesSpec.pre enc Tryd.prog Tryd.f5 [] false w args ∧ laidMetH Tryd.prog laid1 w) ∧ sizedMet enc Tryd.prog Tryd.f5 (OpenSpec.ofChange Rows.treeHalvesSpec) false w args) (Rows.treeHalvesSpec.post enc Tryd.prog Tryd.f5 false true false false) := by
  refine returnsInHanded_of_change_and (C := Tryd.checked) (X := fun w _ => laidMetH Tryd.prog laid1 w) (fun _ _ _ hh h => h.of_heap hh) own started (by kernel_rfl) Tryd.func5
    (ChangeSpec.witness_shaped (enc := enc) (C := Tryd.checked) (os := os) (X := fun w _ => laidMetH Tryd.prog laid1 w) false (World.doorLaid Tryd.prog 400 os) #[.int .i64 0] 8 rfl (World.shaped_of_RefB (by kernel_rfl) (by kernel_rfl)) (by kernel_rfl) (by kernel_rfl) (by kernel_rfl) (door_met os _)) ?_
  intro W base args ds gs before hval0 hW hcnd hsz0 hL _
  have hG := gl_of_laid hL
  have hval : ∀ (j : Nat) t v, Tryd.f5.params[j]? = some t → args[j]? = some v → Value.okWide Tryd.prog W .any base t v := hval0
  have hW' := hW
  obtain ⟨p, q, hA0, hV, rfl, hfz, hnd⟩ := hW
  have hA : DataW.TrodAll enc Tryd.prog W 0 (fun _ => true) true Tryd.f5.params.toList args.toList ds p := hA0
  rw [Tryd.params5] at hA hval
  obtain ⟨v0, vs0, d0, ds0, p0, q0, hargs, rfl, rfl, h0, r0⟩ := trodAll_cons hA
  obtain ⟨rfl, rfl, rfl⟩ := trodAll_nil r0
  obtain rfl : args = #[v0] := by cases args; simp_all
  obtain ⟨rfl, rfl⟩ := trodVars_none hV
  obtain ⟨a0, rfl, rfl, rfl, w0⟩ := open_int Tryd.underlying3 (hval 0 3 v0 rfl rfl) h0
  clear hA0 hval0
  refine (walk a0 W hG (bounds_i64 w0)).mono fun e W' ⟨he, bel⟩ => ?_
  subst he
  exact ⟨_, rfl, _, _, _, [], _, [], hW', trodAll_mk1 (shut_bool Tryd.underlying4 _), (trodAll_cons_mk (shut_int Tryd.underlying3 w0) trodAll_mk0), rfl, bel.frame _, fun h => by cases h⟩

theorem over : Rows.treeHalvesRow.holds Tryd.pinned (OpenSpec.ofChange Rows.treeHalvesSpec) :=
  OpenClaim.holds_of_wide 5 Tryd.f5 rfl rfl rfl rfl rfl rfl rfl ⟨rfl, rfl, rfl, rfl, rfl⟩ rfl rfl rfl rfl rfl (by kernel_rfl) Tryd.func5 (by kernel_rfl)
    (of_decide_eq_true (by kernel_rfl)) (by unfold Func.isWrapper; first | (rw [if_pos (by decide +kernel)]; kernel_rfl) | (rw [if_neg (by decide +kernel)]; exact ⟨rfl, rfl⟩))
    (fun os started H enc _ => lifted os started H enc)
end Go.Proofs.YtpiekmflfgpalaaDoor.treeHalves

namespace Go.Proofs.YtpiekmflfgpalaaDoor
/-- The given statement: the tied card. -/
theorem TreeHalves_holds : Rows.TreeHalvesCardSaid :=
  Claim7.holds_tied_plain_at .later [] [.data] true Rows.treeHalvesCard.stood.harness false
    treeHalves.over (fun _ h => by cases h) (by kernel_rfl) (fun _ h => by cases h) treeHalves_row_tie rfl ⟨rfl, rfl⟩ (by kernel_rfl) rfl
    (fun f fn hf hfn => by
      obtain rfl : f = 5 := Option.some.inj ((show Tryd.prog.funcNamed "broadsheet/broadsheetlaw6.TreeHalves" = some 5 by kernel_rfl).symm.trans hf) |>.symm
      obtain rfl : fn = Tryd.f5 := (Option.some.inj (Tryd.func5.symm.trans hfn)).symm
      exact ⟨by kernel_rfl, fun j t ht => by
        rw [Tryd.params5] at ht
        have hm : t ∈ ([3] : List TypeId) := by simpa using Array.mem_of_getElem? ht
        have hall : (([3] : List TypeId).all fun u => !Tryd.prog.wantsStandIn u) = true := by kernel_rfl
        exact (show Tryd.prog.wantsStandIn t = false by simpa using List.all_eq_true.1 hall t hm)⟩)
    (by kernel_rfl)
#print axioms TreeHalves_holds
end Go.Proofs.YtpiekmflfgpalaaDoor
