/-
  The statement TreeRangesCardSaid: for all numbers the law function TreeRanges returns true; the table hash.roundWords starts as the program's text lays it (tied). No other condition.
-/
import Derived.Test.YtpiekmflfgpalaaDoorKTKnown
import Derived.Test.YtpiekmflfgpalaaDoorTie
import Derived.Test.YtpiekmflfgpalaaDoorCards
import Derived.SevenTiedAt
namespace Go.Proofs.YtpiekmflfgpalaaDoor.treeRanges
open Go.ChangeShapes Go.WideShapes Go.ChangeAt Go.RowKit
open Go.Proofs.YtpiekmflfgpalaaDoor
set_option linter.unusedVariables false

set_option maxRecDepth 100000 in
set_option maxHeartbeats 1000000 in
theorem walk (n p q : Int) (w : World) (hG : Gl w) (hn : -9223372036854775808 ≤ n ∧ n ≤ 9223372036854775807) (hp : -9223372036854775808 ≤ p ∧ p ≤ 9223372036854775807) (hq : -9223372036854775808 ≤ q ∧ q ≤ 9223372036854775807) :
    Calls Tryd.prog 8 #[.int .i64 n, .int .i64 p, .int .i64 q] w fun e w' => e = .returned (.bool true) ∧ Below w.heap.size w w' := by
  have HG := hide hG
  have HCW := hide (within_any n 0 80 w (by omega) (by omega) (by omega) hn)
  have HP := hide hp
  have HQ := hide hq
  clear hG hn hp hq
  go_enter Tryd.func8, Tryd.ntmps8
  go_wp2_with fail
  refine (unhide HCW).mono ?_
  rintro ee w5 ⟨xi, rfl, hx0, hx1, hw⟩
  subst w5
  obtain ⟨N, rfl⟩ := Int.eq_ofNat_of_zero_le hx0
  have HC := hide (kleaves_any N w (by omega))
  clear HCW
  go_wp2_with fail
  refine (unhide HC).mono ?_
  rintro ee w1 ⟨a1, m1, c1, rfl, A1⟩
  have K1 := A1.kp
  obtain ⟨ls, hls⟩ : ∃ x, x = kleavesP N := ⟨_, rfl⟩
  have L1 : LcM ls (.slice a1 m1 c1) w1 := by rw [hls]; exact A1.lc (by rw [kleavesP_len]; omega)
  have hlen : ls.length = N := by rw [hls, kleavesP_len]
  have hm1 : m1 = N := by obtain ⟨_, _, e, _⟩ := L1.shape; injection e with _ e; rw [e, hlen]
  subst hm1
  have HM : Hid (∀ x ∈ ls, x.length ≤ 1000) := by rw [hls]; exact kleavesP_le _
  have HLE := hide hlen
  have HL1 := hide L1
  have HK1 := hide K1
  have HC2 := hide (within_any q 0 m1 w1 (by omega) (by omega) (by omega) (unhide HQ))
  clear A1 K1 L1 hls hlen HC HQ
  go_wp2_with fail
  refine (unhide HC2).mono ?_
  rintro ee w5 ⟨xb, rfl, hb0, hb1, hw⟩
  subst w5
  obtain ⟨pb, rfl⟩ := Int.eq_ofNat_of_zero_le hb0
  have HC3 := hide (within_any p 0 pb w1 (by omega) (by omega) (by omega) (unhide HP))
  clear HC2 HP
  go_wp2_with fail
  refine (unhide HC3).mono ?_
  rintro ee w5 ⟨xa, rfl, ha0, ha1, hw⟩
  subst w5
  obtain ⟨pa, rfl⟩ := Int.eq_ofNat_of_zero_le ha0
  have hab : pa ≤ pb := by omega
  have hbN : pb ≤ m1 := by omega
  obtain ⟨r, hr⟩ : ∃ r, r = trootP ((ls.drop pa).take (pb - pa)) := ⟨_, rfl⟩
  have HR := hide hr
  have HBN : Hid (pb ≤ ls.length) := hide (by rw [unhide HLE]; exact hbN)
  have HLS : Hid (((ls.drop pa).take (pb - pa)).length = pb - pa) := hide (by have := unhide HLE; simp; omega)
  have HMS : Hid (∀ x ∈ (ls.drop pa).take (pb - pa), x.length ≤ 1000) := hide (fun x hx => unhide HM x (List.mem_of_mem_drop (List.mem_of_mem_take hx)))
  obtain ⟨S, hS⟩ : ∃ S, S = strOfNums r := ⟨_, rfl⟩
  have HS := hide hS
  have HLL : Hid (∀ w', Kp [] w1.drew w' → LcM ls (.slice a1 m1 c1) w') := fun w' k' => (unhide HL1).kept ((kp_drew w1).trans k')
  have HGL : Hid (∀ w', Kp [] w1.drew w' → Gl w') := fun w' k' => (unhide HG).kept ((unhide HK1).trans ((kp_drew w1).trans k')) (by simp)
  clear hS HC3 HL1 hx0 hb0 ha0
  by_cases hone : pb - pa = 1
  · have HAT : Hid (ls[pa]? = some r) := by
      have hlt : pa < ls.length := by have := unhide HBN; omega
      rw [hr, hone, List.drop_eq_getElem_cons hlt, List.take_succ_cons, List.take_zero, trootP_one]
      exact hide (List.getElem?_eq_getElem hlt)
    have hsub : IntKind.i64.wrap ((pb : Int) - (pa : Int)) = 1 := wrap_at (by omega) (by omega) (by omega)
    clear hr
    go_wp2_with fail
    refine region_grow Tryd.mixed [Is (.slice a1 m1 c1), Is (.int .i64 pa), Is (.int .i64 pb), SlT (r), Is (.string S), Is (.slice a1 m1 c1), Is (.int .i64 pa), Is (.int .i64 pb), LcM (((ls).drop pa).take (pb - pa)), SlT (r), Is (.string S), Is (.bool true), Is (.bool true), Is (.int .i64 pb), Is (.int .i64 pa), Is (.int .i64 1), Is (.bool false), Is (.bool false), Is (.slice a1 m1 c1), Is (.int .i64 pa), Is (.int .i64 pb), SlT (r), Is (.string S), Is (.slice a1 m1 c1), Is (.int .i64 pa), PtT (r), SlT (r), Is (.string S), Is (.bool true), Is (.bool true), Is (.bool true), Is (.bool true), Is (.bool true), Is (.bool true), Is (.bool true)] [[(7, none)], [(9, none)], [(8, none)], [(20, some 0), (21, some 1), (22, some 2)], [(23, some 3)], [(7, none)], [(9, none)], [(8, none)], [(25, some 5), (26, some 6), (27, some 7)], [(28, some 8)], [(29, some 9)], [(24, some 4), (30, some 10)], [(31, some 11)], [(8, none), (32, some 12)], [(9, none), (32, some 12)], [(33, some 13), (34, some 14), (32, some 12)], [(35, some 15), (32, some 12)], [(36, some 16), (32, some 12)], [(7, none), (37, some 17)], [(9, none), (37, some 17)], [(8, none), (37, some 17)], [(38, some 18), (39, some 19), (40, some 20), (37, some 17)], [(41, some 21), (37, some 17)], [(7, none), (37, some 17)], [(9, none), (37, some 17)], [(43, some 23), (44, some 24), (37, some 17)], [(45, some 25), (37, some 17)], [(46, some 26), (37, some 17)], [(42, some 22), (47, some 27), (37, some 17)], [(37, some 17), (48, some 28), (32, some 12)], [(32, some 12), (49, some 29)], [(50, some 30)], [(51, some 31)], [(51, some 31), (52, some 32)], [(53, some 33)]] (by kernel_rfl) ?_ ?_ ?_
    · simp only [List.mem_cons, List.not_mem_nil, or_false]
      intro R hR
      rcases hR with rfl | rfl | rfl | rfl | rfl | rfl | rfl | rfl | rfl | rfl | rfl | rfl | rfl | rfl | rfl | rfl | rfl | rfl | rfl | rfl | rfl | rfl | rfl | rfl | rfl | rfl | rfl | rfl | rfl | rfl | rfl | rfl | rfl | rfl | rfl <;> first | exact stable_is _ | exact stable_sl _ | exact stable_lcm _ | exact stable_pt _
    · refine steps_cons (fun a w hk hn => ?_) ?_
      · have h7 : a.eval (.tmp 7) = .slice a1 m1 c1 := hn.1
        clear hn
        refine wants_plain rfl ?_
        exact grown_move (.tmp 7) rfl h7
      refine steps_cons (fun a w hk hn => ?_) ?_
      · have h9 : a.eval (.tmp 9) = .int .i64 pa := hn.1
        clear hn
        refine wants_plain rfl ?_
        exact grown_move (.tmp 9) rfl h9
      refine steps_cons (fun a w hk hn => ?_) ?_
      · have h8 : a.eval (.tmp 8) = .int .i64 pb := hn.1
        clear hn
        refine wants_plain rfl ?_
        exact grown_move (.tmp 8) rfl h8
      refine steps_cons (fun a w hk hn => ?_) ?_
      · have h20 : a.eval (.tmp 20) = .slice a1 m1 c1 := hn.1
        have h21 : a.eval (.tmp 21) = .int .i64 pa := hn.2.1
        have h22 : a.eval (.tmp 22) = .int .i64 pb := hn.2.2.1
        clear hn
        refine wants_plain rfl ?_
        refine grown_call (f := 14) rfl Tryd.func14 (by kernel_rfl) (by kernel_rfl) ?_
        simp only [List.map_toArray, List.map_cons, List.map_nil, h20, h21, h22]
        refine (trange_ok _ ls pa pb r w (unhide HR) (by omega) (unhide HBN) (by rw [unhide HLE]; omega) (unhide HLL w hk) (unhide HM) (unhide HGL w hk)).mono ?_
        rintro e w' ⟨ao, m, c, rfl, R, K⟩
        exact ⟨_, rfl, K, R.sl⟩
      refine steps_cons (fun a w hk hn => ?_) ?_
      · have h23 : Sl w (a.eval (.tmp 23)) (r) := hn.1
        clear hn
        refine wants_plain rfl ?_
        exact grown_conv (.tmp 23) _ _ 5 _ rfl h23 Tryd.underlying24 Tryd.underlying5 Tryd.underlying9 (congrArg Value.string (unhide HS).symm)
      refine steps_cons (fun a w hk hn => ?_) ?_
      · have h7 : a.eval (.tmp 7) = .slice a1 m1 c1 := hn.1
        clear hn
        refine wants_plain rfl ?_
        exact grown_move (.tmp 7) rfl h7
      refine steps_cons (fun a w hk hn => ?_) ?_
      · have h9 : a.eval (.tmp 9) = .int .i64 pa := hn.1
        clear hn
        refine wants_plain rfl ?_
        exact grown_move (.tmp 9) rfl h9
      refine steps_cons (fun a w hk hn => ?_) ?_
      · have h8 : a.eval (.tmp 8) = .int .i64 pb := hn.1
        clear hn
        refine wants_plain rfl ?_
        exact grown_move (.tmp 8) rfl h8
      refine steps_cons (fun a w hk hn => ?_) ?_
      · have h25 : a.eval (.tmp 25) = .slice a1 m1 c1 := hn.1
        have h26 : a.eval (.tmp 26) = .int .i64 pa := hn.2.1
        have h27 : a.eval (.tmp 27) = .int .i64 pb := hn.2.2.1
        clear hn
        refine wants_plain rfl ?_
        exact grown_lspan (.tmp 25) (.tmp 26) (.tmp 27) (ls) pa pb rfl (by rw [h25]; exact unhide HLL w hk) h26 h27 (by omega) (unhide HBN)
      refine steps_cons (fun a w hk hn => ?_) ?_
      · have h28 : (LcM (((ls).drop pa).take (pb - pa))) (a.eval (.tmp 28)) w := hn.1
        clear hn
        refine wants_plain rfl ?_
        refine grown_call (f := 10) rfl Tryd.func10 (by kernel_rfl) (by kernel_rfl) ?_
        simp only [List.map_toArray, List.map_cons, List.map_nil]
        refine (troot_any (pb - pa) _ _ r w (unhide HR) (unhide HLS) (by omega) h28 (unhide HMS) (unhide HGL w hk)).mono ?_
        rintro e w' ⟨ao, m, c, rfl, R, K⟩
        exact ⟨_, rfl, K, R.sl⟩
      refine steps_cons (fun a w hk hn => ?_) ?_
      · have h29 : Sl w (a.eval (.tmp 29)) (r) := hn.1
        clear hn
        refine wants_plain rfl ?_
        exact grown_conv (.tmp 29) _ _ 5 _ rfl h29 Tryd.underlying24 Tryd.underlying5 Tryd.underlying9 (congrArg Value.string (unhide HS).symm)
      refine steps_cons (fun a w hk hn => ?_) ?_
      · have h24 : a.eval (.tmp 24) = .string S := hn.1
        have h30 : a.eval (.tmp 30) = .string S := hn.2.1
        clear hn
        refine wants_plain rfl ?_
        refine grown_run (v := .bool true) ?_ (Kp.refl _ _) rfl
        obtain ⟨ρ, hρ, hc, hf, hg⟩ := eval_is a
        rw [hρ] at h24 h30 ⊢
        simp [go_sem, h24, h30]
      refine steps_cons (fun a w hk hn => ?_) ?_
      · have h31 : a.eval (.tmp 31) = .bool true := hn.1
        clear hn
        refine wants_plain rfl ?_
        exact grown_move (.tmp 31) rfl h31
      refine steps_cons (fun a w hk hn => ?_) ?_
      · have h8 : a.eval (.tmp 8) = .int .i64 pb := hn.1
        have h32 : a.eval (.tmp 32) = .bool true := hn.2.1
        clear hn
        refine wants_guard (d := 32) rfl rfl h32 ?_
        exact grown_move (.tmp 8) rfl h8
      refine steps_cons (fun a w hk hn => ?_) ?_
      · have h9 : a.eval (.tmp 9) = .int .i64 pa := hn.1
        have h32 : a.eval (.tmp 32) = .bool true := hn.2.1
        clear hn
        refine wants_guard (d := 32) rfl rfl h32 ?_
        exact grown_move (.tmp 9) rfl h9
      refine steps_cons (fun a w hk hn => ?_) ?_
      · have h33 : a.eval (.tmp 33) = .int .i64 pb := hn.1
        have h34 : a.eval (.tmp 34) = .int .i64 pa := hn.2.1
        have h32 : a.eval (.tmp 32) = .bool true := hn.2.2.1
        clear hn
        refine wants_guard (d := 32) rfl rfl h32 ?_
        refine grown_run (v := .int .i64 1) ?_ (Kp.refl _ _) rfl
        obtain ⟨ρ, hρ, hc, hf, hg⟩ := eval_is a
        rw [hρ] at h33 h34 ⊢
        simp [go_sem, h33, h34, hsub]
      refine steps_cons (fun a w hk hn => ?_) ?_
      · have h35 : a.eval (.tmp 35) = .int .i64 1 := hn.1
        have h32 : a.eval (.tmp 32) = .bool true := hn.2.1
        clear hn
        refine wants_guard (d := 32) rfl rfl h32 ?_
        refine grown_run (v := .bool false) ?_ (Kp.refl _ _) rfl
        obtain ⟨ρ, hρ, hc, hf, hg⟩ := eval_is a
        rw [hρ] at h35 ⊢
        simp [go_sem, hc, h35]
      refine steps_cons (fun a w hk hn => ?_) ?_
      · have h36 : a.eval (.tmp 36) = .bool false := hn.1
        have h32 : a.eval (.tmp 32) = .bool true := hn.2.1
        clear hn
        refine wants_guard (d := 32) rfl rfl h32 ?_
        exact grown_move (.tmp 36) rfl h36
      refine steps_cons (fun a w hk hn => ?_) ?_
      · have h7 : a.eval (.tmp 7) = .slice a1 m1 c1 := hn.1
        have h37 : a.eval (.tmp 37) = .bool false := hn.2.1
        clear hn
        refine wants_guard (d := 37) rfl rfl h37 ?_
        exact grown_move (.tmp 7) rfl h7
      refine steps_cons (fun a w hk hn => ?_) ?_
      · have h9 : a.eval (.tmp 9) = .int .i64 pa := hn.1
        have h37 : a.eval (.tmp 37) = .bool false := hn.2.1
        clear hn
        refine wants_guard (d := 37) rfl rfl h37 ?_
        exact grown_move (.tmp 9) rfl h9
      refine steps_cons (fun a w hk hn => ?_) ?_
      · have h8 : a.eval (.tmp 8) = .int .i64 pb := hn.1
        have h37 : a.eval (.tmp 37) = .bool false := hn.2.1
        clear hn
        refine wants_guard (d := 37) rfl rfl h37 ?_
        exact grown_move (.tmp 8) rfl h8
      refine steps_cons (fun a w hk hn => ?_) ?_
      · have h38 : a.eval (.tmp 38) = .slice a1 m1 c1 := hn.1
        have h39 : a.eval (.tmp 39) = .int .i64 pa := hn.2.1
        have h40 : a.eval (.tmp 40) = .int .i64 pb := hn.2.2.1
        have h37 : a.eval (.tmp 37) = .bool false := hn.2.2.2.1
        clear hn
        refine wants_guard (d := 37) rfl rfl h37 ?_
        refine grown_call (f := 14) rfl Tryd.func14 (by kernel_rfl) (by kernel_rfl) ?_
        simp only [List.map_toArray, List.map_cons, List.map_nil, h38, h39, h40]
        refine (trange_ok _ ls pa pb r w (unhide HR) (by omega) (unhide HBN) (by rw [unhide HLE]; omega) (unhide HLL w hk) (unhide HM) (unhide HGL w hk)).mono ?_
        rintro e w' ⟨ao, m, c, rfl, R, K⟩
        exact ⟨_, rfl, K, R.sl⟩
      refine steps_cons (fun a w hk hn => ?_) ?_
      · have h41 : Sl w (a.eval (.tmp 41)) (r) := hn.1
        have h37 : a.eval (.tmp 37) = .bool false := hn.2.1
        clear hn
        refine wants_guard (d := 37) rfl rfl h37 ?_
        exact grown_conv (.tmp 41) _ _ 5 _ rfl h41 Tryd.underlying24 Tryd.underlying5 Tryd.underlying9 (congrArg Value.string (unhide HS).symm)
      refine steps_cons (fun a w hk hn => ?_) ?_
      · have h7 : a.eval (.tmp 7) = .slice a1 m1 c1 := hn.1
        have h37 : a.eval (.tmp 37) = .bool false := hn.2.1
        clear hn
        refine wants_guard (d := 37) rfl rfl h37 ?_
        exact grown_move (.tmp 7) rfl h7
      refine steps_cons (fun a w hk hn => ?_) ?_
      · have h9 : a.eval (.tmp 9) = .int .i64 pa := hn.1
        have h37 : a.eval (.tmp 37) = .bool false := hn.2.1
        clear hn
        refine wants_guard (d := 37) rfl rfl h37 ?_
        exact grown_move (.tmp 9) rfl h9
      refine steps_cons (fun a w hk hn => ?_) ?_
      · have h43 : a.eval (.tmp 43) = .slice a1 m1 c1 := hn.1
        have h44 : a.eval (.tmp 44) = .int .i64 pa := hn.2.1
        have h37 : a.eval (.tmp 37) = .bool false := hn.2.2.1
        clear hn
        refine wants_guard (d := 37) rfl rfl h37 ?_
        exact grown_lindex (.tmp 43) (.tmp 44) (ls) pa (r) rfl (by rw [h43]; exact unhide HLL w hk) h44 (unhide HAT)
      refine steps_cons (fun a w hk hn => ?_) ?_
      · have h45 : (PtT (r)) (a.eval (.tmp 45)) w := hn.1
        have h37 : a.eval (.tmp 37) = .bool false := hn.2.1
        clear hn
        refine wants_guard (d := 37) rfl rfl h37 ?_
        exact grown_lload (.tmp 45) _ rfl h45
      refine steps_cons (fun a w hk hn => ?_) ?_
      · have h46 : Sl w (a.eval (.tmp 46)) (r) := hn.1
        have h37 : a.eval (.tmp 37) = .bool false := hn.2.1
        clear hn
        refine wants_guard (d := 37) rfl rfl h37 ?_
        exact grown_conv (.tmp 46) _ _ 5 _ rfl h46 Tryd.underlying24 Tryd.underlying5 Tryd.underlying9 (congrArg Value.string (unhide HS).symm)
      refine steps_cons (fun a w hk hn => ?_) ?_
      · have h42 : a.eval (.tmp 42) = .string S := hn.1
        have h47 : a.eval (.tmp 47) = .string S := hn.2.1
        have h37 : a.eval (.tmp 37) = .bool false := hn.2.2.1
        clear hn
        refine wants_guard (d := 37) rfl rfl h37 ?_
        refine grown_run (v := .bool true) ?_ (Kp.refl _ _) rfl
        obtain ⟨ρ, hρ, hc, hf, hg⟩ := eval_is a
        rw [hρ] at h42 h47 ⊢
        simp [go_sem, h42, h47]
      refine steps_cons (fun a w hk hn => ?_) ?_
      · have h37 : a.eval (.tmp 37) = .bool false := hn.1
        have h48 : a.eval (.tmp 48) = .bool true := hn.2.1
        have h32 : a.eval (.tmp 32) = .bool true := hn.2.2.1
        clear hn
        refine wants_guard (d := 32) rfl rfl h32 ?_
        exact grown_pick _ _ _ false rfl h37 h48
      refine steps_cons (fun a w hk hn => ?_) ?_
      · have h32 : a.eval (.tmp 32) = .bool true := hn.1
        have h49 : a.eval (.tmp 49) = .bool true := hn.2.1
        clear hn
        refine wants_plain rfl ?_
        exact grown_pick _ _ _ true rfl h32 h49
      refine steps_cons (fun a w hk hn => ?_) ?_
      · have h50 : a.eval (.tmp 50) = .bool true := hn.1
        clear hn
        refine wants_plain rfl ?_
        exact grown_move (.tmp 50) rfl h50
      refine steps_cons (fun a w hk hn => ?_) ?_
      · have h51 : a.eval (.tmp 51) = .bool true := hn.1
        clear hn
        refine wants_guard (d := 51) rfl rfl h51 ?_
        refine grown_call (f := 15) rfl Tryd.func15 (by kernel_rfl) (by kernel_rfl) ?_
        simp only [List.map_toArray, List.map_nil]
        refine (tknown_any w (unhide HGL w hk)).mono ?_
        rintro e w' ⟨rfl, K⟩
        exact ⟨_, rfl, K, rfl⟩
      refine steps_cons (fun a w hk hn => ?_) ?_
      · have h51 : a.eval (.tmp 51) = .bool true := hn.1
        have h52 : a.eval (.tmp 52) = .bool true := hn.2.1
        clear hn
        refine wants_plain rfl ?_
        exact grown_pick _ _ _ true rfl h51 h52
      refine steps_cons (fun a w hk hn => ?_) ?_
      · have h53 : a.eval (.tmp 53) = .bool true := hn.1
        clear hn
        refine wants_plain rfl ?_
        exact grown_assign (.tmp 53) rfl h53
      exact trivial
    intro W1 hkW1
    rintro _ rfl
    rintro _ rfl
    rintro _ rfl
    intro v23 h23
    rintro _ rfl
    rintro _ rfl
    rintro _ rfl
    rintro _ rfl
    intro v28 h28
    intro v29 h29
    rintro _ rfl
    rintro _ rfl
    rintro _ rfl
    rintro _ rfl
    rintro _ rfl
    rintro _ rfl
    rintro _ rfl
    rintro _ rfl
    rintro _ rfl
    rintro _ rfl
    rintro _ rfl
    intro v41 h41
    rintro _ rfl
    rintro _ rfl
    rintro _ rfl
    intro v45 h45
    intro v46 h46
    rintro _ rfl
    rintro _ rfl
    rintro _ rfl
    rintro _ rfl
    rintro _ rfl
    rintro _ rfl
    rintro _ rfl
    rintro _ rfl
    refine fin_nil ?_
    simp only [Act.put, List.set_cons_zero, List.set_cons_succ, List.setIfInBounds_toArray]
    go_wp2_with fail
    go_ret
    exact ⟨rfl, ((unhide HK1).trans ((kp_drew w1).trans hkW1)).below (Nat.le_refl _) (by simp)⟩
  · have hsub : IntKind.i64.wrap ((pb : Int) - (pa : Int)) = (pb : Int) - (pa : Int) := wrap_at rfl (by omega) (by omega)
    have hne : ¬ (pb : Int) - (pa : Int) = 1 := by omega
    clear hr
    go_wp2_with fail
    refine region_grow Tryd.mixed [Is (.slice a1 m1 c1), Is (.int .i64 pa), Is (.int .i64 pb), SlT (r), Is (.string S), Is (.slice a1 m1 c1), Is (.int .i64 pa), Is (.int .i64 pb), LcM (((ls).drop pa).take (pb - pa)), SlT (r), Is (.string S), Is (.bool true), Is (.bool true), Is (.int .i64 pb), Is (.int .i64 pa), Is (.int .i64 ((pb : Int) - (pa : Int))), Is (.bool true), Is (.bool true), Is (undef), Is (undef), Is (undef), Is (undef), Is (undef), Is (undef), Is (undef), Is (undef), Is (undef), Is (undef), Is (undef), Is (.bool true), Is (.bool true), Is (.bool true), Is (.bool true), Is (.bool true), Is (.bool true)] [[(7, none)], [(9, none)], [(8, none)], [(20, some 0), (21, some 1), (22, some 2)], [(23, some 3)], [(7, none)], [(9, none)], [(8, none)], [(25, some 5), (26, some 6), (27, some 7)], [(28, some 8)], [(29, some 9)], [(24, some 4), (30, some 10)], [(31, some 11)], [(8, none), (32, some 12)], [(9, none), (32, some 12)], [(33, some 13), (34, some 14), (32, some 12)], [(35, some 15), (32, some 12)], [(36, some 16), (32, some 12)], [(7, none), (37, some 17)], [(9, none), (37, some 17)], [(8, none), (37, some 17)], [(38, some 18), (39, some 19), (40, some 20), (37, some 17)], [(41, some 21), (37, some 17)], [(7, none), (37, some 17)], [(9, none), (37, some 17)], [(43, some 23), (44, some 24), (37, some 17)], [(45, some 25), (37, some 17)], [(46, some 26), (37, some 17)], [(42, some 22), (47, some 27), (37, some 17)], [(37, some 17), (48, some 28), (32, some 12)], [(32, some 12), (49, some 29)], [(50, some 30)], [(51, some 31)], [(51, some 31), (52, some 32)], [(53, some 33)]] (by kernel_rfl) ?_ ?_ ?_
    · simp only [List.mem_cons, List.not_mem_nil, or_false]
      intro R hR
      rcases hR with rfl | rfl | rfl | rfl | rfl | rfl | rfl | rfl | rfl | rfl | rfl | rfl | rfl | rfl | rfl | rfl | rfl | rfl | rfl | rfl | rfl | rfl | rfl | rfl | rfl | rfl | rfl | rfl | rfl | rfl | rfl | rfl | rfl | rfl | rfl <;> first | exact stable_is _ | exact stable_sl _ | exact stable_lcm _
    · refine steps_cons (fun a w hk hn => ?_) ?_
      · have h7 : a.eval (.tmp 7) = .slice a1 m1 c1 := hn.1
        clear hn
        refine wants_plain rfl ?_
        exact grown_move (.tmp 7) rfl h7
      refine steps_cons (fun a w hk hn => ?_) ?_
      · have h9 : a.eval (.tmp 9) = .int .i64 pa := hn.1
        clear hn
        refine wants_plain rfl ?_
        exact grown_move (.tmp 9) rfl h9
      refine steps_cons (fun a w hk hn => ?_) ?_
      · have h8 : a.eval (.tmp 8) = .int .i64 pb := hn.1
        clear hn
        refine wants_plain rfl ?_
        exact grown_move (.tmp 8) rfl h8
      refine steps_cons (fun a w hk hn => ?_) ?_
      · have h20 : a.eval (.tmp 20) = .slice a1 m1 c1 := hn.1
        have h21 : a.eval (.tmp 21) = .int .i64 pa := hn.2.1
        have h22 : a.eval (.tmp 22) = .int .i64 pb := hn.2.2.1
        clear hn
        refine wants_plain rfl ?_
        refine grown_call (f := 14) rfl Tryd.func14 (by kernel_rfl) (by kernel_rfl) ?_
        simp only [List.map_toArray, List.map_cons, List.map_nil, h20, h21, h22]
        refine (trange_ok _ ls pa pb r w (unhide HR) (by omega) (unhide HBN) (by rw [unhide HLE]; omega) (unhide HLL w hk) (unhide HM) (unhide HGL w hk)).mono ?_
        rintro e w' ⟨ao, m, c, rfl, R, K⟩
        exact ⟨_, rfl, K, R.sl⟩
      refine steps_cons (fun a w hk hn => ?_) ?_
      · have h23 : Sl w (a.eval (.tmp 23)) (r) := hn.1
        clear hn
        refine wants_plain rfl ?_
        exact grown_conv (.tmp 23) _ _ 5 _ rfl h23 Tryd.underlying24 Tryd.underlying5 Tryd.underlying9 (congrArg Value.string (unhide HS).symm)
      refine steps_cons (fun a w hk hn => ?_) ?_
      · have h7 : a.eval (.tmp 7) = .slice a1 m1 c1 := hn.1
        clear hn
        refine wants_plain rfl ?_
        exact grown_move (.tmp 7) rfl h7
      refine steps_cons (fun a w hk hn => ?_) ?_
      · have h9 : a.eval (.tmp 9) = .int .i64 pa := hn.1
        clear hn
        refine wants_plain rfl ?_
        exact grown_move (.tmp 9) rfl h9
      refine steps_cons (fun a w hk hn => ?_) ?_
      · have h8 : a.eval (.tmp 8) = .int .i64 pb := hn.1
        clear hn
        refine wants_plain rfl ?_
        exact grown_move (.tmp 8) rfl h8
      refine steps_cons (fun a w hk hn => ?_) ?_
      · have h25 : a.eval (.tmp 25) = .slice a1 m1 c1 := hn.1
        have h26 : a.eval (.tmp 26) = .int .i64 pa := hn.2.1
        have h27 : a.eval (.tmp 27) = .int .i64 pb := hn.2.2.1
        clear hn
        refine wants_plain rfl ?_
        exact grown_lspan (.tmp 25) (.tmp 26) (.tmp 27) (ls) pa pb rfl (by rw [h25]; exact unhide HLL w hk) h26 h27 (by omega) (unhide HBN)
      refine steps_cons (fun a w hk hn => ?_) ?_
      · have h28 : (LcM (((ls).drop pa).take (pb - pa))) (a.eval (.tmp 28)) w := hn.1
        clear hn
        refine wants_plain rfl ?_
        refine grown_call (f := 10) rfl Tryd.func10 (by kernel_rfl) (by kernel_rfl) ?_
        simp only [List.map_toArray, List.map_cons, List.map_nil]
        refine (troot_any (pb - pa) _ _ r w (unhide HR) (unhide HLS) (by omega) h28 (unhide HMS) (unhide HGL w hk)).mono ?_
        rintro e w' ⟨ao, m, c, rfl, R, K⟩
        exact ⟨_, rfl, K, R.sl⟩
      refine steps_cons (fun a w hk hn => ?_) ?_
      · have h29 : Sl w (a.eval (.tmp 29)) (r) := hn.1
        clear hn
        refine wants_plain rfl ?_
        exact grown_conv (.tmp 29) _ _ 5 _ rfl h29 Tryd.underlying24 Tryd.underlying5 Tryd.underlying9 (congrArg Value.string (unhide HS).symm)
      refine steps_cons (fun a w hk hn => ?_) ?_
      · have h24 : a.eval (.tmp 24) = .string S := hn.1
        have h30 : a.eval (.tmp 30) = .string S := hn.2.1
        clear hn
        refine wants_plain rfl ?_
        refine grown_run (v := .bool true) ?_ (Kp.refl _ _) rfl
        obtain ⟨ρ, hρ, hc, hf, hg⟩ := eval_is a
        rw [hρ] at h24 h30 ⊢
        simp [go_sem, h24, h30]
      refine steps_cons (fun a w hk hn => ?_) ?_
      · have h31 : a.eval (.tmp 31) = .bool true := hn.1
        clear hn
        refine wants_plain rfl ?_
        exact grown_move (.tmp 31) rfl h31
      refine steps_cons (fun a w hk hn => ?_) ?_
      · have h8 : a.eval (.tmp 8) = .int .i64 pb := hn.1
        have h32 : a.eval (.tmp 32) = .bool true := hn.2.1
        clear hn
        refine wants_guard (d := 32) rfl rfl h32 ?_
        exact grown_move (.tmp 8) rfl h8
      refine steps_cons (fun a w hk hn => ?_) ?_
      · have h9 : a.eval (.tmp 9) = .int .i64 pa := hn.1
        have h32 : a.eval (.tmp 32) = .bool true := hn.2.1
        clear hn
        refine wants_guard (d := 32) rfl rfl h32 ?_
        exact grown_move (.tmp 9) rfl h9
      refine steps_cons (fun a w hk hn => ?_) ?_
      · have h33 : a.eval (.tmp 33) = .int .i64 pb := hn.1
        have h34 : a.eval (.tmp 34) = .int .i64 pa := hn.2.1
        have h32 : a.eval (.tmp 32) = .bool true := hn.2.2.1
        clear hn
        refine wants_guard (d := 32) rfl rfl h32 ?_
        refine grown_run (v := .int .i64 ((pb : Int) - (pa : Int))) ?_ (Kp.refl _ _) rfl
        obtain ⟨ρ, hρ, hc, hf, hg⟩ := eval_is a
        rw [hρ] at h33 h34 ⊢
        simp [go_sem, h33, h34, hsub]
      refine steps_cons (fun a w hk hn => ?_) ?_
      · have h35 : a.eval (.tmp 35) = .int .i64 ((pb : Int) - (pa : Int)) := hn.1
        have h32 : a.eval (.tmp 32) = .bool true := hn.2.1
        clear hn
        refine wants_guard (d := 32) rfl rfl h32 ?_
        refine grown_run (v := .bool true) ?_ (Kp.refl _ _) rfl
        obtain ⟨ρ, hρ, hc, hf, hg⟩ := eval_is a
        rw [hρ] at h35 ⊢
        simp [go_sem, hc, h35, hne]
      refine steps_cons (fun a w hk hn => ?_) ?_
      · have h36 : a.eval (.tmp 36) = .bool true := hn.1
        have h32 : a.eval (.tmp 32) = .bool true := hn.2.1
        clear hn
        refine wants_guard (d := 32) rfl rfl h32 ?_
        exact grown_move (.tmp 36) rfl h36
      refine steps_cons (fun a w hk hn => ?_) ?_
      · have h7 : a.eval (.tmp 7) = .slice a1 m1 c1 := hn.1
        have h37 : a.eval (.tmp 37) = .bool true := hn.2.1
        clear hn
        exact wants_not (d := 37) rfl rfl h37 rfl
      refine steps_cons (fun a w hk hn => ?_) ?_
      · have h9 : a.eval (.tmp 9) = .int .i64 pa := hn.1
        have h37 : a.eval (.tmp 37) = .bool true := hn.2.1
        clear hn
        exact wants_not (d := 37) rfl rfl h37 rfl
      refine steps_cons (fun a w hk hn => ?_) ?_
      · have h8 : a.eval (.tmp 8) = .int .i64 pb := hn.1
        have h37 : a.eval (.tmp 37) = .bool true := hn.2.1
        clear hn
        exact wants_not (d := 37) rfl rfl h37 rfl
      refine steps_cons (fun a w hk hn => ?_) ?_
      · have h38 : a.eval (.tmp 38) = undef := hn.1
        have h39 : a.eval (.tmp 39) = undef := hn.2.1
        have h40 : a.eval (.tmp 40) = undef := hn.2.2.1
        have h37 : a.eval (.tmp 37) = .bool true := hn.2.2.2.1
        clear hn
        exact wants_not (d := 37) rfl rfl h37 rfl
      refine steps_cons (fun a w hk hn => ?_) ?_
      · have h41 : a.eval (.tmp 41) = undef := hn.1
        have h37 : a.eval (.tmp 37) = .bool true := hn.2.1
        clear hn
        exact wants_not (d := 37) rfl rfl h37 rfl
      refine steps_cons (fun a w hk hn => ?_) ?_
      · have h7 : a.eval (.tmp 7) = .slice a1 m1 c1 := hn.1
        have h37 : a.eval (.tmp 37) = .bool true := hn.2.1
        clear hn
        exact wants_not (d := 37) rfl rfl h37 rfl
      refine steps_cons (fun a w hk hn => ?_) ?_
      · have h9 : a.eval (.tmp 9) = .int .i64 pa := hn.1
        have h37 : a.eval (.tmp 37) = .bool true := hn.2.1
        clear hn
        exact wants_not (d := 37) rfl rfl h37 rfl
      refine steps_cons (fun a w hk hn => ?_) ?_
      · have h43 : a.eval (.tmp 43) = undef := hn.1
        have h44 : a.eval (.tmp 44) = undef := hn.2.1
        have h37 : a.eval (.tmp 37) = .bool true := hn.2.2.1
        clear hn
        exact wants_not (d := 37) rfl rfl h37 rfl
      refine steps_cons (fun a w hk hn => ?_) ?_
      · have h45 : a.eval (.tmp 45) = undef := hn.1
        have h37 : a.eval (.tmp 37) = .bool true := hn.2.1
        clear hn
        exact wants_not (d := 37) rfl rfl h37 rfl
      refine steps_cons (fun a w hk hn => ?_) ?_
      · have h46 : a.eval (.tmp 46) = undef := hn.1
        have h37 : a.eval (.tmp 37) = .bool true := hn.2.1
        clear hn
        exact wants_not (d := 37) rfl rfl h37 rfl
      refine steps_cons (fun a w hk hn => ?_) ?_
      · have h42 : a.eval (.tmp 42) = undef := hn.1
        have h47 : a.eval (.tmp 47) = undef := hn.2.1
        have h37 : a.eval (.tmp 37) = .bool true := hn.2.2.1
        clear hn
        exact wants_not (d := 37) rfl rfl h37 rfl
      refine steps_cons (fun a w hk hn => ?_) ?_
      · have h37 : a.eval (.tmp 37) = .bool true := hn.1
        have h48 : a.eval (.tmp 48) = undef := hn.2.1
        have h32 : a.eval (.tmp 32) = .bool true := hn.2.2.1
        clear hn
        refine wants_guard (d := 32) rfl rfl h32 ?_
        exact grown_pick _ _ _ true rfl h37 rfl
      refine steps_cons (fun a w hk hn => ?_) ?_
      · have h32 : a.eval (.tmp 32) = .bool true := hn.1
        have h49 : a.eval (.tmp 49) = .bool true := hn.2.1
        clear hn
        refine wants_plain rfl ?_
        exact grown_pick _ _ _ true rfl h32 h49
      refine steps_cons (fun a w hk hn => ?_) ?_
      · have h50 : a.eval (.tmp 50) = .bool true := hn.1
        clear hn
        refine wants_plain rfl ?_
        exact grown_move (.tmp 50) rfl h50
      refine steps_cons (fun a w hk hn => ?_) ?_
      · have h51 : a.eval (.tmp 51) = .bool true := hn.1
        clear hn
        refine wants_guard (d := 51) rfl rfl h51 ?_
        refine grown_call (f := 15) rfl Tryd.func15 (by kernel_rfl) (by kernel_rfl) ?_
        simp only [List.map_toArray, List.map_nil]
        refine (tknown_any w (unhide HGL w hk)).mono ?_
        rintro e w' ⟨rfl, K⟩
        exact ⟨_, rfl, K, rfl⟩
      refine steps_cons (fun a w hk hn => ?_) ?_
      · have h51 : a.eval (.tmp 51) = .bool true := hn.1
        have h52 : a.eval (.tmp 52) = .bool true := hn.2.1
        clear hn
        refine wants_plain rfl ?_
        exact grown_pick _ _ _ true rfl h51 h52
      refine steps_cons (fun a w hk hn => ?_) ?_
      · have h53 : a.eval (.tmp 53) = .bool true := hn.1
        clear hn
        refine wants_plain rfl ?_
        exact grown_assign (.tmp 53) rfl h53
      exact trivial
    intro W1 hkW1
    rintro _ rfl
    rintro _ rfl
    rintro _ rfl
    intro v23 h23
    rintro _ rfl
    rintro _ rfl
    rintro _ rfl
    rintro _ rfl
    intro v28 h28
    intro v29 h29
    rintro _ rfl
    rintro _ rfl
    rintro _ rfl
    rintro _ rfl
    rintro _ rfl
    rintro _ rfl
    rintro _ rfl
    rintro _ rfl
    rintro _ rfl
    rintro _ rfl
    rintro _ rfl
    rintro _ rfl
    rintro _ rfl
    rintro _ rfl
    rintro _ rfl
    rintro _ rfl
    rintro _ rfl
    rintro _ rfl
    rintro _ rfl
    rintro _ rfl
    rintro _ rfl
    rintro _ rfl
    rintro _ rfl
    rintro _ rfl
    rintro _ rfl
    refine fin_nil ?_
    simp only [Act.put, List.set_cons_zero, List.set_cons_succ, List.setIfInBounds_toArray]
    go_wp2_with fail
    go_ret
    exact ⟨rfl, ((unhide HK1).trans ((kp_drew w1).trans hkW1)).below (Nat.le_refl _) (by simp)⟩

set_option maxRecDepth 100000 in
theorem lifted (os : Os) (started : os.Started) (H : Type) (enc : TypeId × Value → H) :
    ReturnsInHanded {} Tryd.checked os 8 .any (fun w args => (Rows.treeRangesSpec.pre enc Tryd.prog Tryd.f8 [] false w args ∧ laidMetH Tryd.prog laid1 w) ∧ sizedMet enc Tryd.prog Tryd.f8 (OpenSpec.ofChange Rows.treeRangesSpec) false w args) (Rows.treeRangesSpec.post enc Tryd.prog Tryd.f8 false true false false) := by
  refine returnsInHanded_of_change_and (C := Tryd.checked) (X := fun w _ => laidMetH Tryd.prog laid1 w) (fun _ _ _ hh h => h.of_heap hh) own started (by kernel_rfl) Tryd.func8
    (ChangeSpec.witness_shaped (enc := enc) (C := Tryd.checked) (os := os) (X := fun w _ => laidMetH Tryd.prog laid1 w) false (World.doorLaid Tryd.prog 400 os) #[.int .i64 0, .int .i64 0, .int .i64 0] 8 rfl (World.shaped_of_RefB (by kernel_rfl) (by kernel_rfl)) (by kernel_rfl) (by kernel_rfl) (by kernel_rfl) (door_met os _)) ?_
  intro W base args ds gs before hval0 hW hcnd hsz0 hL _
  have hG := gl_of_laid hL
  have hval : ∀ (j : Nat) t v, Tryd.f8.params[j]? = some t → args[j]? = some v → Value.okWide Tryd.prog W .any base t v := hval0
  have hW' := hW
  obtain ⟨p, q, hA0, hV, rfl, hfz, hnd⟩ := hW
  have hA : DataW.TrodAll enc Tryd.prog W 0 (fun _ => true) true Tryd.f8.params.toList args.toList ds p := hA0
  rw [Tryd.params8] at hA hval
  obtain ⟨v0, vs0, d0, ds0, p0, q0, hargs, rfl, rfl, h0, r0⟩ := trodAll_cons hA
  obtain ⟨v1, vs1, d1, ds1, p1, q1, rfl, rfl, rfl, h1, r1⟩ := trodAll_cons r0
  obtain ⟨v2, vs2, d2, ds2, p2, q2, rfl, rfl, rfl, h2, r2⟩ := trodAll_cons r1
  obtain ⟨rfl, rfl, rfl⟩ := trodAll_nil r2
  obtain rfl : args = #[v0, v1, v2] := by cases args; simp_all
  obtain ⟨rfl, rfl⟩ := trodVars_none hV
  obtain ⟨a0, rfl, rfl, rfl, w0⟩ := open_int Tryd.underlying3 (hval 0 3 v0 rfl rfl) h0
  obtain ⟨a1, rfl, rfl, rfl, w1⟩ := open_int Tryd.underlying3 (hval 1 3 v1 rfl rfl) h1
  obtain ⟨a2, rfl, rfl, rfl, w2⟩ := open_int Tryd.underlying3 (hval 2 3 v2 rfl rfl) h2
  clear hA0 hval0
  refine (walk a0 a1 a2 W hG (bounds_i64 w0) (bounds_i64 w1) (bounds_i64 w2)).mono fun e W' ⟨he, bel⟩ => ?_
  subst he
  exact ⟨_, rfl, _, _, _, [], _, [], hW', trodAll_mk1 (shut_bool Tryd.underlying4 _), (trodAll_cons_mk (shut_int Tryd.underlying3 w0) (trodAll_cons_mk (shut_int Tryd.underlying3 w1) (trodAll_cons_mk (shut_int Tryd.underlying3 w2) trodAll_mk0))), rfl, bel.frame _, fun h => by cases h⟩

theorem over : Rows.treeRangesRow.holds Tryd.pinned (OpenSpec.ofChange Rows.treeRangesSpec) :=
  OpenClaim.holds_of_wide 8 Tryd.f8 rfl rfl rfl rfl rfl rfl rfl ⟨rfl, rfl, rfl, rfl, rfl⟩ rfl rfl rfl rfl rfl (by kernel_rfl) Tryd.func8 (by kernel_rfl)
    (of_decide_eq_true (by kernel_rfl)) (by unfold Func.isWrapper; first | (rw [if_pos (by decide +kernel)]; kernel_rfl) | (rw [if_neg (by decide +kernel)]; exact ⟨rfl, rfl⟩))
    (fun os started H enc _ => lifted os started H enc)
end Go.Proofs.YtpiekmflfgpalaaDoor.treeRanges

namespace Go.Proofs.YtpiekmflfgpalaaDoor
/-- The given statement: the tied card. -/
theorem TreeRanges_holds : Rows.TreeRangesCardSaid :=
  Claim7.holds_tied_plain_at .later [] [.data] true Rows.treeRangesCard.stood.harness false
    treeRanges.over (fun _ h => by cases h) (by kernel_rfl) (fun _ h => by cases h) treeRanges_row_tie rfl ⟨rfl, rfl⟩ (by kernel_rfl) rfl
    (fun f fn hf hfn => by
      obtain rfl : f = 8 := Option.some.inj ((show Tryd.prog.funcNamed "broadsheet/broadsheetlaw6.TreeRanges" = some 8 by kernel_rfl).symm.trans hf) |>.symm
      obtain rfl : fn = Tryd.f8 := (Option.some.inj (Tryd.func8.symm.trans hfn)).symm
      exact ⟨by kernel_rfl, fun j t ht => by
        rw [Tryd.params8] at ht
        have hm : t ∈ ([3, 3, 3] : List TypeId) := by simpa using Array.mem_of_getElem? ht
        have hall : (([3, 3, 3] : List TypeId).all fun u => !Tryd.prog.wantsStandIn u) = true := by kernel_rfl
        exact (show Tryd.prog.wantsStandIn t = false by simpa using List.all_eq_true.1 hall t hm)⟩)
    (by kernel_rfl)
#print axioms TreeRanges_holds
end Go.Proofs.YtpiekmflfgpalaaDoor
