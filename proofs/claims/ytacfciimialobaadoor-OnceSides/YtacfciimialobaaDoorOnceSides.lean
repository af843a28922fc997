/-
  The statement OnceSidesCardSaid: for all seeds, keys and bits the law function OnceSides returns true and leaves its arguments as they were; the table hash.roundWords starts as the program's text lays it (tied). No other condition.
-/
import Derived.Test.YtacfciimialobaaDoorOLs
import Derived.Test.YtacfciimialobaaDoorORefPub
import Derived.Test.YtacfciimialobaaDoorTie
import Derived.Test.YtacfciimialobaaDoorCards
import Derived.SevenTiedAt
namespace Go.Proofs.YtacfciimialobaaDoor.onceSides
open Go.ChangeShapes Go.WideShapes Go.ChangeAt Go.RowKit
open Go.Proofs.YtacfciimialobaaDoor
set_option linter.unusedVariables false

set_option maxRecDepth 100000 in
set_option maxHeartbeats 4000000 in
theorem walk (v0 : Value) (bs0 : List Int) (key bit : Int) (w : World) (hG : Gl w) (hb0 : Sl w v0 bs0) (hB0 : Bs bs0) (hkey : -9223372036854775808 ≤ key ∧ key ≤ 9223372036854775807) (hbit : -9223372036854775808 ≤ bit ∧ bit ≤ 9223372036854775807) :
    Calls Tryd.prog 7 #[v0, .int .i64 key, .int .i64 bit] w fun e w' => e = .returned (.bool true) ∧ Below w.heap.size w w' := by
  have HG := hide hG
  obtain ⟨bs, hbs⟩ : ∃ bs, bs = bs0.take 40 := ⟨_, rfl⟩
  have hbl : bs.length ≤ 40 := by rw [hbs]; simp; omega
  have HBb : Hid (Bs bs) := by rw [hbs]; exact hB0.take _
  have kb := cut_any v0 bs0 40 w hb0
  rw [← hbs] at kb
  have KB := hide kb
  have HB0 := hide hb0
  have HW := hide (within_any bit 0 31 w (by omega) (by omega) (by omega) hbit)
  clear hG kb hb0 hB0 hbs hkey hbit
  go_enter Tryd.func7, Tryd.ntmps7
  go_wp2_with fail
  refine (unhide KB).mono ?_
  rintro ee w1 ⟨ab, cb, rfl, hT1, hw⟩
  subst w1
  have B1 := hide (hT1 _ (unhide HB0))
  clear hT1 KB HB0
  obtain ⟨n, hn⟩ : ∃ n, n = bs.length := ⟨_, rfl⟩
  rw [← hn] at B1 ⊢
  clear hn
  go_wp2_with fail
  refine (unhide HW).mono ?_
  rintro ee w1 ⟨j, rfl, hj0, hj1, hw⟩
  subst w1
  clear HW
  go_wp2_with fail
  go_loopw [8] (fun i wr => ∃ s : Nat, s ≤ 2 ∧ i = .int .i64 s ∧ Kp [] w wr) (fun i _ => 2 - (intOf i).toNat)
  case atStart => exact ⟨0, by omega, rfl, Kp.refl _ _⟩
  case round =>
    obtain ⟨s, hs, rfl, Kr⟩ := hrel
    have HKr := hide Kr
    clear Kr
    by_cases hlt : s < 2
    · have hlt2 : (s : Int) < 2 := by omega
      obtain ⟨r1, hr1⟩ : ∃ r, r = secP bs key j (s : Nat) := ⟨_, rfl⟩
      obtain ⟨r2, hr2⟩ : ∃ r, r = shnP bs key j (s : Nat) := ⟨_, rfl⟩
      have hr1l : r1.length = 32 := by rw [hr1]; exact secP_len _ _ _ _
      have HB1 : Hid (Bs r1) := by rw [hr1]; exact sha_bs _
      have HT2 : Hid (r2 = sha (11 :: [r1].flatten)) := by rw [hr2, hr1, List.flatten_cons, List.flatten_nil, List.append_nil]; rfl
      obtain ⟨S2, hS2⟩ : ∃ S, S = strOfNums r2 := ⟨_, rfl⟩
      have HR1 := hide hr1
      have HR2 := hide hr2
      have HS2 := hide hS2
      have SLB : ∀ w', Kp [] wr.drew w' → Sl w' (.slice ab n cb) bs := fun w' h => (unhide B1).kept ((unhide HKr).trans ((kp_drew wr).trans h)) (by simp)
      have GL : ∀ w', Kp [] wr.drew w' → Gl w' := fun w' h => (unhide HG).kept ((unhide HKr).trans ((kp_drew wr).trans h)) (by simp)
      clear hr1 hr2 hS2
      go_wp2_with fail
      refine region_grow Tryd.mixed [Is (.slice ab n cb), Is (.int .i64 key), Is (.int .i64 j), Is (.int .i64 s), SlT (r2), Is (.string S2), Is (.slice ab n cb), Is (.int .i64 key), Is (.int .i64 j), Is (.int .i64 s), SlT (r1), LsM [r1], SlT (r2), Is (.string S2), Is (.bool false)] [[(0, none)], [(1, none)], [(7, none)], [(8, none)], [(19, some 0), (20, some 1), (21, some 2), (22, some 3)], [(23, some 4)], [(0, none)], [(1, none)], [(7, none)], [(8, none)], [(25, some 6), (26, some 7), (27, some 8), (28, some 9)], [(29, some 10)], [(30, some 11)], [(31, some 12)], [(24, some 5), (32, some 13)]] (by kernel_rfl) ?_ ?_ ?_
      · simp only [List.mem_cons, List.not_mem_nil, or_false]
        intro R hR
        rcases hR with rfl | rfl | rfl | rfl | rfl | rfl | rfl | rfl | rfl | rfl | rfl | rfl | rfl | rfl | rfl <;> first | exact stable_is _ | exact stable_sl _ | exact stable_lsm _
      · refine steps_cons (fun a w hk hn => ?_) ?_
        · have h0 : a.eval (.tmp 0) = .slice ab n cb := hn.1
          clear hn
          refine wants_plain rfl ?_
          exact grown_move (.tmp 0) rfl h0
        refine steps_cons (fun a w hk hn => ?_) ?_
        · have h1 : a.eval (.tmp 1) = .int .i64 key := hn.1
          clear hn
          refine wants_plain rfl ?_
          exact grown_move (.tmp 1) rfl h1
        refine steps_cons (fun a w hk hn => ?_) ?_
        · have h7 : a.eval (.tmp 7) = .int .i64 j := hn.1
          clear hn
          refine wants_plain rfl ?_
          exact grown_move (.tmp 7) rfl h7
        refine steps_cons (fun a w hk hn => ?_) ?_
        · have h8 : a.eval (.tmp 8) = .int .i64 s := hn.1
          clear hn
          refine wants_plain rfl ?_
          exact grown_move (.tmp 8) rfl h8
        refine steps_cons (fun a w hk hn => ?_) ?_
        · have h19 : a.eval (.tmp 19) = .slice ab n cb := hn.1
          have h20 : a.eval (.tmp 20) = .int .i64 key := hn.2.1
          have h21 : a.eval (.tmp 21) = .int .i64 j := hn.2.2.1
          have h22 : a.eval (.tmp 22) = .int .i64 s := hn.2.2.2.1
          clear hn
          refine wants_plain rfl ?_
          refine grown_call (f := 18) rfl Tryd.func18 (by kernel_rfl) (by kernel_rfl) ?_
          simp only [List.map_toArray, List.map_cons, List.map_nil, h19, h20, h21, h22]
          refine (shown_any _ bs key j s r2 (unhide HR2) w (SLB w hk) (unhide HBb) (by omega) (GL w hk)).mono ?_
          rintro e w' ⟨ao, m, c, rfl, R, K⟩
          exact ⟨_, rfl, K, R.sl⟩
        refine steps_cons (fun a w hk hn => ?_) ?_
        · have h23 : Sl w (a.eval (.tmp 23)) (r2) := hn.1
          clear hn
          refine wants_plain rfl ?_
          exact grown_conv (.tmp 23) _ _ 5 _ rfl h23 Tryd.underlying22 Tryd.underlying5 Tryd.underlying9 (congrArg Value.string (unhide HS2).symm)
        refine steps_cons (fun a w hk hn => ?_) ?_
        · have h0 : a.eval (.tmp 0) = .slice ab n cb := hn.1
          clear hn
          refine wants_plain rfl ?_
          exact grown_move (.tmp 0) rfl h0
        refine steps_cons (fun a w hk hn => ?_) ?_
        · have h1 : a.eval (.tmp 1) = .int .i64 key := hn.1
          clear hn
          refine wants_plain rfl ?_
          exact grown_move (.tmp 1) rfl h1
        refine steps_cons (fun a w hk hn => ?_) ?_
        · have h7 : a.eval (.tmp 7) = .int .i64 j := hn.1
          clear hn
          refine wants_plain rfl ?_
          exact grown_move (.tmp 7) rfl h7
        refine steps_cons (fun a w hk hn => ?_) ?_
        · have h8 : a.eval (.tmp 8) = .int .i64 s := hn.1
          clear hn
          refine wants_plain rfl ?_
          exact grown_move (.tmp 8) rfl h8
        refine steps_cons (fun a w hk hn => ?_) ?_
        · have h25 : a.eval (.tmp 25) = .slice ab n cb := hn.1
          have h26 : a.eval (.tmp 26) = .int .i64 key := hn.2.1
          have h27 : a.eval (.tmp 27) = .int .i64 j := hn.2.2.1
          have h28 : a.eval (.tmp 28) = .int .i64 s := hn.2.2.2.1
          clear hn
          refine wants_plain rfl ?_
          refine grown_call (f := 16) rfl Tryd.func16 (by kernel_rfl) (by kernel_rfl) ?_
          simp only [List.map_toArray, List.map_cons, List.map_nil, h25, h26, h27, h28]
          refine (secret_any _ bs key j s r1 (unhide HR1) w (SLB w hk) (unhide HBb) (by omega) (GL w hk)).mono ?_
          rintro e w' ⟨ao, m, c, rfl, R, K⟩
          exact ⟨_, rfl, K, R.sl⟩
        refine steps_cons (fun a w hk hn => ?_) ?_
        · have h29 : Sl w (a.eval (.tmp 29)) (r1) := hn.1
          clear hn
          refine wants_plain rfl ?_
          exact grown_build1 (.tmp 29) rfl r1 h29 (unhide HB1)
        refine steps_cons (fun a w hk hn => ?_) ?_
        · have h30 : (LsM [r1]) (a.eval (.tmp 30)) w := hn.1
          clear hn
          refine wants_plain rfl ?_
          refine grown_call (f := 30) rfl Tryd.func30 (by kernel_rfl) (by kernel_rfl) ?_
          simp only [List.map_toArray, List.map_cons, List.map_nil]
          refine (reftagged_lsm r2 (unhide HT2) h30 (by omega) (by omega) (by simp) (by simp; omega)).mono ?_
          rintro e w' ⟨ao, m, c, rfl, R, K⟩
          exact ⟨_, rfl, K, R.sl⟩
        refine steps_cons (fun a w hk hn => ?_) ?_
        · have h31 : Sl w (a.eval (.tmp 31)) (r2) := hn.1
          clear hn
          refine wants_plain rfl ?_
          exact grown_conv (.tmp 31) _ _ 5 _ rfl h31 Tryd.underlying22 Tryd.underlying5 Tryd.underlying9 (congrArg Value.string (unhide HS2).symm)
        refine steps_cons (fun a w hk hn => ?_) ?_
        · have h24 : a.eval (.tmp 24) = .string S2 := hn.1
          have h32 : a.eval (.tmp 32) = .string S2 := hn.2.1
          clear hn
          refine wants_plain rfl ?_
          refine grown_run (v := .bool false) ?_ (Kp.refl _ _) rfl
          obtain ⟨ρ, hρ, hc, hf, hg⟩ := eval_is a
          rw [hρ] at h24 h32 ⊢
          simp [go_sem, h24, h32]
        exact trivial
      intro W1 hkW1
      rintro _ rfl
      rintro _ rfl
      rintro _ rfl
      rintro _ rfl
      intro v23 h23
      rintro _ rfl
      rintro _ rfl
      rintro _ rfl
      rintro _ rfl
      rintro _ rfl
      intro v29 h29
      intro v30 h30
      intro v31 h31
      rintro _ rfl
      rintro _ rfl
      refine fin_nil ?_
      simp only [Act.put, List.set_cons_zero, List.set_cons_succ, List.setIfInBounds_toArray]
      clear SLB GL h23 h29 h30 h31
      go_wp2_with fail
      go_roundw
      case rel => exact ⟨s + 1, by omega, by go_num, (unhide HKr).trans ((kp_drew wr).trans hkW1)⟩
      case measure => simp [intOf]; omega
    · have hlt3 : ¬ (s : Int) < 2 := by omega
      obtain ⟨w3, hw3⟩ : ∃ w3, w3 = wr := ⟨_, rfl⟩
      subst hw3
      go_wp2_with fail
      go_loopw [9, 10] (fun v i wr => ∃ (k m c : Nat) (ao : Option Addr), k ≤ 32 ∧ v = .slice ao m c ∧ i = .int .i64 k ∧ Row wr w.heap.size v (ptsP bs key noneC (2 * k)).flatten ∧ Kp [] w wr) (fun _ i _ => 32 - (intOf i).toNat)
      case atStart => exact ⟨0, 0, 0, none, by omega, rfl, rfl, row_nil _ _, unhide HKr⟩
      case round =>
        obtain ⟨k, m, c, ao, hk, rfl, rfl, Rr, Kr⟩ := hrel
        clear HKr
        have HRr := hide Rr
        have HKr := hide Kr
        clear Rr Kr
        by_cases hlt : k < 32
        · have hlt2 : (k : Int) < 32 := by omega
          obtain ⟨fl, hfl⟩ : ∃ fl, fl = (ptsP bs key noneC (2 * k)).flatten := ⟨_, rfl⟩
          obtain ⟨r0, hr0⟩ : ∃ r, r = shnP bs key (k : Nat) 0 := ⟨_, rfl⟩
          obtain ⟨r1, hr1⟩ : ∃ r, r = shnP bs key (k : Nat) 1 := ⟨_, rfl⟩
          have HE : Hid ((ptsP bs key noneC (2 * (k + 1))).flatten = fl ++ r0 ++ r1) := by rw [hfl, hr0, hr1]; exact flat_two bs key k
          have hfll : fl.length ≤ 2048 := by rw [hfl, flat_len]; omega
          have hr0l : r0.length = 32 := by rw [hr0]; exact shnP_len _ _ _ _
          have hr1l : r1.length = 32 := by rw [hr1]; exact shnP_len _ _ _ _
          rw [← hfl] at HRr
          have HR0 := hide hr0
          have HR1 := hide hr1
          clear hfl hr0 hr1
          go_wp2_with fail
          refine (shown_any _ bs key (k : Nat) 0 r0 (unhide HR0) wr ((unhide B1).kept (unhide HKr) (by simp)) (unhide HBb) (by omega) ((unhide HG).kept (unhide HKr) (by simp))).mono ?_
          rintro ee w2 ⟨a2, m2, c2, rfl, R2, K2⟩
          have HR2 := hide R2
          have HK2 := hide K2
          clear R2 K2
          go_wp2_with (at_builtin; refine wpList_append_row rfl (.tmp 38) (.tmp 42) rfl w.heap.size _ fl rfl ((unhide HRr).kept (unhide HK2) (by simp)) _ r0 rfl (unhide HR2).sl (by omega) (by have := (unhide HKr).size; have := (unhide HK2).size; omega) ?_; intro ao3 m3 c3 w3 R3 s3)
          have HK3 := hide ((unhide HRr).step (unhide HKr) (s3.after (unhide HK2)))
          have HR3 := hide R3
          clear R3 s3 HR2 HK2 HRr HKr
          refine (shown_any _ bs key (k : Nat) 1 r1 (unhide HR1) w3 ((unhide B1).kept (unhide HK3) (by simp)) (unhide HBb) (by omega) ((unhide HG).kept (unhide HK3) (by simp))).mono ?_
          rintro ee w4 ⟨a4, m4, c4, rfl, R4, K4⟩
          have HR4 := hide R4
          have HK4 := hide K4
          clear R4 K4
          go_wp2_with (at_builtin; refine wpList_append_row rfl (.tmp 43) (.tmp 47) rfl w.heap.size _ (fl ++ r0) rfl ((unhide HR3).kept (unhide HK4) (by simp)) _ r1 rfl (unhide HR4).sl (by rw [List.length_append]; omega) (by have := (unhide HK3).size; have := (unhide HK4).size; omega) ?_; intro ao5 m5 c5 w5 R5 s5)
          go_roundw
          case rel => exact ⟨k + 1, m5, c5, ao5, by omega, rfl, by go_num, by rw [unhide HE]; exact R5, (unhide HR3).step (unhide HK3) (s5.after (unhide HK4))⟩
          case measure => simp [intOf]; omega
        · obtain rfl : k = 32 := by omega
          obtain ⟨fl, hfl⟩ : ∃ fl, fl = (ptsP bs key noneC 64).flatten := ⟨_, rfl⟩
          have hfll : fl.length ≤ 2048 := by rw [hfl, flat_len]; omega
          have hFB : Hid (Bs fl) := by
            rw [hfl]
            intro b hb
            obtain ⟨x, hx, hb⟩ := List.mem_flatten.1 hb
            unfold ptsP at hx
            obtain ⟨i, _, rfl⟩ := List.mem_map.1 hx
            exact ptP_bs _ _ _ _ b hb
          have hrr : Hid (Row wr w.heap.size (.slice ao m c) fl) := by rw [hfl]; exact unhide HRr
          obtain ⟨r3, hr3⟩ : ∃ r, r = pubP bs key := ⟨_, rfl⟩
          have HT3 : Hid (r3 = sha (12 :: [fl].flatten)) := by rw [hr3, hfl, List.flatten_cons, List.flatten_nil, List.append_nil]; rfl
          obtain ⟨S3, hS3⟩ : ∃ S, S = strOfNums r3 := ⟨_, rfl⟩
          obtain ⟨r1, hr1⟩ : ∃ r, r = secP bs key j 0 := ⟨_, rfl⟩
          have HRL : Hid (r1.length = 32) := by rw [hr1]; exact secP_len _ _ _ _
          have HR1 := hide hr1
          have HR3 := hide hr3
          have HS3 := hide hS3
          have SLB : ∀ w', Kp [] wr.drew w' → Sl w' (.slice ab n cb) bs := fun w' h => (unhide B1).kept ((unhide HKr).trans ((kp_drew wr).trans h)) (by simp)
          have SLF : ∀ w', Kp [] wr.drew w' → Sl w' (.slice ao m c) fl := fun w' h => (unhide hrr).sl.kept ((kp_drew wr).trans h) (by simp)
          have GL : ∀ w', Kp [] wr.drew w' → Gl w' := fun w' h => (unhide HG).kept ((unhide HKr).trans ((kp_drew wr).trans h)) (by simp)
          clear hfl hr1 hr3 hS3 HRr hrr
          go_wp2_with fail
          refine region_grow Tryd.mixed [Is (.slice ab n cb), Is (.int .i64 key), SlT (r3), Is (.string S3), Is (.slice ao m c), LsM [fl], SlT (r3), Is (.string S3), Is (.bool true), Is (.bool true), Is (.slice ab n cb), Is (.int .i64 key), Is (.int .i64 j), SlT (r1), Is (.int .i64 32), Is (.bool true), Is (.bool true), Is (.bool true), Is (.bool true), Is (.bool true), Is (.bool true)] [[(0, none)], [(1, none)], [(49, some 0), (50, some 1)], [(51, some 2)], [(9, none)], [(53, some 4)], [(54, some 5)], [(55, some 6)], [(52, some 3), (56, some 7)], [(57, some 8)], [(0, none), (58, some 9)], [(1, none), (58, some 9)], [(7, none), (58, some 9)], [(59, some 10), (60, some 11), (61, some 12), (58, some 9)], [(62, some 13), (58, some 9)], [(63, some 14), (58, some 9)], [(58, some 9), (64, some 15)], [(65, some 16)], [(66, some 17)], [(66, some 17), (67, some 18)], [(68, some 19)]] (by kernel_rfl) ?_ ?_ ?_
          · simp only [List.mem_cons, List.not_mem_nil, or_false]
            intro R hR
            rcases hR with rfl | rfl | rfl | rfl | rfl | rfl | rfl | rfl | rfl | rfl | rfl | rfl | rfl | rfl | rfl | rfl | rfl | rfl | rfl | rfl | rfl <;> first | exact stable_is _ | exact stable_sl _ | exact stable_lsm _
          · refine steps_cons (fun a w hk hn => ?_) ?_
            · have h0 : a.eval (.tmp 0) = .slice ab n cb := hn.1
              clear hn
              refine wants_plain rfl ?_
              exact grown_move (.tmp 0) rfl h0
            refine steps_cons (fun a w hk hn => ?_) ?_
            · have h1 : a.eval (.tmp 1) = .int .i64 key := hn.1
              clear hn
              refine wants_plain rfl ?_
              exact grown_move (.tmp 1) rfl h1
            refine steps_cons (fun a w hk hn => ?_) ?_
            · have h49 : a.eval (.tmp 49) = .slice ab n cb := hn.1
              have h50 : a.eval (.tmp 50) = .int .i64 key := hn.2.1
              clear hn
              refine wants_plain rfl ?_
              refine grown_call (f := 20) rfl Tryd.func20 (by kernel_rfl) (by kernel_rfl) ?_
              simp only [List.map_toArray, List.map_cons, List.map_nil, h49, h50]
              refine (public_any _ bs key r3 (unhide HR3) w (SLB w hk) (unhide HBb) (by omega) (GL w hk)).mono ?_
              rintro e w' ⟨ao, m, c, rfl, R, K⟩
              exact ⟨_, rfl, K, R.sl⟩
            refine steps_cons (fun a w hk hn => ?_) ?_
            · have h51 : Sl w (a.eval (.tmp 51)) (r3) := hn.1
              clear hn
              refine wants_plain rfl ?_
              exact grown_conv (.tmp 51) _ _ 5 _ rfl h51 Tryd.underlying22 Tryd.underlying5 Tryd.underlying9 (congrArg Value.string (unhide HS3).symm)
            refine steps_cons (fun a w hk hn => ?_) ?_
            · have h9 : a.eval (.tmp 9) = .slice ao m c := hn.1
              clear hn
              refine wants_plain rfl ?_
              exact grown_move (.tmp 9) rfl h9
            refine steps_cons (fun a w hk hn => ?_) ?_
            · have h53 : a.eval (.tmp 53) = .slice ao m c := hn.1
              clear hn
              refine wants_plain rfl ?_
              exact grown_build1 (.tmp 53) rfl fl (by rw [h53]; exact SLF w hk) (unhide hFB)
            refine steps_cons (fun a w hk hn => ?_) ?_
            · have h54 : (LsM [fl]) (a.eval (.tmp 54)) w := hn.1
              clear hn
              refine wants_plain rfl ?_
              refine grown_call (f := 30) rfl Tryd.func30 (by kernel_rfl) (by kernel_rfl) ?_
              simp only [List.map_toArray, List.map_cons, List.map_nil]
              refine (reftagged_lsm r3 (unhide HT3) h54 (by omega) (by omega) (by simp) (by simp; omega)).mono ?_
              rintro e w' ⟨ao, m, c, rfl, R, K⟩
              exact ⟨_, rfl, K, R.sl⟩
            refine steps_cons (fun a w hk hn => ?_) ?_
            · have h55 : Sl w (a.eval (.tmp 55)) (r3) := hn.1
              clear hn
              refine wants_plain rfl ?_
              exact grown_conv (.tmp 55) _ _ 5 _ rfl h55 Tryd.underlying22 Tryd.underlying5 Tryd.underlying9 (congrArg Value.string (unhide HS3).symm)
            refine steps_cons (fun a w hk hn => ?_) ?_
            · have h52 : a.eval (.tmp 52) = .string S3 := hn.1
              have h56 : a.eval (.tmp 56) = .string S3 := hn.2.1
              clear hn
              refine wants_plain rfl ?_
              refine grown_run (v := .bool true) ?_ (Kp.refl _ _) rfl
              obtain ⟨ρ, hρ, hc, hf, hg⟩ := eval_is a
              rw [hρ] at h52 h56 ⊢
              simp [go_sem, h52, h56]
            refine steps_cons (fun a w hk hn => ?_) ?_
            · have h57 : a.eval (.tmp 57) = .bool true := hn.1
              clear hn
              refine wants_plain rfl ?_
              exact grown_move (.tmp 57) rfl h57
            refine steps_cons (fun a w hk hn => ?_) ?_
            · have h0 : a.eval (.tmp 0) = .slice ab n cb := hn.1
              have h58 : a.eval (.tmp 58) = .bool true := hn.2.1
              clear hn
              refine wants_guard (d := 58) rfl rfl h58 ?_
              exact grown_move (.tmp 0) rfl h0
            refine steps_cons (fun a w hk hn => ?_) ?_
            · have h1 : a.eval (.tmp 1) = .int .i64 key := hn.1
              have h58 : a.eval (.tmp 58) = .bool true := hn.2.1
              clear hn
              refine wants_guard (d := 58) rfl rfl h58 ?_
              exact grown_move (.tmp 1) rfl h1
            refine steps_cons (fun a w hk hn => ?_) ?_
            · have h7 : a.eval (.tmp 7) = .int .i64 j := hn.1
              have h58 : a.eval (.tmp 58) = .bool true := hn.2.1
              clear hn
              refine wants_guard (d := 58) rfl rfl h58 ?_
              exact grown_move (.tmp 7) rfl h7
            refine steps_cons (fun a w hk hn => ?_) ?_
            · have h59 : a.eval (.tmp 59) = .slice ab n cb := hn.1
              have h60 : a.eval (.tmp 60) = .int .i64 key := hn.2.1
              have h61 : a.eval (.tmp 61) = .int .i64 j := hn.2.2.1
              have h58 : a.eval (.tmp 58) = .bool true := hn.2.2.2.1
              clear hn
              refine wants_guard (d := 58) rfl rfl h58 ?_
              refine grown_call (f := 16) rfl Tryd.func16 (by kernel_rfl) (by kernel_rfl) ?_
              simp only [List.map_toArray, List.map_cons, List.map_nil, h59, h60, h61]
              refine (secret_any _ bs key j 0 r1 (unhide HR1) w (SLB w hk) (unhide HBb) (by omega) (GL w hk)).mono ?_
              rintro e w' ⟨ao, m, c, rfl, R, K⟩
              exact ⟨_, rfl, K, R.sl⟩
            refine steps_cons (fun a w hk hn => ?_) ?_
            · have h62 : Sl w (a.eval (.tmp 62)) (r1) := hn.1
              have h58 : a.eval (.tmp 58) = .bool true := hn.2.1
              clear hn
              refine wants_guard (d := 58) rfl rfl h58 ?_
              obtain ⟨ax, cx, hxv, _⟩ := h62
              rw [unhide HRL] at hxv
              refine grown_run (v := .int .i64 32) ?_ (Kp.refl _ _) rfl
              obtain ⟨ρ, hρ, hc, hf, hg⟩ := eval_is a
              rw [hρ] at hxv ⊢
              simp [go_sem, hxv]
            refine steps_cons (fun a w hk hn => ?_) ?_
            · have h63 : a.eval (.tmp 63) = .int .i64 32 := hn.1
              have h58 : a.eval (.tmp 58) = .bool true := hn.2.1
              clear hn
              refine wants_guard (d := 58) rfl rfl h58 ?_
              refine grown_run (v := .bool true) ?_ (Kp.refl _ _) rfl
              obtain ⟨ρ, hρ, hc, hf, hg⟩ := eval_is a
              rw [hρ] at h63 ⊢
              simp [go_sem, hc, h63]
            refine steps_cons (fun a w hk hn => ?_) ?_
            · have h58 : a.eval (.tmp 58) = .bool true := hn.1
              have h64 : a.eval (.tmp 64) = .bool true := hn.2.1
              clear hn
              refine wants_plain rfl ?_
              exact grown_pick _ _ _ true rfl h58 h64
            refine steps_cons (fun a w hk hn => ?_) ?_
            · have h65 : a.eval (.tmp 65) = .bool true := hn.1
              clear hn
              refine wants_plain rfl ?_
              exact grown_move (.tmp 65) rfl h65
            refine steps_cons (fun a w hk hn => ?_) ?_
            · have h66 : a.eval (.tmp 66) = .bool true := hn.1
              clear hn
              refine wants_guard (d := 66) rfl rfl h66 ?_
              refine grown_call (f := 22) rfl Tryd.func22 (by kernel_rfl) (by kernel_rfl) ?_
              simp only [List.map_toArray, List.map_nil]
              refine (known_any w (GL w hk)).mono ?_
              rintro e w' ⟨rfl, K⟩
              exact ⟨_, rfl, K, rfl⟩
            refine steps_cons (fun a w hk hn => ?_) ?_
            · have h66 : a.eval (.tmp 66) = .bool true := hn.1
              have h67 : a.eval (.tmp 67) = .bool true := hn.2.1
              clear hn
              refine wants_plain rfl ?_
              exact grown_pick _ _ _ true rfl h66 h67
            refine steps_cons (fun a w hk hn => ?_) ?_
            · have h68 : a.eval (.tmp 68) = .bool true := hn.1
              clear hn
              refine wants_plain rfl ?_
              exact grown_assign (.tmp 68) rfl h68
            exact trivial
          intro W1 hkW1
          rintro _ rfl
          rintro _ rfl
          intro v51 h51
          rintro _ rfl
          rintro _ rfl
          intro v54 h54
          intro v55 h55
          rintro _ rfl
          rintro _ rfl
          rintro _ rfl
          rintro _ rfl
          rintro _ rfl
          rintro _ rfl
          intro v62 h62
          rintro _ rfl
          rintro _ rfl
          rintro _ rfl
          rintro _ rfl
          rintro _ rfl
          rintro _ rfl
          rintro _ rfl
          refine fin_nil ?_
          simp only [Act.put, List.set_cons_zero, List.set_cons_succ, List.setIfInBounds_toArray]
          go_wp2_with fail
          go_ret
          exact ⟨rfl, ((unhide HKr).trans ((kp_drew wr).trans hkW1)).below (Nat.le_refl _) (by simp)⟩
set_option maxRecDepth 100000 in
theorem lifted (os : Os) (started : os.Started) (H : Type) (enc : TypeId × Value → H) :
    ReturnsInHanded {} Tryd.checked os 7 .any (fun w args => (Rows.onceSidesSpec.pre enc Tryd.prog Tryd.f7 [] false w args ∧ laidMetH Tryd.prog laid1 w) ∧ sizedMet enc Tryd.prog Tryd.f7 (OpenSpec.ofChange Rows.onceSidesSpec) false w args) (Rows.onceSidesSpec.post enc Tryd.prog Tryd.f7 false true false false) := by
  refine returnsInHanded_of_change_and (C := Tryd.checked) (X := fun w _ => laidMetH Tryd.prog laid1 w) (fun _ _ _ hh h => h.of_heap hh) own started (by kernel_rfl) Tryd.func7
    (ChangeSpec.witness_shaped (enc := enc) (C := Tryd.checked) (os := os) (X := fun w _ => laidMetH Tryd.prog laid1 w) false (World.doorLaid Tryd.prog 400 os) #[.slice none 0 0, .int .i64 0, .int .i64 0] 8 rfl (World.shaped_of_RefB (by kernel_rfl) (by kernel_rfl)) (by kernel_rfl) (by kernel_rfl) (by kernel_rfl) (door_met os _)) ?_
  intro W base args ds gs before hval0 hW hcnd hsz0 hL _
  have hG := gl_of_laid hL
  have hval : ∀ (j : Nat) t v, Tryd.f7.params[j]? = some t → args[j]? = some v → Value.okWide Tryd.prog W .any base t v := hval0
  have hW' := hW
  obtain ⟨p, q, hA0, hV, rfl, hfz, hnd⟩ := hW
  have hA : DataW.TrodAll enc Tryd.prog W 0 (fun _ => true) true Tryd.f7.params.toList args.toList ds p := hA0
  rw [Tryd.params7] at hA hval
  obtain ⟨v0, vs0, d0, ds0, p0, q0, hargs, rfl, rfl, h0, r0⟩ := trodAll_cons hA
  obtain ⟨v1, vs1, d1, ds1, p1, q1, rfl, rfl, rfl, h1, r1⟩ := trodAll_cons r0
  obtain ⟨v2, vs2, d2, ds2, p2, q2, rfl, rfl, rfl, h2, r2⟩ := trodAll_cons r1
  obtain ⟨rfl, rfl, rfl⟩ := trodAll_nil r2
  obtain rfl : args = #[v0, v1, v2] := by cases args; simp_all
  obtain ⟨rfl, rfl⟩ := trodVars_none hV
  obtain ⟨a0, len0, cap0, rfl⟩ := okWide_slice Tryd.underlying22 (hval 0 22 v0 rfl rfl)
  have k0 := h0
  have lt0 : ∀ x ∈ p0, x.block < W.heap.size := by obtain ⟨m, hm⟩ := k0; exact DataW.trod_lt m _ _ _ hm
  obtain ⟨l0, s0, b0⟩ : ∃ bs, Sl W (.slice a0 len0 cap0) bs ∧ Bs bs := by
    obtain ⟨fuel, hf⟩ := h0
    exact bytes_of_trod (by simpa [Value.cells] using hf)
  obtain ⟨a1, rfl, rfl, rfl, w1⟩ := open_int Tryd.underlying3 (hval 1 3 v1 rfl rfl) h1
  obtain ⟨a2, rfl, rfl, rfl, w2⟩ := open_int Tryd.underlying3 (hval 2 3 v2 rfl rfl) h2
  clear hA0 hval0
  refine (walk (.slice a0 len0 cap0) l0 a1 a2 W hG s0 b0 (bounds_i64 w1) (bounds_i64 w2)).mono fun e W' ⟨he, bel⟩ => ?_
  subst he
  exact ⟨_, rfl, _, _, _, [], _, [], hW', trodAll_mk1 (shut_bool Tryd.underlying4 _), (trodAll_cons_mk (Below.trod laidOut (by kernel_rfl) (of_decide_eq_true (by kernel_rfl)) k0 bel lt0) (trodAll_cons_mk (shut_int Tryd.underlying3 w1) (trodAll_cons_mk (shut_int Tryd.underlying3 w2) trodAll_mk0))), rfl, bel.frame _, fun h => by cases h⟩

theorem over : Rows.onceSidesRow.holds Tryd.pinned (OpenSpec.ofChange Rows.onceSidesSpec) :=
  OpenClaim.holds_of_wide 7 Tryd.f7 rfl rfl rfl rfl rfl rfl rfl ⟨rfl, rfl, rfl, rfl, rfl⟩ rfl rfl rfl rfl rfl (by kernel_rfl) Tryd.func7 (by kernel_rfl)
    (of_decide_eq_true (by kernel_rfl)) (by unfold Func.isWrapper; first | (rw [if_pos (by decide +kernel)]; kernel_rfl) | (rw [if_neg (by decide +kernel)]; exact ⟨rfl, rfl⟩))
    (fun os started H enc _ => lifted os started H enc)
end Go.Proofs.YtacfciimialobaaDoor.onceSides

namespace Go.Proofs.YtacfciimialobaaDoor
/-- The given statement: the tied card. -/
theorem OnceSides_holds : Rows.OnceSidesCardSaid :=
  Claim7.holds_tied_plain_at .later [] [.data] true Rows.onceSidesCard.stood.harness false
    onceSides.over (fun _ h => by cases h) (by kernel_rfl) (fun _ h => by cases h) onceSides_row_tie rfl ⟨rfl, rfl⟩ (by kernel_rfl) rfl
    (fun f fn hf hfn => by
      obtain rfl : f = 7 := Option.some.inj ((show Tryd.prog.funcNamed "broadsheet/broadsheetlaw4.OnceSides" = some 7 by kernel_rfl).symm.trans hf) |>.symm
      obtain rfl : fn = Tryd.f7 := (Option.some.inj (Tryd.func7.symm.trans hfn)).symm
      exact ⟨by kernel_rfl, fun j t ht => by
        rw [Tryd.params7] at ht
        have hm : t ∈ ([22, 3, 3] : List TypeId) := by simpa using Array.mem_of_getElem? ht
        have hall : (([22, 3, 3] : List TypeId).all fun u => !Tryd.prog.wantsStandIn u) = true := by kernel_rfl
        exact (show Tryd.prog.wantsStandIn t = false by simpa using List.all_eq_true.1 hall t hm)⟩)
    (by kernel_rfl)
#print axioms OnceSides_holds
end Go.Proofs.YtacfciimialobaaDoor
