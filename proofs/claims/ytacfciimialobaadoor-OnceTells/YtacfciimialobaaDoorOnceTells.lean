/-
  The statement OnceTellsCardSaid: for all seeds, keys, bits, sides and messages the law function OnceTells returns true and leaves its arguments as they were; the table hash.roundWords starts as the program's text lays it (tied). No other condition.
-/
import Derived.Test.YtacfciimialobaaDoorOLs
import Derived.Test.YtacfciimialobaaDoorORefPub
import Derived.Test.YtacfciimialobaaDoorORefSign
import Derived.Test.YtacfciimialobaaDoorHRoomy
import Derived.Test.YtacfciimialobaaDoorTie
import Derived.Test.YtacfciimialobaaDoorCards
import Derived.SevenTiedAt
namespace Go.Proofs.YtacfciimialobaaDoor.onceTells
open Go.ChangeShapes Go.WideShapes Go.ChangeAt Go.RowKit
open Go.Proofs.YtacfciimialobaaDoor
set_option linter.unusedVariables false

set_option maxRecDepth 100000 in
set_option maxHeartbeats 4000000 in
theorem walk (v0 : Value) (bs0 : List Int) (key bit side : Int) (v4 : Value) (ms0 : List Int) (w : World) (hG : Gl w) (hb0 : Sl w v0 bs0) (hB0 : Bs bs0) (hkey : -9223372036854775808 ≤ key ∧ key ≤ 9223372036854775807) (hbit : -9223372036854775808 ≤ bit ∧ bit ≤ 9223372036854775807) (hside : -9223372036854775808 ≤ side ∧ side ≤ 9223372036854775807) (hm0 : Sl w v4 ms0) (hM0 : Bs ms0) :
    Calls Tryd.prog 4 #[v0, .int .i64 key, .int .i64 bit, .int .i64 side, v4] w fun e w' => e = .returned (.bool true) ∧ Below w.heap.size w w' := by
  have HG := hide hG
  obtain ⟨bs, hbs⟩ : ∃ bs, bs = bs0.take 50 := ⟨_, rfl⟩
  obtain ⟨ms, hms⟩ : ∃ ms, ms = ms0.take 200 := ⟨_, rfl⟩
  have hbl : bs.length ≤ 50 := by rw [hbs]; simp; omega
  have hml : ms.length ≤ 200 := by rw [hms]; simp; omega
  have HBb : Hid (Bs bs) := by rw [hbs]; exact hB0.take _
  have HBm : Hid (Bs ms) := by rw [hms]; exact hM0.take _
  have kb := cut_any v0 bs0 50 w hb0
  have kc := cut_any v4 ms0 200 w hm0
  rw [← hbs] at kb
  rw [← hms] at kc
  have KB := hide kb
  have KC := hide kc
  have HB0 := hide hb0
  have HC0 := hide hm0
  clear hG kb kc hb0 hm0 hB0 hM0 hbs hms hkey hbit hside
  go_enter Tryd.func4, Tryd.ntmps4
  go_wp2_with fail
  refine (unhide KB).mono ?_
  rintro ee w1 ⟨ab, cb, rfl, hT1, hw⟩
  subst w1
  have B1 := hide (hT1 _ (unhide HB0))
  go_wp2_with fail
  refine (unhide KC).mono ?_
  rintro ee w1 ⟨am, cm, rfl, hT2, hw⟩
  subst w1
  have C1 := hide (hT2 _ (unhide HC0))
  clear hT1 hT2 KB KC HB0 HC0
  obtain ⟨n, hn⟩ : ∃ n, n = bs.length := ⟨_, rfl⟩
  obtain ⟨m, hm⟩ : ∃ m, m = ms.length := ⟨_, rfl⟩
  rw [← hn] at B1 ⊢
  rw [← hm] at C1 ⊢
  have HM := hide hm
  clear hn hm
  go_wp2_with fail
  refine (roomy_any _ ms 165 _ (unhide C1) (by omega)).mono ?_
  rintro ee w2 ⟨g, nf, rfl, hnf0, O2, K2⟩
  have hnf : (m : Int) ≤ (nf : Int) := by have := unhide HM; omega
  have HK2 := hide K2
  have F2 := hide (Sl.of_owns O2)
  have P2 : Hid (Sl w2 (.slice (some ⟨g, 0, none⟩) m nf) ms) := by
    have t := (unhide F2).take ms.length (by simp)
    rw [List.take_left] at t
    rw [unhide HM]
    exact t
  obtain ⟨d, hd⟩ : ∃ d, d = digP ms := ⟨_, rfl⟩
  have HD := hide hd
  clear hd hnf0 O2 K2
  go_wp2_with fail
  refine (sign_any _ bs key _ ms d (unhide HD) w2 ((unhide B1).kept (unhide HK2) (by simp)) (unhide HBb) (by omega) (unhide P2) (unhide HBm) (by omega) ((unhide HG).kept (unhide HK2) (by simp))).mono ?_
  rintro ee w3 ⟨a3, m3, c3, rfl, A3⟩
  obtain ⟨l, hL, hl2⟩ := A3.lists (by rw [sgnP, ptsP_len]; omega)
  have HK3 := hide A3.kp
  have HL := hide hL
  have HL2 := hide hl2
  clear A3 hL hl2
  obtain ⟨r1, hr1⟩ : ∃ r, r = secP bs key bit side := ⟨_, rfl⟩
  obtain ⟨r2, hr2⟩ : ∃ r, r = shnP bs key bit side := ⟨_, rfl⟩
  obtain ⟨r3, hr3⟩ : ∃ r, r = pubP bs key := ⟨_, rfl⟩
  obtain ⟨S1, hS1⟩ : ∃ S, S = strOfNums r1 := ⟨_, rfl⟩
  obtain ⟨S2, hS2⟩ : ∃ S, S = strOfNums r2 := ⟨_, rfl⟩
  obtain ⟨S3, hS3⟩ : ∃ S, S = strOfNums r3 := ⟨_, rfl⟩
  have HR1 := hide hr1
  have HR2 := hide hr2
  have HR3 := hide hr3
  have HS1 := hide hS1
  have HS2 := hide hS2
  have HS3 := hide hS3
  clear hr1 hr2 hr3 hS1 hS2 hS3
  have KW : Kp [] w w3.drew := (unhide HK2).trans ((unhide HK3).trans (kp_drew w3))
  have SLB : ∀ w', Kp [] w3.drew w' → Sl w' (.slice ab n cb) bs := fun w' h => (unhide B1).kept (KW.trans h) (by simp)
  have SLM : ∀ w', Kp [] w3.drew w' → Sl w' (.slice am m cm) ms := fun w' h => (unhide C1).kept (KW.trans h) (by simp)
  have SLF : ∀ w', Kp [] w3.drew w' → Sl w' (.slice (some ⟨g, 0, none⟩) nf nf) (ms ++ List.replicate 80 165) := fun w' h => (unhide F2).kept ((unhide HK3).trans ((kp_drew w3).trans h)) (by simp)
  have LSL : ∀ w', Kp [] w3.drew w' → LsM (sgnP bs key d) (.slice a3 m3 c3) w' := fun w' h => ⟨l, (unhide HL).kept ((kp_drew w3).trans h), unhide HL2⟩
  have GL : ∀ w', Kp [] w3.drew w' → Gl w' := fun w' h => (unhide HG).kept (KW.trans h) (by simp)
  have HKW := hide KW
  clear KW
  go_wp2_with fail
  refine region_grow Tryd.mixed [Is (.slice am m cm), Is (.int .u32 d), Is (.slice am m cm), Is (.int .u32 d), Is (.bool true), Is (.bool true), Is (.slice ab n cb), Is (.int .i64 key), Is (.int .i64 bit), Is (.int .i64 side), SlT (r1), Is (.string S1), Is (.slice ab n cb), Is (.int .i64 key), Is (.int .i64 bit), Is (.int .i64 side), SlT (r1), Is (.string S1), Is (.bool true), Is (.bool true), Is (.bool true), Is (.slice ab n cb), Is (.int .i64 key), Is (.int .i64 bit), Is (.int .i64 side), SlT (r2), Is (.string S2), Is (.slice ab n cb), Is (.int .i64 key), Is (.int .i64 bit), Is (.int .i64 side), SlT (r2), Is (.string S2), Is (.bool true), Is (.bool true), Is (.bool true), Is (.slice ab n cb), Is (.int .i64 key), SlT (r3), Is (.string S3), Is (.slice ab n cb), Is (.int .i64 key), SlT (r3), Is (.string S3), Is (.bool true), Is (.bool true), Is (.bool true), Is (.slice a3 m3 c3), Is (.slice ab n cb), Is (.int .i64 key), Is (.slice am m cm), LsM (sgnP bs key d), Is (.bool true), Is (.bool true), Is (.bool true), Is (.slice (some ⟨g, 0, none⟩) nf nf), Is (.slice am m cm), Is (.bool true), Is (.bool true), Is (.bool true), Is (.bool true), Is (.bool true), Is (.bool true)] [[(4, none)], [(26, some 0)], [(4, none)], [(28, some 2)], [(27, some 1), (29, some 3)], [(30, some 4)], [(0, none), (31, some 5)], [(1, none), (31, some 5)], [(2, none), (31, some 5)], [(3, none), (31, some 5)], [(32, some 6), (33, some 7), (34, some 8), (35, some 9), (31, some 5)], [(36, some 10), (31, some 5)], [(0, none), (31, some 5)], [(1, none), (31, some 5)], [(2, none), (31, some 5)], [(3, none), (31, some 5)], [(38, some 12), (39, some 13), (40, some 14), (41, some 15), (31, some 5)], [(42, some 16), (31, some 5)], [(37, some 11), (43, some 17), (31, some 5)], [(31, some 5), (44, some 18)], [(45, some 19)], [(0, none), (46, some 20)], [(1, none), (46, some 20)], [(2, none), (46, some 20)], [(3, none), (46, some 20)], [(47, some 21), (48, some 22), (49, some 23), (50, some 24), (46, some 20)], [(51, some 25), (46, some 20)], [(0, none), (46, some 20)], [(1, none), (46, some 20)], [(2, none), (46, some 20)], [(3, none), (46, some 20)], [(53, some 27), (54, some 28), (55, some 29), (56, some 30), (46, some 20)], [(57, some 31), (46, some 20)], [(52, some 26), (58, some 32), (46, some 20)], [(46, some 20), (59, some 33)], [(60, some 34)], [(0, none), (61, some 35)], [(1, none), (61, some 35)], [(62, some 36), (63, some 37), (61, some 35)], [(64, some 38), (61, some 35)], [(0, none), (61, some 35)], [(1, none), (61, some 35)], [(66, some 40), (67, some 41), (61, some 35)], [(68, some 42), (61, some 35)], [(65, some 39), (69, some 43), (61, some 35)], [(61, some 35), (70, some 44)], [(71, some 45)], [(12, none), (72, some 46)], [(0, none), (72, some 46)], [(1, none), (72, some 46)], [(4, none), (72, some 46)], [(74, some 48), (75, some 49), (76, some 50), (72, some 46)], [(73, some 47), (77, some 51), (72, some 46)], [(72, some 46), (78, some 52)], [(79, some 53)], [(11, none), (80, some 54)], [(4, none), (80, some 54)], [(81, some 55), (82, some 56), (80, some 54)], [(80, some 54), (83, some 57)], [(84, some 58)], [(85, some 59)], [(85, some 59), (86, some 60)], [(87, some 61)]] (by kernel_rfl) ?_ ?_ ?_
  · simp only [List.mem_cons, List.not_mem_nil, or_false]
    intro R hR
    rcases hR with rfl | rfl | rfl | rfl | rfl | rfl | rfl | rfl | rfl | rfl | rfl | rfl | rfl | rfl | rfl | rfl | rfl | rfl | rfl | rfl | rfl | rfl | rfl | rfl | rfl | rfl | rfl | rfl | rfl | rfl | rfl | rfl | rfl | rfl | rfl | rfl | rfl | rfl | rfl | rfl | rfl | rfl | rfl | rfl | rfl | rfl | rfl | rfl | rfl | rfl | rfl | rfl | rfl | rfl | rfl | rfl | rfl | rfl | rfl | rfl | rfl | rfl | rfl <;> first | exact stable_is _ | exact stable_sl _ | exact stable_lsm _
  · refine steps_cons (fun a w hk hn => ?_) ?_
    · have h4 : a.eval (.tmp 4) = .slice am m cm := hn.1
      clear hn
      refine wants_plain rfl ?_
      exact grown_move (.tmp 4) rfl h4
    refine steps_cons (fun a w hk hn => ?_) ?_
    · have h26 : a.eval (.tmp 26) = .slice am m cm := hn.1
      clear hn
      refine wants_plain rfl ?_
      refine grown_call (f := 12) rfl Tryd.func12 (by kernel_rfl) (by kernel_rfl) ?_
      simp only [List.map_toArray, List.map_cons, List.map_nil, h26]
      refine (digest_any _ ms d (unhide HD) w (SLM w hk) (unhide HBm) (by omega) (GL w hk)).mono ?_
      rintro e w' ⟨rfl, K⟩
      exact ⟨_, rfl, K, rfl⟩
    refine steps_cons (fun a w hk hn => ?_) ?_
    · have h4 : a.eval (.tmp 4) = .slice am m cm := hn.1
      clear hn
      refine wants_plain rfl ?_
      exact grown_move (.tmp 4) rfl h4
    refine steps_cons (fun a w hk hn => ?_) ?_
    · have h28 : a.eval (.tmp 28) = .slice am m cm := hn.1
      clear hn
      refine wants_plain rfl ?_
      refine grown_call (f := 13) rfl Tryd.func13 (by kernel_rfl) (by kernel_rfl) ?_
      simp only [List.map_toArray, List.map_cons, List.map_nil, h28]
      refine (refdigest_any _ ms d (unhide HD) w (SLM w hk) (unhide HBm) (by omega)).mono ?_
      rintro e w' ⟨rfl, K⟩
      exact ⟨_, rfl, K, rfl⟩
    refine steps_cons (fun a w hk hn => ?_) ?_
    · have h27 : a.eval (.tmp 27) = .int .u32 d := hn.1
      have h29 : a.eval (.tmp 29) = .int .u32 d := hn.2.1
      clear hn
      refine wants_plain rfl ?_
      refine grown_run (v := .bool true) ?_ (Kp.refl _ _) rfl
      obtain ⟨ρ, hρ, hc, hf, hg⟩ := eval_is a
      rw [hρ] at h27 h29 ⊢
      simp [go_sem, h27, h29]
    refine steps_cons (fun a w hk hn => ?_) ?_
    · have h30 : a.eval (.tmp 30) = .bool true := hn.1
      clear hn
      refine wants_plain rfl ?_
      exact grown_move (.tmp 30) rfl h30
    refine steps_cons (fun a w hk hn => ?_) ?_
    · have h0 : a.eval (.tmp 0) = .slice ab n cb := hn.1
      have h31 : a.eval (.tmp 31) = .bool true := hn.2.1
      clear hn
      refine wants_guard (d := 31) rfl rfl h31 ?_
      exact grown_move (.tmp 0) rfl h0
    refine steps_cons (fun a w hk hn => ?_) ?_
    · have h1 : a.eval (.tmp 1) = .int .i64 key := hn.1
      have h31 : a.eval (.tmp 31) = .bool true := hn.2.1
      clear hn
      refine wants_guard (d := 31) rfl rfl h31 ?_
      exact grown_move (.tmp 1) rfl h1
    refine steps_cons (fun a w hk hn => ?_) ?_
    · have h2 : a.eval (.tmp 2) = .int .i64 bit := hn.1
      have h31 : a.eval (.tmp 31) = .bool true := hn.2.1
      clear hn
      refine wants_guard (d := 31) rfl rfl h31 ?_
      exact grown_move (.tmp 2) rfl h2
    refine steps_cons (fun a w hk hn => ?_) ?_
    · have h3 : a.eval (.tmp 3) = .int .i64 side := hn.1
      have h31 : a.eval (.tmp 31) = .bool true := hn.2.1
      clear hn
      refine wants_guard (d := 31) rfl rfl h31 ?_
      exact grown_move (.tmp 3) rfl h3
    refine steps_cons (fun a w hk hn => ?_) ?_
    · have h32 : a.eval (.tmp 32) = .slice ab n cb := hn.1
      have h33 : a.eval (.tmp 33) = .int .i64 key := hn.2.1
      have h34 : a.eval (.tmp 34) = .int .i64 bit := hn.2.2.1
      have h35 : a.eval (.tmp 35) = .int .i64 side := hn.2.2.2.1
      have h31 : a.eval (.tmp 31) = .bool true := hn.2.2.2.2.1
      clear hn
      refine wants_guard (d := 31) rfl rfl h31 ?_
      refine grown_call (f := 16) rfl Tryd.func16 (by kernel_rfl) (by kernel_rfl) ?_
      simp only [List.map_toArray, List.map_cons, List.map_nil, h32, h33, h34, h35]
      refine (secret_any _ bs key bit side r1 (unhide HR1) w (SLB w hk) (unhide HBb) (by omega) (GL w hk)).mono ?_
      rintro e w' ⟨ao, m, c, rfl, R, K⟩
      exact ⟨_, rfl, K, R.sl⟩
    refine steps_cons (fun a w hk hn => ?_) ?_
    · have h36 : Sl w (a.eval (.tmp 36)) (r1) := hn.1
      have h31 : a.eval (.tmp 31) = .bool true := hn.2.1
      clear hn
      refine wants_guard (d := 31) rfl rfl h31 ?_
      exact grown_conv (.tmp 36) _ _ 5 _ rfl h36 Tryd.underlying22 Tryd.underlying5 Tryd.underlying9 (congrArg Value.string (unhide HS1).symm)
    refine steps_cons (fun a w hk hn => ?_) ?_
    · have h0 : a.eval (.tmp 0) = .slice ab n cb := hn.1
      have h31 : a.eval (.tmp 31) = .bool true := hn.2.1
      clear hn
      refine wants_guard (d := 31) rfl rfl h31 ?_
      exact grown_move (.tmp 0) rfl h0
    refine steps_cons (fun a w hk hn => ?_) ?_
    · have h1 : a.eval (.tmp 1) = .int .i64 key := hn.1
      have h31 : a.eval (.tmp 31) = .bool true := hn.2.1
      clear hn
      refine wants_guard (d := 31) rfl rfl h31 ?_
      exact grown_move (.tmp 1) rfl h1
    refine steps_cons (fun a w hk hn => ?_) ?_
    · have h2 : a.eval (.tmp 2) = .int .i64 bit := hn.1
      have h31 : a.eval (.tmp 31) = .bool true := hn.2.1
      clear hn
      refine wants_guard (d := 31) rfl rfl h31 ?_
      exact grown_move (.tmp 2) rfl h2
    refine steps_cons (fun a w hk hn => ?_) ?_
    · have h3 : a.eval (.tmp 3) = .int .i64 side := hn.1
      have h31 : a.eval (.tmp 31) = .bool true := hn.2.1
      clear hn
      refine wants_guard (d := 31) rfl rfl h31 ?_
      exact grown_move (.tmp 3) rfl h3
    refine steps_cons (fun a w hk hn => ?_) ?_
    · have h38 : a.eval (.tmp 38) = .slice ab n cb := hn.1
      have h39 : a.eval (.tmp 39) = .int .i64 key := hn.2.1
      have h40 : a.eval (.tmp 40) = .int .i64 bit := hn.2.2.1
      have h41 : a.eval (.tmp 41) = .int .i64 side := hn.2.2.2.1
      have h31 : a.eval (.tmp 31) = .bool true := hn.2.2.2.2.1
      clear hn
      refine wants_guard (d := 31) rfl rfl h31 ?_
      refine grown_call (f := 17) rfl Tryd.func17 (by kernel_rfl) (by kernel_rfl) ?_
      simp only [List.map_toArray, List.map_cons, List.map_nil, h38, h39, h40, h41]
      refine (refsecret_any _ bs key bit side r1 (unhide HR1) w (SLB w hk) (unhide HBb) (by omega)).mono ?_
      rintro e w' ⟨ao, m, c, rfl, R, K⟩
      exact ⟨_, rfl, K, R.sl⟩
    refine steps_cons (fun a w hk hn => ?_) ?_
    · have h42 : Sl w (a.eval (.tmp 42)) (r1) := hn.1
      have h31 : a.eval (.tmp 31) = .bool true := hn.2.1
      clear hn
      refine wants_guard (d := 31) rfl rfl h31 ?_
      exact grown_conv (.tmp 42) _ _ 5 _ rfl h42 Tryd.underlying22 Tryd.underlying5 Tryd.underlying9 (congrArg Value.string (unhide HS1).symm)
    refine steps_cons (fun a w hk hn => ?_) ?_
    · have h37 : a.eval (.tmp 37) = .string S1 := hn.1
      have h43 : a.eval (.tmp 43) = .string S1 := hn.2.1
      have h31 : a.eval (.tmp 31) = .bool true := hn.2.2.1
      clear hn
      refine wants_guard (d := 31) rfl rfl h31 ?_
      refine grown_run (v := .bool true) ?_ (Kp.refl _ _) rfl
      obtain ⟨ρ, hρ, hc, hf, hg⟩ := eval_is a
      rw [hρ] at h37 h43 ⊢
      simp [go_sem, h37, h43]
    refine steps_cons (fun a w hk hn => ?_) ?_
    · have h31 : a.eval (.tmp 31) = .bool true := hn.1
      have h44 : a.eval (.tmp 44) = .bool true := hn.2.1
      clear hn
      refine wants_plain rfl ?_
      exact grown_pick _ _ _ true rfl h31 h44
    refine steps_cons (fun a w hk hn => ?_) ?_
    · have h45 : a.eval (.tmp 45) = .bool true := hn.1
      clear hn
      refine wants_plain rfl ?_
      exact grown_move (.tmp 45) rfl h45
    refine steps_cons (fun a w hk hn => ?_) ?_
    · have h0 : a.eval (.tmp 0) = .slice ab n cb := hn.1
      have h46 : a.eval (.tmp 46) = .bool true := hn.2.1
      clear hn
      refine wants_guard (d := 46) rfl rfl h46 ?_
      exact grown_move (.tmp 0) rfl h0
    refine steps_cons (fun a w hk hn => ?_) ?_
    · have h1 : a.eval (.tmp 1) = .int .i64 key := hn.1
      have h46 : a.eval (.tmp 46) = .bool true := hn.2.1
      clear hn
      refine wants_guard (d := 46) rfl rfl h46 ?_
      exact grown_move (.tmp 1) rfl h1
    refine steps_cons (fun a w hk hn => ?_) ?_
    · have h2 : a.eval (.tmp 2) = .int .i64 bit := hn.1
      have h46 : a.eval (.tmp 46) = .bool true := hn.2.1
      clear hn
      refine wants_guard (d := 46) rfl rfl h46 ?_
      exact grown_move (.tmp 2) rfl h2
    refine steps_cons (fun a w hk hn => ?_) ?_
    · have h3 : a.eval (.tmp 3) = .int .i64 side := hn.1
      have h46 : a.eval (.tmp 46) = .bool true := hn.2.1
      clear hn
      refine wants_guard (d := 46) rfl rfl h46 ?_
      exact grown_move (.tmp 3) rfl h3
    refine steps_cons (fun a w hk hn => ?_) ?_
    · have h47 : a.eval (.tmp 47) = .slice ab n cb := hn.1
      have h48 : a.eval (.tmp 48) = .int .i64 key := hn.2.1
      have h49 : a.eval (.tmp 49) = .int .i64 bit := hn.2.2.1
      have h50 : a.eval (.tmp 50) = .int .i64 side := hn.2.2.2.1
      have h46 : a.eval (.tmp 46) = .bool true := hn.2.2.2.2.1
      clear hn
      refine wants_guard (d := 46) rfl rfl h46 ?_
      refine grown_call (f := 18) rfl Tryd.func18 (by kernel_rfl) (by kernel_rfl) ?_
      simp only [List.map_toArray, List.map_cons, List.map_nil, h47, h48, h49, h50]
      refine (shown_any _ bs key bit side r2 (unhide HR2) w (SLB w hk) (unhide HBb) (by omega) (GL w hk)).mono ?_
      rintro e w' ⟨ao, m, c, rfl, R, K⟩
      exact ⟨_, rfl, K, R.sl⟩
    refine steps_cons (fun a w hk hn => ?_) ?_
    · have h51 : Sl w (a.eval (.tmp 51)) (r2) := hn.1
      have h46 : a.eval (.tmp 46) = .bool true := hn.2.1
      clear hn
      refine wants_guard (d := 46) rfl rfl h46 ?_
      exact grown_conv (.tmp 51) _ _ 5 _ rfl h51 Tryd.underlying22 Tryd.underlying5 Tryd.underlying9 (congrArg Value.string (unhide HS2).symm)
    refine steps_cons (fun a w hk hn => ?_) ?_
    · have h0 : a.eval (.tmp 0) = .slice ab n cb := hn.1
      have h46 : a.eval (.tmp 46) = .bool true := hn.2.1
      clear hn
      refine wants_guard (d := 46) rfl rfl h46 ?_
      exact grown_move (.tmp 0) rfl h0
    refine steps_cons (fun a w hk hn => ?_) ?_
    · have h1 : a.eval (.tmp 1) = .int .i64 key := hn.1
      have h46 : a.eval (.tmp 46) = .bool true := hn.2.1
      clear hn
      refine wants_guard (d := 46) rfl rfl h46 ?_
      exact grown_move (.tmp 1) rfl h1
    refine steps_cons (fun a w hk hn => ?_) ?_
    · have h2 : a.eval (.tmp 2) = .int .i64 bit := hn.1
      have h46 : a.eval (.tmp 46) = .bool true := hn.2.1
      clear hn
      refine wants_guard (d := 46) rfl rfl h46 ?_
      exact grown_move (.tmp 2) rfl h2
    refine steps_cons (fun a w hk hn => ?_) ?_
    · have h3 : a.eval (.tmp 3) = .int .i64 side := hn.1
      have h46 : a.eval (.tmp 46) = .bool true := hn.2.1
      clear hn
      refine wants_guard (d := 46) rfl rfl h46 ?_
      exact grown_move (.tmp 3) rfl h3
    refine steps_cons (fun a w hk hn => ?_) ?_
    · have h53 : a.eval (.tmp 53) = .slice ab n cb := hn.1
      have h54 : a.eval (.tmp 54) = .int .i64 key := hn.2.1
      have h55 : a.eval (.tmp 55) = .int .i64 bit := hn.2.2.1
      have h56 : a.eval (.tmp 56) = .int .i64 side := hn.2.2.2.1
      have h46 : a.eval (.tmp 46) = .bool true := hn.2.2.2.2.1
      clear hn
      refine wants_guard (d := 46) rfl rfl h46 ?_
      refine grown_call (f := 19) rfl Tryd.func19 (by kernel_rfl) (by kernel_rfl) ?_
      simp only [List.map_toArray, List.map_cons, List.map_nil, h53, h54, h55, h56]
      refine (refshown_any _ bs key bit side r2 (unhide HR2) w (SLB w hk) (unhide HBb) (by omega)).mono ?_
      rintro e w' ⟨ao, m, c, rfl, R, K⟩
      exact ⟨_, rfl, K, R.sl⟩
    refine steps_cons (fun a w hk hn => ?_) ?_
    · have h57 : Sl w (a.eval (.tmp 57)) (r2) := hn.1
      have h46 : a.eval (.tmp 46) = .bool true := hn.2.1
      clear hn
      refine wants_guard (d := 46) rfl rfl h46 ?_
      exact grown_conv (.tmp 57) _ _ 5 _ rfl h57 Tryd.underlying22 Tryd.underlying5 Tryd.underlying9 (congrArg Value.string (unhide HS2).symm)
    refine steps_cons (fun a w hk hn => ?_) ?_
    · have h52 : a.eval (.tmp 52) = .string S2 := hn.1
      have h58 : a.eval (.tmp 58) = .string S2 := hn.2.1
      have h46 : a.eval (.tmp 46) = .bool true := hn.2.2.1
      clear hn
      refine wants_guard (d := 46) rfl rfl h46 ?_
      refine grown_run (v := .bool true) ?_ (Kp.refl _ _) rfl
      obtain ⟨ρ, hρ, hc, hf, hg⟩ := eval_is a
      rw [hρ] at h52 h58 ⊢
      simp [go_sem, h52, h58]
    refine steps_cons (fun a w hk hn => ?_) ?_
    · have h46 : a.eval (.tmp 46) = .bool true := hn.1
      have h59 : a.eval (.tmp 59) = .bool true := hn.2.1
      clear hn
      refine wants_plain rfl ?_
      exact grown_pick _ _ _ true rfl h46 h59
    refine steps_cons (fun a w hk hn => ?_) ?_
    · have h60 : a.eval (.tmp 60) = .bool true := hn.1
      clear hn
      refine wants_plain rfl ?_
      exact grown_move (.tmp 60) rfl h60
    refine steps_cons (fun a w hk hn => ?_) ?_
    · have h0 : a.eval (.tmp 0) = .slice ab n cb := hn.1
      have h61 : a.eval (.tmp 61) = .bool true := hn.2.1
      clear hn
      refine wants_guard (d := 61) rfl rfl h61 ?_
      exact grown_move (.tmp 0) rfl h0
    refine steps_cons (fun a w hk hn => ?_) ?_
    · have h1 : a.eval (.tmp 1) = .int .i64 key := hn.1
      have h61 : a.eval (.tmp 61) = .bool true := hn.2.1
      clear hn
      refine wants_guard (d := 61) rfl rfl h61 ?_
      exact grown_move (.tmp 1) rfl h1
    refine steps_cons (fun a w hk hn => ?_) ?_
    · have h62 : a.eval (.tmp 62) = .slice ab n cb := hn.1
      have h63 : a.eval (.tmp 63) = .int .i64 key := hn.2.1
      have h61 : a.eval (.tmp 61) = .bool true := hn.2.2.1
      clear hn
      refine wants_guard (d := 61) rfl rfl h61 ?_
      refine grown_call (f := 20) rfl Tryd.func20 (by kernel_rfl) (by kernel_rfl) ?_
      simp only [List.map_toArray, List.map_cons, List.map_nil, h62, h63]
      refine (public_any _ bs key r3 (unhide HR3) w (SLB w hk) (unhide HBb) (by omega) (GL w hk)).mono ?_
      rintro e w' ⟨ao, m, c, rfl, R, K⟩
      exact ⟨_, rfl, K, R.sl⟩
    refine steps_cons (fun a w hk hn => ?_) ?_
    · have h64 : Sl w (a.eval (.tmp 64)) (r3) := hn.1
      have h61 : a.eval (.tmp 61) = .bool true := hn.2.1
      clear hn
      refine wants_guard (d := 61) rfl rfl h61 ?_
      exact grown_conv (.tmp 64) _ _ 5 _ rfl h64 Tryd.underlying22 Tryd.underlying5 Tryd.underlying9 (congrArg Value.string (unhide HS3).symm)
    refine steps_cons (fun a w hk hn => ?_) ?_
    · have h0 : a.eval (.tmp 0) = .slice ab n cb := hn.1
      have h61 : a.eval (.tmp 61) = .bool true := hn.2.1
      clear hn
      refine wants_guard (d := 61) rfl rfl h61 ?_
      exact grown_move (.tmp 0) rfl h0
    refine steps_cons (fun a w hk hn => ?_) ?_
    · have h1 : a.eval (.tmp 1) = .int .i64 key := hn.1
      have h61 : a.eval (.tmp 61) = .bool true := hn.2.1
      clear hn
      refine wants_guard (d := 61) rfl rfl h61 ?_
      exact grown_move (.tmp 1) rfl h1
    refine steps_cons (fun a w hk hn => ?_) ?_
    · have h66 : a.eval (.tmp 66) = .slice ab n cb := hn.1
      have h67 : a.eval (.tmp 67) = .int .i64 key := hn.2.1
      have h61 : a.eval (.tmp 61) = .bool true := hn.2.2.1
      clear hn
      refine wants_guard (d := 61) rfl rfl h61 ?_
      refine grown_call (f := 21) rfl Tryd.func21 (by kernel_rfl) (by kernel_rfl) ?_
      simp only [List.map_toArray, List.map_cons, List.map_nil, h66, h67]
      refine (refpublic_any _ bs key r3 (unhide HR3) w (SLB w hk) (unhide HBb) (by omega)).mono ?_
      rintro e w' ⟨ao, m, c, rfl, R, K⟩
      exact ⟨_, rfl, K, R.sl⟩
    refine steps_cons (fun a w hk hn => ?_) ?_
    · have h68 : Sl w (a.eval (.tmp 68)) (r3) := hn.1
      have h61 : a.eval (.tmp 61) = .bool true := hn.2.1
      clear hn
      refine wants_guard (d := 61) rfl rfl h61 ?_
      exact grown_conv (.tmp 68) _ _ 5 _ rfl h68 Tryd.underlying22 Tryd.underlying5 Tryd.underlying9 (congrArg Value.string (unhide HS3).symm)
    refine steps_cons (fun a w hk hn => ?_) ?_
    · have h65 : a.eval (.tmp 65) = .string S3 := hn.1
      have h69 : a.eval (.tmp 69) = .string S3 := hn.2.1
      have h61 : a.eval (.tmp 61) = .bool true := hn.2.2.1
      clear hn
      refine wants_guard (d := 61) rfl rfl h61 ?_
      refine grown_run (v := .bool true) ?_ (Kp.refl _ _) rfl
      obtain ⟨ρ, hρ, hc, hf, hg⟩ := eval_is a
      rw [hρ] at h65 h69 ⊢
      simp [go_sem, h65, h69]
    refine steps_cons (fun a w hk hn => ?_) ?_
    · have h61 : a.eval (.tmp 61) = .bool true := hn.1
      have h70 : a.eval (.tmp 70) = .bool true := hn.2.1
      clear hn
      refine wants_plain rfl ?_
      exact grown_pick _ _ _ true rfl h61 h70
    refine steps_cons (fun a w hk hn => ?_) ?_
    · have h71 : a.eval (.tmp 71) = .bool true := hn.1
      clear hn
      refine wants_plain rfl ?_
      exact grown_move (.tmp 71) rfl h71
    refine steps_cons (fun a w hk hn => ?_) ?_
    · have h12 : a.eval (.tmp 12) = .slice a3 m3 c3 := hn.1
      have h72 : a.eval (.tmp 72) = .bool true := hn.2.1
      clear hn
      refine wants_guard (d := 72) rfl rfl h72 ?_
      exact grown_move (.tmp 12) rfl h12
    refine steps_cons (fun a w hk hn => ?_) ?_
    · have h0 : a.eval (.tmp 0) = .slice ab n cb := hn.1
      have h72 : a.eval (.tmp 72) = .bool true := hn.2.1
      clear hn
      refine wants_guard (d := 72) rfl rfl h72 ?_
      exact grown_move (.tmp 0) rfl h0
    refine steps_cons (fun a w hk hn => ?_) ?_
    · have h1 : a.eval (.tmp 1) = .int .i64 key := hn.1
      have h72 : a.eval (.tmp 72) = .bool true := hn.2.1
      clear hn
      refine wants_guard (d := 72) rfl rfl h72 ?_
      exact grown_move (.tmp 1) rfl h1
    refine steps_cons (fun a w hk hn => ?_) ?_
    · have h4 : a.eval (.tmp 4) = .slice am m cm := hn.1
      have h72 : a.eval (.tmp 72) = .bool true := hn.2.1
      clear hn
      refine wants_guard (d := 72) rfl rfl h72 ?_
      exact grown_move (.tmp 4) rfl h4
    refine steps_cons (fun a w hk hn => ?_) ?_
    · have h74 : a.eval (.tmp 74) = .slice ab n cb := hn.1
      have h75 : a.eval (.tmp 75) = .int .i64 key := hn.2.1
      have h76 : a.eval (.tmp 76) = .slice am m cm := hn.2.2.1
      have h72 : a.eval (.tmp 72) = .bool true := hn.2.2.2.1
      clear hn
      refine wants_guard (d := 72) rfl rfl h72 ?_
      refine grown_call (f := 11) rfl Tryd.func11 (by kernel_rfl) (by kernel_rfl) ?_
      simp only [List.map_toArray, List.map_cons, List.map_nil, h74, h75, h76]
      refine (refsign_any _ bs key _ ms d (unhide HD) w (SLB w hk) (unhide HBb) (by omega) (SLM w hk) (unhide HBm) (by omega)).mono ?_
      rintro e w' ⟨ao, m, c, rfl, A⟩
      exact ⟨_, rfl, A.kp, A.lists (by rw [sgnP, ptsP_len]; omega)⟩
    refine steps_cons (fun a w hk hn => ?_) ?_
    · have h73 : a.eval (.tmp 73) = .slice a3 m3 c3 := hn.1
      have h77 : (LsM (sgnP bs key d)) (a.eval (.tmp 77)) w := hn.2.1
      have h72 : a.eval (.tmp 72) = .bool true := hn.2.2.1
      clear hn
      refine wants_guard (d := 72) rfl rfl h72 ?_
      refine grown_call (f := 14) rfl Tryd.func14 (by kernel_rfl) (by kernel_rfl) ?_
      simp only [List.map_toArray, List.map_cons, List.map_nil, h73]
      refine (lists_lsm (LSL w hk) h77).mono ?_
      rintro e w' ⟨rfl, K⟩
      exact ⟨_, rfl, K, rfl⟩
    refine steps_cons (fun a w hk hn => ?_) ?_
    · have h72 : a.eval (.tmp 72) = .bool true := hn.1
      have h78 : a.eval (.tmp 78) = .bool true := hn.2.1
      clear hn
      refine wants_plain rfl ?_
      exact grown_pick _ _ _ true rfl h72 h78
    refine steps_cons (fun a w hk hn => ?_) ?_
    · have h79 : a.eval (.tmp 79) = .bool true := hn.1
      clear hn
      refine wants_plain rfl ?_
      exact grown_move (.tmp 79) rfl h79
    refine steps_cons (fun a w hk hn => ?_) ?_
    · have h11 : a.eval (.tmp 11) = .slice (some ⟨g, 0, none⟩) nf nf := hn.1
      have h80 : a.eval (.tmp 80) = .bool true := hn.2.1
      clear hn
      refine wants_guard (d := 80) rfl rfl h80 ?_
      exact grown_move (.tmp 11) rfl h11
    refine steps_cons (fun a w hk hn => ?_) ?_
    · have h4 : a.eval (.tmp 4) = .slice am m cm := hn.1
      have h80 : a.eval (.tmp 80) = .bool true := hn.2.1
      clear hn
      refine wants_guard (d := 80) rfl rfl h80 ?_
      exact grown_move (.tmp 4) rfl h4
    refine steps_cons (fun a w hk hn => ?_) ?_
    · have h81 : a.eval (.tmp 81) = .slice (some ⟨g, 0, none⟩) nf nf := hn.1
      have h82 : a.eval (.tmp 82) = .slice am m cm := hn.2.1
      have h80 : a.eval (.tmp 80) = .bool true := hn.2.2.1
      clear hn
      refine wants_guard (d := 80) rfl rfl h80 ?_
      refine grown_call (f := 25) rfl Tryd.func25 (by kernel_rfl) (by kernel_rfl) ?_
      simp only [List.map_toArray, List.map_cons, List.map_nil, h81, h82]
      refine (intact_any _ _ ms 165 w (SLF w hk) (SLM w hk) (by omega)).mono ?_
      rintro e w' ⟨rfl, K⟩
      exact ⟨_, rfl, K, rfl⟩
    refine steps_cons (fun a w hk hn => ?_) ?_
    · have h80 : a.eval (.tmp 80) = .bool true := hn.1
      have h83 : a.eval (.tmp 83) = .bool true := hn.2.1
      clear hn
      refine wants_plain rfl ?_
      exact grown_pick _ _ _ true rfl h80 h83
    refine steps_cons (fun a w hk hn => ?_) ?_
    · have h84 : a.eval (.tmp 84) = .bool true := hn.1
      clear hn
      refine wants_plain rfl ?_
      exact grown_move (.tmp 84) rfl h84
    refine steps_cons (fun a w hk hn => ?_) ?_
    · have h85 : a.eval (.tmp 85) = .bool true := hn.1
      clear hn
      refine wants_guard (d := 85) rfl rfl h85 ?_
      refine grown_call (f := 22) rfl Tryd.func22 (by kernel_rfl) (by kernel_rfl) ?_
      simp only [List.map_toArray, List.map_nil]
      refine (known_any w (GL w hk)).mono ?_
      rintro e w' ⟨rfl, K⟩
      exact ⟨_, rfl, K, rfl⟩
    refine steps_cons (fun a w hk hn => ?_) ?_
    · have h85 : a.eval (.tmp 85) = .bool true := hn.1
      have h86 : a.eval (.tmp 86) = .bool true := hn.2.1
      clear hn
      refine wants_plain rfl ?_
      exact grown_pick _ _ _ true rfl h85 h86
    refine steps_cons (fun a w hk hn => ?_) ?_
    · have h87 : a.eval (.tmp 87) = .bool true := hn.1
      clear hn
      refine wants_plain rfl ?_
      exact grown_assign (.tmp 87) rfl h87
    exact trivial
  intro W1 hkW1
  rintro _ rfl
  rintro _ rfl
  rintro _ rfl
  rintro _ rfl
  rintro _ rfl
  rintro _ rfl
  rintro _ rfl
  rintro _ rfl
  rintro _ rfl
  rintro _ rfl
  intro v36 h36
  rintro _ rfl
  rintro _ rfl
  rintro _ rfl
  rintro _ rfl
  rintro _ rfl
  intro v42 h42
  rintro _ rfl
  rintro _ rfl
  rintro _ rfl
  rintro _ rfl
  rintro _ rfl
  rintro _ rfl
  rintro _ rfl
  rintro _ rfl
  intro v51 h51
  rintro _ rfl
  rintro _ rfl
  rintro _ rfl
  rintro _ rfl
  rintro _ rfl
  intro v57 h57
  rintro _ rfl
  rintro _ rfl
  rintro _ rfl
  rintro _ rfl
  rintro _ rfl
  rintro _ rfl
  intro v64 h64
  rintro _ rfl
  rintro _ rfl
  rintro _ rfl
  intro v68 h68
  rintro _ rfl
  rintro _ rfl
  rintro _ rfl
  rintro _ rfl
  rintro _ rfl
  rintro _ rfl
  rintro _ rfl
  rintro _ rfl
  intro v77 h77
  rintro _ rfl
  rintro _ rfl
  rintro _ rfl
  rintro _ rfl
  rintro _ rfl
  rintro _ rfl
  rintro _ rfl
  rintro _ rfl
  rintro _ rfl
  rintro _ rfl
  rintro _ rfl
  refine fin_nil ?_
  simp only [Act.put, List.set_cons_zero, List.set_cons_succ, List.setIfInBounds_toArray]
  go_wp2_with fail
  go_ret
  exact ⟨rfl, ((unhide HKW).trans hkW1).below (Nat.le_refl _) (by simp)⟩
set_option maxRecDepth 100000 in
theorem lifted (os : Os) (started : os.Started) (H : Type) (enc : TypeId × Value → H) :
    ReturnsInHanded {} Tryd.checked os 4 .any (fun w args => (Rows.onceTellsSpec.pre enc Tryd.prog Tryd.f4 [] false w args ∧ laidMetH Tryd.prog laid1 w) ∧ sizedMet enc Tryd.prog Tryd.f4 (OpenSpec.ofChange Rows.onceTellsSpec) false w args) (Rows.onceTellsSpec.post enc Tryd.prog Tryd.f4 false true false false) := by
  refine returnsInHanded_of_change_and (C := Tryd.checked) (X := fun w _ => laidMetH Tryd.prog laid1 w) (fun _ _ _ hh h => h.of_heap hh) own started (by kernel_rfl) Tryd.func4
    (ChangeSpec.witness_shaped (enc := enc) (C := Tryd.checked) (os := os) (X := fun w _ => laidMetH Tryd.prog laid1 w) false (World.doorLaid Tryd.prog 400 os) #[.slice none 0 0, .int .i64 0, .int .i64 0, .int .i64 0, .slice none 0 0] 8 rfl (World.shaped_of_RefB (by kernel_rfl) (by kernel_rfl)) (by kernel_rfl) (by kernel_rfl) (by kernel_rfl) (door_met os _)) ?_
  intro W base args ds gs before hval0 hW hcnd hsz0 hL _
  have hG := gl_of_laid hL
  have hval : ∀ (j : Nat) t v, Tryd.f4.params[j]? = some t → args[j]? = some v → Value.okWide Tryd.prog W .any base t v := hval0
  have hW' := hW
  obtain ⟨p, q, hA0, hV, rfl, hfz, hnd⟩ := hW
  have hA : DataW.TrodAll enc Tryd.prog W 0 (fun _ => true) true Tryd.f4.params.toList args.toList ds p := hA0
  rw [Tryd.params4] at hA hval
  obtain ⟨v0, vs0, d0, ds0, p0, q0, hargs, rfl, rfl, h0, r0⟩ := trodAll_cons hA
  obtain ⟨v1, vs1, d1, ds1, p1, q1, rfl, rfl, rfl, h1, r1⟩ := trodAll_cons r0
  obtain ⟨v2, vs2, d2, ds2, p2, q2, rfl, rfl, rfl, h2, r2⟩ := trodAll_cons r1
  obtain ⟨v3, vs3, d3, ds3, p3, q3, rfl, rfl, rfl, h3, r3⟩ := trodAll_cons r2
  obtain ⟨v4, vs4, d4, ds4, p4, q4, rfl, rfl, rfl, h4, r4⟩ := trodAll_cons r3
  obtain ⟨rfl, rfl, rfl⟩ := trodAll_nil r4
  obtain rfl : args = #[v0, v1, v2, v3, v4] := by cases args; simp_all
  obtain ⟨rfl, rfl⟩ := trodVars_none hV
  obtain ⟨a0, len0, cap0, rfl⟩ := okWide_slice Tryd.underlying22 (hval 0 22 v0 rfl rfl)
  have k0 := h0
  have lt0 : ∀ x ∈ p0, x.block < W.heap.size := by obtain ⟨m, hm⟩ := k0; exact DataW.trod_lt m _ _ _ hm
  obtain ⟨l0, s0, b0⟩ : ∃ bs, Sl W (.slice a0 len0 cap0) bs ∧ Bs bs := by
    obtain ⟨fuel, hf⟩ := h0
    exact bytes_of_trod (by simpa [Value.cells] using hf)
  obtain ⟨a1, rfl, rfl, rfl, w1⟩ := open_int Tryd.underlying3 (hval 1 3 v1 rfl rfl) h1
  obtain ⟨a2, rfl, rfl, rfl, w2⟩ := open_int Tryd.underlying3 (hval 2 3 v2 rfl rfl) h2
  obtain ⟨a3, rfl, rfl, rfl, w3⟩ := open_int Tryd.underlying3 (hval 3 3 v3 rfl rfl) h3
  obtain ⟨a4, len4, cap4, rfl⟩ := okWide_slice Tryd.underlying22 (hval 4 22 v4 rfl rfl)
  have k4 := h4
  have lt4 : ∀ x ∈ p4, x.block < W.heap.size := by obtain ⟨m, hm⟩ := k4; exact DataW.trod_lt m _ _ _ hm
  obtain ⟨l4, s4, b4⟩ : ∃ bs, Sl W (.slice a4 len4 cap4) bs ∧ Bs bs := by
    obtain ⟨fuel, hf⟩ := h4
    exact bytes_of_trod (by simpa [Value.cells] using hf)
  clear hA0 hval0
  refine (walk (.slice a0 len0 cap0) l0 a1 a2 a3 (.slice a4 len4 cap4) l4 W hG s0 b0 (bounds_i64 w1) (bounds_i64 w2) (bounds_i64 w3) s4 b4).mono fun e W' ⟨he, bel⟩ => ?_
  subst he
  exact ⟨_, rfl, _, _, _, [], _, [], hW', trodAll_mk1 (shut_bool Tryd.underlying4 _), (trodAll_cons_mk (Below.trod laidOut (by kernel_rfl) (of_decide_eq_true (by kernel_rfl)) k0 bel lt0) (trodAll_cons_mk (shut_int Tryd.underlying3 w1) (trodAll_cons_mk (shut_int Tryd.underlying3 w2) (trodAll_cons_mk (shut_int Tryd.underlying3 w3) (trodAll_cons_mk (Below.trod laidOut (by kernel_rfl) (of_decide_eq_true (by kernel_rfl)) k4 bel lt4) trodAll_mk0))))), rfl, bel.frame _, fun h => by cases h⟩

theorem over : Rows.onceTellsRow.holds Tryd.pinned (OpenSpec.ofChange Rows.onceTellsSpec) :=
  OpenClaim.holds_of_wide 4 Tryd.f4 rfl rfl rfl rfl rfl rfl rfl ⟨rfl, rfl, rfl, rfl, rfl⟩ rfl rfl rfl rfl rfl (by kernel_rfl) Tryd.func4 (by kernel_rfl)
    (of_decide_eq_true (by kernel_rfl)) (by unfold Func.isWrapper; first | (rw [if_pos (by decide +kernel)]; kernel_rfl) | (rw [if_neg (by decide +kernel)]; exact ⟨rfl, rfl⟩))
    (fun os started H enc _ => lifted os started H enc)
end Go.Proofs.YtacfciimialobaaDoor.onceTells

namespace Go.Proofs.YtacfciimialobaaDoor
/-- The given statement: the tied card. -/
theorem OnceTells_holds : Rows.OnceTellsCardSaid :=
  Claim7.holds_tied_plain_at .later [] [.data] true Rows.onceTellsCard.stood.harness false
    onceTells.over (fun _ h => by cases h) (by kernel_rfl) (fun _ h => by cases h) onceTells_row_tie rfl ⟨rfl, rfl⟩ (by kernel_rfl) rfl
    (fun f fn hf hfn => by
      obtain rfl : f = 4 := Option.some.inj ((show Tryd.prog.funcNamed "broadsheet/broadsheetlaw4.OnceTells" = some 4 by kernel_rfl).symm.trans hf) |>.symm
      obtain rfl : fn = Tryd.f4 := (Option.some.inj (Tryd.func4.symm.trans hfn)).symm
      exact ⟨by kernel_rfl, fun j t ht => by
        rw [Tryd.params4] at ht
        have hm : t ∈ ([22, 3, 3, 3, 22] : List TypeId) := by simpa using Array.mem_of_getElem? ht
        have hall : (([22, 3, 3, 3, 22] : List TypeId).all fun u => !Tryd.prog.wantsStandIn u) = true := by kernel_rfl
        exact (show Tryd.prog.wantsStandIn t = false by simpa using List.all_eq_true.1 hall t hm)⟩)
    (by kernel_rfl)
#print axioms OnceTells_holds
end Go.Proofs.YtacfciimialobaaDoor
