/-
  The statement OnceBackCardSaid: for all seeds, keys and messages the law function OnceBack returns true and leaves its arguments as they were; the table hash.roundWords starts as the program's text lays it (tied). No other condition.
-/
import Derived.Test.YtacfciimialobaaDoorOLs
import Derived.Test.YtacfciimialobaaDoorTie
import Derived.Test.YtacfciimialobaaDoorCards
import Derived.SevenTiedAt
namespace Go.Proofs.YtacfciimialobaaDoor.onceBack
open Go.ChangeShapes Go.WideShapes Go.ChangeAt Go.RowKit
open Go.Proofs.YtacfciimialobaaDoor
set_option linter.unusedVariables false

theorem sgn_at (bs : List Int) (key d : Int) (k s : Nat) (hs : s < 2) (l : List (Value × List Int)) (hl : l.map (·.2) = sgnP bs key d) (h : 2 * k + s < l.length) : l[2 * k + s].2 = if digC d k s then secP bs key (k : Nat) (s : Nat) else shnP bs key (k : Nat) (s : Nat) := by
  rw [← ptP_at bs key (digC d) k s hs]
  have h1 : (l.map (·.2))[2 * k + s]? = (sgnP bs key d)[2 * k + s]? := by rw [hl]
  have h2 : 2 * k + s < 64 := by have := congrArg List.length hl; rw [List.length_map, sgnP, ptsP_len] at this; omega
  rw [List.getElem?_map, List.getElem?_eq_getElem h, sgnP, ptsP, List.getElem?_map, List.getElem?_range h2] at h1
  exact Option.some.inj h1

set_option maxRecDepth 100000 in
set_option maxHeartbeats 4000000 in
theorem walk (v0 : Value) (bs0 : List Int) (key : Int) (v2 : Value) (ms0 : List Int) (w : World) (hG : Gl w) (hb0 : Sl w v0 bs0) (hB0 : Bs bs0) (hkey : -9223372036854775808 ≤ key ∧ key ≤ 9223372036854775807) (hm0 : Sl w v2 ms0) (hM0 : Bs ms0) :
    Calls Tryd.prog 6 #[v0, .int .i64 key, v2] w fun e w' => e = .returned (.bool true) ∧ Below w.heap.size w w' := by
  have HG := hide hG
  obtain ⟨bs, hbs⟩ : ∃ bs, bs = bs0.take 50 := ⟨_, rfl⟩
  obtain ⟨ms, hms⟩ : ∃ ms, ms = ms0.take 200 := ⟨_, rfl⟩
  have hbl : bs.length ≤ 50 := by rw [hbs]; simp; omega
  have hml : ms.length ≤ 200 := by rw [hms]; simp; omega
  have HBb : Hid (Bs bs) := by rw [hbs]; exact hB0.take _
  have HBm : Hid (Bs ms) := by rw [hms]; exact hM0.take _
  have kb := cut_any v0 bs0 50 w hb0
  have kc := cut_any v2 ms0 200 w hm0
  rw [← hbs] at kb
  rw [← hms] at kc
  have KB := hide kb
  have KC := hide kc
  have HB0 := hide hb0
  have HC0 := hide hm0
  clear hG kb kc hb0 hm0 hB0 hM0 hbs hms hkey
  go_enter Tryd.func6, Tryd.ntmps6
  go_wp2_with fail
  refine (unhide KB).mono ?_
  rintro ee w1 ⟨ab, cb, rfl, hT1, hw⟩
  subst w1
  have B1 := hide (hT1 _ (unhide HB0))
  go_wp2_with fail
  refine (unhide KC).mono ?_
  rintro ee w1 ⟨am, cm, rfl, hT2, hw⟩
  subst w1
  have C1 := hide (hT2 _ (unhide HC0))
  clear hT1 hT2 KB KC HB0 HC0
  obtain ⟨n, hn⟩ : ∃ n, n = bs.length := ⟨_, rfl⟩
  obtain ⟨m, hm⟩ : ∃ m, m = ms.length := ⟨_, rfl⟩
  rw [← hn] at B1 ⊢
  rw [← hm] at C1 ⊢
  clear hn hm
  obtain ⟨d, hd⟩ : ∃ d, d = digP ms := ⟨_, rfl⟩
  have h0 : 0 ≤ d := by rw [hd]; exact (digP_bd ms).1
  have HD := hide hd
  clear hd
  go_wp2_with fail
  refine (sign_any _ bs key _ ms d (unhide HD) w (unhide B1) (unhide HBb) (by omega) (unhide C1) (unhide HBm) (by omega) (unhide HG)).mono ?_
  rintro ee w3 ⟨a3, m3, c3, rfl, A3⟩
  obtain rfl : m3 = 64 := by rw [A3.cap, sgnP, ptsP_len]
  obtain ⟨l, hL, hl2⟩ := A3.lists (by rw [sgnP, ptsP_len]; omega)
  have hl64 : l.length = 64 := by rw [← List.length_map (f := (·.2)), hl2, sgnP, ptsP_len]
  obtain ⟨g, o, rfl⟩ : ∃ g o, a3 = some ⟨g, o, none⟩ := by
    obtain ⟨ao, c, e, _, h⟩ := hL
    obtain ⟨b, off, e2, _⟩ := h 0 (by omega)
    injection e with e3
    exact ⟨b, off, e3.trans e2⟩
  have HK3 := hide A3.kp
  have HL := hide hL
  have HL2 := hide hl2
  have HL64 := hide hl64
  clear A3 hL hl2 hl64
  obtain ⟨r3, hr3⟩ : ∃ r, r = pubP bs key := ⟨_, rfl⟩
  have hr3l : r3.length = 32 := by rw [hr3]; exact pubP_len _ _
  obtain ⟨S3, hS3⟩ : ∃ S, S = strOfNums r3 := ⟨_, rfl⟩
  have HR3 := hide hr3
  have HS3 := hide hS3
  clear hr3 hS3
  go_wp2_with fail
  refine (root_any _ ms _ l d true r3 (unhide HD) (by rw [unhide HL2, areP_sgn]) (by rw [unhide HL2, rootP_sgn, unhide HR3]) w3 ((unhide C1).kept (unhide HK3) (by simp)) (unhide HBm) (by omega) (unhide HL) ((unhide HG).kept (unhide HK3) (by simp))).mono ?_
  rintro ee w4 ⟨v, rfl, hRt, K4⟩
  obtain ⟨a4, m4, c4, rfl, R4⟩ : ∃ ao m c, v = .slice ao m c ∧ Row w4 w3.heap.size v r3 := hRt
  have HR4 := hide R4.sl
  have HK4 := hide ((unhide HK3).trans K4)
  have HL4 := hide ((unhide HL).kept K4)
  clear R4 K4 HK3 HL
  have SLR : ∀ w', Kp [] w4.drew w' → Sl w' (.slice a4 m4 c4) r3 := fun w' h => (unhide HR4).kept ((kp_drew w4).trans h) (by simp)
  have SLB : ∀ w', Kp [] w4.drew w' → Sl w' (.slice ab n cb) bs := fun w' h => (unhide B1).kept ((unhide HK4).trans ((kp_drew w4).trans h)) (by simp)
  have GL : ∀ w', Kp [] w4.drew w' → Gl w' := fun w' h => (unhide HG).kept ((unhide HK4).trans ((kp_drew w4).trans h)) (by simp)
  go_wp2_with fail
  refine region_grow Tryd.mixed [Is (.bool true), Is (.bool false), Is (.bool false), Is (.slice a4 m4 c4), Is (.string S3), Is (.slice ab n cb), Is (.int .i64 key), SlT (r3), Is (.string S3), Is (.bool false), Is (.bool false), Is (.bool false), Is (.slice (some ⟨g, o, none⟩) 64 c3), Is (.int .i64 64), Is (.bool false), Is (.bool false)] [[(9, none)], [(27, some 0)], [(28, some 1)], [(8, none), (29, some 2)], [(30, some 3), (29, some 2)], [(0, none), (29, some 2)], [(1, none), (29, some 2)], [(32, some 5), (33, some 6), (29, some 2)], [(34, some 7), (29, some 2)], [(31, some 4), (35, some 8), (29, some 2)], [(29, some 2), (36, some 9)], [(37, some 10)], [(7, none), (38, some 11)], [(39, some 12), (38, some 11)], [(40, some 13), (38, some 11)], [(38, some 11), (41, some 14)]] (by kernel_rfl) ?_ ?_ ?_
  · simp only [List.mem_cons, List.not_mem_nil, or_false]
    intro R hR
    rcases hR with rfl | rfl | rfl | rfl | rfl | rfl | rfl | rfl | rfl | rfl | rfl | rfl | rfl | rfl | rfl | rfl <;> first | exact stable_is _ | exact stable_sl _
  · refine steps_cons (fun a w hk hn => ?_) ?_
    · have h9 : a.eval (.tmp 9) = .bool true := hn.1
      clear hn
      refine wants_plain rfl ?_
      exact grown_move (.tmp 9) rfl h9
    refine steps_cons (fun a w hk hn => ?_) ?_
    · have h27 : a.eval (.tmp 27) = .bool true := hn.1
      clear hn
      refine wants_plain rfl ?_
      refine grown_run (v := .bool false) ?_ (Kp.refl _ _) rfl
      obtain ⟨ρ, hρ, hc, hf, hg⟩ := eval_is a
      rw [hρ] at h27 ⊢
      simp [go_sem, h27]
    refine steps_cons (fun a w hk hn => ?_) ?_
    · have h28 : a.eval (.tmp 28) = .bool false := hn.1
      clear hn
      refine wants_plain rfl ?_
      exact grown_move (.tmp 28) rfl h28
    refine steps_cons (fun a w hk hn => ?_) ?_
    · have h8 : a.eval (.tmp 8) = .slice a4 m4 c4 := hn.1
      have h29 : a.eval (.tmp 29) = .bool false := hn.2.1
      clear hn
      refine wants_guard (d := 29) rfl rfl h29 ?_
      exact grown_move (.tmp 8) rfl h8
    refine steps_cons (fun a w hk hn => ?_) ?_
    · have h30 : a.eval (.tmp 30) = .slice a4 m4 c4 := hn.1
      have h29 : a.eval (.tmp 29) = .bool false := hn.2.1
      clear hn
      refine wants_guard (d := 29) rfl rfl h29 ?_
      exact grown_conv (.tmp 30) _ _ 5 (r3) rfl (by rw [h30]; exact SLR w hk) Tryd.underlying22 Tryd.underlying5 Tryd.underlying9 (congrArg Value.string (unhide HS3).symm)
    refine steps_cons (fun a w hk hn => ?_) ?_
    · have h0 : a.eval (.tmp 0) = .slice ab n cb := hn.1
      have h29 : a.eval (.tmp 29) = .bool false := hn.2.1
      clear hn
      refine wants_guard (d := 29) rfl rfl h29 ?_
      exact grown_move (.tmp 0) rfl h0
    refine steps_cons (fun a w hk hn => ?_) ?_
    · have h1 : a.eval (.tmp 1) = .int .i64 key := hn.1
      have h29 : a.eval (.tmp 29) = .bool false := hn.2.1
      clear hn
      refine wants_guard (d := 29) rfl rfl h29 ?_
      exact grown_move (.tmp 1) rfl h1
    refine steps_cons (fun a w hk hn => ?_) ?_
    · have h32 : a.eval (.tmp 32) = .slice ab n cb := hn.1
      have h33 : a.eval (.tmp 33) = .int .i64 key := hn.2.1
      have h29 : a.eval (.tmp 29) = .bool false := hn.2.2.1
      clear hn
      refine wants_guard (d := 29) rfl rfl h29 ?_
      refine grown_call (f := 20) rfl Tryd.func20 (by kernel_rfl) (by kernel_rfl) ?_
      simp only [List.map_toArray, List.map_cons, List.map_nil, h32, h33]
      refine (public_any _ bs key r3 (unhide HR3) w (SLB w hk) (unhide HBb) (by omega) (GL w hk)).mono ?_
      rintro e w' ⟨ao, m, c, rfl, R, K⟩
      exact ⟨_, rfl, K, R.sl⟩
    refine steps_cons (fun a w hk hn => ?_) ?_
    · have h34 : Sl w (a.eval (.tmp 34)) (r3) := hn.1
      have h29 : a.eval (.tmp 29) = .bool false := hn.2.1
      clear hn
      refine wants_guard (d := 29) rfl rfl h29 ?_
      exact grown_conv (.tmp 34) _ _ 5 _ rfl h34 Tryd.underlying22 Tryd.underlying5 Tryd.underlying9 (congrArg Value.string (unhide HS3).symm)
    refine steps_cons (fun a w hk hn => ?_) ?_
    · have h31 : a.eval (.tmp 31) = .string S3 := hn.1
      have h35 : a.eval (.tmp 35) = .string S3 := hn.2.1
      have h29 : a.eval (.tmp 29) = .bool false := hn.2.2.1
      clear hn
      refine wants_guard (d := 29) rfl rfl h29 ?_
      refine grown_run (v := .bool false) ?_ (Kp.refl _ _) rfl
      obtain ⟨ρ, hρ, hc, hf, hg⟩ := eval_is a
      rw [hρ] at h31 h35 ⊢
      simp [go_sem, h31, h35]
    refine steps_cons (fun a w hk hn => ?_) ?_
    · have h29 : a.eval (.tmp 29) = .bool false := hn.1
      have h36 : a.eval (.tmp 36) = .bool false := hn.2.1
      clear hn
      refine wants_plain rfl ?_
      exact grown_pick _ _ _ false rfl h29 h36
    refine steps_cons (fun a w hk hn => ?_) ?_
    · have h37 : a.eval (.tmp 37) = .bool false := hn.1
      clear hn
      refine wants_plain rfl ?_
      exact grown_move (.tmp 37) rfl h37
    refine steps_cons (fun a w hk hn => ?_) ?_
    · have h7 : a.eval (.tmp 7) = .slice (some ⟨g, o, none⟩) 64 c3 := hn.1
      have h38 : a.eval (.tmp 38) = .bool false := hn.2.1
      clear hn
      refine wants_guard (d := 38) rfl rfl h38 ?_
      exact grown_move (.tmp 7) rfl h7
    refine steps_cons (fun a w hk hn => ?_) ?_
    · have h39 : a.eval (.tmp 39) = .slice (some ⟨g, o, none⟩) 64 c3 := hn.1
      have h38 : a.eval (.tmp 38) = .bool false := hn.2.1
      clear hn
      refine wants_guard (d := 38) rfl rfl h38 ?_
      refine grown_run (v := .int .i64 64) ?_ (Kp.refl _ _) rfl
      obtain ⟨ρ, hρ, hc, hf, hg⟩ := eval_is a
      rw [hρ] at h39 ⊢
      simp [go_sem, h39]
    refine steps_cons (fun a w hk hn => ?_) ?_
    · have h40 : a.eval (.tmp 40) = .int .i64 64 := hn.1
      have h38 : a.eval (.tmp 38) = .bool false := hn.2.1
      clear hn
      refine wants_guard (d := 38) rfl rfl h38 ?_
      refine grown_run (v := .bool false) ?_ (Kp.refl _ _) rfl
      obtain ⟨ρ, hρ, hc, hf, hg⟩ := eval_is a
      rw [hρ] at h40 ⊢
      simp [go_sem, hc, h40]
    refine steps_cons (fun a w hk hn => ?_) ?_
    · have h38 : a.eval (.tmp 38) = .bool false := hn.1
      have h41 : a.eval (.tmp 41) = .bool false := hn.2.1
      clear hn
      refine wants_plain rfl ?_
      exact grown_pick _ _ _ false rfl h38 h41
    exact trivial
  intro W1 hkW1
  rintro _ rfl
  rintro _ rfl
  rintro _ rfl
  rintro _ rfl
  rintro _ rfl
  rintro _ rfl
  rintro _ rfl
  intro v34 h34
  rintro _ rfl
  rintro _ rfl
  rintro _ rfl
  rintro _ rfl
  rintro _ rfl
  rintro _ rfl
  rintro _ rfl
  rintro _ rfl
  refine fin_nil ?_
  simp only [Act.put, List.set_cons_zero, List.set_cons_succ, List.setIfInBounds_toArray]
  have HK5 := hide ((unhide HK4).trans ((kp_drew w4).trans hkW1))
  have HL5 := hide ((unhide HL4).kept ((kp_drew w4).trans hkW1))
  clear SLR SLB GL HK4 HL4 HR4 hkW1 h34 HR3 HS3 hr3l
  go_wp2_with fail
  refine (digest_any _ ms d (unhide HD) W1 ((unhide C1).kept (unhide HK5) (by simp)) (unhide HBm) (by omega) ((unhide HG).kept (unhide HK5) (by simp))).mono ?_
  rintro ee w6 ⟨rfl, K6⟩
  have HK6 := hide ((unhide HK5).trans K6)
  have HL6 := hide ((unhide HL5).kept K6)
  clear K6 HK5 HL5
  go_wp2_with fail
  go_loopw [11] (fun i wr => ∃ k : Nat, k ≤ 32 ∧ i = .int .i64 k ∧ Kp [] w6 wr) (fun i _ => 32 - (intOf i).toNat)
  case atStart => exact ⟨0, by omega, rfl, Kp.refl _ _⟩
  case round =>
    obtain ⟨k, hk, rfl, Kr⟩ := hrel
    have HKr := hide Kr
    clear Kr
    by_cases hlt : k < 32
    · have hlt2 : (k : Int) < 32 := by omega
      have hj1 : (k : Int) ≤ 31 := by omega
      have hj2 : (31 - (k : Int)).toNat = 31 - k := by omega
      have hd0 : 0 ≤ d / 2 ^ (31 - k) := Int.ediv_nonneg h0 (Int.le_of_lt (Int.pow_pos (by omega)))
      have ha := and_one _ hd0
      rw [← sd_val] at ha
      obtain ⟨t, ht⟩ : ∃ t, t = sdP d k := ⟨_, rfl⟩
      rw [← ht] at ha
      have htl : t < 2 := by rw [ht]; exact sdP_lt d k
      have ht1 : (t : Int) ≤ 1 := by omega
      have hC0 : digC d k t = true := by unfold digC; rw [ht]; simp
      obtain ⟨u, hu⟩ : ∃ u, u = 1 - t := ⟨_, rfl⟩
      have hul : u < 2 := by omega
      have hC1 : digC d k u = false := by unfold digC; rw [← ht]; simp; omega
      have e1 := sgn_at bs key d k t htl l (unhide HL2) (by have := unhide HL64; omega)
      have e2 := sgn_at bs key d k u hul l (unhide HL2) (by have := unhide HL64; omega)
      rw [hC0, if_pos rfl] at e1
      rw [hC1, if_neg (by simp)] at e2
      obtain ⟨p, hp⟩ : ∃ p, p = 2 * k + t := ⟨_, rfl⟩
      obtain ⟨q, hq⟩ : ∃ q, q = 2 * k + u := ⟨_, rfl⟩
      have hpl : p < l.length := by have := unhide HL64; omega
      have hql : q < l.length := by have := unhide HL64; omega
      obtain ⟨x, hx⟩ : ∃ x, x = l[p] := ⟨_, rfl⟩
      obtain ⟨y, hy⟩ : ∃ y, y = l[q] := ⟨_, rfl⟩
      have e1' : x.2 = secP bs key (k : Nat) (t : Nat) := by rw [hx]; subst hp; exact e1
      have e2' : y.2 = shnP bs key (k : Nat) (u : Nat) := by rw [hy]; subst hq; exact e2
      have hpi : 2 * (k : Int) + (t : Int) = (p : Int) := by omega
      have hqi : 2 * (k : Int) + 1 - (t : Int) = (q : Int) := by omega
      have hui : 1 - (t : Int) = (u : Int) := by omega
      have hp64 : (p : Int) < 64 := by omega
      have hq64 : (q : Int) < 64 := by omega
      have KW : Kp [] w6 wr.drew := (unhide HKr).trans (kp_drew wr)
      have CX : Hid (∀ w', Kp [] wr.drew w' → w'.cell? ⟨g, o + p, none⟩ = some x.1 ∧ Sl w' x.1 x.2) := fun w' h => by
        obtain ⟨ao, c, e, _, hc⟩ := (unhide HL6).kept (KW.trans h)
        obtain ⟨b, off, e3, h1, h2, _⟩ := hc p hpl
        injection e with e4
        rw [e3] at e4
        injection e4 with e4
        injection e4 with e5 e6
        subst e5
        subst e6
        rw [hx]
        exact ⟨h1, h2⟩
      have CY : Hid (∀ w', Kp [] wr.drew w' → w'.cell? ⟨g, o + q, none⟩ = some y.1 ∧ Sl w' y.1 y.2) := fun w' h => by
        obtain ⟨ao, c, e, _, hc⟩ := (unhide HL6).kept (KW.trans h)
        obtain ⟨b, off, e3, h1, h2, _⟩ := hc q hql
        injection e with e4
        rw [e3] at e4
        injection e4 with e4
        injection e4 with e5 e6
        subst e5
        subst e6
        rw [hy]
        exact ⟨h1, h2⟩
      obtain ⟨ax, nx, cx, hxv⟩ : ∃ ax nx cx, x.1 = .slice ax nx cx := by obtain ⟨_, ⟨_, _, e, _⟩⟩ := unhide CX _ (Kp.refl _ _); exact ⟨_, _, _, e⟩
      obtain ⟨ay, ny, cy, hyv⟩ : ∃ ay ny cy, y.1 = .slice ay ny cy := by obtain ⟨_, ⟨_, _, e, _⟩⟩ := unhide CY _ (Kp.refl _ _); exact ⟨_, _, _, e⟩
      obtain ⟨r1, hr1⟩ : ∃ r, r = secP bs key (k : Nat) (t : Nat) := ⟨_, rfl⟩
      obtain ⟨r2, hr2⟩ : ∃ r, r = shnP bs key (k : Nat) (u : Nat) := ⟨_, rfl⟩
      rw [e1', ← hr1, hxv] at CX
      rw [e2', ← hr2, hyv] at CY
      obtain ⟨S1, hS1⟩ : ∃ S, S = strOfNums r1 := ⟨_, rfl⟩
      obtain ⟨S2, hS2⟩ : ∃ S, S = strOfNums r2 := ⟨_, rfl⟩
      have HR1 := hide hr1
      have HR2 := hide hr2
      have HS1 := hide hS1
      have HS2 := hide hS2
      have HKW := hide ((unhide HK6).trans KW)
      have CXc : ∀ w', Kp [] wr.drew w' → w'.cell? ⟨g, o + p, none⟩ = some (.slice ax nx cx) := fun w' h => (unhide CX w' h).1
      have CXs : ∀ w', Kp [] wr.drew w' → Sl w' (.slice ax nx cx) r1 := fun w' h => (unhide CX w' h).2
      have CYc : ∀ w', Kp [] wr.drew w' → w'.cell? ⟨g, o + q, none⟩ = some (.slice ay ny cy) := fun w' h => (unhide CY w' h).1
      have CYs : ∀ w', Kp [] wr.drew w' → Sl w' (.slice ay ny cy) r2 := fun w' h => (unhide CY w' h).2
      have SLB : ∀ w', Kp [] wr.drew w' → Sl w' (.slice ab n cb) bs := fun w' h => (unhide B1).kept ((unhide HKW).trans h) (by simp)
      have GL : ∀ w', Kp [] wr.drew w' → Gl w' := fun w' h => (unhide HG).kept ((unhide HKW).trans h) (by simp)
      clear KW hr1 hr2 hS1 hS2 e1 e2 e1' e2' hx hy hp hq hC0 hC1 hd0 ht hu hxv hyv CX CY
      go_wp2_with fail
      refine region_grow Tryd.mixed [Is (.slice (some ⟨g, o, none⟩) 64 c3), Is (.int .i64 k), Is (.int .i64 (2 * k)), Is (.int .i64 t), Is (.int .i64 p), Is (.pointer (some ⟨g, o + p, none⟩)), Is (.slice ax nx cx), Is (.string S1), Is (.slice ab n cb), Is (.int .i64 key), Is (.int .i64 k), Is (.int .i64 t), SlT (r1), Is (.string S1), Is (.bool false), Is (.bool false), Is (.slice (some ⟨g, o, none⟩) 64 c3), Is (.int .i64 k), Is (.int .i64 (2 * k)), Is (.int .i64 (2 * k + 1)), Is (.int .i64 t), Is (.int .i64 q), Is (.pointer (some ⟨g, o + q, none⟩)), Is (.slice ay ny cy), Is (.string S2), Is (.slice ab n cb), Is (.int .i64 key), Is (.int .i64 k), Is (.int .i64 t), Is (.int .i64 u), SlT (r2), Is (.string S2), Is (.bool false), Is (.bool false)] [[(7, none)], [(11, none)], [(57, some 1)], [(12, none)], [(58, some 2), (59, some 3)], [(56, some 0), (60, some 4)], [(61, some 5)], [(62, some 6)], [(0, none)], [(1, none)], [(11, none)], [(12, none)], [(64, some 8), (65, some 9), (66, some 10), (67, some 11)], [(68, some 12)], [(63, some 7), (69, some 13)], [(70, some 14)], [(7, none), (71, some 15)], [(11, none), (71, some 15)], [(73, some 17), (71, some 15)], [(74, some 18), (71, some 15)], [(12, none), (71, some 15)], [(75, some 19), (76, some 20), (71, some 15)], [(72, some 16), (77, some 21), (71, some 15)], [(78, some 22), (71, some 15)], [(79, some 23), (71, some 15)], [(0, none), (71, some 15)], [(1, none), (71, some 15)], [(11, none), (71, some 15)], [(12, none), (71, some 15)], [(84, some 28), (71, some 15)], [(81, some 25), (82, some 26), (83, some 27), (85, some 29), (71, some 15)], [(86, some 30), (71, some 15)], [(80, some 24), (87, some 31), (71, some 15)], [(71, some 15), (88, some 32)]] (by kernel_rfl) ?_ ?_ ?_
      · simp only [List.mem_cons, List.not_mem_nil, or_false]
        intro R hR
        rcases hR with rfl | rfl | rfl | rfl | rfl | rfl | rfl | rfl | rfl | rfl | rfl | rfl | rfl | rfl | rfl | rfl | rfl | rfl | rfl | rfl | rfl | rfl | rfl | rfl | rfl | rfl | rfl | rfl | rfl | rfl | rfl | rfl | rfl | rfl <;> first | exact stable_is _ | exact stable_sl _
      · refine steps_cons (fun a w hk hn => ?_) ?_
        · have h7 : a.eval (.tmp 7) = .slice (some ⟨g, o, none⟩) 64 c3 := hn.1
          clear hn
          refine wants_plain rfl ?_
          exact grown_move (.tmp 7) rfl h7
        refine steps_cons (fun a w hk hn => ?_) ?_
        · have h11 : a.eval (.tmp 11) = .int .i64 k := hn.1
          clear hn
          refine wants_plain rfl ?_
          exact grown_move (.tmp 11) rfl h11
        refine steps_cons (fun a w hk hn => ?_) ?_
        · have h57 : a.eval (.tmp 57) = .int .i64 k := hn.1
          clear hn
          refine wants_plain rfl ?_
          refine grown_run (v := .int .i64 (2 * k)) ?_ (Kp.refl _ _) rfl
          obtain ⟨ρ, hρ, hc, hf, hg⟩ := eval_is a
          rw [hρ] at h57 ⊢
          simp [go_sem, hc, h57]
          exact wrap_at (by omega) (by omega) (by omega)
        refine steps_cons (fun a w hk hn => ?_) ?_
        · have h12 : a.eval (.tmp 12) = .int .i64 t := hn.1
          clear hn
          refine wants_plain rfl ?_
          exact grown_move (.tmp 12) rfl h12
        refine steps_cons (fun a w hk hn => ?_) ?_
        · have h58 : a.eval (.tmp 58) = .int .i64 (2 * k) := hn.1
          have h59 : a.eval (.tmp 59) = .int .i64 t := hn.2.1
          clear hn
          refine wants_plain rfl ?_
          refine grown_run (v := .int .i64 p) ?_ (Kp.refl _ _) rfl
          obtain ⟨ρ, hρ, hc, hf, hg⟩ := eval_is a
          rw [hρ] at h58 h59 ⊢
          simp [go_sem, h58, h59]
          exact wrap_at (by omega) (by omega) (by omega)
        refine steps_cons (fun a w hk hn => ?_) ?_
        · have h56 : a.eval (.tmp 56) = .slice (some ⟨g, o, none⟩) 64 c3 := hn.1
          have h60 : a.eval (.tmp 60) = .int .i64 p := hn.2.1
          clear hn
          refine wants_plain rfl ?_
          refine grown_run (v := .pointer (some ⟨g, o + p, none⟩)) ?_ (Kp.refl _ _) rfl
          obtain ⟨ρ, hρ, hc, hf, hg⟩ := eval_is a
          rw [hρ] at h56 h60 ⊢
          simp [go_sem, h56, h60, hp64]
        refine steps_cons (fun a w hk hn => ?_) ?_
        · have h61 : a.eval (.tmp 61) = .pointer (some ⟨g, o + p, none⟩) := hn.1
          clear hn
          refine wants_plain rfl ?_
          refine grown_run (v := .slice ax nx cx) ?_ (Kp.refl _ _) rfl
          have hcell := CXc w hk
          obtain ⟨ρ, hρ, hc, hf, hg⟩ := eval_is a
          rw [hρ] at h61 ⊢
          simp [go_sem, h61, hcell]
        refine steps_cons (fun a w hk hn => ?_) ?_
        · have h62 : a.eval (.tmp 62) = .slice ax nx cx := hn.1
          clear hn
          refine wants_plain rfl ?_
          exact grown_conv (.tmp 62) _ _ 5 (r1) rfl (by rw [h62]; exact CXs w hk) Tryd.underlying22 Tryd.underlying5 Tryd.underlying9 (congrArg Value.string (unhide HS1).symm)
        refine steps_cons (fun a w hk hn => ?_) ?_
        · have h0 : a.eval (.tmp 0) = .slice ab n cb := hn.1
          clear hn
          refine wants_plain rfl ?_
          exact grown_move (.tmp 0) rfl h0
        refine steps_cons (fun a w hk hn => ?_) ?_
        · have h1 : a.eval (.tmp 1) = .int .i64 key := hn.1
          clear hn
          refine wants_plain rfl ?_
          exact grown_move (.tmp 1) rfl h1
        refine steps_cons (fun a w hk hn => ?_) ?_
        · have h11 : a.eval (.tmp 11) = .int .i64 k := hn.1
          clear hn
          refine wants_plain rfl ?_
          exact grown_move (.tmp 11) rfl h11
        refine steps_cons (fun a w hk hn => ?_) ?_
        · have h12 : a.eval (.tmp 12) = .int .i64 t := hn.1
          clear hn
          refine wants_plain rfl ?_
          exact grown_move (.tmp 12) rfl h12
        refine steps_cons (fun a w hk hn => ?_) ?_
        · have h64 : a.eval (.tmp 64) = .slice ab n cb := hn.1
          have h65 : a.eval (.tmp 65) = .int .i64 key := hn.2.1
          have h66 : a.eval (.tmp 66) = .int .i64 k := hn.2.2.1
          have h67 : a.eval (.tmp 67) = .int .i64 t := hn.2.2.2.1
          clear hn
          refine wants_plain rfl ?_
          refine grown_call (f := 16) rfl Tryd.func16 (by kernel_rfl) (by kernel_rfl) ?_
          simp only [List.map_toArray, List.map_cons, List.map_nil, h64, h65, h66, h67]
          refine (secret_any _ bs key k t r1 (unhide HR1) w (SLB w hk) (unhide HBb) (by omega) (GL w hk)).mono ?_
          rintro e w' ⟨ao, m, c, rfl, R, K⟩
          exact ⟨_, rfl, K, R.sl⟩
        refine steps_cons (fun a w hk hn => ?_) ?_
        · have h68 : Sl w (a.eval (.tmp 68)) (r1) := hn.1
          clear hn
          refine wants_plain rfl ?_
          exact grown_conv (.tmp 68) _ _ 5 _ rfl h68 Tryd.underlying22 Tryd.underlying5 Tryd.underlying9 (congrArg Value.string (unhide HS1).symm)
        refine steps_cons (fun a w hk hn => ?_) ?_
        · have h63 : a.eval (.tmp 63) = .string S1 := hn.1
          have h69 : a.eval (.tmp 69) = .string S1 := hn.2.1
          clear hn
          refine wants_plain rfl ?_
          refine grown_run (v := .bool false) ?_ (Kp.refl _ _) rfl
          obtain ⟨ρ, hρ, hc, hf, hg⟩ := eval_is a
          rw [hρ] at h63 h69 ⊢
          simp [go_sem, h63, h69]
        refine steps_cons (fun a w hk hn => ?_) ?_
        · have h70 : a.eval (.tmp 70) = .bool false := hn.1
          clear hn
          refine wants_plain rfl ?_
          exact grown_move (.tmp 70) rfl h70
        refine steps_cons (fun a w hk hn => ?_) ?_
        · have h7 : a.eval (.tmp 7) = .slice (some ⟨g, o, none⟩) 64 c3 := hn.1
          have h71 : a.eval (.tmp 71) = .bool false := hn.2.1
          clear hn
          refine wants_guard (d := 71) rfl rfl h71 ?_
          exact grown_move (.tmp 7) rfl h7
        refine steps_cons (fun a w hk hn => ?_) ?_
        · have h11 : a.eval (.tmp 11) = .int .i64 k := hn.1
          have h71 : a.eval (.tmp 71) = .bool false := hn.2.1
          clear hn
          refine wants_guard (d := 71) rfl rfl h71 ?_
          exact grown_move (.tmp 11) rfl h11
        refine steps_cons (fun a w hk hn => ?_) ?_
        · have h73 : a.eval (.tmp 73) = .int .i64 k := hn.1
          have h71 : a.eval (.tmp 71) = .bool false := hn.2.1
          clear hn
          refine wants_guard (d := 71) rfl rfl h71 ?_
          refine grown_run (v := .int .i64 (2 * k)) ?_ (Kp.refl _ _) rfl
          obtain ⟨ρ, hρ, hc, hf, hg⟩ := eval_is a
          rw [hρ] at h73 ⊢
          simp [go_sem, hc, h73]
          exact wrap_at (by omega) (by omega) (by omega)
        refine steps_cons (fun a w hk hn => ?_) ?_
        · have h74 : a.eval (.tmp 74) = .int .i64 (2 * k) := hn.1
          have h71 : a.eval (.tmp 71) = .bool false := hn.2.1
          clear hn
          refine wants_guard (d := 71) rfl rfl h71 ?_
          refine grown_run (v := .int .i64 (2 * k + 1)) ?_ (Kp.refl _ _) rfl
          obtain ⟨ρ, hρ, hc, hf, hg⟩ := eval_is a
          rw [hρ] at h74 ⊢
          simp [go_sem, hc, h74]
          exact wrap_at (by omega) (by omega) (by omega)
        refine steps_cons (fun a w hk hn => ?_) ?_
        · have h12 : a.eval (.tmp 12) = .int .i64 t := hn.1
          have h71 : a.eval (.tmp 71) = .bool false := hn.2.1
          clear hn
          refine wants_guard (d := 71) rfl rfl h71 ?_
          exact grown_move (.tmp 12) rfl h12
        refine steps_cons (fun a w hk hn => ?_) ?_
        · have h75 : a.eval (.tmp 75) = .int .i64 (2 * k + 1) := hn.1
          have h76 : a.eval (.tmp 76) = .int .i64 t := hn.2.1
          have h71 : a.eval (.tmp 71) = .bool false := hn.2.2.1
          clear hn
          refine wants_guard (d := 71) rfl rfl h71 ?_
          refine grown_run (v := .int .i64 q) ?_ (Kp.refl _ _) rfl
          obtain ⟨ρ, hρ, hc, hf, hg⟩ := eval_is a
          rw [hρ] at h75 h76 ⊢
          simp [go_sem, h75, h76]
          exact wrap_at (by omega) (by omega) (by omega)
        refine steps_cons (fun a w hk hn => ?_) ?_
        · have h72 : a.eval (.tmp 72) = .slice (some ⟨g, o, none⟩) 64 c3 := hn.1
          have h77 : a.eval (.tmp 77) = .int .i64 q := hn.2.1
          have h71 : a.eval (.tmp 71) = .bool false := hn.2.2.1
          clear hn
          refine wants_guard (d := 71) rfl rfl h71 ?_
          refine grown_run (v := .pointer (some ⟨g, o + q, none⟩)) ?_ (Kp.refl _ _) rfl
          obtain ⟨ρ, hρ, hc, hf, hg⟩ := eval_is a
          rw [hρ] at h72 h77 ⊢
          simp [go_sem, h72, h77, hq64]
        refine steps_cons (fun a w hk hn => ?_) ?_
        · have h78 : a.eval (.tmp 78) = .pointer (some ⟨g, o + q, none⟩) := hn.1
          have h71 : a.eval (.tmp 71) = .bool false := hn.2.1
          clear hn
          refine wants_guard (d := 71) rfl rfl h71 ?_
          refine grown_run (v := .slice ay ny cy) ?_ (Kp.refl _ _) rfl
          have hcell := CYc w hk
          obtain ⟨ρ, hρ, hc, hf, hg⟩ := eval_is a
          rw [hρ] at h78 ⊢
          simp [go_sem, h78, hcell]
        refine steps_cons (fun a w hk hn => ?_) ?_
        · have h79 : a.eval (.tmp 79) = .slice ay ny cy := hn.1
          have h71 : a.eval (.tmp 71) = .bool false := hn.2.1
          clear hn
          refine wants_guard (d := 71) rfl rfl h71 ?_
          exact grown_conv (.tmp 79) _ _ 5 (r2) rfl (by rw [h79]; exact CYs w hk) Tryd.underlying22 Tryd.underlying5 Tryd.underlying9 (congrArg Value.string (unhide HS2).symm)
        refine steps_cons (fun a w hk hn => ?_) ?_
        · have h0 : a.eval (.tmp 0) = .slice ab n cb := hn.1
          have h71 : a.eval (.tmp 71) = .bool false := hn.2.1
          clear hn
          refine wants_guard (d := 71) rfl rfl h71 ?_
          exact grown_move (.tmp 0) rfl h0
        refine steps_cons (fun a w hk hn => ?_) ?_
        · have h1 : a.eval (.tmp 1) = .int .i64 key := hn.1
          have h71 : a.eval (.tmp 71) = .bool false := hn.2.1
          clear hn
          refine wants_guard (d := 71) rfl rfl h71 ?_
          exact grown_move (.tmp 1) rfl h1
        refine steps_cons (fun a w hk hn => ?_) ?_
        · have h11 : a.eval (.tmp 11) = .int .i64 k := hn.1
          have h71 : a.eval (.tmp 71) = .bool false := hn.2.1
          clear hn
          refine wants_guard (d := 71) rfl rfl h71 ?_
          exact grown_move (.tmp 11) rfl h11
        refine steps_cons (fun a w hk hn => ?_) ?_
        · have h12 : a.eval (.tmp 12) = .int .i64 t := hn.1
          have h71 : a.eval (.tmp 71) = .bool false := hn.2.1
          clear hn
          refine wants_guard (d := 71) rfl rfl h71 ?_
          exact grown_move (.tmp 12) rfl h12
        refine steps_cons (fun a w hk hn => ?_) ?_
        · have h84 : a.eval (.tmp 84) = .int .i64 t := hn.1
          have h71 : a.eval (.tmp 71) = .bool false := hn.2.1
          clear hn
          refine wants_guard (d := 71) rfl rfl h71 ?_
          refine grown_run (v := .int .i64 u) ?_ (Kp.refl _ _) rfl
          obtain ⟨ρ, hρ, hc, hf, hg⟩ := eval_is a
          rw [hρ] at h84 ⊢
          simp [go_sem, hc, h84]
          exact wrap_at (by omega) (by omega) (by omega)
        refine steps_cons (fun a w hk hn => ?_) ?_
        · have h81 : a.eval (.tmp 81) = .slice ab n cb := hn.1
          have h82 : a.eval (.tmp 82) = .int .i64 key := hn.2.1
          have h83 : a.eval (.tmp 83) = .int .i64 k := hn.2.2.1
          have h85 : a.eval (.tmp 85) = .int .i64 u := hn.2.2.2.1
          have h71 : a.eval (.tmp 71) = .bool false := hn.2.2.2.2.1
          clear hn
          refine wants_guard (d := 71) rfl rfl h71 ?_
          refine grown_call (f := 18) rfl Tryd.func18 (by kernel_rfl) (by kernel_rfl) ?_
          simp only [List.map_toArray, List.map_cons, List.map_nil, h81, h82, h83, h85]
          refine (shown_any _ bs key k u r2 (unhide HR2) w (SLB w hk) (unhide HBb) (by omega) (GL w hk)).mono ?_
          rintro e w' ⟨ao, m, c, rfl, R, K⟩
          exact ⟨_, rfl, K, R.sl⟩
        refine steps_cons (fun a w hk hn => ?_) ?_
        · have h86 : Sl w (a.eval (.tmp 86)) (r2) := hn.1
          have h71 : a.eval (.tmp 71) = .bool false := hn.2.1
          clear hn
          refine wants_guard (d := 71) rfl rfl h71 ?_
          exact grown_conv (.tmp 86) _ _ 5 _ rfl h86 Tryd.underlying22 Tryd.underlying5 Tryd.underlying9 (congrArg Value.string (unhide HS2).symm)
        refine steps_cons (fun a w hk hn => ?_) ?_
        · have h80 : a.eval (.tmp 80) = .string S2 := hn.1
          have h87 : a.eval (.tmp 87) = .string S2 := hn.2.1
          have h71 : a.eval (.tmp 71) = .bool false := hn.2.2.1
          clear hn
          refine wants_guard (d := 71) rfl rfl h71 ?_
          refine grown_run (v := .bool false) ?_ (Kp.refl _ _) rfl
          obtain ⟨ρ, hρ, hc, hf, hg⟩ := eval_is a
          rw [hρ] at h80 h87 ⊢
          simp [go_sem, h80, h87]
        refine steps_cons (fun a w hk hn => ?_) ?_
        · have h71 : a.eval (.tmp 71) = .bool false := hn.1
          have h88 : a.eval (.tmp 88) = .bool false := hn.2.1
          clear hn
          refine wants_plain rfl ?_
          exact grown_pick _ _ _ false rfl h71 h88
        exact trivial
      intro W2 hkW2
      rintro _ rfl
      rintro _ rfl
      rintro _ rfl
      rintro _ rfl
      rintro _ rfl
      rintro _ rfl
      rintro _ rfl
      rintro _ rfl
      rintro _ rfl
      rintro _ rfl
      rintro _ rfl
      rintro _ rfl
      intro v68 h68
      rintro _ rfl
      rintro _ rfl
      rintro _ rfl
      rintro _ rfl
      rintro _ rfl
      rintro _ rfl
      rintro _ rfl
      rintro _ rfl
      rintro _ rfl
      rintro _ rfl
      rintro _ rfl
      rintro _ rfl
      rintro _ rfl
      rintro _ rfl
      rintro _ rfl
      rintro _ rfl
      rintro _ rfl
      intro v86 h86
      rintro _ rfl
      rintro _ rfl
      rintro _ rfl
      refine fin_nil ?_
      simp only [Act.put, List.set_cons_zero, List.set_cons_succ, List.setIfInBounds_toArray]
      clear CXc CXs CYc CYs SLB GL
      go_wp2_with fail
      go_roundw
      case rel => exact ⟨k + 1, by omega, by go_num, (unhide HKr).trans ((kp_drew wr).trans hkW2)⟩
      case measure => simp [intOf]; omega
    · obtain rfl : k = 32 := by omega
      go_wp2_with fail
      refine (known_any wr ((unhide HG).kept ((unhide HK6).trans (unhide HKr)) (by simp))).mono ?_
      rintro ee w7 ⟨rfl, K7⟩
      go_wp2_with fail
      go_ret
      exact ⟨rfl, ((unhide HK6).trans ((unhide HKr).trans K7)).below (Nat.le_refl _) (by simp)⟩
set_option maxRecDepth 100000 in
theorem lifted (os : Os) (started : os.Started) (H : Type) (enc : TypeId × Value → H) :
    ReturnsInHanded {} Tryd.checked os 6 .any (fun w args => (Rows.onceBackSpec.pre enc Tryd.prog Tryd.f6 [] false w args ∧ laidMetH Tryd.prog laid1 w) ∧ sizedMet enc Tryd.prog Tryd.f6 (OpenSpec.ofChange Rows.onceBackSpec) false w args) (Rows.onceBackSpec.post enc Tryd.prog Tryd.f6 false true false false) := by
  refine returnsInHanded_of_change_and (C := Tryd.checked) (X := fun w _ => laidMetH Tryd.prog laid1 w) (fun _ _ _ hh h => h.of_heap hh) own started (by kernel_rfl) Tryd.func6
    (ChangeSpec.witness_shaped (enc := enc) (C := Tryd.checked) (os := os) (X := fun w _ => laidMetH Tryd.prog laid1 w) false (World.doorLaid Tryd.prog 400 os) #[.slice none 0 0, .int .i64 0, .slice none 0 0] 8 rfl (World.shaped_of_RefB (by kernel_rfl) (by kernel_rfl)) (by kernel_rfl) (by kernel_rfl) (by kernel_rfl) (door_met os _)) ?_
  intro W base args ds gs before hval0 hW hcnd hsz0 hL _
  have hG := gl_of_laid hL
  have hval : ∀ (j : Nat) t v, Tryd.f6.params[j]? = some t → args[j]? = some v → Value.okWide Tryd.prog W .any base t v := hval0
  have hW' := hW
  obtain ⟨p, q, hA0, hV, rfl, hfz, hnd⟩ := hW
  have hA : DataW.TrodAll enc Tryd.prog W 0 (fun _ => true) true Tryd.f6.params.toList args.toList ds p := hA0
  rw [Tryd.params6] at hA hval
  obtain ⟨v0, vs0, d0, ds0, p0, q0, hargs, rfl, rfl, h0, r0⟩ := trodAll_cons hA
  obtain ⟨v1, vs1, d1, ds1, p1, q1, rfl, rfl, rfl, h1, r1⟩ := trodAll_cons r0
  obtain ⟨v2, vs2, d2, ds2, p2, q2, rfl, rfl, rfl, h2, r2⟩ := trodAll_cons r1
  obtain ⟨rfl, rfl, rfl⟩ := trodAll_nil r2
  obtain rfl : args = #[v0, v1, v2] := by cases args; simp_all
  obtain ⟨rfl, rfl⟩ := trodVars_none hV
  obtain ⟨a0, len0, cap0, rfl⟩ := okWide_slice Tryd.underlying22 (hval 0 22 v0 rfl rfl)
  have k0 := h0
  have lt0 : ∀ x ∈ p0, x.block < W.heap.size := by obtain ⟨m, hm⟩ := k0; exact DataW.trod_lt m _ _ _ hm
  obtain ⟨l0, s0, b0⟩ : ∃ bs, Sl W (.slice a0 len0 cap0) bs ∧ Bs bs := by
    obtain ⟨fuel, hf⟩ := h0
    exact bytes_of_trod (by simpa [Value.cells] using hf)
  obtain ⟨a1, rfl, rfl, rfl, w1⟩ := open_int Tryd.underlying3 (hval 1 3 v1 rfl rfl) h1
  obtain ⟨a2, len2, cap2, rfl⟩ := okWide_slice Tryd.underlying22 (hval 2 22 v2 rfl rfl)
  have k2 := h2
  have lt2 : ∀ x ∈ p2, x.block < W.heap.size := by obtain ⟨m, hm⟩ := k2; exact DataW.trod_lt m _ _ _ hm
  obtain ⟨l2, s2, b2⟩ : ∃ bs, Sl W (.slice a2 len2 cap2) bs ∧ Bs bs := by
    obtain ⟨fuel, hf⟩ := h2
    exact bytes_of_trod (by simpa [Value.cells] using hf)
  clear hA0 hval0
  refine (walk (.slice a0 len0 cap0) l0 a1 (.slice a2 len2 cap2) l2 W hG s0 b0 (bounds_i64 w1) s2 b2).mono fun e W' ⟨he, bel⟩ => ?_
  subst he
  exact ⟨_, rfl, _, _, _, [], _, [], hW', trodAll_mk1 (shut_bool Tryd.underlying4 _), (trodAll_cons_mk (Below.trod laidOut (by kernel_rfl) (of_decide_eq_true (by kernel_rfl)) k0 bel lt0) (trodAll_cons_mk (shut_int Tryd.underlying3 w1) (trodAll_cons_mk (Below.trod laidOut (by kernel_rfl) (of_decide_eq_true (by kernel_rfl)) k2 bel lt2) trodAll_mk0))), rfl, bel.frame _, fun h => by cases h⟩

theorem over : Rows.onceBackRow.holds Tryd.pinned (OpenSpec.ofChange Rows.onceBackSpec) :=
  OpenClaim.holds_of_wide 6 Tryd.f6 rfl rfl rfl rfl rfl rfl rfl ⟨rfl, rfl, rfl, rfl, rfl⟩ rfl rfl rfl rfl rfl (by kernel_rfl) Tryd.func6 (by kernel_rfl)
    (of_decide_eq_true (by kernel_rfl)) (by unfold Func.isWrapper; first | (rw [if_pos (by decide +kernel)]; kernel_rfl) | (rw [if_neg (by decide +kernel)]; exact ⟨rfl, rfl⟩))
    (fun os started H enc _ => lifted os started H enc)
end Go.Proofs.YtacfciimialobaaDoor.onceBack

namespace Go.Proofs.YtacfciimialobaaDoor
/-- The given statement: the tied card. -/
theorem OnceBack_holds : Rows.OnceBackCardSaid :=
  Claim7.holds_tied_plain_at .later [] [.data] true Rows.onceBackCard.stood.harness false
    onceBack.over (fun _ h => by cases h) (by kernel_rfl) (fun _ h => by cases h) onceBack_row_tie rfl ⟨rfl, rfl⟩ (by kernel_rfl) rfl
    (fun f fn hf hfn => by
      obtain rfl : f = 6 := Option.some.inj ((show Tryd.prog.funcNamed "broadsheet/broadsheetlaw4.OnceBack" = some 6 by kernel_rfl).symm.trans hf) |>.symm
      obtain rfl : fn = Tryd.f6 := (Option.some.inj (Tryd.func6.symm.trans hfn)).symm
      exact ⟨by kernel_rfl, fun j t ht => by
        rw [Tryd.params6] at ht
        have hm : t ∈ ([22, 3, 22] : List TypeId) := by simpa using Array.mem_of_getElem? ht
        have hall : (([22, 3, 22] : List TypeId).all fun u => !Tryd.prog.wantsStandIn u) = true := by kernel_rfl
        exact (show Tryd.prog.wantsStandIn t = false by simpa using List.all_eq_true.1 hall t hm)⟩)
    (by kernel_rfl)
#print axioms OnceBack_holds
end Go.Proofs.YtacfciimialobaaDoor
