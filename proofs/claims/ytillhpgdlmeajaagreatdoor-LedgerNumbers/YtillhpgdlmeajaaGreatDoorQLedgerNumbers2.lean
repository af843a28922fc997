/-
  The statement LedgerNumbersCardSaid: the law function LedgerNumbers, which has no arguments, returns true; the table hash.roundWords starts as the program's text lays it (tied). No other condition.
-/
import Derived.ArgAppend
import Derived.Deep.RegionHeld3
import Derived.Deep.Upon
import Derived.SevenTiedAt
import Derived.Test.YtillhpgdlmeajaaGreatDoorCards
import Derived.Test.YtillhpgdlmeajaaGreatDoorTie
import Derived.Test.YtillhpgdlmeajaaGreatDoorQB1
import Derived.Test.YtillhpgdlmeajaaGreatDoorQB3
import Derived.Test.YtillhpgdlmeajaaGreatDoorQB2
import Derived.Test.YtillhpgdlmeajaaGreatDoorQB4
import Derived.Test.YtillhpgdlmeajaaGreatDoorQLedgerNumbers1
import Derived.Test.YtillhpgdlmeajaaGreatDoorQB5
import Derived.Test.YtillhpgdlmeajaaGreatDoorQB6
import Derived.Test.YtillhpgdlmeajaaGreatDoorQB7
namespace Go.Proofs.YtillhpgdlmeajaaGreatDoor.ledgerNumbers
open Go.ChangeShapes Go.WideShapes Go.ChangeAt Go.RowKit
open Go.Proofs.YtillhpgdlmeajaaGreatDoor
set_option linter.unusedVariables false
def AnyT : Tell := fun _ _ => True
theorem bsD : Bs (recP [0, 0, 0, 0]) := recP_bs (fun b hb => by simp at hb; omega)
theorem bs11 (x y : Int) (hx : 0 ≤ x ∧ x ≤ 255) (hy : 0 ≤ y ∧ y ≤ 255) : Bs (batU [[x], [y]]) := batU_bs (fun z hz => by
  rcases (by simpa using hz : z = [x] ∨ z = [y]) with rfl | rfl
  · exact bs1 x hx
  · exact bs1 y hy)
theorem bsO (x : Int) (hx : 0 ≤ x ∧ x ≤ 255) : Bs (batU [[x]]) := batU_bs (fun z hz => by
  obtain rfl : z = [x] := by simpa using hz
  exact bs1 x hx)
theorem bs_app {a b : List Int} (ha : Bs a) (hb : Bs b) : Bs (a ++ b) := fun x hx => (List.mem_append.1 hx).elim (ha x) (hb x)
set_option maxRecDepth 100000 in
set_option maxHeartbeats 16000000 in
theorem walk (w : World) (hG : Gl w) :
    Calls Tryz.prog 3 #[] w fun e w' => e = .returned (.bool true) ∧ Below w.heap.size w w' := by
  have HG := hide hG
  have HX := hide (xseed_any 0 w)
  clear hG
  go_enter Tryz.func3, Tryz.ntmps3
  go_wp2_with fail
  refine HX.out.mono ?_
  rintro ee w1 ⟨as_, ms, cs, rfl, R1, K1⟩
  have hms : ms = 32 := by rw [R1.len]; exact seedX_len 0
  subst hms
  obtain ⟨gs, hgs, hgs0, hgs1, -, -, -⟩ := R1.spot (by omega)
  subst hgs
  have hcs : 32 ≤ cs := by
    obtain ⟨ao, c, e, h1, h2, -⟩ := R1.sl
    injection e with e1 e2 e3
    have := seedX_len 0
    omega
  have HK1 := hide K1
  have HSd : Hid (∀ w', Kp [] w1 w' → Sl w' (.slice (some ⟨gs, 0, none⟩) 32 cs) (seedX 0)) := hide (fun w' k => R1.sl.kept k (by simp))
  have HGs : Hid (gs < w1.heap.size) := hide hgs1
  have HF2 := hide (fresh_any w1)
  clear HX R1 K1 hgs0 hgs1
  go_wp2_with fail
  refine HF2.out.mono ?_
  rintro ee w2 ⟨p2, rfl, N2⟩
  have HO := hide (uopen_nild (.slice (some ⟨gs, 0, none⟩) 32 cs) (seedX 0) (HSd.out w2 N2.kp) (seedX_len 0) (w0 := w1) (pk := p2) (dk := dkOn []) ⟨_, N2, fun _ _ => trivial⟩ rfl (Int.le_refl 0) (b := []) rfl (Nat.zero_le 16) (klay_opn 0))
  clear HF2 N2
  go_wp2_with fail
  refine HO.out.mono ?_
  rintro ee w3 ⟨rfl, K3⟩
  have HK3 := hide K3
  have HF2 := hide (fresh_any w3)
  clear HO K3
  go_wp2_with fail
  refine HF2.out.mono ?_
  rintro ee w4 ⟨p4, rfl, N4⟩
  have HK4 := hide (HK3.out.trans N4.kp)
  have HO := hide (uopen_nilk (.pointer (some ⟨p4, 0, none⟩)) (.slice (some ⟨gs, 0, none⟩) 32 cs) (seedX 0) w4 (HSd.out w4 HK4.out) (seedX_len 0))
  clear HF2 N4 HK3
  go_wp2_with fail
  refine HO.out.mono ?_
  rintro ee w5 ⟨rfl, hw5⟩
  subst w5
  clear HO
  obtain ⟨S31, hS31⟩ : ∃ s, s = (seedX 0).take 31 := ⟨_, rfl⟩
  have HS31 : Hid (∀ w', Kp [] w4.drew w' → Sl w' (.slice (some ⟨gs, 0, none⟩) 31 cs) S31) := hide (fun w' k => by rw [hS31]; exact (HSd.out w' (HK4.out.trans ((kp_drew w4).trans k))).take 31 (by rw [seedX_len]; omega))
  have HS31l : Hid (S31.length ≠ 32) := hide (by rw [hS31, List.length_take, seedX_len]; omega)
  have HCs2 : Hid ((31 : Int) ≤ (cs : Int)) := hide (by omega)
  clear hS31
  go_wp2_with fail
  refine region_grow Tryz.mixed [AnyT, AnyT, Is (.slice (some ⟨gs, 0, none⟩) 32 cs), Is (.slice (some ⟨gs, 0, none⟩) 31 cs), Is (.tuple #[.pointer none, .int .i64 1]), Is (.tuple #[.pointer none, .int .i64 1]), Is (.pointer none), Is (.int .i64 1), Is (.pointer none), Is (.int .i64 1)] [[], [], [(1, none)], [(50, some 2)], [(48, some 0), (49, some 1), (51, some 3)], [(52, some 4)], [(47, some 5)], [(47, some 5)], [(53, some 6)], [(54, some 7)]] (by kernel_rfl) ?_ ?_ ?_
  · simp only [List.mem_cons, List.not_mem_nil, or_false]
    intro R hR
    rcases hR with rfl | rfl | rfl | rfl | rfl | rfl | rfl | rfl | rfl | rfl <;> first | exact (fun _ _ _ _ h => h) | exact stable_is _
  · refine steps_cons (fun a w hk hn => ?_) ?_
    · clear hn
      refine wants_plain rfl ?_
      refine grown_call (f := 11) rfl Tryz.func11 (by kernel_rfl) (by kernel_rfl) ?_
      simp only [List.map_toArray, List.map_nil]
      refine (fresh_any w).mono ?_
      rintro e w' ⟨p, rfl, N⟩
      exact ⟨_, rfl, N.kp, trivial⟩
    refine steps_cons (fun a w hk hn => ?_) ?_
    · clear hn
      refine wants_plain rfl ?_
      refine grown_call (f := 11) rfl Tryz.func11 (by kernel_rfl) (by kernel_rfl) ?_
      simp only [List.map_toArray, List.map_nil]
      refine (fresh_any w).mono ?_
      rintro e w' ⟨p, rfl, N⟩
      exact ⟨_, rfl, N.kp, trivial⟩
    refine steps_cons (fun a w hk hn => ?_) ?_
    · have h1 : a.eval (.tmp 1) = .slice (some ⟨gs, 0, none⟩) 32 cs := hn.1
      clear hn
      refine wants_plain rfl ?_
      exact grown_move (.tmp 1) rfl h1
    refine steps_cons (fun a w hk hn => ?_) ?_
    · have h50 : a.eval (.tmp 50) = .slice (some ⟨gs, 0, none⟩) 32 cs := hn.1
      clear hn
      refine wants_plain rfl ?_
      refine grown_run (v := .slice (some ⟨gs, 0, none⟩) 31 cs) ?_ (Kp.refl _ _) rfl
      obtain ⟨ρ, hρ, hc, hf, hg⟩ := eval_is a
      rw [hρ] at h50 ⊢
      simp [go_sem, h50, hc, Tryz.underlying22, HCs2.out]
    refine steps_cons (fun a w hk hn => ?_) ?_
    · have h48 : (AnyT) (a.eval (.tmp 48)) w := hn.1
      have h49 : (AnyT) (a.eval (.tmp 49)) w := hn.2.1
      have h51 : a.eval (.tmp 51) = .slice (some ⟨gs, 0, none⟩) 31 cs := hn.2.2.1
      clear hn
      refine wants_plain rfl ?_
      refine grown_call (f := 10) rfl Tryz.func10 (by kernel_rfl) (by kernel_rfl) ?_
      simp only [List.map_toArray, List.map_cons, List.map_nil, h51]
      refine (uopen_arg _ _ (.slice (some ⟨gs, 0, none⟩) 31 cs) S31 w (HS31.out w hk) HS31l.out).mono ?_
      rintro e w' ⟨rfl, rfl⟩
      exact ⟨_, rfl, Kp.refl _ _, rfl⟩
    refine steps_cons (fun a w hk hn => ?_) ?_
    · have h52 : a.eval (.tmp 52) = .tuple #[.pointer none, .int .i64 1] := hn.1
      clear hn
      refine wants_plain rfl ?_
      exact grown_move (.tmp 52) rfl h52
    refine steps_cons (fun a w hk hn => ?_) ?_
    · have h47 : a.eval (.tmp 47) = .tuple #[.pointer none, .int .i64 1] := hn.1
      clear hn
      refine wants_plain rfl ?_
      refine grown_run (v := .pointer none) ?_ (Kp.refl _ _) rfl
      obtain ⟨ρ, hρ, hc, hf, hg⟩ := eval_is a
      rw [hρ] at h47 ⊢
      simp [go_sem, h47]
    refine steps_cons (fun a w hk hn => ?_) ?_
    · have h47 : a.eval (.tmp 47) = .tuple #[.pointer none, .int .i64 1] := hn.1
      clear hn
      refine wants_plain rfl ?_
      refine grown_run (v := .int .i64 1) ?_ (Kp.refl _ _) rfl
      obtain ⟨ρ, hρ, hc, hf, hg⟩ := eval_is a
      rw [hρ] at h47 ⊢
      simp [go_sem, h47]
    refine steps_cons (fun a w hk hn => ?_) ?_
    · have h53 : a.eval (.tmp 53) = .pointer none := hn.1
      clear hn
      refine wants_plain rfl ?_
      exact grown_assign (.tmp 53) rfl h53
    refine steps_cons (fun a w hk hn => ?_) ?_
    · have h54 : a.eval (.tmp 54) = .int .i64 1 := hn.1
      clear hn
      refine wants_plain rfl ?_
      exact grown_assign (.tmp 54) rfl h54
    exact trivial
  intro W1 hkW1
  intro v48 h48
  intro v49 h49
  rintro _ rfl
  rintro _ rfl
  rintro _ rfl
  rintro _ rfl
  rintro _ rfl
  rintro _ rfl
  rintro _ rfl
  rintro _ rfl
  refine fin_nil ?_
  simp only [Act.put, List.set_cons_zero, List.set_cons_succ, List.setIfInBounds_toArray]
  have HK := hide (HK4.out.trans ((kp_drew w4).trans hkW1))
  clear hkW1 HK4
  have HRc := hide (record_any (.slice (some ⟨W1.heap.size, 0, none⟩) 4 4) [0, 0, 0, 0] (W1.alloc (.cells #[.int .u8 0, .int .u8 0, .int .u8 0, .int .u8 0] 5)) (lit_sl W1 [0, 0, 0, 0] 4 (0, 0) rfl (by omega)) (by simp))
  go_wp2_with fail
  refine HRc.out.mono ?_
  rintro ee w6 ⟨aR, mR, cR, rfl, RR_, KR⟩
  have HRR := hide RR_
  have HKR : Hid (Kp [] W1 w6) := hide (((Kp.refl [] W1).alloc _).trans KR)
  clear HRc RR_ KR
  have hbl : (recP [0, 0, 0, 0]).length ≤ 1000 := by decide +kernel
  have HOn := hide (uon_any (.slice aR mR cR) (recP [0, 0, 0, 0]) w6 HRR.out.sl bsD (by omega))
  go_wp2_with fail
  refine HOn.out.mono ?_
  rintro ee w7 ⟨pd, v1, rfl, N1⟩
  have HN1 := hide N1
  have HF2 := hide (fresh_any w7)
  clear HOn N1
  go_wp2_with fail
  refine HF2.out.mono ?_
  rintro ee w8 ⟨pk, rfl, N2⟩
  obtain ⟨ok2, d2, k2⟩ := two_ok HN1.out N2
  have HO := hide (uopen_bad (.slice (some ⟨gs, 0, none⟩) 32 cs) (seedX 0) (HSd.out w8 ((HK.out.trans HKR.out).trans (HN1.out.kp.trans N2.kp))) (seedX_len 0) ok2 d2 rfl (Int.le_refl 0) k2 rfl (Int.le_refl 0) rfl (Nat.zero_le _) (klay_opn 0) (bd := recP [0, 0, 0, 0]) rfl bsD (by omega) badD)
  clear HF2 N2 HN1 ok2 d2 k2 hbl
  go_wp2_with fail
  refine HO.out.mono ?_
  rintro ee w9 ⟨rfl, K⟩
  have HK_ := hide ((HK.out.trans HKR.out).trans K)
  clear HO K HK
  have HK := HK_
  clear HK_
  clear HRR HKR
  have HBt := hide (ubatch_any _ _ _ (lists_11 w9 1 1 (by omega) (by omega)) (by simp) (by simp))
  simp only [List.map_cons, List.map_nil] at HBt
  go_wp2_with fail
  refine HBt.out.mono ?_
  rintro ee w10 ⟨aB, mB, cB, rfl, RB, KB⟩
  have HRB := hide (row_new RB ((((Kp.refl [] w9).alloc _).alloc _).alloc _))
  have HKB : Hid (Kp [] w9 w10) := hide (((((Kp.refl [] w9).alloc _).alloc _).alloc _).trans KB)
  clear HBt RB KB
  have HRc := hide (record_any (.slice aB mB cB) (batU [[1], [1]]) w10 HRB.out.sl (by decide +kernel))
  go_wp2_with fail
  refine HRc.out.mono ?_
  rintro ee w11 ⟨aR, mR, cR, rfl, RR_, KR⟩
  have HRR := hide RR_
  have HKR := hide KR
  clear HRc RR_ KR
  have hbl : (recP (batU [[1], [1]])).length ≤ 1000 := by decide +kernel
  have HOn := hide (uon_any (.slice aR mR cR) (recP (batU [[1], [1]])) w11 HRR.out.sl (recP_bs (bs11 1 1 (by omega) (by omega))) (by omega))
  go_wp2_with fail
  refine HOn.out.mono ?_
  rintro ee w12 ⟨pd, v1, rfl, N1⟩
  have HN1 := hide N1
  have HF2 := hide (fresh_any w12)
  clear HOn N1
  go_wp2_with fail
  refine HF2.out.mono ?_
  rintro ee w13 ⟨pk, rfl, N2⟩
  obtain ⟨ok2, d2, k2⟩ := two_ok HN1.out N2
  have HO := hide (uopen_bad (.slice (some ⟨gs, 0, none⟩) 32 cs) (seedX 0) (HSd.out w13 (((HK.out.trans HKB.out).trans HKR.out).trans (HN1.out.kp.trans N2.kp))) (seedX_len 0) ok2 d2 rfl (Int.le_refl 0) k2 rfl (Int.le_refl 0) rfl (Nat.zero_le _) (klay_opn 0) (bd := recP (batU [[1], [1]])) rfl (recP_bs (bs11 1 1 (by omega) (by omega))) (by omega) badE)
  clear HF2 N2 HN1 ok2 d2 k2 hbl
  go_wp2_with fail
  refine HO.out.mono ?_
  rintro ee w14 ⟨rfl, K⟩
  have HK_ := hide (((HK.out.trans HKB.out).trans HKR.out).trans K)
  clear HO K HK
  have HK := HK_
  clear HK_
  clear HRR HKR HRB HKB
  have HBt := hide (ubatch_any _ _ _ (lists_1 w14 1 (by omega)) (by simp) (by simp))
  simp only [List.map_cons, List.map_nil] at HBt
  go_wp2_with fail
  refine HBt.out.mono ?_
  rintro ee w15 ⟨aB, mB, cB, rfl, RB, KB⟩
  have HRB := hide (row_new RB (((Kp.refl [] w14).alloc _).alloc _))
  have HKB : Hid (Kp [] w14 w15) := hide ((((Kp.refl [] w14).alloc _).alloc _).trans KB)
  clear HBt RB KB
  have HRc := hide (record_any (.slice aB mB cB) (batU [[1]]) w15 HRB.out.sl (by decide +kernel))
  go_wp2_with fail
  refine HRc.out.mono ?_
  rintro ee w16 ⟨aR, mR, cR, rfl, RR_, KR⟩
  have HRR := hide RR_
  have HKR := hide KR
  clear HRc RR_ KR
  have HR8 := hide HRR.out
  obtain ⟨a8, m8, c8, e8⟩ : ∃ a m c, Value.slice aR mR cR = .slice a m c := ⟨_, _, _, rfl⟩
  injection e8 with e81 e82 e83
  subst e81 e82 e83
  have HK8 := hide ((HK.out.trans HKB.out).trans HKR.out)
  have HKZ := HKB
  have HKR8 := HKR
  have HB8 : Hid (w15.heap.size ≤ w16.heap.size) := hide HKR.out.size
  clear HRR HKR HRB HKB
  have HBt := hide (ubatch_any _ _ _ (lists_11 w16 2 1 (by omega) (by omega)) (by simp) (by simp))
  simp only [List.map_cons, List.map_nil] at HBt
  go_wp2_with fail
  refine HBt.out.mono ?_
  rintro ee w17 ⟨aB, mB, cB, rfl, RB, KB⟩
  have HRB := hide (row_new RB ((((Kp.refl [] w16).alloc _).alloc _).alloc _))
  have HKB : Hid (Kp [] w16 w17) := hide (((((Kp.refl [] w16).alloc _).alloc _).alloc _).trans KB)
  clear HBt RB KB
  have HRc := hide (record_any (.slice aB mB cB) (batU [[2], [1]]) w17 HRB.out.sl (by decide +kernel))
  go_wp2_with fail
  refine HRc.out.mono ?_
  rintro ee w18 ⟨aR, mR, cR, rfl, RR_, KR⟩
  have HRR := hide RR_
  have HKR := hide KR
  clear HRc RR_ KR
  have HKr := hide (HKB.out.trans HKR.out)
  have HR9 := hide (HR8.out.kept HKr.out (by simp))
  have hs9 := HRR.out.sl
  have hl9 : (recP (batU [[1]])).length + (recP (batU [[2], [1]])).length ≤ 1000 := by decide +kernel
  go_wp2_with (at_builtin; refine wpList_append_row rfl (.tmp 80) (.tmp 85) rfl w15.heap.size _ (recP (batU [[1]])) rfl HR9.out _ (recP (batU [[2], [1]])) rfl hs9 (by omega) (Nat.le_trans HB8.out HKr.out.size) ?_; intro aF mF cF w19 RF SF; refine Hid.out ?_)
  have HRF := hide RF
  have HKF : Hid (Kp [] w1 w19) := hide ((HK.out.trans HKZ.out).trans (SF.kpn (HKR8.out.trans HKr.out) HR9.out))
  clear HRR HKR HRB HKB RF SF hs9 hl9 HR8 HR9 HKr
  refine hide ?_
  have hbl : (recP (batU [[1]]) ++ recP (batU [[2], [1]])).length ≤ 1000 := by decide +kernel
  have HOn := hide (uon_any (.slice aF mF cF) (recP (batU [[1]]) ++ recP (batU [[2], [1]])) w19 HRF.out.sl (bs_app (recP_bs (bsO 1 (by omega))) (recP_bs (bs11 2 1 (by omega) (by omega)))) (by omega))
  go_wp2_with fail
  refine HOn.out.mono ?_
  rintro ee w20 ⟨pd, v1, rfl, N1⟩
  have HN1 := hide N1
  have HF2 := hide (fresh_any w20)
  clear HOn N1
  go_wp2_with fail
  refine HF2.out.mono ?_
  rintro ee w21 ⟨pk, rfl, N2⟩
  obtain ⟨ok2, d2, k2⟩ := two_ok HN1.out N2
  have HO := hide (uopen_bad (.slice (some ⟨gs, 0, none⟩) 32 cs) (seedX 0) (HSd.out w21 ((HKF.out).trans (HN1.out.kp.trans N2.kp))) (seedX_len 0) ok2 d2 rfl (Int.le_refl 0) k2 rfl (Int.le_refl 0) rfl (Nat.zero_le _) (klay_opn 0) (bd := recP (batU [[1]]) ++ recP (batU [[2], [1]])) rfl (bs_app (recP_bs (bsO 1 (by omega))) (recP_bs (bs11 2 1 (by omega) (by omega)))) (by omega) badF)
  clear HF2 N2 HN1 ok2 d2 k2 hbl
  go_wp2_with fail
  refine HO.out.mono ?_
  rintro ee w22 ⟨rfl, K⟩
  have HK_ := hide ((HKF.out).trans K)
  clear HO K HK
  have HK := HK_
  clear HK_
  clear HRF HKF HK8 HB8
  have HBt := hide (ubatch_any _ _ _ (lists_1 w22 1 (by omega)) (by simp) (by simp))
  simp only [List.map_cons, List.map_nil] at HBt
  go_wp2_with fail
  refine HBt.out.mono ?_
  rintro ee w23 ⟨aB, mB, cB, rfl, RB, KB⟩
  have HRB := hide (row_new RB (((Kp.refl [] w22).alloc _).alloc _))
  have HKB : Hid (Kp [] w22 w23) := hide ((((Kp.refl [] w22).alloc _).alloc _).trans KB)
  clear HBt RB KB
  obtain ⟨wz, hwz⟩ : ∃ y, y = w23.alloc (.cells #[.int .u8 0] 5) := ⟨_, rfl⟩
  have Kz : Kp [] w23 wz := by rw [hwz]; exact (Kp.refl [] _).alloc _
  have hsz : Sl wz (.slice (some ⟨w23.heap.size, 0, none⟩) 1 1) [0] := by rw [hwz]; exact lit_sl w23 [0] 1 (0, 0) rfl (by omega)
  have HRz := hide (HRB.out.kept Kz (by simp))
  have HKz := hide Kz
  have hbz : (batU [[1]]).length + 1 ≤ 1000 := by decide +kernel
  rw [hwz] at Kz hsz HRz
  clear hwz
  go_wp2_with (at_builtin; refine wpList_append_row rfl (.tmp 96) (.tmp 97) rfl w22.heap.size _ (batU [[1]]) rfl HRz.out _ [0] rfl hsz (by have h : ([0] : List Int).length = 1 := rfl; omega) (Nat.le_trans HKB.out.size Kz.size) ?_; intro aF mF cF w24 RF SF; refine Hid.out ?_)
  have HRF := hide RF
  have HKF : Hid (Kp [] w22 w24) := hide (SF.kpn (HKB.out.trans Kz) HRz.out)
  clear RF SF Kz hsz hbz HRz HKz HRB HKB
  refine hide ?_
  have HRc := hide (record_any (.slice aF mF cF) (batU [[1]] ++ [0]) w24 HRF.out.sl (by decide +kernel))
  go_wp2_with fail
  refine HRc.out.mono ?_
  rintro ee w25 ⟨aR, mR, cR, rfl, RR_, KR⟩
  have HRR := hide RR_
  have HKR := hide KR
  clear HRc RR_ KR
  have hbl : (recP (batU [[1]] ++ [0])).length ≤ 1000 := by decide +kernel
  have HOn := hide (uon_any (.slice aR mR cR) (recP (batU [[1]] ++ [0])) w25 HRR.out.sl (recP_bs (bs_app (bsO 1 (by omega)) (bs1 0 (by omega)))) (by omega))
  go_wp2_with fail
  refine HOn.out.mono ?_
  rintro ee w26 ⟨pd, v1, rfl, N1⟩
  have HN1 := hide N1
  have HF2 := hide (fresh_any w26)
  clear HOn N1
  go_wp2_with fail
  refine HF2.out.mono ?_
  rintro ee w27 ⟨pk, rfl, N2⟩
  obtain ⟨ok2, d2, k2⟩ := two_ok HN1.out N2
  have HO := hide (uopen_bad (.slice (some ⟨gs, 0, none⟩) 32 cs) (seedX 0) (HSd.out w27 (((HK.out.trans HKF.out).trans HKR.out).trans (HN1.out.kp.trans N2.kp))) (seedX_len 0) ok2 d2 rfl (Int.le_refl 0) k2 rfl (Int.le_refl 0) rfl (Nat.zero_le _) (klay_opn 0) (bd := recP (batU [[1]] ++ [0])) rfl (recP_bs (bs_app (bsO 1 (by omega)) (bs1 0 (by omega)))) (by omega) badG)
  clear HF2 N2 HN1 ok2 d2 k2 hbl
  go_wp2_with fail
  refine HO.out.mono ?_
  rintro ee w28 ⟨rfl, K⟩
  have HK_ := hide (((HK.out.trans HKF.out).trans HKR.out).trans K)
  clear HO K HK
  have HK := HK_
  clear HK_
  clear HRR HKR HRF HKF
  have HF2 := hide (fresh_any w28)
  go_wp2_with fail
  refine HF2.out.mono ?_
  rintro ee w29 ⟨pd, rfl, N1⟩
  have HN1 := hide N1
  have HOn := hide (uon_any (.slice (some ⟨w29.heap.size, 0, none⟩) 8 8) [1, 2, 3, 4, 5, 6, 7, 8] (w29.alloc (.cells #[.int .u8 1, .int .u8 2, .int .u8 3, .int .u8 4, .int .u8 5, .int .u8 6, .int .u8 7, .int .u8 8] 5)) (lit_sl w29 [1, 2, 3, 4, 5, 6, 7, 8] 8 (0, 0) rfl (by omega)) (fun b hb => by simp at hb; omega) (by simp))
  clear HF2 N1
  go_wp2_with fail
  refine HOn.out.mono ?_
  rintro ee w30 ⟨pk, v1, rfl, N2⟩
  have HKa := hide ((HK.out.trans HN1.out.kp).trans ((Kp.refl [] w29).alloc (.cells #[.int .u8 1, .int .u8 2, .int .u8 3, .int .u8 4, .int .u8 5, .int .u8 6, .int .u8 7, .int .u8 8] 5)))
  have HKh := hide (HKa.out.trans N2.kp)
  have HO := hide (uopen_badk (.pointer (some ⟨pd, 0, none⟩)) (.slice (some ⟨gs, 0, none⟩) 32 cs) (seedX 0) (HSd.out w30 HKh.out) (seedX_len 0) ⟨_, N2⟩ rfl (Int.le_refl 0) (b := [1, 2, 3, 4, 5, 6, 7, 8]) rfl badH)
  clear HOn N2 HN1
  go_wp2_with fail
  refine HO.out.mono ?_
  rintro ee w31 ⟨rfl, K⟩
  have HK_ := hide (HKa.out.trans K)
  clear HO K HK HKa HKh
  have HK := HK_
  clear HK_
  go_wp2_with fail
  have HF2 := hide (fresh_any w31)
  refine HF2.out.mono ?_
  rintro ee w32 ⟨pd, rfl, N1⟩
  have HN1 := hide N1
  have HF3 := hide (fresh_any w32)
  clear HF2 N1
  go_wp2_with fail
  refine HF3.out.mono ?_
  rintro ee w33 ⟨pk, rfl, N2⟩
  obtain ⟨ok2, d2, k2⟩ := two_ok HN1.out N2
  have hgB : gs < w31.heap.size := Nat.lt_of_lt_of_le HGs.out HK.out.size
  have HO := hide (uopen_ok (dd' := dkOn []) (.slice (some ⟨gs, 0, none⟩) 32 cs) (seedX 0) (HSd.out w33 (HK.out.trans (HN1.out.kp.trans N2.kp))) (seedX_bs 0) (seedX_len 0) (fun i hi ⟨a, ha⟩ => by
    have h1 := (ok2.rng a i ha).1
    have h2 : gs = i := by simpa [Value.ownBlock] using hi
    omega) ok2 d2 rfl (Int.le_refl 0) k2 rfl (Int.le_refl 0) rfl (Nat.zero_le _) (klay_opn 0) (klay_dk 0) rfl opnP_nil rfl (rs := []) (its := []) rfl (by simp) (by simp) (by simp [lenU]) (by simp))
  clear HF3 N2 HN1 ok2 d2 k2 hgB
  go_wp2_with fail
  refine HO.out.mono ?_
  rintro ee w34 ⟨l, rfl, f, L4, -⟩
  have HL4 : Hid (Lg w31 w34 l pd pk (ls0 (seedX 0)) f) := hide L4
  obtain ⟨wB, hwB⟩ : ∃ y, y = w31 := ⟨_, rfl⟩
  rw [← hwB] at HL4 HK
  clear HO L4 hwB
  go_wp2_with fail
  go_loopw [20, 21] (fun va i wr => ∃ k : Nat, k ≤ 256 ∧ i = .int .i64 k ∧ ∃ aa ca la, va = .slice aa k ca ∧ Hid (Lg wB wr l pd pk (ls0 (seedX 0)) f) ∧ Hid (Al wB wr f.tot (.slice aa k ca) la) ∧ Hid (la.map (·.2) = manyL k)) (fun _ i _ => 256 - (intOf i).toNat)
  case atStart => exact ⟨0, by omega, rfl, none, 0, [], rfl, HL4, hide (al_nil _ _ _), hide rfl⟩
  case round =>
    obtain ⟨k, hk, rfl, aa, ca, la, rfl, HLg, HAl, HLa⟩ := hrel
    clear HL4
    by_cases hlt : k < 256
    · have hlt' : (k : Int) < 256 := by omega
      have h8 : IntKind.u8.wrap (k : Int) = k := by simp [IntKind.wrap, IntKind.signed, IntKind.bits]; omega
      have Ka : Kp [] wr (wr.alloc (.cells #[.int .u8 (k : Int), .int .u8 ((k : Int) / 16)] 5)) := (Kp.refl [] _).alloc _
      have hSx : Sl (wr.alloc (.cells #[.int .u8 (k : Int), .int .u8 ((k : Int) / 16)] 5)) (.slice (some ⟨wr.heap.size, 0, none⟩) 2 2) [(k : Int), (k : Int) / 16] := lit_sl wr [(k : Int), (k : Int) / 16] 2 (0, 0) rfl (by omega)
      have hBx : Bs [(k : Int), (k : Int) / 16] := fun z hz => by
        rcases (by simpa using hz : z = (k : Int) ∨ z = (k : Int) / 16) with rfl | rfl <;> omega
      have HAa := hide (HAl.out.on Ka)
      have HLa2 := hide (HLg.out.on Ka)
      have hla : la.length ≤ 1000 := by
        have h1 := congrArg List.length HLa.out
        rw [List.length_map, manyL_len] at h1
        omega
      have HSx := hide hSx
      have HBx := hide hBx
      have HWb : Hid (wB.heap.size ≤ wr.heap.size) := hide HLg.out.kp.size
      clear Ka hSx hBx
      go_wp2_with (
        at_builtin
        refine wpList_rowsR rfl (.tmp 161) (.tmp 168) rfl (.slice aa k ca) la rfl HAa.out.row (by rw [World.size_alloc]; have := HWb.out; omega) (by omega) (.slice (some ⟨wr.heap.size, 0, none⟩) 2 2) [(k : Int), (k : Int) / 16] HSx.out (fun j h1 h2 => by
          have h3 : wr.heap.size = j := by simpa [Value.ownBlock] using h1
          have := (HAl.out.own j h2).1
          omega) (fun j h1 => by
          have h3 : wr.heap.size = j := by simpa [Value.ownBlock] using h1
          have := HWb.out
          omega) HBx.out (by rw [World.size_alloc]; rfl) ?_
        intro a7 m7 c7 w7 hm7 P7 S7
        have hft : ∀ j, f.tot j → j < wr.heap.size := fun j e => (HLg.out.lt j e).2
        have HA7 := hide (HAa.out.put (x := (.slice (some ⟨wr.heap.size, 0, none⟩) 2 2, [(k : Int), (k : Int) / 16])) (fun j e => by rw [World.size_alloc]; have := hft j e; omega) P7 S7 (fun j h1 => by
          have h3 : wr.heap.size = j := by simpa [Value.ownBlock] using h1
          rw [World.size_alloc]
          exact ⟨by omega, fun e => by have := hft j e; omega⟩))
        have HL7 := hide (HLa2.out.beside S7.1 (fun j hj => by
          have h1 : (Value.slice aa k ca).ownBlock = some j := by simpa [Option.mem_toList] using hj
          exact ⟨HAa.out.row.1.1.own j h1, (HAa.out.own j h1).2⟩))
        have hmk : m7 = k + 1 := by
          have h1 := congrArg List.length HLa.out
          rw [List.length_map, manyL_len] at h1
          omega
        have HMk := hide hmk
        clear P7 S7 hm7 hft hmk)
      go_roundw
      case rel =>
        refine ⟨k + 1, by omega, by go_num, a7, c7, la ++ [(.slice (some ⟨wr.heap.size, 0, none⟩) 2 2, [(k : Int), (k : Int) / 16])], by rw [HMk.out], HL7, ?_, ?_⟩
        · have := HMk.out; subst this; exact HA7
        · refine hide ?_
          rw [List.map_append, HLa.out, manyL_succ]
          rfl
      case measure => simp [intOf]; omega
    · obtain rfl : k = 256 := by omega
      have hlt' : ¬ ((256 : Nat) : Int) < 256 := by omega
      have hlaL : la.length = 256 := by
        have h1 := congrArg List.length HLa.out
        rwa [List.length_map, manyL_len] at h1
      obtain ⟨ML, hML⟩ : ∃ m, m = manyL 256 := ⟨_, rfl⟩
      obtain ⟨M2, hM2⟩ : ∃ m, m = manyL 200 := ⟨_, rfl⟩
      have H200 : Hid (allU [] (ML.take 200) = M2) := hide (by rw [hML, hM2]; exact all200)
      have H257 : Hid ((allU M2 (ML.drop 100 ++ [oneM])).length = 257) := hide (by rw [hML, hM2]; exact all257)
      have H256 : Hid (allU M2 ML = ML) := hide (by rw [hML, hM2]; exact all256)
      have HOne : Hid (∀ x : List Int, x.length ≠ 2 → (allU ML [x]).length = 257) := hide (by rw [hML]; exact fun x hx => all1 hx)
      have HMl : Hid (ML.length = 256) := hide (by rw [hML, manyL_len])
      have HM2l : Hid (M2.length = 200) := hide (by rw [hM2, manyL_len])
      have HTwo : Hid (∀ x ∈ ML, x.length ≤ 2) := hide (by rw [hML]; exact fun x hx => Nat.le_of_eq (manyL_two hx))
      rw [← hML] at HLa
      clear hML hM2
      obtain ⟨ga, hga, -⟩ := HAl.out.row.1.1.at 0 (by rw [List.length_map]; omega)
      subst hga
      have HMm : Hid (LcM ML (.slice (some ⟨ga, 0, none⟩) 256 ca) wr) := hide ⟨la, lc_of_owns HAl.out.row.1.1 (HAl.out.row.lists (by omega)), HLa.out⟩
      have hca : 256 ≤ ca := by
        obtain ⟨ao, c, e, h1, -⟩ := HMm.out.shape
        injection e with e1 e2 e3
        rw [HMl.out] at h1
        omega
      obtain ⟨l2, hl2, he2⟩ := HMm.out.take 200 (by rw [HMl.out]; omega)
      have ht2 : (ML.take 200).length = 200 := by rw [List.length_take, HMl.out]; rfl
      have HAd := hide (uadd_up HLg.out 0 0 2 (up0 _) (by omega) _ l2 (ML.take 200) he2 hl2.1 (fun x hx => HTwo.out x (List.mem_of_mem_take hx)) (by omega) (by omega) (by show (allU [] _).length ≤ 256; rw [H200.out, HM2l.out]; omega) (by rw [ht2]; omega) (by rw [ht2]; omega))
      have HT2 := hide ht2
      have h200 : (200 : Int) ≤ (ca : Int) := by omega
      have h100 : (100 : Int) ≤ (ca : Int) := by omega
      have h256c : (256 : Int) ≤ (ca : Int) := by omega
      clear hl2 he2 ht2 hlaL
      go_wp2_with fail
      refine HAd.out.mono ?_
      rintro ee wa ⟨vr, rfl, Ra, Sa, fa, La, Ta, hva, Ua, hits, hna, hsda, hlaa⟩
      obtain ⟨ar, cr, hvr⟩ := Ra.shape
      rw [nsU_len, HT2.out] at hvr
      subst hvr
      have HIa : Hid (Sa.its = M2) := hide (by rw [hits]; exact H200.out)
      have HLa2 := hide La
      have HUa := hide Ua
      have HAa := hide (HAl.out.step Ta)
      have HRa := hide Ra
      clear HAd Ra La Ta hva Ua hits hna hsda hlaa
      have hlaL : la.length = 256 := by
        have h1 := congrArg List.length HLa.out
        rwa [List.length_map, HMl.out] at h1
      have HMa : Hid (LcM ML (.slice (some ⟨ga, 0, none⟩) 256 ca) wa) := hide ⟨la, lc_of_owns HAa.out.row.1.1 (HAa.out.row.lists (by omega)), HLa.out⟩
      have hldrop : Lists wa (.slice (some ⟨ga, 100, none⟩) 156 (ca - 100)) (la.drop 100) := by
        have h1 := (lc_of_owns HAa.out.row.1.1 (HAa.out.row.lists (by omega))).drop 100 (by omega)
        rw [if_neg (by omega)] at h1
        exact h1.1
      have hdl : (la.drop 100).length = 156 := by rw [List.length_drop, hlaL]
      have hrow0 : RowV (wa.alloc (.cells #[] 22)) wa.heap.size (.slice (some ⟨wa.heap.size, 0, none⟩) 0 0) [] := World.ownsRow_made wa #[] 0 (Nat.le_refl _) (by simp [maxLen]) rfl
      have Ka : Kp [] wa (wa.alloc (.cells #[] 22)) := (Kp.refl [] _).alloc _
      have HKa := hide Ka
      have HLd := hide hldrop
      have HDl := hide hdl
      have HRow0 := hide hrow0
      go_wp2_with (
        at_builtin
        refine wpList_append_list rfl (.tmp 179) (.tmp 181) rfl wa.heap.size _ [] rfl HRow0.out (some ⟨ga, 100, none⟩) 156 (ca - 100) (la.drop 100) rfl (HLd.out.kept HKa.out) (fun e => by cases e) (by rw [HDl.out]; simp) HKa.out.size ?_
        intro a5 m5 c5 w5 R5 S5
        refine Hid.out ?_)
      rw [List.nil_append] at R5
      have S5' : RStep (wa.alloc (.cells #[] 22)) (.slice (some ⟨wa.heap.size, 0, none⟩) 0 0) w5 (.slice a5 m5 c5) := S5
      have K5 : Kp [] wa w5 := Ka.then S5'.1 (fun i hi => .inr (by
        have h1 : i = wa.heap.size := by simpa [Value.ownBlock] using hi
        omega))
      have RS5 : RowS w5 wa.heap.size (.slice a5 m5 c5) (la.drop 100) := rowS_copy (al := some ⟨ga, 100, none⟩) (cl := ca - 100) (by rw [hdl]; exact hldrop) R5 K5
      have HQ5 : Hid (RowsQ w5 wB.heap.size (.slice a5 m5 c5) (la.drop 100)) := hide ⟨⟨owns_rebase RS5.1 (fun i hi => Nat.le_trans HLa2.out.kp.size (RS5.1.own i hi)), RS5.2⟩, fun x hx => HAa.out.row.2 x (List.mem_of_mem_drop hx)⟩
      have HK5 := hide K5
      have hm5 : m5 = 156 := by have := R5.len; rwa [List.length_map, hdl] at this
      have cv := lit_cv w5 [111, 110, 101, 32, 109, 111, 114, 101] 8 rfl
      simp only [List.map_cons, List.map_nil] at cv
      have K6 : Kp [] w5 (w5.alloc (.cells #[.int .u8 111, .int .u8 110, .int .u8 101, .int .u8 32, .int .u8 109, .int .u8 111, .int .u8 114, .int .u8 101] 5 (8, 9))) := (Kp.refl [] _).alloc _
      have HK6 := hide K6
      have HS6 : Hid (Sl (w5.alloc (.cells #[.int .u8 111, .int .u8 110, .int .u8 101, .int .u8 32, .int .u8 109, .int .u8 111, .int .u8 114, .int .u8 101] 5 (8, 9))) (.slice (some ⟨w5.heap.size, 0, none⟩) 8 8) oneM) := hide (lit_sl w5 [111, 110, 101, 32, 109, 111, 114, 101] 8 (8, 9) rfl (by omega))
      have HOb : Hid (Bs oneM) := hide (fun b hb => by simp [oneM] at hb; omega)
      have HQ6 := hide (HQ5.out.off K6 (by simp))
      have HR5 := hide R5
      have HWb5 : Hid (wB.heap.size ≤ w5.heap.size) := hide (Nat.le_trans HLa2.out.kp.size K5.size)
      subst hm5
      clear hldrop hrow0 Ka R5 S5 S5' K5 RS5 K6 hdl
      refine hide ?_
      go_wp2_with (
        at_builtin
        refine wpList_rowsR rfl (.tmp 182) (.tmp 185) rfl (.slice a5 156 c5) (la.drop 100) rfl HQ6.out (by rw [World.size_alloc]; have := HWb5.out; omega) (by rw [HDl.out]; omega) (.slice (some ⟨w5.heap.size, 0, none⟩) 8 8) oneM HS6.out (fun j h1 h2 => by
          have h3 : w5.heap.size = j := by simpa [Value.ownBlock] using h1
          have := HR5.out.lt h2
          omega) (fun j h1 => by
          have h3 : w5.heap.size = j := by simpa [Value.ownBlock] using h1
          have := HWb5.out
          omega) HOb.out (by rw [World.size_alloc]; rfl) ?_
        intro a7 m7 c7 w7 hm7 P7 S7
        refine Hid.out ?_)
      have HK7 : Hid (Kp [] wa w7) := hide ((HK5.out.trans HK6.out).then S7.1 (fun i hi => .inr (by
        have h1 : (Value.slice a5 156 c5).ownBlock = some i := by simpa [Option.mem_toList] using hi
        have := HR5.out.own i h1
        omega)))
      have hm7' : m7 = 157 := by rw [hm7, HDl.out]
      have HL7 := hide (HLa2.out.on HK7.out)
      have hxs7 : (la.drop 100 ++ [((.slice (some ⟨w5.heap.size, 0, none⟩) 8 8 : Value), oneM)]).map (·.2) = ML.drop 100 ++ [oneM] := by rw [List.map_append, List.map_drop, HLa.out]; rfl
      have HAd := hide (uadd_over HL7.out (.slice a7 m7 c7) _ (ML.drop 100 ++ [oneM]) hxs7 (P7.lists (by rw [List.length_append, HDl.out]; simp)) (fun x hx => by
        rcases List.mem_append.1 hx with hx | hx
        · have := HTwo.out x (List.mem_of_mem_drop hx); omega
        · obtain rfl : x = oneM := by simpa using hx
          simp [oneM]) (by rw [List.length_append, List.length_drop, HMl.out]; simp) (by rw [HIa.out, H257.out]; omega))
      subst hm7'
      clear cv hm7 P7 S7 hxs7 HQ5 HQ6 HS6 HR5 HRow0 HLd HKa
      refine hide ?_
      go_wp2_with fail
      refine HAd.out.mono ?_
      rintro ee wb ⟨rfl, K8⟩
      have HLb := hide (HL7.out.on K8)
      have HAb := hide (HAa.out.on (HK7.out.trans K8))
      have HZ := hide (usize_any HLb.out (200 : Int) (by rw [HIa.out, HM2l.out]; rfl))
      clear HAd K8 HL7 HK7
      go_wp2_with fail
      refine HZ.out.mono ?_
      rintro ee wz ⟨rfl, hwz⟩
      subst wz
      have HUb : Hid (Up Sa 812 1) := hide (by
        have h1 := HUa.out
        rw [HT2.out] at h1
        exact h1)
      have HAd := hide (uadd_up HLb.out 812 1 2 HUb.out (by omega) _ la ML HLa.out (HAb.out.row.lists (by omega)) HTwo.out (by omega) (by rw [HMl.out]; omega) (by rw [HIa.out, H256.out, HMl.out]; omega) (by rw [HMl.out]; omega) (by rw [HMl.out]; omega))
      clear HZ HUa HAa HLa2
      go_wp2_with fail
      refine HAd.out.mono ?_
      rintro ee wc ⟨vr, rfl, Rc, Sc, fc, Lc_, Tc, -, Uc, hits, -, -, -⟩
      obtain ⟨arc, crc, hvr⟩ := Rc.shape
      rw [nsU_len, HMl.out] at hvr
      subst hvr
      have HIc : Hid (Sc.its = ML) := hide (by rw [hits, HIa.out]; exact H256.out)
      have HLc := hide Lc_
      have cv := lit_cv wc [111, 110, 101, 32, 109, 111, 114, 101] 8 rfl
      simp only [List.map_cons, List.map_nil] at cv
      have hS9 : Sl (wc.alloc (.cells #[.int .u8 111, .int .u8 110, .int .u8 101, .int .u8 32, .int .u8 109, .int .u8 111, .int .u8 114, .int .u8 101] 5 (8, 9))) (.slice (some ⟨wc.heap.size, 0, none⟩) 8 8) oneM := lit_sl wc [111, 110, 101, 32, 109, 111, 114, 101] 8 (8, 9) rfl (by omega)
      have e9 : (wc.alloc (.cells #[.int .u8 111, .int .u8 110, .int .u8 101, .int .u8 32, .int .u8 109, .int .u8 111, .int .u8 114, .int .u8 101] 5 (8, 9))).heap.size = wc.heap.size + 1 := by simp
      have hL9 := lists1 hS9 HOb.out
      rw [e9] at hL9
      have HAd2 := hide (uadd_over (Lc_.on (((Kp.refl [] wc).alloc _).alloc _)) _ _ [oneM] rfl hL9 (fun x hx => by
        obtain rfl : x = oneM := by simpa using hx
        simp [oneM]) (by simp) (by rw [HIc.out, HOne.out oneM (by simp [oneM])]; omega))
      clear HAd Rc Lc_ Tc Uc hits hS9 e9 hL9
      go_wp2_with fail
      refine HAd2.out.mono ?_
      rintro ee wd ⟨rfl, K9⟩
      have HLd := hide (HLc.out.on ((((Kp.refl [] wc).alloc _).alloc _).trans K9))
      have HAd := hide (uadd_none HLd.out (.slice none 0 0) [] [] rfl (lists_nil wd none 0) (by simp) (by simp) (newU_nil _))
      clear HAd2 K9 cv
      go_wp2_with fail
      refine HAd.out.mono ?_
      rintro ee we ⟨vr, rfl, Re, Ke⟩
      obtain ⟨are, cre, hvr⟩ := Re.shape
      rw [nsU_len, List.length_nil] at hvr
      subst hvr
      have HLe := hide (HLd.out.on Ke)
      obtain ⟨i0, hi0, hz0, hz1, hz2⟩ := info_parts Tryz.info5
      clear HAd Re Ke
      go_wp2_with (at_make; refine wpList_make_full _ rfl _ _ 22 rfl we.heap.size 5 i0 (.int .u8 0) 1 Tryz.underlying22 hi0 hz0 hz1 .i64 .i64 _ _ 65535 rfl rfl (by omega) (by omega) (by rw [hz2]; omega) (by unfold maxLen; omega) (Nat.le_refl _) ?_; intro wg og gg; refine Hid.out ?_)
      have og' : wg.ownsRow we.heap.size 5 1 (.slice (some ⟨we.heap.size, 0, none⟩) 65535 65535) 65535 ((List.replicate 65535 (0 : Int)).map (Value.int .u8)) := by rw [made_zeros] at og; exact og
      obtain ⟨zs, hzs⟩ : ∃ z, z = List.replicate 65535 (0 : Int) := ⟨_, rfl⟩
      rw [← hzs] at og'
      have hzl : zs.length = 65535 := by rw [hzs, List.length_replicate]
      have hzB : Bs zs := fun b hb => by rw [hzs] at hb; have := List.eq_of_mem_replicate hb; omega
      clear og hzs
      have hSz : Sl wg (.slice (some ⟨we.heap.size, 0, none⟩) 65535 65535) zs := Sl.of_owns og'
      have Kg : Kp [] we wg := (Kp.refl [] we).grown gg (by intro k hk; cases hk)
      have hLz := lists1 hSz hzB
      have HLg2 := hide (HLe.out.on Kg)
      have HAd := hide (uadd_over (HLg2.out.on ((Kp.refl [] wg).alloc _)) _ _ [zs] rfl hLz (fun x hx => by
        obtain rfl : x = zs := by simpa using hx
        omega) (by simp) (by rw [HIc.out, HOne.out zs (by omega)]; omega))
      have HZl := hide hzl
      clear og' hzB hSz Kg hLz gg hi0 hz0 hz1 hz2 hzl
      refine hide ?_
      go_wp2_with fail
      refine HAd.out.mono ?_
      rintro ee wh ⟨rfl, Kh⟩
      have HLh := hide (HLg2.out.on (((Kp.refl [] wg).alloc _).trans Kh))
      have HZ := hide (usize_any HLh.out (256 : Int) (by rw [HIc.out, HMl.out]; rfl))
      have HKn := hide (uknown_any wh (HG.out.kept (HK1.out.trans (HK.out.trans HLh.out.kp)) (by simp)))
      have HKf := hide (HK1.out.trans (HK.out.trans HLh.out.kp))
      clear HAd Kh
      go_wp2_with fail
      refine HZ.out.mono ?_
      rintro ee wz ⟨rfl, hwz⟩
      subst wz
      clear HZ
      go_wp2_with fail
      refine HKn.out.mono ?_
      rintro ee wi ⟨rfl, Ki⟩
      have HKi := hide (HKf.out.trans Ki)
      clear HKn Ki
      go_wp2_with fail
      go_ret
      exact ⟨rfl, HKi.out.below (Nat.le_refl _) (by simp)⟩
set_option maxRecDepth 100000 in
theorem lifted (os : Os) (started : os.Started) (H : Type) (enc : TypeId × Value → H) :
    ReturnsInHanded {} Tryz.checked os 3 .any (fun w args => (Rows.ledgerNumbersSpec.pre enc Tryz.prog Tryz.f3 [] false w args ∧ laidMetH Tryz.prog laid1 w) ∧ sizedMet enc Tryz.prog Tryz.f3 (OpenSpec.ofChange Rows.ledgerNumbersSpec) false w args) (Rows.ledgerNumbersSpec.post enc Tryz.prog Tryz.f3 false true false false) := by
  refine returnsInHanded_of_change_and (C := Tryz.checked) (X := fun w _ => laidMetH Tryz.prog laid1 w) (fun _ _ _ hh h => h.of_heap hh) own started (by kernel_rfl) Tryz.func3
    (ChangeSpec.witness_shaped (enc := enc) (C := Tryz.checked) (os := os) (X := fun w _ => laidMetH Tryz.prog laid1 w) false (World.doorLaid Tryz.prog 400 os) #[] 8 rfl (World.shaped_of_RefB (by kernel_rfl) (by kernel_rfl)) (by kernel_rfl) (by kernel_rfl) (by kernel_rfl) (door_met os _)) ?_
  intro W base args ds gs before hval0 hW hcnd hsz0 hL _
  have hG := gl_of_laid hL
  have hval : ∀ (j : Nat) t v, Tryz.f3.params[j]? = some t → args[j]? = some v → Value.okWide Tryz.prog W .any base t v := hval0
  have hW' := hW
  obtain ⟨p, q, hA0, hV, rfl, hfz, hnd⟩ := hW
  have hA : DataW.TrodAll enc Tryz.prog W 0 (fun _ => true) true Tryz.f3.params.toList args.toList ds p := hA0
  rw [Tryz.params3] at hA hval
  obtain ⟨hargs, rfl, rfl⟩ := trodAll_nil hA
  obtain rfl : args = #[] := by cases args; simp_all
  obtain ⟨rfl, rfl⟩ := trodVars_none hV
  clear hA0 hval0
  refine (walk  W hG).mono fun e W' ⟨he, bel⟩ => ?_
  subst he
  exact ⟨_, rfl, _, _, _, [], _, [], hW', trodAll_mk1 (shut_bool Tryz.underlying4 _), trodAll_mk0, rfl, bel.frame _, fun h => by cases h⟩
theorem over : Rows.ledgerNumbersRow.holds Tryz.pinned (OpenSpec.ofChange Rows.ledgerNumbersSpec) :=
  OpenClaim.holds_of_wide 3 Tryz.f3 rfl rfl rfl rfl rfl rfl rfl ⟨rfl, rfl, rfl, rfl, rfl⟩ rfl rfl rfl rfl rfl (by kernel_rfl) Tryz.func3 (by kernel_rfl)
    (of_decide_eq_true (by kernel_rfl)) (by unfold Func.isWrapper; first | (rw [if_pos (by decide +kernel)]; kernel_rfl) | (rw [if_neg (by decide +kernel)]; exact ⟨rfl, rfl⟩))
    (fun os started H enc _ => lifted os started H enc)
end Go.Proofs.YtillhpgdlmeajaaGreatDoor.ledgerNumbers
namespace Go.Proofs.YtillhpgdlmeajaaGreatDoor
/-- The given statement: the tied card. -/
theorem LedgerNumbers_holds : Rows.LedgerNumbersCardSaid :=
  Claim7.holds_tied_plain_at .later [] [.data] true Rows.ledgerNumbersCard.stood.harness false
    ledgerNumbers.over (fun _ h => by cases h) (by kernel_rfl) (fun _ h => by cases h) ledgerNumbers_row_tie rfl ⟨rfl, rfl⟩ (by kernel_rfl) rfl
    (fun f fn hf hfn => by
      obtain rfl : f = 3 := Option.some.inj ((show Tryz.prog.funcNamed "broadsheet/broadsheetlaw15.LedgerNumbers" = some 3 by kernel_rfl).symm.trans hf) |>.symm
      obtain rfl : fn = Tryz.f3 := (Option.some.inj (Tryz.func3.symm.trans hfn)).symm
      exact ⟨by kernel_rfl, fun j t ht => by
        rw [Tryz.params3] at ht
        have hm : t ∈ ([] : List TypeId) := by simpa using Array.mem_of_getElem? ht
        have hall : (([] : List TypeId).all fun u => !Tryz.prog.wantsStandIn u) = true := by kernel_rfl
        exact (show Tryz.prog.wantsStandIn t = false by simpa using List.all_eq_true.1 hall t hm)⟩)
    (by kernel_rfl)
#print axioms LedgerNumbers_holds
end Go.Proofs.YtillhpgdlmeajaaGreatDoor
