/-
  The statement LedgerFullCardSaid: for all lists of numbers and all limits the law function LedgerFull returns true and leaves its arguments as they were; the table hash.roundWords starts as the program's text lays it (tied). No other condition.
-/
import Derived.ArgAppend
import Derived.Deep.RegionHeld3
import Derived.Deep.Upon
import Derived.SevenTiedAt
import Derived.Test.YtillhpgdlmeajabGreatDoorCards
import Derived.Test.YtillhpgdlmeajabGreatDoorTie
import Derived.Test.YtillhpgdlmeajabGreatDoorQB1
import Derived.Test.YtillhpgdlmeajabGreatDoorQB3
import Derived.Test.YtillhpgdlmeajabGreatDoorQLedgerFull1
import Derived.Test.YtillhpgdlmeajabGreatDoorQB2
import Derived.Test.YtillhpgdlmeajabGreatDoorQB4
import Derived.Test.YtillhpgdlmeajabGreatDoorQB5
import Derived.Test.YtillhpgdlmeajabGreatDoorQB6
import Derived.Test.YtillhpgdlmeajabGreatDoorQB7
namespace Go.Proofs.YtillhpgdlmeajabGreatDoor.ledgerFull
open Go.ChangeShapes Go.WideShapes Go.ChangeAt Go.RowKit
open Go.Proofs.YtillhpgdlmeajabGreatDoor
set_option linter.unusedVariables false
/-- a disk of so much room. -/
def dkL (b : List Int) (n : Int) : Dk := ⟨b, b.length, n, 0, false⟩
theorem dkL_add {b r : List Int} {n : Int} (h : ((b.length + r.length : Nat) : Int) ≤ n) : (dkL b n).add r = (true, dkL (b ++ r) n) := Dk.add_up (d := dkL b n) rfl (Int.le_refl 0) r h
theorem dkL_full {b r : List Int} {n : Int} (h : n < ((b.length + r.length : Nat) : Int)) : (dkL b n).add r = (false, dkL b n) := Dk.add_full (d := dkL b n) rfl (Int.le_refl 0) r h
theorem dkL_grow {b : List Int} {n : Int} (h : b.length ≤ 1048576) : (dkL b n).grow 1048576 = (true, dkL b 1048576) := by
  unfold Dk.grow
  rw [if_pos ⟨by show (b.length : Int) ≤ 1048576; omega, by omega⟩]
  rfl
theorem sl_blk {w : World} {g n c : Nat} {bs : List Int} (h : Sl w (.slice (some ⟨g, 0, none⟩) n c) bs) (hb : bs ≠ []) : g < w.heap.size := by
  obtain ⟨ao, c', e, _, _, _, h4⟩ := h
  injection e with e1 e2 e3
  have hpos : 0 < bs.length := List.length_pos_iff.2 hb
  have hc := h4 ⟨g, 0, none⟩ e1.symm 0 (.int .u8 bs[0]) (by simp [List.getElem?_eq_getElem hpos])
  have := World.block_lt_of_cell? _ _ hc
  rw [add_block] at this
  exact this
def Inv (w : World) (l pd pk k : Nat) (lim : Int) (wr : World) : Prop := ∃ S f b, Lg w wr l pd pk S f ∧ S.dd = dkL b lim ∧ b.length = 17 * k ∧ lim ≤ 1048576 ∧ S.its.length = k ∧ (∀ y ∈ S.its, ∃ j : Nat, j < k ∧ ∃ z, y = [(j : Int), z, 7]) ∧ S.mj ≤ 2 * k
set_option maxRecDepth 100000 in
set_option maxHeartbeats 16000000 in
theorem walk (v : Value) (xs : List Int) (li : Int) (w : World) (hG : Gl w) (hL : Ints w v xs) (hli : -9223372036854775808 ≤ li ∧ li ≤ 9223372036854775807) :
    Calls Tryz.prog 4 #[v, .int .i64 li] w fun e w' => e = .returned (.bool true) ∧ Below w.heap.size w w' := by
  have HG := hide hG
  obtain ⟨al, cl, rfl, hlm, hbd, hcell⟩ := hL
  obtain ⟨N, hN⟩ : ∃ N, N = xs.length := ⟨_, rfl⟩
  have HC : Hid (∀ i (h : i < N), ∃ a x, al = some a ∧ w.cell? (a.add i) = some (.int .i64 x)) := fun i hi => by
    obtain ⟨a, e, hc⟩ := hcell i (by omega)
    exact ⟨a, _, e, hc⟩
  rw [← hN] at hlm ⊢
  unfold maxLen at hlm
  have HW := hide (within_wi li 0 400 w (by omega) (by omega) (by omega))
  obtain ⟨n0, hn0⟩ : ∃ n, n = wiP li 0 400 := ⟨_, rfl⟩
  have hn1 := wiP_ge li 0 400 (by omega)
  rw [← hn0] at HW hn1
  obtain ⟨hn1, hn2⟩ := hn1
  clear hG hcell hbd hN hn0 hli
  go_enter Tryz.func4, Tryz.ntmps4
  go_wp2_with fail
  refine HW.out.mono ?_
  rintro ee w1 ⟨rfl, hw⟩
  subst w1
  have HNw := hide (nw_new n0 w hn1 (by omega))
  clear HW
  go_wp2_with fail
  refine HNw.out.mono ?_
  rintro ee w1 ⟨pd, rfl, N1⟩
  have HN1 := hide N1
  have HF2 := hide (fresh_any w1)
  clear HNw N1
  go_wp2_with fail
  refine HF2.out.mono ?_
  rintro ee w2 ⟨pk, rfl, N2⟩
  have HN2 := hide N2
  have HSd := hide (xseed_any 1 w2)
  clear HF2 N2
  go_wp2_with fail
  refine HSd.out.mono ?_
  rintro ee w3 ⟨as_, ms, cs, rfl, R3, K3⟩
  obtain ⟨ok2, d2, k2⟩ := two_ok HN1.out HN2.out
  have o3 := ok2.on K3
  have hop : (dk0 n0).opn = dk0 n0 := rfl
  have HO := hide (uopen_ok (dd' := dk0 n0) (.slice as_ ms cs) (seedX 1) R3.sl (seedX_bs 1) (seedX_len 1) (fun i hi ⟨a, ha⟩ => by have := (ok2.rng a i ha).2; have := R3.own i hi; omega) o3 (d2.kept K3 o3.kp (by simp)) rfl (Int.le_refl 0) (k2.kept K3 o3.kp (by simp)) rfl (Int.le_refl 0) rfl (Nat.zero_le _) (klay_opn 0) (klay_dk 0) rfl opnP_nil hop (rs := []) (its := []) rfl (by simp) (by simp) (by simp [lenU]) (by simp))
  clear HSd R3 K3 HN1 HN2 ok2 d2 k2 o3 hop
  go_wp2_with fail
  refine HO.out.mono ?_
  rintro ee w4 ⟨l, rfl, f, L4, -⟩
  have HL4 := hide L4
  clear HO L4
  go_wp2_with fail
  go_loopw [5, 10] (fun nv i wr => ∃ k : Nat, k ≤ N ∧ k ≤ 10 ∧ i = .int .i64 k ∧ ∃ lim, nv = .int .i64 lim ∧ Inv w l pd pk k lim wr) (fun _ i _ => N - (intOf i).toNat)
  case atStart => exact ⟨0, by omega, by omega, rfl, n0, rfl, _, f, [], HL4.out, rfl, rfl, by omega, rfl, (fun y hy => by cases hy), Nat.le_refl _⟩
  case round =>
    obtain ⟨k, hkN, hk10, rfl, lim, rfl, S0, f0, b, hLg, hdd, hbl, hlim, hil, hit, hmj⟩ := hrel
    have HLg := hide hLg
    have HDd := hide hdd
    have HIt := hide hit
    have HIl := hide hil
    have HMj := hide hmj
    have HLim := hide hlim
    have HBl := hide hbl
    clear HL4 hLg hdd hit hil hmj hlim hbl
    by_cases hlt : k < N ∧ k < 10
    · obtain ⟨hl1, hl2⟩ := hlt
      have hl1' : (k : Int) < (N : Int) := by omega
      have hl2' : (k : Int) < 10 := by omega
      have hd1 : decide ((k : Int) < (N : Int)) = true := decide_eq_true hl1'
      have hd2 : decide ((k : Int) < 10) = true := decide_eq_true hl2'
      obtain ⟨a0, xi, rfl, hc⟩ := HC.out k hl1
      have hcx := HLg.out.kp.cell hc (by simp)
      have h8 : IntKind.u8.wrap (k : Int) = k := by simp [IntKind.wrap, IntKind.signed, IntKind.bits]; omega
      obtain ⟨y8, hy8⟩ : ∃ y, IntKind.u8.wrap xi = y := ⟨_, rfl⟩
      have hy8b : 0 ≤ y8 ∧ y8 ≤ 255 := by rw [← hy8]; simp [IntKind.wrap, IntKind.signed, IntKind.bits]; omega
      obtain ⟨x, hx⟩ : ∃ x, x = [(k : Int), y8, 7] := ⟨_, rfl⟩
      have hBx : Bs x := fun z hz => by
        rw [hx] at hz
        rcases (by simpa using hz : z = (k : Int) ∨ z = y8 ∨ z = 7) with rfl | rfl | rfl <;> omega
      have hxl : x.length = 3 := by rw [hx]; rfl
      have hnin : x ∉ S0.its := fun hm => by
        obtain ⟨j, hj, z, e⟩ := HIt.out x hm
        rw [hx] at e
        simp at e
        omega
      obtain ⟨hnew, hall, hns⟩ := one_ns hnin
      have hbat : (batU [x]).length = 9 := by unfold batU; rw [List.length_append, bq_len]; simp [itmU_len, hxl]
      have HBx := hide hBx
      have HXl : Hid (x.length ≤ 65535) := hide (by omega)
      have HX := hide hx
      have HNew := hide hnew
      have HAll := hide hall
      have HNs := hide hns
      have HBat := hide hbat
      obtain ⟨gx, hgx⟩ : ∃ g, g = wr.heap.size := ⟨_, rfl⟩
      obtain ⟨wa, hwa⟩ : ∃ y, y = wr.alloc (.cells #[.int .u8 (k : Int), .int .u8 y8, .int .u8 7] 5) := ⟨_, rfl⟩
      have Ka : Kp [] wr wa := by rw [hwa]; exact (Kp.refl [] _).alloc _
      have hSx : Sl wa (.slice (some ⟨gx, 0, none⟩) 3 3) x := by rw [hwa, hgx, hx]; exact lit_sl wr [(k : Int), y8, 7] 3 (0, 0) rfl (by omega)
      have HLa := hide (HLg.out.on Ka)
      have HSz := hide (usz_any HLa.out (17 * k) (by rw [HDd.out]; exact HBl.out))
      obtain ⟨wb, hwb⟩ : ∃ y, y = wa.alloc (.cells #[.slice (some ⟨gx, 0, none⟩) 3 3] 29) := ⟨_, rfl⟩
      have Kb : Kp [] wa wb := by rw [hwb]; exact (Kp.refl [] _).alloc _
      have HBa := hide (ubatch_any _ [((.slice (some ⟨gx, 0, none⟩) 3 3), x)] wb (by rw [hwb]; exact lists1 hSx hBx) (by simp; omega) (by simp))
      have hwas : wa.heap.size = gx + 1 := by rw [hwa, hgx, World.size_alloc]
      rw [hwb, hwas] at HBa
      rw [hwa] at HSz
      have HSx := hide hSx
      have HKa := hide Ka
      have HKb := hide Kb
      have HWa := hide hwa
      have HWb := hide hwb
      have HGx := hide hgx
      have hw1 : IntKind.i64.wrap (((17 * k : Nat) : Int) + 8) = ((17 * k : Nat) : Int) + 8 := by simp [IntKind.wrap, IntKind.signed, IntKind.bits]; omega
      have hw2 : IntKind.i64.wrap (((17 * k : Nat) : Int) + 8 + 9) = ((17 * k : Nat) : Int) + 17 := by simp [IntKind.wrap, IntKind.signed, IntKind.bits]; omega
      obtain ⟨sz, hsz⟩ : ∃ s, s = ((17 * k : Nat) : Int) := ⟨_, rfl⟩
      rw [← hsz] at HSz hw1 hw2
      have HSZ := hide hsz
      clear hc hx hBx hxl hnin hnew hall hns hbat Ka Kb hSx hwa hwb hgx hsz hwas
      go_wp2_with fail
      refine HSz.out.mono ?_
      rintro ee wq ⟨rfl, hwq⟩
      subst wq
      clear HSz
      go_wp2_with fail
      rw [← HWa.out, ← HGx.out]
      refine HBa.out.mono ?_
      rintro ee wc ⟨ac, mc, cc, rfl, Rc, Kc⟩
      rw [← HWb.out] at Kc
      have hmc : mc = 9 := by have := Rc.len; rw [this]; exact HBat.out
      subst hmc
      have HLc := hide (HLa.out.on (HKb.out.trans Kc))
      have HSc := hide (HSx.out.kept (HKb.out.trans Kc) (by simp))
      obtain ⟨r, hr⟩ : ∃ r, r = rtU S0.its := ⟨_, rfl⟩
      have HRt := hide (uroot_any HLc.out r hr (HG.out.kept HLc.out.kp (by simp)))
      have HR := hide hr
      clear HBa Rc Kc HLa HSx hr
      go_wp2_with fail
      refine HRt.out.mono ?_
      rintro ee wd ⟨ad, md, cd, rfl, Rd_, Kd⟩
      have HLd := hide (HLc.out.on Kd)
      have HXS := hide (HSc.out.kept Kd (by simp))
      have hcv := Rd_.sl.conv (P := Tryz.prog) 29 9 5 Tryz.underlying29 Tryz.underlying5 Tryz.underlying9
      have hgd : gx < wd.heap.size := sl_blk HXS.out (by rw [HX.out]; simp)
      clear HRt Rd_ Kd HLc HSc
      by_cases hfit : ((b.length + 17 : Nat) : Int) ≤ lim
      · have hcmp : ¬ lim < sz + 17 := by have := HSZ.out; have := HBl.out; omega
        have hdcmp : decide (lim < sz + 17) = false := decide_eq_false hcmp
        obtain ⟨we, hwe⟩ : ∃ y, y = wd.alloc (.cells #[.slice (some ⟨gx, 0, none⟩) 3 3] 29) := ⟨_, rfl⟩
        have Ke : Kp [] wd we := by rw [hwe]; exact (Kp.refl [] _).alloc _
        have hLs : Lists we (.slice (some ⟨wd.heap.size, 0, none⟩) 1 1) [((.slice (some ⟨gx, 0, none⟩) 3 3), x)] := by rw [hwe]; exact lists1 HXS.out HBx.out
        have HAd := hide (uadd_any (HLd.out.on Ke) _ _ [x] rfl hLs (by simp; exact HXl.out) (by simp) (by rw [HAll.out, List.length_append]; have := HIl.out; simp; omega) (by rw [HNew.out]; simp) (by have := HMj.out; omega) (by rw [HNew.out, HBat.out]; omega) true (dkL (b ++ recP (batU [x])) lim) (by rw [HNew.out]; exact (by rw [HDd.out]; exact dkL_add (by rw [recP_len, HBat.out]; exact hfit))))
        rw [hwe] at HAd
        clear hwe Ke hLs
        go_wp2_with fail
        refine HAd.out.mono ?_
        rintro ee w9 ⟨vr, en, rfl, hen, R9, f9, L9, T9, -⟩
        obtain rfl : en = 0 := hen
        simp only [if_true] at R9 L9
        rw [HNs.out] at R9
        obtain ⟨a9, c9, hvr⟩ := R9.shape
        subst hvr
        obtain ⟨B9, HR9⟩ : ∃ B, Hid (RowI w9 B (.slice a9 1 c9) [(k : Int)]) := ⟨_, by have := R9; rw [HIl.out] at this; exact hide this⟩
        obtain ⟨S9, hS9⟩ : ∃ s, s = ({ S0 with dd := dkL (b ++ recP (batU [x])) lim, mj := S0.mj + 1, its := allU S0.its [x] } : LS) := ⟨_, rfl⟩
        rw [← hS9] at L9
        have HL9 := hide L9
        obtain ⟨b9, hb9⟩ : ∃ y, y = b ++ recP (batU [x]) := ⟨_, rfl⟩
        have HD9 : Hid (S9.dd = dkL b9 lim) := hide (by rw [hS9, hb9])
        have HB9 : Hid (b9.length = 17 * k + 17) := hide (by rw [hb9, List.length_append, recP_len, HBat.out, HBl.out])
        have HI9 : Hid (S9.its = allU S0.its [x]) := hide (by rw [hS9])
        have HM9 : Hid (S9.mj ≤ 2 * k + 1) := hide (by rw [hS9]; have := HMj.out; show S0.mj + 1 ≤ _; omega)
        have HLim9 := HLim
        clear HAd R9 L9 T9 hS9 hb9 hfit
        obtain ⟨g9, rfl, hc9⟩ := HR9.out.at 0 (by simp)
        have hc9' : w9.cell? ⟨g9, 0, none⟩ = some (.int .i64 (k : Int)) := hc9
        clear hc9
        go_wp2_with fail
        go_roundw
        case rel =>
          refine ⟨k + 1, by omega, by omega, by go_num, lim, rfl, S9, f9, b9, HL9.out, HD9.out, ?_, HLim9.out, ?_, ?_, ?_⟩
          · rw [HB9.out]; omega
          · rw [HI9.out, HAll.out, List.length_append, HIl.out]; rfl
          · rw [HI9.out, HAll.out]
            intro y hy
            rcases List.mem_append.1 hy with hy | hy
            · obtain ⟨j, hj, z, e⟩ := HIt.out y hy; exact ⟨j, by omega, z, e⟩
            · exact ⟨k, by omega, y8, by rw [← HX.out]; simpa using hy⟩
          · have := HM9.out; omega
        case measure => simp [intOf]; omega
      · have hcmp : lim < sz + 17 := by have := HSZ.out; have := HBl.out; omega
        have hdcmp : decide (lim < sz + 17) = true := decide_eq_true hcmp
        obtain ⟨we, hwe⟩ : ∃ y, y = wd.alloc (.cells #[.slice (some ⟨gx, 0, none⟩) 3 3] 29) := ⟨_, rfl⟩
        have Ke : Kp [] wd we := by rw [hwe]; exact (Kp.refl [] _).alloc _
        have hLs : Lists we (.slice (some ⟨wd.heap.size, 0, none⟩) 1 1) [((.slice (some ⟨gx, 0, none⟩) 3 3), x)] := by rw [hwe]; exact lists1 HXS.out HBx.out
        have HAd := hide (uadd_any (HLd.out.on Ke) _ _ [x] rfl hLs (by simp; exact HXl.out) (by simp) (by rw [HAll.out, List.length_append]; have := HIl.out; simp; omega) (by rw [HNew.out]; simp) (by have := HMj.out; omega) (by rw [HNew.out, HBat.out]; omega) false (dkL b lim) (by rw [HNew.out]; exact (by rw [HDd.out]; exact dkL_full (by rw [recP_len, HBat.out]; omega))))
        rw [hwe] at HAd
        clear hwe Ke hLs
        go_wp2_with fail
        refine HAd.out.mono ?_
        rintro ee w5 ⟨vr, en, rfl, hen, R5, f5, L5, T5, -⟩
        obtain rfl : en = 13 := hen
        obtain rfl : vr = .slice none 0 0 := R5
        obtain ⟨S5, hS5⟩ : ∃ s, s = ({ S0 with dd := dkL b lim, mj := S0.mj + 1, its := if false = true then allU S0.its [x] else S0.its } : LS) := ⟨_, rfl⟩
        rw [← hS5] at L5
        have HL5 := hide L5
        have HI5 : Hid (S5.its = S0.its) := hide (by rw [hS5]; rfl)
        have HD5 : Hid (S5.dd = dkL b lim) := hide (by rw [hS5])
        have HM5 : Hid (S5.mj ≤ 2 * k + 1) := hide (by rw [hS5]; have := HMj.out; show S0.mj + 1 ≤ _; omega)
        have hnof : ¬ f0.tot gx := fun e => by have := (HLg.out.lt gx e).2; have := HGx.out; omega
        have HNof := hide hnof
        have hXS5 : Sl w5 (.slice (some ⟨gx, 0, none⟩) 3 3) x := by
          obtain ⟨U, hU, kU⟩ := T5.kp
          refine (HXS.out.kept (Kp.refl [] wd) (by simp)).kept ((((Kp.refl [] wd).alloc (.cells #[.slice (some ⟨gx, 0, none⟩) 3 3] 29)).mono (by simp)).trans kU) (fun i hi hm => ?_)
          have : gx = i := by simpa [Value.ownBlock] using hi
          subst this
          exact hnof (hU _ hm)
        have HXS5 := hide hXS5
        have HNf5 : Hid (¬ f5.tot gx) := hide (T5.off (by simp; omega) hnof)
        have HZ := hide (usize_any HL5.out (k : Int) (by rw [HI5.out, HIl.out]))
        have hgw5 : gx < w5.heap.size := sl_blk hXS5 (by rw [HX.out]; simp)
        clear HAd L5 T5 hS5 hXS5 HLd HXS hcv
        go_wp2_with fail
        refine HZ.out.mono ?_
        rintro ee w6 ⟨rfl, hw6⟩
        subst w6
        have HRt5 := hide (uroot_any HL5.out r (by rw [HI5.out]; exact HR.out) (HG.out.kept HL5.out.kp (by simp)))
        clear HZ
        go_wp2_with fail
        refine HRt5.out.mono ?_
        rintro ee w6 ⟨a6, m6, c6, rfl, R6, K6⟩
        have hcv6 := R6.sl.conv (P := Tryz.prog) 29 9 5 Tryz.underlying29 Tryz.underlying5 Tryz.underlying9
        have HL6 := hide (HL5.out.on K6)
        have HXS6 := hide (HXS5.out.kept K6 (by simp))
        have hb1m : b.length ≤ 1048576 := by have := HBl.out; omega
        have HGr := hide (ugrow_any HL6.out 1048576 true (dkL b 1048576) (by rw [HD5.out]; exact dkL_grow hb1m))
        clear HRt5 R6 K6
        go_wp2_with fail
        refine HGr.out.mono ?_
        rintro ee w7 ⟨rfl, f7, L7, T7⟩
        have hXS7 : Sl w7 (.slice (some ⟨gx, 0, none⟩) 3 3) x := by
          obtain ⟨U, hU, kU⟩ := T7.kp
          refine HXS6.out.kept kU (fun i hi hm => ?_)
          have : gx = i := by simpa [Value.ownBlock] using hi
          subst this
          exact HNf5.out (hU _ hm)
        obtain ⟨S7, hS7⟩ : ∃ s, s = ({ S5 with dd := dkL b 1048576 } : LS) := ⟨_, rfl⟩
        rw [← hS7] at L7
        have HL7 := hide L7
        have HXS := hide hXS7
        have HI7 : Hid (S7.its = S0.its) := hide (by rw [hS7]; exact HI5.out)
        have HD7 : Hid (S7.dd = dkL b 1048576) := hide (by rw [hS7])
        have HM7 : Hid (S7.mj ≤ 2 * k + 1) := hide (by rw [hS7]; exact HM5.out)
        clear HGr L7 T7 hXS7 hS7 HL6 HXS6 HL5 HXS5 hcv6
        obtain ⟨we, hwe⟩ : ∃ y, y = w7.alloc (.cells #[.slice (some ⟨gx, 0, none⟩) 3 3] 29) := ⟨_, rfl⟩
        have Ke : Kp [] w7 we := by rw [hwe]; exact (Kp.refl [] _).alloc _
        have hLs : Lists we (.slice (some ⟨w7.heap.size, 0, none⟩) 1 1) [((.slice (some ⟨gx, 0, none⟩) 3 3), x)] := by rw [hwe]; exact lists1 HXS.out HBx.out
        have HAd := hide (uadd_any (HL7.out.on Ke) _ _ [x] rfl hLs (by simp; exact HXl.out) (by simp) (by rw [HI7.out, HAll.out, List.length_append]; have := HIl.out; simp; omega) (by rw [HI7.out, HNew.out]; simp) (by have := HM7.out; omega) (by rw [HI7.out, HNew.out, HBat.out]; omega) true (dkL (b ++ recP (batU [x])) 1048576) (by rw [HI7.out, HNew.out, HD7.out]; exact dkL_add (by rw [recP_len, HBat.out]; have := HBl.out; omega)))
        rw [hwe] at HAd
        clear hwe Ke hLs
        go_wp2_with fail
        refine HAd.out.mono ?_
        rintro ee w9 ⟨vr, en, rfl, hen, R9, f9, L9, T9, -⟩
        obtain rfl : en = 0 := hen
        simp only [if_true] at R9 L9
        rw [HI7.out, HNs.out] at R9
        obtain ⟨a9, c9, hvr⟩ := R9.shape
        subst hvr
        obtain ⟨B9, HR9⟩ : ∃ B, Hid (RowI w9 B (.slice a9 1 c9) [(k : Int)]) := ⟨_, by have := R9; rw [HIl.out] at this; exact hide this⟩
        obtain ⟨S9, hS9⟩ : ∃ s, s = ({ S7 with dd := dkL (b ++ recP (batU [x])) 1048576, mj := S7.mj + 1, its := allU S7.its [x] } : LS) := ⟨_, rfl⟩
        rw [← hS9] at L9
        have HL9 := hide L9
        obtain ⟨b9, hb9⟩ : ∃ y, y = b ++ recP (batU [x]) := ⟨_, rfl⟩
        have HD9 : Hid (S9.dd = dkL b9 1048576) := hide (by rw [hS9, hb9])
        have HB9 : Hid (b9.length = 17 * k + 17) := hide (by rw [hb9, List.length_append, recP_len, HBat.out, HBl.out])
        have HI9 : Hid (S9.its = allU S0.its [x]) := hide (by rw [hS9]; show allU S7.its [x] = _; rw [HI7.out])
        have HM9 : Hid (S9.mj ≤ 2 * k + 2) := hide (by rw [hS9]; have := HM7.out; show S7.mj + 1 ≤ _; omega)
        have HLim9 : Hid ((1048576 : Int) ≤ 1048576) := hide (by omega)
        clear HAd R9 L9 T9 hS9 hb9 hfit
        obtain ⟨g9, rfl, hc9⟩ := HR9.out.at 0 (by simp)
        have hc9' : w9.cell? ⟨g9, 0, none⟩ = some (.int .i64 (k : Int)) := hc9
        clear hc9
        go_wp2_with fail
        go_roundw
        case rel =>
          refine ⟨k + 1, by omega, by omega, by go_num, 1048576, rfl, S9, f9, b9, HL9.out, HD9.out, ?_, HLim9.out, ?_, ?_, ?_⟩
          · rw [HB9.out]; omega
          · rw [HI9.out, HAll.out, List.length_append, HIl.out]; rfl
          · rw [HI9.out, HAll.out]
            intro y hy
            rcases List.mem_append.1 hy with hy | hy
            · obtain ⟨j, hj, z, e⟩ := HIt.out y hy; exact ⟨j, by omega, z, e⟩
            · exact ⟨k, by omega, y8, by rw [← HX.out]; simpa using hy⟩
          · have := HM9.out; omega
        case measure => simp [intOf]; omega
    · have HKn := hide (uknown_any wr (HG.out.kept HLg.out.kp (by simp)))
      have HK := hide HLg.out.kp
      by_cases hl1 : k < N
      · have hl1' : (k : Int) < (N : Int) := by omega
        have hl2' : ¬ (k : Int) < 10 := by omega
        have hd1 : decide ((k : Int) < (N : Int)) = true := decide_eq_true hl1'
        have hd2 : decide ((k : Int) < 10) = false := decide_eq_false hl2'
        go_wp2_with fail
        refine HKn.out.mono ?_
        rintro ee w9 ⟨rfl, K9⟩
        have HK9 := hide (HK.out.trans K9)
        clear HKn K9
        go_wp2_with fail
        go_ret
        exact ⟨rfl, HK9.out.below (Nat.le_refl _) (by simp)⟩
      · have hl1' : ¬ (k : Int) < (N : Int) := by omega
        have hd1 : decide ((k : Int) < (N : Int)) = false := decide_eq_false hl1'
        go_wp2_with fail
        refine HKn.out.mono ?_
        rintro ee w9 ⟨rfl, K9⟩
        have HK9 := hide (HK.out.trans K9)
        clear HKn K9
        go_wp2_with fail
        go_ret
        exact ⟨rfl, HK9.out.below (Nat.le_refl _) (by simp)⟩
set_option maxRecDepth 100000 in
theorem lifted (os : Os) (started : os.Started) (H : Type) (enc : TypeId × Value → H) :
    ReturnsInHanded {} Tryz.checked os 4 .any (fun w args => (Rows.ledgerFullSpec.pre enc Tryz.prog Tryz.f4 [] false w args ∧ laidMetH Tryz.prog laid1 w) ∧ sizedMet enc Tryz.prog Tryz.f4 (OpenSpec.ofChange Rows.ledgerFullSpec) false w args) (Rows.ledgerFullSpec.post enc Tryz.prog Tryz.f4 false true false false) := by
  refine returnsInHanded_of_change_and (C := Tryz.checked) (X := fun w _ => laidMetH Tryz.prog laid1 w) (fun _ _ _ hh h => h.of_heap hh) own started (by kernel_rfl) Tryz.func4
    (ChangeSpec.witness_shaped (enc := enc) (C := Tryz.checked) (os := os) (X := fun w _ => laidMetH Tryz.prog laid1 w) false (World.doorLaid Tryz.prog 400 os) #[.slice none 0 0, .int .i64 0] 8 rfl (World.shaped_of_RefB (by kernel_rfl) (by kernel_rfl)) (by kernel_rfl) (by kernel_rfl) (by kernel_rfl) (door_met os _)) ?_
  intro W base args ds gs before hval0 hW hcnd hsz0 hL _
  have hG := gl_of_laid hL
  have hval : ∀ (j : Nat) t v, Tryz.f4.params[j]? = some t → args[j]? = some v → Value.okWide Tryz.prog W .any base t v := hval0
  have hW' := hW
  obtain ⟨p, q, hA0, hV, rfl, hfz, hnd⟩ := hW
  have hA : DataW.TrodAll enc Tryz.prog W 0 (fun _ => true) true Tryz.f4.params.toList args.toList ds p := hA0
  rw [Tryz.params4] at hA hval
  obtain ⟨v0, vs0, d0, ds0, p0, q0, hargs, rfl, rfl, h0, r0⟩ := trodAll_cons hA
  obtain ⟨v1, vs1, d1, ds1, p1, q1, rfl, rfl, rfl, h1, r1⟩ := trodAll_cons r0
  obtain ⟨rfl, rfl, rfl⟩ := trodAll_nil r1
  obtain rfl : args = #[v0, v1] := by cases args; simp_all
  obtain ⟨rfl, rfl⟩ := trodVars_none hV
  obtain ⟨a0, len0, cap0, rfl⟩ := okWide_slice Tryz.underlying33 (hval 0 33 v0 rfl rfl)
  have k0 := h0
  have lt0 : ∀ x ∈ p0, x.block < W.heap.size := by obtain ⟨m, hm⟩ := k0; exact DataW.trod_lt m _ _ _ hm
  obtain ⟨l0, s0⟩ : ∃ l, Ints W (.slice a0 len0 cap0) l := by
    obtain ⟨fuel, hf⟩ := h0
    exact ints_of_trod (by simpa [Value.cells] using hf)
  obtain ⟨a1, rfl, rfl, rfl, w1⟩ := open_int Tryz.underlying3 (hval 1 3 v1 rfl rfl) h1
  clear hA0 hval0
  refine (walk (.slice a0 len0 cap0) l0 a1 W hG s0 (bounds_i64 w1)).mono fun e W' ⟨he, bel⟩ => ?_
  subst he
  exact ⟨_, rfl, _, _, _, [], _, [], hW', trodAll_mk1 (shut_bool Tryz.underlying4 _), (trodAll_cons_mk (Below.trod laidOut (by kernel_rfl) (of_decide_eq_true (by kernel_rfl)) k0 bel lt0) (trodAll_cons_mk (shut_int Tryz.underlying3 w1) trodAll_mk0)), rfl, bel.frame _, fun h => by cases h⟩
theorem over : Rows.ledgerFullRow.holds Tryz.pinned (OpenSpec.ofChange Rows.ledgerFullSpec) :=
  OpenClaim.holds_of_wide 4 Tryz.f4 rfl rfl rfl rfl rfl rfl rfl ⟨rfl, rfl, rfl, rfl, rfl⟩ rfl rfl rfl rfl rfl (by kernel_rfl) Tryz.func4 (by kernel_rfl)
    (of_decide_eq_true (by kernel_rfl)) (by unfold Func.isWrapper; first | (rw [if_pos (by decide +kernel)]; kernel_rfl) | (rw [if_neg (by decide +kernel)]; exact ⟨rfl, rfl⟩))
    (fun os started H enc _ => lifted os started H enc)
end Go.Proofs.YtillhpgdlmeajabGreatDoor.ledgerFull
namespace Go.Proofs.YtillhpgdlmeajabGreatDoor
/-- The given statement: the tied card. -/
theorem LedgerFull_holds : Rows.LedgerFullCardSaid :=
  Claim7.holds_tied_plain_at .later [] [.data] true Rows.ledgerFullCard.stood.harness false
    ledgerFull.over (fun _ h => by cases h) (by kernel_rfl) (fun _ h => by cases h) ledgerFull_row_tie rfl ⟨rfl, rfl⟩ (by kernel_rfl) rfl
    (fun f fn hf hfn => by
      obtain rfl : f = 4 := Option.some.inj ((show Tryz.prog.funcNamed "broadsheet/broadsheetlaw15.LedgerFull" = some 4 by kernel_rfl).symm.trans hf) |>.symm
      obtain rfl : fn = Tryz.f4 := (Option.some.inj (Tryz.func4.symm.trans hfn)).symm
      exact ⟨by kernel_rfl, fun j t ht => by
        rw [Tryz.params4] at ht
        have hm : t ∈ ([33, 3] : List TypeId) := by simpa using Array.mem_of_getElem? ht
        have hall : (([33, 3] : List TypeId).all fun u => !Tryz.prog.wantsStandIn u) = true := by kernel_rfl
        exact (show Tryz.prog.wantsStandIn t = false by simpa using List.all_eq_true.1 hall t hm)⟩)
    (by kernel_rfl)
#print axioms LedgerFull_holds
end Go.Proofs.YtillhpgdlmeajabGreatDoor
