/-
  The statement LedgerProvesCardSaid: for all lists of numbers and all three numbers the law function LedgerProves returns true and leaves its arguments as they were; the table hash.roundWords starts as the program's text lays it (tied). No other condition.
-/
import Derived.ArgAppend
import Derived.Deep.Cut
import Derived.Deep.CutBlock
import Derived.Deep.CutRange
import Derived.Deep.RegionHeld3
import Derived.Deep.Upon
import Derived.SevenTiedAt
import Derived.Test.YtillhpgdlmeajaaGreatDoorCards
import Derived.Test.YtillhpgdlmeajaaGreatDoorTie
import Derived.Test.YtillhpgdlmeajaaGreatDoorQB1
import Derived.Test.YtillhpgdlmeajaaGreatDoorQB3
import Derived.Test.YtillhpgdlmeajaaGreatDoorQB2
import Derived.Test.YtillhpgdlmeajaaGreatDoorQLedgerProves1
import Derived.Test.YtillhpgdlmeajaaGreatDoorQB4
import Derived.Test.YtillhpgdlmeajaaGreatDoorQLedgerProves2
import Derived.Test.YtillhpgdlmeajaaGreatDoorQB5
import Derived.Test.YtillhpgdlmeajaaGreatDoorQB6
import Derived.Test.YtillhpgdlmeajaaGreatDoorQB7
namespace Go.Proofs.YtillhpgdlmeajaaGreatDoor.ledgerProves
open Go.ChangeShapes Go.WideShapes Go.ChangeAt Go.RowKit
open Go.Deep
open Go.Proofs.YtillhpgdlmeajaaGreatDoor
set_option linter.unusedVariables false
theorem Tryz.sz3 : (Tryz.prog.info? 51).map (·.size) = some 3 := by kernel_rfl
def Inv (w : World) (l pd pk k : Nat) (va : Value) (ma : Nat) (wr : World) : Prop := ∃ S f la, Lg w wr l pd pk S f ∧ Up S (16 * k) k ∧ Al w wr f.tot va la ∧ la.map (·.2) = S.its ∧ ma = la.length ∧ S.its.length = k ∧ (∀ y ∈ S.its, y.length = 2 ∧ ∃ j : Nat, j < k ∧ ∃ z, y = [(j : Int), z])
set_option maxRecDepth 100000 in
set_option maxHeartbeats 16000000 in
theorem walk (v : Value) (xs : List Int) (pi ps pf : Int) (w : World) (hG : Gl w) (hL : Ints w v xs) (hpi : -9223372036854775808 ≤ pi ∧ pi ≤ 9223372036854775807) (hps : -9223372036854775808 ≤ ps ∧ ps ≤ 9223372036854775807) (hpf : -9223372036854775808 ≤ pf ∧ pf ≤ 9223372036854775807) :
    Calls Tryz.prog 6 #[v, .int .i64 pi, .int .i64 ps, .int .i64 pf] w fun e w' => e = .returned (.bool true) ∧ Below w.heap.size w w' := by
  have HG := hide hG
  have HPi := hide hpi
  have HPs := hide hps
  have HPf := hide hpf
  obtain ⟨al, cl, rfl, hlm, hbd, hcell⟩ := hL
  obtain ⟨N, hN⟩ : ∃ N, N = xs.length := ⟨_, rfl⟩
  have HC : Hid (∀ i (h : i < N), ∃ a x, al = some a ∧ w.cell? (a.add i) = some (.int .i64 x)) := fun i hi => by
    obtain ⟨a, e, hc⟩ := hcell i (by omega)
    exact ⟨a, _, e, hc⟩
  rw [← hN] at hlm ⊢
  unfold maxLen at hlm
  have HF1 := hide (fresh_any w)
  clear hG hcell hbd hN hpi hps hpf
  go_enter Tryz.func6, Tryz.ntmps6
  go_wp2_with fail
  refine HF1.out.mono ?_
  rintro ee w1 ⟨pd, rfl, N1⟩
  have HN1 := hide N1
  have HF2 := hide (fresh_any w1)
  clear HF1 N1
  go_wp2_with fail
  refine HF2.out.mono ?_
  rintro ee w2 ⟨pk, rfl, N2⟩
  have HN2 := hide N2
  have HSd := hide (xseed_any 1 w2)
  clear HF2 N2
  go_wp2_with fail
  refine HSd.out.mono ?_
  rintro ee w3 ⟨as_, ms, cs, rfl, R3, K3⟩
  have HO := hide (uopen_fresh HN1.out HN2.out K3 R3 (seedX_bs 1) (seedX_len 1))
  clear HSd R3 K3 HN1 HN2
  go_wp2_with fail
  refine HO.out.mono ?_
  rintro ee w4 ⟨l, rfl, f, L4⟩
  have HL4 := hide L4
  clear HO L4
  go_wp2_with fail
  go_loopw [11, 12] (fun va i wr => ∃ k : Nat, k ≤ N ∧ k ≤ 40 ∧ i = .int .i64 k ∧ ∃ aa ma ca, va = .slice aa ma ca ∧ Inv w l pd pk k (.slice aa ma ca) ma wr) (fun _ i _ => N - (intOf i).toNat)
  case atStart => exact ⟨0, by omega, by omega, rfl, none, 0, 0, rfl, _, f, [], HL4.out, up0 _, al_nil _ _ _, rfl, rfl, rfl, fun y hy => by cases hy⟩
  case round =>
    obtain ⟨k, hkN, hk40, rfl, aa, ma, ca, rfl, S0, f0, la, hLg, hU, hAl, hla, hma, hil, hit⟩ := hrel
    have HLg := hide hLg
    have HU := hide hU
    have HAl := hide hAl
    have HLa := hide hla
    have HMa := hide hma
    have HIl := hide hil
    have HIt := hide hit
    clear HL4 hLg hU hAl hla hma hil hit
    by_cases hlt : k < N ∧ k < 40
    · obtain ⟨hl1, hl2⟩ := hlt
      have hl1' : (k : Int) < (N : Int) := by omega
      have hl2' : (k : Int) < 40 := by omega
      have hd1 : decide ((k : Int) < (N : Int)) = true := decide_eq_true hl1'
      have hd2 : decide ((k : Int) < 40) = true := decide_eq_true hl2'
      obtain ⟨a0, xi, rfl, hc⟩ := HC.out k hl1
      have hcx := HLg.out.kp.cell hc (by simp)
      have h8 : IntKind.u8.wrap (k : Int) = k := by simp [IntKind.wrap, IntKind.signed, IntKind.bits]; omega
      obtain ⟨y8, hy8⟩ : ∃ y, IntKind.u8.wrap xi = y := ⟨_, rfl⟩
      have hy8b : 0 ≤ y8 ∧ y8 ≤ 255 := by rw [← hy8]; simp [IntKind.wrap, IntKind.signed, IntKind.bits]; omega
      obtain ⟨x, hx⟩ : ∃ x, x = [(k : Int), y8] := ⟨_, rfl⟩
      have hBx : Bs x := fun z hz => by
        rw [hx] at hz
        rcases (by simpa using hz : z = (k : Int) ∨ z = y8) with rfl | rfl <;> omega
      have hxl : x.length = 2 := by rw [hx]; rfl
      have hnin : x ∉ S0.its := fun hm => by
        obtain ⟨-, j, hj, z, e⟩ := HIt.out x hm
        rw [hx] at e
        simp at e
        omega
      obtain ⟨hnew, hall, hns⟩ := one_ns hnin
      obtain ⟨gx, hgx⟩ : ∃ g, g = wr.heap.size := ⟨_, rfl⟩
      obtain ⟨wa, hwa⟩ : ∃ y, y = wr.alloc (.cells #[.int .u8 (k : Int), .int .u8 y8] 5) := ⟨_, rfl⟩
      have Ka : Kp [] wr wa := by rw [hwa]; exact (Kp.refl [] _).alloc _
      have hSx : Sl wa (.slice (some ⟨gx, 0, none⟩) 2 2) x := by rw [hwa, hgx, hx]; exact lit_sl wr [(k : Int), y8] 2 (0, 0) rfl (by omega)
      obtain ⟨wb, hwb⟩ : ∃ y, y = wa.alloc (.cells #[.slice (some ⟨gx, 0, none⟩) 2 2] 22) := ⟨_, rfl⟩
      have Kb : Kp [] wa wb := by rw [hwb]; exact (Kp.refl [] _).alloc _
      have hwas : wa.heap.size = gx + 1 := by rw [hwa, hgx, World.size_alloc]
      have hLs : Lists wb (.slice (some ⟨wa.heap.size, 0, none⟩) 1 1) [((.slice (some ⟨gx, 0, none⟩) 2 2), x)] := by rw [hwb]; exact lists1 hSx hBx
      have HAd := hide (uadd_up (HLg.out.on (Ka.trans Kb)) (16 * k) k 2 HU.out (by omega) _ _ [x] rfl hLs (by simp; omega) (by omega) (by simp) (by rw [hall, List.length_append]; have := HIl.out; simp; omega) (by simp) (by simp; omega))
      have hgb : gx < wb.heap.size := by have := Kb.size; omega
      have HSb := hide (hSx.kept Kb (by simp))
      have HAb := hide (HAl.out.on (Ka.trans Kb))
      rw [hwb, hwas] at HAd
      have HBx := hide hBx
      have HX := hide hx
      have HXl := hide hxl
      have HAll := hide hall
      have HNs := hide hns
      have HGx := hide hgx
      have HWa := hide hwa
      have HWb := hide hwb
      have HGb := hide hgb
      clear hc hx hBx hxl hnin hnew hall hns Ka Kb hSx hwa hwb hgx hwas hLs hgb
      go_wp2_with fail
      rw [← HWa.out, ← HGx.out]
      refine HAd.out.mono ?_
      rintro ee w9 ⟨vr, rfl, R9, S9, f9, L9, T9, -, U9, hits, -, -, -⟩
      rw [← HWb.out] at T9 R9
      obtain ⟨ar9, cr9, hvr⟩ := R9.shape
      rw [HNs.out] at hvr
      subst hvr
      have hnof : ¬ f0.tot gx := fun e => by have := (HLg.out.lt gx e).2; have := HGx.out; omega
      have HS9 : Hid (Sl w9 (.slice (some ⟨gx, 0, none⟩) 2 2) x) := hide (by
        obtain ⟨U, hU, kU⟩ := T9.kp
        exact HSb.out.kept kU (fun i hi hm => by
          have : gx = i := by simpa [Value.ownBlock] using hi
          subst this
          exact hnof (hU _ hm)))
      have HF9 : Hid (¬ f9.tot gx) := hide (T9.off HGb.out hnof)
      have HG9 : Hid (gx < w9.heap.size) := hide (Nat.lt_of_lt_of_le HGb.out T9.size)
      have HA9 := hide (HAb.out.step T9)
      have HL9 := hide L9
      have HU9 : Hid (Up S9 (16 * (k + 1)) (k + 1)) := hide (by
        obtain ⟨⟨b, e1, e2⟩, e3, e4, e5⟩ := U9
        simp at e2
        exact ⟨⟨b, e1, by omega⟩, e3, e4, e5⟩)
      have HI9 : Hid (S9.its = S0.its ++ [x]) := hide (by rw [hits]; exact HAll.out)
      have HWg : Hid (w.heap.size ≤ gx) := hide (by rw [HGx.out]; exact HLg.out.kp.size)
      have hlaN : la.length ≤ 1000 := by
        have h1 := congrArg List.length HLa.out
        rw [List.length_map, HIl.out] at h1
        omega
      clear HAd R9 L9 T9 U9 hits hnof
      go_wp2_with (
        at_builtin
        refine wpList_rowsR rfl (.tmp 66) (.tmp 68) rfl (.slice aa ma ca) la rfl HA9.out.row (by have := HWg.out; have := HG9.out; omega) (by omega) (.slice (some ⟨gx, 0, none⟩) 2 2) x HS9.out (fun j h1 h2 => by
          have h3 : gx = j := by simpa [Value.ownBlock] using h1
          have := (HAl.out.own j h2).1
          have := HGx.out
          omega) (fun j h1 => by
          have h3 : gx = j := by simpa [Value.ownBlock] using h1
          have := HWg.out
          omega) HBx.out rfl ?_
        intro a7 m7 c7 w7 hm7 P7 S7
        have HA7 := hide (HA9.out.put (x := (.slice (some ⟨gx, 0, none⟩) 2 2, x)) (fun j e => (HL9.out.lt j e).2) P7 S7 (fun j h1 => by
          have h3 : gx = j := by simpa [Value.ownBlock] using h1
          subst h3
          exact ⟨HG9.out, HF9.out⟩))
        have HL7 := hide (HL9.out.beside S7.1 (fun j hj => by
          have h1 : (Value.slice aa ma ca).ownBlock = some j := by simpa [Option.mem_toList] using hj
          exact ⟨HA9.out.row.1.1.own j h1, (HA9.out.own j h1).2⟩))
        have HM7 : Hid (m7 = la.length + 1) := hide hm7
        clear P7 S7 hm7)
      go_roundw
      case rel =>
        refine ⟨k + 1, by omega, by omega, by go_num, a7, m7, c7, rfl, S9, f9, la ++ [(.slice (some ⟨gx, 0, none⟩) 2 2, x)], HL7.out, HU9.out, HA7.out, ?_, ?_, ?_, ?_⟩
        · rw [List.map_append, HLa.out, HI9.out]; rfl
        · rw [List.length_append]; exact HM7.out
        · rw [HI9.out, List.length_append, HIl.out]; rfl
        · rw [HI9.out]
          intro y hy
          rcases List.mem_append.1 hy with hy | hy
          · obtain ⟨h2, j, hj, z, e⟩ := HIt.out y hy
            exact ⟨h2, j, by omega, z, e⟩
          · obtain rfl : y = x := by simpa using hy
            exact ⟨HXl.out, k, by omega, y8, HX.out⟩
      case measure => simp [intOf]; omega
    · have hmk : ma = k := by rw [HMa.out, ← HIl.out, ← HLa.out, List.length_map]
      have HMk := hide hmk
      have hlq : la.length ≤ 1000000 := by rw [← HMa.out, hmk]; omega
      have HLs := hide (rleaves_any (.slice aa ma ca) S0.its wr ⟨la, lc_of_owns HAl.out.row.1.1 (HAl.out.row.lists hlq), HLa.out⟩ (by rw [HIl.out]; omega) (fun y hy => by have := (HIt.out y hy).1; omega))
      clear hmk hlq
      have hmk40 : ma ≤ 40 := by rw [HMk.out]; exact hk40
      go_upto_region 6 with fail
      go_cut [46] from 39 to 45 (fun s wc => s = .bool false ∧ wc = wr)
      case first =>
        by_cases hl1 : k < N
        · have hl1' : (k : Int) < (N : Int) := by omega
          have hl2' : ¬ (k : Int) < 40 := by omega
          have hd1 : decide ((k : Int) < (N : Int)) = true := decide_eq_true hl1'
          have hd2 : decide ((k : Int) < 40) = false := decide_eq_false hl2'
          go_wp2_with fail
          go_meet
          exact ⟨rfl, rfl⟩
        · have hl1' : ¬ (k : Int) < (N : Int) := by omega
          have hd1 : decide ((k : Int) < (N : Int)) = false := decide_eq_false hl1'
          go_wp2_with fail
          go_meet
          exact ⟨rfl, rfl⟩
      case rest =>
        obtain ⟨rfl, hwc⟩ := hcut
        subst wc
        have HWi := hide (within_wi pi 0 ma)
        have HWs := hide (within_wi ps 0 ma)
        have HWf := hide (within_wi pf 0 ma)
        clear hlt
        go_wp2_with fail
        refine HLs.out.mono ?_
        rintro ee w5 ⟨a5, m5, c5, rfl, A5⟩
        obtain ⟨ls, hls⟩ : ∃ ls, ls = S0.its.map tleafP := ⟨_, rfl⟩
        rw [← hls] at A5
        have hlsl : ls.length = ma := by rw [hls, List.length_map, HIl.out, HMk.out]
        have M5 : LcM ls (.slice a5 m5 c5) w5 := A5.lcm (by omega)
        have hm5 : m5 = ma := by rw [← hlsl]; exact A5.cap
        have HLsl := hide hlsl
        have HLs5 := hide hls
        have HM5 := hide M5
        have HK5 := hide A5.kp
        subst hm5
        clear A5 M5 hls hlsl HLs
        go_wp2_with fail
        refine (HWi.out w5 (by omega) (by omega) (by omega)).mono ?_
        rintro ee w6 ⟨rfl, hw6⟩
        subst w6
        go_wp2_with fail
        refine (HWs.out w5 (by omega) (by omega) (by omega)).mono ?_
        rintro ee w6 ⟨rfl, hw6⟩
        subst w6
        go_wp2_with fail
        refine (HWf.out w5 (by omega) (by omega) (by omega)).mono ?_
        rintro ee w6 ⟨rfl, hw6⟩
        subst w6
        have hbi := wiP_ge pi 0 m5 (by omega)
        have hbs := wiP_ge ps 0 m5 (by omega)
        have hbf := wiP_ge pf 0 m5 (by omega)
        obtain ⟨qi, hqi⟩ : ∃ q, q = wiP pi 0 m5 := ⟨_, rfl⟩
        obtain ⟨qs, hqs⟩ : ∃ q, q = wiP ps 0 m5 := ⟨_, rfl⟩
        obtain ⟨qf, hqf⟩ : ∃ q, q = wiP pf 0 m5 := ⟨_, rfl⟩
        rw [← hqi] at hbi ⊢
        rw [← hqs] at hbs ⊢
        rw [← hqf] at hbf ⊢
        have HBi := hide hbi
        have HBs := hide hbs
        have HBf := hide hbf
        clear hqi hqs hqf hbi hbs hbf HWi HWs HWf
        go_wp2_with fail
        obtain ⟨gq, hgq⟩ : ∃ g, g = w5.heap.size := ⟨_, rfl⟩
        obtain ⟨wd, hwd⟩ : ∃ y, y = w5.alloc (.cells #[.int .i64 pi, .int .i64 ps, .int .i64 pf, .int .i64 qi, .int .i64 qs, .int .i64 qf] 51) := ⟨_, rfl⟩
        have Hgq : Hid (wd.heap[gq]? = some (.cells #[.int .i64 pi, .int .i64 ps, .int .i64 pf, .int .i64 qi, .int .i64 qs, .int .i64 qf] 51 (0, 0))) := hide (by rw [hwd, hgq]; exact heap_alloc_new w5 _)
        have HKd : Hid (Kp [] wr wd) := hide (by rw [hwd]; exact HK5.out.trans ((Kp.refl [] w5).alloc _))
        have HMd : Hid (LcM ls (.slice a5 m5 c5) wd) := hide (by rw [hwd]; exact HM5.out.kept ((Kp.refl [] w5).alloc _))
        rw [← hwd, ← hgq]
        have HLd := hide (HLg.out.on HKd.out)
        have HGd := hide (HG.out.kept HLd.out.kp (by simp))
        have HLs : Hid (S0.its.map tleafP = ls) := hide HLs5.out.symm
        have HIs : Hid (S0.its.length = m5) := hide (by rw [HIl.out, HMk.out])
        clear hwd hgq HK5 HM5 HLs5 HLg HAl HU HMa HLa HIt
        go_loopw [90] (fun j wz => ∃ q : Nat, q ≤ 2 ∧ j = .int .i64 q ∧ Hid (Kp [] wd wz)) (fun j _ => 2 - (intOf j).toNat)
        case atStart => exact ⟨0, by omega, rfl, hide (Kp.refl _ _)⟩
        case round =>
          obtain ⟨wy, hwy⟩ : ∃ y, y = wr := ⟨_, rfl⟩
          obtain ⟨q, hq, rfl, HKz⟩ := hrel
          by_cases hq2 : q < 2
          · have hq2' : (q : Int) < 2 := by omega
            have hgz := HKz.out.heap Hgq.out (by simp)
            obtain ⟨zi, zs, zf, hrg, hbz⟩ : ∃ zi zs zf : Int, wr.rangeAt gq (q * 3) [.int .i64 zi, .int .i64 zs, .int .i64 zf] ∧ (-9223372036854775808 ≤ zi ∧ zi ≤ 9223372036854775807) ∧ (-9223372036854775808 ≤ zs ∧ zs ≤ 9223372036854775807) ∧ (-9223372036854775808 ≤ zf ∧ zf ≤ 9223372036854775807) := by
              rcases (by omega : q = 0 ∨ q = 1) with rfl | rfl
              · exact ⟨pi, ps, pf, flat_range hgz 0 _ (flat_in rfl), HPi.out, HPs.out, HPf.out⟩
              · have := HBi.out
                have := HBs.out
                have := HBf.out
                exact ⟨qi, qs, qf, flat_range hgz 3 _ (flat_in rfl), by omega, by omega, by omega⟩
            have HBz := hide hbz
            have hz0 : wr.cell? ⟨gq, q * 3, none⟩ = some (.int .i64 zi) := hrg 0 _ rfl
            have hz1 : wr.cell? ⟨gq, q * 3 + 1, none⟩ = some (.int .i64 zs) := hrg 1 _ rfl
            have hz2 : wr.cell? ⟨gq, q * 3 + 2, none⟩ = some (.int .i64 zf) := hrg 2 _ rfl
            have G19 := heap_alloc_new wr (.cells #[.int .i64 0, .int .i64 0, .int .i64 0] 51)
            clear hrg hbz hgz
            go_wp2_with (refine wpList_store_flat rfl 51 (.tmp 19) (.tmp 93) rfl wr.heap.size 0 rfl #[.int .i64 0, .int .i64 0, .int .i64 0] 51 [.int .i64 zi, .int .i64 zs, .int .i64 zf] G19 rfl (by simp) Tryz.sz3 (by simp [Value.oneCell']) #[.int .i64 zi, .int .i64 zs, .int .i64 zf] rfl ?_; intro w6 G6 K6; refine Hid.out ?_)
            have K6b : Kp [] wr w6 := ((Kp.refl [] wr).alloc _).then K6 (by simp)
            have HK6 := hide (HKz.out.trans K6b)
            obtain ⟨g19, hg19⟩ : ∃ g, g = wr.heap.size := ⟨_, rfl⟩
            rw [← hg19] at G6 ⊢
            have HG6 : Hid (∀ w', Kp [] w6 w' → w'.heap[g19]? = some (.cells #[.int .i64 zi, .int .i64 zs, .int .i64 zf] 51 (0, 0))) := hide (fun w' k => k.heap G6 (by simp))
            obtain ⟨z0, z1, z2⟩ := cell_tri (HG6.out w6 (Kp.refl _ _))
            clear hz0 hz1 hz2 G19 G6 K6 K6b hg19
            refine hide ?_
            have HCl := hide (uinc_any (HLd.out.on HK6.out) zi zs (HGd.out.kept HK6.out (by simp)))
            rw [HIs.out, List.map_take, HLs.out] at HCl
            go_wp2_with fail
            refine HCl.out.mono ?_
            rintro ee w7 ⟨px, py, a7, m7, c7, en, rfl, hP, K7⟩
            have G7 := heap_alloc_new w7 (.cells #[.int .i64 0, .int .i64 0, .slice none 0 0] 54)
            have HK7 := hide K7
            have HPp := hide hP
            clear HCl hP K7 z0 z1 z2
            go_wp2_with (refine wpList_store_tri triP rfl (.tmp 20) (.tmp 101) rfl w7.heap.size rfl _ _ _ _ _ _ G7 rfl ⟨rfl, rfl, rfl⟩ ?_; intro w8 G8 K8; refine Hid.out ?_)
            have Kb : Kp [] w7 w8 := ((Kp.refl [] w7).alloc _).then K8 (by simp)
            have HK8 := hide (HK7.out.trans Kb)
            obtain ⟨g20, hg20⟩ : ∃ g, g = w7.heap.size := ⟨_, rfl⟩
            rw [← hg20] at G8 ⊢
            have HG8 : Hid (∀ w', Kp [] w8 w' → w'.heap[g20]? = some (.cells #[.int .i64 px, .int .i64 py, .slice a7 m7 c7] 54 (0, 0))) := hide (fun w' k => k.heap G8 (by simp))
            have HPk : Hid (∀ w', Kp [] w8 w' → IncP w' (0 ≤ zs ∧ zs ≤ (m5 : Int) ∧ 0 ≤ zi ∧ zi < zs) zi zs (incP (ls.take zs.toNat) zi.toNat) px py a7 m7 c7 en) := hide (fun w' k => by
              rcases HPp.out with ⟨h1, h2, h3, h4, h5⟩ | h1
              · exact .inl ⟨h1, h2, h3, h4, h5.kept (Kb.trans k)⟩
              · exact .inr h1)
            have HG6b : Hid (∀ w', Kp [] w8 w' → w'.heap[g19]? = some (.cells #[.int .i64 zi, .int .i64 zs, .int .i64 zf] 51 (0, 0))) := hide (fun w' k => HG6.out w' (HK8.out.trans k))
            obtain ⟨z0, z1, z2⟩ := cell_tri (HG6b.out w8 (Kp.refl _ _))
            have HKA := hide (HK6.out.trans HK8.out)
            clear G7 G8 K8 Kb hg20 HPp HG6 HK6 HK7 HK8
            refine hide ?_
            go_upto_region 19 with fail
            go_cut [22] from 103 to 123 (fun s wc => s = .bool (decide (0 ≤ zs ∧ zs ≤ (m5 : Int) ∧ 0 ≤ zi ∧ zi < zs)) ∧ wc = w8)
            case first =>
              by_cases h1 : 0 ≤ zs
              · have d1 : decide (0 ≤ zs) = true := decide_eq_true h1
                by_cases h2 : zs ≤ (m5 : Int)
                · have d2 : decide (zs ≤ (m5 : Int)) = true := decide_eq_true h2
                  by_cases h3 : 0 ≤ zi
                  · have d3 : decide (0 ≤ zi) = true := decide_eq_true h3
                    by_cases h4 : zi < zs
                    · have d4 : decide (zi < zs) = true := decide_eq_true h4
                      have HE : Hid (decide (0 ≤ zs ∧ zs ≤ (m5 : Int) ∧ 0 ≤ zi ∧ zi < zs) = true) := hide (decide_eq_true ⟨h1, h2, h3, h4⟩)
                      go_wp2_with fail
                      go_meet
                      exact ⟨by rw [HE.out], rfl⟩
                    · have d4 : decide (zi < zs) = false := decide_eq_false h4
                      have HE : Hid (decide (0 ≤ zs ∧ zs ≤ (m5 : Int) ∧ 0 ≤ zi ∧ zi < zs) = false) := hide (decide_eq_false (fun e => h4 e.2.2.2))
                      go_wp2_with fail
                      go_meet
                      exact ⟨by rw [HE.out], rfl⟩
                  · have d3 : decide (0 ≤ zi) = false := decide_eq_false h3
                    have HE : Hid (decide (0 ≤ zs ∧ zs ≤ (m5 : Int) ∧ 0 ≤ zi ∧ zi < zs) = false) := hide (decide_eq_false (fun e => h3 e.2.2.1))
                    go_wp2_with fail
                    go_meet
                    exact ⟨by rw [HE.out], rfl⟩
                · have d2 : decide (zs ≤ (m5 : Int)) = false := decide_eq_false h2
                  have HE : Hid (decide (0 ≤ zs ∧ zs ≤ (m5 : Int) ∧ 0 ≤ zi ∧ zi < zs) = false) := hide (decide_eq_false (fun e => h2 e.2.1))
                  go_wp2_with fail
                  go_meet
                  exact ⟨by rw [HE.out], rfl⟩
              · have d1 : decide (0 ≤ zs) = false := decide_eq_false h1
                have HE : Hid (decide (0 ≤ zs ∧ zs ≤ (m5 : Int) ∧ 0 ≤ zi ∧ zi < zs) = false) := hide (decide_eq_false (fun e => h1 e.1))
                go_wp2_with fail
                go_meet
                exact ⟨by rw [HE.out], rfl⟩
            case rest =>
              obtain ⟨rfl, hwc⟩ := hcut
              subst wc
              go_upto_region 20 with fail
              obtain ⟨bo, hbo⟩ : ∃ b, b = decide (0 ≤ zs ∧ zs ≤ (m5 : Int) ∧ 0 ≤ zi ∧ zi < zs) := ⟨_, rfl⟩
              rw [← hbo]
              have HBo := hide hbo
              clear hbo
              go_cut [171] from 124 to 170 (fun s wc => s = .bool false ∧ Hid (Kp [] w8 wc))
              case first =>
                rcases HPk.out w8 (Kp.refl _ _) with ⟨h1, rfl, rfl, rfl, -⟩ | ⟨h1, rfl, rfl, rfl, rfl, rfl, rfl⟩
                · obtain rfl : bo = true := by rw [HBo.out, decide_eq_true h1]
                  obtain ⟨h2, h3, h4, h5⟩ := h1
                  obtain ⟨sN, rfl⟩ := Int.eq_ofNat_of_zero_le h2
                  obtain ⟨iN, rfl⟩ := Int.eq_ofNat_of_zero_le h4
                  have hsn : sN ≤ ls.length := by rw [HLsl.out]; omega
                  obtain ⟨PS, hps⟩ : ∃ P, P = incP (ls.take sN) iN := ⟨_, rfl⟩
                  have HTl0 : (ls.take sN).length = sN := by rw [List.length_take]; omega
                  have HPl : Hid (PS.length ≤ 1000) := hide (by rw [hps]; have := incP_1000 (ls := ls.take sN) (i := iN) (by omega); omega)
                  have HTl := hide HTl0
                  have HIn : Hid (iN < sN) := hide (by omega)
                  have HSm : Hid (sN ≤ 100000) := hide (by omega)
                  have HTm : Hid (∀ x ∈ ls.take sN, x.length ≤ 1000) := hide (fun x hx => leafs_few S0.its x (by rw [HLs.out]; exact List.mem_of_mem_take hx))
                  have HPs2 := hide hps
                  have HSn := hide hsn
                  have hD8 : ∀ w', Kp [] w8.drew w' → Kp [] w8 w' := fun w' k => (kp_drew w8).trans k
                  have HPp : Hid (∀ w', Kp [] w8.drew w' → LcM PS (.slice a7 m7 c7) w') := hide (fun w' k => by
                    rcases HPk.out w' (hD8 w' k) with ⟨-, -, -, -, h⟩ | ⟨h, -⟩
                    · rw [hps]; exact h
                    · exact absurd ⟨h2, h3, h4, h5⟩ h)
                  have HGp : Hid (∀ w', Kp [] w8.drew w' → w'.heap[g20]? = some (.cells #[.int .i64 (iN : Nat), .int .i64 (sN : Nat), .slice a7 m7 c7] 54 (0, 0))) := hide (fun w' k => HG8.out w' (hD8 w' k))
                  have HLl : Hid (∀ w', Kp [] w8.drew w' → LcM ls (.slice a5 m5 c5) w') := hide (fun w' k => HMd.out.kept (HKA.out.trans (hD8 w' k)))
                  have HQ0 : Hid (∀ w', Kp [] w8.drew w' → w'.cell? ⟨g19, 0, none⟩ = some (.int .i64 (iN : Nat))) := hide (fun w' k => (cell_tri (HG6b.out w' (hD8 w' k))).1)
                  have HQ1 : Hid (∀ w', Kp [] w8.drew w' → w'.cell? ⟨g19, 1, none⟩ = some (.int .i64 (sN : Nat))) := hide (fun w' k => (cell_tri (HG6b.out w' (hD8 w' k))).2.1)
                  clear hps hD8 hsn HTl0 h2 h3 h4 h5 z0 z1 z2
                  go_wp2_with fail
                  refine region_grow Tryz.mixed [Is (.int .i64 0), Is (.bool true), Is (.bool true), Is (.bool false), Is (.bool false), Is (.bool true), Is (.bool false), Is (.bool false), Is (undef), Is (undef), Is (undef), Is (undef), Is (undef), Is (undef), Is (undef), Is (undef), Is (.bool false), Is (.bool false), Is (.bool false), Is (.bool true), Is (.bool true), Is (.pointer (some ⟨g20, 0, none⟩)), Is (.int .i64 (iN : Nat)), Is (.pointer (some ⟨g19, 0, none⟩)), Is (.int .i64 (iN : Nat)), Is (.bool false), Is (.bool false), Is (.pointer (some ⟨g20, 1, none⟩)), Is (.int .i64 (sN : Nat)), Is (.pointer (some ⟨g19, 1, none⟩)), Is (.int .i64 (sN : Nat)), Is (.bool false), Is (.bool false), Is (.bool false), Is (.pointer (some ⟨g20, 2, none⟩)), Is (.slice a7 m7 c7), Is (.slice a5 m5 c5), Is (.pointer (some ⟨g19, 1, none⟩)), Is (.int .i64 (sN : Nat)), LcM ((ls).take sN), Is (.pointer (some ⟨g19, 0, none⟩)), Is (.int .i64 (iN : Nat)), LcM PS, Is (.bool true), Is (.bool false), Is (.bool false), Is (.bool false), Is (.bool false)] [[(21, none)], [(124, some 0)], [(22, none)], [(125, some 1), (126, some 2)], [(127, some 3)], [(22, none), (128, some 4)], [(129, some 5), (128, some 4)], [(130, some 6), (128, some 4)], [(21, none), (131, some 7)], [(132, some 8), (131, some 7)], [(133, some 9), (131, some 7)], [(20, none), (134, some 10)], [(135, some 11), (134, some 10)], [(136, some 12), (134, some 10)], [(137, some 13), (134, some 10)], [(134, some 10), (138, some 14), (131, some 7)], [(131, some 7), (139, some 15), (128, some 4)], [(128, some 4), (140, some 16)], [(141, some 17)], [(22, none), (142, some 18)], [(143, some 19), (142, some 18)], [(20, none), (144, some 20)], [(145, some 21), (144, some 20)], [(19, none), (144, some 20)], [(147, some 23), (144, some 20)], [(146, some 22), (148, some 24), (144, some 20)], [(149, some 25), (144, some 20)], [(20, none), (150, some 26)], [(151, some 27), (150, some 26)], [(19, none), (150, some 26)], [(153, some 29), (150, some 26)], [(152, some 28), (154, some 30), (150, some 26)], [(150, some 26), (155, some 31), (144, some 20)], [(156, some 32), (144, some 20)], [(20, none), (157, some 33)], [(158, some 34), (157, some 33)], [(16, none), (157, some 33)], [(19, none), (157, some 33)], [(161, some 37), (157, some 33)], [(160, some 36), (162, some 38), (157, some 33)], [(19, none), (157, some 33)], [(164, some 40), (157, some 33)], [(163, some 39), (165, some 41), (157, some 33)], [(159, some 35), (166, some 42), (157, some 33)], [(167, some 43), (157, some 33)], [(157, some 33), (168, some 44), (144, some 20)], [(144, some 20), (169, some 45), (142, some 18)], [(142, some 18), (170, some 46)]] (by kernel_rfl) ?_ ?_ ?_
                  · simp only [List.mem_cons, List.not_mem_nil, or_false]
                    intro R hR
                    rcases hR with rfl | rfl | rfl | rfl | rfl | rfl | rfl | rfl | rfl | rfl | rfl | rfl | rfl | rfl | rfl | rfl | rfl | rfl | rfl | rfl | rfl | rfl | rfl | rfl | rfl | rfl | rfl | rfl | rfl | rfl | rfl | rfl | rfl | rfl | rfl | rfl | rfl | rfl | rfl | rfl | rfl | rfl | rfl | rfl | rfl | rfl | rfl | rfl <;> first | exact stable_is _ | exact stable_lcm _
                  · refine steps_cons (fun a w hk hn => ?_) ?_
                    · have h21 : a.eval (.tmp 21) = .int .i64 0 := hn.1
                      clear hn
                      refine wants_plain rfl ?_
                      exact grown_move (.tmp 21) rfl h21
                    refine steps_cons (fun a w hk hn => ?_) ?_
                    · have h124 : a.eval (.tmp 124) = .int .i64 0 := hn.1
                      clear hn
                      refine wants_plain rfl ?_
                      refine grown_run (v := .bool true) ?_ (Kp.refl _ _) rfl
                      obtain ⟨ρ, hρ, hc, hf, hg⟩ := eval_is a
                      rw [hρ] at h124 ⊢
                      simp [go_sem, hc, h124]
                    refine steps_cons (fun a w hk hn => ?_) ?_
                    · have h22 : a.eval (.tmp 22) = .bool true := hn.1
                      clear hn
                      refine wants_plain rfl ?_
                      exact grown_move (.tmp 22) rfl h22
                    refine steps_cons (fun a w hk hn => ?_) ?_
                    · have h125 : a.eval (.tmp 125) = .bool true := hn.1
                      have h126 : a.eval (.tmp 126) = .bool true := hn.2.1
                      clear hn
                      refine wants_plain rfl ?_
                      refine grown_run (v := .bool false) ?_ (Kp.refl _ _) rfl
                      obtain ⟨ρ, hρ, hc, hf, hg⟩ := eval_is a
                      rw [hρ] at h125 h126 ⊢
                      simp [go_sem, h125, h126]
                    refine steps_cons (fun a w hk hn => ?_) ?_
                    · have h127 : a.eval (.tmp 127) = .bool false := hn.1
                      clear hn
                      refine wants_plain rfl ?_
                      exact grown_move (.tmp 127) rfl h127
                    refine steps_cons (fun a w hk hn => ?_) ?_
                    · have h22 : a.eval (.tmp 22) = .bool true := hn.1
                      have h128 : a.eval (.tmp 128) = .bool false := hn.2.1
                      clear hn
                      refine wants_guard (d := 128) rfl rfl h128 ?_
                      exact grown_move (.tmp 22) rfl h22
                    refine steps_cons (fun a w hk hn => ?_) ?_
                    · have h129 : a.eval (.tmp 129) = .bool true := hn.1
                      have h128 : a.eval (.tmp 128) = .bool false := hn.2.1
                      clear hn
                      refine wants_guard (d := 128) rfl rfl h128 ?_
                      refine grown_run (v := .bool false) ?_ (Kp.refl _ _) rfl
                      obtain ⟨ρ, hρ, hc, hf, hg⟩ := eval_is a
                      rw [hρ] at h129 ⊢
                      simp [go_sem, h129]
                    refine steps_cons (fun a w hk hn => ?_) ?_
                    · have h130 : a.eval (.tmp 130) = .bool false := hn.1
                      have h128 : a.eval (.tmp 128) = .bool false := hn.2.1
                      clear hn
                      refine wants_guard (d := 128) rfl rfl h128 ?_
                      exact grown_move (.tmp 130) rfl h130
                    refine steps_cons (fun a w hk hn => ?_) ?_
                    · have h21 : a.eval (.tmp 21) = .int .i64 0 := hn.1
                      have h131 : a.eval (.tmp 131) = .bool false := hn.2.1
                      clear hn
                      exact wants_not (d := 131) rfl rfl h131 rfl
                    refine steps_cons (fun a w hk hn => ?_) ?_
                    · have h132 : a.eval (.tmp 132) = undef := hn.1
                      have h131 : a.eval (.tmp 131) = .bool false := hn.2.1
                      clear hn
                      exact wants_not (d := 131) rfl rfl h131 rfl
                    refine steps_cons (fun a w hk hn => ?_) ?_
                    · have h133 : a.eval (.tmp 133) = undef := hn.1
                      have h131 : a.eval (.tmp 131) = .bool false := hn.2.1
                      clear hn
                      exact wants_not (d := 131) rfl rfl h131 rfl
                    refine steps_cons (fun a w hk hn => ?_) ?_
                    · have h20 : a.eval (.tmp 20) = .pointer (some ⟨g20, 0, none⟩) := hn.1
                      have h134 : a.eval (.tmp 134) = undef := hn.2.1
                      clear hn
                      exact wants_none (d := 134) rfl rfl h134 rfl
                    refine steps_cons (fun a w hk hn => ?_) ?_
                    · have h135 : a.eval (.tmp 135) = undef := hn.1
                      have h134 : a.eval (.tmp 134) = undef := hn.2.1
                      clear hn
                      exact wants_none (d := 134) rfl rfl h134 rfl
                    refine steps_cons (fun a w hk hn => ?_) ?_
                    · have h136 : a.eval (.tmp 136) = undef := hn.1
                      have h134 : a.eval (.tmp 134) = undef := hn.2.1
                      clear hn
                      exact wants_none (d := 134) rfl rfl h134 rfl
                    refine steps_cons (fun a w hk hn => ?_) ?_
                    · have h137 : a.eval (.tmp 137) = undef := hn.1
                      have h134 : a.eval (.tmp 134) = undef := hn.2.1
                      clear hn
                      exact wants_none (d := 134) rfl rfl h134 rfl
                    refine steps_cons (fun a w hk hn => ?_) ?_
                    · have h134 : a.eval (.tmp 134) = undef := hn.1
                      have h138 : a.eval (.tmp 138) = undef := hn.2.1
                      have h131 : a.eval (.tmp 131) = .bool false := hn.2.2.1
                      clear hn
                      exact wants_not (d := 131) rfl rfl h131 rfl
                    refine steps_cons (fun a w hk hn => ?_) ?_
                    · have h131 : a.eval (.tmp 131) = .bool false := hn.1
                      have h139 : a.eval (.tmp 139) = undef := hn.2.1
                      have h128 : a.eval (.tmp 128) = .bool false := hn.2.2.1
                      clear hn
                      refine wants_guard (d := 128) rfl rfl h128 ?_
                      exact grown_pick _ _ _ false rfl h131 rfl
                    refine steps_cons (fun a w hk hn => ?_) ?_
                    · have h128 : a.eval (.tmp 128) = .bool false := hn.1
                      have h140 : a.eval (.tmp 140) = .bool false := hn.2.1
                      clear hn
                      refine wants_plain rfl ?_
                      exact grown_pick _ _ _ false rfl h128 h140
                    refine steps_cons (fun a w hk hn => ?_) ?_
                    · have h141 : a.eval (.tmp 141) = .bool false := hn.1
                      clear hn
                      refine wants_plain rfl ?_
                      exact grown_move (.tmp 141) rfl h141
                    refine steps_cons (fun a w hk hn => ?_) ?_
                    · have h22 : a.eval (.tmp 22) = .bool true := hn.1
                      have h142 : a.eval (.tmp 142) = .bool false := hn.2.1
                      clear hn
                      refine wants_guard (d := 142) rfl rfl h142 ?_
                      exact grown_move (.tmp 22) rfl h22
                    refine steps_cons (fun a w hk hn => ?_) ?_
                    · have h143 : a.eval (.tmp 143) = .bool true := hn.1
                      have h142 : a.eval (.tmp 142) = .bool false := hn.2.1
                      clear hn
                      refine wants_guard (d := 142) rfl rfl h142 ?_
                      exact grown_move (.tmp 143) rfl h143
                    refine steps_cons (fun a w hk hn => ?_) ?_
                    · have h20 : a.eval (.tmp 20) = .pointer (some ⟨g20, 0, none⟩) := hn.1
                      have h144 : a.eval (.tmp 144) = .bool true := hn.2.1
                      clear hn
                      refine wants_guard (d := 144) rfl rfl h144 ?_
                      exact grown_fld0 triP (.tmp 20) rfl h20
                    refine steps_cons (fun a w hk hn => ?_) ?_
                    · have h145 : a.eval (.tmp 145) = .pointer (some ⟨g20, 0, none⟩) := hn.1
                      have h144 : a.eval (.tmp 144) = .bool true := hn.2.1
                      clear hn
                      refine wants_guard (d := 144) rfl rfl h144 ?_
                      exact grown_ldi (.tmp 145) rfl 0 _ h145 (cell_tri (HGp.out w hk)).1
                    refine steps_cons (fun a w hk hn => ?_) ?_
                    · have h19 : a.eval (.tmp 19) = .pointer (some ⟨g19, 0, none⟩) := hn.1
                      have h144 : a.eval (.tmp 144) = .bool true := hn.2.1
                      clear hn
                      refine wants_guard (d := 144) rfl rfl h144 ?_
                      refine grown_run (v := .pointer (some ⟨g19, 0, none⟩)) ?_ (Kp.refl _ _) rfl
                      obtain ⟨ρ, hρ, hc, hf, hg⟩ := eval_is a
                      rw [hρ] at h19 ⊢
                      simp [go_sem, hc, h19]
                    refine steps_cons (fun a w hk hn => ?_) ?_
                    · have h147 : a.eval (.tmp 147) = .pointer (some ⟨g19, 0, none⟩) := hn.1
                      have h144 : a.eval (.tmp 144) = .bool true := hn.2.1
                      clear hn
                      refine wants_guard (d := 144) rfl rfl h144 ?_
                      refine grown_run (v := .int .i64 (iN : Nat)) ?_ (Kp.refl _ _) rfl
                      have hcell := HQ0.out w hk
                      obtain ⟨ρ, hρ, hc, hf, hg⟩ := eval_is a
                      rw [hρ] at h147 ⊢
                      simp [go_sem, h147, hcell]
                    refine steps_cons (fun a w hk hn => ?_) ?_
                    · have h146 : a.eval (.tmp 146) = .int .i64 (iN : Nat) := hn.1
                      have h148 : a.eval (.tmp 148) = .int .i64 (iN : Nat) := hn.2.1
                      have h144 : a.eval (.tmp 144) = .bool true := hn.2.2.1
                      clear hn
                      refine wants_guard (d := 144) rfl rfl h144 ?_
                      refine grown_run (v := .bool false) ?_ (Kp.refl _ _) rfl
                      obtain ⟨ρ, hρ, hc, hf, hg⟩ := eval_is a
                      rw [hρ] at h146 h148 ⊢
                      simp [go_sem, h146, h148]
                    refine steps_cons (fun a w hk hn => ?_) ?_
                    · have h149 : a.eval (.tmp 149) = .bool false := hn.1
                      have h144 : a.eval (.tmp 144) = .bool true := hn.2.1
                      clear hn
                      refine wants_guard (d := 144) rfl rfl h144 ?_
                      exact grown_move (.tmp 149) rfl h149
                    refine steps_cons (fun a w hk hn => ?_) ?_
                    · have h20 : a.eval (.tmp 20) = .pointer (some ⟨g20, 0, none⟩) := hn.1
                      have h150 : a.eval (.tmp 150) = .bool false := hn.2.1
                      clear hn
                      refine wants_guard (d := 150) rfl rfl h150 ?_
                      exact grown_fld1 triP (.tmp 20) rfl h20
                    refine steps_cons (fun a w hk hn => ?_) ?_
                    · have h151 : a.eval (.tmp 151) = .pointer (some ⟨g20, 1, none⟩) := hn.1
                      have h150 : a.eval (.tmp 150) = .bool false := hn.2.1
                      clear hn
                      refine wants_guard (d := 150) rfl rfl h150 ?_
                      exact grown_ldi (.tmp 151) rfl 1 _ h151 (cell_tri (HGp.out w hk)).2.1
                    refine steps_cons (fun a w hk hn => ?_) ?_
                    · have h19 : a.eval (.tmp 19) = .pointer (some ⟨g19, 0, none⟩) := hn.1
                      have h150 : a.eval (.tmp 150) = .bool false := hn.2.1
                      clear hn
                      refine wants_guard (d := 150) rfl rfl h150 ?_
                      refine grown_run (v := .pointer (some ⟨g19, 1, none⟩)) ?_ (Kp.refl _ _) rfl
                      obtain ⟨ρ, hρ, hc, hf, hg⟩ := eval_is a
                      rw [hρ] at h19 ⊢
                      simp [go_sem, hc, h19]
                    refine steps_cons (fun a w hk hn => ?_) ?_
                    · have h153 : a.eval (.tmp 153) = .pointer (some ⟨g19, 1, none⟩) := hn.1
                      have h150 : a.eval (.tmp 150) = .bool false := hn.2.1
                      clear hn
                      refine wants_guard (d := 150) rfl rfl h150 ?_
                      refine grown_run (v := .int .i64 (sN : Nat)) ?_ (Kp.refl _ _) rfl
                      have hcell := HQ1.out w hk
                      obtain ⟨ρ, hρ, hc, hf, hg⟩ := eval_is a
                      rw [hρ] at h153 ⊢
                      simp [go_sem, h153, hcell]
                    refine steps_cons (fun a w hk hn => ?_) ?_
                    · have h152 : a.eval (.tmp 152) = .int .i64 (sN : Nat) := hn.1
                      have h154 : a.eval (.tmp 154) = .int .i64 (sN : Nat) := hn.2.1
                      have h150 : a.eval (.tmp 150) = .bool false := hn.2.2.1
                      clear hn
                      refine wants_guard (d := 150) rfl rfl h150 ?_
                      refine grown_run (v := .bool false) ?_ (Kp.refl _ _) rfl
                      obtain ⟨ρ, hρ, hc, hf, hg⟩ := eval_is a
                      rw [hρ] at h152 h154 ⊢
                      simp [go_sem, h152, h154]
                    refine steps_cons (fun a w hk hn => ?_) ?_
                    · have h150 : a.eval (.tmp 150) = .bool false := hn.1
                      have h155 : a.eval (.tmp 155) = .bool false := hn.2.1
                      have h144 : a.eval (.tmp 144) = .bool true := hn.2.2.1
                      clear hn
                      refine wants_guard (d := 144) rfl rfl h144 ?_
                      exact grown_pick _ _ _ false rfl h150 h155
                    refine steps_cons (fun a w hk hn => ?_) ?_
                    · have h156 : a.eval (.tmp 156) = .bool false := hn.1
                      have h144 : a.eval (.tmp 144) = .bool true := hn.2.1
                      clear hn
                      refine wants_guard (d := 144) rfl rfl h144 ?_
                      exact grown_move (.tmp 156) rfl h156
                    refine steps_cons (fun a w hk hn => ?_) ?_
                    · have h20 : a.eval (.tmp 20) = .pointer (some ⟨g20, 0, none⟩) := hn.1
                      have h157 : a.eval (.tmp 157) = .bool false := hn.2.1
                      clear hn
                      refine wants_guard (d := 157) rfl rfl h157 ?_
                      exact grown_fld2 triP (.tmp 20) rfl h20
                    refine steps_cons (fun a w hk hn => ?_) ?_
                    · have h158 : a.eval (.tmp 158) = .pointer (some ⟨g20, 2, none⟩) := hn.1
                      have h157 : a.eval (.tmp 157) = .bool false := hn.2.1
                      clear hn
                      refine wants_guard (d := 157) rfl rfl h157 ?_
                      exact grown_ldl (.tmp 158) rfl 2 _ _ _ h158 (cell_tri (HGp.out w hk)).2.2
                    refine steps_cons (fun a w hk hn => ?_) ?_
                    · have h16 : a.eval (.tmp 16) = .slice a5 m5 c5 := hn.1
                      have h157 : a.eval (.tmp 157) = .bool false := hn.2.1
                      clear hn
                      refine wants_guard (d := 157) rfl rfl h157 ?_
                      exact grown_move (.tmp 16) rfl h16
                    refine steps_cons (fun a w hk hn => ?_) ?_
                    · have h19 : a.eval (.tmp 19) = .pointer (some ⟨g19, 0, none⟩) := hn.1
                      have h157 : a.eval (.tmp 157) = .bool false := hn.2.1
                      clear hn
                      refine wants_guard (d := 157) rfl rfl h157 ?_
                      refine grown_run (v := .pointer (some ⟨g19, 1, none⟩)) ?_ (Kp.refl _ _) rfl
                      obtain ⟨ρ, hρ, hc, hf, hg⟩ := eval_is a
                      rw [hρ] at h19 ⊢
                      simp [go_sem, hc, h19]
                    refine steps_cons (fun a w hk hn => ?_) ?_
                    · have h161 : a.eval (.tmp 161) = .pointer (some ⟨g19, 1, none⟩) := hn.1
                      have h157 : a.eval (.tmp 157) = .bool false := hn.2.1
                      clear hn
                      refine wants_guard (d := 157) rfl rfl h157 ?_
                      refine grown_run (v := .int .i64 (sN : Nat)) ?_ (Kp.refl _ _) rfl
                      have hcell := HQ1.out w hk
                      obtain ⟨ρ, hρ, hc, hf, hg⟩ := eval_is a
                      rw [hρ] at h161 ⊢
                      simp [go_sem, h161, hcell]
                    refine steps_cons (fun a w hk hn => ?_) ?_
                    · have h160 : a.eval (.tmp 160) = .slice a5 m5 c5 := hn.1
                      have h162 : a.eval (.tmp 162) = .int .i64 (sN : Nat) := hn.2.1
                      have h157 : a.eval (.tmp 157) = .bool false := hn.2.2.1
                      clear hn
                      refine wants_guard (d := 157) rfl rfl h157 ?_
                      exact grown_lhead (.tmp 160) (.tmp 162) (ls) sN rfl (by rw [h160]; exact HLl.out w hk) h162 (HSn.out)
                    refine steps_cons (fun a w hk hn => ?_) ?_
                    · have h19 : a.eval (.tmp 19) = .pointer (some ⟨g19, 0, none⟩) := hn.1
                      have h157 : a.eval (.tmp 157) = .bool false := hn.2.1
                      clear hn
                      refine wants_guard (d := 157) rfl rfl h157 ?_
                      refine grown_run (v := .pointer (some ⟨g19, 0, none⟩)) ?_ (Kp.refl _ _) rfl
                      obtain ⟨ρ, hρ, hc, hf, hg⟩ := eval_is a
                      rw [hρ] at h19 ⊢
                      simp [go_sem, hc, h19]
                    refine steps_cons (fun a w hk hn => ?_) ?_
                    · have h164 : a.eval (.tmp 164) = .pointer (some ⟨g19, 0, none⟩) := hn.1
                      have h157 : a.eval (.tmp 157) = .bool false := hn.2.1
                      clear hn
                      refine wants_guard (d := 157) rfl rfl h157 ?_
                      refine grown_run (v := .int .i64 (iN : Nat)) ?_ (Kp.refl _ _) rfl
                      have hcell := HQ0.out w hk
                      obtain ⟨ρ, hρ, hc, hf, hg⟩ := eval_is a
                      rw [hρ] at h164 ⊢
                      simp [go_sem, h164, hcell]
                    refine steps_cons (fun a w hk hn => ?_) ?_
                    · have h163 : (LcM ((ls).take sN)) (a.eval (.tmp 163)) w := hn.1
                      have h165 : a.eval (.tmp 165) = .int .i64 (iN : Nat) := hn.2.1
                      have h157 : a.eval (.tmp 157) = .bool false := hn.2.2.1
                      clear hn
                      refine wants_guard (d := 157) rfl rfl h157 ?_
                      refine grown_call (f := 28) rfl Tryz.func28 (by kernel_rfl) (by kernel_rfl) ?_
                      simp only [List.map_toArray, List.map_cons, List.map_nil, h165]
                      refine (rinc_any sN _ (ls.take sN) iN PS w HPs2.out HTl.out HIn.out HSm.out h163 HTm.out).mono ?_
                      rintro e w' ⟨ao, m, c, rfl, A⟩
                      exact ⟨_, rfl, A.kp, A.lcm HPl.out⟩
                    refine steps_cons (fun a w hk hn => ?_) ?_
                    · have h159 : a.eval (.tmp 159) = .slice a7 m7 c7 := hn.1
                      have h166 : (LcM PS) (a.eval (.tmp 166)) w := hn.2.1
                      have h157 : a.eval (.tmp 157) = .bool false := hn.2.2.1
                      clear hn
                      refine wants_guard (d := 157) rfl rfl h157 ?_
                      refine grown_call (f := 27) rfl Tryz.func27 (by kernel_rfl) (by kernel_rfl) ?_
                      simp only [List.map_toArray, List.map_cons, List.map_nil, h159]
                      refine (lists_lsm (HPp.out w hk).lsm h166.lsm).mono ?_
                      rintro e w' ⟨rfl, K⟩
                      exact ⟨_, rfl, K, rfl⟩
                    refine steps_cons (fun a w hk hn => ?_) ?_
                    · have h167 : a.eval (.tmp 167) = .bool true := hn.1
                      have h157 : a.eval (.tmp 157) = .bool false := hn.2.1
                      clear hn
                      refine wants_guard (d := 157) rfl rfl h157 ?_
                      refine grown_run (v := .bool false) ?_ (Kp.refl _ _) rfl
                      obtain ⟨ρ, hρ, hc, hf, hg⟩ := eval_is a
                      rw [hρ] at h167 ⊢
                      simp [go_sem, h167]
                    refine steps_cons (fun a w hk hn => ?_) ?_
                    · have h157 : a.eval (.tmp 157) = .bool false := hn.1
                      have h168 : a.eval (.tmp 168) = .bool false := hn.2.1
                      have h144 : a.eval (.tmp 144) = .bool true := hn.2.2.1
                      clear hn
                      refine wants_guard (d := 144) rfl rfl h144 ?_
                      exact grown_pick _ _ _ false rfl h157 h168
                    refine steps_cons (fun a w hk hn => ?_) ?_
                    · have h144 : a.eval (.tmp 144) = .bool true := hn.1
                      have h169 : a.eval (.tmp 169) = .bool false := hn.2.1
                      have h142 : a.eval (.tmp 142) = .bool false := hn.2.2.1
                      clear hn
                      refine wants_guard (d := 142) rfl rfl h142 ?_
                      exact grown_pick _ _ _ true rfl h144 h169
                    refine steps_cons (fun a w hk hn => ?_) ?_
                    · have h142 : a.eval (.tmp 142) = .bool false := hn.1
                      have h170 : a.eval (.tmp 170) = .bool false := hn.2.1
                      clear hn
                      refine wants_plain rfl ?_
                      exact grown_pick _ _ _ false rfl h142 h170
                    exact trivial
                  intro W1 hkW1
                  rintro _ rfl
                  rintro _ rfl
                  rintro _ rfl
                  rintro _ rfl
                  rintro _ rfl
                  rintro _ rfl
                  rintro _ rfl
                  rintro _ rfl
                  rintro _ rfl
                  rintro _ rfl
                  rintro _ rfl
                  rintro _ rfl
                  rintro _ rfl
                  rintro _ rfl
                  rintro _ rfl
                  rintro _ rfl
                  rintro _ rfl
                  rintro _ rfl
                  rintro _ rfl
                  rintro _ rfl
                  rintro _ rfl
                  rintro _ rfl
                  rintro _ rfl
                  rintro _ rfl
                  rintro _ rfl
                  rintro _ rfl
                  rintro _ rfl
                  rintro _ rfl
                  rintro _ rfl
                  rintro _ rfl
                  rintro _ rfl
                  rintro _ rfl
                  rintro _ rfl
                  rintro _ rfl
                  rintro _ rfl
                  rintro _ rfl
                  rintro _ rfl
                  rintro _ rfl
                  rintro _ rfl
                  intro v163 h163
                  rintro _ rfl
                  rintro _ rfl
                  intro v166 h166
                  rintro _ rfl
                  rintro _ rfl
                  rintro _ rfl
                  rintro _ rfl
                  rintro _ rfl
                  refine fin_nil ?_
                  simp only [Act.put, List.set_cons_zero, List.set_cons_succ, List.setIfInBounds_toArray]
                  go_wp2_with fail
                  go_meet
                  exact ⟨rfl, hide ((kp_drew w8).trans hkW1)⟩
                · obtain rfl : bo = false := by rw [HBo.out, decide_eq_false h1]
                  have HGp : Hid (∀ w', Kp [] w8.drew w' → w'.heap[g20]? = some (.cells #[.int .i64 0, .int .i64 0, .slice none 0 0] 54 (0, 0))) := hide (fun w' k => HG8.out w' ((kp_drew w8).trans k))
                  clear h1 z0 z1 z2
                  go_wp2_with fail
                  refine region_grow Tryz.mixed [Is (.int .i64 1), Is (.bool false), Is (.bool false), Is (.bool false), Is (.bool false), Is (.bool false), Is (.bool true), Is (.bool true), Is (.int .i64 1), Is (.bool false), Is (.bool false), Is (.pointer (some ⟨g20, 2, none⟩)), Is (.slice none 0 0), Is (.int .i64 0), Is (.bool false), Is (.bool false), Is (.bool false), Is (.bool false), Is (.bool false), Is (.bool false), Is (.bool false), Is (undef), Is (undef), Is (undef), Is (undef), Is (undef), Is (undef), Is (undef), Is (undef), Is (undef), Is (undef), Is (undef), Is (undef), Is (undef), Is (undef), Is (undef), Is (undef), Is (undef), Is (undef), Is (undef), Is (undef), Is (undef), Is (undef), Is (undef), Is (undef), Is (undef), Is (.bool false), Is (.bool false)] [[(21, none)], [(124, some 0)], [(22, none)], [(125, some 1), (126, some 2)], [(127, some 3)], [(22, none), (128, some 4)], [(129, some 5), (128, some 4)], [(130, some 6), (128, some 4)], [(21, none), (131, some 7)], [(132, some 8), (131, some 7)], [(133, some 9), (131, some 7)], [(20, none), (134, some 10)], [(135, some 11), (134, some 10)], [(136, some 12), (134, some 10)], [(137, some 13), (134, some 10)], [(134, some 10), (138, some 14), (131, some 7)], [(131, some 7), (139, some 15), (128, some 4)], [(128, some 4), (140, some 16)], [(141, some 17)], [(22, none), (142, some 18)], [(143, some 19), (142, some 18)], [(20, none), (144, some 20)], [(145, some 21), (144, some 20)], [(19, none), (144, some 20)], [(147, some 23), (144, some 20)], [(146, some 22), (148, some 24), (144, some 20)], [(149, some 25), (144, some 20)], [(20, none), (150, some 26)], [(151, some 27), (150, some 26)], [(19, none), (150, some 26)], [(153, some 29), (150, some 26)], [(152, some 28), (154, some 30), (150, some 26)], [(150, some 26), (155, some 31), (144, some 20)], [(156, some 32), (144, some 20)], [(20, none), (157, some 33)], [(158, some 34), (157, some 33)], [(16, none), (157, some 33)], [(19, none), (157, some 33)], [(161, some 37), (157, some 33)], [(160, some 36), (162, some 38), (157, some 33)], [(19, none), (157, some 33)], [(164, some 40), (157, some 33)], [(163, some 39), (165, some 41), (157, some 33)], [(159, some 35), (166, some 42), (157, some 33)], [(167, some 43), (157, some 33)], [(157, some 33), (168, some 44), (144, some 20)], [(144, some 20), (169, some 45), (142, some 18)], [(142, some 18), (170, some 46)]] (by kernel_rfl) ?_ ?_ ?_
                  · simp only [List.mem_cons, List.not_mem_nil, or_false]
                    intro R hR
                    rcases hR with rfl | rfl | rfl | rfl | rfl | rfl | rfl | rfl | rfl | rfl | rfl | rfl | rfl | rfl | rfl | rfl | rfl | rfl | rfl | rfl | rfl | rfl | rfl | rfl | rfl | rfl | rfl | rfl | rfl | rfl | rfl | rfl | rfl | rfl | rfl | rfl | rfl | rfl | rfl | rfl | rfl | rfl | rfl | rfl | rfl | rfl | rfl | rfl <;> first | exact stable_is _
                  · refine steps_cons (fun a w hk hn => ?_) ?_
                    · have h21 : a.eval (.tmp 21) = .int .i64 1 := hn.1
                      clear hn
                      refine wants_plain rfl ?_
                      exact grown_move (.tmp 21) rfl h21
                    refine steps_cons (fun a w hk hn => ?_) ?_
                    · have h124 : a.eval (.tmp 124) = .int .i64 1 := hn.1
                      clear hn
                      refine wants_plain rfl ?_
                      refine grown_run (v := .bool false) ?_ (Kp.refl _ _) rfl
                      obtain ⟨ρ, hρ, hc, hf, hg⟩ := eval_is a
                      rw [hρ] at h124 ⊢
                      simp [go_sem, hc, h124]
                    refine steps_cons (fun a w hk hn => ?_) ?_
                    · have h22 : a.eval (.tmp 22) = .bool false := hn.1
                      clear hn
                      refine wants_plain rfl ?_
                      exact grown_move (.tmp 22) rfl h22
                    refine steps_cons (fun a w hk hn => ?_) ?_
                    · have h125 : a.eval (.tmp 125) = .bool false := hn.1
                      have h126 : a.eval (.tmp 126) = .bool false := hn.2.1
                      clear hn
                      refine wants_plain rfl ?_
                      refine grown_run (v := .bool false) ?_ (Kp.refl _ _) rfl
                      obtain ⟨ρ, hρ, hc, hf, hg⟩ := eval_is a
                      rw [hρ] at h125 h126 ⊢
                      simp [go_sem, h125, h126]
                    refine steps_cons (fun a w hk hn => ?_) ?_
                    · have h127 : a.eval (.tmp 127) = .bool false := hn.1
                      clear hn
                      refine wants_plain rfl ?_
                      exact grown_move (.tmp 127) rfl h127
                    refine steps_cons (fun a w hk hn => ?_) ?_
                    · have h22 : a.eval (.tmp 22) = .bool false := hn.1
                      have h128 : a.eval (.tmp 128) = .bool false := hn.2.1
                      clear hn
                      refine wants_guard (d := 128) rfl rfl h128 ?_
                      exact grown_move (.tmp 22) rfl h22
                    refine steps_cons (fun a w hk hn => ?_) ?_
                    · have h129 : a.eval (.tmp 129) = .bool false := hn.1
                      have h128 : a.eval (.tmp 128) = .bool false := hn.2.1
                      clear hn
                      refine wants_guard (d := 128) rfl rfl h128 ?_
                      refine grown_run (v := .bool true) ?_ (Kp.refl _ _) rfl
                      obtain ⟨ρ, hρ, hc, hf, hg⟩ := eval_is a
                      rw [hρ] at h129 ⊢
                      simp [go_sem, h129]
                    refine steps_cons (fun a w hk hn => ?_) ?_
                    · have h130 : a.eval (.tmp 130) = .bool true := hn.1
                      have h128 : a.eval (.tmp 128) = .bool false := hn.2.1
                      clear hn
                      refine wants_guard (d := 128) rfl rfl h128 ?_
                      exact grown_move (.tmp 130) rfl h130
                    refine steps_cons (fun a w hk hn => ?_) ?_
                    · have h21 : a.eval (.tmp 21) = .int .i64 1 := hn.1
                      have h131 : a.eval (.tmp 131) = .bool true := hn.2.1
                      clear hn
                      refine wants_guard (d := 131) rfl rfl h131 ?_
                      exact grown_move (.tmp 21) rfl h21
                    refine steps_cons (fun a w hk hn => ?_) ?_
                    · have h132 : a.eval (.tmp 132) = .int .i64 1 := hn.1
                      have h131 : a.eval (.tmp 131) = .bool true := hn.2.1
                      clear hn
                      refine wants_guard (d := 131) rfl rfl h131 ?_
                      refine grown_run (v := .bool false) ?_ (Kp.refl _ _) rfl
                      obtain ⟨ρ, hρ, hc, hf, hg⟩ := eval_is a
                      rw [hρ] at h132 ⊢
                      simp [go_sem, hc, h132]
                    refine steps_cons (fun a w hk hn => ?_) ?_
                    · have h133 : a.eval (.tmp 133) = .bool false := hn.1
                      have h131 : a.eval (.tmp 131) = .bool true := hn.2.1
                      clear hn
                      refine wants_guard (d := 131) rfl rfl h131 ?_
                      exact grown_move (.tmp 133) rfl h133
                    refine steps_cons (fun a w hk hn => ?_) ?_
                    · have h20 : a.eval (.tmp 20) = .pointer (some ⟨g20, 0, none⟩) := hn.1
                      have h134 : a.eval (.tmp 134) = .bool false := hn.2.1
                      clear hn
                      refine wants_guard (d := 134) rfl rfl h134 ?_
                      exact grown_fld2 triP (.tmp 20) rfl h20
                    refine steps_cons (fun a w hk hn => ?_) ?_
                    · have h135 : a.eval (.tmp 135) = .pointer (some ⟨g20, 2, none⟩) := hn.1
                      have h134 : a.eval (.tmp 134) = .bool false := hn.2.1
                      clear hn
                      refine wants_guard (d := 134) rfl rfl h134 ?_
                      exact grown_ldl (.tmp 135) rfl 2 _ _ _ h135 (cell_tri (HGp.out w hk)).2.2
                    refine steps_cons (fun a w hk hn => ?_) ?_
                    · have h136 : a.eval (.tmp 136) = .slice none 0 0 := hn.1
                      have h134 : a.eval (.tmp 134) = .bool false := hn.2.1
                      clear hn
                      refine wants_guard (d := 134) rfl rfl h134 ?_
                      refine grown_run (v := .int .i64 0) ?_ (Kp.refl _ _) rfl
                      obtain ⟨ρ, hρ, hc, hf, hg⟩ := eval_is a
                      rw [hρ] at h136 ⊢
                      simp [go_sem, h136]
                    refine steps_cons (fun a w hk hn => ?_) ?_
                    · have h137 : a.eval (.tmp 137) = .int .i64 0 := hn.1
                      have h134 : a.eval (.tmp 134) = .bool false := hn.2.1
                      clear hn
                      refine wants_guard (d := 134) rfl rfl h134 ?_
                      refine grown_run (v := .bool false) ?_ (Kp.refl _ _) rfl
                      obtain ⟨ρ, hρ, hc, hf, hg⟩ := eval_is a
                      rw [hρ] at h137 ⊢
                      simp [go_sem, hc, h137]
                    refine steps_cons (fun a w hk hn => ?_) ?_
                    · have h134 : a.eval (.tmp 134) = .bool false := hn.1
                      have h138 : a.eval (.tmp 138) = .bool false := hn.2.1
                      have h131 : a.eval (.tmp 131) = .bool true := hn.2.2.1
                      clear hn
                      refine wants_guard (d := 131) rfl rfl h131 ?_
                      exact grown_pick _ _ _ false rfl h134 h138
                    refine steps_cons (fun a w hk hn => ?_) ?_
                    · have h131 : a.eval (.tmp 131) = .bool true := hn.1
                      have h139 : a.eval (.tmp 139) = .bool false := hn.2.1
                      have h128 : a.eval (.tmp 128) = .bool false := hn.2.2.1
                      clear hn
                      refine wants_guard (d := 128) rfl rfl h128 ?_
                      exact grown_pick _ _ _ true rfl h131 h139
                    refine steps_cons (fun a w hk hn => ?_) ?_
                    · have h128 : a.eval (.tmp 128) = .bool false := hn.1
                      have h140 : a.eval (.tmp 140) = .bool false := hn.2.1
                      clear hn
                      refine wants_plain rfl ?_
                      exact grown_pick _ _ _ false rfl h128 h140
                    refine steps_cons (fun a w hk hn => ?_) ?_
                    · have h141 : a.eval (.tmp 141) = .bool false := hn.1
                      clear hn
                      refine wants_plain rfl ?_
                      exact grown_move (.tmp 141) rfl h141
                    refine steps_cons (fun a w hk hn => ?_) ?_
                    · have h22 : a.eval (.tmp 22) = .bool false := hn.1
                      have h142 : a.eval (.tmp 142) = .bool false := hn.2.1
                      clear hn
                      refine wants_guard (d := 142) rfl rfl h142 ?_
                      exact grown_move (.tmp 22) rfl h22
                    refine steps_cons (fun a w hk hn => ?_) ?_
                    · have h143 : a.eval (.tmp 143) = .bool false := hn.1
                      have h142 : a.eval (.tmp 142) = .bool false := hn.2.1
                      clear hn
                      refine wants_guard (d := 142) rfl rfl h142 ?_
                      exact grown_move (.tmp 143) rfl h143
                    refine steps_cons (fun a w hk hn => ?_) ?_
                    · have h20 : a.eval (.tmp 20) = .pointer (some ⟨g20, 0, none⟩) := hn.1
                      have h144 : a.eval (.tmp 144) = .bool false := hn.2.1
                      clear hn
                      exact wants_not (d := 144) rfl rfl h144 rfl
                    refine steps_cons (fun a w hk hn => ?_) ?_
                    · have h145 : a.eval (.tmp 145) = undef := hn.1
                      have h144 : a.eval (.tmp 144) = .bool false := hn.2.1
                      clear hn
                      exact wants_not (d := 144) rfl rfl h144 rfl
                    refine steps_cons (fun a w hk hn => ?_) ?_
                    · have h19 : a.eval (.tmp 19) = .pointer (some ⟨g19, 0, none⟩) := hn.1
                      have h144 : a.eval (.tmp 144) = .bool false := hn.2.1
                      clear hn
                      exact wants_not (d := 144) rfl rfl h144 rfl
                    refine steps_cons (fun a w hk hn => ?_) ?_
                    · have h147 : a.eval (.tmp 147) = undef := hn.1
                      have h144 : a.eval (.tmp 144) = .bool false := hn.2.1
                      clear hn
                      exact wants_not (d := 144) rfl rfl h144 rfl
                    refine steps_cons (fun a w hk hn => ?_) ?_
                    · have h146 : a.eval (.tmp 146) = undef := hn.1
                      have h148 : a.eval (.tmp 148) = undef := hn.2.1
                      have h144 : a.eval (.tmp 144) = .bool false := hn.2.2.1
                      clear hn
                      exact wants_not (d := 144) rfl rfl h144 rfl
                    refine steps_cons (fun a w hk hn => ?_) ?_
                    · have h149 : a.eval (.tmp 149) = undef := hn.1
                      have h144 : a.eval (.tmp 144) = .bool false := hn.2.1
                      clear hn
                      exact wants_not (d := 144) rfl rfl h144 rfl
                    refine steps_cons (fun a w hk hn => ?_) ?_
                    · have h20 : a.eval (.tmp 20) = .pointer (some ⟨g20, 0, none⟩) := hn.1
                      have h150 : a.eval (.tmp 150) = undef := hn.2.1
                      clear hn
                      exact wants_none (d := 150) rfl rfl h150 rfl
                    refine steps_cons (fun a w hk hn => ?_) ?_
                    · have h151 : a.eval (.tmp 151) = undef := hn.1
                      have h150 : a.eval (.tmp 150) = undef := hn.2.1
                      clear hn
                      exact wants_none (d := 150) rfl rfl h150 rfl
                    refine steps_cons (fun a w hk hn => ?_) ?_
                    · have h19 : a.eval (.tmp 19) = .pointer (some ⟨g19, 0, none⟩) := hn.1
                      have h150 : a.eval (.tmp 150) = undef := hn.2.1
                      clear hn
                      exact wants_none (d := 150) rfl rfl h150 rfl
                    refine steps_cons (fun a w hk hn => ?_) ?_
                    · have h153 : a.eval (.tmp 153) = undef := hn.1
                      have h150 : a.eval (.tmp 150) = undef := hn.2.1
                      clear hn
                      exact wants_none (d := 150) rfl rfl h150 rfl
                    refine steps_cons (fun a w hk hn => ?_) ?_
                    · have h152 : a.eval (.tmp 152) = undef := hn.1
                      have h154 : a.eval (.tmp 154) = undef := hn.2.1
                      have h150 : a.eval (.tmp 150) = undef := hn.2.2.1
                      clear hn
                      exact wants_none (d := 150) rfl rfl h150 rfl
                    refine steps_cons (fun a w hk hn => ?_) ?_
                    · have h150 : a.eval (.tmp 150) = undef := hn.1
                      have h155 : a.eval (.tmp 155) = undef := hn.2.1
                      have h144 : a.eval (.tmp 144) = .bool false := hn.2.2.1
                      clear hn
                      exact wants_not (d := 144) rfl rfl h144 rfl
                    refine steps_cons (fun a w hk hn => ?_) ?_
                    · have h156 : a.eval (.tmp 156) = undef := hn.1
                      have h144 : a.eval (.tmp 144) = .bool false := hn.2.1
                      clear hn
                      exact wants_not (d := 144) rfl rfl h144 rfl
                    refine steps_cons (fun a w hk hn => ?_) ?_
                    · have h20 : a.eval (.tmp 20) = .pointer (some ⟨g20, 0, none⟩) := hn.1
                      have h157 : a.eval (.tmp 157) = undef := hn.2.1
                      clear hn
                      exact wants_none (d := 157) rfl rfl h157 rfl
                    refine steps_cons (fun a w hk hn => ?_) ?_
                    · have h158 : a.eval (.tmp 158) = undef := hn.1
                      have h157 : a.eval (.tmp 157) = undef := hn.2.1
                      clear hn
                      exact wants_none (d := 157) rfl rfl h157 rfl
                    refine steps_cons (fun a w hk hn => ?_) ?_
                    · have h16 : a.eval (.tmp 16) = .slice a5 m5 c5 := hn.1
                      have h157 : a.eval (.tmp 157) = undef := hn.2.1
                      clear hn
                      exact wants_none (d := 157) rfl rfl h157 rfl
                    refine steps_cons (fun a w hk hn => ?_) ?_
                    · have h19 : a.eval (.tmp 19) = .pointer (some ⟨g19, 0, none⟩) := hn.1
                      have h157 : a.eval (.tmp 157) = undef := hn.2.1
                      clear hn
                      exact wants_none (d := 157) rfl rfl h157 rfl
                    refine steps_cons (fun a w hk hn => ?_) ?_
                    · have h161 : a.eval (.tmp 161) = undef := hn.1
                      have h157 : a.eval (.tmp 157) = undef := hn.2.1
                      clear hn
                      exact wants_none (d := 157) rfl rfl h157 rfl
                    refine steps_cons (fun a w hk hn => ?_) ?_
                    · have h160 : a.eval (.tmp 160) = undef := hn.1
                      have h162 : a.eval (.tmp 162) = undef := hn.2.1
                      have h157 : a.eval (.tmp 157) = undef := hn.2.2.1
                      clear hn
                      exact wants_none (d := 157) rfl rfl h157 rfl
                    refine steps_cons (fun a w hk hn => ?_) ?_
                    · have h19 : a.eval (.tmp 19) = .pointer (some ⟨g19, 0, none⟩) := hn.1
                      have h157 : a.eval (.tmp 157) = undef := hn.2.1
                      clear hn
                      exact wants_none (d := 157) rfl rfl h157 rfl
                    refine steps_cons (fun a w hk hn => ?_) ?_
                    · have h164 : a.eval (.tmp 164) = undef := hn.1
                      have h157 : a.eval (.tmp 157) = undef := hn.2.1
                      clear hn
                      exact wants_none (d := 157) rfl rfl h157 rfl
                    refine steps_cons (fun a w hk hn => ?_) ?_
                    · have h163 : a.eval (.tmp 163) = undef := hn.1
                      have h165 : a.eval (.tmp 165) = undef := hn.2.1
                      have h157 : a.eval (.tmp 157) = undef := hn.2.2.1
                      clear hn
                      exact wants_none (d := 157) rfl rfl h157 rfl
                    refine steps_cons (fun a w hk hn => ?_) ?_
                    · have h159 : a.eval (.tmp 159) = undef := hn.1
                      have h166 : a.eval (.tmp 166) = undef := hn.2.1
                      have h157 : a.eval (.tmp 157) = undef := hn.2.2.1
                      clear hn
                      exact wants_none (d := 157) rfl rfl h157 rfl
                    refine steps_cons (fun a w hk hn => ?_) ?_
                    · have h167 : a.eval (.tmp 167) = undef := hn.1
                      have h157 : a.eval (.tmp 157) = undef := hn.2.1
                      clear hn
                      exact wants_none (d := 157) rfl rfl h157 rfl
                    refine steps_cons (fun a w hk hn => ?_) ?_
                    · have h157 : a.eval (.tmp 157) = undef := hn.1
                      have h168 : a.eval (.tmp 168) = undef := hn.2.1
                      have h144 : a.eval (.tmp 144) = .bool false := hn.2.2.1
                      clear hn
                      exact wants_not (d := 144) rfl rfl h144 rfl
                    refine steps_cons (fun a w hk hn => ?_) ?_
                    · have h144 : a.eval (.tmp 144) = .bool false := hn.1
                      have h169 : a.eval (.tmp 169) = undef := hn.2.1
                      have h142 : a.eval (.tmp 142) = .bool false := hn.2.2.1
                      clear hn
                      refine wants_guard (d := 142) rfl rfl h142 ?_
                      exact grown_pick _ _ _ false rfl h144 rfl
                    refine steps_cons (fun a w hk hn => ?_) ?_
                    · have h142 : a.eval (.tmp 142) = .bool false := hn.1
                      have h170 : a.eval (.tmp 170) = .bool false := hn.2.1
                      clear hn
                      refine wants_plain rfl ?_
                      exact grown_pick _ _ _ false rfl h142 h170
                    exact trivial
                  intro W1 hkW1
                  rintro _ rfl
                  rintro _ rfl
                  rintro _ rfl
                  rintro _ rfl
                  rintro _ rfl
                  rintro _ rfl
                  rintro _ rfl
                  rintro _ rfl
                  rintro _ rfl
                  rintro _ rfl
                  rintro _ rfl
                  rintro _ rfl
                  rintro _ rfl
                  rintro _ rfl
                  rintro _ rfl
                  rintro _ rfl
                  rintro _ rfl
                  rintro _ rfl
                  rintro _ rfl
                  rintro _ rfl
                  rintro _ rfl
                  rintro _ rfl
                  rintro _ rfl
                  rintro _ rfl
                  rintro _ rfl
                  rintro _ rfl
                  rintro _ rfl
                  rintro _ rfl
                  rintro _ rfl
                  rintro _ rfl
                  rintro _ rfl
                  rintro _ rfl
                  rintro _ rfl
                  rintro _ rfl
                  rintro _ rfl
                  rintro _ rfl
                  rintro _ rfl
                  rintro _ rfl
                  rintro _ rfl
                  rintro _ rfl
                  rintro _ rfl
                  rintro _ rfl
                  rintro _ rfl
                  rintro _ rfl
                  rintro _ rfl
                  rintro _ rfl
                  rintro _ rfl
                  rintro _ rfl
                  refine fin_nil ?_
                  simp only [Act.put, List.set_cons_zero, List.set_cons_succ, List.setIfInBounds_toArray]
                  go_wp2_with fail
                  go_meet
                  exact ⟨rfl, hide ((kp_drew w8).trans hkW1)⟩
              case rest =>
                obtain ⟨rfl, HKc⟩ := hcut
                obtain ⟨wx, hwx⟩ : ∃ y, y = wc := ⟨_, rfl⟩
                have HKx := hide (HKA.out.trans HKc.out)
                have HG6c : Hid (∀ w', Kp [] wc w' → w'.heap[g19]? = some (.cells #[.int .i64 zi, .int .i64 zs, .int .i64 zf] 51 (0, 0))) := hide (fun w' k => HG6b.out w' (HKc.out.trans k))
                obtain ⟨z0, z1, z2⟩ := cell_tri (HG6c.out wc (Kp.refl _ _))
                have HCl := hide (ugro_any (HLd.out.on HKx.out) zf zs (HGd.out.kept HKx.out (by simp)))
                rw [HIs.out, List.map_take, HLs.out] at HCl
                clear HG8 HPk HG6b HKA HKc hwx
                go_wp2_with fail
                refine HCl.out.mono ?_
                rintro ee w9 ⟨px, py, a7, m7, c7, en, rfl, hP, K9⟩
                have G9 := heap_alloc_new w9 (.cells #[.int .i64 0, .int .i64 0, .slice none 0 0] 60)
                have HK9 := hide K9
                have HPp := hide hP
                clear HCl hP K9 z0 z1 z2
                go_wp2_with (refine wpList_store_tri triG rfl (.tmp 23) (.tmp 179) rfl w9.heap.size rfl _ _ _ _ _ _ G9 rfl ⟨rfl, rfl, rfl⟩ ?_; intro w8 G8 K8; refine Hid.out ?_)
                have Kb : Kp [] w9 w8 := ((Kp.refl [] w9).alloc _).then K8 (by simp)
                have HK8 := hide (HK9.out.trans Kb)
                obtain ⟨g23, hg23⟩ : ∃ g, g = w9.heap.size := ⟨_, rfl⟩
                rw [← hg23] at G8 ⊢
                have HG8 : Hid (∀ w', Kp [] w8 w' → w'.heap[g23]? = some (.cells #[.int .i64 px, .int .i64 py, .slice a7 m7 c7] 60 (0, 0))) := hide (fun w' k => k.heap G8 (by simp))
                have HPk : Hid (∀ w', Kp [] w8 w' → GroP w' (0 ≤ zs ∧ zs ≤ (m5 : Int) ∧ 0 ≤ zf ∧ zf ≤ zs) zf zs (growP zf.toNat (ls.take zs.toNat)) px py a7 m7 c7 en) := hide (fun w' k => by
                  rcases HPp.out with ⟨h1, h2, h3, h4, h5⟩ | h1
                  · exact .inl ⟨h1, h2, h3, h4, h5.kept (Kb.trans k)⟩
                  · exact .inr h1)
                have HG6b : Hid (∀ w', Kp [] w8 w' → w'.heap[g19]? = some (.cells #[.int .i64 zi, .int .i64 zs, .int .i64 zf] 51 (0, 0))) := hide (fun w' k => HG6c.out w' (HK8.out.trans k))
                obtain ⟨z0, z1, z2⟩ := cell_tri (HG6b.out w8 (Kp.refl _ _))
                have HKA := hide (HKx.out.trans HK8.out)
                clear G9 G8 K8 Kb hg23 HPp HG6c HKx HK9 HK8
                refine hide ?_
                go_upto_region 23 with fail
                go_cut [25] from 181 to 196 (fun s wc => s = .bool (decide (0 ≤ zs ∧ zs ≤ (m5 : Int) ∧ 0 ≤ zf ∧ zf ≤ zs)) ∧ wc = w8)
                case first =>
                  by_cases h1 : 0 ≤ zf
                  · have d1 : decide (0 ≤ zf) = true := decide_eq_true h1
                    by_cases h2 : zf ≤ zs
                    · have d2 : decide (zf ≤ zs) = true := decide_eq_true h2
                      by_cases h3 : zs ≤ (m5 : Int)
                      · have d3 : decide (zs ≤ (m5 : Int)) = true := decide_eq_true h3
                        have HE : Hid (decide (0 ≤ zs ∧ zs ≤ (m5 : Int) ∧ 0 ≤ zf ∧ zf ≤ zs) = true) := hide (decide_eq_true ⟨by omega, h3, h1, h2⟩)
                        go_wp2_with fail
                        go_meet
                        exact ⟨by rw [HE.out], rfl⟩
                      · have d3 : decide (zs ≤ (m5 : Int)) = false := decide_eq_false h3
                        have HE : Hid (decide (0 ≤ zs ∧ zs ≤ (m5 : Int) ∧ 0 ≤ zf ∧ zf ≤ zs) = false) := hide (decide_eq_false (fun e => h3 e.2.1))
                        go_wp2_with fail
                        go_meet
                        exact ⟨by rw [HE.out], rfl⟩
                    · have d2 : decide (zf ≤ zs) = false := decide_eq_false h2
                      have HE : Hid (decide (0 ≤ zs ∧ zs ≤ (m5 : Int) ∧ 0 ≤ zf ∧ zf ≤ zs) = false) := hide (decide_eq_false (fun e => h2 e.2.2.2))
                      go_wp2_with fail
                      go_meet
                      exact ⟨by rw [HE.out], rfl⟩
                  · have d1 : decide (0 ≤ zf) = false := decide_eq_false h1
                    have HE : Hid (decide (0 ≤ zs ∧ zs ≤ (m5 : Int) ∧ 0 ≤ zf ∧ zf ≤ zs) = false) := hide (decide_eq_false (fun e => h1 e.2.2.1))
                    go_wp2_with fail
                    go_meet
                    exact ⟨by rw [HE.out], rfl⟩
                case rest =>
                  obtain ⟨rfl, hwc⟩ := hcut
                  subst wc
                  go_upto_region 24 with fail
                  obtain ⟨bo, hbo⟩ : ∃ b, b = decide (0 ≤ zs ∧ zs ≤ (m5 : Int) ∧ 0 ≤ zf ∧ zf ≤ zs) := ⟨_, rfl⟩
                  rw [← hbo]
                  have HBo := hide hbo
                  clear hbo
                  go_cut [244] from 197 to 243 (fun s wc => s = .bool false ∧ Hid (Kp [] w8 wc))
                  case first =>
                    rcases HPk.out w8 (Kp.refl _ _) with ⟨h1, rfl, rfl, rfl, -⟩ | ⟨h1, rfl, rfl, rfl, rfl, rfl, rfl⟩
                    · obtain rfl : bo = true := by rw [HBo.out, decide_eq_true h1]
                      obtain ⟨h2, h3, h4, h5⟩ := h1
                      obtain ⟨sN, rfl⟩ := Int.eq_ofNat_of_zero_le h2
                      obtain ⟨iN, rfl⟩ := Int.eq_ofNat_of_zero_le h4
                      have hsn : sN ≤ ls.length := by rw [HLsl.out]; omega
                      obtain ⟨PS, hps⟩ : ∃ P, P = growP iN (ls.take sN) := ⟨_, rfl⟩
                      have HTl0 : (ls.take sN).length = sN := by rw [List.length_take]; omega
                      have HPl : Hid (PS.length ≤ 1000) := hide (by rw [hps]; have := growP_1000 (ls := ls.take sN) (m := iN) (by omega) (by omega); omega)
                      have HTl := hide HTl0
                      have HIn : Hid (iN ≤ (ls.take sN).length) := hide (by rw [HTl0]; omega)
                      have HSm : Hid ((ls.take sN).length ≤ 1000) := hide (by rw [HTl0]; omega)
                      have HTm : Hid (∀ x ∈ ls.take sN, x.length ≤ 1000) := hide (fun x hx => leafs_few S0.its x (by rw [HLs.out]; exact List.mem_of_mem_take hx))
                      have HPs2 := hide hps
                      have HSn := hide hsn
                      have hD8 : ∀ w', Kp [] w8.drew w' → Kp [] w8 w' := fun w' k => (kp_drew w8).trans k
                      have HPp : Hid (∀ w', Kp [] w8.drew w' → LcM PS (.slice a7 m7 c7) w') := hide (fun w' k => by
                        rcases HPk.out w' (hD8 w' k) with ⟨-, -, -, -, h⟩ | ⟨h, -⟩
                        · rw [hps]; exact h
                        · exact absurd ⟨h2, h3, h4, h5⟩ h)
                      have HGp : Hid (∀ w', Kp [] w8.drew w' → w'.heap[g23]? = some (.cells #[.int .i64 (iN : Nat), .int .i64 (sN : Nat), .slice a7 m7 c7] 60 (0, 0))) := hide (fun w' k => HG8.out w' (hD8 w' k))
                      have HLl : Hid (∀ w', Kp [] w8.drew w' → LcM ls (.slice a5 m5 c5) w') := hide (fun w' k => HMd.out.kept (HKA.out.trans (hD8 w' k)))
                      have HQ2 : Hid (∀ w', Kp [] w8.drew w' → w'.cell? ⟨g19, 2, none⟩ = some (.int .i64 (iN : Nat))) := hide (fun w' k => (cell_tri (HG6b.out w' (hD8 w' k))).2.2)
                      have HQ1 : Hid (∀ w', Kp [] w8.drew w' → w'.cell? ⟨g19, 1, none⟩ = some (.int .i64 (sN : Nat))) := hide (fun w' k => (cell_tri (HG6b.out w' (hD8 w' k))).2.1)
                      clear hps hD8 hsn HTl0 h2 h3 h4 h5 z0 z1 z2
                      go_wp2_with fail
                      refine region_grow Tryz.mixed [Is (.int .i64 0), Is (.bool true), Is (.bool true), Is (.bool false), Is (.bool false), Is (.bool true), Is (.bool false), Is (.bool false), Is (undef), Is (undef), Is (undef), Is (undef), Is (undef), Is (undef), Is (undef), Is (undef), Is (.bool false), Is (.bool false), Is (.bool false), Is (.bool true), Is (.bool true), Is (.pointer (some ⟨g23, 0, none⟩)), Is (.int .i64 (iN : Nat)), Is (.pointer (some ⟨g19, 2, none⟩)), Is (.int .i64 (iN : Nat)), Is (.bool false), Is (.bool false), Is (.pointer (some ⟨g23, 1, none⟩)), Is (.int .i64 (sN : Nat)), Is (.pointer (some ⟨g19, 1, none⟩)), Is (.int .i64 (sN : Nat)), Is (.bool false), Is (.bool false), Is (.bool false), Is (.pointer (some ⟨g23, 2, none⟩)), Is (.slice a7 m7 c7), Is (.slice a5 m5 c5), Is (.pointer (some ⟨g19, 1, none⟩)), Is (.int .i64 (sN : Nat)), LcM ((ls).take sN), Is (.pointer (some ⟨g19, 2, none⟩)), Is (.int .i64 (iN : Nat)), LcM PS, Is (.bool true), Is (.bool false), Is (.bool false), Is (.bool false), Is (.bool false)] [[(24, none)], [(197, some 0)], [(25, none)], [(198, some 1), (199, some 2)], [(200, some 3)], [(25, none), (201, some 4)], [(202, some 5), (201, some 4)], [(203, some 6), (201, some 4)], [(24, none), (204, some 7)], [(205, some 8), (204, some 7)], [(206, some 9), (204, some 7)], [(23, none), (207, some 10)], [(208, some 11), (207, some 10)], [(209, some 12), (207, some 10)], [(210, some 13), (207, some 10)], [(207, some 10), (211, some 14), (204, some 7)], [(204, some 7), (212, some 15), (201, some 4)], [(201, some 4), (213, some 16)], [(214, some 17)], [(25, none), (215, some 18)], [(216, some 19), (215, some 18)], [(23, none), (217, some 20)], [(218, some 21), (217, some 20)], [(19, none), (217, some 20)], [(220, some 23), (217, some 20)], [(219, some 22), (221, some 24), (217, some 20)], [(222, some 25), (217, some 20)], [(23, none), (223, some 26)], [(224, some 27), (223, some 26)], [(19, none), (223, some 26)], [(226, some 29), (223, some 26)], [(225, some 28), (227, some 30), (223, some 26)], [(223, some 26), (228, some 31), (217, some 20)], [(229, some 32), (217, some 20)], [(23, none), (230, some 33)], [(231, some 34), (230, some 33)], [(16, none), (230, some 33)], [(19, none), (230, some 33)], [(234, some 37), (230, some 33)], [(233, some 36), (235, some 38), (230, some 33)], [(19, none), (230, some 33)], [(237, some 40), (230, some 33)], [(236, some 39), (238, some 41), (230, some 33)], [(232, some 35), (239, some 42), (230, some 33)], [(240, some 43), (230, some 33)], [(230, some 33), (241, some 44), (217, some 20)], [(217, some 20), (242, some 45), (215, some 18)], [(215, some 18), (243, some 46)]] (by kernel_rfl) ?_ ?_ ?_
                      · simp only [List.mem_cons, List.not_mem_nil, or_false]
                        intro R hR
                        rcases hR with rfl | rfl | rfl | rfl | rfl | rfl | rfl | rfl | rfl | rfl | rfl | rfl | rfl | rfl | rfl | rfl | rfl | rfl | rfl | rfl | rfl | rfl | rfl | rfl | rfl | rfl | rfl | rfl | rfl | rfl | rfl | rfl | rfl | rfl | rfl | rfl | rfl | rfl | rfl | rfl | rfl | rfl | rfl | rfl | rfl | rfl | rfl | rfl <;> first | exact stable_is _ | exact stable_lcm _
                      · refine steps_cons (fun a w hk hn => ?_) ?_
                        · have h24 : a.eval (.tmp 24) = .int .i64 0 := hn.1
                          clear hn
                          refine wants_plain rfl ?_
                          exact grown_move (.tmp 24) rfl h24
                        refine steps_cons (fun a w hk hn => ?_) ?_
                        · have h197 : a.eval (.tmp 197) = .int .i64 0 := hn.1
                          clear hn
                          refine wants_plain rfl ?_
                          refine grown_run (v := .bool true) ?_ (Kp.refl _ _) rfl
                          obtain ⟨ρ, hρ, hc, hf, hg⟩ := eval_is a
                          rw [hρ] at h197 ⊢
                          simp [go_sem, hc, h197]
                        refine steps_cons (fun a w hk hn => ?_) ?_
                        · have h25 : a.eval (.tmp 25) = .bool true := hn.1
                          clear hn
                          refine wants_plain rfl ?_
                          exact grown_move (.tmp 25) rfl h25
                        refine steps_cons (fun a w hk hn => ?_) ?_
                        · have h198 : a.eval (.tmp 198) = .bool true := hn.1
                          have h199 : a.eval (.tmp 199) = .bool true := hn.2.1
                          clear hn
                          refine wants_plain rfl ?_
                          refine grown_run (v := .bool false) ?_ (Kp.refl _ _) rfl
                          obtain ⟨ρ, hρ, hc, hf, hg⟩ := eval_is a
                          rw [hρ] at h198 h199 ⊢
                          simp [go_sem, h198, h199]
                        refine steps_cons (fun a w hk hn => ?_) ?_
                        · have h200 : a.eval (.tmp 200) = .bool false := hn.1
                          clear hn
                          refine wants_plain rfl ?_
                          exact grown_move (.tmp 200) rfl h200
                        refine steps_cons (fun a w hk hn => ?_) ?_
                        · have h25 : a.eval (.tmp 25) = .bool true := hn.1
                          have h201 : a.eval (.tmp 201) = .bool false := hn.2.1
                          clear hn
                          refine wants_guard (d := 201) rfl rfl h201 ?_
                          exact grown_move (.tmp 25) rfl h25
                        refine steps_cons (fun a w hk hn => ?_) ?_
                        · have h202 : a.eval (.tmp 202) = .bool true := hn.1
                          have h201 : a.eval (.tmp 201) = .bool false := hn.2.1
                          clear hn
                          refine wants_guard (d := 201) rfl rfl h201 ?_
                          refine grown_run (v := .bool false) ?_ (Kp.refl _ _) rfl
                          obtain ⟨ρ, hρ, hc, hf, hg⟩ := eval_is a
                          rw [hρ] at h202 ⊢
                          simp [go_sem, h202]
                        refine steps_cons (fun a w hk hn => ?_) ?_
                        · have h203 : a.eval (.tmp 203) = .bool false := hn.1
                          have h201 : a.eval (.tmp 201) = .bool false := hn.2.1
                          clear hn
                          refine wants_guard (d := 201) rfl rfl h201 ?_
                          exact grown_move (.tmp 203) rfl h203
                        refine steps_cons (fun a w hk hn => ?_) ?_
                        · have h24 : a.eval (.tmp 24) = .int .i64 0 := hn.1
                          have h204 : a.eval (.tmp 204) = .bool false := hn.2.1
                          clear hn
                          exact wants_not (d := 204) rfl rfl h204 rfl
                        refine steps_cons (fun a w hk hn => ?_) ?_
                        · have h205 : a.eval (.tmp 205) = undef := hn.1
                          have h204 : a.eval (.tmp 204) = .bool false := hn.2.1
                          clear hn
                          exact wants_not (d := 204) rfl rfl h204 rfl
                        refine steps_cons (fun a w hk hn => ?_) ?_
                        · have h206 : a.eval (.tmp 206) = undef := hn.1
                          have h204 : a.eval (.tmp 204) = .bool false := hn.2.1
                          clear hn
                          exact wants_not (d := 204) rfl rfl h204 rfl
                        refine steps_cons (fun a w hk hn => ?_) ?_
                        · have h23 : a.eval (.tmp 23) = .pointer (some ⟨g23, 0, none⟩) := hn.1
                          have h207 : a.eval (.tmp 207) = undef := hn.2.1
                          clear hn
                          exact wants_none (d := 207) rfl rfl h207 rfl
                        refine steps_cons (fun a w hk hn => ?_) ?_
                        · have h208 : a.eval (.tmp 208) = undef := hn.1
                          have h207 : a.eval (.tmp 207) = undef := hn.2.1
                          clear hn
                          exact wants_none (d := 207) rfl rfl h207 rfl
                        refine steps_cons (fun a w hk hn => ?_) ?_
                        · have h209 : a.eval (.tmp 209) = undef := hn.1
                          have h207 : a.eval (.tmp 207) = undef := hn.2.1
                          clear hn
                          exact wants_none (d := 207) rfl rfl h207 rfl
                        refine steps_cons (fun a w hk hn => ?_) ?_
                        · have h210 : a.eval (.tmp 210) = undef := hn.1
                          have h207 : a.eval (.tmp 207) = undef := hn.2.1
                          clear hn
                          exact wants_none (d := 207) rfl rfl h207 rfl
                        refine steps_cons (fun a w hk hn => ?_) ?_
                        · have h207 : a.eval (.tmp 207) = undef := hn.1
                          have h211 : a.eval (.tmp 211) = undef := hn.2.1
                          have h204 : a.eval (.tmp 204) = .bool false := hn.2.2.1
                          clear hn
                          exact wants_not (d := 204) rfl rfl h204 rfl
                        refine steps_cons (fun a w hk hn => ?_) ?_
                        · have h204 : a.eval (.tmp 204) = .bool false := hn.1
                          have h212 : a.eval (.tmp 212) = undef := hn.2.1
                          have h201 : a.eval (.tmp 201) = .bool false := hn.2.2.1
                          clear hn
                          refine wants_guard (d := 201) rfl rfl h201 ?_
                          exact grown_pick _ _ _ false rfl h204 rfl
                        refine steps_cons (fun a w hk hn => ?_) ?_
                        · have h201 : a.eval (.tmp 201) = .bool false := hn.1
                          have h213 : a.eval (.tmp 213) = .bool false := hn.2.1
                          clear hn
                          refine wants_plain rfl ?_
                          exact grown_pick _ _ _ false rfl h201 h213
                        refine steps_cons (fun a w hk hn => ?_) ?_
                        · have h214 : a.eval (.tmp 214) = .bool false := hn.1
                          clear hn
                          refine wants_plain rfl ?_
                          exact grown_move (.tmp 214) rfl h214
                        refine steps_cons (fun a w hk hn => ?_) ?_
                        · have h25 : a.eval (.tmp 25) = .bool true := hn.1
                          have h215 : a.eval (.tmp 215) = .bool false := hn.2.1
                          clear hn
                          refine wants_guard (d := 215) rfl rfl h215 ?_
                          exact grown_move (.tmp 25) rfl h25
                        refine steps_cons (fun a w hk hn => ?_) ?_
                        · have h216 : a.eval (.tmp 216) = .bool true := hn.1
                          have h215 : a.eval (.tmp 215) = .bool false := hn.2.1
                          clear hn
                          refine wants_guard (d := 215) rfl rfl h215 ?_
                          exact grown_move (.tmp 216) rfl h216
                        refine steps_cons (fun a w hk hn => ?_) ?_
                        · have h23 : a.eval (.tmp 23) = .pointer (some ⟨g23, 0, none⟩) := hn.1
                          have h217 : a.eval (.tmp 217) = .bool true := hn.2.1
                          clear hn
                          refine wants_guard (d := 217) rfl rfl h217 ?_
                          exact grown_fld0 triG (.tmp 23) rfl h23
                        refine steps_cons (fun a w hk hn => ?_) ?_
                        · have h218 : a.eval (.tmp 218) = .pointer (some ⟨g23, 0, none⟩) := hn.1
                          have h217 : a.eval (.tmp 217) = .bool true := hn.2.1
                          clear hn
                          refine wants_guard (d := 217) rfl rfl h217 ?_
                          exact grown_ldi (.tmp 218) rfl 0 _ h218 (cell_tri (HGp.out w hk)).1
                        refine steps_cons (fun a w hk hn => ?_) ?_
                        · have h19 : a.eval (.tmp 19) = .pointer (some ⟨g19, 0, none⟩) := hn.1
                          have h217 : a.eval (.tmp 217) = .bool true := hn.2.1
                          clear hn
                          refine wants_guard (d := 217) rfl rfl h217 ?_
                          refine grown_run (v := .pointer (some ⟨g19, 2, none⟩)) ?_ (Kp.refl _ _) rfl
                          obtain ⟨ρ, hρ, hc, hf, hg⟩ := eval_is a
                          rw [hρ] at h19 ⊢
                          simp [go_sem, hc, h19]
                        refine steps_cons (fun a w hk hn => ?_) ?_
                        · have h220 : a.eval (.tmp 220) = .pointer (some ⟨g19, 2, none⟩) := hn.1
                          have h217 : a.eval (.tmp 217) = .bool true := hn.2.1
                          clear hn
                          refine wants_guard (d := 217) rfl rfl h217 ?_
                          refine grown_run (v := .int .i64 (iN : Nat)) ?_ (Kp.refl _ _) rfl
                          have hcell := HQ2.out w hk
                          obtain ⟨ρ, hρ, hc, hf, hg⟩ := eval_is a
                          rw [hρ] at h220 ⊢
                          simp [go_sem, h220, hcell]
                        refine steps_cons (fun a w hk hn => ?_) ?_
                        · have h219 : a.eval (.tmp 219) = .int .i64 (iN : Nat) := hn.1
                          have h221 : a.eval (.tmp 221) = .int .i64 (iN : Nat) := hn.2.1
                          have h217 : a.eval (.tmp 217) = .bool true := hn.2.2.1
                          clear hn
                          refine wants_guard (d := 217) rfl rfl h217 ?_
                          refine grown_run (v := .bool false) ?_ (Kp.refl _ _) rfl
                          obtain ⟨ρ, hρ, hc, hf, hg⟩ := eval_is a
                          rw [hρ] at h219 h221 ⊢
                          simp [go_sem, h219, h221]
                        refine steps_cons (fun a w hk hn => ?_) ?_
                        · have h222 : a.eval (.tmp 222) = .bool false := hn.1
                          have h217 : a.eval (.tmp 217) = .bool true := hn.2.1
                          clear hn
                          refine wants_guard (d := 217) rfl rfl h217 ?_
                          exact grown_move (.tmp 222) rfl h222
                        refine steps_cons (fun a w hk hn => ?_) ?_
                        · have h23 : a.eval (.tmp 23) = .pointer (some ⟨g23, 0, none⟩) := hn.1
                          have h223 : a.eval (.tmp 223) = .bool false := hn.2.1
                          clear hn
                          refine wants_guard (d := 223) rfl rfl h223 ?_
                          exact grown_fld1 triG (.tmp 23) rfl h23
                        refine steps_cons (fun a w hk hn => ?_) ?_
                        · have h224 : a.eval (.tmp 224) = .pointer (some ⟨g23, 1, none⟩) := hn.1
                          have h223 : a.eval (.tmp 223) = .bool false := hn.2.1
                          clear hn
                          refine wants_guard (d := 223) rfl rfl h223 ?_
                          exact grown_ldi (.tmp 224) rfl 1 _ h224 (cell_tri (HGp.out w hk)).2.1
                        refine steps_cons (fun a w hk hn => ?_) ?_
                        · have h19 : a.eval (.tmp 19) = .pointer (some ⟨g19, 0, none⟩) := hn.1
                          have h223 : a.eval (.tmp 223) = .bool false := hn.2.1
                          clear hn
                          refine wants_guard (d := 223) rfl rfl h223 ?_
                          refine grown_run (v := .pointer (some ⟨g19, 1, none⟩)) ?_ (Kp.refl _ _) rfl
                          obtain ⟨ρ, hρ, hc, hf, hg⟩ := eval_is a
                          rw [hρ] at h19 ⊢
                          simp [go_sem, hc, h19]
                        refine steps_cons (fun a w hk hn => ?_) ?_
                        · have h226 : a.eval (.tmp 226) = .pointer (some ⟨g19, 1, none⟩) := hn.1
                          have h223 : a.eval (.tmp 223) = .bool false := hn.2.1
                          clear hn
                          refine wants_guard (d := 223) rfl rfl h223 ?_
                          refine grown_run (v := .int .i64 (sN : Nat)) ?_ (Kp.refl _ _) rfl
                          have hcell := HQ1.out w hk
                          obtain ⟨ρ, hρ, hc, hf, hg⟩ := eval_is a
                          rw [hρ] at h226 ⊢
                          simp [go_sem, h226, hcell]
                        refine steps_cons (fun a w hk hn => ?_) ?_
                        · have h225 : a.eval (.tmp 225) = .int .i64 (sN : Nat) := hn.1
                          have h227 : a.eval (.tmp 227) = .int .i64 (sN : Nat) := hn.2.1
                          have h223 : a.eval (.tmp 223) = .bool false := hn.2.2.1
                          clear hn
                          refine wants_guard (d := 223) rfl rfl h223 ?_
                          refine grown_run (v := .bool false) ?_ (Kp.refl _ _) rfl
                          obtain ⟨ρ, hρ, hc, hf, hg⟩ := eval_is a
                          rw [hρ] at h225 h227 ⊢
                          simp [go_sem, h225, h227]
                        refine steps_cons (fun a w hk hn => ?_) ?_
                        · have h223 : a.eval (.tmp 223) = .bool false := hn.1
                          have h228 : a.eval (.tmp 228) = .bool false := hn.2.1
                          have h217 : a.eval (.tmp 217) = .bool true := hn.2.2.1
                          clear hn
                          refine wants_guard (d := 217) rfl rfl h217 ?_
                          exact grown_pick _ _ _ false rfl h223 h228
                        refine steps_cons (fun a w hk hn => ?_) ?_
                        · have h229 : a.eval (.tmp 229) = .bool false := hn.1
                          have h217 : a.eval (.tmp 217) = .bool true := hn.2.1
                          clear hn
                          refine wants_guard (d := 217) rfl rfl h217 ?_
                          exact grown_move (.tmp 229) rfl h229
                        refine steps_cons (fun a w hk hn => ?_) ?_
                        · have h23 : a.eval (.tmp 23) = .pointer (some ⟨g23, 0, none⟩) := hn.1
                          have h230 : a.eval (.tmp 230) = .bool false := hn.2.1
                          clear hn
                          refine wants_guard (d := 230) rfl rfl h230 ?_
                          exact grown_fld2 triG (.tmp 23) rfl h23
                        refine steps_cons (fun a w hk hn => ?_) ?_
                        · have h231 : a.eval (.tmp 231) = .pointer (some ⟨g23, 2, none⟩) := hn.1
                          have h230 : a.eval (.tmp 230) = .bool false := hn.2.1
                          clear hn
                          refine wants_guard (d := 230) rfl rfl h230 ?_
                          exact grown_ldl (.tmp 231) rfl 2 _ _ _ h231 (cell_tri (HGp.out w hk)).2.2
                        refine steps_cons (fun a w hk hn => ?_) ?_
                        · have h16 : a.eval (.tmp 16) = .slice a5 m5 c5 := hn.1
                          have h230 : a.eval (.tmp 230) = .bool false := hn.2.1
                          clear hn
                          refine wants_guard (d := 230) rfl rfl h230 ?_
                          exact grown_move (.tmp 16) rfl h16
                        refine steps_cons (fun a w hk hn => ?_) ?_
                        · have h19 : a.eval (.tmp 19) = .pointer (some ⟨g19, 0, none⟩) := hn.1
                          have h230 : a.eval (.tmp 230) = .bool false := hn.2.1
                          clear hn
                          refine wants_guard (d := 230) rfl rfl h230 ?_
                          refine grown_run (v := .pointer (some ⟨g19, 1, none⟩)) ?_ (Kp.refl _ _) rfl
                          obtain ⟨ρ, hρ, hc, hf, hg⟩ := eval_is a
                          rw [hρ] at h19 ⊢
                          simp [go_sem, hc, h19]
                        refine steps_cons (fun a w hk hn => ?_) ?_
                        · have h234 : a.eval (.tmp 234) = .pointer (some ⟨g19, 1, none⟩) := hn.1
                          have h230 : a.eval (.tmp 230) = .bool false := hn.2.1
                          clear hn
                          refine wants_guard (d := 230) rfl rfl h230 ?_
                          refine grown_run (v := .int .i64 (sN : Nat)) ?_ (Kp.refl _ _) rfl
                          have hcell := HQ1.out w hk
                          obtain ⟨ρ, hρ, hc, hf, hg⟩ := eval_is a
                          rw [hρ] at h234 ⊢
                          simp [go_sem, h234, hcell]
                        refine steps_cons (fun a w hk hn => ?_) ?_
                        · have h233 : a.eval (.tmp 233) = .slice a5 m5 c5 := hn.1
                          have h235 : a.eval (.tmp 235) = .int .i64 (sN : Nat) := hn.2.1
                          have h230 : a.eval (.tmp 230) = .bool false := hn.2.2.1
                          clear hn
                          refine wants_guard (d := 230) rfl rfl h230 ?_
                          exact grown_lhead (.tmp 233) (.tmp 235) (ls) sN rfl (by rw [h233]; exact HLl.out w hk) h235 (HSn.out)
                        refine steps_cons (fun a w hk hn => ?_) ?_
                        · have h19 : a.eval (.tmp 19) = .pointer (some ⟨g19, 0, none⟩) := hn.1
                          have h230 : a.eval (.tmp 230) = .bool false := hn.2.1
                          clear hn
                          refine wants_guard (d := 230) rfl rfl h230 ?_
                          refine grown_run (v := .pointer (some ⟨g19, 2, none⟩)) ?_ (Kp.refl _ _) rfl
                          obtain ⟨ρ, hρ, hc, hf, hg⟩ := eval_is a
                          rw [hρ] at h19 ⊢
                          simp [go_sem, hc, h19]
                        refine steps_cons (fun a w hk hn => ?_) ?_
                        · have h237 : a.eval (.tmp 237) = .pointer (some ⟨g19, 2, none⟩) := hn.1
                          have h230 : a.eval (.tmp 230) = .bool false := hn.2.1
                          clear hn
                          refine wants_guard (d := 230) rfl rfl h230 ?_
                          refine grown_run (v := .int .i64 (iN : Nat)) ?_ (Kp.refl _ _) rfl
                          have hcell := HQ2.out w hk
                          obtain ⟨ρ, hρ, hc, hf, hg⟩ := eval_is a
                          rw [hρ] at h237 ⊢
                          simp [go_sem, h237, hcell]
                        refine steps_cons (fun a w hk hn => ?_) ?_
                        · have h236 : (LcM ((ls).take sN)) (a.eval (.tmp 236)) w := hn.1
                          have h238 : a.eval (.tmp 238) = .int .i64 (iN : Nat) := hn.2.1
                          have h230 : a.eval (.tmp 230) = .bool false := hn.2.2.1
                          clear hn
                          refine wants_guard (d := 230) rfl rfl h230 ?_
                          refine grown_call (f := 30) rfl Tryz.func30 (by kernel_rfl) (by kernel_rfl) ?_
                          simp only [List.map_toArray, List.map_cons, List.map_nil, h238]
                          refine (rgrow_any _ (ls.take sN) iN PS w HPs2.out HIn.out HSm.out h236 HTm.out).mono ?_
                          rintro e w' ⟨ao, m, c, rfl, A⟩
                          exact ⟨_, rfl, A.kp, A.lcm HPl.out⟩
                        refine steps_cons (fun a w hk hn => ?_) ?_
                        · have h232 : a.eval (.tmp 232) = .slice a7 m7 c7 := hn.1
                          have h239 : (LcM PS) (a.eval (.tmp 239)) w := hn.2.1
                          have h230 : a.eval (.tmp 230) = .bool false := hn.2.2.1
                          clear hn
                          refine wants_guard (d := 230) rfl rfl h230 ?_
                          refine grown_call (f := 27) rfl Tryz.func27 (by kernel_rfl) (by kernel_rfl) ?_
                          simp only [List.map_toArray, List.map_cons, List.map_nil, h232]
                          refine (lists_lsm (HPp.out w hk).lsm h239.lsm).mono ?_
                          rintro e w' ⟨rfl, K⟩
                          exact ⟨_, rfl, K, rfl⟩
                        refine steps_cons (fun a w hk hn => ?_) ?_
                        · have h240 : a.eval (.tmp 240) = .bool true := hn.1
                          have h230 : a.eval (.tmp 230) = .bool false := hn.2.1
                          clear hn
                          refine wants_guard (d := 230) rfl rfl h230 ?_
                          refine grown_run (v := .bool false) ?_ (Kp.refl _ _) rfl
                          obtain ⟨ρ, hρ, hc, hf, hg⟩ := eval_is a
                          rw [hρ] at h240 ⊢
                          simp [go_sem, h240]
                        refine steps_cons (fun a w hk hn => ?_) ?_
                        · have h230 : a.eval (.tmp 230) = .bool false := hn.1
                          have h241 : a.eval (.tmp 241) = .bool false := hn.2.1
                          have h217 : a.eval (.tmp 217) = .bool true := hn.2.2.1
                          clear hn
                          refine wants_guard (d := 217) rfl rfl h217 ?_
                          exact grown_pick _ _ _ false rfl h230 h241
                        refine steps_cons (fun a w hk hn => ?_) ?_
                        · have h217 : a.eval (.tmp 217) = .bool true := hn.1
                          have h242 : a.eval (.tmp 242) = .bool false := hn.2.1
                          have h215 : a.eval (.tmp 215) = .bool false := hn.2.2.1
                          clear hn
                          refine wants_guard (d := 215) rfl rfl h215 ?_
                          exact grown_pick _ _ _ true rfl h217 h242
                        refine steps_cons (fun a w hk hn => ?_) ?_
                        · have h215 : a.eval (.tmp 215) = .bool false := hn.1
                          have h243 : a.eval (.tmp 243) = .bool false := hn.2.1
                          clear hn
                          refine wants_plain rfl ?_
                          exact grown_pick _ _ _ false rfl h215 h243
                        exact trivial
                      intro W1 hkW1
                      rintro _ rfl
                      rintro _ rfl
                      rintro _ rfl
                      rintro _ rfl
                      rintro _ rfl
                      rintro _ rfl
                      rintro _ rfl
                      rintro _ rfl
                      rintro _ rfl
                      rintro _ rfl
                      rintro _ rfl
                      rintro _ rfl
                      rintro _ rfl
                      rintro _ rfl
                      rintro _ rfl
                      rintro _ rfl
                      rintro _ rfl
                      rintro _ rfl
                      rintro _ rfl
                      rintro _ rfl
                      rintro _ rfl
                      rintro _ rfl
                      rintro _ rfl
                      rintro _ rfl
                      rintro _ rfl
                      rintro _ rfl
                      rintro _ rfl
                      rintro _ rfl
                      rintro _ rfl
                      rintro _ rfl
                      rintro _ rfl
                      rintro _ rfl
                      rintro _ rfl
                      rintro _ rfl
                      rintro _ rfl
                      rintro _ rfl
                      rintro _ rfl
                      rintro _ rfl
                      rintro _ rfl
                      intro v236 h236
                      rintro _ rfl
                      rintro _ rfl
                      intro v239 h239
                      rintro _ rfl
                      rintro _ rfl
                      rintro _ rfl
                      rintro _ rfl
                      rintro _ rfl
                      refine fin_nil ?_
                      simp only [Act.put, List.set_cons_zero, List.set_cons_succ, List.setIfInBounds_toArray]
                      go_wp2_with fail
                      go_meet
                      exact ⟨rfl, hide ((kp_drew w8).trans hkW1)⟩
                    · obtain rfl : bo = false := by rw [HBo.out, decide_eq_false h1]
                      have HGp : Hid (∀ w', Kp [] w8.drew w' → w'.heap[g23]? = some (.cells #[.int .i64 0, .int .i64 0, .slice none 0 0] 60 (0, 0))) := hide (fun w' k => HG8.out w' ((kp_drew w8).trans k))
                      clear h1 z0 z1 z2
                      go_wp2_with fail
                      refine region_grow Tryz.mixed [Is (.int .i64 1), Is (.bool false), Is (.bool false), Is (.bool false), Is (.bool false), Is (.bool false), Is (.bool true), Is (.bool true), Is (.int .i64 1), Is (.bool false), Is (.bool false), Is (.pointer (some ⟨g23, 2, none⟩)), Is (.slice none 0 0), Is (.int .i64 0), Is (.bool false), Is (.bool false), Is (.bool false), Is (.bool false), Is (.bool false), Is (.bool false), Is (.bool false), Is (undef), Is (undef), Is (undef), Is (undef), Is (undef), Is (undef), Is (undef), Is (undef), Is (undef), Is (undef), Is (undef), Is (undef), Is (undef), Is (undef), Is (undef), Is (undef), Is (undef), Is (undef), Is (undef), Is (undef), Is (undef), Is (undef), Is (undef), Is (undef), Is (undef), Is (.bool false), Is (.bool false)] [[(24, none)], [(197, some 0)], [(25, none)], [(198, some 1), (199, some 2)], [(200, some 3)], [(25, none), (201, some 4)], [(202, some 5), (201, some 4)], [(203, some 6), (201, some 4)], [(24, none), (204, some 7)], [(205, some 8), (204, some 7)], [(206, some 9), (204, some 7)], [(23, none), (207, some 10)], [(208, some 11), (207, some 10)], [(209, some 12), (207, some 10)], [(210, some 13), (207, some 10)], [(207, some 10), (211, some 14), (204, some 7)], [(204, some 7), (212, some 15), (201, some 4)], [(201, some 4), (213, some 16)], [(214, some 17)], [(25, none), (215, some 18)], [(216, some 19), (215, some 18)], [(23, none), (217, some 20)], [(218, some 21), (217, some 20)], [(19, none), (217, some 20)], [(220, some 23), (217, some 20)], [(219, some 22), (221, some 24), (217, some 20)], [(222, some 25), (217, some 20)], [(23, none), (223, some 26)], [(224, some 27), (223, some 26)], [(19, none), (223, some 26)], [(226, some 29), (223, some 26)], [(225, some 28), (227, some 30), (223, some 26)], [(223, some 26), (228, some 31), (217, some 20)], [(229, some 32), (217, some 20)], [(23, none), (230, some 33)], [(231, some 34), (230, some 33)], [(16, none), (230, some 33)], [(19, none), (230, some 33)], [(234, some 37), (230, some 33)], [(233, some 36), (235, some 38), (230, some 33)], [(19, none), (230, some 33)], [(237, some 40), (230, some 33)], [(236, some 39), (238, some 41), (230, some 33)], [(232, some 35), (239, some 42), (230, some 33)], [(240, some 43), (230, some 33)], [(230, some 33), (241, some 44), (217, some 20)], [(217, some 20), (242, some 45), (215, some 18)], [(215, some 18), (243, some 46)]] (by kernel_rfl) ?_ ?_ ?_
                      · simp only [List.mem_cons, List.not_mem_nil, or_false]
                        intro R hR
                        rcases hR with rfl | rfl | rfl | rfl | rfl | rfl | rfl | rfl | rfl | rfl | rfl | rfl | rfl | rfl | rfl | rfl | rfl | rfl | rfl | rfl | rfl | rfl | rfl | rfl | rfl | rfl | rfl | rfl | rfl | rfl | rfl | rfl | rfl | rfl | rfl | rfl | rfl | rfl | rfl | rfl | rfl | rfl | rfl | rfl | rfl | rfl | rfl | rfl <;> first | exact stable_is _
                      · refine steps_cons (fun a w hk hn => ?_) ?_
                        · have h24 : a.eval (.tmp 24) = .int .i64 1 := hn.1
                          clear hn
                          refine wants_plain rfl ?_
                          exact grown_move (.tmp 24) rfl h24
                        refine steps_cons (fun a w hk hn => ?_) ?_
                        · have h197 : a.eval (.tmp 197) = .int .i64 1 := hn.1
                          clear hn
                          refine wants_plain rfl ?_
                          refine grown_run (v := .bool false) ?_ (Kp.refl _ _) rfl
                          obtain ⟨ρ, hρ, hc, hf, hg⟩ := eval_is a
                          rw [hρ] at h197 ⊢
                          simp [go_sem, hc, h197]
                        refine steps_cons (fun a w hk hn => ?_) ?_
                        · have h25 : a.eval (.tmp 25) = .bool false := hn.1
                          clear hn
                          refine wants_plain rfl ?_
                          exact grown_move (.tmp 25) rfl h25
                        refine steps_cons (fun a w hk hn => ?_) ?_
                        · have h198 : a.eval (.tmp 198) = .bool false := hn.1
                          have h199 : a.eval (.tmp 199) = .bool false := hn.2.1
                          clear hn
                          refine wants_plain rfl ?_
                          refine grown_run (v := .bool false) ?_ (Kp.refl _ _) rfl
                          obtain ⟨ρ, hρ, hc, hf, hg⟩ := eval_is a
                          rw [hρ] at h198 h199 ⊢
                          simp [go_sem, h198, h199]
                        refine steps_cons (fun a w hk hn => ?_) ?_
                        · have h200 : a.eval (.tmp 200) = .bool false := hn.1
                          clear hn
                          refine wants_plain rfl ?_
                          exact grown_move (.tmp 200) rfl h200
                        refine steps_cons (fun a w hk hn => ?_) ?_
                        · have h25 : a.eval (.tmp 25) = .bool false := hn.1
                          have h201 : a.eval (.tmp 201) = .bool false := hn.2.1
                          clear hn
                          refine wants_guard (d := 201) rfl rfl h201 ?_
                          exact grown_move (.tmp 25) rfl h25
                        refine steps_cons (fun a w hk hn => ?_) ?_
                        · have h202 : a.eval (.tmp 202) = .bool false := hn.1
                          have h201 : a.eval (.tmp 201) = .bool false := hn.2.1
                          clear hn
                          refine wants_guard (d := 201) rfl rfl h201 ?_
                          refine grown_run (v := .bool true) ?_ (Kp.refl _ _) rfl
                          obtain ⟨ρ, hρ, hc, hf, hg⟩ := eval_is a
                          rw [hρ] at h202 ⊢
                          simp [go_sem, h202]
                        refine steps_cons (fun a w hk hn => ?_) ?_
                        · have h203 : a.eval (.tmp 203) = .bool true := hn.1
                          have h201 : a.eval (.tmp 201) = .bool false := hn.2.1
                          clear hn
                          refine wants_guard (d := 201) rfl rfl h201 ?_
                          exact grown_move (.tmp 203) rfl h203
                        refine steps_cons (fun a w hk hn => ?_) ?_
                        · have h24 : a.eval (.tmp 24) = .int .i64 1 := hn.1
                          have h204 : a.eval (.tmp 204) = .bool true := hn.2.1
                          clear hn
                          refine wants_guard (d := 204) rfl rfl h204 ?_
                          exact grown_move (.tmp 24) rfl h24
                        refine steps_cons (fun a w hk hn => ?_) ?_
                        · have h205 : a.eval (.tmp 205) = .int .i64 1 := hn.1
                          have h204 : a.eval (.tmp 204) = .bool true := hn.2.1
                          clear hn
                          refine wants_guard (d := 204) rfl rfl h204 ?_
                          refine grown_run (v := .bool false) ?_ (Kp.refl _ _) rfl
                          obtain ⟨ρ, hρ, hc, hf, hg⟩ := eval_is a
                          rw [hρ] at h205 ⊢
                          simp [go_sem, hc, h205]
                        refine steps_cons (fun a w hk hn => ?_) ?_
                        · have h206 : a.eval (.tmp 206) = .bool false := hn.1
                          have h204 : a.eval (.tmp 204) = .bool true := hn.2.1
                          clear hn
                          refine wants_guard (d := 204) rfl rfl h204 ?_
                          exact grown_move (.tmp 206) rfl h206
                        refine steps_cons (fun a w hk hn => ?_) ?_
                        · have h23 : a.eval (.tmp 23) = .pointer (some ⟨g23, 0, none⟩) := hn.1
                          have h207 : a.eval (.tmp 207) = .bool false := hn.2.1
                          clear hn
                          refine wants_guard (d := 207) rfl rfl h207 ?_
                          exact grown_fld2 triG (.tmp 23) rfl h23
                        refine steps_cons (fun a w hk hn => ?_) ?_
                        · have h208 : a.eval (.tmp 208) = .pointer (some ⟨g23, 2, none⟩) := hn.1
                          have h207 : a.eval (.tmp 207) = .bool false := hn.2.1
                          clear hn
                          refine wants_guard (d := 207) rfl rfl h207 ?_
                          exact grown_ldl (.tmp 208) rfl 2 _ _ _ h208 (cell_tri (HGp.out w hk)).2.2
                        refine steps_cons (fun a w hk hn => ?_) ?_
                        · have h209 : a.eval (.tmp 209) = .slice none 0 0 := hn.1
                          have h207 : a.eval (.tmp 207) = .bool false := hn.2.1
                          clear hn
                          refine wants_guard (d := 207) rfl rfl h207 ?_
                          refine grown_run (v := .int .i64 0) ?_ (Kp.refl _ _) rfl
                          obtain ⟨ρ, hρ, hc, hf, hg⟩ := eval_is a
                          rw [hρ] at h209 ⊢
                          simp [go_sem, h209]
                        refine steps_cons (fun a w hk hn => ?_) ?_
                        · have h210 : a.eval (.tmp 210) = .int .i64 0 := hn.1
                          have h207 : a.eval (.tmp 207) = .bool false := hn.2.1
                          clear hn
                          refine wants_guard (d := 207) rfl rfl h207 ?_
                          refine grown_run (v := .bool false) ?_ (Kp.refl _ _) rfl
                          obtain ⟨ρ, hρ, hc, hf, hg⟩ := eval_is a
                          rw [hρ] at h210 ⊢
                          simp [go_sem, hc, h210]
                        refine steps_cons (fun a w hk hn => ?_) ?_
                        · have h207 : a.eval (.tmp 207) = .bool false := hn.1
                          have h211 : a.eval (.tmp 211) = .bool false := hn.2.1
                          have h204 : a.eval (.tmp 204) = .bool true := hn.2.2.1
                          clear hn
                          refine wants_guard (d := 204) rfl rfl h204 ?_
                          exact grown_pick _ _ _ false rfl h207 h211
                        refine steps_cons (fun a w hk hn => ?_) ?_
                        · have h204 : a.eval (.tmp 204) = .bool true := hn.1
                          have h212 : a.eval (.tmp 212) = .bool false := hn.2.1
                          have h201 : a.eval (.tmp 201) = .bool false := hn.2.2.1
                          clear hn
                          refine wants_guard (d := 201) rfl rfl h201 ?_
                          exact grown_pick _ _ _ true rfl h204 h212
                        refine steps_cons (fun a w hk hn => ?_) ?_
                        · have h201 : a.eval (.tmp 201) = .bool false := hn.1
                          have h213 : a.eval (.tmp 213) = .bool false := hn.2.1
                          clear hn
                          refine wants_plain rfl ?_
                          exact grown_pick _ _ _ false rfl h201 h213
                        refine steps_cons (fun a w hk hn => ?_) ?_
                        · have h214 : a.eval (.tmp 214) = .bool false := hn.1
                          clear hn
                          refine wants_plain rfl ?_
                          exact grown_move (.tmp 214) rfl h214
                        refine steps_cons (fun a w hk hn => ?_) ?_
                        · have h25 : a.eval (.tmp 25) = .bool false := hn.1
                          have h215 : a.eval (.tmp 215) = .bool false := hn.2.1
                          clear hn
                          refine wants_guard (d := 215) rfl rfl h215 ?_
                          exact grown_move (.tmp 25) rfl h25
                        refine steps_cons (fun a w hk hn => ?_) ?_
                        · have h216 : a.eval (.tmp 216) = .bool false := hn.1
                          have h215 : a.eval (.tmp 215) = .bool false := hn.2.1
                          clear hn
                          refine wants_guard (d := 215) rfl rfl h215 ?_
                          exact grown_move (.tmp 216) rfl h216
                        refine steps_cons (fun a w hk hn => ?_) ?_
                        · have h23 : a.eval (.tmp 23) = .pointer (some ⟨g23, 0, none⟩) := hn.1
                          have h217 : a.eval (.tmp 217) = .bool false := hn.2.1
                          clear hn
                          exact wants_not (d := 217) rfl rfl h217 rfl
                        refine steps_cons (fun a w hk hn => ?_) ?_
                        · have h218 : a.eval (.tmp 218) = undef := hn.1
                          have h217 : a.eval (.tmp 217) = .bool false := hn.2.1
                          clear hn
                          exact wants_not (d := 217) rfl rfl h217 rfl
                        refine steps_cons (fun a w hk hn => ?_) ?_
                        · have h19 : a.eval (.tmp 19) = .pointer (some ⟨g19, 0, none⟩) := hn.1
                          have h217 : a.eval (.tmp 217) = .bool false := hn.2.1
                          clear hn
                          exact wants_not (d := 217) rfl rfl h217 rfl
                        refine steps_cons (fun a w hk hn => ?_) ?_
                        · have h220 : a.eval (.tmp 220) = undef := hn.1
                          have h217 : a.eval (.tmp 217) = .bool false := hn.2.1
                          clear hn
                          exact wants_not (d := 217) rfl rfl h217 rfl
                        refine steps_cons (fun a w hk hn => ?_) ?_
                        · have h219 : a.eval (.tmp 219) = undef := hn.1
                          have h221 : a.eval (.tmp 221) = undef := hn.2.1
                          have h217 : a.eval (.tmp 217) = .bool false := hn.2.2.1
                          clear hn
                          exact wants_not (d := 217) rfl rfl h217 rfl
                        refine steps_cons (fun a w hk hn => ?_) ?_
                        · have h222 : a.eval (.tmp 222) = undef := hn.1
                          have h217 : a.eval (.tmp 217) = .bool false := hn.2.1
                          clear hn
                          exact wants_not (d := 217) rfl rfl h217 rfl
                        refine steps_cons (fun a w hk hn => ?_) ?_
                        · have h23 : a.eval (.tmp 23) = .pointer (some ⟨g23, 0, none⟩) := hn.1
                          have h223 : a.eval (.tmp 223) = undef := hn.2.1
                          clear hn
                          exact wants_none (d := 223) rfl rfl h223 rfl
                        refine steps_cons (fun a w hk hn => ?_) ?_
                        · have h224 : a.eval (.tmp 224) = undef := hn.1
                          have h223 : a.eval (.tmp 223) = undef := hn.2.1
                          clear hn
                          exact wants_none (d := 223) rfl rfl h223 rfl
                        refine steps_cons (fun a w hk hn => ?_) ?_
                        · have h19 : a.eval (.tmp 19) = .pointer (some ⟨g19, 0, none⟩) := hn.1
                          have h223 : a.eval (.tmp 223) = undef := hn.2.1
                          clear hn
                          exact wants_none (d := 223) rfl rfl h223 rfl
                        refine steps_cons (fun a w hk hn => ?_) ?_
                        · have h226 : a.eval (.tmp 226) = undef := hn.1
                          have h223 : a.eval (.tmp 223) = undef := hn.2.1
                          clear hn
                          exact wants_none (d := 223) rfl rfl h223 rfl
                        refine steps_cons (fun a w hk hn => ?_) ?_
                        · have h225 : a.eval (.tmp 225) = undef := hn.1
                          have h227 : a.eval (.tmp 227) = undef := hn.2.1
                          have h223 : a.eval (.tmp 223) = undef := hn.2.2.1
                          clear hn
                          exact wants_none (d := 223) rfl rfl h223 rfl
                        refine steps_cons (fun a w hk hn => ?_) ?_
                        · have h223 : a.eval (.tmp 223) = undef := hn.1
                          have h228 : a.eval (.tmp 228) = undef := hn.2.1
                          have h217 : a.eval (.tmp 217) = .bool false := hn.2.2.1
                          clear hn
                          exact wants_not (d := 217) rfl rfl h217 rfl
                        refine steps_cons (fun a w hk hn => ?_) ?_
                        · have h229 : a.eval (.tmp 229) = undef := hn.1
                          have h217 : a.eval (.tmp 217) = .bool false := hn.2.1
                          clear hn
                          exact wants_not (d := 217) rfl rfl h217 rfl
                        refine steps_cons (fun a w hk hn => ?_) ?_
                        · have h23 : a.eval (.tmp 23) = .pointer (some ⟨g23, 0, none⟩) := hn.1
                          have h230 : a.eval (.tmp 230) = undef := hn.2.1
                          clear hn
                          exact wants_none (d := 230) rfl rfl h230 rfl
                        refine steps_cons (fun a w hk hn => ?_) ?_
                        · have h231 : a.eval (.tmp 231) = undef := hn.1
                          have h230 : a.eval (.tmp 230) = undef := hn.2.1
                          clear hn
                          exact wants_none (d := 230) rfl rfl h230 rfl
                        refine steps_cons (fun a w hk hn => ?_) ?_
                        · have h16 : a.eval (.tmp 16) = .slice a5 m5 c5 := hn.1
                          have h230 : a.eval (.tmp 230) = undef := hn.2.1
                          clear hn
                          exact wants_none (d := 230) rfl rfl h230 rfl
                        refine steps_cons (fun a w hk hn => ?_) ?_
                        · have h19 : a.eval (.tmp 19) = .pointer (some ⟨g19, 0, none⟩) := hn.1
                          have h230 : a.eval (.tmp 230) = undef := hn.2.1
                          clear hn
                          exact wants_none (d := 230) rfl rfl h230 rfl
                        refine steps_cons (fun a w hk hn => ?_) ?_
                        · have h234 : a.eval (.tmp 234) = undef := hn.1
                          have h230 : a.eval (.tmp 230) = undef := hn.2.1
                          clear hn
                          exact wants_none (d := 230) rfl rfl h230 rfl
                        refine steps_cons (fun a w hk hn => ?_) ?_
                        · have h233 : a.eval (.tmp 233) = undef := hn.1
                          have h235 : a.eval (.tmp 235) = undef := hn.2.1
                          have h230 : a.eval (.tmp 230) = undef := hn.2.2.1
                          clear hn
                          exact wants_none (d := 230) rfl rfl h230 rfl
                        refine steps_cons (fun a w hk hn => ?_) ?_
                        · have h19 : a.eval (.tmp 19) = .pointer (some ⟨g19, 0, none⟩) := hn.1
                          have h230 : a.eval (.tmp 230) = undef := hn.2.1
                          clear hn
                          exact wants_none (d := 230) rfl rfl h230 rfl
                        refine steps_cons (fun a w hk hn => ?_) ?_
                        · have h237 : a.eval (.tmp 237) = undef := hn.1
                          have h230 : a.eval (.tmp 230) = undef := hn.2.1
                          clear hn
                          exact wants_none (d := 230) rfl rfl h230 rfl
                        refine steps_cons (fun a w hk hn => ?_) ?_
                        · have h236 : a.eval (.tmp 236) = undef := hn.1
                          have h238 : a.eval (.tmp 238) = undef := hn.2.1
                          have h230 : a.eval (.tmp 230) = undef := hn.2.2.1
                          clear hn
                          exact wants_none (d := 230) rfl rfl h230 rfl
                        refine steps_cons (fun a w hk hn => ?_) ?_
                        · have h232 : a.eval (.tmp 232) = undef := hn.1
                          have h239 : a.eval (.tmp 239) = undef := hn.2.1
                          have h230 : a.eval (.tmp 230) = undef := hn.2.2.1
                          clear hn
                          exact wants_none (d := 230) rfl rfl h230 rfl
                        refine steps_cons (fun a w hk hn => ?_) ?_
                        · have h240 : a.eval (.tmp 240) = undef := hn.1
                          have h230 : a.eval (.tmp 230) = undef := hn.2.1
                          clear hn
                          exact wants_none (d := 230) rfl rfl h230 rfl
                        refine steps_cons (fun a w hk hn => ?_) ?_
                        · have h230 : a.eval (.tmp 230) = undef := hn.1
                          have h241 : a.eval (.tmp 241) = undef := hn.2.1
                          have h217 : a.eval (.tmp 217) = .bool false := hn.2.2.1
                          clear hn
                          exact wants_not (d := 217) rfl rfl h217 rfl
                        refine steps_cons (fun a w hk hn => ?_) ?_
                        · have h217 : a.eval (.tmp 217) = .bool false := hn.1
                          have h242 : a.eval (.tmp 242) = undef := hn.2.1
                          have h215 : a.eval (.tmp 215) = .bool false := hn.2.2.1
                          clear hn
                          refine wants_guard (d := 215) rfl rfl h215 ?_
                          exact grown_pick _ _ _ false rfl h217 rfl
                        refine steps_cons (fun a w hk hn => ?_) ?_
                        · have h215 : a.eval (.tmp 215) = .bool false := hn.1
                          have h243 : a.eval (.tmp 243) = .bool false := hn.2.1
                          clear hn
                          refine wants_plain rfl ?_
                          exact grown_pick _ _ _ false rfl h215 h243
                        exact trivial
                      intro W1 hkW1
                      rintro _ rfl
                      rintro _ rfl
                      rintro _ rfl
                      rintro _ rfl
                      rintro _ rfl
                      rintro _ rfl
                      rintro _ rfl
                      rintro _ rfl
                      rintro _ rfl
                      rintro _ rfl
                      rintro _ rfl
                      rintro _ rfl
                      rintro _ rfl
                      rintro _ rfl
                      rintro _ rfl
                      rintro _ rfl
                      rintro _ rfl
                      rintro _ rfl
                      rintro _ rfl
                      rintro _ rfl
                      rintro _ rfl
                      rintro _ rfl
                      rintro _ rfl
                      rintro _ rfl
                      rintro _ rfl
                      rintro _ rfl
                      rintro _ rfl
                      rintro _ rfl
                      rintro _ rfl
                      rintro _ rfl
                      rintro _ rfl
                      rintro _ rfl
                      rintro _ rfl
                      rintro _ rfl
                      rintro _ rfl
                      rintro _ rfl
                      rintro _ rfl
                      rintro _ rfl
                      rintro _ rfl
                      rintro _ rfl
                      rintro _ rfl
                      rintro _ rfl
                      rintro _ rfl
                      rintro _ rfl
                      rintro _ rfl
                      rintro _ rfl
                      rintro _ rfl
                      rintro _ rfl
                      refine fin_nil ?_
                      simp only [Act.put, List.set_cons_zero, List.set_cons_succ, List.setIfInBounds_toArray]
                      go_wp2_with fail
                      go_meet
                      exact ⟨rfl, hide ((kp_drew w8).trans hkW1)⟩
                  case rest =>
                    obtain ⟨rfl, HKc⟩ := hcut
                    have HKe := hide (HKA.out.trans HKc.out)
                    clear HG8 HPk HG6b HKA HKc
                    go_wp2_with fail
                    go_roundw
                    case rel => exact ⟨q + 1, by omega, by go_num, HKe⟩
                    case measure => simp [intOf]; omega
          · have hq2' : ¬ (q : Int) < 2 := by omega
            have HKn := hide (uknown_any wr (HGd.out.kept HKz.out (by simp)))
            have HKf := hide (HLd.out.kp.trans HKz.out)
            clear HKz
            go_wp2_with fail
            refine HKn.out.mono ?_
            rintro ee w9 ⟨rfl, K9⟩
            have HK9 := hide (HKf.out.trans K9)
            clear HKn K9
            go_wp2_with fail
            go_ret
            exact ⟨rfl, HK9.out.below (Nat.le_refl _) (by simp)⟩
set_option maxRecDepth 100000 in
theorem lifted (os : Os) (started : os.Started) (H : Type) (enc : TypeId × Value → H) :
    ReturnsInHanded {} Tryz.checked os 6 .any (fun w args => (Rows.ledgerProvesSpec.pre enc Tryz.prog Tryz.f6 [] false w args ∧ laidMetH Tryz.prog laid1 w) ∧ sizedMet enc Tryz.prog Tryz.f6 (OpenSpec.ofChange Rows.ledgerProvesSpec) false w args) (Rows.ledgerProvesSpec.post enc Tryz.prog Tryz.f6 false true false false) := by
  refine returnsInHanded_of_change_and (C := Tryz.checked) (X := fun w _ => laidMetH Tryz.prog laid1 w) (fun _ _ _ hh h => h.of_heap hh) own started (by kernel_rfl) Tryz.func6
    (ChangeSpec.witness_shaped (enc := enc) (C := Tryz.checked) (os := os) (X := fun w _ => laidMetH Tryz.prog laid1 w) false (World.doorLaid Tryz.prog 400 os) #[.slice none 0 0, .int .i64 0, .int .i64 0, .int .i64 0] 8 rfl (World.shaped_of_RefB (by kernel_rfl) (by kernel_rfl)) (by kernel_rfl) (by kernel_rfl) (by kernel_rfl) (door_met os _)) ?_
  intro W base args ds gs before hval0 hW hcnd hsz0 hL _
  have hG := gl_of_laid hL
  have hval : ∀ (j : Nat) t v, Tryz.f6.params[j]? = some t → args[j]? = some v → Value.okWide Tryz.prog W .any base t v := hval0
  have hW' := hW
  obtain ⟨p, q, hA0, hV, rfl, hfz, hnd⟩ := hW
  have hA : DataW.TrodAll enc Tryz.prog W 0 (fun _ => true) true Tryz.f6.params.toList args.toList ds p := hA0
  rw [Tryz.params6] at hA hval
  obtain ⟨v0, vs0, d0, ds0, p0, q0, hargs, rfl, rfl, h0, r0⟩ := trodAll_cons hA
  obtain ⟨v1, vs1, d1, ds1, p1, q1, rfl, rfl, rfl, h1, r1⟩ := trodAll_cons r0
  obtain ⟨v2, vs2, d2, ds2, p2, q2, rfl, rfl, rfl, h2, r2⟩ := trodAll_cons r1
  obtain ⟨v3, vs3, d3, ds3, p3, q3, rfl, rfl, rfl, h3, r3⟩ := trodAll_cons r2
  obtain ⟨rfl, rfl, rfl⟩ := trodAll_nil r3
  obtain rfl : args = #[v0, v1, v2, v3] := by cases args; simp_all
  obtain ⟨rfl, rfl⟩ := trodVars_none hV
  obtain ⟨a0, len0, cap0, rfl⟩ := okWide_slice Tryz.underlying35 (hval 0 35 v0 rfl rfl)
  have k0 := h0
  have lt0 : ∀ x ∈ p0, x.block < W.heap.size := by obtain ⟨m, hm⟩ := k0; exact DataW.trod_lt m _ _ _ hm
  obtain ⟨l0, s0⟩ : ∃ l, Ints W (.slice a0 len0 cap0) l := by
    obtain ⟨fuel, hf⟩ := h0
    exact ints_of_trod (by simpa [Value.cells] using hf)
  obtain ⟨a1, rfl, rfl, rfl, w1⟩ := open_int Tryz.underlying3 (hval 1 3 v1 rfl rfl) h1
  obtain ⟨a2, rfl, rfl, rfl, w2⟩ := open_int Tryz.underlying3 (hval 2 3 v2 rfl rfl) h2
  obtain ⟨a3, rfl, rfl, rfl, w3⟩ := open_int Tryz.underlying3 (hval 3 3 v3 rfl rfl) h3
  clear hA0 hval0
  refine (walk (.slice a0 len0 cap0) l0 a1 a2 a3 W hG s0 (bounds_i64 w1) (bounds_i64 w2) (bounds_i64 w3)).mono fun e W' ⟨he, bel⟩ => ?_
  subst he
  exact ⟨_, rfl, _, _, _, [], _, [], hW', trodAll_mk1 (shut_bool Tryz.underlying4 _), (trodAll_cons_mk (Below.trod laidOut (by kernel_rfl) (of_decide_eq_true (by kernel_rfl)) k0 bel lt0) (trodAll_cons_mk (shut_int Tryz.underlying3 w1) (trodAll_cons_mk (shut_int Tryz.underlying3 w2) (trodAll_cons_mk (shut_int Tryz.underlying3 w3) trodAll_mk0)))), rfl, bel.frame _, fun h => by cases h⟩
theorem over : Rows.ledgerProvesRow.holds Tryz.pinned (OpenSpec.ofChange Rows.ledgerProvesSpec) :=
  OpenClaim.holds_of_wide 6 Tryz.f6 rfl rfl rfl rfl rfl rfl rfl ⟨rfl, rfl, rfl, rfl, rfl⟩ rfl rfl rfl rfl rfl (by kernel_rfl) Tryz.func6 (by kernel_rfl)
    (of_decide_eq_true (by kernel_rfl)) (by unfold Func.isWrapper; first | (rw [if_pos (by decide +kernel)]; kernel_rfl) | (rw [if_neg (by decide +kernel)]; exact ⟨rfl, rfl⟩))
    (fun os started H enc _ => lifted os started H enc)
end Go.Proofs.YtillhpgdlmeajaaGreatDoor.ledgerProves
namespace Go.Proofs.YtillhpgdlmeajaaGreatDoor
/-- The given statement: the tied card. -/
theorem LedgerProves_holds : Rows.LedgerProvesCardSaid :=
  Claim7.holds_tied_plain_at .later [] [.data] true Rows.ledgerProvesCard.stood.harness false
    ledgerProves.over (fun _ h => by cases h) (by kernel_rfl) (fun _ h => by cases h) ledgerProves_row_tie rfl ⟨rfl, rfl⟩ (by kernel_rfl) rfl
    (fun f fn hf hfn => by
      obtain rfl : f = 6 := Option.some.inj ((show Tryz.prog.funcNamed "broadsheet/broadsheetlaw15.LedgerProves" = some 6 by kernel_rfl).symm.trans hf) |>.symm
      obtain rfl : fn = Tryz.f6 := (Option.some.inj (Tryz.func6.symm.trans hfn)).symm
      exact ⟨by kernel_rfl, fun j t ht => by
        rw [Tryz.params6] at ht
        have hm : t ∈ ([35, 3, 3, 3] : List TypeId) := by simpa using Array.mem_of_getElem? ht
        have hall : (([35, 3, 3, 3] : List TypeId).all fun u => !Tryz.prog.wantsStandIn u) = true := by kernel_rfl
        exact (show Tryz.prog.wantsStandIn t = false by simpa using List.all_eq_true.1 hall t hm)⟩)
    (by kernel_rfl)
#print axioms LedgerProves_holds
end Go.Proofs.YtillhpgdlmeajaaGreatDoor
