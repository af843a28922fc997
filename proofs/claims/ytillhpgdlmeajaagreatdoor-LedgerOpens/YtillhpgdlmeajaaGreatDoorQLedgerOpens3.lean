/-
  The statement LedgerOpensCardSaid: for all lists of lists of numbers, all bytes, all places and all turns the law function LedgerOpens returns true and leaves its arguments as they were; the table hash.roundWords starts as the program's text lays it (tied). No other condition.
-/
import Derived.Deep.Cut
import Derived.Deep.CutBlock
import Derived.Deep.CutRange
import Derived.Deep.RegionHeld3
import Derived.SevenTiedAt
import Derived.Test.YtillhpgdlmeajaaGreatDoorCards
import Derived.Test.YtillhpgdlmeajaaGreatDoorTie
import Derived.Test.YtillhpgdlmeajaaGreatDoorQB1
import Derived.Test.YtillhpgdlmeajaaGreatDoorQB3
import Derived.Test.YtillhpgdlmeajaaGreatDoorQB2
import Derived.Test.YtillhpgdlmeajaaGreatDoorQLedgerOpens1
import Derived.Test.YtillhpgdlmeajaaGreatDoorQB4
import Derived.Test.YtillhpgdlmeajaaGreatDoorQLedgerOpens2
import Derived.Test.YtillhpgdlmeajaaGreatDoorQB5
import Derived.Test.YtillhpgdlmeajaaGreatDoorQB6
import Derived.Test.YtillhpgdlmeajaaGreatDoorQB7
namespace Go.Proofs.YtillhpgdlmeajaaGreatDoor.ledgerOpens
open Go.ChangeShapes Go.WideShapes Go.ChangeAt Go.RowKit
open Go.Deep
open Go.Proofs.YtillhpgdlmeajaaGreatDoor
set_option linter.unusedVariables false
theorem xor_u8 (x y : Int) : 0 ≤ bits .xor .u8 x y ∧ bits .xor .u8 x y ≤ 255 := by
  unfold bits
  simp [IntKind.wrap, IntKind.signed, IntKind.bits]
  omega
/-- a list of these bytes at this cell. -/
def Zed (w : World) (g q : Nat) : Prop := ∃ (az : Option Addr) (nz cz : Nat) (Z : List Int), w.cell? ⟨g, q, none⟩ = some (.slice az nz cz) ∧ Sl w (.slice az nz cz) Z ∧ Bs Z ∧ Z.length ≤ 3000
set_option maxRecDepth 100000 in
set_option maxHeartbeats 16000000 in
theorem walk (v : Value) (xss : List (Value × List Int)) (vb : Value) (bs : List Int) (pa tu : Int) (w : World) (hG : Gl w) (hL : Intss w v xss) (hS : Sl w vb bs) (hB : Bs bs) (hpa : -9223372036854775808 ≤ pa ∧ pa ≤ 9223372036854775807) (htu : 0 ≤ tu ∧ tu ≤ 255) :
    Calls Tryz.prog 5 #[v, vb, .int .i64 pa, .int .u8 tu] w fun e w' => e = .returned (.bool true) ∧ Below w.heap.size w w' := by
  have HG := hide hG
  have HSb := hide hS
  have HBb := hide hB
  obtain ⟨al, cl, rfl, hlm, hcell⟩ := hL
  obtain ⟨N, hN⟩ : ∃ N, N = xss.length := ⟨_, rfl⟩
  have HC : Hid (∀ i (h : i < N), ∃ b off vx ys, al = some ⟨b, off, none⟩ ∧ w.cell? ⟨b, off + i, none⟩ = some vx ∧ Ints w vx ys) := fun i hi => by
    obtain ⟨b, off, e, hc, hI⟩ := hcell i (by omega)
    exact ⟨b, off, _, _, e, hc, hI⟩
  rw [← hN] at hlm ⊢
  obtain ⟨ab, cb, hvb, -⟩ := hS
  obtain ⟨nb, hnb⟩ : ∃ n, n = bs.length := ⟨_, rfl⟩
  rw [← hnb] at hvb
  subst hvb
  clear hG hcell hN hB hnb htu hpa
  go_enter Tryz.func5, Tryz.ntmps5
  go_wp2_with fail
  go_loopw [9, 10] (fun o i wr => ∃ k : Nat, k ≤ N ∧ k ≤ 6 ∧ i = .int .i64 k ∧ ∃ ao m c X, o = .slice ao m c ∧ Row wr w.heap.size (.slice ao m c) X ∧ Bs X ∧ X.length ≤ 400 * k ∧ Kp [] w wr) (fun _ i _ => N - (intOf i).toNat)
  case atStart => exact ⟨0, by omega, by omega, rfl, none, 0, 0, [], rfl, ⟨rfl, .inl ⟨rfl, rfl⟩⟩, (fun b hb => by cases hb), Nat.le_refl _, Kp.refl _ _⟩
  case round =>
    obtain ⟨k, hkN, hk6, rfl, ao, m, c, X, rfl, hR, hBX, hXl, hK⟩ := hrel
    have HR := hide hR
    have HBX := hide hBX
    have HXl := hide hXl
    have HK := hide hK
    clear hR hBX hXl hK
    by_cases hlt : k < N ∧ k < 6
    · obtain ⟨hl1, hl2⟩ := hlt
      have hl1' : (k : Int) < (N : Int) := by omega
      have hl2' : (k : Int) < 6 := by omega
      have hd1 : decide ((k : Int) < (N : Int)) = true := decide_eq_true hl1'
      have hd2 : decide ((k : Int) < 6) = true := decide_eq_true hl2'
      obtain ⟨b0, o0, vy, ys0, rfl, hc, hI⟩ := HC.out k hl1
      have hcx := HK.out.cell hc (by simp)
      have hI' := hI.kept HK.out
      obtain ⟨ys, hys⟩ : ∃ y, y = ys0.take 6 := ⟨_, rfl⟩
      have HIt := hide (uitems_any vy ys0 ys hys wr hI')
      have hyl : ys.length ≤ 6 := by rw [hys, List.length_take]; omega
      have HYl := hide hyl
      obtain ⟨ay, cy, hvy, -⟩ := hI'
      obtain ⟨ny, hny⟩ : ∃ n, n = ys0.length := ⟨_, rfl⟩
      rw [← hny] at hvy
      subst hvy
      clear hc hI hys hyl hny
      go_wp2_with fail
      refine HIt.out.mono ?_
      rintro ee w5 ⟨ax, mx, cx, rfl, K5, hm, lx, R5, hlx⟩
      have hlxl : lx.length ≤ 6 := by
        have h1 := congrArg List.length hlx
        rw [List.length_map, List.length_map] at h1
        have := HYl.out
        omega
      have hx62 : ∀ x ∈ lx, x.2.length ≤ 62 := fun x hx => by
        have h1 : x.2 ∈ ys.map itemX := by rw [← hlx]; exact List.mem_map.2 ⟨x, hx, rfl⟩
        obtain ⟨y, _, e⟩ := List.mem_map.1 h1
        rw [← e]
        exact itemX_len y
      have hxB : ∀ x ∈ lx.map (·.2), Bs x := fun x hx => by
        rw [hlx] at hx
        obtain ⟨y, _, e⟩ := List.mem_map.1 hx
        rw [← e]
        exact itemX_bs y
      have HBt := hide (ubatch_any (.slice ax mx cx) lx w5 (R5.lists (by omega)) (fun x hx => by have := hx62 x hx; omega) (by omega))
      obtain ⟨B, hBt⟩ : ∃ B, B = batU (lx.map (·.2)) := ⟨_, rfl⟩
      have hBl : B.length ≤ 388 := by
        have h1 := batU_len (lx.map (·.2)) 62 (fun x hx => by obtain ⟨y, hy, e⟩ := List.mem_map.1 hx; rw [← e]; exact hx62 y hy)
        rw [List.length_map, ← hBt] at h1
        omega
      have hBB : Bs B := by rw [hBt]; exact batU_bs hxB
      rw [← hBt] at HBt
      have HBl := hide hBl
      have HBB := hide hBB
      have HK5 := hide K5
      clear HIt K5 hm R5 hlx hlxl hx62 hxB hBt hBl hBB
      go_wp2_with fail
      refine HBt.out.mono ?_
      rintro ee w6 ⟨a6, m6, c6, rfl, R6, K6⟩
      have HRc := hide (record_any (.slice a6 m6 c6) B w6 R6.sl (by have := HBl.out; omega))
      have HK6 := hide (HK5.out.trans K6)
      clear HBt R6 K6
      go_wp2_with fail
      refine HRc.out.mono ?_
      rintro ee w7 ⟨a7, m7, c7, rfl, R7, K7⟩
      have HK7 := hide (HK.out.trans (HK6.out.trans K7))
      have HRX := hide (HR.out.kept (HK6.out.trans K7) (by simp))
      have hs7 := R7.sl
      have hrl : (recP B).length ≤ 396 := by rw [recP_len]; have := HBl.out; omega
      have HRl := hide hrl
      have hxl : X.length ≤ 2400 := by have := HXl.out; omega
      clear HRc R7 K7
      go_wp2_with (at_builtin; refine wpList_append_row rfl (.tmp 28) (.tmp 35) rfl w.heap.size _ X rfl HRX.out _ (recP B) rfl hs7 (by omega) HK7.out.size ?_; intro a8 m8 c8 w8 R8 S8)
      go_roundw
      case rel =>
        refine ⟨k + 1, by omega, by omega, by go_num, a8, m8, c8, X ++ recP B, rfl, R8, fun b hb => ?_, ?_, S8.kpn HK7.out HRX.out⟩
        · rcases List.mem_append.1 hb with hb | hb
          · exact HBX.out b hb
          · exact recP_bs HBB.out b hb
        · rw [List.length_append]; have := HXl.out; have := HRl.out; omega
      case measure => simp [intOf]; omega
    · go_upto_region 3 with fail
      go_cut [25] from 18 to 24 (fun s wc => s = .bool false ∧ wc = wr)
      case first =>
        by_cases hl1 : k < N
        · have hl1' : (k : Int) < (N : Int) := by omega
          have hl2' : ¬ (k : Int) < 6 := by omega
          have hd1 : decide ((k : Int) < (N : Int)) = true := decide_eq_true hl1'
          have hd2 : decide ((k : Int) < 6) = false := decide_eq_false hl2'
          go_wp2_with fail
          go_meet
          exact ⟨rfl, rfl⟩
        · have hl1' : ¬ (k : Int) < (N : Int) := by omega
          have hd1 : decide ((k : Int) < (N : Int)) = false := decide_eq_false hl1'
          go_wp2_with fail
          go_meet
          exact ⟨rfl, rfl⟩
      case rest =>
        obtain ⟨rfl, hwc⟩ := hcut
        subst wc
        have hxl : X.length ≤ 2400 := by have := HXl.out; omega
        have HXl2 := hide hxl
        have hmX : m = X.length := HR.out.len
        have hm24 : m ≤ 2400 := by omega
        have HMx := hide hmX
        obtain ⟨wr0, hwr0⟩ : ∃ y, y = wr := ⟨_, rfl⟩
        have HWr := hide hwr0
        have K1 : Kp [] wr (wr.alloc (.cells #[] 5)) := (Kp.refl [] wr).alloc _
        have hrow0 : Row (wr.alloc (.cells #[] 5)) wr.heap.size (.slice (some ⟨wr.heap.size, 0, none⟩) 0 0) [] := World.ownsRow_made wr #[] 0 (Nat.le_refl _) (by simp [maxLen]) rfl
        have hSx1 := HR.out.sl.kept K1 (by simp)
        clear hlt hwr0 hmX
        go_wp2_with (at_builtin; refine wpList_append_row rfl (.tmp 37) (.tmp 38) rfl wr.heap.size _ [] rfl hrow0 _ X rfl hSx1 (by simp; omega) K1.size ?_; intro ay my cy w7 RY SY; refine Hid.out ?_)
        have HKY : Hid (Kp [] wr w7) := hide (SY.kpn K1 hrow0)
        rw [List.nil_append] at RY
        have HRY := hide RY
        have hmy : my = m := by rw [RY.len, HMx.out]
        subst hmy
        clear K1 hrow0 hSx1 RY SY
        refine hide ?_
        go_upto_if 42 with fail
        go_cut [] from 40 to 53 (fun wc => Hid (∃ Y : List Int, Row wc wr.heap.size (.slice ay my cy) Y ∧ Bs Y ∧ Y.length = my ∧ Kp [] wr wc))
        case first =>
          by_cases h0 : my = 0
          · subst h0
            have HC0 : Hid (∃ Y : List Int, Row w7 wr.heap.size (.slice ay 0 cy) Y ∧ Bs Y ∧ Y.length = 0 ∧ Kp [] wr w7) := hide ⟨X, HRY.out, HBX.out, HMx.out.symm, HKY.out⟩
            go_wp2_with fail
            go_meet
            case rel => exact HC0
          · have hgt : (0 : Int) < (my : Int) := by omega
            have hw1 : IntKind.i64.wrap ((my : Int) - 1) = ((my - 1 : Nat) : Int) := by simp [IntKind.wrap, IntKind.signed, IntKind.bits]; omega
            have HWn := hide (within_wi pa 0 ((my - 1 : Nat) : Int) w7 (by omega) (by omega) (by omega))
            have hwb := wiP_ge pa 0 ((my - 1 : Nat) : Int) (by omega)
            obtain ⟨kI, hkI⟩ : ∃ k, k = wiP pa 0 ((my - 1 : Nat) : Int) := ⟨_, rfl⟩
            rw [← hkI] at HWn hwb
            obtain ⟨q, rfl⟩ := Int.eq_ofNat_of_zero_le hwb.1
            have hqm : q < my := by have := hwb.2; omega
            have hqX : q < X.length := by rw [← HMx.out]; exact hqm
            obtain ⟨gx, hgx, hgx0, hgx1, hcells, hfz, hset⟩ := HRY.out.spot (by omega)
            subst hgx
            have HSET := hide hset
            have HGX := hide hgx0
            have hck := hcells q hqX
            have hfk := hfz q
            obtain ⟨y, hy⟩ : ∃ y, y = X[q] := ⟨_, rfl⟩
            rw [← hy] at hck
            obtain ⟨z, hz⟩ : ∃ z, z = bits .xor .u8 y tu := ⟨_, rfl⟩
            have hzb : 0 ≤ z ∧ z ≤ 255 := by rw [hz]; exact xor_u8 y tu
            obtain ⟨w8, hw8⟩ : ∃ w8, w8 = w7.setCell ⟨gx, q, none⟩ (.int .u8 z) := ⟨_, rfl⟩
            have K8 : Kp [gx] w7 w8 := by rw [hw8]; exact kp_set w7 gx q _
            have R8 := HSET.out q z
            rw [← hw8] at R8
            have HC0 : Hid (∃ Y : List Int, Row w8 wr.heap.size (.slice (some ⟨gx, 0, none⟩) my cy) Y ∧ Bs Y ∧ Y.length = my ∧ Kp [] wr w8) := hide ⟨X.set q z, R8, HBX.out.set q z hzb.1 hzb.2, by rw [List.length_set, HMx.out], HKY.out.then K8 (fun i hi => .inr (by simp at hi; have := HGX.out; omega))⟩
            have HW8 := hide hw8
            have HZ := hide hz
            clear hwb hkI hqX hcells hfz hset hgx0 hgx1 hy hz hzb hw8 K8 R8 HSET HGX
            go_wp2_with fail
            refine HWn.out.mono ?_
            rintro ee wz ⟨rfl, hwz⟩
            subst wz
            clear HWn
            go_wp2_with fail
            go_meet
            case rel => rw [← HZ.out, ← HW8.out]; exact HC0
        case rest =>
          obtain ⟨Y, hRY, hBY, hYl, hKY⟩ := hcut.out
          have HRY2 := hide hRY
          have HBY := hide hBY
          have HYl := hide hYl
          have HKY2 := hide hKY
          have HSbc := hide (HSb.out.kept (HK.out.trans hKY) (by simp))
          obtain ⟨C2, hC2⟩ : ∃ C, C = bs.take 200 := ⟨_, rfl⟩
          obtain ⟨C6, hC6⟩ : ∃ C, C = bs.take 60 := ⟨_, rfl⟩
          have hC2l : C2.length ≤ 200 := by rw [hC2, List.length_take]; omega
          have hC6l : C6.length ≤ 60 := by rw [hC6, List.length_take]; omega
          have HC2B : Hid (Bs C2) := hide (by rw [hC2]; exact HBb.out.take _)
          have HC6B : Hid (Bs C6) := hide (by rw [hC6]; exact HBb.out.take _)
          have HCt2 := hide (cut_any (.slice ab nb cb) bs 200 wc HSbc.out)
          have HCt6 := hide (fun w' (k : Kp [] wc w') => cut_any (.slice ab nb cb) bs 60 w' (HSbc.out.kept k (by simp)))
          rw [← hC2] at HCt2
          rw [← hC6] at HCt6
          obtain ⟨wc0, hwc0⟩ : ∃ y, y = wc := ⟨_, rfl⟩
          clear hcut HRY HKY hRY hBY hYl hKY hC2 hC6 hwc0
          go_wp2_with fail
          refine HCt2.out.mono ?_
          rintro ee w8 ⟨a2, c2, rfl, hT2, hw8⟩
          subst w8
          have HS2 := hide (hT2 _ HSbc.out)
          obtain ⟨n2, hn2⟩ : ∃ n, n = C2.length := ⟨_, rfl⟩
          rw [← hn2] at HS2 ⊢
          have K1 : Kp [] wc (wc.alloc (.cells #[] 5)) := (Kp.refl [] wc).alloc _
          have hrow0 : Row (wc.alloc (.cells #[] 5)) wc.heap.size (.slice (some ⟨wc.heap.size, 0, none⟩) 0 0) [] := World.ownsRow_made wc #[] 0 (Nat.le_refl _) (by simp [maxLen]) rfl
          have hSx1 := (HR.out.sl.kept (HKY2.out.trans K1) (by simp))
          clear HCt2 hT2 hn2
          go_wp2_with (at_builtin; refine wpList_append_row rfl (.tmp 58) (.tmp 59) rfl wc.heap.size _ [] rfl hrow0 _ X rfl hSx1 (by simp; omega) K1.size ?_; intro a60 m60 c60 w9 R60 S60; refine Hid.out ?_)
          have HK9 : Hid (Kp [] wc w9) := hide (S60.kpn K1 hrow0)
          rw [List.nil_append] at R60
          have HR60 := hide R60
          have HCt := hide (HCt6.out w9 HK9.out)
          clear K1 hrow0 hSx1 R60 S60 HCt6
          refine hide ?_
          go_wp2_with fail
          refine HCt.out.mono ?_
          rintro ee w10 ⟨a6, c6, rfl, hT6, hw10⟩
          subst w10
          have HS6 := hide (hT6 _ (HSbc.out.kept HK9.out (by simp)))
          obtain ⟨n6, hn6⟩ : ∃ n, n = C6.length := ⟨_, rfl⟩
          rw [← hn6] at HS6 ⊢
          clear HCt hT6 hn6
          go_wp2_with (at_builtin; refine wpList_append_row rfl (.tmp 60) (.tmp 62) rfl wc.heap.size _ X rfl HR60.out _ C6 rfl HS6.out (by omega) HK9.out.size ?_; intro a63 m63 c63 w11 R63 S63; refine Hid.out ?_)
          have HK11 : Hid (Kp [] wc w11) := hide (S63.kpn HK9.out HR60.out)
          have HR63 := hide R63
          clear R63 S63
          refine hide ?_
          go_wp2_with fail
          obtain ⟨gq, hgq⟩ : ∃ g, g = w11.heap.size := ⟨_, rfl⟩
          obtain ⟨wd, hwd⟩ : ∃ y, y = w11.alloc (.cells #[.slice ao my c, .slice ay my cy, .slice a2 n2 c2, .slice a63 m63 c63] 22) := ⟨_, rfl⟩
          have Kd : Kp [] w11 wd := by rw [hwd]; exact (Kp.refl [] _).alloc _
          have Hgq : wd.heap[gq]? = some (.cells #[.slice ao my c, .slice ay my cy, .slice a2 n2 c2, .slice a63 m63 c63] 22 (0, 0)) := by rw [hwd, hgq]; exact heap_alloc_new w11 _
          have Kcd := HK11.out.trans Kd
          have HZ4 : Hid (∀ q, q < 4 → Zed wd gq q) := hide (fun q hq => by
            rcases (by omega : q = 0 ∨ q = 1 ∨ q = 2 ∨ q = 3) with rfl | rfl | rfl | rfl
            · exact ⟨ao, my, c, X, by rw [cell_of_row wd gq 0 _ _ _ Hgq]; rfl, HR.out.sl.kept (HKY2.out.trans Kcd) (by simp), HBX.out, by have := HXl2.out; omega⟩
            · exact ⟨ay, my, cy, Y, by rw [cell_of_row wd gq 1 _ _ _ Hgq]; rfl, HRY2.out.sl.kept Kcd (by simp), HBY.out, by rw [HYl.out]; omega⟩
            · exact ⟨a2, n2, c2, C2, by rw [cell_of_row wd gq 2 _ _ _ Hgq]; rfl, HS2.out.kept Kcd (by simp), HC2B.out, by omega⟩
            · refine ⟨a63, m63, c63, X ++ C6, by rw [cell_of_row wd gq 3 _ _ _ Hgq]; rfl, HR63.out.sl.kept Kd (by simp), fun b hb => ?_, by rw [List.length_append]; have := HXl2.out; omega⟩
              rcases List.mem_append.1 hb with hb | hb
              · exact HBX.out b hb
              · exact HC6B.out b hb)
          have HKwd : Hid (Kp [] w wd) := hide (HK.out.trans (HKY2.out.trans Kcd))
          rw [← hwd, ← hgq]
          clear Hgq Kd Kcd hwd hgq
          go_loopw [66] (fun j wz => ∃ q : Nat, q ≤ 4 ∧ j = .int .i64 q ∧ Hid (Kp [] wd wz)) (fun j _ => 4 - (intOf j).toNat)
          case atStart => exact ⟨0, by omega, rfl, hide (Kp.refl _ _)⟩
          case round =>
            obtain ⟨q, hq, rfl, HKz⟩ := hrel
            have HKr := hide (HKwd.out.trans HKz.out)
            by_cases hq4 : q < 4
            · have hq4' : (q : Int) < 4 := by omega
              obtain ⟨az, nz, cz, Z, hcz, hSz, hBz, hZl⟩ := HZ4.out q hq4
              have hcr := HKz.out.cell hcz (by simp)
              have HSz := hide (hSz.kept HKz.out (by simp))
              have HBz := hide hBz
              have HOn := hide (uon_any (.slice az nz cz) Z wr HSz.out hBz (by omega))
              clear hcz hSz hBz
              go_wp2_with fail
              refine HOn.out.mono ?_
              rintro ee w1 ⟨pd, v1, rfl, N1⟩
              have HN1 := hide N1
              have HF2 := hide (fresh_any w1)
              clear HOn N1
              go_wp2_with fail
              refine HF2.out.mono ?_
              rintro ee w2 ⟨pk, rfl, N2⟩
              have HN2 := hide N2
              have HSd := hide (xseed_any 3 w2)
              clear HF2 N2
              go_wp2_with fail
              refine HSd.out.mono ?_
              rintro ee w3 ⟨as_, ms, cs, rfl, R3, K3⟩
              obtain ⟨ok2, d2, k2⟩ := two_ok HN1.out HN2.out
              have o3 := ok2.on K3
              have hno : ∀ i, (Value.slice as_ ms cs).ownBlock = some i → ¬ (f2 wr.heap.size w1.heap.size w2.heap.size).tot i := fun i hi ⟨a, ha⟩ => by have := (ok2.rng a i ha).2; have := R3.own i hi; omega
              obtain ⟨okb, hokb⟩ : ∃ b, b = ((opnP Z).2.2 && (redU (opnP Z).1).isSome) := ⟨_, rfl⟩
              have hsB := seedX_bs 3
              have hsl := seedX_len 3
              cases okb with
              | false =>
                have HO := hide (uopen_bad (.slice as_ ms cs) (seedX 3) R3.sl hsl o3 (d2.kept K3 o3.kp (by simp)) rfl (Int.le_refl 0) (k2.kept K3 o3.kp (by simp)) rfl (Int.le_refl 0) rfl (Nat.zero_le _) (klay_opn 0) (bd := Z) rfl HBz.out (by omega) hokb.symm)
                have HOk := hide hokb
                clear HSd R3 K3 HN1 HN2 ok2 d2 k2 o3 hno hokb hsB hsl
                go_wp2_with fail
                refine HO.out.mono ?_
                rintro ee w4 ⟨rfl, K4⟩
                have HRd := hide (rread_any (.slice az nz cz) Z w4 (HSz.out.kept K4 (by simp)) HBz.out (by omega) false HOk.out)
                have HK4 := hide K4
                clear HO K4
                go_wp2_with fail
                refine HRd.out.mono ?_
                rintro ee w5 ⟨aw, mw, cw, rfl, K5, -⟩
                have HK5 := hide (HK4.out.trans K5)
                clear HRd K5 HK4
                go_wp2_with fail
                refine region_grow Tryz.mixed [Is (.bool false), Is (.bool false), Is (undef), Is (undef), Is (undef), Is (undef), Is (undef), Is (undef), Is (undef), Is (undef), Is (undef), Is (undef), Is (undef), Is (undef), Is (undef), Is (undef), Is (undef), Is (.bool false)] [[(17, none)], [(101, some 0)], [(14, none), (102, some 1)], [(103, some 2), (102, some 1)], [(16, none), (102, some 1)], [(105, some 4), (102, some 1)], [(104, some 3), (106, some 5), (102, some 1)], [(107, some 6), (102, some 1)], [(14, none), (108, some 7)], [(109, some 8), (108, some 7)], [(110, some 9), (108, some 7)], [(16, none), (108, some 7)], [(112, some 11), (108, some 7)], [(113, some 12), (108, some 7)], [(114, some 13), (108, some 7)], [(111, some 10), (115, some 14), (108, some 7)], [(108, some 7), (116, some 15), (102, some 1)], [(102, some 1), (117, some 16)]] (by kernel_rfl) ?_ ?_ ?_
                · simp only [List.mem_cons, List.not_mem_nil, or_false]
                  intro R hR
                  rcases hR with rfl | rfl | rfl | rfl | rfl | rfl | rfl | rfl | rfl | rfl | rfl | rfl | rfl | rfl | rfl | rfl | rfl | rfl <;> first | exact stable_is _
                · refine steps_cons (fun a w hk hn => ?_) ?_
                  · have h17 : a.eval (.tmp 17) = .bool false := hn.1
                    clear hn
                    refine wants_plain rfl ?_
                    exact grown_move (.tmp 17) rfl h17
                  refine steps_cons (fun a w hk hn => ?_) ?_
                  · have h101 : a.eval (.tmp 101) = .bool false := hn.1
                    clear hn
                    refine wants_plain rfl ?_
                    exact grown_move (.tmp 101) rfl h101
                  refine steps_cons (fun a w hk hn => ?_) ?_
                  · have h14 : a.eval (.tmp 14) = .pointer none := hn.1
                    have h102 : a.eval (.tmp 102) = .bool false := hn.2.1
                    clear hn
                    exact wants_not (d := 102) rfl rfl h102 rfl
                  refine steps_cons (fun a w hk hn => ?_) ?_
                  · have h103 : a.eval (.tmp 103) = undef := hn.1
                    have h102 : a.eval (.tmp 102) = .bool false := hn.2.1
                    clear hn
                    exact wants_not (d := 102) rfl rfl h102 rfl
                  refine steps_cons (fun a w hk hn => ?_) ?_
                  · have h16 : a.eval (.tmp 16) = .slice aw mw cw := hn.1
                    have h102 : a.eval (.tmp 102) = .bool false := hn.2.1
                    clear hn
                    exact wants_not (d := 102) rfl rfl h102 rfl
                  refine steps_cons (fun a w hk hn => ?_) ?_
                  · have h105 : a.eval (.tmp 105) = undef := hn.1
                    have h102 : a.eval (.tmp 102) = .bool false := hn.2.1
                    clear hn
                    exact wants_not (d := 102) rfl rfl h102 rfl
                  refine steps_cons (fun a w hk hn => ?_) ?_
                  · have h104 : a.eval (.tmp 104) = undef := hn.1
                    have h106 : a.eval (.tmp 106) = undef := hn.2.1
                    have h102 : a.eval (.tmp 102) = .bool false := hn.2.2.1
                    clear hn
                    exact wants_not (d := 102) rfl rfl h102 rfl
                  refine steps_cons (fun a w hk hn => ?_) ?_
                  · have h107 : a.eval (.tmp 107) = undef := hn.1
                    have h102 : a.eval (.tmp 102) = .bool false := hn.2.1
                    clear hn
                    exact wants_not (d := 102) rfl rfl h102 rfl
                  refine steps_cons (fun a w hk hn => ?_) ?_
                  · have h14 : a.eval (.tmp 14) = .pointer none := hn.1
                    have h108 : a.eval (.tmp 108) = undef := hn.2.1
                    clear hn
                    exact wants_none (d := 108) rfl rfl h108 rfl
                  refine steps_cons (fun a w hk hn => ?_) ?_
                  · have h109 : a.eval (.tmp 109) = undef := hn.1
                    have h108 : a.eval (.tmp 108) = undef := hn.2.1
                    clear hn
                    exact wants_none (d := 108) rfl rfl h108 rfl
                  refine steps_cons (fun a w hk hn => ?_) ?_
                  · have h110 : a.eval (.tmp 110) = undef := hn.1
                    have h108 : a.eval (.tmp 108) = undef := hn.2.1
                    clear hn
                    exact wants_none (d := 108) rfl rfl h108 rfl
                  refine steps_cons (fun a w hk hn => ?_) ?_
                  · have h16 : a.eval (.tmp 16) = .slice aw mw cw := hn.1
                    have h108 : a.eval (.tmp 108) = undef := hn.2.1
                    clear hn
                    exact wants_none (d := 108) rfl rfl h108 rfl
                  refine steps_cons (fun a w hk hn => ?_) ?_
                  · have h112 : a.eval (.tmp 112) = undef := hn.1
                    have h108 : a.eval (.tmp 108) = undef := hn.2.1
                    clear hn
                    exact wants_none (d := 108) rfl rfl h108 rfl
                  refine steps_cons (fun a w hk hn => ?_) ?_
                  · have h113 : a.eval (.tmp 113) = undef := hn.1
                    have h108 : a.eval (.tmp 108) = undef := hn.2.1
                    clear hn
                    exact wants_none (d := 108) rfl rfl h108 rfl
                  refine steps_cons (fun a w hk hn => ?_) ?_
                  · have h114 : a.eval (.tmp 114) = undef := hn.1
                    have h108 : a.eval (.tmp 108) = undef := hn.2.1
                    clear hn
                    exact wants_none (d := 108) rfl rfl h108 rfl
                  refine steps_cons (fun a w hk hn => ?_) ?_
                  · have h111 : a.eval (.tmp 111) = undef := hn.1
                    have h115 : a.eval (.tmp 115) = undef := hn.2.1
                    have h108 : a.eval (.tmp 108) = undef := hn.2.2.1
                    clear hn
                    exact wants_none (d := 108) rfl rfl h108 rfl
                  refine steps_cons (fun a w hk hn => ?_) ?_
                  · have h108 : a.eval (.tmp 108) = undef := hn.1
                    have h116 : a.eval (.tmp 116) = undef := hn.2.1
                    have h102 : a.eval (.tmp 102) = .bool false := hn.2.2.1
                    clear hn
                    exact wants_not (d := 102) rfl rfl h102 rfl
                  refine steps_cons (fun a w hk hn => ?_) ?_
                  · have h102 : a.eval (.tmp 102) = .bool false := hn.1
                    have h117 : a.eval (.tmp 117) = undef := hn.2.1
                    clear hn
                    refine wants_plain rfl ?_
                    exact grown_pick _ _ _ false rfl h102 rfl
                  exact trivial
                intro W1 hkW1
                rintro _ rfl
                rintro _ rfl
                rintro _ rfl
                rintro _ rfl
                rintro _ rfl
                rintro _ rfl
                rintro _ rfl
                rintro _ rfl
                rintro _ rfl
                rintro _ rfl
                rintro _ rfl
                rintro _ rfl
                rintro _ rfl
                rintro _ rfl
                rintro _ rfl
                rintro _ rfl
                rintro _ rfl
                rintro _ rfl
                refine fin_nil ?_
                simp only [Act.put, List.set_cons_zero, List.set_cons_succ, List.setIfInBounds_toArray]
                have HK6 := hide (HK5.out.trans ((kp_drew w5).trans hkW1))
                clear hkW1
                go_wp2_with fail
                go_roundw
                case rel => exact ⟨q + 1, by omega, by go_num, hide (HKz.out.trans HK6.out)⟩
                case measure => simp [intOf]; omega
              | true =>
                obtain ⟨h1, h2⟩ := (Bool.and_eq_true_iff.1 hokb.symm)
                obtain ⟨its, hits⟩ := Option.isSome_iff_exists.1 h2
                obtain ⟨rs, hrs⟩ : ∃ r, r = (opnP Z).1 := ⟨_, rfl⟩
                obtain ⟨at2, hat2⟩ : ∃ r, r = (opnP Z).2.1 := ⟨_, rfl⟩
                have hop : opnP Z = (rs, at2, true) := by rw [hrs, hat2, ← h1]
                have hrB := opnP_bs HBz.out
                have hlr := Nat.le_trans (opnP_len Z) hZl
                have hcn := opnP_cnt Z
                rw [← hrs] at hits hrB hlr hcn
                have hgat : gatU [] rs = some its ∧ its.length ≤ 256 := by
                  unfold redU at hits
                  cases hg : gatU [] rs with
                  | none => rw [hg] at hits; cases hits
                  | some m =>
                    rw [hg] at hits
                    simp only at hits
                    split at hits
                    · injection hits with e; subst e; exact ⟨rfl, by assumption⟩
                    · cases hits
                have HO := hide (uopen_ok (dd' := (dkOn Z).opn) (.slice as_ ms cs) (seedX 3) R3.sl hsB hsl hno o3 (d2.kept K3 o3.kp (by simp)) rfl (Int.le_refl 0) (k2.kept K3 o3.kp (by simp)) rfl (Int.le_refl 0) rfl (Nat.zero_le _) (klay_opn 0) (klay_dk 0) (bd := Z) rfl hop rfl (rs := rs) (its := its) hgat.1 hgat.2 hrB (by omega) (by omega))
                have HOk := hide hokb
                have HRed : Hid (redU (opnP Z).1 = some its) := hide (by rw [← hrs]; exact hits)
                clear HSd R3 K3 HN1 HN2 ok2 d2 k2 o3 hno hokb hsB hsl h1 h2 hits hrs hat2 hop hrB hlr hcn hgat
                go_wp2_with fail
                refine HO.out.mono ?_
                rintro ee w4 ⟨l, rfl, f, L4, -⟩
                have HL4 := hide L4
                have HRd := hide (rread_any (.slice az nz cz) Z w4 (HSz.out.kept L4.kp (by simp)) HBz.out (by omega) true HOk.out)
                clear HO L4
                go_wp2_with fail
                refine HRd.out.mono ?_
                rintro ee w5 ⟨aw, mw, cw, rfl, K5, hread⟩
                obtain ⟨hmw, lw, hRw, hlw⟩ := hread its trivial HRed.out
                have HL5 := hide (HL4.out.on K5)
                have hits256 : its.length ≤ 256 := HL5.out.few
                have HBits := hide (HL5.out.bs)
                have HD5 : Hid (∀ w', Kp [] w5.drew w' → Kp [] w5 w') := hide (fun w' k => (kp_drew w5).trans k)
                have HLw : Hid (∀ w', Kp [] w5.drew w' → Lg wr w' l pd pk _ f) := hide (fun w' k => HL5.out.on (HD5.out w' k))
                have HGw : Hid (∀ w', Kp [] w5.drew w' → Gl w') := hide (fun w' k => HG.out.kept (HKr.out.trans (HLw.out w' k).kp) (by simp))
                have HWw : Hid (∀ w', Kp [] w5.drew w' → LcM its (.slice aw mw cw) w') := hide (fun w' k => ⟨lw, lc_of_owns (hRw.kept (HD5.out w' k) (by simp)).1.1 ((hRw.kept (HD5.out w' k) (by simp)).lists (by have h1 := congrArg List.length hlw; rw [List.length_map] at h1; omega)), hlw⟩)
                obtain ⟨r, hr⟩ : ∃ r, r = rtU its := ⟨_, rfl⟩
                obtain ⟨LV, hLV⟩ : ∃ L, L = its.map tleafP := ⟨_, rfl⟩
                obtain ⟨SS, hSS⟩ : ∃ S, S = strOfNums r := ⟨_, rfl⟩
                have HSz2 : Hid ((mw : Int) = its.length) := hide (by rw [hmw])
                have HR : Hid (r = rtU its) := hide hr
                have HRv : Hid (r = trootP LV) := hide (by rw [hr, hLV]; rfl)
                have HIn : Hid (its.length ≤ 1000) := hide (by omega)
                have HIm : Hid (∀ x ∈ its, x.length ≤ 65535) := hide (fun x hx => (HBits.out x hx).2)
                have HLl : Hid ((its.map tleafP).length ≤ 1000) := hide (by rw [List.length_map]; omega)
                have HLv := hide hLV
                have HLn : Hid (LV.length ≤ 100000) := hide (by rw [hLV, List.length_map]; omega)
                have HLm : Hid (∀ x ∈ LV, x.length ≤ 1000) := hide (by
                  rw [hLV]
                  intro x hx
                  obtain ⟨y, _, rfl⟩ := List.mem_map.1 hx
                  have := sha_len (0 :: y)
                  unfold tleafP
                  omega)
                have HSS := hide hSS
                have HSz := HSz2
                clear HRd K5 hread hmw hRw hlw hits256 hr hLV hSS HSz2
                go_wp2_with fail
                refine region_grow Tryz.mixed [Is (.bool true), Is (.bool true), Is (.pointer (some ⟨l, 0, none⟩)), Is (.int .i64 mw), Is (.slice aw mw cw), Is (.int .i64 mw), Is (.bool false), Is (.bool false), Is (.pointer (some ⟨l, 0, none⟩)), SlT (r), Is (.string SS), Is (.slice aw mw cw), LcM LV, SlT (r), Is (.string SS), Is (.bool false), Is (.bool false), Is (.bool false)] [[(17, none)], [(101, some 0)], [(14, none), (102, some 1)], [(103, some 2), (102, some 1)], [(16, none), (102, some 1)], [(105, some 4), (102, some 1)], [(104, some 3), (106, some 5), (102, some 1)], [(107, some 6), (102, some 1)], [(14, none), (108, some 7)], [(109, some 8), (108, some 7)], [(110, some 9), (108, some 7)], [(16, none), (108, some 7)], [(112, some 11), (108, some 7)], [(113, some 12), (108, some 7)], [(114, some 13), (108, some 7)], [(111, some 10), (115, some 14), (108, some 7)], [(108, some 7), (116, some 15), (102, some 1)], [(102, some 1), (117, some 16)]] (by kernel_rfl) ?_ ?_ ?_
                · simp only [List.mem_cons, List.not_mem_nil, or_false]
                  intro R hR
                  rcases hR with rfl | rfl | rfl | rfl | rfl | rfl | rfl | rfl | rfl | rfl | rfl | rfl | rfl | rfl | rfl | rfl | rfl | rfl <;> first | exact stable_is _ | exact stable_sl _ | exact stable_lcm _
                · refine steps_cons (fun a w hk hn => ?_) ?_
                  · have h17 : a.eval (.tmp 17) = .bool true := hn.1
                    clear hn
                    refine wants_plain rfl ?_
                    exact grown_move (.tmp 17) rfl h17
                  refine steps_cons (fun a w hk hn => ?_) ?_
                  · have h101 : a.eval (.tmp 101) = .bool true := hn.1
                    clear hn
                    refine wants_plain rfl ?_
                    exact grown_move (.tmp 101) rfl h101
                  refine steps_cons (fun a w hk hn => ?_) ?_
                  · have h14 : a.eval (.tmp 14) = .pointer (some ⟨l, 0, none⟩) := hn.1
                    have h102 : a.eval (.tmp 102) = .bool true := hn.2.1
                    clear hn
                    refine wants_guard (d := 102) rfl rfl h102 ?_
                    exact grown_move (.tmp 14) rfl h14
                  refine steps_cons (fun a w hk hn => ?_) ?_
                  · have h103 : a.eval (.tmp 103) = .pointer (some ⟨l, 0, none⟩) := hn.1
                    have h102 : a.eval (.tmp 102) = .bool true := hn.2.1
                    clear hn
                    refine wants_guard (d := 102) rfl rfl h102 ?_
                    refine grown_call (f := 16) rfl Tryz.func16 (by kernel_rfl) (by kernel_rfl) ?_
                    simp only [List.map_toArray, List.map_cons, List.map_nil, h103]
                    refine (usize_any (HLw.out w hk) (mw : Int) HSz.out).mono ?_
                    rintro e w' ⟨rfl, rfl⟩
                    exact ⟨_, rfl, Kp.refl _ _, rfl⟩
                  refine steps_cons (fun a w hk hn => ?_) ?_
                  · have h16 : a.eval (.tmp 16) = .slice aw mw cw := hn.1
                    have h102 : a.eval (.tmp 102) = .bool true := hn.2.1
                    clear hn
                    refine wants_guard (d := 102) rfl rfl h102 ?_
                    exact grown_move (.tmp 16) rfl h16
                  refine steps_cons (fun a w hk hn => ?_) ?_
                  · have h105 : a.eval (.tmp 105) = .slice aw mw cw := hn.1
                    have h102 : a.eval (.tmp 102) = .bool true := hn.2.1
                    clear hn
                    refine wants_guard (d := 102) rfl rfl h102 ?_
                    refine grown_run (v := .int .i64 mw) ?_ (Kp.refl _ _) rfl
                    obtain ⟨ρ, hρ, hc, hf, hg⟩ := eval_is a
                    rw [hρ] at h105 ⊢
                    simp [go_sem, h105]
                  refine steps_cons (fun a w hk hn => ?_) ?_
                  · have h104 : a.eval (.tmp 104) = .int .i64 mw := hn.1
                    have h106 : a.eval (.tmp 106) = .int .i64 mw := hn.2.1
                    have h102 : a.eval (.tmp 102) = .bool true := hn.2.2.1
                    clear hn
                    refine wants_guard (d := 102) rfl rfl h102 ?_
                    refine grown_run (v := .bool false) ?_ (Kp.refl _ _) rfl
                    obtain ⟨ρ, hρ, hc, hf, hg⟩ := eval_is a
                    rw [hρ] at h104 h106 ⊢
                    simp [go_sem, h104, h106]
                  refine steps_cons (fun a w hk hn => ?_) ?_
                  · have h107 : a.eval (.tmp 107) = .bool false := hn.1
                    have h102 : a.eval (.tmp 102) = .bool true := hn.2.1
                    clear hn
                    refine wants_guard (d := 102) rfl rfl h102 ?_
                    exact grown_move (.tmp 107) rfl h107
                  refine steps_cons (fun a w hk hn => ?_) ?_
                  · have h14 : a.eval (.tmp 14) = .pointer (some ⟨l, 0, none⟩) := hn.1
                    have h108 : a.eval (.tmp 108) = .bool false := hn.2.1
                    clear hn
                    refine wants_guard (d := 108) rfl rfl h108 ?_
                    exact grown_move (.tmp 14) rfl h14
                  refine steps_cons (fun a w hk hn => ?_) ?_
                  · have h109 : a.eval (.tmp 109) = .pointer (some ⟨l, 0, none⟩) := hn.1
                    have h108 : a.eval (.tmp 108) = .bool false := hn.2.1
                    clear hn
                    refine wants_guard (d := 108) rfl rfl h108 ?_
                    refine grown_call (f := 23) rfl Tryz.func23 (by kernel_rfl) (by kernel_rfl) ?_
                    simp only [List.map_toArray, List.map_cons, List.map_nil, h109]
                    refine (uroot_any (HLw.out w hk) r HR.out (HGw.out w hk)).mono ?_
                    rintro e w' ⟨ao, m, c, rfl, R, K⟩
                    exact ⟨_, rfl, K, R.sl⟩
                  refine steps_cons (fun a w hk hn => ?_) ?_
                  · have h110 : Sl w (a.eval (.tmp 110)) (r) := hn.1
                    have h108 : a.eval (.tmp 108) = .bool false := hn.2.1
                    clear hn
                    refine wants_guard (d := 108) rfl rfl h108 ?_
                    exact grown_conv (.tmp 110) _ _ 5 _ rfl h110 Tryz.underlying22 Tryz.underlying5 Tryz.underlying9 (congrArg Value.string (unhide HSS).symm)
                  refine steps_cons (fun a w hk hn => ?_) ?_
                  · have h16 : a.eval (.tmp 16) = .slice aw mw cw := hn.1
                    have h108 : a.eval (.tmp 108) = .bool false := hn.2.1
                    clear hn
                    refine wants_guard (d := 108) rfl rfl h108 ?_
                    exact grown_move (.tmp 16) rfl h16
                  refine steps_cons (fun a w hk hn => ?_) ?_
                  · have h112 : a.eval (.tmp 112) = .slice aw mw cw := hn.1
                    have h108 : a.eval (.tmp 108) = .bool false := hn.2.1
                    clear hn
                    refine wants_guard (d := 108) rfl rfl h108 ?_
                    refine grown_call (f := 25) rfl Tryz.func25 (by kernel_rfl) (by kernel_rfl) ?_
                    simp only [List.map_toArray, List.map_cons, List.map_nil, h112]
                    refine (rleaves_big _ its w (HWw.out w hk) HIn.out HIm.out).mono ?_
                    rintro e w' ⟨ao, m, c, rfl, A⟩
                    exact ⟨_, rfl, A.kp, by have := A.lcm HLl.out; rwa [← HLv.out] at this⟩
                  refine steps_cons (fun a w hk hn => ?_) ?_
                  · have h113 : (LcM LV) (a.eval (.tmp 113)) w := hn.1
                    have h108 : a.eval (.tmp 108) = .bool false := hn.2.1
                    clear hn
                    refine wants_guard (d := 108) rfl rfl h108 ?_
                    refine grown_call (f := 24) rfl Tryz.func24 (by kernel_rfl) (by kernel_rfl) ?_
                    simp only [List.map_toArray, List.map_cons, List.map_nil]
                    refine (rroot_any LV.length _ LV r w HRv.out rfl HLn.out h113 HLm.out).mono ?_
                    rintro e w' ⟨ao, m, c, rfl, R, K⟩
                    exact ⟨_, rfl, K, R⟩
                  refine steps_cons (fun a w hk hn => ?_) ?_
                  · have h114 : Sl w (a.eval (.tmp 114)) (r) := hn.1
                    have h108 : a.eval (.tmp 108) = .bool false := hn.2.1
                    clear hn
                    refine wants_guard (d := 108) rfl rfl h108 ?_
                    exact grown_conv (.tmp 114) _ _ 5 _ rfl h114 Tryz.underlying22 Tryz.underlying5 Tryz.underlying9 (congrArg Value.string (unhide HSS).symm)
                  refine steps_cons (fun a w hk hn => ?_) ?_
                  · have h111 : a.eval (.tmp 111) = .string SS := hn.1
                    have h115 : a.eval (.tmp 115) = .string SS := hn.2.1
                    have h108 : a.eval (.tmp 108) = .bool false := hn.2.2.1
                    clear hn
                    refine wants_guard (d := 108) rfl rfl h108 ?_
                    refine grown_run (v := .bool false) ?_ (Kp.refl _ _) rfl
                    obtain ⟨ρ, hρ, hc, hf, hg⟩ := eval_is a
                    rw [hρ] at h111 h115 ⊢
                    simp [go_sem, h111, h115]
                  refine steps_cons (fun a w hk hn => ?_) ?_
                  · have h108 : a.eval (.tmp 108) = .bool false := hn.1
                    have h116 : a.eval (.tmp 116) = .bool false := hn.2.1
                    have h102 : a.eval (.tmp 102) = .bool true := hn.2.2.1
                    clear hn
                    refine wants_guard (d := 102) rfl rfl h102 ?_
                    exact grown_pick _ _ _ false rfl h108 h116
                  refine steps_cons (fun a w hk hn => ?_) ?_
                  · have h102 : a.eval (.tmp 102) = .bool true := hn.1
                    have h117 : a.eval (.tmp 117) = .bool false := hn.2.1
                    clear hn
                    refine wants_plain rfl ?_
                    exact grown_pick _ _ _ true rfl h102 h117
                  exact trivial
                intro W1 hkW1
                rintro _ rfl
                rintro _ rfl
                rintro _ rfl
                rintro _ rfl
                rintro _ rfl
                rintro _ rfl
                rintro _ rfl
                rintro _ rfl
                rintro _ rfl
                intro v110 h110
                rintro _ rfl
                rintro _ rfl
                intro v113 h113
                intro v114 h114
                rintro _ rfl
                rintro _ rfl
                rintro _ rfl
                rintro _ rfl
                refine fin_nil ?_
                simp only [Act.put, List.set_cons_zero, List.set_cons_succ, List.setIfInBounds_toArray]
                have HK6 := hide ((HLw.out W1 hkW1).kp)
                clear hkW1 h110 h113 h114
                go_wp2_with fail
                go_roundw
                case rel => exact ⟨q + 1, by omega, by go_num, hide (HKz.out.trans HK6.out)⟩
                case measure => simp [intOf]; omega
            · have hq4' : ¬ (q : Int) < 4 := by omega
              have HKn := hide (uknown_any wr (HG.out.kept HKr.out (by simp)))
              clear HKz
              go_wp2_with fail
              refine HKn.out.mono ?_
              rintro ee w9 ⟨rfl, K9⟩
              have HK9 := hide (HKr.out.trans K9)
              clear HKn K9
              go_wp2_with fail
              go_ret
              exact ⟨rfl, HK9.out.below (Nat.le_refl _) (by simp)⟩
set_option maxRecDepth 100000 in
theorem lifted (os : Os) (started : os.Started) (H : Type) (enc : TypeId × Value → H) :
    ReturnsInHanded {} Tryz.checked os 5 .any (fun w args => (Rows.ledgerOpensSpec.pre enc Tryz.prog Tryz.f5 [] false w args ∧ laidMetH Tryz.prog laid1 w) ∧ sizedMet enc Tryz.prog Tryz.f5 (OpenSpec.ofChange Rows.ledgerOpensSpec) false w args) (Rows.ledgerOpensSpec.post enc Tryz.prog Tryz.f5 false true false false) := by
  refine returnsInHanded_of_change_and (C := Tryz.checked) (X := fun w _ => laidMetH Tryz.prog laid1 w) (fun _ _ _ hh h => h.of_heap hh) own started (by kernel_rfl) Tryz.func5
    (ChangeSpec.witness_shaped (enc := enc) (C := Tryz.checked) (os := os) (X := fun w _ => laidMetH Tryz.prog laid1 w) false (World.doorLaid Tryz.prog 400 os) #[.slice none 0 0, .slice none 0 0, .int .i64 0, .int .u8 0] 8 rfl (World.shaped_of_RefB (by kernel_rfl) (by kernel_rfl)) (by kernel_rfl) (by kernel_rfl) (by kernel_rfl) (door_met os _)) ?_
  intro W base args ds gs before hval0 hW hcnd hsz0 hL _
  have hG := gl_of_laid hL
  have hval : ∀ (j : Nat) t v, Tryz.f5.params[j]? = some t → args[j]? = some v → Value.okWide Tryz.prog W .any base t v := hval0
  have hW' := hW
  obtain ⟨p, q, hA0, hV, rfl, hfz, hnd⟩ := hW
  have hA : DataW.TrodAll enc Tryz.prog W 0 (fun _ => true) true Tryz.f5.params.toList args.toList ds p := hA0
  rw [Tryz.params5] at hA hval
  obtain ⟨v0, vs0, d0, ds0, p0, q0, hargs, rfl, rfl, h0, r0⟩ := trodAll_cons hA
  obtain ⟨v1, vs1, d1, ds1, p1, q1, rfl, rfl, rfl, h1, r1⟩ := trodAll_cons r0
  obtain ⟨v2, vs2, d2, ds2, p2, q2, rfl, rfl, rfl, h2, r2⟩ := trodAll_cons r1
  obtain ⟨v3, vs3, d3, ds3, p3, q3, rfl, rfl, rfl, h3, r3⟩ := trodAll_cons r2
  obtain ⟨rfl, rfl, rfl⟩ := trodAll_nil r3
  obtain rfl : args = #[v0, v1, v2, v3] := by cases args; simp_all
  obtain ⟨rfl, rfl⟩ := trodVars_none hV
  obtain ⟨a0, len0, cap0, rfl⟩ := okWide_slice Tryz.underlying42 (hval 0 42 v0 rfl rfl)
  have k0 := h0
  have lt0 : ∀ x ∈ p0, x.block < W.heap.size := by obtain ⟨m, hm⟩ := k0; exact DataW.trod_lt m _ _ _ hm
  obtain ⟨l0, s0⟩ : ∃ l, Intss W (.slice a0 len0 cap0) l := by
    obtain ⟨fuel, hf⟩ := h0
    exact intss_of_trod (by simpa [Value.cells] using hf)
  obtain ⟨a1, len1, cap1, rfl⟩ := okWide_slice Tryz.underlying22 (hval 1 22 v1 rfl rfl)
  have k1 := h1
  have lt1 : ∀ x ∈ p1, x.block < W.heap.size := by obtain ⟨m, hm⟩ := k1; exact DataW.trod_lt m _ _ _ hm
  obtain ⟨l1, s1, b1⟩ : ∃ bs, Sl W (.slice a1 len1 cap1) bs ∧ Bs bs := by
    obtain ⟨fuel, hf⟩ := h1
    exact bytes_of_trod (by simpa [Value.cells] using hf)
  obtain ⟨a2, rfl, rfl, rfl, w2⟩ := open_int Tryz.underlying3 (hval 2 3 v2 rfl rfl) h2
  obtain ⟨a3, rfl, rfl, rfl, w3⟩ := open_int Tryz.underlying5 (hval 3 5 v3 rfl rfl) h3
  clear hA0 hval0
  refine (walk (.slice a0 len0 cap0) l0 (.slice a1 len1 cap1) l1 a2 a3 W hG s0 s1 b1 (bounds_i64 w2) (bounds_u8 w3)).mono fun e W' ⟨he, bel⟩ => ?_
  subst he
  exact ⟨_, rfl, _, _, _, [], _, [], hW', trodAll_mk1 (shut_bool Tryz.underlying4 _), (trodAll_cons_mk (Below.trod laidOut (by kernel_rfl) (of_decide_eq_true (by kernel_rfl)) k0 bel lt0) (trodAll_cons_mk (Below.trod laidOut (by kernel_rfl) (of_decide_eq_true (by kernel_rfl)) k1 bel lt1) (trodAll_cons_mk (shut_int Tryz.underlying3 w2) (trodAll_cons_mk (shut_int Tryz.underlying5 w3) trodAll_mk0)))), rfl, bel.frame _, fun h => by cases h⟩
theorem over : Rows.ledgerOpensRow.holds Tryz.pinned (OpenSpec.ofChange Rows.ledgerOpensSpec) :=
  OpenClaim.holds_of_wide 5 Tryz.f5 rfl rfl rfl rfl rfl rfl rfl ⟨rfl, rfl, rfl, rfl, rfl⟩ rfl rfl rfl rfl rfl (by kernel_rfl) Tryz.func5 (by kernel_rfl)
    (of_decide_eq_true (by kernel_rfl)) (by unfold Func.isWrapper; first | (rw [if_pos (by decide +kernel)]; kernel_rfl) | (rw [if_neg (by decide +kernel)]; exact ⟨rfl, rfl⟩))
    (fun os started H enc _ => lifted os started H enc)
end Go.Proofs.YtillhpgdlmeajaaGreatDoor.ledgerOpens
namespace Go.Proofs.YtillhpgdlmeajaaGreatDoor
/-- The given statement: the tied card. -/
theorem LedgerOpens_holds : Rows.LedgerOpensCardSaid :=
  Claim7.holds_tied_plain_at .later [] [.data] true Rows.ledgerOpensCard.stood.harness false
    ledgerOpens.over (fun _ h => by cases h) (by kernel_rfl) (fun _ h => by cases h) ledgerOpens_row_tie rfl ⟨rfl, rfl⟩ (by kernel_rfl) rfl
    (fun f fn hf hfn => by
      obtain rfl : f = 5 := Option.some.inj ((show Tryz.prog.funcNamed "broadsheet/broadsheetlaw15.LedgerOpens" = some 5 by kernel_rfl).symm.trans hf) |>.symm
      obtain rfl : fn = Tryz.f5 := (Option.some.inj (Tryz.func5.symm.trans hfn)).symm
      exact ⟨by kernel_rfl, fun j t ht => by
        rw [Tryz.params5] at ht
        have hm : t ∈ ([42, 22, 3, 5] : List TypeId) := by simpa using Array.mem_of_getElem? ht
        have hall : (([42, 22, 3, 5] : List TypeId).all fun u => !Tryz.prog.wantsStandIn u) = true := by kernel_rfl
        exact (show Tryz.prog.wantsStandIn t = false by simpa using List.all_eq_true.1 hall t hm)⟩)
    (by kernel_rfl)
#print axioms LedgerOpens_holds
end Go.Proofs.YtillhpgdlmeajaaGreatDoor
