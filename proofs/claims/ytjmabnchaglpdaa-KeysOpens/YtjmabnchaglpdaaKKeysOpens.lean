/-
  KeysOpens: what stands on a box's disk, whatever it is, is opened, cut or refused as the document says.
-/
import Derived.Test.YtjmabnchaglpdaaKKSt
import Derived.Test.YtjmabnchaglpdaaKJCut
import Derived.ShutString
import Derived.ChangeOld
import Derived.Below
namespace Go.Proofs.Ytjmabnchaglpdaa.keysOpens
open Go.ChangeShapes Go.WideShapes Go.ChangeAt Go.RowKit
open Go.Proofs.Ytjmabnchaglpdaa
set_option linter.unusedVariables false

theorem own : ownKnob Try.prog.godebug = none := by kernel_rfl
theorem laidOut : laidOutB Try.prog = true := by kernel_rfl
theorem ord_all {rs : List (List Int)} {r : Bool} {n : Nat} (ho : false = (r && inOrd rs)) (hr : r = true) (h16 : n ≤ 16) (hn : n = rs.length) (h : ordTo rs n) : False := by
  subst hn
  rw [hr, ordTo_all h h16] at ho
  cases ho
set_option maxHeartbeats 8000000 in
set_option maxRecDepth 100000 in
theorem walk (n at_ turn : Int) (v3 : Value) (l3 : List Int) (cut : Int) (w : World) (hn0 : -9223372036854775808 ≤ n ∧ n ≤ 9223372036854775807) (ha0 : -9223372036854775808 ≤ at_ ∧ at_ ≤ 9223372036854775807) (ht0 : 0 ≤ turn ∧ turn ≤ 255) (s3 : Sl w v3 l3) (b3 : Bs l3) (hc0 : -9223372036854775808 ≤ cut ∧ cut ≤ 9223372036854775807) :
    Calls Try.prog 6 #[.int .i64 n, .int .i64 at_, .int .u8 turn, v3, .int .i64 cut] w fun e w' => e = .returned (.bool true) ∧ Below w.heap.size w w' := by
  obtain ⟨a3, c3, e3, hc1, hc2, hc3, -⟩ := id s3
  obtain ⟨L3, hL3⟩ : ∃ L, L = l3.length := ⟨_, rfl⟩
  rw [← hL3] at e3 hc1
  subst e3
  have HS3 := hide (fun w' (k : Kp [] w w') => s3.kept k (by simp))
  have HB3 := hide b3
  have HL3 := hide hL3
  have HC1 := hide hc1
  have HC3 := hide hc3
  have hwk := wiP_ge n 0 18 (by omega)
  have HW1 := hide (within_wi n 0 18 w (by omega) (by omega) (by omega))
  obtain ⟨k, hk⟩ := Int.eq_ofNat_of_zero_le hwk.1
  rw [hk] at HW1 hwk
  have HLy := hide (klay_any k w (by omega))
  have hkb : k ≤ 18 := by omega
  obtain ⟨X, hX⟩ : ∃ X, X = klay k := ⟨_, rfl⟩
  have hXl : X.length ≤ 162 := by rw [hX, klay_len]; omega
  have HBX : Hid (Bs X) := by rw [hX]; exact klay_bs (by omega)
  rw [← hX] at HLy
  clear hL3 s3 b3 hc1 hc2 hc3 hn0 ha0 ht0 hc0 hwk hk hX
  go_enter Try.func6, Try.ntmps6
  go_wp2_with fail
  refine HW1.out.mono ?_
  rintro ee w1 ⟨rfl, hw1⟩
  subst w1
  clear HW1
  go_wp2_with fail
  refine HLy.out.mono ?_
  rintro ee w2 ⟨ax, mx, cx, rfl, RX, K2⟩
  have HMX := hide RX.len
  have HRX := hide RX
  have HK2 := hide K2
  have hr0 := row_none w2
  have hxa : Sl (w2.alloc (.cells #[] 5)) (.slice ax mx cx) X := RX.sl.kept ((Kp.refl [] w2).alloc _) (by simp)
  have HXL := hide hXl
  clear RX K2 HLy
  have ka : Kp [] w2 (w2.alloc (.cells #[] 5)) := (Kp.refl [] w2).alloc _
  have hmx' : (mx : Int) ≤ 162 := by have := HMX.out; omega
  go_upto_if 30 with (at_builtin; refine wpList_append_row rfl (.tmp 25) (.tmp 26) rfl w2.heap.size _ [] rfl hr0 _ X rfl hxa (by simp; omega) (by simp) ?_; intro ay my cy w3 RY SY; have HK23 : Hid (Kp [] w2 w3) := SY.kpn ka hr0; rw [List.nil_append] at RY; obtain rfl : mx = my := HMX.out.trans RY.len.symm; have HRY := hide RY; clear RY SY hr0 hxa ka)
  go_cut [] from 28 to 41 (fun wc => Hid (∃ Y, Sl wc (.slice ay mx cy) Y ∧ Bs Y ∧ Y.length = mx ∧ Kp [] w2 wc))
  case first =>
    by_cases h0 : 0 < mx
    · have hpos : (0 : Int) < (mx : Int) := by omega
      have hwi := wiP_ge at_ 0 ((mx : Int) - 1) (by omega)
      obtain ⟨q, hq⟩ : ∃ q : Nat, (q : Int) = wiP at_ 0 ((mx : Int) - 1) := ⟨(wiP at_ 0 ((mx : Int) - 1)).toNat, by omega⟩
      have hqm : (q : Int) < (mx : Int) := by omega
      have HW := hide (within_wi at_ 0 ((mx : Int) - 1) w3 (by omega) (by omega) (by omega))
      rw [← hq] at HW
      have hq0 : (0 : Int) ≤ (q : Int) := by omega
      have hwm : IntKind.i64.wrap ((mx : Int) - 1) = (mx : Int) - 1 := by simp [IntKind.wrap, IntKind.signed, IntKind.bits]; omega
      clear hwi hq h0
      obtain ⟨g, rfl, hg1, hg2, hcl, hfz, hst⟩ := HRY.out.spot (by omega)
      have hqx : q < X.length := by have := HMX.out; omega
      have hcq := hcl q hqx
      have hfq := hfz q
      obtain ⟨y, hy⟩ : ∃ y, y = X[q] := ⟨_, rfl⟩
      rw [← hy] at hcq
      have HST := hide (hst q)
      have HG1 := hide hg1
      obtain ⟨z, hz⟩ : ∃ z, z = bits .xor .u8 y turn := ⟨_, rfl⟩
      have HZB : Hid (0 ≤ z ∧ z ≤ 255) := by rw [hz]; exact xor8 _ _
      have hz' := hz.symm
      have hzr : Op.intBits .xor .u8 y turn = pure (.int .u8 z) := by rw [intBits_xor, hz']
      clear hcl hfz hst hy hqx hg1 hg2 hz hz'
      go_wp2_with (go_at_call 17; refine HW.out.mono ?_; rintro ee w4 ⟨rfl, hw⟩; subst w4; clear HW)
      go_meet
      case rel => exact ⟨X.set q z, (HST.out z).sl, HBX.out.set q z HZB.out.1 HZB.out.2, by rw [List.length_set]; exact HMX.out.symm, HK23.out.then (kp_set w3 g q _) (fun i hi => .inr (by simp at hi; have := HG1.out; omega))⟩
    · have hneg : ¬ (0 : Int) < (mx : Int) := by omega
      clear h0
      go_wp2_with fail
      go_meet
      case rel => exact ⟨X, HRY.out.sl, HBX.out, HMX.out.symm, HK23.out⟩
  case rest =>
    obtain ⟨Y, hSY, hBY, hYl, hKY⟩ := hcut
    have HSY := hide (fun w' (k : Kp [] wc w') => hSY.kept k (by simp))
    have HBY := hide hBY
    have HYL := hide hYl
    have HKY := hide (HK2.out.trans hKY)
    have HSX := hide (fun w' (k : Kp [] wc w') => HRX.out.sl.kept (hKY.trans k) (by simp))
    obtain ⟨m3, hm3⟩ : ∃ m, m = min L3 50 := ⟨_, rfl⟩
    have HM3 := hide hm3
    clear hSY hBY hYl hKY HK23 HRY hm3
    obtain ⟨w4, hw4⟩ : ∃ w4, w4 = wc := ⟨_, rfl⟩
    rw [← hw4] at HSY HKY HSX ⊢
    clear hw4
    go_upto_if 44 with fail
    go_cut [3] from 42 to 46 (fun s3 wc => s3 = .slice a3 m3 c3 ∧ wc = w4)
    case first =>
      by_cases h50 : 50 < L3
      · have h50' : (50 : Int) < (L3 : Int) := by omega
        have hc50 : (50 : Int) ≤ (c3 : Int) := by have := HC1.out; omega
        have hrun : ∀ W, (Instr.sliceAt 24 (.slice a3 L3 c3) none (some (.int .i64 50)) none).run Try.prog W = .ok (.slice a3 50 c3) W := fun W => run_first a3 L3 c3 50 W (by omega) HC3.out
        go_wp2_with fail
        go_meet
        case rel => exact ⟨by rw [show m3 = 50 by have := HM3.out; omega], rfl⟩
      · have h50' : ¬ (50 : Int) < (L3 : Int) := by omega
        go_wp2_with fail
        go_meet
        case rel => exact ⟨by rw [show m3 = L3 by have := HM3.out; omega], rfl⟩
    case rest =>
      obtain ⟨rfl, hwc⟩ := hcut
      obtain rfl : w4 = wc := hwc.symm
      clear hwc
      have hwi := wiP_ge cut 0 (mx : Int) (by omega)
      obtain ⟨q, hq⟩ : ∃ q : Nat, (q : Int) = wiP cut 0 (mx : Int) := ⟨(wiP cut 0 (mx : Int)).toNat, by omega⟩
      have hqm : (q : Int) ≤ (mx : Int) := by omega
      have HW := hide (within_wi cut 0 (mx : Int) w4 (by omega) (by omega) (by omega))
      rw [← hq] at HW
      have hrm := HRX.out.room
      have hqc : (q : Int) ≤ (cx : Int) := by omega
      have hrun : ∀ W, (Instr.sliceAt 24 (.slice ax mx cx) none (some (.int .i64 q)) none).run Try.prog W = .ok (.slice ax q cx) W := fun W => run_first ax mx cx q W (by omega) hrm.2
      have HQM := hide hqm
      clear hq hwi hrm
      obtain ⟨C, hC⟩ : ∃ C, C = l3.take 50 := ⟨_, rfl⟩
      have hCl : C.length = m3 ∧ m3 ≤ 50 := by rw [hC, HM3.out, HL3.out]; simp; omega
      have hSC : ∀ w', Kp [] w w' → Sl w' (.slice a3 m3 c3) C := fun w' k => by
        have := cutv_sl 50 (HS3.out w' k)
        rw [hC, HM3.out]; exact this
      have hBC : Bs C := by rw [hC]; exact HB3.out.takes _
      obtain ⟨la, hla⟩ : ∃ la : List (Value × List Int), la = [(.slice ax mx cx, X), (.slice ay mx cy, Y), (.slice ax q cx, X.take q), (.slice a3 m3 c3, C)] := ⟨_, rfl⟩
      obtain ⟨wL, hwL⟩ : ∃ wL, wL = w4.alloc (.cells #[.slice ax mx cx, .slice ay mx cy, .slice ax q cx, .slice a3 m3 c3] 24) := ⟨_, rfl⟩
      have kD : Kp [] w4 wL := by rw [hwL]; exact (Kp.refl [] w4).alloc _
      have hall : ∀ x ∈ la, Sl wL x.1 x.2 ∧ Bs x.2 ∧ x.2.length ≤ 162 := fun x hx => by
        rw [hla] at hx
        rcases (by simpa using hx : x = (.slice ax mx cx, X) ∨ x = (.slice ay mx cy, Y) ∨ x = (.slice ax q cx, X.take q) ∨ x = (.slice a3 m3 c3, C)) with rfl | rfl | rfl | rfl
        · exact ⟨HSX.out _ kD, HBX.out, HXL.out⟩
        · exact ⟨HSY.out _ kD, HBY.out, by have := HYL.out; have := HMX.out; have := HXL.out; show Y.length ≤ 162; omega⟩
        · exact ⟨(HSX.out _ kD).take q (by have := HMX.out; omega), HBX.out.takes q, by have := HXL.out; show (X.take q).length ≤ 162; simp; omega⟩
        · exact ⟨hSC _ (HKY.out.trans kD), hBC, by show C.length ≤ 162; omega⟩
      have hlen : la.length = 4 := by rw [hla]; rfl
      have HL : Hid (Lists wL (.slice (some ⟨w4.heap.size, 0, none⟩) 4 4) la) := by
        have := lists_of_block (w := wL) (g := w4.heap.size) (l := la) (t := 24) (fr := (0, 0)) (by rw [hla, hwL]; exact heap_alloc_new w4 _) (by rw [hla]; simp) (fun x hx => ⟨(hall x hx).1, (hall x hx).2.1⟩)
        rw [hlen] at this
        exact this
      have HAll := hide (fun x hx => (hall x hx).2.2)
      have HKL : Hid (Kp [] w wL) := HKY.out.trans kD
      have HLN := hide hlen
      clear hla hall hSC hBC hCl hC kD hlen HSX HSY
      go_wp2_with (go_at_call 17; refine HW.out.mono ?_; rintro ee w5 ⟨rfl, hw⟩; subst w5; clear HW)
      rw [← hwL]
      clear hwL hrun
      go_loopw [58] (fun i wr => ∃ k : Nat, k ≤ 4 ∧ i = .int .i64 k ∧ Kp [] wL wr) (fun i _ => 4 - (intOf i).toNat)
      case atStart => exact ⟨0, by omega, rfl, Kp.refl _ _⟩
      case round =>
        obtain ⟨k, hk, rfl, KR⟩ := hrel
        have HKR := hide KR
        by_cases hlt : k < 4
        · have hlt' : (k : Int) < 4 := by omega
          have hL := HL.out.kept KR
          obtain ⟨al', cl', e', -, hcell⟩ := hL
          injection e' with e1 e2 e3
          obtain ⟨b, off, eb, hc, hS, hB⟩ := hcell k (by have := HLN.out; omega)
          rw [eb] at e1
          injection e1 with e1
          injection e1 with e4 e5
          subst e4 e5
          have hx2 := HAll.out (la[k]'(by have := HLN.out; omega)) (List.getElem_mem _)
          obtain ⟨x, hx⟩ : ∃ x, x = la[k]'(by have := HLN.out; omega) := ⟨_, rfl⟩
          rw [← hx] at hc hS hB hx2
          obtain ⟨xv, z⟩ := x
          simp only at hc hS hB hx2
          have HSz := hide (fun w' (k : Kp [] wr w') => hS.kept k (by simp))
          have HOn := hide (kon_any xv z wr hS hB (by omega))
          have HBz := hide hB
          have HZ2 := hide hx2
          obtain ⟨ax', cx', hxs, -⟩ := hS
          obtain ⟨nx, hnx⟩ : ∃ n, n = z.length := ⟨_, rfl⟩
          rw [← hnx] at hxs
          rw [hxs] at hc HOn HSz
          rw [Nat.zero_add] at hc
          clear hB hcell hx hx2 hxs hnx e2 e3 KR eb
          go_wp2_with fail
          refine HOn.out.mono ?_
          rintro ee w5 ⟨p, rfl, N5⟩
          obtain ⟨O, hO⟩ : ∃ O, O = ((opnP z).2.2 && inOrd (opnP z).1) := ⟨_, rfl⟩
          have HOp := hide (kopen_any N5 rfl (Int.le_refl 0) z rfl O hO)
          clear N5 HOn hc
          go_wp2_with fail
          refine HOp.out.mono ?_
          rintro ee w6 (⟨hOt, qb, rfl, B6⟩ | ⟨hOf, rfl, K6⟩)
          · subst hOt
            clear HOp
            have hrt : (opnP z).2.2 = true ∧ inOrd (opnP z).1 = true := by
              have := hO.symm
              simpa using this
            obtain ⟨h16, hrk⟩ := inOrd_eq hrt.2
            have HRf := hide (refopen_any _ z w6 (HSz.out w6 B6.kp) HBz.out (by have := HZ2.out; omega))
            rw [hrt.1] at HRf
            obtain ⟨at2, hat2⟩ : ∃ a, a = (opnP z).2.1 := ⟨_, rfl⟩
            rw [← hat2] at HRf
            obtain ⟨rs, hrs⟩ : ∃ r, r = (opnP z).1 := ⟨_, rfl⟩
            rw [← hrs] at HRf h16 hrk B6
            have HB6 := hide B6
            have HRk := hide hrk
            have H16 := hide h16
            clear hO hrt hat2 hrs hrk B6 h16
            go_wp2_with fail
            refine HRf.out.mono ?_
            rintro ee w7 ⟨am, m, cm, lm, rfl, S7, hl7, hm7, K7⟩
            have hlm : lm.length = m := by rw [hm7, ← hl7]; simp
            have hm16 : m ≤ 16 := by rw [hm7]; exact H16.out
            have hm16' : (m : Int) ≤ 16 := by omega
            have HLl := hide (S7.lists (by omega))
            have HB7 := hide (HB6.out.on K7)
            rw [← hm7] at HB7
            have HRj : Hid (∀ j (h : j < lm.length), lm[j].2 = [(j : Int)]) := fun j h => by
              have h1 : (lm.map (·.2))[j]? = (keyL rs.length)[j]? := by rw [hl7, ← HRk.out]
              rw [List.getElem?_eq_getElem (by simpa using h), List.getElem?_eq_getElem (by rw [keyL_len, ← hm7, ← hlm]; exact h), keyL_get (by rw [← hm7, ← hlm]; exact h)] at h1
              simpa using Option.some.inj h1
            have HLm := hide hlm
            clear HRf S7 hl7 hm7 K7 HB6 hlm
            go_wp2_with fail
            go_loopw [20, 21] (fun o i wr2 => ∃ j : Nat, j ≤ m ∧ o = .bool true ∧ i = .int .i64 j ∧ Kp [] w7 wr2) (fun _ i _ => m - (intOf i).toNat)
            case atStart => exact ⟨0, by omega, rfl, rfl, Kp.refl _ _⟩
            case round =>
              obtain ⟨j, hj, rfl, rfl, KJ⟩ := hrel
              have HKJ := hide KJ
              by_cases hjm : j < m
              · have hjm' : (j : Int) < (m : Int) := by omega
                have hL := HLl.out.kept KJ
                obtain ⟨al', cl', e', -, hcell⟩ := hL
                injection e' with e1 e2 e3
                obtain ⟨b, off, eb, hc, hS, hB⟩ := hcell j (by have := HLm.out; omega)
                rw [eb] at e1
                subst e1
                have hv := HRj.out j (by have := HLm.out; omega)
                rw [hv] at hS
                obtain ⟨ay', cy', hxs, hcy, -, hay, hcl⟩ := hS
                rw [hxs] at hc
                simp only [List.length_cons, List.length_nil, Nat.zero_add] at hc hcy
                obtain ⟨ad, rfl⟩ : ∃ a, ay' = some a := by
                  cases ay' with
                  | none => have := hay rfl; omega
                  | some a => exact ⟨a, rfl⟩
                have hc0 := hcl ad rfl 0 (.int .u8 (j : Int)) rfl
                rw [Addr.add_zero'] at hc0
                have h64 : IntKind.i64.wrap (j : Int) = j := by simp [IntKind.wrap, IntKind.signed, IntKind.bits]; omega
                clear hcell hB hv hxs hcy hay hcl KJ e2 e3 eb
                go_wp2_with fail
                go_roundw
                case rel => exact ⟨j + 1, by omega, rfl, by go_num, HKJ.out⟩
                case measure => simp [intOf]; omega
              · obtain rfl : j = m := by omega
                clear KJ
                have HBJ := hide (HB7.out.on HKJ.out)
                have HNx := hide (next_any HBJ.out)
                have HLf := hide (left_keys HBJ.out hm16 (16 - (j : Int)) rfl)
                go_wp2_with (first
                  | (go_at_call 10; refine HNx.out.mono ?_; rintro ee w9 ⟨rfl, hw⟩; subst w9)
                  | (go_at_call 11; refine HLf.out.mono ?_; rintro ee w9 ⟨rfl, hw⟩; subst w9))
                go_roundw
                case rel => exact ⟨k + 1, by omega, by go_num, HKR.out.trans HBJ.out.kp⟩
                case measure => simp [intOf]; omega
          · subst hOf
            clear HOp
            have HRf := hide (refopen_any _ z w6 (HSz.out w6 K6) HBz.out (by have := HZ2.out; omega))
            obtain ⟨at2, hat2⟩ : ∃ a, a = (opnP z).2.1 := ⟨_, rfl⟩
            obtain ⟨r, hr⟩ : ∃ r, r = (opnP z).2.2 := ⟨_, rfl⟩
            have hcnt := opnP_count z
            obtain ⟨rs, hrs⟩ : ∃ r, r = (opnP z).1 := ⟨_, rfl⟩
            rw [← hat2, ← hr, ← hrs] at HRf
            rw [← hr, ← hrs] at hO
            rw [← hrs] at hcnt
            have HO := hide hO
            have HCnt := hide hcnt
            have HK6 := hide K6
            clear hO hat2 hrs hr K6 hcnt
            go_wp2_with fail
            refine HRf.out.mono ?_
            rintro ee w7 ⟨am, m, cm, lm, rfl, S7, hl7, hm7, K7⟩
            have hlm : lm.length = m := by rw [hm7, ← hl7]; simp
            have hmb : (m : Int) ≤ 100 := by have := HCnt.out; have := HZ2.out; omega
            have HLl := hide (S7.lists (by omega))
            have HK7 := hide (HKR.out.trans (HK6.out.trans K7))
            have HRj : Hid (∀ j (h : j < lm.length), rs[j]? = some lm[j].2) := fun j h => by
              rw [← hl7]; simp [List.getElem?_eq_getElem h]
            have HLm := hide hlm
            have HMr := hide hm7
            clear HRf S7 hl7 hm7 K7 hlm HK6
            go_upto_region 15 with fail
            go_cut [20] from 77 to 82 (fun o wc => ∃ t : Bool, o = .bool t ∧ Hid (t = true → r = true ∧ m ≤ 16) ∧ wc = w7)
            case first =>
              cases r
              · go_wp2_with fail
                go_meet
                case rel => exact ⟨false, rfl, (fun h => by cases h), rfl⟩
              · by_cases h16 : m ≤ 16
                · have h16' : (m : Int) ≤ 16 := by omega
                  go_wp2_with fail
                  go_meet
                  case rel => exact ⟨true, rfl, (fun _ => ⟨by trivial, h16⟩), rfl⟩
                · have h16' : ¬ (m : Int) ≤ 16 := by omega
                  go_wp2_with fail
                  go_meet
                  case rel => exact ⟨false, rfl, (fun h => by cases h), rfl⟩
            case rest =>
              obtain ⟨t, rfl, HT, hwc⟩ := hcut
              obtain rfl : w7 = wc := hwc.symm
              clear hwc
              go_wp2_with fail
              go_loopw [20, 21] (fun o i wr2 => ∃ (j : Nat) (t : Bool), j ≤ m ∧ o = .bool t ∧ i = .int .i64 j ∧ Kp [] w7 wr2 ∧ Hid (t = true → r = true ∧ m ≤ 16 ∧ ordTo rs j)) (fun _ i _ => m - (intOf i).toNat)
              case atStart => exact ⟨0, t, by omega, rfl, rfl, Kp.refl _ _, fun h => ⟨(HT.out h).1, (HT.out h).2, ordTo_zero _⟩⟩
              case round =>
                clear HT
                obtain ⟨j, t, hj, rfl, rfl, KJ, HT⟩ := hrel
                have HKJ := hide KJ
                cases t
                · clear KJ
                  by_cases hjm : j < m
                  · have hjm' : (j : Int) < (m : Int) := by omega
                    go_wp2_with fail
                    go_roundw
                    case rel => exact ⟨k + 1, by omega, by go_num, HK7.out.trans HKJ.out⟩
                    case measure => simp [intOf]; omega
                  · have hjm' : ¬ (j : Int) < (m : Int) := by omega
                    go_wp2_with fail
                    go_roundw
                    case rel => exact ⟨k + 1, by omega, by go_num, HK7.out.trans HKJ.out⟩
                    case measure => simp [intOf]; omega
                · by_cases hjm : j < m
                  · have hjm' : (j : Int) < (m : Int) := by omega
                    have hL := HLl.out.kept KJ
                    obtain ⟨al', cl', e', -, hcell⟩ := hL
                    injection e' with e1 e2 e3
                    obtain ⟨b, off, eb, hc, hS, hB⟩ := hcell j (by have := HLm.out; omega)
                    rw [eb] at e1
                    subst e1
                    have hv := HRj.out j (by have := HLm.out; omega)
                    obtain ⟨x, hx⟩ : ∃ x, x = lm[j]'(by have := HLm.out; omega) := ⟨_, rfl⟩
                    rw [← hx] at hc hS hB hv
                    obtain ⟨xw, x2⟩ := x
                    simp only at hc hS hB hv
                    obtain ⟨ay', cy', rfl, hcy, -, hay, hcl⟩ := hS
                    by_cases h1 : x2.length = 1
                    · obtain ⟨y, rfl⟩ : ∃ y, x2 = [y] := by
                        cases x2 with
                        | nil => simp at h1
                        | cons y t =>
                          cases t with
                          | nil => exact ⟨y, rfl⟩
                          | cons y2 t => simp at h1
                      have hy : 0 ≤ y ∧ y ≤ 255 := hB y (by simp)
                      simp only [List.length_cons, List.length_nil, Nat.zero_add] at hc hcy
                      obtain ⟨ad, rfl⟩ : ∃ a, ay' = some a := by
                        cases ay' with
                        | none => have := hay rfl; omega
                        | some a => exact ⟨a, rfl⟩
                      have hc0 := hcl ad rfl 0 (.int .u8 y) rfl
                      rw [Addr.add_zero'] at hc0
                      have h64 : IntKind.i64.wrap y = y := by simp [IntKind.wrap, IntKind.signed, IntKind.bits]; omega
                      by_cases he : y = j
                      · subst he
                        have HT2 : Hid (true = true → r = true ∧ m ≤ 16 ∧ ordTo rs (j + 1)) := fun _ => ⟨(HT.out rfl).1, (HT.out rfl).2.1, ordTo_snoc (HT.out rfl).2.2 hv⟩
                        clear hcell hB hx hv hcy hay hcl KJ e2 e3 eb h1 hy
                        go_wp2_with fail
                        go_roundw
                        case rel => exact ⟨j + 1, true, by omega, rfl, by go_num, HKJ.out, HT2.out⟩
                        case measure => simp [intOf]; omega
                      · have he' : (y == (j : Int)) = false := by simpa using he
                        clear hcell hB hx hv hcy hay hcl KJ e2 e3 eb h1 hy
                        go_wp2_with fail
                        go_roundw
                        case rel => exact ⟨j + 1, false, by omega, rfl, by go_num, HKJ.out, fun h => by cases h⟩
                        case measure => simp [intOf]; omega
                    · have h1' : ¬ (x2.length : Int) = 1 := by omega
                      have h1'' : ((x2.length : Int) == 1) = false := by simpa using h1'
                      obtain ⟨nx2, hnx2⟩ : ∃ n, n = x2.length := ⟨_, rfl⟩
                      rw [← hnx2] at hc h1' h1''
                      clear hcell hB hx hv hcy hay hcl KJ e2 e3 eb h1 hnx2
                      go_wp2_with fail
                      go_roundw
                      case rel => exact ⟨j + 1, false, by omega, rfl, by go_num, HKJ.out, fun h => by cases h⟩
                      case measure => simp [intOf]; omega
                  · exact absurd (ord_all HO.out (HT.out rfl).1 (HT.out rfl).2.1 HMr.out (by have h := (HT.out rfl).2.2; rwa [show j = m by omega] at h)) id
        · obtain rfl : k = 4 := by omega
          clear KR
          go_wp2_with fail
          refine (kknown_any _).mono ?_
          rintro ee w8 ⟨rfl, K8⟩
          have HK8 := hide (HKL.out.trans (HKR.out.trans K8))
          clear K8
          go_wp2_with fail
          go_ret
          exact ⟨rfl, HK8.out.below (Nat.le_refl _) (by simp)⟩

set_option maxRecDepth 100000 in
theorem lifted (os : Os) (started : os.Started) (H : Type) (enc : TypeId × Value → H) :
    ReturnsInHanded {} Try.checked os 6 .any (Rows.keysOpensSpec.pre6 enc Try.prog Try.f6 Rows.keysOpensRow.domain false) (Rows.keysOpensSpec.post enc Try.prog Try.f6 false true false false) := by
  refine returnsInHanded_of_change (C := Try.checked) own started (by kernel_rfl) Try.func6
    (ChangeSpec.witness6 (enc := enc) (C := Try.checked) false ⟨#[], #[.int .i64 0, .int .i64 0, .int .u8 0, .slice none 0 0, .int .i64 0], []⟩ 8 (by kernel_rfl) (by kernel_rfl) (by kernel_rfl) (by kernel_rfl)) ?_
  intro W base args ds gs before hval0 hW hcnd _
  have hval : ∀ (j : Nat) t v, Try.f6.params[j]? = some t → args[j]? = some v → Value.okWide Try.prog W .any base t v := hval0
  have hW' := hW
  obtain ⟨p, q, hA0, hV, rfl, hfz, hnd⟩ := hW
  have hA : DataW.TrodAll enc Try.prog W 0 (fun _ => true) true Try.f6.params.toList args.toList ds p := hA0
  rw [Try.params6] at hA hval
  obtain ⟨v0, vs0, d0, ds0, p0, q0, hargs, rfl, rfl, h0, r0⟩ := trodAll_cons hA
  obtain ⟨v1, vs1, d1, ds1, p1, q1, rfl, rfl, rfl, h1, r1⟩ := trodAll_cons r0
  obtain ⟨v2, vs2, d2, ds2, p2, q2, rfl, rfl, rfl, h2, r2⟩ := trodAll_cons r1
  obtain ⟨v3, vs3, d3, ds3, p3, q3, rfl, rfl, rfl, h3, r3⟩ := trodAll_cons r2
  obtain ⟨v4, vs4, d4, ds4, p4, q4, rfl, rfl, rfl, h4, r4⟩ := trodAll_cons r3
  obtain ⟨rfl, rfl, rfl⟩ := trodAll_nil r4
  obtain rfl : args = #[v0, v1, v2, v3, v4] := by cases args; simp_all
  obtain ⟨rfl, rfl⟩ := trodVars_none hV
  obtain ⟨a0, rfl, rfl, rfl, w0⟩ := open_int Try.underlying3 (hval 0 3 v0 rfl rfl) h0
  obtain ⟨a1, rfl, rfl, rfl, w1⟩ := open_int Try.underlying3 (hval 1 3 v1 rfl rfl) h1
  obtain ⟨a2, rfl, rfl, rfl, w2⟩ := open_int Try.underlying5 (hval 2 5 v2 rfl rfl) h2
  obtain ⟨a3, len3, cap3, rfl⟩ := okWide_slice Try.underlying24 (hval 3 24 v3 rfl rfl)
  have k3 := h3
  have lt3 : ∀ x ∈ p3, x.block < W.heap.size := by obtain ⟨m, hm⟩ := k3; exact DataW.trod_lt m _ _ _ hm
  obtain ⟨l3, s3, b3⟩ : ∃ bs, Sl W (.slice a3 len3 cap3) bs ∧ Bs bs := by
    obtain ⟨fuel, hf⟩ := h3
    exact bytes_of_trod (by simpa [Value.cells] using hf)
  obtain ⟨a4, rfl, rfl, rfl, w4⟩ := open_int Try.underlying3 (hval 4 3 v4 rfl rfl) h4
  clear hA0 hval0
  refine (walk a0 a1 a2 (.slice a3 len3 cap3) l3 a4 W (bounds_i64 w0) (bounds_i64 w1) (bounds_u8 w2) s3 b3 (bounds_i64 w4)).mono fun e W' ⟨he, bel⟩ => ?_
  subst he
  exact ⟨_, rfl, _, _, _, [], _, [], hW', trodAll_mk1 (shut_bool Try.underlying4 _), (trodAll_cons_mk (shut_int Try.underlying3 w0) (trodAll_cons_mk (shut_int Try.underlying3 w1) (trodAll_cons_mk (shut_int Try.underlying5 w2) (trodAll_cons_mk (Below.trod laidOut (by kernel_rfl) (of_decide_eq_true (by kernel_rfl)) k3 bel lt3) (trodAll_cons_mk (shut_int Try.underlying3 w4) trodAll_mk0))))), rfl, bel.frame _, fun h => by cases h⟩

theorem over : Rows.keysOpensRow.holds Try.pinned (OpenSpec.ofChange Rows.keysOpensSpec) :=
  OpenClaim.holds_of_wide 6 Try.f6 rfl rfl rfl rfl rfl rfl rfl ⟨rfl, rfl, rfl, rfl, rfl⟩ rfl rfl rfl rfl rfl (by kernel_rfl) Try.func6 (by kernel_rfl)
    (of_decide_eq_true (by kernel_rfl)) (by unfold Func.isWrapper; first | (rw [if_pos (by decide +kernel)]; kernel_rfl) | (rw [if_neg (by decide +kernel)]; exact ⟨rfl, rfl⟩))
    (fun os started H enc _ => lifted os started H enc)
end Go.Proofs.Ytjmabnchaglpdaa.keysOpens

namespace Go.Proofs.Ytjmabnchaglpdaa
/-- The given statement. -/
theorem KeysOpens_holds : Rows.KeysOpensSaid := keysOpens.over
#print axioms KeysOpens_holds
end Go.Proofs.Ytjmabnchaglpdaa
