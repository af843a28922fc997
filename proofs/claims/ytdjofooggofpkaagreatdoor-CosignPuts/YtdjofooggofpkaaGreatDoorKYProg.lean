/-
  The contract of package cosign's Body.
-/
import Derived.Test.YtdjofooggofpkaaGreatDoorKXSmalls
import Derived.Test.YtdjofooggofpkaaGreatDoorKYSpecs
import Derived.Test.YtdjofooggofpkaaGreatDoorKXVlt
import Derived.Lib.SlBytesConst
import Derived.Test.YtdjofooggofpkaaGreatDoorKSSign
import Derived.Test.YtdjofooggofpkaaGreatDoorKRGrows
import Derived.Test.YtdjofooggofpkaaGreatDoorKOSmalls
namespace Go.Proofs.YtdjofooggofpkaaGreatDoor
open Go.RowKit
open Go.Proofs

set_option maxRecDepth 100000 in
set_option maxHeartbeats 2000000 in
theorem cbody_any (vc : Value) (n : Int) (r B : List Int) (hB : B = bodW n r) (w : World) (hC : CkV w vc n r) :
    Calls Tryz.prog 57 #[vc] w fun e w' => ∃ ao m c, e = .returned (.slice ao m c) ∧ Sl w' (.slice ao m c) B ∧ Kp [] w w' := by
  have HC := hide hC
  obtain ⟨a, m, c, rfl, -, -⟩ := hC
  obtain ⟨w1, hw1⟩ : ∃ w1, w1 = w.alloc (.cells #[.int .i64 n, .slice a m c] 33) := ⟨_, rfl⟩
  have K1 : Kp [] w w1 := by rw [hw1]; exact (Kp.refl [] w).alloc _
  have G1 : w1.heap[w.heap.size]? = some (.cells #[.int .i64 n, .slice a m c] 33 (0, 0)) := by rw [hw1]; exact heap_alloc_new w _
  obtain ⟨b, hb⟩ : ∃ b, b = rgtC n r := ⟨_, rfl⟩
  have hl1 := load_whole (T := 33) G1 Tryz.underlying33 rfl Tryz.chkSize
  have HR := hide (ckright_any _ n r b hb w1 ((unhide HC).kept K1))
  rw [hw1] at hl1
  have HK1 := hide K1
  have HG1 := hide G1
  have HW1 := hide hw1
  have HBB := hide hB
  have Hb := hide hb
  clear hw1 K1 G1 hB hb
  cases b
  · go_enter Tryz.func57, Tryz.ntmps57
    go_wp2_with fail
    rw [← unhide HW1]
    refine (unhide HR).mono ?_
    rintro ee w2 ⟨rfl, K2⟩
    have HK2 := hide ((unhide HK1).trans K2)
    clear K2 HR hl1
    go_wp2_with fail
    go_ret
    exact ⟨none, 0, 0, rfl, by rw [unhide HBB, bodW_no (unhide Hb).symm]; exact Sl.nil _, unhide HK2⟩
  · have hq := (rgtC_iff n r).1 (unhide Hb).symm
    have hwrap : IntKind.u32.wrap n = n := by simp [IntKind.wrap, IntKind.signed, IntKind.bits]; omega
    have HQ := hide hq
    clear hq
    go_enter Tryz.func57, Tryz.ntmps57
    go_wp2_with fail
    rw [← unhide HW1]
    refine (unhide HR).mono ?_
    rintro ee w2 ⟨rfl, K2⟩
    have HK2 := hide ((unhide HK1).trans K2)
    have HG2 := hide (K2.heap (unhide HG1) (by simp))
    clear K2 HR hl1
    go_wp2_with fail
    refine (new_abs w2).mono ?_
    rintro ee w3 ⟨p, rfl, W3, hp3, K3⟩
    obtain ⟨ol, hol⟩ : ∃ o : Array Value, o = #[.int .u8 98, .int .u8 114, .int .u8 111, .int .u8 97, .int .u8 100, .int .u8 115, .int .u8 104, .int .u8 101, .int .u8 101, .int .u8 116, .int .u8 32, .int .u8 99, .int .u8 111, .int .u8 115, .int .u8 105, .int .u8 103, .int .u8 110] := ⟨_, rfl⟩
    obtain ⟨w4, hw4⟩ : ∃ w4, w4 = w3.alloc (.cells ol 5 (17, 18)) := ⟨_, rfl⟩
    have K4 : Kp [] w3 w4 := by rw [hw4]; exact (Kp.refl [] w3).alloc _
    have S4 : Sl w4 (.slice (some ⟨w3.heap.size, 0, none⟩) 17 17) letW := by
      rw [hw4, hol]
      exact Sl.block (cs := letW) (t := 5) (fr := (17, 18)) (heap_alloc_new w3 _) (by simp [maxLen, letW])
    have HRw := hide (raw_any p _ [] (.slice (some ⟨w3.heap.size, 0, none⟩) 17 17) letW w4 (W3.kept K4 (by simp) (by simp)) S4 (by simp [letW]))
    have HW3 : Hid (Wn w2 w4 p (.slice none 0 0) []) := Wn.kept ⟨W3, K3, hp3, fun k hk => by cases hk⟩ K4
    rw [hol] at hw4
    have HW4 := hide hw4
    have kc := Lib.run_convert_bytes_const (P := Tryz.prog) w3 27 5 #[.int .u8 98, .int .u8 114, .int .u8 111, .int .u8 97, .int .u8 100, .int .u8 115, .int .u8 104, .int .u8 101, .int .u8 101, .int .u8 116, .int .u8 32, .int .u8 99, .int .u8 111, .int .u8 115, .int .u8 105, .int .u8 103, .int .u8 110] 17 17 Tryz.underlying27 Tryz.underlying5
    simp only [List.size_toArray, List.length_cons, List.length_nil, Nat.zero_add, Nat.reduceAdd] at kc
    clear W3 K3 hp3 hol K4 S4 hw4
    go_wp2_with fail
    rw [← unhide HW4]
    refine (unhide HRw).mono ?_
    rintro ee w5 ⟨rfl, v5, W5, S5⟩
    have HW5 := hide ((unhide HW3).step W5 S5)
    rw [List.nil_append] at HW5
    have G5 := (unhide HW5).2.1.heap (unhide HG2) (by simp)
    have e0 : w5.cell? ⟨w.heap.size, 0, none⟩ = some (.int .i64 n) := by rw [cell_of_row w5 w.heap.size 0 _ _ _ G5]; rfl
    have HNm := hide (num_any p n v5 letW w5 (unhide HW5).1 (by simp [letW]))
    clear W5 S5 HRw HW4 kc G5
    go_wp2_with fail
    refine (unhide HNm).mono ?_
    rintro ee w6 ⟨rfl, v6, W6, S6⟩
    have HW6 := hide ((unhide HW5).step W6 S6)
    have G6 := (unhide HW6).2.1.heap (unhide HG2) (by simp)
    have e1 : w6.cell? ⟨w.heap.size, 1, none⟩ = some (.slice a m c) := by rw [cell_of_row w6 w.heap.size 1 _ _ _ G6]; rfl
    have HRr := hide (raw_any p v6 _ (.slice a m c) r w6 (unhide HW6).1 (((unhide HC).kept (unhide HK2)).kept (unhide HW6).2.1).sl (by have := (unhide HQ).2; rw [List.length_append, be_length]; simp [letW]; omega))
    clear W6 S6 HNm e0 G6
    go_wp2_with fail
    refine (unhide HRr).mono ?_
    rintro ee w7 ⟨rfl, v7, W7, S7⟩
    have HW7 := hide ((unhide HW6).step W7 S7)
    rw [be_4, List.append_assoc, ← bodW_yes (unhide Hb).symm, ← unhide HBB] at HW7
    have HD := hide (done_any p v7 _ w7 (unhide HW7).1 (by rw [unhide HBB]; have := bodW_le n r; omega))
    obtain ⟨mB, hmB⟩ : ∃ k, k = B.length := ⟨_, rfl⟩
    rw [← hmB] at HD
    clear W7 S7 HRr e1 hmB
    go_wp2_with fail
    refine (unhide HD).mono ?_
    rintro ee w8 ⟨a7, c7, rfl, R7, K7⟩
    have HS7 := hide (Sl.of_owns R7)
    have HK7 := hide (((unhide HK2).trans (unhide HW7).2.1).trans K7)
    clear R7 K7 HD
    go_wp2_with fail
    go_ret
    exact ⟨a7, mB, c7, rfl, unhide HS7, unhide HK7⟩
end Go.Proofs.YtdjofooggofpkaaGreatDoor

/-
  The contracts of package cosign's isHash, isWitness, isAmong, areKeys, Right.
-/
namespace Go.Proofs.YtdjofooggofpkaaGreatDoor
open Go.RowKit
open Go.Proofs

theorem cishash_any (vb : Value) (bs : List Int) (b : Bool) (hb : b = (bs.length == 32)) (w : World) (hS : Sl w vb bs) :
    Calls Tryz.prog 69 #[vb] w fun e w' => e = .returned (.bool b) ∧ w' = w := by
  obtain ⟨ab, cb, rfl, _⟩ := hS
  have h1 : b = ((bs.length : Int) == 32) := by
    rw [hb, Bool.eq_iff_iff]
    simp only [beq_iff_eq]
    omega
  clear hb
  go_enter Tryz.func69, Tryz.ntmps69
  go_wp2_with fail
  go_ret
  exact ⟨by first | rfl | (rw [h1]; rfl) | simp [h1], rfl⟩
theorem ciswit_any (i : Int) (b : Bool) (hb : b = decide (0 ≤ i ∧ i < 4)) (w : World) :
    Calls Tryz.prog 27 #[.int .i64 i] w fun e w' => e = .returned (.bool b) ∧ w' = w := by
  by_cases h1 : 0 ≤ i
  · by_cases h2 : i < 4
    · obtain rfl : b = true := by rw [hb]; exact decide_eq_true ⟨h1, h2⟩
      clear hb
      go_enter Tryz.func27, Tryz.ntmps27
      go_wp2_with fail
      go_ret
      exact ⟨rfl, rfl⟩
    · obtain rfl : b = false := by rw [hb]; exact decide_eq_false (fun h => h2 h.2)
      clear hb
      go_enter Tryz.func27, Tryz.ntmps27
      go_wp2_with fail
      go_ret
      exact ⟨rfl, rfl⟩
  · obtain rfl : b = false := by rw [hb]; exact decide_eq_false (fun h => h1 h.1)
    clear hb
    go_enter Tryz.func27, Tryz.ntmps27
    go_wp2_with fail
    go_ret
    exact ⟨rfl, rfl⟩

set_option maxRecDepth 100000 in
set_option maxHeartbeats 1000000 in
theorem camong_any (vk : Value) (key : List Int) (vl : Value) (l : List (Value × List Int)) (b : Bool) (hb : b = l.any (fun x => decide (key = x.2))) (w : World) (hK : Sl w vk key) (hKB : Bs key) (hL : Lists w vl l) :
    Calls Tryz.prog 81 #[vk, vl] w fun e w' => e = .returned (.bool b) ∧ w' = w := by
  have HSK := hide hK
  have HKB := hide hKB
  obtain ⟨ak, ck, hvk, -⟩ := hK
  obtain ⟨nk, hnk⟩ : ∃ k, k = key.length := ⟨_, rfl⟩
  rw [← hnk] at hvk
  subst hvk
  obtain ⟨al, cl, rfl, hll, hcell⟩ := hL
  obtain ⟨n, hn⟩ : ∃ k, k = l.length := ⟨_, rfl⟩
  rw [← hn]
  have HN := hide hn
  have HB := hide hb
  have HC := hide hcell
  have hnb : n ≤ 9223372036854775807 := by omega
  clear hcell hb hll hn hKB hnk
  go_enter Tryz.func81, Tryz.ntmps81
  go_wp2_with fail
  go_loopw [9] (fun i wr => ∃ k : Nat, k ≤ n ∧ i = .int .i64 k ∧ (∀ i (h : i < l.length), i < k → key ≠ l[i].2) ∧ wr = w) (fun i _ => n - (intOf i).toNat)
  case atStart => exact ⟨0, by omega, rfl, (fun i h h' => by omega), rfl⟩
  case round =>
    obtain ⟨k, hk, rfl, hgood, hw⟩ := hrel
    subst wr
    have HGood := hide hgood
    clear hgood
    by_cases hlt : k < n
    · have hlt2 : (k : Int) < (n : Int) := by omega
      have hkl : k < l.length := by have := unhide HN; omega
      obtain ⟨b', off, rfl, hc, hS, hSB⟩ := unhide HC k hkl
      obtain ⟨x, hx⟩ : ∃ x, x = l[k] := ⟨_, rfl⟩
      have HX := hide hx
      rw [← hx] at hc hS hSB
      obtain ⟨c, hcb⟩ : ∃ c, c = decide (key = x.2) := ⟨_, rfl⟩
      have HS := hide (hsame_b (.slice ak nk ck) x.1 key x.2 c hcb (unhide HKB) hSB w (unhide HSK) hS)
      obtain ⟨ax, cx, hxv, -⟩ := hS
      obtain ⟨nx, hnx⟩ : ∃ k, k = x.2.length := ⟨_, rfl⟩
      rw [← hnx] at hxv
      rw [hxv] at hc HS
      have HCB := hide hcb
      clear hxv hx hSB hnx hcb HC
      go_wp2_with fail
      refine (unhide HS).mono ?_
      rintro ee w2 ⟨rfl, hw⟩
      subst w2
      cases c
      · go_wp2_with fail
        go_roundw
        case rel =>
          refine ⟨k + 1, by omega, by go_num, fun i hi hik => ?_, by trivial⟩
          rcases Nat.lt_or_ge i k with h | h
          · exact unhide HGood i hi h
          · obtain rfl : i = k := by omega
            rw [← unhide HX]
            exact of_decide_eq_false (unhide HCB).symm
        case measure => simp [intOf]; omega
      · have hbb : b = true := by
          rw [unhide HB, List.any_eq_true]
          exact ⟨l[k], List.getElem_mem hkl, by rw [← unhide HX]; exact (unhide HCB).symm⟩
        go_wp2_with fail
        go_ret
        exact ⟨by first | rfl | (rw [hbb]; rfl), rfl⟩
    · obtain rfl : k = n := by omega
      have hlt2 : ¬ (k : Int) < (k : Int) := by omega
      have hbb : b = false := by
        rw [unhide HB, List.any_eq_false]
        intro x hx
        obtain ⟨i, hi, rfl⟩ := List.getElem_of_mem hx
        have := unhide HGood i hi (by have := unhide HN; omega)
        simpa using this
      clear HC
      go_wp2_with fail
      go_ret
      exact ⟨by first | rfl | (rw [hbb]; rfl), rfl⟩

set_option maxRecDepth 100000 in
set_option maxHeartbeats 1000000 in
theorem careKeys_any (vl : Value) (l : List (Value × List Int)) (b : Bool) (hb : b = decide (keysK (l.map (·.2)) l.length)) (w : World) (hL : Lc w vl l) :
    Calls Tryz.prog 70 #[vl] w fun e w' => e = .returned (.bool b) ∧ w' = w := by
  have HL := hide hL
  obtain ⟨al, cl, rfl, hlc, hcm, -⟩ := hL.shape
  obtain ⟨al', cl', e', -, hcell⟩ := hL.1
  injection e' with e1 e2 e3
  subst e1
  obtain ⟨n, hn⟩ : ∃ k, k = l.length := ⟨_, rfl⟩
  rw [← hn] at hlc HL ⊢
  have HN := hide hn
  have HB := hide hb
  have HC := hide hcell
  have hnb : n ≤ 9223372036854775807 := by omega
  have HLC := hide hlc
  clear hcell hb hn hL e2 e3 hlc
  go_enter Tryz.func70, Tryz.ntmps70
  go_wp2_with fail
  go_loopw [7] (fun i wr => ∃ k : Nat, k ≤ n ∧ i = .int .i64 k ∧ keysK (l.map (·.2)) k ∧ wr = w) (fun i _ => n - (intOf i).toNat)
  case atStart => exact ⟨0, by omega, rfl, keysK_zero _, rfl⟩
  case round =>
    obtain ⟨k, hk, rfl, hgood, hw⟩ := hrel
    subst wr
    have HGood := hide hgood
    clear hgood
    by_cases hlt : k < n
    · have hlt2 : (k : Int) < (n : Int) := by omega
      have hkl : k < l.length := by have := unhide HN; omega
      obtain ⟨b', off, rfl, hc, hS, hSB⟩ := unhide HC k hkl
      obtain ⟨x, hx⟩ : ∃ x, x = l[k] := ⟨_, rfl⟩
      have HX := hide hx
      rw [← hx] at hc hS hSB
      have hgk : (l.map (·.2)).getD k [] = x.2 := by simp [List.getD, hkl, hx]
      have HGK := hide hgk
      obtain ⟨c, hcb⟩ : ∃ c, c = (x.2.length == 32) := ⟨_, rfl⟩
      have HH := hide (cishash_any x.1 x.2 c hcb w hS)
      obtain ⟨d, hdb⟩ : ∃ d, d = (l.take k).any (fun y => decide (x.2 = y.2)) := ⟨_, rfl⟩
      have HA := hide (camong_any x.1 x.2 (.slice (some ⟨b', off, none⟩) k cl) (l.take k) d hdb w hS hSB ((unhide HL).1.take (by omega)))
      obtain ⟨ax, cx, hxv, -⟩ := hS
      obtain ⟨nx, hnx⟩ : ∃ k, k = x.2.length := ⟨_, rfl⟩
      rw [← hnx] at hxv
      rw [hxv] at hc HH HA
      have HCB := hide hcb
      have HDB := hide hdb
      have hkc : (k : Int) ≤ (cl : Int) := by have := unhide HLC; omega
      clear hxv hx hSB hnx hcb hdb HC hgk
      go_wp2_with fail
      refine (unhide HH).mono ?_
      rintro ee w2 ⟨rfl, hw⟩
      subst w2
      cases c
      · have hbb : b = false := by
          rw [unhide HB]
          have h32 : x.2.length ≠ 32 := by simpa using (unhide HCB).symm
          exact decide_eq_false (keysK_len hkl (by rw [unhide HGK]; exact h32))
        clear HA
        go_wp2_with fail
        go_ret
        exact ⟨by first | rfl | (rw [hbb]; rfl), rfl⟩
      · go_wp2_with fail
        refine (unhide HA).mono ?_
        rintro ee w2 ⟨rfl, hw⟩
        subst w2
        cases d
        · go_wp2_with fail
          go_roundw
          case rel =>
            refine ⟨k + 1, by omega, by go_num, keysK_succ (unhide HGood) (by rw [unhide HGK]; simpa using (unhide HCB).symm) (fun j hj => ?_), by trivial⟩
            rw [unhide HGK]
            have hn := unhide HDB
            have h2 := List.any_eq_false.1 hn.symm (l[j]'(by omega)) (by
              rw [List.mem_iff_getElem]
              exact ⟨j, by simp; omega, by simp⟩)
            have e : (l.map (·.2)).getD j [] = (l[j]'(by omega)).2 := by simp [List.getD, show j < l.length by omega]
            rw [e]
            intro h
            exact h2 (by rw [h]; simp)
          case measure => simp [intOf]; omega
        · have hbb : b = false := by
            rw [unhide HB]
            obtain ⟨y, hy, he⟩ := List.any_eq_true.1 (unhide HDB).symm
            obtain ⟨j, hj, rfl⟩ := List.getElem_of_mem hy
            have hj2 : j < k := by simp at hj; omega
            have e : (l.map (·.2)).getD j [] = (l[j]'(by omega)).2 := by simp [List.getD, show j < l.length by omega]
            refine decide_eq_false (keysK_two (j := j) hkl hj2 ?_)
            rw [e, unhide HGK]
            have := of_decide_eq_true he
            rw [this]
            simp
          go_wp2_with fail
          go_ret
          exact ⟨by first | rfl | (rw [hbb]; rfl), rfl⟩
    · obtain rfl : k = n := by omega
      have hlt2 : ¬ (k : Int) < (k : Int) := by omega
      have hbb : b = true := by
        rw [unhide HB]
        refine decide_eq_true ?_
        rw [← unhide HN]
        exact unhide HGood
      clear HC
      go_wp2_with fail
      go_ret
      exact ⟨by first | rfl | (rw [hbb]; rfl), rfl⟩

set_option maxRecDepth 100000 in
set_option maxHeartbeats 2000000 in
theorem cright_any (v : Value) (p : Po) (b : Bool) (hb : b = p.rgt) (w : World) (hV : PoV w v p) :
    Calls Tryz.prog 58 #[v] w fun e w' => e = .returned (.bool b) ∧ Kp [] w w' := by
  obtain ⟨lg, ws, q⟩ := p
  obtain ⟨al, ml, cl, aw, mw, cw, l, rfl, ⟨hS, hBr⟩, hL, hws⟩ := hV
  simp only at hS hBr hws ⊢
  obtain ⟨ob, hob⟩ : ∃ o : Obj, o = (.cells #[.slice al ml cl, .slice aw mw cw, .int .i64 q] 83) := ⟨_, rfl⟩
  have HK1 : Hid (Kp [] w (w.alloc ob)) := (Kp.refl [] w).alloc ob
  have hmw : mw = l.length := by
    obtain ⟨_, _, e, _⟩ := hL.shape
    injection e
  have hwl : ws.length = mw := by rw [← hws, hmw]; simp
  obtain ⟨bh, hbh⟩ : ∃ b, b = (lg.length == 32) := ⟨_, rfl⟩
  obtain ⟨bk, hbk⟩ : ∃ b, b = decide (keysK (l.map (·.2)) l.length) := ⟨_, rfl⟩
  have HH := hide (cishash_any (.slice al ml cl) lg bh hbh (w.alloc ob) (hS.kept (unhide HK1) (by simp)))
  have HA := hide (careKeys_any (.slice aw mw cw) l bk hbk (w.alloc ob) (hL.kept (unhide HK1)))
  have hb2 : b = (bh && (decide ((mw : Int) ≤ 4) && (decide (1 ≤ q) && (decide (q ≤ (mw : Int)) && bk)))) := by
    rw [hb, hbh, hbk, hws]
    unfold Po.rgt
    simp only [hwl, ← hmw]
    have : decide (mw ≤ 4) = decide ((mw : Int) ≤ 4) := decide_eq_decide.2 (by omega)
    rw [this]
  rw [hob] at HH HA HK1
  have HB := hide hb2
  clear hb hb2 hS hBr hL hws hmw hwl hbh hbk hob
  cases bh
  · have HE : Hid (b = false) := hide (by rw [unhide HB]; rfl)
    clear HB HA
    go_enter Tryz.func58, Tryz.ntmps58
    go_wp2_with fail
    refine (unhide HH).mono ?_
    rintro ee w2 ⟨rfl, hw⟩
    subst w2
    go_wp2_with fail
    go_ret
    exact ⟨by rw [unhide HE]; rfl, unhide HK1⟩
  by_cases h1 : ¬ (mw : Int) ≤ 4
  · have HE : Hid (b = false) := hide (by rw [unhide HB]; simp [h1])
    clear HB HA
    go_enter Tryz.func58, Tryz.ntmps58
    go_wp2_with fail
    refine (unhide HH).mono ?_
    rintro ee w2 ⟨rfl, hw⟩
    subst w2
    go_wp2_with fail
    go_ret
    exact ⟨by rw [unhide HE]; rfl, unhide HK1⟩
  replace h1 : (mw : Int) ≤ 4 := by omega
  by_cases h2 : ¬ 1 ≤ q
  · have HE : Hid (b = false) := hide (by rw [unhide HB]; simp [h2])
    clear HB HA
    go_enter Tryz.func58, Tryz.ntmps58
    go_wp2_with fail
    refine (unhide HH).mono ?_
    rintro ee w2 ⟨rfl, hw⟩
    subst w2
    go_wp2_with fail
    go_ret
    exact ⟨by rw [unhide HE]; rfl, unhide HK1⟩
  replace h2 : 1 ≤ q := by omega
  by_cases h3 : ¬ q ≤ (mw : Int)
  · have HE : Hid (b = false) := hide (by rw [unhide HB]; simp [h3])
    clear HB HA
    go_enter Tryz.func58, Tryz.ntmps58
    go_wp2_with fail
    refine (unhide HH).mono ?_
    rintro ee w2 ⟨rfl, hw⟩
    subst w2
    go_wp2_with fail
    go_ret
    exact ⟨by rw [unhide HE]; rfl, unhide HK1⟩
  replace h3 : q ≤ (mw : Int) := by omega
  have HE : Hid (b = bk) := hide (by rw [unhide HB]; simp [h1, h2, h3])
  clear HB
  go_enter Tryz.func58, Tryz.ntmps58
  go_wp2_with fail
  refine (unhide HH).mono ?_
  rintro ee w2 ⟨rfl, hw⟩
  subst w2
  go_wp2_with fail
  refine (unhide HA).mono ?_
  rintro ee w2 ⟨rfl, hw⟩
  subst w2
  go_wp2_with fail
  go_ret
  exact ⟨by rw [unhide HE]; rfl, unhide HK1⟩
end Go.Proofs.YtdjofooggofpkaaGreatDoor

/-
  The contracts of package cosign's Sign.
-/
namespace Go.Proofs.YtdjofooggofpkaaGreatDoor
open Go.RowKit
open Go.Proofs

set_option maxRecDepth 100000 in
set_option maxHeartbeats 4000000 in
theorem csign_arg (vb : Value) (bs : List Int) (i k : Int) (vc : Value) (n : Int) (r : List Int) (w : World) (hS : Sl w vb bs) (hk : ¬ (0 ≤ k ∧ k < 4)) (hC : CkV w vc n r) :
    Calls Tryz.prog 37 #[vb, .int .i64 i, .int .i64 k, vc] w fun e w' => e = .returned (.tuple #[cos0, .int .i64 1]) ∧ Kp [] w w' := by
  obtain ⟨ar, mr, cr, rfl, hSr, hBr⟩ := id hC
  have HS := hide hS
  obtain ⟨ab, cb, hvb, -⟩ := hS
  obtain ⟨nb, hnb⟩ : ∃ k, k = bs.length := ⟨_, rfl⟩
  rw [← hnb] at hvb
  subst hvb
  obtain ⟨w2, hw2⟩ : ∃ w2, w2 = (w.alloc (.cells #[.int .i64 n, .slice ar mr cr] 33)).alloc (.cells #[.int .i64 0, .int .i64 0, .slice none 0 0, .slice none 0 0] 26) := ⟨_, rfl⟩
  obtain ⟨g1, hg1⟩ : ∃ g, g = w.heap.size := ⟨_, rfl⟩
  obtain ⟨g2, hg2⟩ : ∃ g, g = w.heap.size + 1 := ⟨_, rfl⟩
  have K2 : Kp [] w w2 := by rw [hw2]; exact ((Kp.refl [] w).alloc _).alloc _
  have G1 : w2.heap[g1]? = some (.cells #[.int .i64 n, .slice ar mr cr] 33 (0, 0)) := by rw [hw2, hg1]; exact heap_alloc2_old w _ _
  have G2 : w2.heap[g2]? = some (.cells #[.int .i64 0, .int .i64 0, .slice none 0 0, .slice none 0 0] 26 (0, 0)) := by rw [hw2, hg2]; exact heap_alloc2_new w _ _
  have c0 : w2.cell? ⟨g1, 0, none⟩ = some (.int .i64 n) := by rw [cell_of_row w2 g1 0 _ _ _ G1]; rfl
  have c1 : w2.cell? ⟨g1, 1, none⟩ = some (.slice ar mr cr) := by rw [cell_of_row w2 g1 1 _ _ _ G1]; rfl
  have HCK0 : Hid (∀ w', Kp [] w w' → CkV w' (.agg #[.int .i64 n, .slice ar mr cr]) n r) := fun w' k' => hC.kept k'
  have HK2 := hide K2
  have HG1 := hide G1
  have HG2 := hide G2
  have HW2 := hide hw2
  have H1 := hide hg1
  have H2 := hide hg2
  have HBr := hide hBr
  have HWt := hide (ciswit_any k false (by simp [hk]) w2)
  clear hSr hBr hC K2 G1 hw2 hg1 hg2 hnb hk c0 c1
  go_enter Tryz.func37, Tryz.ntmps37
  go_wp2_with fail
  rw [← unhide HW2, ← unhide H2, ← unhide H1]
  refine (unhide HWt).mono ?_
  rintro ee w9 ⟨rfl, hw⟩
  subst w9
  go_wp2_with (refine wpList_store_flat rfl 26 (.tmp 8) (.tmp 15) rfl g2 0 rfl _ _ [.int .i64 0, .int .i64 0, .slice none 0 0, .slice none 0 0] G2 rfl (by simp) Tryz.cosSize (by simp [Value.oneCell']) #[.int .i64 0, .int .i64 0, .slice none 0 0, .slice none 0 0] rfl ?_; intro w4 G4 K4)
  refine bodyPost_ret (results_flat2 rfl _ rfl G4 Tryz.underlying26 rfl Tryz.cosSize) rfl ?_
  exact ⟨rfl, (unhide HK2).then K4 (fun i hi => .inr (by simp at hi; have := unhide H2; omega))⟩

set_option maxRecDepth 100000 in
set_option maxHeartbeats 4000000 in
theorem csign_form (vb : Value) (bs : List Int) (i k : Int) (vc : Value) (n : Int) (r : List Int) (w : World) (hS : Sl w vb bs) (hk : 0 ≤ k ∧ k < 4) (hr : rgtC n r = false) (hC : CkV w vc n r) :
    Calls Tryz.prog 37 #[vb, .int .i64 i, .int .i64 k, vc] w fun e w' => e = .returned (.tuple #[cos0, .int .i64 12]) ∧ Kp [] w w' := by
  obtain ⟨ar, mr, cr, rfl, hSr, hBr⟩ := id hC
  have HS := hide hS
  obtain ⟨ab, cb, hvb, -⟩ := hS
  obtain ⟨nb, hnb⟩ : ∃ k, k = bs.length := ⟨_, rfl⟩
  rw [← hnb] at hvb
  subst hvb
  obtain ⟨w2, hw2⟩ : ∃ w2, w2 = (w.alloc (.cells #[.int .i64 n, .slice ar mr cr] 33)).alloc (.cells #[.int .i64 0, .int .i64 0, .slice none 0 0, .slice none 0 0] 26) := ⟨_, rfl⟩
  obtain ⟨g1, hg1⟩ : ∃ g, g = w.heap.size := ⟨_, rfl⟩
  obtain ⟨g2, hg2⟩ : ∃ g, g = w.heap.size + 1 := ⟨_, rfl⟩
  have K2 : Kp [] w w2 := by rw [hw2]; exact ((Kp.refl [] w).alloc _).alloc _
  have G1 : w2.heap[g1]? = some (.cells #[.int .i64 n, .slice ar mr cr] 33 (0, 0)) := by rw [hw2, hg1]; exact heap_alloc2_old w _ _
  have G2 : w2.heap[g2]? = some (.cells #[.int .i64 0, .int .i64 0, .slice none 0 0, .slice none 0 0] 26 (0, 0)) := by rw [hw2, hg2]; exact heap_alloc2_new w _ _
  have c0 : w2.cell? ⟨g1, 0, none⟩ = some (.int .i64 n) := by rw [cell_of_row w2 g1 0 _ _ _ G1]; rfl
  have c1 : w2.cell? ⟨g1, 1, none⟩ = some (.slice ar mr cr) := by rw [cell_of_row w2 g1 1 _ _ _ G1]; rfl
  have HCK0 : Hid (∀ w', Kp [] w w' → CkV w' (.agg #[.int .i64 n, .slice ar mr cr]) n r) := fun w' k' => hC.kept k'
  have HK2 := hide K2
  have HG1 := hide G1
  have HG2 := hide G2
  have HW2 := hide hw2
  have H1 := hide hg1
  have H2 := hide hg2
  have HBr := hide hBr
  have HWt := hide (ciswit_any k true (by simp [hk]) w2)
  have HR := hide (ckright_any _ n r false hr.symm w2 (hC.kept K2))
  clear hSr hBr hC K2 G1 G2 hw2 hg1 hg2 hnb hk hr
  go_enter Tryz.func37, Tryz.ntmps37
  go_wp2_with fail
  rw [← unhide HW2, ← unhide H2, ← unhide H1]
  refine (unhide HWt).mono ?_
  rintro ee w9 ⟨rfl, hw⟩
  subst w9
  go_wp2_with fail
  refine (unhide HR).mono ?_
  rintro ee w3 ⟨rfl, K3⟩
  have HK3 := hide ((unhide HK2).trans K3)
  have HG13 := hide (K3.heap (unhide HG1) (by simp))
  have G23 := K3.heap (unhide HG2) (by simp)
  clear HR c0 c1 HW2 K3
  go_wp2_with (refine wpList_store_flat rfl 26 (.tmp 8) (.tmp 19) rfl g2 0 rfl _ _ [.int .i64 0, .int .i64 0, .slice none 0 0, .slice none 0 0] G23 rfl (by simp) Tryz.cosSize (by simp [Value.oneCell']) #[.int .i64 0, .int .i64 0, .slice none 0 0, .slice none 0 0] rfl ?_; intro w4 G4 K4)
  refine bodyPost_ret (results_flat2 rfl _ rfl G4 Tryz.underlying26 rfl Tryz.cosSize) rfl ?_
  exact ⟨rfl, (unhide HK3).then K4 (fun i hi => .inr (by simp at hi; have := unhide H2; omega))⟩

set_option maxRecDepth 100000 in
set_option maxHeartbeats 4000000 in
theorem csign_used (vb : Value) (bs : List Int) (i k : Int) (vc : Value) (n : Int) (r : List Int) (w : World) (hS : Sl w vb bs) (hl : bs.length = 32) (hi : ¬ (0 ≤ i ∧ i < 16)) (hk : 0 ≤ k ∧ k < 4) (hr : rgtC n r = true) (hC : CkV w vc n r) :
    Calls Tryz.prog 37 #[vb, .int .i64 i, .int .i64 k, vc] w fun e w' => e = .returned (.tuple #[cos0, .int .i64 23]) ∧ Kp [] w w' := by
  have HLB := hide hl
  have HI := hide hi
  clear hl hi
  obtain ⟨ar, mr, cr, rfl, hSr, hBr⟩ := id hC
  have HS := hide hS
  obtain ⟨ab, cb, hvb, -⟩ := hS
  obtain ⟨nb, hnb⟩ : ∃ k, k = bs.length := ⟨_, rfl⟩
  rw [← hnb] at hvb
  subst hvb
  obtain ⟨w2, hw2⟩ : ∃ w2, w2 = (w.alloc (.cells #[.int .i64 n, .slice ar mr cr] 33)).alloc (.cells #[.int .i64 0, .int .i64 0, .slice none 0 0, .slice none 0 0] 26) := ⟨_, rfl⟩
  obtain ⟨g1, hg1⟩ : ∃ g, g = w.heap.size := ⟨_, rfl⟩
  obtain ⟨g2, hg2⟩ : ∃ g, g = w.heap.size + 1 := ⟨_, rfl⟩
  have K2 : Kp [] w w2 := by rw [hw2]; exact ((Kp.refl [] w).alloc _).alloc _
  have G1 : w2.heap[g1]? = some (.cells #[.int .i64 n, .slice ar mr cr] 33 (0, 0)) := by rw [hw2, hg1]; exact heap_alloc2_old w _ _
  have G2 : w2.heap[g2]? = some (.cells #[.int .i64 0, .int .i64 0, .slice none 0 0, .slice none 0 0] 26 (0, 0)) := by rw [hw2, hg2]; exact heap_alloc2_new w _ _
  have c0 : w2.cell? ⟨g1, 0, none⟩ = some (.int .i64 n) := by rw [cell_of_row w2 g1 0 _ _ _ G1]; rfl
  have c1 : w2.cell? ⟨g1, 1, none⟩ = some (.slice ar mr cr) := by rw [cell_of_row w2 g1 1 _ _ _ G1]; rfl
  have HCK0 : Hid (∀ w', Kp [] w w' → CkV w' (.agg #[.int .i64 n, .slice ar mr cr]) n r) := fun w' k' => hC.kept k'
  have HK2 := hide K2
  have HG1 := hide G1
  have HG2 := hide G2
  have HW2 := hide hw2
  have H1 := hide hg1
  have H2 := hide hg2
  have HBr := hide hBr
  have HWt := hide (ciswit_any k true (by simp [hk]) w2)
  have HR := hide (ckright_any _ n r true hr.symm w2 (hC.kept K2))
  clear hSr hBr hC K2 G1 G2 hw2 hg1 hg2 hnb hk hr
  go_enter Tryz.func37, Tryz.ntmps37
  go_wp2_with fail
  rw [← unhide HW2, ← unhide H2, ← unhide H1]
  refine (unhide HWt).mono ?_
  rintro ee w9 ⟨rfl, hw⟩
  subst w9
  go_wp2_with fail
  refine (unhide HR).mono ?_
  rintro ee w3 ⟨rfl, K3⟩
  have HK3 := hide ((unhide HK2).trans K3)
  have HG13 := hide (K3.heap (unhide HG1) (by simp))
  have G23 := K3.heap (unhide HG2) (by simp)
  clear HR c0 c1 HW2 K3
  have d0 : w3.cell? ⟨g1, 0, none⟩ = some (.int .i64 n) := by rw [cell_of_row w3 g1 0 _ _ _ (unhide HG13)]; rfl
  have d1 : w3.cell? ⟨g1, 1, none⟩ = some (.slice ar mr cr) := by rw [cell_of_row w3 g1 1 _ _ _ (unhide HG13)]; rfl
  obtain ⟨B, hBo⟩ : ∃ B, B = bodW n r := ⟨_, rfl⟩
  have HBO := hide (cbody_any _ n r B hBo w3 (unhide HCK0 w3 (unhide HK3)))
  have HBB := hide hBo
  have HG23 := hide G23
  clear HK2 G23 hBo
  go_wp2_with fail
  refine (unhide HBO).mono ?_
  rintro ee w4 ⟨a4, m4, c4, rfl, S4, K4⟩
  have HK4 := hide ((unhide HK3).trans K4)
  have HG24 := hide (K4.heap (unhide HG23) (by simp))
  have HSg := hide (ssign_used (.slice ab nb cb) bs i (.slice a4 m4 c4) w4 ((unhide HS).kept (unhide HK4) (by simp)) (unhide HLB) (unhide HI))
  clear HBO d0 d1 S4 K4 HG23 HK3
  go_wp2_with fail
  refine (unhide HSg).mono ?_
  rintro ee w5 ⟨rfl, K5⟩
  have HK5 := hide ((unhide HK4).trans K5)
  have G25 := K5.heap (unhide HG24) (by simp)
  have Ga := heap_alloc_new w5 (.cells #[.int .i64 0, .slice none 0 0, .slice none 0 0] 24)
  have HKa : Hid (Kp [] w5 (w5.alloc (.cells #[.int .i64 0, .slice none 0 0, .slice none 0 0] 24))) := (Kp.refl [] w5).alloc _
  clear HSg K5
  go_wp2_with (refine wpList_store_flat rfl 24 (.tmp 10) (.tmp 26) rfl w5.heap.size 0 rfl _ _ [.int .i64 0, .slice none 0 0, .slice none 0 0] Ga rfl (by simp) Tryz.sigSize (by simp [Value.oneCell']) #[.int .i64 0, .slice none 0 0, .slice none 0 0] rfl ?_; intro w6 G6 K6; refine Hid.out ?_)
  have K56 : Kp [] w5 w6 := (unhide HKa).then K6 (fun i hi => .inr (by simp at hi; omega))
  have G26 := K56.heap G25 (by simp)
  have HK6 := hide ((unhide HK5).trans K56)
  clear Ga HKa G6 K6 K56 G25
  refine hide ?_
  go_wp2_with (refine wpList_store_flat rfl 26 (.tmp 8) (.tmp 30) rfl g2 0 rfl _ _ [.int .i64 0, .int .i64 0, .slice none 0 0, .slice none 0 0] G26 rfl (by simp) Tryz.cosSize (by simp [Value.oneCell']) #[.int .i64 0, .int .i64 0, .slice none 0 0, .slice none 0 0] rfl ?_; intro w7 G4 K4)
  refine bodyPost_ret (results_flat2 rfl _ rfl G4 Tryz.underlying26 rfl Tryz.cosSize) rfl ?_
  exact ⟨rfl, (unhide HK6).then K4 (fun i hi => .inr (by simp at hi; have := unhide H2; omega))⟩

set_option maxRecDepth 100000 in
set_option maxHeartbeats 4000000 in
theorem csign_ok (vb : Value) (bs : List Int) (i : Nat) (k : Int) (vc : Value) (n : Int) (r : List Int) (w : World) (hS : Sl w vb bs) (hB : Bs bs) (hl : bs.length = 32) (hi : i < 16) (hk : 0 ≤ k ∧ k < 4) (hr : rgtC n r = true) (hG : Gl w) (hC : CkV w vc n r) :
    Calls Tryz.prog 37 #[vb, .int .i64 i, .int .i64 k, vc] w fun e w' => ∃ v, e = .returned (.tuple #[v, .int .i64 0]) ∧ CoA w.heap.size w' v ⟨k, i, sgnP bs i (digP (bodW n r)), pthP bs i 4⟩ ∧ Kp [] w w' := by
  have HB := hide hB
  have HLB := hide hl
  have HI := hide hi
  have HG := hide hG
  clear hB hl hi hG
  obtain ⟨ar, mr, cr, rfl, hSr, hBr⟩ := id hC
  have HS := hide hS
  obtain ⟨ab, cb, hvb, -⟩ := hS
  obtain ⟨nb, hnb⟩ : ∃ k, k = bs.length := ⟨_, rfl⟩
  rw [← hnb] at hvb
  subst hvb
  obtain ⟨w2, hw2⟩ : ∃ w2, w2 = (w.alloc (.cells #[.int .i64 n, .slice ar mr cr] 33)).alloc (.cells #[.int .i64 0, .int .i64 0, .slice none 0 0, .slice none 0 0] 26) := ⟨_, rfl⟩
  obtain ⟨g1, hg1⟩ : ∃ g, g = w.heap.size := ⟨_, rfl⟩
  obtain ⟨g2, hg2⟩ : ∃ g, g = w.heap.size + 1 := ⟨_, rfl⟩
  have K2 : Kp [] w w2 := by rw [hw2]; exact ((Kp.refl [] w).alloc _).alloc _
  have G1 : w2.heap[g1]? = some (.cells #[.int .i64 n, .slice ar mr cr] 33 (0, 0)) := by rw [hw2, hg1]; exact heap_alloc2_old w _ _
  have G2 : w2.heap[g2]? = some (.cells #[.int .i64 0, .int .i64 0, .slice none 0 0, .slice none 0 0] 26 (0, 0)) := by rw [hw2, hg2]; exact heap_alloc2_new w _ _
  have c0 : w2.cell? ⟨g1, 0, none⟩ = some (.int .i64 n) := by rw [cell_of_row w2 g1 0 _ _ _ G1]; rfl
  have c1 : w2.cell? ⟨g1, 1, none⟩ = some (.slice ar mr cr) := by rw [cell_of_row w2 g1 1 _ _ _ G1]; rfl
  have HCK0 : Hid (∀ w', Kp [] w w' → CkV w' (.agg #[.int .i64 n, .slice ar mr cr]) n r) := fun w' k' => hC.kept k'
  have HK2 := hide K2
  have HG1 := hide G1
  have HG2 := hide G2
  have HW2 := hide hw2
  have H1 := hide hg1
  have H2 := hide hg2
  have HBr := hide hBr
  have HWt := hide (ciswit_any k true (by simp [hk]) w2)
  have HR := hide (ckright_any _ n r true hr.symm w2 (hC.kept K2))
  clear hSr hBr hC K2 G1 G2 hw2 hg1 hg2 hnb hk hr
  go_enter Tryz.func37, Tryz.ntmps37
  go_wp2_with fail
  rw [← unhide HW2, ← unhide H2, ← unhide H1]
  refine (unhide HWt).mono ?_
  rintro ee w9 ⟨rfl, hw⟩
  subst w9
  go_wp2_with fail
  refine (unhide HR).mono ?_
  rintro ee w3 ⟨rfl, K3⟩
  have HK3 := hide ((unhide HK2).trans K3)
  have HG13 := hide (K3.heap (unhide HG1) (by simp))
  have G23 := K3.heap (unhide HG2) (by simp)
  clear HR c0 c1 HW2 K3
  have d0 : w3.cell? ⟨g1, 0, none⟩ = some (.int .i64 n) := by rw [cell_of_row w3 g1 0 _ _ _ (unhide HG13)]; rfl
  have d1 : w3.cell? ⟨g1, 1, none⟩ = some (.slice ar mr cr) := by rw [cell_of_row w3 g1 1 _ _ _ (unhide HG13)]; rfl
  obtain ⟨B, hBo⟩ : ∃ B, B = bodW n r := ⟨_, rfl⟩
  have HBO := hide (cbody_any _ n r B hBo w3 (unhide HCK0 w3 (unhide HK3)))
  have HBB := hide hBo
  have HG23 := hide G23
  clear HK2 G23 hBo
  go_wp2_with fail
  refine (unhide HBO).mono ?_
  rintro ee w4 ⟨a4, m4, c4, rfl, S4, K4⟩
  have HK4 := hide ((unhide HK3).trans K4)
  have HG24 := hide (K4.heap (unhide HG23) (by simp))
  have HSg := hide (ssign_anyA (.slice ab nb cb) bs i (.slice a4 m4 c4) B (digP B) rfl w4 ((unhide HS).kept (unhide HK4) (by simp)) (unhide HB) (unhide HLB) (unhide HI) S4 (by rw [unhide HBB]; exact bodW_bs n r (unhide HBr)) (by rw [unhide HBB]; have := bodW_le n r; omega) ((unhide HG).kept (unhide HK4) (by simp)))
  have hlt4 : g2 < w4.heap.size := lt_of_block (unhide HG24)
  clear HBO d0 d1 S4 K4 HG23 HG13 HK3
  go_wp2_with fail
  refine (unhide HSg).mono ?_
  rintro ee w5 ⟨v5, rfl, V5, K5⟩
  obtain ⟨ap, np, cp, aq, nq, cq, lp, lq, rfl, -⟩ := V5.v.shape
  have HV5 := hide V5
  have HK5 := hide ((unhide HK4).trans K5)
  have HG25 := hide (K5.heap (unhide HG24) (by simp))
  have Ga := heap_alloc_new w5 (.cells #[.int .i64 0, .slice none 0 0, .slice none 0 0] 24)
  have HKa : Hid (Kp [] w5 (w5.alloc (.cells #[.int .i64 0, .slice none 0 0, .slice none 0 0] 24))) := (Kp.refl [] w5).alloc _
  clear HSg K5 V5 HG24
  go_wp2_with (refine wpList_store_flat rfl 24 (.tmp 10) (.tmp 26) rfl w5.heap.size 0 rfl _ _ [.int .i64 i, .slice ap np cp, .slice aq nq cq] Ga rfl (by simp) Tryz.sigSize (by simp [Value.oneCell']) #[.int .i64 i, .slice ap np cp, .slice aq nq cq] rfl ?_; intro w6 G6 K6; refine Hid.out ?_)
  obtain ⟨g8, hg8⟩ : ∃ g, g = w5.heap.size := ⟨_, rfl⟩
  have K56 : Kp [] w5 w6 := (unhide HKa).then K6 (fun i hi => .inr (by simp at hi; omega))
  rw [← hg8] at G6 ⊢
  have G26 := K56.heap (unhide HG25) (by simp)
  have HV6 := hide ((unhide HV5).kept (S := []) (by simp) K56)
  have HK6 := hide ((unhide HK5).trans K56)
  have f0 : w6.cell? ⟨g8, 0, none⟩ = some (.int .i64 i) := by rw [cell_of_row w6 g8 0 _ _ _ G6]; rfl
  have f1 : w6.cell? ⟨g8, 1, none⟩ = some (.slice ap np cp) := by rw [cell_of_row w6 g8 1 _ _ _ G6]; rfl
  have f2 : w6.cell? ⟨g8, 2, none⟩ = some (.slice aq nq cq) := by rw [cell_of_row w6 g8 2 _ _ _ G6]; rfl
  clear Ga HKa K6 K56 hg8 HV5 HK5 HG25 G6
  refine hide ?_
  go_wp2_with (refine wpList_store_flat rfl 26 (.tmp 8) (.tmp 34) rfl g2 0 rfl _ _ [.int .i64 k, .int .i64 i, .slice ap np cp, .slice aq nq cq] G26 rfl (by simp) Tryz.cosSize (by simp [Value.oneCell']) #[.int .i64 k, .int .i64 i, .slice ap np cp, .slice aq nq cq] rfl ?_; intro w7 G7 K7)
  refine bodyPost_ret (results_flat2 rfl _ rfl G7 Tryz.underlying26 rfl Tryz.cosSize) rfl ?_
  refine ⟨_, rfl, fun S w8 hS k8 => ⟨ap, np, cp, aq, nq, cq, rfl, ?_⟩, (unhide HK6).then K7 (fun i hi => .inr (by simp at hi; have := unhide H2; omega))⟩
  have h8 := unhide HV6 (g2 :: S) w8 (fun q hq => by
    have := unhide H2
    rcases List.mem_cons.1 hq with rfl | hq
    · exact hlt4
    · have := hS q hq; omega) ((K7.mono (by simp)).trans (k8.mono (fun q hq => List.mem_cons_of_mem _ hq)))
  rw [← unhide HBB]
  exact h8
end Go.Proofs.YtdjofooggofpkaaGreatDoor

/-
  The contract of package cosign's Verify.
-/
namespace Go.Proofs.YtdjofooggofpkaaGreatDoor
open Go.RowKit
open Go.Proofs

set_option maxRecDepth 100000 in
set_option maxHeartbeats 8000000 in
theorem cverify_any (vp : Value) (p : Po) (vc : Value) (n : Int) (r : List Int) (vg : Value) (g : Co) (b : Bool) (hb : b = verW p n r g) (w : World) (hP : PoV w vp p) (hC : CkV w vc n r) (hV : CoV w vg g) (hG : Gl w) :
    Calls Tryz.prog 38 #[vp, vc, vg] w fun e w' => e = .returned (.bool b) ∧ Kp [] w w' := by
  obtain ⟨k, i, ps, qs⟩ := g
  have HP0 := hide hP
  have HC0 := hide hC
  obtain ⟨al, ml, cl, aw, mw, cw, l, rfl, -, hL, hws⟩ := hP
  obtain ⟨ar, mr, cr, rfl, -, hBr⟩ := hC
  obtain ⟨ap, np, cp, aq, nq, cq, rfl, hSig⟩ := hV
  simp only at hSig ⊢
  have hmw : mw = l.length := by
    obtain ⟨_, _, e, _⟩ := hL.shape
    injection e
  obtain ⟨q, hq0⟩ : ∃ q, q = p.q := ⟨_, rfl⟩
  rw [← hq0] at HP0 ⊢
  obtain ⟨g3, hg3⟩ : ∃ g, g = w.heap.size := ⟨_, rfl⟩
  obtain ⟨g4, hg4⟩ : ∃ g, g = w.heap.size + 1 := ⟨_, rfl⟩
  obtain ⟨g5, hg5⟩ : ∃ g, g = w.heap.size + 1 + 1 := ⟨_, rfl⟩
  obtain ⟨w0, hw0⟩ : ∃ w0, w0 = ((w.alloc (.cells #[.slice al ml cl, .slice aw mw cw, .int .i64 q] 83)).alloc (.cells #[.int .i64 n, .slice ar mr cr] 33)).alloc (.cells #[.int .i64 k, .int .i64 i, .slice ap np cp, .slice aq nq cq] 26) := ⟨_, rfl⟩
  have K0 : Kp [] w w0 := by rw [hw0]; exact (((Kp.refl [] w).alloc _).alloc _).alloc _
  have G5 : w0.heap[g5]? = some (.cells #[.int .i64 k, .int .i64 i, .slice ap np cp, .slice aq nq cq] 26 (0, 0)) := by
    rw [hw0, hg5, show w.heap.size + 1 + 1 = ((w.alloc (.cells #[.slice al ml cl, .slice aw mw cw, .int .i64 q] 83)).alloc (.cells #[.int .i64 n, .slice ar mr cr] 33)).heap.size by simp]
    exact heap_alloc_new _ _
  have G4 : w0.heap[g4]? = some (.cells #[.int .i64 n, .slice ar mr cr] 33 (0, 0)) := by
    rw [hw0, hg4]
    exact ((Kp.refl [] ((w.alloc _).alloc _)).alloc _).heap (heap_alloc2_new w _ _) (by simp)
  have G3 : w0.heap[g3]? = some (.cells #[.slice al ml cl, .slice aw mw cw, .int .i64 q] 83 (0, 0)) := by
    rw [hw0, hg3]
    exact ((Kp.refl [] ((w.alloc _).alloc _)).alloc _).heap (heap_alloc2_old w _ _) (by simp)
  have H3 := hide hg3
  have H4 := hide hg4
  have H5 := hide hg5
  have HW0 := hide hw0
  have HK0 := hide K0
  have hl3 := load_whole (T := 83) G3 Tryz.underlying83 rfl Tryz.polSize
  rw [hw0, hg3] at hl3
  obtain ⟨bp, hbp⟩ : ∃ b, b = p.rgt := ⟨_, rfl⟩
  obtain ⟨bc, hbc⟩ : ∃ b, b = rgtC n r := ⟨_, rfl⟩
  have HR := hide (cright_any _ p bp hbp w0 ((unhide HP0).kept K0))
  have HB : Hid (b = (bp && (bc && (decide (0 ≤ k) && (decide (k < p.ws.length) && verP (p.ws.getD k.toNat []) (bodW n r) i ps qs))))) := hide (by rw [hb, hbp, hbc]; rfl)
  have hwl : p.ws.length = mw := by rw [← hws, hmw]; simp
  rw [hwl] at HB
  have HBC := hide hbc
  have HG3 := hide G3
  have HG4 := hide G4
  have HG5 := hide G5
  have HL := hide hL
  have HWS := hide hws
  have HMW := hide hmw
  have HSig := hide hSig
  have HBr := hide hBr
  have HGl := hide hG
  have HQ0 := hide hq0
  clear hb hbp hbc hg3 hg4 hg5 hw0 K0 G3 G4 G5 hL hws hmw hSig hBr hG hq0 hwl
  go_enter Tryz.func38, Tryz.ntmps38
  go_wp2_with fail
  rw [← unhide HW0, ← unhide H5, ← unhide H4, ← unhide H3]
  refine (unhide HR).mono ?_
  rintro ee w1 ⟨rfl, K1⟩
  have HK1 := hide ((unhide HK0).trans K1)
  have HG31 := hide (K1.heap (unhide HG3) (by simp))
  have HG41 := hide (K1.heap (unhide HG4) (by simp))
  have HG51 := hide (K1.heap (unhide HG5) (by simp))
  have c0 : w1.cell? ⟨g4, 0, none⟩ = some (.int .i64 n) := by rw [cell_of_row w1 g4 0 _ _ _ (unhide HG41)]; rfl
  have c1 : w1.cell? ⟨g4, 1, none⟩ = some (.slice ar mr cr) := by rw [cell_of_row w1 g4 1 _ _ _ (unhide HG41)]; rfl
  have HRc := hide (ckright_any _ n r bc (unhide HBC) w1 ((unhide HC0).kept (unhide HK1)))
  clear hl3 HR K1 HG3 HG4 HG5 HW0
  cases bp
  · have HE : Hid (b = false) := hide (by rw [unhide HB]; rfl)
    clear HB HRc
    go_wp2_with fail
    go_ret
    exact ⟨by rw [unhide HE]; rfl, unhide HK1⟩
  go_wp2_with fail
  refine (unhide HRc).mono ?_
  rintro ee w2 ⟨rfl, K2⟩
  have HK2 := hide ((unhide HK1).trans K2)
  have HG32 := hide (K2.heap (unhide HG31) (by simp))
  have HG42 := hide (K2.heap (unhide HG41) (by simp))
  have HG52 := hide (K2.heap (unhide HG51) (by simp))
  have d0 : w2.cell? ⟨g5, 0, none⟩ = some (.int .i64 k) := by rw [cell_of_row w2 g5 0 _ _ _ (unhide HG52)]; rfl
  have d1 : w2.cell? ⟨g3, 1, none⟩ = some (.slice aw mw cw) := by rw [cell_of_row w2 g3 1 _ _ _ (unhide HG32)]; rfl
  clear HRc K2 HK1 HG31 HG41 HG51 c0 c1
  cases bc
  · have HE : Hid (b = false) := hide (by rw [unhide HB]; rfl)
    clear HB
    go_wp2_with fail
    go_ret
    exact ⟨by rw [unhide HE]; rfl, unhide HK2⟩
  by_cases h0 : k < 0
  · have HE : Hid (b = false) := hide (by rw [unhide HB, decide_eq_false (by omega : ¬ 0 ≤ k)]; rfl)
    clear HB
    go_wp2_with fail
    go_ret
    exact ⟨by rw [unhide HE]; rfl, unhide HK2⟩
  by_cases h1 : (mw : Int) ≤ k
  · have HE : Hid (b = false) := hide (by rw [unhide HB, decide_eq_false (by omega : ¬ k < (mw : Int))]; simp)
    clear HB
    go_wp2_with fail
    go_ret
    exact ⟨by rw [unhide HE]; rfl, unhide HK2⟩
  obtain ⟨kn, rfl⟩ : ∃ kn : Nat, k = kn := ⟨k.toNat, by omega⟩
  have hlt2 : (kn : Int) < (mw : Int) := by omega
  have hkl : kn < l.length := by have := unhide HMW; omega
  obtain ⟨aw', cw', ew', -, hcell⟩ := (unhide HL).1
  injection ew' with e1 e2 e3
  obtain ⟨bw, ow, rfl, hx, hS, hSB⟩ := hcell kn hkl
  subst e1
  obtain ⟨pub, hpub⟩ : ∃ x, x = (l[kn]'hkl).2 := ⟨_, rfl⟩
  rw [← hpub] at hS hSB
  have HXS := hide hS
  obtain ⟨ax, cx, hxv, -⟩ := hS
  obtain ⟨nx, hnx⟩ : ∃ k, k = pub.length := ⟨_, rfl⟩
  rw [← hnx] at hxv
  rw [hxv] at hx HXS
  have hgd : p.ws.getD (kn : Int).toNat [] = pub := by rw [← unhide HWS, hpub]; simp [List.getD, hkl]
  obtain ⟨B, hB⟩ : ∃ B, B = bodW n r := ⟨_, rfl⟩
  obtain ⟨bb, hbb⟩ : ∃ x, x = verP pub B i ps qs := ⟨_, rfl⟩
  have HE : Hid (b = bb) := hide (by rw [unhide HB, hgd, ← hB, ← hbb, decide_eq_true hlt2, decide_eq_true (by omega : 0 ≤ (kn : Int))]; simp)
  have HBB := hide hB
  have HVB := hide hbb
  have HBS : Hid (Bs B) := hide (by rw [hB]; exact bodW_bs n r (unhide HBr))
  have HBL : Hid (B.length ≤ 1000) := hide (by rw [hB]; have := bodW_le n r; omega)
  have HPB := hide hSB
  have HD : Hid (∀ w', Kp [] w2.drew w' → Kp [] w w') := fun w' k' => (unhide HK2).trans ((kp_drew w2).trans k')
  have HT3 : Hid (∀ w', Kp [] w2.drew w' → w'.heap[g3]? = some (.cells #[.slice al ml cl, .slice (some ⟨bw, ow, none⟩) mw cw, .int .i64 q] 83 (0, 0))) := fun w' k' => ((kp_drew w2).trans k').heap (unhide HG32) (by simp)
  have HT4 : Hid (∀ w', Kp [] w2.drew w' → w'.heap[g4]? = some (.cells #[.int .i64 n, .slice ar mr cr] 33 (0, 0))) := fun w' k' => ((kp_drew w2).trans k').heap (unhide HG42) (by simp)
  have HT5 : Hid (∀ w', Kp [] w2.drew w' → w'.heap[g5]? = some (.cells #[.int .i64 kn, .int .i64 i, .slice ap np cp, .slice aq nq cq] 26 (0, 0))) := fun w' k' => ((kp_drew w2).trans k').heap (unhide HG52) (by simp)
  have HXC : Hid (∀ w', Kp [] w2.drew w' → w'.cell? ⟨bw, ow + kn, none⟩ = some (.slice ax nx cx)) := fun w' k' => (unhide HD w' k').cell hx (by simp)
  have HPW : Hid (∀ w', Kp [] w2.drew w' → Sl w' (.slice ax nx cx) pub) := fun w' k' => (unhide HXS).kept (unhide HD w' k') (by simp)
  have HCK : Hid (∀ w', Kp [] w2.drew w' → CkV w' (.agg #[.int .i64 n, .slice ar mr cr]) n r) := fun w' k' => (unhide HC0).kept (unhide HD w' k')
  have HSV : Hid (∀ w', Kp [] w2.drew w' → SigV w' (.agg #[.int .i64 i, .slice ap np cp, .slice aq nq cq]) i ps qs) := fun w' k' => (unhide HSig).kept (unhide HD w' k')
  have HGW : Hid (∀ w', Kp [] w2.drew w' → Gl w') := fun w' k' => (unhide HGl).kept (unhide HD w' k') (by simp)
  clear HB hB hbb hgd hpub hSB hxv hnx hcell e2 e3 hx HXS
  go_wp2_with fail
  refine region_grow Tryz.mixed [Is (.pointer (some ⟨g3, 1, none⟩)), Is (.slice (some ⟨bw, ow, none⟩) mw cw), Is (.pointer (some ⟨g5, 0, none⟩)), Is (.int .i64 kn), Is (.pointer (some ⟨bw, ow + kn, none⟩)), Is (.slice ax nx cx), Is (.agg #[.int .i64 n, .slice ar mr cr]), SlT (B), Is (.pointer (some ⟨g5, 1, none⟩)), Is (.agg #[.int .i64 i, .slice ap np cp, .slice aq nq cq]), Is (.bool bb), Is (.bool bb)] [[(3, none)], [(28, some 0)], [(5, none)], [(30, some 2)], [(29, some 1), (31, some 3)], [(32, some 4)], [(4, none)], [(34, some 6)], [(5, none)], [(36, some 8)], [(33, some 5), (35, some 7), (37, some 9)], [(38, some 10)]] (by kernel_rfl) ?_ ?_ ?_
  · simp only [List.mem_cons, List.not_mem_nil, or_false]
    intro R hR
    rcases hR with rfl | rfl | rfl | rfl | rfl | rfl | rfl | rfl | rfl | rfl | rfl | rfl <;> first | exact stable_is _ | exact stable_sl _
  · refine steps_cons (fun a w hk hn => ?_) ?_
    · have h3 : a.eval (.tmp 3) = .pointer (some ⟨g3, 0, none⟩) := hn.1
      clear hn
      refine wants_plain rfl ?_
      refine grown_run (v := .pointer (some ⟨g3, 1, none⟩)) ?_ (Kp.refl _ _) rfl
      obtain ⟨ρ, hρ, hc, hf, hg⟩ := eval_is a
      rw [hρ] at h3 ⊢
      simp [go_sem, h3]
    refine steps_cons (fun a w hk hn => ?_) ?_
    · have h28 : a.eval (.tmp 28) = .pointer (some ⟨g3, 1, none⟩) := hn.1
      clear hn
      refine wants_plain rfl ?_
      refine grown_run (v := .slice (some ⟨bw, ow, none⟩) mw cw) ?_ (Kp.refl _ _) rfl
      have hcell : w.cell? ⟨g3, 1, none⟩ = some (.slice (some ⟨bw, ow, none⟩) mw cw) := by rw [cell_of_row w g3 1 _ _ _ (unhide HT3 w hk)]; rfl
      obtain ⟨ρ, hρ, hc, hf, hg⟩ := eval_is a
      rw [hρ] at h28 ⊢
      simp [go_sem, h28, hcell]
    refine steps_cons (fun a w hk hn => ?_) ?_
    · have h5 : a.eval (.tmp 5) = .pointer (some ⟨g5, 0, none⟩) := hn.1
      clear hn
      refine wants_plain rfl ?_
      refine grown_run (v := .pointer (some ⟨g5, 0, none⟩)) ?_ (Kp.refl _ _) rfl
      obtain ⟨ρ, hρ, hc, hf, hg⟩ := eval_is a
      rw [hρ] at h5 ⊢
      simp [go_sem, h5]
    refine steps_cons (fun a w hk hn => ?_) ?_
    · have h30 : a.eval (.tmp 30) = .pointer (some ⟨g5, 0, none⟩) := hn.1
      clear hn
      refine wants_plain rfl ?_
      refine grown_run (v := .int .i64 kn) ?_ (Kp.refl _ _) rfl
      have hcell : w.cell? ⟨g5, 0, none⟩ = some (.int .i64 kn) := by rw [cell_of_row w g5 0 _ _ _ (unhide HT5 w hk)]; rfl
      obtain ⟨ρ, hρ, hc, hf, hg⟩ := eval_is a
      rw [hρ] at h30 ⊢
      simp [go_sem, h30, hcell]
    refine steps_cons (fun a w hk hn => ?_) ?_
    · have h29 : a.eval (.tmp 29) = .slice (some ⟨bw, ow, none⟩) mw cw := hn.1
      have h31 : a.eval (.tmp 31) = .int .i64 kn := hn.2.1
      clear hn
      refine wants_plain rfl ?_
      refine grown_run (v := .pointer (some ⟨bw, ow + kn, none⟩)) ?_ (Kp.refl _ _) rfl
      obtain ⟨ρ, hρ, hc, hf, hg⟩ := eval_is a
      rw [hρ] at h29 h31 ⊢
      simp [go_sem, h29, h31, hlt2]
    refine steps_cons (fun a w hk hn => ?_) ?_
    · have h32 : a.eval (.tmp 32) = .pointer (some ⟨bw, ow + kn, none⟩) := hn.1
      clear hn
      refine wants_plain rfl ?_
      refine grown_run (v := .slice ax nx cx) ?_ (Kp.refl _ _) rfl
      have hcell := unhide HXC w hk
      obtain ⟨ρ, hρ, hc, hf, hg⟩ := eval_is a
      rw [hρ] at h32 ⊢
      simp [go_sem, h32, hcell]
    refine steps_cons (fun a w hk hn => ?_) ?_
    · have h4 : a.eval (.tmp 4) = .pointer (some ⟨g4, 0, none⟩) := hn.1
      clear hn
      refine wants_plain rfl ?_
      exact grown_loadf 33 (.tmp 4) rfl g4 0 h4 _ _ _ _ (unhide HT4 w hk) [.int .i64 n, .slice ar mr cr] (flat_in rfl) Tryz.underlying33 rfl Tryz.chkSize rfl
    refine steps_cons (fun a w hk hn => ?_) ?_
    · have h34 : a.eval (.tmp 34) = .agg #[.int .i64 n, .slice ar mr cr] := hn.1
      clear hn
      refine wants_plain rfl ?_
      refine grown_call (f := 57) rfl Tryz.func57 (by kernel_rfl) (by kernel_rfl) ?_
      simp only [List.map_toArray, List.map_cons, List.map_nil, h34]
      refine (cbody_any _ n r B (unhide HBB) w (unhide HCK w hk)).mono ?_
      rintro e w' ⟨ao, m, c, rfl, R, K⟩
      exact ⟨_, rfl, K, R⟩
    refine steps_cons (fun a w hk hn => ?_) ?_
    · have h5 : a.eval (.tmp 5) = .pointer (some ⟨g5, 0, none⟩) := hn.1
      clear hn
      refine wants_plain rfl ?_
      refine grown_run (v := .pointer (some ⟨g5, 1, none⟩)) ?_ (Kp.refl _ _) rfl
      obtain ⟨ρ, hρ, hc, hf, hg⟩ := eval_is a
      rw [hρ] at h5 ⊢
      simp [go_sem, h5]
    refine steps_cons (fun a w hk hn => ?_) ?_
    · have h36 : a.eval (.tmp 36) = .pointer (some ⟨g5, 1, none⟩) := hn.1
      clear hn
      refine wants_plain rfl ?_
      exact grown_loadf 24 (.tmp 36) rfl g5 1 h36 _ _ _ _ (unhide HT5 w hk) [.int .i64 i, .slice ap np cp, .slice aq nq cq] (flat_in rfl) Tryz.underlying24 rfl Tryz.sigSize rfl
    refine steps_cons (fun a w hk hn => ?_) ?_
    · have h33 : a.eval (.tmp 33) = .slice ax nx cx := hn.1
      have h35 : Sl w (a.eval (.tmp 35)) (B) := hn.2.1
      have h37 : a.eval (.tmp 37) = .agg #[.int .i64 i, .slice ap np cp, .slice aq nq cq] := hn.2.2.1
      clear hn
      refine wants_plain rfl ?_
      refine grown_call (f := 59) rfl Tryz.func59 (by kernel_rfl) (by kernel_rfl) ?_
      simp only [List.map_toArray, List.map_cons, List.map_nil, h33, h37]
      refine (sverify_any _ pub _ B _ i ps qs bb (unhide HVB) w (unhide HPW w hk) (unhide HPB) h35 (unhide HBS) (unhide HBL) (unhide HSV w hk) (unhide HGW w hk)).mono ?_
      rintro e w' ⟨rfl, K⟩
      exact ⟨_, rfl, K, rfl⟩
    refine steps_cons (fun a w hk hn => ?_) ?_
    · have h38 : a.eval (.tmp 38) = .bool bb := hn.1
      clear hn
      refine wants_plain rfl ?_
      exact grown_assign (.tmp 38) rfl h38
    exact trivial
  intro W1 hkW1
  rintro _ rfl
  rintro _ rfl
  rintro _ rfl
  rintro _ rfl
  rintro _ rfl
  rintro _ rfl
  rintro _ rfl
  intro v35 h35
  rintro _ rfl
  rintro _ rfl
  rintro _ rfl
  rintro _ rfl
  refine fin_nil ?_
  simp only [Act.put, List.set_cons_zero, List.set_cons_succ, List.setIfInBounds_toArray]
  go_wp2_with fail
  go_ret
  exact ⟨by rw [unhide HE]; rfl, unhide HD W1 hkW1⟩
end Go.Proofs.YtdjofooggofpkaaGreatDoor

/-
  The contracts of package cosign's counted (with Verify handed on), Count and Met.
-/
namespace Go.Proofs.YtdjofooggofpkaaGreatDoor
open Go.RowKit
open Go.Proofs


set_option maxRecDepth 100000 in
set_option maxHeartbeats 8000000 in
theorem ccounted_any (vp : Value) (p : Po) (vc : Value) (n : Int) (r : List Int) (vl : Value) (l : List Co) (m : Nat) (hm : m = cntW p n r l) (w : World) (hP : PoV w vp p) (hC : CkV w vc n r) (hL : CoL w vl l) (hG : Gl w) :
    Calls Tryz.prog 60 #[vp, vc, vl, (.func (.func 38) #[] #[])] w fun e w' => e = .returned (.int .i64 m) ∧ Kp [] w w' := by
  have HP0 := hide hP
  have HC0 := hide hC
  obtain ⟨al, ml, cl, aw, mw, cw, lw, rfl, -, -, -⟩ := hP
  obtain ⟨ar, mr, cr, rfl, -, -⟩ := hC
  obtain ⟨ag, cg, rfl, hll, hcell⟩ := hL
  obtain ⟨q, hq0⟩ : ∃ q, q = p.q := ⟨_, rfl⟩
  rw [← hq0] at HP0 ⊢
  obtain ⟨N, hN⟩ : ∃ k, k = l.length := ⟨_, rfl⟩
  rw [← hN] at hll ⊢
  obtain ⟨g4, hg4⟩ : ∃ g, g = w.heap.size := ⟨_, rfl⟩
  obtain ⟨g5, hg5⟩ : ∃ g, g = w.heap.size + 1 := ⟨_, rfl⟩
  obtain ⟨g9, hg9⟩ : ∃ g, g = w.heap.size + 1 + 1 := ⟨_, rfl⟩
  obtain ⟨w0, hw0⟩ : ∃ w0, w0 = ((w.alloc (.cells #[.slice al ml cl, .slice aw mw cw, .int .i64 q] 83)).alloc (.cells #[.int .i64 n, .slice ar mr cr] 33)).alloc (.cells #[.bool false, .bool false, .bool false, .bool false] 116) := ⟨_, rfl⟩
  have K0 : Kp [] w w0 := by rw [hw0]; exact (((Kp.refl [] w).alloc _).alloc _).alloc _
  have G9 : w0.heap[g9]? = some (.cells #[.bool false, .bool false, .bool false, .bool false] 116 (0, 0)) := by
    rw [hw0, hg9, show w.heap.size + 1 + 1 = ((w.alloc (.cells #[.slice al ml cl, .slice aw mw cw, .int .i64 q] 83)).alloc (.cells #[.int .i64 n, .slice ar mr cr] 33)).heap.size by simp]
    exact heap_alloc_new _ _
  have G5 : w0.heap[g5]? = some (.cells #[.int .i64 n, .slice ar mr cr] 33 (0, 0)) := by
    rw [hw0, hg5]
    exact ((Kp.refl [] ((w.alloc _).alloc _)).alloc _).heap (heap_alloc2_new w _ _) (by simp)
  have G4 : w0.heap[g4]? = some (.cells #[.slice al ml cl, .slice aw mw cw, .int .i64 q] 83 (0, 0)) := by
    rw [hw0, hg4]
    exact ((Kp.refl [] ((w.alloc _).alloc _)).alloc _).heap (heap_alloc2_old w _ _) (by simp)
  have HI : Hid (w0.heap[g9]? = some (.cells (hasW p n r (l.take 0)) 116 (0, 0)) ∧ Kp [g9] w0 w0) := ⟨by rw [G9]; rfl, Kp.refl _ _⟩
  have HM := hide hm
  have HN := hide hN
  have HC := hide hcell
  have HW0 := hide hw0
  have H4 := hide hg4
  have H5 := hide hg5
  have H9 := hide hg9
  have HK0 := hide K0
  have HG4 := hide G4
  have HG5 := hide G5
  have HGl := hide hG
  clear hm hN hcell hw0 hg4 hg5 hg9 K0 G4 G5 G9 hG hq0
  go_enter Tryz.func60, Tryz.ntmps60
  go_wp2_with fail
  rw [← unhide HW0, ← unhide H9, ← unhide H5, ← unhide H4]
  go_loopw [10, 15] (fun vn vi wr => ∃ k : Nat, k ≤ N ∧ vi = .int .i64 k ∧ vn = .int .i64 (cntW p n r (l.take k) : Nat) ∧ wr.heap[g9]? = some (.cells (hasW p n r (l.take k)) 116 (0, 0)) ∧ Kp [g9] w0 wr) (fun _ vi _ => N - (intOf vi).toNat)
  case atStart => exact ⟨0, by omega, rfl, rfl, (unhide HI).1, (unhide HI).2⟩
  case round =>
    clear HI
    obtain ⟨k, hk, rfl, rfl, hH, hKr⟩ := hrel
    have h45 : g4 < g9 ∧ g5 < g9 ∧ w.heap.size ≤ g9 := by have := unhide H4; have := unhide H5; have := unhide H9; omega
    have HKw : Hid (Kp [] w wr) := (unhide HK0).then hKr (fun i hi => .inr (by simp at hi; omega))
    have HH := hide hH
    have HKr := hide hKr
    have HG4r := hide (hKr.heap (unhide HG4) (by simp; omega))
    have HG5r := hide (hKr.heap (unhide HG5) (by simp; omega))
    have hcl : cntW p n r (l.take k) ≤ 4 := cntW_le
    obtain ⟨cn, hcn⟩ : ∃ c, c = cntW p n r (l.take k) := ⟨_, rfl⟩
    rw [← hcn] at hcl ⊢
    have HCN := hide hcn
    clear hH hKr hcn
    by_cases hlt : k < N
    · have hlt2 : (k : Int) < (N : Int) := by omega
      have hkl : k < l.length := by have := unhide HN; omega
      obtain ⟨b', off, ap, np, cp, aq, nq, cq, rfl, hr0, hsig⟩ := unhide HC k hkl
      obtain ⟨c, hc⟩ : ∃ c, c = l[k]'hkl := ⟨_, rfl⟩
      rw [← hc] at hr0 hsig
      have htk : l.take (k + 1) = l.take k ++ [c] := by rw [List.take_succ_eq_append_getElem hkl, hc]
      obtain ⟨ck, hck⟩ : ∃ x, x = c.k := ⟨_, rfl⟩
      obtain ⟨ci, hci⟩ : ∃ x, x = c.i := ⟨_, rfl⟩
      have HV0 : Hid (∀ w', Kp [] w w' → CoV w' (.agg #[.int .i64 ck, .int .i64 ci, .slice ap np cp, .slice aq nq cq]) c) := fun w' k' => ⟨ap, np, cp, aq, nq, cq, by rw [hck, hci], by have := hsig.kept k'; rw [← hci] at this ⊢; exact this⟩
      rw [← hck, ← hci] at hr0
      have hcl0 := fun j u hu => (unhide HKw).cell (hr0 j u hu) (by simp)
      have x0 : wr.cell? ⟨b', off + k * 4, none⟩ = some (.int .i64 ck) := hcl0 0 _ rfl
      have x1 : wr.cell? ⟨b', off + k * 4 + 1, none⟩ = some (.int .i64 ci) := hcl0 1 _ rfl
      have x2 : wr.cell? ⟨b', off + k * 4 + 2, none⟩ = some (.slice ap np cp) := hcl0 2 _ rfl
      have x3 : wr.cell? ⟨b', off + k * 4 + 3, none⟩ = some (.slice aq nq cq) := hcl0 3 _ rfl
      have HTK := hide htk
      have HCK := hide hck
      have Ga := heap_alloc_new wr (.cells #[.int .i64 0, .int .i64 0, .slice none 0 0, .slice none 0 0] 26)
      have HKa : Hid (Kp [] wr (wr.alloc (.cells #[.int .i64 0, .int .i64 0, .slice none 0 0, .slice none 0 0] 26))) := (Kp.refl [] wr).alloc _
      clear hc hck hci hr0 hsig htk HC hcl0
      go_wp2_with (refine wpList_store_flat rfl 26 (.tmp 12) (.tmp 18) rfl wr.heap.size 0 rfl _ _ [.int .i64 ck, .int .i64 ci, .slice ap np cp, .slice aq nq cq] Ga rfl (by simp) Tryz.cosSize (by simp [Value.oneCell']) #[.int .i64 ck, .int .i64 ci, .slice ap np cp, .slice aq nq cq] rfl ?_; intro w1 G1 K1; refine Hid.out ?_)
      obtain ⟨g12, hg12⟩ : ∃ g, g = wr.heap.size := ⟨_, rfl⟩
      have K01 : Kp [] wr w1 := (unhide HKa).then K1 (fun i hi => .inr (by simp at hi; omega))
      rw [← hg12] at G1 ⊢
      have h9r : g9 < wr.heap.size := lt_of_block (unhide HH)
      have h129 : g9 ≠ g12 := by omega
      have HH1 := hide (K01.heap (unhide HH) (by simp))
      have HKr1 : Hid (Kp [g9] w0 w1) := (unhide HKr).trans (K01.mono (by simp))
      have HKw1 := hide ((unhide HKw).trans K01)
      have HG41 := hide (K01.heap (unhide HG4r) (by simp))
      have HG51 := hide (K01.heap (unhide HG5r) (by simp))
      have e0 : w1.cell? ⟨g12, 0, none⟩ = some (.int .i64 ck) := by rw [cell_of_row w1 g12 0 _ _ _ G1]; rfl
      have e1 : w1.cell? ⟨g12, 1, none⟩ = some (.int .i64 ci) := by rw [cell_of_row w1 g12 1 _ _ _ G1]; rfl
      have e2 : w1.cell? ⟨g12, 2, none⟩ = some (.slice ap np cp) := by rw [cell_of_row w1 g12 2 _ _ _ G1]; rfl
      have e3 : w1.cell? ⟨g12, 3, none⟩ = some (.slice aq nq cq) := by rw [cell_of_row w1 g12 3 _ _ _ G1]; rfl
      have y0 : w1.cell? ⟨g4, 0, none⟩ = some (.slice al ml cl) := by rw [cell_of_row w1 g4 0 _ _ _ (unhide HG41)]; rfl
      have y1 : w1.cell? ⟨g4, 1, none⟩ = some (.slice aw mw cw) := by rw [cell_of_row w1 g4 1 _ _ _ (unhide HG41)]; rfl
      have y2 : w1.cell? ⟨g4, 2, none⟩ = some (.int .i64 q) := by rw [cell_of_row w1 g4 2 _ _ _ (unhide HG41)]; rfl
      have z0 : w1.cell? ⟨g5, 0, none⟩ = some (.int .i64 n) := by rw [cell_of_row w1 g5 0 _ _ _ (unhide HG51)]; rfl
      have z1 : w1.cell? ⟨g5, 1, none⟩ = some (.slice ar mr cr) := by rw [cell_of_row w1 g5 1 _ _ _ (unhide HG51)]; rfl
      obtain ⟨bw, hbw⟩ : ∃ b, b = decide (0 ≤ ck ∧ ck < 4) := ⟨_, rfl⟩
      have HWt := hide (ciswit_any ck bw hbw w1)
      obtain ⟨bv, hbv⟩ : ∃ b, b = verW p n r c := ⟨_, rfl⟩
      have HBV := hide hbv
      have HVf := hide (cverify_any _ p _ n r _ c bv hbv w1 ((unhide HP0).kept (unhide HKw1)) ((unhide HC0).kept (unhide HKw1)) (unhide HV0 w1 (unhide HKw1)) ((unhide HGl).kept (unhide HKw1) (by simp)))
      clear Ga HKa K1 K01 hg12 x0 x1 x2 x3 HH HKr HKw HG4r HG5r hbv
      refine hide ?_
      go_wp2_with fail
      refine (unhide HWt).mono ?_
      rintro ee w9 ⟨rfl, hw⟩
      subst w9
      clear HWt
      cases bw
      · have hno : verW p n r c = false := by
          cases hv : verW p n r c with
          | false => rfl
          | true =>
            exfalso
            have h1 := verW_lt hv
            have h2 := of_decide_eq_false hbw.symm
            have := unhide HCK
            omega
        have HR1 : Hid (cn = cntW p n r (l.take (k + 1)) ∧ w1.heap[g9]? = some (.cells (hasW p n r (l.take (k + 1))) 116 (0, 0))) := hide (by
          rw [unhide HTK, cntW_no (.inl hno), hasW_same (.inl hno)]
          exact ⟨unhide HCN, unhide HH1⟩)
        clear hbw HVf hno
        go_wp2_with fail
        go_roundw
        case rel => exact ⟨k + 1, by omega, by go_num, by rw [← (unhide HR1).1], (unhide HR1).2, unhide HKr1⟩
        case measure => simp [intOf]; omega
      · have hck4 := of_decide_eq_true hbw.symm
        obtain ⟨kn, rfl⟩ : ∃ kn : Nat, ck = kn := ⟨ck.toNat, by omega⟩
        have hkn : kn < 4 := by omega
        have hkni : (kn : Int) < 4 := by omega
        obtain ⟨bs, hbs⟩ : ∃ b, b = seenW p n r (l.take k) (kn : Nat) := ⟨_, rfl⟩
        have e9 : w1.cell? ⟨g9, kn, none⟩ = some (.bool bs) := by rw [cell_of_row w1 g9 kn _ _ _ (unhide HH1), hasW_at p n r _ kn hkn, hbs]
        have HBS := hide hbs
        clear hbw hbs
        cases bs
        · go_wp2_with fail
          refine (unhide HVf).mono ?_
          rintro ee w2 ⟨rfl, K2⟩
          have HH2 := hide (K2.heap (unhide HH1) (by simp))
          have HKr2 : Hid (Kp [g9] w0 w2) := (unhide HKr1).trans (K2.mono (by simp))
          have f0 : w2.cell? ⟨g12, 0, none⟩ = some (.int .i64 kn) := K2.cell e0 (by simp)
          clear HVf e0 e1 e2 e3 y0 y1 y2 z0 z1 e9 K2
          cases bv
          · have HR1 : Hid (cn = cntW p n r (l.take (k + 1)) ∧ w2.heap[g9]? = some (.cells (hasW p n r (l.take (k + 1))) 116 (0, 0))) := hide (by
              rw [unhide HTK, cntW_no (.inl (unhide HBV).symm), hasW_same (.inl (unhide HBV).symm)]
              exact ⟨unhide HCN, unhide HH2⟩)
            go_wp2_with fail
            go_roundw
            case rel => exact ⟨k + 1, by omega, by go_num, by rw [← (unhide HR1).1], (unhide HR1).2, unhide HKr2⟩
            case measure => simp [intOf]; omega
          · have fz : w2.frozen? ⟨g9, kn, none⟩ = false := frozen_of_row w2 g9 kn _ _ (unhide HH2)
            have e9 : w2.cell? ⟨g9, kn, none⟩ = some (.bool false) := by rw [cell_of_row w2 g9 kn _ _ _ (unhide HH2), hasW_at p n r _ kn hkn, ← unhide HBS]
            have HR1 : Hid (cn + 1 = cntW p n r (l.take (k + 1)) ∧ (w2.setCell ⟨g9, kn, none⟩ (.bool true)).heap[g9]? = some (.cells (hasW p n r (l.take (k + 1))) 116 (0, 0))) := hide (by
              rw [unhide HTK, cntW_yes (unhide HBV).symm (by rw [← unhide HCK]; exact (unhide HBS).symm), ← hasW_set (unhide HCK).symm hkn (unhide HBV).symm]
              exact ⟨by rw [unhide HCN], heap_setCell_same w2 g9 kn _ _ _ (unhide HH2)⟩)
            have HKr3 : Hid (Kp [g9] w0 (w2.setCell ⟨g9, kn, none⟩ (.bool true))) := (unhide HKr2).setCell (p := ⟨g9, kn, none⟩) (.inl (by simp)) _
            go_wp2_with fail
            go_roundw
            case rel => exact ⟨k + 1, by omega, by go_num, by rw [← (unhide HR1).1]; go_num, (unhide HR1).2, unhide HKr3⟩
            case measure => simp [intOf]; omega
        · have HR1 : Hid (cn = cntW p n r (l.take (k + 1)) ∧ w1.heap[g9]? = some (.cells (hasW p n r (l.take (k + 1))) 116 (0, 0))) := hide (by
            have hs : seenW p n r (l.take k) c.k = true := by rw [← unhide HCK]; exact (unhide HBS).symm
            rw [unhide HTK, cntW_no (.inr hs), hasW_same (.inr hs)]
            exact ⟨unhide HCN, unhide HH1⟩)
          clear HVf
          go_wp2_with fail
          go_roundw
          case rel => exact ⟨k + 1, by omega, by go_num, by rw [← (unhide HR1).1], (unhide HR1).2, unhide HKr1⟩
          case measure => simp [intOf]; omega
    · obtain rfl : k = N := by omega
      have hlt2 : ¬ (k : Int) < (k : Int) := by omega
      have hmm : Hid (m = cn) := hide (by rw [unhide HM, unhide HCN, unhide HN, List.take_length])
      clear HC
      go_wp2_with fail
      go_ret
      exact ⟨by rw [unhide hmm]; rfl, unhide HKw⟩

set_option maxRecDepth 100000 in
set_option maxHeartbeats 2000000 in
theorem ccount_any (vp : Value) (p : Po) (vc : Value) (n : Int) (r : List Int) (vl : Value) (l : List Co) (m : Nat) (hm : m = cntW p n r l) (w : World) (hP : PoV w vp p) (hC : CkV w vc n r) (hL : CoL w vl l) (hG : Gl w) :
    Calls Tryz.prog 39 #[vp, vc, vl] w fun e w' => e = .returned (.int .i64 m) ∧ Kp [] w w' := by
  have HP0 := hide hP
  have HC0 := hide hC
  have HL0 := hide hL
  obtain ⟨al, ml, cl, aw, mw, cw, lw, rfl, -, -, -⟩ := hP
  obtain ⟨ar, mr, cr, rfl, -, -⟩ := hC
  obtain ⟨ag, cg, rfl, -, -⟩ := hL
  obtain ⟨N, hN⟩ : ∃ k, k = l.length := ⟨_, rfl⟩
  rw [← hN] at HL0 ⊢
  obtain ⟨q, hq0⟩ : ∃ q, q = p.q := ⟨_, rfl⟩
  rw [← hq0] at HP0 ⊢
  obtain ⟨w0, hw0⟩ : ∃ w0, w0 = (w.alloc (.cells #[.slice al ml cl, .slice aw mw cw, .int .i64 q] 83)).alloc (.cells #[.int .i64 n, .slice ar mr cr] 33) := ⟨_, rfl⟩
  have K0 : Kp [] w w0 := by rw [hw0]; exact ((Kp.refl [] w).alloc _).alloc _
  have G3 : w0.heap[w.heap.size]? = some (.cells #[.slice al ml cl, .slice aw mw cw, .int .i64 q] 83 (0, 0)) := by rw [hw0]; exact heap_alloc2_old w _ _
  have G4 : w0.heap[w.heap.size + 1]? = some (.cells #[.int .i64 n, .slice ar mr cr] 33 (0, 0)) := by rw [hw0]; exact heap_alloc2_new w _ _
  have hl3 := load_whole (T := 83) G3 Tryz.underlying83 rfl Tryz.polSize
  have hl4 := load_whole (T := 33) G4 Tryz.underlying33 rfl Tryz.chkSize
  have HC := hide (ccounted_any _ p _ n r _ l m hm w0 ((unhide HP0).kept K0) ((unhide HC0).kept K0) ((unhide HL0).kept K0) (hG.kept K0 (by simp)))
  rw [hw0] at hl3 hl4
  have HW0 := hide hw0
  have HK0 := hide K0
  clear hm hw0 K0 G3 G4 hG hN hq0
  go_enter Tryz.func39, Tryz.ntmps39
  go_wp2_with fail
  rw [← unhide HW0]
  refine (unhide HC).mono ?_
  rintro ee w1 ⟨rfl, K1⟩
  have HK1 := hide ((unhide HK0).trans K1)
  clear HC K1 hl3 hl4
  go_wp2_with fail
  go_ret
  exact ⟨rfl, unhide HK1⟩

set_option maxRecDepth 100000 in
set_option maxHeartbeats 4000000 in
theorem cmet_any (vp : Value) (p : Po) (vc : Value) (n : Int) (r : List Int) (vl : Value) (l : List Co) (b : Bool) (hb : b = (p.rgt && decide (p.q ≤ (cntW p n r l : Nat)))) (w : World) (hP : PoV w vp p) (hC : CkV w vc n r) (hL : CoL w vl l) (hG : Gl w) :
    Calls Tryz.prog 40 #[vp, vc, vl] w fun e w' => e = .returned (.bool b) ∧ Kp [] w w' := by
  have HP0 := hide hP
  have HC0 := hide hC
  have HL0 := hide hL
  obtain ⟨al, ml, cl, aw, mw, cw, lw, rfl, -, -, -⟩ := hP
  obtain ⟨ar, mr, cr, rfl, -, -⟩ := hC
  obtain ⟨ag, cg, rfl, -, -⟩ := hL
  obtain ⟨N, hN⟩ : ∃ k, k = l.length := ⟨_, rfl⟩
  rw [← hN] at HL0 ⊢
  obtain ⟨q, hq0⟩ : ∃ q, q = p.q := ⟨_, rfl⟩
  rw [← hq0] at HP0 hb ⊢
  obtain ⟨m, hm⟩ : ∃ m, m = cntW p n r l := ⟨_, rfl⟩
  obtain ⟨bp, hbp⟩ : ∃ b, b = p.rgt := ⟨_, rfl⟩
  rw [← hm, ← hbp] at hb
  obtain ⟨g3, hg3⟩ : ∃ g, g = w.heap.size := ⟨_, rfl⟩
  obtain ⟨g4, hg4⟩ : ∃ g, g = w.heap.size + 1 := ⟨_, rfl⟩
  obtain ⟨w0, hw0⟩ : ∃ w0, w0 = (w.alloc (.cells #[.slice al ml cl, .slice aw mw cw, .int .i64 q] 83)).alloc (.cells #[.int .i64 n, .slice ar mr cr] 33) := ⟨_, rfl⟩
  have K0 : Kp [] w w0 := by rw [hw0]; exact ((Kp.refl [] w).alloc _).alloc _
  have G3 : w0.heap[g3]? = some (.cells #[.slice al ml cl, .slice aw mw cw, .int .i64 q] 83 (0, 0)) := by rw [hw0, hg3]; exact heap_alloc2_old w _ _
  have G4 : w0.heap[g4]? = some (.cells #[.int .i64 n, .slice ar mr cr] 33 (0, 0)) := by rw [hw0, hg4]; exact heap_alloc2_new w _ _
  have HD : Hid (∀ w', Kp [] w0.drew w' → Kp [] w w') := fun w' k' => K0.trans ((kp_drew w0).trans k')
  have HT3 : Hid (∀ w', Kp [] w0.drew w' → w'.heap[g3]? = some (.cells #[.slice al ml cl, .slice aw mw cw, .int .i64 q] 83 (0, 0))) := fun w' k' => ((kp_drew w0).trans k').heap G3 (by simp)
  have HT4 : Hid (∀ w', Kp [] w0.drew w' → w'.heap[g4]? = some (.cells #[.int .i64 n, .slice ar mr cr] 33 (0, 0))) := fun w' k' => ((kp_drew w0).trans k').heap G4 (by simp)
  have HPO : Hid (∀ w', Kp [] w0.drew w' → PoV w' (.agg #[.slice al ml cl, .slice aw mw cw, .int .i64 q]) p) := fun w' k' => (unhide HP0).kept (unhide HD w' k')
  have HCK : Hid (∀ w', Kp [] w0.drew w' → CkV w' (.agg #[.int .i64 n, .slice ar mr cr]) n r) := fun w' k' => (unhide HC0).kept (unhide HD w' k')
  have HCL : Hid (∀ w', Kp [] w0.drew w' → CoL w' (.slice ag N cg) l) := fun w' k' => (unhide HL0).kept (unhide HD w' k')
  have HGW : Hid (∀ w', Kp [] w0.drew w' → Gl w') := fun w' k' => hG.kept (unhide HD w' k') (by simp)
  have HBP := hide hbp
  have HM := hide hm
  have HW0 := hide hw0
  have H3 := hide hg3
  have H4 := hide hg4
  have HB := hide hb
  clear hbp hm hw0 hg3 hg4 hb hG K0 G3 G4 hN hq0 HP0 HC0 HL0
  cases bp
  · have HE : Hid (b = false) := hide (by rw [unhide HB]; rfl)
    go_enter Tryz.func40, Tryz.ntmps40
    go_wp2_with fail
    rw [← unhide HW0, ← unhide H4, ← unhide H3]
    refine region_grow Tryz.mixed [Is (.agg #[.slice al ml cl, .slice aw mw cw, .int .i64 q]), Is (.bool false), Is (.bool false), Is (undef), Is (undef), Is (undef), Is (undef), Is (undef), Is (undef), Is (undef), Is (.bool false), Is (.bool false)] [[(3, none)], [(7, some 0)], [(8, some 1)], [(3, none), (9, some 2)], [(4, none), (9, some 2)], [(2, none), (9, some 2)], [(10, some 3), (11, some 4), (12, some 5), (9, some 2)], [(3, none), (9, some 2)], [(14, some 7), (9, some 2)], [(13, some 6), (15, some 8), (9, some 2)], [(9, some 2), (16, some 9)], [(17, some 10)]] (by kernel_rfl) ?_ ?_ ?_
    · simp only [List.mem_cons, List.not_mem_nil, or_false]
      intro R hR
      rcases hR with rfl | rfl | rfl | rfl | rfl | rfl | rfl | rfl | rfl | rfl | rfl | rfl <;> first | exact stable_is _
    · refine steps_cons (fun a w hk hn => ?_) ?_
      · have h3 : a.eval (.tmp 3) = .pointer (some ⟨g3, 0, none⟩) := hn.1
        clear hn
        refine wants_plain rfl ?_
        exact grown_loadf 83 (.tmp 3) rfl g3 0 h3 _ _ _ _ (unhide HT3 w hk) [.slice al ml cl, .slice aw mw cw, .int .i64 q] (flat_in rfl) Tryz.underlying83 rfl Tryz.polSize rfl
      refine steps_cons (fun a w hk hn => ?_) ?_
      · have h7 : a.eval (.tmp 7) = .agg #[.slice al ml cl, .slice aw mw cw, .int .i64 q] := hn.1
        clear hn
        refine wants_plain rfl ?_
        refine grown_call (f := 58) rfl Tryz.func58 (by kernel_rfl) (by kernel_rfl) ?_
        simp only [List.map_toArray, List.map_cons, List.map_nil, h7]
        refine (cright_any _ p false (unhide HBP) w (unhide HPO w hk)).mono ?_
        rintro e w' ⟨rfl, K⟩
        exact ⟨_, rfl, K, rfl⟩
      refine steps_cons (fun a w hk hn => ?_) ?_
      · have h8 : a.eval (.tmp 8) = .bool false := hn.1
        clear hn
        refine wants_plain rfl ?_
        exact grown_move (.tmp 8) rfl h8
      refine steps_cons (fun a w hk hn => ?_) ?_
      · have h3 : a.eval (.tmp 3) = .pointer (some ⟨g3, 0, none⟩) := hn.1
        have h9 : a.eval (.tmp 9) = .bool false := hn.2.1
        clear hn
        exact wants_not (d := 9) rfl rfl h9 rfl
      refine steps_cons (fun a w hk hn => ?_) ?_
      · have h4 : a.eval (.tmp 4) = .pointer (some ⟨g4, 0, none⟩) := hn.1
        have h9 : a.eval (.tmp 9) = .bool false := hn.2.1
        clear hn
        exact wants_not (d := 9) rfl rfl h9 rfl
      refine steps_cons (fun a w hk hn => ?_) ?_
      · have h2 : a.eval (.tmp 2) = .slice ag N cg := hn.1
        have h9 : a.eval (.tmp 9) = .bool false := hn.2.1
        clear hn
        exact wants_not (d := 9) rfl rfl h9 rfl
      refine steps_cons (fun a w hk hn => ?_) ?_
      · have h10 : a.eval (.tmp 10) = undef := hn.1
        have h11 : a.eval (.tmp 11) = undef := hn.2.1
        have h12 : a.eval (.tmp 12) = undef := hn.2.2.1
        have h9 : a.eval (.tmp 9) = .bool false := hn.2.2.2.1
        clear hn
        exact wants_not (d := 9) rfl rfl h9 rfl
      refine steps_cons (fun a w hk hn => ?_) ?_
      · have h3 : a.eval (.tmp 3) = .pointer (some ⟨g3, 0, none⟩) := hn.1
        have h9 : a.eval (.tmp 9) = .bool false := hn.2.1
        clear hn
        exact wants_not (d := 9) rfl rfl h9 rfl
      refine steps_cons (fun a w hk hn => ?_) ?_
      · have h14 : a.eval (.tmp 14) = undef := hn.1
        have h9 : a.eval (.tmp 9) = .bool false := hn.2.1
        clear hn
        exact wants_not (d := 9) rfl rfl h9 rfl
      refine steps_cons (fun a w hk hn => ?_) ?_
      · have h13 : a.eval (.tmp 13) = undef := hn.1
        have h15 : a.eval (.tmp 15) = undef := hn.2.1
        have h9 : a.eval (.tmp 9) = .bool false := hn.2.2.1
        clear hn
        exact wants_not (d := 9) rfl rfl h9 rfl
      refine steps_cons (fun a w hk hn => ?_) ?_
      · have h9 : a.eval (.tmp 9) = .bool false := hn.1
        have h16 : a.eval (.tmp 16) = undef := hn.2.1
        clear hn
        refine wants_plain rfl ?_
        exact grown_pick _ _ _ false rfl h9 rfl
      refine steps_cons (fun a w hk hn => ?_) ?_
      · have h17 : a.eval (.tmp 17) = .bool false := hn.1
        clear hn
        refine wants_plain rfl ?_
        exact grown_assign (.tmp 17) rfl h17
      exact trivial
    intro W1 hkW1
    rintro _ rfl
    rintro _ rfl
    rintro _ rfl
    rintro _ rfl
    rintro _ rfl
    rintro _ rfl
    rintro _ rfl
    rintro _ rfl
    rintro _ rfl
    rintro _ rfl
    rintro _ rfl
    rintro _ rfl
    refine fin_nil ?_
    simp only [Act.put, List.set_cons_zero, List.set_cons_succ, List.setIfInBounds_toArray]
    go_wp2_with fail
    go_ret
    exact ⟨by rw [unhide HE]; rfl, unhide HD W1 hkW1⟩
  · by_cases hge : q ≤ (m : Int)
    · have HE : Hid (b = true) := hide (by rw [unhide HB]; simp [hge])
      go_enter Tryz.func40, Tryz.ntmps40
      go_wp2_with fail
      rw [← unhide HW0, ← unhide H4, ← unhide H3]
      refine region_grow Tryz.mixed [Is (.agg #[.slice al ml cl, .slice aw mw cw, .int .i64 q]), Is (.bool true), Is (.bool true), Is (.agg #[.slice al ml cl, .slice aw mw cw, .int .i64 q]), Is (.agg #[.int .i64 n, .slice ar mr cr]), Is (.slice ag N cg), Is (.int .i64 m), Is (.pointer (some ⟨g3, 2, none⟩)), Is (.int .i64 q), Is (.bool true), Is (.bool true), Is (.bool true)] [[(3, none)], [(7, some 0)], [(8, some 1)], [(3, none), (9, some 2)], [(4, none), (9, some 2)], [(2, none), (9, some 2)], [(10, some 3), (11, some 4), (12, some 5), (9, some 2)], [(3, none), (9, some 2)], [(14, some 7), (9, some 2)], [(13, some 6), (15, some 8), (9, some 2)], [(9, some 2), (16, some 9)], [(17, some 10)]] (by kernel_rfl) ?_ ?_ ?_
      · simp only [List.mem_cons, List.not_mem_nil, or_false]
        intro R hR
        rcases hR with rfl | rfl | rfl | rfl | rfl | rfl | rfl | rfl | rfl | rfl | rfl | rfl <;> first | exact stable_is _
      · refine steps_cons (fun a w hk hn => ?_) ?_
        · have h3 : a.eval (.tmp 3) = .pointer (some ⟨g3, 0, none⟩) := hn.1
          clear hn
          refine wants_plain rfl ?_
          exact grown_loadf 83 (.tmp 3) rfl g3 0 h3 _ _ _ _ (unhide HT3 w hk) [.slice al ml cl, .slice aw mw cw, .int .i64 q] (flat_in rfl) Tryz.underlying83 rfl Tryz.polSize rfl
        refine steps_cons (fun a w hk hn => ?_) ?_
        · have h7 : a.eval (.tmp 7) = .agg #[.slice al ml cl, .slice aw mw cw, .int .i64 q] := hn.1
          clear hn
          refine wants_plain rfl ?_
          refine grown_call (f := 58) rfl Tryz.func58 (by kernel_rfl) (by kernel_rfl) ?_
          simp only [List.map_toArray, List.map_cons, List.map_nil, h7]
          refine (cright_any _ p true (unhide HBP) w (unhide HPO w hk)).mono ?_
          rintro e w' ⟨rfl, K⟩
          exact ⟨_, rfl, K, rfl⟩
        refine steps_cons (fun a w hk hn => ?_) ?_
        · have h8 : a.eval (.tmp 8) = .bool true := hn.1
          clear hn
          refine wants_plain rfl ?_
          exact grown_move (.tmp 8) rfl h8
        refine steps_cons (fun a w hk hn => ?_) ?_
        · have h3 : a.eval (.tmp 3) = .pointer (some ⟨g3, 0, none⟩) := hn.1
          have h9 : a.eval (.tmp 9) = .bool true := hn.2.1
          clear hn
          refine wants_guard (d := 9) rfl rfl h9 ?_
          exact grown_loadf 83 (.tmp 3) rfl g3 0 h3 _ _ _ _ (unhide HT3 w hk) [.slice al ml cl, .slice aw mw cw, .int .i64 q] (flat_in rfl) Tryz.underlying83 rfl Tryz.polSize rfl
        refine steps_cons (fun a w hk hn => ?_) ?_
        · have h4 : a.eval (.tmp 4) = .pointer (some ⟨g4, 0, none⟩) := hn.1
          have h9 : a.eval (.tmp 9) = .bool true := hn.2.1
          clear hn
          refine wants_guard (d := 9) rfl rfl h9 ?_
          exact grown_loadf 33 (.tmp 4) rfl g4 0 h4 _ _ _ _ (unhide HT4 w hk) [.int .i64 n, .slice ar mr cr] (flat_in rfl) Tryz.underlying33 rfl Tryz.chkSize rfl
        refine steps_cons (fun a w hk hn => ?_) ?_
        · have h2 : a.eval (.tmp 2) = .slice ag N cg := hn.1
          have h9 : a.eval (.tmp 9) = .bool true := hn.2.1
          clear hn
          refine wants_guard (d := 9) rfl rfl h9 ?_
          exact grown_move (.tmp 2) rfl h2
        refine steps_cons (fun a w hk hn => ?_) ?_
        · have h10 : a.eval (.tmp 10) = .agg #[.slice al ml cl, .slice aw mw cw, .int .i64 q] := hn.1
          have h11 : a.eval (.tmp 11) = .agg #[.int .i64 n, .slice ar mr cr] := hn.2.1
          have h12 : a.eval (.tmp 12) = .slice ag N cg := hn.2.2.1
          have h9 : a.eval (.tmp 9) = .bool true := hn.2.2.2.1
          clear hn
          refine wants_guard (d := 9) rfl rfl h9 ?_
          refine grown_call (f := 39) rfl Tryz.func39 (by kernel_rfl) (by kernel_rfl) ?_
          simp only [List.map_toArray, List.map_cons, List.map_nil, h10, h11, h12]
          refine (ccount_any _ p _ n r _ l m (unhide HM) w (unhide HPO w hk) (unhide HCK w hk) (unhide HCL w hk) (unhide HGW w hk)).mono ?_
          rintro e w' ⟨rfl, K⟩
          exact ⟨_, rfl, K, rfl⟩
        refine steps_cons (fun a w hk hn => ?_) ?_
        · have h3 : a.eval (.tmp 3) = .pointer (some ⟨g3, 0, none⟩) := hn.1
          have h9 : a.eval (.tmp 9) = .bool true := hn.2.1
          clear hn
          refine wants_guard (d := 9) rfl rfl h9 ?_
          refine grown_run (v := .pointer (some ⟨g3, 2, none⟩)) ?_ (Kp.refl _ _) rfl
          obtain ⟨ρ, hρ, hc, hf, hg⟩ := eval_is a
          rw [hρ] at h3 ⊢
          simp [go_sem, h3]
        refine steps_cons (fun a w hk hn => ?_) ?_
        · have h14 : a.eval (.tmp 14) = .pointer (some ⟨g3, 2, none⟩) := hn.1
          have h9 : a.eval (.tmp 9) = .bool true := hn.2.1
          clear hn
          refine wants_guard (d := 9) rfl rfl h9 ?_
          refine grown_run (v := .int .i64 q) ?_ (Kp.refl _ _) rfl
          have hcell : w.cell? ⟨g3, 2, none⟩ = some (.int .i64 q) := by rw [cell_of_row w g3 2 _ _ _ (unhide HT3 w hk)]; rfl
          obtain ⟨ρ, hρ, hc, hf, hg⟩ := eval_is a
          rw [hρ] at h14 ⊢
          simp [go_sem, h14, hcell]
        refine steps_cons (fun a w hk hn => ?_) ?_
        · have h13 : a.eval (.tmp 13) = .int .i64 m := hn.1
          have h15 : a.eval (.tmp 15) = .int .i64 q := hn.2.1
          have h9 : a.eval (.tmp 9) = .bool true := hn.2.2.1
          clear hn
          refine wants_guard (d := 9) rfl rfl h9 ?_
          refine grown_run (v := .bool true) ?_ (Kp.refl _ _) rfl
          obtain ⟨ρ, hρ, hc, hf, hg⟩ := eval_is a
          rw [hρ] at h13 h15 ⊢
          simp [go_sem, h13, h15, hge]
        refine steps_cons (fun a w hk hn => ?_) ?_
        · have h9 : a.eval (.tmp 9) = .bool true := hn.1
          have h16 : a.eval (.tmp 16) = .bool true := hn.2.1
          clear hn
          refine wants_plain rfl ?_
          exact grown_pick _ _ _ true rfl h9 h16
        refine steps_cons (fun a w hk hn => ?_) ?_
        · have h17 : a.eval (.tmp 17) = .bool true := hn.1
          clear hn
          refine wants_plain rfl ?_
          exact grown_assign (.tmp 17) rfl h17
        exact trivial
      intro W1 hkW1
      rintro _ rfl
      rintro _ rfl
      rintro _ rfl
      rintro _ rfl
      rintro _ rfl
      rintro _ rfl
      rintro _ rfl
      rintro _ rfl
      rintro _ rfl
      rintro _ rfl
      rintro _ rfl
      rintro _ rfl
      refine fin_nil ?_
      simp only [Act.put, List.set_cons_zero, List.set_cons_succ, List.setIfInBounds_toArray]
      go_wp2_with fail
      go_ret
      exact ⟨by rw [unhide HE]; rfl, unhide HD W1 hkW1⟩
    · have HE : Hid (b = false) := hide (by rw [unhide HB]; simp [hge])
      replace hge : (m : Int) < q := by omega
      go_enter Tryz.func40, Tryz.ntmps40
      go_wp2_with fail
      rw [← unhide HW0, ← unhide H4, ← unhide H3]
      refine region_grow Tryz.mixed [Is (.agg #[.slice al ml cl, .slice aw mw cw, .int .i64 q]), Is (.bool true), Is (.bool true), Is (.agg #[.slice al ml cl, .slice aw mw cw, .int .i64 q]), Is (.agg #[.int .i64 n, .slice ar mr cr]), Is (.slice ag N cg), Is (.int .i64 m), Is (.pointer (some ⟨g3, 2, none⟩)), Is (.int .i64 q), Is (.bool false), Is (.bool false), Is (.bool false)] [[(3, none)], [(7, some 0)], [(8, some 1)], [(3, none), (9, some 2)], [(4, none), (9, some 2)], [(2, none), (9, some 2)], [(10, some 3), (11, some 4), (12, some 5), (9, some 2)], [(3, none), (9, some 2)], [(14, some 7), (9, some 2)], [(13, some 6), (15, some 8), (9, some 2)], [(9, some 2), (16, some 9)], [(17, some 10)]] (by kernel_rfl) ?_ ?_ ?_
      · simp only [List.mem_cons, List.not_mem_nil, or_false]
        intro R hR
        rcases hR with rfl | rfl | rfl | rfl | rfl | rfl | rfl | rfl | rfl | rfl | rfl | rfl <;> first | exact stable_is _
      · refine steps_cons (fun a w hk hn => ?_) ?_
        · have h3 : a.eval (.tmp 3) = .pointer (some ⟨g3, 0, none⟩) := hn.1
          clear hn
          refine wants_plain rfl ?_
          exact grown_loadf 83 (.tmp 3) rfl g3 0 h3 _ _ _ _ (unhide HT3 w hk) [.slice al ml cl, .slice aw mw cw, .int .i64 q] (flat_in rfl) Tryz.underlying83 rfl Tryz.polSize rfl
        refine steps_cons (fun a w hk hn => ?_) ?_
        · have h7 : a.eval (.tmp 7) = .agg #[.slice al ml cl, .slice aw mw cw, .int .i64 q] := hn.1
          clear hn
          refine wants_plain rfl ?_
          refine grown_call (f := 58) rfl Tryz.func58 (by kernel_rfl) (by kernel_rfl) ?_
          simp only [List.map_toArray, List.map_cons, List.map_nil, h7]
          refine (cright_any _ p true (unhide HBP) w (unhide HPO w hk)).mono ?_
          rintro e w' ⟨rfl, K⟩
          exact ⟨_, rfl, K, rfl⟩
        refine steps_cons (fun a w hk hn => ?_) ?_
        · have h8 : a.eval (.tmp 8) = .bool true := hn.1
          clear hn
          refine wants_plain rfl ?_
          exact grown_move (.tmp 8) rfl h8
        refine steps_cons (fun a w hk hn => ?_) ?_
        · have h3 : a.eval (.tmp 3) = .pointer (some ⟨g3, 0, none⟩) := hn.1
          have h9 : a.eval (.tmp 9) = .bool true := hn.2.1
          clear hn
          refine wants_guard (d := 9) rfl rfl h9 ?_
          exact grown_loadf 83 (.tmp 3) rfl g3 0 h3 _ _ _ _ (unhide HT3 w hk) [.slice al ml cl, .slice aw mw cw, .int .i64 q] (flat_in rfl) Tryz.underlying83 rfl Tryz.polSize rfl
        refine steps_cons (fun a w hk hn => ?_) ?_
        · have h4 : a.eval (.tmp 4) = .pointer (some ⟨g4, 0, none⟩) := hn.1
          have h9 : a.eval (.tmp 9) = .bool true := hn.2.1
          clear hn
          refine wants_guard (d := 9) rfl rfl h9 ?_
          exact grown_loadf 33 (.tmp 4) rfl g4 0 h4 _ _ _ _ (unhide HT4 w hk) [.int .i64 n, .slice ar mr cr] (flat_in rfl) Tryz.underlying33 rfl Tryz.chkSize rfl
        refine steps_cons (fun a w hk hn => ?_) ?_
        · have h2 : a.eval (.tmp 2) = .slice ag N cg := hn.1
          have h9 : a.eval (.tmp 9) = .bool true := hn.2.1
          clear hn
          refine wants_guard (d := 9) rfl rfl h9 ?_
          exact grown_move (.tmp 2) rfl h2
        refine steps_cons (fun a w hk hn => ?_) ?_
        · have h10 : a.eval (.tmp 10) = .agg #[.slice al ml cl, .slice aw mw cw, .int .i64 q] := hn.1
          have h11 : a.eval (.tmp 11) = .agg #[.int .i64 n, .slice ar mr cr] := hn.2.1
          have h12 : a.eval (.tmp 12) = .slice ag N cg := hn.2.2.1
          have h9 : a.eval (.tmp 9) = .bool true := hn.2.2.2.1
          clear hn
          refine wants_guard (d := 9) rfl rfl h9 ?_
          refine grown_call (f := 39) rfl Tryz.func39 (by kernel_rfl) (by kernel_rfl) ?_
          simp only [List.map_toArray, List.map_cons, List.map_nil, h10, h11, h12]
          refine (ccount_any _ p _ n r _ l m (unhide HM) w (unhide HPO w hk) (unhide HCK w hk) (unhide HCL w hk) (unhide HGW w hk)).mono ?_
          rintro e w' ⟨rfl, K⟩
          exact ⟨_, rfl, K, rfl⟩
        refine steps_cons (fun a w hk hn => ?_) ?_
        · have h3 : a.eval (.tmp 3) = .pointer (some ⟨g3, 0, none⟩) := hn.1
          have h9 : a.eval (.tmp 9) = .bool true := hn.2.1
          clear hn
          refine wants_guard (d := 9) rfl rfl h9 ?_
          refine grown_run (v := .pointer (some ⟨g3, 2, none⟩)) ?_ (Kp.refl _ _) rfl
          obtain ⟨ρ, hρ, hc, hf, hg⟩ := eval_is a
          rw [hρ] at h3 ⊢
          simp [go_sem, h3]
        refine steps_cons (fun a w hk hn => ?_) ?_
        · have h14 : a.eval (.tmp 14) = .pointer (some ⟨g3, 2, none⟩) := hn.1
          have h9 : a.eval (.tmp 9) = .bool true := hn.2.1
          clear hn
          refine wants_guard (d := 9) rfl rfl h9 ?_
          refine grown_run (v := .int .i64 q) ?_ (Kp.refl _ _) rfl
          have hcell : w.cell? ⟨g3, 2, none⟩ = some (.int .i64 q) := by rw [cell_of_row w g3 2 _ _ _ (unhide HT3 w hk)]; rfl
          obtain ⟨ρ, hρ, hc, hf, hg⟩ := eval_is a
          rw [hρ] at h14 ⊢
          simp [go_sem, h14, hcell]
        refine steps_cons (fun a w hk hn => ?_) ?_
        · have h13 : a.eval (.tmp 13) = .int .i64 m := hn.1
          have h15 : a.eval (.tmp 15) = .int .i64 q := hn.2.1
          have h9 : a.eval (.tmp 9) = .bool true := hn.2.2.1
          clear hn
          refine wants_guard (d := 9) rfl rfl h9 ?_
          refine grown_run (v := .bool false) ?_ (Kp.refl _ _) rfl
          obtain ⟨ρ, hρ, hc, hf, hg⟩ := eval_is a
          rw [hρ] at h13 h15 ⊢
          simp [go_sem, h13, h15, hge]
        refine steps_cons (fun a w hk hn => ?_) ?_
        · have h9 : a.eval (.tmp 9) = .bool true := hn.1
          have h16 : a.eval (.tmp 16) = .bool false := hn.2.1
          clear hn
          refine wants_plain rfl ?_
          exact grown_pick _ _ _ true rfl h9 h16
        refine steps_cons (fun a w hk hn => ?_) ?_
        · have h17 : a.eval (.tmp 17) = .bool false := hn.1
          clear hn
          refine wants_plain rfl ?_
          exact grown_assign (.tmp 17) rfl h17
        exact trivial
      intro W1 hkW1
      rintro _ rfl
      rintro _ rfl
      rintro _ rfl
      rintro _ rfl
      rintro _ rfl
      rintro _ rfl
      rintro _ rfl
      rintro _ rfl
      rintro _ rfl
      rintro _ rfl
      rintro _ rfl
      rintro _ rfl
      refine fin_nil ?_
      simp only [Act.put, List.set_cons_zero, List.set_cons_succ, List.setIfInBounds_toArray]
      go_wp2_with fail
      go_ret
      exact ⟨by rw [unhide HE]; rfl, unhide HD W1 hkW1⟩
end Go.Proofs.YtdjofooggofpkaaGreatDoor
