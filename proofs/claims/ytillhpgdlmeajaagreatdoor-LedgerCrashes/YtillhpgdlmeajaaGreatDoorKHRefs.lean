/-
  The contract of the reference's block: one block of 64 bytes.
-/
import Derived.Test.YtillhpgdlmeajaaGreatDoorKHMixs
import Derived.Test.YtillhpgdlmeajaaGreatDoorKHSums
import Derived.Deep.RegionHeld3
import Derived.Test.YtillhpgdlmeajaaGreatDoorKHTags
import Derived.Test.YtillhpgdlmeajaaGreatDoorKOSmalls
namespace Go.Proofs.YtillhpgdlmeajaaGreatDoor
open Go.RowKit

theorem ad_comm (x y : Int) : ad x y = ad y x := by unfold ad; rw [Int.add_comm]
theorem next_ref (x0 x1 x2 x3 : Int) : (x3 + bits .xor .u32 (bits .xor .u32 (rot x2 7) (rot x2 18)) (x2 / 8) + x1 + bits .xor .u32 (bits .xor .u32 (rot x0 17) (rot x0 19)) (x0 / 1024)) % 4294967296 = ad (ad (ad (sS1 x0) x1) (sS0 x2)) x3 := by
  rw [ad4]
  show (x3 + sS0 x2 + x1 + sS1 x0) % 4294967296 = _
  congr 1
  omega
theorem blk_ref (h bs : List Int) : List.zipWith ad h (rds (sch bs 64) h 64) = blk h bs := by
  unfold blk
  rw [List.zipWith_comm]
  congr 1
  funext x y
  exact ad_comm y x

theorem rnd_raw (a b c d e f g h k w : Int) : rnd [a, b, c, d, e, f, g, h] k w = [((h + bits .xor .u32 (bits .xor .u32 (rot e 6) (rot e 11)) (rot e 25) + bits .xor .u32 (bits .and .u32 e f) (bits .and .u32 (bits .xor .u32 IntKind.u32.max e) g) + k + w) % 4294967296 + (bits .xor .u32 (bits .xor .u32 (rot a 2) (rot a 13)) (rot a 22) + bits .xor .u32 (bits .xor .u32 (bits .and .u32 a b) (bits .and .u32 a c)) (bits .and .u32 b c)) % 4294967296) % 4294967296, a, b, c, (d + (h + bits .xor .u32 (bits .xor .u32 (rot e 6) (rot e 11)) (rot e 25) + bits .xor .u32 (bits .and .u32 e f) (bits .and .u32 (bits .xor .u32 IntKind.u32.max e) g) + k + w) % 4294967296) % 4294967296, e, f, g] := by
  rw [rnd_eq]
  simp only [bS0, bS1, chs, maj]
theorem rnd_raw2 (a b c d e f g h k w : Int) : rnd [a, b, c, d, e, f, g, h] k w = [(h + bits .xor .u32 (bits .xor .u32 (rot e 6) (rot e 11)) (rot e 25) + bits .xor .u32 (bits .and .u32 e f) (bits .and .u32 (bits .xor .u32 IntKind.u32.max e) g) + k + w + (bits .xor .u32 (bits .xor .u32 (rot a 2) (rot a 13)) (rot a 22) + bits .xor .u32 (bits .xor .u32 (bits .and .u32 a b) (bits .and .u32 a c)) (bits .and .u32 b c))) % 4294967296, a, b, c, (d + (h + bits .xor .u32 (bits .xor .u32 (rot e 6) (rot e 11)) (rot e 25) + bits .xor .u32 (bits .and .u32 e f) (bits .and .u32 (bits .xor .u32 IntKind.u32.max e) g) + k + w)) % 4294967296, e, f, g] := by
  rw [rnd_raw]
  simp only [List.cons.injEq, and_true, true_and]
  constructor <;> omega
set_option maxRecDepth 100000 in
set_option maxHeartbeats 2000000 in
theorem block_any (h0 : List Int) (bk : Nat) (vb : Value) (bs : List Int) (w : World) (hh : h0.length = 8) (hk0 : Ar w bk 163 consts) (hS : Sl w vb bs) (hl : bs.length = 64) (hB : Bs bs) :
    Calls Tryz.prog 112 #[ag h0, .pointer (some ⟨bk, 0, none⟩), vb] w fun e w' => e = .returned (ag (blk h0 bs)) ∧ Kp [] w w' := by
  obtain ⟨i0, hi0, hz0⟩ := Tryz.zero64
  obtain ⟨i8, hi8, hz8⟩ := Tryz.zero8
  obtain ⟨ab, cb, rfl, h1, h2, h4⟩ := hS.at hl (by omega)
  have h1i : (64 : Int) ≤ (cb : Int) := by omega
  have H4 := hide h4
  have hab : ab.block < w.heap.size := by have := World.block_lt_of_cell? _ _ (h4 0 (by omega)); rwa [add_block] at this
  have hbk := hk0.lt
  have HK0 := hide hk0
  clear h4 hS hk0
  go_enter Tryz.func112, Tryz.ntmps112
  go_wp2_with (first
    | (refine wpList_box_ar (w := w) rfl 162 (.tmp 0) rfl _ rfl ?_; intro wa Aa Ka za)
    | (refine wpList_alloc_ar (w := wa) rfl 162 rfl i8 _ hi8 hz8 ?_; intro wb Ab Kb zb)
    | (refine wpList_alloc_ar (w := wb) rfl 163 rfl i0 _ hi0 hz0 ?_; intro w1 A1 K1 z1))
  obtain ⟨b1, hb1⟩ : ∃ b, b = w.heap.size := ⟨_, rfl⟩
  obtain ⟨b2, hb2⟩ : ∃ b, b = b1 + 1 := ⟨_, rfl⟩
  obtain ⟨b3, hb3⟩ : ∃ b, b = b2 + 1 := ⟨_, rfl⟩
  rw [← hb1] at Aa
  rw [za, ← hb1, ← hb2] at Ab
  rw [zb, za, ← hb1, show b1 + 1 + 1 = b3 by omega] at A1
  have K2 := (Ka.trans Kb).trans K1
  have AH := (Aa.kept Kb (by simp)).kept K1 (by simp)
  have AR := Ab.kept K1 (by simp)
  have hbw : w.heap.size ≤ b1 := by omega
  have hb12 : b2 = b1 + 1 := hb2
  have hb13 : b3 = b1 + 2 := by omega
  simp only [← hb1, ← hb2, ← hb3]
  have HC : Hid (∀ j, j < 64 → w1.cell? (ab.add j) = some (.int .u8 (bs.getD j 0))) := fun j hj => K2.cell (unhide H4 j hj) (by simp)
  have HKK := hide ((unhide HK0).kept K2 (by simp))
  have hAH := hide AH
  have hAR := hide AR
  have hA1 := hide A1
  have hK2 := hide K2
  have HB12 := hide hb12
  have HB13 := hide hb13
  have hsz1 : w1.heap.size = b1 + 3 := by omega
  have HSZ := hide hsz1
  clear H4 hb1 hb2 hb3 Ka Kb K1 Aa Ab za zb z1 A1 AH AR K2 hb12 hb13 hsz1
  go_loopw [8] (fun i wr => ∃ k : Nat, k ≤ 16 ∧ i = .int .i64 k ∧ Kp [b3] w1 wr ∧ Ar wr b3 163 (sch bs k ++ List.replicate (64 - k) 0)) (fun i _ => 16 - (intOf i).toNat)
  case atStart => exact ⟨0, by omega, rfl, Kp.refl _ _, unhide hA1⟩
  case round =>
    obtain ⟨k, hk, rfl, Kr, Ak⟩ := hrel
    by_cases hlt : k < 16
    · have hlt2 : (k : Int) < 16 := by omega
      have hck : ∀ j, j < 64 → wr.cell? (ab.add j) = some (.int .u8 (bs.getD j 0)) := fun j hj => Kr.cell (unhide HC j hj) (by have := unhide HB13; rw [add_block]; simp; omega)
      obtain ⟨x0, hx0⟩ : ∃ x, x = bs.getD (4 * k) 0 := ⟨_, rfl⟩
      obtain ⟨x1, hx1⟩ : ∃ x, x = bs.getD (4 * k + 1) 0 := ⟨_, rfl⟩
      obtain ⟨x2, hx2⟩ : ∃ x, x = bs.getD (4 * k + 2) 0 := ⟨_, rfl⟩
      obtain ⟨x3, hx3⟩ : ∃ x, x = bs.getD (4 * k + 3) 0 := ⟨_, rfl⟩
      have hc0 := hck (4 * k) (by omega)
      have hc1 := hck (4 * k + 1) (by omega)
      have hc2 := hck (4 * k + 2) (by omega)
      have hc3 := hck (4 * k + 3) (by omega)
      rw [← hx0] at hc0
      rw [Addr.add_succ', ← hx1] at hc1
      rw [Addr.add_succ', ← hx2] at hc2
      rw [Addr.add_succ', ← hx3] at hc3
      have d0 := hB.at (4 * k)
      have d1 := hB.at (4 * k + 1)
      have d2 := hB.at (4 * k + 2)
      have d3 := hB.at (4 * k + 3)
      rw [← hx0] at d0
      rw [← hx1] at d1
      rw [← hx2] at d2
      rw [← hx3] at d3
      have hsch : sch bs (k + 1) = sch bs k ++ [wd x0 x1 x2 x3] := by simp only [sch, if_pos hlt, wordAt, hx0, hx1, hx2, hx3]
      have hset := sch_set bs k (by omega) _ hsch
      obtain ⟨ys, hys⟩ : ∃ ys, ys = sch bs k ++ List.replicate (64 - k) 0 := ⟨_, rfl⟩
      rw [← hys] at Ak hset
      have hyl : ys.length = 64 := by rw [hys]; simp [sch_len]; omega
      have hck' := Ak.cell k (by omega)
      have hfk := Ak.frozen k
      have HA := hide Ak
      have HS := hide hset
      have hkr := hide Kr
      obtain ⟨old, hold⟩ : ∃ old, old = ys.getD k 0 := ⟨_, rfl⟩
      rw [← hold] at hck'
      clear hck hx0 hx1 hx2 hx3 hsch hset hys Ak Kr hold
      go_wp2_with fail
      refine region_tail 35 Tryz.mixed (by kernel_rfl) ?_
      simp only [List.take_succ_cons, List.take_zero, List.drop_succ_cons, List.drop_zero]
      repeat (first | go_big_quiet_skip | (go_big_quiet_want; go_big_quiet_op; go_big_quiet_on))
      refine wpQuiet_nil ?_
      go_wp2_with fail
      go_roundw
      case rel =>
        refine ⟨k + 1, by omega, by go_num, ((unhide hkr).setCell (p := ⟨b3, k, none⟩) (.inl (by simp)) _).drew, ?_⟩
        rw [← unhide HS]
        exact (unhide HA).set k _
      case measure => simp [intOf]; omega
    · obtain rfl : k = 16 := by omega
      obtain ⟨w2, hw2⟩ : ∃ w2, w2 = wr := ⟨_, rfl⟩
      subst hw2
      have HK := hide Kr
      have hAk := hide Ak
      clear Kr Ak
      go_wp2_with fail
      go_loopw [9] (fun i wr => ∃ k : Nat, 16 ≤ k ∧ k ≤ 64 ∧ i = .int .i64 k ∧ Kp [b3] w1 wr ∧ Ar wr b3 163 (sch bs k ++ List.replicate (64 - k) 0)) (fun i _ => 64 - (intOf i).toNat)
      case atStart => exact ⟨16, by omega, by omega, rfl, unhide HK, unhide hAk⟩
      case round =>
        obtain ⟨k, hk1, hk, rfl, Kr, Ar1⟩ := hrel
        clear hAk HK
        by_cases hlt : k < 64
        · have hlt2 : (k : Int) < 64 := by omega
          have hk2 : (16 : Int) ≤ (k : Int) := by omega
          have hnl : ¬ k < 16 := by omega
          obtain ⟨ys, hys⟩ : ∃ ys, ys = sch bs k ++ List.replicate (64 - k) 0 := ⟨_, rfl⟩
          have hgd : ∀ j, j < k → ys.getD j 0 = (sch bs k).getD j 0 := fun j hj => by
            rw [hys, List.getD_eq_getElem?_getD, List.getD_eq_getElem?_getD, List.getElem?_append_left (by rw [sch_len]; exact hj)]
          have hyl : ys.length = 64 := by rw [hys]; simp [sch_len]; omega
          have hset := fun x hx => sch_set bs k (by omega) x hx
          rw [← hys] at Ar1 hset
          obtain ⟨x0, hx0⟩ : ∃ x, x = ys.getD (k - 2) 0 := ⟨_, rfl⟩
          obtain ⟨x1, hx1⟩ : ∃ x, x = ys.getD (k - 7) 0 := ⟨_, rfl⟩
          obtain ⟨x2, hx2⟩ : ∃ x, x = ys.getD (k - 15) 0 := ⟨_, rfl⟩
          obtain ⟨x3, hx3⟩ : ∃ x, x = ys.getD (k - 16) 0 := ⟨_, rfl⟩
          have hc0 := Ar1.cell (k - 2) (by omega)
          have hc1 := Ar1.cell (k - 7) (by omega)
          have hc2 := Ar1.cell (k - 15) (by omega)
          have hc3 := Ar1.cell (k - 16) (by omega)
          rw [← hx0] at hc0
          rw [← hx1] at hc1
          rw [← hx2] at hc2
          rw [← hx3] at hc3
          have hsch : sch bs (k + 1) = sch bs k ++ [ad (ad (ad (sS1 x0) x1) (sS0 x2)) x3] := by
            simp only [sch, if_neg hnl, nextW, hx0, hx1, hx2, hx3]
            rw [hgd _ (by omega), hgd _ (by omega), hgd _ (by omega), hgd _ (by omega)]
          have HS := hide (hset _ hsch)
          have HA := hide Ar1
          have hkr := hide Kr
          have hck' := Ar1.cell k (by omega)
          have hfk := Ar1.frozen k
          obtain ⟨old, hold⟩ : ∃ old, old = ys.getD k 0 := ⟨_, rfl⟩
          rw [← hold] at hck'
          clear hx0 hx1 hx2 hx3 hsch hset hys Ar1 Kr hold hgd
          go_wp2_with fail
          refine region_read Tryz.mixed (by kernel_rfl) ?_
          repeat (first | go_big_quiet_skip | (go_big_quiet_want; go_big_quiet_op; go_big_quiet_on))
          refine wpQuiet_nil ?_
          go_wp2_with fail
          refine region_tail 29 Tryz.mixed (by kernel_rfl) ?_
          simp only [List.take_succ_cons, List.take_zero, List.drop_succ_cons, List.drop_zero]
          repeat (first | go_big_quiet_skip | (go_big_quiet_want; go_big_quiet_op; first | go_big_quiet_on | (refine ⟨_, turn_any _ _ _ (by omega) (by omega), ?_⟩; go_big_quiet_on)))
          refine wpQuiet_nil ?_
          go_wp2_with fail
          go_roundw
          case rel =>
            refine ⟨k + 1, by omega, by omega, by go_num, (((unhide hkr).setCell (p := ⟨b3, k, none⟩) (.inl (by simp)) _).drew).drew, ?_⟩
            rw [← unhide HS, ← next_ref]
            exact (unhide HA).set k _
          case measure => simp [intOf]; omega
        · obtain rfl : k = 64 := by omega
          obtain ⟨ws, hws⟩ : ∃ ws, ws = sch bs 64 := ⟨_, rfl⟩
          have hwl : ws.length = 64 := by rw [hws]; exact sch_len _ _
          have AW : Ar wr b3 163 ws := by rw [hws]; simpa using Ar1
          have AH := (unhide hAH).kept Kr (by have := unhide HB13; simp; omega)
          have AR := (unhide hAR).kept Kr (by have := unhide HB13; have := unhide HB12; simp; omega)
          have AK := (unhide HKK).kept Kr (by have := unhide HB13; simp; omega)
          have KW : Kp [] w wr := (unhide hK2).then Kr (by have := unhide HB13; simp; omega)
          obtain ⟨w4, hw4⟩ : ∃ w4, w4 = wr := ⟨_, rfl⟩
          subst hw4
          have HW := hide hws
          have hszw : w.heap.size ≤ w4.heap.size := KW.size
          have hl1 := AH.lt
          have hl2 := AR.lt
          have hl3 := AW.lt
          have hl4 := AK.lt
          have hi : (Tryz.prog.info? 162).map (·.size) = some h0.length := by rw [hh]; exact Tryz.sz8
          clear Ar1 Kr hws
          go_wp2_with (first
            | (refine wpList_load_ar rfl 162 (.tmp 3) rfl b1 rfl _ _ 8 103 AH Tryz.underlying162 hi ?_)
            | (refine wpList_alloc_ar (w := w4) rfl 162 rfl i8 _ hi8 hz8 ?_; intro w5 A5 K5 z5)
            | (refine wpList_store_ar rfl 162 (.tmp 12) (.tmp 99) rfl w4.heap.size rfl _ _ h0 A5 rfl (by rw [hh]; rfl) hi ?_; intro w6 A6 K6 z6))
          obtain ⟨b4, hb4⟩ : ∃ b, b = w4.heap.size := ⟨_, rfl⟩
          rw [← hb4] at A5 A6 K6 hl1 hl2 hl3 hl4
          simp only [← hb4]
          have n1 : b1 ≠ b4 := by omega
          have n2 : b2 ≠ b4 := by omega
          have n3 : b3 ≠ b4 := by omega
          have n4 : bk ≠ b4 := by omega
          have hb4w : w.heap.size ≤ b4 := by omega
          have hAW := hide ((AW.kept K5 (by simp)).kept K6 (by simp; omega))
          have hAH := hide ((AH.kept K5 (by simp)).kept K6 (by simp; omega))
          have hAR := hide ((AR.kept K5 (by simp)).kept K6 (by simp; omega))
          have hAK := hide ((AK.kept K5 (by simp)).kept K6 (by simp; omega))
          have hK6 : Hid (Kp [] w w6) := (KW.trans K5).then K6 (by simp; omega)
          have hA6 := hide A6
          clear A5 A6 K5 K6 z5 z6 AW AH AR AK KW hl1 hl2 hl3 hl4 hszw hb4
          go_loopw [13] (fun i wr => ∃ k : Nat, k ≤ 64 ∧ i = .int .i64 k ∧ Kp [b4] w6 wr ∧ Ar wr b4 162 (rds ws h0 k)) (fun i _ => 64 - (intOf i).toNat)
          case atStart => exact ⟨0, by omega, rfl, Kp.refl _ _, unhide hA6⟩
          case round =>
            obtain ⟨k, hk, rfl, Kr, Ak⟩ := hrel
            have hrl := rds_len ws h0 hh k
            by_cases hlt : k < 64
            · have hlt2 : (k : Int) < 64 := by omega
              have hcw := ((unhide hAW).kept Kr (by simpa using n3)).cell k (by omega)
              have hck := ((unhide hAK).kept Kr (by simpa using n4)).cell k (by simpa [consts] using hlt)
              obtain ⟨a, b, c, d, e, f, g, q, hrd⟩ := eight hrl
              rw [hrd] at Ak
              have hnx : rds ws h0 (k + 1) = rnd [a, b, c, d, e, f, g, q] (consts.getD k 0) (ws.getD k 0) := by simp only [rds, hrd]
              obtain ⟨x, hx⟩ : ∃ x, x = ws.getD k 0 := ⟨_, rfl⟩
              obtain ⟨y, hy⟩ : ∃ y, y = consts.getD k 0 := ⟨_, rfl⟩
              rw [← hx] at hcw hnx
              rw [← hy] at hck hnx
              have HN := hide hnx
              have c0 := Ak.cell 0 (by simp)
              have c1 := Ak.cell 1 (by simp)
              have c2 := Ak.cell 2 (by simp)
              have c3 := Ak.cell 3 (by simp)
              have c4 := Ak.cell 4 (by simp)
              have c5 := Ak.cell 5 (by simp)
              have c6 := Ak.cell 6 (by simp)
              have c7 := Ak.cell 7 (by simp)
              simp only [List.getD_cons_zero, List.getD_cons_succ] at c0 c1 c2 c3 c4 c5 c6 c7
              have hA := hide Ak
              have hkr := hide Kr
              clear Ak Kr hx hy hnx hrd hrl
              go_wp2_with fail
              refine region_read Tryz.mixed (by kernel_rfl) ?_
              repeat (first | go_big_quiet_skip | (go_big_quiet_want; go_big_quiet_op; go_big_quiet_on))
              refine wpQuiet_nil ?_
              go_wp2_with fail
              refine region_read Tryz.mixed (by kernel_rfl) ?_
              repeat (first | go_big_quiet_skip | (go_big_quiet_want; go_big_quiet_op; first | go_big_quiet_on | (refine ⟨_, turn_any _ _ _ (by omega) (by omega), ?_⟩; go_big_quiet_on)))
              refine wpQuiet_nil ?_
              go_wp2_with fail
              refine region_read Tryz.mixed (by kernel_rfl) ?_
              repeat (first | go_big_quiet_skip | (go_big_quiet_want; go_big_quiet_op; first | go_big_quiet_on | (refine ⟨_, turn_any _ _ _ (by omega) (by omega), ?_⟩; go_big_quiet_on)))
              refine wpQuiet_nil ?_
              have hA3 : Ar wr.drew.drew.drew b4 162 [a, b, c, d, e, f, g, q] := unhide hA
              go_wp2_with (refine wpList_store_ar rfl 162 (.tmp 12) (.tmp 181) rfl b4 rfl _ _ [_, _, _, _, _, _, _, _] hA3 rfl rfl Tryz.sz8 ?_; intro w9 A9 K9 z9)
              go_roundw
              case rel =>
                refine ⟨k + 1, by omega, by go_num, ((unhide hkr).drew.drew.drew).trans K9, ?_⟩
                rw [unhide HN, rnd_raw2]
                exact A9
              case measure => simp [intOf]; omega
            · obtain rfl : k = 64 := by omega
              clear hk hlt
              obtain ⟨tt, htt⟩ : ∃ tt, tt = rds ws h0 64 := ⟨_, rfl⟩
              rw [← htt] at Ak hrl
              have HT := hide htt
              have hAk := hide Ak
              have AH := (unhide hAH).kept Kr (by simpa using n1)
              have hAR8 := hide ((unhide hAR).kept Kr (by simpa using n2))
              have hKW : Hid (Kp [] w wr) := (unhide hK6).then Kr (by simp; omega)
              have h00 : h0 = List.zipWith ad (h0.take 0) tt ++ h0.drop 0 := by simp
              rw [h00] at AH
              have hAH8 := hide AH
              obtain ⟨w8, hw8⟩ : ∃ w8, w8 = wr := ⟨_, rfl⟩
              subst hw8
              have hb21 : b1 ≠ b2 := by have := unhide HB12; omega
              clear Ak Kr AH h00 htt hA6 hAW hAH hAR hAK hK6
              go_wp2_with fail
              go_loopw [18] (fun i wr => ∃ k : Nat, k ≤ 8 ∧ i = .int .i64 k ∧ Kp [b1] w8 wr ∧ Ar wr b1 162 (List.zipWith ad (h0.take k) tt ++ h0.drop k)) (fun i _ => 8 - (intOf i).toNat)
              case atStart => exact ⟨0, by omega, rfl, Kp.refl _ _, unhide hAH8⟩
              case round =>
                obtain ⟨k, hk, rfl, Kr, Ak⟩ := hrel
                clear hAH8
                have A9 := (unhide hAk).kept Kr (by simp; omega)
                by_cases hlt : k < 8
                · have hlt2 : (k : Int) < 8 := by omega
                  obtain ⟨ys, hys⟩ : ∃ ys, ys = List.zipWith ad (h0.take k) tt ++ h0.drop k := ⟨_, rfl⟩
                  have hz : (List.zipWith ad (h0.take k) tt).length = k := by simp; omega
                  have hyl : ys.length = 8 := by rw [hys]; simp [hz]; omega
                  have hset : ys.set k (ad (ys.getD k 0) (tt.getD k 0)) = List.zipWith ad (h0.take (k + 1)) tt ++ h0.drop (k + 1) := zip_step h0 tt k (by omega) (by omega) ys hys
                  rw [← hys] at Ak
                  have hc1 := Ak.cell k (by omega)
                  have hc2 := A9.cell k (by omega)
                  have hfk := Ak.frozen k
                  obtain ⟨x, hx⟩ : ∃ x, x = ys.getD k 0 := ⟨_, rfl⟩
                  obtain ⟨y, hy⟩ : ∃ y, y = tt.getD k 0 := ⟨_, rfl⟩
                  rw [← hx] at hc1 hset
                  rw [← hy] at hc2 hset
                  have HS := hide hset
                  have HA := hide Ak
                  have hkr := hide Kr
                  clear hx hy hset Ak Kr A9 hys hz
                  go_wp2_with fail
                  refine region_tail 9 Tryz.mixed (by kernel_rfl) ?_
                  simp only [List.take_succ_cons, List.take_zero, List.drop_succ_cons, List.drop_zero]
                  repeat (first | go_big_quiet_skip | (go_big_quiet_want; go_big_quiet_op; go_big_quiet_on))
                  refine wpQuiet_nil ?_
                  go_wp2_with fail
                  go_roundw
                  case rel =>
                    refine ⟨k + 1, by omega, by go_num, ((unhide hkr).setCell (p := ⟨b1, k, none⟩) (.inl (by simp)) _).drew, ?_⟩
                    rw [← unhide HS]
                    exact (unhide HA).set k _
                  case measure => simp [intOf]; omega
                · obtain rfl : k = 8 := by omega
                  have A10 := (unhide hAR8).kept Kr (by simp; omega)
                  have hfin : List.zipWith ad (h0.take 8) tt ++ h0.drop 8 = blk h0 bs := by
                    rw [List.take_of_length_le (by omega), List.drop_of_length_le (by omega), List.append_nil, unhide HT, unhide HW, blk_ref]
                  rw [hfin] at Ak
                  have hbl : (blk h0 bs).length = 8 := blk_len _ _ hh
                  have hib : (Tryz.prog.info? 162).map (·.size) = some (blk h0 bs).length := by rw [hbl]; exact Tryz.sz8
                  go_wp2_with (first
                    | (refine wpList_load_ar rfl 162 (.tmp 3) rfl b1 rfl _ _ 8 103 Ak Tryz.underlying162 hib ?_)
                    | (refine wpList_store_ar rfl 162 (.tmp 6) (.tmp 195) rfl b2 rfl _ _ _ A10 rfl (by rw [hbl]; rfl) hib ?_; intro w9 A9 K9 z9))
                  refine bodyPost_ret (results_cell_row rfl _ w9 b2 _ _ (0, 0) (.array 8 103) rfl A9 Tryz.underlying162 rfl (by simpa using hib)) rfl ?_
                  refine ⟨rfl, ?_⟩
                  have hbw2 : w.heap.size ≤ b2 := by have := unhide HB12; omega
                  exact ((unhide hKW).then Kr (by simp; omega)).then K9 (by simp; omega)
end Go.Proofs.YtillhpgdlmeajaaGreatDoor

/-
  The contracts of the reference's constants and Sum.
-/
namespace Go.Proofs.YtillhpgdlmeajaaGreatDoor
open Go.RowKit

set_option maxRecDepth 100000 in
set_option maxHeartbeats 4000000 in
theorem consts_any (w : World) : Calls Tryz.prog 111 #[] w fun e w' => e = .returned (ag consts) ∧ Kp [] w w' := by
  obtain ⟨i0, hi0, hz0⟩ := Tryz.zero64
  go_enter Tryz.func111, Tryz.ntmps111
  go_wp2_with (first
    | (refine wpList_alloc_ar (w := w) rfl 163 rfl i0 _ hi0 hz0 ?_; intro w1 A1 K1 z1)
    | (refine wpList_store_ar rfl 163 (.tmp 0) (.tmp 1) rfl w.heap.size rfl _ _ consts A1 rfl rfl Tryz.sz64 ?_; intro w2 A2 K2 z2))
  refine bodyPost_ret (results_cell_row rfl _ w2 w.heap.size _ _ (0, 0) (.array 64 103) rfl A2 Tryz.underlying163 rfl Tryz.sz64) rfl ?_
  exact ⟨rfl, K1.then K2 (by simp)⟩

/-- What is left of a text behind k blocks. -/
theorem blks_succ (k : Nat) (s bs : List Int) : blks (k + 1) s bs = blk (blks k s bs) ((bs.drop (64 * k)).take 64) := rfl

set_option maxRecDepth 100000 in
set_option maxHeartbeats 2000000 in
theorem refsum_any (vb : Value) (bs : List Int) (w : World) (hS : Sl w vb bs) (hB : Bs bs) (hl : bs.length ≤ 1000000000000) :
    Calls Tryz.prog 69 #[vb] w fun e w' => ∃ ao m c, e = .returned (.slice ao m c) ∧ Row w' w.heap.size (.slice ao m c) (sha bs) ∧ Kp [] w w' := by
  obtain ⟨i0, hi0, hz0⟩ := Tryz.zero64
  obtain ⟨i8, hi8, hz8⟩ := Tryz.zero8
  have HB : Hid (Bs bs) := hB
  have HSl : Hid (Sl w vb bs) := hS
  obtain ⟨ab, cb, rfl, h1, h2, h3, _⟩ := hS
  obtain ⟨N, hN⟩ : ∃ N, N = bs.length := ⟨_, rfl⟩
  rw [← hN] at h1 HSl ⊢
  have HN := hide hN
  have hNl : N ≤ 1000000000000 := by omega
  clear hB hN hl
  go_enter Tryz.func69, Tryz.ntmps69
  go_wp2_with (first
    | (refine wpList_alloc_ar (w := w) rfl 162 rfl i8 _ hi8 hz8 ?_; intro w1 A1 K1 z1)
    | (refine wpList_store_ar rfl 162 (.tmp 3) (.tmp 10) rfl w.heap.size rfl _ _ begin8 A1 rfl rfl Tryz.sz8 ?_; intro w2 A2 K2 z2)
    | (go_at_call 111; refine (consts_any _).mono ?_; rintro ee w3 ⟨rfl, K3⟩)
    | (refine wpList_alloc_ar (w := w3) rfl 163 rfl i0 _ hi0 hz0 ?_; intro w4 A4 K4 z4)
    | (refine wpList_store_ar rfl 163 (.tmp 4) (.tmp 11) rfl w3.heap.size rfl _ _ consts A4 rfl rfl Tryz.sz64 ?_; intro w5 A5 K5 z5))
  obtain ⟨b1, hb1⟩ : ∃ b, b = w.heap.size := ⟨_, rfl⟩
  obtain ⟨b2, hb2⟩ : ∃ b, b = w3.heap.size := ⟨_, rfl⟩
  rw [← hb2] at A4 A5 K5
  rw [← hb1] at A1 A2 K2
  simp only [← hb1, ← hb2]
  have hs3 := K3.size
  have hs1 := K1.size
  have hA2l := A2.lt
  have hne : b1 ≠ b2 := by omega
  have K25 : Kp [] w2 w4 := K3.trans K4
  have hAH : Hid (Ar w5 b1 162 begin8) := (A2.kept K25 (by simp)).kept K5 (by simpa using hne)
  have hAK : Hid (Ar w5 b2 163 consts) := A5
  have hKW : Hid (Kp [] w w5) := ((K1.then K2 (by simp; omega)).trans K25).then K5 (by simp; omega)
  have hbw2 : w.heap.size ≤ b2 := by omega
  have HB1 := hide hb1
  clear A1 A2 A4 A5 K1 K2 K3 K4 K5 K25 z1 z2 z4 z5 hs3 hs1 hA2l hb1 hb2
  go_loopw [0] (fun v wr => ∃ (k m c : Nat) (ao : Option Addr), 64 * k ≤ N ∧ v = .slice ao m c ∧ Sl w v (bs.drop (64 * k)) ∧ Kp [b1] w5 wr ∧ Ar wr b1 162 (blks k begin8 bs)) (fun v _ => (match v with | .slice _ m _ => m | _ => 0))
  case atStart => exact ⟨0, N, cb, ab, by omega, rfl, by simpa using unhide HSl, Kp.refl _ _, unhide hAH⟩
  case round =>
    obtain ⟨k, m, c, ao, hk, rfl, Sk, Kr, Ak⟩ := hrel
    have hlk := blks_len begin8 bs rfl k
    have hml : m = N - 64 * k := by obtain ⟨_, _, e, _⟩ := Sk; injection e with _ e2 _; rw [e2]; simp; have := unhide HN; omega
    have hmc : m ≤ c ∧ c ≤ maxLen ∧ (ao = none → c = 0) := by obtain ⟨_, _, e, x1, x2, x3, _⟩ := Sk; injection e with e1 e2 e3; subst e1; subst e3; exact ⟨by omega, x2, x3⟩
    obtain ⟨hmc, hcx, hao⟩ := hmc
    unfold maxLen at hcx
    have hKw : Hid (Kp [b1] w wr) := ((unhide hKW).mono (by simp)).trans Kr
    have hbl1 : w.heap.size ≤ b1 := by have := unhide HB1; omega
    by_cases hge : 64 ≤ m
    · cases ao with
      | none => have := hao rfl; omega
      | some a =>
      have hgi : (64 : Int) ≤ (m : Int) := by omega
      have hgc : (64 : Int) ≤ (c : Int) := by omega
      have hdl : (bs.drop (64 * k)).length = m := by have := unhide HN; simp; omega
      have ST := Sk.take 64 (by omega)
      have hST : Hid (Sl wr.drew (.slice (some a) 64 c) ((bs.drop (64 * k)).take 64)) := (ST.old (unhide hKw) (by intro i _ hi; simp; omega)).kept (kp_drew wr) (by simp)
      have hSD := hide (Sk.drop 64 (by omega))
      have hdd : (bs.drop (64 * k)).drop 64 = bs.drop (64 * (k + 1)) := by rw [List.drop_drop]; congr 1
      rw [hdd] at hSD
      have hb64 : ((bs.drop (64 * k)).take 64).length = 64 := by simp; have := unhide HN; omega
      have hKr := hide Kr
      obtain ⟨sk, hsk⟩ : ∃ sk, sk = blks k begin8 bs := ⟨_, rfl⟩
      have HSK := hide hsk
      have AD : Ar wr.drew b1 162 (blks k begin8 bs) := Ak
      rw [← hsk] at AD hlk
      have hAD := hide AD
      have hAKr : Hid (Ar wr.drew b2 163 consts) := (unhide hAK).kept Kr.drew (by simpa using Ne.symm hne)
      have hi : (Tryz.prog.info? 162).map (·.size) = some sk.length := by rw [hlk]; exact Tryz.sz8
      have HML := hide hml
      clear Sk ST Kr Ak AD hsk hdd hdl hml
      go_wp2_with fail
      refine region_tail 3 Tryz.mixed (by kernel_rfl) ?_
      simp only [List.take_succ_cons, List.take_zero, List.drop_succ_cons, List.drop_zero]
      go_big_quiet_want
      refine quiet_load_ar 162 (.tmp 3) rfl b1 rfl _ sk 8 103 (unhide hAD) Tryz.underlying162 hi ?_
      simp only [Act.put, List.set_cons_zero, List.set_cons_succ, List.setIfInBounds_toArray]
      go_big_quiet_on
      repeat (first | go_big_quiet_skip | (go_big_quiet_want; go_big_quiet_op; go_big_quiet_on))
      refine wpQuiet_nil ?_
      have hbl := blk_len sk ((bs.drop (64 * k)).take 64) hlk
      have hi6 : (Tryz.prog.info? 162).map (·.size) = some (blk sk ((bs.drop (64 * k)).take 64)).length := by rw [hbl]; exact Tryz.sz8
      by_cases hc : c = 64
      · obtain rfl : c = 64 := hc
        obtain rfl : m = 64 := by omega
        go_wp2_with (first
          | (go_at_call 112; refine (block_any sk b2 _ _ _ hlk (unhide hAKr) (unhide hST) hb64 (((unhide HB).drop _).take _)).mono ?_; rintro ee w6 ⟨rfl, K6⟩; have A6 := (unhide hAD).kept K6 (by simp))
          | (refine wpList_store_ar rfl 162 (.tmp 3) (.tmp 20) rfl b1 rfl _ _ _ A6 rfl (by rw [hbl]; exact hlk) hi6 ?_; intro w7 A7 K7 z7))
        go_roundw
        case rel =>
          refine ⟨k + 1, 0, 0, some a, by have := unhide HML; omega, rfl, ?_, (((unhide hKr).drew).trans (K6.mono (by simp))).trans K7, ?_⟩
          · have := unhide hSD; rwa [if_pos trivial] at this
          · rw [blks_succ, ← unhide HSK]; exact A7
        case measure => show 0 < 64; omega
      · go_wp2_with (first
          | (go_at_call 112; refine (block_any sk b2 _ _ _ hlk (unhide hAKr) (unhide hST) hb64 (((unhide HB).drop _).take _)).mono ?_; rintro ee w6 ⟨rfl, K6⟩; have A6 := (unhide hAD).kept K6 (by simp))
          | (refine wpList_store_ar rfl 162 (.tmp 3) (.tmp 20) rfl b1 rfl _ _ _ A6 rfl (by rw [hbl]; exact hlk) hi6 ?_; intro w7 A7 K7 z7))
        go_roundw
        case rel =>
          refine ⟨k + 1, m - 64, c - 64, some (a.add 64), by have := unhide HML; omega, rfl, ?_, (((unhide hKr).drew).trans (K6.mono (by simp))).trans K7, ?_⟩
          · have := unhide hSD; rwa [if_neg hc] at this
          · rw [blks_succ, ← unhide HSK]; exact A7
        case measure => show m - 64 < m; omega
    · have hk64 : k = N / 64 := by omega
      obtain ⟨w6, hw6⟩ : ∃ w6, w6 = wr := ⟨_, rfl⟩
      subst hw6
      obtain ⟨rs, hrs⟩ : ∃ rs, rs = bs.drop (64 * k) := ⟨_, rfl⟩
      have hrl : rs.length = m := by rw [hrs]; simp; have := unhide HN; omega
      have hrl64 : rs.length < 64 := by omega
      have hS6 : Sl w6 (.slice ao m c) rs := by rw [hrs]; exact Sk.old (unhide hKw) (by intro i _ hi; simp; omega)
      obtain ⟨s1, hs1⟩ : ∃ s1, s1 = blks k begin8 bs := ⟨_, rfl⟩
      rw [← hs1] at Ak hlk
      have HRS := hide hrs
      have HS1 := hide hs1
      have HK64 := hide hk64
      have hA6 := hide Ak
      have hA26 : Hid (Ar w6 b2 163 consts) := (unhide hAK).kept Kr (by simpa using Ne.symm hne)
      have hl1 := Ak.lt
      have hl2 := (unhide hA26).lt
      have HS6 := hide hS6
      have HBr : Hid (Bs rs) := by rw [hrs]; exact (unhide HB).drop _
      have hmi : (m : Int) < 64 := by omega
      have HRL := hide hrl
      clear Sk Kr Ak hS6 hrs hs1 hk64 hrl hml hAH hAK hge
      have R0 : Row (w6.alloc (.cells #[] 5)) w6.heap.size (.slice (some ⟨w6.heap.size, 0, none⟩) 0 0) [] := World.ownsRow_made w6 #[] 0 (Nat.le_refl _) (by simp [maxLen]) rfl
      have hR0 := hide R0
      have HS60 := hide ((unhide HS6).kept ((Kp.refl [] w6).alloc (.cells #[] 5)) (by simp))
      have K60 : Kp [] w6 (w6.alloc (.cells #[] 5)) := (Kp.refl [] w6).alloc _
      clear R0
      go_wp2_with (first
        | (at_builtin; refine wpList_append_row rfl (.tmp 23) (.tmp 24) rfl w6.heap.size _ [] rfl (unhide hR0) _ rs rfl (unhide HS60) (by simp; omega) K60.size ?_; intro ao7 m7 c7 w7 r7 s7; have K7 := (unhide hR0).step K60 s7; rw [List.nil_append] at r7)
        | (at_builtin; refine wpList_append_row rfl (.tmp 25) (.tmp 26) rfl w6.heap.size _ rs rfl (r7.kept ((Kp.refl [] w7).alloc _) (by simp)) _ [128] rfl (one_block w7 128) (by simp; omega) (by have := K7.size; simp; omega) ?_; intro ao8 m8 c8 w8 r8 s8; have K8 := r7.step K7 (s8.after ((Kp.refl [] w7).alloc _))))
      have hm8 := r8.len
      have hR3 : Row w8 w6.heap.size (.slice ao8 m8 c8) (rs ++ [128] ++ List.replicate 0 0) := by simpa using r8
      have hR := hide hR3
      have hK8 := hide K8
      clear r7 r8 hR3 K7 K8 s7 s8 hm8 K60 hR0 HS60
      go_loopw [6] (fun v wr => ∃ (z m c : Nat) (ao : Option Addr), z ≤ zeros rs.length ∧ v = .slice ao m c ∧ Row wr w6.heap.size v (rs ++ [128] ++ List.replicate z 0) ∧ Kp [] w6 wr) (fun v _ => 200 - (match v with | .slice _ m _ => m | _ => 0))
      case atStart => exact ⟨0, m8, c8, ao8, by omega, rfl, unhide hR, unhide hK8⟩
      case round =>
        obtain ⟨z, m, c, ao, hz, rfl, Rr, Kr⟩ := hrel
        have hml := Rr.len
        simp only [List.length_append, List.length_replicate, List.length_cons, List.length_nil] at hml
        have hzb : zeros rs.length < 64 := by unfold zeros; omega
        by_cases hlt : z < zeros rs.length
        · have hne6 : ¬ ((m : Int) % 64 = 56) := by unfold zeros at hlt; omega
          have hmm : m ≤ 150 := by omega
          have HML := hide hml
          have hrb : (rs ++ [128] ++ List.replicate z (0 : Int)).length ≤ 150 := by simp; omega
          clear hml
          go_wp2_with (at_builtin; refine wpList_append_row rfl (.tmp 32) (.tmp 33) rfl w6.heap.size _ _ rfl (Rr.kept ((Kp.refl [] wr).alloc _) (by simp)) _ [0] rfl (one_block wr 0) (by simp only [List.length_cons, List.length_nil]; omega) (by have := Kr.size; simp; omega) ?_; intro ao2 m2 c2 w2 r2 s2)
          have hm2 := r2.len
          simp only [List.length_append, List.length_replicate, List.length_cons, List.length_nil] at hm2
          go_roundw
          case rel =>
            refine ⟨z + 1, m2, c2, ao2, by omega, rfl, ?_, Rr.step Kr (s2.after ((Kp.refl [] wr).alloc _))⟩
            rw [List.replicate_succ', ← List.append_assoc]
            exact r2
          case measure => show 200 - m2 < 200 - m; have := unhide HML; omega
        · have hzz : z = zeros rs.length := by omega
          have he : (m : Int) % 64 = 56 := by rw [hzz] at hml; unfold zeros at hml; omega
          obtain ⟨pre, hpre⟩ : ∃ pre, pre = rs ++ [128] ++ List.replicate z 0 := ⟨_, rfl⟩
          have hpl : pre.length ≤ 128 := by rw [hpre]; simp; omega
          have hR9 : Row wr w6.heap.size (.slice ao m c) (pre ++ (be8 (N * 8)).take 0) := by simpa [hpre] using Rr
          have HR9 := hide hR9
          have HK9 := hide Kr
          have HP : Hid (pre ++ (be8 (N * 8)).take 8 = pad rs N) := by
            show _ = _
            unfold pad
            rw [hpre, hzz, List.take_of_length_le (by simp [be8])]
          clear hpre Rr Kr hR9 hml hzz hlt hz hzb
          have hN8 : (N : Int) * 8 ≤ 8000000000000 := by omega
          go_wp2_with fail
          clear he
          go_loopw [6, 7] (fun v i wr => ∃ (j m c : Nat) (ao : Option Addr), j ≤ 8 ∧ v = .slice ao m c ∧ i = .int .i64 (7 - (j : Int)) ∧ Row wr w6.heap.size v (pre ++ (be8 (N * 8)).take j) ∧ Kp [] w6 wr) (fun _ i _ => (intOf i + 1).toNat)
          case atStart => exact ⟨0, m, c, ao, by omega, rfl, rfl, unhide HR9, unhide HK9⟩
          case round =>
            obtain ⟨j, m, c, ao, hj, rfl, rfl, Rr, Kr⟩ := hrel
            by_cases hlt : j < 8
            · have hj2 : (j : Int) < 8 := by omega
              have hj3 : (j : Int) ≤ 7 := by omega
              have HT := hide (be8_take (N * 8) j hlt)
              have hpj : (pre ++ (be8 (N * 8)).take j).length ≤ 136 := by simp [be8]; omega
              obtain ⟨q, hq⟩ : ∃ q, q = pre ++ (be8 (N * 8)).take j := ⟨_, rfl⟩
              rw [← hq] at hpj Rr
              have HQ := hide hq
              clear hq
              go_wp2_with (at_builtin; refine wpList_append_row rfl (.tmp 39) (.tmp 48) rfl w6.heap.size _ _ rfl (Rr.kept ((Kp.refl [] wr).alloc _) (by simp)) _ [(N : Int) * 8 / 2 ^ (8 * (7 - j)) % 256] rfl (one_block wr _) (by simp; omega) (by have := Kr.size; simp; omega) ?_; intro ao2 m2 c2 w2 r2 s2)
              go_roundw
              case rel =>
                refine ⟨j + 1, m2, c2, ao2, by omega, rfl, by go_num, ?_, Rr.step Kr (s2.after ((Kp.refl [] wr).alloc _))⟩
                rw [unhide HT, ← List.append_assoc, ← unhide HQ]
                exact r2
              case measure => simp [intOf]; omega
            · obtain rfl : j = 8 := by omega
              rw [unhide HP] at Rr
              have e78 : (7 : Int) - ((8 : Nat) : Int) = -1 := by decide
              simp only [e78]
              clear e78
              obtain ⟨w9, hw9⟩ : ∃ w9, w9 = wr := ⟨_, rfl⟩
              subst hw9
              obtain ⟨pp, hpp⟩ : ∃ pp, pp = pad rs N := ⟨_, rfl⟩
              have hpl2 := pad_len rs N hrl64
              have HBp : Hid (Bs pp) := by rw [hpp]; exact pad_bs rs N (unhide HBr)
              rw [← hpp] at Rr hpl2
              obtain ⟨q, hq⟩ : ∃ q, q = pp.length / 64 := ⟨_, rfl⟩
              rw [← hq] at hpl2
              obtain ⟨hpq, hp128⟩ := hpl2
              have hmp : m = pp.length := Rr.len
              have hown : ∀ i, (Value.slice ao m c).ownBlock = some i → b1 ≠ i := fun i hi => by have := Rr.own i hi; omega
              have hown2 : ∀ i, (Value.slice ao m c).ownBlock = some i → b2 ≠ i := fun i hi => by have := Rr.own i hi; omega
              have hS9 := hide Rr.sl
              have hA9 := hide ((unhide hA6).kept Kr (by simp))
              have hA29 := hide ((unhide hA26).kept Kr (by simp))
              have hK9w : Hid (Kp [b1] w w9) := (unhide hKw).trans (Kr.mono (by simp))
              have HPP := hide hpp
              have HQ := hide hq
              have HPQ := hide hpq
              have hq2 : q ≤ 2 := by omega
              have HMP := hide hmp
              clear Rr Kr hpp hq hmp HR9 HK9 HP hpl hN8 hK8 hR hA6 hA26
              go_wp2_with fail
              go_loopw [6] (fun v wr => ∃ (j m c : Nat) (ao : Option Addr), j ≤ q ∧ v = .slice ao m c ∧ m = 64 * (q - j) ∧ (∀ i, v.ownBlock = some i → b1 ≠ i) ∧ Sl w9 v (pp.drop (64 * j)) ∧ Kp [b1] w9 wr ∧ Ar wr b1 162 (blks j s1 pp)) (fun v _ => (match v with | .slice _ m _ => m | _ => 0))
              case atStart => exact ⟨0, m, c, ao, by omega, rfl, by have := unhide HMP; have := unhide HPQ; omega, hown, by simpa using unhide hS9, Kp.refl _ _, unhide hA9⟩
              case round =>
                obtain ⟨j, m, c, ao, hj, rfl, hm, ho1, Sj, Kr, Aj⟩ := hrel
                have hlj := blks_len s1 pp hlk j
                have hmc : m ≤ c ∧ c ≤ maxLen ∧ (ao = none → c = 0) := by obtain ⟨_, _, e, x1, x2, x3, _⟩ := Sj; injection e with e1 e2 e3; subst e1; subst e3; exact ⟨by omega, x2, x3⟩
                obtain ⟨hmc, hcx, hao⟩ := hmc
                unfold maxLen at hcx
                by_cases hlt : j < q
                · have hge : 64 ≤ m := by omega
                  cases ao with
                  | none => have := hao rfl; omega
                  | some a =>
                  have hgi : (64 : Int) ≤ (m : Int) := by omega
                  have hg0 : (0 : Int) < (m : Int) := by omega
                  have hgc : (64 : Int) ≤ (c : Int) := by omega
                  have hdl : (pp.drop (64 * j)).length = m := by have := unhide HPQ; simp; omega
                  have ST := Sj.take 64 (by omega)
                  have hST : Hid (Sl wr.drew (.slice (some a) 64 c) ((pp.drop (64 * j)).take 64)) := (ST.kept Kr (by intro i hi; have := ho1 i hi; simp; omega)).kept (kp_drew wr) (by simp)
                  have hSD := hide (Sj.drop 64 (by omega))
                  have hdd : (pp.drop (64 * j)).drop 64 = pp.drop (64 * (j + 1)) := by rw [List.drop_drop]; congr 1
                  rw [hdd] at hSD
                  have hb64 : ((pp.drop (64 * j)).take 64).length = 64 := by simp; have := unhide HPQ; omega
                  have hKr := hide Kr
                  obtain ⟨sk, hsk⟩ : ∃ sk, sk = blks j s1 pp := ⟨_, rfl⟩
                  have HSK := hide hsk
                  have AD : Ar wr.drew b1 162 (blks j s1 pp) := Aj
                  rw [← hsk] at AD hlj
                  have hAD := hide AD
                  have hAKr : Hid (Ar wr.drew b2 163 consts) := (unhide hA29).kept Kr.drew (by simpa using Ne.symm hne)
                  have hi : (Tryz.prog.info? 162).map (·.size) = some sk.length := by rw [hlj]; exact Tryz.sz8
                  have HML := hide hm
                  have HO1 := hide ho1
                  have hab1 : b1 ≠ a.block := ho1 a.block rfl
                  clear Sj ST Kr Aj AD hsk hdd hdl hm ho1
                  go_wp2_with fail
                  refine region_tail 3 Tryz.mixed (by kernel_rfl) ?_
                  simp only [List.take_succ_cons, List.take_zero, List.drop_succ_cons, List.drop_zero]
                  go_big_quiet_want
                  refine quiet_load_ar 162 (.tmp 3) rfl b1 rfl _ sk 8 103 (unhide hAD) Tryz.underlying162 hi ?_
                  simp only [Act.put, List.set_cons_zero, List.set_cons_succ, List.setIfInBounds_toArray]
                  go_big_quiet_on
                  repeat (first | go_big_quiet_skip | (go_big_quiet_want; go_big_quiet_op; go_big_quiet_on))
                  refine wpQuiet_nil ?_
                  have hbl := blk_len sk ((pp.drop (64 * j)).take 64) hlj
                  have hi6 : (Tryz.prog.info? 162).map (·.size) = some (blk sk ((pp.drop (64 * j)).take 64)).length := by rw [hbl]; exact Tryz.sz8
                  by_cases hc : c = 64
                  · obtain rfl : c = 64 := hc
                    obtain rfl : m = 64 := by omega
                    go_wp2_with (first
                      | (go_at_call 112; refine (block_any sk b2 _ _ _ hlj (unhide hAKr) (unhide hST) hb64 (((unhide HBp).drop _).take _)).mono ?_; rintro ee w10 ⟨rfl, K10⟩; have A10 := (unhide hAD).kept K10 (by simp))
                      | (refine wpList_store_ar rfl 162 (.tmp 3) (.tmp 56) rfl b1 rfl _ _ _ A10 rfl (by rw [hbl]; exact hlj) hi6 ?_; intro w11 A11 K11 z11))
                    go_roundw
                    case rel =>
                      refine ⟨j + 1, 0, 0, some a, by omega, rfl, by have := unhide HML; omega, unhide HO1, ?_, (((unhide hKr).drew).trans (K10.mono (by simp))).trans K11, ?_⟩
                      · have := unhide hSD; rwa [if_pos trivial] at this
                      · rw [blks_succ, ← unhide HSK]; exact A11
                    case measure => show 0 < 64; omega
                  · go_wp2_with (first
                      | (go_at_call 112; refine (block_any sk b2 _ _ _ hlj (unhide hAKr) (unhide hST) hb64 (((unhide HBp).drop _).take _)).mono ?_; rintro ee w10 ⟨rfl, K10⟩; have A10 := (unhide hAD).kept K10 (by simp))
                      | (refine wpList_store_ar rfl 162 (.tmp 3) (.tmp 56) rfl b1 rfl _ _ _ A10 rfl (by rw [hbl]; exact hlj) hi6 ?_; intro w11 A11 K11 z11))
                    go_roundw
                    case rel =>
                      refine ⟨j + 1, m - 64, c - 64, some (a.add 64), by omega, rfl, by have := unhide HML; omega, ?_, ?_, (((unhide hKr).drew).trans (K10.mono (by simp))).trans K11, ?_⟩
                      · intro i hi
                        have : i = a.block := by have e := hi; simp only [Value.ownBlock, Option.some.injEq] at e; rw [← e]
                        rw [this]; exact hab1
                      · have := unhide hSD; rwa [if_neg hc] at this
                      · rw [blks_succ, ← unhide HSK]; exact A11
                    case measure => show m - 64 < m; omega
                · obtain rfl : j = q := by omega
                  obtain rfl : m = 0 := by omega
                  obtain ⟨w10, hw10⟩ : ∃ w10, w10 = wr := ⟨_, rfl⟩
                  subst hw10
                  obtain ⟨s2, hs2⟩ : ∃ s2, s2 = blks j s1 pp := ⟨_, rfl⟩
                  rw [← hs2] at Aj hlj
                  have hfin : lay8 s2 = sha bs := by
                    have e1 := unhide HN
                    have e2 := unhide HK64
                    unfold sha fin8
                    rw [← e1, ← e2, hs2, unhide HS1, unhide HQ, unhide HPP, unhide HRS, Nat.mul_comm k 64]
                  have HF := hide hfin
                  have hA10 := hide Aj
                  have hl10 := Aj.lt
                  have hK10 : Hid (Kp [] w w10) := ((unhide hK9w).trans Kr).then (Kp.refl [] w10) (by simp) |>.below (Nat.le_refl _) (by simp; omega) |> fun h => ⟨h.os, h.tape, h.output, h.size, fun k hk _ => h.block k hk⟩
                  clear Sj Kr Aj hs2 hfin hA9 hA29 hK9w hS9 ho1 hm hmc
                  go_wp2_with fail
                  go_loopw [8, 9] (fun v i wr => ∃ (k m c : Nat) (ao : Option Addr), k ≤ 8 ∧ v = .slice ao m c ∧ i = .int .i64 k ∧ Row wr w10.heap.size v (lay8 (s2.take k)) ∧ Kp [] w10 wr) (fun _ i _ => 8 - (intOf i).toNat)
                  case atStart => exact ⟨0, 0, 0, none, by omega, rfl, rfl, ⟨rfl, .inl ⟨rfl, rfl⟩⟩, Kp.refl _ _⟩
                  case round =>
                    obtain ⟨k, m, c, ao, hk, rfl, rfl, Rr, Kr⟩ := hrel
                    by_cases hlt : k < 8
                    · have hlt2 : (k : Int) < 8 := by omega
                      have hck := ((unhide hA10).kept Kr (by simp)).cell k (by omega)
                      have hsn := lay8_snoc s2 k (by omega)
                      obtain ⟨x, hx⟩ : ∃ x, x = s2.getD k 0 := ⟨_, rfl⟩
                      rw [← hx] at hck hsn
                      have HS := hide hsn
                      have hll : (lay8 (s2.take k)).length ≤ 32 := by rw [lay8_len]; simp; omega
                      have hRr := hide Rr
                      have hKr := hide Kr
                      clear hx hsn Rr Kr
                      have hnb : b1 ∉ (Value.slice ao m c).ownBlock.toList := by intro h; have := (unhide hRr).own b1 (by simpa using h); omega
                      go_wp2_with fail
                      go_region_held3 (fun W => W.cell? ⟨b1, k, none⟩ = some (.int .u32 x)) (first | go_keep | exact s2'.1.cell (((Kp.refl [] wr).alloc _).drew.cell hck (by simp)) hnb) ((refine step_append_row (by rfl) (.tmp 63) (.tmp 83) (by rfl) w10.heap.size _ _ (by rfl) ((unhide hRr).kept ((Kp.refl [] wr).alloc _).drew (by simp)) _ [_, _, _, _] (by rfl) (Sl.block (cs := [_, _, _, _]) (t := 5) (heap_alloc_new wr _) (by simp [maxLen])) (by simp only [List.length_cons, List.length_nil]; omega) (by have := (unhide hKr).size; simp; omega) ?_; intro ao2 m2 c2 w2 r2 s2'))
                      go_wp2_with fail
                      go_roundw
                      case rel =>
                        refine ⟨k + 1, m2, c2, ao2, by omega, rfl, by go_num, ?_, (unhide hRr).step (unhide hKr) (s2'.after ((Kp.refl [] wr).alloc _).drew)⟩
                        rw [unhide HS]; exact r2
                      case measure => simp [intOf]; omega
                    · obtain rfl : k = 8 := by omega
                      rw [List.take_of_length_le (by omega), unhide HF] at Rr
                      go_wp2_with fail
                      go_ret
                      exact ⟨ao, m, c, rfl, owns_rebase Rr (fun i hi => Nat.le_trans (unhide hK10).size (Rr.own i hi)), (unhide hK10).trans Kr⟩
theorem refsum_at (vb : Value) (bs r : List Int) (hr : r = sha bs) (w : World) (hS : Sl w vb bs) (hB : Bs bs) (hl : bs.length ≤ 1000000000000) :
    Calls Tryz.prog 69 #[vb] w fun e w' => ∃ ao m c, e = .returned (.slice ao m c) ∧ Row w' w.heap.size (.slice ao m c) r ∧ Kp [] w w' := by
  subst hr
  exact refsum_any vb bs w hS hB hl
end Go.Proofs.YtillhpgdlmeajaaGreatDoor

/-
  The contracts of the reference's Tagged and of the law package's hex.
-/
namespace Go.Proofs.YtillhpgdlmeajaaGreatDoor
open Go.RowKit

set_option maxRecDepth 100000 in
set_option maxHeartbeats 1000000 in
theorem reftagged_any (tag : Int) (vl : Value) (l : List (Value × List Int)) (r : List Int) (hr : r = sha (tag :: cat l)) (w : World) (hL : Lists w vl l) (h0 : 0 ≤ tag) (h1 : tag ≤ 255) (hn : l.length ≤ 100000) (hm : ∀ x ∈ l, x.2.length ≤ 1000000) :
    Calls Tryz.prog 40 #[.int .u8 tag, vl] w fun e w' => ∃ ao m c, e = .returned (.slice ao m c) ∧ Row w' w.heap.size (.slice ao m c) r ∧ Kp [] w w' := by
  have hBl := hL.bs
  have HBl := hide hBl
  have HR := hide hr
  have HM := hide hm
  obtain ⟨al, cl, rfl, hll, hcell⟩ := hL
  have hlen : (l.length : Int) ≤ 100000 := by omega
  have HC := hide hcell
  clear hcell hr hm hBl hll
  go_enter Tryz.func40, Tryz.ntmps40
  go_wp2_with fail
  have R0 : Row (w.alloc (.cells #[.int .u8 tag] 5)) w.heap.size (.slice (some ⟨w.heap.size, 0, none⟩) 1 1) [tag] := row_of_block (bs := [tag]) (Nat.le_refl _) (heap_alloc_new w _) rfl (by simp [maxLen])
  have hR0 := hide R0
  clear R0
  go_loopw [5, 6] (fun v i wr => ∃ (k m c : Nat) (ao : Option Addr), k ≤ l.length ∧ v = .slice ao m c ∧ i = .int .i64 k ∧ Row wr w.heap.size v (tag :: cat (l.take k)) ∧ Kp [] w wr) (fun _ i _ => l.length - (intOf i).toNat)
  case atStart => exact ⟨0, 1, 1, some ⟨w.heap.size, 0, none⟩, Nat.zero_le _, rfl, rfl, by simpa [cat] using unhide hR0, (Kp.refl [] w).alloc _⟩
  case round =>
    obtain ⟨k, m, c, ao, hk, rfl, rfl, Rr, Kr⟩ := hrel
    by_cases hlt : k < l.length
    · have hlt2 : (k : Int) < (l.length : Int) := by omega
      obtain ⟨b, off, rfl, hc, hS, hB⟩ := unhide HC k hlt
      have hcl : (cat (l.take k)).length ≤ 100000 * 1000000 := by
        have e1 := cat_len (l.take k) 1000000 (fun x hx => unhide HM x (List.mem_of_mem_take hx))
        have e2 : (l.take k).length ≤ 100000 := by simp; omega
        exact Nat.le_trans e1 (Nat.mul_le_mul_right _ e2)
      have hxl := unhide HM l[k] (List.getElem_mem hlt)
      have hE := cat_take l k hlt
      obtain ⟨x, hx⟩ : ∃ x, x = l[k] := ⟨_, rfl⟩
      rw [← hx] at hc hS hxl hE
      have hcw := Kr.cell hc (by simp)
      have hSw := hS.kept Kr (by simp)
      obtain ⟨ax, cx, hxv⟩ : ∃ ax cx, x.1 = .slice ax x.2.length cx := by obtain ⟨ax, cx, e, _⟩ := hS; exact ⟨ax, cx, e⟩
      have HE := hide hE
      rw [hxv] at hSw hcw
      have HSw := hide hSw
      obtain ⟨nx, hnx⟩ : ∃ nx, nx = x.2.length := ⟨_, rfl⟩
      rw [← hnx] at HSw hcw
      clear hE hx hc hS hB hSw hxv HC hnx
      go_wp2_with (at_builtin; refine wpList_append_row rfl (.tmp 15) (.tmp 19) rfl w.heap.size _ _ rfl Rr _ x.2 rfl (unhide HSw) (by simp only [List.length_cons]; omega) Kr.size ?_; intro ao2 m2 c2 w2 r2 s2)
      go_roundw
      case rel =>
        refine ⟨k + 1, m2, c2, ao2, by omega, rfl, by go_num, ?_, Rr.step Kr s2⟩
        rw [unhide HE]; exact r2
      case measure => simp [intOf]; omega
    · obtain rfl : k = l.length := by omega
      rw [List.take_length] at Rr
      have hcl := cat_len l 1000000 (unhide HM)
      have hmul := Nat.mul_le_mul_right 1000000 hn
      have hRr := hide Rr
      have hKr := hide Kr
      have hBt : Hid (Bs (tag :: cat l)) := fun b hb => by
        rcases List.mem_cons.1 hb with rfl | hb
        · exact ⟨h0, h1⟩
        · exact cat_bs l (unhide HBl) b hb
      clear Rr Kr HC
      go_wp2_with (go_at_call 69; refine (refsum_at _ (tag :: cat l) r (unhide HR) _ (unhide hRr).sl (unhide hBt) (by simp only [List.length_cons]; omega)).mono ?_; rintro ee w3 ⟨ao3, m3, c3, rfl, R3, K3⟩)
      go_ret
      exact ⟨ao3, m3, c3, rfl, owns_rebase R3 (fun i hi => Nat.le_trans (unhide hKr).size (R3.own i hi)), (unhide hKr).trans K3⟩
end Go.Proofs.YtillhpgdlmeajaaGreatDoor

/-
  The contract of the reference's Digest.
-/
namespace Go.Proofs.YtillhpgdlmeajaaGreatDoor
open Go.RowKit

set_option maxRecDepth 100000 in
set_option maxHeartbeats 1000000 in
theorem refdigest_any (vb : Value) (bs : List Int) (d : Int) (hd : d = digP bs) (w : World) (hS : Sl w vb bs) (hB : Bs bs) (hl : bs.length ≤ 1000000) :
    Calls Tryz.prog 150 #[vb] w fun e w' => e = .returned (.int .u32 d) ∧ Kp [] w w' := by
  have HL := hide (lists1 hS hB)
  obtain ⟨ab, cb, hvb, _⟩ := hS
  obtain ⟨nb, hnb⟩ : ∃ n, n = bs.length := ⟨_, rfl⟩
  rw [← hnb] at hvb
  subst hvb
  obtain ⟨r, hr⟩ : ∃ r, r = sha (13 :: cat [(Value.slice ab nb cb, bs)]) := ⟨_, rfl⟩
  have HR := hide hr
  have HRL : Hid (r.length = 32) := by rw [hr]; exact sha_len _
  have HRB : Bs r := by rw [hr]; exact sha_bs _
  have HRD : d = val (r.take 4) := by rw [hr, hd, cat1]; rfl
  obtain ⟨x0, x1, x2, x3, tl, hrx⟩ : ∃ x0 x1 x2 x3 tl, r = x0 :: x1 :: x2 :: x3 :: tl := by
    match r, unhide HRL with
    | x0 :: x1 :: x2 :: x3 :: tl, _ => exact ⟨_, _, _, _, _, rfl⟩
  have b0 : 0 ≤ x0 ∧ x0 ≤ 255 := HRB x0 (by simp [hrx])
  have b1 : 0 ≤ x1 ∧ x1 ≤ 255 := HRB x1 (by simp [hrx])
  have b2 : 0 ≤ x2 ∧ x2 ≤ 255 := HRB x2 (by simp [hrx])
  have b3 : 0 ≤ x3 ∧ x3 ≤ 255 := HRB x3 (by simp [hrx])
  have HW : Hid (wd x0 x1 x2 x3 = d) := by rw [wd_val _ _ _ _ b0 b1 b2 b3, HRD, hrx]; rfl
  have HX := hide hrx
  obtain ⟨y0, y0'⟩ := b0
  obtain ⟨y1, y1'⟩ := b1
  obtain ⟨y2, y2'⟩ := b2
  obtain ⟨y3, y3'⟩ := b3
  clear hd hr hnb hB HRB HRD hrx
  go_enter Tryz.func150, Tryz.ntmps150
  go_wp2_with (go_at_call 40; refine (reftagged_any 13 _ _ r (unhide HR) _ (unhide HL) (by omega) (by omega) (by simp) (by simpa using hl)).mono ?_; rintro ee w2 ⟨ao2, m2, c2, rfl, R2, K2⟩; obtain rfl : m2 = 32 := R2.len.trans (unhide HRL))
  obtain ⟨b2, o2, rfl, hnn, hcell⟩ := R2.sl.spot (by omega)
  clear hnn
  have HK := hide (((Kp.refl [] w).alloc (.cells #[.slice ab nb cb] 22)).trans K2)
  have hq : ∀ k x, (x0 :: x1 :: x2 :: x3 :: tl)[k]? = some x → w2.cell? ⟨b2, o2 + k, none⟩ = some (.int .u8 x) := fun k x hx => by
    have e := unhide HX
    have hk : k < r.length := by rw [e]; exact (List.getElem?_eq_some_iff.1 hx).1
    rw [hcell k hk]
    have : r[k] = x := by
      have h1 : r[k]? = some x := by rw [e]; exact hx
      rw [List.getElem?_eq_getElem hk] at h1
      exact Option.some.inj h1
    rw [this]
  have q0 := hq 0 x0 rfl
  have q1 := hq 1 x1 rfl
  have q2 := hq 2 x2 rfl
  have q3 := hq 3 x3 rfl
  rw [Nat.add_zero] at q0
  clear R2 K2 hcell HL HR HX HRL hq
  go_quiet (fail)
  go_wp2_with fail
  go_ret
  exact ⟨congrArg (fun x => Ending.returned (Value.int .u32 x)) (unhide HW), (unhide HK).trans (kp_drewN _ _)⟩
end Go.Proofs.YtillhpgdlmeajaaGreatDoor
