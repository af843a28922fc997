/-
  The contract of the reference's block: one block of 64 bytes.
-/
import Derived.Test.YtioflclfgkcpfaaDoorKHAll
namespace Go.Proofs.YtioflclfgkcpfaaDoor
open Go.RowKit

theorem ad_comm (x y : Int) : ad x y = ad y x := by unfold ad; rw [Int.add_comm]
theorem next_ref (x0 x1 x2 x3 : Int) : (x3 + bits .xor .u32 (bits .xor .u32 (rot x2 7) (rot x2 18)) (x2 / 8) + x1 + bits .xor .u32 (bits .xor .u32 (rot x0 17) (rot x0 19)) (x0 / 1024)) % 4294967296 = ad (ad (ad (sS1 x0) x1) (sS0 x2)) x3 := by
  rw [ad4]
  show (x3 + sS0 x2 + x1 + sS1 x0) % 4294967296 = _
  congr 1
  omega
theorem blk_ref (h bs : List Int) : List.zipWith ad h (rds (sch bs 64) h 64) = blk h bs := by
  unfold blk
  rw [List.zipWith_comm]
  congr 1
  funext x y
  exact ad_comm y x

theorem rnd_raw (a b c d e f g h k w : Int) : rnd [a, b, c, d, e, f, g, h] k w = [((h + bits .xor .u32 (bits .xor .u32 (rot e 6) (rot e 11)) (rot e 25) + bits .xor .u32 (bits .and .u32 e f) (bits .and .u32 (bits .xor .u32 IntKind.u32.max e) g) + k + w) % 4294967296 + (bits .xor .u32 (bits .xor .u32 (rot a 2) (rot a 13)) (rot a 22) + bits .xor .u32 (bits .xor .u32 (bits .and .u32 a b) (bits .and .u32 a c)) (bits .and .u32 b c)) % 4294967296) % 4294967296, a, b, c, (d + (h + bits .xor .u32 (bits .xor .u32 (rot e 6) (rot e 11)) (rot e 25) + bits .xor .u32 (bits .and .u32 e f) (bits .and .u32 (bits .xor .u32 IntKind.u32.max e) g) + k + w) % 4294967296) % 4294967296, e, f, g] := by
  rw [rnd_eq]
  simp only [bS0, bS1, chs, maj]
theorem rnd_raw2 (a b c d e f g h k w : Int) : rnd [a, b, c, d, e, f, g, h] k w = [(h + bits .xor .u32 (bits .xor .u32 (rot e 6) (rot e 11)) (rot e 25) + bits .xor .u32 (bits .and .u32 e f) (bits .and .u32 (bits .xor .u32 IntKind.u32.max e) g) + k + w + (bits .xor .u32 (bits .xor .u32 (rot a 2) (rot a 13)) (rot a 22) + bits .xor .u32 (bits .xor .u32 (bits .and .u32 a b) (bits .and .u32 a c)) (bits .and .u32 b c))) % 4294967296, a, b, c, (d + (h + bits .xor .u32 (bits .xor .u32 (rot e 6) (rot e 11)) (rot e 25) + bits .xor .u32 (bits .and .u32 e f) (bits .and .u32 (bits .xor .u32 IntKind.u32.max e) g) + k + w)) % 4294967296, e, f, g] := by
  rw [rnd_raw]
  simp only [List.cons.injEq, and_true, true_and]
  constructor <;> omega
set_option maxRecDepth 100000 in
set_option maxHeartbeats 2000000 in
theorem block_any (h0 : List Int) (bk : Nat) (vb : Value) (bs : List Int) (w : World) (hh : h0.length = 8) (hk0 : Ar w bk 75 consts) (hS : Sl w vb bs) (hl : bs.length = 64) (hB : Bs bs) :
    Calls Tryd.prog 56 #[ag h0, .pointer (some ⟨bk, 0, none⟩), vb] w fun e w' => e = .returned (ag (blk h0 bs)) ∧ Kp [] w w' := by
  obtain ⟨i0, hi0, hz0⟩ := Tryd.zero64
  obtain ⟨i8, hi8, hz8⟩ := Tryd.zero8
  obtain ⟨ab, cb, rfl, h1, h2, h4⟩ := hS.at hl (by omega)
  have h1i : (64 : Int) ≤ (cb : Int) := by omega
  have H4 := hide h4
  have hab : ab.block < w.heap.size := by have := World.block_lt_of_cell? _ _ (h4 0 (by omega)); rwa [add_block] at this
  have hbk := hk0.lt
  have HK0 := hide hk0
  clear h4 hS hk0
  go_enter Tryd.func56, Tryd.ntmps56
  go_wp2_with (first
    | (refine wpList_box_ar (w := w) rfl 74 (.tmp 0) rfl _ rfl ?_; intro wa Aa Ka za)
    | (refine wpList_alloc_ar (w := wa) rfl 74 rfl i8 _ hi8 hz8 ?_; intro wb Ab Kb zb)
    | (refine wpList_alloc_ar (w := wb) rfl 75 rfl i0 _ hi0 hz0 ?_; intro w1 A1 K1 z1))
  obtain ⟨b1, hb1⟩ : ∃ b, b = w.heap.size := ⟨_, rfl⟩
  obtain ⟨b2, hb2⟩ : ∃ b, b = b1 + 1 := ⟨_, rfl⟩
  obtain ⟨b3, hb3⟩ : ∃ b, b = b2 + 1 := ⟨_, rfl⟩
  rw [← hb1] at Aa
  rw [za, ← hb1, ← hb2] at Ab
  rw [zb, za, ← hb1, show b1 + 1 + 1 = b3 by omega] at A1
  have K2 := (Ka.trans Kb).trans K1
  have AH := (Aa.kept Kb (by simp)).kept K1 (by simp)
  have AR := Ab.kept K1 (by simp)
  have hbw : w.heap.size ≤ b1 := by omega
  have hb12 : b2 = b1 + 1 := hb2
  have hb13 : b3 = b1 + 2 := by omega
  simp only [← hb1, ← hb2, ← hb3]
  have HC : Hid (∀ j, j < 64 → w1.cell? (ab.add j) = some (.int .u8 (bs.getD j 0))) := fun j hj => K2.cell (unhide H4 j hj) (by simp)
  have HKK := hide ((unhide HK0).kept K2 (by simp))
  have hAH := hide AH
  have hAR := hide AR
  have hA1 := hide A1
  have hK2 := hide K2
  have HB12 := hide hb12
  have HB13 := hide hb13
  have hsz1 : w1.heap.size = b1 + 3 := by omega
  have HSZ := hide hsz1
  clear H4 hb1 hb2 hb3 Ka Kb K1 Aa Ab za zb z1 A1 AH AR K2 hb12 hb13 hsz1
  go_loopw [8] (fun i wr => ∃ k : Nat, k ≤ 16 ∧ i = .int .i64 k ∧ Kp [b3] w1 wr ∧ Ar wr b3 75 (sch bs k ++ List.replicate (64 - k) 0)) (fun i _ => 16 - (intOf i).toNat)
  case atStart => exact ⟨0, by omega, rfl, Kp.refl _ _, unhide hA1⟩
  case round =>
    obtain ⟨k, hk, rfl, Kr, Ak⟩ := hrel
    by_cases hlt : k < 16
    · have hlt2 : (k : Int) < 16 := by omega
      have hck : ∀ j, j < 64 → wr.cell? (ab.add j) = some (.int .u8 (bs.getD j 0)) := fun j hj => Kr.cell (unhide HC j hj) (by have := unhide HB13; rw [add_block]; simp; omega)
      obtain ⟨x0, hx0⟩ : ∃ x, x = bs.getD (4 * k) 0 := ⟨_, rfl⟩
      obtain ⟨x1, hx1⟩ : ∃ x, x = bs.getD (4 * k + 1) 0 := ⟨_, rfl⟩
      obtain ⟨x2, hx2⟩ : ∃ x, x = bs.getD (4 * k + 2) 0 := ⟨_, rfl⟩
      obtain ⟨x3, hx3⟩ : ∃ x, x = bs.getD (4 * k + 3) 0 := ⟨_, rfl⟩
      have hc0 := hck (4 * k) (by omega)
      have hc1 := hck (4 * k + 1) (by omega)
      have hc2 := hck (4 * k + 2) (by omega)
      have hc3 := hck (4 * k + 3) (by omega)
      rw [← hx0] at hc0
      rw [Addr.add_succ', ← hx1] at hc1
      rw [Addr.add_succ', ← hx2] at hc2
      rw [Addr.add_succ', ← hx3] at hc3
      have d0 := hB.at (4 * k)
      have d1 := hB.at (4 * k + 1)
      have d2 := hB.at (4 * k + 2)
      have d3 := hB.at (4 * k + 3)
      rw [← hx0] at d0
      rw [← hx1] at d1
      rw [← hx2] at d2
      rw [← hx3] at d3
      have hsch : sch bs (k + 1) = sch bs k ++ [wd x0 x1 x2 x3] := by simp only [sch, if_pos hlt, wordAt, hx0, hx1, hx2, hx3]
      have hset := sch_set bs k (by omega) _ hsch
      obtain ⟨ys, hys⟩ : ∃ ys, ys = sch bs k ++ List.replicate (64 - k) 0 := ⟨_, rfl⟩
      rw [← hys] at Ak hset
      have hyl : ys.length = 64 := by rw [hys]; simp [sch_len]; omega
      have hck' := Ak.cell k (by omega)
      have hfk := Ak.frozen k
      have HA := hide Ak
      have HS := hide hset
      have hkr := hide Kr
      obtain ⟨old, hold⟩ : ∃ old, old = ys.getD k 0 := ⟨_, rfl⟩
      rw [← hold] at hck'
      clear hck hx0 hx1 hx2 hx3 hsch hset hys Ak Kr hold
      go_wp2_with fail
      refine region_tail 35 Tryd.mixed (by kernel_rfl) ?_
      simp only [List.take_succ_cons, List.take_zero, List.drop_succ_cons, List.drop_zero]
      repeat (first | go_big_quiet_skip | (go_big_quiet_want; go_big_quiet_op; go_big_quiet_on))
      refine wpQuiet_nil ?_
      go_wp2_with fail
      go_roundw
      case rel =>
        refine ⟨k + 1, by omega, by go_num, ((unhide hkr).setCell (p := ⟨b3, k, none⟩) (.inl (by simp)) _).drew, ?_⟩
        rw [← unhide HS]
        exact (unhide HA).set k _
      case measure => simp [intOf]; omega
    · obtain rfl : k = 16 := by omega
      obtain ⟨w2, hw2⟩ : ∃ w2, w2 = wr := ⟨_, rfl⟩
      subst hw2
      have HK := hide Kr
      have hAk := hide Ak
      clear Kr Ak
      go_wp2_with fail
      go_loopw [9] (fun i wr => ∃ k : Nat, 16 ≤ k ∧ k ≤ 64 ∧ i = .int .i64 k ∧ Kp [b3] w1 wr ∧ Ar wr b3 75 (sch bs k ++ List.replicate (64 - k) 0)) (fun i _ => 64 - (intOf i).toNat)
      case atStart => exact ⟨16, by omega, by omega, rfl, unhide HK, unhide hAk⟩
      case round =>
        obtain ⟨k, hk1, hk, rfl, Kr, Ar1⟩ := hrel
        clear hAk HK
        by_cases hlt : k < 64
        · have hlt2 : (k : Int) < 64 := by omega
          have hk2 : (16 : Int) ≤ (k : Int) := by omega
          have hnl : ¬ k < 16 := by omega
          obtain ⟨ys, hys⟩ : ∃ ys, ys = sch bs k ++ List.replicate (64 - k) 0 := ⟨_, rfl⟩
          have hgd : ∀ j, j < k → ys.getD j 0 = (sch bs k).getD j 0 := fun j hj => by
            rw [hys, List.getD_eq_getElem?_getD, List.getD_eq_getElem?_getD, List.getElem?_append_left (by rw [sch_len]; exact hj)]
          have hyl : ys.length = 64 := by rw [hys]; simp [sch_len]; omega
          have hset := fun x hx => sch_set bs k (by omega) x hx
          rw [← hys] at Ar1 hset
          obtain ⟨x0, hx0⟩ : ∃ x, x = ys.getD (k - 2) 0 := ⟨_, rfl⟩
          obtain ⟨x1, hx1⟩ : ∃ x, x = ys.getD (k - 7) 0 := ⟨_, rfl⟩
          obtain ⟨x2, hx2⟩ : ∃ x, x = ys.getD (k - 15) 0 := ⟨_, rfl⟩
          obtain ⟨x3, hx3⟩ : ∃ x, x = ys.getD (k - 16) 0 := ⟨_, rfl⟩
          have hc0 := Ar1.cell (k - 2) (by omega)
          have hc1 := Ar1.cell (k - 7) (by omega)
          have hc2 := Ar1.cell (k - 15) (by omega)
          have hc3 := Ar1.cell (k - 16) (by omega)
          rw [← hx0] at hc0
          rw [← hx1] at hc1
          rw [← hx2] at hc2
          rw [← hx3] at hc3
          have hsch : sch bs (k + 1) = sch bs k ++ [ad (ad (ad (sS1 x0) x1) (sS0 x2)) x3] := by
            simp only [sch, if_neg hnl, nextW, hx0, hx1, hx2, hx3]
            rw [hgd _ (by omega), hgd _ (by omega), hgd _ (by omega), hgd _ (by omega)]
          have HS := hide (hset _ hsch)
          have HA := hide Ar1
          have hkr := hide Kr
          have hck' := Ar1.cell k (by omega)
          have hfk := Ar1.frozen k
          obtain ⟨old, hold⟩ : ∃ old, old = ys.getD k 0 := ⟨_, rfl⟩
          rw [← hold] at hck'
          clear hx0 hx1 hx2 hx3 hsch hset hys Ar1 Kr hold hgd
          go_wp2_with fail
          refine region_read Tryd.mixed (by kernel_rfl) ?_
          repeat (first | go_big_quiet_skip | (go_big_quiet_want; go_big_quiet_op; go_big_quiet_on))
          refine wpQuiet_nil ?_
          go_wp2_with fail
          refine region_tail 29 Tryd.mixed (by kernel_rfl) ?_
          simp only [List.take_succ_cons, List.take_zero, List.drop_succ_cons, List.drop_zero]
          repeat (first | go_big_quiet_skip | (go_big_quiet_want; go_big_quiet_op; first | go_big_quiet_on | (refine ⟨_, turn_any _ _ _ (by omega) (by omega), ?_⟩; go_big_quiet_on)))
          refine wpQuiet_nil ?_
          go_wp2_with fail
          go_roundw
          case rel =>
            refine ⟨k + 1, by omega, by omega, by go_num, (((unhide hkr).setCell (p := ⟨b3, k, none⟩) (.inl (by simp)) _).drew).drew, ?_⟩
            rw [← unhide HS, ← next_ref]
            exact (unhide HA).set k _
          case measure => simp [intOf]; omega
        · obtain rfl : k = 64 := by omega
          obtain ⟨ws, hws⟩ : ∃ ws, ws = sch bs 64 := ⟨_, rfl⟩
          have hwl : ws.length = 64 := by rw [hws]; exact sch_len _ _
          have AW : Ar wr b3 75 ws := by rw [hws]; simpa using Ar1
          have AH := (unhide hAH).kept Kr (by have := unhide HB13; simp; omega)
          have AR := (unhide hAR).kept Kr (by have := unhide HB13; have := unhide HB12; simp; omega)
          have AK := (unhide HKK).kept Kr (by have := unhide HB13; simp; omega)
          have KW : Kp [] w wr := (unhide hK2).then Kr (by have := unhide HB13; simp; omega)
          obtain ⟨w4, hw4⟩ : ∃ w4, w4 = wr := ⟨_, rfl⟩
          subst hw4
          have HW := hide hws
          have hszw : w.heap.size ≤ w4.heap.size := KW.size
          have hl1 := AH.lt
          have hl2 := AR.lt
          have hl3 := AW.lt
          have hl4 := AK.lt
          have hi : (Tryd.prog.info? 74).map (·.size) = some h0.length := by rw [hh]; exact Tryd.sz8
          clear Ar1 Kr hws
          go_wp2_with (first
            | (refine wpList_load_ar rfl 74 (.tmp 3) rfl b1 rfl _ _ 8 22 AH Tryd.underlying74 hi ?_)
            | (refine wpList_alloc_ar (w := w4) rfl 74 rfl i8 _ hi8 hz8 ?_; intro w5 A5 K5 z5)
            | (refine wpList_store_ar rfl 74 (.tmp 12) (.tmp 99) rfl w4.heap.size rfl _ _ h0 A5 rfl (by rw [hh]; rfl) hi ?_; intro w6 A6 K6 z6))
          obtain ⟨b4, hb4⟩ : ∃ b, b = w4.heap.size := ⟨_, rfl⟩
          rw [← hb4] at A5 A6 K6 hl1 hl2 hl3 hl4
          simp only [← hb4]
          have n1 : b1 ≠ b4 := by omega
          have n2 : b2 ≠ b4 := by omega
          have n3 : b3 ≠ b4 := by omega
          have n4 : bk ≠ b4 := by omega
          have hb4w : w.heap.size ≤ b4 := by omega
          have hAW := hide ((AW.kept K5 (by simp)).kept K6 (by simp; omega))
          have hAH := hide ((AH.kept K5 (by simp)).kept K6 (by simp; omega))
          have hAR := hide ((AR.kept K5 (by simp)).kept K6 (by simp; omega))
          have hAK := hide ((AK.kept K5 (by simp)).kept K6 (by simp; omega))
          have hK6 : Hid (Kp [] w w6) := (KW.trans K5).then K6 (by simp; omega)
          have hA6 := hide A6
          clear A5 A6 K5 K6 z5 z6 AW AH AR AK KW hl1 hl2 hl3 hl4 hszw hb4
          go_loopw [13] (fun i wr => ∃ k : Nat, k ≤ 64 ∧ i = .int .i64 k ∧ Kp [b4] w6 wr ∧ Ar wr b4 74 (rds ws h0 k)) (fun i _ => 64 - (intOf i).toNat)
          case atStart => exact ⟨0, by omega, rfl, Kp.refl _ _, unhide hA6⟩
          case round =>
            obtain ⟨k, hk, rfl, Kr, Ak⟩ := hrel
            have hrl := rds_len ws h0 hh k
            by_cases hlt : k < 64
            · have hlt2 : (k : Int) < 64 := by omega
              have hcw := ((unhide hAW).kept Kr (by simpa using n3)).cell k (by omega)
              have hck := ((unhide hAK).kept Kr (by simpa using n4)).cell k (by simpa [consts] using hlt)
              obtain ⟨a, b, c, d, e, f, g, q, hrd⟩ := eight hrl
              rw [hrd] at Ak
              have hnx : rds ws h0 (k + 1) = rnd [a, b, c, d, e, f, g, q] (consts.getD k 0) (ws.getD k 0) := by simp only [rds, hrd]
              obtain ⟨x, hx⟩ : ∃ x, x = ws.getD k 0 := ⟨_, rfl⟩
              obtain ⟨y, hy⟩ : ∃ y, y = consts.getD k 0 := ⟨_, rfl⟩
              rw [← hx] at hcw hnx
              rw [← hy] at hck hnx
              have HN := hide hnx
              have c0 := Ak.cell 0 (by simp)
              have c1 := Ak.cell 1 (by simp)
              have c2 := Ak.cell 2 (by simp)
              have c3 := Ak.cell 3 (by simp)
              have c4 := Ak.cell 4 (by simp)
              have c5 := Ak.cell 5 (by simp)
              have c6 := Ak.cell 6 (by simp)
              have c7 := Ak.cell 7 (by simp)
              simp only [List.getD_cons_zero, List.getD_cons_succ] at c0 c1 c2 c3 c4 c5 c6 c7
              have hA := hide Ak
              have hkr := hide Kr
              clear Ak Kr hx hy hnx hrd hrl
              go_wp2_with fail
              refine region_read Tryd.mixed (by kernel_rfl) ?_
              repeat (first | go_big_quiet_skip | (go_big_quiet_want; go_big_quiet_op; go_big_quiet_on))
              refine wpQuiet_nil ?_
              go_wp2_with fail
              refine region_read Tryd.mixed (by kernel_rfl) ?_
              repeat (first | go_big_quiet_skip | (go_big_quiet_want; go_big_quiet_op; first | go_big_quiet_on | (refine ⟨_, turn_any _ _ _ (by omega) (by omega), ?_⟩; go_big_quiet_on)))
              refine wpQuiet_nil ?_
              go_wp2_with fail
              refine region_read Tryd.mixed (by kernel_rfl) ?_
              repeat (first | go_big_quiet_skip | (go_big_quiet_want; go_big_quiet_op; first | go_big_quiet_on | (refine ⟨_, turn_any _ _ _ (by omega) (by omega), ?_⟩; go_big_quiet_on)))
              refine wpQuiet_nil ?_
              have hA3 : Ar wr.drew.drew.drew b4 74 [a, b, c, d, e, f, g, q] := unhide hA
              go_wp2_with (refine wpList_store_ar rfl 74 (.tmp 12) (.tmp 181) rfl b4 rfl _ _ [_, _, _, _, _, _, _, _] hA3 rfl rfl Tryd.sz8 ?_; intro w9 A9 K9 z9)
              go_roundw
              case rel =>
                refine ⟨k + 1, by omega, by go_num, ((unhide hkr).drew.drew.drew).trans K9, ?_⟩
                rw [unhide HN, rnd_raw2]
                exact A9
              case measure => simp [intOf]; omega
            · obtain rfl : k = 64 := by omega
              clear hk hlt
              obtain ⟨tt, htt⟩ : ∃ tt, tt = rds ws h0 64 := ⟨_, rfl⟩
              rw [← htt] at Ak hrl
              have HT := hide htt
              have hAk := hide Ak
              have AH := (unhide hAH).kept Kr (by simpa using n1)
              have hAR8 := hide ((unhide hAR).kept Kr (by simpa using n2))
              have hKW : Hid (Kp [] w wr) := (unhide hK6).then Kr (by simp; omega)
              have h00 : h0 = List.zipWith ad (h0.take 0) tt ++ h0.drop 0 := by simp
              rw [h00] at AH
              have hAH8 := hide AH
              obtain ⟨w8, hw8⟩ : ∃ w8, w8 = wr := ⟨_, rfl⟩
              subst hw8
              have hb21 : b1 ≠ b2 := by have := unhide HB12; omega
              clear Ak Kr AH h00 htt hA6 hAW hAH hAR hAK hK6
              go_wp2_with fail
              go_loopw [18] (fun i wr => ∃ k : Nat, k ≤ 8 ∧ i = .int .i64 k ∧ Kp [b1] w8 wr ∧ Ar wr b1 74 (List.zipWith ad (h0.take k) tt ++ h0.drop k)) (fun i _ => 8 - (intOf i).toNat)
              case atStart => exact ⟨0, by omega, rfl, Kp.refl _ _, unhide hAH8⟩
              case round =>
                obtain ⟨k, hk, rfl, Kr, Ak⟩ := hrel
                clear hAH8
                have A9 := (unhide hAk).kept Kr (by simp; omega)
                by_cases hlt : k < 8
                · have hlt2 : (k : Int) < 8 := by omega
                  obtain ⟨ys, hys⟩ : ∃ ys, ys = List.zipWith ad (h0.take k) tt ++ h0.drop k := ⟨_, rfl⟩
                  have hz : (List.zipWith ad (h0.take k) tt).length = k := by simp; omega
                  have hyl : ys.length = 8 := by rw [hys]; simp [hz]; omega
                  have hset : ys.set k (ad (ys.getD k 0) (tt.getD k 0)) = List.zipWith ad (h0.take (k + 1)) tt ++ h0.drop (k + 1) := zip_step h0 tt k (by omega) (by omega) ys hys
                  rw [← hys] at Ak
                  have hc1 := Ak.cell k (by omega)
                  have hc2 := A9.cell k (by omega)
                  have hfk := Ak.frozen k
                  obtain ⟨x, hx⟩ : ∃ x, x = ys.getD k 0 := ⟨_, rfl⟩
                  obtain ⟨y, hy⟩ : ∃ y, y = tt.getD k 0 := ⟨_, rfl⟩
                  rw [← hx] at hc1 hset
                  rw [← hy] at hc2 hset
                  have HS := hide hset
                  have HA := hide Ak
                  have hkr := hide Kr
                  clear hx hy hset Ak Kr A9 hys hz
                  go_wp2_with fail
                  refine region_tail 9 Tryd.mixed (by kernel_rfl) ?_
                  simp only [List.take_succ_cons, List.take_zero, List.drop_succ_cons, List.drop_zero]
                  repeat (first | go_big_quiet_skip | (go_big_quiet_want; go_big_quiet_op; go_big_quiet_on))
                  refine wpQuiet_nil ?_
                  go_wp2_with fail
                  go_roundw
                  case rel =>
                    refine ⟨k + 1, by omega, by go_num, ((unhide hkr).setCell (p := ⟨b1, k, none⟩) (.inl (by simp)) _).drew, ?_⟩
                    rw [← unhide HS]
                    exact (unhide HA).set k _
                  case measure => simp [intOf]; omega
                · obtain rfl : k = 8 := by omega
                  have A10 := (unhide hAR8).kept Kr (by simp; omega)
                  have hfin : List.zipWith ad (h0.take 8) tt ++ h0.drop 8 = blk h0 bs := by
                    rw [List.take_of_length_le (by omega), List.drop_of_length_le (by omega), List.append_nil, unhide HT, unhide HW, blk_ref]
                  rw [hfin] at Ak
                  have hbl : (blk h0 bs).length = 8 := blk_len _ _ hh
                  have hib : (Tryd.prog.info? 74).map (·.size) = some (blk h0 bs).length := by rw [hbl]; exact Tryd.sz8
                  go_wp2_with (first
                    | (refine wpList_load_ar rfl 74 (.tmp 3) rfl b1 rfl _ _ 8 22 Ak Tryd.underlying74 hib ?_)
                    | (refine wpList_store_ar rfl 74 (.tmp 6) (.tmp 195) rfl b2 rfl _ _ _ A10 rfl (by rw [hbl]; rfl) hib ?_; intro w9 A9 K9 z9))
                  refine bodyPost_ret (results_cell_row rfl _ w9 b2 _ _ (0, 0) (.array 8 22) rfl A9 Tryd.underlying74 rfl (by simpa using hib)) rfl ?_
                  refine ⟨rfl, ?_⟩
                  have hbw2 : w.heap.size ≤ b2 := by have := unhide HB12; omega
                  exact ((unhide hKW).then Kr (by simp; omega)).then K9 (by simp; omega)
end Go.Proofs.YtioflclfgkcpfaaDoor
