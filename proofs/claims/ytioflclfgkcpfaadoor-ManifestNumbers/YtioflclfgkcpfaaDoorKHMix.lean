/-
  The contract of the program's mix: one block.
-/
import Derived.Test.YtioflclfgkcpfaaDoorKHSched
namespace Go.Proofs.YtioflclfgkcpfaaDoor
open Go.RowKit

/-- The table of the program's package, as its text lays it. -/
def Rw (w : World) : Prop := ∀ k, k < 64 → w.cell? ⟨0, k, none⟩ = some (.int .u32 (consts.getD k 0))
def Db (_ : World) : Prop := True
/-- The tables that the calls read. -/
structure Gl (w : World) : Prop where
  rw : Rw w
  db : Db w
  pos : 1 ≤ w.heap.size
theorem Gl.kept {w w' : World} {S : List Nat} (h : Gl w) (k : Kp S w w') (hs : ∀ b ∈ S, 1 ≤ b) : Gl w' where
  rw := fun j hj => k.cell (h.rw j hj) (fun hm => by have := hs _ hm; simp at this)
  db := trivial
  pos := Nat.le_trans h.pos k.size
theorem rds_len (ws : List Int) (s : List Int) (hs : s.length = 8) : ∀ n, (rds ws s n).length = 8
  | 0 => hs
  | n + 1 => by
    have ih := rds_len ws s hs n
    simp only [rds]
    unfold rnd
    split
    · rfl
    · exact ih
theorem eight {s : List Int} (h : s.length = 8) : ∃ a b c d e f g i, s = [a, b, c, d, e, f, g, i] := by
  match s, h with
  | [a, b, c, d, e, f, g, i], _ => exact ⟨a, b, c, d, e, f, g, i, rfl⟩

theorem zip_step (tt s0 : List Int) (k : Nat) (h1 : k < tt.length) (h2 : k < s0.length) (ys : List Int) (hys : ys = List.zipWith ad (tt.take k) s0 ++ tt.drop k) :
    ys.set k (ad (ys.getD k 0) (s0.getD k 0)) = List.zipWith ad (tt.take (k + 1)) s0 ++ tt.drop (k + 1) := by
  have hz : (List.zipWith ad (tt.take k) s0).length = k := by simp; omega
  have e1 : ys.getD k 0 = tt[k] := by rw [hys, List.getD_eq_getElem?_getD, List.getElem?_append_right (by omega), hz, Nat.sub_self]; simp [List.getElem?_eq_getElem h1]
  have e2 : s0.getD k 0 = s0[k] := by simp [List.getElem?_eq_getElem h2]
  rw [e1, e2, hys, List.set_append_right _ _ (by omega), hz, Nat.sub_self, List.drop_eq_getElem_cons h1, List.set_cons_zero]
  have e3 : List.zipWith ad (tt.take (k + 1)) s0 = List.zipWith ad (tt.take k) s0 ++ [ad tt[k] s0[k]] := by
    refine List.ext_getElem (by simp; omega) (fun i hi1 hi2 => ?_)
    rcases Nat.lt_or_ge i k with hik | hik
    · rw [List.getElem_append_left (by omega)]; simp
    · have : i = k := by simp at hi1; omega
      subst this
      rw [List.getElem_append_right (by omega)]
      simp [hz]
  rw [e3, List.append_assoc]
  rfl
theorem ad5 (a b c d e : Int) : ad (ad (ad (ad a b) c) d) e = (a + b + c + d + e) % 4294967296 := by unfold ad; omega
theorem rnd_eq (a b c d e f g h k w : Int) : rnd [a, b, c, d, e, f, g, h] k w = [((h + bS1 e + chs e f g + k + w) % 4294967296 + (bS0 a + maj a b c) % 4294967296) % 4294967296, a, b, c, (d + (h + bS1 e + chs e f g + k + w) % 4294967296) % 4294967296, e, f, g] := by
  simp only [rnd, ad5]
  rfl
set_option maxRecDepth 100000 in
set_option maxHeartbeats 4000000 in
theorem mix_any (s : List Int) (vb : Value) (bs : List Int) (w : World) (hs : s.length = 8) (hS : Sl w vb bs) (hl : bs.length = 64) (hB : Bs bs) (hG : Gl w) : Calls Tryd.prog 62 #[ag s, vb] w fun e w' => e = .returned (ag (blk s bs)) ∧ Kp [] w w' := by
  obtain ⟨i0, hi0, hz0⟩ := Tryd.zeroW
  obtain ⟨ws, hws⟩ : ∃ ws, ws = sch bs 64 := ⟨_, rfl⟩
  have hwl : ws.length = 64 := by rw [hws]; exact sch_len _ _
  have HW := hide hws
  have HB : Hid (Bs bs) := hB
  have HG : Hid (Gl w) := hG
  have hpos := hG.pos
  have HSl : Hid (Sl w vb bs) := hS
  clear hws hB hG hS
  obtain ⟨a, b, c, d, e, f, g, h, rfl⟩ := eight hs
  go_enter Tryd.func62, Tryd.ntmps62
  go_wp2_with (first
    | (refine wpList_box_ar (w := w) rfl 80 (.tmp 0) rfl _ rfl ?_; intro wa Aa Ka za)
    | (refine wpList_alloc_ar (w := wa) rfl 80 rfl i0 _ hi0 hz0 ?_; intro w1 A1 K1 z1))
  obtain ⟨b1, hb1⟩ : ∃ b, b = w.heap.size := ⟨_, rfl⟩
  obtain ⟨b2, hb2⟩ : ∃ b, b = b1 + 1 := ⟨_, rfl⟩
  have hne : b1 ≠ b2 := by omega
  rw [← hb1] at Aa
  rw [za, ← hb1, ← hb2] at A1
  have K2 := Ka.trans K1
  have A2 := Aa.kept K1 (by simp)
  simp only [← hb1]
  have hbw : w.heap.size ≤ b2 := by omega
  have hbw1 : w.heap.size ≤ b1 := by omega
  have HSl1 : Hid (Sl w1 vb bs) := (unhide HSl).kept K2 (by simp)
  have HG1 : Hid (Gl w1) := (unhide HG).kept K2 (by simp)
  have za' : wa.heap.size = b2 := by omega
  clear hb1 hb2 Ka K1 Aa za
  have c0 := A2.cell 0 (by simp)
  have c1 := A2.cell 1 (by simp)
  have c2 := A2.cell 2 (by simp)
  have c3 := A2.cell 3 (by simp)
  have c4 := A2.cell 4 (by simp)
  have c5 := A2.cell 5 (by simp)
  have c6 := A2.cell 6 (by simp)
  have c7 := A2.cell 7 (by simp)
  simp only [List.getD_cons_zero, List.getD_cons_succ] at c0 c1 c2 c3 c4 c5 c6 c7
  simp only [za', Act.put, List.set_cons_zero, List.set_cons_succ, List.setIfInBounds_toArray]
  refine region_read Tryd.mixed (by kernel_rfl) ?_
  repeat (first | go_big_quiet_skip | (go_big_quiet_want; go_big_quiet_op; go_big_quiet_on))
  refine wpQuiet_nil ?_
  go_wp2_with fail
  refine region_read Tryd.mixed (by kernel_rfl) ?_
  repeat (first | go_big_quiet_skip | (go_big_quiet_want; go_big_quiet_op; go_big_quiet_on))
  refine wpQuiet_nil ?_
  have kd : Kp [] w1 w1.drew.drew := (kp_drew _).trans (kp_drew _)
  go_wp2_with (refine (sched_any vb bs _ ((unhide HSl1).kept kd (by simp)) hl (unhide HB)).mono ?_; rintro ee w3 ⟨rfl, K3⟩; rw [← unhide HW])
  have K13 := kd.trans K3
  have HK13 := hide K13
  have HK2 := hide K2
  have A3 := A2.kept K13 (by simp)
  have A4 := A1.kept K13 (by simp)
  have HA3 := hide A3
  have HA4 := hide A4
  have HG3 : Hid (Gl w3) := (unhide HG1).kept K13 (by simp)
  have hsz : w.heap.size ≤ w3.heap.size := Nat.le_trans K2.size K13.size
  obtain ⟨s0, hs0⟩ : ∃ s, s = [a, b, c, d, e, f, g, h] := ⟨_, rfl⟩
  have hs08 : s0.length = 8 := by rw [hs0]; rfl
  have HS0 := hide hs0
  simp only [← hs0] at HA3 ⊢
  have hrd0 : rds ws s0 0 = [a, b, c, d, e, f, g, h] := hs0
  have HR0 := hide hrd0
  clear c0 c1 c2 c3 c4 c5 c6 c7 A1 A2 kd K3 K13 K2 A3 A4 HSl HSl1 HG HG1 hs hs0 z1 za' hrd0
  go_loopw [5, 6, 7, 8, 9, 10, 11, 12, 37] (fun va vb vc vd ve vf vg vh i wr => ∃ (k n : Nat) (a b c d e f g h : Int), k ≤ 64 ∧ i = .int .i64 k ∧ va = .int .u32 a ∧ vb = .int .u32 b ∧ vc = .int .u32 c ∧ vd = .int .u32 d ∧ ve = .int .u32 e ∧ vf = .int .u32 f ∧ vg = .int .u32 g ∧ vh = .int .u32 h ∧ rds ws s0 k = [a, b, c, d, e, f, g, h] ∧ wr = w3.drewN n) (fun _ _ _ _ _ _ _ _ i _ => 64 - (intOf i).toNat)
  case atStart => exact ⟨0, 0, a, b, c, d, e, f, g, h, by omega, rfl, rfl, rfl, rfl, rfl, rfl, rfl, rfl, rfl, unhide HR0, rfl⟩
  case round =>
    clear HR0
    obtain ⟨k, n, a', b', c', d', e', f', g', h', hk, rfl, rfl, rfl, rfl, rfl, rfl, rfl, rfl, rfl, hrd, rfl⟩ := hrel
    by_cases hlt : k < 64
    · have hlt2 : (k : Int) < 64 := by omega
      have hix := fun W => index64 ws k W hlt hwl
      have hgl := (unhide HG3).rw k hlt
      obtain ⟨x, hx⟩ : ∃ x, x = ws.getD k 0 := ⟨_, rfl⟩
      obtain ⟨y, hy⟩ : ∃ y, y = consts.getD k 0 := ⟨_, rfl⟩
      rw [← hy] at hgl
      simp only [← hx] at hix
      have hnx : rds ws s0 (k + 1) = rnd [a', b', c', d', e', f', g', h'] y x := by simp only [rds, hrd, hx, hy]
      have HN := hide hnx
      clear hx hy hrd hnx
      go_wp2_with fail
      refine region_read Tryd.mixed (by kernel_rfl) ?_
      repeat (first | go_big_quiet_skip | (go_big_quiet_want; go_big_quiet_op; first | go_big_quiet_on | (refine ⟨_, bS1_any _ _, ?_⟩; go_big_quiet_on) | (refine ⟨_, chs_any _ _ _ _, ?_⟩; go_big_quiet_on)))
      refine wpQuiet_nil ?_
      go_wp2_with (first
        | (go_at_call 66; refine (bS0_any _ _).mono ?_; rintro ee w5 ⟨rfl, hw5⟩; subst w5)
        | (go_at_call 67; refine (maj_any _ _ _ _).mono ?_; rintro ee w5 ⟨rfl, hw5⟩; subst w5))
      go_roundw
      case rel => exact ⟨k + 1, n + 1, _, _, _, _, _, _, _, _, by omega, by go_num, rfl, rfl, rfl, rfl, rfl, rfl, rfl, rfl, (unhide HN).trans (rnd_eq ..), rfl⟩
      case measure => simp [intOf]; omega
    · obtain rfl : k = 64 := by omega
      clear hk hlt
      have HR := hide hrd
      clear hrd
      obtain ⟨w4, hw4⟩ : ∃ w4, w4 = w3.drewN n := ⟨_, rfl⟩
      have K34 : Kp [] w3 w4 := by rw [hw4]; exact kp_drewN w3 n
      rw [← hw4]
      have HK := hide (((unhide HK2).trans (unhide HK13)).trans K34)
      have HB1 := hide ((unhide HA3).kept K34 (by simp))
      have HB2 := hide ((unhide HA4).kept K34 (by simp))
      have hsz4 : w.heap.size ≤ w4.heap.size := Nat.le_trans hsz K34.size
      have hl1 := (unhide HB1).lt
      have hl2 := (unhide HB2).lt
      clear hw4 K34 HK2 HK13 HA3 HA4 HG3 hsz
      go_wp2_with (first
        | (refine wpList_alloc_ar (w := w4) rfl 80 rfl i0 _ hi0 hz0 ?_; intro w5 A5 K5 z5)
        | (refine wpList_store_ar rfl 80 (.tmp 17) (.tmp 84) rfl w4.heap.size rfl _ _ [a', b', c', d', e', f', g', h'] A5 rfl rfl Tryd.szW ?_; intro w6 A6 K6 z6))
      obtain ⟨b3, hb3⟩ : ∃ b, b = w4.heap.size := ⟨_, rfl⟩
      rw [← hb3] at A5 A6 K6 hl1 hl2
      simp only [← hb3]
      have A7 := (((unhide HB1).kept K5 (by simp)).kept K6 (by simp; omega))
      have A8 := (((unhide HB2).kept K5 (by simp)).kept K6 (by simp; omega))
      have K7 : Kp [] w w6 := ((unhide HK).trans K5).then K6 (by simp; omega)
      obtain ⟨tt, htt⟩ : ∃ tt, tt = [a', b', c', d', e', f', g', h'] := ⟨_, rfl⟩
      rw [← htt] at A6 HR
      have htl : tt.length = 8 := by rw [htt]; rfl
      have hA7 := hide A7
      have hA8 := hide A8
      have hK7 := hide K7
      have h0 : tt = List.zipWith ad (tt.take 0) s0 ++ tt.drop 0 := by simp
      rw [h0] at A6
      have hA6 := hide A6
      have hbw3 : w.heap.size ≤ b3 := by omega
      clear hb3 A5 K5 z5 K6 z6 A7 A8 K7 htt HB1 HB2 HK A6 h0 hsz4
      go_loopw [85] (fun i wr => ∃ k : Nat, k ≤ 8 ∧ i = .int .i64 k ∧ Kp [b3] w6 wr ∧ Ar wr b3 80 (List.zipWith ad (tt.take k) s0 ++ tt.drop k)) (fun i _ => 8 - (intOf i).toNat)
      case atStart => exact ⟨0, by omega, rfl, Kp.refl _ _, unhide hA6⟩
      case round =>
        obtain ⟨k, hk, rfl, Kr, Ak⟩ := hrel
        clear hA6
        have A9 := (unhide hA7).kept Kr (by simp; omega)
        by_cases hlt : k < 8
        · have hlt2 : (k : Int) < 8 := by omega
          obtain ⟨ys, hys⟩ : ∃ ys, ys = List.zipWith ad (tt.take k) s0 ++ tt.drop k := ⟨_, rfl⟩
          have hz : (List.zipWith ad (tt.take k) s0).length = k := by simp; omega
          have hyl : ys.length = 8 := by rw [hys]; simp [hz]; omega
          have hset : ys.set k (ad (ys.getD k 0) (s0.getD k 0)) = List.zipWith ad (tt.take (k + 1)) s0 ++ tt.drop (k + 1) := zip_step tt s0 k (by omega) (by omega) ys hys
          rw [← hys] at Ak
          have hc1 := Ak.cell k (by omega)
          have hc2 := A9.cell k (by omega)
          have hfk := Ak.frozen k
          obtain ⟨x, hx⟩ : ∃ x, x = ys.getD k 0 := ⟨_, rfl⟩
          obtain ⟨y, hy⟩ : ∃ y, y = s0.getD k 0 := ⟨_, rfl⟩
          rw [← hx] at hc1 hset
          rw [← hy] at hc2 hset
          have HS := hide hset
          have HA := hide Ak
          have hkr := hide Kr
          clear hx hy hset Ak Kr A9 hys hz
          go_wp2_with fail
          refine region_tail 8 Tryd.mixed (by kernel_rfl) ?_
          simp only [List.take_succ_cons, List.take_zero, List.drop_succ_cons, List.drop_zero]
          repeat (first | go_big_quiet_skip | (go_big_quiet_want; go_big_quiet_op; go_big_quiet_on))
          refine wpQuiet_nil ?_
          go_wp2_with fail
          go_roundw
          case rel =>
            refine ⟨k + 1, by omega, by go_num, ((unhide hkr).setCell (p := ⟨b3, k, none⟩) (.inl (by simp)) _).drew, ?_⟩
            rw [← unhide HS]
            exact (unhide HA).set k _
          case measure => simp [intOf]; omega
        · obtain rfl : k = 8 := by omega
          have A10 := (unhide hA8).kept Kr (by simp; omega)
          have hfin : List.zipWith ad (tt.take 8) s0 ++ tt.drop 8 = blk s0 bs := by
            rw [List.take_of_length_le (by omega), List.drop_of_length_le (by omega), List.append_nil]
            unfold blk
            rw [← unhide HW, unhide HR]
          rw [hfin] at Ak
          have hbl : (blk s0 bs).length = 8 := by rw [← hfin]; simp; omega
          have hi : (Tryd.prog.info? 80).map (·.size) = some (blk s0 bs).length := by rw [hbl]; exact Tryd.szW
          go_wp2_with (first
            | (refine wpList_load_ar rfl 80 (.tmp 17) rfl b3 rfl _ _ 8 22 Ak Tryd.underlying80 hi ?_)
            | (refine wpList_store_ar rfl 80 (.tmp 4) (.tmp 97) rfl b2 rfl _ _ _ A10 rfl (by rw [hbl]; rfl) hi ?_; intro w9 A9 K9 z9))
          refine bodyPost_ret (results_cell_row rfl _ w9 b2 _ _ (0, 0) (.array 8 22) rfl A9 Tryd.underlying80 rfl (by simpa using hi)) rfl ?_
          refine ⟨?_, ?_⟩
          · rw [← unhide HS0]; rfl
          · exact ((unhide hK7).then Kr (by simp; omega)).then K9 (by simp; omega)
end Go.Proofs.YtioflclfgkcpfaaDoor
