/-
  The contract of the program's schedule: the words of a block.
-/
import Derived.Test.YtillhpgdlmeajaaGreatDoorKHBases
namespace Go.Proofs.YtillhpgdlmeajaaGreatDoor
open Go.RowKit
theorem sch_set (bs : List Int) (k : Nat) (hk : k < 64) (x : Int) (hx : sch bs (k + 1) = sch bs k ++ [x]) : (sch bs k ++ List.replicate (64 - k) 0).set k x = sch bs (k + 1) ++ List.replicate (64 - (k + 1)) 0 := by
  have h := sch_len bs k
  rw [hx, List.set_append_right _ _ (by omega), h, Nat.sub_self, show 64 - k = (64 - (k + 1)) + 1 by omega, List.replicate_succ, List.set_cons_zero, List.append_assoc]
  rfl
theorem ad4 (a b c d : Int) : ad (ad (ad a b) c) d = (a + b + c + d) % 4294967296 := by unfold ad; omega
set_option maxRecDepth 100000 in
theorem sched_any (vb : Value) (bs : List Int) (w : World) (hS : Sl w vb bs) (hl : bs.length = 64) (hB : Bs bs) : Calls Tryz.prog 171 #[vb] w fun e w' => e = .returned (ag (sch bs 64)) ∧ Kp [] w w' := by
  obtain ⟨i0, hi0, hz0⟩ := Tryz.zero64
  obtain ⟨ab, cb, rfl, h1, h2, h4⟩ := hS.at hl (by omega)
  have h1i : (64 : Int) ≤ (cb : Int) := by omega
  have H4 := hide h4
  have hab : ab.block < w.heap.size := by have := World.block_lt_of_cell? _ _ (h4 0 (by omega)); rwa [add_block] at this
  clear h4 hS
  go_enter Tryz.func171, Tryz.ntmps171
  go_wp2_with (first
    | (refine wpList_alloc_ar (w := w) rfl 163 rfl i0 _ hi0 hz0 ?_; intro wa Aa Ka za)
    | (refine wpList_alloc_ar (w := wa) rfl 163 rfl i0 _ hi0 hz0 ?_; intro w1 A1 K1 z1))
  obtain ⟨b1, hb1⟩ : ∃ b, b = w.heap.size := ⟨_, rfl⟩
  obtain ⟨b2, hb2⟩ : ∃ b, b = b1 + 1 := ⟨_, rfl⟩
  have hne : b1 ≠ b2 := by omega
  rw [← hb1] at Aa
  rw [za, ← hb1, ← hb2] at A1
  have K2 := Ka.trans K1
  have A2 := Aa.kept K1 (by simp)
  simp only [← hb1, ← hb2]
  have HC : Hid (∀ j, j < 64 → w1.cell? (ab.add j) = some (.int .u8 (bs.getD j 0))) := fun j hj => K2.cell (unhide H4 j hj) (by simp)
  have hbw : w.heap.size ≤ b2 := by omega
  have hbw1 : w.heap.size ≤ b1 := by omega
  clear H4 hb1 hb2 Ka K1 Aa za z1
  go_loopw [7] (fun i wr => ∃ k : Nat, k ≤ 16 ∧ i = .int .i64 k ∧ Kp [b2] w1 wr ∧ Ar wr b2 163 (sch bs k ++ List.replicate (64 - k) 0)) (fun i _ => 16 - (intOf i).toNat)
  case atStart => exact ⟨0, by omega, rfl, Kp.refl _ _, A1⟩
  case round =>
    obtain ⟨k, hk, rfl, Kr, Ak⟩ := hrel
    by_cases hlt : k < 16
    · have hlt2 : (k : Int) < 16 := by omega
      have hcbk : ¬ (cb = 4 * k) := by omega
      have hs4 : 4 * k + 4 - 4 * k = 4 := by omega
      have hck : ∀ j, j < 64 → wr.cell? (ab.add j) = some (.int .u8 (bs.getD j 0)) := fun j hj => Kr.cell (unhide HC j hj) (by rw [add_block]; simp; omega)
      obtain ⟨x0, hx0⟩ : ∃ x, x = bs.getD (4 * k) 0 := ⟨_, rfl⟩
      obtain ⟨x1, hx1⟩ : ∃ x, x = bs.getD (4 * k + 1) 0 := ⟨_, rfl⟩
      obtain ⟨x2, hx2⟩ : ∃ x, x = bs.getD (4 * k + 2) 0 := ⟨_, rfl⟩
      obtain ⟨x3, hx3⟩ : ∃ x, x = bs.getD (4 * k + 3) 0 := ⟨_, rfl⟩
      have hc0 := hck (4 * k) (by omega)
      have hc1 := hck (4 * k + 1) (by omega)
      have hc2 := hck (4 * k + 2) (by omega)
      have hc3 := hck (4 * k + 3) (by omega)
      rw [← hx0] at hc0
      rw [← add_at ab (4 * k) 0, ← hx1] at hc1
      rw [← add_at ab (4 * k) 1, ← hx2] at hc2
      rw [← add_at ab (4 * k) 2, ← hx3] at hc3
      have d0 := hB.at (4 * k)
      have d1 := hB.at (4 * k + 1)
      have d2 := hB.at (4 * k + 2)
      have d3 := hB.at (4 * k + 3)
      rw [← hx0] at d0
      rw [← hx1] at d1
      rw [← hx2] at d2
      rw [← hx3] at d3
      have hsch : sch bs (k + 1) = sch bs k ++ [wd x0 x1 x2 x3] := by simp only [sch, if_pos hlt, wordAt, hx0, hx1, hx2, hx3]
      have hset := sch_set bs k (by omega) _ hsch
      obtain ⟨ys, hys⟩ : ∃ ys, ys = sch bs k ++ List.replicate (64 - k) 0 := ⟨_, rfl⟩
      rw [← hys] at Ak hset
      have hyl : ys.length = 64 := by rw [hys]; simp [sch_len]; omega
      have hck' := Ak.cell k (by omega)
      have hfk := Ak.frozen k
      have HA := hide Ak
      have HS := hide hset
      have hkr := hide Kr
      obtain ⟨old, hold⟩ : ∃ old, old = ys.getD k 0 := ⟨_, rfl⟩
      rw [← hold] at hck'
      clear hck hx0 hx1 hx2 hx3 hsch hset hys Ak Kr hold
      go_wp2_with fail
      refine region_tail 24 Tryz.mixed (by kernel_rfl) ?_
      simp only [List.take_succ_cons, List.take_zero, List.drop_succ_cons, List.drop_zero]
      repeat (first | go_big_quiet_skip | (go_big_quiet_want; go_big_quiet_op; go_big_quiet_on))
      refine wpQuiet_nil ?_
      go_wp2_with fail
      go_roundw
      case rel =>
        refine ⟨k + 1, by omega, by go_num, ((unhide hkr).setCell (p := ⟨b2, k, none⟩) (.inl (by simp)) _).drew, ?_⟩
        rw [← unhide HS]
        exact (unhide HA).set k _
      case measure => simp [intOf]; omega
    · obtain rfl : k = 16 := by omega
      obtain ⟨w2, hw2⟩ : ∃ w2, w2 = wr := ⟨_, rfl⟩
      subst hw2
      have HK := hide Kr
      clear A1 Kr
      go_wp2_with fail
      go_loopw [6] (fun i wr => ∃ k : Nat, 16 ≤ k ∧ k ≤ 64 ∧ i = .int .i64 k ∧ Kp [b2] w1 wr ∧ Ar wr b2 163 (sch bs k ++ List.replicate (64 - k) 0)) (fun i _ => 64 - (intOf i).toNat)
      case atStart => exact ⟨16, by omega, by omega, rfl, unhide HK, Ak⟩
      case round =>
        obtain ⟨k, hk1, hk, rfl, Kr, Ar1⟩ := hrel
        clear Ak HK
        by_cases hlt : k < 64
        · have hlt2 : (k : Int) < 64 := by omega
          have hk2 : (16 : Int) ≤ (k : Int) := by omega
          have hnl : ¬ k < 16 := by omega
          obtain ⟨ys, hys⟩ : ∃ ys, ys = sch bs k ++ List.replicate (64 - k) 0 := ⟨_, rfl⟩
          have hgd : ∀ j, j < k → ys.getD j 0 = (sch bs k).getD j 0 := fun j hj => by
            rw [hys, List.getD_eq_getElem?_getD, List.getD_eq_getElem?_getD, List.getElem?_append_left (by rw [sch_len]; exact hj)]
          have hyl : ys.length = 64 := by rw [hys]; simp [sch_len]; omega
          have hset := fun x hx => sch_set bs k (by omega) x hx
          rw [← hys] at Ar1 hset
          obtain ⟨x0, hx0⟩ : ∃ x, x = ys.getD (k - 2) 0 := ⟨_, rfl⟩
          obtain ⟨x1, hx1⟩ : ∃ x, x = ys.getD (k - 7) 0 := ⟨_, rfl⟩
          obtain ⟨x2, hx2⟩ : ∃ x, x = ys.getD (k - 15) 0 := ⟨_, rfl⟩
          obtain ⟨x3, hx3⟩ : ∃ x, x = ys.getD (k - 16) 0 := ⟨_, rfl⟩
          have hc0 := Ar1.cell (k - 2) (by omega)
          have hc1 := Ar1.cell (k - 7) (by omega)
          have hc2 := Ar1.cell (k - 15) (by omega)
          have hc3 := Ar1.cell (k - 16) (by omega)
          rw [← hx0] at hc0
          rw [← hx1] at hc1
          rw [← hx2] at hc2
          rw [← hx3] at hc3
          have hsch : sch bs (k + 1) = sch bs k ++ [ad (ad (ad (sS1 x0) x1) (sS0 x2)) x3] := by
            simp only [sch, if_neg hnl, nextW, hx0, hx1, hx2, hx3]
            rw [hgd _ (by omega), hgd _ (by omega), hgd _ (by omega), hgd _ (by omega)]
          have HS := hide (hset _ hsch)
          have HA := hide Ar1
          have hkr := hide Kr
          have hck' := Ar1.cell k (by omega)
          have hfk := Ar1.frozen k
          obtain ⟨old, hold⟩ : ∃ old, old = ys.getD k 0 := ⟨_, rfl⟩
          rw [← hold] at hck'
          clear hx0 hx1 hx2 hx3 hsch hset hys Ar1 Kr hold hgd
          go_wp2_with fail
          refine region_tail 23 Tryz.mixed (by kernel_rfl) ?_
          simp only [List.take_succ_cons, List.take_zero, List.drop_succ_cons, List.drop_zero]
          repeat (first | go_big_quiet_skip | (go_big_quiet_want; go_big_quiet_op; first | go_big_quiet_on | (refine ⟨_, sS1_any _ _, ?_⟩; go_big_quiet_on) | (refine ⟨_, sS0_any _ _, ?_⟩; go_big_quiet_on)))
          refine wpQuiet_nil ?_
          go_wp2_with fail
          go_roundw
          case rel =>
            refine ⟨k + 1, by omega, by omega, by go_num, ((unhide hkr).setCell (p := ⟨b2, k, none⟩) (.inl (by simp)) _).drew, ?_⟩
            rw [← unhide HS, ad4]
            exact (unhide HA).set k _
          case measure => simp [intOf]; omega
        · obtain rfl : k = 64 := by omega
          have A3 := A2.kept Kr (by simpa using hne)
          have hl64 : (sch bs 64 ++ List.replicate (64 - 64) 0 : List Int) = sch bs 64 := by simp
          rw [hl64] at Ar1
          have hi : (Tryz.prog.info? 163).map (·.size) = some (sch bs 64).length := by rw [sch_len]; exact Tryz.sz64
          go_wp2_with (first
            | (refine wpList_load_ar rfl 163 (.tmp 3) rfl b2 rfl _ _ 64 103 Ar1 Tryz.underlying163 hi ?_)
            | (refine wpList_store_ar rfl 163 (.tmp 2) (.tmp 69) rfl b1 rfl _ _ _ A3 rfl (by rw [sch_len]; rfl) hi ?_; intro w9 A9 K9 z9))
          refine bodyPost_ret (results_cell_row rfl _ w9 b1 _ _ (0, 0) (.array 64 103) rfl A9 Tryz.underlying163 rfl (by simpa using hi)) rfl ?_
          refine ⟨rfl, ?_⟩
          exact (K2.then Kr (by simp; omega)).then K9 (by simp; omega)
end Go.Proofs.YtillhpgdlmeajaaGreatDoor

/-
  The contract of the program's mix: one block.
-/
namespace Go.Proofs.YtillhpgdlmeajaaGreatDoor
open Go.RowKit

/-- The table of the program's package, as its text lays it. -/
def Rw (w : World) : Prop := ∀ k, k < 64 → w.cell? ⟨0, k, none⟩ = some (.int .u32 (consts.getD k 0))
def Db (_ : World) : Prop := True
/-- The tables that the calls read. -/
structure Gl (w : World) : Prop where
  rw : Rw w
  db : Db w
  pos : 1 ≤ w.heap.size
theorem Gl.kept {w w' : World} {S : List Nat} (h : Gl w) (k : Kp S w w') (hs : ∀ b ∈ S, 1 ≤ b) : Gl w' where
  rw := fun j hj => k.cell (h.rw j hj) (fun hm => by have := hs _ hm; simp at this)
  db := trivial
  pos := Nat.le_trans h.pos k.size
theorem rds_len (ws : List Int) (s : List Int) (hs : s.length = 8) : ∀ n, (rds ws s n).length = 8
  | 0 => hs
  | n + 1 => by
    have ih := rds_len ws s hs n
    simp only [rds]
    unfold rnd
    split
    · rfl
    · exact ih
theorem eight {s : List Int} (h : s.length = 8) : ∃ a b c d e f g i, s = [a, b, c, d, e, f, g, i] := by
  match s, h with
  | [a, b, c, d, e, f, g, i], _ => exact ⟨a, b, c, d, e, f, g, i, rfl⟩

theorem zip_step (tt s0 : List Int) (k : Nat) (h1 : k < tt.length) (h2 : k < s0.length) (ys : List Int) (hys : ys = List.zipWith ad (tt.take k) s0 ++ tt.drop k) :
    ys.set k (ad (ys.getD k 0) (s0.getD k 0)) = List.zipWith ad (tt.take (k + 1)) s0 ++ tt.drop (k + 1) := by
  have hz : (List.zipWith ad (tt.take k) s0).length = k := by simp; omega
  have e1 : ys.getD k 0 = tt[k] := by rw [hys, List.getD_eq_getElem?_getD, List.getElem?_append_right (by omega), hz, Nat.sub_self]; simp [List.getElem?_eq_getElem h1]
  have e2 : s0.getD k 0 = s0[k] := by simp [List.getElem?_eq_getElem h2]
  rw [e1, e2, hys, List.set_append_right _ _ (by omega), hz, Nat.sub_self, List.drop_eq_getElem_cons h1, List.set_cons_zero]
  have e3 : List.zipWith ad (tt.take (k + 1)) s0 = List.zipWith ad (tt.take k) s0 ++ [ad tt[k] s0[k]] := by
    refine List.ext_getElem (by simp; omega) (fun i hi1 hi2 => ?_)
    rcases Nat.lt_or_ge i k with hik | hik
    · rw [List.getElem_append_left (by omega)]; simp
    · have : i = k := by simp at hi1; omega
      subst this
      rw [List.getElem_append_right (by omega)]
      simp [hz]
  rw [e3, List.append_assoc]
  rfl
theorem ad5 (a b c d e : Int) : ad (ad (ad (ad a b) c) d) e = (a + b + c + d + e) % 4294967296 := by unfold ad; omega
theorem rnd_eq (a b c d e f g h k w : Int) : rnd [a, b, c, d, e, f, g, h] k w = [((h + bS1 e + chs e f g + k + w) % 4294967296 + (bS0 a + maj a b c) % 4294967296) % 4294967296, a, b, c, (d + (h + bS1 e + chs e f g + k + w) % 4294967296) % 4294967296, e, f, g] := by
  simp only [rnd, ad5]
  rfl
set_option maxRecDepth 100000 in
set_option maxHeartbeats 4000000 in
theorem mix_any (s : List Int) (vb : Value) (bs : List Int) (w : World) (hs : s.length = 8) (hS : Sl w vb bs) (hl : bs.length = 64) (hB : Bs bs) (hG : Gl w) : Calls Tryz.prog 161 #[ag s, vb] w fun e w' => e = .returned (ag (blk s bs)) ∧ Kp [] w w' := by
  obtain ⟨i0, hi0, hz0⟩ := Tryz.zeroW
  obtain ⟨ws, hws⟩ : ∃ ws, ws = sch bs 64 := ⟨_, rfl⟩
  have hwl : ws.length = 64 := by rw [hws]; exact sch_len _ _
  have HW := hide hws
  have HB : Hid (Bs bs) := hB
  have HG : Hid (Gl w) := hG
  have hpos := hG.pos
  have HSl : Hid (Sl w vb bs) := hS
  clear hws hB hG hS
  obtain ⟨a, b, c, d, e, f, g, h, rfl⟩ := eight hs
  go_enter Tryz.func161, Tryz.ntmps161
  go_wp2_with (first
    | (refine wpList_box_ar (w := w) rfl 188 (.tmp 0) rfl _ rfl ?_; intro wa Aa Ka za)
    | (refine wpList_alloc_ar (w := wa) rfl 188 rfl i0 _ hi0 hz0 ?_; intro w1 A1 K1 z1))
  obtain ⟨b1, hb1⟩ : ∃ b, b = w.heap.size := ⟨_, rfl⟩
  obtain ⟨b2, hb2⟩ : ∃ b, b = b1 + 1 := ⟨_, rfl⟩
  have hne : b1 ≠ b2 := by omega
  rw [← hb1] at Aa
  rw [za, ← hb1, ← hb2] at A1
  have K2 := Ka.trans K1
  have A2 := Aa.kept K1 (by simp)
  simp only [← hb1]
  have hbw : w.heap.size ≤ b2 := by omega
  have hbw1 : w.heap.size ≤ b1 := by omega
  have HSl1 : Hid (Sl w1 vb bs) := (unhide HSl).kept K2 (by simp)
  have HG1 : Hid (Gl w1) := (unhide HG).kept K2 (by simp)
  have za' : wa.heap.size = b2 := by omega
  clear hb1 hb2 Ka K1 Aa za
  have c0 := A2.cell 0 (by simp)
  have c1 := A2.cell 1 (by simp)
  have c2 := A2.cell 2 (by simp)
  have c3 := A2.cell 3 (by simp)
  have c4 := A2.cell 4 (by simp)
  have c5 := A2.cell 5 (by simp)
  have c6 := A2.cell 6 (by simp)
  have c7 := A2.cell 7 (by simp)
  simp only [List.getD_cons_zero, List.getD_cons_succ] at c0 c1 c2 c3 c4 c5 c6 c7
  simp only [za', Act.put, List.set_cons_zero, List.set_cons_succ, List.setIfInBounds_toArray]
  refine region_read Tryz.mixed (by kernel_rfl) ?_
  repeat (first | go_big_quiet_skip | (go_big_quiet_want; go_big_quiet_op; go_big_quiet_on))
  refine wpQuiet_nil ?_
  go_wp2_with fail
  refine region_read Tryz.mixed (by kernel_rfl) ?_
  repeat (first | go_big_quiet_skip | (go_big_quiet_want; go_big_quiet_op; go_big_quiet_on))
  refine wpQuiet_nil ?_
  have kd : Kp [] w1 w1.drew.drew := (kp_drew _).trans (kp_drew _)
  go_wp2_with (refine (sched_any vb bs _ ((unhide HSl1).kept kd (by simp)) hl (unhide HB)).mono ?_; rintro ee w3 ⟨rfl, K3⟩; rw [← unhide HW])
  have K13 := kd.trans K3
  have HK13 := hide K13
  have HK2 := hide K2
  have A3 := A2.kept K13 (by simp)
  have A4 := A1.kept K13 (by simp)
  have HA3 := hide A3
  have HA4 := hide A4
  have HG3 : Hid (Gl w3) := (unhide HG1).kept K13 (by simp)
  have hsz : w.heap.size ≤ w3.heap.size := Nat.le_trans K2.size K13.size
  obtain ⟨s0, hs0⟩ : ∃ s, s = [a, b, c, d, e, f, g, h] := ⟨_, rfl⟩
  have hs08 : s0.length = 8 := by rw [hs0]; rfl
  have HS0 := hide hs0
  simp only [← hs0] at HA3 ⊢
  have hrd0 : rds ws s0 0 = [a, b, c, d, e, f, g, h] := hs0
  have HR0 := hide hrd0
  clear c0 c1 c2 c3 c4 c5 c6 c7 A1 A2 kd K3 K13 K2 A3 A4 HSl HSl1 HG HG1 hs hs0 z1 za' hrd0
  go_loopw [5, 6, 7, 8, 9, 10, 11, 12, 37] (fun va vb vc vd ve vf vg vh i wr => ∃ (k n : Nat) (a b c d e f g h : Int), k ≤ 64 ∧ i = .int .i64 k ∧ va = .int .u32 a ∧ vb = .int .u32 b ∧ vc = .int .u32 c ∧ vd = .int .u32 d ∧ ve = .int .u32 e ∧ vf = .int .u32 f ∧ vg = .int .u32 g ∧ vh = .int .u32 h ∧ rds ws s0 k = [a, b, c, d, e, f, g, h] ∧ wr = w3.drewN n) (fun _ _ _ _ _ _ _ _ i _ => 64 - (intOf i).toNat)
  case atStart => exact ⟨0, 0, a, b, c, d, e, f, g, h, by omega, rfl, rfl, rfl, rfl, rfl, rfl, rfl, rfl, rfl, unhide HR0, rfl⟩
  case round =>
    clear HR0
    obtain ⟨k, n, a', b', c', d', e', f', g', h', hk, rfl, rfl, rfl, rfl, rfl, rfl, rfl, rfl, rfl, hrd, rfl⟩ := hrel
    by_cases hlt : k < 64
    · have hlt2 : (k : Int) < 64 := by omega
      have hix := fun W => index64 ws k W hlt hwl
      have hgl := (unhide HG3).rw k hlt
      obtain ⟨x, hx⟩ : ∃ x, x = ws.getD k 0 := ⟨_, rfl⟩
      obtain ⟨y, hy⟩ : ∃ y, y = consts.getD k 0 := ⟨_, rfl⟩
      rw [← hy] at hgl
      simp only [← hx] at hix
      have hnx : rds ws s0 (k + 1) = rnd [a', b', c', d', e', f', g', h'] y x := by simp only [rds, hrd, hx, hy]
      have HN := hide hnx
      clear hx hy hrd hnx
      go_wp2_with fail
      refine region_read Tryz.mixed (by kernel_rfl) ?_
      repeat (first | go_big_quiet_skip | (go_big_quiet_want; go_big_quiet_op; first | go_big_quiet_on | (refine ⟨_, bS1_any _ _, ?_⟩; go_big_quiet_on) | (refine ⟨_, chs_any _ _ _ _, ?_⟩; go_big_quiet_on)))
      refine wpQuiet_nil ?_
      go_wp2_with (first
        | (go_at_call 174; refine (bS0_any _ _).mono ?_; rintro ee w5 ⟨rfl, hw5⟩; subst w5)
        | (go_at_call 175; refine (maj_any _ _ _ _).mono ?_; rintro ee w5 ⟨rfl, hw5⟩; subst w5))
      go_roundw
      case rel => exact ⟨k + 1, n + 1, _, _, _, _, _, _, _, _, by omega, by go_num, rfl, rfl, rfl, rfl, rfl, rfl, rfl, rfl, (unhide HN).trans (rnd_eq ..), rfl⟩
      case measure => simp [intOf]; omega
    · obtain rfl : k = 64 := by omega
      clear hk hlt
      have HR := hide hrd
      clear hrd
      obtain ⟨w4, hw4⟩ : ∃ w4, w4 = w3.drewN n := ⟨_, rfl⟩
      have K34 : Kp [] w3 w4 := by rw [hw4]; exact kp_drewN w3 n
      rw [← hw4]
      have HK := hide (((unhide HK2).trans (unhide HK13)).trans K34)
      have HB1 := hide ((unhide HA3).kept K34 (by simp))
      have HB2 := hide ((unhide HA4).kept K34 (by simp))
      have hsz4 : w.heap.size ≤ w4.heap.size := Nat.le_trans hsz K34.size
      have hl1 := (unhide HB1).lt
      have hl2 := (unhide HB2).lt
      clear hw4 K34 HK2 HK13 HA3 HA4 HG3 hsz
      go_wp2_with (first
        | (refine wpList_alloc_ar (w := w4) rfl 188 rfl i0 _ hi0 hz0 ?_; intro w5 A5 K5 z5)
        | (refine wpList_store_ar rfl 188 (.tmp 17) (.tmp 84) rfl w4.heap.size rfl _ _ [a', b', c', d', e', f', g', h'] A5 rfl rfl Tryz.szW ?_; intro w6 A6 K6 z6))
      obtain ⟨b3, hb3⟩ : ∃ b, b = w4.heap.size := ⟨_, rfl⟩
      rw [← hb3] at A5 A6 K6 hl1 hl2
      simp only [← hb3]
      have A7 := (((unhide HB1).kept K5 (by simp)).kept K6 (by simp; omega))
      have A8 := (((unhide HB2).kept K5 (by simp)).kept K6 (by simp; omega))
      have K7 : Kp [] w w6 := ((unhide HK).trans K5).then K6 (by simp; omega)
      obtain ⟨tt, htt⟩ : ∃ tt, tt = [a', b', c', d', e', f', g', h'] := ⟨_, rfl⟩
      rw [← htt] at A6 HR
      have htl : tt.length = 8 := by rw [htt]; rfl
      have hA7 := hide A7
      have hA8 := hide A8
      have hK7 := hide K7
      have h0 : tt = List.zipWith ad (tt.take 0) s0 ++ tt.drop 0 := by simp
      rw [h0] at A6
      have hA6 := hide A6
      have hbw3 : w.heap.size ≤ b3 := by omega
      clear hb3 A5 K5 z5 K6 z6 A7 A8 K7 htt HB1 HB2 HK A6 h0 hsz4
      go_loopw [85] (fun i wr => ∃ k : Nat, k ≤ 8 ∧ i = .int .i64 k ∧ Kp [b3] w6 wr ∧ Ar wr b3 188 (List.zipWith ad (tt.take k) s0 ++ tt.drop k)) (fun i _ => 8 - (intOf i).toNat)
      case atStart => exact ⟨0, by omega, rfl, Kp.refl _ _, unhide hA6⟩
      case round =>
        obtain ⟨k, hk, rfl, Kr, Ak⟩ := hrel
        clear hA6
        have A9 := (unhide hA7).kept Kr (by simp; omega)
        by_cases hlt : k < 8
        · have hlt2 : (k : Int) < 8 := by omega
          obtain ⟨ys, hys⟩ : ∃ ys, ys = List.zipWith ad (tt.take k) s0 ++ tt.drop k := ⟨_, rfl⟩
          have hz : (List.zipWith ad (tt.take k) s0).length = k := by simp; omega
          have hyl : ys.length = 8 := by rw [hys]; simp [hz]; omega
          have hset : ys.set k (ad (ys.getD k 0) (s0.getD k 0)) = List.zipWith ad (tt.take (k + 1)) s0 ++ tt.drop (k + 1) := zip_step tt s0 k (by omega) (by omega) ys hys
          rw [← hys] at Ak
          have hc1 := Ak.cell k (by omega)
          have hc2 := A9.cell k (by omega)
          have hfk := Ak.frozen k
          obtain ⟨x, hx⟩ : ∃ x, x = ys.getD k 0 := ⟨_, rfl⟩
          obtain ⟨y, hy⟩ : ∃ y, y = s0.getD k 0 := ⟨_, rfl⟩
          rw [← hx] at hc1 hset
          rw [← hy] at hc2 hset
          have HS := hide hset
          have HA := hide Ak
          have hkr := hide Kr
          clear hx hy hset Ak Kr A9 hys hz
          go_wp2_with fail
          refine region_tail 8 Tryz.mixed (by kernel_rfl) ?_
          simp only [List.take_succ_cons, List.take_zero, List.drop_succ_cons, List.drop_zero]
          repeat (first | go_big_quiet_skip | (go_big_quiet_want; go_big_quiet_op; go_big_quiet_on))
          refine wpQuiet_nil ?_
          go_wp2_with fail
          go_roundw
          case rel =>
            refine ⟨k + 1, by omega, by go_num, ((unhide hkr).setCell (p := ⟨b3, k, none⟩) (.inl (by simp)) _).drew, ?_⟩
            rw [← unhide HS]
            exact (unhide HA).set k _
          case measure => simp [intOf]; omega
        · obtain rfl : k = 8 := by omega
          have A10 := (unhide hA8).kept Kr (by simp; omega)
          have hfin : List.zipWith ad (tt.take 8) s0 ++ tt.drop 8 = blk s0 bs := by
            rw [List.take_of_length_le (by omega), List.drop_of_length_le (by omega), List.append_nil]
            unfold blk
            rw [← unhide HW, unhide HR]
          rw [hfin] at Ak
          have hbl : (blk s0 bs).length = 8 := by rw [← hfin]; simp; omega
          have hi : (Tryz.prog.info? 188).map (·.size) = some (blk s0 bs).length := by rw [hbl]; exact Tryz.szW
          go_wp2_with (first
            | (refine wpList_load_ar rfl 188 (.tmp 17) rfl b3 rfl _ _ 8 103 Ak Tryz.underlying188 hi ?_)
            | (refine wpList_store_ar rfl 188 (.tmp 4) (.tmp 97) rfl b2 rfl _ _ _ A10 rfl (by rw [hbl]; rfl) hi ?_; intro w9 A9 K9 z9))
          refine bodyPost_ret (results_cell_row rfl _ w9 b2 _ _ (0, 0) (.array 8 103) rfl A9 Tryz.underlying188 rfl (by simpa using hi)) rfl ?_
          refine ⟨?_, ?_⟩
          · rw [← unhide HS0]; rfl
          · exact ((unhide hK7).then Kr (by simp; omega)).then K9 (by simp; omega)
end Go.Proofs.YtillhpgdlmeajaaGreatDoor

/-
  The contract of the program's mixAll: all blocks of a text that has whole ones alone.
-/
namespace Go.Proofs.YtillhpgdlmeajaaGreatDoor
open Go.RowKit

theorem quiet_load_ar {o : Oper} {a : Act} {w : World} {K : Act → Prop} (ty : TypeId) (x : Operand) (ho : o.op = .load ty x) (b : Nat) (hx : a.eval x = .pointer (some ⟨b, 0, none⟩)) (t : TypeId) (s : List Int) (n : Nat) (e : TypeId) (hA : Ar w b t s)
    (hu : Tryz.prog.underlying ty = some (.array n e)) (hi : (Tryz.prog.info? ty).map (·.size) = some s.length) (h : K (a.put o.dst (ag s))) : o.quiet Tryz.prog a (fun w' => w' = w) K := by
  refine ⟨ag s, fun w' hw => ?_, h⟩
  subst hw
  unfold Oper.quietAt execOp
  simp only [ho, hx, Instr.loadAt, Instr.sureAddr, Sem.run_bind, Sem.run_pure, Result.andThen_ok, run_loadVar_row w' b t ty _ (0, 0) (.array n e) hA hu rfl (by simpa using hi), Oper.quietUpon]
  exact ⟨trivial, rfl⟩
theorem Sl.sub {w : World} {a : Addr} {len c : Nat} {bs : List Int} (h : Sl w (.slice (some a) len c) bs) (i m : Nat) (hm : 0 < m) (hi : i + m ≤ bs.length) : Sl w (.slice (some (a.add i)) m (c - i)) ((bs.drop i).take m) := by
  have hc : bs.length ≤ c := by obtain ⟨_, _, e, h1, _⟩ := h; cases e; exact h1
  have h1 := h.drop i (by omega)
  rw [if_neg (by omega)] at h1
  have h2 := h1.take m (by simp; omega)
  exact h2
theorem Bs.take {bs : List Int} (h : Bs bs) (n : Nat) : Bs (bs.take n) := fun b hb => h b (List.mem_of_mem_take hb)
theorem Bs.drop {bs : List Int} (h : Bs bs) (n : Nat) : Bs (bs.drop n) := fun b hb => h b (List.mem_of_mem_drop hb)
theorem blk_len (s bs : List Int) (h : s.length = 8) : (blk s bs).length = 8 := by
  unfold blk
  simp [rds_len _ _ h, h]
theorem blks_len (s bs : List Int) (h : s.length = 8) : ∀ n, (blks n s bs).length = 8
  | 0 => h
  | n + 1 => blk_len _ _ (blks_len s bs h n)

set_option maxRecDepth 100000 in
set_option maxHeartbeats 2000000 in
theorem mixAll_any (s : List Int) (vb : Value) (bs : List Int) (n : Nat) (w : World) (hs : s.length = 8) (hS : Sl w vb bs) (hl : bs.length = 64 * n) (hn : n ≤ 1000000000000) (hB : Bs bs) (hG : Gl w) : Calls Tryz.prog 140 #[ag s, vb] w fun e w' => e = .returned (ag (blks n s bs)) ∧ Kp [] w w' := by
  obtain ⟨i0, hi0, hz0⟩ := Tryz.zeroW
  have HB : Hid (Bs bs) := hB
  have HG : Hid (Gl w) := hG
  have hpos := hG.pos
  have HSl : Hid (Sl w vb bs) := hS
  obtain ⟨ab, cb, rfl, h1, h2, h3, _⟩ := hS
  rw [hl] at h1 HSl ⊢
  have h1i : 64 * (n : Int) ≤ (cb : Int) := by omega
  clear hB hG
  go_enter Tryz.func140, Tryz.ntmps140
  go_wp2_with (first
    | (refine wpList_box_ar (w := w) rfl 188 (.tmp 0) rfl _ rfl ?_; intro wa Aa Ka za)
    | (refine wpList_alloc_ar (w := wa) rfl 188 rfl i0 _ hi0 hz0 ?_; intro w1 A1 K1 z1))
  obtain ⟨b1, hb1⟩ : ∃ b, b = w.heap.size := ⟨_, rfl⟩
  obtain ⟨b2, hb2⟩ : ∃ b, b = b1 + 1 := ⟨_, rfl⟩
  have hne : b1 ≠ b2 := by omega
  rw [← hb1] at Aa
  rw [za, ← hb1, ← hb2] at A1
  have K2 := Ka.trans K1
  have A2 := Aa.kept K1 (by simp)
  simp only [← hb1, ← hb2]
  have hbw : w.heap.size ≤ b2 := by omega
  have hbw1 : w.heap.size ≤ b1 := by omega
  have hA1 := hide A1
  have hA2 := hide A2
  have hK2 := hide K2
  clear hb1 hb2 Ka K1 Aa za A1 A2 K2 z1
  go_loopw [5] (fun i wr => ∃ k : Nat, k ≤ n ∧ i = .int .i64 (64 * k : Int) ∧ Kp [b1] w1 wr ∧ Ar wr b1 188 (blks k s bs)) (fun i _ => 64 * n - (intOf i).toNat)
  case atStart => exact ⟨0, by omega, rfl, Kp.refl _ _, unhide hA2⟩
  case round =>
    obtain ⟨k, hk, rfl, Kr, Ak⟩ := hrel
    have hlk := blks_len s bs hs k
    by_cases hlt : k < n
    · have hlt2 : (k : Int) < (n : Int) := by omega
      cases ab with
      | none => have := h3 rfl; omega
      | some ab =>
      have Kw : Kp [b1] w wr := ((unhide hK2).mono (by simp)).trans Kr
      have Sr := (unhide HSl).old Kw (by intro i _ hi; simp; omega)
      have Sk := hide (Sr.sub (64 * k) 64 (by omega) (by omega))
      have HKr := hide Kr
      have HA := hide Ak
      have hcb : ¬ (cb = 64 * k) := by omega
      have hs6 : 64 * k + 64 - 64 * k = 64 := by omega
      have hi : (Tryz.prog.info? 188).map (·.size) = some (blks k s bs).length := by rw [hlk]; exact Tryz.szW
      have AD : Ar wr.drew b1 188 (blks k s bs) := Ak
      obtain ⟨sk, hsk⟩ : ∃ sk, sk = blks k s bs := ⟨_, rfl⟩
      have HSK := hide hsk
      rw [← hsk] at HA AD hi hlk
      have hAD := hide AD
      clear Kr Ak Kw Sr AD hsk
      go_wp2_with fail
      refine region_tail 6 Tryz.mixed (by kernel_rfl) ?_
      simp only [List.take_succ_cons, List.take_zero, List.drop_succ_cons, List.drop_zero]
      go_big_quiet_want
      refine quiet_load_ar 188 (.tmp 2) rfl b1 rfl _ sk 8 103 (unhide hAD) Tryz.underlying188 hi ?_
      simp only [Act.put, List.set_cons_zero, List.set_cons_succ, List.setIfInBounds_toArray]
      go_big_quiet_on
      repeat (first | go_big_quiet_skip | (go_big_quiet_want; go_big_quiet_op; go_big_quiet_on))
      refine wpQuiet_nil ?_
      have hb64 : ((bs.drop (64 * k)).take 64).length = 64 := by simp; omega
      have GD : Gl wr.drew := ((unhide HG).kept (((unhide hK2).mono (by simp)).trans (unhide HKr) : Kp [b1] w wr) (by simp; omega)).kept (kp_drew wr) (by simp)
      have HGD := hide GD
      clear GD
      go_wp2_with (first
        | (refine (mix_any sk _ _ _ hlk ((unhide Sk).kept (kp_drew wr) (by simp)) hb64 (((unhide HB).drop _).take _) (unhide HGD)).mono ?_; rintro ee w5 ⟨rfl, K5⟩; have A5 := (unhide hAD).kept K5 (by simp); have hbl := blk_len sk ((bs.drop (64 * k)).take 64) hlk; have hi5 : (Tryz.prog.info? 188).map (·.size) = some (blk sk ((bs.drop (64 * k)).take 64)).length := by rw [hbl]; exact Tryz.szW)
        | (refine wpList_store_ar rfl 188 (.tmp 2) (.tmp 18) rfl b1 rfl _ _ _ A5 rfl (by rw [hbl]; exact hlk) hi5 ?_; intro w6 A6 K6 z6))
      go_roundw
      case rel =>
        refine ⟨k + 1, by omega, by go_num, ?_, ?_⟩
        · exact (((unhide HKr).trans ((kp_drew wr).mono (by simp))).trans (K5.mono (by simp))).trans K6
        · show Ar w6 b1 _ (blk (blks k s bs) ((bs.drop (64 * k)).take 64))
          rw [← unhide HSK]
          exact A6
      case measure => simp [intOf]; omega
    · obtain rfl : k = n := by omega
      have A10 := (unhide hA1).kept Kr (by simp; omega)
      have hi : (Tryz.prog.info? 188).map (·.size) = some (blks k s bs).length := by rw [hlk]; exact Tryz.szW
      go_wp2_with (first
        | (refine wpList_load_ar rfl 188 (.tmp 2) rfl b1 rfl _ _ 8 103 Ak Tryz.underlying188 hi ?_)
        | (refine wpList_store_ar rfl 188 (.tmp 4) (.tmp 19) rfl b2 rfl _ _ _ A10 rfl (by rw [hlk]; rfl) hi ?_; intro w9 A9 K9 z9))
      refine bodyPost_ret (results_cell_row rfl _ w9 b2 _ _ (0, 0) (.array 8 103) rfl A9 Tryz.underlying188 rfl (by simpa using hi)) rfl ?_
      refine ⟨rfl, ?_⟩
      exact ((unhide hK2).then Kr (by simp; omega)).then K9 (by simp; omega)
end Go.Proofs.YtillhpgdlmeajaaGreatDoor
