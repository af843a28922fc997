/-
  The contracts of the program's Sum, Tagged and Leaf for every text that can be handed in.
-/
import Derived.Test.YtioflclfgkcpfaaDoorKTNode
namespace Go.Proofs.YtioflclfgkcpfaaDoor
open Go.RowKit

set_option maxRecDepth 100000 in
set_option maxHeartbeats 2000000 in
theorem mixAll_big (s : List Int) (vb : Value) (bs : List Int) (n : Nat) (w : World) (hs : s.length = 8) (hS : Sl w vb bs) (hl : bs.length = 64 * n) (hn : n ≤ 10000000000000) (hB : Bs bs) (hG : Gl w) : Calls Tryd.prog 58 #[ag s, vb] w fun e w' => e = .returned (ag (blks n s bs)) ∧ Kp [] w w' := by
  obtain ⟨i0, hi0, hz0⟩ := Tryd.zeroW
  have HB : Hid (Bs bs) := hB
  have HG : Hid (Gl w) := hG
  have hpos := hG.pos
  have HSl : Hid (Sl w vb bs) := hS
  obtain ⟨ab, cb, rfl, h1, h2, h3, _⟩ := hS
  rw [hl] at h1 HSl ⊢
  have h1i : 64 * (n : Int) ≤ (cb : Int) := by omega
  clear hB hG
  go_enter Tryd.func58, Tryd.ntmps58
  go_wp2_with (first
    | (refine wpList_box_ar (w := w) rfl 80 (.tmp 0) rfl _ rfl ?_; intro wa Aa Ka za)
    | (refine wpList_alloc_ar (w := wa) rfl 80 rfl i0 _ hi0 hz0 ?_; intro w1 A1 K1 z1))
  obtain ⟨b1, hb1⟩ : ∃ b, b = w.heap.size := ⟨_, rfl⟩
  obtain ⟨b2, hb2⟩ : ∃ b, b = b1 + 1 := ⟨_, rfl⟩
  have hne : b1 ≠ b2 := by omega
  rw [← hb1] at Aa
  rw [za, ← hb1, ← hb2] at A1
  have K2 := Ka.trans K1
  have A2 := Aa.kept K1 (by simp)
  simp only [← hb1, ← hb2]
  have hbw : w.heap.size ≤ b2 := by omega
  have hbw1 : w.heap.size ≤ b1 := by omega
  have hA1 := hide A1
  have hA2 := hide A2
  have hK2 := hide K2
  clear hb1 hb2 Ka K1 Aa za A1 A2 K2 z1
  go_loopw [5] (fun i wr => ∃ k : Nat, k ≤ n ∧ i = .int .i64 (64 * k : Int) ∧ Kp [b1] w1 wr ∧ Ar wr b1 80 (blks k s bs)) (fun i _ => 64 * n - (intOf i).toNat)
  case atStart => exact ⟨0, by omega, rfl, Kp.refl _ _, unhide hA2⟩
  case round =>
    obtain ⟨k, hk, rfl, Kr, Ak⟩ := hrel
    have hlk := blks_len s bs hs k
    by_cases hlt : k < n
    · have hlt2 : (k : Int) < (n : Int) := by omega
      cases ab with
      | none => have := h3 rfl; omega
      | some ab =>
      have Kw : Kp [b1] w wr := ((unhide hK2).mono (by simp)).trans Kr
      have Sr := (unhide HSl).old Kw (by intro i _ hi; simp; omega)
      have Sk := hide (Sr.sub (64 * k) 64 (by omega) (by omega))
      have HKr := hide Kr
      have HA := hide Ak
      have hcb : ¬ (cb = 64 * k) := by omega
      have hs6 : 64 * k + 64 - 64 * k = 64 := by omega
      have hi : (Tryd.prog.info? 80).map (·.size) = some (blks k s bs).length := by rw [hlk]; exact Tryd.szW
      have AD : Ar wr.drew b1 80 (blks k s bs) := Ak
      obtain ⟨sk, hsk⟩ : ∃ sk, sk = blks k s bs := ⟨_, rfl⟩
      have HSK := hide hsk
      rw [← hsk] at HA AD hi hlk
      have hAD := hide AD
      clear Kr Ak Kw Sr AD hsk
      go_wp2_with fail
      refine region_tail 6 Tryd.mixed (by kernel_rfl) ?_
      simp only [List.take_succ_cons, List.take_zero, List.drop_succ_cons, List.drop_zero]
      go_big_quiet_want
      refine quiet_load_ar 80 (.tmp 2) rfl b1 rfl _ sk 8 22 (unhide hAD) Tryd.underlying80 hi ?_
      simp only [Act.put, List.set_cons_zero, List.set_cons_succ, List.setIfInBounds_toArray]
      go_big_quiet_on
      repeat (first | go_big_quiet_skip | (go_big_quiet_want; go_big_quiet_op; go_big_quiet_on))
      refine wpQuiet_nil ?_
      have hb64 : ((bs.drop (64 * k)).take 64).length = 64 := by simp; omega
      have GD : Gl wr.drew := ((unhide HG).kept (((unhide hK2).mono (by simp)).trans (unhide HKr) : Kp [b1] w wr) (by simp; omega)).kept (kp_drew wr) (by simp)
      have HGD := hide GD
      clear GD
      go_wp2_with (first
        | (refine (mix_any sk _ _ _ hlk ((unhide Sk).kept (kp_drew wr) (by simp)) hb64 (((unhide HB).drop _).take _) (unhide HGD)).mono ?_; rintro ee w5 ⟨rfl, K5⟩; have A5 := (unhide hAD).kept K5 (by simp); have hbl := blk_len sk ((bs.drop (64 * k)).take 64) hlk; have hi5 : (Tryd.prog.info? 80).map (·.size) = some (blk sk ((bs.drop (64 * k)).take 64)).length := by rw [hbl]; exact Tryd.szW)
        | (refine wpList_store_ar rfl 80 (.tmp 2) (.tmp 18) rfl b1 rfl _ _ _ A5 rfl (by rw [hbl]; exact hlk) hi5 ?_; intro w6 A6 K6 z6))
      go_roundw
      case rel =>
        refine ⟨k + 1, by omega, by go_num, ?_, ?_⟩
        · exact (((unhide HKr).trans ((kp_drew wr).mono (by simp))).trans (K5.mono (by simp))).trans K6
        · show Ar w6 b1 _ (blk (blks k s bs) ((bs.drop (64 * k)).take 64))
          rw [← unhide HSK]
          exact A6
      case measure => simp [intOf]; omega
    · obtain rfl : k = n := by omega
      have A10 := (unhide hA1).kept Kr (by simp; omega)
      have hi : (Tryd.prog.info? 80).map (·.size) = some (blks k s bs).length := by rw [hlk]; exact Tryd.szW
      go_wp2_with (first
        | (refine wpList_load_ar rfl 80 (.tmp 2) rfl b1 rfl _ _ 8 22 Ak Tryd.underlying80 hi ?_)
        | (refine wpList_store_ar rfl 80 (.tmp 4) (.tmp 19) rfl b2 rfl _ _ _ A10 rfl (by rw [hlk]; rfl) hi ?_; intro w9 A9 K9 z9))
      refine bodyPost_ret (results_cell_row rfl _ w9 b2 _ _ (0, 0) (.array 8 22) rfl A9 Tryd.underlying80 rfl (by simpa using hi)) rfl ?_
      refine ⟨rfl, ?_⟩
      exact ((unhide hK2).then Kr (by simp; omega)).then K9 (by simp; omega)

set_option maxRecDepth 100000 in
set_option maxHeartbeats 2000000 in
theorem sum_big (vb : Value) (bs : List Int) (w : World) (hS : Sl w vb bs) (hB : Bs bs) (hl : bs.length ≤ 140737488355328) (hG : Gl w) :
    Calls Tryd.prog 54 #[vb] w fun e w' => ∃ ao m c, e = .returned (.slice ao m c) ∧ Row w' w.heap.size (.slice ao m c) (sha bs) ∧ Kp [] w w' := by
  obtain ⟨i0, hi0, hz0⟩ := Tryd.zeroW
  have HB : Hid (Bs bs) := hB
  have HG : Hid (Gl w) := hG
  have hpos := hG.pos
  have HSl : Hid (Sl w vb bs) := hS
  obtain ⟨ab, cb, rfl, h1, h2, h3, _⟩ := hS
  obtain ⟨N, hN⟩ : ∃ N, N = bs.length := ⟨_, rfl⟩
  obtain ⟨n, hn⟩ : ∃ n, n = bs.length / 64 := ⟨_, rfl⟩
  have hrem : (N : Int) - (N : Int) % 64 = 64 * (n : Int) := by omega
  have hnn : 64 * n ≤ N := by omega
  have hcc : (N : Int) ≤ (cb : Int) := by omega
  rw [← hN] at h1 HSl ⊢
  have HN := hide hN
  have HNn := hide hn
  have hNl : N ≤ 140737488355328 := by omega
  clear hB hG hN hn hl
  go_enter Tryd.func54, Tryd.ntmps54
  go_wp2_with (first
    | (go_at_call 57; refine (beg_any _).mono ?_; rintro ee w1 ⟨rfl, K1⟩)
    | (refine wpList_alloc_ar (w := w1) rfl 80 rfl i0 _ hi0 hz0 ?_; intro w2 A2 K2 z2)
    | (refine wpList_store_ar rfl 80 (.tmp 3) (.tmp 5) rfl w1.heap.size rfl _ _ begin8 A2 rfl rfl Tryd.szW ?_; intro w3 A3 K3 z3))
  obtain ⟨b1, hb1⟩ : ∃ b, b = w1.heap.size := ⟨_, rfl⟩
  have hbw : w.heap.size ≤ b1 := by have := K1.size; omega
  rw [← hb1] at A2 A3 K3
  simp only [← hb1]
  have K13 : Kp [] w w3 := (K1.trans K2).then K3 (by simp; omega)
  have S3 := (unhide HSl).kept K13 (by simp)
  have T3 := hide ((S3.kept (kp_drew w3) (by simp)).take (64 * n) (by have := unhide HN; omega))
  have HG3 := hide (((unhide HG).kept K13 (by simp)).kept (kp_drew w3) (by simp))
  have AD : Ar w3.drew b1 80 begin8 := A3
  have HK13 := hide K13
  have hAD := hide AD
  have hS3 := hide S3
  clear A2 A3 K1 K2 K3 K13 z2 z3 AD S3 hb1
  have hcc2 : 64 * (n : Int) ≤ (cb : Int) := by omega
  have hcc3 : 64 * (n : Int) ≤ (N : Int) := by omega
  refine region_tail 4 Tryd.mixed (by kernel_rfl) ?_
  simp only [List.take_succ_cons, List.take_zero, List.drop_succ_cons, List.drop_zero]
  go_big_quiet_want
  refine quiet_load_ar 80 (.tmp 3) rfl b1 rfl _ begin8 8 22 (unhide hAD) Tryd.underlying80 Tryd.szW ?_
  simp only [Act.put, List.set_cons_zero, List.set_cons_succ, List.setIfInBounds_toArray]
  go_big_quiet_on
  repeat (first | go_big_quiet_skip | (go_big_quiet_want; go_big_quiet_op; go_big_quiet_on))
  refine wpQuiet_nil ?_
  have hbt : (bs.take (64 * n)).length = 64 * n := by have := unhide HN; simp; omega
  obtain ⟨s1, hs1⟩ : ∃ s1, s1 = blks n begin8 bs := ⟨_, rfl⟩
  have hs1' : blks n begin8 (bs.take (64 * n)) = s1 := by rw [blks_take _ _ _ _ (Nat.le_refl _), hs1]
  have hs18 : s1.length = 8 := by rw [hs1]; exact blks_len _ _ rfl n
  have hi1 : (Tryd.prog.info? 80).map (·.size) = some s1.length := by rw [hs18]; exact Tryd.szW
  have HS1 := hide hs1
  have HS1' := hide hs1'
  clear hs1 hs1'
  go_wp2_with (first
    | (go_at_call 58; refine (mixAll_big begin8 _ _ n _ rfl (unhide T3) hbt (by omega) ((unhide HB).take _) (unhide HG3)).mono ?_; rintro ee w4 ⟨rfl, K4⟩; rw [unhide HS1']; have A4 := (unhide hAD).kept K4 (by simp))
    | (refine wpList_store_ar rfl 80 (.tmp 3) (.tmp 16) rfl b1 rfl _ _ s1 A4 rfl (by rw [hs18]; rfl) hi1 ?_; intro w5 A5 K5 z5))
  have K15 : Kp [] w w5 := (((unhide HK13).trans (kp_drew w3)).trans K4).then K5 (by simp; omega)
  have hK := hide K15
  have hA5 := hide A5
  have S5 := hide ((unhide HSl).kept K15 (by simp))
  have HG5 := hide ((unhide HG).kept K15 (by simp))
  have hl5 := A5.lt
  clear A4 A5 K4 K5 z5 K15 T3 HG3 HK13 hAD hS3
  simp only [Act.put]
  obtain ⟨x0, x1, x2, x3, x4, x5, x6, x7, hx⟩ := eight hs18
  have A5 := unhide hA5
  rw [hx] at A5
  obtain ⟨p0, p1, p2, p3, p4, p5, p6, p7⟩ := A5.cells8
  have HX := hide hx
  have SD : Sl w5.drew (.slice ab N cb) bs := (unhide S5).kept (kp_drew w5) (by simp)
  have SDr := SD.drop (64 * n) (by have := unhide HN; omega)
  have hSD := hide SDr
  have hrl : (bs.drop (64 * n)).length < 64 := by have := unhide HN; simp; omega
  have hA5' := hide A5
  clear SD SDr A5 hx
  have hcut : cb = 64 * n ∨ ∃ a, ab = some a ∧ ¬ cb = 64 * n := by
    by_cases hc : cb = 64 * n
    · exact .inl hc
    · cases ab with
      | none => have := h3 rfl; omega
      | some a => exact .inr ⟨a, rfl, hc⟩
  rcases hcut with hc | ⟨a, rfl, hc⟩
  · rw [if_pos hc] at hSD
    obtain rfl : cb = 64 * n := hc
    obtain rfl : N = 64 * n := by omega
    rw [Nat.sub_self] at hSD
    have hpl := pad_len (bs.drop (64 * n)) (64 * n) hrl
    have hpb := hide (pad_bs (bs.drop (64 * n)) (64 * n) ((unhide HB).drop _))
    obtain ⟨k6, hk6⟩ : ∃ k, k = (pad (bs.drop (64 * n)) (64 * n)).length / 64 := ⟨_, rfl⟩
    rw [← hk6] at hpl
    have hk62 : k6 ≤ 2 := by omega
    have HPL := hide hpl
    have HK6 := hide hk6
    clear hpl hk6
    go_region_with (first
      | (go_at_call 59; refine (padded_at _ (bs.drop (64 * n)) (64 * n) _ (by omega) _ (unhide hSD) hrl (by omega)).mono ?_; rintro ee w6 ⟨ao6, m6, c6, rfl, R6, K6⟩; have A6 := (unhide hA5').kept ((kp_drew w5).trans K6) (by simp); obtain ⟨q0, q1, q2, q3, q4, q5, q6, q7⟩ := A6.cells8; have hR6 := hide R6; have hK6 := hide K6; have hA6 := hide A6; clear R6 K6 A6)
      | (go_at_call 58; refine (mixAll_big [x0, x1, x2, x3, x4, x5, x6, x7] _ _ k6 _ rfl (unhide hR6).sl (unhide HPL).1 (by omega) (unhide hpb) ((unhide HG5).kept ((kp_drew w5).trans (unhide hK6)) (by simp))).mono ?_; rintro ee w7 ⟨rfl, K7⟩; obtain ⟨y0, y1, y2, y3, y4, y5, y6, y7, hy⟩ := eight (blks_len [x0, x1, x2, x3, x4, x5, x6, x7] (pad (bs.drop (64 * n)) (64 * n)) rfl k6); rw [hy, ag_eight]; have A7 := (unhide hA6).kept K7 (by simp); obtain ⟨r0, r1, r2, r3, r4, r5, r6, r7⟩ := A7.cells8; obtain ⟨t0, t1, t2, t3, t4, t5, t6, t7⟩ := A7.frozen8; have HY := hide hy; have hA7 := hide A7; have hK7 := hide K7; clear hy A7 K7))
    all_goals have A8 : Ar _ b1 80 [y0, y1, y2, y3, y4, y5, y6, y7] := ((((((((unhide hA7).set 0 y0).set 1 y1).set 2 y2).set 3 y3).set 4 y4).set 5 y5).set 6 y6).set 7 y7
    all_goals have hfin := sha_parts bs n _ k6 s1 _ _ (unhide HN) (unhide HNn) (unhide HS1) (unhide HX) (unhide HK6) (unhide HY)
    all_goals have hrow : ∀ W9 ao m c, Row W9 w.heap.size (.slice ao m c) (lay8 [y0, y1, y2, y3, y4, y5, y6, y7]) → Row W9 w.heap.size (.slice ao m c) (sha bs) := fun _ _ _ _ h => hfin ▸ h
    all_goals have HR := hide hrow
    all_goals have HKW : Hid (Kp [b1] w5 w7) := ((((kp_drew w5).trans (unhide hK6)).trans (unhide hK7)).mono (by simp))
    all_goals have KW := (unhide hK).then ((((((((((unhide HKW).setCell (p := ⟨b1, 0, none⟩) (.inl (by simp)) (.int .u32 y0)).setCell (p := ⟨b1, 1, none⟩) (.inl (by simp)) (.int .u32 y1)).setCell (p := ⟨b1, 2, none⟩) (.inl (by simp)) (.int .u32 y2)).setCell (p := ⟨b1, 3, none⟩) (.inl (by simp)) (.int .u32 y3)).setCell (p := ⟨b1, 4, none⟩) (.inl (by simp)) (.int .u32 y4)).setCell (p := ⟨b1, 5, none⟩) (.inl (by simp)) (.int .u32 y5)).setCell (p := ⟨b1, 6, none⟩) (.inl (by simp)) (.int .u32 y6)).setCell (p := ⟨b1, 7, none⟩) (.inl (by simp)) (.int .u32 y7))) (by simp; omega)
    all_goals clear hrow hfin p0 p1 p2 p3 p4 p5 p6 p7 q0 q1 q2 q3 q4 q5 q6 q7 r0 r1 r2 r3 r4 r5 r6 r7 t0 t1 t2 t3 t4 t5 t6 t7
    all_goals (go_wp2_with (first
      | (refine wpList_load_ar rfl 80 (.tmp 3) rfl b1 rfl _ _ 8 22 A8 Tryd.underlying80 Tryd.szW ?_)
      | (go_at_call 60; refine (laid_any [y0, y1, y2, y3, y4, y5, y6, y7] _ rfl).mono ?_; rintro ee w9 ⟨ao9, m9, c9, rfl, R9, K9⟩)))
    all_goals go_ret
    all_goals exact ⟨ao9, m9, c9, rfl, unhide HR _ _ _ _ (owns_rebase R9 (fun k hk => Nat.le_trans KW.size (R9.own k hk))), KW.trans K9⟩
  · rw [if_neg hc] at hSD
    have hpl := pad_len (bs.drop (64 * n)) N hrl
    have hpb := hide (pad_bs (bs.drop (64 * n)) N ((unhide HB).drop _))
    obtain ⟨k6, hk6⟩ : ∃ k, k = (pad (bs.drop (64 * n)) N).length / 64 := ⟨_, rfl⟩
    rw [← hk6] at hpl
    have hk62 : k6 ≤ 2 := by omega
    have HPL := hide hpl
    have HK6 := hide hk6
    clear hpl hk6
    go_region_with (first
      | (go_at_call 59; refine (padded_any _ (bs.drop (64 * n)) N _ (unhide hSD) hrl (by omega)).mono ?_; rintro ee w6 ⟨ao6, m6, c6, rfl, R6, K6⟩; have A6 := (unhide hA5').kept ((kp_drew w5).trans K6) (by simp); obtain ⟨q0, q1, q2, q3, q4, q5, q6, q7⟩ := A6.cells8; have hR6 := hide R6; have hK6 := hide K6; have hA6 := hide A6; clear R6 K6 A6)
      | (go_at_call 58; refine (mixAll_big [x0, x1, x2, x3, x4, x5, x6, x7] _ _ k6 _ rfl (unhide hR6).sl (unhide HPL).1 (by omega) (unhide hpb) ((unhide HG5).kept ((kp_drew w5).trans (unhide hK6)) (by simp))).mono ?_; rintro ee w7 ⟨rfl, K7⟩; obtain ⟨y0, y1, y2, y3, y4, y5, y6, y7, hy⟩ := eight (blks_len [x0, x1, x2, x3, x4, x5, x6, x7] (pad (bs.drop (64 * n)) N) rfl k6); rw [hy, ag_eight]; have A7 := (unhide hA6).kept K7 (by simp); obtain ⟨r0, r1, r2, r3, r4, r5, r6, r7⟩ := A7.cells8; obtain ⟨t0, t1, t2, t3, t4, t5, t6, t7⟩ := A7.frozen8; have HY := hide hy; have hA7 := hide A7; have hK7 := hide K7; clear hy A7 K7))
    all_goals have A8 : Ar _ b1 80 [y0, y1, y2, y3, y4, y5, y6, y7] := ((((((((unhide hA7).set 0 y0).set 1 y1).set 2 y2).set 3 y3).set 4 y4).set 5 y5).set 6 y6).set 7 y7
    all_goals have hfin := sha_parts bs n _ k6 s1 _ _ (unhide HN) (unhide HNn) (unhide HS1) (unhide HX) (unhide HK6) (unhide HY)
    all_goals have hrow : ∀ W9 ao m c, Row W9 w.heap.size (.slice ao m c) (lay8 [y0, y1, y2, y3, y4, y5, y6, y7]) → Row W9 w.heap.size (.slice ao m c) (sha bs) := fun _ _ _ _ h => hfin ▸ h
    all_goals have HR := hide hrow
    all_goals have HKW : Hid (Kp [b1] w5 w7) := ((((kp_drew w5).trans (unhide hK6)).trans (unhide hK7)).mono (by simp))
    all_goals have KW := (unhide hK).then ((((((((((unhide HKW).setCell (p := ⟨b1, 0, none⟩) (.inl (by simp)) (.int .u32 y0)).setCell (p := ⟨b1, 1, none⟩) (.inl (by simp)) (.int .u32 y1)).setCell (p := ⟨b1, 2, none⟩) (.inl (by simp)) (.int .u32 y2)).setCell (p := ⟨b1, 3, none⟩) (.inl (by simp)) (.int .u32 y3)).setCell (p := ⟨b1, 4, none⟩) (.inl (by simp)) (.int .u32 y4)).setCell (p := ⟨b1, 5, none⟩) (.inl (by simp)) (.int .u32 y5)).setCell (p := ⟨b1, 6, none⟩) (.inl (by simp)) (.int .u32 y6)).setCell (p := ⟨b1, 7, none⟩) (.inl (by simp)) (.int .u32 y7))) (by simp; omega)
    all_goals clear hrow hfin p0 p1 p2 p3 p4 p5 p6 p7 q0 q1 q2 q3 q4 q5 q6 q7 r0 r1 r2 r3 r4 r5 r6 r7 t0 t1 t2 t3 t4 t5 t6 t7
    all_goals (go_wp2_with (first
      | (refine wpList_load_ar rfl 80 (.tmp 3) rfl b1 rfl _ _ 8 22 A8 Tryd.underlying80 Tryd.szW ?_)
      | (go_at_call 60; refine (laid_any [y0, y1, y2, y3, y4, y5, y6, y7] _ rfl).mono ?_; rintro ee w9 ⟨ao9, m9, c9, rfl, R9, K9⟩)))
    all_goals go_ret
    all_goals exact ⟨ao9, m9, c9, rfl, unhide HR _ _ _ _ (owns_rebase R9 (fun k hk => Nat.le_trans KW.size (R9.own k hk))), KW.trans K9⟩
theorem sum_big_at (vb : Value) (bs r : List Int) (hr : r = sha bs) (w : World) (hS : Sl w vb bs) (hB : Bs bs) (hl : bs.length ≤ 140737488355328) (hG : Gl w) :
    Calls Tryd.prog 54 #[vb] w fun e w' => ∃ ao m c, e = .returned (.slice ao m c) ∧ Row w' w.heap.size (.slice ao m c) r ∧ Kp [] w w' := by
  rw [hr]
  exact sum_big vb bs w hS hB hl hG
theorem cat_take_le (l : List (Value × List Int)) (k : Nat) : (cat (l.take k)).length ≤ (cat l).length := by
  have e : cat l = cat (l.take k) ++ cat (l.drop k) := by
    unfold cat
    rw [← List.flatten_append, ← List.map_append, List.take_append_drop]
  rw [e, List.length_append]
  omega
set_option maxRecDepth 100000 in
set_option maxHeartbeats 1000000 in
theorem tagged_big (tag : Int) (vl : Value) (l : List (Value × List Int)) (r : List Int) (hr : r = sha (tag :: cat l)) (w : World) (hL : Lists w vl l) (h0 : 0 ≤ tag) (h1 : tag ≤ 255) (hn : l.length ≤ 100000) (hm : (cat l).length ≤ 140737488351232) (hG : Gl w) :
    Calls Tryd.prog 52 #[.int .u8 tag, vl] w fun e w' => ∃ ao m c, e = .returned (.slice ao m c) ∧ Row w' w.heap.size (.slice ao m c) r ∧ Kp [] w w' := by
  have HG := hide hG
  have hBl := hL.bs
  have HBl := hide hBl
  have HR := hide hr
  have HM := hide hm
  obtain ⟨al, cl, rfl, hll, hcell⟩ := hL
  have hlen : (l.length : Int) ≤ 100000 := by omega
  have HC := hide hcell
  clear hcell hG hr hm hBl hll
  go_enter Tryd.func52, Tryd.ntmps52
  go_wp2_with fail
  have R0 : Row (w.alloc (.cells #[.int .u8 tag] 5)) w.heap.size (.slice (some ⟨w.heap.size, 0, none⟩) 1 1) [tag] := row_of_block (bs := [tag]) (Nat.le_refl _) (heap_alloc_new w _) rfl (by simp [maxLen])
  have hR0 := hide R0
  clear R0
  go_loopw [5, 12] (fun v i wr => ∃ (k m c : Nat) (ao : Option Addr), k ≤ l.length ∧ v = .slice ao m c ∧ i = .int .i64 k ∧ Row wr w.heap.size v (tag :: cat (l.take k)) ∧ Kp [] w wr) (fun _ i _ => l.length - (intOf i).toNat)
  case atStart => exact ⟨0, 1, 1, some ⟨w.heap.size, 0, none⟩, Nat.zero_le _, rfl, rfl, by simpa [cat] using unhide hR0, (Kp.refl [] w).alloc _⟩
  case round =>
    obtain ⟨k, m, c, ao, hk, rfl, rfl, Rr, Kr⟩ := hrel
    by_cases hlt : k < l.length
    · have hlt2 : (k : Int) < (l.length : Int) := by omega
      obtain ⟨b, off, rfl, hc, hS, hB⟩ := unhide HC k hlt
      have hcl : (cat (l.take k)).length + l[k].2.length ≤ 140737488351232 := by have e := congrArg List.length (cat_take l k hlt); rw [List.length_append] at e; have := cat_take_le l (k + 1); have := unhide HM; omega
      have hE := cat_take l k hlt
      obtain ⟨x, hx⟩ : ∃ x, x = l[k] := ⟨_, rfl⟩
      rw [← hx] at hc hS hcl hE
      have hcw := Kr.cell hc (by simp)
      have hSw := hS.kept Kr (by simp)
      obtain ⟨ax, cx, hxv⟩ : ∃ ax cx, x.1 = .slice ax x.2.length cx := by obtain ⟨ax, cx, e, _⟩ := hS; exact ⟨ax, cx, e⟩
      have HE := hide hE
      rw [hxv] at hSw hcw
      have HSw := hide hSw
      obtain ⟨nx, hnx⟩ : ∃ nx, nx = x.2.length := ⟨_, rfl⟩
      rw [← hnx] at HSw hcw
      clear hE hx hc hS hB hSw hxv HC hnx
      go_wp2_with (at_builtin; refine wpList_append_row rfl (.tmp 16) (.tmp 17) rfl w.heap.size _ _ rfl Rr _ x.2 rfl (unhide HSw) (by simp only [List.length_cons]; omega) Kr.size ?_; intro ao2 m2 c2 w2 r2 s2)
      go_roundw
      case rel =>
        refine ⟨k + 1, m2, c2, ao2, by omega, rfl, by go_num, ?_, Rr.step Kr s2⟩
        rw [unhide HE]; exact r2
      case measure => simp [intOf]; omega
    · obtain rfl : k = l.length := by omega
      rw [List.take_length] at Rr
      have hcl := unhide HM
      have hRr := hide Rr
      have hKr := hide Kr
      have hBt : Hid (Bs (tag :: cat l)) := fun b hb => by
        rcases List.mem_cons.1 hb with rfl | hb
        · exact ⟨h0, h1⟩
        · exact cat_bs l (unhide HBl) b hb
      clear Rr Kr HC
      go_wp2_with (go_at_call 54; refine (sum_big_at _ (tag :: cat l) r (unhide HR) _ (unhide hRr).sl (unhide hBt) (by simp only [List.length_cons]; omega) ((unhide HG).kept (unhide hKr) (by simp))).mono ?_; rintro ee w3 ⟨ao3, m3, c3, rfl, R3, K3⟩)
      go_ret
      exact ⟨ao3, m3, c3, rfl, owns_rebase R3 (fun i hi => Nat.le_trans (unhide hKr).size (R3.own i hi)), (unhide hKr).trans K3⟩

set_option maxRecDepth 100000 in
set_option maxHeartbeats 1000000 in
theorem tleaf_big (v : Value) (bs : List Int) (r : List Int) (hr : r = tleafP bs) (w : World) (hS : Sl w v bs) (hB : Bs bs) (hl : bs.length ≤ 140737488351232) (hG : Gl w) :
    Calls Tryd.prog 45 #[v] w fun e w' => ∃ ao m c, e = .returned (.slice ao m c) ∧ Row w' w.heap.size (.slice ao m c) r ∧ Kp [] w w' := by
  have HG := hide hG
  have HL := lists1 hS hB
  have HK := hide ((Kp.refl [] w).alloc (.cells #[v] 23))
  have HC := hide (tagged_big 0 _ _ r (by rw [hr, cat1]; rfl) _ HL (by omega) (by omega) (by simp) (by rw [cat1]; exact hl) ((unhide HG).kept (unhide HK) (by simp)))
  rw [show (w.alloc (.cells #[v] 23)).heap.size = w.heap.size + 1 by simp] at HC
  obtain ⟨ab, cb, hvb, _⟩ := hS
  obtain ⟨nb, hnb⟩ : ∃ n, n = bs.length := ⟨_, rfl⟩
  rw [← hnb] at hvb
  subst hvb
  clear hr hB hl HL hnb hG
  go_enter Tryd.func45, Tryd.ntmps45
  go_wp2_with fail
  refine (unhide HC).mono ?_
  rintro ee w2 ⟨ao2, m2, c2, rfl, R2, K2⟩
  have HR2 : Hid (Row w2 w.heap.size (.slice ao2 m2 c2) r) := owns_rebase R2 (fun i hi => by have := Row.own R2 i hi; omega)
  have HK2 := hide ((unhide HK).trans K2)
  clear HC HK R2 K2
  go_wp2_with fail
  go_ret
  exact ⟨ao2, m2, c2, rfl, unhide HR2, unhide HK2⟩
end Go.Proofs.YtioflclfgkcpfaaDoor

/-
  The contracts of the reference's Sum, Tagged and Leaf for every text that can be handed in.
-/
namespace Go.Proofs.YtioflclfgkcpfaaDoor
open Go.RowKit

set_option maxRecDepth 100000 in
set_option maxHeartbeats 2000000 in
theorem refsum_big (vb : Value) (bs : List Int) (w : World) (hS : Sl w vb bs) (hB : Bs bs) (hl : bs.length ≤ 140737488355328) :
    Calls Tryd.prog 53 #[vb] w fun e w' => ∃ ao m c, e = .returned (.slice ao m c) ∧ Row w' w.heap.size (.slice ao m c) (sha bs) ∧ Kp [] w w' := by
  obtain ⟨i0, hi0, hz0⟩ := Tryd.zero64
  obtain ⟨i8, hi8, hz8⟩ := Tryd.zero8
  have HB : Hid (Bs bs) := hB
  have HSl : Hid (Sl w vb bs) := hS
  obtain ⟨ab, cb, rfl, h1, h2, h3, _⟩ := hS
  obtain ⟨N, hN⟩ : ∃ N, N = bs.length := ⟨_, rfl⟩
  rw [← hN] at h1 HSl ⊢
  have HN := hide hN
  have hNl : N ≤ 140737488355328 := by omega
  clear hB hN hl
  go_enter Tryd.func53, Tryd.ntmps53
  go_wp2_with (first
    | (refine wpList_alloc_ar (w := w) rfl 74 rfl i8 _ hi8 hz8 ?_; intro w1 A1 K1 z1)
    | (refine wpList_store_ar rfl 74 (.tmp 3) (.tmp 10) rfl w.heap.size rfl _ _ begin8 A1 rfl rfl Tryd.sz8 ?_; intro w2 A2 K2 z2)
    | (go_at_call 55; refine (consts_any _).mono ?_; rintro ee w3 ⟨rfl, K3⟩)
    | (refine wpList_alloc_ar (w := w3) rfl 75 rfl i0 _ hi0 hz0 ?_; intro w4 A4 K4 z4)
    | (refine wpList_store_ar rfl 75 (.tmp 4) (.tmp 11) rfl w3.heap.size rfl _ _ consts A4 rfl rfl Tryd.sz64 ?_; intro w5 A5 K5 z5))
  obtain ⟨b1, hb1⟩ : ∃ b, b = w.heap.size := ⟨_, rfl⟩
  obtain ⟨b2, hb2⟩ : ∃ b, b = w3.heap.size := ⟨_, rfl⟩
  rw [← hb2] at A4 A5 K5
  rw [← hb1] at A1 A2 K2
  simp only [← hb1, ← hb2]
  have hs3 := K3.size
  have hs1 := K1.size
  have hA2l := A2.lt
  have hne : b1 ≠ b2 := by omega
  have K25 : Kp [] w2 w4 := K3.trans K4
  have hAH : Hid (Ar w5 b1 74 begin8) := (A2.kept K25 (by simp)).kept K5 (by simpa using hne)
  have hAK : Hid (Ar w5 b2 75 consts) := A5
  have hKW : Hid (Kp [] w w5) := ((K1.then K2 (by simp; omega)).trans K25).then K5 (by simp; omega)
  have hbw2 : w.heap.size ≤ b2 := by omega
  have HB1 := hide hb1
  clear A1 A2 A4 A5 K1 K2 K3 K4 K5 K25 z1 z2 z4 z5 hs3 hs1 hA2l hb1 hb2
  go_loopw [0] (fun v wr => ∃ (k m c : Nat) (ao : Option Addr), 64 * k ≤ N ∧ v = .slice ao m c ∧ Sl w v (bs.drop (64 * k)) ∧ Kp [b1] w5 wr ∧ Ar wr b1 74 (blks k begin8 bs)) (fun v _ => (match v with | .slice _ m _ => m | _ => 0))
  case atStart => exact ⟨0, N, cb, ab, by omega, rfl, by simpa using unhide HSl, Kp.refl _ _, unhide hAH⟩
  case round =>
    obtain ⟨k, m, c, ao, hk, rfl, Sk, Kr, Ak⟩ := hrel
    have hlk := blks_len begin8 bs rfl k
    have hml : m = N - 64 * k := by obtain ⟨_, _, e, _⟩ := Sk; injection e with _ e2 _; rw [e2]; simp; have := unhide HN; omega
    have hmc : m ≤ c ∧ c ≤ maxLen ∧ (ao = none → c = 0) := by obtain ⟨_, _, e, x1, x2, x3, _⟩ := Sk; injection e with e1 e2 e3; subst e1; subst e3; exact ⟨by omega, x2, x3⟩
    obtain ⟨hmc, hcx, hao⟩ := hmc
    unfold maxLen at hcx
    have hKw : Hid (Kp [b1] w wr) := ((unhide hKW).mono (by simp)).trans Kr
    have hbl1 : w.heap.size ≤ b1 := by have := unhide HB1; omega
    by_cases hge : 64 ≤ m
    · cases ao with
      | none => have := hao rfl; omega
      | some a =>
      have hgi : (64 : Int) ≤ (m : Int) := by omega
      have hgc : (64 : Int) ≤ (c : Int) := by omega
      have hdl : (bs.drop (64 * k)).length = m := by have := unhide HN; simp; omega
      have ST := Sk.take 64 (by omega)
      have hST : Hid (Sl wr.drew (.slice (some a) 64 c) ((bs.drop (64 * k)).take 64)) := (ST.old (unhide hKw) (by intro i _ hi; simp; omega)).kept (kp_drew wr) (by simp)
      have hSD := hide (Sk.drop 64 (by omega))
      have hdd : (bs.drop (64 * k)).drop 64 = bs.drop (64 * (k + 1)) := by rw [List.drop_drop]; congr 1
      rw [hdd] at hSD
      have hb64 : ((bs.drop (64 * k)).take 64).length = 64 := by simp; have := unhide HN; omega
      have hKr := hide Kr
      obtain ⟨sk, hsk⟩ : ∃ sk, sk = blks k begin8 bs := ⟨_, rfl⟩
      have HSK := hide hsk
      have AD : Ar wr.drew b1 74 (blks k begin8 bs) := Ak
      rw [← hsk] at AD hlk
      have hAD := hide AD
      have hAKr : Hid (Ar wr.drew b2 75 consts) := (unhide hAK).kept Kr.drew (by simpa using Ne.symm hne)
      have hi : (Tryd.prog.info? 74).map (·.size) = some sk.length := by rw [hlk]; exact Tryd.sz8
      have HML := hide hml
      clear Sk ST Kr Ak AD hsk hdd hdl hml
      go_wp2_with fail
      refine region_tail 3 Tryd.mixed (by kernel_rfl) ?_
      simp only [List.take_succ_cons, List.take_zero, List.drop_succ_cons, List.drop_zero]
      go_big_quiet_want
      refine quiet_load_ar 74 (.tmp 3) rfl b1 rfl _ sk 8 22 (unhide hAD) Tryd.underlying74 hi ?_
      simp only [Act.put, List.set_cons_zero, List.set_cons_succ, List.setIfInBounds_toArray]
      go_big_quiet_on
      repeat (first | go_big_quiet_skip | (go_big_quiet_want; go_big_quiet_op; go_big_quiet_on))
      refine wpQuiet_nil ?_
      have hbl := blk_len sk ((bs.drop (64 * k)).take 64) hlk
      have hi6 : (Tryd.prog.info? 74).map (·.size) = some (blk sk ((bs.drop (64 * k)).take 64)).length := by rw [hbl]; exact Tryd.sz8
      by_cases hc : c = 64
      · obtain rfl : c = 64 := hc
        obtain rfl : m = 64 := by omega
        go_wp2_with (first
          | (go_at_call 56; refine (block_any sk b2 _ _ _ hlk (unhide hAKr) (unhide hST) hb64 (((unhide HB).drop _).take _)).mono ?_; rintro ee w6 ⟨rfl, K6⟩; have A6 := (unhide hAD).kept K6 (by simp))
          | (refine wpList_store_ar rfl 74 (.tmp 3) (.tmp 20) rfl b1 rfl _ _ _ A6 rfl (by rw [hbl]; exact hlk) hi6 ?_; intro w7 A7 K7 z7))
        go_roundw
        case rel =>
          refine ⟨k + 1, 0, 0, some a, by have := unhide HML; omega, rfl, ?_, (((unhide hKr).drew).trans (K6.mono (by simp))).trans K7, ?_⟩
          · have := unhide hSD; rwa [if_pos trivial] at this
          · rw [blks_succ, ← unhide HSK]; exact A7
        case measure => show 0 < 64; omega
      · go_wp2_with (first
          | (go_at_call 56; refine (block_any sk b2 _ _ _ hlk (unhide hAKr) (unhide hST) hb64 (((unhide HB).drop _).take _)).mono ?_; rintro ee w6 ⟨rfl, K6⟩; have A6 := (unhide hAD).kept K6 (by simp))
          | (refine wpList_store_ar rfl 74 (.tmp 3) (.tmp 20) rfl b1 rfl _ _ _ A6 rfl (by rw [hbl]; exact hlk) hi6 ?_; intro w7 A7 K7 z7))
        go_roundw
        case rel =>
          refine ⟨k + 1, m - 64, c - 64, some (a.add 64), by have := unhide HML; omega, rfl, ?_, (((unhide hKr).drew).trans (K6.mono (by simp))).trans K7, ?_⟩
          · have := unhide hSD; rwa [if_neg hc] at this
          · rw [blks_succ, ← unhide HSK]; exact A7
        case measure => show m - 64 < m; omega
    · have hk64 : k = N / 64 := by omega
      obtain ⟨w6, hw6⟩ : ∃ w6, w6 = wr := ⟨_, rfl⟩
      subst hw6
      obtain ⟨rs, hrs⟩ : ∃ rs, rs = bs.drop (64 * k) := ⟨_, rfl⟩
      have hrl : rs.length = m := by rw [hrs]; simp; have := unhide HN; omega
      have hrl64 : rs.length < 64 := by omega
      have hS6 : Sl w6 (.slice ao m c) rs := by rw [hrs]; exact Sk.old (unhide hKw) (by intro i _ hi; simp; omega)
      obtain ⟨s1, hs1⟩ : ∃ s1, s1 = blks k begin8 bs := ⟨_, rfl⟩
      rw [← hs1] at Ak hlk
      have HRS := hide hrs
      have HS1 := hide hs1
      have HK64 := hide hk64
      have hA6 := hide Ak
      have hA26 : Hid (Ar w6 b2 75 consts) := (unhide hAK).kept Kr (by simpa using Ne.symm hne)
      have hl1 := Ak.lt
      have hl2 := (unhide hA26).lt
      have HS6 := hide hS6
      have HBr : Hid (Bs rs) := by rw [hrs]; exact (unhide HB).drop _
      have hmi : (m : Int) < 64 := by omega
      have HRL := hide hrl
      clear Sk Kr Ak hS6 hrs hs1 hk64 hrl hml hAH hAK hge
      have R0 : Row (w6.alloc (.cells #[] 5)) w6.heap.size (.slice (some ⟨w6.heap.size, 0, none⟩) 0 0) [] := World.ownsRow_made w6 #[] 0 (Nat.le_refl _) (by simp [maxLen]) rfl
      have hR0 := hide R0
      have HS60 := hide ((unhide HS6).kept ((Kp.refl [] w6).alloc (.cells #[] 5)) (by simp))
      have K60 : Kp [] w6 (w6.alloc (.cells #[] 5)) := (Kp.refl [] w6).alloc _
      clear R0
      go_wp2_with (first
        | (at_builtin; refine wpList_append_row rfl (.tmp 23) (.tmp 24) rfl w6.heap.size _ [] rfl (unhide hR0) _ rs rfl (unhide HS60) (by simp; omega) K60.size ?_; intro ao7 m7 c7 w7 r7 s7; have K7 := (unhide hR0).step K60 s7; rw [List.nil_append] at r7)
        | (at_builtin; refine wpList_append_row rfl (.tmp 25) (.tmp 26) rfl w6.heap.size _ rs rfl (r7.kept ((Kp.refl [] w7).alloc _) (by simp)) _ [128] rfl (one_block w7 128) (by simp; omega) (by have := K7.size; simp; omega) ?_; intro ao8 m8 c8 w8 r8 s8; have K8 := r7.step K7 (s8.after ((Kp.refl [] w7).alloc _))))
      have hm8 := r8.len
      have hR3 : Row w8 w6.heap.size (.slice ao8 m8 c8) (rs ++ [128] ++ List.replicate 0 0) := by simpa using r8
      have hR := hide hR3
      have hK8 := hide K8
      clear r7 r8 hR3 K7 K8 s7 s8 hm8 K60 hR0 HS60
      go_loopw [6] (fun v wr => ∃ (z m c : Nat) (ao : Option Addr), z ≤ zeros rs.length ∧ v = .slice ao m c ∧ Row wr w6.heap.size v (rs ++ [128] ++ List.replicate z 0) ∧ Kp [] w6 wr) (fun v _ => 200 - (match v with | .slice _ m _ => m | _ => 0))
      case atStart => exact ⟨0, m8, c8, ao8, by omega, rfl, unhide hR, unhide hK8⟩
      case round =>
        obtain ⟨z, m, c, ao, hz, rfl, Rr, Kr⟩ := hrel
        have hml := Rr.len
        simp only [List.length_append, List.length_replicate, List.length_cons, List.length_nil] at hml
        have hzb : zeros rs.length < 64 := by unfold zeros; omega
        by_cases hlt : z < zeros rs.length
        · have hne6 : ¬ ((m : Int) % 64 = 56) := by unfold zeros at hlt; omega
          have hmm : m ≤ 150 := by omega
          have HML := hide hml
          have hrb : (rs ++ [128] ++ List.replicate z (0 : Int)).length ≤ 150 := by simp; omega
          clear hml
          go_wp2_with (at_builtin; refine wpList_append_row rfl (.tmp 32) (.tmp 33) rfl w6.heap.size _ _ rfl (Rr.kept ((Kp.refl [] wr).alloc _) (by simp)) _ [0] rfl (one_block wr 0) (by simp only [List.length_cons, List.length_nil]; omega) (by have := Kr.size; simp; omega) ?_; intro ao2 m2 c2 w2 r2 s2)
          have hm2 := r2.len
          simp only [List.length_append, List.length_replicate, List.length_cons, List.length_nil] at hm2
          go_roundw
          case rel =>
            refine ⟨z + 1, m2, c2, ao2, by omega, rfl, ?_, Rr.step Kr (s2.after ((Kp.refl [] wr).alloc _))⟩
            rw [List.replicate_succ', ← List.append_assoc]
            exact r2
          case measure => show 200 - m2 < 200 - m; have := unhide HML; omega
        · have hzz : z = zeros rs.length := by omega
          have he : (m : Int) % 64 = 56 := by rw [hzz] at hml; unfold zeros at hml; omega
          obtain ⟨pre, hpre⟩ : ∃ pre, pre = rs ++ [128] ++ List.replicate z 0 := ⟨_, rfl⟩
          have hpl : pre.length ≤ 128 := by rw [hpre]; simp; omega
          have hR9 : Row wr w6.heap.size (.slice ao m c) (pre ++ (be8 (N * 8)).take 0) := by simpa [hpre] using Rr
          have HR9 := hide hR9
          have HK9 := hide Kr
          have HP : Hid (pre ++ (be8 (N * 8)).take 8 = pad rs N) := by
            show _ = _
            unfold pad
            rw [hpre, hzz, List.take_of_length_le (by simp [be8])]
          clear hpre Rr Kr hR9 hml hzz hlt hz hzb
          have hN8 : (N : Int) * 8 ≤ 1125899906842624 := by omega
          go_wp2_with fail
          clear he
          go_loopw [6, 7] (fun v i wr => ∃ (j m c : Nat) (ao : Option Addr), j ≤ 8 ∧ v = .slice ao m c ∧ i = .int .i64 (7 - (j : Int)) ∧ Row wr w6.heap.size v (pre ++ (be8 (N * 8)).take j) ∧ Kp [] w6 wr) (fun _ i _ => (intOf i + 1).toNat)
          case atStart => exact ⟨0, m, c, ao, by omega, rfl, rfl, unhide HR9, unhide HK9⟩
          case round =>
            obtain ⟨j, m, c, ao, hj, rfl, rfl, Rr, Kr⟩ := hrel
            by_cases hlt : j < 8
            · have hj2 : (j : Int) < 8 := by omega
              have hj3 : (j : Int) ≤ 7 := by omega
              have HT := hide (be8_take (N * 8) j hlt)
              have hpj : (pre ++ (be8 (N * 8)).take j).length ≤ 136 := by simp [be8]; omega
              obtain ⟨q, hq⟩ : ∃ q, q = pre ++ (be8 (N * 8)).take j := ⟨_, rfl⟩
              rw [← hq] at hpj Rr
              have HQ := hide hq
              clear hq
              go_wp2_with (at_builtin; refine wpList_append_row rfl (.tmp 39) (.tmp 48) rfl w6.heap.size _ _ rfl (Rr.kept ((Kp.refl [] wr).alloc _) (by simp)) _ [(N : Int) * 8 / 2 ^ (8 * (7 - j)) % 256] rfl (one_block wr _) (by simp; omega) (by have := Kr.size; simp; omega) ?_; intro ao2 m2 c2 w2 r2 s2)
              go_roundw
              case rel =>
                refine ⟨j + 1, m2, c2, ao2, by omega, rfl, by go_num, ?_, Rr.step Kr (s2.after ((Kp.refl [] wr).alloc _))⟩
                rw [unhide HT, ← List.append_assoc, ← unhide HQ]
                exact r2
              case measure => simp [intOf]; omega
            · obtain rfl : j = 8 := by omega
              rw [unhide HP] at Rr
              have e78 : (7 : Int) - ((8 : Nat) : Int) = -1 := by decide
              simp only [e78]
              clear e78
              obtain ⟨w9, hw9⟩ : ∃ w9, w9 = wr := ⟨_, rfl⟩
              subst hw9
              obtain ⟨pp, hpp⟩ : ∃ pp, pp = pad rs N := ⟨_, rfl⟩
              have hpl2 := pad_len rs N hrl64
              have HBp : Hid (Bs pp) := by rw [hpp]; exact pad_bs rs N (unhide HBr)
              rw [← hpp] at Rr hpl2
              obtain ⟨q, hq⟩ : ∃ q, q = pp.length / 64 := ⟨_, rfl⟩
              rw [← hq] at hpl2
              obtain ⟨hpq, hp128⟩ := hpl2
              have hmp : m = pp.length := Rr.len
              have hown : ∀ i, (Value.slice ao m c).ownBlock = some i → b1 ≠ i := fun i hi => by have := Rr.own i hi; omega
              have hown2 : ∀ i, (Value.slice ao m c).ownBlock = some i → b2 ≠ i := fun i hi => by have := Rr.own i hi; omega
              have hS9 := hide Rr.sl
              have hA9 := hide ((unhide hA6).kept Kr (by simp))
              have hA29 := hide ((unhide hA26).kept Kr (by simp))
              have hK9w : Hid (Kp [b1] w w9) := (unhide hKw).trans (Kr.mono (by simp))
              have HPP := hide hpp
              have HQ := hide hq
              have HPQ := hide hpq
              have hq2 : q ≤ 2 := by omega
              have HMP := hide hmp
              clear Rr Kr hpp hq hmp HR9 HK9 HP hpl hN8 hK8 hR hA6 hA26
              go_wp2_with fail
              go_loopw [6] (fun v wr => ∃ (j m c : Nat) (ao : Option Addr), j ≤ q ∧ v = .slice ao m c ∧ m = 64 * (q - j) ∧ (∀ i, v.ownBlock = some i → b1 ≠ i) ∧ Sl w9 v (pp.drop (64 * j)) ∧ Kp [b1] w9 wr ∧ Ar wr b1 74 (blks j s1 pp)) (fun v _ => (match v with | .slice _ m _ => m | _ => 0))
              case atStart => exact ⟨0, m, c, ao, by omega, rfl, by have := unhide HMP; have := unhide HPQ; omega, hown, by simpa using unhide hS9, Kp.refl _ _, unhide hA9⟩
              case round =>
                obtain ⟨j, m, c, ao, hj, rfl, hm, ho1, Sj, Kr, Aj⟩ := hrel
                have hlj := blks_len s1 pp hlk j
                have hmc : m ≤ c ∧ c ≤ maxLen ∧ (ao = none → c = 0) := by obtain ⟨_, _, e, x1, x2, x3, _⟩ := Sj; injection e with e1 e2 e3; subst e1; subst e3; exact ⟨by omega, x2, x3⟩
                obtain ⟨hmc, hcx, hao⟩ := hmc
                unfold maxLen at hcx
                by_cases hlt : j < q
                · have hge : 64 ≤ m := by omega
                  cases ao with
                  | none => have := hao rfl; omega
                  | some a =>
                  have hgi : (64 : Int) ≤ (m : Int) := by omega
                  have hg0 : (0 : Int) < (m : Int) := by omega
                  have hgc : (64 : Int) ≤ (c : Int) := by omega
                  have hdl : (pp.drop (64 * j)).length = m := by have := unhide HPQ; simp; omega
                  have ST := Sj.take 64 (by omega)
                  have hST : Hid (Sl wr.drew (.slice (some a) 64 c) ((pp.drop (64 * j)).take 64)) := (ST.kept Kr (by intro i hi; have := ho1 i hi; simp; omega)).kept (kp_drew wr) (by simp)
                  have hSD := hide (Sj.drop 64 (by omega))
                  have hdd : (pp.drop (64 * j)).drop 64 = pp.drop (64 * (j + 1)) := by rw [List.drop_drop]; congr 1
                  rw [hdd] at hSD
                  have hb64 : ((pp.drop (64 * j)).take 64).length = 64 := by simp; have := unhide HPQ; omega
                  have hKr := hide Kr
                  obtain ⟨sk, hsk⟩ : ∃ sk, sk = blks j s1 pp := ⟨_, rfl⟩
                  have HSK := hide hsk
                  have AD : Ar wr.drew b1 74 (blks j s1 pp) := Aj
                  rw [← hsk] at AD hlj
                  have hAD := hide AD
                  have hAKr : Hid (Ar wr.drew b2 75 consts) := (unhide hA29).kept Kr.drew (by simpa using Ne.symm hne)
                  have hi : (Tryd.prog.info? 74).map (·.size) = some sk.length := by rw [hlj]; exact Tryd.sz8
                  have HML := hide hm
                  have HO1 := hide ho1
                  have hab1 : b1 ≠ a.block := ho1 a.block rfl
                  clear Sj ST Kr Aj AD hsk hdd hdl hm ho1
                  go_wp2_with fail
                  refine region_tail 3 Tryd.mixed (by kernel_rfl) ?_
                  simp only [List.take_succ_cons, List.take_zero, List.drop_succ_cons, List.drop_zero]
                  go_big_quiet_want
                  refine quiet_load_ar 74 (.tmp 3) rfl b1 rfl _ sk 8 22 (unhide hAD) Tryd.underlying74 hi ?_
                  simp only [Act.put, List.set_cons_zero, List.set_cons_succ, List.setIfInBounds_toArray]
                  go_big_quiet_on
                  repeat (first | go_big_quiet_skip | (go_big_quiet_want; go_big_quiet_op; go_big_quiet_on))
                  refine wpQuiet_nil ?_
                  have hbl := blk_len sk ((pp.drop (64 * j)).take 64) hlj
                  have hi6 : (Tryd.prog.info? 74).map (·.size) = some (blk sk ((pp.drop (64 * j)).take 64)).length := by rw [hbl]; exact Tryd.sz8
                  by_cases hc : c = 64
                  · obtain rfl : c = 64 := hc
                    obtain rfl : m = 64 := by omega
                    go_wp2_with (first
                      | (go_at_call 56; refine (block_any sk b2 _ _ _ hlj (unhide hAKr) (unhide hST) hb64 (((unhide HBp).drop _).take _)).mono ?_; rintro ee w10 ⟨rfl, K10⟩; have A10 := (unhide hAD).kept K10 (by simp))
                      | (refine wpList_store_ar rfl 74 (.tmp 3) (.tmp 56) rfl b1 rfl _ _ _ A10 rfl (by rw [hbl]; exact hlj) hi6 ?_; intro w11 A11 K11 z11))
                    go_roundw
                    case rel =>
                      refine ⟨j + 1, 0, 0, some a, by omega, rfl, by have := unhide HML; omega, unhide HO1, ?_, (((unhide hKr).drew).trans (K10.mono (by simp))).trans K11, ?_⟩
                      · have := unhide hSD; rwa [if_pos trivial] at this
                      · rw [blks_succ, ← unhide HSK]; exact A11
                    case measure => show 0 < 64; omega
                  · go_wp2_with (first
                      | (go_at_call 56; refine (block_any sk b2 _ _ _ hlj (unhide hAKr) (unhide hST) hb64 (((unhide HBp).drop _).take _)).mono ?_; rintro ee w10 ⟨rfl, K10⟩; have A10 := (unhide hAD).kept K10 (by simp))
                      | (refine wpList_store_ar rfl 74 (.tmp 3) (.tmp 56) rfl b1 rfl _ _ _ A10 rfl (by rw [hbl]; exact hlj) hi6 ?_; intro w11 A11 K11 z11))
                    go_roundw
                    case rel =>
                      refine ⟨j + 1, m - 64, c - 64, some (a.add 64), by omega, rfl, by have := unhide HML; omega, ?_, ?_, (((unhide hKr).drew).trans (K10.mono (by simp))).trans K11, ?_⟩
                      · intro i hi
                        have : i = a.block := by have e := hi; simp only [Value.ownBlock, Option.some.injEq] at e; rw [← e]
                        rw [this]; exact hab1
                      · have := unhide hSD; rwa [if_neg hc] at this
                      · rw [blks_succ, ← unhide HSK]; exact A11
                    case measure => show m - 64 < m; omega
                · obtain rfl : j = q := by omega
                  obtain rfl : m = 0 := by omega
                  obtain ⟨w10, hw10⟩ : ∃ w10, w10 = wr := ⟨_, rfl⟩
                  subst hw10
                  obtain ⟨s2, hs2⟩ : ∃ s2, s2 = blks j s1 pp := ⟨_, rfl⟩
                  rw [← hs2] at Aj hlj
                  have hfin : lay8 s2 = sha bs := by
                    have e1 := unhide HN
                    have e2 := unhide HK64
                    unfold sha fin8
                    rw [← e1, ← e2, hs2, unhide HS1, unhide HQ, unhide HPP, unhide HRS, Nat.mul_comm k 64]
                  have HF := hide hfin
                  have hA10 := hide Aj
                  have hl10 := Aj.lt
                  have hK10 : Hid (Kp [] w w10) := ((unhide hK9w).trans Kr).then (Kp.refl [] w10) (by simp) |>.below (Nat.le_refl _) (by simp; omega) |> fun h => ⟨h.os, h.tape, h.output, h.size, fun k hk _ => h.block k hk⟩
                  clear Sj Kr Aj hs2 hfin hA9 hA29 hK9w hS9 ho1 hm hmc
                  go_wp2_with fail
                  go_loopw [8, 9] (fun v i wr => ∃ (k m c : Nat) (ao : Option Addr), k ≤ 8 ∧ v = .slice ao m c ∧ i = .int .i64 k ∧ Row wr w10.heap.size v (lay8 (s2.take k)) ∧ Kp [] w10 wr) (fun _ i _ => 8 - (intOf i).toNat)
                  case atStart => exact ⟨0, 0, 0, none, by omega, rfl, rfl, ⟨rfl, .inl ⟨rfl, rfl⟩⟩, Kp.refl _ _⟩
                  case round =>
                    obtain ⟨k, m, c, ao, hk, rfl, rfl, Rr, Kr⟩ := hrel
                    by_cases hlt : k < 8
                    · have hlt2 : (k : Int) < 8 := by omega
                      have hck := ((unhide hA10).kept Kr (by simp)).cell k (by omega)
                      have hsn := lay8_snoc s2 k (by omega)
                      obtain ⟨x, hx⟩ : ∃ x, x = s2.getD k 0 := ⟨_, rfl⟩
                      rw [← hx] at hck hsn
                      have HS := hide hsn
                      have hll : (lay8 (s2.take k)).length ≤ 32 := by rw [lay8_len]; simp; omega
                      have hRr := hide Rr
                      have hKr := hide Kr
                      clear hx hsn Rr Kr
                      have hnb : b1 ∉ (Value.slice ao m c).ownBlock.toList := by intro h; have := (unhide hRr).own b1 (by simpa using h); omega
                      go_wp2_with fail
                      go_region_held3 (fun W => W.cell? ⟨b1, k, none⟩ = some (.int .u32 x)) (first | go_keep | exact s2'.1.cell (((Kp.refl [] wr).alloc _).drew.cell hck (by simp)) hnb) ((refine step_append_row (by rfl) (.tmp 63) (.tmp 83) (by rfl) w10.heap.size _ _ (by rfl) ((unhide hRr).kept ((Kp.refl [] wr).alloc _).drew (by simp)) _ [_, _, _, _] (by rfl) (Sl.block (cs := [_, _, _, _]) (t := 5) (heap_alloc_new wr _) (by simp [maxLen])) (by simp only [List.length_cons, List.length_nil]; omega) (by have := (unhide hKr).size; simp; omega) ?_; intro ao2 m2 c2 w2 r2 s2'))
                      go_wp2_with fail
                      go_roundw
                      case rel =>
                        refine ⟨k + 1, m2, c2, ao2, by omega, rfl, by go_num, ?_, (unhide hRr).step (unhide hKr) (s2'.after ((Kp.refl [] wr).alloc _).drew)⟩
                        rw [unhide HS]; exact r2
                      case measure => simp [intOf]; omega
                    · obtain rfl : k = 8 := by omega
                      rw [List.take_of_length_le (by omega), unhide HF] at Rr
                      go_wp2_with fail
                      go_ret
                      exact ⟨ao, m, c, rfl, owns_rebase Rr (fun i hi => Nat.le_trans (unhide hK10).size (Rr.own i hi)), (unhide hK10).trans Kr⟩
theorem refsum_big_at (vb : Value) (bs r : List Int) (hr : r = sha bs) (w : World) (hS : Sl w vb bs) (hB : Bs bs) (hl : bs.length ≤ 140737488355328) :
    Calls Tryd.prog 53 #[vb] w fun e w' => ∃ ao m c, e = .returned (.slice ao m c) ∧ Row w' w.heap.size (.slice ao m c) r ∧ Kp [] w w' := by
  rw [hr]
  exact refsum_big vb bs w hS hB hl
theorem cat_take_le2 (l : List (Value × List Int)) (k : Nat) : (cat (l.take k)).length ≤ (cat l).length := by
  have e : cat l = cat (l.take k) ++ cat (l.drop k) := by
    unfold cat
    rw [← List.flatten_append, ← List.map_append, List.take_append_drop]
  rw [e, List.length_append]
  omega
set_option maxRecDepth 100000 in
set_option maxHeartbeats 1000000 in
theorem reftagged_big (tag : Int) (vl : Value) (l : List (Value × List Int)) (r : List Int) (hr : r = sha (tag :: cat l)) (w : World) (hL : Lists w vl l) (h0 : 0 ≤ tag) (h1 : tag ≤ 255) (hn : l.length ≤ 100000) (hm : (cat l).length ≤ 140737488351232) :
    Calls Tryd.prog 46 #[.int .u8 tag, vl] w fun e w' => ∃ ao m c, e = .returned (.slice ao m c) ∧ Row w' w.heap.size (.slice ao m c) r ∧ Kp [] w w' := by
  have hBl := hL.bs
  have HBl := hide hBl
  have HR := hide hr
  have HM := hide hm
  obtain ⟨al, cl, rfl, hll, hcell⟩ := hL
  have hlen : (l.length : Int) ≤ 100000 := by omega
  have HC := hide hcell
  clear hcell hr hm hBl hll
  go_enter Tryd.func46, Tryd.ntmps46
  go_wp2_with fail
  have R0 : Row (w.alloc (.cells #[.int .u8 tag] 5)) w.heap.size (.slice (some ⟨w.heap.size, 0, none⟩) 1 1) [tag] := row_of_block (bs := [tag]) (Nat.le_refl _) (heap_alloc_new w _) rfl (by simp [maxLen])
  have hR0 := hide R0
  clear R0
  go_loopw [5, 6] (fun v i wr => ∃ (k m c : Nat) (ao : Option Addr), k ≤ l.length ∧ v = .slice ao m c ∧ i = .int .i64 k ∧ Row wr w.heap.size v (tag :: cat (l.take k)) ∧ Kp [] w wr) (fun _ i _ => l.length - (intOf i).toNat)
  case atStart => exact ⟨0, 1, 1, some ⟨w.heap.size, 0, none⟩, Nat.zero_le _, rfl, rfl, by simpa [cat] using unhide hR0, (Kp.refl [] w).alloc _⟩
  case round =>
    obtain ⟨k, m, c, ao, hk, rfl, rfl, Rr, Kr⟩ := hrel
    by_cases hlt : k < l.length
    · have hlt2 : (k : Int) < (l.length : Int) := by omega
      obtain ⟨b, off, rfl, hc, hS, hB⟩ := unhide HC k hlt
      have hcl : (cat (l.take k)).length + l[k].2.length ≤ 140737488351232 := by have e := congrArg List.length (cat_take l k hlt); rw [List.length_append] at e; have := cat_take_le2 l (k + 1); have := unhide HM; omega
      have hE := cat_take l k hlt
      obtain ⟨x, hx⟩ : ∃ x, x = l[k] := ⟨_, rfl⟩
      rw [← hx] at hc hS hcl hE
      have hcw := Kr.cell hc (by simp)
      have hSw := hS.kept Kr (by simp)
      obtain ⟨ax, cx, hxv⟩ : ∃ ax cx, x.1 = .slice ax x.2.length cx := by obtain ⟨ax, cx, e, _⟩ := hS; exact ⟨ax, cx, e⟩
      have HE := hide hE
      rw [hxv] at hSw hcw
      have HSw := hide hSw
      obtain ⟨nx, hnx⟩ : ∃ nx, nx = x.2.length := ⟨_, rfl⟩
      rw [← hnx] at HSw hcw
      clear hE hx hc hS hB hSw hxv HC hnx
      go_wp2_with (at_builtin; refine wpList_append_row rfl (.tmp 15) (.tmp 19) rfl w.heap.size _ _ rfl Rr _ x.2 rfl (unhide HSw) (by simp only [List.length_cons]; omega) Kr.size ?_; intro ao2 m2 c2 w2 r2 s2)
      go_roundw
      case rel =>
        refine ⟨k + 1, m2, c2, ao2, by omega, rfl, by go_num, ?_, Rr.step Kr s2⟩
        rw [unhide HE]; exact r2
      case measure => simp [intOf]; omega
    · obtain rfl : k = l.length := by omega
      rw [List.take_length] at Rr
      have hcl := unhide HM
      have hRr := hide Rr
      have hKr := hide Kr
      have hBt : Hid (Bs (tag :: cat l)) := fun b hb => by
        rcases List.mem_cons.1 hb with rfl | hb
        · exact ⟨h0, h1⟩
        · exact cat_bs l (unhide HBl) b hb
      clear Rr Kr HC
      go_wp2_with (go_at_call 53; refine (refsum_big_at _ (tag :: cat l) r (unhide HR) _ (unhide hRr).sl (unhide hBt) (by simp only [List.length_cons]; omega)).mono ?_; rintro ee w3 ⟨ao3, m3, c3, rfl, R3, K3⟩)
      go_ret
      exact ⟨ao3, m3, c3, rfl, owns_rebase R3 (fun i hi => Nat.le_trans (unhide hKr).size (R3.own i hi)), (unhide hKr).trans K3⟩

set_option maxRecDepth 100000 in
set_option maxHeartbeats 1000000 in
theorem rleaf_big (v : Value) (bs : List Int) (r : List Int) (hr : r = tleafP bs) (w : World) (hS : Sl w v bs) (hB : Bs bs) (hl : bs.length ≤ 140737488351232) :
    Calls Tryd.prog 22 #[v] w fun e w' => ∃ ao m c, e = .returned (.slice ao m c) ∧ Row w' w.heap.size (.slice ao m c) r ∧ Kp [] w w' := by
  have HL := lists1 hS hB
  have HK := hide ((Kp.refl [] w).alloc (.cells #[v] 23))
  have HC := hide (reftagged_big 0 _ _ r (by rw [hr, cat1]; rfl) _ HL (by omega) (by omega) (by simp) (by rw [cat1]; exact hl))
  rw [show (w.alloc (.cells #[v] 23)).heap.size = w.heap.size + 1 by simp] at HC
  obtain ⟨ab, cb, hvb, _⟩ := hS
  obtain ⟨nb, hnb⟩ : ∃ n, n = bs.length := ⟨_, rfl⟩
  rw [← hnb] at hvb
  subst hvb
  clear hr hB hl HL hnb
  go_enter Tryd.func22, Tryd.ntmps22
  go_wp2_with fail
  refine (unhide HC).mono ?_
  rintro ee w2 ⟨ao2, m2, c2, rfl, R2, K2⟩
  have HR2 : Hid (Row w2 w.heap.size (.slice ao2 m2 c2) r) := owns_rebase R2 (fun i hi => by have := Row.own R2 i hi; omega)
  have HK2 := hide ((unhide HK).trans K2)
  clear HC HK R2 K2
  go_wp2_with fail
  go_ret
  exact ⟨ao2, m2, c2, rfl, unhide HR2, unhide HK2⟩
end Go.Proofs.YtioflclfgkcpfaaDoor
