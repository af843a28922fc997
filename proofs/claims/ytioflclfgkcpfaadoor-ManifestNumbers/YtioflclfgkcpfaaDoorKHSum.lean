/-
  The contract of the program's Sum.
-/
import Derived.Test.YtioflclfgkcpfaaDoorKHPad
namespace Go.Proofs.YtioflclfgkcpfaaDoor
open Go.RowKit

theorem run_load_ar {w : World} {b : Nat} {t ty : TypeId} {s : List Int} {n : Nat} {e : TypeId} (hA : Ar w b t s) (hu : Tryd.prog.underlying ty = some (.array n e)) (hi : (Tryd.prog.info? ty).map (·.size) = some s.length) :
    (Instr.loadAt ty (.pointer (some ⟨b, 0, none⟩))).run Tryd.prog w = .ok (ag s) w := by
  simp only [Instr.loadAt, Instr.sureAddr, Sem.run_bind, Sem.run_pure, Result.andThen_ok, run_loadVar_row w b t ty _ (0, 0) (.array n e) hA hu rfl (by simpa using hi)]
  rfl
theorem run_store_ar {w : World} {b : Nat} {t ty : TypeId} {s0 s : List Int} (hA : Ar w b t s0) (hl : s0.length = s.length) (hi : (Tryd.prog.info? ty).map (·.size) = some s.length) :
    ∃ w', (Instr.storeAt ty (.pointer (some ⟨b, 0, none⟩)) (ag s)).run Tryd.prog w = .ok () w' ∧ Ar w' b t s ∧ Kp [b] w w' := by
  refine ⟨_, run_storeAt_mid w b 0 ty (s.map (Value.int .u32)).toArray ?_ (by simpa using hi) (all_oneCell_toArray (by simp [Value.oneCell'])), ?_, kp_setCells w b _ 0 w (Kp.refl _ _)⟩
  · intro j hj
    simp only [List.size_toArray, List.length_map] at hj
    rw [Nat.zero_add, hA.cell j (by omega)]
    exact ⟨rfl, hA.frozen j⟩
  · have := ar_setCells b t s 0 s0 w hA (by omega)
    simpa using this
theorem pad_len (rs : List Int) (N : Nat) (h : rs.length < 64) : (pad rs N).length = 64 * ((pad rs N).length / 64) ∧ (pad rs N).length ≤ 128 := by
  have : (pad rs N).length = rs.length + 1 + zeros rs.length + 8 := by simp [pad, be8]; omega
  unfold zeros at this
  omega
theorem be8_bs (n : Int) : Bs (be8 n) := by
  intro b hb
  simp only [be8, List.mem_cons, List.not_mem_nil, or_false] at hb
  rcases hb with rfl | rfl | rfl | rfl | rfl | rfl | rfl | rfl <;> omega
theorem pad_bs (rs : List Int) (N : Nat) (h : Bs rs) : Bs (pad rs N) := by
  intro b hb
  simp only [pad, List.mem_append] at hb
  rcases hb with ((hb | hb) | hb) | hb
  · exact h b hb
  · simp at hb; omega
  · have := (List.mem_replicate.1 hb).2; omega
  · exact be8_bs _ b hb

theorem Ar.cells8 {w : World} {b : Nat} {ty : TypeId} {x0 x1 x2 x3 x4 x5 x6 x7 : Int} (h : Ar w b ty [x0, x1, x2, x3, x4, x5, x6, x7]) :
    w.cell? ⟨b, 0, none⟩ = some (.int .u32 x0) ∧ w.cell? ⟨b, 1, none⟩ = some (.int .u32 x1) ∧ w.cell? ⟨b, 2, none⟩ = some (.int .u32 x2) ∧ w.cell? ⟨b, 3, none⟩ = some (.int .u32 x3) ∧ w.cell? ⟨b, 4, none⟩ = some (.int .u32 x4) ∧ w.cell? ⟨b, 5, none⟩ = some (.int .u32 x5) ∧ w.cell? ⟨b, 6, none⟩ = some (.int .u32 x6) ∧ w.cell? ⟨b, 7, none⟩ = some (.int .u32 x7) :=
  ⟨h.cell 0 (by simp), h.cell 1 (by simp), h.cell 2 (by simp), h.cell 3 (by simp), h.cell 4 (by simp), h.cell 5 (by simp), h.cell 6 (by simp), h.cell 7 (by simp)⟩
theorem Ar.frozen8 {w : World} {b : Nat} {ty : TypeId} {s : List Int} (h : Ar w b ty s) :
    w.frozen? ⟨b, 0, none⟩ = false ∧ w.frozen? ⟨b, 1, none⟩ = false ∧ w.frozen? ⟨b, 2, none⟩ = false ∧ w.frozen? ⟨b, 3, none⟩ = false ∧ w.frozen? ⟨b, 4, none⟩ = false ∧ w.frozen? ⟨b, 5, none⟩ = false ∧ w.frozen? ⟨b, 6, none⟩ = false ∧ w.frozen? ⟨b, 7, none⟩ = false :=
  ⟨h.frozen 0, h.frozen 1, h.frozen 2, h.frozen 3, h.frozen 4, h.frozen 5, h.frozen 6, h.frozen 7⟩
theorem ag_eight (x0 x1 x2 x3 x4 x5 x6 x7 : Int) : ag [x0, x1, x2, x3, x4, x5, x6, x7] = .agg #[.int .u32 x0, .int .u32 x1, .int .u32 x2, .int .u32 x3, .int .u32 x4, .int .u32 x5, .int .u32 x6, .int .u32 x7] := rfl
theorem padded_at (vr : Value) (rs : List Int) (N : Nat) (L : Int) (hL : L = (N : Int)) (w : World) (hS : Sl w vr rs) (hl : rs.length < 64) (hN : N ≤ 1000000000000000) :
    Calls Tryd.prog 59 #[vr, .int .i64 L] w fun e w' => ∃ ao m c, e = .returned (.slice ao m c) ∧ Row w' w.heap.size (.slice ao m c) (pad rs N) ∧ Kp [] w w' := by
  subst hL
  exact padded_any vr rs N w hS hl hN
theorem sha_parts (bs : List Int) (n N k : Nat) (s1 xs ys : List Int) (hN : N = bs.length) (hn : n = bs.length / 64) (h1 : s1 = blks n begin8 bs) (hx : s1 = xs) (hk : k = (pad (bs.drop (64 * n)) N).length / 64) (hy : blks k xs (pad (bs.drop (64 * n)) N) = ys) : lay8 ys = sha bs := by
  unfold sha fin8
  rw [show bs.length / 64 * 64 = 64 * n from by omega, ← hn, ← h1, hx, ← hN, ← hk, hy]
theorem blks_take (s bs : List Int) (m : Nat) : ∀ k, 64 * k ≤ m → blks k s (bs.take m) = blks k s bs
  | 0, _ => rfl
  | k + 1, h => by
    simp only [blks]
    rw [blks_take s bs m k (by omega), List.drop_take, List.take_take, Nat.min_eq_left (by omega)]

set_option maxRecDepth 100000 in
set_option maxHeartbeats 2000000 in
theorem sum_any (vb : Value) (bs : List Int) (w : World) (hS : Sl w vb bs) (hB : Bs bs) (hl : bs.length ≤ 1000000000000) (hG : Gl w) :
    Calls Tryd.prog 54 #[vb] w fun e w' => ∃ ao m c, e = .returned (.slice ao m c) ∧ Row w' w.heap.size (.slice ao m c) (sha bs) ∧ Kp [] w w' := by
  obtain ⟨i0, hi0, hz0⟩ := Tryd.zeroW
  have HB : Hid (Bs bs) := hB
  have HG : Hid (Gl w) := hG
  have hpos := hG.pos
  have HSl : Hid (Sl w vb bs) := hS
  obtain ⟨ab, cb, rfl, h1, h2, h3, _⟩ := hS
  obtain ⟨N, hN⟩ : ∃ N, N = bs.length := ⟨_, rfl⟩
  obtain ⟨n, hn⟩ : ∃ n, n = bs.length / 64 := ⟨_, rfl⟩
  have hrem : (N : Int) - (N : Int) % 64 = 64 * (n : Int) := by omega
  have hnn : 64 * n ≤ N := by omega
  have hcc : (N : Int) ≤ (cb : Int) := by omega
  rw [← hN] at h1 HSl ⊢
  have HN := hide hN
  have HNn := hide hn
  have hNl : N ≤ 1000000000000 := by omega
  clear hB hG hN hn hl
  go_enter Tryd.func54, Tryd.ntmps54
  go_wp2_with (first
    | (go_at_call 57; refine (beg_any _).mono ?_; rintro ee w1 ⟨rfl, K1⟩)
    | (refine wpList_alloc_ar (w := w1) rfl 80 rfl i0 _ hi0 hz0 ?_; intro w2 A2 K2 z2)
    | (refine wpList_store_ar rfl 80 (.tmp 3) (.tmp 5) rfl w1.heap.size rfl _ _ begin8 A2 rfl rfl Tryd.szW ?_; intro w3 A3 K3 z3))
  obtain ⟨b1, hb1⟩ : ∃ b, b = w1.heap.size := ⟨_, rfl⟩
  have hbw : w.heap.size ≤ b1 := by have := K1.size; omega
  rw [← hb1] at A2 A3 K3
  simp only [← hb1]
  have K13 : Kp [] w w3 := (K1.trans K2).then K3 (by simp; omega)
  have S3 := (unhide HSl).kept K13 (by simp)
  have T3 := hide ((S3.kept (kp_drew w3) (by simp)).take (64 * n) (by have := unhide HN; omega))
  have HG3 := hide (((unhide HG).kept K13 (by simp)).kept (kp_drew w3) (by simp))
  have AD : Ar w3.drew b1 80 begin8 := A3
  have HK13 := hide K13
  have hAD := hide AD
  have hS3 := hide S3
  clear A2 A3 K1 K2 K3 K13 z2 z3 AD S3 hb1
  have hcc2 : 64 * (n : Int) ≤ (cb : Int) := by omega
  have hcc3 : 64 * (n : Int) ≤ (N : Int) := by omega
  refine region_tail 4 Tryd.mixed (by kernel_rfl) ?_
  simp only [List.take_succ_cons, List.take_zero, List.drop_succ_cons, List.drop_zero]
  go_big_quiet_want
  refine quiet_load_ar 80 (.tmp 3) rfl b1 rfl _ begin8 8 22 (unhide hAD) Tryd.underlying80 Tryd.szW ?_
  simp only [Act.put, List.set_cons_zero, List.set_cons_succ, List.setIfInBounds_toArray]
  go_big_quiet_on
  repeat (first | go_big_quiet_skip | (go_big_quiet_want; go_big_quiet_op; go_big_quiet_on))
  refine wpQuiet_nil ?_
  have hbt : (bs.take (64 * n)).length = 64 * n := by have := unhide HN; simp; omega
  obtain ⟨s1, hs1⟩ : ∃ s1, s1 = blks n begin8 bs := ⟨_, rfl⟩
  have hs1' : blks n begin8 (bs.take (64 * n)) = s1 := by rw [blks_take _ _ _ _ (Nat.le_refl _), hs1]
  have hs18 : s1.length = 8 := by rw [hs1]; exact blks_len _ _ rfl n
  have hi1 : (Tryd.prog.info? 80).map (·.size) = some s1.length := by rw [hs18]; exact Tryd.szW
  have HS1 := hide hs1
  have HS1' := hide hs1'
  clear hs1 hs1'
  go_wp2_with (first
    | (go_at_call 58; refine (mixAll_any begin8 _ _ n _ rfl (unhide T3) hbt (by omega) ((unhide HB).take _) (unhide HG3)).mono ?_; rintro ee w4 ⟨rfl, K4⟩; rw [unhide HS1']; have A4 := (unhide hAD).kept K4 (by simp))
    | (refine wpList_store_ar rfl 80 (.tmp 3) (.tmp 16) rfl b1 rfl _ _ s1 A4 rfl (by rw [hs18]; rfl) hi1 ?_; intro w5 A5 K5 z5))
  have K15 : Kp [] w w5 := (((unhide HK13).trans (kp_drew w3)).trans K4).then K5 (by simp; omega)
  have hK := hide K15
  have hA5 := hide A5
  have S5 := hide ((unhide HSl).kept K15 (by simp))
  have HG5 := hide ((unhide HG).kept K15 (by simp))
  have hl5 := A5.lt
  clear A4 A5 K4 K5 z5 K15 T3 HG3 HK13 hAD hS3
  simp only [Act.put]
  obtain ⟨x0, x1, x2, x3, x4, x5, x6, x7, hx⟩ := eight hs18
  have A5 := unhide hA5
  rw [hx] at A5
  obtain ⟨p0, p1, p2, p3, p4, p5, p6, p7⟩ := A5.cells8
  have HX := hide hx
  have SD : Sl w5.drew (.slice ab N cb) bs := (unhide S5).kept (kp_drew w5) (by simp)
  have SDr := SD.drop (64 * n) (by have := unhide HN; omega)
  have hSD := hide SDr
  have hrl : (bs.drop (64 * n)).length < 64 := by have := unhide HN; simp; omega
  have hA5' := hide A5
  clear SD SDr A5 hx
  have hcut : cb = 64 * n ∨ ∃ a, ab = some a ∧ ¬ cb = 64 * n := by
    by_cases hc : cb = 64 * n
    · exact .inl hc
    · cases ab with
      | none => have := h3 rfl; omega
      | some a => exact .inr ⟨a, rfl, hc⟩
  rcases hcut with hc | ⟨a, rfl, hc⟩
  · rw [if_pos hc] at hSD
    obtain rfl : cb = 64 * n := hc
    obtain rfl : N = 64 * n := by omega
    rw [Nat.sub_self] at hSD
    have hpl := pad_len (bs.drop (64 * n)) (64 * n) hrl
    have hpb := hide (pad_bs (bs.drop (64 * n)) (64 * n) ((unhide HB).drop _))
    obtain ⟨k6, hk6⟩ : ∃ k, k = (pad (bs.drop (64 * n)) (64 * n)).length / 64 := ⟨_, rfl⟩
    rw [← hk6] at hpl
    have hk62 : k6 ≤ 2 := by omega
    have HPL := hide hpl
    have HK6 := hide hk6
    clear hpl hk6
    go_region_with (first
      | (go_at_call 59; refine (padded_at _ (bs.drop (64 * n)) (64 * n) _ (by omega) _ (unhide hSD) hrl (by omega)).mono ?_; rintro ee w6 ⟨ao6, m6, c6, rfl, R6, K6⟩; have A6 := (unhide hA5').kept ((kp_drew w5).trans K6) (by simp); obtain ⟨q0, q1, q2, q3, q4, q5, q6, q7⟩ := A6.cells8; have hR6 := hide R6; have hK6 := hide K6; have hA6 := hide A6; clear R6 K6 A6)
      | (go_at_call 58; refine (mixAll_any [x0, x1, x2, x3, x4, x5, x6, x7] _ _ k6 _ rfl (unhide hR6).sl (unhide HPL).1 (by omega) (unhide hpb) ((unhide HG5).kept ((kp_drew w5).trans (unhide hK6)) (by simp))).mono ?_; rintro ee w7 ⟨rfl, K7⟩; obtain ⟨y0, y1, y2, y3, y4, y5, y6, y7, hy⟩ := eight (blks_len [x0, x1, x2, x3, x4, x5, x6, x7] (pad (bs.drop (64 * n)) (64 * n)) rfl k6); rw [hy, ag_eight]; have A7 := (unhide hA6).kept K7 (by simp); obtain ⟨r0, r1, r2, r3, r4, r5, r6, r7⟩ := A7.cells8; obtain ⟨t0, t1, t2, t3, t4, t5, t6, t7⟩ := A7.frozen8; have HY := hide hy; have hA7 := hide A7; have hK7 := hide K7; clear hy A7 K7))
    all_goals have A8 : Ar _ b1 80 [y0, y1, y2, y3, y4, y5, y6, y7] := ((((((((unhide hA7).set 0 y0).set 1 y1).set 2 y2).set 3 y3).set 4 y4).set 5 y5).set 6 y6).set 7 y7
    all_goals have hfin := sha_parts bs n _ k6 s1 _ _ (unhide HN) (unhide HNn) (unhide HS1) (unhide HX) (unhide HK6) (unhide HY)
    all_goals have hrow : ∀ W9 ao m c, Row W9 w.heap.size (.slice ao m c) (lay8 [y0, y1, y2, y3, y4, y5, y6, y7]) → Row W9 w.heap.size (.slice ao m c) (sha bs) := fun _ _ _ _ h => hfin ▸ h
    all_goals have HR := hide hrow
    all_goals have HKW : Hid (Kp [b1] w5 w7) := ((((kp_drew w5).trans (unhide hK6)).trans (unhide hK7)).mono (by simp))
    all_goals have KW := (unhide hK).then ((((((((((unhide HKW).setCell (p := ⟨b1, 0, none⟩) (.inl (by simp)) (.int .u32 y0)).setCell (p := ⟨b1, 1, none⟩) (.inl (by simp)) (.int .u32 y1)).setCell (p := ⟨b1, 2, none⟩) (.inl (by simp)) (.int .u32 y2)).setCell (p := ⟨b1, 3, none⟩) (.inl (by simp)) (.int .u32 y3)).setCell (p := ⟨b1, 4, none⟩) (.inl (by simp)) (.int .u32 y4)).setCell (p := ⟨b1, 5, none⟩) (.inl (by simp)) (.int .u32 y5)).setCell (p := ⟨b1, 6, none⟩) (.inl (by simp)) (.int .u32 y6)).setCell (p := ⟨b1, 7, none⟩) (.inl (by simp)) (.int .u32 y7))) (by simp; omega)
    all_goals clear hrow hfin p0 p1 p2 p3 p4 p5 p6 p7 q0 q1 q2 q3 q4 q5 q6 q7 r0 r1 r2 r3 r4 r5 r6 r7 t0 t1 t2 t3 t4 t5 t6 t7
    all_goals (go_wp2_with (first
      | (refine wpList_load_ar rfl 80 (.tmp 3) rfl b1 rfl _ _ 8 22 A8 Tryd.underlying80 Tryd.szW ?_)
      | (go_at_call 60; refine (laid_any [y0, y1, y2, y3, y4, y5, y6, y7] _ rfl).mono ?_; rintro ee w9 ⟨ao9, m9, c9, rfl, R9, K9⟩)))
    all_goals go_ret
    all_goals exact ⟨ao9, m9, c9, rfl, unhide HR _ _ _ _ (owns_rebase R9 (fun k hk => Nat.le_trans KW.size (R9.own k hk))), KW.trans K9⟩
  · rw [if_neg hc] at hSD
    have hpl := pad_len (bs.drop (64 * n)) N hrl
    have hpb := hide (pad_bs (bs.drop (64 * n)) N ((unhide HB).drop _))
    obtain ⟨k6, hk6⟩ : ∃ k, k = (pad (bs.drop (64 * n)) N).length / 64 := ⟨_, rfl⟩
    rw [← hk6] at hpl
    have hk62 : k6 ≤ 2 := by omega
    have HPL := hide hpl
    have HK6 := hide hk6
    clear hpl hk6
    go_region_with (first
      | (go_at_call 59; refine (padded_any _ (bs.drop (64 * n)) N _ (unhide hSD) hrl (by omega)).mono ?_; rintro ee w6 ⟨ao6, m6, c6, rfl, R6, K6⟩; have A6 := (unhide hA5').kept ((kp_drew w5).trans K6) (by simp); obtain ⟨q0, q1, q2, q3, q4, q5, q6, q7⟩ := A6.cells8; have hR6 := hide R6; have hK6 := hide K6; have hA6 := hide A6; clear R6 K6 A6)
      | (go_at_call 58; refine (mixAll_any [x0, x1, x2, x3, x4, x5, x6, x7] _ _ k6 _ rfl (unhide hR6).sl (unhide HPL).1 (by omega) (unhide hpb) ((unhide HG5).kept ((kp_drew w5).trans (unhide hK6)) (by simp))).mono ?_; rintro ee w7 ⟨rfl, K7⟩; obtain ⟨y0, y1, y2, y3, y4, y5, y6, y7, hy⟩ := eight (blks_len [x0, x1, x2, x3, x4, x5, x6, x7] (pad (bs.drop (64 * n)) N) rfl k6); rw [hy, ag_eight]; have A7 := (unhide hA6).kept K7 (by simp); obtain ⟨r0, r1, r2, r3, r4, r5, r6, r7⟩ := A7.cells8; obtain ⟨t0, t1, t2, t3, t4, t5, t6, t7⟩ := A7.frozen8; have HY := hide hy; have hA7 := hide A7; have hK7 := hide K7; clear hy A7 K7))
    all_goals have A8 : Ar _ b1 80 [y0, y1, y2, y3, y4, y5, y6, y7] := ((((((((unhide hA7).set 0 y0).set 1 y1).set 2 y2).set 3 y3).set 4 y4).set 5 y5).set 6 y6).set 7 y7
    all_goals have hfin := sha_parts bs n _ k6 s1 _ _ (unhide HN) (unhide HNn) (unhide HS1) (unhide HX) (unhide HK6) (unhide HY)
    all_goals have hrow : ∀ W9 ao m c, Row W9 w.heap.size (.slice ao m c) (lay8 [y0, y1, y2, y3, y4, y5, y6, y7]) → Row W9 w.heap.size (.slice ao m c) (sha bs) := fun _ _ _ _ h => hfin ▸ h
    all_goals have HR := hide hrow
    all_goals have HKW : Hid (Kp [b1] w5 w7) := ((((kp_drew w5).trans (unhide hK6)).trans (unhide hK7)).mono (by simp))
    all_goals have KW := (unhide hK).then ((((((((((unhide HKW).setCell (p := ⟨b1, 0, none⟩) (.inl (by simp)) (.int .u32 y0)).setCell (p := ⟨b1, 1, none⟩) (.inl (by simp)) (.int .u32 y1)).setCell (p := ⟨b1, 2, none⟩) (.inl (by simp)) (.int .u32 y2)).setCell (p := ⟨b1, 3, none⟩) (.inl (by simp)) (.int .u32 y3)).setCell (p := ⟨b1, 4, none⟩) (.inl (by simp)) (.int .u32 y4)).setCell (p := ⟨b1, 5, none⟩) (.inl (by simp)) (.int .u32 y5)).setCell (p := ⟨b1, 6, none⟩) (.inl (by simp)) (.int .u32 y6)).setCell (p := ⟨b1, 7, none⟩) (.inl (by simp)) (.int .u32 y7))) (by simp; omega)
    all_goals clear hrow hfin p0 p1 p2 p3 p4 p5 p6 p7 q0 q1 q2 q3 q4 q5 q6 q7 r0 r1 r2 r3 r4 r5 r6 r7 t0 t1 t2 t3 t4 t5 t6 t7
    all_goals (go_wp2_with (first
      | (refine wpList_load_ar rfl 80 (.tmp 3) rfl b1 rfl _ _ 8 22 A8 Tryd.underlying80 Tryd.szW ?_)
      | (go_at_call 60; refine (laid_any [y0, y1, y2, y3, y4, y5, y6, y7] _ rfl).mono ?_; rintro ee w9 ⟨ao9, m9, c9, rfl, R9, K9⟩)))
    all_goals go_ret
    all_goals exact ⟨ao9, m9, c9, rfl, unhide HR _ _ _ _ (owns_rebase R9 (fun k hk => Nat.le_trans KW.size (R9.own k hk))), KW.trans K9⟩
end Go.Proofs.YtioflclfgkcpfaaDoor
