/-
  The laws of ledger: known.
-/
import Derived.Test.YtillhpgdlmeajaaGreatDoorKULaw
import Derived.Test.YtillhpgdlmeajaaGreatDoorKSRefV
namespace Go.Proofs.YtillhpgdlmeajaaGreatDoor
open Go.RowKit
open Go.Proofs
set_option linter.unusedVariables false

theorem sig_of_sg {w : World} {a1 a2 : Int} {r p q : Value} {s : Sg} (h : SgV w (.agg #[.int .i64 a1, r, .int .i64 a2, p, q]) s) : SigV w (.agg #[.int .i64 a2, p, q]) s.i s.ps s.qs := by
  obtain ⟨a, m, c, vp, vq, e, h1, h2⟩ := h
  simp only [Value.agg.injEq, Array.mk.injEq, List.cons.injEq, and_true] at e
  obtain ⟨-, -, e3, rfl, rfl⟩ := e
  rw [e3]
  exact h2
theorem all3 : allU [] [[97], [98], [97]] = [[97], [98]] := by decide
theorem ns3 : nsU [] [[97], [98], [97]] = [0, 1, 0] := by decide
set_option maxRecDepth 100000 in
set_option maxHeartbeats 8000000 in
theorem uknown_any (w : World) (hG : Gl w) : Calls Tryz.prog 17 #[] w fun e w' => e = .returned (.bool true) ∧ Kp [] w w' := by
  have HG := hide hG
  have HF := hide (fresh_any w)
  clear hG
  go_enter Tryz.func17, Tryz.ntmps17
  go_wp2_with fail
  refine HF.out.mono ?_
  rintro ee w1 ⟨pd, rfl, N1⟩
  have HN1 := hide N1
  have HF2 := hide (fresh_any w1)
  clear HF N1
  go_wp2_with fail
  refine HF2.out.mono ?_
  rintro ee w2 ⟨pk, rfl, N2⟩
  have HN2 := hide N2
  have HSd := hide (xseed_any 1 w2)
  clear HF2 N2
  go_wp2_with fail
  refine HSd.out.mono ?_
  rintro ee w3 ⟨as_, ms, cs, rfl, R3, K3⟩
  have HO := hide (uopen_fresh HN1.out HN2.out K3 R3 (seedX_bs 1) (seedX_len 1))
  clear HSd R3 K3 HN1 HN2
  go_wp2_with fail
  refine HO.out.mono ?_
  rintro ee w4 ⟨l, rfl, f, L4⟩
  have HL4 := hide L4
  clear HO L4
  have cv1 := lit_cv w4 [97] 1 rfl
  simp only [List.map_cons, List.map_nil] at cv1
  have cv2 := lit_cv (w4.alloc (.cells #[.int .u8 97] 5 (1, 2))) [98] 1 rfl
  simp only [List.map_cons, List.map_nil] at cv2
  have cv3 := lit_cv ((w4.alloc (.cells #[.int .u8 97] 5 (1, 2))).alloc (.cells #[.int .u8 98] 5 (1, 2))) [97] 1 rfl
  simp only [List.map_cons, List.map_nil] at cv3
  have hz1 : (w4.alloc (.cells #[.int .u8 97] 5 (1, 2))).heap.size = w4.heap.size + 1 := by simp
  have hz2 : ((w4.alloc (.cells #[.int .u8 97] 5 (1, 2))).alloc (.cells #[.int .u8 98] 5 (1, 2))).heap.size = w4.heap.size + 2 := by simp
  have hz3 : (((w4.alloc (.cells #[.int .u8 97] 5 (1, 2))).alloc (.cells #[.int .u8 98] 5 (1, 2))).alloc (.cells #[.int .u8 97] 5 (1, 2))).heap.size = w4.heap.size + 3 := by simp
  rw [hz1] at cv2
  rw [hz2] at cv3
  have Ka : Kp [] w4 (w4.alloc (.cells #[.int .u8 97] 5 (1, 2))) := (Kp.refl [] _).alloc _
  have Kb : Kp [] (w4.alloc (.cells #[.int .u8 97] 5 (1, 2))) ((w4.alloc (.cells #[.int .u8 97] 5 (1, 2))).alloc (.cells #[.int .u8 98] 5 (1, 2))) := (Kp.refl [] _).alloc _
  have Kc : Kp [] ((w4.alloc (.cells #[.int .u8 97] 5 (1, 2))).alloc (.cells #[.int .u8 98] 5 (1, 2))) (((w4.alloc (.cells #[.int .u8 97] 5 (1, 2))).alloc (.cells #[.int .u8 98] 5 (1, 2))).alloc (.cells #[.int .u8 97] 5 (1, 2))) := (Kp.refl [] _).alloc _
  have Kd : Kp [] (((w4.alloc (.cells #[.int .u8 97] 5 (1, 2))).alloc (.cells #[.int .u8 98] 5 (1, 2))).alloc (.cells #[.int .u8 97] 5 (1, 2))) ((((w4.alloc (.cells #[.int .u8 97] 5 (1, 2))).alloc (.cells #[.int .u8 98] 5 (1, 2))).alloc (.cells #[.int .u8 97] 5 (1, 2))).alloc (.cells #[.slice (some ⟨w4.heap.size, 0, none⟩) 1 1, .slice (some ⟨w4.heap.size + 1, 0, none⟩) 1 1, .slice (some ⟨w4.heap.size + 2, 0, none⟩) 1 1] 22)) := (Kp.refl [] _).alloc _
  have S1 : Sl ((((w4.alloc (.cells #[.int .u8 97] 5 (1, 2))).alloc (.cells #[.int .u8 98] 5 (1, 2))).alloc (.cells #[.int .u8 97] 5 (1, 2))).alloc (.cells #[.slice (some ⟨w4.heap.size, 0, none⟩) 1 1, .slice (some ⟨w4.heap.size + 1, 0, none⟩) 1 1, .slice (some ⟨w4.heap.size + 2, 0, none⟩) 1 1] 22)) (.slice (some ⟨w4.heap.size, 0, none⟩) 1 1) [97] := (lit_sl w4 [97] 1 (1, 2) rfl (by omega)).kept (Kb.trans (Kc.trans Kd)) (by simp)
  have S2 : Sl ((((w4.alloc (.cells #[.int .u8 97] 5 (1, 2))).alloc (.cells #[.int .u8 98] 5 (1, 2))).alloc (.cells #[.int .u8 97] 5 (1, 2))).alloc (.cells #[.slice (some ⟨w4.heap.size, 0, none⟩) 1 1, .slice (some ⟨w4.heap.size + 1, 0, none⟩) 1 1, .slice (some ⟨w4.heap.size + 2, 0, none⟩) 1 1] 22)) (.slice (some ⟨w4.heap.size + 1, 0, none⟩) 1 1) [98] := by
    have := (lit_sl (w4.alloc (.cells #[.int .u8 97] 5 (1, 2))) [98] 1 (1, 2) rfl (by omega)).kept (Kc.trans Kd) (by simp)
    rw [hz1] at this; exact this
  have S3 : Sl ((((w4.alloc (.cells #[.int .u8 97] 5 (1, 2))).alloc (.cells #[.int .u8 98] 5 (1, 2))).alloc (.cells #[.int .u8 97] 5 (1, 2))).alloc (.cells #[.slice (some ⟨w4.heap.size, 0, none⟩) 1 1, .slice (some ⟨w4.heap.size + 1, 0, none⟩) 1 1, .slice (some ⟨w4.heap.size + 2, 0, none⟩) 1 1] 22)) (.slice (some ⟨w4.heap.size + 2, 0, none⟩) 1 1) [97] := by
    have := (lit_sl ((w4.alloc (.cells #[.int .u8 97] 5 (1, 2))).alloc (.cells #[.int .u8 98] 5 (1, 2))) [97] 1 (1, 2) rfl (by omega)).kept Kd (by simp)
    rw [hz2] at this; exact this
  have hB1 : Bs [97] := fun b hb => by simp at hb; omega
  have hB2 : Bs [98] := fun b hb => by simp at hb; omega
  have HLi : Lists ((((w4.alloc (.cells #[.int .u8 97] 5 (1, 2))).alloc (.cells #[.int .u8 98] 5 (1, 2))).alloc (.cells #[.int .u8 97] 5 (1, 2))).alloc (.cells #[.slice (some ⟨w4.heap.size, 0, none⟩) 1 1, .slice (some ⟨w4.heap.size + 1, 0, none⟩) 1 1, .slice (some ⟨w4.heap.size + 2, 0, none⟩) 1 1] 22)) (.slice (some ⟨w4.heap.size + 3, 0, none⟩) 3 3) [(.slice (some ⟨w4.heap.size, 0, none⟩) 1 1, [97]), (.slice (some ⟨w4.heap.size + 1, 0, none⟩) 1 1, [98]), (.slice (some ⟨w4.heap.size + 2, 0, none⟩) 1 1, [97])] := by
    rw [← hz3]
    refine lists_of_block (l := [(.slice (some ⟨w4.heap.size, 0, none⟩) 1 1, [97]), (.slice (some ⟨w4.heap.size + 1, 0, none⟩) 1 1, [98]), (.slice (some ⟨w4.heap.size + 2, 0, none⟩) 1 1, [97])]) (t := 22) (fr := (0, 0)) (heap_alloc_new (((w4.alloc (.cells #[.int .u8 97] 5 (1, 2))).alloc (.cells #[.int .u8 98] 5 (1, 2))).alloc (.cells #[.int .u8 97] 5 (1, 2))) _) (by show 3 ≤ 1000; omega) (fun x hx => ?_)
    simp only [List.mem_cons, List.not_mem_nil, or_false] at hx
    rcases hx with rfl | rfl | rfl
    · exact ⟨S1, hB1⟩
    · exact ⟨S2, hB2⟩
    · exact ⟨S3, hB1⟩
  have HAd := hide (uadd_up (HL4.out.on (Ka.trans (Kb.trans (Kc.trans Kd)))) 0 0 1 (up0 _) (by omega) _ _ [[97], [98], [97]] rfl HLi (fun x hx => by rcases (by simpa using hx : x = [97] ∨ x = [98] ∨ x = [97]) with rfl | rfl | rfl <;> exact Nat.le_refl 1) (by omega) (by simp) (by show (allU [] _).length ≤ 256; rw [all3]; simp) (by simp) (by simp))
  clear hz1 hz2 hz3 Ka Kb Kc Kd S1 S2 S3 hB1 hB2 HLi
  go_wp2_with fail
  refine HAd.out.mono ?_
  rintro ee w5 ⟨vr, rfl, R5, S5, f5, L5, -, hvo, U5, hits, hn5, hsd, hla⟩
  have e5 : S5.its = [[97], [98]] := by rw [hits]; exact all3
  have R5' : RowI w5 w4.heap.size vr [0, 1, 0] := by
    rw [show ([0, 1, 0] : List Int) = nsU (ls0 (seedX 1)).its [[97], [98], [97]] from ns3.symm]
    exact RowI.rebase R5 (fun k hk => by have := (R5.lt hk).1; simp at this; omega)
  obtain ⟨ar, cr, hvr⟩ := R5'.shape
  have HPb := hide (upub_up L5 HG.out _ _ U5 (by rw [hn5]; show 0 < 16; omega) (fun a ha => by rw [hla] at ha; cases ha))
  have HR5 := hide R5'
  have HVo := hide hvo
  have HE5 := hide e5
  have HN5 := hide hn5
  have HSd5 := hide hsd
  have hvr3 : vr = .slice ar 3 cr := hvr
  subst hvr3
  clear HAd R5 R5' L5 hvo U5 hits hn5 hsd hla e5 hvr cv1 cv2 cv3
  go_wp2_with fail
  refine HPb.out.mono ?_
  rintro ee w6 ⟨v6, rfl, S6, f6, L6, T6, U6, hits6, hn6, hsd6, hla6, b6, hb1, hb2, hb3, A6⟩
  obtain ⟨br, kr, dr, bp, kp, dp, bq', kq, dq, rfl, -, -⟩ := A6.v.shape
  have hn6' : S6.n = 1 := by rw [hn6, HN5.out]; rfl
  have hl6 : S5.its.length = 2 := by rw [HE5.out]; rfl
  have hl6' : S6.its.length = 2 := by rw [hits6]; exact hl6
  have HR6 := hide (HR5.out.kept (T6.kp.choose_spec.2) (fun i hi hm => HVo.out i hi (T6.kp.choose_spec.1 i hm)))
  have HL6 := hide L6
  have HV6 := hide A6.v
  have HN6 := hide hn6'
  have HL6' := hide hl6'
  have HLa6 := hide hla6
  have hsn : (sgU S5.seed S5.its (S5.its.length, S5.n)).n = 2 := by show ((S5.its.length : Nat) : Int) = 2; rw [hl6]; rfl
  have hsi : (sgU S5.seed S5.its (S5.its.length, S5.n)).i = 0 := by show ((S5.n : Nat) : Int) = 0; rw [HN5.out]; rfl
  rw [hsn, hsi] at HV6 ⊢
  obtain ⟨sg, hsg⟩ : ∃ x, x = sgU S5.seed S5.its (S5.its.length, S5.n) := ⟨_, rfl⟩
  rw [← hsg] at HV6
  have HSG : Hid (sgU S6.seed S6.its (2, 0) = sg) := hide (by rw [hsg, hsd6, hits6, hl6, HN5.out]; rfl)
  have G6 := heap_alloc_new w6 (.cells #[.int .i64 0, .slice none 0 0, .int .i64 0, .slice none 0 0, .slice none 0 0] 72)
  have hla62 : S6.la = some (2, 0) := by rw [hla6, hl6, HN5.out]; rfl
  have Ka6 : Kp [] w6 (w6.alloc (.cells #[.int .i64 0, .slice none 0 0, .int .i64 0, .slice none 0 0, .slice none 0 0] 72)) := (Kp.refl [] _).alloc _
  have HKa6 := hide Ka6
  have HLa62 := hide hla62
  clear HPb T6 U6 hits6 hn6 hsd6 hla6 hb1 hb2 hb3 A6 hn6' hl6 hl6' hsn hsi hsg L6 hla62 Ka6 HR5 HVo
  go_wp2_with (refine wpList_store_flat rfl 72 (.tmp 5) (.tmp 37) rfl w6.heap.size 0 rfl _ _ [.int .i64 2, .slice br kr dr, .int .i64 0, .slice bp kp dp, .slice bq' kq dq] G6 rfl (by simp) Tryz.sgdSize (by simp [Value.oneCell']) #[.int .i64 2, .slice br kr dr, .int .i64 0, .slice bp kp dp, .slice bq' kq dq] rfl ?_; intro w7 G7 K7; refine Hid.out ?_)
  obtain ⟨g5, hg5⟩ : ∃ g, g = w6.heap.size := ⟨_, rfl⟩
  rw [← hg5] at G7 K7 ⊢
  have K67 : Kp [] w6 w7 := HKa6.out.then K7 (fun i hi => .inr (by simp at hi; omega))
  have HL7 := hide (HL6.out.on K67)
  have HR7 := hide (HR6.out.kept K67 (by simp))
  have HV7 := hide (HV6.out.kept K67)
  have HG7 := hide G7
  have HPo := hide (upublish_old HL7.out 2 0 HLa62.out HL6'.out.symm)
  clear G6 G7 K7 K67 HKa6 HR6 HV6 HL6 hg5
  refine hide ?_
  go_wp2_with fail
  refine HPo.out.mono ?_
  rintro ee w8 ⟨v8, rfl, A8, K8⟩
  have hV8 := A8.v
  rw [HSG.out] at hV8
  obtain ⟨b2, k2, d2, bp2, kp2, dp2, bq2, kq2, dq2, hv8, -, -⟩ := hV8.shape
  have hn1 : sg.n = 2 := by rw [← HSG.out]; rfl
  have hi1 : sg.i = 0 := by rw [← HSG.out]; rfl
  rw [hn1, hi1] at hv8
  subst hv8
  have HV8 := hide hV8
  have HK8 := hide K8
  have G8 := heap_alloc_new w8 (.cells #[.int .i64 0, .slice none 0 0, .int .i64 0, .slice none 0 0, .slice none 0 0] 72)
  have HKa8 : Hid (Kp [] w8 (w8.alloc (.cells #[.int .i64 0, .slice none 0 0, .int .i64 0, .slice none 0 0, .slice none 0 0] 72))) := (Kp.refl [] _).alloc _
  clear HPo A8 K8 hV8 hn1 hi1
  go_wp2_with (refine wpList_store_flat rfl 72 (.tmp 7) (.tmp 42) rfl w8.heap.size 0 rfl _ _ [.int .i64 2, .slice b2 k2 d2, .int .i64 0, .slice bp2 kp2 dp2, .slice bq2 kq2 dq2] G8 rfl (by simp) Tryz.sgdSize (by simp [Value.oneCell']) #[.int .i64 2, .slice b2 k2 d2, .int .i64 0, .slice bp2 kp2 dp2, .slice bq2 kq2 dq2] rfl ?_; intro w9 G9 K9; refine Hid.out ?_)
  obtain ⟨g7, hg7⟩ : ∃ g, g = w8.heap.size := ⟨_, rfl⟩
  rw [← hg7] at G9 K9 ⊢
  have K89 : Kp [] w8 w9 := HKa8.out.then K9 (fun i hi => .inr (by simp at hi; omega))
  have K79 := HK8.out.trans K89
  have HL9 := hide (HL7.out.on K79)
  have hR9 := HR7.out.kept K79 (by simp)
  have HV9 := hide (HV7.out.kept K79)
  have HW9 := hide (HV8.out.kept K89)
  have G59 := K79.heap HG7.out (by simp)
  obtain ⟨wl, hwl⟩ : ∃ x, x = w9.alloc (.cells #[.int .i64 0, .int .i64 1, .int .i64 0] 3) := ⟨_, rfl⟩
  have Kl : Kp [] w9 wl := by rw [hwl]; exact (Kp.refl [] _).alloc _
  have hIl : IntsU wl (.slice (some ⟨w9.heap.size, 0, none⟩) 3 3) [0, 1, 0] := by rw [hwl]; exact ints_block (l := [0, 1, 0]) (t := 3) (fr := (0, 0)) (heap_alloc_new w9 _) (by simp)
  have HSm := hide (isame_any _ _ [0, 1, 0] [0, 1, 0] wl ((hR9.ints (by simp)).kept Kl (by simp)) hIl (by simp) (by simp))
  rw [hwl, show decide (([0, 1, 0] : List Int) = [0, 1, 0]) = true from by decide] at HSm
  have HKl := hide Kl
  have HWl := hide hwl
  have HG5 := hide G59
  have HG9 := hide G9
  clear G8 G9 K9 K89 K79 HKa8 HR7 HV7 HV8 HL7 hR9 hg7 HG7 HK8 G59 Kl hIl hwl
  refine hide ?_
  go_wp2_with fail
  refine HSm.out.mono ?_
  rintro ee wm ⟨rfl, Km⟩
  rw [← HWl.out] at Km
  have K9m := HKl.out.trans Km
  have Gm5 := K9m.heap HG5.out (by simp)
  have Gm7 := K9m.heap HG9.out (by simp)
  have x2 : wm.cell? ⟨g5, 2, none⟩ = some (.int .i64 0) := by rw [cell_of_row wm g5 2 _ _ _ Gm5]; rfl
  have x3 : wm.cell? ⟨g5, 3, none⟩ = some (.slice bp kp dp) := by rw [cell_of_row wm g5 3 _ _ _ Gm5]; rfl
  have x4 : wm.cell? ⟨g5, 4, none⟩ = some (.slice bq' kq dq) := by rw [cell_of_row wm g5 4 _ _ _ Gm5]; rfl
  have y2 : wm.cell? ⟨g7, 2, none⟩ = some (.int .i64 0) := by rw [cell_of_row wm g7 2 _ _ _ Gm7]; rfl
  have y3 : wm.cell? ⟨g7, 3, none⟩ = some (.slice bp2 kp2 dp2) := by rw [cell_of_row wm g7 3 _ _ _ Gm7]; rfl
  have y4 : wm.cell? ⟨g7, 4, none⟩ = some (.slice bq2 kq2 dq2) := by rw [cell_of_row wm g7 4 _ _ _ Gm7]; rfl
  have HSs := hide (refsame_any _ _ sg.i sg.ps sg.qs wm (sig_of_sg (HV9.out.kept K9m)) (sig_of_sg (HW9.out.kept K9m)))
  have HG5m := hide Gm5
  have HLm := hide (HL9.out.on K9m)
  clear HSm Km K9m Gm5 Gm7 HL9 HG5 HG9
  go_wp2_with fail
  refine HSs.out.mono ?_
  rintro ee wn ⟨rfl, Kn⟩
  have Gn5 := Kn.heap HG5m.out (by simp)
  have z0 : wn.cell? ⟨g5, 0, none⟩ = some (.int .i64 2) := by rw [cell_of_row wn g5 0 _ _ _ Gn5]; rfl
  have HLn := hide (HLm.out.on Kn)
  have HKy := hide (ukeys_any HLn.out 15 (by rw [HN6.out]; rfl))
  clear HSs Kn Gn5 HLm HG5m x2 x3 x4 y2 y3 y4
  go_wp2_with fail
  refine HKy.out.mono ?_
  rintro ee wo ⟨rfl, hwo⟩
  subst wo
  clear HKy
  go_wp2_with fail
  go_ret
  exact ⟨rfl, HLn.out.kp⟩
end Go.Proofs.YtillhpgdlmeajaaGreatDoor
