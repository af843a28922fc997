/-
  JournalTorn: a record that was torn, at any place, is cut away, and those ahead of it stay; nothing of it is seen later.
-/
import Derived.Test.YtmpjgbckehnkjaaKJTorn
import Derived.ShutString
import Derived.ChangeOld
import Derived.Below
namespace Go.Proofs.Ytmpjgbckehnkjaa.journalTorn
open Go.ChangeShapes Go.WideShapes Go.ChangeAt Go.RowKit
open Go.Proofs.Ytmpjgbckehnkjaa
set_option linter.unusedVariables false

theorem own : ownKnob Try.prog.godebug = none := by kernel_rfl
theorem laidOut : laidOutB Try.prog = true := by kernel_rfl
set_option maxHeartbeats 8000000 in
set_option maxRecDepth 100000 in
theorem walk (v0 : Value) (l0 : List (Value × List Int)) (v1 : Value) (l1 : List Int) (cut : Int) (w : World) (s0 : Lists w v0 l0) (s1 : Sl w v1 l1) (b1 : Bs l1) (hcu : -9223372036854775808 ≤ cut ∧ cut ≤ 9223372036854775807) :
    Calls Try.prog 8 #[v0, v1, .int .i64 cut] w fun e w' => e = .returned (.bool true) ∧ Below w.heap.size w w' := by
  obtain ⟨a1, c1, e1, hc1, hc2, hc3, -⟩ := id s1
  obtain ⟨L1, hL1⟩ : ∃ L, L = l1.length := ⟨_, rfl⟩
  rw [← hL1] at e1 hc1
  subst e1
  obtain ⟨C, hC⟩ : ∃ C, C = l1.take 60 := ⟨_, rfl⟩
  obtain ⟨m1, hm1⟩ : ∃ m, m = min L1 60 := ⟨_, rfl⟩
  have hCl : C.length = m1 := by rw [hC, hm1, hL1]; simp; omega
  have HCL := hide hCl
  have hm60 : m1 ≤ 60 := by omega
  have HM60 := hide hm60
  have HCB : Hid (Bs C) := by rw [hC]; exact b1.takes _
  have HZ : Hid (∀ w', Kp [] w w' → Sl w' (.slice a1 m1 c1) C) := fun w' k => by
    have := cutv_sl 60 (s1.kept k (by simp))
    rw [hC, hm1]; exact this
  have HC : Hid (∀ w', Kp [] w w' → Calls Try.prog 20 #[.slice a1 L1 c1, .int .i64 60] w' fun e w'' => e = .returned (.slice a1 m1 c1) ∧ w'' = w') := fun w' k => by
    rw [hm1]; exact cutv_any a1 L1 c1 60 l1 w' (s1.kept k (by simp))
  have HF := hide (few_k v0 l0 8 60 w s0 (by omega))
  obtain ⟨al0, cl0, e0, -⟩ := id s0
  obtain ⟨L0, hL0⟩ : ∃ L, L = l0.length := ⟨_, rfl⟩
  rw [← hL0] at e0
  subst e0
  clear hC hm1 hL1 s0 s1 b1 hc1 hc2 hCl hL0 hc3 hm60
  go_enter Try.func8, Try.ntmps8
  go_wp2_with fail
  refine HF.out.mono ?_
  rintro ee w1 ⟨ol, oc, la, rfl, La, K1, hla, hsm, hro, hrn⟩
  have HK1 := hide K1
  have HSM : Hid (∀ x ∈ la, x.2.length ≤ 65535) := fun x hx => Nat.le_trans (hsm x hx) (by omega)
  have HSR : Hid (∀ r ∈ la.map (·.2), r.length ≤ 65535) := fun r hr => by
    obtain ⟨x, hx, rfl⟩ := List.mem_map.1 hr
    exact HSM.out x hx
  obtain ⟨X, hX⟩ : ∃ X, X = layP (la.map (·.2)) := ⟨_, rfl⟩
  have HXl : Hid (X.length ≤ 544) := by rw [hX]; exact lay_len la 8 60 hla hsm
  have HBX : Hid (Bs X) := by rw [hX]; exact lay_bs La
  have HX := hide hX
  obtain ⟨L, hL⟩ : ∃ L, L = la.length := ⟨_, rfl⟩
  have HLN : Hid (la.length ≤ 1000) := hide (by omega)
  rw [← hL] at La hla ⊢
  have HL := hide hL
  have hl8 : (L : Int) ≤ 8 := by omega
  have HLa := hide (fun w' (k : Kp [] w1 w') => La.kept k)
  have HRN := hide hrn
  have HCt := hide (HC.out w1 K1)
  have HRc := hide (record_any (.slice a1 m1 c1) C w1 (HZ.out w1 K1) (by have := HCL.out; have := HM60.out; omega))
  clear La K1 hsm hX HF hL hrn HC
  go_wp2_with fail
  refine HCt.out.mono ?_
  rintro ee w2 ⟨rfl, hw2⟩
  subst w2
  clear HCt
  go_wp2_with fail
  refine HRc.out.mono ?_
  rintro ee w4 ⟨ax, mx, cx, rfl, R4, K4⟩
  have hmx : mx = 8 + m1 := by rw [R4.len, recP_len, HCL.out]
  have hmx68 : (mx : Int) ≤ 68 := by have := HM60.out; omega
  have hmxp : (1 : Int) ≤ (mx : Int) := by omega
  have hwi := wiP_ge cut 0 ((mx : Int) - 1) (by omega)
  obtain ⟨q, hq⟩ : ∃ q : Nat, (q : Int) = wiP cut 0 ((mx : Int) - 1) := ⟨(wiP cut 0 ((mx : Int) - 1)).toNat, by omega⟩
  have HW := hide (within_wi cut 0 ((mx : Int) - 1) w4 (by omega) (by omega) (by omega))
  rw [← hq] at HW
  have hqm : q < mx := by omega
  have hrm := R4.room
  have hqc : q ≤ cx := by omega
  have HAx := hide hrm.2
  have HR4 := hide R4
  have HK4 := hide K4
  have HMx := hide hmx
  have hwm : IntKind.i64.wrap ((mx : Int) - 1) = (mx : Int) - 1 := by simp [IntKind.wrap, IntKind.signed, IntKind.bits]; omega
  clear R4 K4 HRc hwi hq hrm hmx
  go_wp2_with fail
  refine HW.out.mono ?_
  rintro ee w5 ⟨rfl, hw5⟩
  subst w5
  clear HW
  go_wp2_with fail
  have HLl : Hid (∀ w', Kp [] w4.drew w' → Lists w' (.slice ol L oc) la) := fun w' k => HLa.out w' ((HK4.out.trans (kp_drew w4)).trans k)
  refine region_grow_tail 5 Try.mixed [Is (.slice ol L oc), RowJ w4.heap.size X, Is (.slice ax mx cx), Is (.int .i64 q), Is (.slice ax q cx)] [[(0, none)], [(23, some 0)], [(7, none)], [(8, none)], [(25, some 2), (26, some 3)]] (by kernel_rfl) ?_ ?_ ?_
  all_goals try simp only [List.take_succ_cons, List.take_zero, List.drop_succ_cons, List.drop_zero]
  · simp only [List.mem_cons, List.not_mem_nil, or_false]
    intro R hR
    rcases hR with rfl | rfl | rfl | rfl | rfl <;> first | exact stable_is _ | exact stable_rowj _ _
  · refine steps_cons (fun a w hk hn => ?_) ?_
    · have h0 : a.eval (.tmp 0) = .slice ol L oc := hn.1
      clear hn
      refine wants_plain rfl ?_
      exact grown_move (.tmp 0) rfl h0
    refine steps_cons (fun a w hk hn => ?_) ?_
    · have h23 : a.eval (.tmp 23) = .slice ol L oc := hn.1
      clear hn
      refine wants_plain rfl ?_
      refine grown_call (f := 9) rfl Try.func9 (by kernel_rfl) (by kernel_rfl) ?_
      simp only [List.map_toArray, List.map_cons, List.map_nil, h23]
      refine (lay_any _ la w (HLl.out w hk) HSM.out HLN.out).mono ?_
      rintro e w' ⟨ao, m, c, rfl, R, K⟩
      rw [← HX.out] at R
      exact ⟨_, rfl, K, owns_rebase R (fun i hi => Nat.le_trans hk.size (R.own i hi))⟩
    refine steps_cons (fun a w hk hn => ?_) ?_
    · have h7 : a.eval (.tmp 7) = .slice ax mx cx := hn.1
      clear hn
      refine wants_plain rfl ?_
      exact grown_move (.tmp 7) rfl h7
    refine steps_cons (fun a w hk hn => ?_) ?_
    · have h8 : a.eval (.tmp 8) = .int .i64 q := hn.1
      clear hn
      refine wants_plain rfl ?_
      exact grown_move (.tmp 8) rfl h8
    refine steps_cons (fun a w hk hn => ?_) ?_
    · have h25 : a.eval (.tmp 25) = .slice ax mx cx := hn.1
      have h26 : a.eval (.tmp 26) = .int .i64 q := hn.2.1
      clear hn
      refine wants_plain rfl ?_
      exact grown_bfirst (.tmp 25) (.tmp 26) rfl ax mx cx q h25 h26 hqc HAx.out
    exact trivial
  intro W1 hkW1
  rintro _ rfl
  intro v24 h24
  rintro _ rfl
  rintro _ rfl
  rintro _ rfl
  refine fin_nil ?_
  simp only [Act.put, List.set_cons_zero, List.set_cons_succ, List.setIfInBounds_toArray]
  have KW1 : Kp [] w4 W1 := (kp_drew w4).trans hkW1
  have hsx : Sl W1 (.slice ax q cx) ((recP C).take q) := (HR4.out.sl.kept KW1 (by simp)).take q (by have := HR4.out.len; omega)
  have h24' : Row W1 w4.heap.size v24 X := h24
  have hlx := HXl.out
  have hlt : ((recP C).take q).length ≤ 68 := by simp; omega
  have HKW1 := hide KW1
  clear h24 hkW1 KW1
  go_wp2_with (at_builtin; refine wpList_append_row rfl (.tmp 24) (.tmp 27) rfl w4.heap.size _ X rfl h24' _ _ rfl hsx (by omega) HKW1.out.size ?_; intro a6 m6 c6 w6 R6 S6; have HK6 : Hid (Kp [] w4 w6) := S6.kpn HKW1.out h24'; have HS6 := hide R6.sl; clear R6 S6 h24' hsx)
  have HOn := hide (on_any _ _ w6 HS6.out (HBX.out.append ((recP_bs HCB.out).takes q)) (by rw [List.length_append]; omega))
  have hr65 : C.length ≤ 65535 := by have := HCL.out; have := HM60.out; omega
  have hq8 : q < 8 + C.length := by have := HCL.out; have := HMx.out; omega
  have hop := opnP_piece (la.map (·.2)) C q HSR.out hr65 hq8
  have hopn := opn_piece (la.map (·.2)) C q HSR.out hr65 hq8
  rw [← HX.out] at hop hopn
  have HOP := hide hop
  have HOPN := hide hopn
  clear hop hopn hr65 hq8 hlx hlt
  refine HOn.out.mono ?_
  rintro ee w7 ⟨p, v7', rfl, N7⟩
  have HO7 := hide (open_ok N7 rfl (Int.le_refl 0) rfl HOP.out HOPN.out)
  have hln : (la.map (·.2)).length = L := by rw [HL.out]; simp
  rw [hln] at HO7
  clear N7 HOn hln
  go_wp2_with fail
  refine HO7.out.mono ?_
  rintro ee w8 ⟨j, v7, am, cm, lm, rfl, J8, -, -, P8, hl8⟩
  have HJ8 := hide J8
  have HP8 := hide P8.parts
  have HLM : Hid (lm.map (·.2) = la.map (·.2)) := hl8
  have HK8 : Hid (Kp [] w1 w8) := HK4.out.trans (HK6.out.trans J8.nw.kp)
  clear HO7 J8 P8 hl8
  go_wp2_with fail
  obtain ⟨T, hT⟩ : ∃ T, T = strOfNums X := ⟨_, rfl⟩
  have HT := hide hT
  obtain ⟨xn, hxn⟩ : ∃ n, n = X.length := ⟨_, rfl⟩
  have HXn : Hid ((((dkOn X).syn : Nat) : Int) = (xn : Int)) := by show ((X.length : Nat) : Int) = (xn : Int); rw [hxn]
  have HXn2 : Hid ((dkOn X).bs.length = xn) := hxn.symm
  have HLm : Hid (∀ w', Kp [] w8.drew w' → Lists w' (.slice am L cm) lm) := fun w' k => (HP8.out.kept ((kp_drew w8).trans k)).lists (by have := congrArg List.length HLM.out; simp at this; have := HLN.out; omega)
  have HLl2 : Hid (∀ w', Kp [] w8.drew w' → Lists w' (.slice ol L oc) la) := fun w' k => HLa.out w' (HK8.out.trans ((kp_drew w8).trans k))
  have HD : Hid (∀ w', Kp [] w8.drew w' → DskP w' w6.heap.size p v7 (dkOn X)) := fun w' k => HJ8.out.nw.dk.keptN ((kp_drew w8).trans k)
  clear hT hxn
  refine region_grow Try.mixed [Is (.pointer (some ⟨j, 0, none⟩)), Is (.bool false), Is (.bool false), Is (.int .i64 0), Is (.bool false), Is (.bool false), Is (.bool false), Is (.slice am L cm), Is (.slice ol L oc), Is (.bool true), Is (.bool false), Is (.bool false), Is (.bool false), Is (.pointer (some ⟨p, 0, none⟩)), SlT (X), Is (.string T), Is (.slice ol L oc), SlT (X), Is (.string T), Is (.bool false), Is (.bool false), Is (.bool false), Is (.pointer (some ⟨p, 0, none⟩)), Is (.int .i64 xn), Is (.pointer (some ⟨p, 0, none⟩)), Is (.int .i64 xn), Is (.bool false), Is (.bool false)] [[(10, none)], [(38, some 0)], [(39, some 1)], [(12, none), (40, some 2)], [(41, some 3), (40, some 2)], [(40, some 2), (42, some 4)], [(43, some 5)], [(11, none), (44, some 6)], [(0, none), (44, some 6)], [(45, some 7), (46, some 8), (44, some 6)], [(47, some 9), (44, some 6)], [(44, some 6), (48, some 10)], [(49, some 11)], [(9, none), (50, some 12)], [(51, some 13), (50, some 12)], [(52, some 14), (50, some 12)], [(0, none), (50, some 12)], [(54, some 16), (50, some 12)], [(55, some 17), (50, some 12)], [(53, some 15), (56, some 18), (50, some 12)], [(50, some 12), (57, some 19)], [(58, some 20)], [(9, none), (59, some 21)], [(60, some 22), (59, some 21)], [(9, none), (59, some 21)], [(62, some 24), (59, some 21)], [(61, some 23), (63, some 25), (59, some 21)], [(59, some 21), (64, some 26)]] (by kernel_rfl) ?_ ?_ ?_
  · simp only [List.mem_cons, List.not_mem_nil, or_false]
    intro R hR
    rcases hR with rfl | rfl | rfl | rfl | rfl | rfl | rfl | rfl | rfl | rfl | rfl | rfl | rfl | rfl | rfl | rfl | rfl | rfl | rfl | rfl | rfl | rfl | rfl | rfl | rfl | rfl | rfl | rfl <;> first | exact stable_is _ | exact stable_sl _
  · refine steps_cons (fun a w hk hn => ?_) ?_
    · have h10 : a.eval (.tmp 10) = .pointer (some ⟨j, 0, none⟩) := hn.1
      clear hn
      refine wants_plain rfl ?_
      exact grown_move (.tmp 10) rfl h10
    refine steps_cons (fun a w hk hn => ?_) ?_
    · have h38 : a.eval (.tmp 38) = .pointer (some ⟨j, 0, none⟩) := hn.1
      clear hn
      refine wants_plain rfl ?_
      refine grown_run (v := .bool false) ?_ (Kp.refl _ _) rfl
      obtain ⟨ρ, hρ, hc, hf, hg⟩ := eval_is a
      rw [hρ] at h38 ⊢
      simp [go_sem, hc, h38]
    refine steps_cons (fun a w hk hn => ?_) ?_
    · have h39 : a.eval (.tmp 39) = .bool false := hn.1
      clear hn
      refine wants_plain rfl ?_
      exact grown_move (.tmp 39) rfl h39
    refine steps_cons (fun a w hk hn => ?_) ?_
    · have h12 : a.eval (.tmp 12) = .int .i64 0 := hn.1
      have h40 : a.eval (.tmp 40) = .bool false := hn.2.1
      clear hn
      refine wants_guard (d := 40) rfl rfl h40 ?_
      exact grown_move (.tmp 12) rfl h12
    refine steps_cons (fun a w hk hn => ?_) ?_
    · have h41 : a.eval (.tmp 41) = .int .i64 0 := hn.1
      have h40 : a.eval (.tmp 40) = .bool false := hn.2.1
      clear hn
      refine wants_guard (d := 40) rfl rfl h40 ?_
      refine grown_run (v := .bool false) ?_ (Kp.refl _ _) rfl
      obtain ⟨ρ, hρ, hc, hf, hg⟩ := eval_is a
      rw [hρ] at h41 ⊢
      simp [go_sem, hc, h41]
    refine steps_cons (fun a w hk hn => ?_) ?_
    · have h40 : a.eval (.tmp 40) = .bool false := hn.1
      have h42 : a.eval (.tmp 42) = .bool false := hn.2.1
      clear hn
      refine wants_plain rfl ?_
      exact grown_pick _ _ _ false rfl h40 h42
    refine steps_cons (fun a w hk hn => ?_) ?_
    · have h43 : a.eval (.tmp 43) = .bool false := hn.1
      clear hn
      refine wants_plain rfl ?_
      exact grown_move (.tmp 43) rfl h43
    refine steps_cons (fun a w hk hn => ?_) ?_
    · have h11 : a.eval (.tmp 11) = .slice am L cm := hn.1
      have h44 : a.eval (.tmp 44) = .bool false := hn.2.1
      clear hn
      refine wants_guard (d := 44) rfl rfl h44 ?_
      exact grown_move (.tmp 11) rfl h11
    refine steps_cons (fun a w hk hn => ?_) ?_
    · have h0 : a.eval (.tmp 0) = .slice ol L oc := hn.1
      have h44 : a.eval (.tmp 44) = .bool false := hn.2.1
      clear hn
      refine wants_guard (d := 44) rfl rfl h44 ?_
      exact grown_move (.tmp 0) rfl h0
    refine steps_cons (fun a w hk hn => ?_) ?_
    · have h45 : a.eval (.tmp 45) = .slice am L cm := hn.1
      have h46 : a.eval (.tmp 46) = .slice ol L oc := hn.2.1
      have h44 : a.eval (.tmp 44) = .bool false := hn.2.2.1
      clear hn
      refine wants_guard (d := 44) rfl rfl h44 ?_
      refine grown_call (f := 28) rfl Try.func28 (by kernel_rfl) (by kernel_rfl) ?_
      simp only [List.map_toArray, List.map_cons, List.map_nil, h45, h46]
      refine (lists_any _ _ _ _ (unhide HLM) w (unhide HLm w hk) (unhide HLl2 w hk)).mono ?_
      rintro e w' ⟨rfl, K⟩
      exact ⟨_, rfl, K, rfl⟩
    refine steps_cons (fun a w hk hn => ?_) ?_
    · have h47 : a.eval (.tmp 47) = .bool true := hn.1
      have h44 : a.eval (.tmp 44) = .bool false := hn.2.1
      clear hn
      refine wants_guard (d := 44) rfl rfl h44 ?_
      refine grown_run (v := .bool false) ?_ (Kp.refl _ _) rfl
      obtain ⟨ρ, hρ, hc, hf, hg⟩ := eval_is a
      rw [hρ] at h47 ⊢
      simp [go_sem, h47]
    refine steps_cons (fun a w hk hn => ?_) ?_
    · have h44 : a.eval (.tmp 44) = .bool false := hn.1
      have h48 : a.eval (.tmp 48) = .bool false := hn.2.1
      clear hn
      refine wants_plain rfl ?_
      exact grown_pick _ _ _ false rfl h44 h48
    refine steps_cons (fun a w hk hn => ?_) ?_
    · have h49 : a.eval (.tmp 49) = .bool false := hn.1
      clear hn
      refine wants_plain rfl ?_
      exact grown_move (.tmp 49) rfl h49
    refine steps_cons (fun a w hk hn => ?_) ?_
    · have h9 : a.eval (.tmp 9) = .pointer (some ⟨p, 0, none⟩) := hn.1
      have h50 : a.eval (.tmp 50) = .bool false := hn.2.1
      clear hn
      refine wants_guard (d := 50) rfl rfl h50 ?_
      exact grown_move (.tmp 9) rfl h9
    refine steps_cons (fun a w hk hn => ?_) ?_
    · have h51 : a.eval (.tmp 51) = .pointer (some ⟨p, 0, none⟩) := hn.1
      have h50 : a.eval (.tmp 50) = .bool false := hn.2.1
      clear hn
      refine wants_guard (d := 50) rfl rfl h50 ?_
      refine grown_call (f := 25) rfl Try.func25 (by kernel_rfl) (by kernel_rfl) ?_
      simp only [List.map_toArray, List.map_cons, List.map_nil, h51]
      refine (dbytes_any p v7 _ _ w (unhide HD w hk)).mono ?_
      rintro e w' ⟨ao, m, c, rfl, R, K⟩
      exact ⟨_, rfl, K, R.sl⟩
    refine steps_cons (fun a w hk hn => ?_) ?_
    · have h52 : Sl w (a.eval (.tmp 52)) (X) := hn.1
      have h50 : a.eval (.tmp 50) = .bool false := hn.2.1
      clear hn
      refine wants_guard (d := 50) rfl rfl h50 ?_
      exact grown_conv (.tmp 52) _ _ 5 _ rfl h52 Try.underlying22 Try.underlying5 Try.underlying9 (congrArg Value.string (unhide HT).symm)
    refine steps_cons (fun a w hk hn => ?_) ?_
    · have h0 : a.eval (.tmp 0) = .slice ol L oc := hn.1
      have h50 : a.eval (.tmp 50) = .bool false := hn.2.1
      clear hn
      refine wants_guard (d := 50) rfl rfl h50 ?_
      exact grown_move (.tmp 0) rfl h0
    refine steps_cons (fun a w hk hn => ?_) ?_
    · have h54 : a.eval (.tmp 54) = .slice ol L oc := hn.1
      have h50 : a.eval (.tmp 50) = .bool false := hn.2.1
      clear hn
      refine wants_guard (d := 50) rfl rfl h50 ?_
      refine grown_call (f := 9) rfl Try.func9 (by kernel_rfl) (by kernel_rfl) ?_
      simp only [List.map_toArray, List.map_cons, List.map_nil, h54]
      refine (lay_any _ la w (unhide HLl2 w hk) (unhide HSM) (unhide HLN)).mono ?_
      rintro e w' ⟨ao, m, c, rfl, R, K⟩
      rw [← unhide HX] at R
      exact ⟨_, rfl, K, R.sl⟩
    refine steps_cons (fun a w hk hn => ?_) ?_
    · have h55 : Sl w (a.eval (.tmp 55)) (X) := hn.1
      have h50 : a.eval (.tmp 50) = .bool false := hn.2.1
      clear hn
      refine wants_guard (d := 50) rfl rfl h50 ?_
      exact grown_conv (.tmp 55) _ _ 5 _ rfl h55 Try.underlying22 Try.underlying5 Try.underlying9 (congrArg Value.string (unhide HT).symm)
    refine steps_cons (fun a w hk hn => ?_) ?_
    · have h53 : a.eval (.tmp 53) = .string T := hn.1
      have h56 : a.eval (.tmp 56) = .string T := hn.2.1
      have h50 : a.eval (.tmp 50) = .bool false := hn.2.2.1
      clear hn
      refine wants_guard (d := 50) rfl rfl h50 ?_
      refine grown_run (v := .bool false) ?_ (Kp.refl _ _) rfl
      obtain ⟨ρ, hρ, hc, hf, hg⟩ := eval_is a
      rw [hρ] at h53 h56 ⊢
      simp [go_sem, h53, h56]
    refine steps_cons (fun a w hk hn => ?_) ?_
    · have h50 : a.eval (.tmp 50) = .bool false := hn.1
      have h57 : a.eval (.tmp 57) = .bool false := hn.2.1
      clear hn
      refine wants_plain rfl ?_
      exact grown_pick _ _ _ false rfl h50 h57
    refine steps_cons (fun a w hk hn => ?_) ?_
    · have h58 : a.eval (.tmp 58) = .bool false := hn.1
      clear hn
      refine wants_plain rfl ?_
      exact grown_move (.tmp 58) rfl h58
    refine steps_cons (fun a w hk hn => ?_) ?_
    · have h9 : a.eval (.tmp 9) = .pointer (some ⟨p, 0, none⟩) := hn.1
      have h59 : a.eval (.tmp 59) = .bool false := hn.2.1
      clear hn
      refine wants_guard (d := 59) rfl rfl h59 ?_
      exact grown_move (.tmp 9) rfl h9
    refine steps_cons (fun a w hk hn => ?_) ?_
    · have h60 : a.eval (.tmp 60) = .pointer (some ⟨p, 0, none⟩) := hn.1
      have h59 : a.eval (.tmp 59) = .bool false := hn.2.1
      clear hn
      refine wants_guard (d := 59) rfl rfl h59 ?_
      refine grown_call (f := 26) rfl Try.func26 (by kernel_rfl) (by kernel_rfl) ?_
      simp only [List.map_toArray, List.map_cons, List.map_nil, h60]
      refine (syncedz_any (unhide HD w hk) (unhide HXn)).mono ?_
      rintro e w' ⟨rfl, rfl⟩
      exact ⟨_, rfl, Kp.refl _ _, rfl⟩
    refine steps_cons (fun a w hk hn => ?_) ?_
    · have h9 : a.eval (.tmp 9) = .pointer (some ⟨p, 0, none⟩) := hn.1
      have h59 : a.eval (.tmp 59) = .bool false := hn.2.1
      clear hn
      refine wants_guard (d := 59) rfl rfl h59 ?_
      exact grown_move (.tmp 9) rfl h9
    refine steps_cons (fun a w hk hn => ?_) ?_
    · have h62 : a.eval (.tmp 62) = .pointer (some ⟨p, 0, none⟩) := hn.1
      have h59 : a.eval (.tmp 59) = .bool false := hn.2.1
      clear hn
      refine wants_guard (d := 59) rfl rfl h59 ?_
      refine grown_call (f := 15) rfl Try.func15 (by kernel_rfl) (by kernel_rfl) ?_
      simp only [List.map_toArray, List.map_cons, List.map_nil, h62]
      refine (sizen_any p v7 _ _ w (unhide HD w hk) xn (unhide HXn2)).mono ?_
      rintro e w' ⟨rfl, rfl⟩
      exact ⟨_, rfl, Kp.refl _ _, rfl⟩
    refine steps_cons (fun a w hk hn => ?_) ?_
    · have h61 : a.eval (.tmp 61) = .int .i64 xn := hn.1
      have h63 : a.eval (.tmp 63) = .int .i64 xn := hn.2.1
      have h59 : a.eval (.tmp 59) = .bool false := hn.2.2.1
      clear hn
      refine wants_guard (d := 59) rfl rfl h59 ?_
      refine grown_run (v := .bool false) ?_ (Kp.refl _ _) rfl
      obtain ⟨ρ, hρ, hc, hf, hg⟩ := eval_is a
      rw [hρ] at h61 h63 ⊢
      simp [go_sem, h61, h63]
    refine steps_cons (fun a w hk hn => ?_) ?_
    · have h59 : a.eval (.tmp 59) = .bool false := hn.1
      have h64 : a.eval (.tmp 64) = .bool false := hn.2.1
      clear hn
      refine wants_plain rfl ?_
      exact grown_pick _ _ _ false rfl h59 h64
    exact trivial
  intro W2 hkW2
  rintro _ rfl
  rintro _ rfl
  rintro _ rfl
  rintro _ rfl
  rintro _ rfl
  rintro _ rfl
  rintro _ rfl
  rintro _ rfl
  rintro _ rfl
  rintro _ rfl
  rintro _ rfl
  rintro _ rfl
  rintro _ rfl
  rintro _ rfl
  intro v52 h52
  rintro _ rfl
  rintro _ rfl
  intro v55 h55
  rintro _ rfl
  rintro _ rfl
  rintro _ rfl
  rintro _ rfl
  rintro _ rfl
  rintro _ rfl
  rintro _ rfl
  rintro _ rfl
  rintro _ rfl
  rintro _ rfl
  refine fin_nil ?_
  simp only [Act.put, List.set_cons_zero, List.set_cons_succ, List.setIfInBounds_toArray]
  go_wp2_with fail
  obtain ⟨D, hD⟩ : ∃ D, D = layP (la.map (·.2) ++ [[109, 111, 114, 101]]) := ⟨_, rfl⟩
  have hDX : D = X ++ recP [109, 111, 114, 101] := by rw [hD, layP_snoc, HX.out]
  obtain ⟨TD, hTD⟩ : ∃ T, T = strOfNums D := ⟨_, rfl⟩
  have HTD := hide hTD
  have HD9 := hide hD
  have hr12 : (recP [109, 111, 114, 101]).length = 12 := rfl
  have HADD : Hid ((dkOn X).add (recP [109, 111, 114, 101]) = (true, dkOn D)) := by rw [hDX]; exact Dk.add_on _ _ (by have := HXl.out; omega)
  have HNN : Hid (L + 1 = if ((dkOn X).app (recP [109, 111, 114, 101])).1 then L + 1 else L) := by show _ = _; rw [Dk.app_on _ _ (by have := HXl.out; omega), if_pos rfl]
  have HBM : Hid (Bs [109, 111, 114, 101]) := fun b hb => by simp at hb; omega
  have hJ9 := HJ8.out.on ((kp_drew w8).trans hkW2)
  have HJ9 : Hid (Jn w6 W2 p v7 (dkOn X) j L) := hJ9
  have HLN9 : Hid (la.length ≤ 900) := by have := HL.out; exact hide (by omega)
  have HSR9 : Hid (∀ r ∈ la.map (·.2) ++ [[109, 111, 114, 101]], r.length ≤ 65535) := fun r hr => by
    rcases List.mem_append.1 hr with h | h
    · exact HSR.out r h
    · obtain rfl : r = [109, 111, 114, 101] := by simpa using h
      simp
  have HLl4 : Hid (∀ w', Kp [] w6 w' → Lists w' (.slice ol L oc) la) := fun w' k => HLa.out w' (HK4.out.trans (HK6.out.trans k))
  clear hD hDX hTD hr12 hJ9
  refine region_two (K := KT) (G := GJ w6 p j (dkOn X) (dkOn D) L (L + 1) 3 1 2 67 68 [109, 111, 114, 101]) (K2 := fun _ => KT) (G2 := fun wb => GT wb la D [109, 111, 114, 101]) 6 Try.mixed [Is (.pointer (some ⟨j, 0, none⟩)), AnyT, AnyT, Is (.int .i64 0), Is (.bool true), Is (.bool true), Is (.pointer (some ⟨p, 0, none⟩)), AnyT, Is (.string TD), AnyT, Is (.slice ol L oc), AnyT, AnyT, AnyT, AnyT, AnyT, AnyT, Is (.string TD), Is (.bool true), Is (.bool true), Is (.bool true), Is (.bool true), Is (.bool true), Is (.bool true)] (fun _ => [Is (.pointer (some ⟨j, 0, none⟩)), AnyT, AnyT, Is (.int .i64 0), Is (.bool true), Is (.bool true), Is (.pointer (some ⟨p, 0, none⟩)), AnyT, Is (.string TD), AnyT, Is (.slice ol L oc), AnyT, AnyT, AnyT, AnyT, AnyT, AnyT, Is (.string TD), Is (.bool true), Is (.bool true), Is (.bool true), Is (.bool true), Is (.bool true), Is (.bool true)]) [[(10, none)], [], [(67, some 1)], [(66, some 0), (68, some 2)], [(69, some 3)], [(70, some 4)], [(9, none), (71, some 5)], [(72, some 6), (71, some 5)], [(73, some 7), (71, some 5)], [(71, some 5)], [(0, none), (71, some 5)], [(75, some 9), (76, some 10), (71, some 5)], [(71, some 5)], [(78, some 12), (71, some 5)], [(79, some 13), (71, some 5)], [(77, some 11), (80, some 14), (71, some 5)], [(81, some 15), (71, some 5)], [(82, some 16), (71, some 5)], [(74, some 8), (83, some 17), (71, some 5)], [(71, some 5), (84, some 18)], [(85, some 19)], [(86, some 20)], [(86, some 20), (87, some 21)], [(88, some 22)]] (by decide) (by kernel_rfl) (by kernel_rfl) rfl (fun _ => rfl) (fun _ _ _ => rfl) ?_ ?_ ?_ ?_ ?_ ?_
  · intro _ k R hR hd w'
    have hk : k < 24 := by have := (List.getElem?_eq_some_iff.1 hR).1; simpa using this
    rcases (by omega : k = 0 ∨ k = 1 ∨ k = 2 ∨ k = 3 ∨ k = 4 ∨ k = 5 ∨ k = 6 ∨ k = 7 ∨ k = 8 ∨ k = 9 ∨ k = 10 ∨ k = 11 ∨ k = 12 ∨ k = 13 ∨ k = 14 ∨ k = 15 ∨ k = 16 ∨ k = 17 ∨ k = 18 ∨ k = 19 ∨ k = 20 ∨ k = 21 ∨ k = 22 ∨ k = 23) with rfl | rfl | rfl | rfl | rfl | rfl | rfl | rfl | rfl | rfl | rfl | rfl | rfl | rfl | rfl | rfl | rfl | rfl | rfl | rfl | rfl | rfl | rfl | rfl <;> cases hd
  · simp only [List.mem_cons, List.not_mem_nil, or_false]
    intro R hR
    rcases hR with rfl | rfl | rfl | rfl | rfl | rfl | rfl | rfl | rfl | rfl | rfl | rfl | rfl | rfl | rfl | rfl | rfl | rfl | rfl | rfl | rfl | rfl | rfl | rfl <;> first | exact stableG_isM _ | exact stableK_any
  · simp only [List.mem_cons, List.not_mem_nil, or_false]
    intro _ R hR
    rcases hR with rfl | rfl | rfl | rfl | rfl | rfl | rfl | rfl | rfl | rfl | rfl | rfl | rfl | rfl | rfl | rfl | rfl | rfl | rfl | rfl | rfl | rfl | rfl | rfl <;> first | exact stableG_isM _ | exact stableK_any
  · exact GJ.start (HJ9.out.on (kp_drew W2)) (by simp)
  · simp only [List.take_succ_cons, List.take_zero]
    refine steps_consL (fun listed a w hnot hdep hcl hsz hg hn => ?_) ?_
    · have h10 : a.eval (.tmp 10) = .pointer (some ⟨j, 0, none⟩) := hn.1
      clear hn
      have hk := hg.kp
      refine wantsG_of1M (fun _ _ => trivial) (fun v w' k => hg.free 0 (by decide) 66 (by decide) v k) ?_
      refine wants_plain rfl ?_
      exact grown_move (.tmp 10) rfl h10
    refine steps_consL (fun listed a w hnot hdep hcl hsz hg hn => ?_) ?_
    · clear hn
      have hk := hg.kp
      refine hg.lit (by decide) (by decide) (by decide) (anc_not hcl 30 2 1 (by kernel_rfl) hnot) rfl rfl ?_
      obtain ⟨ρ, hρ, hc, hf, hgg⟩ := eval_is a
      rw [hρ]
      simp [go_sem, hc]
    refine steps_consL (fun listed a w hnot hdep hcl hsz hg hn => ?_) ?_
    · have h67 : (AnyT) (a.eval (.tmp 67)) w := hn.1
      clear hn
      have hk := hg.kp
      exact hg.mark (by decide) (by decide) (anc_listed hcl 30 2 1 rfl hdep (by kernel_rfl)) hnot hsz rfl rfl rfl
    refine steps_consL (fun listed a w hnot hdep hcl hsz hg hn => ?_) ?_
    · have h66 : a.eval (.tmp 66) = .pointer (some ⟨j, 0, none⟩) := hn.1
      have h68 : (AnyT) (a.eval (.tmp 68)) w := hn.2.1
      clear hn
      have hk := hg.kp
      exact hg.add hnot hsz (anc_listed hcl 30 3 2 rfl hdep (by kernel_rfl)) (by decide) rfl (.tmp 66) rfl 69 rfl (by decide) h66 HBM.out (by simp) (by omega) HADD.out HNN.out
    refine steps_consL (fun listed a w hnot hdep hcl hsz hg hn => ?_) ?_
    · have h69 : a.eval (.tmp 69) = .int .i64 0 := hn.1
      clear hn
      have hk := hg.kp
      refine wantsG_of1M (fun _ _ => trivial) (fun v w' k => hg.free 4 (by decide) 70 (by decide) v k) ?_
      refine wants_plain rfl ?_
      refine grown_run (v := .bool true) ?_ (Kp.refl _ _) rfl
      obtain ⟨ρ, hρ, hc, hf, hgg⟩ := eval_is a
      rw [hρ] at h69 ⊢
      simp [go_sem, hc, h69]
    refine steps_consL (fun listed a w hnot hdep hcl hsz hg hn => ?_) ?_
    · have h70 : a.eval (.tmp 70) = .bool true := hn.1
      clear hn
      have hk := hg.kp
      refine wantsG_of1M (fun _ _ => trivial) (fun v w' k => hg.free 5 (by decide) 71 (by decide) v k) ?_
      refine wants_plain rfl ?_
      exact grown_move (.tmp 70) rfl h70
    exact trivial
  intro listed0 a0' W3 hall0 htail hsz0 hG1
  obtain ⟨v9, J9⟩ := hG1.at1 (hall0 3 (by decide))
  refine ⟨GT.start htail (by rw [hsz0]; simp), ?_, ?_⟩
  · simp only [List.drop_succ_cons, List.drop_zero]
    refine steps_consL (fun listed a w hnot hdep hcl hsz hg hn => ?_) ?_
    · have h9 : a.eval (.tmp 9) = .pointer (some ⟨p, 0, none⟩) := hn.1
      have h71 : a.eval (.tmp 71) = .bool true := hn.2.1
      clear hn
      have hk := hg.kp
      refine wantsG_of1M (fun _ _ => trivial) (fun v w' k => hg.free 6 (by decide) 72 (by decide) v k) ?_
      refine wants_guard (d := 71) rfl rfl h71 ?_
      exact grown_move (.tmp 9) rfl h9
    refine steps_consL (fun listed a w hnot hdep hcl hsz hg hn => ?_) ?_
    · have h72 : a.eval (.tmp 72) = .pointer (some ⟨p, 0, none⟩) := hn.1
      have h71 : a.eval (.tmp 71) = .bool true := hn.2.1
      clear hn
      have hk := hg.kp
      exact hg.bytes (J9.nw.dk.keptN hk) rfl (by rw [wanted_iff (d := 71) rfl rfl h71]; rfl) (.tmp 72) rfl rfl h72
    refine steps_consL (fun listed a w hnot hdep hcl hsz hg hn => ?_) ?_
    · have h73 : (AnyT) (a.eval (.tmp 73)) w := hn.1
      have h71 : a.eval (.tmp 71) = .bool true := hn.2.1
      clear hn
      have hk := hg.kp
      refine wantsG_of1M (fun _ _ => trivial) (fun v w' k => hg.free 8 (by decide) 74 (by decide) v k) ?_
      refine wants_guard (d := 71) rfl rfl h71 ?_
      exact grown_conv (.tmp 73) _ _ 5 (D) rfl ((hg.b73 (anc_listed hcl 30 8 7 rfl hdep (by kernel_rfl)) hnot).1) Try.underlying22 Try.underlying5 Try.underlying9 (congrArg Value.string (unhide HTD).symm)
    refine steps_consL (fun listed a w hnot hdep hcl hsz hg hn => ?_) ?_
    · have h71 : a.eval (.tmp 71) = .bool true := hn.1
      clear hn
      have hk := hg.kp
      exact hg.none_ (by rw [wanted_iff (d := 71) rfl rfl h71]; rfl) rfl rfl (anc_not hcl 30 11 9 (by kernel_rfl) hnot)
    refine steps_consL (fun listed a w hnot hdep hcl hsz hg hn => ?_) ?_
    · have h0 : a.eval (.tmp 0) = .slice ol L oc := hn.1
      have h71 : a.eval (.tmp 71) = .bool true := hn.2.1
      clear hn
      have hk := hg.kp
      refine wantsG_of1M (fun _ _ => trivial) (fun v w' k => hg.free 10 (by decide) 76 (by decide) v k) ?_
      refine wants_guard (d := 71) rfl rfl h71 ?_
      exact grown_move (.tmp 0) rfl h0
    refine steps_consL (fun listed a w hnot hdep hcl hsz hg hn => ?_) ?_
    · have h75 : (AnyT) (a.eval (.tmp 75)) w := hn.1
      have h76 : a.eval (.tmp 76) = .slice ol L oc := hn.2.1
      have h71 : a.eval (.tmp 71) = .bool true := hn.2.2.1
      clear hn
      have hk := hg.kp
      exact hg.cop (by rw [wanted_iff (d := 71) rfl rfl h71]; rfl) (anc_listed hcl 30 11 9 rfl hdep (by kernel_rfl)) hnot (anc_not hcl 30 15 11 (by kernel_rfl) hnot) (anc_not hcl 30 16 11 (by kernel_rfl) hnot) hsz rfl (.tmp 76) rfl ol L oc h76 (HLl4.out w (J9.nw.kp.trans hk)) HRN.out HLN.out
    refine steps_consL (fun listed a w hnot hdep hcl hsz hg hn => ?_) ?_
    · have h71 : a.eval (.tmp 71) = .bool true := hn.1
      clear hn
      have hk := hg.kp
      refine hg.lit (by rw [wanted_iff (d := 71) rfl rfl h71]; rfl) (by decide) rfl (anc_not hcl 30 13 12 (by kernel_rfl) hnot) (anc_not hcl 30 14 12 (by kernel_rfl) hnot) ?_
      obtain ⟨ρ, hρ, hc, hf, hgg⟩ := eval_is a
      rw [hρ]
      simp [go_sem, hc]
    refine steps_consL (fun listed a w hnot hdep hcl hsz hg hn => ?_) ?_
    · have h78 : (AnyT) (a.eval (.tmp 78)) w := hn.1
      have h71 : a.eval (.tmp 71) = .bool true := hn.2.1
      clear hn
      have hk := hg.kp
      exact hg.mark (by rw [wanted_iff (d := 71) rfl rfl h71]; rfl) (anc_listed hcl 30 13 12 rfl hdep (by kernel_rfl)) (anc_not hcl 30 14 13 (by kernel_rfl) hnot) (anc_not hcl 30 15 13 (by kernel_rfl) hnot) (anc_not hcl 30 16 13 (by kernel_rfl) hnot) rfl rfl
    refine steps_consL (fun listed a w hnot hdep hcl hsz hg hn => ?_) ?_
    · have h79 : (AnyT) (a.eval (.tmp 79)) w := hn.1
      have h71 : a.eval (.tmp 71) = .bool true := hn.2.1
      clear hn
      have hk := hg.kp
      exact hg.one (by rw [wanted_iff (d := 71) rfl rfl h71]; rfl) (anc_listed hcl 30 14 13 rfl hdep (by kernel_rfl)) (anc_listed hcl 30 14 12 rfl hdep (by kernel_rfl)) (anc_not hcl 30 15 14 (by kernel_rfl) hnot) rfl rfl
    refine steps_consL (fun listed a w hnot hdep hcl hsz hg hn => ?_) ?_
    · have h77 : (AnyT) (a.eval (.tmp 77)) w := hn.1
      have h80 : (AnyT) (a.eval (.tmp 80)) w := hn.2.1
      have h71 : a.eval (.tmp 71) = .bool true := hn.2.2.1
      clear hn
      have hk := hg.kp
      exact hg.put (by rw [wanted_iff (d := 71) rfl rfl h71]; rfl) (anc_listed hcl 30 15 9 rfl hdep (by kernel_rfl)) (anc_listed hcl 30 15 11 rfl hdep (by kernel_rfl)) (anc_listed hcl 30 15 12 rfl hdep (by kernel_rfl)) (anc_listed hcl 30 15 13 rfl hdep (by kernel_rfl)) (anc_listed hcl 30 15 14 rfl hdep (by kernel_rfl)) hnot (anc_not hcl 30 16 15 (by kernel_rfl) hnot) hsz rfl rfl (fun w' k' y hy => (HLl4.out w' (J9.nw.kp.trans k')).at y hy) HLN9.out HBM.out
    refine steps_consL (fun listed a w hnot hdep hcl hsz hg hn => ?_) ?_
    · have h81 : (AnyT) (a.eval (.tmp 81)) w := hn.1
      have h71 : a.eval (.tmp 71) = .bool true := hn.2.1
      clear hn
      have hk := hg.kp
      exact hg.lay (by rw [wanted_iff (d := 71) rfl rfl h71]; rfl) (anc_listed hcl 30 16 15 rfl hdep (by kernel_rfl)) hnot hsz (.tmp 81) rfl rfl HLN9.out HSR9.out HD9.out
    refine steps_consL (fun listed a w hnot hdep hcl hsz hg hn => ?_) ?_
    · have h82 : (AnyT) (a.eval (.tmp 82)) w := hn.1
      have h71 : a.eval (.tmp 71) = .bool true := hn.2.1
      clear hn
      have hk := hg.kp
      refine wantsG_of1M (fun _ _ => trivial) (fun v w' k => hg.free 17 (by decide) 83 (by decide) v k) ?_
      refine wants_guard (d := 71) rfl rfl h71 ?_
      exact grown_conv (.tmp 82) _ _ 5 (D) rfl (hg.b82 (anc_listed hcl 30 17 16 rfl hdep (by kernel_rfl)) hnot) Try.underlying22 Try.underlying5 Try.underlying9 (congrArg Value.string (unhide HTD).symm)
    refine steps_consL (fun listed a w hnot hdep hcl hsz hg hn => ?_) ?_
    · have h74 : a.eval (.tmp 74) = .string TD := hn.1
      have h83 : a.eval (.tmp 83) = .string TD := hn.2.1
      have h71 : a.eval (.tmp 71) = .bool true := hn.2.2.1
      clear hn
      have hk := hg.kp
      refine wantsG_of1M (fun _ _ => trivial) (fun v w' k => hg.free 18 (by decide) 84 (by decide) v k) ?_
      refine wants_guard (d := 71) rfl rfl h71 ?_
      refine grown_run (v := .bool true) ?_ (Kp.refl _ _) rfl
      obtain ⟨ρ, hρ, hc, hf, hgg⟩ := eval_is a
      rw [hρ] at h74 h83 ⊢
      simp [go_sem, h74, h83]
    refine steps_consL (fun listed a w hnot hdep hcl hsz hg hn => ?_) ?_
    · have h71 : a.eval (.tmp 71) = .bool true := hn.1
      have h84 : a.eval (.tmp 84) = .bool true := hn.2.1
      clear hn
      have hk := hg.kp
      refine wantsG_of1M (fun _ _ => trivial) (fun v w' k => hg.free 19 (by decide) 85 (by decide) v k) ?_
      refine wants_plain rfl ?_
      exact grown_pick _ _ _ true rfl h71 h84
    refine steps_consL (fun listed a w hnot hdep hcl hsz hg hn => ?_) ?_
    · have h85 : a.eval (.tmp 85) = .bool true := hn.1
      clear hn
      have hk := hg.kp
      refine wantsG_of1M (fun _ _ => trivial) (fun v w' k => hg.free 20 (by decide) 86 (by decide) v k) ?_
      refine wants_plain rfl ?_
      exact grown_move (.tmp 85) rfl h85
    refine steps_consL (fun listed a w hnot hdep hcl hsz hg hn => ?_) ?_
    · have h86 : a.eval (.tmp 86) = .bool true := hn.1
      clear hn
      have hk := hg.kp
      refine wantsG_of1M (fun _ _ => trivial) (fun v w' k => hg.free 21 (by decide) 87 (by decide) v k) ?_
      refine wants_guard (d := 86) rfl rfl h86 ?_
      refine grown_call (f := 17) rfl Try.func17 (by kernel_rfl) (by kernel_rfl) ?_
      simp only [List.map_toArray, List.map_nil]
      refine (jknown_any w).mono ?_
      rintro e w' ⟨rfl, K⟩
      exact ⟨_, rfl, K, rfl⟩
    refine steps_consL (fun listed a w hnot hdep hcl hsz hg hn => ?_) ?_
    · have h86 : a.eval (.tmp 86) = .bool true := hn.1
      have h87 : a.eval (.tmp 87) = .bool true := hn.2.1
      clear hn
      have hk := hg.kp
      refine wantsG_of1M (fun _ _ => trivial) (fun v w' k => hg.free 22 (by decide) 88 (by decide) v k) ?_
      refine wants_plain rfl ?_
      exact grown_pick _ _ _ true rfl h86 h87
    refine steps_consL (fun listed a w hnot hdep hcl hsz hg hn => ?_) ?_
    · have h88 : a.eval (.tmp 88) = .bool true := hn.1
      clear hn
      have hk := hg.kp
      refine wantsG_of1M (fun _ _ => trivial) (fun v w' k => hg.free 23 (by decide) 6 (by decide) v k) ?_
      refine wants_plain rfl ?_
      exact grown_assign (.tmp 88) rfl h88
    exact trivial
  intro W3z
  rintro _ rfl
  intro v67 h67
  intro v68 h68
  rintro _ rfl
  rintro _ rfl
  rintro _ rfl
  rintro _ rfl
  intro v73 h73
  rintro _ rfl
  intro v75 h75
  rintro _ rfl
  intro v77 h77
  intro v78 h78
  intro v79 h79
  intro v80 h80
  intro v81 h81
  intro v82 h82
  rintro _ rfl
  rintro _ rfl
  rintro _ rfl
  rintro _ rfl
  rintro _ rfl
  rintro _ rfl
  rintro _ rfl
  refine fin_nil ?_
  intro listed hall hg
  have hkW3 := hg.kp
  simp only [Act.put, List.set_cons_zero, List.set_cons_succ, List.setIfInBounds_toArray]
  go_wp2_with fail
  go_ret
  exact ⟨rfl, (HK1.out.trans (HK4.out.trans (HK6.out.trans (J9.nw.kp.trans hkW3)))).below (Nat.le_refl _) (by simp)⟩

set_option maxRecDepth 100000 in
theorem lifted (os : Os) (started : os.Started) (H : Type) (enc : TypeId × Value → H) :
    ReturnsInHanded {} Try.checked os 8 .any (Rows.journalTornSpec.pre6 enc Try.prog Try.f8 Rows.journalTornRow.domain false) (Rows.journalTornSpec.post enc Try.prog Try.f8 false true false false) := by
  refine returnsInHanded_of_change (C := Try.checked) own started (by kernel_rfl) Try.func8
    (ChangeSpec.witness6 (enc := enc) (C := Try.checked) false ⟨#[], #[.slice none 0 0, .slice none 0 0, .int .i64 0], []⟩ 8 (by kernel_rfl) (by kernel_rfl) (by kernel_rfl) (by kernel_rfl)) ?_
  intro W base args ds gs before hval0 hW hcnd _
  have hval : ∀ (j : Nat) t v, Try.f8.params[j]? = some t → args[j]? = some v → Value.okWide Try.prog W .any base t v := hval0
  have hW' := hW
  obtain ⟨p, q, hA0, hV, rfl, hfz, hnd⟩ := hW
  have hA : DataW.TrodAll enc Try.prog W 0 (fun _ => true) true Try.f8.params.toList args.toList ds p := hA0
  rw [Try.params8] at hA hval
  obtain ⟨v0, vs0, d0, ds0, p0, q0, hargs, rfl, rfl, h0, r0⟩ := trodAll_cons hA
  obtain ⟨v1, vs1, d1, ds1, p1, q1, rfl, rfl, rfl, h1, r1⟩ := trodAll_cons r0
  obtain ⟨v2, vs2, d2, ds2, p2, q2, rfl, rfl, rfl, h2, r2⟩ := trodAll_cons r1
  obtain ⟨rfl, rfl, rfl⟩ := trodAll_nil r2
  obtain rfl : args = #[v0, v1, v2] := by cases args; simp_all
  obtain ⟨rfl, rfl⟩ := trodVars_none hV
  obtain ⟨a0, len0, cap0, rfl⟩ := okWide_slice Try.underlying24 (hval 0 24 v0 rfl rfl)
  have k0 := h0
  have lt0 : ∀ x ∈ p0, x.block < W.heap.size := by obtain ⟨m, hm⟩ := k0; exact DataW.trod_lt m _ _ _ hm
  obtain ⟨l0, s0⟩ : ∃ l, Lists W (.slice a0 len0 cap0) l := by
    obtain ⟨fuel, hf⟩ := h0
    exact lists_of_trod (by simpa [Value.cells] using hf)
  obtain ⟨a1, len1, cap1, rfl⟩ := okWide_slice Try.underlying22 (hval 1 22 v1 rfl rfl)
  have k1 := h1
  have lt1 : ∀ x ∈ p1, x.block < W.heap.size := by obtain ⟨m, hm⟩ := k1; exact DataW.trod_lt m _ _ _ hm
  obtain ⟨l1, s1, b1⟩ : ∃ bs, Sl W (.slice a1 len1 cap1) bs ∧ Bs bs := by
    obtain ⟨fuel, hf⟩ := h1
    exact bytes_of_trod (by simpa [Value.cells] using hf)
  obtain ⟨a2, rfl, rfl, rfl, w2⟩ := open_int Try.underlying3 (hval 2 3 v2 rfl rfl) h2
  clear hA0 hval0
  refine (walk (.slice a0 len0 cap0) l0 (.slice a1 len1 cap1) l1 a2 W s0 s1 b1 (bounds_i64 w2)).mono fun e W' ⟨he, bel⟩ => ?_
  subst he
  exact ⟨_, rfl, _, _, _, [], _, [], hW', trodAll_mk1 (shut_bool Try.underlying4 _), (trodAll_cons_mk (Below.trod laidOut (by kernel_rfl) (of_decide_eq_true (by kernel_rfl)) k0 bel lt0) (trodAll_cons_mk (Below.trod laidOut (by kernel_rfl) (of_decide_eq_true (by kernel_rfl)) k1 bel lt1) (trodAll_cons_mk (shut_int Try.underlying3 w2) trodAll_mk0))), rfl, bel.frame _, fun h => by cases h⟩

theorem over : Rows.journalTornRow.holds Try.pinned (OpenSpec.ofChange Rows.journalTornSpec) :=
  OpenClaim.holds_of_wide 8 Try.f8 rfl rfl rfl rfl rfl rfl rfl ⟨rfl, rfl, rfl, rfl, rfl⟩ rfl rfl rfl rfl rfl (by kernel_rfl) Try.func8 (by kernel_rfl)
    (of_decide_eq_true (by kernel_rfl)) (by unfold Func.isWrapper; first | (rw [if_pos (by decide +kernel)]; kernel_rfl) | (rw [if_neg (by decide +kernel)]; exact ⟨rfl, rfl⟩))
    (fun os started H enc _ => lifted os started H enc)
end Go.Proofs.Ytmpjgbckehnkjaa.journalTorn

namespace Go.Proofs.Ytmpjgbckehnkjaa
/-- The given statement. -/
theorem JournalTorn_holds : Rows.JournalTornSaid := journalTorn.over
#print axioms JournalTorn_holds
end Go.Proofs.Ytmpjgbckehnkjaa
