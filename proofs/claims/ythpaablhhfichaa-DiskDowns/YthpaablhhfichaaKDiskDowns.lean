/-
  DiskDowns: when power is gone nothing changes, whatever is asked, till the crash.
-/
import Derived.Test.YthpaablhhfichaaKDDown
import Derived.ShutString
import Derived.ChangeOld
import Derived.Below
namespace Go.Proofs.Ythpaablhhfichaa.diskDowns
open Go.ChangeShapes Go.WideShapes Go.ChangeAt Go.RowKit
open Go.Proofs.Ythpaablhhfichaa
set_option linter.unusedVariables false

theorem own : ownKnob Try.prog.godebug = none := by kernel_rfl
theorem laidOut : laidOutB Try.prog = true := by kernel_rfl
set_option maxHeartbeats 8000000 in
set_option maxRecDepth 100000 in
theorem walk (v0 : Value) (l0 : List Int) (n : Int) (v1 : Value) (l1 : List AskE) (w : World) (s0 : Sl w v0 l0) (b0 : Bs l0) (hn : -9223372036854775808 ≤ n ∧ n ≤ 9223372036854775807) (s1 : AskL w v1 l1) :
    Calls Try.prog 6 #[v0, .int .i64 n, v1] w fun e w' => e = .returned (.bool true) ∧ Below w.heap.size w w' := by
  obtain ⟨a0, c0, e0, hc1, hc2, hc3, -⟩ := id s0
  obtain ⟨L0, hL0⟩ : ∃ L, L = l0.length := ⟨_, rfl⟩
  rw [← hL0] at e0
  subst e0
  obtain ⟨C, hC⟩ : ∃ C, C = l0.take 100 := ⟨_, rfl⟩
  obtain ⟨m, hm⟩ : ∃ m, m = min L0 100 := ⟨_, rfl⟩
  have hCl : C.length = m := by rw [hC, hm, hL0]; simp; omega
  have HCB : Hid (Bs C) := by rw [hC]; exact b0.takes _
  have HZ : Hid (∀ w', Kp [] w w' → Sl w' (.slice a0 m c0) C) := fun w' k => by
    have := cutv_sl 100 (s0.kept k (by simp))
    rw [hC, hm]; exact this
  have HC : Hid (∀ w', Kp [] w w' → Calls Try.prog 19 #[.slice a0 L0 c0, .int .i64 100] w' fun e w'' => e = .returned (.slice a0 m c0) ∧ w'' = w') := fun w' k => by
    rw [hm]; exact cutv_any a0 L0 c0 100 l0 w' (s0.kept k (by simp))
  have hm3 : (m : Int) ≤ 100 := by omega
  have hmc : m ≤ c0 := by omega
  have hwi := wiP_ge n 0 m (by omega)
  obtain ⟨q, hq⟩ : ∃ q : Nat, (q : Int) = wiP n 0 m := ⟨(wiP n 0 m).toNat, by omega⟩
  have hqm : (q : Int) ≤ (m : Int) := by omega
  have HW : Hid (∀ w', Calls Try.prog 12 #[.int .i64 n, .int .i64 0, .int .i64 m] w' fun e w'' => e = .returned (.int .i64 q) ∧ w'' = w') := fun w' => by
    rw [hq]; exact within_wi n 0 m w' (by omega) (by omega) (by omega)
  obtain ⟨E, hE⟩ : ∃ E, E = C.take q := ⟨_, rfl⟩
  have hEl : E.length = q := by rw [hE]; simp; omega
  have HZE0 : Hid (∀ w', Kp [] w w' → Sl w' (.slice a0 q c0) E) := fun w' kk => by
    rw [hE]; exact (HZ.out w' kk).take q (by omega)
  obtain ⟨q1, hq1⟩ : ∃ q1, q1 = q + 1 := ⟨_, rfl⟩
  have hq1i : (q1 : Int) = (q : Int) + 1 := by omega
  have HQ1 : Hid ((E ++ [122]).length = q1) := by show _ = _; rw [List.length_append, hEl, hq1]; rfl
  have HAR : Hid ((dk0 1000).armed (max 1 0) = ⟨[], 0, 1000, 1, false⟩) := rfl
  have HAP : Hid (Dk.app ⟨[], 0, 1000, 1, false⟩ C = (false, ⟨C, 0, 1000, 0, true⟩)) := by
    show _ = _
    rw [Dk.app_at rfl rfl C (by show ((0 + C.length : Nat) : Int) ≤ 1000; omega)]; rfl
  have HCR : Hid (Dk.crash ⟨C, 0, 1000, 0, true⟩ q = ⟨E, q, 1000, 0, false⟩) := by
    show _ = _
    have hl : Dk.left ⟨C, 0, 1000, 0, true⟩ q = q := by show 0 + min (q : Int).toNat (C.length - 0) = q; omega
    unfold Dk.crash
    rw [hl]
    show (⟨C.take q, min q C.length, 1000, 0, false⟩ : Dk) = _
    rw [← hE, show min q C.length = q from by omega]
  have HAE : Hid (Dk.app ⟨E, q, 1000, 0, false⟩ [122] = (true, ⟨E ++ [122], q, 1000, 0, false⟩)) := Dk.app_plain rfl (Int.le_refl 0) _ (by show ((E.length + 1 : Nat) : Int) ≤ 1000; omega)
  obtain ⟨T, hT⟩ : ∃ T, T = strOfNums C := ⟨_, rfl⟩
  have HT := hide hT
  obtain ⟨TE, hTE⟩ : ∃ T, T = strOfNums E := ⟨_, rfl⟩
  have HTE := hide hTE
  have hN := hide (nw_new 1000 w (by omega) (by omega))
  obtain ⟨al, cl, e1, hll, -⟩ := id s1
  have HS1 := hide s1
  obtain ⟨L, hL⟩ : ∃ L, L = l1.length := ⟨_, rfl⟩
  rw [← hL] at e1 hll
  subst e1
  have HL := hide hL
  clear hC hm hL0 hq hE hEl hT hTE hwi s0 b0 hc1 hc2 hCl s1 hL hq1
  go_enter Try.func6, Try.ntmps6
  go_wp2_with (first
    | (go_at_call 9; refine hN.out.mono ?_; rintro e w1 ⟨p, rfl, N1⟩; clear hN; have HN1 := hide N1; clear N1)
    | (go_at_call 19; refine (HC.out w1 HN1.out.kp).mono ?_; rintro e w2 ⟨rfl, hw⟩; subst w2; clear HC)
    | (go_at_call 20; refine (nw_arm HN1.out 1 (by omega) HAR.out).mono ?_; rintro e w3 ⟨rfl, N3, -⟩; have HN3 := hide N3; clear HN1 N3 HAR))
  refine region_growL (K := KT) (G := GD w p ⟨[], 0, 1000, 1, false⟩ ⟨C, 0, 1000, 0, true⟩ 2 11 12 37 99 98 1 1 C [] false) Try.mixed [Is (.pointer (some ⟨p, 0, none⟩)), Is (.slice a0 m c0), Is (.int .i64 13), Is (.bool false), Is (.bool false), Is (.pointer (some ⟨p, 0, none⟩)), Is (.bool true), Is (.bool false), Is (.bool false), Is (.bool false), Is (.pointer (some ⟨p, 0, none⟩)), AnyT, Is (.string T), Is (.slice a0 m c0), Is (.string T), Is (.bool false), Is (.bool false)] [[(7, none)], [(0, none)], [(26, some 0), (27, some 1)], [(28, some 2)], [(29, some 3)], [(7, none), (30, some 4)], [(31, some 5), (30, some 4)], [(32, some 6), (30, some 4)], [(30, some 4), (33, some 7)], [(34, some 8)], [(7, none), (35, some 9)], [(36, some 10), (35, some 9)], [(37, some 11), (35, some 9)], [(0, none), (35, some 9)], [(39, some 13), (35, some 9)], [(38, some 12), (40, some 14), (35, some 9)], [(35, some 9), (41, some 15)]] (by kernel_rfl) ?_ ?_ ?_ ?_ ?_
  · intro k R hR hd w'
    have hk : k < 17 := by have := (List.getElem?_eq_some_iff.1 hR).1; simpa using this
    rcases (by omega : k = 0 ∨ k = 1 ∨ k = 2 ∨ k = 3 ∨ k = 4 ∨ k = 5 ∨ k = 6 ∨ k = 7 ∨ k = 8 ∨ k = 9 ∨ k = 10 ∨ k = 11 ∨ k = 12 ∨ k = 13 ∨ k = 14 ∨ k = 15 ∨ k = 16) with rfl | rfl | rfl | rfl | rfl | rfl | rfl | rfl | rfl | rfl | rfl | rfl | rfl | rfl | rfl | rfl | rfl <;> cases hd
  · simp only [List.mem_cons, List.not_mem_nil, or_false]
    intro R hR
    rcases hR with rfl | rfl | rfl | rfl | rfl | rfl | rfl | rfl | rfl | rfl | rfl | rfl | rfl | rfl | rfl | rfl | rfl <;> first | exact stableG_isM _ | exact stableK_any
  · exact GD.start (HN3.out.on (kp_drew w3)) (by simp)
  · refine steps_consL (fun listed a w hnot hdep hcl hsz hg hn => ?_) ?_
    · have h7 : a.eval (.tmp 7) = .pointer (some ⟨p, 0, none⟩) := hn.1
      clear hn
      have hk := hg.kp
      refine wantsG_of1M (fun _ _ => trivial) (fun v w' k => hg.free 0 (by decide) 26 (by decide) v k) ?_
      refine wants_plain rfl ?_
      exact grown_move (.tmp 7) rfl h7
    refine steps_consL (fun listed a w hnot hdep hcl hsz hg hn => ?_) ?_
    · have h0 : a.eval (.tmp 0) = .slice a0 m c0 := hn.1
      clear hn
      have hk := hg.kp
      refine wantsG_of1M (fun _ _ => trivial) (fun v w' k => hg.free 1 (by decide) 27 (by decide) v k) ?_
      refine wants_plain rfl ?_
      exact grown_move (.tmp 0) rfl h0
    refine steps_consL (fun listed a w hnot hdep hcl hsz hg hn => ?_) ?_
    · have h26 : a.eval (.tmp 26) = .pointer (some ⟨p, 0, none⟩) := hn.1
      have h27 : a.eval (.tmp 27) = .slice a0 m c0 := hn.2.1
      clear hn
      have hk := hg.kp
      exact hg.append hnot hsz (fun e => by rw [anc_not hcl 30 11 2 (by kernel_rfl) hnot] at e; cases e) (fun e => by cases e) (by decide) (by rfl) (.tmp 26) (.tmp 27) rfl 28 rfl (by decide) h26 (by rw [h27]; exact unhide HZ w hk) (unhide HCB) false (unhide HAP) 13 rfl
    refine steps_consL (fun listed a w hnot hdep hcl hsz hg hn => ?_) ?_
    · have h28 : a.eval (.tmp 28) = .int .i64 13 := hn.1
      clear hn
      have hk := hg.kp
      refine wantsG_of1M (fun _ _ => trivial) (fun v w' k => hg.free 3 (by decide) 29 (by decide) v k) ?_
      refine wants_plain rfl ?_
      refine grown_run (v := .bool false) ?_ (Kp.refl _ _) rfl
      obtain ⟨ρ, hρ, hc, hf, hgg⟩ := eval_is a
      rw [hρ] at h28 ⊢
      simp [go_sem, hc, h28]
    refine steps_consL (fun listed a w hnot hdep hcl hsz hg hn => ?_) ?_
    · have h29 : a.eval (.tmp 29) = .bool false := hn.1
      clear hn
      have hk := hg.kp
      refine wantsG_of1M (fun _ _ => trivial) (fun v w' k => hg.free 4 (by decide) 30 (by decide) v k) ?_
      refine wants_plain rfl ?_
      exact grown_move (.tmp 29) rfl h29
    refine steps_consL (fun listed a w hnot hdep hcl hsz hg hn => ?_) ?_
    · have h7 : a.eval (.tmp 7) = .pointer (some ⟨p, 0, none⟩) := hn.1
      have h30 : a.eval (.tmp 30) = .bool false := hn.2.1
      clear hn
      have hk := hg.kp
      refine wantsG_of1M (fun _ _ => trivial) (fun v w' k => hg.free 5 (by decide) 31 (by decide) v k) ?_
      refine wants_guard (d := 30) rfl rfl h30 ?_
      exact grown_move (.tmp 7) rfl h7
    refine steps_consL (fun listed a w hnot hdep hcl hsz hg hn => ?_) ?_
    · have h31 : a.eval (.tmp 31) = .pointer (some ⟨p, 0, none⟩) := hn.1
      have h30 : a.eval (.tmp 30) = .bool false := hn.2.1
      clear hn
      have hk := hg.kp
      refine wantsG_of1M (fun _ _ => trivial) (fun v w' k => hg.free 6 (by decide) 32 (by decide) v k) ?_
      refine wants_guard (d := 30) rfl rfl h30 ?_
      refine grown_call (f := 21) rfl Try.func21 (by kernel_rfl) (by kernel_rfl) ?_
      simp only [List.map_toArray, List.map_cons, List.map_nil, h31]
      refine (downAt_any p true w (by obtain ⟨v, N⟩ := hg.at1 (anc_listed hcl 30 6 2 rfl hdep (by kernel_rfl)); exact ⟨_, v, _, N.dk, rfl⟩)).mono ?_
      rintro e w' ⟨rfl, rfl⟩
      exact ⟨_, rfl, Kp.refl _ _, rfl⟩
    refine steps_consL (fun listed a w hnot hdep hcl hsz hg hn => ?_) ?_
    · have h32 : a.eval (.tmp 32) = .bool true := hn.1
      have h30 : a.eval (.tmp 30) = .bool false := hn.2.1
      clear hn
      have hk := hg.kp
      refine wantsG_of1M (fun _ _ => trivial) (fun v w' k => hg.free 7 (by decide) 33 (by decide) v k) ?_
      refine wants_guard (d := 30) rfl rfl h30 ?_
      refine grown_run (v := .bool false) ?_ (Kp.refl _ _) rfl
      obtain ⟨ρ, hρ, hc, hf, hgg⟩ := eval_is a
      rw [hρ] at h32 ⊢
      simp [go_sem, h32]
    refine steps_consL (fun listed a w hnot hdep hcl hsz hg hn => ?_) ?_
    · have h30 : a.eval (.tmp 30) = .bool false := hn.1
      have h33 : a.eval (.tmp 33) = .bool false := hn.2.1
      clear hn
      have hk := hg.kp
      refine wantsG_of1M (fun _ _ => trivial) (fun v w' k => hg.free 8 (by decide) 34 (by decide) v k) ?_
      refine wants_plain rfl ?_
      exact grown_pick _ _ _ false rfl h30 h33
    refine steps_consL (fun listed a w hnot hdep hcl hsz hg hn => ?_) ?_
    · have h34 : a.eval (.tmp 34) = .bool false := hn.1
      clear hn
      have hk := hg.kp
      refine wantsG_of1M (fun _ _ => trivial) (fun v w' k => hg.free 9 (by decide) 35 (by decide) v k) ?_
      refine wants_plain rfl ?_
      exact grown_move (.tmp 34) rfl h34
    refine steps_consL (fun listed a w hnot hdep hcl hsz hg hn => ?_) ?_
    · have h7 : a.eval (.tmp 7) = .pointer (some ⟨p, 0, none⟩) := hn.1
      have h35 : a.eval (.tmp 35) = .bool false := hn.2.1
      clear hn
      have hk := hg.kp
      refine wantsG_of1M (fun _ _ => trivial) (fun v w' k => hg.free 10 (by decide) 36 (by decide) v k) ?_
      refine wants_guard (d := 35) rfl rfl h35 ?_
      exact grown_move (.tmp 7) rfl h7
    refine steps_consL (fun listed a w hnot hdep hcl hsz hg hn => ?_) ?_
    · have h36 : a.eval (.tmp 36) = .pointer (some ⟨p, 0, none⟩) := hn.1
      have h35 : a.eval (.tmp 35) = .bool false := hn.2.1
      clear hn
      have hk := hg.kp
      exact hg.bytes _ (hg.at1 (anc_listed hcl 30 11 2 rfl hdep (by kernel_rfl))) rfl (by decide) (by decide) (by rw [wanted_iff (d := 35) rfl rfl h35]; rfl) (.tmp 36) rfl rfl h36
    refine steps_consL (fun listed a w hnot hdep hcl hsz hg hn => ?_) ?_
    · have h37 : (AnyT) (a.eval (.tmp 37)) w := hn.1
      have h35 : a.eval (.tmp 35) = .bool false := hn.2.1
      clear hn
      have hk := hg.kp
      refine wantsG_of1M (fun _ _ => trivial) (fun v w' k => hg.free 12 (by decide) 38 (by decide) v k) ?_
      refine wants_guard (d := 35) rfl rfl h35 ?_
      exact grown_conv (.tmp 37) _ _ 5 (C) rfl (hg.cl (anc_listed hcl 30 12 11 rfl hdep (by kernel_rfl)) hnot) Try.underlying28 Try.underlying5 Try.underlying9 (congrArg Value.string (unhide HT).symm)
    refine steps_consL (fun listed a w hnot hdep hcl hsz hg hn => ?_) ?_
    · have h0 : a.eval (.tmp 0) = .slice a0 m c0 := hn.1
      have h35 : a.eval (.tmp 35) = .bool false := hn.2.1
      clear hn
      have hk := hg.kp
      refine wantsG_of1M (fun _ _ => trivial) (fun v w' k => hg.free 13 (by decide) 39 (by decide) v k) ?_
      refine wants_guard (d := 35) rfl rfl h35 ?_
      exact grown_move (.tmp 0) rfl h0
    refine steps_consL (fun listed a w hnot hdep hcl hsz hg hn => ?_) ?_
    · have h39 : a.eval (.tmp 39) = .slice a0 m c0 := hn.1
      have h35 : a.eval (.tmp 35) = .bool false := hn.2.1
      clear hn
      have hk := hg.kp
      refine wantsG_of1M (fun _ _ => trivial) (fun v w' k => hg.free 14 (by decide) 40 (by decide) v k) ?_
      refine wants_guard (d := 35) rfl rfl h35 ?_
      exact grown_conv (.tmp 39) _ _ 5 (C) rfl (by rw [h39]; exact unhide HZ w hk) Try.underlying28 Try.underlying5 Try.underlying9 (congrArg Value.string (unhide HT).symm)
    refine steps_consL (fun listed a w hnot hdep hcl hsz hg hn => ?_) ?_
    · have h38 : a.eval (.tmp 38) = .string T := hn.1
      have h40 : a.eval (.tmp 40) = .string T := hn.2.1
      have h35 : a.eval (.tmp 35) = .bool false := hn.2.2.1
      clear hn
      have hk := hg.kp
      refine wantsG_of1M (fun _ _ => trivial) (fun v w' k => hg.free 15 (by decide) 41 (by decide) v k) ?_
      refine wants_guard (d := 35) rfl rfl h35 ?_
      refine grown_run (v := .bool false) ?_ (Kp.refl _ _) rfl
      obtain ⟨ρ, hρ, hc, hf, hgg⟩ := eval_is a
      rw [hρ] at h38 h40 ⊢
      simp [go_sem, h38, h40]
    refine steps_consL (fun listed a w hnot hdep hcl hsz hg hn => ?_) ?_
    · have h35 : a.eval (.tmp 35) = .bool false := hn.1
      have h41 : a.eval (.tmp 41) = .bool false := hn.2.1
      clear hn
      have hk := hg.kp
      refine wantsG_of1M (fun _ _ => trivial) (fun v w' k => hg.free 16 (by decide) 42 (by decide) v k) ?_
      refine wants_plain rfl ?_
      exact grown_pick _ _ _ false rfl h35 h41
    exact trivial
  intro W1
  rintro _ rfl
  rintro _ rfl
  rintro _ rfl
  rintro _ rfl
  rintro _ rfl
  rintro _ rfl
  rintro _ rfl
  rintro _ rfl
  rintro _ rfl
  rintro _ rfl
  rintro _ rfl
  intro v37 h37
  rintro _ rfl
  rintro _ rfl
  rintro _ rfl
  rintro _ rfl
  rintro _ rfl
  refine fin_nil ?_
  intro listed hall hg
  have hkW1 := hg.kp
  simp only [Act.put, List.set_cons_zero, List.set_cons_succ, List.setIfInBounds_toArray]
  obtain ⟨v4, N4⟩ := hg.at1 (hall 2 (by decide))
  have HN4 := hide N4
  clear hg hall N4 hkW1
  go_wp2_with fail
  go_loopw [9] (fun i wr => ∃ (k : Nat) (v : Value), k ≤ 20 ∧ k ≤ L ∧ i = .int .i64 k ∧ Nw w wr p v ⟨C, 0, 1000, 0, true⟩) (fun i _ => 20 - (intOf i).toNat)
  case atStart => exact ⟨0, v4, by omega, Nat.zero_le _, rfl, HN4.out⟩
  case round =>
    obtain ⟨k, v5, hk, hkL, rfl, N5⟩ := hrel
    have HN5 := hide N5
    clear N5 HN4
    by_cases hgo : k < L ∧ k < 20
    · obtain ⟨hlt, hlt6⟩ := hgo
      have hlt2 : (k : Int) < (L : Int) := by omega
      have hlt3 : (k : Int) < 20 := by omega
      obtain ⟨ao', c', e', -, hcell⟩ := HS1.out
      injection e' with e1 e2 e3
      subst e1
      obtain ⟨b, off, rfl, hc, hS, hB, hb0, hb1⟩ := hcell k (by rw [← HL.out]; exact hlt)
      generalize l1[k]'(by rw [← HL.out]; exact hlt) = x at hc hS hB hb0 hb1
      obtain ⟨kd, nn, vb, bs⟩ := x
      have hr : ∀ j y, [Value.int .i64 kd, .int .i64 nn, vb][j]? = some y → wr.cell? ⟨b, off + k * 3 + j, none⟩ = some y := fun j y hy => HN5.out.kp.cell (hc j y hy) (by simp)
      have r0 := hr 0 _ rfl
      rw [Nat.add_zero] at r0
      have r1 := hr 1 _ rfl
      have r2 := hr 2 _ rfl
      obtain ⟨ab, cb, eb, -⟩ := id hS
      obtain ⟨nb, hnb⟩ : ∃ nb, nb = bs.length := ⟨_, rfl⟩
      simp only at eb
      rw [← hnb] at eb
      subst eb
      have HSb := hide hS
      have HBb := hide hB
      clear hcell e2 e3 hc hS hB hr hnb
      by_cases h1 : kd = 1
      · have h1d : (kd == 1) = true := by simp [h1]
        clear h1
        have HC9 := hide (cutv_any ab nb cb 9 bs wr (HSb.out.kept HN5.out.kp (by simp)))
        have HA := hide (nw_append HN5.out (cutv_sl 9 (HSb.out.kept HN5.out.kp (by simp))) (HBb.out.takes 9) false (Dk.app_down rfl _) 13 rfl)
        obtain ⟨mb, hmb⟩ : ∃ mb, mb = min nb 9 := ⟨_, rfl⟩
        rw [← hmb] at HC9 HA
        clear hmb
        go_wp2_with (first
          | (go_at_call 19; refine HC9.out.mono ?_; rintro e w5 ⟨rfl, hw⟩; subst w5; clear HC9)
          | (go_at_call 14; refine HA.out.mono ?_; rintro e w6 ⟨rfl, v6, N6, -⟩; clear HA; have HN6 := hide N6; clear N6))
        have HD : Hid (∀ w', Kp [] w6.drew w' → DskP w' w.heap.size p v6 ⟨C, 0, 1000, 0, true⟩) := fun w' k' => HN6.out.dk.keptN ((kp_drew w6).trans k')
        have HZZ : Hid (∀ w', Kp [] w6.drew w' → Sl w' (.slice a0 m c0) C) := fun w' k' => HZ.out w' (HN6.out.kp.trans ((kp_drew w6).trans k'))
        refine region_grow Try.mixed [Is (.bool true), Is (.bool false), Is (.bool false), Is (.pointer (some ⟨p, 0, none⟩)), Is (.bool true), Is (.bool false), Is (.bool false), Is (.bool false), Is (.pointer (some ⟨p, 0, none⟩)), SlT (C), Is (.string T), Is (.slice a0 m c0), Is (.string T), Is (.bool false), Is (.bool false), Is (.bool false), Is (.pointer (some ⟨p, 0, none⟩)), Is (.int .i64 0), Is (.bool false), Is (.bool false)] [[(10, none)], [(91, some 0)], [(92, some 1)], [(7, none), (93, some 2)], [(94, some 3), (93, some 2)], [(95, some 4), (93, some 2)], [(93, some 2), (96, some 5)], [(97, some 6)], [(7, none), (98, some 7)], [(99, some 8), (98, some 7)], [(100, some 9), (98, some 7)], [(0, none), (98, some 7)], [(102, some 11), (98, some 7)], [(101, some 10), (103, some 12), (98, some 7)], [(98, some 7), (104, some 13)], [(105, some 14)], [(7, none), (106, some 15)], [(107, some 16), (106, some 15)], [(108, some 17), (106, some 15)], [(106, some 15), (109, some 18)]] (by kernel_rfl) ?_ ?_ ?_
        · simp only [List.mem_cons, List.not_mem_nil, or_false]
          intro R hR
          rcases hR with rfl | rfl | rfl | rfl | rfl | rfl | rfl | rfl | rfl | rfl | rfl | rfl | rfl | rfl | rfl | rfl | rfl | rfl | rfl | rfl <;> first | exact stable_is _ | exact stable_sl _
        · refine steps_cons (fun a w hk hn => ?_) ?_
          · have h10 : a.eval (.tmp 10) = .bool true := hn.1
            clear hn
            refine wants_plain rfl ?_
            exact grown_move (.tmp 10) rfl h10
          refine steps_cons (fun a w hk hn => ?_) ?_
          · have h91 : a.eval (.tmp 91) = .bool true := hn.1
            clear hn
            refine wants_plain rfl ?_
            refine grown_run (v := .bool false) ?_ (Kp.refl _ _) rfl
            obtain ⟨ρ, hρ, hc, hf, hg⟩ := eval_is a
            rw [hρ] at h91 ⊢
            simp [go_sem, h91]
          refine steps_cons (fun a w hk hn => ?_) ?_
          · have h92 : a.eval (.tmp 92) = .bool false := hn.1
            clear hn
            refine wants_plain rfl ?_
            exact grown_move (.tmp 92) rfl h92
          refine steps_cons (fun a w hk hn => ?_) ?_
          · have h7 : a.eval (.tmp 7) = .pointer (some ⟨p, 0, none⟩) := hn.1
            have h93 : a.eval (.tmp 93) = .bool false := hn.2.1
            clear hn
            refine wants_guard (d := 93) rfl rfl h93 ?_
            exact grown_move (.tmp 7) rfl h7
          refine steps_cons (fun a w hk hn => ?_) ?_
          · have h94 : a.eval (.tmp 94) = .pointer (some ⟨p, 0, none⟩) := hn.1
            have h93 : a.eval (.tmp 93) = .bool false := hn.2.1
            clear hn
            refine wants_guard (d := 93) rfl rfl h93 ?_
            refine grown_call (f := 21) rfl Try.func21 (by kernel_rfl) (by kernel_rfl) ?_
            simp only [List.map_toArray, List.map_cons, List.map_nil, h94]
            refine (down_any p _ _ _ w (unhide HD w hk)).mono ?_
            rintro e w' ⟨rfl, rfl⟩
            exact ⟨_, rfl, Kp.refl _ _, rfl⟩
          refine steps_cons (fun a w hk hn => ?_) ?_
          · have h95 : a.eval (.tmp 95) = .bool true := hn.1
            have h93 : a.eval (.tmp 93) = .bool false := hn.2.1
            clear hn
            refine wants_guard (d := 93) rfl rfl h93 ?_
            refine grown_run (v := .bool false) ?_ (Kp.refl _ _) rfl
            obtain ⟨ρ, hρ, hc, hf, hg⟩ := eval_is a
            rw [hρ] at h95 ⊢
            simp [go_sem, h95]
          refine steps_cons (fun a w hk hn => ?_) ?_
          · have h93 : a.eval (.tmp 93) = .bool false := hn.1
            have h96 : a.eval (.tmp 96) = .bool false := hn.2.1
            clear hn
            refine wants_plain rfl ?_
            exact grown_pick _ _ _ false rfl h93 h96
          refine steps_cons (fun a w hk hn => ?_) ?_
          · have h97 : a.eval (.tmp 97) = .bool false := hn.1
            clear hn
            refine wants_plain rfl ?_
            exact grown_move (.tmp 97) rfl h97
          refine steps_cons (fun a w hk hn => ?_) ?_
          · have h7 : a.eval (.tmp 7) = .pointer (some ⟨p, 0, none⟩) := hn.1
            have h98 : a.eval (.tmp 98) = .bool false := hn.2.1
            clear hn
            refine wants_guard (d := 98) rfl rfl h98 ?_
            exact grown_move (.tmp 7) rfl h7
          refine steps_cons (fun a w hk hn => ?_) ?_
          · have h99 : a.eval (.tmp 99) = .pointer (some ⟨p, 0, none⟩) := hn.1
            have h98 : a.eval (.tmp 98) = .bool false := hn.2.1
            clear hn
            refine wants_guard (d := 98) rfl rfl h98 ?_
            refine grown_call (f := 17) rfl Try.func17 (by kernel_rfl) (by kernel_rfl) ?_
            simp only [List.map_toArray, List.map_cons, List.map_nil, h99]
            refine (dbytes_any p _ _ _ w (unhide HD w hk)).mono ?_
            rintro e w' ⟨ao, m, c, rfl, R, K⟩
            exact ⟨_, rfl, K, R.sl⟩
          refine steps_cons (fun a w hk hn => ?_) ?_
          · have h100 : Sl w (a.eval (.tmp 100)) (C) := hn.1
            have h98 : a.eval (.tmp 98) = .bool false := hn.2.1
            clear hn
            refine wants_guard (d := 98) rfl rfl h98 ?_
            exact grown_conv (.tmp 100) _ _ 5 _ rfl h100 Try.underlying28 Try.underlying5 Try.underlying9 (congrArg Value.string (unhide HT).symm)
          refine steps_cons (fun a w hk hn => ?_) ?_
          · have h0 : a.eval (.tmp 0) = .slice a0 m c0 := hn.1
            have h98 : a.eval (.tmp 98) = .bool false := hn.2.1
            clear hn
            refine wants_guard (d := 98) rfl rfl h98 ?_
            exact grown_move (.tmp 0) rfl h0
          refine steps_cons (fun a w hk hn => ?_) ?_
          · have h102 : a.eval (.tmp 102) = .slice a0 m c0 := hn.1
            have h98 : a.eval (.tmp 98) = .bool false := hn.2.1
            clear hn
            refine wants_guard (d := 98) rfl rfl h98 ?_
            exact grown_conv (.tmp 102) _ _ 5 (C) rfl (by rw [h102]; exact unhide HZZ w hk) Try.underlying28 Try.underlying5 Try.underlying9 (congrArg Value.string (unhide HT).symm)
          refine steps_cons (fun a w hk hn => ?_) ?_
          · have h101 : a.eval (.tmp 101) = .string T := hn.1
            have h103 : a.eval (.tmp 103) = .string T := hn.2.1
            have h98 : a.eval (.tmp 98) = .bool false := hn.2.2.1
            clear hn
            refine wants_guard (d := 98) rfl rfl h98 ?_
            refine grown_run (v := .bool false) ?_ (Kp.refl _ _) rfl
            obtain ⟨ρ, hρ, hc, hf, hg⟩ := eval_is a
            rw [hρ] at h101 h103 ⊢
            simp [go_sem, h101, h103]
          refine steps_cons (fun a w hk hn => ?_) ?_
          · have h98 : a.eval (.tmp 98) = .bool false := hn.1
            have h104 : a.eval (.tmp 104) = .bool false := hn.2.1
            clear hn
            refine wants_plain rfl ?_
            exact grown_pick _ _ _ false rfl h98 h104
          refine steps_cons (fun a w hk hn => ?_) ?_
          · have h105 : a.eval (.tmp 105) = .bool false := hn.1
            clear hn
            refine wants_plain rfl ?_
            exact grown_move (.tmp 105) rfl h105
          refine steps_cons (fun a w hk hn => ?_) ?_
          · have h7 : a.eval (.tmp 7) = .pointer (some ⟨p, 0, none⟩) := hn.1
            have h106 : a.eval (.tmp 106) = .bool false := hn.2.1
            clear hn
            refine wants_guard (d := 106) rfl rfl h106 ?_
            exact grown_move (.tmp 7) rfl h7
          refine steps_cons (fun a w hk hn => ?_) ?_
          · have h107 : a.eval (.tmp 107) = .pointer (some ⟨p, 0, none⟩) := hn.1
            have h106 : a.eval (.tmp 106) = .bool false := hn.2.1
            clear hn
            refine wants_guard (d := 106) rfl rfl h106 ?_
            refine grown_call (f := 18) rfl Try.func18 (by kernel_rfl) (by kernel_rfl) ?_
            simp only [List.map_toArray, List.map_cons, List.map_nil, h107]
            refine (synced_any p _ _ _ w (unhide HD w hk)).mono ?_
            rintro e w' ⟨rfl, rfl⟩
            exact ⟨_, rfl, Kp.refl _ _, rfl⟩
          refine steps_cons (fun a w hk hn => ?_) ?_
          · have h108 : a.eval (.tmp 108) = .int .i64 0 := hn.1
            have h106 : a.eval (.tmp 106) = .bool false := hn.2.1
            clear hn
            refine wants_guard (d := 106) rfl rfl h106 ?_
            refine grown_run (v := .bool false) ?_ (Kp.refl _ _) rfl
            obtain ⟨ρ, hρ, hc, hf, hg⟩ := eval_is a
            rw [hρ] at h108 ⊢
            simp [go_sem, hc, h108]
          refine steps_cons (fun a w hk hn => ?_) ?_
          · have h106 : a.eval (.tmp 106) = .bool false := hn.1
            have h109 : a.eval (.tmp 109) = .bool false := hn.2.1
            clear hn
            refine wants_plain rfl ?_
            exact grown_pick _ _ _ false rfl h106 h109
          exact trivial
        intro W1 hkW1
        rintro _ rfl
        rintro _ rfl
        rintro _ rfl
        rintro _ rfl
        rintro _ rfl
        rintro _ rfl
        rintro _ rfl
        rintro _ rfl
        rintro _ rfl
        intro v100 h100
        rintro _ rfl
        rintro _ rfl
        rintro _ rfl
        rintro _ rfl
        rintro _ rfl
        rintro _ rfl
        rintro _ rfl
        rintro _ rfl
        rintro _ rfl
        rintro _ rfl
        refine fin_nil ?_
        simp only [Act.put, List.set_cons_zero, List.set_cons_succ, List.setIfInBounds_toArray]
        go_wp2_with fail
        go_roundw
        case rel => exact ⟨k + 1, v6, by omega, by omega, by go_num, HN6.out.on ((kp_drew w6).trans hkW1)⟩
        case measure => simp [intOf]; omega
      · have h1d : (kd == 1) = false := by simp [h1]
        by_cases h2 : kd = 2
        · have h2d : (kd == 2) = true := by simp [h2]
          clear h1 h2
          have HA := hide (nw_sync HN5.out false (Dk.sync_down rfl) 13 rfl)
          obtain ⟨v6, hv6⟩ : ∃ v6, v6 = v5 := ⟨_, rfl⟩
          rw [← hv6] at HA
          clear hv6
          go_wp2_with (first
            | (go_at_call 15; refine HA.out.mono ?_; rintro e w6 ⟨rfl, N6, -⟩; clear HA; have HN6 := hide N6; clear N6))
          have HD : Hid (∀ w', Kp [] w6.drew w' → DskP w' w.heap.size p v6 ⟨C, 0, 1000, 0, true⟩) := fun w' k' => HN6.out.dk.keptN ((kp_drew w6).trans k')
          have HZZ : Hid (∀ w', Kp [] w6.drew w' → Sl w' (.slice a0 m c0) C) := fun w' k' => HZ.out w' (HN6.out.kp.trans ((kp_drew w6).trans k'))
          refine region_grow Try.mixed [Is (.bool true), Is (.bool false), Is (.bool false), Is (.pointer (some ⟨p, 0, none⟩)), Is (.bool true), Is (.bool false), Is (.bool false), Is (.bool false), Is (.pointer (some ⟨p, 0, none⟩)), SlT (C), Is (.string T), Is (.slice a0 m c0), Is (.string T), Is (.bool false), Is (.bool false), Is (.bool false), Is (.pointer (some ⟨p, 0, none⟩)), Is (.int .i64 0), Is (.bool false), Is (.bool false)] [[(10, none)], [(91, some 0)], [(92, some 1)], [(7, none), (93, some 2)], [(94, some 3), (93, some 2)], [(95, some 4), (93, some 2)], [(93, some 2), (96, some 5)], [(97, some 6)], [(7, none), (98, some 7)], [(99, some 8), (98, some 7)], [(100, some 9), (98, some 7)], [(0, none), (98, some 7)], [(102, some 11), (98, some 7)], [(101, some 10), (103, some 12), (98, some 7)], [(98, some 7), (104, some 13)], [(105, some 14)], [(7, none), (106, some 15)], [(107, some 16), (106, some 15)], [(108, some 17), (106, some 15)], [(106, some 15), (109, some 18)]] (by kernel_rfl) ?_ ?_ ?_
          · simp only [List.mem_cons, List.not_mem_nil, or_false]
            intro R hR
            rcases hR with rfl | rfl | rfl | rfl | rfl | rfl | rfl | rfl | rfl | rfl | rfl | rfl | rfl | rfl | rfl | rfl | rfl | rfl | rfl | rfl <;> first | exact stable_is _ | exact stable_sl _
          · refine steps_cons (fun a w hk hn => ?_) ?_
            · have h10 : a.eval (.tmp 10) = .bool true := hn.1
              clear hn
              refine wants_plain rfl ?_
              exact grown_move (.tmp 10) rfl h10
            refine steps_cons (fun a w hk hn => ?_) ?_
            · have h91 : a.eval (.tmp 91) = .bool true := hn.1
              clear hn
              refine wants_plain rfl ?_
              refine grown_run (v := .bool false) ?_ (Kp.refl _ _) rfl
              obtain ⟨ρ, hρ, hc, hf, hg⟩ := eval_is a
              rw [hρ] at h91 ⊢
              simp [go_sem, h91]
            refine steps_cons (fun a w hk hn => ?_) ?_
            · have h92 : a.eval (.tmp 92) = .bool false := hn.1
              clear hn
              refine wants_plain rfl ?_
              exact grown_move (.tmp 92) rfl h92
            refine steps_cons (fun a w hk hn => ?_) ?_
            · have h7 : a.eval (.tmp 7) = .pointer (some ⟨p, 0, none⟩) := hn.1
              have h93 : a.eval (.tmp 93) = .bool false := hn.2.1
              clear hn
              refine wants_guard (d := 93) rfl rfl h93 ?_
              exact grown_move (.tmp 7) rfl h7
            refine steps_cons (fun a w hk hn => ?_) ?_
            · have h94 : a.eval (.tmp 94) = .pointer (some ⟨p, 0, none⟩) := hn.1
              have h93 : a.eval (.tmp 93) = .bool false := hn.2.1
              clear hn
              refine wants_guard (d := 93) rfl rfl h93 ?_
              refine grown_call (f := 21) rfl Try.func21 (by kernel_rfl) (by kernel_rfl) ?_
              simp only [List.map_toArray, List.map_cons, List.map_nil, h94]
              refine (down_any p _ _ _ w (unhide HD w hk)).mono ?_
              rintro e w' ⟨rfl, rfl⟩
              exact ⟨_, rfl, Kp.refl _ _, rfl⟩
            refine steps_cons (fun a w hk hn => ?_) ?_
            · have h95 : a.eval (.tmp 95) = .bool true := hn.1
              have h93 : a.eval (.tmp 93) = .bool false := hn.2.1
              clear hn
              refine wants_guard (d := 93) rfl rfl h93 ?_
              refine grown_run (v := .bool false) ?_ (Kp.refl _ _) rfl
              obtain ⟨ρ, hρ, hc, hf, hg⟩ := eval_is a
              rw [hρ] at h95 ⊢
              simp [go_sem, h95]
            refine steps_cons (fun a w hk hn => ?_) ?_
            · have h93 : a.eval (.tmp 93) = .bool false := hn.1
              have h96 : a.eval (.tmp 96) = .bool false := hn.2.1
              clear hn
              refine wants_plain rfl ?_
              exact grown_pick _ _ _ false rfl h93 h96
            refine steps_cons (fun a w hk hn => ?_) ?_
            · have h97 : a.eval (.tmp 97) = .bool false := hn.1
              clear hn
              refine wants_plain rfl ?_
              exact grown_move (.tmp 97) rfl h97
            refine steps_cons (fun a w hk hn => ?_) ?_
            · have h7 : a.eval (.tmp 7) = .pointer (some ⟨p, 0, none⟩) := hn.1
              have h98 : a.eval (.tmp 98) = .bool false := hn.2.1
              clear hn
              refine wants_guard (d := 98) rfl rfl h98 ?_
              exact grown_move (.tmp 7) rfl h7
            refine steps_cons (fun a w hk hn => ?_) ?_
            · have h99 : a.eval (.tmp 99) = .pointer (some ⟨p, 0, none⟩) := hn.1
              have h98 : a.eval (.tmp 98) = .bool false := hn.2.1
              clear hn
              refine wants_guard (d := 98) rfl rfl h98 ?_
              refine grown_call (f := 17) rfl Try.func17 (by kernel_rfl) (by kernel_rfl) ?_
              simp only [List.map_toArray, List.map_cons, List.map_nil, h99]
              refine (dbytes_any p _ _ _ w (unhide HD w hk)).mono ?_
              rintro e w' ⟨ao, m, c, rfl, R, K⟩
              exact ⟨_, rfl, K, R.sl⟩
            refine steps_cons (fun a w hk hn => ?_) ?_
            · have h100 : Sl w (a.eval (.tmp 100)) (C) := hn.1
              have h98 : a.eval (.tmp 98) = .bool false := hn.2.1
              clear hn
              refine wants_guard (d := 98) rfl rfl h98 ?_
              exact grown_conv (.tmp 100) _ _ 5 _ rfl h100 Try.underlying28 Try.underlying5 Try.underlying9 (congrArg Value.string (unhide HT).symm)
            refine steps_cons (fun a w hk hn => ?_) ?_
            · have h0 : a.eval (.tmp 0) = .slice a0 m c0 := hn.1
              have h98 : a.eval (.tmp 98) = .bool false := hn.2.1
              clear hn
              refine wants_guard (d := 98) rfl rfl h98 ?_
              exact grown_move (.tmp 0) rfl h0
            refine steps_cons (fun a w hk hn => ?_) ?_
            · have h102 : a.eval (.tmp 102) = .slice a0 m c0 := hn.1
              have h98 : a.eval (.tmp 98) = .bool false := hn.2.1
              clear hn
              refine wants_guard (d := 98) rfl rfl h98 ?_
              exact grown_conv (.tmp 102) _ _ 5 (C) rfl (by rw [h102]; exact unhide HZZ w hk) Try.underlying28 Try.underlying5 Try.underlying9 (congrArg Value.string (unhide HT).symm)
            refine steps_cons (fun a w hk hn => ?_) ?_
            · have h101 : a.eval (.tmp 101) = .string T := hn.1
              have h103 : a.eval (.tmp 103) = .string T := hn.2.1
              have h98 : a.eval (.tmp 98) = .bool false := hn.2.2.1
              clear hn
              refine wants_guard (d := 98) rfl rfl h98 ?_
              refine grown_run (v := .bool false) ?_ (Kp.refl _ _) rfl
              obtain ⟨ρ, hρ, hc, hf, hg⟩ := eval_is a
              rw [hρ] at h101 h103 ⊢
              simp [go_sem, h101, h103]
            refine steps_cons (fun a w hk hn => ?_) ?_
            · have h98 : a.eval (.tmp 98) = .bool false := hn.1
              have h104 : a.eval (.tmp 104) = .bool false := hn.2.1
              clear hn
              refine wants_plain rfl ?_
              exact grown_pick _ _ _ false rfl h98 h104
            refine steps_cons (fun a w hk hn => ?_) ?_
            · have h105 : a.eval (.tmp 105) = .bool false := hn.1
              clear hn
              refine wants_plain rfl ?_
              exact grown_move (.tmp 105) rfl h105
            refine steps_cons (fun a w hk hn => ?_) ?_
            · have h7 : a.eval (.tmp 7) = .pointer (some ⟨p, 0, none⟩) := hn.1
              have h106 : a.eval (.tmp 106) = .bool false := hn.2.1
              clear hn
              refine wants_guard (d := 106) rfl rfl h106 ?_
              exact grown_move (.tmp 7) rfl h7
            refine steps_cons (fun a w hk hn => ?_) ?_
            · have h107 : a.eval (.tmp 107) = .pointer (some ⟨p, 0, none⟩) := hn.1
              have h106 : a.eval (.tmp 106) = .bool false := hn.2.1
              clear hn
              refine wants_guard (d := 106) rfl rfl h106 ?_
              refine grown_call (f := 18) rfl Try.func18 (by kernel_rfl) (by kernel_rfl) ?_
              simp only [List.map_toArray, List.map_cons, List.map_nil, h107]
              refine (synced_any p _ _ _ w (unhide HD w hk)).mono ?_
              rintro e w' ⟨rfl, rfl⟩
              exact ⟨_, rfl, Kp.refl _ _, rfl⟩
            refine steps_cons (fun a w hk hn => ?_) ?_
            · have h108 : a.eval (.tmp 108) = .int .i64 0 := hn.1
              have h106 : a.eval (.tmp 106) = .bool false := hn.2.1
              clear hn
              refine wants_guard (d := 106) rfl rfl h106 ?_
              refine grown_run (v := .bool false) ?_ (Kp.refl _ _) rfl
              obtain ⟨ρ, hρ, hc, hf, hg⟩ := eval_is a
              rw [hρ] at h108 ⊢
              simp [go_sem, hc, h108]
            refine steps_cons (fun a w hk hn => ?_) ?_
            · have h106 : a.eval (.tmp 106) = .bool false := hn.1
              have h109 : a.eval (.tmp 109) = .bool false := hn.2.1
              clear hn
              refine wants_plain rfl ?_
              exact grown_pick _ _ _ false rfl h106 h109
            exact trivial
          intro W1 hkW1
          rintro _ rfl
          rintro _ rfl
          rintro _ rfl
          rintro _ rfl
          rintro _ rfl
          rintro _ rfl
          rintro _ rfl
          rintro _ rfl
          rintro _ rfl
          intro v100 h100
          rintro _ rfl
          rintro _ rfl
          rintro _ rfl
          rintro _ rfl
          rintro _ rfl
          rintro _ rfl
          rintro _ rfl
          rintro _ rfl
          rintro _ rfl
          rintro _ rfl
          refine fin_nil ?_
          simp only [Act.put, List.set_cons_zero, List.set_cons_succ, List.setIfInBounds_toArray]
          go_wp2_with fail
          go_roundw
          case rel => exact ⟨k + 1, v6, by omega, by omega, by go_num, HN6.out.on ((kp_drew w6).trans hkW1)⟩
          case measure => simp [intOf]; omega
        · have h2d : (kd == 2) = false := by simp [h2]
          by_cases h3 : kd = 3
          · have h3d : (kd == 3) = true := by simp [h3]
            clear h1 h2 h3
            have HA := hide (nw_cut HN5.out nn 13 (Dk.cut_down rfl nn))
            go_wp2_with (first
              | (go_at_call 22; refine HA.out.mono ?_; rintro e w6 ⟨rfl, v6, N6, -⟩; clear HA; have HN6 := hide N6; clear N6))
            have HD : Hid (∀ w', Kp [] w6.drew w' → DskP w' w.heap.size p v6 ⟨C, 0, 1000, 0, true⟩) := fun w' k' => HN6.out.dk.keptN ((kp_drew w6).trans k')
            have HZZ : Hid (∀ w', Kp [] w6.drew w' → Sl w' (.slice a0 m c0) C) := fun w' k' => HZ.out w' (HN6.out.kp.trans ((kp_drew w6).trans k'))
            refine region_grow Try.mixed [Is (.bool true), Is (.bool false), Is (.bool false), Is (.pointer (some ⟨p, 0, none⟩)), Is (.bool true), Is (.bool false), Is (.bool false), Is (.bool false), Is (.pointer (some ⟨p, 0, none⟩)), SlT (C), Is (.string T), Is (.slice a0 m c0), Is (.string T), Is (.bool false), Is (.bool false), Is (.bool false), Is (.pointer (some ⟨p, 0, none⟩)), Is (.int .i64 0), Is (.bool false), Is (.bool false)] [[(10, none)], [(91, some 0)], [(92, some 1)], [(7, none), (93, some 2)], [(94, some 3), (93, some 2)], [(95, some 4), (93, some 2)], [(93, some 2), (96, some 5)], [(97, some 6)], [(7, none), (98, some 7)], [(99, some 8), (98, some 7)], [(100, some 9), (98, some 7)], [(0, none), (98, some 7)], [(102, some 11), (98, some 7)], [(101, some 10), (103, some 12), (98, some 7)], [(98, some 7), (104, some 13)], [(105, some 14)], [(7, none), (106, some 15)], [(107, some 16), (106, some 15)], [(108, some 17), (106, some 15)], [(106, some 15), (109, some 18)]] (by kernel_rfl) ?_ ?_ ?_
            · simp only [List.mem_cons, List.not_mem_nil, or_false]
              intro R hR
              rcases hR with rfl | rfl | rfl | rfl | rfl | rfl | rfl | rfl | rfl | rfl | rfl | rfl | rfl | rfl | rfl | rfl | rfl | rfl | rfl | rfl <;> first | exact stable_is _ | exact stable_sl _
            · refine steps_cons (fun a w hk hn => ?_) ?_
              · have h10 : a.eval (.tmp 10) = .bool true := hn.1
                clear hn
                refine wants_plain rfl ?_
                exact grown_move (.tmp 10) rfl h10
              refine steps_cons (fun a w hk hn => ?_) ?_
              · have h91 : a.eval (.tmp 91) = .bool true := hn.1
                clear hn
                refine wants_plain rfl ?_
                refine grown_run (v := .bool false) ?_ (Kp.refl _ _) rfl
                obtain ⟨ρ, hρ, hc, hf, hg⟩ := eval_is a
                rw [hρ] at h91 ⊢
                simp [go_sem, h91]
              refine steps_cons (fun a w hk hn => ?_) ?_
              · have h92 : a.eval (.tmp 92) = .bool false := hn.1
                clear hn
                refine wants_plain rfl ?_
                exact grown_move (.tmp 92) rfl h92
              refine steps_cons (fun a w hk hn => ?_) ?_
              · have h7 : a.eval (.tmp 7) = .pointer (some ⟨p, 0, none⟩) := hn.1
                have h93 : a.eval (.tmp 93) = .bool false := hn.2.1
                clear hn
                refine wants_guard (d := 93) rfl rfl h93 ?_
                exact grown_move (.tmp 7) rfl h7
              refine steps_cons (fun a w hk hn => ?_) ?_
              · have h94 : a.eval (.tmp 94) = .pointer (some ⟨p, 0, none⟩) := hn.1
                have h93 : a.eval (.tmp 93) = .bool false := hn.2.1
                clear hn
                refine wants_guard (d := 93) rfl rfl h93 ?_
                refine grown_call (f := 21) rfl Try.func21 (by kernel_rfl) (by kernel_rfl) ?_
                simp only [List.map_toArray, List.map_cons, List.map_nil, h94]
                refine (down_any p _ _ _ w (unhide HD w hk)).mono ?_
                rintro e w' ⟨rfl, rfl⟩
                exact ⟨_, rfl, Kp.refl _ _, rfl⟩
              refine steps_cons (fun a w hk hn => ?_) ?_
              · have h95 : a.eval (.tmp 95) = .bool true := hn.1
                have h93 : a.eval (.tmp 93) = .bool false := hn.2.1
                clear hn
                refine wants_guard (d := 93) rfl rfl h93 ?_
                refine grown_run (v := .bool false) ?_ (Kp.refl _ _) rfl
                obtain ⟨ρ, hρ, hc, hf, hg⟩ := eval_is a
                rw [hρ] at h95 ⊢
                simp [go_sem, h95]
              refine steps_cons (fun a w hk hn => ?_) ?_
              · have h93 : a.eval (.tmp 93) = .bool false := hn.1
                have h96 : a.eval (.tmp 96) = .bool false := hn.2.1
                clear hn
                refine wants_plain rfl ?_
                exact grown_pick _ _ _ false rfl h93 h96
              refine steps_cons (fun a w hk hn => ?_) ?_
              · have h97 : a.eval (.tmp 97) = .bool false := hn.1
                clear hn
                refine wants_plain rfl ?_
                exact grown_move (.tmp 97) rfl h97
              refine steps_cons (fun a w hk hn => ?_) ?_
              · have h7 : a.eval (.tmp 7) = .pointer (some ⟨p, 0, none⟩) := hn.1
                have h98 : a.eval (.tmp 98) = .bool false := hn.2.1
                clear hn
                refine wants_guard (d := 98) rfl rfl h98 ?_
                exact grown_move (.tmp 7) rfl h7
              refine steps_cons (fun a w hk hn => ?_) ?_
              · have h99 : a.eval (.tmp 99) = .pointer (some ⟨p, 0, none⟩) := hn.1
                have h98 : a.eval (.tmp 98) = .bool false := hn.2.1
                clear hn
                refine wants_guard (d := 98) rfl rfl h98 ?_
                refine grown_call (f := 17) rfl Try.func17 (by kernel_rfl) (by kernel_rfl) ?_
                simp only [List.map_toArray, List.map_cons, List.map_nil, h99]
                refine (dbytes_any p _ _ _ w (unhide HD w hk)).mono ?_
                rintro e w' ⟨ao, m, c, rfl, R, K⟩
                exact ⟨_, rfl, K, R.sl⟩
              refine steps_cons (fun a w hk hn => ?_) ?_
              · have h100 : Sl w (a.eval (.tmp 100)) (C) := hn.1
                have h98 : a.eval (.tmp 98) = .bool false := hn.2.1
                clear hn
                refine wants_guard (d := 98) rfl rfl h98 ?_
                exact grown_conv (.tmp 100) _ _ 5 _ rfl h100 Try.underlying28 Try.underlying5 Try.underlying9 (congrArg Value.string (unhide HT).symm)
              refine steps_cons (fun a w hk hn => ?_) ?_
              · have h0 : a.eval (.tmp 0) = .slice a0 m c0 := hn.1
                have h98 : a.eval (.tmp 98) = .bool false := hn.2.1
                clear hn
                refine wants_guard (d := 98) rfl rfl h98 ?_
                exact grown_move (.tmp 0) rfl h0
              refine steps_cons (fun a w hk hn => ?_) ?_
              · have h102 : a.eval (.tmp 102) = .slice a0 m c0 := hn.1
                have h98 : a.eval (.tmp 98) = .bool false := hn.2.1
                clear hn
                refine wants_guard (d := 98) rfl rfl h98 ?_
                exact grown_conv (.tmp 102) _ _ 5 (C) rfl (by rw [h102]; exact unhide HZZ w hk) Try.underlying28 Try.underlying5 Try.underlying9 (congrArg Value.string (unhide HT).symm)
              refine steps_cons (fun a w hk hn => ?_) ?_
              · have h101 : a.eval (.tmp 101) = .string T := hn.1
                have h103 : a.eval (.tmp 103) = .string T := hn.2.1
                have h98 : a.eval (.tmp 98) = .bool false := hn.2.2.1
                clear hn
                refine wants_guard (d := 98) rfl rfl h98 ?_
                refine grown_run (v := .bool false) ?_ (Kp.refl _ _) rfl
                obtain ⟨ρ, hρ, hc, hf, hg⟩ := eval_is a
                rw [hρ] at h101 h103 ⊢
                simp [go_sem, h101, h103]
              refine steps_cons (fun a w hk hn => ?_) ?_
              · have h98 : a.eval (.tmp 98) = .bool false := hn.1
                have h104 : a.eval (.tmp 104) = .bool false := hn.2.1
                clear hn
                refine wants_plain rfl ?_
                exact grown_pick _ _ _ false rfl h98 h104
              refine steps_cons (fun a w hk hn => ?_) ?_
              · have h105 : a.eval (.tmp 105) = .bool false := hn.1
                clear hn
                refine wants_plain rfl ?_
                exact grown_move (.tmp 105) rfl h105
              refine steps_cons (fun a w hk hn => ?_) ?_
              · have h7 : a.eval (.tmp 7) = .pointer (some ⟨p, 0, none⟩) := hn.1
                have h106 : a.eval (.tmp 106) = .bool false := hn.2.1
                clear hn
                refine wants_guard (d := 106) rfl rfl h106 ?_
                exact grown_move (.tmp 7) rfl h7
              refine steps_cons (fun a w hk hn => ?_) ?_
              · have h107 : a.eval (.tmp 107) = .pointer (some ⟨p, 0, none⟩) := hn.1
                have h106 : a.eval (.tmp 106) = .bool false := hn.2.1
                clear hn
                refine wants_guard (d := 106) rfl rfl h106 ?_
                refine grown_call (f := 18) rfl Try.func18 (by kernel_rfl) (by kernel_rfl) ?_
                simp only [List.map_toArray, List.map_cons, List.map_nil, h107]
                refine (synced_any p _ _ _ w (unhide HD w hk)).mono ?_
                rintro e w' ⟨rfl, rfl⟩
                exact ⟨_, rfl, Kp.refl _ _, rfl⟩
              refine steps_cons (fun a w hk hn => ?_) ?_
              · have h108 : a.eval (.tmp 108) = .int .i64 0 := hn.1
                have h106 : a.eval (.tmp 106) = .bool false := hn.2.1
                clear hn
                refine wants_guard (d := 106) rfl rfl h106 ?_
                refine grown_run (v := .bool false) ?_ (Kp.refl _ _) rfl
                obtain ⟨ρ, hρ, hc, hf, hg⟩ := eval_is a
                rw [hρ] at h108 ⊢
                simp [go_sem, hc, h108]
              refine steps_cons (fun a w hk hn => ?_) ?_
              · have h106 : a.eval (.tmp 106) = .bool false := hn.1
                have h109 : a.eval (.tmp 109) = .bool false := hn.2.1
                clear hn
                refine wants_plain rfl ?_
                exact grown_pick _ _ _ false rfl h106 h109
              exact trivial
            intro W1 hkW1
            rintro _ rfl
            rintro _ rfl
            rintro _ rfl
            rintro _ rfl
            rintro _ rfl
            rintro _ rfl
            rintro _ rfl
            rintro _ rfl
            rintro _ rfl
            intro v100 h100
            rintro _ rfl
            rintro _ rfl
            rintro _ rfl
            rintro _ rfl
            rintro _ rfl
            rintro _ rfl
            rintro _ rfl
            rintro _ rfl
            rintro _ rfl
            rintro _ rfl
            refine fin_nil ?_
            simp only [Act.put, List.set_cons_zero, List.set_cons_succ, List.setIfInBounds_toArray]
            go_wp2_with fail
            go_roundw
            case rel => exact ⟨k + 1, v6, by omega, by omega, by go_num, HN6.out.on ((kp_drew w6).trans hkW1)⟩
            case measure => simp [intOf]; omega
          · have h3d : (kd == 3) = false := by simp [h3]
            clear h1 h2 h3
            have HA := hide (nw_arm HN5.out nn hb1 (Dk.armed_down rfl _))
            obtain ⟨v6, hv6⟩ : ∃ v6, v6 = v5 := ⟨_, rfl⟩
            rw [← hv6] at HA
            clear hv6
            go_wp2_with (first
              | (go_at_call 20; refine HA.out.mono ?_; rintro e w6 ⟨rfl, N6, -⟩; clear HA; have HN6 := hide N6; clear N6))
            have HD : Hid (∀ w', Kp [] w6.drew w' → DskP w' w.heap.size p v6 ⟨C, 0, 1000, 0, true⟩) := fun w' k' => HN6.out.dk.keptN ((kp_drew w6).trans k')
            have HZZ : Hid (∀ w', Kp [] w6.drew w' → Sl w' (.slice a0 m c0) C) := fun w' k' => HZ.out w' (HN6.out.kp.trans ((kp_drew w6).trans k'))
            refine region_grow Try.mixed [Is (.bool true), Is (.bool false), Is (.bool false), Is (.pointer (some ⟨p, 0, none⟩)), Is (.bool true), Is (.bool false), Is (.bool false), Is (.bool false), Is (.pointer (some ⟨p, 0, none⟩)), SlT (C), Is (.string T), Is (.slice a0 m c0), Is (.string T), Is (.bool false), Is (.bool false), Is (.bool false), Is (.pointer (some ⟨p, 0, none⟩)), Is (.int .i64 0), Is (.bool false), Is (.bool false)] [[(10, none)], [(91, some 0)], [(92, some 1)], [(7, none), (93, some 2)], [(94, some 3), (93, some 2)], [(95, some 4), (93, some 2)], [(93, some 2), (96, some 5)], [(97, some 6)], [(7, none), (98, some 7)], [(99, some 8), (98, some 7)], [(100, some 9), (98, some 7)], [(0, none), (98, some 7)], [(102, some 11), (98, some 7)], [(101, some 10), (103, some 12), (98, some 7)], [(98, some 7), (104, some 13)], [(105, some 14)], [(7, none), (106, some 15)], [(107, some 16), (106, some 15)], [(108, some 17), (106, some 15)], [(106, some 15), (109, some 18)]] (by kernel_rfl) ?_ ?_ ?_
            · simp only [List.mem_cons, List.not_mem_nil, or_false]
              intro R hR
              rcases hR with rfl | rfl | rfl | rfl | rfl | rfl | rfl | rfl | rfl | rfl | rfl | rfl | rfl | rfl | rfl | rfl | rfl | rfl | rfl | rfl <;> first | exact stable_is _ | exact stable_sl _
            · refine steps_cons (fun a w hk hn => ?_) ?_
              · have h10 : a.eval (.tmp 10) = .bool true := hn.1
                clear hn
                refine wants_plain rfl ?_
                exact grown_move (.tmp 10) rfl h10
              refine steps_cons (fun a w hk hn => ?_) ?_
              · have h91 : a.eval (.tmp 91) = .bool true := hn.1
                clear hn
                refine wants_plain rfl ?_
                refine grown_run (v := .bool false) ?_ (Kp.refl _ _) rfl
                obtain ⟨ρ, hρ, hc, hf, hg⟩ := eval_is a
                rw [hρ] at h91 ⊢
                simp [go_sem, h91]
              refine steps_cons (fun a w hk hn => ?_) ?_
              · have h92 : a.eval (.tmp 92) = .bool false := hn.1
                clear hn
                refine wants_plain rfl ?_
                exact grown_move (.tmp 92) rfl h92
              refine steps_cons (fun a w hk hn => ?_) ?_
              · have h7 : a.eval (.tmp 7) = .pointer (some ⟨p, 0, none⟩) := hn.1
                have h93 : a.eval (.tmp 93) = .bool false := hn.2.1
                clear hn
                refine wants_guard (d := 93) rfl rfl h93 ?_
                exact grown_move (.tmp 7) rfl h7
              refine steps_cons (fun a w hk hn => ?_) ?_
              · have h94 : a.eval (.tmp 94) = .pointer (some ⟨p, 0, none⟩) := hn.1
                have h93 : a.eval (.tmp 93) = .bool false := hn.2.1
                clear hn
                refine wants_guard (d := 93) rfl rfl h93 ?_
                refine grown_call (f := 21) rfl Try.func21 (by kernel_rfl) (by kernel_rfl) ?_
                simp only [List.map_toArray, List.map_cons, List.map_nil, h94]
                refine (down_any p _ _ _ w (unhide HD w hk)).mono ?_
                rintro e w' ⟨rfl, rfl⟩
                exact ⟨_, rfl, Kp.refl _ _, rfl⟩
              refine steps_cons (fun a w hk hn => ?_) ?_
              · have h95 : a.eval (.tmp 95) = .bool true := hn.1
                have h93 : a.eval (.tmp 93) = .bool false := hn.2.1
                clear hn
                refine wants_guard (d := 93) rfl rfl h93 ?_
                refine grown_run (v := .bool false) ?_ (Kp.refl _ _) rfl
                obtain ⟨ρ, hρ, hc, hf, hg⟩ := eval_is a
                rw [hρ] at h95 ⊢
                simp [go_sem, h95]
              refine steps_cons (fun a w hk hn => ?_) ?_
              · have h93 : a.eval (.tmp 93) = .bool false := hn.1
                have h96 : a.eval (.tmp 96) = .bool false := hn.2.1
                clear hn
                refine wants_plain rfl ?_
                exact grown_pick _ _ _ false rfl h93 h96
              refine steps_cons (fun a w hk hn => ?_) ?_
              · have h97 : a.eval (.tmp 97) = .bool false := hn.1
                clear hn
                refine wants_plain rfl ?_
                exact grown_move (.tmp 97) rfl h97
              refine steps_cons (fun a w hk hn => ?_) ?_
              · have h7 : a.eval (.tmp 7) = .pointer (some ⟨p, 0, none⟩) := hn.1
                have h98 : a.eval (.tmp 98) = .bool false := hn.2.1
                clear hn
                refine wants_guard (d := 98) rfl rfl h98 ?_
                exact grown_move (.tmp 7) rfl h7
              refine steps_cons (fun a w hk hn => ?_) ?_
              · have h99 : a.eval (.tmp 99) = .pointer (some ⟨p, 0, none⟩) := hn.1
                have h98 : a.eval (.tmp 98) = .bool false := hn.2.1
                clear hn
                refine wants_guard (d := 98) rfl rfl h98 ?_
                refine grown_call (f := 17) rfl Try.func17 (by kernel_rfl) (by kernel_rfl) ?_
                simp only [List.map_toArray, List.map_cons, List.map_nil, h99]
                refine (dbytes_any p _ _ _ w (unhide HD w hk)).mono ?_
                rintro e w' ⟨ao, m, c, rfl, R, K⟩
                exact ⟨_, rfl, K, R.sl⟩
              refine steps_cons (fun a w hk hn => ?_) ?_
              · have h100 : Sl w (a.eval (.tmp 100)) (C) := hn.1
                have h98 : a.eval (.tmp 98) = .bool false := hn.2.1
                clear hn
                refine wants_guard (d := 98) rfl rfl h98 ?_
                exact grown_conv (.tmp 100) _ _ 5 _ rfl h100 Try.underlying28 Try.underlying5 Try.underlying9 (congrArg Value.string (unhide HT).symm)
              refine steps_cons (fun a w hk hn => ?_) ?_
              · have h0 : a.eval (.tmp 0) = .slice a0 m c0 := hn.1
                have h98 : a.eval (.tmp 98) = .bool false := hn.2.1
                clear hn
                refine wants_guard (d := 98) rfl rfl h98 ?_
                exact grown_move (.tmp 0) rfl h0
              refine steps_cons (fun a w hk hn => ?_) ?_
              · have h102 : a.eval (.tmp 102) = .slice a0 m c0 := hn.1
                have h98 : a.eval (.tmp 98) = .bool false := hn.2.1
                clear hn
                refine wants_guard (d := 98) rfl rfl h98 ?_
                exact grown_conv (.tmp 102) _ _ 5 (C) rfl (by rw [h102]; exact unhide HZZ w hk) Try.underlying28 Try.underlying5 Try.underlying9 (congrArg Value.string (unhide HT).symm)
              refine steps_cons (fun a w hk hn => ?_) ?_
              · have h101 : a.eval (.tmp 101) = .string T := hn.1
                have h103 : a.eval (.tmp 103) = .string T := hn.2.1
                have h98 : a.eval (.tmp 98) = .bool false := hn.2.2.1
                clear hn
                refine wants_guard (d := 98) rfl rfl h98 ?_
                refine grown_run (v := .bool false) ?_ (Kp.refl _ _) rfl
                obtain ⟨ρ, hρ, hc, hf, hg⟩ := eval_is a
                rw [hρ] at h101 h103 ⊢
                simp [go_sem, h101, h103]
              refine steps_cons (fun a w hk hn => ?_) ?_
              · have h98 : a.eval (.tmp 98) = .bool false := hn.1
                have h104 : a.eval (.tmp 104) = .bool false := hn.2.1
                clear hn
                refine wants_plain rfl ?_
                exact grown_pick _ _ _ false rfl h98 h104
              refine steps_cons (fun a w hk hn => ?_) ?_
              · have h105 : a.eval (.tmp 105) = .bool false := hn.1
                clear hn
                refine wants_plain rfl ?_
                exact grown_move (.tmp 105) rfl h105
              refine steps_cons (fun a w hk hn => ?_) ?_
              · have h7 : a.eval (.tmp 7) = .pointer (some ⟨p, 0, none⟩) := hn.1
                have h106 : a.eval (.tmp 106) = .bool false := hn.2.1
                clear hn
                refine wants_guard (d := 106) rfl rfl h106 ?_
                exact grown_move (.tmp 7) rfl h7
              refine steps_cons (fun a w hk hn => ?_) ?_
              · have h107 : a.eval (.tmp 107) = .pointer (some ⟨p, 0, none⟩) := hn.1
                have h106 : a.eval (.tmp 106) = .bool false := hn.2.1
                clear hn
                refine wants_guard (d := 106) rfl rfl h106 ?_
                refine grown_call (f := 18) rfl Try.func18 (by kernel_rfl) (by kernel_rfl) ?_
                simp only [List.map_toArray, List.map_cons, List.map_nil, h107]
                refine (synced_any p _ _ _ w (unhide HD w hk)).mono ?_
                rintro e w' ⟨rfl, rfl⟩
                exact ⟨_, rfl, Kp.refl _ _, rfl⟩
              refine steps_cons (fun a w hk hn => ?_) ?_
              · have h108 : a.eval (.tmp 108) = .int .i64 0 := hn.1
                have h106 : a.eval (.tmp 106) = .bool false := hn.2.1
                clear hn
                refine wants_guard (d := 106) rfl rfl h106 ?_
                refine grown_run (v := .bool false) ?_ (Kp.refl _ _) rfl
                obtain ⟨ρ, hρ, hc, hf, hg⟩ := eval_is a
                rw [hρ] at h108 ⊢
                simp [go_sem, hc, h108]
              refine steps_cons (fun a w hk hn => ?_) ?_
              · have h106 : a.eval (.tmp 106) = .bool false := hn.1
                have h109 : a.eval (.tmp 109) = .bool false := hn.2.1
                clear hn
                refine wants_plain rfl ?_
                exact grown_pick _ _ _ false rfl h106 h109
              exact trivial
            intro W1 hkW1
            rintro _ rfl
            rintro _ rfl
            rintro _ rfl
            rintro _ rfl
            rintro _ rfl
            rintro _ rfl
            rintro _ rfl
            rintro _ rfl
            rintro _ rfl
            intro v100 h100
            rintro _ rfl
            rintro _ rfl
            rintro _ rfl
            rintro _ rfl
            rintro _ rfl
            rintro _ rfl
            rintro _ rfl
            rintro _ rfl
            rintro _ rfl
            rintro _ rfl
            refine fin_nil ?_
            simp only [Act.put, List.set_cons_zero, List.set_cons_succ, List.setIfInBounds_toArray]
            go_wp2_with fail
            go_roundw
            case rel => exact ⟨k + 1, v6, by omega, by omega, by go_num, HN6.out.on ((kp_drew w6).trans hkW1)⟩
            case measure => simp [intOf]; omega
    · have hgo' : (¬ (k : Int) < (L : Int)) ∨ ((k : Int) < (L : Int) ∧ ¬ (k : Int) < 20) := by omega
      clear hgo
      rcases hgo' with hgo | ⟨hgo, hgo2⟩
      · go_wp2_with (first
          | (go_at_call 12; refine (HW.out _).mono ?_; rintro e w7 ⟨rfl, hw⟩; subst w7)
          | (go_at_call 16; refine (nw_crash HN5.out q HCR.out).mono ?_; rintro e w8 ⟨rfl, v8, N8, -⟩; have HN8 := hide N8; clear N8))
        have HZE := HZE0
        refine region_growL (K := KT) (G := GD w p ⟨E, q, 1000, 0, false⟩ ⟨E ++ [122], q, 1000, 0, false⟩ 17 5 6 123 15 16 133 134 E [122] true) Try.mixed [Is (.pointer (some ⟨p, 0, none⟩)), Is (.bool false), Is (.bool true), Is (.bool true), Is (.pointer (some ⟨p, 0, none⟩)), AnyT, Is (.string TE), Is (.slice a0 m c0), Is (.int .i64 q), Is (.slice a0 q c0), Is (.string TE), Is (.bool true), Is (.bool true), Is (.bool true), Is (.pointer (some ⟨p, 0, none⟩)), AnyT, AnyT, Is (.int .i64 0), Is (.bool true), Is (.bool true), Is (.bool true), Is (.pointer (some ⟨p, 0, none⟩)), Is (.int .i64 q1), Is (.int .i64 q), Is (.int .i64 q1), Is (.bool true), Is (.bool true), Is (.bool true), Is (.bool true), Is (.bool true), Is (.bool true)] [[(7, none)], [(118, some 0)], [(119, some 1)], [(120, some 2)], [(7, none), (121, some 3)], [(122, some 4), (121, some 3)], [(123, some 5), (121, some 3)], [(0, none), (121, some 3)], [(11, none), (121, some 3)], [(125, some 7), (126, some 8), (121, some 3)], [(127, some 9), (121, some 3)], [(124, some 6), (128, some 10), (121, some 3)], [(121, some 3), (129, some 11)], [(130, some 12)], [(7, none), (131, some 13)], [(131, some 13)], [(133, some 15), (131, some 13)], [(132, some 14), (134, some 16), (131, some 13)], [(135, some 17), (131, some 13)], [(131, some 13), (136, some 18)], [(137, some 19)], [(7, none), (138, some 20)], [(139, some 21), (138, some 20)], [(11, none), (138, some 20)], [(141, some 23), (138, some 20)], [(140, some 22), (142, some 24), (138, some 20)], [(138, some 20), (143, some 25)], [(144, some 26)], [(145, some 27)], [(145, some 27), (146, some 28)], [(147, some 29)]] (by kernel_rfl) ?_ ?_ ?_ ?_ ?_
        · intro k R hR hd w'
          have hk : k < 31 := by have := (List.getElem?_eq_some_iff.1 hR).1; simpa using this
          rcases (by omega : k = 0 ∨ k = 1 ∨ k = 2 ∨ k = 3 ∨ k = 4 ∨ k = 5 ∨ k = 6 ∨ k = 7 ∨ k = 8 ∨ k = 9 ∨ k = 10 ∨ k = 11 ∨ k = 12 ∨ k = 13 ∨ k = 14 ∨ k = 15 ∨ k = 16 ∨ k = 17 ∨ k = 18 ∨ k = 19 ∨ k = 20 ∨ k = 21 ∨ k = 22 ∨ k = 23 ∨ k = 24 ∨ k = 25 ∨ k = 26 ∨ k = 27 ∨ k = 28 ∨ k = 29 ∨ k = 30) with rfl | rfl | rfl | rfl | rfl | rfl | rfl | rfl | rfl | rfl | rfl | rfl | rfl | rfl | rfl | rfl | rfl | rfl | rfl | rfl | rfl | rfl | rfl | rfl | rfl | rfl | rfl | rfl | rfl | rfl | rfl <;> cases hd
        · simp only [List.mem_cons, List.not_mem_nil, or_false]
          intro R hR
          rcases hR with rfl | rfl | rfl | rfl | rfl | rfl | rfl | rfl | rfl | rfl | rfl | rfl | rfl | rfl | rfl | rfl | rfl | rfl | rfl | rfl | rfl | rfl | rfl | rfl | rfl | rfl | rfl | rfl | rfl | rfl | rfl <;> first | exact stableG_isM _ | exact stableK_any
        · exact GD.start (HN8.out.on (kp_drew w8)) (by simp)
        · refine steps_consL (fun listed a w hnot hdep hcl hsz hg hn => ?_) ?_
          · have h7 : a.eval (.tmp 7) = .pointer (some ⟨p, 0, none⟩) := hn.1
            clear hn
            have hk := hg.kp
            refine wantsG_of1M (fun _ _ => trivial) (fun v w' k => hg.free 0 (by decide) 118 (by decide) v k) ?_
            refine wants_plain rfl ?_
            exact grown_move (.tmp 7) rfl h7
          refine steps_consL (fun listed a w hnot hdep hcl hsz hg hn => ?_) ?_
          · have h118 : a.eval (.tmp 118) = .pointer (some ⟨p, 0, none⟩) := hn.1
            clear hn
            have hk := hg.kp
            refine wantsG_of1M (fun _ _ => trivial) (fun v w' k => hg.free 1 (by decide) 119 (by decide) v k) ?_
            refine wants_plain rfl ?_
            refine grown_call (f := 21) rfl Try.func21 (by kernel_rfl) (by kernel_rfl) ?_
            simp only [List.map_toArray, List.map_cons, List.map_nil, h118]
            refine (downAt_any p false w (by obtain ⟨v, N⟩ := hg.at0 (anc_not hcl 30 17 1 (by kernel_rfl) hnot); exact ⟨_, v, _, N.dk, rfl⟩)).mono ?_
            rintro e w' ⟨rfl, rfl⟩
            exact ⟨_, rfl, Kp.refl _ _, rfl⟩
          refine steps_consL (fun listed a w hnot hdep hcl hsz hg hn => ?_) ?_
          · have h119 : a.eval (.tmp 119) = .bool false := hn.1
            clear hn
            have hk := hg.kp
            refine wantsG_of1M (fun _ _ => trivial) (fun v w' k => hg.free 2 (by decide) 120 (by decide) v k) ?_
            refine wants_plain rfl ?_
            refine grown_run (v := .bool true) ?_ (Kp.refl _ _) rfl
            obtain ⟨ρ, hρ, hc, hf, hgg⟩ := eval_is a
            rw [hρ] at h119 ⊢
            simp [go_sem, h119]
          refine steps_consL (fun listed a w hnot hdep hcl hsz hg hn => ?_) ?_
          · have h120 : a.eval (.tmp 120) = .bool true := hn.1
            clear hn
            have hk := hg.kp
            refine wantsG_of1M (fun _ _ => trivial) (fun v w' k => hg.free 3 (by decide) 121 (by decide) v k) ?_
            refine wants_plain rfl ?_
            exact grown_move (.tmp 120) rfl h120
          refine steps_consL (fun listed a w hnot hdep hcl hsz hg hn => ?_) ?_
          · have h7 : a.eval (.tmp 7) = .pointer (some ⟨p, 0, none⟩) := hn.1
            have h121 : a.eval (.tmp 121) = .bool true := hn.2.1
            clear hn
            have hk := hg.kp
            refine wantsG_of1M (fun _ _ => trivial) (fun v w' k => hg.free 4 (by decide) 122 (by decide) v k) ?_
            refine wants_guard (d := 121) rfl rfl h121 ?_
            exact grown_move (.tmp 7) rfl h7
          refine steps_consL (fun listed a w hnot hdep hcl hsz hg hn => ?_) ?_
          · have h122 : a.eval (.tmp 122) = .pointer (some ⟨p, 0, none⟩) := hn.1
            have h121 : a.eval (.tmp 121) = .bool true := hn.2.1
            clear hn
            have hk := hg.kp
            exact hg.bytes _ (hg.at0 (anc_not hcl 30 17 5 (by kernel_rfl) hnot)) rfl (by decide) (by decide) (by rw [wanted_iff (d := 121) rfl rfl h121]; rfl) (.tmp 122) rfl rfl h122
          refine steps_consL (fun listed a w hnot hdep hcl hsz hg hn => ?_) ?_
          · have h123 : (AnyT) (a.eval (.tmp 123)) w := hn.1
            have h121 : a.eval (.tmp 121) = .bool true := hn.2.1
            clear hn
            have hk := hg.kp
            refine wantsG_of1M (fun _ _ => trivial) (fun v w' k => hg.free 6 (by decide) 124 (by decide) v k) ?_
            refine wants_guard (d := 121) rfl rfl h121 ?_
            exact grown_conv (.tmp 123) _ _ 5 (E) rfl (hg.cl (anc_listed hcl 30 6 5 rfl hdep (by kernel_rfl)) hnot) Try.underlying28 Try.underlying5 Try.underlying9 (congrArg Value.string (unhide HTE).symm)
          refine steps_consL (fun listed a w hnot hdep hcl hsz hg hn => ?_) ?_
          · have h0 : a.eval (.tmp 0) = .slice a0 m c0 := hn.1
            have h121 : a.eval (.tmp 121) = .bool true := hn.2.1
            clear hn
            have hk := hg.kp
            refine wantsG_of1M (fun _ _ => trivial) (fun v w' k => hg.free 7 (by decide) 125 (by decide) v k) ?_
            refine wants_guard (d := 121) rfl rfl h121 ?_
            exact grown_move (.tmp 0) rfl h0
          refine steps_consL (fun listed a w hnot hdep hcl hsz hg hn => ?_) ?_
          · have h11 : a.eval (.tmp 11) = .int .i64 q := hn.1
            have h121 : a.eval (.tmp 121) = .bool true := hn.2.1
            clear hn
            have hk := hg.kp
            refine wantsG_of1M (fun _ _ => trivial) (fun v w' k => hg.free 8 (by decide) 126 (by decide) v k) ?_
            refine wants_guard (d := 121) rfl rfl h121 ?_
            exact grown_move (.tmp 11) rfl h11
          refine steps_consL (fun listed a w hnot hdep hcl hsz hg hn => ?_) ?_
          · have h125 : a.eval (.tmp 125) = .slice a0 m c0 := hn.1
            have h126 : a.eval (.tmp 126) = .int .i64 q := hn.2.1
            have h121 : a.eval (.tmp 121) = .bool true := hn.2.2.1
            clear hn
            have hk := hg.kp
            refine wantsG_of1M (fun _ _ => trivial) (fun v w' k => hg.free 9 (by decide) 127 (by decide) v k) ?_
            refine wants_guard (d := 121) rfl rfl h121 ?_
            exact grown_bfirst (.tmp 125) (.tmp 126) rfl a0 m c0 q h125 h126 (by omega) hc3
          refine steps_consL (fun listed a w hnot hdep hcl hsz hg hn => ?_) ?_
          · have h127 : a.eval (.tmp 127) = .slice a0 q c0 := hn.1
            have h121 : a.eval (.tmp 121) = .bool true := hn.2.1
            clear hn
            have hk := hg.kp
            refine wantsG_of1M (fun _ _ => trivial) (fun v w' k => hg.free 10 (by decide) 128 (by decide) v k) ?_
            refine wants_guard (d := 121) rfl rfl h121 ?_
            exact grown_conv (.tmp 127) _ _ 5 (E) rfl (by rw [h127]; exact unhide HZE w hk) Try.underlying28 Try.underlying5 Try.underlying9 (congrArg Value.string (unhide HTE).symm)
          refine steps_consL (fun listed a w hnot hdep hcl hsz hg hn => ?_) ?_
          · have h124 : a.eval (.tmp 124) = .string TE := hn.1
            have h128 : a.eval (.tmp 128) = .string TE := hn.2.1
            have h121 : a.eval (.tmp 121) = .bool true := hn.2.2.1
            clear hn
            have hk := hg.kp
            refine wantsG_of1M (fun _ _ => trivial) (fun v w' k => hg.free 11 (by decide) 129 (by decide) v k) ?_
            refine wants_guard (d := 121) rfl rfl h121 ?_
            refine grown_run (v := .bool true) ?_ (Kp.refl _ _) rfl
            obtain ⟨ρ, hρ, hc, hf, hgg⟩ := eval_is a
            rw [hρ] at h124 h128 ⊢
            simp [go_sem, h124, h128]
          refine steps_consL (fun listed a w hnot hdep hcl hsz hg hn => ?_) ?_
          · have h121 : a.eval (.tmp 121) = .bool true := hn.1
            have h129 : a.eval (.tmp 129) = .bool true := hn.2.1
            clear hn
            have hk := hg.kp
            refine wantsG_of1M (fun _ _ => trivial) (fun v w' k => hg.free 12 (by decide) 130 (by decide) v k) ?_
            refine wants_plain rfl ?_
            exact grown_pick _ _ _ true rfl h121 h129
          refine steps_consL (fun listed a w hnot hdep hcl hsz hg hn => ?_) ?_
          · have h130 : a.eval (.tmp 130) = .bool true := hn.1
            clear hn
            have hk := hg.kp
            refine wantsG_of1M (fun _ _ => trivial) (fun v w' k => hg.free 13 (by decide) 131 (by decide) v k) ?_
            refine wants_plain rfl ?_
            exact grown_move (.tmp 130) rfl h130
          refine steps_consL (fun listed a w hnot hdep hcl hsz hg hn => ?_) ?_
          · have h7 : a.eval (.tmp 7) = .pointer (some ⟨p, 0, none⟩) := hn.1
            have h131 : a.eval (.tmp 131) = .bool true := hn.2.1
            clear hn
            have hk := hg.kp
            refine wantsG_of1M (fun _ _ => trivial) (fun v w' k => hg.free 14 (by decide) 132 (by decide) v k) ?_
            refine wants_guard (d := 131) rfl rfl h131 ?_
            exact grown_move (.tmp 7) rfl h7
          refine steps_consL (fun listed a w hnot hdep hcl hsz hg hn => ?_) ?_
          · have h131 : a.eval (.tmp 131) = .bool true := hn.1
            clear hn
            have hk := hg.kp
            refine hg.lit (by decide) (by decide) (by decide) (anc_not hcl 30 16 15 (by kernel_rfl) hnot) (by rw [wanted_iff (d := 131) rfl rfl h131]; rfl) rfl ?_
            obtain ⟨ρ, hρ, hc, hf, hgg⟩ := eval_is a
            rw [hρ]
            simp [go_sem, hc]
          refine steps_consL (fun listed a w hnot hdep hcl hsz hg hn => ?_) ?_
          · have h133 : (AnyT) (a.eval (.tmp 133)) w := hn.1
            have h131 : a.eval (.tmp 131) = .bool true := hn.2.1
            clear hn
            have hk := hg.kp
            exact hg.mark (by decide) (by decide) (anc_listed hcl 30 16 15 rfl hdep (by kernel_rfl)) hnot hsz rfl (by rw [wanted_iff (d := 131) rfl rfl h131]; rfl) rfl rfl
          refine steps_consL (fun listed a w hnot hdep hcl hsz hg hn => ?_) ?_
          · have h132 : a.eval (.tmp 132) = .pointer (some ⟨p, 0, none⟩) := hn.1
            have h134 : (AnyT) (a.eval (.tmp 134)) w := hn.2.1
            have h131 : a.eval (.tmp 131) = .bool true := hn.2.2.1
            clear hn
            have hk := hg.kp
            exact hg.append hnot hsz (fun _ => anc_listed hcl 30 17 6 rfl hdep (by kernel_rfl)) (fun _ _ => anc_listed hcl 30 17 16 rfl hdep (by kernel_rfl)) (by decide) (by rw [wanted_iff (d := 131) rfl rfl h131]; rfl) (.tmp 132) (.tmp 134) rfl 135 rfl (by decide) h132 (hg.lt rfl (anc_listed hcl 30 17 16 rfl hdep (by kernel_rfl)) hnot) (bs_lit2 _ (by decide)) true (unhide HAE) 0 rfl
          refine steps_consL (fun listed a w hnot hdep hcl hsz hg hn => ?_) ?_
          · have h135 : a.eval (.tmp 135) = .int .i64 0 := hn.1
            have h131 : a.eval (.tmp 131) = .bool true := hn.2.1
            clear hn
            have hk := hg.kp
            refine wantsG_of1M (fun _ _ => trivial) (fun v w' k => hg.free 18 (by decide) 136 (by decide) v k) ?_
            refine wants_guard (d := 131) rfl rfl h131 ?_
            refine grown_run (v := .bool true) ?_ (Kp.refl _ _) rfl
            obtain ⟨ρ, hρ, hc, hf, hgg⟩ := eval_is a
            rw [hρ] at h135 ⊢
            simp [go_sem, hc, h135]
          refine steps_consL (fun listed a w hnot hdep hcl hsz hg hn => ?_) ?_
          · have h131 : a.eval (.tmp 131) = .bool true := hn.1
            have h136 : a.eval (.tmp 136) = .bool true := hn.2.1
            clear hn
            have hk := hg.kp
            refine wantsG_of1M (fun _ _ => trivial) (fun v w' k => hg.free 19 (by decide) 137 (by decide) v k) ?_
            refine wants_plain rfl ?_
            exact grown_pick _ _ _ true rfl h131 h136
          refine steps_consL (fun listed a w hnot hdep hcl hsz hg hn => ?_) ?_
          · have h137 : a.eval (.tmp 137) = .bool true := hn.1
            clear hn
            have hk := hg.kp
            refine wantsG_of1M (fun _ _ => trivial) (fun v w' k => hg.free 20 (by decide) 138 (by decide) v k) ?_
            refine wants_plain rfl ?_
            exact grown_move (.tmp 137) rfl h137
          refine steps_consL (fun listed a w hnot hdep hcl hsz hg hn => ?_) ?_
          · have h7 : a.eval (.tmp 7) = .pointer (some ⟨p, 0, none⟩) := hn.1
            have h138 : a.eval (.tmp 138) = .bool true := hn.2.1
            clear hn
            have hk := hg.kp
            refine wantsG_of1M (fun _ _ => trivial) (fun v w' k => hg.free 21 (by decide) 139 (by decide) v k) ?_
            refine wants_guard (d := 138) rfl rfl h138 ?_
            exact grown_move (.tmp 7) rfl h7
          refine steps_consL (fun listed a w hnot hdep hcl hsz hg hn => ?_) ?_
          · have h139 : a.eval (.tmp 139) = .pointer (some ⟨p, 0, none⟩) := hn.1
            have h138 : a.eval (.tmp 138) = .bool true := hn.2.1
            clear hn
            have hk := hg.kp
            refine wantsG_of1M (fun _ _ => trivial) (fun v w' k => hg.free 22 (by decide) 140 (by decide) v k) ?_
            refine wants_guard (d := 138) rfl rfl h138 ?_
            refine grown_call (f := 23) rfl Try.func23 (by kernel_rfl) (by kernel_rfl) ?_
            simp only [List.map_toArray, List.map_cons, List.map_nil, h139]
            refine (sizeAt_any p q1 w (by obtain ⟨v, N⟩ := hg.at1 (anc_listed hcl 30 22 17 rfl hdep (by kernel_rfl)); exact ⟨_, v, _, N.dk, unhide HQ1⟩)).mono ?_
            rintro e w' ⟨rfl, rfl⟩
            exact ⟨_, rfl, Kp.refl _ _, rfl⟩
          refine steps_consL (fun listed a w hnot hdep hcl hsz hg hn => ?_) ?_
          · have h11 : a.eval (.tmp 11) = .int .i64 q := hn.1
            have h138 : a.eval (.tmp 138) = .bool true := hn.2.1
            clear hn
            have hk := hg.kp
            refine wantsG_of1M (fun _ _ => trivial) (fun v w' k => hg.free 23 (by decide) 141 (by decide) v k) ?_
            refine wants_guard (d := 138) rfl rfl h138 ?_
            exact grown_move (.tmp 11) rfl h11
          refine steps_consL (fun listed a w hnot hdep hcl hsz hg hn => ?_) ?_
          · have h141 : a.eval (.tmp 141) = .int .i64 q := hn.1
            have h138 : a.eval (.tmp 138) = .bool true := hn.2.1
            clear hn
            have hk := hg.kp
            refine wantsG_of1M (fun _ _ => trivial) (fun v w' k => hg.free 24 (by decide) 142 (by decide) v k) ?_
            refine wants_guard (d := 138) rfl rfl h138 ?_
            refine grown_run (v := .int .i64 q1) ?_ (Kp.refl _ _) rfl
            obtain ⟨ρ, hρ, hc, hf, hgg⟩ := eval_is a
            rw [hρ] at h141 ⊢
            simp [go_sem, hc, h141]
            exact wrap_at (by omega) (by omega) (by omega)
          refine steps_consL (fun listed a w hnot hdep hcl hsz hg hn => ?_) ?_
          · have h140 : a.eval (.tmp 140) = .int .i64 q1 := hn.1
            have h142 : a.eval (.tmp 142) = .int .i64 q1 := hn.2.1
            have h138 : a.eval (.tmp 138) = .bool true := hn.2.2.1
            clear hn
            have hk := hg.kp
            refine wantsG_of1M (fun _ _ => trivial) (fun v w' k => hg.free 25 (by decide) 143 (by decide) v k) ?_
            refine wants_guard (d := 138) rfl rfl h138 ?_
            refine grown_run (v := .bool true) ?_ (Kp.refl _ _) rfl
            obtain ⟨ρ, hρ, hc, hf, hgg⟩ := eval_is a
            rw [hρ] at h140 h142 ⊢
            simp [go_sem, h140, h142]
          refine steps_consL (fun listed a w hnot hdep hcl hsz hg hn => ?_) ?_
          · have h138 : a.eval (.tmp 138) = .bool true := hn.1
            have h143 : a.eval (.tmp 143) = .bool true := hn.2.1
            clear hn
            have hk := hg.kp
            refine wantsG_of1M (fun _ _ => trivial) (fun v w' k => hg.free 26 (by decide) 144 (by decide) v k) ?_
            refine wants_plain rfl ?_
            exact grown_pick _ _ _ true rfl h138 h143
          refine steps_consL (fun listed a w hnot hdep hcl hsz hg hn => ?_) ?_
          · have h144 : a.eval (.tmp 144) = .bool true := hn.1
            clear hn
            have hk := hg.kp
            refine wantsG_of1M (fun _ _ => trivial) (fun v w' k => hg.free 27 (by decide) 145 (by decide) v k) ?_
            refine wants_plain rfl ?_
            exact grown_move (.tmp 144) rfl h144
          refine steps_consL (fun listed a w hnot hdep hcl hsz hg hn => ?_) ?_
          · have h145 : a.eval (.tmp 145) = .bool true := hn.1
            clear hn
            have hk := hg.kp
            refine wantsG_of1M (fun _ _ => trivial) (fun v w' k => hg.free 28 (by decide) 146 (by decide) v k) ?_
            refine wants_guard (d := 145) rfl rfl h145 ?_
            refine grown_call (f := 11) rfl Try.func11 (by kernel_rfl) (by kernel_rfl) ?_
            simp only [List.map_toArray, List.map_nil]
            refine (dknown_any w).mono ?_
            rintro e w' ⟨rfl, K⟩
            exact ⟨_, rfl, K, rfl⟩
          refine steps_consL (fun listed a w hnot hdep hcl hsz hg hn => ?_) ?_
          · have h145 : a.eval (.tmp 145) = .bool true := hn.1
            have h146 : a.eval (.tmp 146) = .bool true := hn.2.1
            clear hn
            have hk := hg.kp
            refine wantsG_of1M (fun _ _ => trivial) (fun v w' k => hg.free 29 (by decide) 147 (by decide) v k) ?_
            refine wants_plain rfl ?_
            exact grown_pick _ _ _ true rfl h145 h146
          refine steps_consL (fun listed a w hnot hdep hcl hsz hg hn => ?_) ?_
          · have h147 : a.eval (.tmp 147) = .bool true := hn.1
            clear hn
            have hk := hg.kp
            refine wantsG_of1M (fun _ _ => trivial) (fun v w' k => hg.free 30 (by decide) 6 (by decide) v k) ?_
            refine wants_plain rfl ?_
            exact grown_assign (.tmp 147) rfl h147
          exact trivial
        intro W2
        rintro _ rfl
        rintro _ rfl
        rintro _ rfl
        rintro _ rfl
        rintro _ rfl
        intro v123 h123
        rintro _ rfl
        rintro _ rfl
        rintro _ rfl
        rintro _ rfl
        rintro _ rfl
        rintro _ rfl
        rintro _ rfl
        rintro _ rfl
        rintro _ rfl
        intro v133 h133
        intro v134 h134
        rintro _ rfl
        rintro _ rfl
        rintro _ rfl
        rintro _ rfl
        rintro _ rfl
        rintro _ rfl
        rintro _ rfl
        rintro _ rfl
        rintro _ rfl
        rintro _ rfl
        rintro _ rfl
        rintro _ rfl
        rintro _ rfl
        rintro _ rfl
        refine fin_nil ?_
        intro listed hall hg
        have hkW2 := hg.kp
        simp only [Act.put, List.set_cons_zero, List.set_cons_succ, List.setIfInBounds_toArray]
        clear hg hall
        go_wp2_with fail
        go_ret
        exact ⟨rfl, hkW2.below (Nat.le_refl _) (by simp)⟩
      · go_wp2_with (first
          | (go_at_call 12; refine (HW.out _).mono ?_; rintro e w7 ⟨rfl, hw⟩; subst w7)
          | (go_at_call 16; refine (nw_crash HN5.out q HCR.out).mono ?_; rintro e w8 ⟨rfl, v8, N8, -⟩; have HN8 := hide N8; clear N8))
        have HZE := HZE0
        refine region_growL (K := KT) (G := GD w p ⟨E, q, 1000, 0, false⟩ ⟨E ++ [122], q, 1000, 0, false⟩ 17 5 6 123 15 16 133 134 E [122] true) Try.mixed [Is (.pointer (some ⟨p, 0, none⟩)), Is (.bool false), Is (.bool true), Is (.bool true), Is (.pointer (some ⟨p, 0, none⟩)), AnyT, Is (.string TE), Is (.slice a0 m c0), Is (.int .i64 q), Is (.slice a0 q c0), Is (.string TE), Is (.bool true), Is (.bool true), Is (.bool true), Is (.pointer (some ⟨p, 0, none⟩)), AnyT, AnyT, Is (.int .i64 0), Is (.bool true), Is (.bool true), Is (.bool true), Is (.pointer (some ⟨p, 0, none⟩)), Is (.int .i64 q1), Is (.int .i64 q), Is (.int .i64 q1), Is (.bool true), Is (.bool true), Is (.bool true), Is (.bool true), Is (.bool true), Is (.bool true)] [[(7, none)], [(118, some 0)], [(119, some 1)], [(120, some 2)], [(7, none), (121, some 3)], [(122, some 4), (121, some 3)], [(123, some 5), (121, some 3)], [(0, none), (121, some 3)], [(11, none), (121, some 3)], [(125, some 7), (126, some 8), (121, some 3)], [(127, some 9), (121, some 3)], [(124, some 6), (128, some 10), (121, some 3)], [(121, some 3), (129, some 11)], [(130, some 12)], [(7, none), (131, some 13)], [(131, some 13)], [(133, some 15), (131, some 13)], [(132, some 14), (134, some 16), (131, some 13)], [(135, some 17), (131, some 13)], [(131, some 13), (136, some 18)], [(137, some 19)], [(7, none), (138, some 20)], [(139, some 21), (138, some 20)], [(11, none), (138, some 20)], [(141, some 23), (138, some 20)], [(140, some 22), (142, some 24), (138, some 20)], [(138, some 20), (143, some 25)], [(144, some 26)], [(145, some 27)], [(145, some 27), (146, some 28)], [(147, some 29)]] (by kernel_rfl) ?_ ?_ ?_ ?_ ?_
        · intro k R hR hd w'
          have hk : k < 31 := by have := (List.getElem?_eq_some_iff.1 hR).1; simpa using this
          rcases (by omega : k = 0 ∨ k = 1 ∨ k = 2 ∨ k = 3 ∨ k = 4 ∨ k = 5 ∨ k = 6 ∨ k = 7 ∨ k = 8 ∨ k = 9 ∨ k = 10 ∨ k = 11 ∨ k = 12 ∨ k = 13 ∨ k = 14 ∨ k = 15 ∨ k = 16 ∨ k = 17 ∨ k = 18 ∨ k = 19 ∨ k = 20 ∨ k = 21 ∨ k = 22 ∨ k = 23 ∨ k = 24 ∨ k = 25 ∨ k = 26 ∨ k = 27 ∨ k = 28 ∨ k = 29 ∨ k = 30) with rfl | rfl | rfl | rfl | rfl | rfl | rfl | rfl | rfl | rfl | rfl | rfl | rfl | rfl | rfl | rfl | rfl | rfl | rfl | rfl | rfl | rfl | rfl | rfl | rfl | rfl | rfl | rfl | rfl | rfl | rfl <;> cases hd
        · simp only [List.mem_cons, List.not_mem_nil, or_false]
          intro R hR
          rcases hR with rfl | rfl | rfl | rfl | rfl | rfl | rfl | rfl | rfl | rfl | rfl | rfl | rfl | rfl | rfl | rfl | rfl | rfl | rfl | rfl | rfl | rfl | rfl | rfl | rfl | rfl | rfl | rfl | rfl | rfl | rfl <;> first | exact stableG_isM _ | exact stableK_any
        · exact GD.start (HN8.out.on (kp_drew w8)) (by simp)
        · refine steps_consL (fun listed a w hnot hdep hcl hsz hg hn => ?_) ?_
          · have h7 : a.eval (.tmp 7) = .pointer (some ⟨p, 0, none⟩) := hn.1
            clear hn
            have hk := hg.kp
            refine wantsG_of1M (fun _ _ => trivial) (fun v w' k => hg.free 0 (by decide) 118 (by decide) v k) ?_
            refine wants_plain rfl ?_
            exact grown_move (.tmp 7) rfl h7
          refine steps_consL (fun listed a w hnot hdep hcl hsz hg hn => ?_) ?_
          · have h118 : a.eval (.tmp 118) = .pointer (some ⟨p, 0, none⟩) := hn.1
            clear hn
            have hk := hg.kp
            refine wantsG_of1M (fun _ _ => trivial) (fun v w' k => hg.free 1 (by decide) 119 (by decide) v k) ?_
            refine wants_plain rfl ?_
            refine grown_call (f := 21) rfl Try.func21 (by kernel_rfl) (by kernel_rfl) ?_
            simp only [List.map_toArray, List.map_cons, List.map_nil, h118]
            refine (downAt_any p false w (by obtain ⟨v, N⟩ := hg.at0 (anc_not hcl 30 17 1 (by kernel_rfl) hnot); exact ⟨_, v, _, N.dk, rfl⟩)).mono ?_
            rintro e w' ⟨rfl, rfl⟩
            exact ⟨_, rfl, Kp.refl _ _, rfl⟩
          refine steps_consL (fun listed a w hnot hdep hcl hsz hg hn => ?_) ?_
          · have h119 : a.eval (.tmp 119) = .bool false := hn.1
            clear hn
            have hk := hg.kp
            refine wantsG_of1M (fun _ _ => trivial) (fun v w' k => hg.free 2 (by decide) 120 (by decide) v k) ?_
            refine wants_plain rfl ?_
            refine grown_run (v := .bool true) ?_ (Kp.refl _ _) rfl
            obtain ⟨ρ, hρ, hc, hf, hgg⟩ := eval_is a
            rw [hρ] at h119 ⊢
            simp [go_sem, h119]
          refine steps_consL (fun listed a w hnot hdep hcl hsz hg hn => ?_) ?_
          · have h120 : a.eval (.tmp 120) = .bool true := hn.1
            clear hn
            have hk := hg.kp
            refine wantsG_of1M (fun _ _ => trivial) (fun v w' k => hg.free 3 (by decide) 121 (by decide) v k) ?_
            refine wants_plain rfl ?_
            exact grown_move (.tmp 120) rfl h120
          refine steps_consL (fun listed a w hnot hdep hcl hsz hg hn => ?_) ?_
          · have h7 : a.eval (.tmp 7) = .pointer (some ⟨p, 0, none⟩) := hn.1
            have h121 : a.eval (.tmp 121) = .bool true := hn.2.1
            clear hn
            have hk := hg.kp
            refine wantsG_of1M (fun _ _ => trivial) (fun v w' k => hg.free 4 (by decide) 122 (by decide) v k) ?_
            refine wants_guard (d := 121) rfl rfl h121 ?_
            exact grown_move (.tmp 7) rfl h7
          refine steps_consL (fun listed a w hnot hdep hcl hsz hg hn => ?_) ?_
          · have h122 : a.eval (.tmp 122) = .pointer (some ⟨p, 0, none⟩) := hn.1
            have h121 : a.eval (.tmp 121) = .bool true := hn.2.1
            clear hn
            have hk := hg.kp
            exact hg.bytes _ (hg.at0 (anc_not hcl 30 17 5 (by kernel_rfl) hnot)) rfl (by decide) (by decide) (by rw [wanted_iff (d := 121) rfl rfl h121]; rfl) (.tmp 122) rfl rfl h122
          refine steps_consL (fun listed a w hnot hdep hcl hsz hg hn => ?_) ?_
          · have h123 : (AnyT) (a.eval (.tmp 123)) w := hn.1
            have h121 : a.eval (.tmp 121) = .bool true := hn.2.1
            clear hn
            have hk := hg.kp
            refine wantsG_of1M (fun _ _ => trivial) (fun v w' k => hg.free 6 (by decide) 124 (by decide) v k) ?_
            refine wants_guard (d := 121) rfl rfl h121 ?_
            exact grown_conv (.tmp 123) _ _ 5 (E) rfl (hg.cl (anc_listed hcl 30 6 5 rfl hdep (by kernel_rfl)) hnot) Try.underlying28 Try.underlying5 Try.underlying9 (congrArg Value.string (unhide HTE).symm)
          refine steps_consL (fun listed a w hnot hdep hcl hsz hg hn => ?_) ?_
          · have h0 : a.eval (.tmp 0) = .slice a0 m c0 := hn.1
            have h121 : a.eval (.tmp 121) = .bool true := hn.2.1
            clear hn
            have hk := hg.kp
            refine wantsG_of1M (fun _ _ => trivial) (fun v w' k => hg.free 7 (by decide) 125 (by decide) v k) ?_
            refine wants_guard (d := 121) rfl rfl h121 ?_
            exact grown_move (.tmp 0) rfl h0
          refine steps_consL (fun listed a w hnot hdep hcl hsz hg hn => ?_) ?_
          · have h11 : a.eval (.tmp 11) = .int .i64 q := hn.1
            have h121 : a.eval (.tmp 121) = .bool true := hn.2.1
            clear hn
            have hk := hg.kp
            refine wantsG_of1M (fun _ _ => trivial) (fun v w' k => hg.free 8 (by decide) 126 (by decide) v k) ?_
            refine wants_guard (d := 121) rfl rfl h121 ?_
            exact grown_move (.tmp 11) rfl h11
          refine steps_consL (fun listed a w hnot hdep hcl hsz hg hn => ?_) ?_
          · have h125 : a.eval (.tmp 125) = .slice a0 m c0 := hn.1
            have h126 : a.eval (.tmp 126) = .int .i64 q := hn.2.1
            have h121 : a.eval (.tmp 121) = .bool true := hn.2.2.1
            clear hn
            have hk := hg.kp
            refine wantsG_of1M (fun _ _ => trivial) (fun v w' k => hg.free 9 (by decide) 127 (by decide) v k) ?_
            refine wants_guard (d := 121) rfl rfl h121 ?_
            exact grown_bfirst (.tmp 125) (.tmp 126) rfl a0 m c0 q h125 h126 (by omega) hc3
          refine steps_consL (fun listed a w hnot hdep hcl hsz hg hn => ?_) ?_
          · have h127 : a.eval (.tmp 127) = .slice a0 q c0 := hn.1
            have h121 : a.eval (.tmp 121) = .bool true := hn.2.1
            clear hn
            have hk := hg.kp
            refine wantsG_of1M (fun _ _ => trivial) (fun v w' k => hg.free 10 (by decide) 128 (by decide) v k) ?_
            refine wants_guard (d := 121) rfl rfl h121 ?_
            exact grown_conv (.tmp 127) _ _ 5 (E) rfl (by rw [h127]; exact unhide HZE w hk) Try.underlying28 Try.underlying5 Try.underlying9 (congrArg Value.string (unhide HTE).symm)
          refine steps_consL (fun listed a w hnot hdep hcl hsz hg hn => ?_) ?_
          · have h124 : a.eval (.tmp 124) = .string TE := hn.1
            have h128 : a.eval (.tmp 128) = .string TE := hn.2.1
            have h121 : a.eval (.tmp 121) = .bool true := hn.2.2.1
            clear hn
            have hk := hg.kp
            refine wantsG_of1M (fun _ _ => trivial) (fun v w' k => hg.free 11 (by decide) 129 (by decide) v k) ?_
            refine wants_guard (d := 121) rfl rfl h121 ?_
            refine grown_run (v := .bool true) ?_ (Kp.refl _ _) rfl
            obtain ⟨ρ, hρ, hc, hf, hgg⟩ := eval_is a
            rw [hρ] at h124 h128 ⊢
            simp [go_sem, h124, h128]
          refine steps_consL (fun listed a w hnot hdep hcl hsz hg hn => ?_) ?_
          · have h121 : a.eval (.tmp 121) = .bool true := hn.1
            have h129 : a.eval (.tmp 129) = .bool true := hn.2.1
            clear hn
            have hk := hg.kp
            refine wantsG_of1M (fun _ _ => trivial) (fun v w' k => hg.free 12 (by decide) 130 (by decide) v k) ?_
            refine wants_plain rfl ?_
            exact grown_pick _ _ _ true rfl h121 h129
          refine steps_consL (fun listed a w hnot hdep hcl hsz hg hn => ?_) ?_
          · have h130 : a.eval (.tmp 130) = .bool true := hn.1
            clear hn
            have hk := hg.kp
            refine wantsG_of1M (fun _ _ => trivial) (fun v w' k => hg.free 13 (by decide) 131 (by decide) v k) ?_
            refine wants_plain rfl ?_
            exact grown_move (.tmp 130) rfl h130
          refine steps_consL (fun listed a w hnot hdep hcl hsz hg hn => ?_) ?_
          · have h7 : a.eval (.tmp 7) = .pointer (some ⟨p, 0, none⟩) := hn.1
            have h131 : a.eval (.tmp 131) = .bool true := hn.2.1
            clear hn
            have hk := hg.kp
            refine wantsG_of1M (fun _ _ => trivial) (fun v w' k => hg.free 14 (by decide) 132 (by decide) v k) ?_
            refine wants_guard (d := 131) rfl rfl h131 ?_
            exact grown_move (.tmp 7) rfl h7
          refine steps_consL (fun listed a w hnot hdep hcl hsz hg hn => ?_) ?_
          · have h131 : a.eval (.tmp 131) = .bool true := hn.1
            clear hn
            have hk := hg.kp
            refine hg.lit (by decide) (by decide) (by decide) (anc_not hcl 30 16 15 (by kernel_rfl) hnot) (by rw [wanted_iff (d := 131) rfl rfl h131]; rfl) rfl ?_
            obtain ⟨ρ, hρ, hc, hf, hgg⟩ := eval_is a
            rw [hρ]
            simp [go_sem, hc]
          refine steps_consL (fun listed a w hnot hdep hcl hsz hg hn => ?_) ?_
          · have h133 : (AnyT) (a.eval (.tmp 133)) w := hn.1
            have h131 : a.eval (.tmp 131) = .bool true := hn.2.1
            clear hn
            have hk := hg.kp
            exact hg.mark (by decide) (by decide) (anc_listed hcl 30 16 15 rfl hdep (by kernel_rfl)) hnot hsz rfl (by rw [wanted_iff (d := 131) rfl rfl h131]; rfl) rfl rfl
          refine steps_consL (fun listed a w hnot hdep hcl hsz hg hn => ?_) ?_
          · have h132 : a.eval (.tmp 132) = .pointer (some ⟨p, 0, none⟩) := hn.1
            have h134 : (AnyT) (a.eval (.tmp 134)) w := hn.2.1
            have h131 : a.eval (.tmp 131) = .bool true := hn.2.2.1
            clear hn
            have hk := hg.kp
            exact hg.append hnot hsz (fun _ => anc_listed hcl 30 17 6 rfl hdep (by kernel_rfl)) (fun _ _ => anc_listed hcl 30 17 16 rfl hdep (by kernel_rfl)) (by decide) (by rw [wanted_iff (d := 131) rfl rfl h131]; rfl) (.tmp 132) (.tmp 134) rfl 135 rfl (by decide) h132 (hg.lt rfl (anc_listed hcl 30 17 16 rfl hdep (by kernel_rfl)) hnot) (bs_lit2 _ (by decide)) true (unhide HAE) 0 rfl
          refine steps_consL (fun listed a w hnot hdep hcl hsz hg hn => ?_) ?_
          · have h135 : a.eval (.tmp 135) = .int .i64 0 := hn.1
            have h131 : a.eval (.tmp 131) = .bool true := hn.2.1
            clear hn
            have hk := hg.kp
            refine wantsG_of1M (fun _ _ => trivial) (fun v w' k => hg.free 18 (by decide) 136 (by decide) v k) ?_
            refine wants_guard (d := 131) rfl rfl h131 ?_
            refine grown_run (v := .bool true) ?_ (Kp.refl _ _) rfl
            obtain ⟨ρ, hρ, hc, hf, hgg⟩ := eval_is a
            rw [hρ] at h135 ⊢
            simp [go_sem, hc, h135]
          refine steps_consL (fun listed a w hnot hdep hcl hsz hg hn => ?_) ?_
          · have h131 : a.eval (.tmp 131) = .bool true := hn.1
            have h136 : a.eval (.tmp 136) = .bool true := hn.2.1
            clear hn
            have hk := hg.kp
            refine wantsG_of1M (fun _ _ => trivial) (fun v w' k => hg.free 19 (by decide) 137 (by decide) v k) ?_
            refine wants_plain rfl ?_
            exact grown_pick _ _ _ true rfl h131 h136
          refine steps_consL (fun listed a w hnot hdep hcl hsz hg hn => ?_) ?_
          · have h137 : a.eval (.tmp 137) = .bool true := hn.1
            clear hn
            have hk := hg.kp
            refine wantsG_of1M (fun _ _ => trivial) (fun v w' k => hg.free 20 (by decide) 138 (by decide) v k) ?_
            refine wants_plain rfl ?_
            exact grown_move (.tmp 137) rfl h137
          refine steps_consL (fun listed a w hnot hdep hcl hsz hg hn => ?_) ?_
          · have h7 : a.eval (.tmp 7) = .pointer (some ⟨p, 0, none⟩) := hn.1
            have h138 : a.eval (.tmp 138) = .bool true := hn.2.1
            clear hn
            have hk := hg.kp
            refine wantsG_of1M (fun _ _ => trivial) (fun v w' k => hg.free 21 (by decide) 139 (by decide) v k) ?_
            refine wants_guard (d := 138) rfl rfl h138 ?_
            exact grown_move (.tmp 7) rfl h7
          refine steps_consL (fun listed a w hnot hdep hcl hsz hg hn => ?_) ?_
          · have h139 : a.eval (.tmp 139) = .pointer (some ⟨p, 0, none⟩) := hn.1
            have h138 : a.eval (.tmp 138) = .bool true := hn.2.1
            clear hn
            have hk := hg.kp
            refine wantsG_of1M (fun _ _ => trivial) (fun v w' k => hg.free 22 (by decide) 140 (by decide) v k) ?_
            refine wants_guard (d := 138) rfl rfl h138 ?_
            refine grown_call (f := 23) rfl Try.func23 (by kernel_rfl) (by kernel_rfl) ?_
            simp only [List.map_toArray, List.map_cons, List.map_nil, h139]
            refine (sizeAt_any p q1 w (by obtain ⟨v, N⟩ := hg.at1 (anc_listed hcl 30 22 17 rfl hdep (by kernel_rfl)); exact ⟨_, v, _, N.dk, unhide HQ1⟩)).mono ?_
            rintro e w' ⟨rfl, rfl⟩
            exact ⟨_, rfl, Kp.refl _ _, rfl⟩
          refine steps_consL (fun listed a w hnot hdep hcl hsz hg hn => ?_) ?_
          · have h11 : a.eval (.tmp 11) = .int .i64 q := hn.1
            have h138 : a.eval (.tmp 138) = .bool true := hn.2.1
            clear hn
            have hk := hg.kp
            refine wantsG_of1M (fun _ _ => trivial) (fun v w' k => hg.free 23 (by decide) 141 (by decide) v k) ?_
            refine wants_guard (d := 138) rfl rfl h138 ?_
            exact grown_move (.tmp 11) rfl h11
          refine steps_consL (fun listed a w hnot hdep hcl hsz hg hn => ?_) ?_
          · have h141 : a.eval (.tmp 141) = .int .i64 q := hn.1
            have h138 : a.eval (.tmp 138) = .bool true := hn.2.1
            clear hn
            have hk := hg.kp
            refine wantsG_of1M (fun _ _ => trivial) (fun v w' k => hg.free 24 (by decide) 142 (by decide) v k) ?_
            refine wants_guard (d := 138) rfl rfl h138 ?_
            refine grown_run (v := .int .i64 q1) ?_ (Kp.refl _ _) rfl
            obtain ⟨ρ, hρ, hc, hf, hgg⟩ := eval_is a
            rw [hρ] at h141 ⊢
            simp [go_sem, hc, h141]
            exact wrap_at (by omega) (by omega) (by omega)
          refine steps_consL (fun listed a w hnot hdep hcl hsz hg hn => ?_) ?_
          · have h140 : a.eval (.tmp 140) = .int .i64 q1 := hn.1
            have h142 : a.eval (.tmp 142) = .int .i64 q1 := hn.2.1
            have h138 : a.eval (.tmp 138) = .bool true := hn.2.2.1
            clear hn
            have hk := hg.kp
            refine wantsG_of1M (fun _ _ => trivial) (fun v w' k => hg.free 25 (by decide) 143 (by decide) v k) ?_
            refine wants_guard (d := 138) rfl rfl h138 ?_
            refine grown_run (v := .bool true) ?_ (Kp.refl _ _) rfl
            obtain ⟨ρ, hρ, hc, hf, hgg⟩ := eval_is a
            rw [hρ] at h140 h142 ⊢
            simp [go_sem, h140, h142]
          refine steps_consL (fun listed a w hnot hdep hcl hsz hg hn => ?_) ?_
          · have h138 : a.eval (.tmp 138) = .bool true := hn.1
            have h143 : a.eval (.tmp 143) = .bool true := hn.2.1
            clear hn
            have hk := hg.kp
            refine wantsG_of1M (fun _ _ => trivial) (fun v w' k => hg.free 26 (by decide) 144 (by decide) v k) ?_
            refine wants_plain rfl ?_
            exact grown_pick _ _ _ true rfl h138 h143
          refine steps_consL (fun listed a w hnot hdep hcl hsz hg hn => ?_) ?_
          · have h144 : a.eval (.tmp 144) = .bool true := hn.1
            clear hn
            have hk := hg.kp
            refine wantsG_of1M (fun _ _ => trivial) (fun v w' k => hg.free 27 (by decide) 145 (by decide) v k) ?_
            refine wants_plain rfl ?_
            exact grown_move (.tmp 144) rfl h144
          refine steps_consL (fun listed a w hnot hdep hcl hsz hg hn => ?_) ?_
          · have h145 : a.eval (.tmp 145) = .bool true := hn.1
            clear hn
            have hk := hg.kp
            refine wantsG_of1M (fun _ _ => trivial) (fun v w' k => hg.free 28 (by decide) 146 (by decide) v k) ?_
            refine wants_guard (d := 145) rfl rfl h145 ?_
            refine grown_call (f := 11) rfl Try.func11 (by kernel_rfl) (by kernel_rfl) ?_
            simp only [List.map_toArray, List.map_nil]
            refine (dknown_any w).mono ?_
            rintro e w' ⟨rfl, K⟩
            exact ⟨_, rfl, K, rfl⟩
          refine steps_consL (fun listed a w hnot hdep hcl hsz hg hn => ?_) ?_
          · have h145 : a.eval (.tmp 145) = .bool true := hn.1
            have h146 : a.eval (.tmp 146) = .bool true := hn.2.1
            clear hn
            have hk := hg.kp
            refine wantsG_of1M (fun _ _ => trivial) (fun v w' k => hg.free 29 (by decide) 147 (by decide) v k) ?_
            refine wants_plain rfl ?_
            exact grown_pick _ _ _ true rfl h145 h146
          refine steps_consL (fun listed a w hnot hdep hcl hsz hg hn => ?_) ?_
          · have h147 : a.eval (.tmp 147) = .bool true := hn.1
            clear hn
            have hk := hg.kp
            refine wantsG_of1M (fun _ _ => trivial) (fun v w' k => hg.free 30 (by decide) 6 (by decide) v k) ?_
            refine wants_plain rfl ?_
            exact grown_assign (.tmp 147) rfl h147
          exact trivial
        intro W2
        rintro _ rfl
        rintro _ rfl
        rintro _ rfl
        rintro _ rfl
        rintro _ rfl
        intro v123 h123
        rintro _ rfl
        rintro _ rfl
        rintro _ rfl
        rintro _ rfl
        rintro _ rfl
        rintro _ rfl
        rintro _ rfl
        rintro _ rfl
        rintro _ rfl
        intro v133 h133
        intro v134 h134
        rintro _ rfl
        rintro _ rfl
        rintro _ rfl
        rintro _ rfl
        rintro _ rfl
        rintro _ rfl
        rintro _ rfl
        rintro _ rfl
        rintro _ rfl
        rintro _ rfl
        rintro _ rfl
        rintro _ rfl
        rintro _ rfl
        rintro _ rfl
        refine fin_nil ?_
        intro listed hall hg
        have hkW2 := hg.kp
        simp only [Act.put, List.set_cons_zero, List.set_cons_succ, List.setIfInBounds_toArray]
        clear hg hall
        go_wp2_with fail
        go_ret
        exact ⟨rfl, hkW2.below (Nat.le_refl _) (by simp)⟩

set_option maxRecDepth 100000 in
theorem lifted (os : Os) (started : os.Started) (H : Type) (enc : TypeId × Value → H) :
    ReturnsInHanded {} Try.checked os 6 .any (Rows.diskDownsSpec.pre6 enc Try.prog Try.f6 Rows.diskDownsRow.domain false) (Rows.diskDownsSpec.post enc Try.prog Try.f6 false true false false) := by
  refine returnsInHanded_of_change (C := Try.checked) own started (by kernel_rfl) Try.func6
    (ChangeSpec.witness6 (enc := enc) (C := Try.checked) false ⟨#[], #[.slice none 0 0, .int .i64 0, .slice none 0 0], []⟩ 8 (by kernel_rfl) (by kernel_rfl) (by kernel_rfl) (by kernel_rfl)) ?_
  intro W base args ds gs before hval0 hW hcnd _
  have hval : ∀ (j : Nat) t v, Try.f6.params[j]? = some t → args[j]? = some v → Value.okWide Try.prog W .any base t v := hval0
  have hW' := hW
  obtain ⟨p, q, hA0, hV, rfl, hfz, hnd⟩ := hW
  have hA : DataW.TrodAll enc Try.prog W 0 (fun _ => true) true Try.f6.params.toList args.toList ds p := hA0
  rw [Try.params6] at hA hval
  obtain ⟨v0, vs0, d0, ds0, p0, q0, hargs, rfl, rfl, h0, r0⟩ := trodAll_cons hA
  obtain ⟨v1, vs1, d1, ds1, p1, q1, rfl, rfl, rfl, h1, r1⟩ := trodAll_cons r0
  obtain ⟨v2, vs2, d2, ds2, p2, q2, rfl, rfl, rfl, h2, r2⟩ := trodAll_cons r1
  obtain ⟨rfl, rfl, rfl⟩ := trodAll_nil r2
  obtain rfl : args = #[v0, v1, v2] := by cases args; simp_all
  obtain ⟨rfl, rfl⟩ := trodVars_none hV
  obtain ⟨a0, len0, cap0, rfl⟩ := okWide_slice Try.underlying28 (hval 0 28 v0 rfl rfl)
  have k0 := h0
  have lt0 : ∀ x ∈ p0, x.block < W.heap.size := by obtain ⟨m, hm⟩ := k0; exact DataW.trod_lt m _ _ _ hm
  obtain ⟨l0, s0, b0⟩ : ∃ bs, Sl W (.slice a0 len0 cap0) bs ∧ Bs bs := by
    obtain ⟨fuel, hf⟩ := h0
    exact bytes_of_trod (by simpa [Value.cells] using hf)
  obtain ⟨a1, rfl, rfl, rfl, w1⟩ := open_int Try.underlying3 (hval 1 3 v1 rfl rfl) h1
  obtain ⟨a2, len2, cap2, rfl⟩ := okWide_slice Try.underlying31 (hval 2 31 v2 rfl rfl)
  have k2 := h2
  have lt2 : ∀ x ∈ p2, x.block < W.heap.size := by obtain ⟨m, hm⟩ := k2; exact DataW.trod_lt m _ _ _ hm
  obtain ⟨l2, s2⟩ : ∃ l, AskL W (.slice a2 len2 cap2) l := by
    obtain ⟨fuel, hf⟩ := h2
    exact askL_of_trod (by simpa [Value.cells] using hf)
  clear hA0 hval0
  refine (walk (.slice a0 len0 cap0) l0 a1 (.slice a2 len2 cap2) l2 W s0 b0 (bounds_i64 w1) s2).mono fun e W' ⟨he, bel⟩ => ?_
  subst he
  exact ⟨_, rfl, _, _, _, [], _, [], hW', trodAll_mk1 (shut_bool Try.underlying4 _), (trodAll_cons_mk (Below.trod laidOut (by kernel_rfl) (of_decide_eq_true (by kernel_rfl)) k0 bel lt0) (trodAll_cons_mk (shut_int Try.underlying3 w1) (trodAll_cons_mk (Below.trod laidOut (by kernel_rfl) (of_decide_eq_true (by kernel_rfl)) k2 bel lt2) trodAll_mk0))), rfl, bel.frame _, fun h => by cases h⟩

theorem over : Rows.diskDownsRow.holds Try.pinned (OpenSpec.ofChange Rows.diskDownsSpec) :=
  OpenClaim.holds_of_wide 6 Try.f6 rfl rfl rfl rfl rfl rfl rfl ⟨rfl, rfl, rfl, rfl, rfl⟩ rfl rfl rfl rfl rfl (by kernel_rfl) Try.func6 (by kernel_rfl)
    (of_decide_eq_true (by kernel_rfl)) (by unfold Func.isWrapper; first | (rw [if_pos (by decide +kernel)]; kernel_rfl) | (rw [if_neg (by decide +kernel)]; exact ⟨rfl, rfl⟩))
    (fun os started H enc _ => lifted os started H enc)
end Go.Proofs.Ythpaablhhfichaa.diskDowns

namespace Go.Proofs.Ythpaablhhfichaa
/-- The given statement. -/
theorem DiskDowns_holds : Rows.DiskDownsSaid := diskDowns.over
#print axioms DiskDowns_holds
end Go.Proofs.Ythpaablhhfichaa
