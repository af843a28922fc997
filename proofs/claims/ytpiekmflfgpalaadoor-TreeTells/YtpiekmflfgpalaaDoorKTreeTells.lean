/-
  The statement TreeTellsCardSaid: for all items, bytes and numbers the law function TreeTells returns true and leaves its arguments as they were; the table hash.roundWords starts as the program's text lays it (tied). No other condition.
-/
import Derived.Test.YtpiekmflfgpalaaDoorKTKnown
import Derived.Test.YtpiekmflfgpalaaDoorKTRef
import Derived.Test.YtpiekmflfgpalaaDoorTie
import Derived.Test.YtpiekmflfgpalaaDoorCards
import Derived.SevenTiedAt
import Derived.Deep.Cut
import Derived.Deep.CutRange
import Derived.Deep.CutBlock
namespace Go.Proofs.YtpiekmflfgpalaaDoor.treeTells
open Go.ChangeShapes Go.WideShapes Go.ChangeAt Go.RowKit
open Go.Deep
open Go.Proofs.YtpiekmflfgpalaaDoor
set_option linter.unusedVariables false

set_option maxRecDepth 100000 in
set_option maxHeartbeats 1500000 in
theorem walk (v0 : Value) (l0 : List (Value × List Int)) (v1 : Value) (bs1 : List Int) (v2 : Value) (bs2 : List Int) (pf pt : Int) (w : World) (hG : Gl w) (hL0 : Lists w v0 l0) (hS1 : Sl w v1 bs1) (hB1 : Bs bs1) (hS2 : Sl w v2 bs2) (hB2 : Bs bs2) (hpf : -9223372036854775808 ≤ pf ∧ pf ≤ 9223372036854775807) (hpt : -9223372036854775808 ≤ pt ∧ pt ≤ 9223372036854775807) :
    Calls Tryd.prog 4 #[v0, v1, v2, .int .i64 pf, .int .i64 pt] w fun e w' => e = .returned (.bool true) ∧ Below w.heap.size w w' := by
  have HG := hide hG
  have HB0 := hide hL0.bs
  have HC1 := hide (few_any v0 l0 40 60 w hL0 (by omega))
  obtain ⟨fs, hfs⟩ : ∃ fs, fs = (l0.take (min 40 l0.length)).map fun x => x.2.take 60 := ⟨_, rfl⟩
  have HFS := hide hfs
  have HFL : Hid (fs.length ≤ 40) := by rw [hfs]; exact hide (by simp; omega)
  have HFM : Hid (∀ x ∈ fs, x.length ≤ 1000) := by
    rw [hfs]
    intro x hx
    obtain ⟨y, _, rfl⟩ := List.mem_map.1 hx
    simp; omega
  obtain ⟨A, hA⟩ : ∃ ms, ms = bs1.take 100 := ⟨_, rfl⟩
  have hAl : A.length ≤ 100 := by rw [hA]; simp; omega
  have HAB : Hid (Bs A) := by rw [hA]; exact hB1.take _
  have HCA := hide (fun w' (k : Kp [] w w') => by have := cut_any v1 bs1 100 w' (hS1.kept k (by simp)); rw [← hA] at this; exact this)
  obtain ⟨B, hB⟩ : ∃ ms, ms = bs2.take 100 := ⟨_, rfl⟩
  have hBl : B.length ≤ 100 := by rw [hB]; simp; omega
  have HBB : Hid (Bs B) := by rw [hB]; exact hB2.take _
  have HCB := hide (fun w' (k : Kp [] w w') => by have := cut_any v2 bs2 100 w' (hS2.kept k (by simp)); rw [← hB] at this; exact this)
  have HS1 := hide hS1
  have HS2 := hide hS2
  obtain ⟨ls, hls⟩ : ∃ ls, ls = fs.map tleafP := ⟨_, rfl⟩
  have HLS := hide hls
  have HLN : Hid (ls.length ≤ 40) := by rw [hls]; exact hide (by rw [List.length_map]; exact unhide HFL)
  have HLM : Hid (∀ x ∈ ls, x.length ≤ 1000) := by
    rw [hls]
    intro x hx
    obtain ⟨y, _, rfl⟩ := List.mem_map.1 hx
    show (sha _).length ≤ 1000
    rw [sha_len]; omega
  clear hG hfs hA hB hls hB1 hB2
  obtain ⟨al, cl, hv, _⟩ := hL0
  obtain ⟨nl, hnl⟩ : ∃ n, n = l0.length := ⟨_, rfl⟩
  rw [← hnl] at hv
  subst hv
  obtain ⟨av1, cv1, hv1, _⟩ := hS1
  obtain ⟨nv1, hnv1⟩ : ∃ n, n = bs1.length := ⟨_, rfl⟩
  rw [← hnv1] at hv1
  subst hv1
  obtain ⟨av2, cv2, hv2, _⟩ := hS2
  obtain ⟨nv2, hnv2⟩ : ∃ n, n = bs2.length := ⟨_, rfl⟩
  rw [← hnv2] at hv2
  subst hv2
  clear hnl hnv1 hnv2
  go_enter Tryd.func4, Tryd.ntmps4
  go_wp2_with fail
  refine (unhide HC1).mono ?_
  rintro ee w1 ⟨o1, rfl, F1⟩
  have K1 : Kp [] w w1 := by obtain ⟨_, _, _, h, _⟩ := F1; exact h
  have M1 : LcM fs o1 w1 := by rw [unhide HFS]; exact F1.lc (unhide HB0) (by omega)
  obtain ⟨ao1, co1, hvo, -⟩ := M1.shape
  obtain ⟨no1, hno1⟩ : ∃ n, n = fs.length := ⟨_, rfl⟩
  rw [← hno1] at hvo
  subst hvo
  have HC2 := hide (rleaves_any _ fs w1 M1 (Nat.le_trans (unhide HFL) (by omega)) (unhide HFM))
  have HK1 := hide K1
  have HM1 := hide M1
  clear K1 M1 F1 hno1 HC1
  go_wp2_with fail
  refine (unhide HCA w1 (unhide HK1)).mono ?_
  rintro ee w5 ⟨aa, ca, rfl, hT, hw⟩
  subst w5
  have HSA : Hid (Sl w1 (.slice aa A.length ca) A) := hT _ ((unhide HS1).kept (unhide HK1) (by simp))
  obtain ⟨na, hna⟩ : ∃ m, m = A.length := ⟨_, rfl⟩
  rw [← hna] at HSA ⊢
  clear hT HCA HS1 hna
  go_wp2_with fail
  refine (unhide HCB w1 (unhide HK1)).mono ?_
  rintro ee w5 ⟨ab, cb, rfl, hT, hw⟩
  subst w5
  have HSB : Hid (Sl w1 (.slice ab B.length cb) B) := hT _ ((unhide HS2).kept (unhide HK1) (by simp))
  obtain ⟨nb, hnb⟩ : ∃ m, m = B.length := ⟨_, rfl⟩
  rw [← hnb] at HSB ⊢
  clear hT HCB HS2 hnb
  go_wp2_with fail
  refine (unhide HC2).mono ?_
  rintro ee w2 ⟨a2, m2, c2, rfl, A2⟩
  rw [← unhide HLS] at A2
  have M2 : LcM ls (.slice a2 m2 c2) w2 := A2.lc (Nat.le_trans (unhide HLN) (by omega))
  have hm2 : m2 = ls.length := by obtain ⟨_, _, e, _⟩ := M2.shape; injection e
  have HLE : Hid (ls.length = m2) := hm2.symm
  have hm40 : m2 ≤ 40 := by rw [hm2]; exact unhide HLN
  have K12 := A2.kp
  have HK2 := hide ((unhide HK1).trans K12)
  have HLLg : Hid (∀ w', Kp [] w2 w' → LcM ls (.slice a2 m2 c2) w') := fun w' k' => M2.kept k'
  have HFFg : Hid (∀ w', Kp [] w2 w' → LcM fs (.slice ao1 no1 co1) w') := fun w' k' => (unhide HM1).kept (K12.trans k')
  have HSAg : Hid (∀ w', Kp [] w2 w' → Sl w' (.slice aa na ca) A) := fun w' k' => (unhide HSA).kept (K12.trans k') (by simp)
  have HSBg : Hid (∀ w', Kp [] w2 w' → Sl w' (.slice ab nb cb) B) := fun w' k' => (unhide HSB).kept (K12.trans k') (by simp)
  have HGg : Hid (∀ w', Kp [] w2 w' → Gl w') := fun w' k' => (unhide HG).kept ((unhide HK2).trans k') (by simp)
  obtain ⟨rA, hrA⟩ : ∃ r, r = tleafP A := ⟨_, rfl⟩
  obtain ⟨rN, hrN⟩ : ∃ r, r = tnodeP A B := ⟨_, rfl⟩
  obtain ⟨rl, hrl⟩ : ∃ r, r = trootP ls := ⟨_, rfl⟩
  obtain ⟨rf, hrf⟩ : ∃ r, r = trootP fs := ⟨_, rfl⟩
  have HRA := hide hrA
  have HRN := hide hrN
  have HRL := hide hrl
  have HRF := hide hrf
  obtain ⟨TA, hTA⟩ : ∃ S, S = strOfNums rA := ⟨_, rfl⟩
  obtain ⟨TN, hTN⟩ : ∃ S, S = strOfNums rN := ⟨_, rfl⟩
  obtain ⟨TL, hTL⟩ : ∃ S, S = strOfNums rl := ⟨_, rfl⟩
  obtain ⟨TF, hTF⟩ : ∃ S, S = strOfNums rf := ⟨_, rfl⟩
  have HTA := hide hTA
  have HTN := hide hTN
  have HTL := hide hTL
  have HTF := hide hTF
  clear A2 M2 hm2 K12 HM1 HSA HSB HC2 hrA hrN hrl hrf hTA hTN hTL hTF HLS HFS HB0 HK1 HG
  by_cases hok : 0 ≤ pf ∧ pf ≤ pt ∧ pt ≤ (m2 : Int)
  · obtain ⟨o1, o2, o3⟩ := hok
    obtain ⟨p, rfl⟩ := Int.eq_ofNat_of_zero_le o1
    obtain ⟨q, rfl⟩ := Int.eq_ofNat_of_zero_le (Int.le_trans o1 o2)
    have hpq : p ≤ q := by omega
    have hq40 : q ≤ 40 := by omega
    have HQN : Hid (q ≤ ls.length) := hide (by rw [unhide HLE]; omega)
    obtain ⟨rx, hrx⟩ : ∃ r, r = trootP ((ls.drop p).take (q - p)) := ⟨_, rfl⟩
    have HRX := hide hrx
    obtain ⟨TX, hTX⟩ : ∃ S, S = strOfNums rx := ⟨_, rfl⟩
    have HTX := hide hTX
    have HXN : Hid (((ls.drop p).take (q - p)).length = q - p) := hide (by have := unhide HQN; simp; omega)
    have HXM : Hid (∀ x ∈ (ls.drop p).take (q - p), x.length ≤ 1000) := hide (fun x hx => unhide HLM x (List.mem_of_mem_drop (List.mem_of_mem_take hx)))
    have HC3 := hide (trange_ok _ ls p q rx w2 hrx hpq (unhide HQN) (Nat.le_trans (unhide HLN) (by omega)) (unhide HLLg w2 (Kp.refl _ _)) (unhide HLM) (unhide HGg w2 (Kp.refl _ _)))
    clear hrx hTX
    go_wp2_with fail
    refine (unhide HC3).mono ?_
    rintro ee w3 ⟨ax, mx, cx, rfl, RX, K3⟩
    have HK23 := hide K3
    have HSX : Hid (∀ w', Kp [] w3.drew w' → Sl w' (.slice ax mx cx) rx) := fun w' k' => RX.sl.kept ((kp_drew w3).trans k') (by simp)
    have HLL : Hid (∀ w', Kp [] w3.drew w' → LcM ls (.slice a2 m2 c2) w') := fun w' k' => unhide HLLg w' (K3.trans ((kp_drew w3).trans k'))
    clear RX K3 HC3
    go_wp2_with fail
    refine region_grow Tryd.mixed [Is (.bool true), Is (.bool true), Is (.slice ax mx cx), Is (.string TX), Is (.slice a2 m2 c2), Is (.int .i64 p), Is (.int .i64 q), LcM (((ls).drop p).take (q - p)), SlT (rx), Is (.string TX), Is (.bool false), Is (.bool false), Is (.bool false), Is (.bool true), Is (.bool false), Is (.bool false), Is (undef), Is (undef), Is (undef), Is (.bool false), Is (.bool false)] [[(13, none)], [(39, some 0)], [(12, none), (40, some 1)], [(41, some 2), (40, some 1)], [(11, none), (40, some 1)], [(3, none), (40, some 1)], [(4, none), (40, some 1)], [(43, some 4), (44, some 5), (45, some 6), (40, some 1)], [(46, some 7), (40, some 1)], [(47, some 8), (40, some 1)], [(42, some 3), (48, some 9), (40, some 1)], [(40, some 1), (49, some 10)], [(50, some 11)], [(13, none), (51, some 12)], [(52, some 13), (51, some 12)], [(53, some 14), (51, some 12)], [(12, none), (54, some 15)], [(55, some 16), (54, some 15)], [(56, some 17), (54, some 15)], [(54, some 15), (57, some 18), (51, some 12)], [(51, some 12), (58, some 19)]] (by kernel_rfl) ?_ ?_ ?_
    · simp only [List.mem_cons, List.not_mem_nil, or_false]
      intro R hR
      rcases hR with rfl | rfl | rfl | rfl | rfl | rfl | rfl | rfl | rfl | rfl | rfl | rfl | rfl | rfl | rfl | rfl | rfl | rfl | rfl | rfl | rfl <;> first | exact stable_is _ | exact stable_lcm _ | exact stable_sl _
    · refine steps_cons (fun a w hk hn => ?_) ?_
      · have h13 : a.eval (.tmp 13) = .bool true := hn.1
        clear hn
        refine wants_plain rfl ?_
        exact grown_move (.tmp 13) rfl h13
      refine steps_cons (fun a w hk hn => ?_) ?_
      · have h39 : a.eval (.tmp 39) = .bool true := hn.1
        clear hn
        refine wants_plain rfl ?_
        exact grown_move (.tmp 39) rfl h39
      refine steps_cons (fun a w hk hn => ?_) ?_
      · have h12 : a.eval (.tmp 12) = .slice ax mx cx := hn.1
        have h40 : a.eval (.tmp 40) = .bool true := hn.2.1
        clear hn
        refine wants_guard (d := 40) rfl rfl h40 ?_
        exact grown_move (.tmp 12) rfl h12
      refine steps_cons (fun a w hk hn => ?_) ?_
      · have h41 : a.eval (.tmp 41) = .slice ax mx cx := hn.1
        have h40 : a.eval (.tmp 40) = .bool true := hn.2.1
        clear hn
        refine wants_guard (d := 40) rfl rfl h40 ?_
        exact grown_conv (.tmp 41) _ _ 5 (rx) rfl (by rw [h41]; exact unhide HSX w hk) Tryd.underlying24 Tryd.underlying5 Tryd.underlying9 (congrArg Value.string (unhide HTX).symm)
      refine steps_cons (fun a w hk hn => ?_) ?_
      · have h11 : a.eval (.tmp 11) = .slice a2 m2 c2 := hn.1
        have h40 : a.eval (.tmp 40) = .bool true := hn.2.1
        clear hn
        refine wants_guard (d := 40) rfl rfl h40 ?_
        exact grown_move (.tmp 11) rfl h11
      refine steps_cons (fun a w hk hn => ?_) ?_
      · have h3 : a.eval (.tmp 3) = .int .i64 p := hn.1
        have h40 : a.eval (.tmp 40) = .bool true := hn.2.1
        clear hn
        refine wants_guard (d := 40) rfl rfl h40 ?_
        exact grown_move (.tmp 3) rfl h3
      refine steps_cons (fun a w hk hn => ?_) ?_
      · have h4 : a.eval (.tmp 4) = .int .i64 q := hn.1
        have h40 : a.eval (.tmp 40) = .bool true := hn.2.1
        clear hn
        refine wants_guard (d := 40) rfl rfl h40 ?_
        exact grown_move (.tmp 4) rfl h4
      refine steps_cons (fun a w hk hn => ?_) ?_
      · have h43 : a.eval (.tmp 43) = .slice a2 m2 c2 := hn.1
        have h44 : a.eval (.tmp 44) = .int .i64 p := hn.2.1
        have h45 : a.eval (.tmp 45) = .int .i64 q := hn.2.2.1
        have h40 : a.eval (.tmp 40) = .bool true := hn.2.2.2.1
        clear hn
        refine wants_guard (d := 40) rfl rfl h40 ?_
        exact grown_lspan (.tmp 43) (.tmp 44) (.tmp 45) (ls) p q rfl (by rw [h43]; exact unhide HLL w hk) h44 h45 (by omega) (unhide HQN)
      refine steps_cons (fun a w hk hn => ?_) ?_
      · have h46 : (LcM (((ls).drop p).take (q - p))) (a.eval (.tmp 46)) w := hn.1
        have h40 : a.eval (.tmp 40) = .bool true := hn.2.1
        clear hn
        refine wants_guard (d := 40) rfl rfl h40 ?_
        refine grown_call (f := 11) rfl Tryd.func11 (by kernel_rfl) (by kernel_rfl) ?_
        simp only [List.map_toArray, List.map_cons, List.map_nil]
        refine (rroot_any (q - p) _ _ rx w (unhide HRX) (unhide HXN) (by omega) h46 (unhide HXM)).mono ?_
        rintro e w' ⟨ao, m, c, rfl, R, K⟩
        exact ⟨_, rfl, K, R⟩
      refine steps_cons (fun a w hk hn => ?_) ?_
      · have h47 : Sl w (a.eval (.tmp 47)) (rx) := hn.1
        have h40 : a.eval (.tmp 40) = .bool true := hn.2.1
        clear hn
        refine wants_guard (d := 40) rfl rfl h40 ?_
        exact grown_conv (.tmp 47) _ _ 5 _ rfl h47 Tryd.underlying24 Tryd.underlying5 Tryd.underlying9 (congrArg Value.string (unhide HTX).symm)
      refine steps_cons (fun a w hk hn => ?_) ?_
      · have h42 : a.eval (.tmp 42) = .string TX := hn.1
        have h48 : a.eval (.tmp 48) = .string TX := hn.2.1
        have h40 : a.eval (.tmp 40) = .bool true := hn.2.2.1
        clear hn
        refine wants_guard (d := 40) rfl rfl h40 ?_
        refine grown_run (v := .bool false) ?_ (Kp.refl _ _) rfl
        obtain ⟨ρ, hρ, hc, hf, hg⟩ := eval_is a
        rw [hρ] at h42 h48 ⊢
        simp [go_sem, h42, h48]
      refine steps_cons (fun a w hk hn => ?_) ?_
      · have h40 : a.eval (.tmp 40) = .bool true := hn.1
        have h49 : a.eval (.tmp 49) = .bool false := hn.2.1
        clear hn
        refine wants_plain rfl ?_
        exact grown_pick _ _ _ true rfl h40 h49
      refine steps_cons (fun a w hk hn => ?_) ?_
      · have h50 : a.eval (.tmp 50) = .bool false := hn.1
        clear hn
        refine wants_plain rfl ?_
        exact grown_move (.tmp 50) rfl h50
      refine steps_cons (fun a w hk hn => ?_) ?_
      · have h13 : a.eval (.tmp 13) = .bool true := hn.1
        have h51 : a.eval (.tmp 51) = .bool false := hn.2.1
        clear hn
        refine wants_guard (d := 51) rfl rfl h51 ?_
        exact grown_move (.tmp 13) rfl h13
      refine steps_cons (fun a w hk hn => ?_) ?_
      · have h52 : a.eval (.tmp 52) = .bool true := hn.1
        have h51 : a.eval (.tmp 51) = .bool false := hn.2.1
        clear hn
        refine wants_guard (d := 51) rfl rfl h51 ?_
        refine grown_run (v := .bool false) ?_ (Kp.refl _ _) rfl
        obtain ⟨ρ, hρ, hc, hf, hg⟩ := eval_is a
        rw [hρ] at h52 ⊢
        simp [go_sem, h52]
      refine steps_cons (fun a w hk hn => ?_) ?_
      · have h53 : a.eval (.tmp 53) = .bool false := hn.1
        have h51 : a.eval (.tmp 51) = .bool false := hn.2.1
        clear hn
        refine wants_guard (d := 51) rfl rfl h51 ?_
        exact grown_move (.tmp 53) rfl h53
      refine steps_cons (fun a w hk hn => ?_) ?_
      · have h12 : a.eval (.tmp 12) = .slice ax mx cx := hn.1
        have h54 : a.eval (.tmp 54) = .bool false := hn.2.1
        clear hn
        exact wants_not (d := 54) rfl rfl h54 rfl
      refine steps_cons (fun a w hk hn => ?_) ?_
      · have h55 : a.eval (.tmp 55) = undef := hn.1
        have h54 : a.eval (.tmp 54) = .bool false := hn.2.1
        clear hn
        exact wants_not (d := 54) rfl rfl h54 rfl
      refine steps_cons (fun a w hk hn => ?_) ?_
      · have h56 : a.eval (.tmp 56) = undef := hn.1
        have h54 : a.eval (.tmp 54) = .bool false := hn.2.1
        clear hn
        exact wants_not (d := 54) rfl rfl h54 rfl
      refine steps_cons (fun a w hk hn => ?_) ?_
      · have h54 : a.eval (.tmp 54) = .bool false := hn.1
        have h57 : a.eval (.tmp 57) = undef := hn.2.1
        have h51 : a.eval (.tmp 51) = .bool false := hn.2.2.1
        clear hn
        refine wants_guard (d := 51) rfl rfl h51 ?_
        exact grown_pick _ _ _ false rfl h54 rfl
      refine steps_cons (fun a w hk hn => ?_) ?_
      · have h51 : a.eval (.tmp 51) = .bool false := hn.1
        have h58 : a.eval (.tmp 58) = .bool false := hn.2.1
        clear hn
        refine wants_plain rfl ?_
        exact grown_pick _ _ _ false rfl h51 h58
      exact trivial
    intro W1 hkW1
    rintro _ rfl
    rintro _ rfl
    rintro _ rfl
    rintro _ rfl
    rintro _ rfl
    rintro _ rfl
    rintro _ rfl
    intro v46 h46
    intro v47 h47
    rintro _ rfl
    rintro _ rfl
    rintro _ rfl
    rintro _ rfl
    rintro _ rfl
    rintro _ rfl
    rintro _ rfl
    rintro _ rfl
    rintro _ rfl
    rintro _ rfl
    rintro _ rfl
    rintro _ rfl
    refine fin_nil ?_
    simp only [Act.put, List.set_cons_zero, List.set_cons_succ, List.setIfInBounds_toArray]
    have HKW : Hid (Kp [] w2 W1) := (unhide HK23).trans ((kp_drew w3).trans hkW1)
    have HL8 : Hid (∀ w', Kp [] W1.drew w' → LcM ls (.slice a2 m2 c2) w') := fun w' k' => unhide HLLg w' ((unhide HKW).trans ((kp_drew W1).trans k'))
    have HF8 : Hid (∀ w', Kp [] W1.drew w' → LcM fs (.slice ao1 no1 co1) w') := fun w' k' => unhide HFFg w' ((unhide HKW).trans ((kp_drew W1).trans k'))
    have HA8 : Hid (∀ w', Kp [] W1.drew w' → Sl w' (.slice aa na ca) A) := fun w' k' => unhide HSAg w' ((unhide HKW).trans ((kp_drew W1).trans k'))
    have HB8 : Hid (∀ w', Kp [] W1.drew w' → Sl w' (.slice ab nb cb) B) := fun w' k' => unhide HSBg w' ((unhide HKW).trans ((kp_drew W1).trans k'))
    have HG8 : Hid (∀ w', Kp [] W1.drew w' → Gl w') := fun w' k' => unhide HGg w' ((unhide HKW).trans ((kp_drew W1).trans k'))
    clear hkW1
    go_wp2_with fail
    refine region_grow Tryd.mixed [Is (.slice aa na ca), SlT (rA), Is (.string TA), Is (.slice aa na ca), SlT (rA), Is (.string TA), Is (.bool true), Is (.bool true), Is (.slice aa na ca), Is (.slice ab nb cb), SlT (rN), Is (.string TN), Is (.slice aa na ca), Is (.slice ab nb cb), SlT (rN), Is (.string TN), Is (.bool true), Is (.bool true), Is (.bool true), Is (.slice a2 m2 c2), SlT (rl), Is (.string TL), Is (.slice a2 m2 c2), SlT (rl), Is (.string TL), Is (.bool true), Is (.bool true), Is (.bool true), Is (.slice ao1 no1 co1), SlT (rf), Is (.string TF), Is (.slice ao1 no1 co1), SlT (rf), Is (.string TF), Is (.bool true), Is (.bool true), Is (.bool true), Is (.bool true), Is (.bool true), Is (.bool true)] [[(1, none)], [(60, some 0)], [(61, some 1)], [(1, none)], [(63, some 3)], [(64, some 4)], [(62, some 2), (65, some 5)], [(66, some 6)], [(1, none), (67, some 7)], [(2, none), (67, some 7)], [(68, some 8), (69, some 9), (67, some 7)], [(70, some 10), (67, some 7)], [(1, none), (67, some 7)], [(2, none), (67, some 7)], [(72, some 12), (73, some 13), (67, some 7)], [(74, some 14), (67, some 7)], [(71, some 11), (75, some 15), (67, some 7)], [(67, some 7), (76, some 16)], [(77, some 17)], [(11, none), (78, some 18)], [(79, some 19), (78, some 18)], [(80, some 20), (78, some 18)], [(11, none), (78, some 18)], [(82, some 22), (78, some 18)], [(83, some 23), (78, some 18)], [(81, some 21), (84, some 24), (78, some 18)], [(78, some 18), (85, some 25)], [(86, some 26)], [(0, none), (87, some 27)], [(88, some 28), (87, some 27)], [(89, some 29), (87, some 27)], [(0, none), (87, some 27)], [(91, some 31), (87, some 27)], [(92, some 32), (87, some 27)], [(90, some 30), (93, some 33), (87, some 27)], [(87, some 27), (94, some 34)], [(95, some 35)], [(96, some 36)], [(96, some 36), (97, some 37)], [(98, some 38)]] (by kernel_rfl) ?_ ?_ ?_
    · simp only [List.mem_cons, List.not_mem_nil, or_false]
      intro R hR
      rcases hR with rfl | rfl | rfl | rfl | rfl | rfl | rfl | rfl | rfl | rfl | rfl | rfl | rfl | rfl | rfl | rfl | rfl | rfl | rfl | rfl | rfl | rfl | rfl | rfl | rfl | rfl | rfl | rfl | rfl | rfl | rfl | rfl | rfl | rfl | rfl | rfl | rfl | rfl | rfl | rfl <;> first | exact stable_is _ | exact stable_sl _
    · refine steps_cons (fun a w hk hn => ?_) ?_
      · have h1 : a.eval (.tmp 1) = .slice aa na ca := hn.1
        clear hn
        refine wants_plain rfl ?_
        exact grown_move (.tmp 1) rfl h1
      refine steps_cons (fun a w hk hn => ?_) ?_
      · have h60 : a.eval (.tmp 60) = .slice aa na ca := hn.1
        clear hn
        refine wants_plain rfl ?_
        refine grown_call (f := 19) rfl Tryd.func19 (by kernel_rfl) (by kernel_rfl) ?_
        simp only [List.map_toArray, List.map_cons, List.map_nil, h60]
        refine (tleaf_any _ A rA (unhide HRA) w (unhide HA8 w hk) (unhide HAB) (by omega) (unhide HG8 w hk)).mono ?_
        rintro e w' ⟨ao, m, c, rfl, R, K⟩
        exact ⟨_, rfl, K, R.sl⟩
      refine steps_cons (fun a w hk hn => ?_) ?_
      · have h61 : Sl w (a.eval (.tmp 61)) (rA) := hn.1
        clear hn
        refine wants_plain rfl ?_
        exact grown_conv (.tmp 61) _ _ 5 _ rfl h61 Tryd.underlying24 Tryd.underlying5 Tryd.underlying9 (congrArg Value.string (unhide HTA).symm)
      refine steps_cons (fun a w hk hn => ?_) ?_
      · have h1 : a.eval (.tmp 1) = .slice aa na ca := hn.1
        clear hn
        refine wants_plain rfl ?_
        exact grown_move (.tmp 1) rfl h1
      refine steps_cons (fun a w hk hn => ?_) ?_
      · have h63 : a.eval (.tmp 63) = .slice aa na ca := hn.1
        clear hn
        refine wants_plain rfl ?_
        refine grown_call (f := 20) rfl Tryd.func20 (by kernel_rfl) (by kernel_rfl) ?_
        simp only [List.map_toArray, List.map_cons, List.map_nil, h63]
        refine (rleaf_any _ A rA (unhide HRA) w (unhide HA8 w hk) (unhide HAB) (by omega)).mono ?_
        rintro e w' ⟨ao, m, c, rfl, R, K⟩
        exact ⟨_, rfl, K, R.sl⟩
      refine steps_cons (fun a w hk hn => ?_) ?_
      · have h64 : Sl w (a.eval (.tmp 64)) (rA) := hn.1
        clear hn
        refine wants_plain rfl ?_
        exact grown_conv (.tmp 64) _ _ 5 _ rfl h64 Tryd.underlying24 Tryd.underlying5 Tryd.underlying9 (congrArg Value.string (unhide HTA).symm)
      refine steps_cons (fun a w hk hn => ?_) ?_
      · have h62 : a.eval (.tmp 62) = .string TA := hn.1
        have h65 : a.eval (.tmp 65) = .string TA := hn.2.1
        clear hn
        refine wants_plain rfl ?_
        refine grown_run (v := .bool true) ?_ (Kp.refl _ _) rfl
        obtain ⟨ρ, hρ, hc, hf, hg⟩ := eval_is a
        rw [hρ] at h62 h65 ⊢
        simp [go_sem, h62, h65]
      refine steps_cons (fun a w hk hn => ?_) ?_
      · have h66 : a.eval (.tmp 66) = .bool true := hn.1
        clear hn
        refine wants_plain rfl ?_
        exact grown_move (.tmp 66) rfl h66
      refine steps_cons (fun a w hk hn => ?_) ?_
      · have h1 : a.eval (.tmp 1) = .slice aa na ca := hn.1
        have h67 : a.eval (.tmp 67) = .bool true := hn.2.1
        clear hn
        refine wants_guard (d := 67) rfl rfl h67 ?_
        exact grown_move (.tmp 1) rfl h1
      refine steps_cons (fun a w hk hn => ?_) ?_
      · have h2 : a.eval (.tmp 2) = .slice ab nb cb := hn.1
        have h67 : a.eval (.tmp 67) = .bool true := hn.2.1
        clear hn
        refine wants_guard (d := 67) rfl rfl h67 ?_
        exact grown_move (.tmp 2) rfl h2
      refine steps_cons (fun a w hk hn => ?_) ?_
      · have h68 : a.eval (.tmp 68) = .slice aa na ca := hn.1
        have h69 : a.eval (.tmp 69) = .slice ab nb cb := hn.2.1
        have h67 : a.eval (.tmp 67) = .bool true := hn.2.2.1
        clear hn
        refine wants_guard (d := 67) rfl rfl h67 ?_
        refine grown_call (f := 21) rfl Tryd.func21 (by kernel_rfl) (by kernel_rfl) ?_
        simp only [List.map_toArray, List.map_cons, List.map_nil, h68, h69]
        refine (tnode_any _ _ A B rN (unhide HRN) w (unhide HA8 w hk) (unhide HAB) (by omega) (unhide HB8 w hk) (unhide HBB) (by omega) (unhide HG8 w hk)).mono ?_
        rintro e w' ⟨ao, m, c, rfl, R, K⟩
        exact ⟨_, rfl, K, R.sl⟩
      refine steps_cons (fun a w hk hn => ?_) ?_
      · have h70 : Sl w (a.eval (.tmp 70)) (rN) := hn.1
        have h67 : a.eval (.tmp 67) = .bool true := hn.2.1
        clear hn
        refine wants_guard (d := 67) rfl rfl h67 ?_
        exact grown_conv (.tmp 70) _ _ 5 _ rfl h70 Tryd.underlying24 Tryd.underlying5 Tryd.underlying9 (congrArg Value.string (unhide HTN).symm)
      refine steps_cons (fun a w hk hn => ?_) ?_
      · have h1 : a.eval (.tmp 1) = .slice aa na ca := hn.1
        have h67 : a.eval (.tmp 67) = .bool true := hn.2.1
        clear hn
        refine wants_guard (d := 67) rfl rfl h67 ?_
        exact grown_move (.tmp 1) rfl h1
      refine steps_cons (fun a w hk hn => ?_) ?_
      · have h2 : a.eval (.tmp 2) = .slice ab nb cb := hn.1
        have h67 : a.eval (.tmp 67) = .bool true := hn.2.1
        clear hn
        refine wants_guard (d := 67) rfl rfl h67 ?_
        exact grown_move (.tmp 2) rfl h2
      refine steps_cons (fun a w hk hn => ?_) ?_
      · have h72 : a.eval (.tmp 72) = .slice aa na ca := hn.1
        have h73 : a.eval (.tmp 73) = .slice ab nb cb := hn.2.1
        have h67 : a.eval (.tmp 67) = .bool true := hn.2.2.1
        clear hn
        refine wants_guard (d := 67) rfl rfl h67 ?_
        refine grown_call (f := 22) rfl Tryd.func22 (by kernel_rfl) (by kernel_rfl) ?_
        simp only [List.map_toArray, List.map_cons, List.map_nil, h72, h73]
        refine (rnode_any _ _ A B rN (unhide HRN) w (unhide HA8 w hk) (unhide HAB) (by omega) (unhide HB8 w hk) (unhide HBB) (by omega)).mono ?_
        rintro e w' ⟨ao, m, c, rfl, R, K⟩
        exact ⟨_, rfl, K, R.sl⟩
      refine steps_cons (fun a w hk hn => ?_) ?_
      · have h74 : Sl w (a.eval (.tmp 74)) (rN) := hn.1
        have h67 : a.eval (.tmp 67) = .bool true := hn.2.1
        clear hn
        refine wants_guard (d := 67) rfl rfl h67 ?_
        exact grown_conv (.tmp 74) _ _ 5 _ rfl h74 Tryd.underlying24 Tryd.underlying5 Tryd.underlying9 (congrArg Value.string (unhide HTN).symm)
      refine steps_cons (fun a w hk hn => ?_) ?_
      · have h71 : a.eval (.tmp 71) = .string TN := hn.1
        have h75 : a.eval (.tmp 75) = .string TN := hn.2.1
        have h67 : a.eval (.tmp 67) = .bool true := hn.2.2.1
        clear hn
        refine wants_guard (d := 67) rfl rfl h67 ?_
        refine grown_run (v := .bool true) ?_ (Kp.refl _ _) rfl
        obtain ⟨ρ, hρ, hc, hf, hg⟩ := eval_is a
        rw [hρ] at h71 h75 ⊢
        simp [go_sem, h71, h75]
      refine steps_cons (fun a w hk hn => ?_) ?_
      · have h67 : a.eval (.tmp 67) = .bool true := hn.1
        have h76 : a.eval (.tmp 76) = .bool true := hn.2.1
        clear hn
        refine wants_plain rfl ?_
        exact grown_pick _ _ _ true rfl h67 h76
      refine steps_cons (fun a w hk hn => ?_) ?_
      · have h77 : a.eval (.tmp 77) = .bool true := hn.1
        clear hn
        refine wants_plain rfl ?_
        exact grown_move (.tmp 77) rfl h77
      refine steps_cons (fun a w hk hn => ?_) ?_
      · have h11 : a.eval (.tmp 11) = .slice a2 m2 c2 := hn.1
        have h78 : a.eval (.tmp 78) = .bool true := hn.2.1
        clear hn
        refine wants_guard (d := 78) rfl rfl h78 ?_
        exact grown_move (.tmp 11) rfl h11
      refine steps_cons (fun a w hk hn => ?_) ?_
      · have h79 : a.eval (.tmp 79) = .slice a2 m2 c2 := hn.1
        have h78 : a.eval (.tmp 78) = .bool true := hn.2.1
        clear hn
        refine wants_guard (d := 78) rfl rfl h78 ?_
        refine grown_call (f := 10) rfl Tryd.func10 (by kernel_rfl) (by kernel_rfl) ?_
        simp only [List.map_toArray, List.map_cons, List.map_nil, h79]
        refine (troot_any ls.length _ ls rl w (unhide HRL) rfl (Nat.le_trans (unhide HLN) (by omega)) (unhide HL8 w hk) (unhide HLM) (unhide HG8 w hk)).mono ?_
        rintro e w' ⟨ao, m, c, rfl, R, K⟩
        exact ⟨_, rfl, K, R.sl⟩
      refine steps_cons (fun a w hk hn => ?_) ?_
      · have h80 : Sl w (a.eval (.tmp 80)) (rl) := hn.1
        have h78 : a.eval (.tmp 78) = .bool true := hn.2.1
        clear hn
        refine wants_guard (d := 78) rfl rfl h78 ?_
        exact grown_conv (.tmp 80) _ _ 5 _ rfl h80 Tryd.underlying24 Tryd.underlying5 Tryd.underlying9 (congrArg Value.string (unhide HTL).symm)
      refine steps_cons (fun a w hk hn => ?_) ?_
      · have h11 : a.eval (.tmp 11) = .slice a2 m2 c2 := hn.1
        have h78 : a.eval (.tmp 78) = .bool true := hn.2.1
        clear hn
        refine wants_guard (d := 78) rfl rfl h78 ?_
        exact grown_move (.tmp 11) rfl h11
      refine steps_cons (fun a w hk hn => ?_) ?_
      · have h82 : a.eval (.tmp 82) = .slice a2 m2 c2 := hn.1
        have h78 : a.eval (.tmp 78) = .bool true := hn.2.1
        clear hn
        refine wants_guard (d := 78) rfl rfl h78 ?_
        refine grown_call (f := 11) rfl Tryd.func11 (by kernel_rfl) (by kernel_rfl) ?_
        simp only [List.map_toArray, List.map_cons, List.map_nil, h82]
        refine (rroot_any ls.length _ ls rl w (unhide HRL) rfl (Nat.le_trans (unhide HLN) (by omega)) (unhide HL8 w hk) (unhide HLM)).mono ?_
        rintro e w' ⟨ao, m, c, rfl, R, K⟩
        exact ⟨_, rfl, K, R⟩
      refine steps_cons (fun a w hk hn => ?_) ?_
      · have h83 : Sl w (a.eval (.tmp 83)) (rl) := hn.1
        have h78 : a.eval (.tmp 78) = .bool true := hn.2.1
        clear hn
        refine wants_guard (d := 78) rfl rfl h78 ?_
        exact grown_conv (.tmp 83) _ _ 5 _ rfl h83 Tryd.underlying24 Tryd.underlying5 Tryd.underlying9 (congrArg Value.string (unhide HTL).symm)
      refine steps_cons (fun a w hk hn => ?_) ?_
      · have h81 : a.eval (.tmp 81) = .string TL := hn.1
        have h84 : a.eval (.tmp 84) = .string TL := hn.2.1
        have h78 : a.eval (.tmp 78) = .bool true := hn.2.2.1
        clear hn
        refine wants_guard (d := 78) rfl rfl h78 ?_
        refine grown_run (v := .bool true) ?_ (Kp.refl _ _) rfl
        obtain ⟨ρ, hρ, hc, hf, hg⟩ := eval_is a
        rw [hρ] at h81 h84 ⊢
        simp [go_sem, h81, h84]
      refine steps_cons (fun a w hk hn => ?_) ?_
      · have h78 : a.eval (.tmp 78) = .bool true := hn.1
        have h85 : a.eval (.tmp 85) = .bool true := hn.2.1
        clear hn
        refine wants_plain rfl ?_
        exact grown_pick _ _ _ true rfl h78 h85
      refine steps_cons (fun a w hk hn => ?_) ?_
      · have h86 : a.eval (.tmp 86) = .bool true := hn.1
        clear hn
        refine wants_plain rfl ?_
        exact grown_move (.tmp 86) rfl h86
      refine steps_cons (fun a w hk hn => ?_) ?_
      · have h0 : a.eval (.tmp 0) = .slice ao1 no1 co1 := hn.1
        have h87 : a.eval (.tmp 87) = .bool true := hn.2.1
        clear hn
        refine wants_guard (d := 87) rfl rfl h87 ?_
        exact grown_move (.tmp 0) rfl h0
      refine steps_cons (fun a w hk hn => ?_) ?_
      · have h88 : a.eval (.tmp 88) = .slice ao1 no1 co1 := hn.1
        have h87 : a.eval (.tmp 87) = .bool true := hn.2.1
        clear hn
        refine wants_guard (d := 87) rfl rfl h87 ?_
        refine grown_call (f := 10) rfl Tryd.func10 (by kernel_rfl) (by kernel_rfl) ?_
        simp only [List.map_toArray, List.map_cons, List.map_nil, h88]
        refine (troot_any fs.length _ fs rf w (unhide HRF) rfl (Nat.le_trans (unhide HFL) (by omega)) (unhide HF8 w hk) (unhide HFM) (unhide HG8 w hk)).mono ?_
        rintro e w' ⟨ao, m, c, rfl, R, K⟩
        exact ⟨_, rfl, K, R.sl⟩
      refine steps_cons (fun a w hk hn => ?_) ?_
      · have h89 : Sl w (a.eval (.tmp 89)) (rf) := hn.1
        have h87 : a.eval (.tmp 87) = .bool true := hn.2.1
        clear hn
        refine wants_guard (d := 87) rfl rfl h87 ?_
        exact grown_conv (.tmp 89) _ _ 5 _ rfl h89 Tryd.underlying24 Tryd.underlying5 Tryd.underlying9 (congrArg Value.string (unhide HTF).symm)
      refine steps_cons (fun a w hk hn => ?_) ?_
      · have h0 : a.eval (.tmp 0) = .slice ao1 no1 co1 := hn.1
        have h87 : a.eval (.tmp 87) = .bool true := hn.2.1
        clear hn
        refine wants_guard (d := 87) rfl rfl h87 ?_
        exact grown_move (.tmp 0) rfl h0
      refine steps_cons (fun a w hk hn => ?_) ?_
      · have h91 : a.eval (.tmp 91) = .slice ao1 no1 co1 := hn.1
        have h87 : a.eval (.tmp 87) = .bool true := hn.2.1
        clear hn
        refine wants_guard (d := 87) rfl rfl h87 ?_
        refine grown_call (f := 11) rfl Tryd.func11 (by kernel_rfl) (by kernel_rfl) ?_
        simp only [List.map_toArray, List.map_cons, List.map_nil, h91]
        refine (rroot_any fs.length _ fs rf w (unhide HRF) rfl (Nat.le_trans (unhide HFL) (by omega)) (unhide HF8 w hk) (unhide HFM)).mono ?_
        rintro e w' ⟨ao, m, c, rfl, R, K⟩
        exact ⟨_, rfl, K, R⟩
      refine steps_cons (fun a w hk hn => ?_) ?_
      · have h92 : Sl w (a.eval (.tmp 92)) (rf) := hn.1
        have h87 : a.eval (.tmp 87) = .bool true := hn.2.1
        clear hn
        refine wants_guard (d := 87) rfl rfl h87 ?_
        exact grown_conv (.tmp 92) _ _ 5 _ rfl h92 Tryd.underlying24 Tryd.underlying5 Tryd.underlying9 (congrArg Value.string (unhide HTF).symm)
      refine steps_cons (fun a w hk hn => ?_) ?_
      · have h90 : a.eval (.tmp 90) = .string TF := hn.1
        have h93 : a.eval (.tmp 93) = .string TF := hn.2.1
        have h87 : a.eval (.tmp 87) = .bool true := hn.2.2.1
        clear hn
        refine wants_guard (d := 87) rfl rfl h87 ?_
        refine grown_run (v := .bool true) ?_ (Kp.refl _ _) rfl
        obtain ⟨ρ, hρ, hc, hf, hg⟩ := eval_is a
        rw [hρ] at h90 h93 ⊢
        simp [go_sem, h90, h93]
      refine steps_cons (fun a w hk hn => ?_) ?_
      · have h87 : a.eval (.tmp 87) = .bool true := hn.1
        have h94 : a.eval (.tmp 94) = .bool true := hn.2.1
        clear hn
        refine wants_plain rfl ?_
        exact grown_pick _ _ _ true rfl h87 h94
      refine steps_cons (fun a w hk hn => ?_) ?_
      · have h95 : a.eval (.tmp 95) = .bool true := hn.1
        clear hn
        refine wants_plain rfl ?_
        exact grown_move (.tmp 95) rfl h95
      refine steps_cons (fun a w hk hn => ?_) ?_
      · have h96 : a.eval (.tmp 96) = .bool true := hn.1
        clear hn
        refine wants_guard (d := 96) rfl rfl h96 ?_
        refine grown_call (f := 15) rfl Tryd.func15 (by kernel_rfl) (by kernel_rfl) ?_
        simp only [List.map_toArray, List.map_nil]
        refine (tknown_any w (unhide HG8 w hk)).mono ?_
        rintro e w' ⟨rfl, K⟩
        exact ⟨_, rfl, K, rfl⟩
      refine steps_cons (fun a w hk hn => ?_) ?_
      · have h96 : a.eval (.tmp 96) = .bool true := hn.1
        have h97 : a.eval (.tmp 97) = .bool true := hn.2.1
        clear hn
        refine wants_plain rfl ?_
        exact grown_pick _ _ _ true rfl h96 h97
      refine steps_cons (fun a w hk hn => ?_) ?_
      · have h98 : a.eval (.tmp 98) = .bool true := hn.1
        clear hn
        refine wants_plain rfl ?_
        exact grown_assign (.tmp 98) rfl h98
      exact trivial
    intro W2 hkW2
    rintro _ rfl
    intro v61 h61
    rintro _ rfl
    rintro _ rfl
    intro v64 h64
    rintro _ rfl
    rintro _ rfl
    rintro _ rfl
    rintro _ rfl
    rintro _ rfl
    intro v70 h70
    rintro _ rfl
    rintro _ rfl
    rintro _ rfl
    intro v74 h74
    rintro _ rfl
    rintro _ rfl
    rintro _ rfl
    rintro _ rfl
    rintro _ rfl
    intro v80 h80
    rintro _ rfl
    rintro _ rfl
    intro v83 h83
    rintro _ rfl
    rintro _ rfl
    rintro _ rfl
    rintro _ rfl
    rintro _ rfl
    intro v89 h89
    rintro _ rfl
    rintro _ rfl
    intro v92 h92
    rintro _ rfl
    rintro _ rfl
    rintro _ rfl
    rintro _ rfl
    rintro _ rfl
    rintro _ rfl
    rintro _ rfl
    refine fin_nil ?_
    simp only [Act.put, List.set_cons_zero, List.set_cons_succ, List.setIfInBounds_toArray]
    go_wp2_with fail
    go_ret
    exact ⟨rfl, ((unhide HK2).trans ((unhide HKW).trans ((kp_drew W1).trans hkW2))).below (Nat.le_refl _) (by simp)⟩
  · have HK22 := hide (Kp.refl [] w2)
    have HC3 := hide (trange_not _ ls pf pt w2 (by rw [unhide HLE]; exact hok) (unhide HLLg w2 (Kp.refl _ _)))
    go_wp2_with fail
    refine (unhide HC3).mono ?_
    rintro ee w3 ⟨rfl, hw⟩
    subst w3
    clear HC3
    go_upto_region 5 with fail
    go_cut [13] from 26 to 38 (fun s13 wc => s13 = .bool false ∧ wc = w2)
    case first =>
      by_cases a1 : 0 ≤ pf
      · by_cases a2' : pf ≤ pt
        · have a3 : ¬ pt ≤ (m2 : Int) := fun h => hok ⟨a1, a2', h⟩
          clear hok
          go_wp2_with fail
          go_meet
          exact ⟨rfl, rfl⟩
        · clear hok
          go_wp2_with fail
          go_meet
          exact ⟨rfl, rfl⟩
      · clear hok
        go_wp2_with fail
        go_meet
        exact ⟨rfl, rfl⟩
    case rest =>
      obtain ⟨rfl, hw⟩ := hcut
      subst wc
      have HLL : Hid (∀ w', Kp [] w2.drew w' → LcM ls (.slice a2 m2 c2) w') := fun w' k' => unhide HLLg w' ((kp_drew w2).trans k')
      clear hok
      go_wp2_with fail
      refine region_grow Tryd.mixed [Is (.bool false), Is (.bool false), Is (undef), Is (undef), Is (undef), Is (undef), Is (undef), Is (undef), Is (undef), Is (undef), Is (undef), Is (.bool false), Is (.bool false), Is (.bool false), Is (.bool true), Is (.bool true), Is (.slice none 0 0), Is (.int .i64 0), Is (.bool false), Is (.bool false), Is (.bool false)] [[(13, none)], [(39, some 0)], [(12, none), (40, some 1)], [(41, some 2), (40, some 1)], [(11, none), (40, some 1)], [(3, none), (40, some 1)], [(4, none), (40, some 1)], [(43, some 4), (44, some 5), (45, some 6), (40, some 1)], [(46, some 7), (40, some 1)], [(47, some 8), (40, some 1)], [(42, some 3), (48, some 9), (40, some 1)], [(40, some 1), (49, some 10)], [(50, some 11)], [(13, none), (51, some 12)], [(52, some 13), (51, some 12)], [(53, some 14), (51, some 12)], [(12, none), (54, some 15)], [(55, some 16), (54, some 15)], [(56, some 17), (54, some 15)], [(54, some 15), (57, some 18), (51, some 12)], [(51, some 12), (58, some 19)]] (by kernel_rfl) ?_ ?_ ?_
      · simp only [List.mem_cons, List.not_mem_nil, or_false]
        intro R hR
        rcases hR with rfl | rfl | rfl | rfl | rfl | rfl | rfl | rfl | rfl | rfl | rfl | rfl | rfl | rfl | rfl | rfl | rfl | rfl | rfl | rfl | rfl <;> first | exact stable_is _
      · refine steps_cons (fun a w hk hn => ?_) ?_
        · have h13 : a.eval (.tmp 13) = .bool false := hn.1
          clear hn
          refine wants_plain rfl ?_
          exact grown_move (.tmp 13) rfl h13
        refine steps_cons (fun a w hk hn => ?_) ?_
        · have h39 : a.eval (.tmp 39) = .bool false := hn.1
          clear hn
          refine wants_plain rfl ?_
          exact grown_move (.tmp 39) rfl h39
        refine steps_cons (fun a w hk hn => ?_) ?_
        · have h12 : a.eval (.tmp 12) = .slice none 0 0 := hn.1
          have h40 : a.eval (.tmp 40) = .bool false := hn.2.1
          clear hn
          exact wants_not (d := 40) rfl rfl h40 rfl
        refine steps_cons (fun a w hk hn => ?_) ?_
        · have h41 : a.eval (.tmp 41) = undef := hn.1
          have h40 : a.eval (.tmp 40) = .bool false := hn.2.1
          clear hn
          exact wants_not (d := 40) rfl rfl h40 rfl
        refine steps_cons (fun a w hk hn => ?_) ?_
        · have h11 : a.eval (.tmp 11) = .slice a2 m2 c2 := hn.1
          have h40 : a.eval (.tmp 40) = .bool false := hn.2.1
          clear hn
          exact wants_not (d := 40) rfl rfl h40 rfl
        refine steps_cons (fun a w hk hn => ?_) ?_
        · have h3 : a.eval (.tmp 3) = .int .i64 pf := hn.1
          have h40 : a.eval (.tmp 40) = .bool false := hn.2.1
          clear hn
          exact wants_not (d := 40) rfl rfl h40 rfl
        refine steps_cons (fun a w hk hn => ?_) ?_
        · have h4 : a.eval (.tmp 4) = .int .i64 pt := hn.1
          have h40 : a.eval (.tmp 40) = .bool false := hn.2.1
          clear hn
          exact wants_not (d := 40) rfl rfl h40 rfl
        refine steps_cons (fun a w hk hn => ?_) ?_
        · have h43 : a.eval (.tmp 43) = undef := hn.1
          have h44 : a.eval (.tmp 44) = undef := hn.2.1
          have h45 : a.eval (.tmp 45) = undef := hn.2.2.1
          have h40 : a.eval (.tmp 40) = .bool false := hn.2.2.2.1
          clear hn
          exact wants_not (d := 40) rfl rfl h40 rfl
        refine steps_cons (fun a w hk hn => ?_) ?_
        · have h46 : a.eval (.tmp 46) = undef := hn.1
          have h40 : a.eval (.tmp 40) = .bool false := hn.2.1
          clear hn
          exact wants_not (d := 40) rfl rfl h40 rfl
        refine steps_cons (fun a w hk hn => ?_) ?_
        · have h47 : a.eval (.tmp 47) = undef := hn.1
          have h40 : a.eval (.tmp 40) = .bool false := hn.2.1
          clear hn
          exact wants_not (d := 40) rfl rfl h40 rfl
        refine steps_cons (fun a w hk hn => ?_) ?_
        · have h42 : a.eval (.tmp 42) = undef := hn.1
          have h48 : a.eval (.tmp 48) = undef := hn.2.1
          have h40 : a.eval (.tmp 40) = .bool false := hn.2.2.1
          clear hn
          exact wants_not (d := 40) rfl rfl h40 rfl
        refine steps_cons (fun a w hk hn => ?_) ?_
        · have h40 : a.eval (.tmp 40) = .bool false := hn.1
          have h49 : a.eval (.tmp 49) = undef := hn.2.1
          clear hn
          refine wants_plain rfl ?_
          exact grown_pick _ _ _ false rfl h40 rfl
        refine steps_cons (fun a w hk hn => ?_) ?_
        · have h50 : a.eval (.tmp 50) = .bool false := hn.1
          clear hn
          refine wants_plain rfl ?_
          exact grown_move (.tmp 50) rfl h50
        refine steps_cons (fun a w hk hn => ?_) ?_
        · have h13 : a.eval (.tmp 13) = .bool false := hn.1
          have h51 : a.eval (.tmp 51) = .bool false := hn.2.1
          clear hn
          refine wants_guard (d := 51) rfl rfl h51 ?_
          exact grown_move (.tmp 13) rfl h13
        refine steps_cons (fun a w hk hn => ?_) ?_
        · have h52 : a.eval (.tmp 52) = .bool false := hn.1
          have h51 : a.eval (.tmp 51) = .bool false := hn.2.1
          clear hn
          refine wants_guard (d := 51) rfl rfl h51 ?_
          refine grown_run (v := .bool true) ?_ (Kp.refl _ _) rfl
          obtain ⟨ρ, hρ, hc, hf, hg⟩ := eval_is a
          rw [hρ] at h52 ⊢
          simp [go_sem, h52]
        refine steps_cons (fun a w hk hn => ?_) ?_
        · have h53 : a.eval (.tmp 53) = .bool true := hn.1
          have h51 : a.eval (.tmp 51) = .bool false := hn.2.1
          clear hn
          refine wants_guard (d := 51) rfl rfl h51 ?_
          exact grown_move (.tmp 53) rfl h53
        refine steps_cons (fun a w hk hn => ?_) ?_
        · have h12 : a.eval (.tmp 12) = .slice none 0 0 := hn.1
          have h54 : a.eval (.tmp 54) = .bool true := hn.2.1
          clear hn
          refine wants_guard (d := 54) rfl rfl h54 ?_
          exact grown_move (.tmp 12) rfl h12
        refine steps_cons (fun a w hk hn => ?_) ?_
        · have h55 : a.eval (.tmp 55) = .slice none 0 0 := hn.1
          have h54 : a.eval (.tmp 54) = .bool true := hn.2.1
          clear hn
          refine wants_guard (d := 54) rfl rfl h54 ?_
          refine grown_run (v := .int .i64 0) ?_ (Kp.refl _ _) rfl
          obtain ⟨ρ, hρ, hc, hf, hg⟩ := eval_is a
          rw [hρ] at h55 ⊢
          simp [go_sem, h55]
        refine steps_cons (fun a w hk hn => ?_) ?_
        · have h56 : a.eval (.tmp 56) = .int .i64 0 := hn.1
          have h54 : a.eval (.tmp 54) = .bool true := hn.2.1
          clear hn
          refine wants_guard (d := 54) rfl rfl h54 ?_
          refine grown_run (v := .bool false) ?_ (Kp.refl _ _) rfl
          obtain ⟨ρ, hρ, hc, hf, hg⟩ := eval_is a
          rw [hρ] at h56 ⊢
          simp [go_sem, hc, h56]
        refine steps_cons (fun a w hk hn => ?_) ?_
        · have h54 : a.eval (.tmp 54) = .bool true := hn.1
          have h57 : a.eval (.tmp 57) = .bool false := hn.2.1
          have h51 : a.eval (.tmp 51) = .bool false := hn.2.2.1
          clear hn
          refine wants_guard (d := 51) rfl rfl h51 ?_
          exact grown_pick _ _ _ true rfl h54 h57
        refine steps_cons (fun a w hk hn => ?_) ?_
        · have h51 : a.eval (.tmp 51) = .bool false := hn.1
          have h58 : a.eval (.tmp 58) = .bool false := hn.2.1
          clear hn
          refine wants_plain rfl ?_
          exact grown_pick _ _ _ false rfl h51 h58
        exact trivial
      intro W1 hkW1
      rintro _ rfl
      rintro _ rfl
      rintro _ rfl
      rintro _ rfl
      rintro _ rfl
      rintro _ rfl
      rintro _ rfl
      rintro _ rfl
      rintro _ rfl
      rintro _ rfl
      rintro _ rfl
      rintro _ rfl
      rintro _ rfl
      rintro _ rfl
      rintro _ rfl
      rintro _ rfl
      rintro _ rfl
      rintro _ rfl
      rintro _ rfl
      rintro _ rfl
      rintro _ rfl
      refine fin_nil ?_
      simp only [Act.put, List.set_cons_zero, List.set_cons_succ, List.setIfInBounds_toArray]
      have HKW : Hid (Kp [] w2 W1) := (unhide HK22).trans ((kp_drew w2).trans hkW1)
      have HL8 : Hid (∀ w', Kp [] W1.drew w' → LcM ls (.slice a2 m2 c2) w') := fun w' k' => unhide HLLg w' ((unhide HKW).trans ((kp_drew W1).trans k'))
      have HF8 : Hid (∀ w', Kp [] W1.drew w' → LcM fs (.slice ao1 no1 co1) w') := fun w' k' => unhide HFFg w' ((unhide HKW).trans ((kp_drew W1).trans k'))
      have HA8 : Hid (∀ w', Kp [] W1.drew w' → Sl w' (.slice aa na ca) A) := fun w' k' => unhide HSAg w' ((unhide HKW).trans ((kp_drew W1).trans k'))
      have HB8 : Hid (∀ w', Kp [] W1.drew w' → Sl w' (.slice ab nb cb) B) := fun w' k' => unhide HSBg w' ((unhide HKW).trans ((kp_drew W1).trans k'))
      have HG8 : Hid (∀ w', Kp [] W1.drew w' → Gl w') := fun w' k' => unhide HGg w' ((unhide HKW).trans ((kp_drew W1).trans k'))
      clear hkW1
      go_wp2_with fail
      refine region_grow Tryd.mixed [Is (.slice aa na ca), SlT (rA), Is (.string TA), Is (.slice aa na ca), SlT (rA), Is (.string TA), Is (.bool true), Is (.bool true), Is (.slice aa na ca), Is (.slice ab nb cb), SlT (rN), Is (.string TN), Is (.slice aa na ca), Is (.slice ab nb cb), SlT (rN), Is (.string TN), Is (.bool true), Is (.bool true), Is (.bool true), Is (.slice a2 m2 c2), SlT (rl), Is (.string TL), Is (.slice a2 m2 c2), SlT (rl), Is (.string TL), Is (.bool true), Is (.bool true), Is (.bool true), Is (.slice ao1 no1 co1), SlT (rf), Is (.string TF), Is (.slice ao1 no1 co1), SlT (rf), Is (.string TF), Is (.bool true), Is (.bool true), Is (.bool true), Is (.bool true), Is (.bool true), Is (.bool true)] [[(1, none)], [(60, some 0)], [(61, some 1)], [(1, none)], [(63, some 3)], [(64, some 4)], [(62, some 2), (65, some 5)], [(66, some 6)], [(1, none), (67, some 7)], [(2, none), (67, some 7)], [(68, some 8), (69, some 9), (67, some 7)], [(70, some 10), (67, some 7)], [(1, none), (67, some 7)], [(2, none), (67, some 7)], [(72, some 12), (73, some 13), (67, some 7)], [(74, some 14), (67, some 7)], [(71, some 11), (75, some 15), (67, some 7)], [(67, some 7), (76, some 16)], [(77, some 17)], [(11, none), (78, some 18)], [(79, some 19), (78, some 18)], [(80, some 20), (78, some 18)], [(11, none), (78, some 18)], [(82, some 22), (78, some 18)], [(83, some 23), (78, some 18)], [(81, some 21), (84, some 24), (78, some 18)], [(78, some 18), (85, some 25)], [(86, some 26)], [(0, none), (87, some 27)], [(88, some 28), (87, some 27)], [(89, some 29), (87, some 27)], [(0, none), (87, some 27)], [(91, some 31), (87, some 27)], [(92, some 32), (87, some 27)], [(90, some 30), (93, some 33), (87, some 27)], [(87, some 27), (94, some 34)], [(95, some 35)], [(96, some 36)], [(96, some 36), (97, some 37)], [(98, some 38)]] (by kernel_rfl) ?_ ?_ ?_
      · simp only [List.mem_cons, List.not_mem_nil, or_false]
        intro R hR
        rcases hR with rfl | rfl | rfl | rfl | rfl | rfl | rfl | rfl | rfl | rfl | rfl | rfl | rfl | rfl | rfl | rfl | rfl | rfl | rfl | rfl | rfl | rfl | rfl | rfl | rfl | rfl | rfl | rfl | rfl | rfl | rfl | rfl | rfl | rfl | rfl | rfl | rfl | rfl | rfl | rfl <;> first | exact stable_is _ | exact stable_sl _
      · refine steps_cons (fun a w hk hn => ?_) ?_
        · have h1 : a.eval (.tmp 1) = .slice aa na ca := hn.1
          clear hn
          refine wants_plain rfl ?_
          exact grown_move (.tmp 1) rfl h1
        refine steps_cons (fun a w hk hn => ?_) ?_
        · have h60 : a.eval (.tmp 60) = .slice aa na ca := hn.1
          clear hn
          refine wants_plain rfl ?_
          refine grown_call (f := 19) rfl Tryd.func19 (by kernel_rfl) (by kernel_rfl) ?_
          simp only [List.map_toArray, List.map_cons, List.map_nil, h60]
          refine (tleaf_any _ A rA (unhide HRA) w (unhide HA8 w hk) (unhide HAB) (by omega) (unhide HG8 w hk)).mono ?_
          rintro e w' ⟨ao, m, c, rfl, R, K⟩
          exact ⟨_, rfl, K, R.sl⟩
        refine steps_cons (fun a w hk hn => ?_) ?_
        · have h61 : Sl w (a.eval (.tmp 61)) (rA) := hn.1
          clear hn
          refine wants_plain rfl ?_
          exact grown_conv (.tmp 61) _ _ 5 _ rfl h61 Tryd.underlying24 Tryd.underlying5 Tryd.underlying9 (congrArg Value.string (unhide HTA).symm)
        refine steps_cons (fun a w hk hn => ?_) ?_
        · have h1 : a.eval (.tmp 1) = .slice aa na ca := hn.1
          clear hn
          refine wants_plain rfl ?_
          exact grown_move (.tmp 1) rfl h1
        refine steps_cons (fun a w hk hn => ?_) ?_
        · have h63 : a.eval (.tmp 63) = .slice aa na ca := hn.1
          clear hn
          refine wants_plain rfl ?_
          refine grown_call (f := 20) rfl Tryd.func20 (by kernel_rfl) (by kernel_rfl) ?_
          simp only [List.map_toArray, List.map_cons, List.map_nil, h63]
          refine (rleaf_any _ A rA (unhide HRA) w (unhide HA8 w hk) (unhide HAB) (by omega)).mono ?_
          rintro e w' ⟨ao, m, c, rfl, R, K⟩
          exact ⟨_, rfl, K, R.sl⟩
        refine steps_cons (fun a w hk hn => ?_) ?_
        · have h64 : Sl w (a.eval (.tmp 64)) (rA) := hn.1
          clear hn
          refine wants_plain rfl ?_
          exact grown_conv (.tmp 64) _ _ 5 _ rfl h64 Tryd.underlying24 Tryd.underlying5 Tryd.underlying9 (congrArg Value.string (unhide HTA).symm)
        refine steps_cons (fun a w hk hn => ?_) ?_
        · have h62 : a.eval (.tmp 62) = .string TA := hn.1
          have h65 : a.eval (.tmp 65) = .string TA := hn.2.1
          clear hn
          refine wants_plain rfl ?_
          refine grown_run (v := .bool true) ?_ (Kp.refl _ _) rfl
          obtain ⟨ρ, hρ, hc, hf, hg⟩ := eval_is a
          rw [hρ] at h62 h65 ⊢
          simp [go_sem, h62, h65]
        refine steps_cons (fun a w hk hn => ?_) ?_
        · have h66 : a.eval (.tmp 66) = .bool true := hn.1
          clear hn
          refine wants_plain rfl ?_
          exact grown_move (.tmp 66) rfl h66
        refine steps_cons (fun a w hk hn => ?_) ?_
        · have h1 : a.eval (.tmp 1) = .slice aa na ca := hn.1
          have h67 : a.eval (.tmp 67) = .bool true := hn.2.1
          clear hn
          refine wants_guard (d := 67) rfl rfl h67 ?_
          exact grown_move (.tmp 1) rfl h1
        refine steps_cons (fun a w hk hn => ?_) ?_
        · have h2 : a.eval (.tmp 2) = .slice ab nb cb := hn.1
          have h67 : a.eval (.tmp 67) = .bool true := hn.2.1
          clear hn
          refine wants_guard (d := 67) rfl rfl h67 ?_
          exact grown_move (.tmp 2) rfl h2
        refine steps_cons (fun a w hk hn => ?_) ?_
        · have h68 : a.eval (.tmp 68) = .slice aa na ca := hn.1
          have h69 : a.eval (.tmp 69) = .slice ab nb cb := hn.2.1
          have h67 : a.eval (.tmp 67) = .bool true := hn.2.2.1
          clear hn
          refine wants_guard (d := 67) rfl rfl h67 ?_
          refine grown_call (f := 21) rfl Tryd.func21 (by kernel_rfl) (by kernel_rfl) ?_
          simp only [List.map_toArray, List.map_cons, List.map_nil, h68, h69]
          refine (tnode_any _ _ A B rN (unhide HRN) w (unhide HA8 w hk) (unhide HAB) (by omega) (unhide HB8 w hk) (unhide HBB) (by omega) (unhide HG8 w hk)).mono ?_
          rintro e w' ⟨ao, m, c, rfl, R, K⟩
          exact ⟨_, rfl, K, R.sl⟩
        refine steps_cons (fun a w hk hn => ?_) ?_
        · have h70 : Sl w (a.eval (.tmp 70)) (rN) := hn.1
          have h67 : a.eval (.tmp 67) = .bool true := hn.2.1
          clear hn
          refine wants_guard (d := 67) rfl rfl h67 ?_
          exact grown_conv (.tmp 70) _ _ 5 _ rfl h70 Tryd.underlying24 Tryd.underlying5 Tryd.underlying9 (congrArg Value.string (unhide HTN).symm)
        refine steps_cons (fun a w hk hn => ?_) ?_
        · have h1 : a.eval (.tmp 1) = .slice aa na ca := hn.1
          have h67 : a.eval (.tmp 67) = .bool true := hn.2.1
          clear hn
          refine wants_guard (d := 67) rfl rfl h67 ?_
          exact grown_move (.tmp 1) rfl h1
        refine steps_cons (fun a w hk hn => ?_) ?_
        · have h2 : a.eval (.tmp 2) = .slice ab nb cb := hn.1
          have h67 : a.eval (.tmp 67) = .bool true := hn.2.1
          clear hn
          refine wants_guard (d := 67) rfl rfl h67 ?_
          exact grown_move (.tmp 2) rfl h2
        refine steps_cons (fun a w hk hn => ?_) ?_
        · have h72 : a.eval (.tmp 72) = .slice aa na ca := hn.1
          have h73 : a.eval (.tmp 73) = .slice ab nb cb := hn.2.1
          have h67 : a.eval (.tmp 67) = .bool true := hn.2.2.1
          clear hn
          refine wants_guard (d := 67) rfl rfl h67 ?_
          refine grown_call (f := 22) rfl Tryd.func22 (by kernel_rfl) (by kernel_rfl) ?_
          simp only [List.map_toArray, List.map_cons, List.map_nil, h72, h73]
          refine (rnode_any _ _ A B rN (unhide HRN) w (unhide HA8 w hk) (unhide HAB) (by omega) (unhide HB8 w hk) (unhide HBB) (by omega)).mono ?_
          rintro e w' ⟨ao, m, c, rfl, R, K⟩
          exact ⟨_, rfl, K, R.sl⟩
        refine steps_cons (fun a w hk hn => ?_) ?_
        · have h74 : Sl w (a.eval (.tmp 74)) (rN) := hn.1
          have h67 : a.eval (.tmp 67) = .bool true := hn.2.1
          clear hn
          refine wants_guard (d := 67) rfl rfl h67 ?_
          exact grown_conv (.tmp 74) _ _ 5 _ rfl h74 Tryd.underlying24 Tryd.underlying5 Tryd.underlying9 (congrArg Value.string (unhide HTN).symm)
        refine steps_cons (fun a w hk hn => ?_) ?_
        · have h71 : a.eval (.tmp 71) = .string TN := hn.1
          have h75 : a.eval (.tmp 75) = .string TN := hn.2.1
          have h67 : a.eval (.tmp 67) = .bool true := hn.2.2.1
          clear hn
          refine wants_guard (d := 67) rfl rfl h67 ?_
          refine grown_run (v := .bool true) ?_ (Kp.refl _ _) rfl
          obtain ⟨ρ, hρ, hc, hf, hg⟩ := eval_is a
          rw [hρ] at h71 h75 ⊢
          simp [go_sem, h71, h75]
        refine steps_cons (fun a w hk hn => ?_) ?_
        · have h67 : a.eval (.tmp 67) = .bool true := hn.1
          have h76 : a.eval (.tmp 76) = .bool true := hn.2.1
          clear hn
          refine wants_plain rfl ?_
          exact grown_pick _ _ _ true rfl h67 h76
        refine steps_cons (fun a w hk hn => ?_) ?_
        · have h77 : a.eval (.tmp 77) = .bool true := hn.1
          clear hn
          refine wants_plain rfl ?_
          exact grown_move (.tmp 77) rfl h77
        refine steps_cons (fun a w hk hn => ?_) ?_
        · have h11 : a.eval (.tmp 11) = .slice a2 m2 c2 := hn.1
          have h78 : a.eval (.tmp 78) = .bool true := hn.2.1
          clear hn
          refine wants_guard (d := 78) rfl rfl h78 ?_
          exact grown_move (.tmp 11) rfl h11
        refine steps_cons (fun a w hk hn => ?_) ?_
        · have h79 : a.eval (.tmp 79) = .slice a2 m2 c2 := hn.1
          have h78 : a.eval (.tmp 78) = .bool true := hn.2.1
          clear hn
          refine wants_guard (d := 78) rfl rfl h78 ?_
          refine grown_call (f := 10) rfl Tryd.func10 (by kernel_rfl) (by kernel_rfl) ?_
          simp only [List.map_toArray, List.map_cons, List.map_nil, h79]
          refine (troot_any ls.length _ ls rl w (unhide HRL) rfl (Nat.le_trans (unhide HLN) (by omega)) (unhide HL8 w hk) (unhide HLM) (unhide HG8 w hk)).mono ?_
          rintro e w' ⟨ao, m, c, rfl, R, K⟩
          exact ⟨_, rfl, K, R.sl⟩
        refine steps_cons (fun a w hk hn => ?_) ?_
        · have h80 : Sl w (a.eval (.tmp 80)) (rl) := hn.1
          have h78 : a.eval (.tmp 78) = .bool true := hn.2.1
          clear hn
          refine wants_guard (d := 78) rfl rfl h78 ?_
          exact grown_conv (.tmp 80) _ _ 5 _ rfl h80 Tryd.underlying24 Tryd.underlying5 Tryd.underlying9 (congrArg Value.string (unhide HTL).symm)
        refine steps_cons (fun a w hk hn => ?_) ?_
        · have h11 : a.eval (.tmp 11) = .slice a2 m2 c2 := hn.1
          have h78 : a.eval (.tmp 78) = .bool true := hn.2.1
          clear hn
          refine wants_guard (d := 78) rfl rfl h78 ?_
          exact grown_move (.tmp 11) rfl h11
        refine steps_cons (fun a w hk hn => ?_) ?_
        · have h82 : a.eval (.tmp 82) = .slice a2 m2 c2 := hn.1
          have h78 : a.eval (.tmp 78) = .bool true := hn.2.1
          clear hn
          refine wants_guard (d := 78) rfl rfl h78 ?_
          refine grown_call (f := 11) rfl Tryd.func11 (by kernel_rfl) (by kernel_rfl) ?_
          simp only [List.map_toArray, List.map_cons, List.map_nil, h82]
          refine (rroot_any ls.length _ ls rl w (unhide HRL) rfl (Nat.le_trans (unhide HLN) (by omega)) (unhide HL8 w hk) (unhide HLM)).mono ?_
          rintro e w' ⟨ao, m, c, rfl, R, K⟩
          exact ⟨_, rfl, K, R⟩
        refine steps_cons (fun a w hk hn => ?_) ?_
        · have h83 : Sl w (a.eval (.tmp 83)) (rl) := hn.1
          have h78 : a.eval (.tmp 78) = .bool true := hn.2.1
          clear hn
          refine wants_guard (d := 78) rfl rfl h78 ?_
          exact grown_conv (.tmp 83) _ _ 5 _ rfl h83 Tryd.underlying24 Tryd.underlying5 Tryd.underlying9 (congrArg Value.string (unhide HTL).symm)
        refine steps_cons (fun a w hk hn => ?_) ?_
        · have h81 : a.eval (.tmp 81) = .string TL := hn.1
          have h84 : a.eval (.tmp 84) = .string TL := hn.2.1
          have h78 : a.eval (.tmp 78) = .bool true := hn.2.2.1
          clear hn
          refine wants_guard (d := 78) rfl rfl h78 ?_
          refine grown_run (v := .bool true) ?_ (Kp.refl _ _) rfl
          obtain ⟨ρ, hρ, hc, hf, hg⟩ := eval_is a
          rw [hρ] at h81 h84 ⊢
          simp [go_sem, h81, h84]
        refine steps_cons (fun a w hk hn => ?_) ?_
        · have h78 : a.eval (.tmp 78) = .bool true := hn.1
          have h85 : a.eval (.tmp 85) = .bool true := hn.2.1
          clear hn
          refine wants_plain rfl ?_
          exact grown_pick _ _ _ true rfl h78 h85
        refine steps_cons (fun a w hk hn => ?_) ?_
        · have h86 : a.eval (.tmp 86) = .bool true := hn.1
          clear hn
          refine wants_plain rfl ?_
          exact grown_move (.tmp 86) rfl h86
        refine steps_cons (fun a w hk hn => ?_) ?_
        · have h0 : a.eval (.tmp 0) = .slice ao1 no1 co1 := hn.1
          have h87 : a.eval (.tmp 87) = .bool true := hn.2.1
          clear hn
          refine wants_guard (d := 87) rfl rfl h87 ?_
          exact grown_move (.tmp 0) rfl h0
        refine steps_cons (fun a w hk hn => ?_) ?_
        · have h88 : a.eval (.tmp 88) = .slice ao1 no1 co1 := hn.1
          have h87 : a.eval (.tmp 87) = .bool true := hn.2.1
          clear hn
          refine wants_guard (d := 87) rfl rfl h87 ?_
          refine grown_call (f := 10) rfl Tryd.func10 (by kernel_rfl) (by kernel_rfl) ?_
          simp only [List.map_toArray, List.map_cons, List.map_nil, h88]
          refine (troot_any fs.length _ fs rf w (unhide HRF) rfl (Nat.le_trans (unhide HFL) (by omega)) (unhide HF8 w hk) (unhide HFM) (unhide HG8 w hk)).mono ?_
          rintro e w' ⟨ao, m, c, rfl, R, K⟩
          exact ⟨_, rfl, K, R.sl⟩
        refine steps_cons (fun a w hk hn => ?_) ?_
        · have h89 : Sl w (a.eval (.tmp 89)) (rf) := hn.1
          have h87 : a.eval (.tmp 87) = .bool true := hn.2.1
          clear hn
          refine wants_guard (d := 87) rfl rfl h87 ?_
          exact grown_conv (.tmp 89) _ _ 5 _ rfl h89 Tryd.underlying24 Tryd.underlying5 Tryd.underlying9 (congrArg Value.string (unhide HTF).symm)
        refine steps_cons (fun a w hk hn => ?_) ?_
        · have h0 : a.eval (.tmp 0) = .slice ao1 no1 co1 := hn.1
          have h87 : a.eval (.tmp 87) = .bool true := hn.2.1
          clear hn
          refine wants_guard (d := 87) rfl rfl h87 ?_
          exact grown_move (.tmp 0) rfl h0
        refine steps_cons (fun a w hk hn => ?_) ?_
        · have h91 : a.eval (.tmp 91) = .slice ao1 no1 co1 := hn.1
          have h87 : a.eval (.tmp 87) = .bool true := hn.2.1
          clear hn
          refine wants_guard (d := 87) rfl rfl h87 ?_
          refine grown_call (f := 11) rfl Tryd.func11 (by kernel_rfl) (by kernel_rfl) ?_
          simp only [List.map_toArray, List.map_cons, List.map_nil, h91]
          refine (rroot_any fs.length _ fs rf w (unhide HRF) rfl (Nat.le_trans (unhide HFL) (by omega)) (unhide HF8 w hk) (unhide HFM)).mono ?_
          rintro e w' ⟨ao, m, c, rfl, R, K⟩
          exact ⟨_, rfl, K, R⟩
        refine steps_cons (fun a w hk hn => ?_) ?_
        · have h92 : Sl w (a.eval (.tmp 92)) (rf) := hn.1
          have h87 : a.eval (.tmp 87) = .bool true := hn.2.1
          clear hn
          refine wants_guard (d := 87) rfl rfl h87 ?_
          exact grown_conv (.tmp 92) _ _ 5 _ rfl h92 Tryd.underlying24 Tryd.underlying5 Tryd.underlying9 (congrArg Value.string (unhide HTF).symm)
        refine steps_cons (fun a w hk hn => ?_) ?_
        · have h90 : a.eval (.tmp 90) = .string TF := hn.1
          have h93 : a.eval (.tmp 93) = .string TF := hn.2.1
          have h87 : a.eval (.tmp 87) = .bool true := hn.2.2.1
          clear hn
          refine wants_guard (d := 87) rfl rfl h87 ?_
          refine grown_run (v := .bool true) ?_ (Kp.refl _ _) rfl
          obtain ⟨ρ, hρ, hc, hf, hg⟩ := eval_is a
          rw [hρ] at h90 h93 ⊢
          simp [go_sem, h90, h93]
        refine steps_cons (fun a w hk hn => ?_) ?_
        · have h87 : a.eval (.tmp 87) = .bool true := hn.1
          have h94 : a.eval (.tmp 94) = .bool true := hn.2.1
          clear hn
          refine wants_plain rfl ?_
          exact grown_pick _ _ _ true rfl h87 h94
        refine steps_cons (fun a w hk hn => ?_) ?_
        · have h95 : a.eval (.tmp 95) = .bool true := hn.1
          clear hn
          refine wants_plain rfl ?_
          exact grown_move (.tmp 95) rfl h95
        refine steps_cons (fun a w hk hn => ?_) ?_
        · have h96 : a.eval (.tmp 96) = .bool true := hn.1
          clear hn
          refine wants_guard (d := 96) rfl rfl h96 ?_
          refine grown_call (f := 15) rfl Tryd.func15 (by kernel_rfl) (by kernel_rfl) ?_
          simp only [List.map_toArray, List.map_nil]
          refine (tknown_any w (unhide HG8 w hk)).mono ?_
          rintro e w' ⟨rfl, K⟩
          exact ⟨_, rfl, K, rfl⟩
        refine steps_cons (fun a w hk hn => ?_) ?_
        · have h96 : a.eval (.tmp 96) = .bool true := hn.1
          have h97 : a.eval (.tmp 97) = .bool true := hn.2.1
          clear hn
          refine wants_plain rfl ?_
          exact grown_pick _ _ _ true rfl h96 h97
        refine steps_cons (fun a w hk hn => ?_) ?_
        · have h98 : a.eval (.tmp 98) = .bool true := hn.1
          clear hn
          refine wants_plain rfl ?_
          exact grown_assign (.tmp 98) rfl h98
        exact trivial
      intro W2 hkW2
      rintro _ rfl
      intro v61 h61
      rintro _ rfl
      rintro _ rfl
      intro v64 h64
      rintro _ rfl
      rintro _ rfl
      rintro _ rfl
      rintro _ rfl
      rintro _ rfl
      intro v70 h70
      rintro _ rfl
      rintro _ rfl
      rintro _ rfl
      intro v74 h74
      rintro _ rfl
      rintro _ rfl
      rintro _ rfl
      rintro _ rfl
      rintro _ rfl
      intro v80 h80
      rintro _ rfl
      rintro _ rfl
      intro v83 h83
      rintro _ rfl
      rintro _ rfl
      rintro _ rfl
      rintro _ rfl
      rintro _ rfl
      intro v89 h89
      rintro _ rfl
      rintro _ rfl
      intro v92 h92
      rintro _ rfl
      rintro _ rfl
      rintro _ rfl
      rintro _ rfl
      rintro _ rfl
      rintro _ rfl
      rintro _ rfl
      refine fin_nil ?_
      simp only [Act.put, List.set_cons_zero, List.set_cons_succ, List.setIfInBounds_toArray]
      go_wp2_with fail
      go_ret
      exact ⟨rfl, ((unhide HK2).trans ((unhide HKW).trans ((kp_drew W1).trans hkW2))).below (Nat.le_refl _) (by simp)⟩

set_option maxRecDepth 100000 in
theorem lifted (os : Os) (started : os.Started) (H : Type) (enc : TypeId × Value → H) :
    ReturnsInHanded {} Tryd.checked os 4 .any (fun w args => (Rows.treeTellsSpec.pre enc Tryd.prog Tryd.f4 [] false w args ∧ laidMetH Tryd.prog laid1 w) ∧ sizedMet enc Tryd.prog Tryd.f4 (OpenSpec.ofChange Rows.treeTellsSpec) false w args) (Rows.treeTellsSpec.post enc Tryd.prog Tryd.f4 false true false false) := by
  refine returnsInHanded_of_change_and (C := Tryd.checked) (X := fun w _ => laidMetH Tryd.prog laid1 w) (fun _ _ _ hh h => h.of_heap hh) own started (by kernel_rfl) Tryd.func4
    (ChangeSpec.witness_shaped (enc := enc) (C := Tryd.checked) (os := os) (X := fun w _ => laidMetH Tryd.prog laid1 w) false (World.doorLaid Tryd.prog 400 os) #[.slice none 0 0, .slice none 0 0, .slice none 0 0, .int .i64 0, .int .i64 0] 8 rfl (World.shaped_of_RefB (by kernel_rfl) (by kernel_rfl)) (by kernel_rfl) (by kernel_rfl) (by kernel_rfl) (door_met os _)) ?_
  intro W base args ds gs before hval0 hW hcnd hsz0 hL _
  have hG := gl_of_laid hL
  have hval : ∀ (j : Nat) t v, Tryd.f4.params[j]? = some t → args[j]? = some v → Value.okWide Tryd.prog W .any base t v := hval0
  have hW' := hW
  obtain ⟨p, q, hA0, hV, rfl, hfz, hnd⟩ := hW
  have hA : DataW.TrodAll enc Tryd.prog W 0 (fun _ => true) true Tryd.f4.params.toList args.toList ds p := hA0
  rw [Tryd.params4] at hA hval
  obtain ⟨v0, vs0, d0, ds0, p0, q0, hargs, rfl, rfl, h0, r0⟩ := trodAll_cons hA
  obtain ⟨v1, vs1, d1, ds1, p1, q1, rfl, rfl, rfl, h1, r1⟩ := trodAll_cons r0
  obtain ⟨v2, vs2, d2, ds2, p2, q2, rfl, rfl, rfl, h2, r2⟩ := trodAll_cons r1
  obtain ⟨v3, vs3, d3, ds3, p3, q3, rfl, rfl, rfl, h3, r3⟩ := trodAll_cons r2
  obtain ⟨v4, vs4, d4, ds4, p4, q4, rfl, rfl, rfl, h4, r4⟩ := trodAll_cons r3
  obtain ⟨rfl, rfl, rfl⟩ := trodAll_nil r4
  obtain rfl : args = #[v0, v1, v2, v3, v4] := by cases args; simp_all
  obtain ⟨rfl, rfl⟩ := trodVars_none hV
  obtain ⟨a0, len0, cap0, rfl⟩ := okWide_slice Tryd.underlying22 (hval 0 22 v0 rfl rfl)
  have k0 := h0
  have lt0 : ∀ x ∈ p0, x.block < W.heap.size := by obtain ⟨m, hm⟩ := k0; exact DataW.trod_lt m _ _ _ hm
  obtain ⟨l0, s0⟩ : ∃ l, Lists W (.slice a0 len0 cap0) l := by
    obtain ⟨fuel, hf⟩ := h0
    exact lists_of_trod (by simpa [Value.cells] using hf)
  obtain ⟨a1, len1, cap1, rfl⟩ := okWide_slice Tryd.underlying24 (hval 1 24 v1 rfl rfl)
  have k1 := h1
  have lt1 : ∀ x ∈ p1, x.block < W.heap.size := by obtain ⟨m, hm⟩ := k1; exact DataW.trod_lt m _ _ _ hm
  obtain ⟨l1, s1, b1⟩ : ∃ bs, Sl W (.slice a1 len1 cap1) bs ∧ Bs bs := by
    obtain ⟨fuel, hf⟩ := h1
    exact bytes_of_trod (by simpa [Value.cells] using hf)
  obtain ⟨a2, len2, cap2, rfl⟩ := okWide_slice Tryd.underlying24 (hval 2 24 v2 rfl rfl)
  have k2 := h2
  have lt2 : ∀ x ∈ p2, x.block < W.heap.size := by obtain ⟨m, hm⟩ := k2; exact DataW.trod_lt m _ _ _ hm
  obtain ⟨l2, s2, b2⟩ : ∃ bs, Sl W (.slice a2 len2 cap2) bs ∧ Bs bs := by
    obtain ⟨fuel, hf⟩ := h2
    exact bytes_of_trod (by simpa [Value.cells] using hf)
  obtain ⟨a3, rfl, rfl, rfl, w3⟩ := open_int Tryd.underlying3 (hval 3 3 v3 rfl rfl) h3
  obtain ⟨a4, rfl, rfl, rfl, w4⟩ := open_int Tryd.underlying3 (hval 4 3 v4 rfl rfl) h4
  clear hA0 hval0
  refine (walk (.slice a0 len0 cap0) l0 (.slice a1 len1 cap1) l1 (.slice a2 len2 cap2) l2 a3 a4 W hG s0 s1 b1 s2 b2 (bounds_i64 w3) (bounds_i64 w4)).mono fun e W' ⟨he, bel⟩ => ?_
  subst he
  exact ⟨_, rfl, _, _, _, [], _, [], hW', trodAll_mk1 (shut_bool Tryd.underlying4 _), (trodAll_cons_mk (Below.trod laidOut (by kernel_rfl) (of_decide_eq_true (by kernel_rfl)) k0 bel lt0) (trodAll_cons_mk (Below.trod laidOut (by kernel_rfl) (of_decide_eq_true (by kernel_rfl)) k1 bel lt1) (trodAll_cons_mk (Below.trod laidOut (by kernel_rfl) (of_decide_eq_true (by kernel_rfl)) k2 bel lt2) (trodAll_cons_mk (shut_int Tryd.underlying3 w3) (trodAll_cons_mk (shut_int Tryd.underlying3 w4) trodAll_mk0))))), rfl, bel.frame _, fun h => by cases h⟩

theorem over : Rows.treeTellsRow.holds Tryd.pinned (OpenSpec.ofChange Rows.treeTellsSpec) :=
  OpenClaim.holds_of_wide 4 Tryd.f4 rfl rfl rfl rfl rfl rfl rfl ⟨rfl, rfl, rfl, rfl, rfl⟩ rfl rfl rfl rfl rfl (by kernel_rfl) Tryd.func4 (by kernel_rfl)
    (of_decide_eq_true (by kernel_rfl)) (by unfold Func.isWrapper; first | (rw [if_pos (by decide +kernel)]; kernel_rfl) | (rw [if_neg (by decide +kernel)]; exact ⟨rfl, rfl⟩))
    (fun os started H enc _ => lifted os started H enc)
end Go.Proofs.YtpiekmflfgpalaaDoor.treeTells

namespace Go.Proofs.YtpiekmflfgpalaaDoor
/-- The given statement: the tied card. -/
theorem TreeTells_holds : Rows.TreeTellsCardSaid :=
  Claim7.holds_tied_plain_at .later [] [.data] true Rows.treeTellsCard.stood.harness false
    treeTells.over (fun _ h => by cases h) (by kernel_rfl) (fun _ h => by cases h) treeTells_row_tie rfl ⟨rfl, rfl⟩ (by kernel_rfl) rfl
    (fun f fn hf hfn => by
      obtain rfl : f = 4 := Option.some.inj ((show Tryd.prog.funcNamed "broadsheet/broadsheetlaw6.TreeTells" = some 4 by kernel_rfl).symm.trans hf) |>.symm
      obtain rfl : fn = Tryd.f4 := (Option.some.inj (Tryd.func4.symm.trans hfn)).symm
      exact ⟨by kernel_rfl, fun j t ht => by
        rw [Tryd.params4] at ht
        have hm : t ∈ ([22, 24, 24, 3, 3] : List TypeId) := by simpa using Array.mem_of_getElem? ht
        have hall : (([22, 24, 24, 3, 3] : List TypeId).all fun u => !Tryd.prog.wantsStandIn u) = true := by kernel_rfl
        exact (show Tryd.prog.wantsStandIn t = false by simpa using List.all_eq_true.1 hall t hm)⟩)
    (by kernel_rfl)
#print axioms TreeTells_holds
end Go.Proofs.YtpiekmflfgpalaaDoor
