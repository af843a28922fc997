/-
  The law's helpers: on, opens, known.
-/
import Derived.Test.YtmpjgbckehnkjaaKJPut
import Derived.Test.YtmpjgbckehnkjaaKJRef
import Derived.Test.YtmpjgbckehnkjaaKRGrowC
namespace Go.Proofs.Ytmpjgbckehnkjaa
open Go.ChangeShapes Go.WideShapes Go.ChangeAt Go.RowKit
open Go.Proofs
open Go.Deep
set_option linter.unusedVariables false

/-- Open, by the bytes. -/
theorem open_at {w0 w : World} {p : Nat} {v : Value} {d : Dk} (h : Nw w0 w p v d) (hd : d.down = false) (ha : d.arm ≤ 0) (b : List Int) (hb : d.bs = b) :
    Calls Try.prog 11 #[.pointer (some ⟨p, 0, none⟩)] w fun e w' =>
      ((opnP b).2.2 = true ∧ ∃ j v' ao m c l, e = .returned (.tuple #[.pointer (some ⟨j, 0, none⟩), .slice ao m c, .int .i64 0]) ∧ Jn w0 w' p v' d.opn j (opnP b).1.length ∧ w.heap.size ≤ j ∧ DSt p w v w' v' ∧ Pj w' w.heap.size (.slice ao m c) l p j v' ∧ l.map (·.2) = (opnP b).1 ∧ m = (opnP b).1.length) ∨
      ((opnP b).2.2 = false ∧ e = .returned (.tuple #[.pointer none, .slice none 0 0, .int .i64 14]) ∧ Nw w0 w' p v d ∧ Kp [] w w') := by
  subst hb
  exact open_any h hd ha
/-- a disk with these bytes, synced. -/
def dkOn (b : List Int) : Dk := ⟨b, b.length, 1048576, 0, false⟩
set_option maxRecDepth 100000 in
set_option maxHeartbeats 2000000 in
theorem on_any (vb : Value) (b : List Int) (w : World) (hS : Sl w vb b) (hB : Bs b) (hl : b.length ≤ 1048576) :
    Calls Try.prog 12 #[vb] w fun e w' => ∃ p v, e = .returned (.pointer (some ⟨p, 0, none⟩)) ∧ Nw w w' p v (dkOn b) := by
  have hN := hide (nw_new 1048576 w (by omega) (by omega))
  have HA : Hid ((dk0 1048576).app b = (true, ⟨b, 0, 1048576, 0, false⟩)) := by
    have h1 := Dk.app_plain (d := dk0 1048576) rfl (Int.le_refl 0) b (by show ((0 + b.length : Nat) : Int) ≤ 1048576; omega)
    exact h1
  have HY : Hid ((⟨b, 0, 1048576, 0, false⟩ : Dk).sync = (true, dkOn b)) := Dk.sync_plain (d := ⟨b, 0, 1048576, 0, false⟩) rfl (Int.le_refl 0)
  have HS := hide (fun w' (k : Kp [] w w') => hS.kept k (by simp))
  have HB := hide hB
  clear hS hB hl
  go_enter Try.func12, Try.ntmps12
  go_wp2_with (first
    | (go_at_call 21; refine hN.out.mono ?_; rintro e w1 ⟨p, rfl, N1⟩; clear hN; have HN1 := hide N1; clear N1)
    | (go_at_call 32; refine (nw_append HN1.out (HS.out w1 HN1.out.kp) HB.out true HA.out 0 rfl).mono ?_; rintro e w2 ⟨rfl, v2, N2, -⟩; have HN2 := hide N2; clear HN1 N2)
    | (go_at_call 33; refine (nw_sync HN2.out true HY.out 0 rfl).mono ?_; rintro e w3 ⟨rfl, N3, -⟩; have HN3 := hide N3; clear HN2 N3))
  go_ret
  exact ⟨p, v2, rfl, HN3.out⟩
set_option maxRecDepth 100000 in
set_option maxHeartbeats 4000000 in
theorem opens_any (vb : Value) (b : List Int) (w : World) (hS : Sl w vb b) (hB : Bs b) (hl : b.length ≤ 8000) :
    Calls Try.prog 10 #[vb] w fun e w' => e = .returned (.bool true) ∧ Kp [] w w' := by
  have HOn := hide (on_any vb b w hS hB (by omega))
  have HS := hide (fun w' (k : Kp [] w w') => hS.kept k (by simp))
  have HB := hide hB
  have HL := hide hl
  obtain ⟨ab, cb, rfl, hcb, -, hab, -⟩ := hS
  obtain ⟨nb, hnb⟩ : ∃ n, n = b.length := ⟨_, rfl⟩
  rw [← hnb] at HOn HS hcb ⊢
  have HNb := hide hnb
  have HAb := hide hab
  have HCb := hide hcb
  clear hB hl hcb hab hnb
  go_enter Try.func10, Try.ntmps10
  go_wp2_with fail
  refine HOn.out.mono ?_
  rintro ee w1 ⟨p, v1, rfl, N1⟩
  have HN1 := hide N1
  have HOp := hide (open_at N1 rfl (Int.le_refl 0) b rfl)
  clear N1 HOn
  go_wp2_with fail
  refine HOp.out.mono ?_
  rintro ee w2 (⟨ht, j, v2, al, m2, cl, l, rfl, J2, hj2, T2, P2, hl2, hm2⟩ | ⟨hf, rfl, N2, K2⟩)
  · have K2 : Kp [] w w2 := J2.nw.kp
    have HK2 := hide K2
    have HRf := hide (refopen_any (.slice ab nb cb) b w2 (HS.out w2 K2) HB.out (by have := HL.out; omega))
    have HJ2 := hide J2
    have HP2 := hide P2
    have HL2 := hide hl2
    have HT2 := hide ht
    have hm2' := hm2
    obtain ⟨kk, hkk⟩ : ∃ k, k = (opnP b).1.length := ⟨_, rfl⟩
    rw [← hkk] at hm2'
    obtain rfl : kk = m2 := hm2'.symm
    have HM2 := hide hkk
    have hat := opnP_at b
    obtain ⟨at_, hat_⟩ : ∃ a, a = (opnP b).2.1 := ⟨_, rfl⟩
    rw [← hat_] at HRf hat
    rw [ht] at HRf
    have HAt := hide hat_
    clear J2 P2 hl2 ht hm2 hj2 T2 K2 HOp hkk hat_
    go_wp2_with fail
    refine HRf.out.mono ?_
    rintro ee w3 ⟨am, m3, cm, lm, rfl, S3, hl3, hm3, K3⟩
    obtain rfl : kk = m3 := by rw [hm3, HM2.out]
    have HS3 := hide S3
    have HL3 := hide hl3
    have HK3 := hide K3
    clear HRf S3 hl3 hm3 K3
    go_wp2_with fail
    obtain ⟨D, hD⟩ : ∃ D, D = b.take at_ := ⟨_, rfl⟩
    obtain ⟨T, hT⟩ : ∃ T, T = strOfNums D := ⟨_, rfl⟩
    have HT := hide hT
    have hbs : (dkOn b).opn.bs = D := by rw [Dk.opn_bs, hD, HAt.out]; rfl
    have hcnt : (opnP b).1.length ≤ 1000 := by have := opnP_count b; have := HL.out; omega
    have KW : ∀ w', Kp [] w3.drew w' → Kp [] w2 w' := fun w' k => (HK3.out.trans (kp_drew w3)).trans k
    have HZ : Hid (∀ w', Kp [] w3.drew w' → Sl w' (.slice ab at_ cb) D) := fun w' k => by rw [hD]; exact (HS.out w' (HK2.out.trans (KW w' k))).take at_ (by have := HNb.out; omega)
    have HD : Hid (∀ w', Kp [] w3.drew w' → DskP w' w.heap.size p v2 (dkOn b).opn) := fun w' k => HJ2.out.nw.dk.keptN (KW w' k)
    have HJn : Hid (∀ w', Kp [] w3.drew w' → Jn w w' p v2 (dkOn b).opn j kk) := fun w' k => by rw [HM2.out]; exact HJ2.out.on (KW w' k)
    have HLl : Hid (∀ w', Kp [] w3.drew w' → Lists w' (.slice al kk cl) l) := fun w' k => (HP2.out.parts.kept (KW w' k)).lists (by have h1 : l.length = (opnP b).1.length := by { have := congrArg List.length HL2.out; simpa using this }; omega)
    have HLr : Hid (∀ w', Kp [] w3.drew w' → Lists w' (.slice am kk cm) lm) := fun w' k => ((HS3.out.kept (kp_drew w3)).kept k).lists (by have h1 : lm.length = (opnP b).1.length := by { have := congrArg List.length HL3.out; simpa using this }; omega)
    have HLM : Hid (l.map (·.2) = lm.map (·.2)) := HL2.out.trans HL3.out.symm
    have hac : at_ ≤ cb := by have := HNb.out; have := HCb.out; omega
    have HKW := hide KW
    have HBS := hide hbs
    clear KW hT hD hcnt hbs
    refine region_grow Try.mixed [Is (.pointer (some ⟨j, 0, none⟩)), Is (.bool true), Is (.bool true), Is (.int .i64 0), Is (.bool true), Is (.bool true), Is (.bool true), Is (.slice al kk cl), Is (.slice am kk cm), Is (.bool true), Is (.bool true), Is (.bool true), Is (.pointer (some ⟨j, 0, none⟩)), Is (.int .i64 kk), Is (.slice am kk cm), Is (.int .i64 kk), Is (.bool true), Is (.bool true), Is (.bool true), Is (.pointer (some ⟨p, 0, none⟩)), SlT (D), Is (.string T), Is (.slice ab nb cb), Is (.int .i64 at_), Is (.slice ab at_ cb), Is (.string T), Is (.bool true), Is (.bool true), Is (.bool true)] [[(4, none)], [(47, some 0)], [(48, some 1)], [(6, none), (49, some 2)], [(50, some 3), (49, some 2)], [(49, some 2), (51, some 4)], [(52, some 5)], [(5, none), (53, some 6)], [(7, none), (53, some 6)], [(54, some 7), (55, some 8), (53, some 6)], [(53, some 6), (56, some 9)], [(57, some 10)], [(4, none), (58, some 11)], [(59, some 12), (58, some 11)], [(7, none), (58, some 11)], [(61, some 14), (58, some 11)], [(60, some 13), (62, some 15), (58, some 11)], [(58, some 11), (63, some 16)], [(64, some 17)], [(3, none), (65, some 18)], [(66, some 19), (65, some 18)], [(67, some 20), (65, some 18)], [(0, none), (65, some 18)], [(8, none), (65, some 18)], [(69, some 22), (70, some 23), (65, some 18)], [(71, some 24), (65, some 18)], [(68, some 21), (72, some 25), (65, some 18)], [(65, some 18), (73, some 26)], [(74, some 27)]] (by kernel_rfl) ?_ ?_ ?_
    · simp only [List.mem_cons, List.not_mem_nil, or_false]
      intro R hR
      rcases hR with rfl | rfl | rfl | rfl | rfl | rfl | rfl | rfl | rfl | rfl | rfl | rfl | rfl | rfl | rfl | rfl | rfl | rfl | rfl | rfl | rfl | rfl | rfl | rfl | rfl | rfl | rfl | rfl | rfl <;> first | exact stable_is _ | exact stable_sl _
    · refine steps_cons (fun a w hk hn => ?_) ?_
      · have h4 : a.eval (.tmp 4) = .pointer (some ⟨j, 0, none⟩) := hn.1
        clear hn
        refine wants_plain rfl ?_
        exact grown_move (.tmp 4) rfl h4
      refine steps_cons (fun a w hk hn => ?_) ?_
      · have h47 : a.eval (.tmp 47) = .pointer (some ⟨j, 0, none⟩) := hn.1
        clear hn
        refine wants_plain rfl ?_
        refine grown_run (v := .bool true) ?_ (Kp.refl _ _) rfl
        obtain ⟨ρ, hρ, hc, hf, hg⟩ := eval_is a
        rw [hρ] at h47 ⊢
        simp [go_sem, hc, h47]
      refine steps_cons (fun a w hk hn => ?_) ?_
      · have h48 : a.eval (.tmp 48) = .bool true := hn.1
        clear hn
        refine wants_plain rfl ?_
        exact grown_move (.tmp 48) rfl h48
      refine steps_cons (fun a w hk hn => ?_) ?_
      · have h6 : a.eval (.tmp 6) = .int .i64 0 := hn.1
        have h49 : a.eval (.tmp 49) = .bool true := hn.2.1
        clear hn
        refine wants_guard (d := 49) rfl rfl h49 ?_
        exact grown_move (.tmp 6) rfl h6
      refine steps_cons (fun a w hk hn => ?_) ?_
      · have h50 : a.eval (.tmp 50) = .int .i64 0 := hn.1
        have h49 : a.eval (.tmp 49) = .bool true := hn.2.1
        clear hn
        refine wants_guard (d := 49) rfl rfl h49 ?_
        refine grown_run (v := .bool true) ?_ (Kp.refl _ _) rfl
        obtain ⟨ρ, hρ, hc, hf, hg⟩ := eval_is a
        rw [hρ] at h50 ⊢
        simp [go_sem, hc, h50]
      refine steps_cons (fun a w hk hn => ?_) ?_
      · have h49 : a.eval (.tmp 49) = .bool true := hn.1
        have h51 : a.eval (.tmp 51) = .bool true := hn.2.1
        clear hn
        refine wants_plain rfl ?_
        exact grown_pick _ _ _ true rfl h49 h51
      refine steps_cons (fun a w hk hn => ?_) ?_
      · have h52 : a.eval (.tmp 52) = .bool true := hn.1
        clear hn
        refine wants_plain rfl ?_
        exact grown_move (.tmp 52) rfl h52
      refine steps_cons (fun a w hk hn => ?_) ?_
      · have h5 : a.eval (.tmp 5) = .slice al kk cl := hn.1
        have h53 : a.eval (.tmp 53) = .bool true := hn.2.1
        clear hn
        refine wants_guard (d := 53) rfl rfl h53 ?_
        exact grown_move (.tmp 5) rfl h5
      refine steps_cons (fun a w hk hn => ?_) ?_
      · have h7 : a.eval (.tmp 7) = .slice am kk cm := hn.1
        have h53 : a.eval (.tmp 53) = .bool true := hn.2.1
        clear hn
        refine wants_guard (d := 53) rfl rfl h53 ?_
        exact grown_move (.tmp 7) rfl h7
      refine steps_cons (fun a w hk hn => ?_) ?_
      · have h54 : a.eval (.tmp 54) = .slice al kk cl := hn.1
        have h55 : a.eval (.tmp 55) = .slice am kk cm := hn.2.1
        have h53 : a.eval (.tmp 53) = .bool true := hn.2.2.1
        clear hn
        refine wants_guard (d := 53) rfl rfl h53 ?_
        refine grown_call (f := 28) rfl Try.func28 (by kernel_rfl) (by kernel_rfl) ?_
        simp only [List.map_toArray, List.map_cons, List.map_nil, h54, h55]
        refine (lists_any _ _ _ _ (unhide HLM) w (unhide HLl w hk) (unhide HLr w hk)).mono ?_
        rintro e w' ⟨rfl, K⟩
        exact ⟨_, rfl, K, rfl⟩
      refine steps_cons (fun a w hk hn => ?_) ?_
      · have h53 : a.eval (.tmp 53) = .bool true := hn.1
        have h56 : a.eval (.tmp 56) = .bool true := hn.2.1
        clear hn
        refine wants_plain rfl ?_
        exact grown_pick _ _ _ true rfl h53 h56
      refine steps_cons (fun a w hk hn => ?_) ?_
      · have h57 : a.eval (.tmp 57) = .bool true := hn.1
        clear hn
        refine wants_plain rfl ?_
        exact grown_move (.tmp 57) rfl h57
      refine steps_cons (fun a w hk hn => ?_) ?_
      · have h4 : a.eval (.tmp 4) = .pointer (some ⟨j, 0, none⟩) := hn.1
        have h58 : a.eval (.tmp 58) = .bool true := hn.2.1
        clear hn
        refine wants_guard (d := 58) rfl rfl h58 ?_
        exact grown_move (.tmp 4) rfl h4
      refine steps_cons (fun a w hk hn => ?_) ?_
      · have h59 : a.eval (.tmp 59) = .pointer (some ⟨j, 0, none⟩) := hn.1
        have h58 : a.eval (.tmp 58) = .bool true := hn.2.1
        clear hn
        refine wants_guard (d := 58) rfl rfl h58 ?_
        refine grown_call (f := 16) rfl Try.func16 (by kernel_rfl) (by kernel_rfl) ?_
        simp only [List.map_toArray, List.map_cons, List.map_nil, h59]
        refine (jcount_any (unhide HJn w hk)).mono ?_
        rintro e w' ⟨rfl, rfl⟩
        exact ⟨_, rfl, Kp.refl _ _, rfl⟩
      refine steps_cons (fun a w hk hn => ?_) ?_
      · have h7 : a.eval (.tmp 7) = .slice am kk cm := hn.1
        have h58 : a.eval (.tmp 58) = .bool true := hn.2.1
        clear hn
        refine wants_guard (d := 58) rfl rfl h58 ?_
        exact grown_move (.tmp 7) rfl h7
      refine steps_cons (fun a w hk hn => ?_) ?_
      · have h61 : a.eval (.tmp 61) = .slice am kk cm := hn.1
        have h58 : a.eval (.tmp 58) = .bool true := hn.2.1
        clear hn
        refine wants_guard (d := 58) rfl rfl h58 ?_
        refine grown_run (v := .int .i64 kk) ?_ (Kp.refl _ _) rfl
        obtain ⟨ρ, hρ, hc, hf, hg⟩ := eval_is a
        rw [hρ] at h61 ⊢
        simp [go_sem, h61]
      refine steps_cons (fun a w hk hn => ?_) ?_
      · have h60 : a.eval (.tmp 60) = .int .i64 kk := hn.1
        have h62 : a.eval (.tmp 62) = .int .i64 kk := hn.2.1
        have h58 : a.eval (.tmp 58) = .bool true := hn.2.2.1
        clear hn
        refine wants_guard (d := 58) rfl rfl h58 ?_
        refine grown_run (v := .bool true) ?_ (Kp.refl _ _) rfl
        obtain ⟨ρ, hρ, hc, hf, hg⟩ := eval_is a
        rw [hρ] at h60 h62 ⊢
        simp [go_sem, h60, h62]
      refine steps_cons (fun a w hk hn => ?_) ?_
      · have h58 : a.eval (.tmp 58) = .bool true := hn.1
        have h63 : a.eval (.tmp 63) = .bool true := hn.2.1
        clear hn
        refine wants_plain rfl ?_
        exact grown_pick _ _ _ true rfl h58 h63
      refine steps_cons (fun a w hk hn => ?_) ?_
      · have h64 : a.eval (.tmp 64) = .bool true := hn.1
        clear hn
        refine wants_plain rfl ?_
        exact grown_move (.tmp 64) rfl h64
      refine steps_cons (fun a w hk hn => ?_) ?_
      · have h3 : a.eval (.tmp 3) = .pointer (some ⟨p, 0, none⟩) := hn.1
        have h65 : a.eval (.tmp 65) = .bool true := hn.2.1
        clear hn
        refine wants_guard (d := 65) rfl rfl h65 ?_
        exact grown_move (.tmp 3) rfl h3
      refine steps_cons (fun a w hk hn => ?_) ?_
      · have h66 : a.eval (.tmp 66) = .pointer (some ⟨p, 0, none⟩) := hn.1
        have h65 : a.eval (.tmp 65) = .bool true := hn.2.1
        clear hn
        refine wants_guard (d := 65) rfl rfl h65 ?_
        refine grown_call (f := 25) rfl Try.func25 (by kernel_rfl) (by kernel_rfl) ?_
        simp only [List.map_toArray, List.map_cons, List.map_nil, h66]
        refine (dbytes_any p v2 _ _ w (unhide HD w hk)).mono ?_
        rintro e w' ⟨ao, m, c, rfl, R, K⟩
        rw [unhide HBS] at R
        exact ⟨_, rfl, K, R.sl⟩
      refine steps_cons (fun a w hk hn => ?_) ?_
      · have h67 : Sl w (a.eval (.tmp 67)) (D) := hn.1
        have h65 : a.eval (.tmp 65) = .bool true := hn.2.1
        clear hn
        refine wants_guard (d := 65) rfl rfl h65 ?_
        exact grown_conv (.tmp 67) _ _ 5 _ rfl h67 Try.underlying22 Try.underlying5 Try.underlying9 (congrArg Value.string (unhide HT).symm)
      refine steps_cons (fun a w hk hn => ?_) ?_
      · have h0 : a.eval (.tmp 0) = .slice ab nb cb := hn.1
        have h65 : a.eval (.tmp 65) = .bool true := hn.2.1
        clear hn
        refine wants_guard (d := 65) rfl rfl h65 ?_
        exact grown_move (.tmp 0) rfl h0
      refine steps_cons (fun a w hk hn => ?_) ?_
      · have h8 : a.eval (.tmp 8) = .int .i64 at_ := hn.1
        have h65 : a.eval (.tmp 65) = .bool true := hn.2.1
        clear hn
        refine wants_guard (d := 65) rfl rfl h65 ?_
        exact grown_move (.tmp 8) rfl h8
      refine steps_cons (fun a w hk hn => ?_) ?_
      · have h69 : a.eval (.tmp 69) = .slice ab nb cb := hn.1
        have h70 : a.eval (.tmp 70) = .int .i64 at_ := hn.2.1
        have h65 : a.eval (.tmp 65) = .bool true := hn.2.2.1
        clear hn
        refine wants_guard (d := 65) rfl rfl h65 ?_
        exact grown_bfirst (.tmp 69) (.tmp 70) rfl ab nb cb at_ h69 h70 (by omega) (unhide HAb)
      refine steps_cons (fun a w hk hn => ?_) ?_
      · have h71 : a.eval (.tmp 71) = .slice ab at_ cb := hn.1
        have h65 : a.eval (.tmp 65) = .bool true := hn.2.1
        clear hn
        refine wants_guard (d := 65) rfl rfl h65 ?_
        exact grown_conv (.tmp 71) _ _ 5 (D) rfl (by rw [h71]; exact unhide HZ w hk) Try.underlying22 Try.underlying5 Try.underlying9 (congrArg Value.string (unhide HT).symm)
      refine steps_cons (fun a w hk hn => ?_) ?_
      · have h68 : a.eval (.tmp 68) = .string T := hn.1
        have h72 : a.eval (.tmp 72) = .string T := hn.2.1
        have h65 : a.eval (.tmp 65) = .bool true := hn.2.2.1
        clear hn
        refine wants_guard (d := 65) rfl rfl h65 ?_
        refine grown_run (v := .bool true) ?_ (Kp.refl _ _) rfl
        obtain ⟨ρ, hρ, hc, hf, hg⟩ := eval_is a
        rw [hρ] at h68 h72 ⊢
        simp [go_sem, h68, h72]
      refine steps_cons (fun a w hk hn => ?_) ?_
      · have h65 : a.eval (.tmp 65) = .bool true := hn.1
        have h73 : a.eval (.tmp 73) = .bool true := hn.2.1
        clear hn
        refine wants_plain rfl ?_
        exact grown_pick _ _ _ true rfl h65 h73
      refine steps_cons (fun a w hk hn => ?_) ?_
      · have h74 : a.eval (.tmp 74) = .bool true := hn.1
        clear hn
        refine wants_plain rfl ?_
        exact grown_assign (.tmp 74) rfl h74
      exact trivial
    intro W1 hkW1
    rintro _ rfl
    rintro _ rfl
    rintro _ rfl
    rintro _ rfl
    rintro _ rfl
    rintro _ rfl
    rintro _ rfl
    rintro _ rfl
    rintro _ rfl
    rintro _ rfl
    rintro _ rfl
    rintro _ rfl
    rintro _ rfl
    rintro _ rfl
    rintro _ rfl
    rintro _ rfl
    rintro _ rfl
    rintro _ rfl
    rintro _ rfl
    rintro _ rfl
    intro v67 h67
    rintro _ rfl
    rintro _ rfl
    rintro _ rfl
    rintro _ rfl
    rintro _ rfl
    rintro _ rfl
    rintro _ rfl
    rintro _ rfl
    refine fin_nil ?_
    simp only [Act.put, List.set_cons_zero, List.set_cons_succ, List.setIfInBounds_toArray]
    go_wp2_with fail
    go_ret
    exact ⟨rfl, HK2.out.trans (HKW.out _ hkW1)⟩
  · have HF := hide hf
    have HK1 : Hid (Kp [] w w2) := HN1.out.kp.trans K2
    have HRf := hide (refopen_any (.slice ab nb cb) b w2 (HS.out w2 HK1.out) HB.out (by have := HL.out; omega))
    rw [hf] at HRf
    have HN2 := hide N2
    clear hf N2 K2 HOp
    go_wp2_with fail
    refine HRf.out.mono ?_
    rintro ee w3 ⟨am, m3, cm, lm, rfl, S3, hl3, hm3, K3⟩
    have HK3 := hide K3
    obtain ⟨at_, hat_⟩ : ∃ a, a = (opnP b).2.1 := ⟨_, rfl⟩
    rw [← hat_]
    clear HRf S3 hl3 hm3 K3 hat_
    go_wp2_with fail
    obtain ⟨T, hT⟩ : ∃ T, T = strOfNums b := ⟨_, rfl⟩
    have HT := hide hT
    have KW : ∀ w', Kp [] w3.drew w' → Kp [] w2 w' := fun w' k => (HK3.out.trans (kp_drew w3)).trans k
    have HZ : Hid (∀ w', Kp [] w3.drew w' → Sl w' (.slice ab nb cb) b) := fun w' k => HS.out w' (HK1.out.trans (KW w' k))
    have HD : Hid (∀ w', Kp [] w3.drew w' → DskP w' w.heap.size p v1 (dkOn b)) := fun w' k => HN2.out.dk.keptN (KW w' k)
    have HKW := hide KW
    clear KW hT
    refine region_grow Try.mixed [Is (.pointer none), Is (.bool true), Is (.bool true), Is (.slice none 0 0), Is (.int .i64 0), Is (.bool true), Is (.bool true), Is (.bool true), Is (.int .i64 14), Is (.bool true), Is (.bool true), Is (.bool true), Is (.pointer (some ⟨p, 0, none⟩)), SlT (b), Is (.string T), Is (.slice ab nb cb), Is (.string T), Is (.bool true), Is (.bool true), Is (.bool true)] [[(4, none)], [(28, some 0)], [(29, some 1)], [(5, none), (30, some 2)], [(31, some 3), (30, some 2)], [(32, some 4), (30, some 2)], [(30, some 2), (33, some 5)], [(34, some 6)], [(6, none), (35, some 7)], [(36, some 8), (35, some 7)], [(35, some 7), (37, some 9)], [(38, some 10)], [(3, none), (39, some 11)], [(40, some 12), (39, some 11)], [(41, some 13), (39, some 11)], [(0, none), (39, some 11)], [(43, some 15), (39, some 11)], [(42, some 14), (44, some 16), (39, some 11)], [(39, some 11), (45, some 17)], [(46, some 18)]] (by kernel_rfl) ?_ ?_ ?_
    · simp only [List.mem_cons, List.not_mem_nil, or_false]
      intro R hR
      rcases hR with rfl | rfl | rfl | rfl | rfl | rfl | rfl | rfl | rfl | rfl | rfl | rfl | rfl | rfl | rfl | rfl | rfl | rfl | rfl | rfl <;> first | exact stable_is _ | exact stable_sl _
    · refine steps_cons (fun a w hk hn => ?_) ?_
      · have h4 : a.eval (.tmp 4) = .pointer none := hn.1
        clear hn
        refine wants_plain rfl ?_
        exact grown_move (.tmp 4) rfl h4
      refine steps_cons (fun a w hk hn => ?_) ?_
      · have h28 : a.eval (.tmp 28) = .pointer none := hn.1
        clear hn
        refine wants_plain rfl ?_
        refine grown_run (v := .bool true) ?_ (Kp.refl _ _) rfl
        obtain ⟨ρ, hρ, hc, hf, hg⟩ := eval_is a
        rw [hρ] at h28 ⊢
        simp [go_sem, hc, h28]
      refine steps_cons (fun a w hk hn => ?_) ?_
      · have h29 : a.eval (.tmp 29) = .bool true := hn.1
        clear hn
        refine wants_plain rfl ?_
        exact grown_move (.tmp 29) rfl h29
      refine steps_cons (fun a w hk hn => ?_) ?_
      · have h5 : a.eval (.tmp 5) = .slice none 0 0 := hn.1
        have h30 : a.eval (.tmp 30) = .bool true := hn.2.1
        clear hn
        refine wants_guard (d := 30) rfl rfl h30 ?_
        exact grown_move (.tmp 5) rfl h5
      refine steps_cons (fun a w hk hn => ?_) ?_
      · have h31 : a.eval (.tmp 31) = .slice none 0 0 := hn.1
        have h30 : a.eval (.tmp 30) = .bool true := hn.2.1
        clear hn
        refine wants_guard (d := 30) rfl rfl h30 ?_
        refine grown_run (v := .int .i64 0) ?_ (Kp.refl _ _) rfl
        obtain ⟨ρ, hρ, hc, hf, hg⟩ := eval_is a
        rw [hρ] at h31 ⊢
        simp [go_sem, h31]
      refine steps_cons (fun a w hk hn => ?_) ?_
      · have h32 : a.eval (.tmp 32) = .int .i64 0 := hn.1
        have h30 : a.eval (.tmp 30) = .bool true := hn.2.1
        clear hn
        refine wants_guard (d := 30) rfl rfl h30 ?_
        refine grown_run (v := .bool true) ?_ (Kp.refl _ _) rfl
        obtain ⟨ρ, hρ, hc, hf, hg⟩ := eval_is a
        rw [hρ] at h32 ⊢
        simp [go_sem, hc, h32]
      refine steps_cons (fun a w hk hn => ?_) ?_
      · have h30 : a.eval (.tmp 30) = .bool true := hn.1
        have h33 : a.eval (.tmp 33) = .bool true := hn.2.1
        clear hn
        refine wants_plain rfl ?_
        exact grown_pick _ _ _ true rfl h30 h33
      refine steps_cons (fun a w hk hn => ?_) ?_
      · have h34 : a.eval (.tmp 34) = .bool true := hn.1
        clear hn
        refine wants_plain rfl ?_
        exact grown_move (.tmp 34) rfl h34
      refine steps_cons (fun a w hk hn => ?_) ?_
      · have h6 : a.eval (.tmp 6) = .int .i64 14 := hn.1
        have h35 : a.eval (.tmp 35) = .bool true := hn.2.1
        clear hn
        refine wants_guard (d := 35) rfl rfl h35 ?_
        exact grown_move (.tmp 6) rfl h6
      refine steps_cons (fun a w hk hn => ?_) ?_
      · have h36 : a.eval (.tmp 36) = .int .i64 14 := hn.1
        have h35 : a.eval (.tmp 35) = .bool true := hn.2.1
        clear hn
        refine wants_guard (d := 35) rfl rfl h35 ?_
        refine grown_run (v := .bool true) ?_ (Kp.refl _ _) rfl
        obtain ⟨ρ, hρ, hc, hf, hg⟩ := eval_is a
        rw [hρ] at h36 ⊢
        simp [go_sem, hc, h36]
      refine steps_cons (fun a w hk hn => ?_) ?_
      · have h35 : a.eval (.tmp 35) = .bool true := hn.1
        have h37 : a.eval (.tmp 37) = .bool true := hn.2.1
        clear hn
        refine wants_plain rfl ?_
        exact grown_pick _ _ _ true rfl h35 h37
      refine steps_cons (fun a w hk hn => ?_) ?_
      · have h38 : a.eval (.tmp 38) = .bool true := hn.1
        clear hn
        refine wants_plain rfl ?_
        exact grown_move (.tmp 38) rfl h38
      refine steps_cons (fun a w hk hn => ?_) ?_
      · have h3 : a.eval (.tmp 3) = .pointer (some ⟨p, 0, none⟩) := hn.1
        have h39 : a.eval (.tmp 39) = .bool true := hn.2.1
        clear hn
        refine wants_guard (d := 39) rfl rfl h39 ?_
        exact grown_move (.tmp 3) rfl h3
      refine steps_cons (fun a w hk hn => ?_) ?_
      · have h40 : a.eval (.tmp 40) = .pointer (some ⟨p, 0, none⟩) := hn.1
        have h39 : a.eval (.tmp 39) = .bool true := hn.2.1
        clear hn
        refine wants_guard (d := 39) rfl rfl h39 ?_
        refine grown_call (f := 25) rfl Try.func25 (by kernel_rfl) (by kernel_rfl) ?_
        simp only [List.map_toArray, List.map_cons, List.map_nil, h40]
        refine (dbytes_any p v1 _ _ w (unhide HD w hk)).mono ?_
        rintro e w' ⟨ao, m, c, rfl, R, K⟩
        exact ⟨_, rfl, K, R.sl⟩
      refine steps_cons (fun a w hk hn => ?_) ?_
      · have h41 : Sl w (a.eval (.tmp 41)) (b) := hn.1
        have h39 : a.eval (.tmp 39) = .bool true := hn.2.1
        clear hn
        refine wants_guard (d := 39) rfl rfl h39 ?_
        exact grown_conv (.tmp 41) _ _ 5 _ rfl h41 Try.underlying22 Try.underlying5 Try.underlying9 (congrArg Value.string (unhide HT).symm)
      refine steps_cons (fun a w hk hn => ?_) ?_
      · have h0 : a.eval (.tmp 0) = .slice ab nb cb := hn.1
        have h39 : a.eval (.tmp 39) = .bool true := hn.2.1
        clear hn
        refine wants_guard (d := 39) rfl rfl h39 ?_
        exact grown_move (.tmp 0) rfl h0
      refine steps_cons (fun a w hk hn => ?_) ?_
      · have h43 : a.eval (.tmp 43) = .slice ab nb cb := hn.1
        have h39 : a.eval (.tmp 39) = .bool true := hn.2.1
        clear hn
        refine wants_guard (d := 39) rfl rfl h39 ?_
        exact grown_conv (.tmp 43) _ _ 5 (b) rfl (by rw [h43]; exact unhide HZ w hk) Try.underlying22 Try.underlying5 Try.underlying9 (congrArg Value.string (unhide HT).symm)
      refine steps_cons (fun a w hk hn => ?_) ?_
      · have h42 : a.eval (.tmp 42) = .string T := hn.1
        have h44 : a.eval (.tmp 44) = .string T := hn.2.1
        have h39 : a.eval (.tmp 39) = .bool true := hn.2.2.1
        clear hn
        refine wants_guard (d := 39) rfl rfl h39 ?_
        refine grown_run (v := .bool true) ?_ (Kp.refl _ _) rfl
        obtain ⟨ρ, hρ, hc, hf, hg⟩ := eval_is a
        rw [hρ] at h42 h44 ⊢
        simp [go_sem, h42, h44]
      refine steps_cons (fun a w hk hn => ?_) ?_
      · have h39 : a.eval (.tmp 39) = .bool true := hn.1
        have h45 : a.eval (.tmp 45) = .bool true := hn.2.1
        clear hn
        refine wants_plain rfl ?_
        exact grown_pick _ _ _ true rfl h39 h45
      refine steps_cons (fun a w hk hn => ?_) ?_
      · have h46 : a.eval (.tmp 46) = .bool true := hn.1
        clear hn
        refine wants_plain rfl ?_
        exact grown_assign (.tmp 46) rfl h46
      exact trivial
    intro W1 hkW1
    rintro _ rfl
    rintro _ rfl
    rintro _ rfl
    rintro _ rfl
    rintro _ rfl
    rintro _ rfl
    rintro _ rfl
    rintro _ rfl
    rintro _ rfl
    rintro _ rfl
    rintro _ rfl
    rintro _ rfl
    rintro _ rfl
    intro v41 h41
    rintro _ rfl
    rintro _ rfl
    rintro _ rfl
    rintro _ rfl
    rintro _ rfl
    rintro _ rfl
    refine fin_nil ?_
    simp only [Act.put, List.set_cons_zero, List.set_cons_succ, List.setIfInBounds_toArray]
    go_wp2_with fail
    go_ret
    exact ⟨rfl, HK1.out.trans (HKW.out _ hkW1)⟩
theorem open_ok {w0 w : World} {p : Nat} {v : Value} {d d' : Dk} (h : Nw w0 w p v d) (hd : d.down = false) (ha : d.arm ≤ 0) {b : List Int} (hb : d.bs = b) {rs : List (List Int)} {at_ : Nat} (ho : opnP b = (rs, at_, true)) (hd' : d.opn = d') :
    Calls Try.prog 11 #[.pointer (some ⟨p, 0, none⟩)] w fun e w' =>
      ∃ j v' ao c l, e = .returned (.tuple #[.pointer (some ⟨j, 0, none⟩), .slice ao rs.length c, .int .i64 0]) ∧ Jn w0 w' p v' d' j rs.length ∧ w.heap.size ≤ j ∧ DSt p w v w' v' ∧ Pj w' w.heap.size (.slice ao rs.length c) l p j v' ∧ l.map (·.2) = rs := by
  refine (open_at h hd ha b hb).mono ?_
  rw [ho, hd']
  rintro e w' (⟨-, j, v', ao, m, c, l, rfl, h1, h2, h3, h4, h5, rfl⟩ | ⟨hf, -⟩)
  · exact ⟨j, v', ao, c, l, rfl, h1, h2, h3, h4, h5⟩
  · cases hf
/-- on the empty disk. -/
theorem opn0 : (dkOn []).opn = dkOn [] := rfl
set_option maxRecDepth 100000 in
set_option maxHeartbeats 4000000 in
theorem jknown_any (w : World) : Calls Try.prog 17 #[] w fun e w' => e = .returned (.bool true) ∧ Kp [] w w' := by
  have HOn := hide (on_any (.slice none 0 0) [] w (Sl.nil w) (fun b hb => by cases hb) (by simp))
  have hB1 : Hid (Bs [97]) := fun b hb => by simp at hb; omega
  have hB2 : Hid (Bs [98]) := fun b hb => by simp at hb; omega
  have HA1 : Hid ((dkOn []).add (recP [97]) = (true, dkOn (recP [97]))) := rfl
  have HA2 : Hid ((dkOn (recP [97])).app (recP [98]) = (true, ⟨recP [97] ++ recP [98], 9, 1048576, 0, false⟩)) := rfl
  have HC : Hid ((⟨recP [97] ++ recP [98], 9, 1048576, 0, false⟩ : Dk).crash 3 = ⟨(recP [97] ++ recP [98]).take 12, 12, 1048576, 0, false⟩) := rfl
  have HO : Hid (opnP ((recP [97] ++ recP [98]).take 12) = ([[97]], 9, true)) := by
    have := opnP_rec [97] ([0, 0, 0]) (by simp)
    rw [opnP_short (b := [0, 0, 0]) (by simp)] at this
    exact this
  have HO2 : Hid ((⟨(recP [97] ++ recP [98]).take 12, 12, 1048576, 0, false⟩ : Dk).opn = dkOn (recP [97])) := by
    have e := HO.out
    show Dk.opn _ = _
    unfold Dk.opn
    simp only [e]
    rfl
  go_enter Try.func17, Try.ntmps17
  go_wp2_with fail
  refine HOn.out.mono ?_
  rintro ee w1 ⟨p, v1, rfl, N1⟩
  have HOp := hide (open_ok N1 rfl (Int.le_refl 0) rfl opnP_nil opn0)
  simp only [List.length_nil] at HOp
  clear N1 HOn
  go_wp2_with fail
  refine HOp.out.mono ?_
  rintro ee w2 ⟨j, v2, al, cl, l, rfl, J2, -, -, -, -⟩
  have HJ2 := hide J2
  clear J2 HOp
  have cv1 := lit_cv w2 [97] 1 rfl
  simp only [List.map_cons, List.map_nil] at cv1
  have HAd := hide (jadd_any (HJ2.out.on ((Kp.refl [] w2).alloc (.cells #[.int .u8 97] 5 (1, 2)))) (lit_sl w2 [97] 1 (1, 2) rfl (by omega)) hB1.out (by simp) (by omega) true HA1.out 0 rfl 1 rfl)
  go_wp2_with (first
    | (go_at_call 13; refine HAd.out.mono ?_; rintro ee w3 ⟨rfl, v3, J3, -⟩; have HJ3 := hide J3; clear HAd J3 HJ2 cv1; have cv2 := lit_cv w3 [98] 1 rfl; simp only [List.map_cons, List.map_nil] at cv2; have HPd := hide (jput_any (HJ3.out.on ((Kp.refl [] w3).alloc (.cells #[.int .u8 98] 5 (1, 2)))) (lit_sl w3 [98] 1 (1, 2) rfl (by omega)) hB2.out (by simp) (by omega) true HA2.out 0 rfl 2 rfl))
    | (go_at_call 14; refine HPd.out.mono ?_; rintro ee w4 ⟨rfl, v4, J4, -⟩; have HJ4 := hide J4; clear HPd J4 HJ3 cv2)
    | (go_at_call 16; refine (jcount_any HJ4.out).mono ?_; rintro ee w5 ⟨rfl, hw⟩; subst w5)
    | (go_at_call 27; refine (nw_crash HJ4.out.nw 3 HC.out).mono ?_; rintro ee w5 ⟨rfl, v5, N5, -⟩; have HN5 := hide N5; clear N5 HJ4; have HOp2 := hide (open_ok HN5.out rfl (Int.le_refl 0) rfl HO.out HO2.out); simp only [List.length_cons, List.length_nil, Nat.zero_add] at HOp2))
  refine HOp2.out.mono ?_
  rintro ee w6 ⟨j6, v6, a6, c6, l6, rfl, J6, -, -, P6, hl6⟩
  have HJ6 := hide J6
  have hL := P6.parts.lists (by have := congrArg List.length hl6; simp at this; omega)
  obtain ⟨x, rfl⟩ : ∃ x, l6 = [(x, [97])] := by
    cases l6 with
    | nil => simp at hl6
    | cons y t =>
      simp only [List.map_cons, List.cons.injEq, List.map_eq_nil_iff] at hl6
      obtain ⟨h1, rfl⟩ := hl6
      exact ⟨y.1, by rw [← h1]⟩
  obtain ⟨al', cl', e', -, hcell⟩ := hL
  injection e' with e1 e2 e3
  subst e1
  obtain ⟨b6, o6, rfl, hc6, hS6, -⟩ := hcell 0 (by simp)
  simp only [List.getElem_cons_zero, Nat.add_zero] at hc6 hS6
  have cv6 := hS6.conv 22 9 5 Try.underlying22 Try.underlying5 Try.underlying9
  rw [show strOfNums [97] = ⟨#[97]⟩ from rfl] at cv6
  obtain ⟨ax, cx, rfl, -⟩ := hS6
  simp only [List.length_cons, List.length_nil, Nat.zero_add] at hc6 cv6
  have HSz := hide (sizen_any p v6 _ _ w6 HJ6.out.nw.dk 9 rfl)
  clear J6 P6 hl6 hcell HOp2 e2 e3 HN5 HC HO HO2
  go_wp2_with (go_at_call 15; refine HSz.out.mono ?_; rintro ee w7 ⟨rfl, hw⟩; subst w7; clear HSz)
  go_ret
  exact ⟨rfl, HJ6.out.nw.kp⟩
end Go.Proofs.Ytmpjgbckehnkjaa
