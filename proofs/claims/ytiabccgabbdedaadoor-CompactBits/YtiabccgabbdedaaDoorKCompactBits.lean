/-
  The statement CompactBitsCardSaid: for every n the law function CompactBits returns true; the tables hash.roundWords, math/bits' deBruijn32tab and deBruijn64tab start as the program's text lays them (tied). No other condition.
-/
import Derived.Test.YtiabccgabbdedaaDoorKCGrow
import Derived.Test.YtiabccgabbdedaaDoorTie
import Derived.Test.YtiabccgabbdedaaDoorCards
import Derived.SevenTiedAt
namespace Go.Proofs.YtiabccgabbdedaaDoor.compactBits
open Go.ChangeShapes Go.WideShapes Go.ChangeAt Go.RowKit
open Go.Proofs.YtiabccgabbdedaaDoor
set_option linter.unusedVariables false

theorem one_root {ls : List (List Int)} (hl : ls.length ≤ 1000) (h : onesP ls.length = 1) : cndP 21 ls = [trootP ls] := by
  have hln : ls.length < 2 ^ 21 := by omega
  have h1 := cndP_len 21 ls hln
  rw [h] at h1
  have h2 := cfoldP_cnd 21 ls hln
  match hc : cndP 21 ls, h1 with
  | [x], _ =>
    rw [hc] at h2
    rw [← h2]
    rfl

set_option maxRecDepth 100000 in
set_option maxHeartbeats 4000000 in
theorem walk (n : Int) (w : World) (hG : Gl w) (hn : -9223372036854775808 ≤ n ∧ n ≤ 9223372036854775807) :
    Calls Tryd.prog 8 #[.int .i64 n] w fun e w' => e = .returned (.bool true) ∧ Below w.heap.size w w' := by
  have HG := hide hG
  have hgn := hG.pos
  have HCW := hide (within_any n 0 130 w (by omega) (by omega) (by omega) hn)
  clear hG hn
  go_enter Tryd.func8, Tryd.ntmps8
  go_wp2_with fail
  refine (unhide HCW).mono ?_
  rintro ee w5 ⟨xi, rfl, hx0, hx1, hw⟩
  subst w5
  obtain ⟨M, rfl⟩ := Int.eq_ofNat_of_zero_le (by omega : 0 ≤ xi)
  have hMN : M ≤ 130 := by omega
  clear HCW hx0 hx1
  go_wp2_with (first
    | (go_at_call 9; refine (gr_new w hgn).mono ?_; rintro e w1 ⟨p, rfl, G1, K1, P1, P2⟩; have HG1 := hide G1; have HK1 := hide K1; clear G1 K1)
    | (go_at_call 10; refine (kleaves_any M w1 (by omega)).mono ?_; rintro e w2 ⟨al, ml, cl, rfl, A2⟩))
  obtain rfl : M = ml := (A2.cap.trans (kleavesP_len M)).symm
  have HG2 := hide (unhide HG1 w2 A2.kp)
  have HGL : Hid (Gl w2) := (unhide HG).kept ((unhide HK1).trans A2.kp) (by simp)
  have HK2 := hide ((unhide HK1).trans A2.kp)
  have HA := hide A2
  clear A2 HG1 HK1
  go_loopw [6] (fun i wr => ∃ k : Nat, k ≤ M ∧ i = .int .i64 k ∧ Gr w2 ((kleavesP M).take k) p wr) (fun i _ => M - (intOf i).toNat)
  case atStart => exact ⟨0, by omega, rfl, by simpa using unhide HG2⟩
  case round =>
    clear HG2
    obtain ⟨k, hk, rfl, hGr⟩ := hrel
    by_cases hlt : k < M
    · have hlt2 : (k : Int) < (M : Int) := by omega
      have hlen := kleavesP_len M
      have hLr := (unhide HA).keptP P2 hGr.kp (by omega)
      have htk : ∀ x ∈ (kleavesP M).take k, x.length ≤ 1000 := fun x hx => kleavesP_le M x (List.mem_of_mem_take hx)
      have hkl : k < (kleavesP M).length := by rw [hlen]; exact hlt
      have hx := List.getElem?_eq_getElem hkl
      have HT := hide (List.take_succ_eq_append_getElem hkl)
      have hxl := kleavesP_le M _ (List.getElem_mem hkl)
      obtain ⟨x, hxx⟩ : ∃ x, x = (kleavesP M)[k] := ⟨_, rfl⟩
      rw [← hxx] at hx hxl HT
      obtain ⟨-, b, off, u, rfl, hc, hS, hB⟩ := hLr.at k x hx
      have HC5 := hide (gr_append w2 ((kleavesP M).take k) p u x wr hGr hS hB hxl (by rw [List.length_take]; omega) htk (unhide HGL))
      rw [← unhide HT] at HC5
      obtain ⟨ax, cx, hux, -⟩ := hS
      obtain ⟨nx, hnx⟩ : ∃ nx, nx = x.length := ⟨_, rfl⟩
      rw [← hnx] at hux
      subst hux
      clear hGr hLr hkl hxx htk hlen hx hB hnx hxl
      go_wp2_with fail
      refine (unhide HC5).mono ?_
      rintro e w6 ⟨rfl, G6⟩
      have HG6 := hide G6
      clear HC5 G6 hc
      go_wp2_with fail
      go_roundw
      case rel => exact ⟨k + 1, by omega, by go_num, unhide HG6⟩
      case measure => simp [intOf]; omega
    · obtain rfl : M = k := by omega
      rw [List.take_of_length_le (by rw [kleavesP_len]; exact Nat.le_refl _)] at hGr
      have HGr := hide hGr
      have HKW : Hid (Kp [] w wr) := (unhide HK2).then hGr.kp (fun i hi => .inr (by simp at hi; omega))
      have HGW : Hid (Gl wr) := hGr.gl (unhide HGL)
      clear hGr hk hlt HA HK2
      obtain ⟨wo, hwo⟩ : ∃ wo, wo = wr := ⟨_, rfl⟩
      subst hwo
      go_wp2_with fail
      go_loopw [7, 8] (fun i j wr => ∃ bn b : Nat, b ≤ M ∧ i = .int .i64 bn ∧ j = .int .i64 b ∧ bn + onesP b = onesP M ∧ wr = wo) (fun _ j _ => (intOf j).toNat)
      case atStart => exact ⟨0, M, Nat.le_refl _, rfl, rfl, by omega, rfl⟩
      case round =>
        obtain ⟨bn, b, hb, rfl, rfl, hab, hw⟩ := hrel
        subst wr
        have hob := onesP_le 8 M (by omega)
        by_cases hb0 : 0 < b
        · have hb0i : (0 : Int) < (b : Int) := by omega
          have hst := onesP_step b
          have HE : Hid (bn + b % 2 + onesP (b / 2) = onesP M) := hide (by omega)
          have hal : bn ≤ 8 := by omega
          clear hab hst hob
          go_wp2_with fail
          go_roundw
          case rel => exact ⟨bn + b % 2, b / 2, by omega, by go_num, by go_num, unhide HE, trivial⟩
          case measure => simp [intOf]; omega
        · obtain rfl : b = 0 := by omega
          rw [onesP_zero, Nat.add_zero] at hab
          have HC := hide (gr_nodes w2 (kleavesP M) p wo (unhide HGr) (by rw [kleavesP_len]; omega) (kleavesP_le M))
          have HAB := hide hab
          clear hab hb hb0
          go_wp2_with fail
          refine (unhide HC).mono ?_
          rintro e w7 ⟨an, mn, cn, rfl, A7⟩
          obtain rfl : bn = mn := by
            rw [A7.cap, cndP_len 21 _ (by rw [kleavesP_len]; omega), kleavesP_len]
            exact unhide HAB
          have G7 := (unhide HGr).mid A7.kp
          have HS7 := hide (gr_size w2 (kleavesP M) p w7 G7 (by rw [kleavesP_len]; omega))
          rw [kleavesP_len] at HS7
          have HL7 := hide (show LcM (cndP 21 (kleavesP M)) (.slice an bn cn) w7 from A7.lc (Nat.le_trans (cnd_small _ (by rw [kleavesP_len]; omega)) (by omega)))
          have HK7 := hide ((unhide HKW).trans A7.kp)
          have HGl7 : Hid (Gl w7) := (unhide HGW).kept A7.kp (by simp)
          have HG7 := hide G7
          clear HC A7 G7 HGr hob
          go_wp2_with (go_at_call 17; refine (unhide HS7).mono ?_; rintro e w8 ⟨rfl, hw8⟩; subst w8)
          clear HS7
          have HRG : Hid (∀ w', Kp [] w7.drew w' → Gr w2 (kleavesP M) p w') := fun w' k' => (unhide HG7).mid ((kp_drew w7).trans k')
          have HGX : Hid (∀ w', Kp [] w7.drew w' → Gl w') := fun w' k' => (unhide HGl7).kept ((kp_drew w7).trans k') (by simp)
          by_cases h1 : bn = 1
          · subst h1
            obtain ⟨r, hr⟩ : ∃ r, r = trootP (kleavesP M) := ⟨_, rfl⟩
            have hcr := one_root (ls := kleavesP M) (by rw [kleavesP_len]; omega) (by rw [kleavesP_len]; exact (unhide HAB).symm)
            rw [← hr] at hcr
            have HR := hide hr
            have HLW : Hid (∀ w', Kp [] w7.drew w' → LcM [r] (.slice an 1 cn) w') := fun w' k' => by
              have h := (unhide HL7).kept ((kp_drew w7).trans k')
              rw [hcr] at h
              exact h
            obtain ⟨S, hSS⟩ : ∃ S, S = strOfNums r := ⟨_, rfl⟩
            have HS := hide hSS
            clear hr hcr hSS HAB
            refine region_grow Tryd.mixed [Is (.int .i64 1), Is (.bool false), Is (.bool false), Is (.slice an 1 cn), PtT (r), SlT (r), Is (.string S), Is (.pointer (some ⟨p, 0, none⟩)), SlT (r), Is (.string S), Is (.bool true), Is (.bool true), Is (.bool true), Is (.bool true), Is (.bool true), Is (.bool true)] [[(7, none)], [(49, some 0)], [(50, some 1)], [(9, none), (51, some 2)], [(52, some 3), (51, some 2)], [(53, some 4), (51, some 2)], [(54, some 5), (51, some 2)], [(4, none), (51, some 2)], [(56, some 7), (51, some 2)], [(57, some 8), (51, some 2)], [(55, some 6), (58, some 9), (51, some 2)], [(51, some 2), (59, some 10)], [(60, some 11)], [(61, some 12)], [(61, some 12), (62, some 13)], [(63, some 14)]] (by kernel_rfl) ?_ ?_ ?_
            · simp only [List.mem_cons, List.not_mem_nil, or_false]
              intro R hR
              rcases hR with rfl | rfl | rfl | rfl | rfl | rfl | rfl | rfl | rfl | rfl | rfl | rfl | rfl | rfl | rfl | rfl <;> first | exact stable_is _ | exact stable_pt _ | exact stable_sl _
            · refine steps_cons (fun a w hk hn => ?_) ?_
              · have h7 : a.eval (.tmp 7) = .int .i64 1 := hn.1
                clear hn
                refine wants_plain rfl ?_
                exact grown_move (.tmp 7) rfl h7
              refine steps_cons (fun a w hk hn => ?_) ?_
              · have h49 : a.eval (.tmp 49) = .int .i64 1 := hn.1
                clear hn
                refine wants_plain rfl ?_
                refine grown_run (v := .bool false) ?_ (Kp.refl _ _) rfl
                obtain ⟨ρ, hρ, hc, hf, hg⟩ := eval_is a
                rw [hρ] at h49 ⊢
                simp [go_sem, hc, h49]
              refine steps_cons (fun a w hk hn => ?_) ?_
              · have h50 : a.eval (.tmp 50) = .bool false := hn.1
                clear hn
                refine wants_plain rfl ?_
                exact grown_move (.tmp 50) rfl h50
              refine steps_cons (fun a w hk hn => ?_) ?_
              · have h9 : a.eval (.tmp 9) = .slice an 1 cn := hn.1
                have h51 : a.eval (.tmp 51) = .bool false := hn.2.1
                clear hn
                refine wants_guard (d := 51) rfl rfl h51 ?_
                exact grown_move (.tmp 9) rfl h9
              refine steps_cons (fun a w hk hn => ?_) ?_
              · have h52 : a.eval (.tmp 52) = .slice an 1 cn := hn.1
                have h51 : a.eval (.tmp 51) = .bool false := hn.2.1
                clear hn
                refine wants_guard (d := 51) rfl rfl h51 ?_
                exact grown_lindex (.tmp 52) _ ([r]) 0 (r) rfl (by rw [h52]; exact unhide HLW w hk) rfl (rfl)
              refine steps_cons (fun a w hk hn => ?_) ?_
              · have h53 : (PtT (r)) (a.eval (.tmp 53)) w := hn.1
                have h51 : a.eval (.tmp 51) = .bool false := hn.2.1
                clear hn
                refine wants_guard (d := 51) rfl rfl h51 ?_
                exact grown_lload (.tmp 53) _ rfl h53
              refine steps_cons (fun a w hk hn => ?_) ?_
              · have h54 : Sl w (a.eval (.tmp 54)) (r) := hn.1
                have h51 : a.eval (.tmp 51) = .bool false := hn.2.1
                clear hn
                refine wants_guard (d := 51) rfl rfl h51 ?_
                exact grown_conv (.tmp 54) _ _ 5 _ rfl h54 Tryd.underlying28 Tryd.underlying5 Tryd.underlying9 (congrArg Value.string (unhide HS).symm)
              refine steps_cons (fun a w hk hn => ?_) ?_
              · have h4 : a.eval (.tmp 4) = .pointer (some ⟨p, 0, none⟩) := hn.1
                have h51 : a.eval (.tmp 51) = .bool false := hn.2.1
                clear hn
                refine wants_guard (d := 51) rfl rfl h51 ?_
                exact grown_move (.tmp 4) rfl h4
              refine steps_cons (fun a w hk hn => ?_) ?_
              · have h56 : a.eval (.tmp 56) = .pointer (some ⟨p, 0, none⟩) := hn.1
                have h51 : a.eval (.tmp 51) = .bool false := hn.2.1
                clear hn
                refine wants_guard (d := 51) rfl rfl h51 ?_
                refine grown_call (f := 19) rfl Tryd.func19 (by kernel_rfl) (by kernel_rfl) ?_
                simp only [List.map_toArray, List.map_cons, List.map_nil, h56]
                refine (gr_root w2 (kleavesP M) p r (unhide HR) w (unhide HRG w hk) (by rw [kleavesP_len]; omega) (kleavesP_le M) (unhide HGL)).mono ?_
                rintro e w' ⟨ao, m, c, rfl, R, K⟩
                exact ⟨_, rfl, K, R.sl⟩
              refine steps_cons (fun a w hk hn => ?_) ?_
              · have h57 : Sl w (a.eval (.tmp 57)) (r) := hn.1
                have h51 : a.eval (.tmp 51) = .bool false := hn.2.1
                clear hn
                refine wants_guard (d := 51) rfl rfl h51 ?_
                exact grown_conv (.tmp 57) _ _ 5 _ rfl h57 Tryd.underlying28 Tryd.underlying5 Tryd.underlying9 (congrArg Value.string (unhide HS).symm)
              refine steps_cons (fun a w hk hn => ?_) ?_
              · have h55 : a.eval (.tmp 55) = .string S := hn.1
                have h58 : a.eval (.tmp 58) = .string S := hn.2.1
                have h51 : a.eval (.tmp 51) = .bool false := hn.2.2.1
                clear hn
                refine wants_guard (d := 51) rfl rfl h51 ?_
                refine grown_run (v := .bool true) ?_ (Kp.refl _ _) rfl
                obtain ⟨ρ, hρ, hc, hf, hg⟩ := eval_is a
                rw [hρ] at h55 h58 ⊢
                simp [go_sem, h55, h58]
              refine steps_cons (fun a w hk hn => ?_) ?_
              · have h51 : a.eval (.tmp 51) = .bool false := hn.1
                have h59 : a.eval (.tmp 59) = .bool true := hn.2.1
                clear hn
                refine wants_plain rfl ?_
                exact grown_pick _ _ _ false rfl h51 h59
              refine steps_cons (fun a w hk hn => ?_) ?_
              · have h60 : a.eval (.tmp 60) = .bool true := hn.1
                clear hn
                refine wants_plain rfl ?_
                exact grown_move (.tmp 60) rfl h60
              refine steps_cons (fun a w hk hn => ?_) ?_
              · have h61 : a.eval (.tmp 61) = .bool true := hn.1
                clear hn
                refine wants_guard (d := 61) rfl rfl h61 ?_
                refine grown_call (f := 14) rfl Tryd.func14 (by kernel_rfl) (by kernel_rfl) ?_
                simp only [List.map_toArray, List.map_nil]
                refine (known_any w (unhide HGX w hk)).mono ?_
                rintro e w' ⟨rfl, K⟩
                exact ⟨_, rfl, K, rfl⟩
              refine steps_cons (fun a w hk hn => ?_) ?_
              · have h61 : a.eval (.tmp 61) = .bool true := hn.1
                have h62 : a.eval (.tmp 62) = .bool true := hn.2.1
                clear hn
                refine wants_plain rfl ?_
                exact grown_pick _ _ _ true rfl h61 h62
              refine steps_cons (fun a w hk hn => ?_) ?_
              · have h63 : a.eval (.tmp 63) = .bool true := hn.1
                clear hn
                refine wants_plain rfl ?_
                exact grown_assign (.tmp 63) rfl h63
              exact trivial
            intro W1 hkW1
            rintro _ rfl
            rintro _ rfl
            rintro _ rfl
            rintro _ rfl
            intro v53 h53
            intro v54 h54
            rintro _ rfl
            rintro _ rfl
            intro v57 h57
            rintro _ rfl
            rintro _ rfl
            rintro _ rfl
            rintro _ rfl
            rintro _ rfl
            rintro _ rfl
            rintro _ rfl
            refine fin_nil ?_
            simp only [Act.put, List.set_cons_zero, List.set_cons_succ, List.setIfInBounds_toArray]
            have HK8 := hide ((unhide HK7).trans ((kp_drew w7).trans hkW1))
            clear h53 h54 h57 hkW1 HRG HLW HGX
            go_wp2_with fail
            go_ret
            exact ⟨rfl, (unhide HK8).below (Nat.le_refl _) (by simp)⟩
          · have h1i : ¬ (bn : Int) = 1 := by omega
            clear h1
            refine region_grow Tryd.mixed [Is (.int .i64 bn), Is (.bool true), Is (.bool true), Is (undef), Is (undef), Is (undef), Is (undef), Is (undef), Is (undef), Is (undef), Is (undef), Is (.bool true), Is (.bool true), Is (.bool true), Is (.bool true), Is (.bool true)] [[(7, none)], [(49, some 0)], [(50, some 1)], [(9, none), (51, some 2)], [(52, some 3), (51, some 2)], [(53, some 4), (51, some 2)], [(54, some 5), (51, some 2)], [(4, none), (51, some 2)], [(56, some 7), (51, some 2)], [(57, some 8), (51, some 2)], [(55, some 6), (58, some 9), (51, some 2)], [(51, some 2), (59, some 10)], [(60, some 11)], [(61, some 12)], [(61, some 12), (62, some 13)], [(63, some 14)]] (by kernel_rfl) ?_ ?_ ?_
            · simp only [List.mem_cons, List.not_mem_nil, or_false]
              intro R hR
              rcases hR with rfl | rfl | rfl | rfl | rfl | rfl | rfl | rfl | rfl | rfl | rfl | rfl | rfl | rfl | rfl | rfl <;> first | exact stable_is _
            · refine steps_cons (fun a w hk hn => ?_) ?_
              · have h7 : a.eval (.tmp 7) = .int .i64 bn := hn.1
                clear hn
                refine wants_plain rfl ?_
                exact grown_move (.tmp 7) rfl h7
              refine steps_cons (fun a w hk hn => ?_) ?_
              · have h49 : a.eval (.tmp 49) = .int .i64 bn := hn.1
                clear hn
                refine wants_plain rfl ?_
                refine grown_run (v := .bool true) ?_ (Kp.refl _ _) rfl
                obtain ⟨ρ, hρ, hc, hf, hg⟩ := eval_is a
                rw [hρ] at h49 ⊢
                simp [go_sem, hc, h49, h1i]
              refine steps_cons (fun a w hk hn => ?_) ?_
              · have h50 : a.eval (.tmp 50) = .bool true := hn.1
                clear hn
                refine wants_plain rfl ?_
                exact grown_move (.tmp 50) rfl h50
              refine steps_cons (fun a w hk hn => ?_) ?_
              · have h9 : a.eval (.tmp 9) = .slice an bn cn := hn.1
                have h51 : a.eval (.tmp 51) = .bool true := hn.2.1
                clear hn
                exact wants_not (d := 51) rfl rfl h51 rfl
              refine steps_cons (fun a w hk hn => ?_) ?_
              · have h52 : a.eval (.tmp 52) = undef := hn.1
                have h51 : a.eval (.tmp 51) = .bool true := hn.2.1
                clear hn
                exact wants_not (d := 51) rfl rfl h51 rfl
              refine steps_cons (fun a w hk hn => ?_) ?_
              · have h53 : a.eval (.tmp 53) = undef := hn.1
                have h51 : a.eval (.tmp 51) = .bool true := hn.2.1
                clear hn
                exact wants_not (d := 51) rfl rfl h51 rfl
              refine steps_cons (fun a w hk hn => ?_) ?_
              · have h54 : a.eval (.tmp 54) = undef := hn.1
                have h51 : a.eval (.tmp 51) = .bool true := hn.2.1
                clear hn
                exact wants_not (d := 51) rfl rfl h51 rfl
              refine steps_cons (fun a w hk hn => ?_) ?_
              · have h4 : a.eval (.tmp 4) = .pointer (some ⟨p, 0, none⟩) := hn.1
                have h51 : a.eval (.tmp 51) = .bool true := hn.2.1
                clear hn
                exact wants_not (d := 51) rfl rfl h51 rfl
              refine steps_cons (fun a w hk hn => ?_) ?_
              · have h56 : a.eval (.tmp 56) = undef := hn.1
                have h51 : a.eval (.tmp 51) = .bool true := hn.2.1
                clear hn
                exact wants_not (d := 51) rfl rfl h51 rfl
              refine steps_cons (fun a w hk hn => ?_) ?_
              · have h57 : a.eval (.tmp 57) = undef := hn.1
                have h51 : a.eval (.tmp 51) = .bool true := hn.2.1
                clear hn
                exact wants_not (d := 51) rfl rfl h51 rfl
              refine steps_cons (fun a w hk hn => ?_) ?_
              · have h55 : a.eval (.tmp 55) = undef := hn.1
                have h58 : a.eval (.tmp 58) = undef := hn.2.1
                have h51 : a.eval (.tmp 51) = .bool true := hn.2.2.1
                clear hn
                exact wants_not (d := 51) rfl rfl h51 rfl
              refine steps_cons (fun a w hk hn => ?_) ?_
              · have h51 : a.eval (.tmp 51) = .bool true := hn.1
                have h59 : a.eval (.tmp 59) = undef := hn.2.1
                clear hn
                refine wants_plain rfl ?_
                exact grown_pick _ _ _ true rfl h51 rfl
              refine steps_cons (fun a w hk hn => ?_) ?_
              · have h60 : a.eval (.tmp 60) = .bool true := hn.1
                clear hn
                refine wants_plain rfl ?_
                exact grown_move (.tmp 60) rfl h60
              refine steps_cons (fun a w hk hn => ?_) ?_
              · have h61 : a.eval (.tmp 61) = .bool true := hn.1
                clear hn
                refine wants_guard (d := 61) rfl rfl h61 ?_
                refine grown_call (f := 14) rfl Tryd.func14 (by kernel_rfl) (by kernel_rfl) ?_
                simp only [List.map_toArray, List.map_nil]
                refine (known_any w (unhide HGX w hk)).mono ?_
                rintro e w' ⟨rfl, K⟩
                exact ⟨_, rfl, K, rfl⟩
              refine steps_cons (fun a w hk hn => ?_) ?_
              · have h61 : a.eval (.tmp 61) = .bool true := hn.1
                have h62 : a.eval (.tmp 62) = .bool true := hn.2.1
                clear hn
                refine wants_plain rfl ?_
                exact grown_pick _ _ _ true rfl h61 h62
              refine steps_cons (fun a w hk hn => ?_) ?_
              · have h63 : a.eval (.tmp 63) = .bool true := hn.1
                clear hn
                refine wants_plain rfl ?_
                exact grown_assign (.tmp 63) rfl h63
              exact trivial
            intro W1 hkW1
            rintro _ rfl
            rintro _ rfl
            rintro _ rfl
            rintro _ rfl
            rintro _ rfl
            rintro _ rfl
            rintro _ rfl
            rintro _ rfl
            rintro _ rfl
            rintro _ rfl
            rintro _ rfl
            rintro _ rfl
            rintro _ rfl
            rintro _ rfl
            rintro _ rfl
            rintro _ rfl
            refine fin_nil ?_
            simp only [Act.put, List.set_cons_zero, List.set_cons_succ, List.setIfInBounds_toArray]
            have HK8 := hide ((unhide HK7).trans ((kp_drew w7).trans hkW1))
            clear hkW1 HRG HGX
            go_wp2_with fail
            go_ret
            exact ⟨rfl, (unhide HK8).below (Nat.le_refl _) (by simp)⟩
set_option maxRecDepth 100000 in
theorem lifted (os : Os) (started : os.Started) (H : Type) (enc : TypeId × Value → H) :
    ReturnsInHanded {} Tryd.checked os 8 .any (fun w args => (Rows.compactBitsSpec.pre enc Tryd.prog Tryd.f8 [] false w args ∧ laidMetH Tryd.prog laid1 w) ∧ sizedMet enc Tryd.prog Tryd.f8 (OpenSpec.ofChange Rows.compactBitsSpec) false w args) (Rows.compactBitsSpec.post enc Tryd.prog Tryd.f8 false true false false) := by
  refine returnsInHanded_of_change_and (C := Tryd.checked) (X := fun w _ => laidMetH Tryd.prog laid1 w) (fun _ _ _ hh h => h.of_heap hh) own started (by kernel_rfl) Tryd.func8
    (ChangeSpec.witness_shaped (enc := enc) (C := Tryd.checked) (os := os) (X := fun w _ => laidMetH Tryd.prog laid1 w) false (World.doorLaid Tryd.prog 400 os) #[.int .i64 0] 8 rfl (World.shaped_of_RefB (by kernel_rfl) (by kernel_rfl)) (by kernel_rfl) (by kernel_rfl) (by kernel_rfl) (door_met os _)) ?_
  intro W base args ds gs before hval0 hW hcnd hsz0 hL _
  have hG := gl_of_laid hL
  have hval : ∀ (j : Nat) t v, Tryd.f8.params[j]? = some t → args[j]? = some v → Value.okWide Tryd.prog W .any base t v := hval0
  have hW' := hW
  obtain ⟨p, q, hA0, hV, rfl, hfz, hnd⟩ := hW
  have hA : DataW.TrodAll enc Tryd.prog W 0 (fun _ => true) true Tryd.f8.params.toList args.toList ds p := hA0
  rw [Tryd.params8] at hA hval
  obtain ⟨v0, vs0, d0, ds0, p0, q0, hargs, rfl, rfl, h0, r0⟩ := trodAll_cons hA
  obtain ⟨rfl, rfl, rfl⟩ := trodAll_nil r0
  obtain rfl : args = #[v0] := by cases args; simp_all
  obtain ⟨rfl, rfl⟩ := trodVars_none hV
  obtain ⟨a0, rfl, rfl, rfl, w0⟩ := open_int Tryd.underlying3 (hval 0 3 v0 rfl rfl) h0
  clear hA0 hval0
  refine (walk a0 W hG (bounds_i64 w0)).mono fun e W' ⟨he, bel⟩ => ?_
  subst he
  exact ⟨_, rfl, _, _, _, [], _, [], hW', trodAll_mk1 (shut_bool Tryd.underlying4 _), (trodAll_cons_mk (shut_int Tryd.underlying3 w0) trodAll_mk0), rfl, bel.frame _, fun h => by cases h⟩

theorem over : Rows.compactBitsRow.holds Tryd.pinned (OpenSpec.ofChange Rows.compactBitsSpec) :=
  OpenClaim.holds_of_wide 8 Tryd.f8 rfl rfl rfl rfl rfl rfl rfl ⟨rfl, rfl, rfl, rfl, rfl⟩ rfl rfl rfl rfl rfl (by kernel_rfl) Tryd.func8 (by kernel_rfl)
    (of_decide_eq_true (by kernel_rfl)) (by unfold Func.isWrapper; first | (rw [if_pos (by decide +kernel)]; kernel_rfl) | (rw [if_neg (by decide +kernel)]; exact ⟨rfl, rfl⟩))
    (fun os started H enc _ => lifted os started H enc)
end Go.Proofs.YtiabccgabbdedaaDoor.compactBits

namespace Go.Proofs.YtiabccgabbdedaaDoor
/-- The given statement: the tied card. -/
theorem CompactBits_holds : Rows.CompactBitsCardSaid :=
  Claim7.holds_tied_plain_at .later [] [.data, .data, .data] true Rows.compactBitsCard.stood.harness false
    compactBits.over (fun _ h => by cases h) (by kernel_rfl) (fun _ h => by cases h) compactBits_row_tie rfl ⟨rfl, rfl⟩ (by kernel_rfl) rfl
    (fun f fn hf hfn => by
      obtain rfl : f = 8 := Option.some.inj ((show Tryd.prog.funcNamed "broadsheet/broadsheetlaw7.CompactBits" = some 8 by kernel_rfl).symm.trans hf) |>.symm
      obtain rfl : fn = Tryd.f8 := (Option.some.inj (Tryd.func8.symm.trans hfn)).symm
      exact ⟨by kernel_rfl, fun j t ht => by
        rw [Tryd.params8] at ht
        have hm : t ∈ ([3] : List TypeId) := by simpa using Array.mem_of_getElem? ht
        have hall : (([3] : List TypeId).all fun u => !Tryd.prog.wantsStandIn u) = true := by kernel_rfl
        exact (show Tryd.prog.wantsStandIn t = false by simpa using List.all_eq_true.1 hall t hm)⟩)
    (by kernel_rfl)
#print axioms CompactBits_holds
end Go.Proofs.YtiabccgabbdedaaDoor
