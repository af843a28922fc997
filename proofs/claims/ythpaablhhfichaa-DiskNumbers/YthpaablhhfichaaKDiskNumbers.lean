/-
  DiskNumbers: chapter 12's runs, power that goes at each call, whatever is kept.
-/
import Derived.Test.YthpaablhhfichaaKDNum
import Derived.ShutString
import Derived.ChangeOld
import Derived.Below
namespace Go.Proofs.Ythpaablhhfichaa.diskNumbers
open Go.ChangeShapes Go.WideShapes Go.ChangeAt Go.RowKit
open Go.Proofs.Ythpaablhhfichaa
set_option linter.unusedVariables false

theorem own : ownKnob Try.prog.godebug = none := by kernel_rfl
theorem laidOut : laidOutB Try.prog = true := by kernel_rfl
set_option maxHeartbeats 8000000 in
set_option maxRecDepth 100000 in
theorem walk (w : World) :
    Calls Try.prog 3 #[] w fun e w' => e = .returned (.bool true) ∧ Below w.heap.size w w' := by
  go_enter Try.func3, Try.ntmps3
  go_wp2_with fail
  have hin : ∀ k : Nat, k < 5 → ∃ x : Int, (w.alloc (.cells #[.int .i64 (-1), .int .i64 0, .int .i64 1, .int .i64 1048576, .int .i64 1048577] 3)).cell? ⟨w.heap.size, k, none⟩ = some (.int .i64 x) := fun k hk => by
    rw [cell_of_row _ w.heap.size k _ _ _ (heap_alloc_new w _)]
    rcases (by omega : k = 0 ∨ k = 1 ∨ k = 2 ∨ k = 3 ∨ k = 4) with rfl | rfl | rfl | rfl | rfl
    all_goals exact ⟨_, rfl⟩
  have k1 := (Kp.refl [] w).alloc (.cells #[.int .i64 (-1), .int .i64 0, .int .i64 1, .int .i64 1048576, .int .i64 1048577] 3)
  obtain ⟨w1, hw1⟩ : ∃ w1, w1 = w.alloc (.cells #[.int .i64 (-1), .int .i64 0, .int .i64 1, .int .i64 1048576, .int .i64 1048577] 3) := ⟨_, rfl⟩
  obtain ⟨g, hg⟩ : ∃ g, g = w.heap.size := ⟨_, rfl⟩
  rw [← hw1, ← hg] at hin
  rw [← hw1] at k1
  rw [← hw1]
  rw [← hg]
  have HIN := hide hin
  have HK1 := hide k1
  clear hw1 hg hin k1
  go_loopw [10] (fun i wr => ∃ k : Nat, k ≤ 5 ∧ i = .int .i64 k ∧ Kp [] w1 wr) (fun i _ => 5 - (intOf i).toNat)
  case atStart => exact ⟨0, by omega, rfl, Kp.refl _ _⟩
  case round =>
    obtain ⟨k, hk, rfl, Kr⟩ := hrel
    have HKr := hide Kr
    clear Kr
    by_cases hlt : k < 5
    · have hlt2 : (k : Int) < 5 := by omega
      obtain ⟨x, hx⟩ := HIN.out k hlt
      have hxr := HKr.out.cell hx (by simp)
      clear hx
      have hgl : g + 0 = g := rfl
      have h3 : x < 0 ∨ (¬ x < 0 ∧ 1048576 < x) ∨ (0 ≤ x ∧ x ≤ 1048576) := by omega
      clear hgl
      rcases h3 with h3 | ⟨h3, h4⟩ | ⟨h3, h4⟩
      · have HN := hide (new_no x wr (.inl h3))
        have h5 : ¬ 0 ≤ x := by omega
        go_wp2_with (go_at_call 9; refine HN.out.mono ?_; rintro e w2 ⟨rfl, hw⟩; subst w2; clear HN)
        go_roundw
        case rel => exact ⟨k + 1, by omega, by go_num, HKr.out⟩
        case measure => simp [intOf]; omega
      · have HN := hide (new_no x wr (.inr h4))
        have h5 : 0 ≤ x := by omega
        have h6 : ¬ x ≤ 1048576 := by omega
        go_wp2_with (go_at_call 9; refine HN.out.mono ?_; rintro e w2 ⟨rfl, hw⟩; subst w2; clear HN)
        go_roundw
        case rel => exact ⟨k + 1, by omega, by go_num, HKr.out⟩
        case measure => simp [intOf]; omega
      · have HN := hide (nw_new x wr h3 h4)
        go_wp2_with (go_at_call 9; refine HN.out.mono ?_; rintro e w2 ⟨p, rfl, N2⟩; clear HN; have HK2 := hide (HKr.out.trans N2.kp); clear N2)
        go_roundw
        case rel => exact ⟨k + 1, by omega, by go_num, HK2.out⟩
        case measure => simp [intOf]; omega
    · obtain rfl : k = 5 := by omega
      have HW := hide (HK1.out.trans HKr.out)
      clear HKr HIN HK1 hlt hk
      go_wp2_with fail
      go_loopw [6] (fun i wr => ∃ k : Nat, k ≤ 9 ∧ i = .int .i64 k ∧ Kp [] w wr) (fun i _ => 9 - (intOf i).toNat)
      case atStart => exact ⟨0, by omega, rfl, HW.out⟩
      case round =>
        obtain ⟨ka, hka, rfl, Ka⟩ := hrel
        have HKa := hide Ka
        clear Ka HW
        by_cases hlt : ka < 9
        · have hlt2 : (ka : Int) < 9 := by omega
          go_wp2_with fail
          go_loopw [7] (fun i wr => ∃ kp : Int, -1 ≤ kp ∧ kp ≤ 5 ∧ i = .int .i64 kp ∧ Kp [] w wr) (fun i _ => (5 - intOf i).toNat)
          case atStart => exact ⟨-1, by omega, by omega, rfl, HKa.out⟩
          case round =>
            obtain ⟨kp, hk0, hk1, rfl, Kq⟩ := hrel
            have HKq := hide Kq
            clear Kq
            by_cases hlt5 : kp < 5
            · go_wp2_with fail
              refine region_growC Try.mixed [Is (.int .i64 ka), AkT, LitT wr.drew.heap.size [97, 98, 99], SlT ([97, 98, 99]), AkT, AkT, LitT wr.drew.heap.size [100, 101, 102, 103], SlT ([100, 101, 102, 103]), AkT, AkT, AkT, LitT wr.drew.heap.size [104, 105, 106], SlT ([104, 105, 106]), AkT, SlT (List.replicate 13 0), AkT, AkT, AkT, Is (.int .i64 kp), AkT, LitT wr.drew.heap.size [107], SlT ([107]), AkT, AkT, AkT, SlT (List.replicate 13 0), AkT, AkT, AkT, AlT, Is (.bool true), Is (.bool false)] [[(6, none)], [(52, some 0)], [], [(54, some 2)], [(55, some 3)], [], [], [(58, some 6)], [(59, some 7)], [], [], [], [(63, some 11)], [(64, some 12)], [], [(66, some 14)], [], [], [(7, none)], [(70, some 18)], [], [(72, some 20)], [(73, some 21)], [], [], [], [(77, some 25)], [], [], [(53, some 1), (56, some 4), (57, some 5), (60, some 8), (61, some 9), (62, some 10), (65, some 13), (67, some 15), (68, some 16), (69, some 17), (71, some 19), (74, some 22), (75, some 23), (76, some 24), (78, some 26), (79, some 27), (80, some 28)], [(81, some 29)], [(82, some 30)]] (by kernel_rfl) ?_ ?_ ?_
              · simp only [List.mem_cons, List.not_mem_nil, or_false]
                intro R hR
                rcases hR with rfl | rfl | rfl | rfl | rfl | rfl | rfl | rfl | rfl | rfl | rfl | rfl | rfl | rfl | rfl | rfl | rfl | rfl | rfl | rfl | rfl | rfl | rfl | rfl | rfl | rfl | rfl | rfl | rfl | rfl | rfl | rfl <;> first | exact stableC_is _ | exact stableC_ak | exact stableC_lit _ _ | exact stableC_sl _ | exact stableC_al
              · refine steps_consC (fun a w hk hn => ?_) ?_
                · have h6 : a.eval (.tmp 6) = .int .i64 ka := hn.1
                  clear hn
                  refine wantsC_of hk ?_
                  refine wants_plain rfl ?_
                  exact grown_move (.tmp 6) rfl h6
                refine steps_consC (fun a w hk hn => ?_) ?_
                · have h52 : a.eval (.tmp 52) = .int .i64 ka := hn.1
                  clear hn
                  refine wantsC_of hk ?_
                  refine wants_plain rfl ?_
                  exact grown_ak1 4 ka _ (.tmp 52) rfl rfl h52 (by omega)
                refine steps_consC (fun a w hk hn => ?_) ?_
                · clear hn
                  refine wantsC_of hk ?_
                  refine wants_plain rfl ?_
                  refine grown_lit hk [97, 98, 99] ?_ (by simp [maxLen])
                  obtain ⟨ρ, hρ, hc, hf, hg⟩ := eval_is a
                  rw [hρ]
                  simp [go_sem, hc]
                refine steps_consC (fun a w hk hn => ?_) ?_
                · have h54 : (LitT wr.drew.heap.size [97, 98, 99]) (a.eval (.tmp 54)) w := hn.1
                  clear hn
                  exact wantsC_lit hk (by rfl) (.tmp 54) rfl [97, 98, 99] h54
                refine steps_consC (fun a w hk hn => ?_) ?_
                · have h55 : Sl w (a.eval (.tmp 55)) ([97, 98, 99]) := hn.1
                  clear hn
                  refine wantsC_of hk ?_
                  refine wants_plain rfl ?_
                  exact grown_ak2 1 [97, 98, 99] _ (.tmp 55) rfl rfl h55 (bs_lit _ (by decide))
                refine steps_consC (fun a w hk hn => ?_) ?_
                · clear hn
                  refine wantsC_of hk ?_
                  refine wants_plain rfl ?_
                  exact grown_ak0 2 _ rfl rfl
                refine steps_consC (fun a w hk hn => ?_) ?_
                · clear hn
                  refine wantsC_of hk ?_
                  refine wants_plain rfl ?_
                  refine grown_lit hk [100, 101, 102, 103] ?_ (by simp [maxLen])
                  obtain ⟨ρ, hρ, hc, hf, hg⟩ := eval_is a
                  rw [hρ]
                  simp [go_sem, hc]
                refine steps_consC (fun a w hk hn => ?_) ?_
                · have h58 : (LitT wr.drew.heap.size [100, 101, 102, 103]) (a.eval (.tmp 58)) w := hn.1
                  clear hn
                  exact wantsC_lit hk (by rfl) (.tmp 58) rfl [100, 101, 102, 103] h58
                refine steps_consC (fun a w hk hn => ?_) ?_
                · have h59 : Sl w (a.eval (.tmp 59)) ([100, 101, 102, 103]) := hn.1
                  clear hn
                  refine wantsC_of hk ?_
                  refine wants_plain rfl ?_
                  exact grown_ak2 1 [100, 101, 102, 103] _ (.tmp 59) rfl rfl h59 (bs_lit _ (by decide))
                refine steps_consC (fun a w hk hn => ?_) ?_
                · clear hn
                  refine wantsC_of hk ?_
                  refine wants_plain rfl ?_
                  exact grown_ak1 3 99 _ _ rfl rfl rfl (by omega)
                refine steps_consC (fun a w hk hn => ?_) ?_
                · clear hn
                  refine wantsC_of hk ?_
                  refine wants_plain rfl ?_
                  exact grown_ak1 3 5 _ _ rfl rfl rfl (by omega)
                refine steps_consC (fun a w hk hn => ?_) ?_
                · clear hn
                  refine wantsC_of hk ?_
                  refine wants_plain rfl ?_
                  refine grown_lit hk [104, 105, 106] ?_ (by simp [maxLen])
                  obtain ⟨ρ, hρ, hc, hf, hg⟩ := eval_is a
                  rw [hρ]
                  simp [go_sem, hc]
                refine steps_consC (fun a w hk hn => ?_) ?_
                · have h63 : (LitT wr.drew.heap.size [104, 105, 106]) (a.eval (.tmp 63)) w := hn.1
                  clear hn
                  exact wantsC_lit hk (by rfl) (.tmp 63) rfl [104, 105, 106] h63
                refine steps_consC (fun a w hk hn => ?_) ?_
                · have h64 : Sl w (a.eval (.tmp 64)) ([104, 105, 106]) := hn.1
                  clear hn
                  refine wantsC_of hk ?_
                  refine wants_plain rfl ?_
                  exact grown_ak2 1 [104, 105, 106] _ (.tmp 64) rfl rfl h64 (bs_lit _ (by decide))
                refine steps_consC (fun a w hk hn => ?_) ?_
                · clear hn
                  refine wantsC_of hk ?_
                  refine wants_plain rfl ?_
                  exact grown_make13 _ 13 (by omega) rfl rfl
                refine steps_consC (fun a w hk hn => ?_) ?_
                · have h66 : Sl w (a.eval (.tmp 66)) (List.replicate 13 0) := hn.1
                  clear hn
                  refine wantsC_of hk ?_
                  refine wants_plain rfl ?_
                  exact grown_ak2 1 (List.replicate 13 0) _ (.tmp 66) rfl rfl h66 (bs_lit _ (by decide))
                refine steps_consC (fun a w hk hn => ?_) ?_
                · clear hn
                  refine wantsC_of hk ?_
                  refine wants_plain rfl ?_
                  exact grown_ak0 2 _ rfl rfl
                refine steps_consC (fun a w hk hn => ?_) ?_
                · clear hn
                  refine wantsC_of hk ?_
                  refine wants_plain rfl ?_
                  exact grown_ak1 4 2 _ _ rfl rfl rfl (by omega)
                refine steps_consC (fun a w hk hn => ?_) ?_
                · have h7 : a.eval (.tmp 7) = .int .i64 kp := hn.1
                  clear hn
                  refine wantsC_of hk ?_
                  refine wants_plain rfl ?_
                  exact grown_move (.tmp 7) rfl h7
                refine steps_consC (fun a w hk hn => ?_) ?_
                · have h70 : a.eval (.tmp 70) = .int .i64 kp := hn.1
                  clear hn
                  refine wantsC_of hk ?_
                  refine wants_plain rfl ?_
                  exact grown_ak1 5 kp _ (.tmp 70) rfl rfl h70 (by omega)
                refine steps_consC (fun a w hk hn => ?_) ?_
                · clear hn
                  refine wantsC_of hk ?_
                  refine wants_plain rfl ?_
                  refine grown_lit hk [107] ?_ (by simp [maxLen])
                  obtain ⟨ρ, hρ, hc, hf, hg⟩ := eval_is a
                  rw [hρ]
                  simp [go_sem, hc]
                refine steps_consC (fun a w hk hn => ?_) ?_
                · have h72 : (LitT wr.drew.heap.size [107]) (a.eval (.tmp 72)) w := hn.1
                  clear hn
                  exact wantsC_lit hk (by rfl) (.tmp 72) rfl [107] h72
                refine steps_consC (fun a w hk hn => ?_) ?_
                · have h73 : Sl w (a.eval (.tmp 73)) ([107]) := hn.1
                  clear hn
                  refine wantsC_of hk ?_
                  refine wants_plain rfl ?_
                  exact grown_ak2 1 [107] _ (.tmp 73) rfl rfl h73 (bs_lit _ (by decide))
                refine steps_consC (fun a w hk hn => ?_) ?_
                · clear hn
                  refine wantsC_of hk ?_
                  refine wants_plain rfl ?_
                  exact grown_ak1 6 3 _ _ rfl rfl rfl (by omega)
                refine steps_consC (fun a w hk hn => ?_) ?_
                · clear hn
                  refine wantsC_of hk ?_
                  refine wants_plain rfl ?_
                  exact grown_ak1 6 40 _ _ rfl rfl rfl (by omega)
                refine steps_consC (fun a w hk hn => ?_) ?_
                · clear hn
                  refine wantsC_of hk ?_
                  refine wants_plain rfl ?_
                  exact grown_make13 _ 13 (by omega) rfl rfl
                refine steps_consC (fun a w hk hn => ?_) ?_
                · have h77 : Sl w (a.eval (.tmp 77)) (List.replicate 13 0) := hn.1
                  clear hn
                  refine wantsC_of hk ?_
                  refine wants_plain rfl ?_
                  exact grown_ak2 1 (List.replicate 13 0) _ (.tmp 77) rfl rfl h77 (bs_lit _ (by decide))
                refine steps_consC (fun a w hk hn => ?_) ?_
                · clear hn
                  refine wantsC_of hk ?_
                  refine wants_plain rfl ?_
                  exact grown_ak1 3 (-1) _ _ rfl rfl rfl (by omega)
                refine steps_consC (fun a w hk hn => ?_) ?_
                · clear hn
                  refine wantsC_of hk ?_
                  refine wants_plain rfl ?_
                  exact grown_ak1 3 0 _ _ rfl rfl rfl (by omega)
                refine steps_consC (fun a w hk hn => ?_) ?_
                · have h53 : (AkT) (a.eval (.tmp 53)) w := hn.1
                  have h56 : (AkT) (a.eval (.tmp 56)) w := hn.2.1
                  have h57 : (AkT) (a.eval (.tmp 57)) w := hn.2.2.1
                  have h60 : (AkT) (a.eval (.tmp 60)) w := hn.2.2.2.1
                  have h61 : (AkT) (a.eval (.tmp 61)) w := hn.2.2.2.2.1
                  have h62 : (AkT) (a.eval (.tmp 62)) w := hn.2.2.2.2.2.1
                  have h65 : (AkT) (a.eval (.tmp 65)) w := hn.2.2.2.2.2.2.1
                  have h67 : (AkT) (a.eval (.tmp 67)) w := hn.2.2.2.2.2.2.2.1
                  have h68 : (AkT) (a.eval (.tmp 68)) w := hn.2.2.2.2.2.2.2.2.1
                  have h69 : (AkT) (a.eval (.tmp 69)) w := hn.2.2.2.2.2.2.2.2.2.1
                  have h71 : (AkT) (a.eval (.tmp 71)) w := hn.2.2.2.2.2.2.2.2.2.2.1
                  have h74 : (AkT) (a.eval (.tmp 74)) w := hn.2.2.2.2.2.2.2.2.2.2.2.1
                  have h75 : (AkT) (a.eval (.tmp 75)) w := hn.2.2.2.2.2.2.2.2.2.2.2.2.1
                  have h76 : (AkT) (a.eval (.tmp 76)) w := hn.2.2.2.2.2.2.2.2.2.2.2.2.2.1
                  have h78 : (AkT) (a.eval (.tmp 78)) w := hn.2.2.2.2.2.2.2.2.2.2.2.2.2.2.1
                  have h79 : (AkT) (a.eval (.tmp 79)) w := hn.2.2.2.2.2.2.2.2.2.2.2.2.2.2.2.1
                  have h80 : (AkT) (a.eval (.tmp 80)) w := hn.2.2.2.2.2.2.2.2.2.2.2.2.2.2.2.2.1
                  clear hn
                  refine wantsC_of hk ?_
                  refine wants_plain rfl ?_
                  obtain ⟨⟨k53, n53, y53, b53⟩, e53, ⟨a53, m53, c53, rfl⟩, S53, B53, N53⟩ := h53
                  obtain ⟨⟨k56, n56, y56, b56⟩, e56, ⟨a56, m56, c56, rfl⟩, S56, B56, N56⟩ := h56
                  obtain ⟨⟨k57, n57, y57, b57⟩, e57, ⟨a57, m57, c57, rfl⟩, S57, B57, N57⟩ := h57
                  obtain ⟨⟨k60, n60, y60, b60⟩, e60, ⟨a60, m60, c60, rfl⟩, S60, B60, N60⟩ := h60
                  obtain ⟨⟨k61, n61, y61, b61⟩, e61, ⟨a61, m61, c61, rfl⟩, S61, B61, N61⟩ := h61
                  obtain ⟨⟨k62, n62, y62, b62⟩, e62, ⟨a62, m62, c62, rfl⟩, S62, B62, N62⟩ := h62
                  obtain ⟨⟨k65, n65, y65, b65⟩, e65, ⟨a65, m65, c65, rfl⟩, S65, B65, N65⟩ := h65
                  obtain ⟨⟨k67, n67, y67, b67⟩, e67, ⟨a67, m67, c67, rfl⟩, S67, B67, N67⟩ := h67
                  obtain ⟨⟨k68, n68, y68, b68⟩, e68, ⟨a68, m68, c68, rfl⟩, S68, B68, N68⟩ := h68
                  obtain ⟨⟨k69, n69, y69, b69⟩, e69, ⟨a69, m69, c69, rfl⟩, S69, B69, N69⟩ := h69
                  obtain ⟨⟨k71, n71, y71, b71⟩, e71, ⟨a71, m71, c71, rfl⟩, S71, B71, N71⟩ := h71
                  obtain ⟨⟨k74, n74, y74, b74⟩, e74, ⟨a74, m74, c74, rfl⟩, S74, B74, N74⟩ := h74
                  obtain ⟨⟨k75, n75, y75, b75⟩, e75, ⟨a75, m75, c75, rfl⟩, S75, B75, N75⟩ := h75
                  obtain ⟨⟨k76, n76, y76, b76⟩, e76, ⟨a76, m76, c76, rfl⟩, S76, B76, N76⟩ := h76
                  obtain ⟨⟨k78, n78, y78, b78⟩, e78, ⟨a78, m78, c78, rfl⟩, S78, B78, N78⟩ := h78
                  obtain ⟨⟨k79, n79, y79, b79⟩, e79, ⟨a79, m79, c79, rfl⟩, S79, B79, N79⟩ := h79
                  obtain ⟨⟨k80, n80, y80, b80⟩, e80, ⟨a80, m80, c80, rfl⟩, S80, B80, N80⟩ := h80
                  refine grown_run (v := .slice (some ⟨w.heap.size, 0, none⟩) 17 17) (w' := w.alloc (.cells #[.int .i64 k53, .int .i64 n53, .slice a53 m53 c53, .int .i64 k56, .int .i64 n56, .slice a56 m56 c56, .int .i64 k57, .int .i64 n57, .slice a57 m57 c57, .int .i64 k60, .int .i64 n60, .slice a60 m60 c60, .int .i64 k61, .int .i64 n61, .slice a61 m61 c61, .int .i64 k62, .int .i64 n62, .slice a62 m62 c62, .int .i64 k65, .int .i64 n65, .slice a65 m65 c65, .int .i64 k67, .int .i64 n67, .slice a67 m67 c67, .int .i64 k68, .int .i64 n68, .slice a68 m68 c68, .int .i64 k69, .int .i64 n69, .slice a69 m69 c69, .int .i64 k71, .int .i64 n71, .slice a71 m71 c71, .int .i64 k74, .int .i64 n74, .slice a74 m74 c74, .int .i64 k75, .int .i64 n75, .slice a75 m75 c75, .int .i64 k76, .int .i64 n76, .slice a76 m76 c76, .int .i64 k78, .int .i64 n78, .slice a78 m78 c78, .int .i64 k79, .int .i64 n79, .slice a79 m79 c79, .int .i64 k80, .int .i64 n80, .slice a80 m80 c80] 30)) ?_ ((Kp.refl [] w).alloc _) ?_
                  · obtain ⟨ρ, hρ, hc, hf, hg⟩ := eval_is a
                    rw [hρ] at e53 e56 e57 e60 e61 e62 e65 e67 e68 e69 e71 e74 e75 e76 e78 e79 e80 ⊢
                    simp [go_sem, e53, e56, e57, e60, e61, e62, e65, e67, e68, e69, e71, e74, e75, e76, e78, e79, e80]
                  · have ka := (Kp.refl [] w).alloc (.cells #[.int .i64 k53, .int .i64 n53, .slice a53 m53 c53, .int .i64 k56, .int .i64 n56, .slice a56 m56 c56, .int .i64 k57, .int .i64 n57, .slice a57 m57 c57, .int .i64 k60, .int .i64 n60, .slice a60 m60 c60, .int .i64 k61, .int .i64 n61, .slice a61 m61 c61, .int .i64 k62, .int .i64 n62, .slice a62 m62 c62, .int .i64 k65, .int .i64 n65, .slice a65 m65 c65, .int .i64 k67, .int .i64 n67, .slice a67 m67 c67, .int .i64 k68, .int .i64 n68, .slice a68 m68 c68, .int .i64 k69, .int .i64 n69, .slice a69 m69 c69, .int .i64 k71, .int .i64 n71, .slice a71 m71 c71, .int .i64 k74, .int .i64 n74, .slice a74 m74 c74, .int .i64 k75, .int .i64 n75, .slice a75 m75 c75, .int .i64 k76, .int .i64 n76, .slice a76 m76 c76, .int .i64 k78, .int .i64 n78, .slice a78 m78 c78, .int .i64 k79, .int .i64 n79, .slice a79 m79 c79, .int .i64 k80, .int .i64 n80, .slice a80 m80 c80] 30)
                    have hb : (w.alloc (.cells #[.int .i64 k53, .int .i64 n53, .slice a53 m53 c53, .int .i64 k56, .int .i64 n56, .slice a56 m56 c56, .int .i64 k57, .int .i64 n57, .slice a57 m57 c57, .int .i64 k60, .int .i64 n60, .slice a60 m60 c60, .int .i64 k61, .int .i64 n61, .slice a61 m61 c61, .int .i64 k62, .int .i64 n62, .slice a62 m62 c62, .int .i64 k65, .int .i64 n65, .slice a65 m65 c65, .int .i64 k67, .int .i64 n67, .slice a67 m67 c67, .int .i64 k68, .int .i64 n68, .slice a68 m68 c68, .int .i64 k69, .int .i64 n69, .slice a69 m69 c69, .int .i64 k71, .int .i64 n71, .slice a71 m71 c71, .int .i64 k74, .int .i64 n74, .slice a74 m74 c74, .int .i64 k75, .int .i64 n75, .slice a75 m75 c75, .int .i64 k76, .int .i64 n76, .slice a76 m76 c76, .int .i64 k78, .int .i64 n78, .slice a78 m78 c78, .int .i64 k79, .int .i64 n79, .slice a79 m79 c79, .int .i64 k80, .int .i64 n80, .slice a80 m80 c80] 30)).heap[w.heap.size]? = some (.cells ((([⟨k53, n53, .slice a53 m53 c53, b53⟩, ⟨k56, n56, .slice a56 m56 c56, b56⟩, ⟨k57, n57, .slice a57 m57 c57, b57⟩, ⟨k60, n60, .slice a60 m60 c60, b60⟩, ⟨k61, n61, .slice a61 m61 c61, b61⟩, ⟨k62, n62, .slice a62 m62 c62, b62⟩, ⟨k65, n65, .slice a65 m65 c65, b65⟩, ⟨k67, n67, .slice a67 m67 c67, b67⟩, ⟨k68, n68, .slice a68 m68 c68, b68⟩, ⟨k69, n69, .slice a69 m69 c69, b69⟩, ⟨k71, n71, .slice a71 m71 c71, b71⟩, ⟨k74, n74, .slice a74 m74 c74, b74⟩, ⟨k75, n75, .slice a75 m75 c75, b75⟩, ⟨k76, n76, .slice a76 m76 c76, b76⟩, ⟨k78, n78, .slice a78 m78 c78, b78⟩, ⟨k79, n79, .slice a79 m79 c79, b79⟩, ⟨k80, n80, .slice a80 m80 c80, b80⟩] : List AskE).map AskE.row).flatten).toArray 30 (0, 0)) := heap_alloc_new w _
                    exact ⟨_, askL_of_block hb (by show (17 : Nat) ≤ 1000; omega) (List.forall_mem_cons.2 ⟨⟨S53.kept ka (by simp), B53, N53⟩, List.forall_mem_cons.2 ⟨⟨S56.kept ka (by simp), B56, N56⟩, List.forall_mem_cons.2 ⟨⟨S57.kept ka (by simp), B57, N57⟩, List.forall_mem_cons.2 ⟨⟨S60.kept ka (by simp), B60, N60⟩, List.forall_mem_cons.2 ⟨⟨S61.kept ka (by simp), B61, N61⟩, List.forall_mem_cons.2 ⟨⟨S62.kept ka (by simp), B62, N62⟩, List.forall_mem_cons.2 ⟨⟨S65.kept ka (by simp), B65, N65⟩, List.forall_mem_cons.2 ⟨⟨S67.kept ka (by simp), B67, N67⟩, List.forall_mem_cons.2 ⟨⟨S68.kept ka (by simp), B68, N68⟩, List.forall_mem_cons.2 ⟨⟨S69.kept ka (by simp), B69, N69⟩, List.forall_mem_cons.2 ⟨⟨S71.kept ka (by simp), B71, N71⟩, List.forall_mem_cons.2 ⟨⟨S74.kept ka (by simp), B74, N74⟩, List.forall_mem_cons.2 ⟨⟨S75.kept ka (by simp), B75, N75⟩, List.forall_mem_cons.2 ⟨⟨S76.kept ka (by simp), B76, N76⟩, List.forall_mem_cons.2 ⟨⟨S78.kept ka (by simp), B78, N78⟩, List.forall_mem_cons.2 ⟨⟨S79.kept ka (by simp), B79, N79⟩, List.forall_mem_cons.2 ⟨⟨S80.kept ka (by simp), B80, N80⟩, fun x hx => by cases hx⟩⟩⟩⟩⟩⟩⟩⟩⟩⟩⟩⟩⟩⟩⟩⟩⟩)⟩
                refine steps_consC (fun a w hk hn => ?_) ?_
                · have h81 : (AlT) (a.eval (.tmp 81)) w := hn.1
                  clear hn
                  refine wantsC_of hk ?_
                  refine wants_plain rfl ?_
                  refine grown_call (f := 10) rfl Try.func10 (by kernel_rfl) (by kernel_rfl) ?_
                  simp only [List.map_toArray, List.map_cons, List.map_nil]
                  refine (dplayE_any 12 _ w (by omega) (by omega) h81).mono ?_
                  rintro e w' ⟨rfl, K⟩
                  exact ⟨_, rfl, K, rfl⟩
                refine steps_consC (fun a w hk hn => ?_) ?_
                · have h82 : a.eval (.tmp 82) = .bool true := hn.1
                  clear hn
                  refine wantsC_of hk ?_
                  refine wants_plain rfl ?_
                  refine grown_run (v := .bool false) ?_ (Kp.refl _ _) rfl
                  obtain ⟨ρ, hρ, hc, hf, hg⟩ := eval_is a
                  rw [hρ] at h82 ⊢
                  simp [go_sem, h82]
                exact trivial
              intro W1 hkW1
              rintro _ rfl
              intro v53 h53
              intro v54 h54
              intro v55 h55
              intro v56 h56
              intro v57 h57
              intro v58 h58
              intro v59 h59
              intro v60 h60
              intro v61 h61
              intro v62 h62
              intro v63 h63
              intro v64 h64
              intro v65 h65
              intro v66 h66
              intro v67 h67
              intro v68 h68
              intro v69 h69
              rintro _ rfl
              intro v71 h71
              intro v72 h72
              intro v73 h73
              intro v74 h74
              intro v75 h75
              intro v76 h76
              intro v77 h77
              intro v78 h78
              intro v79 h79
              intro v80 h80
              intro v81 h81
              rintro _ rfl
              rintro _ rfl
              refine fin_nil ?_
              simp only [Act.put, List.set_cons_zero, List.set_cons_succ, List.setIfInBounds_toArray]
              go_wp2_with fail
              go_roundw
              case rel => exact ⟨kp + 1, by omega, by omega, by go_num, HKq.out.trans ((kp_drew wr).trans hkW1)⟩
              case measure => simp [intOf]; omega
            · go_wp2_with fail
              go_roundw
              case rel => exact ⟨ka + 1, by omega, by go_num, HKq.out⟩
              case measure => simp [intOf]; omega
        · obtain rfl : ka = 9 := by omega
          have HF := hide (dknown_any wr)
          go_wp2_with (go_at_call 11; refine HF.out.mono ?_; rintro e w3 ⟨rfl, k3⟩; clear HF)
          go_ret
          exact ⟨rfl, (HKa.out.trans k3).below (Nat.le_refl _) (by simp)⟩

set_option maxRecDepth 100000 in
theorem lifted (os : Os) (started : os.Started) (H : Type) (enc : TypeId × Value → H) :
    ReturnsInHanded {} Try.checked os 3 .any (Rows.diskNumbersSpec.pre6 enc Try.prog Try.f3 Rows.diskNumbersRow.domain false) (Rows.diskNumbersSpec.post enc Try.prog Try.f3 false true false false) := by
  refine returnsInHanded_of_change (C := Try.checked) own started (by kernel_rfl) Try.func3
    (ChangeSpec.witness6 (enc := enc) (C := Try.checked) false ⟨#[], #[], []⟩ 8 (by kernel_rfl) (by kernel_rfl) (by kernel_rfl) (by kernel_rfl)) ?_
  intro W base args ds gs before hval0 hW hcnd _
  have hval : ∀ (j : Nat) t v, Try.f3.params[j]? = some t → args[j]? = some v → Value.okWide Try.prog W .any base t v := hval0
  have hW' := hW
  obtain ⟨p, q, hA0, hV, rfl, hfz, hnd⟩ := hW
  have hA : DataW.TrodAll enc Try.prog W 0 (fun _ => true) true Try.f3.params.toList args.toList ds p := hA0
  rw [Try.params3] at hA hval
  obtain ⟨hargs, rfl, rfl⟩ := trodAll_nil hA
  obtain rfl : args = #[] := by cases args; simp_all
  obtain ⟨rfl, rfl⟩ := trodVars_none hV
  clear hA0 hval0
  refine (walk  W ).mono fun e W' ⟨he, bel⟩ => ?_
  subst he
  exact ⟨_, rfl, _, _, _, [], _, [], hW', trodAll_mk1 (shut_bool Try.underlying4 _), trodAll_mk0, rfl, bel.frame _, fun h => by cases h⟩

theorem over : Rows.diskNumbersRow.holds Try.pinned (OpenSpec.ofChange Rows.diskNumbersSpec) :=
  OpenClaim.holds_of_wide 3 Try.f3 rfl rfl rfl rfl rfl rfl rfl ⟨rfl, rfl, rfl, rfl, rfl⟩ rfl rfl rfl rfl rfl (by kernel_rfl) Try.func3 (by kernel_rfl)
    (of_decide_eq_true (by kernel_rfl)) (by unfold Func.isWrapper; first | (rw [if_pos (by decide +kernel)]; kernel_rfl) | (rw [if_neg (by decide +kernel)]; exact ⟨rfl, rfl⟩))
    (fun os started H enc _ => lifted os started H enc)
end Go.Proofs.Ythpaablhhfichaa.diskNumbers

namespace Go.Proofs.Ythpaablhhfichaa
/-- The given statement. -/
theorem DiskNumbers_holds : Rows.DiskNumbersSaid := diskNumbers.over
#print axioms DiskNumbers_holds
end Go.Proofs.Ythpaablhhfichaa
