/-
  The statement ProofSizesCardSaid: for all numbers the law function ProofSizes returns true; the table hash.roundWords starts as the program's text lays it (tied). No other condition.
-/
import Derived.Test.YtphhofgjnlfjmabDoorKPKnown
import Derived.Test.YtphhofgjnlfjmabDoorTie
import Derived.Test.YtphhofgjnlfjmabDoorCards
import Derived.SevenTiedAt
namespace Go.Proofs.YtphhofgjnlfjmabDoor.proofSizes
open Go.ChangeShapes Go.WideShapes Go.ChangeAt Go.RowKit
open Go.Proofs.YtphhofgjnlfjmabDoor
set_option linter.unusedVariables false

theorem bits_and_i64_nat (a b : Nat) (ha : a < 9223372036854775808) (hb : b < 9223372036854775808) : bits .and .i64 (a : Int) (b : Int) = ((a &&& b : Nat) : Int) := by
  have hx : a &&& b < 2 ^ 63 := Nat.and_lt_two_pow _ (by omega)
  have h1 : (BitVec.ofInt 64 (a : Int)).toNat = a := by
    rw [BitVec.ofInt_natCast, BitVec.toNat_ofNat]; exact Nat.mod_eq_of_lt (by omega)
  have h2 : (BitVec.ofInt 64 (b : Int)).toNat = b := by
    rw [BitVec.ofInt_natCast, BitVec.toNat_ofNat]; exact Nat.mod_eq_of_lt (by omega)
  show IntKind.i64.wrap ((BitVec.ofInt 64 (a : Int) &&& BitVec.ofInt 64 (b : Int)).toNat : Int) = _
  rw [BitVec.toNat_and, h1, h2]
  simp [IntKind.wrap, IntKind.signed, IntKind.bits]
  omega
theorem pow_all : ∀ a : Fin 256, ((a.val + 1) &&& a.val) ≠ 0 ∨ ∃ t : Fin 9, a.val + 1 = 2 ^ t.val := by decide +kernel
/-- how many halvings, and whether that is all. -/
theorem halves {k s j : Nat} (h1 : k ≤ 2 ^ s) (h2 : s = 0 ∨ 2 ^ (s - 1) < k) (hk : 1 ≤ k) (hk2 : k ≤ 256) (hz : k &&& (k - 1) = 0) : cntP k j = s := by
  rcases pow_all ⟨k - 1, by omega⟩ with h | ⟨t, ht⟩
  · exact absurd (by simpa [show k - 1 + 1 = k by omega] using hz) h
  · have e : k = 2 ^ t.val := by simp at ht; omega
    have hs : s = t.val := by
      rw [e] at h1 h2
      have a1 : t.val ≤ s := (Nat.pow_le_pow_iff_right (by omega)).1 h1
      rcases h2 with h2 | h2
      · omega
      · have := (Nat.pow_lt_pow_iff_right (by omega)).1 h2
        omega
    rw [e, cntP_pow, hs]
set_option maxRecDepth 100000 in
set_option maxHeartbeats 1500000 in
theorem walk (n i : Int) (w : World) (hG : Gl w) (hn : -9223372036854775808 ≤ n ∧ n ≤ 9223372036854775807) (hi : -9223372036854775808 ≤ i ∧ i ≤ 9223372036854775807) :
    Calls Tryd.prog 3 #[.int .i64 n, .int .i64 i] w fun e w' => e = .returned (.bool true) ∧ Below w.heap.size w w' := by
  have HG := hide hG
  have HC := hide (within_any n 1 256 w (by omega) (by omega) (by omega) hn)
  clear hG hn
  go_enter Tryd.func3, Tryd.ntmps3
  go_wp2_with fail
  refine (unhide HC).mono ?_
  rintro ee w9 ⟨xk, rfl, hx0, hx1, hw⟩
  subst w9
  obtain ⟨k, rfl⟩ := Int.eq_ofNat_of_zero_le (by omega : 0 ≤ xk)
  have hk1 : 1 ≤ k := by omega
  have hk256 : k ≤ 256 := by omega
  clear HC hx0 hx1
  have HC := hide (kl_any k w (by omega))
  go_wp2_with fail
  refine (unhide HC).mono ?_
  rintro ee w1 ⟨al, cl, rfl, L1, K1⟩
  obtain ⟨ls, hls⟩ : ∃ ls, ls = kleavesP k := ⟨_, rfl⟩
  rw [← hls] at L1
  have hll : ls.length = k := by rw [hls, kleavesP_len]
  have h32 : ∀ x ∈ ls, x.length = 32 := by rw [hls]; exact kleavesP_all k
  have hml : ∀ x ∈ ls, x.length ≤ 1000 := fun x hx => by have := h32 x hx; omega
  have HK1 := hide K1
  have hG1 : Gl w1 := (unhide HG).kept K1 (by simp)
  have HL1 := hide L1
  have HG1 := hide hG1
  have HML := hide hml
  have HNL := hide hll
  have H32 := hide h32
  clear HC hls K1
  have HC := hide (within_any i 0 ((k : Int) - 1) w1 (by omega) (by omega) (by omega) hi)
  clear L1 hG1 hml hll h32 hi
  go_wp2_with fail
  refine (unhide HC).mono ?_
  rintro ee w9 ⟨xx, rfl, hx0, hx1, hw⟩
  subst w9
  obtain ⟨x, rfl⟩ := Int.eq_ofNat_of_zero_le hx0
  have hxk : x < k := by omega
  clear HC hx0 hx1
  have hC := include_ok _ ls x w1 (unhide HL1) (by rw [unhide HNL]; exact hxk) (by rw [unhide HNL]; omega) (unhide HML) (unhide HG1)
  obtain ⟨ps, hps⟩ : ∃ ps, ps = incP ls x := ⟨_, rfl⟩
  obtain ⟨r, hr⟩ : ∃ r, r = trootP ls := ⟨_, rfl⟩
  obtain ⟨y, hy⟩ : ∃ y, ls[x]? = some y := ⟨_, List.getElem?_eq_getElem (by rw [unhide HNL]; exact hxk)⟩
  have hcp := chkP_inc (unhide H32) (by rw [unhide HNL]; omega) hy
  rw [unhide HNL, ← hps, ← hr] at hcp
  rw [← hps, unhide HNL] at hC
  have HCP := hide hcp
  have HX := hide hy
  have HXB := hide ((unhide HL1).bs y (List.mem_of_getElem? hy))
  have HRR := hide hr
  have HPL : Hid (ps.length = cntP k x) := by rw [hps]; exact incP_len k ls x (unhide HNL)
  have HC := hide hC
  clear hC hps hr hy hcp
  go_wp2_with fail
  refine (unhide HC).mono ?_
  rintro ee w2 ⟨v2, rfl, V2, K2⟩
  obtain ⟨a2, c2, e_, -⟩ := V2.shape
  obtain ⟨m2, hm_⟩ : ∃ m, m = ps.length := ⟨_, rfl⟩
  rw [← hm_] at e_ HPL
  subst e_
  clear hm_
  have HV2 := hide V2
  have HK2 := hide K2
  clear V2 K2 HC
  have G_ := heap_alloc_new w2 (.cells #[.int .i64 0, .int .i64 0, .slice none 0 0] 26)
  go_wp2_with (refine wpList_store_tri triP rfl (.tmp 8) (.tmp 24) rfl w2.heap.size rfl _ _ _ _ _ _ G_ rfl ⟨rfl, rfl, rfl⟩ ?_; intro w3 Go_ Ko_; refine Hid.out ?_)
  have HK_w3 : Hid (Kp [] w2 w3) := ((Kp.refl [] w2).alloc _).then Ko_ (by simp)
  obtain ⟨g1, hg_⟩ : ∃ g, g = w2.heap.size := ⟨_, rfl⟩
  rw [← hg_] at Go_ ⊢
  have HG_g1 : Hid (∀ w', Kp [] w3 w' → w'.heap[g1]? = some (.cells #[.int .i64 x, .int .i64 k, .slice a2 m2 c2] 26 (0, 0))) := fun w' k => k.heap Go_ (by simp)
  clear G_ Go_ Ko_ hg_
  refine hide ?_
  have HK3 := hide ((unhide HK2).trans (unhide HK_w3))
  have HW2 : Hid (∀ w', Kp [] w3 w' → TV w' (.agg #[.int .i64 x, .int .i64 k, .slice a2 m2 c2]) x k ps) := fun w' k' => (unhide HV2).kept ((unhide HK_w3).trans k')
  have HLL : Hid (∀ w', Kp [] w3 w' → LcM ls (.slice al k cl) w') := fun w' k' => (unhide HL1).kept ((unhide HK3).trans k')
  have HGL : Hid (∀ w', Kp [] w3 w' → Gl w') := fun w' k' => (unhide HG1).kept ((unhide HK3).trans k') (by simp)
  have HD3 : Hid (∀ w', Kp [] w3.drew w' → Kp [] w3 w') := fun w' k' => (kp_drew w3).trans k'
  go_wp2_with fail
  go_loopw [10, 11] (fun mo xx wr => ∃ s p : Nat, mo = .int .i64 s ∧ xx = .int .i64 p ∧ p = 2 ^ s ∧ (s = 0 ∨ 2 ^ (s - 1) < k) ∧ wr = w3) (fun _ xx _ => k - (intOf xx).toNat)
  case atStart => exact ⟨0, 1, rfl, rfl, rfl, .inl rfl, rfl⟩
  case round =>
    obtain ⟨s, p, rfl, rfl, hp, hs, hw⟩ := hrel
    subst wr
    have hp1 : 1 ≤ p := by rw [hp]; exact Nat.one_le_two_pow
    have hs9 : s ≤ 9 := by
      rcases hs with h | h
      · omega
      · have h8 : 2 ^ (s - 1) < 2 ^ 9 := by omega
        have := (Nat.pow_lt_pow_iff_right (by omega)).1 h8
        omega
    by_cases hlt : p < k
    · have hlt2 : (p : Int) < (k : Int) := by omega
      have HP2 : Hid (2 * p = 2 ^ (s + 1) ∧ 2 ^ (s + 1 - 1) < k) := hide ⟨by rw [hp, Nat.pow_succ]; omega, by rw [Nat.add_sub_cancel, ← hp]; exact hlt⟩
      clear hp hs
      go_wp2_with fail
      go_roundw
      case rel => exact ⟨s + 1, 2 * p, by go_num, by go_num, (unhide HP2).1, .inr (unhide HP2).2, trivial⟩
      case measure => simp [intOf]; omega
    · have hlt2 : ¬ (p : Int) < (k : Int) := by omega
      have hkp : k ≤ 2 ^ s := by rw [← hp]; omega
      have hle : m2 ≤ s := by rw [unhide HPL]; exact cntP_le s k x hkp
      obtain ⟨k1, hk1'⟩ : ∃ k1, k1 + 1 = k := ⟨k - 1, by omega⟩
      have hand := bits_and_i64_nat k k1 (by omega) (by omega)
      by_cases hz : k &&& k1 = 0
      · have hm2 : m2 = s := by rw [unhide HPL]; exact halves hkp hs hk1 hk256 (by rw [show k - 1 = k1 by omega]; exact hz)
        rw [hz, show ((0 : Nat) : Int) = 0 from rfl] at hand
        subst hm2
        clear hp hs hkp hz
        go_wp2_with fail
        refine region_grow Tryd.mixed [Is (.int .i64 0), Is (.bool true), Is (.bool true), Is (.pointer (some ⟨g1, 2, none⟩)), Is (.slice a2 m2 c2), Is (.int .i64 m2), Is (.int .i64 m2), Is (.bool true), Is (.bool true), Is (.bool true), Is (.int .i64 k), Is (.int .i64 k), Is (.int .i64 k1), Is (.int .i64 0), Is (.bool false), Is (.bool false), Is (.pointer (some ⟨g1, 2, none⟩)), Is (.slice a2 m2 c2), Is (.int .i64 m2), Is (.int .i64 m2), Is (.bool true), Is (.bool true), Is (.bool true), Is (.bool true), Is (.agg #[.int .i64 x, .int .i64 k, .slice a2 m2 c2]), Is (.slice al k cl), Is (.int .i64 x), PtT (y), SlT (y), Is (.slice al k cl), SlT (r), Is (.bool true), Is (.bool true), Is (.bool true), Is (.bool true), Is (.bool true), Is (.bool true)] [[(9, none)], [(33, some 0)], [(34, some 1)], [(8, none), (35, some 2)], [(36, some 3), (35, some 2)], [(37, some 4), (35, some 2)], [(10, none), (35, some 2)], [(38, some 5), (39, some 6), (35, some 2)], [(35, some 2), (40, some 7)], [(41, some 8)], [(5, none), (42, some 9)], [(5, none), (42, some 9)], [(44, some 11), (42, some 9)], [(43, some 10), (45, some 12), (42, some 9)], [(46, some 13), (42, some 9)], [(47, some 14), (42, some 9)], [(8, none), (48, some 15)], [(49, some 16), (48, some 15)], [(50, some 17), (48, some 15)], [(10, none), (48, some 15)], [(51, some 18), (52, some 19), (48, some 15)], [(48, some 15), (53, some 20), (42, some 9)], [(42, some 9), (54, some 21)], [(55, some 22)], [(8, none), (56, some 23)], [(6, none), (56, some 23)], [(7, none), (56, some 23)], [(58, some 25), (59, some 26), (56, some 23)], [(60, some 27), (56, some 23)], [(6, none), (56, some 23)], [(62, some 29), (56, some 23)], [(57, some 24), (61, some 28), (63, some 30), (56, some 23)], [(56, some 23), (64, some 31)], [(65, some 32)], [(66, some 33)], [(66, some 33), (67, some 34)], [(68, some 35)]] (by kernel_rfl) ?_ ?_ ?_
        · simp only [List.mem_cons, List.not_mem_nil, or_false]
          intro R hR
          rcases hR with rfl | rfl | rfl | rfl | rfl | rfl | rfl | rfl | rfl | rfl | rfl | rfl | rfl | rfl | rfl | rfl | rfl | rfl | rfl | rfl | rfl | rfl | rfl | rfl | rfl | rfl | rfl | rfl | rfl | rfl | rfl | rfl | rfl | rfl | rfl | rfl | rfl <;> first | exact stable_is _ | exact stable_pt _ | exact stable_sl _
        · refine steps_cons (fun a w hk hn => ?_) ?_
          · have h9 : a.eval (.tmp 9) = .int .i64 0 := hn.1
            clear hn
            refine wants_plain rfl ?_
            exact grown_move (.tmp 9) rfl h9
          refine steps_cons (fun a w hk hn => ?_) ?_
          · have h33 : a.eval (.tmp 33) = .int .i64 0 := hn.1
            clear hn
            refine wants_plain rfl ?_
            refine grown_run (v := .bool true) ?_ (Kp.refl _ _) rfl
            obtain ⟨ρ, hρ, hc, hf, hg⟩ := eval_is a
            rw [hρ] at h33 ⊢
            simp [go_sem, hc, h33]
          refine steps_cons (fun a w hk hn => ?_) ?_
          · have h34 : a.eval (.tmp 34) = .bool true := hn.1
            clear hn
            refine wants_plain rfl ?_
            exact grown_move (.tmp 34) rfl h34
          refine steps_cons (fun a w hk hn => ?_) ?_
          · have h8 : a.eval (.tmp 8) = .pointer (some ⟨g1, 0, none⟩) := hn.1
            have h35 : a.eval (.tmp 35) = .bool true := hn.2.1
            clear hn
            refine wants_guard (d := 35) rfl rfl h35 ?_
            exact grown_fld2 triP (.tmp 8) rfl h8
          refine steps_cons (fun a w hk hn => ?_) ?_
          · have h36 : a.eval (.tmp 36) = .pointer (some ⟨g1, 2, none⟩) := hn.1
            have h35 : a.eval (.tmp 35) = .bool true := hn.2.1
            clear hn
            refine wants_guard (d := 35) rfl rfl h35 ?_
            exact grown_ldl (.tmp 36) rfl 2 _ _ _ h36 (cell_tri ((fun w'' k' => unhide HG_g1 w'' (unhide HD3 w'' k')) w hk)).2.2
          refine steps_cons (fun a w hk hn => ?_) ?_
          · have h37 : a.eval (.tmp 37) = .slice a2 m2 c2 := hn.1
            have h35 : a.eval (.tmp 35) = .bool true := hn.2.1
            clear hn
            refine wants_guard (d := 35) rfl rfl h35 ?_
            refine grown_run (v := .int .i64 m2) ?_ (Kp.refl _ _) rfl
            obtain ⟨ρ, hρ, hc, hf, hg⟩ := eval_is a
            rw [hρ] at h37 ⊢
            simp [go_sem, h37]
          refine steps_cons (fun a w hk hn => ?_) ?_
          · have h10 : a.eval (.tmp 10) = .int .i64 m2 := hn.1
            have h35 : a.eval (.tmp 35) = .bool true := hn.2.1
            clear hn
            refine wants_guard (d := 35) rfl rfl h35 ?_
            exact grown_move (.tmp 10) rfl h10
          refine steps_cons (fun a w hk hn => ?_) ?_
          · have h38 : a.eval (.tmp 38) = .int .i64 m2 := hn.1
            have h39 : a.eval (.tmp 39) = .int .i64 m2 := hn.2.1
            have h35 : a.eval (.tmp 35) = .bool true := hn.2.2.1
            clear hn
            refine wants_guard (d := 35) rfl rfl h35 ?_
            refine grown_run (v := .bool true) ?_ (Kp.refl _ _) rfl
            obtain ⟨ρ, hρ, hc, hf, hg⟩ := eval_is a
            rw [hρ] at h38 h39 ⊢
            simp [go_sem, h38, h39]
          refine steps_cons (fun a w hk hn => ?_) ?_
          · have h35 : a.eval (.tmp 35) = .bool true := hn.1
            have h40 : a.eval (.tmp 40) = .bool true := hn.2.1
            clear hn
            refine wants_plain rfl ?_
            exact grown_pick _ _ _ true rfl h35 h40
          refine steps_cons (fun a w hk hn => ?_) ?_
          · have h41 : a.eval (.tmp 41) = .bool true := hn.1
            clear hn
            refine wants_plain rfl ?_
            exact grown_move (.tmp 41) rfl h41
          refine steps_cons (fun a w hk hn => ?_) ?_
          · have h5 : a.eval (.tmp 5) = .int .i64 k := hn.1
            have h42 : a.eval (.tmp 42) = .bool true := hn.2.1
            clear hn
            refine wants_guard (d := 42) rfl rfl h42 ?_
            exact grown_move (.tmp 5) rfl h5
          refine steps_cons (fun a w hk hn => ?_) ?_
          · have h5 : a.eval (.tmp 5) = .int .i64 k := hn.1
            have h42 : a.eval (.tmp 42) = .bool true := hn.2.1
            clear hn
            refine wants_guard (d := 42) rfl rfl h42 ?_
            exact grown_move (.tmp 5) rfl h5
          refine steps_cons (fun a w hk hn => ?_) ?_
          · have h44 : a.eval (.tmp 44) = .int .i64 k := hn.1
            have h42 : a.eval (.tmp 42) = .bool true := hn.2.1
            clear hn
            refine wants_guard (d := 42) rfl rfl h42 ?_
            refine grown_run (v := .int .i64 k1) ?_ (Kp.refl _ _) rfl
            obtain ⟨ρ, hρ, hc, hf, hg⟩ := eval_is a
            rw [hρ] at h44 ⊢
            simp [go_sem, hc, h44]
            exact wrap_at (by omega) (by omega) (by omega)
          refine steps_cons (fun a w hk hn => ?_) ?_
          · have h43 : a.eval (.tmp 43) = .int .i64 k := hn.1
            have h45 : a.eval (.tmp 45) = .int .i64 k1 := hn.2.1
            have h42 : a.eval (.tmp 42) = .bool true := hn.2.2.1
            clear hn
            refine wants_guard (d := 42) rfl rfl h42 ?_
            refine grown_run (v := .int .i64 0) ?_ (Kp.refl _ _) rfl
            obtain ⟨ρ, hρ, hc, hf, hg⟩ := eval_is a
            rw [hρ] at h43 h45 ⊢
            simp [go_sem, h43, h45, hand]
          refine steps_cons (fun a w hk hn => ?_) ?_
          · have h46 : a.eval (.tmp 46) = .int .i64 0 := hn.1
            have h42 : a.eval (.tmp 42) = .bool true := hn.2.1
            clear hn
            refine wants_guard (d := 42) rfl rfl h42 ?_
            refine grown_run (v := .bool false) ?_ (Kp.refl _ _) rfl
            obtain ⟨ρ, hρ, hc, hf, hg⟩ := eval_is a
            rw [hρ] at h46 ⊢
            simp [go_sem, hc, h46]
          refine steps_cons (fun a w hk hn => ?_) ?_
          · have h47 : a.eval (.tmp 47) = .bool false := hn.1
            have h42 : a.eval (.tmp 42) = .bool true := hn.2.1
            clear hn
            refine wants_guard (d := 42) rfl rfl h42 ?_
            exact grown_move (.tmp 47) rfl h47
          refine steps_cons (fun a w hk hn => ?_) ?_
          · have h8 : a.eval (.tmp 8) = .pointer (some ⟨g1, 0, none⟩) := hn.1
            have h48 : a.eval (.tmp 48) = .bool false := hn.2.1
            clear hn
            refine wants_guard (d := 48) rfl rfl h48 ?_
            exact grown_fld2 triP (.tmp 8) rfl h8
          refine steps_cons (fun a w hk hn => ?_) ?_
          · have h49 : a.eval (.tmp 49) = .pointer (some ⟨g1, 2, none⟩) := hn.1
            have h48 : a.eval (.tmp 48) = .bool false := hn.2.1
            clear hn
            refine wants_guard (d := 48) rfl rfl h48 ?_
            exact grown_ldl (.tmp 49) rfl 2 _ _ _ h49 (cell_tri ((fun w'' k' => unhide HG_g1 w'' (unhide HD3 w'' k')) w hk)).2.2
          refine steps_cons (fun a w hk hn => ?_) ?_
          · have h50 : a.eval (.tmp 50) = .slice a2 m2 c2 := hn.1
            have h48 : a.eval (.tmp 48) = .bool false := hn.2.1
            clear hn
            refine wants_guard (d := 48) rfl rfl h48 ?_
            refine grown_run (v := .int .i64 m2) ?_ (Kp.refl _ _) rfl
            obtain ⟨ρ, hρ, hc, hf, hg⟩ := eval_is a
            rw [hρ] at h50 ⊢
            simp [go_sem, h50]
          refine steps_cons (fun a w hk hn => ?_) ?_
          · have h10 : a.eval (.tmp 10) = .int .i64 m2 := hn.1
            have h48 : a.eval (.tmp 48) = .bool false := hn.2.1
            clear hn
            refine wants_guard (d := 48) rfl rfl h48 ?_
            exact grown_move (.tmp 10) rfl h10
          refine steps_cons (fun a w hk hn => ?_) ?_
          · have h51 : a.eval (.tmp 51) = .int .i64 m2 := hn.1
            have h52 : a.eval (.tmp 52) = .int .i64 m2 := hn.2.1
            have h48 : a.eval (.tmp 48) = .bool false := hn.2.2.1
            clear hn
            refine wants_guard (d := 48) rfl rfl h48 ?_
            refine grown_run (v := .bool true) ?_ (Kp.refl _ _) rfl
            obtain ⟨ρ, hρ, hc, hf, hg⟩ := eval_is a
            rw [hρ] at h51 h52 ⊢
            simp [go_sem, h51, h52]
          refine steps_cons (fun a w hk hn => ?_) ?_
          · have h48 : a.eval (.tmp 48) = .bool false := hn.1
            have h53 : a.eval (.tmp 53) = .bool true := hn.2.1
            have h42 : a.eval (.tmp 42) = .bool true := hn.2.2.1
            clear hn
            refine wants_guard (d := 42) rfl rfl h42 ?_
            exact grown_pick _ _ _ false rfl h48 h53
          refine steps_cons (fun a w hk hn => ?_) ?_
          · have h42 : a.eval (.tmp 42) = .bool true := hn.1
            have h54 : a.eval (.tmp 54) = .bool true := hn.2.1
            clear hn
            refine wants_plain rfl ?_
            exact grown_pick _ _ _ true rfl h42 h54
          refine steps_cons (fun a w hk hn => ?_) ?_
          · have h55 : a.eval (.tmp 55) = .bool true := hn.1
            clear hn
            refine wants_plain rfl ?_
            exact grown_move (.tmp 55) rfl h55
          refine steps_cons (fun a w hk hn => ?_) ?_
          · have h8 : a.eval (.tmp 8) = .pointer (some ⟨g1, 0, none⟩) := hn.1
            have h56 : a.eval (.tmp 56) = .bool true := hn.2.1
            clear hn
            refine wants_guard (d := 56) rfl rfl h56 ?_
            exact grown_loadtri triP (.tmp 8) rfl h8 ((fun w'' k' => unhide HG_g1 w'' (unhide HD3 w'' k')) w hk) rfl
          refine steps_cons (fun a w hk hn => ?_) ?_
          · have h6 : a.eval (.tmp 6) = .slice al k cl := hn.1
            have h56 : a.eval (.tmp 56) = .bool true := hn.2.1
            clear hn
            refine wants_guard (d := 56) rfl rfl h56 ?_
            exact grown_move (.tmp 6) rfl h6
          refine steps_cons (fun a w hk hn => ?_) ?_
          · have h7 : a.eval (.tmp 7) = .int .i64 x := hn.1
            have h56 : a.eval (.tmp 56) = .bool true := hn.2.1
            clear hn
            refine wants_guard (d := 56) rfl rfl h56 ?_
            exact grown_move (.tmp 7) rfl h7
          refine steps_cons (fun a w hk hn => ?_) ?_
          · have h58 : a.eval (.tmp 58) = .slice al k cl := hn.1
            have h59 : a.eval (.tmp 59) = .int .i64 x := hn.2.1
            have h56 : a.eval (.tmp 56) = .bool true := hn.2.2.1
            clear hn
            refine wants_guard (d := 56) rfl rfl h56 ?_
            exact grown_lindex (.tmp 58) (.tmp 59) (ls) x (y) rfl (by rw [h58]; exact (fun w'' k' => unhide HLL w'' (unhide HD3 w'' k')) w hk) h59 (unhide HX)
          refine steps_cons (fun a w hk hn => ?_) ?_
          · have h60 : (PtT (y)) (a.eval (.tmp 60)) w := hn.1
            have h56 : a.eval (.tmp 56) = .bool true := hn.2.1
            clear hn
            refine wants_guard (d := 56) rfl rfl h56 ?_
            exact grown_lload (.tmp 60) _ rfl h60
          refine steps_cons (fun a w hk hn => ?_) ?_
          · have h6 : a.eval (.tmp 6) = .slice al k cl := hn.1
            have h56 : a.eval (.tmp 56) = .bool true := hn.2.1
            clear hn
            refine wants_guard (d := 56) rfl rfl h56 ?_
            exact grown_move (.tmp 6) rfl h6
          refine steps_cons (fun a w hk hn => ?_) ?_
          · have h62 : a.eval (.tmp 62) = .slice al k cl := hn.1
            have h56 : a.eval (.tmp 56) = .bool true := hn.2.1
            clear hn
            refine wants_guard (d := 56) rfl rfl h56 ?_
            refine grown_call (f := 10) rfl Tryd.func10 (by kernel_rfl) (by kernel_rfl) ?_
            simp only [List.map_toArray, List.map_cons, List.map_nil, h62]
            refine (rroot_any k _ ls r w (unhide HRR) (unhide HNL) (by omega) (unhide HLL w (unhide HD3 w hk)) (unhide HML)).mono ?_
            rintro e w' ⟨ao, m, c, rfl, R, K⟩
            exact ⟨_, rfl, K, R⟩
          refine steps_cons (fun a w hk hn => ?_) ?_
          · have h57 : a.eval (.tmp 57) = .agg #[.int .i64 x, .int .i64 k, .slice a2 m2 c2] := hn.1
            have h61 : Sl w (a.eval (.tmp 61)) (y) := hn.2.1
            have h63 : Sl w (a.eval (.tmp 63)) (r) := hn.2.2.1
            have h56 : a.eval (.tmp 56) = .bool true := hn.2.2.2.1
            clear hn
            refine wants_guard (d := 56) rfl rfl h56 ?_
            refine grown_call (f := 9) rfl Tryd.func9 (by kernel_rfl) (by kernel_rfl) ?_
            simp only [List.map_toArray, List.map_cons, List.map_nil, h57]
            refine (check_any _ _ _ x k ps y r w (unhide HW2 w (unhide HD3 w hk)) h61 (unhide HXB) h63 (by omega) (unhide HGL w (unhide HD3 w hk))).mono ?_
            rintro e w' ⟨rfl, K⟩
            exact ⟨_, rfl, K, congrArg Value.bool (unhide HCP)⟩
          refine steps_cons (fun a w hk hn => ?_) ?_
          · have h56 : a.eval (.tmp 56) = .bool true := hn.1
            have h64 : a.eval (.tmp 64) = .bool true := hn.2.1
            clear hn
            refine wants_plain rfl ?_
            exact grown_pick _ _ _ true rfl h56 h64
          refine steps_cons (fun a w hk hn => ?_) ?_
          · have h65 : a.eval (.tmp 65) = .bool true := hn.1
            clear hn
            refine wants_plain rfl ?_
            exact grown_move (.tmp 65) rfl h65
          refine steps_cons (fun a w hk hn => ?_) ?_
          · have h66 : a.eval (.tmp 66) = .bool true := hn.1
            clear hn
            refine wants_guard (d := 66) rfl rfl h66 ?_
            refine grown_call (f := 11) rfl Tryd.func11 (by kernel_rfl) (by kernel_rfl) ?_
            simp only [List.map_toArray, List.map_nil]
            refine (pknown_any w (unhide HGL w (unhide HD3 w hk))).mono ?_
            rintro e w' ⟨rfl, K⟩
            exact ⟨_, rfl, K, rfl⟩
          refine steps_cons (fun a w hk hn => ?_) ?_
          · have h66 : a.eval (.tmp 66) = .bool true := hn.1
            have h67 : a.eval (.tmp 67) = .bool true := hn.2.1
            clear hn
            refine wants_plain rfl ?_
            exact grown_pick _ _ _ true rfl h66 h67
          refine steps_cons (fun a w hk hn => ?_) ?_
          · have h68 : a.eval (.tmp 68) = .bool true := hn.1
            clear hn
            refine wants_plain rfl ?_
            exact grown_assign (.tmp 68) rfl h68
          exact trivial
        intro W1 hkW1
        rintro _ rfl
        rintro _ rfl
        rintro _ rfl
        rintro _ rfl
        rintro _ rfl
        rintro _ rfl
        rintro _ rfl
        rintro _ rfl
        rintro _ rfl
        rintro _ rfl
        rintro _ rfl
        rintro _ rfl
        rintro _ rfl
        rintro _ rfl
        rintro _ rfl
        rintro _ rfl
        rintro _ rfl
        rintro _ rfl
        rintro _ rfl
        rintro _ rfl
        rintro _ rfl
        rintro _ rfl
        rintro _ rfl
        rintro _ rfl
        rintro _ rfl
        rintro _ rfl
        rintro _ rfl
        intro v60 h60
        intro v61 h61
        rintro _ rfl
        intro v63 h63
        rintro _ rfl
        rintro _ rfl
        rintro _ rfl
        rintro _ rfl
        rintro _ rfl
        rintro _ rfl
        refine fin_nil ?_
        simp only [Act.put, List.set_cons_zero, List.set_cons_succ, List.setIfInBounds_toArray]
        go_wp2_with fail
        go_ret
        exact ⟨rfl, ((unhide HK1).trans ((unhide HK3).trans (unhide HD3 W1 hkW1))).below (Nat.le_refl _) (by simp)⟩
      · obtain ⟨z, hzz⟩ : ∃ z, z = k &&& k1 := ⟨_, rfl⟩
        rw [← hzz] at hand hz
        clear hp hs hkp hzz
        go_wp2_with fail
        refine region_grow Tryd.mixed [Is (.int .i64 0), Is (.bool true), Is (.bool true), Is (.pointer (some ⟨g1, 2, none⟩)), Is (.slice a2 m2 c2), Is (.int .i64 m2), Is (.int .i64 s), Is (.bool true), Is (.bool true), Is (.bool true), Is (.int .i64 k), Is (.int .i64 k), Is (.int .i64 k1), Is (.int .i64 z), Is (.bool true), Is (.bool true), Is (undef), Is (undef), Is (undef), Is (undef), Is (undef), Is (.bool true), Is (.bool true), Is (.bool true), Is (.agg #[.int .i64 x, .int .i64 k, .slice a2 m2 c2]), Is (.slice al k cl), Is (.int .i64 x), PtT (y), SlT (y), Is (.slice al k cl), SlT (r), Is (.bool true), Is (.bool true), Is (.bool true), Is (.bool true), Is (.bool true), Is (.bool true)] [[(9, none)], [(33, some 0)], [(34, some 1)], [(8, none), (35, some 2)], [(36, some 3), (35, some 2)], [(37, some 4), (35, some 2)], [(10, none), (35, some 2)], [(38, some 5), (39, some 6), (35, some 2)], [(35, some 2), (40, some 7)], [(41, some 8)], [(5, none), (42, some 9)], [(5, none), (42, some 9)], [(44, some 11), (42, some 9)], [(43, some 10), (45, some 12), (42, some 9)], [(46, some 13), (42, some 9)], [(47, some 14), (42, some 9)], [(8, none), (48, some 15)], [(49, some 16), (48, some 15)], [(50, some 17), (48, some 15)], [(10, none), (48, some 15)], [(51, some 18), (52, some 19), (48, some 15)], [(48, some 15), (53, some 20), (42, some 9)], [(42, some 9), (54, some 21)], [(55, some 22)], [(8, none), (56, some 23)], [(6, none), (56, some 23)], [(7, none), (56, some 23)], [(58, some 25), (59, some 26), (56, some 23)], [(60, some 27), (56, some 23)], [(6, none), (56, some 23)], [(62, some 29), (56, some 23)], [(57, some 24), (61, some 28), (63, some 30), (56, some 23)], [(56, some 23), (64, some 31)], [(65, some 32)], [(66, some 33)], [(66, some 33), (67, some 34)], [(68, some 35)]] (by kernel_rfl) ?_ ?_ ?_
        · simp only [List.mem_cons, List.not_mem_nil, or_false]
          intro R hR
          rcases hR with rfl | rfl | rfl | rfl | rfl | rfl | rfl | rfl | rfl | rfl | rfl | rfl | rfl | rfl | rfl | rfl | rfl | rfl | rfl | rfl | rfl | rfl | rfl | rfl | rfl | rfl | rfl | rfl | rfl | rfl | rfl | rfl | rfl | rfl | rfl | rfl | rfl <;> first | exact stable_is _ | exact stable_pt _ | exact stable_sl _
        · refine steps_cons (fun a w hk hn => ?_) ?_
          · have h9 : a.eval (.tmp 9) = .int .i64 0 := hn.1
            clear hn
            refine wants_plain rfl ?_
            exact grown_move (.tmp 9) rfl h9
          refine steps_cons (fun a w hk hn => ?_) ?_
          · have h33 : a.eval (.tmp 33) = .int .i64 0 := hn.1
            clear hn
            refine wants_plain rfl ?_
            refine grown_run (v := .bool true) ?_ (Kp.refl _ _) rfl
            obtain ⟨ρ, hρ, hc, hf, hg⟩ := eval_is a
            rw [hρ] at h33 ⊢
            simp [go_sem, hc, h33]
          refine steps_cons (fun a w hk hn => ?_) ?_
          · have h34 : a.eval (.tmp 34) = .bool true := hn.1
            clear hn
            refine wants_plain rfl ?_
            exact grown_move (.tmp 34) rfl h34
          refine steps_cons (fun a w hk hn => ?_) ?_
          · have h8 : a.eval (.tmp 8) = .pointer (some ⟨g1, 0, none⟩) := hn.1
            have h35 : a.eval (.tmp 35) = .bool true := hn.2.1
            clear hn
            refine wants_guard (d := 35) rfl rfl h35 ?_
            exact grown_fld2 triP (.tmp 8) rfl h8
          refine steps_cons (fun a w hk hn => ?_) ?_
          · have h36 : a.eval (.tmp 36) = .pointer (some ⟨g1, 2, none⟩) := hn.1
            have h35 : a.eval (.tmp 35) = .bool true := hn.2.1
            clear hn
            refine wants_guard (d := 35) rfl rfl h35 ?_
            exact grown_ldl (.tmp 36) rfl 2 _ _ _ h36 (cell_tri ((fun w'' k' => unhide HG_g1 w'' (unhide HD3 w'' k')) w hk)).2.2
          refine steps_cons (fun a w hk hn => ?_) ?_
          · have h37 : a.eval (.tmp 37) = .slice a2 m2 c2 := hn.1
            have h35 : a.eval (.tmp 35) = .bool true := hn.2.1
            clear hn
            refine wants_guard (d := 35) rfl rfl h35 ?_
            refine grown_run (v := .int .i64 m2) ?_ (Kp.refl _ _) rfl
            obtain ⟨ρ, hρ, hc, hf, hg⟩ := eval_is a
            rw [hρ] at h37 ⊢
            simp [go_sem, h37]
          refine steps_cons (fun a w hk hn => ?_) ?_
          · have h10 : a.eval (.tmp 10) = .int .i64 s := hn.1
            have h35 : a.eval (.tmp 35) = .bool true := hn.2.1
            clear hn
            refine wants_guard (d := 35) rfl rfl h35 ?_
            exact grown_move (.tmp 10) rfl h10
          refine steps_cons (fun a w hk hn => ?_) ?_
          · have h38 : a.eval (.tmp 38) = .int .i64 m2 := hn.1
            have h39 : a.eval (.tmp 39) = .int .i64 s := hn.2.1
            have h35 : a.eval (.tmp 35) = .bool true := hn.2.2.1
            clear hn
            refine wants_guard (d := 35) rfl rfl h35 ?_
            refine grown_run (v := .bool true) ?_ (Kp.refl _ _) rfl
            obtain ⟨ρ, hρ, hc, hf, hg⟩ := eval_is a
            rw [hρ] at h38 h39 ⊢
            simp [go_sem, h38, h39, hle]
          refine steps_cons (fun a w hk hn => ?_) ?_
          · have h35 : a.eval (.tmp 35) = .bool true := hn.1
            have h40 : a.eval (.tmp 40) = .bool true := hn.2.1
            clear hn
            refine wants_plain rfl ?_
            exact grown_pick _ _ _ true rfl h35 h40
          refine steps_cons (fun a w hk hn => ?_) ?_
          · have h41 : a.eval (.tmp 41) = .bool true := hn.1
            clear hn
            refine wants_plain rfl ?_
            exact grown_move (.tmp 41) rfl h41
          refine steps_cons (fun a w hk hn => ?_) ?_
          · have h5 : a.eval (.tmp 5) = .int .i64 k := hn.1
            have h42 : a.eval (.tmp 42) = .bool true := hn.2.1
            clear hn
            refine wants_guard (d := 42) rfl rfl h42 ?_
            exact grown_move (.tmp 5) rfl h5
          refine steps_cons (fun a w hk hn => ?_) ?_
          · have h5 : a.eval (.tmp 5) = .int .i64 k := hn.1
            have h42 : a.eval (.tmp 42) = .bool true := hn.2.1
            clear hn
            refine wants_guard (d := 42) rfl rfl h42 ?_
            exact grown_move (.tmp 5) rfl h5
          refine steps_cons (fun a w hk hn => ?_) ?_
          · have h44 : a.eval (.tmp 44) = .int .i64 k := hn.1
            have h42 : a.eval (.tmp 42) = .bool true := hn.2.1
            clear hn
            refine wants_guard (d := 42) rfl rfl h42 ?_
            refine grown_run (v := .int .i64 k1) ?_ (Kp.refl _ _) rfl
            obtain ⟨ρ, hρ, hc, hf, hg⟩ := eval_is a
            rw [hρ] at h44 ⊢
            simp [go_sem, hc, h44]
            exact wrap_at (by omega) (by omega) (by omega)
          refine steps_cons (fun a w hk hn => ?_) ?_
          · have h43 : a.eval (.tmp 43) = .int .i64 k := hn.1
            have h45 : a.eval (.tmp 45) = .int .i64 k1 := hn.2.1
            have h42 : a.eval (.tmp 42) = .bool true := hn.2.2.1
            clear hn
            refine wants_guard (d := 42) rfl rfl h42 ?_
            refine grown_run (v := .int .i64 z) ?_ (Kp.refl _ _) rfl
            obtain ⟨ρ, hρ, hc, hf, hg⟩ := eval_is a
            rw [hρ] at h43 h45 ⊢
            simp [go_sem, h43, h45, hand]
          refine steps_cons (fun a w hk hn => ?_) ?_
          · have h46 : a.eval (.tmp 46) = .int .i64 z := hn.1
            have h42 : a.eval (.tmp 42) = .bool true := hn.2.1
            clear hn
            refine wants_guard (d := 42) rfl rfl h42 ?_
            refine grown_run (v := .bool true) ?_ (Kp.refl _ _) rfl
            obtain ⟨ρ, hρ, hc, hf, hg⟩ := eval_is a
            rw [hρ] at h46 ⊢
            simp [go_sem, hc, h46, hz]
          refine steps_cons (fun a w hk hn => ?_) ?_
          · have h47 : a.eval (.tmp 47) = .bool true := hn.1
            have h42 : a.eval (.tmp 42) = .bool true := hn.2.1
            clear hn
            refine wants_guard (d := 42) rfl rfl h42 ?_
            exact grown_move (.tmp 47) rfl h47
          refine steps_cons (fun a w hk hn => ?_) ?_
          · have h8 : a.eval (.tmp 8) = .pointer (some ⟨g1, 0, none⟩) := hn.1
            have h48 : a.eval (.tmp 48) = .bool true := hn.2.1
            clear hn
            exact wants_not (d := 48) rfl rfl h48 rfl
          refine steps_cons (fun a w hk hn => ?_) ?_
          · have h49 : a.eval (.tmp 49) = undef := hn.1
            have h48 : a.eval (.tmp 48) = .bool true := hn.2.1
            clear hn
            exact wants_not (d := 48) rfl rfl h48 rfl
          refine steps_cons (fun a w hk hn => ?_) ?_
          · have h50 : a.eval (.tmp 50) = undef := hn.1
            have h48 : a.eval (.tmp 48) = .bool true := hn.2.1
            clear hn
            exact wants_not (d := 48) rfl rfl h48 rfl
          refine steps_cons (fun a w hk hn => ?_) ?_
          · have h10 : a.eval (.tmp 10) = .int .i64 s := hn.1
            have h48 : a.eval (.tmp 48) = .bool true := hn.2.1
            clear hn
            exact wants_not (d := 48) rfl rfl h48 rfl
          refine steps_cons (fun a w hk hn => ?_) ?_
          · have h51 : a.eval (.tmp 51) = undef := hn.1
            have h52 : a.eval (.tmp 52) = undef := hn.2.1
            have h48 : a.eval (.tmp 48) = .bool true := hn.2.2.1
            clear hn
            exact wants_not (d := 48) rfl rfl h48 rfl
          refine steps_cons (fun a w hk hn => ?_) ?_
          · have h48 : a.eval (.tmp 48) = .bool true := hn.1
            have h53 : a.eval (.tmp 53) = undef := hn.2.1
            have h42 : a.eval (.tmp 42) = .bool true := hn.2.2.1
            clear hn
            refine wants_guard (d := 42) rfl rfl h42 ?_
            exact grown_pick _ _ _ true rfl h48 rfl
          refine steps_cons (fun a w hk hn => ?_) ?_
          · have h42 : a.eval (.tmp 42) = .bool true := hn.1
            have h54 : a.eval (.tmp 54) = .bool true := hn.2.1
            clear hn
            refine wants_plain rfl ?_
            exact grown_pick _ _ _ true rfl h42 h54
          refine steps_cons (fun a w hk hn => ?_) ?_
          · have h55 : a.eval (.tmp 55) = .bool true := hn.1
            clear hn
            refine wants_plain rfl ?_
            exact grown_move (.tmp 55) rfl h55
          refine steps_cons (fun a w hk hn => ?_) ?_
          · have h8 : a.eval (.tmp 8) = .pointer (some ⟨g1, 0, none⟩) := hn.1
            have h56 : a.eval (.tmp 56) = .bool true := hn.2.1
            clear hn
            refine wants_guard (d := 56) rfl rfl h56 ?_
            exact grown_loadtri triP (.tmp 8) rfl h8 ((fun w'' k' => unhide HG_g1 w'' (unhide HD3 w'' k')) w hk) rfl
          refine steps_cons (fun a w hk hn => ?_) ?_
          · have h6 : a.eval (.tmp 6) = .slice al k cl := hn.1
            have h56 : a.eval (.tmp 56) = .bool true := hn.2.1
            clear hn
            refine wants_guard (d := 56) rfl rfl h56 ?_
            exact grown_move (.tmp 6) rfl h6
          refine steps_cons (fun a w hk hn => ?_) ?_
          · have h7 : a.eval (.tmp 7) = .int .i64 x := hn.1
            have h56 : a.eval (.tmp 56) = .bool true := hn.2.1
            clear hn
            refine wants_guard (d := 56) rfl rfl h56 ?_
            exact grown_move (.tmp 7) rfl h7
          refine steps_cons (fun a w hk hn => ?_) ?_
          · have h58 : a.eval (.tmp 58) = .slice al k cl := hn.1
            have h59 : a.eval (.tmp 59) = .int .i64 x := hn.2.1
            have h56 : a.eval (.tmp 56) = .bool true := hn.2.2.1
            clear hn
            refine wants_guard (d := 56) rfl rfl h56 ?_
            exact grown_lindex (.tmp 58) (.tmp 59) (ls) x (y) rfl (by rw [h58]; exact (fun w'' k' => unhide HLL w'' (unhide HD3 w'' k')) w hk) h59 (unhide HX)
          refine steps_cons (fun a w hk hn => ?_) ?_
          · have h60 : (PtT (y)) (a.eval (.tmp 60)) w := hn.1
            have h56 : a.eval (.tmp 56) = .bool true := hn.2.1
            clear hn
            refine wants_guard (d := 56) rfl rfl h56 ?_
            exact grown_lload (.tmp 60) _ rfl h60
          refine steps_cons (fun a w hk hn => ?_) ?_
          · have h6 : a.eval (.tmp 6) = .slice al k cl := hn.1
            have h56 : a.eval (.tmp 56) = .bool true := hn.2.1
            clear hn
            refine wants_guard (d := 56) rfl rfl h56 ?_
            exact grown_move (.tmp 6) rfl h6
          refine steps_cons (fun a w hk hn => ?_) ?_
          · have h62 : a.eval (.tmp 62) = .slice al k cl := hn.1
            have h56 : a.eval (.tmp 56) = .bool true := hn.2.1
            clear hn
            refine wants_guard (d := 56) rfl rfl h56 ?_
            refine grown_call (f := 10) rfl Tryd.func10 (by kernel_rfl) (by kernel_rfl) ?_
            simp only [List.map_toArray, List.map_cons, List.map_nil, h62]
            refine (rroot_any k _ ls r w (unhide HRR) (unhide HNL) (by omega) (unhide HLL w (unhide HD3 w hk)) (unhide HML)).mono ?_
            rintro e w' ⟨ao, m, c, rfl, R, K⟩
            exact ⟨_, rfl, K, R⟩
          refine steps_cons (fun a w hk hn => ?_) ?_
          · have h57 : a.eval (.tmp 57) = .agg #[.int .i64 x, .int .i64 k, .slice a2 m2 c2] := hn.1
            have h61 : Sl w (a.eval (.tmp 61)) (y) := hn.2.1
            have h63 : Sl w (a.eval (.tmp 63)) (r) := hn.2.2.1
            have h56 : a.eval (.tmp 56) = .bool true := hn.2.2.2.1
            clear hn
            refine wants_guard (d := 56) rfl rfl h56 ?_
            refine grown_call (f := 9) rfl Tryd.func9 (by kernel_rfl) (by kernel_rfl) ?_
            simp only [List.map_toArray, List.map_cons, List.map_nil, h57]
            refine (check_any _ _ _ x k ps y r w (unhide HW2 w (unhide HD3 w hk)) h61 (unhide HXB) h63 (by omega) (unhide HGL w (unhide HD3 w hk))).mono ?_
            rintro e w' ⟨rfl, K⟩
            exact ⟨_, rfl, K, congrArg Value.bool (unhide HCP)⟩
          refine steps_cons (fun a w hk hn => ?_) ?_
          · have h56 : a.eval (.tmp 56) = .bool true := hn.1
            have h64 : a.eval (.tmp 64) = .bool true := hn.2.1
            clear hn
            refine wants_plain rfl ?_
            exact grown_pick _ _ _ true rfl h56 h64
          refine steps_cons (fun a w hk hn => ?_) ?_
          · have h65 : a.eval (.tmp 65) = .bool true := hn.1
            clear hn
            refine wants_plain rfl ?_
            exact grown_move (.tmp 65) rfl h65
          refine steps_cons (fun a w hk hn => ?_) ?_
          · have h66 : a.eval (.tmp 66) = .bool true := hn.1
            clear hn
            refine wants_guard (d := 66) rfl rfl h66 ?_
            refine grown_call (f := 11) rfl Tryd.func11 (by kernel_rfl) (by kernel_rfl) ?_
            simp only [List.map_toArray, List.map_nil]
            refine (pknown_any w (unhide HGL w (unhide HD3 w hk))).mono ?_
            rintro e w' ⟨rfl, K⟩
            exact ⟨_, rfl, K, rfl⟩
          refine steps_cons (fun a w hk hn => ?_) ?_
          · have h66 : a.eval (.tmp 66) = .bool true := hn.1
            have h67 : a.eval (.tmp 67) = .bool true := hn.2.1
            clear hn
            refine wants_plain rfl ?_
            exact grown_pick _ _ _ true rfl h66 h67
          refine steps_cons (fun a w hk hn => ?_) ?_
          · have h68 : a.eval (.tmp 68) = .bool true := hn.1
            clear hn
            refine wants_plain rfl ?_
            exact grown_assign (.tmp 68) rfl h68
          exact trivial
        intro W1 hkW1
        rintro _ rfl
        rintro _ rfl
        rintro _ rfl
        rintro _ rfl
        rintro _ rfl
        rintro _ rfl
        rintro _ rfl
        rintro _ rfl
        rintro _ rfl
        rintro _ rfl
        rintro _ rfl
        rintro _ rfl
        rintro _ rfl
        rintro _ rfl
        rintro _ rfl
        rintro _ rfl
        rintro _ rfl
        rintro _ rfl
        rintro _ rfl
        rintro _ rfl
        rintro _ rfl
        rintro _ rfl
        rintro _ rfl
        rintro _ rfl
        rintro _ rfl
        rintro _ rfl
        rintro _ rfl
        intro v60 h60
        intro v61 h61
        rintro _ rfl
        intro v63 h63
        rintro _ rfl
        rintro _ rfl
        rintro _ rfl
        rintro _ rfl
        rintro _ rfl
        rintro _ rfl
        refine fin_nil ?_
        simp only [Act.put, List.set_cons_zero, List.set_cons_succ, List.setIfInBounds_toArray]
        go_wp2_with fail
        go_ret
        exact ⟨rfl, ((unhide HK1).trans ((unhide HK3).trans (unhide HD3 W1 hkW1))).below (Nat.le_refl _) (by simp)⟩

set_option maxRecDepth 100000 in
theorem lifted (os : Os) (started : os.Started) (H : Type) (enc : TypeId × Value → H) :
    ReturnsInHanded {} Tryd.checked os 3 .any (fun w args => (Rows.proofSizesSpec.pre enc Tryd.prog Tryd.f3 [] false w args ∧ laidMetH Tryd.prog laid1 w) ∧ sizedMet enc Tryd.prog Tryd.f3 (OpenSpec.ofChange Rows.proofSizesSpec) false w args) (Rows.proofSizesSpec.post enc Tryd.prog Tryd.f3 false true false false) := by
  refine returnsInHanded_of_change_and (C := Tryd.checked) (X := fun w _ => laidMetH Tryd.prog laid1 w) (fun _ _ _ hh h => h.of_heap hh) own started (by kernel_rfl) Tryd.func3
    (ChangeSpec.witness_shaped (enc := enc) (C := Tryd.checked) (os := os) (X := fun w _ => laidMetH Tryd.prog laid1 w) false (World.doorLaid Tryd.prog 400 os) #[.int .i64 0, .int .i64 0] 8 rfl (World.shaped_of_RefB (by kernel_rfl) (by kernel_rfl)) (by kernel_rfl) (by kernel_rfl) (by kernel_rfl) (door_met os _)) ?_
  intro W base args ds gs before hval0 hW hcnd hsz0 hL _
  have hG := gl_of_laid hL
  have hval : ∀ (j : Nat) t v, Tryd.f3.params[j]? = some t → args[j]? = some v → Value.okWide Tryd.prog W .any base t v := hval0
  have hW' := hW
  obtain ⟨p, q, hA0, hV, rfl, hfz, hnd⟩ := hW
  have hA : DataW.TrodAll enc Tryd.prog W 0 (fun _ => true) true Tryd.f3.params.toList args.toList ds p := hA0
  rw [Tryd.params3] at hA hval
  obtain ⟨v0, vs0, d0, ds0, p0, q0, hargs, rfl, rfl, h0, r0⟩ := trodAll_cons hA
  obtain ⟨v1, vs1, d1, ds1, p1, q1, rfl, rfl, rfl, h1, r1⟩ := trodAll_cons r0
  obtain ⟨rfl, rfl, rfl⟩ := trodAll_nil r1
  obtain rfl : args = #[v0, v1] := by cases args; simp_all
  obtain ⟨rfl, rfl⟩ := trodVars_none hV
  obtain ⟨a0, rfl, rfl, rfl, w0⟩ := open_int Tryd.underlying3 (hval 0 3 v0 rfl rfl) h0
  obtain ⟨a1, rfl, rfl, rfl, w1⟩ := open_int Tryd.underlying3 (hval 1 3 v1 rfl rfl) h1
  clear hA0 hval0
  refine (walk a0 a1 W hG (bounds_i64 w0) (bounds_i64 w1)).mono fun e W' ⟨he, bel⟩ => ?_
  subst he
  exact ⟨_, rfl, _, _, _, [], _, [], hW', trodAll_mk1 (shut_bool Tryd.underlying4 _), (trodAll_cons_mk (shut_int Tryd.underlying3 w0) (trodAll_cons_mk (shut_int Tryd.underlying3 w1) trodAll_mk0)), rfl, bel.frame _, fun h => by cases h⟩

theorem over : Rows.proofSizesRow.holds Tryd.pinned (OpenSpec.ofChange Rows.proofSizesSpec) :=
  OpenClaim.holds_of_wide 3 Tryd.f3 rfl rfl rfl rfl rfl rfl rfl ⟨rfl, rfl, rfl, rfl, rfl⟩ rfl rfl rfl rfl rfl (by kernel_rfl) Tryd.func3 (by kernel_rfl)
    (of_decide_eq_true (by kernel_rfl)) (by unfold Func.isWrapper; first | (rw [if_pos (by decide +kernel)]; kernel_rfl) | (rw [if_neg (by decide +kernel)]; exact ⟨rfl, rfl⟩))
    (fun os started H enc _ => lifted os started H enc)
end Go.Proofs.YtphhofgjnlfjmabDoor.proofSizes

namespace Go.Proofs.YtphhofgjnlfjmabDoor
/-- The given statement: the tied card. -/
theorem ProofSizes_holds : Rows.ProofSizesCardSaid :=
  Claim7.holds_tied_plain_at .later [] [.data] true Rows.proofSizesCard.stood.harness false
    proofSizes.over (fun _ h => by cases h) (by kernel_rfl) (fun _ h => by cases h) proofSizes_row_tie rfl ⟨rfl, rfl⟩ (by kernel_rfl) rfl
    (fun f fn hf hfn => by
      obtain rfl : f = 3 := Option.some.inj ((show Tryd.prog.funcNamed "broadsheet/broadsheetlaw8.ProofSizes" = some 3 by kernel_rfl).symm.trans hf) |>.symm
      obtain rfl : fn = Tryd.f3 := (Option.some.inj (Tryd.func3.symm.trans hfn)).symm
      exact ⟨by kernel_rfl, fun j t ht => by
        rw [Tryd.params3] at ht
        have hm : t ∈ ([3, 3] : List TypeId) := by simpa using Array.mem_of_getElem? ht
        have hall : (([3, 3] : List TypeId).all fun u => !Tryd.prog.wantsStandIn u) = true := by kernel_rfl
        exact (show Tryd.prog.wantsStandIn t = false by simpa using List.all_eq_true.1 hall t hm)⟩)
    (by kernel_rfl)
#print axioms ProofSizes_holds
end Go.Proofs.YtphhofgjnlfjmabDoor
