/-
  The statement ProofEndsCardSaid: for all numbers and bytes the law function ProofEnds returns true and leaves its argument as it was; the table hash.roundWords starts as the program's text lays it (tied). No other condition.
-/
import Derived.Test.YtphhofgjnlfjmabDoorKPKnown
import Derived.Test.YtphhofgjnlfjmabDoorKLMore
import Derived.Test.YtphhofgjnlfjmabDoorTie
import Derived.Test.YtphhofgjnlfjmabDoorCards
import Derived.SevenTiedAt
namespace Go.Proofs.YtphhofgjnlfjmabDoor.proofEnds
open Go.ChangeShapes Go.WideShapes Go.ChangeAt Go.RowKit
open Go.Proofs.YtphhofgjnlfjmabDoor
set_option linter.unusedVariables false

set_option maxRecDepth 100000 in
set_option maxHeartbeats 1500000 in
theorem walk (n : Int) (v1 : Value) (bs1 : List Int) (w : World) (hG : Gl w) (hn : -9223372036854775808 ≤ n ∧ n ≤ 9223372036854775807) (hS1 : Sl w v1 bs1) (hB1 : Bs bs1) :
    Calls Tryd.prog 4 #[.int .i64 n, v1] w fun e w' => e = .returned (.bool true) ∧ Below w.heap.size w w' := by
  have HG := hide hG
  have HC := hide (within_any n 0 60 w (by omega) (by omega) (by omega) hn)
  have HS1 := hide hS1
  have HB1 := hide hB1
  obtain ⟨av, cv, hv, -⟩ := hS1
  obtain ⟨nv, hnv⟩ : ∃ m, m = bs1.length := ⟨_, rfl⟩
  rw [← hnv] at hv
  subst hv
  clear hG hB1 hnv hn
  go_enter Tryd.func4, Tryd.ntmps4
  go_wp2_with fail
  refine (unhide HC).mono ?_
  rintro ee w9 ⟨xn, rfl, hx0, hx1, hw⟩
  subst w9
  obtain ⟨N, rfl⟩ := Int.eq_ofNat_of_zero_le hx0
  have hN60 : N ≤ 60 := by omega
  clear HC hx0 hx1
  have HC := hide (kl_any N w (by omega))
  go_wp2_with fail
  refine (unhide HC).mono ?_
  rintro ee w1 ⟨al, cl, rfl, L1, K1⟩
  obtain ⟨ls, hls⟩ : ∃ ls, ls = kleavesP N := ⟨_, rfl⟩
  rw [← hls] at L1
  have hll : ls.length = N := by rw [hls, kleavesP_len]
  have h32 : ∀ x ∈ ls, x.length = 32 := by rw [hls]; exact kleavesP_all N
  have hml : ∀ x ∈ ls, x.length ≤ 1000 := fun x hx => by have := h32 x hx; omega
  obtain ⟨r, hr⟩ : ∃ r, r = trootP ls := ⟨_, rfl⟩
  obtain ⟨rn, hrn⟩ : ∃ r, r = trootP [] := ⟨_, rfl⟩
  have HK1 := hide K1
  have HL1 := hide L1
  have hq1 := cgrP_grow (m := 0) h32 (by rw [hll]; omega) (by omega)
  have hq2 := cgrP_grow (m := ls.length) h32 (by rw [hll]; omega) (Nat.le_refl _)
  rw [growP_zero, List.take_zero, ← hrn, ← hr, hll, show ((0 : Nat) : Int) = 0 from rfl] at hq1
  rw [growP_all, List.take_length, ← hr, hll] at hq2
  have HQ1 := hide hq1
  have HQ2 := hide hq2
  have HRB : Hid (Bs r) := by rw [hr]; exact trootP_bs _ L1.bs
  have HNB : Hid (Bs rn) := by rw [hrn, trootP_nil]; exact sha_bs _
  have HRR := hide hr
  have HRN := hide hrn
  have HML := hide hml
  have HNL := hide hll
  clear HC hls K1 hq1 hq2
  have HC := hide (rroot_any N _ ls r w1 hr hll (by omega) L1 hml)
  clear L1 hll h32 hml hr hrn
  go_wp2_with fail
  refine (unhide HC).mono ?_
  rintro ee w2 ⟨a6, m6, c6, rfl, S2, K2⟩
  have HS6 := hide S2
  have HK2 := hide ((unhide HK1).trans K2)
  have HL2 := hide ((unhide HL1).kept K2)
  have HG2 : Hid (Gl w2) := (unhide HG).kept (unhide HK2) (by simp)
  clear HC S2 K2
  have hC := grow_ok _ ls 0 w2 (unhide HL2) (by omega) (by rw [unhide HNL]; omega) (unhide HML) (unhide HG2)
  rw [growP_zero, unhide HNL, show ((0 : Nat) : Int) = 0 from rfl] at hC
  have HC := hide hC
  clear hC
  go_wp2_with fail
  refine (unhide HC).mono ?_
  rintro ee w3 ⟨v3, rfl, V3, K3⟩
  obtain ⟨a3, c3, e_, -⟩ := V3.shape
  rw [List.length_nil] at e_
  subst e_
  have HV3 := hide V3
  have HK3 := hide K3
  have HZ3 : Hid (w2.heap.size ≤ w3.heap.size) := hide K3.size
  clear V3 K3 HC
  have G_ := heap_alloc_new w3 (.cells #[.int .i64 0, .int .i64 0, .slice none 0 0] 36)
  go_wp2_with (refine wpList_store_tri triG rfl (.tmp 7) (.tmp 22) rfl w3.heap.size rfl _ _ _ _ _ _ G_ rfl ⟨rfl, rfl, rfl⟩ ?_; intro w4 Go_ Ko_; refine Hid.out ?_)
  have HK_w4 : Hid (Kp [] w3 w4) := ((Kp.refl [] w3).alloc _).then Ko_ (by simp)
  obtain ⟨g7, hg_⟩ : ∃ g, g = w3.heap.size := ⟨_, rfl⟩
  rw [← hg_] at Go_ ⊢
  have HG_g7 : Hid (∀ w', Kp [] w4 w' → w'.heap[g7]? = some (.cells #[.int .i64 0, .int .i64 N, .slice a3 0 c3] 36 (0, 0))) := fun w' k => k.heap Go_ (by simp)
  have HZ7 : Hid (w2.heap.size ≤ g7) := hide (by rw [hg_]; exact unhide HZ3)
  clear G_ Go_ Ko_ hg_
  refine hide ?_
  have HK4 := hide ((unhide HK3).trans (unhide HK_w4))
  have hC := grow_ok _ ls ls.length w4 ((unhide HL2).kept (unhide HK4)) (Nat.le_refl _) (by rw [unhide HNL]; omega) (unhide HML) ((unhide HG2).kept (unhide HK4) (by simp))
  rw [growP_all, unhide HNL] at hC
  have HC := hide hC
  clear hC
  go_wp2_with fail
  refine (unhide HC).mono ?_
  rintro ee w5 ⟨v5, rfl, V5, K5⟩
  obtain ⟨a5, c5, e_, -⟩ := V5.shape
  rw [List.length_nil] at e_
  subst e_
  have HV5 := hide V5
  have HK5 := hide K5
  have HZ5 : Hid (w2.heap.size ≤ w5.heap.size) := hide (((unhide HK4).trans K5).size)
  have H79 : Hid (g7 < w5.heap.size) := hide (Array.getElem?_eq_some_iff.1 (unhide HG_g7 w5 K5)).1
  clear V5 K5 HC
  have G_ := heap_alloc_new w5 (.cells #[.int .i64 0, .int .i64 0, .slice none 0 0] 36)
  go_wp2_with (refine wpList_store_tri triG rfl (.tmp 9) (.tmp 29) rfl w5.heap.size rfl _ _ _ _ _ _ G_ rfl ⟨rfl, rfl, rfl⟩ ?_; intro w6 Go_ Ko_; refine Hid.out ?_)
  have HK_w6 : Hid (Kp [] w5 w6) := ((Kp.refl [] w5).alloc _).then Ko_ (by simp)
  obtain ⟨g9, hg_⟩ : ∃ g, g = w5.heap.size := ⟨_, rfl⟩
  rw [← hg_] at Go_ ⊢
  have HG_g9 : Hid (∀ w', Kp [] w6 w' → w'.heap[g9]? = some (.cells #[.int .i64 N, .int .i64 N, .slice a5 0 c5] 36 (0, 0))) := fun w' k => k.heap Go_ (by simp)
  have HZ9 : Hid (w2.heap.size ≤ g9) := hide (by rw [hg_]; exact unhide HZ5)
  have H97 : Hid (g7 < g9) := hide (by rw [hg_]; exact unhide H79)
  clear G_ Go_ Ko_ hg_
  refine hide ?_
  have K46 : Kp [] w4 w6 := (unhide HK5).trans (unhide HK_w6)
  have HK6 := hide ((unhide HK4).trans K46)
  have HS7 : Hid (∀ w', Kp [] w6 w' → w'.heap[g7]? = some (.cells #[.int .i64 0, .int .i64 N, .slice a3 0 c3] 36 (0, 0))) := fun w' k' => unhide HG_g7 w' (K46.trans k')
  have HW3 : Hid (∀ w', Kp [] w6 w' → TV w' (.agg #[.int .i64 0, .int .i64 N, .slice a3 0 c3]) 0 N []) := fun w' k' => (unhide HV3).kept ((unhide HK_w4).trans (K46.trans k'))
  have HW5 : Hid (∀ w', Kp [] w6 w' → TV w' (.agg #[.int .i64 N, .int .i64 N, .slice a5 0 c5]) N N []) := fun w' k' => (unhide HV5).kept ((unhide HK_w6).trans k')
  have HSR : Hid (∀ w', Kp [] w2 w' → Sl w' (.slice a6 m6 c6) r) := fun w' k' => (unhide HS6).kept k' (by simp)
  have HGL : Hid (∀ w', Kp [] w2 w' → Gl w') := fun w' k' => (unhide HG2).kept k' (by simp)
  have HD6 : Hid (∀ w', Kp [] w6.drew w' → Kp [] w6 w') := fun w' k' => (kp_drew w6).trans k'
  have HE6 : Hid (∀ w', Kp [] w6.drew w' → Kp [] w2 w') := fun w' k' => (unhide HK6).trans ((kp_drew w6).trans k')
  clear K46
  go_wp2_with fail
  refine region_grow Tryd.mixed [Is (.int .i64 0), Is (.bool false), Is (.bool false), Is (.int .i64 0), Is (.bool false), Is (.bool false), Is (.bool false), Is (.pointer (some ⟨g7, 2, none⟩)), Is (.slice a3 0 c3), Is (.int .i64 0), Is (.pointer (some ⟨g9, 2, none⟩)), Is (.slice a5 0 c5), Is (.int .i64 0), Is (.int .i64 0), Is (.bool false), Is (.bool false), Is (.bool false), Is (.agg #[.int .i64 0, .int .i64 N, .slice a3 0 c3]), SlT (rn), Is (.slice a6 m6 c6), Is (.bool true), Is (.bool false), Is (.bool false), Is (.bool false), Is (.agg #[.int .i64 N, .int .i64 N, .slice a5 0 c5]), Is (.slice a6 m6 c6), Is (.slice a6 m6 c6), Is (.bool true), Is (.bool false), Is (.bool false)] [[(8, none)], [(31, some 0)], [(32, some 1)], [(10, none), (33, some 2)], [(34, some 3), (33, some 2)], [(33, some 2), (35, some 4)], [(36, some 5)], [(7, none), (37, some 6)], [(38, some 7), (37, some 6)], [(39, some 8), (37, some 6)], [(9, none), (37, some 6)], [(41, some 10), (37, some 6)], [(42, some 11), (37, some 6)], [(40, some 9), (43, some 12), (37, some 6)], [(44, some 13), (37, some 6)], [(37, some 6), (45, some 14)], [(46, some 15)], [(7, none), (47, some 16)], [(47, some 16)], [(6, none), (47, some 16)], [(48, some 17), (49, some 18), (50, some 19), (47, some 16)], [(51, some 20), (47, some 16)], [(47, some 16), (52, some 21)], [(53, some 22)], [(9, none), (54, some 23)], [(6, none), (54, some 23)], [(6, none), (54, some 23)], [(55, some 24), (56, some 25), (57, some 26), (54, some 23)], [(58, some 27), (54, some 23)], [(54, some 23), (59, some 28)]] (by kernel_rfl) ?_ ?_ ?_
  · simp only [List.mem_cons, List.not_mem_nil, or_false]
    intro R hR
    rcases hR with rfl | rfl | rfl | rfl | rfl | rfl | rfl | rfl | rfl | rfl | rfl | rfl | rfl | rfl | rfl | rfl | rfl | rfl | rfl | rfl | rfl | rfl | rfl | rfl | rfl | rfl | rfl | rfl | rfl | rfl <;> first | exact stable_is _ | exact stable_sl _
  · refine steps_cons (fun a w hk hn => ?_) ?_
    · have h8 : a.eval (.tmp 8) = .int .i64 0 := hn.1
      clear hn
      refine wants_plain rfl ?_
      exact grown_move (.tmp 8) rfl h8
    refine steps_cons (fun a w hk hn => ?_) ?_
    · have h31 : a.eval (.tmp 31) = .int .i64 0 := hn.1
      clear hn
      refine wants_plain rfl ?_
      refine grown_run (v := .bool false) ?_ (Kp.refl _ _) rfl
      obtain ⟨ρ, hρ, hc, hf, hg⟩ := eval_is a
      rw [hρ] at h31 ⊢
      simp [go_sem, hc, h31]
    refine steps_cons (fun a w hk hn => ?_) ?_
    · have h32 : a.eval (.tmp 32) = .bool false := hn.1
      clear hn
      refine wants_plain rfl ?_
      exact grown_move (.tmp 32) rfl h32
    refine steps_cons (fun a w hk hn => ?_) ?_
    · have h10 : a.eval (.tmp 10) = .int .i64 0 := hn.1
      have h33 : a.eval (.tmp 33) = .bool false := hn.2.1
      clear hn
      refine wants_guard (d := 33) rfl rfl h33 ?_
      exact grown_move (.tmp 10) rfl h10
    refine steps_cons (fun a w hk hn => ?_) ?_
    · have h34 : a.eval (.tmp 34) = .int .i64 0 := hn.1
      have h33 : a.eval (.tmp 33) = .bool false := hn.2.1
      clear hn
      refine wants_guard (d := 33) rfl rfl h33 ?_
      refine grown_run (v := .bool false) ?_ (Kp.refl _ _) rfl
      obtain ⟨ρ, hρ, hc, hf, hg⟩ := eval_is a
      rw [hρ] at h34 ⊢
      simp [go_sem, hc, h34]
    refine steps_cons (fun a w hk hn => ?_) ?_
    · have h33 : a.eval (.tmp 33) = .bool false := hn.1
      have h35 : a.eval (.tmp 35) = .bool false := hn.2.1
      clear hn
      refine wants_plain rfl ?_
      exact grown_pick _ _ _ false rfl h33 h35
    refine steps_cons (fun a w hk hn => ?_) ?_
    · have h36 : a.eval (.tmp 36) = .bool false := hn.1
      clear hn
      refine wants_plain rfl ?_
      exact grown_move (.tmp 36) rfl h36
    refine steps_cons (fun a w hk hn => ?_) ?_
    · have h7 : a.eval (.tmp 7) = .pointer (some ⟨g7, 0, none⟩) := hn.1
      have h37 : a.eval (.tmp 37) = .bool false := hn.2.1
      clear hn
      refine wants_guard (d := 37) rfl rfl h37 ?_
      exact grown_fld2 triG (.tmp 7) rfl h7
    refine steps_cons (fun a w hk hn => ?_) ?_
    · have h38 : a.eval (.tmp 38) = .pointer (some ⟨g7, 2, none⟩) := hn.1
      have h37 : a.eval (.tmp 37) = .bool false := hn.2.1
      clear hn
      refine wants_guard (d := 37) rfl rfl h37 ?_
      exact grown_ldl (.tmp 38) rfl 2 _ _ _ h38 (cell_tri ((fun w'' k' => unhide HS7 w'' (unhide HD6 w'' k')) w hk)).2.2
    refine steps_cons (fun a w hk hn => ?_) ?_
    · have h39 : a.eval (.tmp 39) = .slice a3 0 c3 := hn.1
      have h37 : a.eval (.tmp 37) = .bool false := hn.2.1
      clear hn
      refine wants_guard (d := 37) rfl rfl h37 ?_
      refine grown_run (v := .int .i64 0) ?_ (Kp.refl _ _) rfl
      obtain ⟨ρ, hρ, hc, hf, hg⟩ := eval_is a
      rw [hρ] at h39 ⊢
      simp [go_sem, h39]
    refine steps_cons (fun a w hk hn => ?_) ?_
    · have h9 : a.eval (.tmp 9) = .pointer (some ⟨g9, 0, none⟩) := hn.1
      have h37 : a.eval (.tmp 37) = .bool false := hn.2.1
      clear hn
      refine wants_guard (d := 37) rfl rfl h37 ?_
      exact grown_fld2 triG (.tmp 9) rfl h9
    refine steps_cons (fun a w hk hn => ?_) ?_
    · have h41 : a.eval (.tmp 41) = .pointer (some ⟨g9, 2, none⟩) := hn.1
      have h37 : a.eval (.tmp 37) = .bool false := hn.2.1
      clear hn
      refine wants_guard (d := 37) rfl rfl h37 ?_
      exact grown_ldl (.tmp 41) rfl 2 _ _ _ h41 (cell_tri ((fun w'' k' => unhide HG_g9 w'' (unhide HD6 w'' k')) w hk)).2.2
    refine steps_cons (fun a w hk hn => ?_) ?_
    · have h42 : a.eval (.tmp 42) = .slice a5 0 c5 := hn.1
      have h37 : a.eval (.tmp 37) = .bool false := hn.2.1
      clear hn
      refine wants_guard (d := 37) rfl rfl h37 ?_
      refine grown_run (v := .int .i64 0) ?_ (Kp.refl _ _) rfl
      obtain ⟨ρ, hρ, hc, hf, hg⟩ := eval_is a
      rw [hρ] at h42 ⊢
      simp [go_sem, h42]
    refine steps_cons (fun a w hk hn => ?_) ?_
    · have h40 : a.eval (.tmp 40) = .int .i64 0 := hn.1
      have h43 : a.eval (.tmp 43) = .int .i64 0 := hn.2.1
      have h37 : a.eval (.tmp 37) = .bool false := hn.2.2.1
      clear hn
      refine wants_guard (d := 37) rfl rfl h37 ?_
      refine grown_run (v := .int .i64 0) ?_ (Kp.refl _ _) rfl
      obtain ⟨ρ, hρ, hc, hf, hg⟩ := eval_is a
      rw [hρ] at h40 h43 ⊢
      simp [go_sem, h40, h43]
      rfl
    refine steps_cons (fun a w hk hn => ?_) ?_
    · have h44 : a.eval (.tmp 44) = .int .i64 0 := hn.1
      have h37 : a.eval (.tmp 37) = .bool false := hn.2.1
      clear hn
      refine wants_guard (d := 37) rfl rfl h37 ?_
      refine grown_run (v := .bool false) ?_ (Kp.refl _ _) rfl
      obtain ⟨ρ, hρ, hc, hf, hg⟩ := eval_is a
      rw [hρ] at h44 ⊢
      simp [go_sem, hc, h44]
    refine steps_cons (fun a w hk hn => ?_) ?_
    · have h37 : a.eval (.tmp 37) = .bool false := hn.1
      have h45 : a.eval (.tmp 45) = .bool false := hn.2.1
      clear hn
      refine wants_plain rfl ?_
      exact grown_pick _ _ _ false rfl h37 h45
    refine steps_cons (fun a w hk hn => ?_) ?_
    · have h46 : a.eval (.tmp 46) = .bool false := hn.1
      clear hn
      refine wants_plain rfl ?_
      exact grown_move (.tmp 46) rfl h46
    refine steps_cons (fun a w hk hn => ?_) ?_
    · have h7 : a.eval (.tmp 7) = .pointer (some ⟨g7, 0, none⟩) := hn.1
      have h47 : a.eval (.tmp 47) = .bool false := hn.2.1
      clear hn
      refine wants_guard (d := 47) rfl rfl h47 ?_
      exact grown_loadtri triG (.tmp 7) rfl h7 ((fun w'' k' => unhide HS7 w'' (unhide HD6 w'' k')) w hk) rfl
    refine steps_cons (fun a w hk hn => ?_) ?_
    · have h47 : a.eval (.tmp 47) = .bool false := hn.1
      clear hn
      refine wants_guard (d := 47) rfl rfl h47 ?_
      refine grown_call (f := 10) rfl Tryd.func10 (by kernel_rfl) (by kernel_rfl) ?_
      simp only [List.map_toArray, List.map_cons, List.map_nil]
      refine (rroot_any 0 (.slice none 0 0) [] rn w (unhide HRN) rfl (by omega) (lcm_nil w) (by simp)).mono ?_
      rintro e w' ⟨ao, m, c, rfl, R, K⟩
      exact ⟨_, rfl, K, R⟩
    refine steps_cons (fun a w hk hn => ?_) ?_
    · have h6 : a.eval (.tmp 6) = .slice a6 m6 c6 := hn.1
      have h47 : a.eval (.tmp 47) = .bool false := hn.2.1
      clear hn
      refine wants_guard (d := 47) rfl rfl h47 ?_
      exact grown_move (.tmp 6) rfl h6
    refine steps_cons (fun a w hk hn => ?_) ?_
    · have h48 : a.eval (.tmp 48) = .agg #[.int .i64 0, .int .i64 N, .slice a3 0 c3] := hn.1
      have h49 : Sl w (a.eval (.tmp 49)) (rn) := hn.2.1
      have h50 : a.eval (.tmp 50) = .slice a6 m6 c6 := hn.2.2.1
      have h47 : a.eval (.tmp 47) = .bool false := hn.2.2.2.1
      clear hn
      refine wants_guard (d := 47) rfl rfl h47 ?_
      refine grown_call (f := 13) rfl Tryd.func13 (by kernel_rfl) (by kernel_rfl) ?_
      simp only [List.map_toArray, List.map_cons, List.map_nil, h48, h50]
      refine (cgrow_any _ _ _ 0 N [] rn r w (unhide HW3 w (unhide HD6 w hk)) h49 (unhide HNB) (unhide HSR w (unhide HE6 w hk)) (by omega) (unhide HGL w (unhide HE6 w hk))).mono ?_
      rintro e w' ⟨rfl, K⟩
      exact ⟨_, rfl, K, congrArg Value.bool (unhide HQ1)⟩
    refine steps_cons (fun a w hk hn => ?_) ?_
    · have h51 : a.eval (.tmp 51) = .bool true := hn.1
      have h47 : a.eval (.tmp 47) = .bool false := hn.2.1
      clear hn
      refine wants_guard (d := 47) rfl rfl h47 ?_
      refine grown_run (v := .bool false) ?_ (Kp.refl _ _) rfl
      obtain ⟨ρ, hρ, hc, hf, hg⟩ := eval_is a
      rw [hρ] at h51 ⊢
      simp [go_sem, h51]
    refine steps_cons (fun a w hk hn => ?_) ?_
    · have h47 : a.eval (.tmp 47) = .bool false := hn.1
      have h52 : a.eval (.tmp 52) = .bool false := hn.2.1
      clear hn
      refine wants_plain rfl ?_
      exact grown_pick _ _ _ false rfl h47 h52
    refine steps_cons (fun a w hk hn => ?_) ?_
    · have h53 : a.eval (.tmp 53) = .bool false := hn.1
      clear hn
      refine wants_plain rfl ?_
      exact grown_move (.tmp 53) rfl h53
    refine steps_cons (fun a w hk hn => ?_) ?_
    · have h9 : a.eval (.tmp 9) = .pointer (some ⟨g9, 0, none⟩) := hn.1
      have h54 : a.eval (.tmp 54) = .bool false := hn.2.1
      clear hn
      refine wants_guard (d := 54) rfl rfl h54 ?_
      exact grown_loadtri triG (.tmp 9) rfl h9 ((fun w'' k' => unhide HG_g9 w'' (unhide HD6 w'' k')) w hk) rfl
    refine steps_cons (fun a w hk hn => ?_) ?_
    · have h6 : a.eval (.tmp 6) = .slice a6 m6 c6 := hn.1
      have h54 : a.eval (.tmp 54) = .bool false := hn.2.1
      clear hn
      refine wants_guard (d := 54) rfl rfl h54 ?_
      exact grown_move (.tmp 6) rfl h6
    refine steps_cons (fun a w hk hn => ?_) ?_
    · have h6 : a.eval (.tmp 6) = .slice a6 m6 c6 := hn.1
      have h54 : a.eval (.tmp 54) = .bool false := hn.2.1
      clear hn
      refine wants_guard (d := 54) rfl rfl h54 ?_
      exact grown_move (.tmp 6) rfl h6
    refine steps_cons (fun a w hk hn => ?_) ?_
    · have h55 : a.eval (.tmp 55) = .agg #[.int .i64 N, .int .i64 N, .slice a5 0 c5] := hn.1
      have h56 : a.eval (.tmp 56) = .slice a6 m6 c6 := hn.2.1
      have h57 : a.eval (.tmp 57) = .slice a6 m6 c6 := hn.2.2.1
      have h54 : a.eval (.tmp 54) = .bool false := hn.2.2.2.1
      clear hn
      refine wants_guard (d := 54) rfl rfl h54 ?_
      refine grown_call (f := 13) rfl Tryd.func13 (by kernel_rfl) (by kernel_rfl) ?_
      simp only [List.map_toArray, List.map_cons, List.map_nil, h55, h56, h57]
      refine (cgrow_any _ _ _ N N [] r r w (unhide HW5 w (unhide HD6 w hk)) (unhide HSR w (unhide HE6 w hk)) (unhide HRB) (unhide HSR w (unhide HE6 w hk)) (by omega) (unhide HGL w (unhide HE6 w hk))).mono ?_
      rintro e w' ⟨rfl, K⟩
      exact ⟨_, rfl, K, congrArg Value.bool (unhide HQ2)⟩
    refine steps_cons (fun a w hk hn => ?_) ?_
    · have h58 : a.eval (.tmp 58) = .bool true := hn.1
      have h54 : a.eval (.tmp 54) = .bool false := hn.2.1
      clear hn
      refine wants_guard (d := 54) rfl rfl h54 ?_
      refine grown_run (v := .bool false) ?_ (Kp.refl _ _) rfl
      obtain ⟨ρ, hρ, hc, hf, hg⟩ := eval_is a
      rw [hρ] at h58 ⊢
      simp [go_sem, h58]
    refine steps_cons (fun a w hk hn => ?_) ?_
    · have h54 : a.eval (.tmp 54) = .bool false := hn.1
      have h59 : a.eval (.tmp 59) = .bool false := hn.2.1
      clear hn
      refine wants_plain rfl ?_
      exact grown_pick _ _ _ false rfl h54 h59
    exact trivial
  intro W1 hkW1
  rintro _ rfl
  rintro _ rfl
  rintro _ rfl
  rintro _ rfl
  rintro _ rfl
  rintro _ rfl
  rintro _ rfl
  rintro _ rfl
  rintro _ rfl
  rintro _ rfl
  rintro _ rfl
  rintro _ rfl
  rintro _ rfl
  rintro _ rfl
  rintro _ rfl
  rintro _ rfl
  rintro _ rfl
  rintro _ rfl
  intro v49 h49
  rintro _ rfl
  rintro _ rfl
  rintro _ rfl
  rintro _ rfl
  rintro _ rfl
  rintro _ rfl
  rintro _ rfl
  rintro _ rfl
  rintro _ rfl
  rintro _ rfl
  rintro _ rfl
  refine fin_nil ?_
  simp only [Act.put, List.set_cons_zero, List.set_cons_succ, List.setIfInBounds_toArray]
  have HKA := hide (unhide HD6 W1 hkW1)
  have HKB := hide (unhide HE6 W1 hkW1)
  have HCS := hide (sized_any _ bs1 W1 ((unhide HS1).kept ((unhide HK2).trans (unhide HKB)) (by simp)) (unhide HB1))
  clear hkW1 h49
  go_wp2_with fail
  refine (unhide HCS).mono ?_
  rintro ee w7 ⟨go, ys, rfl, hyl, hyb, R7, K7⟩
  have HYL := hide hyl
  have HYB := hide hyb
  have HK7 := hide ((unhide HKA).trans K7)
  have G7 := unhide HS7 w7 (unhide HK7)
  have G9 := unhide HG_g9 w7 (unhide HK7)
  have hz7 : g7 < w7.heap.size := (Array.getElem?_eq_some_iff.1 G7).1
  have hz9 : g9 < w7.heap.size := (Array.getElem?_eq_some_iff.1 G9).1
  obtain ⟨ob, hob⟩ : ∃ o : Obj, o = .cells #[.slice (some ⟨go, 0, none⟩) 32 32] 31 := ⟨_, rfl⟩
  obtain ⟨V, hV⟩ : ∃ V : Value, V = .slice (some ⟨w7.heap.size, 0, none⟩) 1 1 := ⟨_, rfl⟩
  have A8 : AccR w7 [ys] V (w7.alloc ob) := by rw [hV, hob]; exact accr_one (Kp.refl _ _) R7.sl hyb
  have k8 : Kp [] w7 (w7.alloc ob) := (Kp.refl [] w7).alloc ob
  have G78 := k8.heap G7 (by simp)
  have G98 := k8.heap G9 (by simp)
  have G79 : ((w7.alloc ob).setCell ⟨g7, 2, none⟩ V).heap[g7]? = some (.cells #[.int .i64 0, .int .i64 N, V] 36 (0, 0)) := by simpa using heap_setCell_same (w7.alloc ob) g7 2 _ _ V G78
  have k9 : Kp [g7] (w7.alloc ob) ((w7.alloc ob).setCell ⟨g7, 2, none⟩ V) := (Kp.refl _ _).setCell (p := ⟨g7, 2, none⟩) (.inl (by simp)) _
  have G99 := k9.heap G98 (by simp; have := unhide H97; omega)
  have G90 : (((w7.alloc ob).setCell ⟨g7, 2, none⟩ V).setCell ⟨g9, 2, none⟩ V).heap[g9]? = some (.cells #[.int .i64 N, .int .i64 N, V] 36 (0, 0)) := by simpa using heap_setCell_same ((w7.alloc ob).setCell ⟨g7, 2, none⟩ V) g9 2 _ _ V G99
  have k0 : Kp [g9] ((w7.alloc ob).setCell ⟨g7, 2, none⟩ V) (((w7.alloc ob).setCell ⟨g7, 2, none⟩ V).setCell ⟨g9, 2, none⟩ V) := (Kp.refl _ _).setCell (p := ⟨g9, 2, none⟩) (.inl (by simp)) _
  have G70 := k0.heap G79 (by simp; have := unhide H97; omega)
  have k80 : Kp [g7, g9] (w7.alloc ob) (((w7.alloc ob).setCell ⟨g7, 2, none⟩ V).setCell ⟨g9, 2, none⟩ V) := (k9.mono (by simp)).trans (k0.mono (by simp))
  have L0 := A8.off (by simp) (nob2 (by omega) G78 (nob1 (by omega) G98)) k80
  have K20 : Kp [] w2 (((w7.alloc ob).setCell ⟨g7, 2, none⟩ V).setCell ⟨g9, 2, none⟩ V) := (((unhide HKB).trans K7).trans k8).then k80 (fun i hi => .inr (by
    have := unhide HZ7
    have := unhide HZ9
    rcases (by simpa using hi : i = g7 ∨ i = g9) with rfl | rfl <;> omega))
  rw [hob] at G78 G79 G99 G90 G70 L0 K20
  rw [hV] at G79 G99 G90 G70 L0 K20
  obtain ⟨c70, c71, c72⟩ := cell_tri G78
  have f72 := frozen_of_row _ g7 2 _ _ G78
  obtain ⟨d70, d71, d72⟩ := cell_tri G79
  obtain ⟨c90, c91, c92⟩ := cell_tri G99
  have f92 := frozen_of_row _ g9 2 _ _ G99
  obtain ⟨d90, d91, d92⟩ := cell_tri G90
  have HG90 := hide G90
  have HG70 := hide G70
  have HL0 := hide L0
  have HK20 := hide K20
  clear hz7 hz9 HCS R7 K7 G7 G9 A8 k8 G78 G98 G79 k9 G99 G90 k0 G70 k80 L0 K20 hyl hyb hob hV
  go_wp2_with fail
  obtain ⟨wL, hwL⟩ : ∃ wL, wL = ((w7.alloc (.cells #[.slice (some ⟨go, 0, none⟩) 32 32] 31)).setCell ⟨g7, 2, none⟩ (.slice (some ⟨w7.heap.size, 0, none⟩) 1 1)).setCell ⟨g9, 2, none⟩ (.slice (some ⟨w7.heap.size, 0, none⟩) 1 1) := ⟨_, rfl⟩
  obtain ⟨gl, hgl⟩ : ∃ g, g = w7.heap.size := ⟨_, rfl⟩
  rw [← hwL, ← hgl] at HG90 HG70 HL0
  rw [← hwL] at HK20 ⊢
  rw [← hgl]
  have hV9 : TV wL (.agg #[.int .i64 N, .int .i64 N, .slice (some ⟨gl, 0, none⟩) 1 1]) N N [ys] := ⟨_, _, _, rfl, unhide HL0⟩
  have hV7 : TV wL (.agg #[.int .i64 0, .int .i64 N, .slice (some ⟨gl, 0, none⟩) 1 1]) 0 N [ys] := ⟨_, _, _, rfl, unhide HL0⟩
  have HV9 := hide hV9
  have HV7 := hide hV7
  have hno : ldsOk N N [ys] r = false := ldsOk_not (fun h => by have := h.2.2.1.2; omega)
  have hC := leads_any _ (.slice a6 m6 c6) N N [ys] r wL hV9 (unhide HSR wL (unhide HK20)) (unhide HRB) (by omega) (unhide HGL wL (unhide HK20))
  rw [hno] at hC
  have HC := hide hC
  have HN1 : Hid (cgrP 0 N [ys] rn r = false) := by
    by_cases h0 : N = 0
    · subst h0
      rw [show ((0 : Nat) : Int) = 0 from rfl, cgrP_same (by omega)]; rfl
    · rw [cgrP_zero (by omega)]; rfl
  have HN2 : Hid (cgrP N N [ys] r r = false) := by rw [cgrP_same (by omega)]; rfl
  clear hC hV9 hV7 hno hwL hgl c70 c71 c72 f72 d70 d71 d72 c90 c91 c92 f92 d90 d91 d92
  refine (unhide HC).mono ?_
  rintro ee w8 ⟨b1, b2, b3, b4, b5, b6, rfl, -, -, K8⟩
  have HK8 := hide K8
  have HD8 : Hid (∀ w', Kp [] w8.drew w' → Kp [] wL w') := fun w' k' => (unhide HK8).trans ((kp_drew w8).trans k')
  have HE8 : Hid (∀ w', Kp [] w8.drew w' → Kp [] w2 w') := fun w' k' => (unhide HK20).trans (unhide HD8 w' k')
  have HS70 : Hid (∀ w', Kp [] w8.drew w' → w'.heap[g7]? = some (.cells #[.int .i64 0, .int .i64 N, .slice (some ⟨gl, 0, none⟩) 1 1] 36 (0, 0))) := fun w' k' => (unhide HD8 w' k').heap (unhide HG70) (by simp)
  have HS90 : Hid (∀ w', Kp [] w8.drew w' → w'.heap[g9]? = some (.cells #[.int .i64 N, .int .i64 N, .slice (some ⟨gl, 0, none⟩) 1 1] 36 (0, 0))) := fun w' k' => (unhide HD8 w' k').heap (unhide HG90) (by simp)
  clear K8 HC
  go_wp2_with fail
  refine region_grow Tryd.mixed [Is (.agg #[.int .i64 0, .int .i64 N, .slice (some ⟨gl, 0, none⟩) 1 1]), SlT (rn), Is (.slice a6 m6 c6), Is (.bool false), Is (.bool true), Is (.bool true), Is (.agg #[.int .i64 N, .int .i64 N, .slice (some ⟨gl, 0, none⟩) 1 1]), Is (.slice a6 m6 c6), Is (.slice a6 m6 c6), Is (.bool false), Is (.bool true), Is (.bool true), Is (.bool true), Is (.bool false), Is (.bool true), Is (.bool true), Is (.bool true), Is (.bool true), Is (.bool true), Is (.bool true)] [[(7, none)], [], [(6, none)], [(75, some 0), (76, some 1), (77, some 2)], [(78, some 3)], [(79, some 4)], [(9, none), (80, some 5)], [(6, none), (80, some 5)], [(6, none), (80, some 5)], [(81, some 6), (82, some 7), (83, some 8), (80, some 5)], [(84, some 9), (80, some 5)], [(80, some 5), (85, some 10)], [(86, some 11)], [(13, none), (87, some 12)], [(88, some 13), (87, some 12)], [(87, some 12), (89, some 14)], [(90, some 15)], [(91, some 16)], [(91, some 16), (92, some 17)], [(93, some 18)]] (by kernel_rfl) ?_ ?_ ?_
  · simp only [List.mem_cons, List.not_mem_nil, or_false]
    intro R hR
    rcases hR with rfl | rfl | rfl | rfl | rfl | rfl | rfl | rfl | rfl | rfl | rfl | rfl | rfl | rfl | rfl | rfl | rfl | rfl | rfl | rfl <;> first | exact stable_is _ | exact stable_sl _
  · refine steps_cons (fun a w hk hn => ?_) ?_
    · have h7 : a.eval (.tmp 7) = .pointer (some ⟨g7, 0, none⟩) := hn.1
      clear hn
      refine wants_plain rfl ?_
      exact grown_loadtri triG (.tmp 7) rfl h7 (unhide HS70 w hk) rfl
    refine steps_cons (fun a w hk hn => ?_) ?_
    · clear hn
      refine wants_plain rfl ?_
      refine grown_call (f := 10) rfl Tryd.func10 (by kernel_rfl) (by kernel_rfl) ?_
      simp only [List.map_toArray, List.map_cons, List.map_nil]
      refine (rroot_any 0 (.slice none 0 0) [] rn w (unhide HRN) rfl (by omega) (lcm_nil w) (by simp)).mono ?_
      rintro e w' ⟨ao, m, c, rfl, R, K⟩
      exact ⟨_, rfl, K, R⟩
    refine steps_cons (fun a w hk hn => ?_) ?_
    · have h6 : a.eval (.tmp 6) = .slice a6 m6 c6 := hn.1
      clear hn
      refine wants_plain rfl ?_
      exact grown_move (.tmp 6) rfl h6
    refine steps_cons (fun a w hk hn => ?_) ?_
    · have h75 : a.eval (.tmp 75) = .agg #[.int .i64 0, .int .i64 N, .slice (some ⟨gl, 0, none⟩) 1 1] := hn.1
      have h76 : Sl w (a.eval (.tmp 76)) (rn) := hn.2.1
      have h77 : a.eval (.tmp 77) = .slice a6 m6 c6 := hn.2.2.1
      clear hn
      refine wants_plain rfl ?_
      refine grown_call (f := 13) rfl Tryd.func13 (by kernel_rfl) (by kernel_rfl) ?_
      simp only [List.map_toArray, List.map_cons, List.map_nil, h75, h77]
      refine (cgrow_any _ _ _ 0 N [ys] rn r w ((unhide HV7).kept (unhide HD8 w hk)) h76 (unhide HNB) (unhide HSR w (unhide HE8 w hk)) (by omega) (unhide HGL w (unhide HE8 w hk))).mono ?_
      rintro e w' ⟨rfl, K⟩
      exact ⟨_, rfl, K, congrArg Value.bool (unhide HN1)⟩
    refine steps_cons (fun a w hk hn => ?_) ?_
    · have h78 : a.eval (.tmp 78) = .bool false := hn.1
      clear hn
      refine wants_plain rfl ?_
      refine grown_run (v := .bool true) ?_ (Kp.refl _ _) rfl
      obtain ⟨ρ, hρ, hc, hf, hg⟩ := eval_is a
      rw [hρ] at h78 ⊢
      simp [go_sem, h78]
    refine steps_cons (fun a w hk hn => ?_) ?_
    · have h79 : a.eval (.tmp 79) = .bool true := hn.1
      clear hn
      refine wants_plain rfl ?_
      exact grown_move (.tmp 79) rfl h79
    refine steps_cons (fun a w hk hn => ?_) ?_
    · have h9 : a.eval (.tmp 9) = .pointer (some ⟨g9, 0, none⟩) := hn.1
      have h80 : a.eval (.tmp 80) = .bool true := hn.2.1
      clear hn
      refine wants_guard (d := 80) rfl rfl h80 ?_
      exact grown_loadtri triG (.tmp 9) rfl h9 (unhide HS90 w hk) rfl
    refine steps_cons (fun a w hk hn => ?_) ?_
    · have h6 : a.eval (.tmp 6) = .slice a6 m6 c6 := hn.1
      have h80 : a.eval (.tmp 80) = .bool true := hn.2.1
      clear hn
      refine wants_guard (d := 80) rfl rfl h80 ?_
      exact grown_move (.tmp 6) rfl h6
    refine steps_cons (fun a w hk hn => ?_) ?_
    · have h6 : a.eval (.tmp 6) = .slice a6 m6 c6 := hn.1
      have h80 : a.eval (.tmp 80) = .bool true := hn.2.1
      clear hn
      refine wants_guard (d := 80) rfl rfl h80 ?_
      exact grown_move (.tmp 6) rfl h6
    refine steps_cons (fun a w hk hn => ?_) ?_
    · have h81 : a.eval (.tmp 81) = .agg #[.int .i64 N, .int .i64 N, .slice (some ⟨gl, 0, none⟩) 1 1] := hn.1
      have h82 : a.eval (.tmp 82) = .slice a6 m6 c6 := hn.2.1
      have h83 : a.eval (.tmp 83) = .slice a6 m6 c6 := hn.2.2.1
      have h80 : a.eval (.tmp 80) = .bool true := hn.2.2.2.1
      clear hn
      refine wants_guard (d := 80) rfl rfl h80 ?_
      refine grown_call (f := 13) rfl Tryd.func13 (by kernel_rfl) (by kernel_rfl) ?_
      simp only [List.map_toArray, List.map_cons, List.map_nil, h81, h82, h83]
      refine (cgrow_any _ _ _ N N [ys] r r w ((unhide HV9).kept (unhide HD8 w hk)) (unhide HSR w (unhide HE8 w hk)) (unhide HRB) (unhide HSR w (unhide HE8 w hk)) (by omega) (unhide HGL w (unhide HE8 w hk))).mono ?_
      rintro e w' ⟨rfl, K⟩
      exact ⟨_, rfl, K, congrArg Value.bool (unhide HN2)⟩
    refine steps_cons (fun a w hk hn => ?_) ?_
    · have h84 : a.eval (.tmp 84) = .bool false := hn.1
      have h80 : a.eval (.tmp 80) = .bool true := hn.2.1
      clear hn
      refine wants_guard (d := 80) rfl rfl h80 ?_
      refine grown_run (v := .bool true) ?_ (Kp.refl _ _) rfl
      obtain ⟨ρ, hρ, hc, hf, hg⟩ := eval_is a
      rw [hρ] at h84 ⊢
      simp [go_sem, h84]
    refine steps_cons (fun a w hk hn => ?_) ?_
    · have h80 : a.eval (.tmp 80) = .bool true := hn.1
      have h85 : a.eval (.tmp 85) = .bool true := hn.2.1
      clear hn
      refine wants_plain rfl ?_
      exact grown_pick _ _ _ true rfl h80 h85
    refine steps_cons (fun a w hk hn => ?_) ?_
    · have h86 : a.eval (.tmp 86) = .bool true := hn.1
      clear hn
      refine wants_plain rfl ?_
      exact grown_move (.tmp 86) rfl h86
    refine steps_cons (fun a w hk hn => ?_) ?_
    · have h13 : a.eval (.tmp 13) = .bool false := hn.1
      have h87 : a.eval (.tmp 87) = .bool true := hn.2.1
      clear hn
      refine wants_guard (d := 87) rfl rfl h87 ?_
      exact grown_move (.tmp 13) rfl h13
    refine steps_cons (fun a w hk hn => ?_) ?_
    · have h88 : a.eval (.tmp 88) = .bool false := hn.1
      have h87 : a.eval (.tmp 87) = .bool true := hn.2.1
      clear hn
      refine wants_guard (d := 87) rfl rfl h87 ?_
      refine grown_run (v := .bool true) ?_ (Kp.refl _ _) rfl
      obtain ⟨ρ, hρ, hc, hf, hg⟩ := eval_is a
      rw [hρ] at h88 ⊢
      simp [go_sem, h88]
    refine steps_cons (fun a w hk hn => ?_) ?_
    · have h87 : a.eval (.tmp 87) = .bool true := hn.1
      have h89 : a.eval (.tmp 89) = .bool true := hn.2.1
      clear hn
      refine wants_plain rfl ?_
      exact grown_pick _ _ _ true rfl h87 h89
    refine steps_cons (fun a w hk hn => ?_) ?_
    · have h90 : a.eval (.tmp 90) = .bool true := hn.1
      clear hn
      refine wants_plain rfl ?_
      exact grown_move (.tmp 90) rfl h90
    refine steps_cons (fun a w hk hn => ?_) ?_
    · have h91 : a.eval (.tmp 91) = .bool true := hn.1
      clear hn
      refine wants_guard (d := 91) rfl rfl h91 ?_
      refine grown_call (f := 11) rfl Tryd.func11 (by kernel_rfl) (by kernel_rfl) ?_
      simp only [List.map_toArray, List.map_nil]
      refine (pknown_any w (unhide HGL w (unhide HE8 w hk))).mono ?_
      rintro e w' ⟨rfl, K⟩
      exact ⟨_, rfl, K, rfl⟩
    refine steps_cons (fun a w hk hn => ?_) ?_
    · have h91 : a.eval (.tmp 91) = .bool true := hn.1
      have h92 : a.eval (.tmp 92) = .bool true := hn.2.1
      clear hn
      refine wants_plain rfl ?_
      exact grown_pick _ _ _ true rfl h91 h92
    refine steps_cons (fun a w hk hn => ?_) ?_
    · have h93 : a.eval (.tmp 93) = .bool true := hn.1
      clear hn
      refine wants_plain rfl ?_
      exact grown_assign (.tmp 93) rfl h93
    exact trivial
  intro W2 hkW2
  rintro _ rfl
  intro v76 h76
  rintro _ rfl
  rintro _ rfl
  rintro _ rfl
  rintro _ rfl
  rintro _ rfl
  rintro _ rfl
  rintro _ rfl
  rintro _ rfl
  rintro _ rfl
  rintro _ rfl
  rintro _ rfl
  rintro _ rfl
  rintro _ rfl
  rintro _ rfl
  rintro _ rfl
  rintro _ rfl
  rintro _ rfl
  rintro _ rfl
  refine fin_nil ?_
  simp only [Act.put, List.set_cons_zero, List.set_cons_succ, List.setIfInBounds_toArray]
  go_wp2_with fail
  go_ret
  exact ⟨rfl, ((unhide HK2).trans (unhide HE8 W2 hkW2)).below (Nat.le_refl _) (by simp)⟩

set_option maxRecDepth 100000 in
theorem lifted (os : Os) (started : os.Started) (H : Type) (enc : TypeId × Value → H) :
    ReturnsInHanded {} Tryd.checked os 4 .any (fun w args => (Rows.proofEndsSpec.pre enc Tryd.prog Tryd.f4 [] false w args ∧ laidMetH Tryd.prog laid1 w) ∧ sizedMet enc Tryd.prog Tryd.f4 (OpenSpec.ofChange Rows.proofEndsSpec) false w args) (Rows.proofEndsSpec.post enc Tryd.prog Tryd.f4 false true false false) := by
  refine returnsInHanded_of_change_and (C := Tryd.checked) (X := fun w _ => laidMetH Tryd.prog laid1 w) (fun _ _ _ hh h => h.of_heap hh) own started (by kernel_rfl) Tryd.func4
    (ChangeSpec.witness_shaped (enc := enc) (C := Tryd.checked) (os := os) (X := fun w _ => laidMetH Tryd.prog laid1 w) false (World.doorLaid Tryd.prog 400 os) #[.int .i64 0, .slice none 0 0] 8 rfl (World.shaped_of_RefB (by kernel_rfl) (by kernel_rfl)) (by kernel_rfl) (by kernel_rfl) (by kernel_rfl) (door_met os _)) ?_
  intro W base args ds gs before hval0 hW hcnd hsz0 hL _
  have hG := gl_of_laid hL
  have hval : ∀ (j : Nat) t v, Tryd.f4.params[j]? = some t → args[j]? = some v → Value.okWide Tryd.prog W .any base t v := hval0
  have hW' := hW
  obtain ⟨p, q, hA0, hV, rfl, hfz, hnd⟩ := hW
  have hA : DataW.TrodAll enc Tryd.prog W 0 (fun _ => true) true Tryd.f4.params.toList args.toList ds p := hA0
  rw [Tryd.params4] at hA hval
  obtain ⟨v0, vs0, d0, ds0, p0, q0, hargs, rfl, rfl, h0, r0⟩ := trodAll_cons hA
  obtain ⟨v1, vs1, d1, ds1, p1, q1, rfl, rfl, rfl, h1, r1⟩ := trodAll_cons r0
  obtain ⟨rfl, rfl, rfl⟩ := trodAll_nil r1
  obtain rfl : args = #[v0, v1] := by cases args; simp_all
  obtain ⟨rfl, rfl⟩ := trodVars_none hV
  obtain ⟨a0, rfl, rfl, rfl, w0⟩ := open_int Tryd.underlying3 (hval 0 3 v0 rfl rfl) h0
  obtain ⟨a1, len1, cap1, rfl⟩ := okWide_slice Tryd.underlying31 (hval 1 31 v1 rfl rfl)
  have k1 := h1
  have lt1 : ∀ x ∈ p1, x.block < W.heap.size := by obtain ⟨m, hm⟩ := k1; exact DataW.trod_lt m _ _ _ hm
  obtain ⟨l1, s1, b1⟩ : ∃ bs, Sl W (.slice a1 len1 cap1) bs ∧ Bs bs := by
    obtain ⟨fuel, hf⟩ := h1
    exact bytes_of_trod (by simpa [Value.cells] using hf)
  clear hA0 hval0
  refine (walk a0 (.slice a1 len1 cap1) l1 W hG (bounds_i64 w0) s1 b1).mono fun e W' ⟨he, bel⟩ => ?_
  subst he
  exact ⟨_, rfl, _, _, _, [], _, [], hW', trodAll_mk1 (shut_bool Tryd.underlying4 _), (trodAll_cons_mk (shut_int Tryd.underlying3 w0) (trodAll_cons_mk (Below.trod laidOut (by kernel_rfl) (of_decide_eq_true (by kernel_rfl)) k1 bel lt1) trodAll_mk0)), rfl, bel.frame _, fun h => by cases h⟩

theorem over : Rows.proofEndsRow.holds Tryd.pinned (OpenSpec.ofChange Rows.proofEndsSpec) :=
  OpenClaim.holds_of_wide 4 Tryd.f4 rfl rfl rfl rfl rfl rfl rfl ⟨rfl, rfl, rfl, rfl, rfl⟩ rfl rfl rfl rfl rfl (by kernel_rfl) Tryd.func4 (by kernel_rfl)
    (of_decide_eq_true (by kernel_rfl)) (by unfold Func.isWrapper; first | (rw [if_pos (by decide +kernel)]; kernel_rfl) | (rw [if_neg (by decide +kernel)]; exact ⟨rfl, rfl⟩))
    (fun os started H enc _ => lifted os started H enc)
end Go.Proofs.YtphhofgjnlfjmabDoor.proofEnds

namespace Go.Proofs.YtphhofgjnlfjmabDoor
/-- The given statement: the tied card. -/
theorem ProofEnds_holds : Rows.ProofEndsCardSaid :=
  Claim7.holds_tied_plain_at .later [] [.data] true Rows.proofEndsCard.stood.harness false
    proofEnds.over (fun _ h => by cases h) (by kernel_rfl) (fun _ h => by cases h) proofEnds_row_tie rfl ⟨rfl, rfl⟩ (by kernel_rfl) rfl
    (fun f fn hf hfn => by
      obtain rfl : f = 4 := Option.some.inj ((show Tryd.prog.funcNamed "broadsheet/broadsheetlaw8.ProofEnds" = some 4 by kernel_rfl).symm.trans hf) |>.symm
      obtain rfl : fn = Tryd.f4 := (Option.some.inj (Tryd.func4.symm.trans hfn)).symm
      exact ⟨by kernel_rfl, fun j t ht => by
        rw [Tryd.params4] at ht
        have hm : t ∈ ([3, 31] : List TypeId) := by simpa using Array.mem_of_getElem? ht
        have hall : (([3, 31] : List TypeId).all fun u => !Tryd.prog.wantsStandIn u) = true := by kernel_rfl
        exact (show Tryd.prog.wantsStandIn t = false by simpa using List.all_eq_true.1 hall t hm)⟩)
    (by kernel_rfl)
#print axioms ProofEnds_holds
end Go.Proofs.YtphhofgjnlfjmabDoor
