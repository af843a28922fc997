/-
  The statement ManifestNumbersCardSaid: the law function ManifestNumbers returns true; the table hash.roundWords starts as the program's text lays it (tied). No other condition.
-/
import Derived.Test.YtioflclfgkcpfaaDoorKMLaw
import Derived.Test.YtioflclfgkcpfaaDoorKMKnown
import Derived.Test.YtioflclfgkcpfaaDoorKLZRow
import Derived.Test.YtioflclfgkcpfaaDoorKLSpot
import Derived.Test.YtioflclfgkcpfaaDoorKLMore
import Derived.Test.YtioflclfgkcpfaaDoorTie
import Derived.Test.YtioflclfgkcpfaaDoorCards
import Derived.SevenTiedAt
namespace Go.Proofs.YtioflclfgkcpfaaDoor.manifestNumbers
open Go.ChangeShapes Go.WideShapes Go.ChangeAt Go.RowKit
open Go.Proofs.YtioflclfgkcpfaaDoor
set_option linter.unusedVariables false

theorem xor_b (x y : Int) : 0 ≤ bits .xor .u8 x y ∧ bits .xor .u8 x y ≤ 255 := by
  show 0 ≤ IntKind.u8.wrap _ ∧ IntKind.u8.wrap _ ≤ 255
  simp [IntKind.wrap, IntKind.signed, IntKind.bits]
  omega
theorem bs_zeros (n : Nat) : Bs (List.replicate n 0) := fun b hb => by have := List.eq_of_mem_replicate hb; omega
theorem zeros_ok (S : ByteArray) (x : Int) (a b : Nat) (h0 : 0 ≤ x) (h1 : x ≤ 4294967295) : (Mf.mk S x (List.replicate a 0) (List.replicate b 0)).ok := ⟨h0, h1, bs_zeros a, bs_zeros b⟩
theorem hv_of_sl {w : World} {v : Value} {bs : List Int} (h : Sl w v bs) (hne : bs ≠ []) : ∀ k, v.ownBlock = some k → k < w.heap.size := by
  intro k hv
  obtain ⟨ao', c', e, h1, _, h3, h4⟩ := h
  have hpos : 0 < bs.length := List.length_pos_iff.2 hne
  cases ao' with
  | none => have := h3 rfl; omega
  | some ad =>
    have hc := h4 ad rfl 0 (.int .u8 bs[0]) (by simp [List.getElem?_eq_getElem hpos])
    rw [e] at hv
    have hbk : ad.block = k := by simpa [Value.ownBlock] using hv
    rw [Addr.add_zero'] at hc
    subst hbk
    by_cases hlt : ad.block < w.heap.size
    · exact hlt
    · have hn : w.heap[ad.block]? = none := Array.getElem?_eq_none (by omega)
      simp [World.cell?, hn] at hc
def s7 (k : Nat) : ByteArray := if k = 0 then ⟨#[65]⟩ else if k = 1 then ⟨#[97, 49]⟩ else if k = 2 then ⟨#[97, 32, 98]⟩ else if k = 3 then ⟨#[195, 169]⟩ else if k = 4 then ⟨#[96]⟩ else if k = 5 then ⟨#[123]⟩ else ⟨#[122]⟩
theorem s7_size (k : Nat) : (s7 k).size ≤ 1000 := by
  unfold s7
  repeat' split
  all_goals decide
def cs7 : Array Value := #[.string ⟨#[65]⟩, .string ⟨#[97, 49]⟩, .string ⟨#[97, 32, 98]⟩, .string ⟨#[195, 169]⟩, .string ⟨#[96]⟩, .string ⟨#[123]⟩, .string ⟨#[122]⟩]
theorem cs7_at (k : Nat) (hk : k < 7) : cs7[k]? = some (.string (s7 k)) := by
  rcases (by omega : k = 0 ∨ k = 1 ∨ k = 2 ∨ k = 3 ∨ k = 4 ∨ k = 5 ∨ k = 6) with rfl | rfl | rfl | rfl | rfl | rfl | rfl <;> rfl

set_option maxRecDepth 100000 in
set_option maxHeartbeats 4000000 in
theorem walk (w : World) (hG : Gl w) :
    Calls Tryd.prog 3 #[] w fun e w' => e = .returned (.bool true) ∧ Below w.heap.size w w' := by
  obtain ⟨i0, hi0, hz0, hz1, hz2⟩ := info_parts Tryd.info5
  have HG := hide hG
  clear hG
  go_enter Tryd.func3, Tryd.ntmps3
  go_wp2_with fail
  go_loopw [1] (fun i wr => ∃ k : Nat, k ≤ 24 ∧ i = .int .i64 k ∧ Kp [] w wr) (fun i _ => 24 - (intOf i).toNat)
  case atStart => exact ⟨0, by omega, rfl, Kp.refl _ _⟩
  case round =>
    obtain ⟨n, hN, rfl, Kr⟩ := hrel
    have HKr := hide Kr
    clear Kr
    obtain ⟨wo, hwo⟩ : ∃ wo, wo = wr := ⟨_, rfl⟩
    subst hwo
    by_cases hlt : n < 24
    · have hlt2 : (n : Int) < 24 := by omega
      have HLT := hide hlt
      obtain ⟨F, hF⟩ : ∃ F : Nat, F = 20 + n := ⟨_, rfl⟩
      obtain ⟨T, hT⟩ : ∃ T : Nat, T = 3 * n := ⟨_, rfl⟩
      obtain ⟨S, hS⟩ : ∃ S, S = abc.extract 0 n := ⟨_, rfl⟩
      have HFF := hide hF
      have HTT := hide hT
      have HSS := hide hS
      have HSZ : Hid (S.size ≤ 1000) := hide (by rw [hS]; have := abc_size n; omega)
      have HOK := hide (zeros_ok S (n : Int) F T (by omega) (by omega))
      clear hF hT hS hlt
      go_wp2_with fail
      refine region_grow_tail 12 Tryd.mixed [Is (.int .i64 n), Is (.string S), Is (.int .i64 n), Is (.int .u32 n), Is (.int .i64 n), Is (.int .i64 F), SlT (List.replicate F 0), Is (.int .i64 n), Is (.int .i64 T), SlT (List.replicate T 0), MvT ⟨S, n, List.replicate F 0, List.replicate T 0⟩, NewP wo.heap.size] [[(1, none)], [(13, some 0)], [(1, none)], [(15, some 2)], [(1, none)], [(17, some 4)], [(18, some 5)], [(1, none)], [(20, some 7)], [(21, some 8)], [(14, some 1), (16, some 3), (19, some 6), (22, some 9)], []] (by kernel_rfl) ?_ ?_ ?_
      all_goals try simp only [List.take_succ_cons, List.take_zero, List.drop_succ_cons, List.drop_zero]
      · simp only [List.mem_cons, List.not_mem_nil, or_false]
        intro R hR
        rcases hR with rfl | rfl | rfl | rfl | rfl | rfl | rfl | rfl | rfl | rfl | rfl | rfl <;> first | exact stable_is _ | exact stable_sl _ | exact stable_mv _ | exact stable_newp _
      · refine steps_cons (fun a w hk hn => ?_) ?_
        · have h1 : a.eval (.tmp 1) = .int .i64 n := hn.1
          clear hn
          refine wants_plain rfl ?_
          exact grown_move (.tmp 1) rfl h1
        refine steps_cons (fun a w hk hn => ?_) ?_
        · have h13 : a.eval (.tmp 13) = .int .i64 n := hn.1
          clear hn
          refine wants_plain rfl ?_
          rw [unhide HSS]
          exact grown_abc (.tmp 13) n (by have := unhide HLT; omega) rfl h13
        refine steps_cons (fun a w hk hn => ?_) ?_
        · have h1 : a.eval (.tmp 1) = .int .i64 n := hn.1
          clear hn
          refine wants_plain rfl ?_
          exact grown_move (.tmp 1) rfl h1
        refine steps_cons (fun a w hk hn => ?_) ?_
        · have h15 : a.eval (.tmp 15) = .int .i64 n := hn.1
          clear hn
          refine wants_plain rfl ?_
          refine grown_run (v := .int .u32 n) ?_ (Kp.refl _ _) rfl
          have hlt9 := unhide HLT
          have hFF := unhide HFF
          have hTT := unhide HTT
          obtain ⟨ρ, hρ, hc, hf, hg⟩ := eval_is a
          rw [hρ] at h15 ⊢
          simp [go_sem, h15]
          exact wrap_u32 (by omega) (by omega)
        refine steps_cons (fun a w hk hn => ?_) ?_
        · have h1 : a.eval (.tmp 1) = .int .i64 n := hn.1
          clear hn
          refine wants_plain rfl ?_
          exact grown_move (.tmp 1) rfl h1
        refine steps_cons (fun a w hk hn => ?_) ?_
        · have h17 : a.eval (.tmp 17) = .int .i64 n := hn.1
          clear hn
          refine wants_plain rfl ?_
          refine grown_run (v := .int .i64 F) ?_ (Kp.refl _ _) rfl
          have hlt9 := unhide HLT
          have hFF := unhide HFF
          have hTT := unhide HTT
          obtain ⟨ρ, hρ, hc, hf, hg⟩ := eval_is a
          rw [hρ] at h17 ⊢
          simp [go_sem, hc, h17]
          exact wrap_at (by omega) (by omega) (by omega)
        refine steps_cons (fun a w hk hn => ?_) ?_
        · have h18 : a.eval (.tmp 18) = .int .i64 F := hn.1
          clear hn
          refine wants_plain rfl ?_
          exact grown_make (.tmp 18) F (by have := unhide HLT; have := unhide HFF; omega) rfl h18
        refine steps_cons (fun a w hk hn => ?_) ?_
        · have h1 : a.eval (.tmp 1) = .int .i64 n := hn.1
          clear hn
          refine wants_plain rfl ?_
          exact grown_move (.tmp 1) rfl h1
        refine steps_cons (fun a w hk hn => ?_) ?_
        · have h20 : a.eval (.tmp 20) = .int .i64 n := hn.1
          clear hn
          refine wants_plain rfl ?_
          refine grown_run (v := .int .i64 T) ?_ (Kp.refl _ _) rfl
          have hlt9 := unhide HLT
          have hFF := unhide HFF
          have hTT := unhide HTT
          obtain ⟨ρ, hρ, hc, hf, hg⟩ := eval_is a
          rw [hρ] at h20 ⊢
          simp [go_sem, hc, h20]
          exact wrap_at (by omega) (by omega) (by omega)
        refine steps_cons (fun a w hk hn => ?_) ?_
        · have h21 : a.eval (.tmp 21) = .int .i64 T := hn.1
          clear hn
          refine wants_plain rfl ?_
          exact grown_make (.tmp 21) T (by have := unhide HLT; have := unhide HTT; omega) rfl h21
        refine steps_cons (fun a w hk hn => ?_) ?_
        · have h14 : a.eval (.tmp 14) = .string S := hn.1
          have h16 : a.eval (.tmp 16) = .int .u32 n := hn.2.1
          have h19 : Sl w (a.eval (.tmp 19)) (List.replicate F 0) := hn.2.2.1
          have h22 : Sl w (a.eval (.tmp 22)) (List.replicate T 0) := hn.2.2.2.1
          clear hn
          refine wants_plain rfl ?_
          exact grown_man (.tmp 14) (.tmp 16) (.tmp 19) (.tmp 22) rfl _ h14 h16 h19 h22 (unhide HOK)
        refine steps_cons (fun a w hk hn => ?_) ?_
        · clear hn
          refine wants_plain rfl ?_
          exact grown_newp _ hk.size rfl
        exact trivial
      intro W1 hkW1
      rintro _ rfl
      rintro _ rfl
      rintro _ rfl
      rintro _ rfl
      rintro _ rfl
      rintro _ rfl
      intro v19 h19
      rintro _ rfl
      rintro _ rfl
      intro v22 h22
      intro v23 h23
      intro v2 h2
      refine fin_nil ?_
      simp only [Act.put, List.set_cons_zero, List.set_cons_succ, List.setIfInBounds_toArray]
      have K1 := (kp_drew wo).trans hkW1
      have HV := hide h23
      obtain ⟨af, nf, cf, an, nn, cn, e23, -⟩ := h23
      subst e23
      obtain ⟨g2, e2, G2, hg2⟩ := h2
      subst e2
      have HK1 := hide K1
      have N2 := noBy_man G2
      clear h19 h22 hkW1 K1 HLT HFF HTT HSS
      refine hide ?_
      go_wp2_with (refine wpList_store_man rfl (.tmp 2) (.tmp 23) rfl g2 rfl _ _ _ _ _ _ _ _ G2 rfl ⟨rfl, rfl, rfl, rfl⟩ ?_; intro wa Ga Ka; refine Hid.out ?_)
      have HVa := hide ((unhide HV).offBy N2 Ka)
      have HKa : Hid (Kp [] w wa) := hide ((unhide HKr).trans ((unhide HK1).then Ka (fun i hi => .inr (by simp at hi; omega))))
      have hgl : g2 < wa.heap.size := lt_of_block Ga
      obtain ⟨z0, z1, z2, z3⟩ := cell_man Ga
      have Gz := heap_alloc_new wa (.cells #[.string ⟨#[]⟩, .int .u32 0, .slice none 0 0, .slice none 0 0] 25)
      have HGa := hide Ga
      clear N2 G2 Ka HV HK1 hg2 Ga
      refine hide ?_
      go_wp2_with (refine wpList_store_man rfl (.tmp 3) (.tmp 24) rfl wa.heap.size rfl _ _ _ _ _ _ _ _ Gz rfl ⟨rfl, rfl, rfl, rfl⟩ ?_; intro wb Gb Kb; refine Hid.out ?_)
      obtain ⟨g3, hg3⟩ : ∃ g, g = wa.heap.size := ⟨_, rfl⟩
      rw [← hg3] at Gb Kb ⊢
      have kab := kp_at hg3 Kb
      have HKab := hide kab
      have HGb := hide Gb
      have hg3l : g3 < wb.heap.size := lt_of_block Gb
      clear Gz Kb kab z0 z1 z2 z3 Gb
      refine hide ?_
      go_wp2_with (at_make; refine wpList_make_full _ rfl _ _ 23 rfl wb.heap.size 5 i0 (.int .u8 0) 1 Tryd.underlying23 hi0 hz0 hz1 .i64 .i64 _ _ 32 rfl rfl (by omega) (by omega) (by rw [hz2]; omega) (by unfold maxLen; omega) (Nat.le_refl _) ?_; intro wc o_wc g_wc; refine Hid.out ?_)
      rw [made_zero] at o_wc
      have S_wc : Sl wc (.slice (some ⟨wb.heap.size, 0, none⟩) 32 32) (List.replicate 32 0) := Sl.of_owns (by simpa using o_wc)
      have K_wc : Kp [] wb wc := (Kp.refl [] wb).grown g_wc (by intro k hk; cases hk)
      have Gc := K_wc.heap (unhide HGb) (by simp)
      obtain ⟨y0, y1, y2, y3⟩ := cell_man Gc
      have f2 := frozen_of_row wc g3 2 _ _ Gc
      obtain ⟨gz, hgz⟩ : ∃ g, g = wb.heap.size := ⟨_, rfl⟩
      rw [← hgz] at S_wc ⊢
      try rw [← hg3]
      obtain ⟨wd, hwd⟩ : ∃ x, x = wc.setCell ⟨g3, 2, none⟩ (.slice (some ⟨gz, 0, none⟩) 32 32) := ⟨_, rfl⟩
      have Gd : wd.heap[g3]? = some (.cells #[.string S, .int .u32 n, .slice (some ⟨gz, 0, none⟩) 32 32, .slice an nn cn] 25 (0, 0)) := by rw [hwd]; simpa using heap_setCell_same wc g3 2 _ _ _ Gc
      have Kd : Kp [g3] wc wd := by rw [hwd]; exact setCell_kpm wc g3 2 _
      obtain ⟨x0, x1, x2, x3⟩ := cell_man Gd
      have f1 := frozen_of_row wd g3 1 _ _ Gd
      obtain ⟨we, hwe⟩ : ∃ x, x = wd.setCell ⟨g3, 1, none⟩ (.int .u32 1) := ⟨_, rfl⟩
      have Ge : we.heap[g3]? = some (.cells #[.string S, .int .u32 1, .slice (some ⟨gz, 0, none⟩) 32 32, .slice an nn cn] 25 (0, 0)) := by rw [hwe]; simpa using heap_setCell_same wd g3 1 _ _ _ Gd
      have Ke : Kp [g3] wd we := by rw [hwe]; exact setCell_kpm wd g3 1 _
      have Kce := Kd.trans Ke
      have Nc := noBy_man Gc
      have Kae : Kp [] wa we := ((unhide HKab).trans K_wc).then Kce (fun i hi => .inr (by simp at hi; omega))
      have HV2 : Hid (MV we (.agg #[.string S, .int .u32 1, .slice (some ⟨gz, 0, none⟩) 32 32, .slice an nn cn]) ⟨S, 1, List.replicate 32 0, List.replicate T 0⟩) := hide (by
        obtain ⟨_, _, _, _, _, _, e, _, hn, _⟩ := ((unhide HVa).kept ((unhide HKab).trans K_wc)).offBy Nc Kce
        injection e with e
        injection e with e
        simp only [List.cons.injEq, Value.slice.injEq, and_true] at e
        obtain ⟨_, _, _, rfl, rfl, rfl⟩ := e
        exact ⟨_, _, _, _, _, _, rfl, S_wc.offBy Nc Kce, hn, zeros_ok S 1 32 T (by omega) (by omega)⟩)
      have HVe := hide ((unhide HVa).kept Kae)
      have HKe := hide ((unhide HKa).trans Kae)
      obtain ⟨c0, c1, c2, c3⟩ := cell_man (Kae.heap (unhide HGa) (by simp))
      have HGe := hide Ge
      have HWD := hide hwd
      have HWE := hide hwe
      have HC := hide (lsame_any _ _ we (unhide HVe) (unhide HSZ))
      rw [hwe] at c0 c1 c2 c3
      rw [hwd] at c0 c1 c2 c3 x1 f1
      clear o_wc g_wc Gc Gd Kd Ge Ke Kce Nc Kae S_wc hwd hwe HVa HKa HGa HKab HGb hgl hg3l K_wc hg3 hgz y0 y1 y3 x0 x2 x3
      refine hide ?_
      go_wp2_with fail
      rw [← unhide HWD, ← unhide HWE]
      refine (unhide HC).mono ?_
      rintro ee wf ⟨rfl, Kf⟩
      obtain ⟨d0, d1, d2, d3⟩ := cell_man (Kf.heap (unhide HGe) (by simp))
      have HC2 := hide (lsame_any _ _ wf ((unhide HV2).kept Kf) (unhide HSZ))
      have HKf := hide ((unhide HKe).trans Kf)
      clear HC Kf HGe HWD HWE HKe HV2 HVe c0 c1 c2 c3 x1 f1 f2 y2
      go_wp2_with fail
      refine (unhide HC2).mono ?_
      rintro ee wg ⟨rfl, Kg⟩
      have HKg := hide ((unhide HKf).trans Kg)
      clear HC2 Kg HKf d0 d1 d2 d3
      go_wp2_with fail
      go_roundw
      case rel => exact ⟨n + 1, by omega, by go_num, unhide HKg⟩
      case measure => simp [intOf]; omega
    · have hlt2 : ¬ (n : Int) < 24 := by omega
      clear hlt hN
      go_wp2_with fail
      obtain ⟨g7, hg7⟩ : ∃ g, g = wo.heap.size := ⟨_, rfl⟩
      obtain ⟨w0, hw0⟩ : ∃ x, x = wo.alloc (.cells cs7 9) := ⟨_, rfl⟩
      have H7 : Hid (w0.heap[g7]? = some (.cells cs7 9 (0, 0))) := hide (by rw [hw0, hg7]; exact heap_alloc_new wo _)
      have HK0 : Hid (Kp [] w w0) := hide (by rw [hw0]; exact (unhide HKr).alloc _)
      unfold cs7 at hw0
      rw [← hw0, ← hg7]
      clear hw0 hg7 HKr
      go_loopw [38] (fun i wr => ∃ k : Nat, k ≤ 7 ∧ i = .int .i64 k ∧ Kp [] w0 wr) (fun i _ => 7 - (intOf i).toNat)
      case atStart => exact ⟨0, by omega, rfl, Kp.refl _ _⟩
      case round =>
        obtain ⟨k, hk7, rfl, Kq⟩ := hrel
        have HKq := hide Kq
        clear Kq
        obtain ⟨wp, hwp⟩ : ∃ x, x = wr := ⟨_, rfl⟩
        subst hwp
        by_cases hk : k < 7
        · have hk2 : (k : Int) < 7 := by omega
          have hcell : wp.cell? ⟨g7, k, none⟩ = some (.string (s7 k)) := by
            rw [cell_of_row wp g7 k _ _ _ ((unhide HKq).heap (unhide H7) (by simp))]
            exact cs7_at k hk
          obtain ⟨S, hS⟩ : ∃ S, S = s7 k := ⟨_, rfl⟩
          rw [← hS] at hcell
          have HSZ : Hid (S.size ≤ 1000) := hide (by rw [hS]; exact s7_size k)
          clear hS
          go_wp2_with (at_make; refine wpList_make_full _ rfl _ _ 23 rfl wp.heap.size 5 i0 (.int .u8 0) 1 Tryd.underlying23 hi0 hz0 hz1 .i64 .i64 _ _ 32 rfl rfl (by omega) (by omega) (by rw [hz2]; omega) (by unfold maxLen; omega) (Nat.le_refl _) ?_; intro w1 o_w1 g_w1; refine Hid.out ?_)
          rw [made_zero] at o_w1
          have S_w1 : Sl w1 (.slice (some ⟨wp.heap.size, 0, none⟩) 32 32) (List.replicate 32 0) := Sl.of_owns (by simpa using o_w1)
          have K_w1 : Kp [] wp w1 := (Kp.refl [] wp).grown g_w1 (by intro k hk; cases hk)
          have HC := hide (lsame_any (.agg #[.string S, .int .u32 1, .slice (some ⟨wp.heap.size, 0, none⟩) 32 32, .slice none 0 0]) ⟨S, 1, List.replicate 32 0, []⟩ w1 ⟨_, _, _, _, _, _, rfl, S_w1, Sl.nil w1, zeros_ok S 1 32 0 (by omega) (by omega)⟩ (unhide HSZ))
          have HK1 := hide ((unhide HKq).trans K_w1)
          clear o_w1 g_w1 S_w1 K_w1 HKq hcell HSZ
          refine hide ?_
          go_wp2_with fail
          refine (unhide HC).mono ?_
          rintro ee w2 ⟨rfl, K2⟩
          have HK2 := hide ((unhide HK1).trans K2)
          clear HC K2 HK1
          go_wp2_with fail
          go_roundw
          case rel => exact ⟨k + 1, by omega, by go_num, unhide HK2⟩
          case measure => simp [intOf]; omega
        · have hk2 : ¬ (k : Int) < 7 := by omega
          have HKp := hide ((unhide HK0).trans (unhide HKq))
          have HC := hide (kitem_any 1 2 3 wp)
          obtain ⟨B, hBe⟩ : ∃ B, B = encM (mkM 1 2 3) := ⟨_, rfl⟩
          rw [← hBe] at HC
          have HBB : Hid (Bs B) := hide (by rw [hBe]; exact encM_bs _ (mkM_ok _ _ _))
          have HBL : Hid (9 ≤ B.length ∧ B.length ≤ 200) := hide (by
            obtain ⟨q1, q2, q3, q4⟩ := (rgtM_iff _).1 (mkM_rgt 1 2 3)
            have := nameP_len q1
            rw [hBe, encM_len]; omega)
          have HBN : Hid (B ≠ []) := hide (fun e => by have := unhide HBL; rw [e] at this; simp at this)
          clear hBe HK0 HKq H7 hk hk7
          go_wp2_with fail
          refine (unhide HC).mono ?_
          rintro ee w1 ⟨ab, L, cb, rfl, R1, K1⟩
          have hLB := R1.len
          have hcc : L ≤ cb ∧ cb ≤ 9223372036854775807 := by obtain ⟨_, _, e, h1, h2, _⟩ := R1.sl; injection e with _ e2 e3; unfold maxLen at h2; omega
          have hL9 := unhide HBL
          rw [← hLB] at hL9
          obtain ⟨hL0, hL1⟩ := hL9
          obtain ⟨gb, rfl, hgb0, hgb1, -⟩ := R1.spot (by omega)
          have HSL := hide R1.sl
          have HGB := hide hgb1
          have HLB := hide hLB
          have HK1 := hide ((unhide HKp).trans K1)
          clear HC R1 K1 HKp hgb0 hgb1 hLB
          go_wp2_with fail
          go_loopw [7] (fun i wr => ∃ k : Nat, k ≤ L + 1 ∧ i = .int .i64 k ∧ Kp [] w1 wr) (fun i _ => L + 1 - (intOf i).toNat)
          case atStart => exact ⟨0, by omega, rfl, Kp.refl _ _⟩
          case round =>
            obtain ⟨k, hk9, rfl, Kt⟩ := hrel
            have HKt := hide Kt
            clear Kt
            obtain ⟨wt, hwt⟩ : ∃ x, x = wr := ⟨_, rfl⟩
            subst hwt
            by_cases hk : k ≤ L
            · have hk2 : (k : Int) ≤ (L : Int) := by omega
              have hkc : (k : Int) ≤ (cb : Int) := by omega
              have r0 : Row (wt.alloc (.cells #[] 5)) wt.heap.size (.slice (some ⟨wt.heap.size, 0, none⟩) 0 0) [] := World.ownsRow_made wt #[] 0 (Nat.le_refl _) (by simp [maxLen]) rfl
              have hS0 : Sl (wt.alloc (.cells #[] 5)) (.slice (some ⟨gb, 0, none⟩) L cb) B := (unhide HSL).kept ((unhide HKt).alloc _) (by simp)
              have HK30 := hide ((Kp.refl [] wt).alloc (.cells #[] 5))
              go_wp2_with (at_builtin; refine wpList_append_row rfl (.tmp 55) (.tmp 56) rfl wt.heap.size _ [] rfl r0 _ B rfl hS0 (by have := unhide HBL; simp; omega) (by simp) ?_; intro a4 m4 c4 w4 r4 s4; refine Hid.out ?_)
              have K4 : Kp [] wt w4 := r0.step (unhide HK30) s4
              rw [List.nil_append] at r4
              have hm4 : L = m4 := by rw [r4.len]; exact unhide HLB
              subst hm4
              obtain ⟨gx, rfl, hgx0, hgx1, hcells, hfz, hset⟩ := r4.spot (by omega)
              have HK4 := hide K4
              have HR4 := hide r4
              clear r0 hS0 HK30 s4 K4 r4
              by_cases hkl : k < L
              · have hkl2 : (k : Int) < (L : Int) := by omega
                have hkB : k < B.length := by have := unhide HLB; omega
                have hck := hcells k hkB
                have hfk := hfz k
                obtain ⟨y, hy⟩ : ∃ y, y = B[k] := ⟨_, rfl⟩
                rw [← hy] at hck
                obtain ⟨z, hz⟩ : ∃ z, z = bits .xor .u8 y 32 := ⟨_, rfl⟩
                have hzb : 0 ≤ z ∧ z ≤ 255 := by rw [hz]; exact xor_b y 32
                obtain ⟨w5, hw5⟩ : ∃ x, x = w4.setCell ⟨gx, k, none⟩ (.int .u8 z) := ⟨_, rfl⟩
                have K5 : Kp [gx] w4 w5 := by rw [hw5]; exact setCell_kpm w4 gx k _
                have HR5 : Hid (Row w5 wt.heap.size (.slice (some ⟨gx, 0, none⟩) L c4) (B.set k z)) := hide (by rw [hw5]; exact hset k z)
                have HK5 : Hid (Kp [] w1 w5) := hide ((unhide HKt).trans ((unhide HK4).then K5 (fun i hi => .inr (by simp at hi; omega))))
                have HX5 : Hid (Bs (B.set k z)) := hide (Bs.set (unhide HBB) k z hzb.1 hzb.2)
                have HX6 : Hid ((B.set k z).length ≤ 200) := hide (by rw [List.length_set]; exact (unhide HBL).2)
                obtain ⟨X, hX⟩ : ∃ X, X = B.set k z := ⟨_, rfl⟩
                rw [← hX] at HR5 HX5 HX6
                have HW5 := hide hw5
                have HZZ := hide hz
                clear hkB hcells hfz hset hy hz hzb hw5 K5 hX HK4 HR4 hgx0 hgx1
                have hvb : ∀ i, (Value.slice (some ⟨gb, 0, none⟩) k cb).ownBlock = some i → i < w5.heap.size := fun i hi => by
                  have e : gb = i := by simpa [Value.ownBlock] using hi
                  have h1 := unhide HGB
                  have h2 := (unhide HK5).size
                  omega
                have hSt : Sl w5 (.slice (some ⟨gb, 0, none⟩) k cb) (B.take k) := ((unhide HSL).kept (unhide HK5) (by simp)).take k (by rw [← unhide HLB]; exact hk)
                have HC := hide (lreads_any (.slice (some ⟨gb, 0, none⟩) k cb) (B.take k) w5 hSt ((unhide HBB).take k) (by rw [List.length_take]; have := unhide HBL; omega) hvb ((unhide HG).kept ((unhide HK1).trans (unhide HK5)) (by simp)))
                have HLT : Hid (gx < w5.heap.size) := hide ((World.ownsRow.lt (unhide HR5) gx rfl).2)
                clear hvb hSt
                refine hide ?_
                go_wp2_with fail
                rw [← unhide HZZ, ← unhide HW5]
                refine (unhide HC).mono ?_
                rintro ee w6 ⟨rfl, K6⟩
                have HK6 := hide ((unhide HK5).trans K6)
                have hvx : ∀ i, (Value.slice (some ⟨gx, 0, none⟩) L c4).ownBlock = some i → i < w6.heap.size := fun i hi => by
                  have e : gx = i := by simpa [Value.ownBlock] using hi
                  have h1 := unhide HLT
                  have h2 := K6.size
                  omega
                have HC2 := hide (lreads_any (.slice (some ⟨gx, 0, none⟩) L c4) X w6 ((unhide HR5).sl.kept K6 (by simp)) (unhide HX5) (by have := unhide HX6; omega) hvx ((unhide HG).kept ((unhide HK1).trans (unhide HK6)) (by simp)))
                clear HC K6 hvx HR5 HK5 HX5 HX6
                go_wp2_with fail
                refine (unhide HC2).mono ?_
                rintro ee w7 ⟨rfl, K7⟩
                have HK7 := hide ((unhide HK6).trans K7)
                clear HC2 K7 HK6
                go_wp2_with fail
                go_roundw
                case rel => exact ⟨k + 1, by omega, by go_num, unhide HK7⟩
                case measure => simp [intOf]; omega
              · have hkl2 : ¬ (k : Int) < (L : Int) := by omega
                have HR5 := hide (unhide HR4)
                have HK5 : Hid (Kp [] w1 w4) := hide ((unhide HKt).trans (unhide HK4))
                have HX5 := hide (unhide HBB)
                have HX6 := hide (unhide HBL).2
                clear hcells hfz hset HK4 HR4 hgx0 hgx1
                have hvb : ∀ i, (Value.slice (some ⟨gb, 0, none⟩) k cb).ownBlock = some i → i < w4.heap.size := fun i hi => by
                  have e : gb = i := by simpa [Value.ownBlock] using hi
                  have h1 := unhide HGB
                  have h2 := (unhide HK5).size
                  omega
                have hSt : Sl w4 (.slice (some ⟨gb, 0, none⟩) k cb) (B.take k) := ((unhide HSL).kept (unhide HK5) (by simp)).take k (by rw [← unhide HLB]; exact hk)
                have HC := hide (lreads_any (.slice (some ⟨gb, 0, none⟩) k cb) (B.take k) w4 hSt ((unhide HBB).take k) (by rw [List.length_take]; have := unhide HBL; omega) hvb ((unhide HG).kept ((unhide HK1).trans (unhide HK5)) (by simp)))
                have HLT : Hid (gx < w4.heap.size) := hide ((World.ownsRow.lt (unhide HR5) gx rfl).2)
                clear hvb hSt
                refine hide ?_
                go_wp2_with fail
                refine (unhide HC).mono ?_
                rintro ee w6 ⟨rfl, K6⟩
                have HK6 := hide ((unhide HK5).trans K6)
                have hvx : ∀ i, (Value.slice (some ⟨gx, 0, none⟩) L c4).ownBlock = some i → i < w6.heap.size := fun i hi => by
                  have e : gx = i := by simpa [Value.ownBlock] using hi
                  have h1 := unhide HLT
                  have h2 := K6.size
                  omega
                have HC2 := hide (lreads_any (.slice (some ⟨gx, 0, none⟩) L c4) B w6 ((unhide HR5).sl.kept K6 (by simp)) (unhide HX5) (by have := unhide HX6; omega) hvx ((unhide HG).kept ((unhide HK1).trans (unhide HK6)) (by simp)))
                clear HC K6 hvx HR5 HK5 HX5 HX6
                go_wp2_with fail
                refine (unhide HC2).mono ?_
                rintro ee w7 ⟨rfl, K7⟩
                have HK7 := hide ((unhide HK6).trans K7)
                clear HC2 K7 HK6
                go_wp2_with fail
                go_roundw
                case rel => exact ⟨k + 1, by omega, by go_num, unhide HK7⟩
                case measure => simp [intOf]; omega
            · have hk2 : ¬ (k : Int) ≤ (L : Int) := by omega
              have HSB : Hid (∀ w', Kp [] wt.drew w' → Sl w' (.slice (some ⟨gb, 0, none⟩) L cb) B) := fun w' kk => (unhide HSL).kept (((unhide HKt).trans (kp_drew wt)).trans kk) (by simp)
              have HGW : Hid (∀ w', Kp [] wt.drew w' → Gl w') := fun w' kk => (unhide HG).kept ((((unhide HK1).trans (unhide HKt)).trans (kp_drew wt)).trans kk) (by simp)
              go_wp2_with fail
              refine region_grow Tryd.mixed [Full [], Is (.slice (some ⟨gb, 0, none⟩) L cb), ZRow B, SlT ([0]), SlT (B ++ [0]), Is (.bool true), Is (.bool true), SlT (List.replicate 32 0), SlT (List.replicate 65 0), MvT ⟨⟨#[97]⟩, 1, List.replicate 32 0, List.replicate 65 0⟩, Is (.bool true), Is (.bool true), Is (.bool true), Is (.bool true), Is (.bool true), Is (.bool true)] [[], [(6, none)], [(78, some 0), (79, some 1)], [], [(80, some 2), (81, some 3)], [(82, some 4)], [(83, some 5)], [(84, some 6)], [(84, some 6)], [(85, some 7), (86, some 8), (84, some 6)], [(87, some 9), (84, some 6)], [(84, some 6), (88, some 10)], [(89, some 11)], [(90, some 12)], [(90, some 12), (91, some 13)], [(92, some 14)]] (by kernel_rfl) ?_ ?_ ?_
              · simp only [List.mem_cons, List.not_mem_nil, or_false]
                intro R hR
                rcases hR with rfl | rfl | rfl | rfl | rfl | rfl | rfl | rfl | rfl | rfl | rfl | rfl | rfl | rfl | rfl | rfl <;> first | exact stable_full _ | exact stable_is _ | exact stable_zrow _ | exact stable_sl _ | exact stable_mv _
              · refine steps_cons (fun a w hk hn => ?_) ?_
                · clear hn
                  refine wants_plain rfl ?_
                  refine grown_run (v := .slice (some ⟨w.heap.size, 0, none⟩) 0 0) (w' := w.alloc (.cells #[] 5)) ?_ ((Kp.refl _ _).alloc _) ⟨⟨_, rfl⟩, Sl.block (cs := []) (t := 5) (heap_alloc_new w _) (by simp [maxLen])⟩
                  obtain ⟨ρ, hρ, hc, hf, hg⟩ := eval_is a
                  rw [hρ]
                  simp [go_sem]
                refine steps_cons (fun a w hk hn => ?_) ?_
                · have h6 : a.eval (.tmp 6) = .slice (some ⟨gb, 0, none⟩) L cb := hn.1
                  clear hn
                  refine wants_plain rfl ?_
                  exact grown_move (.tmp 6) rfl h6
                refine steps_cons (fun a w hk hn => ?_) ?_
                · have h78 : (Full []) (a.eval (.tmp 78)) w := hn.1
                  have h79 : a.eval (.tmp 79) = .slice (some ⟨gb, 0, none⟩) L cb := hn.2.1
                  clear hn
                  refine wants_plain rfl ?_
                  exact grown_append_z (.tmp 78) (.tmp 79) B rfl h78 (by rw [h79]; exact unhide HSB w hk) (unhide HBN) (by have := unhide HBL; omega) (fun v w' h => h)
                refine steps_cons (fun a w hk hn => ?_) ?_
                · clear hn
                  refine wants_plain rfl ?_
                  exact grown_byte1 (.const (.int .u8 0)) 0 rfl rfl
                refine steps_cons (fun a w hk hn => ?_) ?_
                · have h80 : (ZRow B) (a.eval (.tmp 80)) w := hn.1
                  have h81 : Sl w (a.eval (.tmp 81)) ([0]) := hn.2.1
                  clear hn
                  refine wants_plain rfl ?_
                  exact grown_append_0 (.tmp 80) (.tmp 81) B rfl h80 h81 (by have := unhide HBL; omega) (fun v w' h => h)
                refine steps_cons (fun a w hk hn => ?_) ?_
                · have h82 : Sl w (a.eval (.tmp 82)) (B ++ [0]) := hn.1
                  clear hn
                  refine wants_plain rfl ?_
                  refine grown_call (f := 7) rfl Tryd.func7 (by kernel_rfl) (by kernel_rfl) ?_
                  simp only [List.map_toArray, List.map_cons, List.map_nil]
                  refine (lreads_any _ (B ++ [0]) w h82 ((unhide HBB).append (fun b hb => by simp at hb; omega)) (by rw [List.length_append]; have := unhide HBL; simp; omega) (hv_of_sl h82 (by simp)) (unhide HGW w hk)).mono ?_
                  rintro e w' ⟨rfl, K⟩
                  exact ⟨_, rfl, K, rfl⟩
                refine steps_cons (fun a w hk hn => ?_) ?_
                · have h83 : a.eval (.tmp 83) = .bool true := hn.1
                  clear hn
                  refine wants_plain rfl ?_
                  exact grown_move (.tmp 83) rfl h83
                refine steps_cons (fun a w hk hn => ?_) ?_
                · have h84 : a.eval (.tmp 84) = .bool true := hn.1
                  clear hn
                  refine wants_guard (d := 84) rfl rfl h84 ?_
                  exact grown_make (.const (.int .i64 32)) 32 (by omega) rfl rfl
                refine steps_cons (fun a w hk hn => ?_) ?_
                · have h84 : a.eval (.tmp 84) = .bool true := hn.1
                  clear hn
                  refine wants_guard (d := 84) rfl rfl h84 ?_
                  exact grown_make (.const (.int .i64 65)) 65 (by omega) rfl rfl
                refine steps_cons (fun a w hk hn => ?_) ?_
                · have h85 : Sl w (a.eval (.tmp 85)) (List.replicate 32 0) := hn.1
                  have h86 : Sl w (a.eval (.tmp 86)) (List.replicate 65 0) := hn.2.1
                  have h84 : a.eval (.tmp 84) = .bool true := hn.2.2.1
                  clear hn
                  refine wants_guard (d := 84) rfl rfl h84 ?_
                  exact grown_man (.const (.string ⟨#[97]⟩)) (.const (.int .u32 1)) (.tmp 85) (.tmp 86) rfl _ rfl rfl h85 h86 (zeros_ok _ _ _ _ (by omega) (by omega))
                refine steps_cons (fun a w hk hn => ?_) ?_
                · have h87 : (MvT ⟨⟨#[97]⟩, 1, List.replicate 32 0, List.replicate 65 0⟩) (a.eval (.tmp 87)) w := hn.1
                  have h84 : a.eval (.tmp 84) = .bool true := hn.2.1
                  clear hn
                  refine wants_guard (d := 84) rfl rfl h84 ?_
                  refine grown_call (f := 5) rfl Tryd.func5 (by kernel_rfl) (by kernel_rfl) ?_
                  simp only [List.map_toArray, List.map_cons, List.map_nil]
                  refine (lsame_any _ _ w h87 (by decide)).mono ?_
                  rintro e w' ⟨rfl, K⟩
                  exact ⟨_, rfl, K, rfl⟩
                refine steps_cons (fun a w hk hn => ?_) ?_
                · have h84 : a.eval (.tmp 84) = .bool true := hn.1
                  have h88 : a.eval (.tmp 88) = .bool true := hn.2.1
                  clear hn
                  refine wants_plain rfl ?_
                  exact grown_pick _ _ _ true rfl h84 h88
                refine steps_cons (fun a w hk hn => ?_) ?_
                · have h89 : a.eval (.tmp 89) = .bool true := hn.1
                  clear hn
                  refine wants_plain rfl ?_
                  exact grown_move (.tmp 89) rfl h89
                refine steps_cons (fun a w hk hn => ?_) ?_
                · have h90 : a.eval (.tmp 90) = .bool true := hn.1
                  clear hn
                  refine wants_guard (d := 90) rfl rfl h90 ?_
                  refine grown_call (f := 8) rfl Tryd.func8 (by kernel_rfl) (by kernel_rfl) ?_
                  simp only [List.map_toArray, List.map_nil]
                  refine (mknown_any w).mono ?_
                  rintro e w' ⟨rfl, K⟩
                  exact ⟨_, rfl, K, rfl⟩
                refine steps_cons (fun a w hk hn => ?_) ?_
                · have h90 : a.eval (.tmp 90) = .bool true := hn.1
                  have h91 : a.eval (.tmp 91) = .bool true := hn.2.1
                  clear hn
                  refine wants_plain rfl ?_
                  exact grown_pick _ _ _ true rfl h90 h91
                refine steps_cons (fun a w hk hn => ?_) ?_
                · have h92 : a.eval (.tmp 92) = .bool true := hn.1
                  clear hn
                  refine wants_plain rfl ?_
                  exact grown_assign (.tmp 92) rfl h92
                exact trivial
              intro W1 hkW1
              intro v78 h78
              rintro _ rfl
              intro v80 h80
              intro v81 h81
              intro v82 h82
              rintro _ rfl
              rintro _ rfl
              intro v85 h85
              intro v86 h86
              intro v87 h87
              rintro _ rfl
              rintro _ rfl
              rintro _ rfl
              rintro _ rfl
              rintro _ rfl
              rintro _ rfl
              refine fin_nil ?_
              simp only [Act.put, List.set_cons_zero, List.set_cons_succ, List.setIfInBounds_toArray]
              have HKW := hide ((((unhide HK1).trans (unhide HKt)).trans (kp_drew wt)).trans hkW1)
              clear hkW1 h78 h80 h81 h82 h85 h86 h87
              go_wp2_with fail
              go_ret
              exact ⟨rfl, (unhide HKW).below (Nat.le_refl _) (by simp)⟩
set_option maxRecDepth 100000 in
theorem lifted (os : Os) (started : os.Started) (H : Type) (enc : TypeId × Value → H) :
    ReturnsInHanded {} Tryd.checked os 3 .any (fun w args => (Rows.manifestNumbersSpec.pre enc Tryd.prog Tryd.f3 [] false w args ∧ laidMetH Tryd.prog laid1 w) ∧ sizedMet enc Tryd.prog Tryd.f3 (OpenSpec.ofChange Rows.manifestNumbersSpec) false w args) (Rows.manifestNumbersSpec.post enc Tryd.prog Tryd.f3 false true false false) := by
  refine returnsInHanded_of_change_and (C := Tryd.checked) (X := fun w _ => laidMetH Tryd.prog laid1 w) (fun _ _ _ hh h => h.of_heap hh) own started (by kernel_rfl) Tryd.func3
    (ChangeSpec.witness_shaped (enc := enc) (C := Tryd.checked) (os := os) (X := fun w _ => laidMetH Tryd.prog laid1 w) false (World.doorLaid Tryd.prog 400 os) #[] 8 rfl (World.shaped_of_RefB (by kernel_rfl) (by kernel_rfl)) (by kernel_rfl) (by kernel_rfl) (by kernel_rfl) (door_met os _)) ?_
  intro W base args ds gs before hval0 hW hcnd hsz0 hL _
  have hG := gl_of_laid hL
  have hval : ∀ (j : Nat) t v, Tryd.f3.params[j]? = some t → args[j]? = some v → Value.okWide Tryd.prog W .any base t v := hval0
  have hW' := hW
  obtain ⟨p, q, hA0, hV, rfl, hfz, hnd⟩ := hW
  have hA : DataW.TrodAll enc Tryd.prog W 0 (fun _ => true) true Tryd.f3.params.toList args.toList ds p := hA0
  rw [Tryd.params3] at hA hval
  obtain ⟨hargs, rfl, rfl⟩ := trodAll_nil hA
  obtain rfl : args = #[] := by cases args; simp_all
  obtain ⟨rfl, rfl⟩ := trodVars_none hV
  clear hA0 hval0
  refine (walk  W hG).mono fun e W' ⟨he, bel⟩ => ?_
  subst he
  exact ⟨_, rfl, _, _, _, [], _, [], hW', trodAll_mk1 (shut_bool Tryd.underlying4 _), trodAll_mk0, rfl, bel.frame _, fun h => by cases h⟩

theorem over : Rows.manifestNumbersRow.holds Tryd.pinned (OpenSpec.ofChange Rows.manifestNumbersSpec) :=
  OpenClaim.holds_of_wide 3 Tryd.f3 rfl rfl rfl rfl rfl rfl rfl ⟨rfl, rfl, rfl, rfl, rfl⟩ rfl rfl rfl rfl rfl (by kernel_rfl) Tryd.func3 (by kernel_rfl)
    (of_decide_eq_true (by kernel_rfl)) (by unfold Func.isWrapper; first | (rw [if_pos (by decide +kernel)]; kernel_rfl) | (rw [if_neg (by decide +kernel)]; exact ⟨rfl, rfl⟩))
    (fun os started H enc _ => lifted os started H enc)
end Go.Proofs.YtioflclfgkcpfaaDoor.manifestNumbers

namespace Go.Proofs.YtioflclfgkcpfaaDoor
/-- The given statement: the tied card. -/
theorem ManifestNumbers_holds : Rows.ManifestNumbersCardSaid :=
  Claim7.holds_tied_plain_at .later [] [.data] true Rows.manifestNumbersCard.stood.harness false
    manifestNumbers.over (fun _ h => by cases h) (by kernel_rfl) (fun _ h => by cases h) manifestNumbers_row_tie rfl ⟨rfl, rfl⟩ (by kernel_rfl) rfl
    (fun f fn hf hfn => by
      obtain rfl : f = 3 := Option.some.inj ((show Tryd.prog.funcNamed "broadsheet/broadsheetlaw9.ManifestNumbers" = some 3 by kernel_rfl).symm.trans hf) |>.symm
      obtain rfl : fn = Tryd.f3 := (Option.some.inj (Tryd.func3.symm.trans hfn)).symm
      exact ⟨by kernel_rfl, fun j t ht => by
        rw [Tryd.params3] at ht
        have hm : t ∈ ([] : List TypeId) := by simpa using Array.mem_of_getElem? ht
        have hall : (([] : List TypeId).all fun u => !Tryd.prog.wantsStandIn u) = true := by kernel_rfl
        exact (show Tryd.prog.wantsStandIn t = false by simpa using List.all_eq_true.1 hall t hm)⟩)
    (by kernel_rfl)
#print axioms ManifestNumbers_holds
end Go.Proofs.YtioflclfgkcpfaaDoor
