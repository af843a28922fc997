/-
  The statement SignNumbersCardSaid: the law function SignNumbers returns true; the table hash.roundWords starts as the program's text lays it (tied). No other condition.
-/
import Derived.Test.YtdioaohejoflcaaDoorKSTurn
import Derived.Test.YtdioaohejoflcaaDoorKSSameL
import Derived.Test.YtdioaohejoflcaaDoorKOMore
import Derived.Test.YtdioaohejoflcaaDoorTie
import Derived.Test.YtdioaohejoflcaaDoorCards
import Derived.SevenTiedAt
namespace Go.Proofs.YtdioaohejoflcaaDoor.signNumbers
open Go.ChangeShapes Go.WideShapes Go.ChangeAt Go.RowKit
open Go.Deep
open Go.Proofs.YtdioaohejoflcaaDoor
set_option linter.unusedVariables false

/-- The value is a signature. -/
def SigT (i : Int) (ps qs : List (List Int)) : Tell := fun v w => SigV w v i ps qs
theorem stable_sig (i : Int) (ps qs : List (List Int)) : Tell.stable (SigT i ps qs) := fun _ _ _ k h => h.kept k
theorem made_long : (madeCells (Value.int .u8 0).cells (2179 * 1)).toList = (List.replicate 2179 (0 : Int)).map (Value.int .u8) := by
  rw [List.map_replicate]
  exact toList_madeCells_one (.int .u8 0) 2179
theorem sl_short (w : World) : Sl (w.alloc (.cells #[.int .u8 115, .int .u8 104, .int .u8 111, .int .u8 114, .int .u8 116] 5 (5, 6))) (.slice (some ⟨w.heap.size, 0, none⟩) 5 5) [115, 104, 111, 114, 116] := by
  refine ⟨some ⟨w.heap.size, 0, none⟩, 5, rfl, Nat.le_refl _, by simp [maxLen], (fun e => by cases e), fun a ha j u hu => ?_⟩
  injection ha with ha
  subst ha
  rw [Addr.add_lit, Nat.zero_add, cell_of_row _ w.heap.size j _ _ _ (heap_alloc_new w _)]
  simpa using hu

set_option maxRecDepth 100000 in
set_option maxHeartbeats 8000000 in
theorem walk (w : World) (hG : Gl w) :
    Calls Tryd.prog 3 #[] w fun e w' => e = .returned (.bool true) ∧ Below w.heap.size w w' := by
  have HG := hide hG
  clear hG
  go_enter Tryd.func3, Tryd.ntmps3
  go_wp2_with fail
  refine (seed_any 0 w (by omega)).mono ?_
  rintro ee w1 ⟨a1, m1, c1, sd, rfl, R1, hsl, hsb, K1⟩
  have HC := hide (new_own (.slice a1 m1 c1) sd w1 R1.sl hsb hsl)
  have HK1 := hide K1
  have HSB := hide hsb
  have HSL := hide hsl
  clear R1 K1 hsb hsl
  go_wp2_with fail
  refine (unhide HC).mono ?_
  rintro ee w2 ⟨g1, bs1, rfl, O2, K2⟩
  obtain ⟨sa, sn, sc, gl, gc, hc0, _, hS2, _⟩ := O2.open
  have HO2 := hide O2
  have HS2 := hide hS2
  have HC0 : Hid (∀ w', Kp [] w2 w' → w'.cell? ⟨g1, 0, none⟩ = some (.slice sa sn sc)) := fun w' k' => k'.cell hc0 (by simp)
  have HK2 := hide ((unhide HK1).trans K2)
  obtain ⟨tp, htp⟩ : ∃ t, t = topP sd := ⟨_, rfl⟩
  have HTP := hide htp
  have HTB : Hid (Bs tp) := by rw [htp]; exact (topP_ok sd).2
  have HC2 := hide (spublic_any (.slice sa sn sc) sd tp htp w2 hS2 (unhide HSB) (unhide HSL) ((unhide HG).kept (unhide HK2) (by simp)))
  clear O2 K2 HC hS2 htp
  go_wp2_with fail
  refine (unhide HC2).mono ?_
  rintro ee w3 ⟨pa, pn, pc, rfl, P3, K3⟩
  have HP3 := hide P3
  have HK23 := hide K3
  have HK3 := hide ((unhide HK2).trans K3)
  obtain ⟨ST, hST⟩ : ∃ S, S = strOfNums tp := ⟨_, rfl⟩
  have HST := hide hST
  have HPP : Hid (∀ w', Kp [] w3.drew w' → Sl w' (.slice pa pn pc) tp) := fun w' k' => (unhide HP3).kept ((kp_drew w3).trans k') (by simp)
  have HOW : Hid (∀ w', Kp [] w3.drew w' → Ow w' bs1 g1 sd 5) := fun w' k' => (unhide HO2).kept ((unhide HK23).trans ((kp_drew w3).trans k'))
  clear P3 K3 HC2 hST hc0
  go_wp2_with fail
  refine region_growC Tryd.mixed [Is (.slice pa pn pc), Is (.string ST), Is (.pointer (some ⟨g1, 0, none⟩)), SlT (tp), Is (.string ST), Is (.bool false), Is (.bool false), LitT w3.drew.heap.size [115, 104, 111, 114, 116], SlT ([115, 104, 111, 114, 116]), Is (.slice none 0 0), Is (.int .i64 0), Is (.bool false), Is (.bool false)] [[(2, none)], [(21, some 0)], [(1, none)], [(23, some 2)], [(24, some 3)], [(22, some 1), (25, some 4)], [(26, some 5)], [(27, some 6)], [(28, some 7), (27, some 6)], [(29, some 8), (27, some 6)], [(30, some 9), (27, some 6)], [(31, some 10), (27, some 6)], [(27, some 6), (32, some 11)]] (by kernel_rfl) ?_ ?_ ?_
  · simp only [List.mem_cons, List.not_mem_nil, or_false]
    intro R hR
    rcases hR with rfl | rfl | rfl | rfl | rfl | rfl | rfl | rfl | rfl | rfl | rfl | rfl | rfl <;> first | exact stableC_is _ | exact stableC_sl _ | exact stableC_lit _ _
  · refine steps_consC (fun a w hk hn => ?_) ?_
    · have h2 : a.eval (.tmp 2) = .slice pa pn pc := hn.1
      clear hn
      refine wantsC_of hk ?_
      refine wants_plain rfl ?_
      exact grown_move (.tmp 2) rfl h2
    refine steps_consC (fun a w hk hn => ?_) ?_
    · have h21 : a.eval (.tmp 21) = .slice pa pn pc := hn.1
      clear hn
      refine wantsC_of hk ?_
      refine wants_plain rfl ?_
      exact grown_conv (.tmp 21) _ _ 5 (tp) rfl (by rw [h21]; exact unhide HPP w hk) Tryd.underlying24 Tryd.underlying5 Tryd.underlying9 (congrArg Value.string (unhide HST).symm)
    refine steps_consC (fun a w hk hn => ?_) ?_
    · have h1 : a.eval (.tmp 1) = .pointer (some ⟨g1, 0, none⟩) := hn.1
      clear hn
      refine wantsC_of hk ?_
      refine wants_plain rfl ?_
      exact grown_move (.tmp 1) rfl h1
    refine steps_consC (fun a w hk hn => ?_) ?_
    · have h23 : a.eval (.tmp 23) = .pointer (some ⟨g1, 0, none⟩) := hn.1
      clear hn
      refine wantsC_of hk ?_
      refine wants_plain rfl ?_
      refine grown_call (f := 12) rfl Tryd.func12 (by kernel_rfl) (by kernel_rfl) ?_
      simp only [List.map_toArray, List.map_cons, List.map_nil, h23]
      refine (own_public _ _ sd tp (unhide HTP) w (unhide HOW w hk)).mono ?_
      rintro e w' ⟨ao, m, c, rfl, R, hw⟩
      subst w'
      exact ⟨_, rfl, Kp.refl _ _, R⟩
    refine steps_consC (fun a w hk hn => ?_) ?_
    · have h24 : Sl w (a.eval (.tmp 24)) (tp) := hn.1
      clear hn
      refine wantsC_of hk ?_
      refine wants_plain rfl ?_
      exact grown_conv (.tmp 24) _ _ 5 _ rfl h24 Tryd.underlying24 Tryd.underlying5 Tryd.underlying9 (congrArg Value.string (unhide HST).symm)
    refine steps_consC (fun a w hk hn => ?_) ?_
    · have h22 : a.eval (.tmp 22) = .string ST := hn.1
      have h25 : a.eval (.tmp 25) = .string ST := hn.2.1
      clear hn
      refine wantsC_of hk ?_
      refine wants_plain rfl ?_
      refine grown_run (v := .bool false) ?_ (Kp.refl _ _) rfl
      obtain ⟨ρ, hρ, hc, hf, hg⟩ := eval_is a
      rw [hρ] at h22 h25 ⊢
      simp [go_sem, h22, h25]
    refine steps_consC (fun a w hk hn => ?_) ?_
    · have h26 : a.eval (.tmp 26) = .bool false := hn.1
      clear hn
      refine wantsC_of hk ?_
      refine wants_plain rfl ?_
      exact grown_move (.tmp 26) rfl h26
    refine steps_consC (fun a w hk hn => ?_) ?_
    · have h27 : a.eval (.tmp 27) = .bool false := hn.1
      clear hn
      refine wantsC_of hk ?_
      refine wants_guard (d := 27) rfl rfl h27 ?_
      refine grown_lit hk [115, 104, 111, 114, 116] ?_ (by simp [maxLen])
      obtain ⟨ρ, hρ, hc, hf, hg⟩ := eval_is a
      rw [hρ]
      simp [go_sem, hc]
    refine steps_consC (fun a w hk hn => ?_) ?_
    · have h28 : (LitT w3.drew.heap.size [115, 104, 111, 114, 116]) (a.eval (.tmp 28)) w := hn.1
      have h27 : a.eval (.tmp 27) = .bool false := hn.2.1
      clear hn
      exact wantsC_lit hk (by rw [wanted_iff (d := 27) rfl rfl h27]; rfl) (.tmp 28) rfl [115, 104, 111, 114, 116] h28
    refine steps_consC (fun a w hk hn => ?_) ?_
    · have h29 : Sl w (a.eval (.tmp 29)) ([115, 104, 111, 114, 116]) := hn.1
      have h27 : a.eval (.tmp 27) = .bool false := hn.2.1
      clear hn
      refine wantsC_of hk ?_
      refine wants_guard (d := 27) rfl rfl h27 ?_
      refine grown_call (f := 11) rfl Tryd.func11 (by kernel_rfl) (by kernel_rfl) ?_
      simp only [List.map_toArray, List.map_cons, List.map_nil]
      refine (spublic_no _ [115, 104, 111, 114, 116] w h29 (by decide)).mono ?_
      rintro e w' ⟨rfl, hw⟩
      subst w'
      exact ⟨_, rfl, Kp.refl _ _, rfl⟩
    refine steps_consC (fun a w hk hn => ?_) ?_
    · have h30 : a.eval (.tmp 30) = .slice none 0 0 := hn.1
      have h27 : a.eval (.tmp 27) = .bool false := hn.2.1
      clear hn
      refine wantsC_of hk ?_
      refine wants_guard (d := 27) rfl rfl h27 ?_
      refine grown_run (v := .int .i64 0) ?_ (Kp.refl _ _) rfl
      obtain ⟨ρ, hρ, hc, hf, hg⟩ := eval_is a
      rw [hρ] at h30 ⊢
      simp [go_sem, h30]
    refine steps_consC (fun a w hk hn => ?_) ?_
    · have h31 : a.eval (.tmp 31) = .int .i64 0 := hn.1
      have h27 : a.eval (.tmp 27) = .bool false := hn.2.1
      clear hn
      refine wantsC_of hk ?_
      refine wants_guard (d := 27) rfl rfl h27 ?_
      refine grown_run (v := .bool false) ?_ (Kp.refl _ _) rfl
      obtain ⟨ρ, hρ, hc, hf, hg⟩ := eval_is a
      rw [hρ] at h31 ⊢
      simp [go_sem, hc, h31]
    refine steps_consC (fun a w hk hn => ?_) ?_
    · have h27 : a.eval (.tmp 27) = .bool false := hn.1
      have h32 : a.eval (.tmp 32) = .bool false := hn.2.1
      clear hn
      refine wantsC_of hk ?_
      refine wants_plain rfl ?_
      exact grown_pick _ _ _ false rfl h27 h32
    exact trivial
  intro W1 hkW1
  rintro _ rfl
  rintro _ rfl
  rintro _ rfl
  intro v24 h24
  rintro _ rfl
  rintro _ rfl
  rintro _ rfl
  intro v28 h28
  intro v29 h29
  rintro _ rfl
  rintro _ rfl
  rintro _ rfl
  rintro _ rfl
  refine fin_nil ?_
  simp only [Act.put, List.set_cons_zero, List.set_cons_succ, List.setIfInBounds_toArray]
  have HKW := hide ((unhide HK23).trans ((kp_drew w3).trans hkW1))
  have HP1 := hide ((unhide HP3).kept ((kp_drew w3).trans hkW1) (by simp))
  clear hkW1 HPP HOW HST h24 h28 h29
  go_wp2_with fail
  go_loopw [3] (fun j wr => ∃ k : Nat, k ≤ 16 ∧ j = .int .i64 (k : Int) ∧ Kp [] W1 wr) (fun j _ => 16 - (intOf j).toNat)
  case atStart => exact ⟨0, by omega, rfl, Kp.refl _ _⟩
  case round =>
    obtain ⟨k, hk, rfl, Kr⟩ := hrel
    have HKr := hide Kr
    have HK2r := hide ((unhide HKW).trans Kr)
    have hcs := unhide HC0 wr (unhide HK2r)
    clear Kr
    by_cases hlt : k < 16
    · have hlt2 : (k : Int) < 16 := by omega
      have hk16 : k < 16 := hlt
      have hwr : IntKind.u8.wrap (k : Int) = (k : Int) := by simp [IntKind.wrap, IntKind.signed, IntKind.bits]; omega
      obtain ⟨ob, hob⟩ : ∃ o : Obj, o = (.cells #[.int .u8 (k : Int)] 5) := ⟨_, rfl⟩
      have Ka : Kp [] wr (wr.alloc ob) := (Kp.refl [] wr).alloc ob
      have HMa : Hid (Sl (wr.alloc ob) (.slice (some ⟨wr.heap.size, 0, none⟩) 1 1) [(k : Int)]) := by rw [hob]; exact one_block wr k
      have HBM : Hid (Bs [(k : Int)]) := fun b hb => by obtain rfl := List.mem_singleton.1 hb; omega
      obtain ⟨d, hd⟩ : ∃ d, d = digP [(k : Int)] := ⟨_, rfl⟩
      have HD := hide hd
      have HC := hide (ssign_any (.slice sa sn sc) sd k (.slice (some ⟨wr.heap.size, 0, none⟩) 1 1) [(k : Int)] d hd (wr.alloc ob) ((unhide HS2).kept ((unhide HK2r).trans Ka) (by simp)) (unhide HSB) (unhide HSL) hk16 (unhide HMa) (unhide HBM) (by simp) ((unhide HG).kept ((unhide HK2).trans ((unhide HK2r).trans Ka)) (by simp)))
      have hcs2 := unhide HC0 _ ((unhide HK2r).trans Ka)
      have HKa := hide Ka
      have HOB := hide hob
      rw [hob] at hcs2 HC HMa HKa
      clear hd Ka hob
      go_wp2_with fail
      refine (unhide HC).mono ?_
      rintro ee wb ⟨vb, rfl, VB, Kb⟩
      obtain ⟨ap, np, cp, aq, nq, cq, lp, lq, hvb, hLP, hp, hLQ, hq, hnp, hnq⟩ := VB.shape
      subst hvb
      have HVB := hide VB
      have HKab := hide ((unhide HKa).trans Kb)
      have HMb := hide ((unhide HMa).kept Kb (by simp))
      obtain ⟨gm, hgm⟩ : ∃ g, g = wr.heap.size := ⟨_, rfl⟩
      rw [← hgm] at HMb ⊢
      have Ga := heap_alloc_new wb (.cells #[.int .i64 0, .slice none 0 0, .slice none 0 0] 33)
      clear hLP hp hLQ hq hnp hnq VB Kb HC hgm hcs hcs2 HMa HKa HOB
      go_wp2_with (refine wpList_store_sig rfl (.tmp 5) (.tmp 49) rfl wb.heap.size rfl _ _ _ _ _ _ Ga rfl ⟨rfl, rfl, rfl⟩ ?_; intro wc Gc Kc; refine Hid.out ?_)
      have Kbc : Kp [] wb wc := ((Kp.refl [] wb).alloc (.cells #[.int .i64 0, .slice none 0 0, .slice none 0 0] 33)).then Kc (by simp)
      obtain ⟨gs, hgs⟩ : ∃ g, g = wb.heap.size := ⟨_, rfl⟩
      rw [← hgs] at Gc ⊢
      have HGc := hide Gc
      have HKrc := hide ((unhide HKr).trans ((unhide HKab).trans Kbc))
      have HKbc := hide Kbc
      have HVF : Hid (true = verP tp [(k : Int)] k (sgnP sd k d) (pthP sd k 4)) := by rw [unhide HTP, unhide HD]; exact (verP_sgn sd [(k : Int)] k hk16).symm
      have HGS : Hid (∀ w', Kp [] wc.drew w' → w'.heap[gs]? = some (.cells #[.int .i64 k, .slice ap np cp, .slice aq nq cq] 33 (0, 0))) := fun w' k' => ((kp_drew wc).trans k').heap (unhide HGc) (by simp)
      have HVV : Hid (∀ w', Kp [] wc.drew w' → SigV w' (.agg #[.int .i64 k, .slice ap np cp, .slice aq nq cq]) k (sgnP sd k d) (pthP sd k 4)) := fun w' k' => (unhide HVB).kept ((unhide HKbc).trans ((kp_drew wc).trans k'))
      have HMM : Hid (∀ w', Kp [] wc.drew w' → Sl w' (.slice (some ⟨gm, 0, none⟩) 1 1) [(k : Int)]) := fun w' k' => (unhide HMb).kept ((unhide HKbc).trans ((kp_drew wc).trans k')) (by simp)
      have HPP2 : Hid (∀ w', Kp [] wc.drew w' → Sl w' (.slice pa pn pc) tp) := fun w' k' => (unhide HP1).kept ((unhide HKrc).trans ((kp_drew wc).trans k')) (by simp)
      have HOW2 : Hid (∀ w', Kp [] wc.drew w' → Ow w' bs1 g1 sd 5) := fun w' k' => (unhide HO2).kept ((unhide HKW).trans ((unhide HKrc).trans ((kp_drew wc).trans k')))
      have HGL2 : Hid (∀ w', Kp [] wc.drew w' → Gl w') := fun w' k' => (unhide HG).kept ((unhide HK2).trans ((unhide HKW).trans ((unhide HKrc).trans ((kp_drew wc).trans k')))) (by simp)
      clear Ga Kc Gc Kbc hgs hwr
      refine hide ?_
      go_wp2_with fail
      refine region_grow Tryd.mixed [Is (.int .i64 0), Is (.bool false), Is (.bool false), Is (.agg #[.int .i64 k, .slice ap np cp, .slice aq nq cq]), Is (.pointer (some ⟨g1, 0, none⟩)), Is (.int .i64 k), Is (.slice (some ⟨gm, 0, none⟩) 1 1), SigT k (sgnP sd k d) (pthP sd k 4), Is (.bool true), Is (.bool false), Is (.bool false), Is (.bool false), Is (.slice pa pn pc), Is (.slice (some ⟨gm, 0, none⟩) 1 1), Is (.agg #[.int .i64 k, .slice ap np cp, .slice aq nq cq]), Is (.bool true), Is (.bool false), Is (.bool false)] [[(6, none)], [(51, some 0)], [(52, some 1)], [(5, none), (53, some 2)], [(1, none), (53, some 2)], [(3, none), (53, some 2)], [(4, none), (53, some 2)], [(55, some 4), (56, some 5), (57, some 6), (53, some 2)], [(54, some 3), (58, some 7), (53, some 2)], [(59, some 8), (53, some 2)], [(53, some 2), (60, some 9)], [(61, some 10)], [(2, none), (62, some 11)], [(4, none), (62, some 11)], [(5, none), (62, some 11)], [(63, some 12), (64, some 13), (65, some 14), (62, some 11)], [(66, some 15), (62, some 11)], [(62, some 11), (67, some 16)]] (by kernel_rfl) ?_ ?_ ?_
      · simp only [List.mem_cons, List.not_mem_nil, or_false]
        intro R hR
        rcases hR with rfl | rfl | rfl | rfl | rfl | rfl | rfl | rfl | rfl | rfl | rfl | rfl | rfl | rfl | rfl | rfl | rfl | rfl <;> first | exact stable_is _ | exact stable_sig _ _ _
      · refine steps_cons (fun a w hk hn => ?_) ?_
        · have h6 : a.eval (.tmp 6) = .int .i64 0 := hn.1
          clear hn
          refine wants_plain rfl ?_
          exact grown_move (.tmp 6) rfl h6
        refine steps_cons (fun a w hk hn => ?_) ?_
        · have h51 : a.eval (.tmp 51) = .int .i64 0 := hn.1
          clear hn
          refine wants_plain rfl ?_
          refine grown_run (v := .bool false) ?_ (Kp.refl _ _) rfl
          obtain ⟨ρ, hρ, hc, hf, hg⟩ := eval_is a
          rw [hρ] at h51 ⊢
          simp [go_sem, hc, h51]
        refine steps_cons (fun a w hk hn => ?_) ?_
        · have h52 : a.eval (.tmp 52) = .bool false := hn.1
          clear hn
          refine wants_plain rfl ?_
          exact grown_move (.tmp 52) rfl h52
        refine steps_cons (fun a w hk hn => ?_) ?_
        · have h5 : a.eval (.tmp 5) = .pointer (some ⟨gs, 0, none⟩) := hn.1
          have h53 : a.eval (.tmp 53) = .bool false := hn.2.1
          clear hn
          refine wants_guard (d := 53) rfl rfl h53 ?_
          exact grown_loadsig (.tmp 5) rfl gs _ _ _ _ h5 (unhide HGS w hk) rfl
        refine steps_cons (fun a w hk hn => ?_) ?_
        · have h1 : a.eval (.tmp 1) = .pointer (some ⟨g1, 0, none⟩) := hn.1
          have h53 : a.eval (.tmp 53) = .bool false := hn.2.1
          clear hn
          refine wants_guard (d := 53) rfl rfl h53 ?_
          exact grown_move (.tmp 1) rfl h1
        refine steps_cons (fun a w hk hn => ?_) ?_
        · have h3 : a.eval (.tmp 3) = .int .i64 k := hn.1
          have h53 : a.eval (.tmp 53) = .bool false := hn.2.1
          clear hn
          refine wants_guard (d := 53) rfl rfl h53 ?_
          exact grown_move (.tmp 3) rfl h3
        refine steps_cons (fun a w hk hn => ?_) ?_
        · have h4 : a.eval (.tmp 4) = .slice (some ⟨gm, 0, none⟩) 1 1 := hn.1
          have h53 : a.eval (.tmp 53) = .bool false := hn.2.1
          clear hn
          refine wants_guard (d := 53) rfl rfl h53 ?_
          exact grown_move (.tmp 4) rfl h4
        refine steps_cons (fun a w hk hn => ?_) ?_
        · have h55 : a.eval (.tmp 55) = .pointer (some ⟨g1, 0, none⟩) := hn.1
          have h56 : a.eval (.tmp 56) = .int .i64 k := hn.2.1
          have h57 : a.eval (.tmp 57) = .slice (some ⟨gm, 0, none⟩) 1 1 := hn.2.2.1
          have h53 : a.eval (.tmp 53) = .bool false := hn.2.2.2.1
          clear hn
          refine wants_guard (d := 53) rfl rfl h53 ?_
          refine grown_call (f := 15) rfl Tryd.func15 (by kernel_rfl) (by kernel_rfl) ?_
          simp only [List.map_toArray, List.map_cons, List.map_nil, h55, h56, h57]
          refine (own_sign _ _ sd k _ [(k : Int)] d (unhide HD) w (unhide HOW2 w hk) (unhide HSB) (unhide HSL) hk16 (unhide HMM w hk) (unhide HBM) (by simp)).mono ?_
          rintro e w' ⟨v, rfl, V, K⟩
          exact ⟨_, rfl, K, V⟩
        refine steps_cons (fun a w hk hn => ?_) ?_
        · have h54 : a.eval (.tmp 54) = .agg #[.int .i64 k, .slice ap np cp, .slice aq nq cq] := hn.1
          have h58 : (SigT k (sgnP sd k d) (pthP sd k 4)) (a.eval (.tmp 58)) w := hn.2.1
          have h53 : a.eval (.tmp 53) = .bool false := hn.2.2.1
          clear hn
          refine wants_guard (d := 53) rfl rfl h53 ?_
          refine grown_call (f := 14) rfl Tryd.func14 (by kernel_rfl) (by kernel_rfl) ?_
          simp only [List.map_toArray, List.map_cons, List.map_nil, h54]
          refine (refsame_any _ _ _ _ _ w (unhide HVV w hk) h58).mono ?_
          rintro e w' ⟨rfl, K⟩
          exact ⟨_, rfl, K, rfl⟩
        refine steps_cons (fun a w hk hn => ?_) ?_
        · have h59 : a.eval (.tmp 59) = .bool true := hn.1
          have h53 : a.eval (.tmp 53) = .bool false := hn.2.1
          clear hn
          refine wants_guard (d := 53) rfl rfl h53 ?_
          refine grown_run (v := .bool false) ?_ (Kp.refl _ _) rfl
          obtain ⟨ρ, hρ, hc, hf, hg⟩ := eval_is a
          rw [hρ] at h59 ⊢
          simp [go_sem, h59]
        refine steps_cons (fun a w hk hn => ?_) ?_
        · have h53 : a.eval (.tmp 53) = .bool false := hn.1
          have h60 : a.eval (.tmp 60) = .bool false := hn.2.1
          clear hn
          refine wants_plain rfl ?_
          exact grown_pick _ _ _ false rfl h53 h60
        refine steps_cons (fun a w hk hn => ?_) ?_
        · have h61 : a.eval (.tmp 61) = .bool false := hn.1
          clear hn
          refine wants_plain rfl ?_
          exact grown_move (.tmp 61) rfl h61
        refine steps_cons (fun a w hk hn => ?_) ?_
        · have h2 : a.eval (.tmp 2) = .slice pa pn pc := hn.1
          have h62 : a.eval (.tmp 62) = .bool false := hn.2.1
          clear hn
          refine wants_guard (d := 62) rfl rfl h62 ?_
          exact grown_move (.tmp 2) rfl h2
        refine steps_cons (fun a w hk hn => ?_) ?_
        · have h4 : a.eval (.tmp 4) = .slice (some ⟨gm, 0, none⟩) 1 1 := hn.1
          have h62 : a.eval (.tmp 62) = .bool false := hn.2.1
          clear hn
          refine wants_guard (d := 62) rfl rfl h62 ?_
          exact grown_move (.tmp 4) rfl h4
        refine steps_cons (fun a w hk hn => ?_) ?_
        · have h5 : a.eval (.tmp 5) = .pointer (some ⟨gs, 0, none⟩) := hn.1
          have h62 : a.eval (.tmp 62) = .bool false := hn.2.1
          clear hn
          refine wants_guard (d := 62) rfl rfl h62 ?_
          exact grown_loadsig (.tmp 5) rfl gs _ _ _ _ h5 (unhide HGS w hk) rfl
        refine steps_cons (fun a w hk hn => ?_) ?_
        · have h63 : a.eval (.tmp 63) = .slice pa pn pc := hn.1
          have h64 : a.eval (.tmp 64) = .slice (some ⟨gm, 0, none⟩) 1 1 := hn.2.1
          have h65 : a.eval (.tmp 65) = .agg #[.int .i64 k, .slice ap np cp, .slice aq nq cq] := hn.2.2.1
          have h62 : a.eval (.tmp 62) = .bool false := hn.2.2.2.1
          clear hn
          refine wants_guard (d := 62) rfl rfl h62 ?_
          refine grown_call (f := 16) rfl Tryd.func16 (by kernel_rfl) (by kernel_rfl) ?_
          simp only [List.map_toArray, List.map_cons, List.map_nil, h63, h64, h65]
          refine (sverify_any _ tp _ [(k : Int)] _ k _ _ true (unhide HVF) w (unhide HPP2 w hk) (unhide HTB) (unhide HMM w hk) (unhide HBM) (by simp) (unhide HVV w hk) (unhide HGL2 w hk)).mono ?_
          rintro e w' ⟨rfl, K⟩
          exact ⟨_, rfl, K, rfl⟩
        refine steps_cons (fun a w hk hn => ?_) ?_
        · have h66 : a.eval (.tmp 66) = .bool true := hn.1
          have h62 : a.eval (.tmp 62) = .bool false := hn.2.1
          clear hn
          refine wants_guard (d := 62) rfl rfl h62 ?_
          refine grown_run (v := .bool false) ?_ (Kp.refl _ _) rfl
          obtain ⟨ρ, hρ, hc, hf, hg⟩ := eval_is a
          rw [hρ] at h66 ⊢
          simp [go_sem, h66]
        refine steps_cons (fun a w hk hn => ?_) ?_
        · have h62 : a.eval (.tmp 62) = .bool false := hn.1
          have h67 : a.eval (.tmp 67) = .bool false := hn.2.1
          clear hn
          refine wants_plain rfl ?_
          exact grown_pick _ _ _ false rfl h62 h67
        exact trivial
      intro W2 hkW2
      rintro _ rfl
      rintro _ rfl
      rintro _ rfl
      rintro _ rfl
      rintro _ rfl
      rintro _ rfl
      rintro _ rfl
      intro v58 h58
      rintro _ rfl
      rintro _ rfl
      rintro _ rfl
      rintro _ rfl
      rintro _ rfl
      rintro _ rfl
      rintro _ rfl
      rintro _ rfl
      rintro _ rfl
      rintro _ rfl
      refine fin_nil ?_
      simp only [Act.put, List.set_cons_zero, List.set_cons_succ, List.setIfInBounds_toArray]
      have HKD := hide hkW2
      clear hkW2 h58
      go_wp2_with fail
      go_loopw [7] (fun j wr => ∃ h : Nat, h ≤ 9 ∧ j = .int .i64 (h : Int) ∧ Kp [] W2 wr) (fun j _ => 9 - (intOf j).toNat)
      case atStart => exact ⟨0, by omega, rfl, Kp.refl _ _⟩
      case round =>
        obtain ⟨how, hhow, rfl, Ks⟩ := hrel
        have HK2s := hide Ks
        have HKs := hide ((unhide HKD).trans Ks)
        clear Ks
        by_cases hlt9 : how < 9
        · have hlt3 : (how : Int) < 9 := by omega
          have hr := (rgtP_iff _ _ _).1 (rgtP_sgn sd k hk16 d)
          obtain ⟨ws, hws⟩ : ∃ ws, ws = wr := ⟨_, rfl⟩
          subst hws
          have HGw := hide (unhide HGS ws (unhide HKs))
          have HC := hide (turned_any _ k _ _ how k 1 ws (unhide HVV ws (unhide HKs)) (by omega) hr.2.1.1 hr.2.1.2 hr.2.2.1 hr.2.2.2 (by omega) (by omega) (by omega))
          clear hr
          go_wp2_with (refine wpList_load_row rfl 33 (.tmp 5) rfl gs rfl 33 _ (0, 0) _ (unhide HGw) Tryd.underlying33 rfl Tryd.sigSize ?_)
          refine (unhide HC).mono ?_
          rintro ee wt ⟨vt, rfl, i', ps', qs', VT, hib, _, KT⟩
          have HKt := hide ((unhide HKs).trans KT)
          have HK2t := hide ((unhide HK2s).trans KT)
          have HC := hide (lsame_any (.slice pa pn pc) tp (.slice (some ⟨gm, 0, none⟩) 1 1) [(k : Int)] vt i' ps' qs' wt (unhide HPP2 wt (unhide HKt)) (unhide HTB) (unhide HMM wt (unhide HKt)) (unhide HBM) (by simp) VT hib (unhide HGL2 wt (unhide HKt)))
          clear VT hib KT HGw
          go_wp2_with fail
          refine (unhide HC).mono ?_
          rintro ee wu ⟨rfl, KU⟩
          have HKu := hide ((unhide HK2t).trans KU)
          clear KU HC
          go_wp2_with fail
          go_roundw
          case rel => exact ⟨how + 1, by omega, by go_num, unhide HKu⟩
          case measure => simp [intOf]; omega
        · have hlt3 : ¬ (how : Int) < 9 := by omega
          have HKx := hide ((unhide HKrc).trans ((kp_drew wc).trans (unhide HKs)))
          go_wp2_with fail
          go_roundw
          case rel => exact ⟨k + 1, by omega, by go_num, unhide HKx⟩
          case measure => simp [intOf]; omega
    · skip
      have hlt2 : ¬ (k : Int) < 16 := by omega
      have HKwr := hide ((unhide HK2).trans (unhide HK2r))
      obtain ⟨wA, hwA⟩ : ∃ wA, wA = wr := ⟨_, rfl⟩
      subst hwA
      obtain ⟨ob, hob⟩ : ∃ o : Obj, o = (.cells #[.int .u8 115, .int .u8 104, .int .u8 111, .int .u8 114, .int .u8 116] 5 (5, 6)) := ⟨_, rfl⟩
      have kc1 := Lib.run_convert_bytes_const (P := Tryd.prog) wA 24 5 #[.int .u8 115, .int .u8 104, .int .u8 111, .int .u8 114, .int .u8 116] 5 5 Tryd.underlying24 Tryd.underlying5
      rw [show (#[Value.int .u8 115, .int .u8 104, .int .u8 111, .int .u8 114, .int .u8 116].size, #[Value.int .u8 115, .int .u8 104, .int .u8 111, .int .u8 114, .int .u8 116].size + 1) = (5, 6) from rfl, ← hob] at kc1
      have Ka : Kp [] wA (wA.alloc ob) := (Kp.refl [] wA).alloc ob
      have HM1 : Hid (Sl (wA.alloc ob) (.slice (some ⟨wA.heap.size, 0, none⟩) 5 5) [115, 104, 111, 114, 116]) := by rw [hob]; exact sl_short wA
      have HC := hide (ssign_arg _ [115, 104, 111, 114, 116] 0 (.slice none 0 0) (wA.alloc ob) (unhide HM1) (by decide))
      have HKa := hide Ka
      clear Ka hob hcs
      go_wp2_with fail
      refine (unhide HC).mono ?_
      rintro ee wb ⟨rfl, Kb⟩
      have HKb := hide ((unhide HKa).trans Kb)
      have Ga := heap_alloc_new wb (.cells #[.int .i64 0, .slice none 0 0, .slice none 0 0] 33)
      clear Kb HC kc1 HM1 HKa
      go_wp2_with (refine wpList_store_sig rfl (.tmp 8) (.tmp 85) rfl wb.heap.size rfl _ _ _ _ _ _ Ga rfl ⟨rfl, rfl, rfl⟩ ?_; intro wc Gc Kc; refine Hid.out ?_)
      have Kbc : Kp [] wb wc := ((Kp.refl [] wb).alloc (.cells #[.int .i64 0, .slice none 0 0, .slice none 0 0] 33)).then Kc (by simp)
      have HKc := hide ((unhide HKb).trans Kbc)
      have hcs := unhide HC0 wc ((unhide HK2r).trans (unhide HKc))
      have HC := hide (ssign_used (.slice sa sn sc) sd (-1) (.slice none 0 0) wc ((unhide HS2).kept ((unhide HK2r).trans (unhide HKc)) (by simp)) (unhide HSL) (by omega))
      clear Ga Kc Gc Kbc HKb
      refine hide ?_
      go_wp2_with fail
      refine (unhide HC).mono ?_
      rintro ee wd ⟨rfl, Kd⟩
      have HKd := hide ((unhide HKc).trans Kd)
      have Ga := heap_alloc_new wd (.cells #[.int .i64 0, .slice none 0 0, .slice none 0 0] 33)
      clear Kd HC hcs HKc
      go_wp2_with (refine wpList_store_sig rfl (.tmp 10) (.tmp 93) rfl wd.heap.size rfl _ _ _ _ _ _ Ga rfl ⟨rfl, rfl, rfl⟩ ?_; intro we Ge Ke; refine Hid.out ?_)
      have Kde : Kp [] wd we := ((Kp.refl [] wd).alloc (.cells #[.int .i64 0, .slice none 0 0, .slice none 0 0] 33)).then Ke (by simp)
      have HKe := hide ((unhide HKd).trans Kde)
      clear Ga Ke Ge Kde HKd
      refine hide ?_
      obtain ⟨i0, hi0, hz0, hz1, hz2⟩ := info_parts Tryd.info5
      go_wp2_with (at_make; refine wpList_make_full _ rfl _ _ 24 rfl we.heap.size 5 i0 (.int .u8 0) 1 Tryd.underlying24 hi0 hz0 hz1 .i64 .i64 _ _ 2179 rfl rfl (by omega) (by omega) (by rw [hz2]; omega) (by unfold maxLen; omega) (Nat.le_refl _) ?_; intro wf o1 gr; refine Hid.out ?_)
      rw [made_long] at o1
      have Kf : Kp [] we wf := (Kp.refl [] we).grown gr (by intro k hk; cases hk)
      have hR : Row wf we.heap.size (.slice (some ⟨we.heap.size, 0, none⟩) 2179 2179) (List.replicate 2179 (0 : Int)) := by unfold Row; rw [List.length_replicate]; exact o1
      have HKf := hide ((unhide HKe).trans Kf)
      have HC := hide (decode_long _ _ wf hR.sl (by rw [List.length_replicate]; decide))
      clear o1 gr Kf hR HKe
      refine hide ?_
      go_wp2_with fail
      refine (unhide HC).mono ?_
      rintro ee wg ⟨rfl, Kg⟩
      unfold sig0
      have HKg := hide ((unhide HKf).trans Kg)
      have Ga := heap_alloc_new wg (.cells #[.int .i64 0, .slice none 0 0, .slice none 0 0] 33)
      clear Kg HC HKf
      go_wp2_with (refine wpList_store_sig rfl (.tmp 12) (.tmp 98) rfl wg.heap.size rfl _ _ _ _ _ _ Ga rfl ⟨rfl, rfl, rfl⟩ ?_; intro wh Gh Kh; refine Hid.out ?_)
      have Kgh : Kp [] wg wh := ((Kp.refl [] wg).alloc (.cells #[.int .i64 0, .slice none 0 0, .slice none 0 0] 33)).then Kh (by simp)
      have HKh := hide ((unhide HKwr).trans ((unhide HKg).trans Kgh))
      have HC := hide (sknown_any wh ((unhide HG).kept (unhide HKh) (by simp)))
      clear Ga Kh Gh Kgh HKg
      refine hide ?_
      go_wp2_with fail
      refine (unhide HC).mono ?_
      rintro ee wi ⟨rfl, Ki⟩
      have HKi := hide ((unhide HKh).trans Ki)
      clear Ki HC
      go_wp2_with fail
      go_ret
      exact ⟨rfl, (unhide HKi).below (Nat.le_refl _) (by simp)⟩

set_option maxRecDepth 100000 in
theorem lifted (os : Os) (started : os.Started) (H : Type) (enc : TypeId × Value → H) :
    ReturnsInHanded {} Tryd.checked os 3 .any (fun w args => (Rows.signNumbersSpec.pre enc Tryd.prog Tryd.f3 [] false w args ∧ laidMetH Tryd.prog laid1 w) ∧ sizedMet enc Tryd.prog Tryd.f3 (OpenSpec.ofChange Rows.signNumbersSpec) false w args) (Rows.signNumbersSpec.post enc Tryd.prog Tryd.f3 false true false false) := by
  refine returnsInHanded_of_change_and (C := Tryd.checked) (X := fun w _ => laidMetH Tryd.prog laid1 w) (fun _ _ _ hh h => h.of_heap hh) own started (by kernel_rfl) Tryd.func3
    (ChangeSpec.witness_shaped (enc := enc) (C := Tryd.checked) (os := os) (X := fun w _ => laidMetH Tryd.prog laid1 w) false (World.doorLaid Tryd.prog 400 os) #[] 8 rfl (World.shaped_of_RefB (by kernel_rfl) (by kernel_rfl)) (by kernel_rfl) (by kernel_rfl) (by kernel_rfl) (door_met os _)) ?_
  intro W base args ds gs before hval0 hW hcnd hsz0 hL _
  have hG := gl_of_laid hL
  have hval : ∀ (j : Nat) t v, Tryd.f3.params[j]? = some t → args[j]? = some v → Value.okWide Tryd.prog W .any base t v := hval0
  have hW' := hW
  obtain ⟨p, q, hA0, hV, rfl, hfz, hnd⟩ := hW
  have hA : DataW.TrodAll enc Tryd.prog W 0 (fun _ => true) true Tryd.f3.params.toList args.toList ds p := hA0
  rw [Tryd.params3] at hA hval
  obtain ⟨hargs, rfl, rfl⟩ := trodAll_nil hA
  obtain rfl : args = #[] := by cases args; simp_all
  obtain ⟨rfl, rfl⟩ := trodVars_none hV
  clear hA0 hval0
  refine (walk  W hG).mono fun e W' ⟨he, bel⟩ => ?_
  subst he
  exact ⟨_, rfl, _, _, _, [], _, [], hW', trodAll_mk1 (shut_bool Tryd.underlying4 _), trodAll_mk0, rfl, bel.frame _, fun h => by cases h⟩

theorem over : Rows.signNumbersRow.holds Tryd.pinned (OpenSpec.ofChange Rows.signNumbersSpec) :=
  OpenClaim.holds_of_wide 3 Tryd.f3 rfl rfl rfl rfl rfl rfl rfl ⟨rfl, rfl, rfl, rfl, rfl⟩ rfl rfl rfl rfl rfl (by kernel_rfl) Tryd.func3 (by kernel_rfl)
    (of_decide_eq_true (by kernel_rfl)) (by unfold Func.isWrapper; first | (rw [if_pos (by decide +kernel)]; kernel_rfl) | (rw [if_neg (by decide +kernel)]; exact ⟨rfl, rfl⟩))
    (fun os started H enc _ => lifted os started H enc)
end Go.Proofs.YtdioaohejoflcaaDoor.signNumbers

namespace Go.Proofs.YtdioaohejoflcaaDoor
/-- The given statement: the tied card. -/
theorem SignNumbers_holds : Rows.SignNumbersCardSaid :=
  Claim7.holds_tied_plain_at .later [] [.data] true Rows.signNumbersCard.stood.harness false
    signNumbers.over (fun _ h => by cases h) (by kernel_rfl) (fun _ h => by cases h) signNumbers_row_tie rfl ⟨rfl, rfl⟩ (by kernel_rfl) rfl
    (fun f fn hf hfn => by
      obtain rfl : f = 3 := Option.some.inj ((show Tryd.prog.funcNamed "broadsheet/broadsheetlaw5.SignNumbers" = some 3 by kernel_rfl).symm.trans hf) |>.symm
      obtain rfl : fn = Tryd.f3 := (Option.some.inj (Tryd.func3.symm.trans hfn)).symm
      exact ⟨by kernel_rfl, fun j t ht => by
        rw [Tryd.params3] at ht
        have hm : t ∈ ([] : List TypeId) := by simpa using Array.mem_of_getElem? ht
        have hall : (([] : List TypeId).all fun u => !Tryd.prog.wantsStandIn u) = true := by kernel_rfl
        exact (show Tryd.prog.wantsStandIn t = false by simpa using List.all_eq_true.1 hall t hm)⟩)
    (by kernel_rfl)
#print axioms SignNumbers_holds
end Go.Proofs.YtdioaohejoflcaaDoor
