/-
  The statement SignKeysCardSaid: for all numbers and messages the law function SignKeys returns true and leaves its arguments as they were; the table hash.roundWords starts as the program's text lays it (tied). No other condition.
-/
import Derived.Test.YtdioaohejoflcaaDoorKSKnown
import Derived.Test.YtdioaohejoflcaaDoorTie
import Derived.Test.YtdioaohejoflcaaDoorCards
import Derived.SevenTiedAt
namespace Go.Proofs.YtdioaohejoflcaaDoor.signKeys
open Go.ChangeShapes Go.WideShapes Go.ChangeAt Go.RowKit
open Go.Proofs.YtdioaohejoflcaaDoor
set_option linter.unusedVariables false

set_option maxRecDepth 100000 in
set_option maxHeartbeats 4000000 in
theorem walk (n : Int) (v1 : Value) (ms0 : List Int) (w : World) (hG : Gl w) (hn : -9223372036854775808 ≤ n ∧ n ≤ 9223372036854775807) (hm0 : Sl w v1 ms0) (hM0 : Bs ms0) :
    Calls Tryd.prog 7 #[.int .i64 n, v1] w fun e w' => e = .returned (.bool true) ∧ Below w.heap.size w w' := by
  have HG := hide hG
  obtain ⟨ms, hms⟩ : ∃ ms, ms = ms0.take 60 := ⟨_, rfl⟩
  have hml : ms.length ≤ 60 := by rw [hms]; simp; omega
  have HBm : Hid (Bs ms) := by rw [hms]; exact hM0.take _
  have HC := hide (seed_any n w hn)
  have HKC := hide (fun w' (k : Kp [] w w') => by have := cut_any v1 ms0 60 w' (hm0.kept k (by simp)); rw [← hms] at this; exact this)
  have HM0 := hide hm0
  have HMS := hide hms
  clear hG hm0 hM0 hn hms
  go_enter Tryd.func7, Tryd.ntmps7
  go_wp2_with fail
  refine (unhide HC).mono ?_
  rintro ee w1 ⟨a1, m1, c1, sd, rfl, R1, hsl, hsb, K1⟩
  have HS1 := hide R1.sl
  have HK1 := hide K1
  have HSB := hide hsb
  have HSL := hide hsl
  clear R1 K1 hsb hsl HC
  go_wp2_with fail
  refine (unhide HKC w1 (unhide HK1)).mono ?_
  rintro ee w2 ⟨am, cm, rfl, hT, hw⟩
  subst w2
  have HM1 : Hid (Sl w1 (.slice am ms.length cm) ms) := hT _ ((unhide HM0).kept (unhide HK1) (by simp))
  obtain ⟨mm, hmm⟩ : ∃ m, m = ms.length := ⟨_, rfl⟩
  rw [← hmm] at HM1 ⊢
  clear hT HKC HM0 HMS hmm
  obtain ⟨tp, htp⟩ : ∃ t, t = topP sd := ⟨_, rfl⟩
  have HTP := hide htp
  have HTO : Hid (tp.length = 32 ∧ Bs tp) := by rw [htp]; exact topP_ok sd
  have HC := hide (spublic_any (.slice a1 m1 c1) sd tp htp w1 (unhide HS1) (unhide HSB) (unhide HSL) ((unhide HG).kept (unhide HK1) (by simp)))
  clear htp
  go_wp2_with fail
  refine (unhide HC).mono ?_
  rintro ee w2 ⟨a2, m2, c2, rfl, S2, K2⟩
  have hm2 : m2 = 32 := by obtain ⟨_, _, e, _⟩ := S2; injection e with _ e; rw [e]; exact (unhide HTO).1
  subst hm2
  have HS2 := hide S2
  have HK2 := hide K2
  clear S2 K2 HC
  go_wp2_with fail
  go_loopw [7] (fun j wr => ∃ k : Nat, k ≤ 4 ∧ j = .int .i64 ((5 * k : Nat) : Int) ∧ Kp [] w2 wr) (fun j _ => 20 - (intOf j).toNat)
  case atStart => exact ⟨0, by omega, rfl, Kp.refl _ _⟩
  case round =>
    obtain ⟨k, hk, rfl, Kr⟩ := hrel
    have HKr := hide Kr
    have Kwr := ((unhide HK1).trans (unhide HK2)).trans Kr
    have HKw := hide Kwr
    clear Kr
    obtain ⟨i, hi⟩ : ∃ i, i = 5 * k := ⟨_, rfl⟩
    rw [← hi]
    have HI := hide hi
    by_cases hlt : k < 4
    · have hi16 : i < 16 := by omega
      have hlt2 : (i : Int) < 16 := by omega
      obtain ⟨d, hd⟩ : ∃ d, d = digP ms := ⟨_, rfl⟩
      have HD := hide hd
      have HC := hide (ssign_any (.slice a1 m1 c1) sd i (.slice am mm cm) ms d hd wr ((unhide HS1).kept ((unhide HK2).trans (unhide HKr)) (by simp)) (unhide HSB) (unhide HSL) hi16 ((unhide HM1).kept ((unhide HK2).trans (unhide HKr)) (by simp)) (unhide HBm) (by omega) ((unhide HG).kept (unhide HKw) (by simp)))
      clear hd hi Kwr
      go_wp2_with fail
      refine (unhide HC).mono ?_
      rintro ee w3 ⟨v3, rfl, V3, K3⟩
      obtain ⟨ap, np, cp, aq, nq, cq, lp, lq, hv3, hLP, hp, hLQ, hq, hnp, hnq⟩ := V3.shape
      subst hv3
      have hnp64 : np = 64 := by rw [hnp, sgnP, ptsP_len]
      have hnq4 : nq = 4 := by rw [hnq, pthP_len]
      subst hnp64
      subst hnq4
      have HV3 := hide V3
      have HK3 := hide K3
      have Ga := heap_alloc_new w3 (.cells #[.int .i64 0, .slice none 0 0, .slice none 0 0] 33)
      clear hLP hp hLQ hq hnp hnq V3 K3 HC
      go_wp2_with (refine wpList_store_sig rfl (.tmp 8) (.tmp 25) rfl w3.heap.size rfl _ _ _ _ _ _ Ga rfl ⟨rfl, rfl, rfl⟩ ?_; intro w4 G4 K4; refine Hid.out ?_)
      have Kb : Kp [] w3 w4 := ((Kp.refl [] w3).alloc (.cells #[.int .i64 0, .slice none 0 0, .slice none 0 0] 33)).then K4 (by simp)
      have e0 : w4.cell? ⟨w3.heap.size, 0, none⟩ = some (.int .i64 i) := by rw [cell_of_row w4 w3.heap.size 0 _ _ _ G4]; rfl
      have e1 : w4.cell? ⟨w3.heap.size, 1, none⟩ = some (.slice ap 64 cp) := by rw [cell_of_row w4 w3.heap.size 1 _ _ _ G4]; rfl
      have e2 : w4.cell? ⟨w3.heap.size, 2, none⟩ = some (.slice aq 4 cq) := by rw [cell_of_row w4 w3.heap.size 2 _ _ _ G4]; rfl
      have hl4 := load_sig w4 w3.heap.size _ _ _ (0, 0) G4
      have HG4 := hide G4
      have HK24 := hide ((unhide HKr).trans ((unhide HK3).trans Kb))
      have HVF : Hid (true = verP tp ms i (sgnP sd i d) (pthP sd i 4)) := by rw [unhide HTP, unhide HD]; exact (verP_sgn sd ms i hi16).symm
      have HVc := hide (sverify_any (.slice a2 32 c2) tp (.slice am mm cm) ms _ i _ _ true (unhide HVF) w4 ((unhide HS2).kept (unhide HK24) (by simp)) (unhide HTO).2 ((unhide HM1).kept ((unhide HK2).trans (unhide HK24)) (by simp)) (unhide HBm) (by omega) ((unhide HV3).kept Kb) ((unhide HG).kept (((unhide HK1).trans (unhide HK2)).trans (unhide HK24)) (by simp)))
      clear Ga K4 G4 Kb HV3
      refine hide ?_
      go_wp2_with (refine wpList_load_row rfl 33 (.tmp 8) rfl w3.heap.size rfl 33 _ (0, 0) _ (unhide HG4) Tryd.underlying33 rfl Tryd.sigSize ?_)
      refine (unhide HVc).mono ?_
      rintro ee w5 ⟨rfl, K5⟩
      have HK5 := hide ((unhide HK24).trans K5)
      clear K5 HVc e0 e1 e2 hl4 HG4
      go_wp2_with fail
      go_roundw
      case rel => exact ⟨k + 1, by omega, by have := unhide HI; go_num, unhide HK5⟩
      case measure => simp [intOf]; have := unhide HI; omega
    · have hlt2 : ¬ (i : Int) < 16 := by omega
      have HC := hide (sknown_any wr ((unhide HG).kept (unhide HKw) (by simp)))
      clear hi Kwr
      go_wp2_with fail
      refine (unhide HC).mono ?_
      rintro ee w5 ⟨rfl, K5⟩
      have HK5 := hide ((unhide HKw).trans K5)
      clear K5 HC
      go_wp2_with fail
      go_ret
      exact ⟨rfl, (unhide HK5).below (Nat.le_refl _) (by simp)⟩

set_option maxRecDepth 100000 in
theorem lifted (os : Os) (started : os.Started) (H : Type) (enc : TypeId × Value → H) :
    ReturnsInHanded {} Tryd.checked os 7 .any (fun w args => (Rows.signKeysSpec.pre enc Tryd.prog Tryd.f7 [] false w args ∧ laidMetH Tryd.prog laid1 w) ∧ sizedMet enc Tryd.prog Tryd.f7 (OpenSpec.ofChange Rows.signKeysSpec) false w args) (Rows.signKeysSpec.post enc Tryd.prog Tryd.f7 false true false false) := by
  refine returnsInHanded_of_change_and (C := Tryd.checked) (X := fun w _ => laidMetH Tryd.prog laid1 w) (fun _ _ _ hh h => h.of_heap hh) own started (by kernel_rfl) Tryd.func7
    (ChangeSpec.witness_shaped (enc := enc) (C := Tryd.checked) (os := os) (X := fun w _ => laidMetH Tryd.prog laid1 w) false (World.doorLaid Tryd.prog 400 os) #[.int .i64 0, .slice none 0 0] 8 rfl (World.shaped_of_RefB (by kernel_rfl) (by kernel_rfl)) (by kernel_rfl) (by kernel_rfl) (by kernel_rfl) (door_met os _)) ?_
  intro W base args ds gs before hval0 hW hcnd hsz0 hL _
  have hG := gl_of_laid hL
  have hval : ∀ (j : Nat) t v, Tryd.f7.params[j]? = some t → args[j]? = some v → Value.okWide Tryd.prog W .any base t v := hval0
  have hW' := hW
  obtain ⟨p, q, hA0, hV, rfl, hfz, hnd⟩ := hW
  have hA : DataW.TrodAll enc Tryd.prog W 0 (fun _ => true) true Tryd.f7.params.toList args.toList ds p := hA0
  rw [Tryd.params7] at hA hval
  obtain ⟨v0, vs0, d0, ds0, p0, q0, hargs, rfl, rfl, h0, r0⟩ := trodAll_cons hA
  obtain ⟨v1, vs1, d1, ds1, p1, q1, rfl, rfl, rfl, h1, r1⟩ := trodAll_cons r0
  obtain ⟨rfl, rfl, rfl⟩ := trodAll_nil r1
  obtain rfl : args = #[v0, v1] := by cases args; simp_all
  obtain ⟨rfl, rfl⟩ := trodVars_none hV
  obtain ⟨a0, rfl, rfl, rfl, w0⟩ := open_int Tryd.underlying3 (hval 0 3 v0 rfl rfl) h0
  obtain ⟨a1, len1, cap1, rfl⟩ := okWide_slice Tryd.underlying24 (hval 1 24 v1 rfl rfl)
  have k1 := h1
  have lt1 : ∀ x ∈ p1, x.block < W.heap.size := by obtain ⟨m, hm⟩ := k1; exact DataW.trod_lt m _ _ _ hm
  obtain ⟨l1, s1, b1⟩ : ∃ bs, Sl W (.slice a1 len1 cap1) bs ∧ Bs bs := by
    obtain ⟨fuel, hf⟩ := h1
    exact bytes_of_trod (by simpa [Value.cells] using hf)
  clear hA0 hval0
  refine (walk a0 (.slice a1 len1 cap1) l1 W hG (bounds_i64 w0) s1 b1).mono fun e W' ⟨he, bel⟩ => ?_
  subst he
  exact ⟨_, rfl, _, _, _, [], _, [], hW', trodAll_mk1 (shut_bool Tryd.underlying4 _), (trodAll_cons_mk (shut_int Tryd.underlying3 w0) (trodAll_cons_mk (Below.trod laidOut (by kernel_rfl) (of_decide_eq_true (by kernel_rfl)) k1 bel lt1) trodAll_mk0)), rfl, bel.frame _, fun h => by cases h⟩

theorem over : Rows.signKeysRow.holds Tryd.pinned (OpenSpec.ofChange Rows.signKeysSpec) :=
  OpenClaim.holds_of_wide 7 Tryd.f7 rfl rfl rfl rfl rfl rfl rfl ⟨rfl, rfl, rfl, rfl, rfl⟩ rfl rfl rfl rfl rfl (by kernel_rfl) Tryd.func7 (by kernel_rfl)
    (of_decide_eq_true (by kernel_rfl)) (by unfold Func.isWrapper; first | (rw [if_pos (by decide +kernel)]; kernel_rfl) | (rw [if_neg (by decide +kernel)]; exact ⟨rfl, rfl⟩))
    (fun os started H enc _ => lifted os started H enc)
end Go.Proofs.YtdioaohejoflcaaDoor.signKeys

namespace Go.Proofs.YtdioaohejoflcaaDoor
/-- The given statement: the tied card. -/
theorem SignKeys_holds : Rows.SignKeysCardSaid :=
  Claim7.holds_tied_plain_at .later [] [.data] true Rows.signKeysCard.stood.harness false
    signKeys.over (fun _ h => by cases h) (by kernel_rfl) (fun _ h => by cases h) signKeys_row_tie rfl ⟨rfl, rfl⟩ (by kernel_rfl) rfl
    (fun f fn hf hfn => by
      obtain rfl : f = 7 := Option.some.inj ((show Tryd.prog.funcNamed "broadsheet/broadsheetlaw5.SignKeys" = some 7 by kernel_rfl).symm.trans hf) |>.symm
      obtain rfl : fn = Tryd.f7 := (Option.some.inj (Tryd.func7.symm.trans hfn)).symm
      exact ⟨by kernel_rfl, fun j t ht => by
        rw [Tryd.params7] at ht
        have hm : t ∈ ([3, 24] : List TypeId) := by simpa using Array.mem_of_getElem? ht
        have hall : (([3, 24] : List TypeId).all fun u => !Tryd.prog.wantsStandIn u) = true := by kernel_rfl
        exact (show Tryd.prog.wantsStandIn t = false by simpa using List.all_eq_true.1 hall t hm)⟩)
    (by kernel_rfl)
#print axioms SignKeys_holds
end Go.Proofs.YtdioaohejoflcaaDoor
