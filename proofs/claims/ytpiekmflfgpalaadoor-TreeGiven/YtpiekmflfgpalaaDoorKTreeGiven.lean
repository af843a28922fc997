/-
  The statement TreeGivenCardSaid: for all items the law function TreeGiven returns true and leaves its argument as it was; the table hash.roundWords starts as the program's text lays it (tied). No other condition.
-/
import Derived.Test.YtpiekmflfgpalaaDoorKTKnown
import Derived.Test.YtpiekmflfgpalaaDoorKTRef
import Derived.Test.YtpiekmflfgpalaaDoorKLSpot
import Derived.Test.YtpiekmflfgpalaaDoorTie
import Derived.Test.YtpiekmflfgpalaaDoorCards
import Derived.SevenTiedAt
namespace Go.Proofs.YtpiekmflfgpalaaDoor.treeGiven
open Go.ChangeShapes Go.WideShapes Go.ChangeAt Go.RowKit
open Go.Proofs.YtpiekmflfgpalaaDoor
set_option linter.unusedVariables false

set_option maxRecDepth 100000 in
set_option maxHeartbeats 1000000 in
theorem walk (v0 : Value) (l0 : List (Value × List Int)) (w : World) (hG : Gl w) (hL0 : Lists w v0 l0) :
    Calls Tryd.prog 6 #[v0] w fun e w' => e = .returned (.bool true) ∧ Below w.heap.size w w' := by
  have HG := hide hG
  have HL0 := hide hL0
  have HB0 := hide hL0.bs
  have HC1 := hide (few_any v0 l0 20 30 w hL0 (by omega))
  have HC3 := hide (fun w' (k : Kp [] w w') => few_any v0 l0 20 30 w' (hL0.kept k) (by omega))
  obtain ⟨fs, hfs⟩ : ∃ fs, fs = (l0.take (min 20 l0.length)).map fun x => x.2.take 30 := ⟨_, rfl⟩
  have HFS := hide hfs
  have HFL : Hid (fs.length ≤ 20) := by rw [hfs]; exact hide (by simp; omega)
  have HFM : Hid (∀ x ∈ fs, x.length ≤ 1000) := by
    rw [hfs]
    intro x hx
    obtain ⟨y, _, rfl⟩ := List.mem_map.1 hx
    simp; omega
  obtain ⟨ls, hls⟩ : ∃ ls, ls = fs.map tleafP := ⟨_, rfl⟩
  have HLS := hide hls
  have HLN : Hid (ls.length ≤ 20) := by rw [hls]; exact hide (by rw [List.length_map]; exact unhide HFL)
  have HLM : Hid (∀ x ∈ ls, x.length = 32) := by
    rw [hls]
    intro x hx
    obtain ⟨y, _, rfl⟩ := List.mem_map.1 hx
    exact sha_len _
  have HLM2 : Hid (∀ x ∈ ls, x.length ≤ 1000) := hide (fun x hx => by rw [unhide HLM x hx]; omega)
  obtain ⟨r, hr⟩ : ∃ r, r = trootP ls := ⟨_, rfl⟩
  have HR := hide hr
  have HRL : Hid (r.length = 32) := by rw [hr]; exact trootP_len _ (unhide HLM)
  obtain ⟨S, hS⟩ : ∃ S, S = strOfNums r := ⟨_, rfl⟩
  have HS := hide hS
  have hsz : S.size = 32 := by rw [hS]; exact (strOfNums_size r).trans (unhide HRL)
  clear hG hfs hls hr hS
  obtain ⟨al, cl, hv, _⟩ := hL0
  obtain ⟨nl, hnl⟩ : ∃ n, n = l0.length := ⟨_, rfl⟩
  rw [← hnl] at hv
  subst hv
  clear hnl
  go_enter Tryd.func6, Tryd.ntmps6
  go_wp2_with fail
  refine (unhide HC1).mono ?_
  rintro ee w1 ⟨o1, rfl, F1⟩
  have K1 : Kp [] w w1 := by obtain ⟨_, _, _, h, _⟩ := F1; exact h
  have M1 : LcM fs o1 w1 := by rw [unhide HFS]; exact F1.lc (unhide HB0) (by omega)
  obtain ⟨ao1, co1, hv1, -⟩ := M1.shape
  obtain ⟨no1, hno1⟩ : ∃ n, n = fs.length := ⟨_, rfl⟩
  rw [← hno1] at hv1
  subst hv1
  have HC2 := hide (rleaves_any _ fs w1 M1 (Nat.le_trans (unhide HFL) (by omega)) (unhide HFM))
  have HK1 := hide K1
  clear K1 M1 F1 hno1 HC1
  go_wp2_with fail
  refine (unhide HC2).mono ?_
  rintro ee w2 ⟨a2, m2, c2, rfl, A2⟩
  rw [← unhide HLS] at A2
  have HM2 : Hid (LcM ls (.slice a2 m2 c2) w2) := A2.lc (Nat.le_trans (unhide HLN) (by omega))
  have HK2 := hide ((unhide HK1).trans A2.kp)
  clear A2 HC2
  go_wp2_with fail
  refine (unhide HC3 w2 (unhide HK2)).mono ?_
  rintro ee w3 ⟨o3, rfl, F3⟩
  have K3 : Kp [] w2 w3 := by obtain ⟨_, _, _, h, _⟩ := F3; exact h
  have M3 : LcM fs o3 w3 := by rw [unhide HFS]; exact F3.lc (unhide HB0) (by omega)
  obtain ⟨ao3, co3, hv3, -⟩ := M3.shape
  obtain ⟨no3, hno3⟩ : ∃ n, n = fs.length := ⟨_, rfl⟩
  rw [← hno3] at hv3
  subst hv3
  have HC4 := hide (rleaves_any _ fs w3 M3 (Nat.le_trans (unhide HFL) (by omega)) (unhide HFM))
  have HK3 := hide K3
  clear K3 M3 F3 hno3 HC3
  go_wp2_with fail
  refine (unhide HC4).mono ?_
  rintro ee w4 ⟨a4, m4, c4, rfl, A4⟩
  rw [← unhide HLS] at A4
  have HM4 : Hid (LcM ls (.slice a4 m4 c4) w4) := A4.lc (Nat.le_trans (unhide HLN) (by omega))
  have HK24 := hide ((unhide HK3).trans A4.kp)
  have HK4 := hide ((unhide HK2).trans (unhide HK24))
  have HM24 : Hid (LcM ls (.slice a2 m2 c2) w4) := (unhide HM2).kept (unhide HK24)
  have HC5 := hide (troot_any ls.length _ ls r w4 (unhide HR) rfl (Nat.le_trans (unhide HLN) (by omega)) (unhide HM24) (unhide HLM2) ((unhide HG).kept (unhide HK4) (by simp)))
  clear A4 HC4
  go_wp2_with fail
  refine (unhide HC5).mono ?_
  rintro ee w5 ⟨a5, m5, c5, rfl, R5, K5⟩
  have hm5 : m5 = 32 := by rw [R5.len, unhide HRL]
  subst hm5
  have hcv := R5.sl.conv (P := Tryd.prog) 24 9 5 Tryd.underlying24 Tryd.underlying5 Tryd.underlying9
  rw [← unhide HS] at hcv
  have HR5 := hide R5
  have HK5 := hide K5
  clear R5 K5 HC5
  go_wp2_with fail
  clear hcv
  go_loopw [7] (fun i wr => ∃ (k : Nat) (bs : List Int), k ≤ 32 ∧ i = .int .i64 k ∧ bs.length = 32 ∧ Row wr w4.heap.size (.slice a5 32 c5) bs ∧ Kp [] w4 wr) (fun i _ => 32 - (intOf i).toNat)
  case atStart => exact ⟨0, r, by omega, rfl, unhide HRL, unhide HR5, unhide HK5⟩
  case round =>
    obtain ⟨k, bs, hk, rfl, hbl, Rr, Kr⟩ := hrel
    by_cases hlt : k < 32
    · have hlt2 : (k : Int) < 32 := by omega
      obtain ⟨g, rfl, hg1, hg2, hcell, hfr, hset⟩ := Rr.spot (by omega)
      have hc := hcell k (by omega)
      have hf := hfr k
      obtain ⟨y, hy⟩ : ∃ y, y = bs[k]'(by omega) := ⟨_, rfl⟩
      rw [← hy] at hc
      have HST := hide (fun x => hset k x)
      have HKr := hide Kr
      have HBL := hide hbl
      clear hcell hfr hset Rr Kr hbl hy HR5 HK5
      go_wp2_with fail
      go_roundw
      case rel => exact ⟨k + 1, _, by omega, by go_num, (by rw [List.length_set]; exact unhide HBL), unhide HST _, (unhide HKr).setCell (p := ⟨g, k, none⟩) (.inr hg1) _⟩
      case measure => simp [intOf]; omega
    · obtain rfl : k = 32 := by omega
      have HKr := hide Kr
      have HC6 := hide (troot_any ls.length _ ls r wr (unhide HR) rfl (Nat.le_trans (unhide HLN) (by omega)) ((unhide HM24).kept Kr) (unhide HLM2) ((unhide HG).kept ((unhide HK4).trans Kr) (by simp)))
      clear Rr Kr hbl HR5 HK5
      go_wp2_with fail
      refine (unhide HC6).mono ?_
      rintro ee w6 ⟨a6, m6, c6, rfl, R6, K6⟩
      have hcv := R6.sl.conv (P := Tryd.prog) 24 9 5 Tryd.underlying24 Tryd.underlying5 Tryd.underlying9
      rw [← unhide HS] at hcv
      have HK46 := hide ((unhide HKr).trans K6)
      have HC7 := hide (lists_lsm ((unhide HM24).kept (unhide HK46)).lsm ((unhide HM4).kept (unhide HK46)).lsm)
      clear R6 K6 HC6
      go_wp2_with fail
      refine (unhide HC7).mono ?_
      rintro ee w7 ⟨rfl, K7⟩
      have HK47 := hide ((unhide HK46).trans K7)
      have HC8 := hide (tknown_any w7 ((unhide HG).kept ((unhide HK4).trans (unhide HK47)) (by simp)))
      clear K7 HC7 hcv
      go_wp2_with fail
      refine (unhide HC8).mono ?_
      rintro ee w8 ⟨rfl, K8⟩
      have HK8 := hide (((unhide HK4).trans (unhide HK47)).trans K8)
      clear K8 HC8
      go_wp2_with fail
      go_ret
      exact ⟨rfl, (unhide HK8).below (Nat.le_refl _) (by simp)⟩

set_option maxRecDepth 100000 in
theorem lifted (os : Os) (started : os.Started) (H : Type) (enc : TypeId × Value → H) :
    ReturnsInHanded {} Tryd.checked os 6 .any (fun w args => (Rows.treeGivenSpec.pre enc Tryd.prog Tryd.f6 [] false w args ∧ laidMetH Tryd.prog laid1 w) ∧ sizedMet enc Tryd.prog Tryd.f6 (OpenSpec.ofChange Rows.treeGivenSpec) false w args) (Rows.treeGivenSpec.post enc Tryd.prog Tryd.f6 false true false false) := by
  refine returnsInHanded_of_change_and (C := Tryd.checked) (X := fun w _ => laidMetH Tryd.prog laid1 w) (fun _ _ _ hh h => h.of_heap hh) own started (by kernel_rfl) Tryd.func6
    (ChangeSpec.witness_shaped (enc := enc) (C := Tryd.checked) (os := os) (X := fun w _ => laidMetH Tryd.prog laid1 w) false (World.doorLaid Tryd.prog 400 os) #[.slice none 0 0] 8 rfl (World.shaped_of_RefB (by kernel_rfl) (by kernel_rfl)) (by kernel_rfl) (by kernel_rfl) (by kernel_rfl) (door_met os _)) ?_
  intro W base args ds gs before hval0 hW hcnd hsz0 hL _
  have hG := gl_of_laid hL
  have hval : ∀ (j : Nat) t v, Tryd.f6.params[j]? = some t → args[j]? = some v → Value.okWide Tryd.prog W .any base t v := hval0
  have hW' := hW
  obtain ⟨p, q, hA0, hV, rfl, hfz, hnd⟩ := hW
  have hA : DataW.TrodAll enc Tryd.prog W 0 (fun _ => true) true Tryd.f6.params.toList args.toList ds p := hA0
  rw [Tryd.params6] at hA hval
  obtain ⟨v0, vs0, d0, ds0, p0, q0, hargs, rfl, rfl, h0, r0⟩ := trodAll_cons hA
  obtain ⟨rfl, rfl, rfl⟩ := trodAll_nil r0
  obtain rfl : args = #[v0] := by cases args; simp_all
  obtain ⟨rfl, rfl⟩ := trodVars_none hV
  obtain ⟨a0, len0, cap0, rfl⟩ := okWide_slice Tryd.underlying22 (hval 0 22 v0 rfl rfl)
  have k0 := h0
  have lt0 : ∀ x ∈ p0, x.block < W.heap.size := by obtain ⟨m, hm⟩ := k0; exact DataW.trod_lt m _ _ _ hm
  obtain ⟨l0, s0⟩ : ∃ l, Lists W (.slice a0 len0 cap0) l := by
    obtain ⟨fuel, hf⟩ := h0
    exact lists_of_trod (by simpa [Value.cells] using hf)
  clear hA0 hval0
  refine (walk (.slice a0 len0 cap0) l0 W hG s0).mono fun e W' ⟨he, bel⟩ => ?_
  subst he
  exact ⟨_, rfl, _, _, _, [], _, [], hW', trodAll_mk1 (shut_bool Tryd.underlying4 _), (trodAll_cons_mk (Below.trod laidOut (by kernel_rfl) (of_decide_eq_true (by kernel_rfl)) k0 bel lt0) trodAll_mk0), rfl, bel.frame _, fun h => by cases h⟩

theorem over : Rows.treeGivenRow.holds Tryd.pinned (OpenSpec.ofChange Rows.treeGivenSpec) :=
  OpenClaim.holds_of_wide 6 Tryd.f6 rfl rfl rfl rfl rfl rfl rfl ⟨rfl, rfl, rfl, rfl, rfl⟩ rfl rfl rfl rfl rfl (by kernel_rfl) Tryd.func6 (by kernel_rfl)
    (of_decide_eq_true (by kernel_rfl)) (by unfold Func.isWrapper; first | (rw [if_pos (by decide +kernel)]; kernel_rfl) | (rw [if_neg (by decide +kernel)]; exact ⟨rfl, rfl⟩))
    (fun os started H enc _ => lifted os started H enc)
end Go.Proofs.YtpiekmflfgpalaaDoor.treeGiven

namespace Go.Proofs.YtpiekmflfgpalaaDoor
/-- The given statement: the tied card. -/
theorem TreeGiven_holds : Rows.TreeGivenCardSaid :=
  Claim7.holds_tied_plain_at .later [] [.data] true Rows.treeGivenCard.stood.harness false
    treeGiven.over (fun _ h => by cases h) (by kernel_rfl) (fun _ h => by cases h) treeGiven_row_tie rfl ⟨rfl, rfl⟩ (by kernel_rfl) rfl
    (fun f fn hf hfn => by
      obtain rfl : f = 6 := Option.some.inj ((show Tryd.prog.funcNamed "broadsheet/broadsheetlaw6.TreeGiven" = some 6 by kernel_rfl).symm.trans hf) |>.symm
      obtain rfl : fn = Tryd.f6 := (Option.some.inj (Tryd.func6.symm.trans hfn)).symm
      exact ⟨by kernel_rfl, fun j t ht => by
        rw [Tryd.params6] at ht
        have hm : t ∈ ([22] : List TypeId) := by simpa using Array.mem_of_getElem? ht
        have hall : (([22] : List TypeId).all fun u => !Tryd.prog.wantsStandIn u) = true := by kernel_rfl
        exact (show Tryd.prog.wantsStandIn t = false by simpa using List.all_eq_true.1 hall t hm)⟩)
    (by kernel_rfl)
#print axioms TreeGiven_holds
end Go.Proofs.YtpiekmflfgpalaaDoor
