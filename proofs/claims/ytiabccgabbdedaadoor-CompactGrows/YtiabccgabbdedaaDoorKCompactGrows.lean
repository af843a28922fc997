/-
  The statement CompactGrowsCardSaid: for all items the law function CompactGrows returns true and leaves its argument as it was; the tables hash.roundWords, math/bits' deBruijn32tab and deBruijn64tab start as the program's text lays them (tied). No other condition.
-/
import Derived.Test.YtiabccgabbdedaaDoorKCGrow
import Derived.Test.YtiabccgabbdedaaDoorTie
import Derived.Test.YtiabccgabbdedaaDoorCards
import Derived.SevenTiedAt
namespace Go.Proofs.YtiabccgabbdedaaDoor.compactGrows
open Go.ChangeShapes Go.WideShapes Go.ChangeAt Go.RowKit
open Go.Proofs.YtiabccgabbdedaaDoor
set_option linter.unusedVariables false

set_option maxRecDepth 100000 in
set_option maxHeartbeats 4000000 in
theorem walk (v0 : Value) (l0 : List (Value × List Int)) (w : World) (hG : Gl w) (hL0 : Lists w v0 l0) :
    Calls Tryd.prog 4 #[v0] w fun e w' => e = .returned (.bool true) ∧ Below w.heap.size w w' := by
  have HG := hide hG
  have HB0 := hide hL0.bs
  have HC1 := hide (few_any v0 l0 40 40 w hL0 (by omega))
  obtain ⟨fs, hfs⟩ : ∃ fs, fs = (l0.take (min 40 l0.length)).map fun x => x.2.take 40 := ⟨_, rfl⟩
  have HFS := hide hfs
  have HFL : Hid (fs.length ≤ 40) := by rw [hfs]; exact hide (by simp; omega)
  have HFM : Hid (∀ x ∈ fs, x.length ≤ 1000) := by
    rw [hfs]
    intro x hx
    obtain ⟨y, _, rfl⟩ := List.mem_map.1 hx
    simp; omega
  obtain ⟨ls, hls⟩ : ∃ ls, ls = fs.map tleafP := ⟨_, rfl⟩
  have HLS := hide hls
  have hln : ls.length ≤ 40 := by rw [hls, List.length_map]; exact unhide HFL
  have HLM : Hid (∀ x ∈ ls, x.length ≤ 1000) := by
    rw [hls]
    intro x hx
    obtain ⟨y, _, rfl⟩ := List.mem_map.1 hx
    show (sha _).length ≤ 1000
    rw [sha_len]; omega
  clear hG hfs hls
  obtain ⟨al, cl, hv, _⟩ := hL0
  obtain ⟨nl, hnl⟩ : ∃ n, n = l0.length := ⟨_, rfl⟩
  rw [← hnl] at hv
  subst hv
  clear hnl
  go_enter Tryd.func4, Tryd.ntmps4
  go_wp2_with fail
  refine (unhide HC1).mono ?_
  rintro ee w1 ⟨o1, rfl, F1⟩
  have K1 : Kp [] w w1 := by obtain ⟨_, _, _, h, _⟩ := F1; exact h
  have M1 : LcM fs o1 w1 := by rw [unhide HFS]; exact F1.lc (unhide HB0) (by omega)
  obtain ⟨ao1, co1, hv1, -⟩ := M1.shape
  obtain ⟨no1, hno1⟩ : ∃ n, n = fs.length := ⟨_, rfl⟩
  rw [← hno1] at hv1
  subst hv1
  have HC2 := hide (rleaves_any _ fs w1 M1 (Nat.le_trans (unhide HFL) (by omega)) (unhide HFM))
  have HK1 := hide K1
  clear K1 M1 F1 hno1 HC1
  go_wp2_with fail
  refine (unhide HC2).mono ?_
  rintro ee w2 ⟨a2, m2, c2, rfl, A2⟩
  rw [← unhide HLS] at A2
  have hm2 := A2.cap
  have M2 : LcM ls (.slice a2 m2 c2) w2 := A2.lc (by omega)
  have HM2 := hide M2
  have HK2 := hide ((unhide HK1).trans A2.kp)
  have hG2 := (unhide HG).kept (unhide HK2) (by simp)
  have HG2 := hide hG2
  have HC3 := hide (gr_new w2 hG2.pos)
  obtain ⟨N, hN⟩ : ∃ N, N = ls.length := ⟨_, rfl⟩
  rw [← hN] at hm2 hln
  obtain rfl : N = m2 := hm2.symm
  have HN := hide hN
  clear A2 M2 HC2 hG2 hN HK1
  go_wp2_with fail
  refine (unhide HC3).mono ?_
  rintro ee w3 ⟨p, rfl, G3, K3, P1, P2⟩
  have HG3 := hide (G3 w3 (Kp.refl _ _))
  have HGL : Hid (Gl w3) := (unhide HG2).kept K3 (by simp)
  have HK3 := hide ((unhide HK2).trans K3)
  have HL3 : Hid (∀ wr, Kp [p] w3 wr → LcM ls (.slice a2 N c2) wr) := fun wr k => (unhide HM2).kept (K3.then k (fun i hi => .inr (by simp at hi; omega)))
  have HW3 : Hid (∀ wr, Kp [p] w3 wr → Kp [] w wr) := fun wr k => (unhide HK3).then k (fun i hi => .inr (by have := (unhide HK2).size; simp at hi; omega))
  clear HC3 G3 K3
  go_wp2_with fail
  go_loopw [5] (fun i wr => ∃ k : Nat, k ≤ N ∧ i = .int .i64 k ∧ Gr w3 (ls.take k) p wr) (fun i _ => N - (intOf i).toNat)
  case atStart => exact ⟨0, by omega, rfl, by simpa using unhide HG3⟩
  case round =>
    clear HG3
    obtain ⟨k, hk, rfl, hGr⟩ := hrel
    have hLr := unhide HL3 wr hGr.kp
    by_cases hlt : k < N
    · have hlt2 : (k : Int) < (N : Int) := by omega
      have hkl : k < ls.length := by have := unhide HN; omega
      have hx := List.getElem?_eq_getElem hkl
      have hxl := unhide HLM _ (List.getElem_mem hkl)
      have HT := hide (List.take_succ_eq_append_getElem hkl)
      obtain ⟨x, hxx⟩ : ∃ x, x = ls[k] := ⟨_, rfl⟩
      rw [← hxx] at hx hxl HT
      have htl : (ls.take k).length = k := by rw [List.length_take]; omega
      have htk : ∀ x ∈ ls.take k, x.length ≤ 1000 := fun x hx => unhide HLM x (List.mem_of_mem_take hx)
      have htk2 : ∀ x ∈ ls.take (k + 1), x.length ≤ 1000 := fun x hx => unhide HLM x (List.mem_of_mem_take hx)
      obtain ⟨-, b, off, u, rfl, hc, hS, hB⟩ := hLr.at k x hx
      have HC := hide (gr_append w3 (ls.take k) p u x wr hGr hS hB hxl (by omega) htk (unhide HGL))
      rw [← unhide HT] at HC
      obtain ⟨ax, cx, hux, -⟩ := hS
      obtain ⟨nx, hnx⟩ : ∃ nx, nx = x.length := ⟨_, rfl⟩
      rw [← hnx] at hux
      subst hux
      have hcap : N ≤ c2 := by
        obtain ⟨a', c', e', h1', -⟩ := hLr.shape
        injection e' with _ e2 e3
        have := unhide HN
        omega
      have HTL : Hid ((ls.take (k + 1)).length ≤ 1000) := hide (by rw [List.length_take]; omega)
      have HTK2 := hide htk2
      clear hGr hLr hkl hx hB hnx htl htk htk2 hxx hxl
      go_wp2_with fail
      refine (unhide HC).mono ?_
      rintro e w5 ⟨rfl, G5⟩
      have hh := run_lhead (some ⟨b, off, none⟩) N c2 (k + 1) w5 (by omega)
      have L5 := unhide HL3 w5 G5.kp
      have HC5 := hide (gr_same w3 (ls.take (k + 1)) p _ w5 G5 (L5.take (k + 1) (by have := unhide HN; omega)) (unhide HTL) (unhide HTK2) (unhide HGL))
      have HG5 := hide G5
      rw [show ((k + 1 : Nat) : Int) = (k : Int) + 1 by omega] at hh
      clear HC G5 hc L5
      go_wp2_with fail
      refine (unhide HC5).mono ?_
      rintro e w6 ⟨rfl, K6⟩
      have HG6 := hide ((unhide HG5).mid K6)
      clear HC5 HG5 K6 hh
      go_wp2_with fail
      go_roundw
      case rel => exact ⟨k + 1, by omega, by go_num, unhide HG6⟩
      case measure => simp [intOf]; omega
    · obtain rfl : N = k := by omega
      have HC := hide (known_any wr (hGr.gl (unhide HGL)))
      have HKW := hide (unhide HW3 wr hGr.kp)
      clear hLr hGr hlt hk
      go_wp2_with fail
      refine (unhide HC).mono ?_
      rintro e w6 ⟨rfl, K6⟩
      have HK6 := hide ((unhide HKW).trans K6)
      clear HC K6
      go_wp2_with fail
      go_ret
      exact ⟨rfl, (unhide HK6).below (Nat.le_refl _) (by simp)⟩
set_option maxRecDepth 100000 in
theorem lifted (os : Os) (started : os.Started) (H : Type) (enc : TypeId × Value → H) :
    ReturnsInHanded {} Tryd.checked os 4 .any (fun w args => (Rows.compactGrowsSpec.pre enc Tryd.prog Tryd.f4 [] false w args ∧ laidMetH Tryd.prog laid1 w) ∧ sizedMet enc Tryd.prog Tryd.f4 (OpenSpec.ofChange Rows.compactGrowsSpec) false w args) (Rows.compactGrowsSpec.post enc Tryd.prog Tryd.f4 false true false false) := by
  refine returnsInHanded_of_change_and (C := Tryd.checked) (X := fun w _ => laidMetH Tryd.prog laid1 w) (fun _ _ _ hh h => h.of_heap hh) own started (by kernel_rfl) Tryd.func4
    (ChangeSpec.witness_shaped (enc := enc) (C := Tryd.checked) (os := os) (X := fun w _ => laidMetH Tryd.prog laid1 w) false (World.doorLaid Tryd.prog 400 os) #[.slice none 0 0] 8 rfl (World.shaped_of_RefB (by kernel_rfl) (by kernel_rfl)) (by kernel_rfl) (by kernel_rfl) (by kernel_rfl) (door_met os _)) ?_
  intro W base args ds gs before hval0 hW hcnd hsz0 hL _
  have hG := gl_of_laid hL
  have hval : ∀ (j : Nat) t v, Tryd.f4.params[j]? = some t → args[j]? = some v → Value.okWide Tryd.prog W .any base t v := hval0
  have hW' := hW
  obtain ⟨p, q, hA0, hV, rfl, hfz, hnd⟩ := hW
  have hA : DataW.TrodAll enc Tryd.prog W 0 (fun _ => true) true Tryd.f4.params.toList args.toList ds p := hA0
  rw [Tryd.params4] at hA hval
  obtain ⟨v0, vs0, d0, ds0, p0, q0, hargs, rfl, rfl, h0, r0⟩ := trodAll_cons hA
  obtain ⟨rfl, rfl, rfl⟩ := trodAll_nil r0
  obtain rfl : args = #[v0] := by cases args; simp_all
  obtain ⟨rfl, rfl⟩ := trodVars_none hV
  obtain ⟨a0, len0, cap0, rfl⟩ := okWide_slice Tryd.underlying24 (hval 0 24 v0 rfl rfl)
  have k0 := h0
  have lt0 : ∀ x ∈ p0, x.block < W.heap.size := by obtain ⟨m, hm⟩ := k0; exact DataW.trod_lt m _ _ _ hm
  obtain ⟨l0, s0⟩ : ∃ l, Lists W (.slice a0 len0 cap0) l := by
    obtain ⟨fuel, hf⟩ := h0
    exact lists_of_trod (by simpa [Value.cells] using hf)
  clear hA0 hval0
  refine (walk (.slice a0 len0 cap0) l0 W hG s0).mono fun e W' ⟨he, bel⟩ => ?_
  subst he
  exact ⟨_, rfl, _, _, _, [], _, [], hW', trodAll_mk1 (shut_bool Tryd.underlying4 _), (trodAll_cons_mk (Below.trod laidOut (by kernel_rfl) (of_decide_eq_true (by kernel_rfl)) k0 bel lt0) trodAll_mk0), rfl, bel.frame _, fun h => by cases h⟩

theorem over : Rows.compactGrowsRow.holds Tryd.pinned (OpenSpec.ofChange Rows.compactGrowsSpec) :=
  OpenClaim.holds_of_wide 4 Tryd.f4 rfl rfl rfl rfl rfl rfl rfl ⟨rfl, rfl, rfl, rfl, rfl⟩ rfl rfl rfl rfl rfl (by kernel_rfl) Tryd.func4 (by kernel_rfl)
    (of_decide_eq_true (by kernel_rfl)) (by unfold Func.isWrapper; first | (rw [if_pos (by decide +kernel)]; kernel_rfl) | (rw [if_neg (by decide +kernel)]; exact ⟨rfl, rfl⟩))
    (fun os started H enc _ => lifted os started H enc)
end Go.Proofs.YtiabccgabbdedaaDoor.compactGrows

namespace Go.Proofs.YtiabccgabbdedaaDoor
/-- The given statement: the tied card. -/
theorem CompactGrows_holds : Rows.CompactGrowsCardSaid :=
  Claim7.holds_tied_plain_at .later [] [.data, .data, .data] true Rows.compactGrowsCard.stood.harness false
    compactGrows.over (fun _ h => by cases h) (by kernel_rfl) (fun _ h => by cases h) compactGrows_row_tie rfl ⟨rfl, rfl⟩ (by kernel_rfl) rfl
    (fun f fn hf hfn => by
      obtain rfl : f = 4 := Option.some.inj ((show Tryd.prog.funcNamed "broadsheet/broadsheetlaw7.CompactGrows" = some 4 by kernel_rfl).symm.trans hf) |>.symm
      obtain rfl : fn = Tryd.f4 := (Option.some.inj (Tryd.func4.symm.trans hfn)).symm
      exact ⟨by kernel_rfl, fun j t ht => by
        rw [Tryd.params4] at ht
        have hm : t ∈ ([24] : List TypeId) := by simpa using Array.mem_of_getElem? ht
        have hall : (([24] : List TypeId).all fun u => !Tryd.prog.wantsStandIn u) = true := by kernel_rfl
        exact (show Tryd.prog.wantsStandIn t = false by simpa using List.all_eq_true.1 hall t hm)⟩)
    (by kernel_rfl)
#print axioms CompactGrows_holds
end Go.Proofs.YtiabccgabbdedaaDoor
