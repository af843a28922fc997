/-
  The statement CompactNumbersCardSaid: the law function CompactNumbers returns true; the tables hash.roundWords, math/bits' deBruijn32tab and deBruijn64tab start as the program's text lays them (tied). No other condition.
-/
import Derived.Test.YtiabccgabbdedaaDoorKCGrow
import Derived.Test.YtiabccgabbdedaaDoorTie
import Derived.Test.YtiabccgabbdedaaDoorCards
import Derived.SevenTiedAt
namespace Go.Proofs.YtiabccgabbdedaaDoor.compactNumbers
open Go.ChangeShapes Go.WideShapes Go.ChangeAt Go.RowKit
open Go.Proofs.YtiabccgabbdedaaDoor
set_option linter.unusedVariables false

theorem made31 : (madeCells (Value.int .u8 0).cells (31 * 1)).toList = (List.replicate 31 (0 : Int)).map (Value.int .u8) := by
  rw [List.map_replicate]
  exact toList_madeCells_one (.int .u8 0) 31
theorem lcm1 {w : World} {v : Value} {bs : List Int} (h : Sl w v bs) (hB : Bs bs) : LcM [bs] (.slice (some ⟨w.heap.size, 0, none⟩) 1 1) (w.alloc (.cells #[v] 28)) :=
  ⟨[(v, bs)], ⟨lists1 h hB, some ⟨w.heap.size, 0, none⟩, 1, rfl, by simp, by simp [maxLen], fun h => by cases h⟩, rfl⟩
theorem bs31 : Bs (List.replicate 31 (0 : Int)) := fun b hb => by rw [List.eq_of_mem_replicate hb]; omega

set_option maxRecDepth 100000 in
set_option maxHeartbeats 4000000 in
theorem walk (w : World) (hG : Gl w) :
    Calls Tryd.prog 3 #[] w fun e w' => e = .returned (.bool true) ∧ Below w.heap.size w w' := by
  obtain ⟨i0, hi0, hz0, hz1, hz2⟩ := info_parts Tryd.info5
  have HG := hide hG
  have hgn := hG.pos
  clear hG
  go_enter Tryd.func3, Tryd.ntmps3
  go_wp2_with (first
    | (go_at_call 9; refine (gr_new w hgn).mono ?_; rintro e w1 ⟨p, rfl, G1, K1, P1, P2⟩; have HG1 := hide G1; have HK1 := hide K1; clear G1 K1)
    | (go_at_call 10; refine (kleaves_any 70 w1 (by omega)).mono ?_; rintro e w2 ⟨al, ml, cl, rfl, A2⟩))
  obtain rfl : ml = 70 := A2.cap.trans (kleavesP_len 70)
  have HG2 := hide (unhide HG1 w2 A2.kp)
  have HGL : Hid (Gl w2) := (unhide HG).kept ((unhide HK1).trans A2.kp) (by simp)
  have HK2 := hide ((unhide HK1).trans A2.kp)
  have HA := hide A2
  clear A2 HG1 HK1
  go_loopw [3] (fun i wr => ∃ k : Nat, k ≤ 70 ∧ i = .int .i64 k ∧ Gr w2 ((kleavesP 70).take k) p wr) (fun i _ => 70 - (intOf i).toNat)
  case atStart => exact ⟨0, by omega, rfl, by simpa using unhide HG2⟩
  case round =>
    clear HG2
    obtain ⟨k, hk, rfl, hGr⟩ := hrel
    have hLr := (unhide HA).keptP P2 hGr.kp (by rw [kleavesP_len]; omega)
    obtain ⟨aL, cL, eL, hL1, hL2, hL3⟩ := hLr.shape
    rw [kleavesP_len] at eL hL1
    injection eL with e1 e2 e3
    subst e1
    subst e3
    have hlen := kleavesP_len 70
    have htk : ∀ j, ∀ x ∈ (kleavesP 70).take j, x.length ≤ 1000 := fun j x hx => kleavesP_le 70 x (List.mem_of_mem_take hx)
    by_cases hlt : k < 70
    · have hlt2 : (k : Int) < 70 := by omega
      have hkl : k < (kleavesP 70).length := by rw [hlen]; exact hlt
      have hh := run_lhead al 70 cl k wr (by omega)
      have HC := hide (gr_same w2 ((kleavesP 70).take k) p _ wr hGr (hLr.take k (by omega)) (by rw [List.length_take]; omega) (htk k) (unhide HGL))
      have hx := List.getElem?_eq_getElem hkl
      have HT := hide (List.take_succ_eq_append_getElem hkl)
      have hxl := kleavesP_le 70 _ (List.getElem_mem hkl)
      obtain ⟨x, hxx⟩ : ∃ x, x = (kleavesP 70)[k] := ⟨_, rfl⟩
      rw [← hxx] at hx hxl HT
      have HX : Hid (∀ w5, Kp [] wr w5 → LcM (kleavesP 70) (.slice al 70 cl) w5) := fun w5 k5 => hLr.kept k5
      have HGr := hide hGr
      have HTK := hide (htk k)
      have HTL : Hid (((kleavesP 70).take k).length + 1 ≤ 1000) := hide (by rw [List.length_take]; omega)
      have HHX := hide hx
      clear hGr hLr hkl hxx htk hlen hx hL1 hL2 hL3 e2
      go_wp2_with fail
      refine (unhide HC).mono ?_
      rintro e w5 ⟨rfl, K5⟩
      obtain ⟨-, b, off, u, rfl, hc, hS, hB⟩ := (unhide HX w5 K5).at k x (unhide HHX)
      have HC5 := hide (gr_append w2 ((kleavesP 70).take k) p u x w5 ((unhide HGr).mid K5) hS hB hxl (unhide HTL) (unhide HTK) (unhide HGL))
      rw [← unhide HT] at HC5
      obtain ⟨ax, cx, hux, -⟩ := hS
      obtain ⟨nx, hnx⟩ : ∃ nx, nx = x.length := ⟨_, rfl⟩
      rw [← hnx] at hux
      subst hux
      clear HC K5 hB hnx hh HX HGr HTK HTL HHX
      go_wp2_with fail
      refine (unhide HC5).mono ?_
      rintro e w6 ⟨rfl, G6⟩
      have HG6 := hide G6
      clear HC5 G6 hc
      go_wp2_with fail
      go_roundw
      case rel => exact ⟨k + 1, by omega, by go_num, unhide HG6⟩
      case measure => simp [intOf]; omega
    · obtain rfl : k = 70 := by omega
      have HF1 := hide (from_neg (-1) (.slice none 0 0) [] wr (lcm_nil wr) (by omega))
      have hh := fun W => run_lhead al 70 cl 1 W (by omega)
      have HT1 : Hid (∀ W, Kp [] wr W → LcM ((kleavesP 70).take 1) (.slice al 1 cl) W) := fun W kW => (hLr.kept kW).take 1 (by omega)
      have HT1L : Hid (((kleavesP 70).take 1).length = 1) := hide (by rw [List.length_take]; omega)
      have HGW : Hid (Gl wr) := hGr.gl (unhide HGL)
      have HKW : Hid (Kp [] w wr) := (unhide HK2).then hGr.kp (fun i hi => .inr (by simp at hi; omega))
      clear hGr hLr htk hlen hL1 hL2 hL3 e2 HA HGL HK2
      go_wp2_with fail
      refine (unhide HF1).mono ?_
      rintro e w5 ⟨rfl, hw⟩
      subst w5
      clear HF1
      go_wp2_with (at_make; refine wpList_make_full _ rfl _ _ 28 rfl wr.heap.size 5 i0 (.int .u8 0) 1 Tryd.underlying28 hi0 hz0 hz1 .i64 .i64 _ _ 31 rfl rfl (by omega) (by omega) (by rw [hz2]; omega) (by unfold maxLen; omega) (Nat.le_refl _) ?_; intro w6 o6 g6; refine Hid.out ?_)
      rw [made31] at o6
      have K6 : Kp [] wr w6 := (Kp.refl [] wr).grown g6 (by intro k hk; cases hk)
      have R6 : Row w6 wr.heap.size (.slice (some ⟨wr.heap.size, 0, none⟩) 31 31) (List.replicate 31 0) := o6
      have HF2 := hide (from_not 1 (by omega) _ _ _ (lcm1 R6.sl bs31) (by intro ⟨_, h⟩; have := all32_iff.1 h _ (List.mem_singleton.2 rfl); simp at this))
      have HK6 := hide (K6.alloc (.cells #[.slice (some ⟨wr.heap.size, 0, none⟩) 31 31] 28))
      clear o6 g6 R6 K6
      refine hide ?_
      go_wp2_with fail
      refine (unhide HF2).mono ?_
      rintro e w7 ⟨rfl, hw⟩
      subst w7
      clear HF2
      obtain ⟨w7, hw7⟩ : ∃ w7, w7 = w6.alloc (.cells #[.slice (some ⟨wr.heap.size, 0, none⟩) 31 31] 28) := ⟨_, rfl⟩
      rw [← hw7] at HK6 ⊢
      clear hw7
      have hh7 := hh w7
      rw [show ((1 : Nat) : Int) = 1 from rfl] at hh7
      have HF3 := hide (from_not 0 (by omega) _ _ w7 (unhide HT1 w7 (unhide HK6)) (by intro ⟨h, _⟩; rw [onesP_zero] at h; have := unhide HT1L; omega))
      have HG7 : Hid (Gl w7) := (unhide HGW).kept (unhide HK6) (by simp)
      have HF4 := hide (from_ok 0 (by omega) (.slice none 0 0) [] w7 (lcm_nil w7) (by rw [onesP_zero]; rfl) rfl (by simp) (unhide HG7).pos)
      clear hh HT1 HT1L
      go_wp2_with fail
      refine (unhide HF3).mono ?_
      rintro e w8 ⟨rfl, hw⟩
      subst w8
      clear HF3 hh7
      go_wp2_with fail
      refine (unhide HF4).mono ?_
      rintro e w8 ⟨rfl, ao8, m8, c8, l8, R8, e8, K8⟩
      obtain rfl : l8 = [] := by simpa using e8
      have HG8 := (unhide HG7).kept K8 (by simp)
      have HS8 := hide (same_any w7.heap.size _ w7.heap.size [] (.slice none 0 0) [] w8 R8 (cndP_nil 21).symm (lcm_nil w8) (by simp) (by simp) HG8)
      have HK8 := hide (((unhide HKW).trans (unhide HK6)).trans K8)
      have HGG := hide HG8
      clear HF4 R8 K8 e8 HG8 HKW HK6
      obtain ⟨q, hq⟩ : ∃ q, q = w7.heap.size := ⟨_, rfl⟩
      rw [← hq] at HS8 ⊢
      clear hq
      go_wp2_with (first
        | (go_at_call 11; refine (unhide HS8).mono ?_; rintro e w9 ⟨rfl, K9⟩; have HK9 := hide K9; clear K9)
        | (go_at_call 14; refine (known_any w9 ((unhide HGG).kept (unhide HK9) (by simp))).mono ?_; rintro e w10 ⟨rfl, K10⟩; have HK10 := hide K10; clear K10))
      go_ret
      exact ⟨rfl, (((unhide HK8).trans (unhide HK9)).trans (unhide HK10)).below (Nat.le_refl _) (by simp)⟩
set_option maxRecDepth 100000 in
theorem lifted (os : Os) (started : os.Started) (H : Type) (enc : TypeId × Value → H) :
    ReturnsInHanded {} Tryd.checked os 3 .any (fun w args => (Rows.compactNumbersSpec.pre enc Tryd.prog Tryd.f3 [] false w args ∧ laidMetH Tryd.prog laid1 w) ∧ sizedMet enc Tryd.prog Tryd.f3 (OpenSpec.ofChange Rows.compactNumbersSpec) false w args) (Rows.compactNumbersSpec.post enc Tryd.prog Tryd.f3 false true false false) := by
  refine returnsInHanded_of_change_and (C := Tryd.checked) (X := fun w _ => laidMetH Tryd.prog laid1 w) (fun _ _ _ hh h => h.of_heap hh) own started (by kernel_rfl) Tryd.func3
    (ChangeSpec.witness_shaped (enc := enc) (C := Tryd.checked) (os := os) (X := fun w _ => laidMetH Tryd.prog laid1 w) false (World.doorLaid Tryd.prog 400 os) #[] 8 rfl (World.shaped_of_RefB (by kernel_rfl) (by kernel_rfl)) (by kernel_rfl) (by kernel_rfl) (by kernel_rfl) (door_met os _)) ?_
  intro W base args ds gs before hval0 hW hcnd hsz0 hL _
  have hG := gl_of_laid hL
  have hval : ∀ (j : Nat) t v, Tryd.f3.params[j]? = some t → args[j]? = some v → Value.okWide Tryd.prog W .any base t v := hval0
  have hW' := hW
  obtain ⟨p, q, hA0, hV, rfl, hfz, hnd⟩ := hW
  have hA : DataW.TrodAll enc Tryd.prog W 0 (fun _ => true) true Tryd.f3.params.toList args.toList ds p := hA0
  rw [Tryd.params3] at hA hval
  obtain ⟨hargs, rfl, rfl⟩ := trodAll_nil hA
  obtain rfl : args = #[] := by cases args; simp_all
  obtain ⟨rfl, rfl⟩ := trodVars_none hV
  clear hA0 hval0
  refine (walk  W hG).mono fun e W' ⟨he, bel⟩ => ?_
  subst he
  exact ⟨_, rfl, _, _, _, [], _, [], hW', trodAll_mk1 (shut_bool Tryd.underlying4 _), trodAll_mk0, rfl, bel.frame _, fun h => by cases h⟩

theorem over : Rows.compactNumbersRow.holds Tryd.pinned (OpenSpec.ofChange Rows.compactNumbersSpec) :=
  OpenClaim.holds_of_wide 3 Tryd.f3 rfl rfl rfl rfl rfl rfl rfl ⟨rfl, rfl, rfl, rfl, rfl⟩ rfl rfl rfl rfl rfl (by kernel_rfl) Tryd.func3 (by kernel_rfl)
    (of_decide_eq_true (by kernel_rfl)) (by unfold Func.isWrapper; first | (rw [if_pos (by decide +kernel)]; kernel_rfl) | (rw [if_neg (by decide +kernel)]; exact ⟨rfl, rfl⟩))
    (fun os started H enc _ => lifted os started H enc)
end Go.Proofs.YtiabccgabbdedaaDoor.compactNumbers

namespace Go.Proofs.YtiabccgabbdedaaDoor
/-- The given statement: the tied card. -/
theorem CompactNumbers_holds : Rows.CompactNumbersCardSaid :=
  Claim7.holds_tied_plain_at .later [] [.data, .data, .data] true Rows.compactNumbersCard.stood.harness false
    compactNumbers.over (fun _ h => by cases h) (by kernel_rfl) (fun _ h => by cases h) compactNumbers_row_tie rfl ⟨rfl, rfl⟩ (by kernel_rfl) rfl
    (fun f fn hf hfn => by
      obtain rfl : f = 3 := Option.some.inj ((show Tryd.prog.funcNamed "broadsheet/broadsheetlaw7.CompactNumbers" = some 3 by kernel_rfl).symm.trans hf) |>.symm
      obtain rfl : fn = Tryd.f3 := (Option.some.inj (Tryd.func3.symm.trans hfn)).symm
      exact ⟨by kernel_rfl, fun j t ht => by
        rw [Tryd.params3] at ht
        have hm : t ∈ ([] : List TypeId) := by simpa using Array.mem_of_getElem? ht
        have hall : (([] : List TypeId).all fun u => !Tryd.prog.wantsStandIn u) = true := by kernel_rfl
        exact (show Tryd.prog.wantsStandIn t = false by simpa using List.all_eq_true.1 hall t hm)⟩)
    (by kernel_rfl)
#print axioms CompactNumbers_holds
end Go.Proofs.YtiabccgabbdedaaDoor
