/-
  The contract of the law package's helper 'known': it answers true and changes nothing that was there.
-/
import Derived.Test.YtioflclfgkcpfaaDoorKMKeeps
import Derived.Test.YtioflclfgkcpfaaDoorKMCode
namespace Go.Proofs.YtioflclfgkcpfaaDoor
open Go.RowKit
open Go.Proofs

/-- a manifest that is stored into a new place. -/
theorem mv_at {w w' : World} {g : Nat} {v : Value} {m : Mf} {o : Obj} (h : MV w v m) (hg : g = w.heap.size) (K : Kp [g] (w.alloc o) w') : MV w' v m := by
  obtain ⟨af, nf, cf, an, nn, cn, e, h1, h2, h3⟩ := h
  have K1 : Kp [] w w' := ((Kp.refl [] w).alloc o).then K (fun i hi => .inr (by simp at hi; omega))
  exact ⟨af, nf, cf, an, nn, cn, e, h1.kept K1 (by simp), h2.kept K1 (by simp), h3⟩
theorem kp_at {w w' : World} {g : Nat} {o : Obj} (hg : g = w.heap.size) (K : Kp [g] (w.alloc o) w') : Kp [] w w' :=
  ((Kp.refl [] w).alloc o).then K (fun i hi => .inr (by simp at hi; omega))
theorem mk012_s : (mkM 0 1 2).s = ⟨#[112, 117, 109, 112]⟩ := by decide +kernel
theorem mk012_v : (mkM 0 1 2).v = 2 := by decide +kernel
theorem mk012_len : (encM (mkM 0 1 2)).length = 46 := by
  rw [encM_len, mk012_s]
  have e1 : (mkM 0 1 2).f.length = 32 := hashK_len _
  have e2 : (mkM 0 1 2).n.length = 1 := rfl
  have e3 : (nums ⟨#[112, 117, 109, 112]⟩).length = 4 := by decide +kernel
  omega
theorem pump_no (x : Int) (f n : List Int) : rgtM ⟨⟨#[80, 117, 109, 112]⟩, x, f, n⟩ = false := by
  have : nameP (nums ⟨#[80, 117, 109, 112]⟩) = false := by decide +kernel
  unfold rgtM
  simp only [this, Bool.false_and]

set_option maxRecDepth 100000 in
set_option maxHeartbeats 4000000 in
theorem mknown_any (w : World) : Calls Tryd.prog 8 #[] w fun e w' => e = .returned (.bool true) ∧ Kp [] w w' := by
  have HM := hide (kman_any 0 1 2 w)
  obtain ⟨m, hm⟩ : ∃ m, m = mkM 0 1 2 := ⟨_, rfl⟩
  have hok : m.ok := by rw [hm]; exact mkM_ok 0 1 2
  have hrg : rgtM m = true := by rw [hm]; exact mkM_rgt 0 1 2
  have hs : m.s = ⟨#[112, 117, 109, 112]⟩ := by rw [hm]; exact mk012_s
  have hv : m.v = 2 := by rw [hm]; exact mk012_v
  have hl : (encM m).length = 46 := by rw [hm]; exact mk012_len
  rw [← hm] at HM
  have hde := dec_enc m hok hrg
  have hans : ansM (encM m) = m := by unfold ansM; rw [hde.2]; exact hde.1
  obtain ⟨s, x, f, n⟩ := m
  simp only at hs hv
  subst hs
  subst hv
  have HRG := hide hrg
  have HL := hide hl
  have HOKM := hide hde.2
  have HANS := hide hans
  have HEB := hide (encM_bs _ hok)
  have HOK := hide hok
  clear hm hok hrg hl hde hans
  go_enter Tryd.func8, Tryd.ntmps8
  go_wp2_with fail
  refine (unhide HM).mono ?_
  rintro ee w1 ⟨xv, rfl, V1, K1⟩
  have HV1 := hide V1
  have HK1 := hide K1
  obtain ⟨af, nf, cf, an, nn, cn, rfl, -⟩ := V1
  simp only at HV1 ⊢
  have G_ := heap_alloc_new w1 (.cells #[.string ⟨#[]⟩, .int .u32 0, .slice none 0 0, .slice none 0 0] 25)
  clear HM K1
  go_wp2_with (refine wpList_store_man rfl (.tmp 1) (.tmp 6) rfl w1.heap.size rfl _ _ _ _ _ _ _ _ G_ rfl ⟨rfl, rfl, rfl, rfl⟩ ?_; intro w2 G2 K2; refine Hid.out ?_)
  obtain ⟨g1, hg1⟩ : ∃ g, g = w1.heap.size := ⟨_, rfl⟩
  rw [← hg1] at G2 K2 ⊢
  have HV2 := hide (mv_at (unhide HV1) hg1 K2)
  have HK2 := hide ((unhide HK1).trans (kp_at hg1 K2))
  have HG2 := hide G2
  have hg1lt : g1 < w2.heap.size := lt_of_block G2
  have HW1 : Hid (w.heap.size ≤ g1) := hide (by rw [hg1]; exact (unhide HK1).size)
  obtain ⟨q0, q1, q2, q3⟩ := cell_man G2
  have HC := hide (mencode_ok _ _ (unhide HRG) w2 (unhide HV2))
  clear G_ G2 K2 hg1 HV1 HK1
  refine hide ?_
  go_wp2_with fail
  refine (unhide HC).mono ?_
  rintro ee w3 ⟨a3, m3, c3, rfl, R3, K3⟩
  have hm3 : m3 = 46 := by rw [R3.len]; exact unhide HL
  subst hm3
  have HR3 := hide R3.sl
  have HG3 := hide (K3.heap (unhide HG2) (by simp))
  have HV3 := hide ((unhide HV2).kept K3)
  have HK3 := hide ((unhide HK2).trans K3)
  have hC := mdecode_any (.slice a3 46 c3) _ w3 R3.sl (unhide HEB) (by rw [unhide HL]; omega)
  rw [unhide HOKM, unhide HANS, errOf_t] at hC
  have HD := hide hC
  have hg1l : g1 < w3.heap.size := lt_of_block (unhide HG3)
  clear R3 K3 HC HG2 HV2 HK2 q0 q1 q2 q3 hC hg1lt
  go_wp2_with fail
  refine (unhide HD).mono ?_
  rintro ee w4 ⟨v4, rfl, V4, K4⟩
  have HV4 := hide V4
  obtain ⟨bf, kf, ef, bn, kn, en, rfl, -⟩ := V4
  simp only at HV4 ⊢
  have G_ := heap_alloc_new w4 (.cells #[.string ⟨#[]⟩, .int .u32 0, .slice none 0 0, .slice none 0 0] 25)
  have HG4 := hide (K4.heap (unhide HG3) (by simp))
  have HV34 := hide ((unhide HV3).kept K4)
  have HK4 := hide ((unhide HK3).trans K4)
  clear HD K4 HG3 HV3 HK3 HR3
  go_wp2_with (refine wpList_store_man rfl (.tmp 4) (.tmp 15) rfl w4.heap.size rfl _ _ _ _ _ _ _ _ G_ rfl ⟨rfl, rfl, rfl, rfl⟩ ?_; intro w5 G5 K5; refine Hid.out ?_)
  obtain ⟨g2, hg2⟩ : ∃ g, g = w4.heap.size := ⟨_, rfl⟩
  rw [← hg2] at G5 K5 ⊢
  have k45 := kp_at hg2 K5
  have G1 := k45.heap (unhide HG4) (by simp)
  have hne : g1 ≠ g2 := by have := lt_of_block (unhide HG4); omega
  have HV5 := hide ((unhide HV34).kept k45)
  have HK5 := hide ((unhide HK4).trans k45)
  obtain ⟨W, hW⟩ : ∃ W, W = w5.setCell ⟨g1, 0, none⟩ (.string ⟨#[80, 117, 109, 112]⟩) := ⟨_, rfl⟩
  have KW : Kp [g1] w5 W := by rw [hW]; exact setCell_kpm w5 g1 0 _
  have hc1 : w5.cell? ⟨g1, 0, none⟩ = some (.string ⟨#[112, 117, 109, 112]⟩) := (cell_man G1).1
  have hf1 : w5.frozen? ⟨g1, 0, none⟩ = false := frozen_of_row w5 g1 0 _ _ G1
  have GW : W.heap[g1]? = some (.cells #[.string ⟨#[80, 117, 109, 112]⟩, .int .u32 2, .slice af nf cf, .slice an nn cn] 25 (0, 0)) := by rw [hW]; simpa using heap_setCell_same w5 g1 0 _ _ (.string ⟨#[80, 117, 109, 112]⟩) G1
  obtain ⟨z0, z1, z2, z3⟩ := cell_man GW
  have GW2 := KW.heap G5 (by simpa using Ne.symm hne)
  obtain ⟨y0, y1, -, -⟩ := cell_man GW2
  have HVW : Hid (MV W (.agg #[.string ⟨#[80, 117, 109, 112]⟩, .int .u32 2, .slice af nf cf, .slice an nn cn]) ⟨⟨#[80, 117, 109, 112]⟩, 2, f, n⟩) := by
    obtain ⟨_, _, _, _, _, _, e, p1, p2, p3⟩ := (unhide HV5).offBy (noBy_man G1) KW
    injection e with e
    simp at e
    obtain ⟨⟨rfl, rfl, rfl⟩, rfl, rfl, rfl⟩ := e
    exact ⟨_, _, _, _, _, _, rfl, p1, p2, ⟨p3.v0, p3.v1, p3.f, p3.n⟩⟩
  have HRt := hide (mright_any _ _ false (pump_no 2 f n).symm W (unhide HVW))
  have HKW : Hid (Kp [] w W) := (unhide HK5).then KW (fun i hi => .inr (by have := unhide HW1; simp at hi; omega))
  have HWW := hide hW
  rw [hW] at z0 z1 z2 z3 y0 y1
  clear G_ G5 K5 k45 HG4 HV34 HK4 HV4 hW GW GW2 KW G1 hg2
  refine hide ?_
  go_wp2_with fail
  rw [← unhide HWW]
  refine (unhide HRt).mono ?_
  rintro ee w6 ⟨rfl, K6⟩
  have HK6 := hide ((unhide HKW).trans K6)
  clear HRt K6 z0 z1 z2 z3 y0 y1 hc1 hf1
  go_wp2_with fail
  go_ret
  exact ⟨rfl, unhide HK6⟩
end Go.Proofs.YtioflclfgkcpfaaDoor
