/-
  The statement ManifestFieldsSaid: for all numbers and bytes the law function ManifestFields returns true and leaves its arguments as they were. No condition.
-/
import Derived.Test.YtioflclfgkcpfaaKMKnown
import Derived.Test.YtioflclfgkcpfaaKMSame
import Derived.Test.YtioflclfgkcpfaaKLMore
import Derived.ShutString
import Derived.ChangeOld
import Derived.Below
namespace Go.Proofs.Ytioflclfgkcpfaa.manifestFields
open Go.ChangeShapes Go.WideShapes Go.ChangeAt Go.RowKit
open Go.Proofs.Ytioflclfgkcpfaa
set_option linter.unusedVariables false

theorem own : ownKnob Try.prog.godebug = none := by kernel_rfl
theorem laidOut : laidOutB Try.prog = true := by kernel_rfl
def fldA (s : ByteArray) : List Int := [77] ++ (be2 (nums s).length ++ nums s) ++ [0, 0, 0]
def fldR (f n : List Int) : List Int := f ++ (be2 n.length ++ n)
theorem fldA_len (s : ByteArray) : (fldA s).length = 6 + s.size := by
  unfold fldA be2
  simp only [List.length_append, List.length_cons, List.length_nil, nums_len]
  omega
theorem enc_form (s : ByteArray) (x : Int) (f n : List Int) (h0 : 0 ≤ x) (h1 : x ≤ 255) : encM ⟨s, x, f, n⟩ = fldA s ++ (x :: fldR f n) := by
  have e : be4 x = [0, 0, 0, x] := by unfold be4; simp only [List.cons.injEq, and_true]; omega
  unfold encM fldA fldR
  simp only [e, List.append_assoc, List.cons_append, List.nil_append]
theorem far_eq (A R : List Int) (x y : Int) (i : Nat) (h : i ≠ A.length) : (A ++ (x :: R))[i]? = (A ++ (y :: R))[i]? := by
  rcases Nat.lt_or_ge i A.length with h1 | h1
  · rw [List.getElem?_append_left h1, List.getElem?_append_left h1]
  · rw [List.getElem?_append_right h1, List.getElem?_append_right h1]
    obtain ⟨j, hj⟩ : ∃ j, i - A.length = j + 1 := ⟨i - A.length - 1, by omega⟩
    rw [hj]
    rfl
theorem at_eq (A R : List Int) (x : Int) : (A ++ (x :: R))[A.length]? = some x := by
  rw [List.getElem?_append_right (Nat.le_refl _), Nat.sub_self]
  rfl

set_option maxRecDepth 100000 in
set_option maxHeartbeats 4000000 in
theorem walk (p v f : Int) (vf : Value) (fs : List Int) (vn : Value) (ns : List Int) (w : World) (hp : -9223372036854775808 ≤ p ∧ p ≤ 9223372036854775807) (hv : -9223372036854775808 ≤ v ∧ v ≤ 9223372036854775807) (hf : -9223372036854775808 ≤ f ∧ f ≤ 9223372036854775807) (hSf : Sl w vf fs) (hBf : Bs fs) (hSn : Sl w vn ns) (hBn : Bs ns) :
    Calls Try.prog 6 #[.int .i64 p, .int .i64 v, .int .i64 f, vf, vn] w fun e w' => e = .returned (.bool true) ∧ Below w.heap.size w w' := by
  have HSf := hide hSf
  have HSn := hide hSn
  have HBf := hide hBf
  have HBn := hide hBn
  obtain ⟨af, cf, hvf, -⟩ := hSf
  obtain ⟨nf, hnf⟩ : ∃ n, n = fs.length := ⟨_, rfl⟩
  rw [← hnf] at hvf
  subst hvf
  obtain ⟨an, cn, hvn, -⟩ := hSn
  obtain ⟨nn, hnn⟩ : ∃ n, n = ns.length := ⟨_, rfl⟩
  rw [← hnn] at hvn
  subst hvn
  have HC := hide (kman_any p v f w)
  obtain ⟨s, hs⟩ : ∃ s, s = (mkM p v f).s := ⟨_, rfl⟩
  obtain ⟨x, hx⟩ : ∃ x, x = (mkM p v f).v := ⟨_, rfl⟩
  have hx9 : 1 ≤ x ∧ x ≤ 9 := by rw [hx]; exact mkM_ver _ _ _
  have hnm : nameP (nums s) = true := by rw [hs]; exact nm_name _
  have HX9 := hide hx9
  have HNM := hide hnm
  have HSS := hide hs
  have HXX := hide hx
  clear hnf hnn hs hx hx9 hnm hBf hBn hp hv hf
  go_enter Try.func6, Try.ntmps6
  go_wp2_with fail
  refine (unhide HC).mono ?_
  rintro ee w1 ⟨v1, rfl, V1, K1⟩
  obtain ⟨a1, n1, c1, b1, k1, e1, rfl, -⟩ := V1
  rw [← unhide HSS, ← unhide HXX]
  have Gz := heap_alloc_new w1 (.cells #[.string ⟨#[]⟩, .int .u32 0, .slice none 0 0, .slice none 0 0] 25)
  have HK1 := hide K1
  clear HC K1
  go_wp2_with (refine wpList_store_man rfl (.tmp 11) (.tmp 22) rfl w1.heap.size rfl _ _ _ _ _ _ _ _ Gz rfl ⟨rfl, rfl, rfl, rfl⟩ ?_; intro w2 G2 K2; refine Hid.out ?_)
  obtain ⟨g1, hg1⟩ : ∃ g, g = w1.heap.size := ⟨_, rfl⟩
  rw [← hg1] at G2 K2 ⊢
  have k2 := kp_at hg1 K2
  have HK2 := hide ((unhide HK1).trans k2)
  have HG2 := hide G2
  have HGW : Hid (w.heap.size ≤ g1) := hide (by rw [hg1]; exact (unhide HK1).size)
  have HC := hide (sized_any (.slice af nf cf) fs w2 ((unhide HSf).kept (unhide HK2) (by simp)) (unhide HBf))
  clear Gz G2 K2 k2 hg1 HK1
  refine hide ?_
  go_wp2_with fail
  refine (unhide HC).mono ?_
  rintro ee w3 ⟨gf, F, rfl, hFl, hFB, R3, K3⟩
  have HK3 := hide ((unhide HK2).trans K3)
  have HG3 := hide (K3.heap (unhide HG2) (by simp))
  have hS3 : Sl w3 (.slice an nn cn) ns := (unhide HSn).kept (unhide HK3) (by simp)
  have HC3 := hide (cut_any (.slice an nn cn) ns 64 w3 hS3)
  have HF3 := hide R3.sl
  have HFL := hide hFl
  have HFB := hide hFB
  have HS3 := hide hS3
  clear HC HK2 HG2 R3 K3 hFl hFB hS3
  go_wp2_with fail
  refine (unhide HC3).mono ?_
  rintro ee w9 ⟨a4, c4, rfl, hT, hw9⟩
  subst w9
  have hS4 := hT _ (unhide HS3)
  obtain ⟨N, hN⟩ : ∃ N, N = ns.take 64 := ⟨_, rfl⟩
  rw [← hN] at hS4 ⊢
  have HNB : Hid (Bs N) := hide (by rw [hN]; exact (unhide HBn).take 64)
  have HNL : Hid (N.length ≤ 64) := hide (by rw [hN, List.length_take]; omega)
  obtain ⟨n4, hn4⟩ : ∃ n, n = N.length := ⟨_, rfl⟩
  rw [← hn4] at hS4 ⊢
  have G3 := unhide HG3
  have NB := noBy_man G3
  obtain ⟨wa, hwa⟩ : ∃ wa, wa = w3.setCell ⟨g1, 2, none⟩ (.slice (some ⟨gf, 0, none⟩) 32 32) := ⟨_, rfl⟩
  obtain ⟨wb, hwb⟩ : ∃ wb, wb = wa.setCell ⟨g1, 3, none⟩ (.slice a4 n4 c4) := ⟨_, rfl⟩
  have Ka : Kp [g1] w3 wa := by rw [hwa]; exact setCell_kpm w3 g1 2 _
  have Kb : Kp [g1] wa wb := by rw [hwb]; exact setCell_kpm wa g1 3 _
  have Ga : wa.heap[g1]? = some (.cells #[.string s, .int .u32 x, .slice (some ⟨gf, 0, none⟩) 32 32, .slice b1 k1 e1] 25 (0, 0)) := by rw [hwa]; simpa using heap_setCell_same w3 g1 2 _ _ (.slice (some ⟨gf, 0, none⟩) 32 32) G3
  have Gb : wb.heap[g1]? = some (.cells #[.string s, .int .u32 x, .slice (some ⟨gf, 0, none⟩) 32 32, .slice a4 n4 c4] 25 (0, 0)) := by rw [hwb]; simpa using heap_setCell_same wa g1 3 _ _ (.slice a4 n4 c4) Ga
  have Kab : Kp [g1] w3 wb := Ka.trans Kb
  have HMV : Hid (MV wb (.agg #[.string s, .int .u32 x, .slice (some ⟨gf, 0, none⟩) 32 32, .slice a4 n4 c4]) ⟨s, x, F, N⟩) :=
    ⟨_, _, _, _, _, _, rfl, (unhide HF3).offBy NB Kab, hS4.offBy NB Kab, ⟨by have := unhide HX9; show 0 ≤ x; omega, by have := unhide HX9; show x ≤ 4294967295; omega, unhide HFB, unhide HNB⟩⟩
  have hc2 : w3.cell? ⟨g1, 2, none⟩ = some (.slice a1 n1 c1) := (cell_man G3).2.2.1
  have hf2 : w3.frozen? ⟨g1, 2, none⟩ = false := frozen_of_row w3 g1 2 _ _ G3
  have hc3 : wa.cell? ⟨g1, 3, none⟩ = some (.slice b1 k1 e1) := (cell_man Ga).2.2.2
  have hf3 : wa.frozen? ⟨g1, 3, none⟩ = false := frozen_of_row wa g1 3 _ _ Ga
  obtain ⟨z0, z1, z2, z3⟩ := cell_man Gb
  have HKb : Hid (Kp [] w wb) := (unhide HK3).then Kab (fun i hi => .inr (by have := unhide HGW; simp at hi; omega))
  have HGb := hide Gb
  have HWB := hide hwb
  have HWA := hide hwa
  rw [hwb] at z0 z1 z2 z3
  rw [hwa] at z0 z1 z2 z3 hc3 hf3
  have hsz : wb.heap.size = w3.heap.size := by rw [hwb, hwa]; simp [World.setCell]
  have Gz := heap_alloc_new wb (.cells #[.string ⟨#[]⟩, .int .u32 0, .slice none 0 0, .slice none 0 0] 25)
  rw [hsz, hwb, hwa] at Gz
  have HSZ := hide hsz
  clear HC3 hT hN hn4 hS4 G3 NB hwa hwb Ka Kb Ga Gb Kab HK3 HG3 HF3 HS3 hsz
  go_wp2_with (refine wpList_store_man rfl (.tmp 12) (.tmp 29) rfl w3.heap.size rfl _ _ _ _ _ _ _ _ Gz rfl ⟨rfl, rfl, rfl, rfl⟩ ?_; intro w5 G5 K5; refine Hid.out ?_)
  rw [← unhide HWA, ← unhide HWB] at K5
  obtain ⟨g2, hg2⟩ : ∃ g, g = wb.heap.size := ⟨_, rfl⟩
  rw [← unhide HSZ, ← hg2] at G5 K5 ⊢
  have k5 := kp_at hg2 K5
  have HV5 := hide ((unhide HMV).kept k5)
  have HK5 := hide ((unhide HKb).trans k5)
  have hG1 := k5.heap (unhide HGb) (by simp)
  have hne : g1 < g2 := by have := lt_of_block (unhide HGb); omega
  obtain ⟨w6, hw6⟩ : ∃ w6, w6 = w5.setCell ⟨g2, 1, none⟩ (.int .u32 (x + 1)) := ⟨_, rfl⟩
  have K6 : Kp [g2] w5 w6 := by rw [hw6]; exact setCell_kpm w5 g2 1 _
  have G6 : w6.heap[g2]? = some (.cells #[.string s, .int .u32 (x + 1), .slice (some ⟨gf, 0, none⟩) 32 32, .slice a4 n4 c4] 25 (0, 0)) := by rw [hw6]; simpa using heap_setCell_same w5 g2 1 _ _ (.int .u32 (x + 1)) G5
  have NB5 := noBy_man G5
  have HV6 := hide ((unhide HV5).offBy NB5 K6)
  have hG16 := K6.heap hG1 (by simp; omega)
  have HN6 : Hid (MV w6 (.agg #[.string s, .int .u32 (x + 1), .slice (some ⟨gf, 0, none⟩) 32 32, .slice a4 n4 c4]) ⟨s, x + 1, F, N⟩) := by
    obtain ⟨_, _, _, _, _, _, e, p1, p2, p3⟩ := unhide HV6
    injection e with e
    simp at e
    obtain ⟨⟨rfl, rfl, rfl⟩, rfl, rfl, rfl⟩ := e
    exact ⟨_, _, _, _, _, _, rfl, p1, p2, ⟨by have := unhide HX9; show 0 ≤ x + 1; omega, by have := unhide HX9; show x + 1 ≤ 4294967295; omega, p3.f, p3.n⟩⟩
  have HK6 : Hid (Kp [] w w6) := (unhide HK5).then K6 (fun i hi => .inr (by have := unhide HGW; simp at hi; omega))
  have y1 : w5.cell? ⟨g1, 1, none⟩ = some (.int .u32 x) := (cell_man hG1).2.1
  have x1 : w5.cell? ⟨g2, 1, none⟩ = some (.int .u32 x) := (cell_man G5).2.1
  have f1 : w5.frozen? ⟨g2, 1, none⟩ = false := frozen_of_row w5 g2 1 _ _ G5
  obtain ⟨r0, r1, r2, r3⟩ := cell_man hG16
  have hrM : rgtM ⟨s, x, F, N⟩ = true := (rgtM_iff _).2 ⟨unhide HNM, by have := unhide HX9; show 0 < x; omega, unhide HFL, unhide HNL⟩
  have hrN : rgtM ⟨s, x + 1, F, N⟩ = true := (rgtM_iff _).2 ⟨unhide HNM, by have := unhide HX9; show 0 < x + 1; omega, unhide HFL, unhide HNL⟩
  have HE1 := hide (mencode_ok _ _ hrM w6 (unhide HV6))
  have HRN := hide hrN
  have hxw : IntKind.u32.wrap (x + 1) = x + 1 := by have := unhide HX9; exact wrap_u32 (by omega) (by omega)
  have HW6 := hide hw6
  have HG6 := hide G6
  have HG16 := hide hG16
  have hx8 := unhide HX9
  obtain ⟨hx1, hx9⟩ := hx8
  rw [hw6] at r0 r1 r2 r3
  clear Gz G5 K5 k5 hg2 HMV HKb HGb hG1 hne hw6 K6 G6 NB5 hG16 hrM hrN HV5 HK5 HWA HWB z0 z1 z2 z3 hc2 hf2 hc3 hf3
  refine hide ?_
  go_wp2_with fail
  rw [← unhide HW6]
  refine (unhide HE1).mono ?_
  rintro ee w7 ⟨a7, L, c7, rfl, R7, K7⟩
  have HL := hide R7.len
  have HB7 := hide R7.sl
  have HK7 := hide ((unhide HK6).trans K7)
  have g1' := K7.heap (unhide HG16) (by simp)
  have g2' := K7.heap (unhide HG6) (by simp)
  have HE2 := hide (mencode_ok _ _ (unhide HRN) w7 ((unhide HN6).kept K7))
  have HV7 := hide ((unhide HV6).kept K7)
  have HN7 := hide ((unhide HN6).kept K7)
  clear HE1 r0 r1 r2 r3 y1 x1 f1
  obtain ⟨r0, r1, r2, r3⟩ := cell_man g2'
  have HG17 := hide g1'
  have HG27 := hide g2'
  clear R7 K7 HK6 HG16 HG6 HV6 HN6 g1' g2' hxw HW6
  go_wp2_with fail
  refine (unhide HE2).mono ?_
  rintro ee w8 ⟨a8, L8, c8, rfl, R8, K8⟩
  obtain ⟨B, hB⟩ : ∃ B, B = encM ⟨s, x, F, N⟩ := ⟨_, rfl⟩
  obtain ⟨C, hC⟩ : ∃ C, C = encM ⟨s, x + 1, F, N⟩ := ⟨_, rfl⟩
  have hLB : L = B.length := by rw [hB]; exact unhide HL
  have hLC : L8 = C.length := by rw [hC]; exact R8.len
  have hBC : B.length = C.length := by rw [hB, hC, encM_len, encM_len]
  obtain rfl : L8 = L := by omega
  have HB8 := hide ((unhide HB7).kept K8 (by simp))
  have HC8 := hide R8.sl
  rw [← hB] at HB8
  rw [← hC] at HC8
  have hFB : B = fldA s ++ (x :: fldR F N) := by rw [hB]; exact enc_form s x F N (by omega) (by omega)
  have hFC : C = fldA s ++ ((x + 1) :: fldR F N) := by rw [hC]; exact enc_form s (x + 1) F N (by omega) (by omega)
  obtain ⟨Q, hQ⟩ : ∃ Q, Q = 6 + s.size := ⟨_, rfl⟩
  have hAl := fldA_len s
  have HFAR : Hid (∀ i, i ≠ Q → B[i]? = C[i]?) := fun i hi => by rw [hFB, hFC]; exact far_eq _ _ _ _ i (by omega)
  have HATB : Hid (B[Q]? = some x) := hide (by rw [hFB, hQ, ← hAl]; exact at_eq _ _ _)
  have HATC : Hid (C[Q]? = some (x + 1)) := hide (by rw [hFC, hQ, ← hAl]; exact at_eq _ _ _)
  have hQL : Q < L8 := by
    rw [hLB]
    have := unhide HATB
    exact (List.getElem?_eq_some_iff.1 this).1
  have hss := nameP_len (unhide HNM)
  rw [nums_len] at hss
  obtain ⟨hss1, hss2⟩ := hss
  have hL200 : L8 ≤ 200 := by rw [hLB, hB, encM_len]; have h1 := unhide HFL; have h2 := unhide HNL; simp only [nums_len]; omega
  have HK8 := hide ((unhide HK7).trans K8)
  have HG18 := hide (K8.heap (unhide HG17) (by simp))
  have HG28 := hide (K8.heap (unhide HG27) (by simp))
  have HV8 := hide ((unhide HV7).kept K8)
  have HN8 := hide ((unhide HN7).kept K8)
  have HLB := hide hLB
  have HBC := hide hBC
  have HQ := hide hQ
  have HFX := hide (And.intro hx1 hx9)
  have hL2i : (L8 : Int) ≤ 200 := by omega
  clear HE2 R8 K8 hB hC hLB hLC hBC hFB hFC hAl HL HB7 HK7 HG17 HG27 HV7 HN7 r0 r1 r2 r3 hQ
  have hclB : ∃ bb ob, a7 = some ⟨bb, ob, none⟩ ∧ ∀ k (hk : k < B.length), w8.cell? ⟨bb, ob + k, none⟩ = some (.int .u8 B[k]) := by
    obtain ⟨bb, ob, e, _, h⟩ := (unhide HB8).at2 (by omega)
    exact ⟨bb, ob, e, h⟩
  have hclC : ∃ bb ob, a8 = some ⟨bb, ob, none⟩ ∧ ∀ k (hk : k < C.length), w8.cell? ⟨bb, ob + k, none⟩ = some (.int .u8 C[k]) := by
    obtain ⟨bb, ob, e, _, h⟩ := (unhide HC8).at2 (by omega)
    exact ⟨bb, ob, e, h⟩
  have hcap : (L8 : Int) ≤ (c7 : Int) ∧ (L8 : Int) ≤ (c8 : Int) := by
    obtain ⟨_, _, e, h1, _⟩ := unhide HB8
    injection e with _ e2 e3
    obtain ⟨_, _, e', h1', _⟩ := unhide HC8
    injection e' with _ e2' e3'
    omega
  obtain ⟨bB, oB, rfl, hcB⟩ := hclB
  obtain ⟨bC, oC, rfl, hcC⟩ := hclC
  have HcB := hide hcB
  have HcC := hide hcC
  clear hcB hcC HB8 HC8 hcap
  go_wp2_with fail
  go_loopw [17, 18] (fun d i wr => ∃ k : Nat, k ≤ L8 ∧ i = .int .i64 k ∧ d = .int .i64 (if Q < k then 1 else 0) ∧ Kp [] w8 wr) (fun _ i _ => L8 - (intOf i).toNat)
  case atStart => exact ⟨0, by omega, rfl, rfl, Kp.refl _ _⟩
  case round =>
    obtain ⟨k, hk, rfl, rfl, Kr⟩ := hrel
    have HKr := hide Kr
    by_cases hlt : k < L8
    · have hlt2 : (k : Int) < (L8 : Int) := by omega
      have hk0 : (0 : Int) ≤ (k : Int) := by omega
      have hkB : k < B.length := by have := unhide HLB; omega
      have hkC : k < C.length := by have := unhide HLB; have := unhide HBC; omega
      have eB := Kr.cell (unhide HcB k hkB) (by simp)
      have eC := Kr.cell (unhide HcC k hkC) (by simp)
      obtain ⟨yB, hyB⟩ : ∃ y, y = B[k] := ⟨_, rfl⟩
      obtain ⟨yC, hyC⟩ : ∃ y, y = C[k] := ⟨_, rfl⟩
      rw [← hyB] at eB
      rw [← hyC] at eC
      have gB : B[k]? = some yB := by rw [hyB]; exact List.getElem?_eq_getElem hkB
      have gC : C[k]? = some yC := by rw [hyC]; exact List.getElem?_eq_getElem hkC
      by_cases hQk : k = Q
      · have hb : yB = x := by rw [hQk, unhide HATB] at gB; exact (Option.some.inj gB).symm
        have hc : yC = x + 1 := by rw [hQk, unhide HATC] at gC; exact (Option.some.inj gC).symm
        have hd : (if Q < k then (1 : Int) else 0) = 0 := if_neg (by omega)
        rw [hd]
        have hne : (yB == yC) = false := by rw [hb, hc]; exact beq_eq_false_iff_ne.2 (by omega)
        have HD2 : Hid ((if Q < k + 1 then (1 : Int) else 0) = 1) := hide (if_pos (by omega))
        obtain ⟨e0, -, -, -⟩ := cell_man (Kr.heap (unhide HG18) (by simp))
        have hk6 : (k : Int) = 6 + (s.size : Int) := by have := unhide HQ; omega
        have t1 : ¬ (k : Int) < 3 + (s.size : Int) := by omega
        have t2 : ¬ 7 + (s.size : Int) ≤ (k : Int) := by omega
        have t1' : decide ((k : Int) < 3 + (s.size : Int)) = false := decide_eq_false t1
        clear hyB hyC gB gC hb hc hd Kr hQk hk6
        go_wp2_with fail
        go_quiet (fail)
        go_wp2_with fail
        go_roundw
        case rel => exact ⟨k + 1, by omega, by go_num, by rw [unhide HD2], (unhide HKr).trans (kp_drewN _ _)⟩
        case measure => simp [intOf]; omega
      · have hbc : yB = yC := by have := unhide HFAR k hQk; rw [gB, gC] at this; exact Option.some.inj this
        have HD2 : Hid ((if Q < k + 1 then (1 : Int) else 0) = (if Q < k then 1 else 0)) := hide (by
          by_cases h : Q < k
          · rw [if_pos h, if_pos (by omega)]
          · rw [if_neg h, if_neg (by omega)])
        obtain ⟨d, hd⟩ : ∃ d, d = (if Q < k then (1 : Int) else 0) := ⟨_, rfl⟩
        rw [← hd] at HD2 ⊢
        clear hyB hyC gB gC Kr hQk hd
        subst hbc
        go_wp2_with fail
        go_quiet (fail)
        go_wp2_with fail
        go_roundw
        case rel => exact ⟨k + 1, by omega, by go_num, by rw [unhide HD2], (unhide HKr).trans (kp_drewN _ _)⟩
        case measure => simp [intOf]; omega
    · have hkL : k = L8 := by omega
      have hlt2 : ¬ (k : Int) < (L8 : Int) := by omega
      have hd : (if Q < k then (1 : Int) else 0) = 1 := if_pos (by omega)
      rw [hd]
      have hVm := (unhide HV8).kept Kr
      have hVn := (unhide HN8).kept Kr
      have G1r := Kr.heap (unhide HG18) (by simp)
      have G2r := Kr.heap (unhide HG28) (by simp)
      have HC1 := hide (msame_any _ _ ⟨s, x, F, N⟩ ⟨s, x + 1, F, N⟩ false (by unfold sameM; have : ¬ x = x + 1 := by omega
                                                                              simp [this]) wr hVm hVn)
      obtain ⟨r0, r1, r2, r3⟩ := cell_man G1r
      obtain ⟨q0, q1, q2, q3⟩ := cell_man G2r
      have HVm := hide hVm
      have HVn := hide hVn
      have HG1r := hide G1r
      have HG2r := hide G2r
      have HKw := hide ((unhide HK8).trans Kr)
      clear hkL hd hVm hVn G1r G2r Kr HKr HV8 HN8 HG18 HG28 HcB HcC
      go_wp2_with fail
      refine (unhide HC1).mono ?_
      rintro ee wx ⟨rfl, Kx⟩
      have HC2 := hide (mnewer_any _ _ ⟨s, x + 1, F, N⟩ ⟨s, x, F, N⟩ true (by unfold newerM; have : x < x + 1 := by omega
                                                                              simp [this]) wx ((unhide HVn).kept Kx) ((unhide HVm).kept Kx))
      have gx1 := Kx.heap (unhide HG1r) (by simp)
      have gx2 := Kx.heap (unhide HG2r) (by simp)
      have HKx := hide ((unhide HKw).trans Kx)
      clear r0 r1 r2 r3 q0 q1 q2 q3
      obtain ⟨r0, r1, r2, r3⟩ := cell_man gx1
      obtain ⟨q0, q1, q2, q3⟩ := cell_man gx2
      clear HC1 gx1 gx2 Kx HVm HVn HG1r HG2r HKw
      go_wp2_with fail
      refine (unhide HC2).mono ?_
      rintro ee wy ⟨rfl, Ky⟩
      have HKy := hide ((unhide HKx).trans Ky)
      have HC3 := hide (mknown_any wy)
      clear r0 r1 r2 r3 q0 q1 q2 q3 HC2 Ky HKx
      go_wp2_with fail
      refine (unhide HC3).mono ?_
      rintro ee wz ⟨rfl, Kz⟩
      have HKz := hide ((unhide HKy).trans Kz)
      clear HC3 Kz HKy
      go_wp2_with fail
      go_ret
      exact ⟨rfl, (unhide HKz).below (Nat.le_refl _) (by simp)⟩

set_option maxRecDepth 100000 in
theorem lifted (os : Os) (started : os.Started) (H : Type) (enc : TypeId × Value → H) :
    ReturnsInHanded {} Try.checked os 6 .any (Rows.manifestFieldsSpec.pre6 enc Try.prog Try.f6 Rows.manifestFieldsRow.domain false) (Rows.manifestFieldsSpec.post enc Try.prog Try.f6 false true false false) := by
  refine returnsInHanded_of_change (C := Try.checked) own started (by kernel_rfl) Try.func6
    (ChangeSpec.witness6 (enc := enc) (C := Try.checked) false ⟨#[], #[.int .i64 0, .int .i64 0, .int .i64 0, .slice none 0 0, .slice none 0 0], []⟩ 8 (by kernel_rfl) (by kernel_rfl) (by kernel_rfl) (by kernel_rfl)) ?_
  intro W base args ds gs before hval0 hW hcnd _
  have hval : ∀ (j : Nat) t v, Try.f6.params[j]? = some t → args[j]? = some v → Value.okWide Try.prog W .any base t v := hval0
  have hW' := hW
  obtain ⟨p, q, hA0, hV, rfl, hfz, hnd⟩ := hW
  have hA : DataW.TrodAll enc Try.prog W 0 (fun _ => true) true Try.f6.params.toList args.toList ds p := hA0
  rw [Try.params6] at hA hval
  obtain ⟨v0, vs0, d0, ds0, p0, q0, hargs, rfl, rfl, h0, r0⟩ := trodAll_cons hA
  obtain ⟨v1, vs1, d1, ds1, p1, q1, rfl, rfl, rfl, h1, r1⟩ := trodAll_cons r0
  obtain ⟨v2, vs2, d2, ds2, p2, q2, rfl, rfl, rfl, h2, r2⟩ := trodAll_cons r1
  obtain ⟨v3, vs3, d3, ds3, p3, q3, rfl, rfl, rfl, h3, r3⟩ := trodAll_cons r2
  obtain ⟨v4, vs4, d4, ds4, p4, q4, rfl, rfl, rfl, h4, r4⟩ := trodAll_cons r3
  obtain ⟨rfl, rfl, rfl⟩ := trodAll_nil r4
  obtain rfl : args = #[v0, v1, v2, v3, v4] := by cases args; simp_all
  obtain ⟨rfl, rfl⟩ := trodVars_none hV
  obtain ⟨a0, rfl, rfl, rfl, w0⟩ := open_int Try.underlying3 (hval 0 3 v0 rfl rfl) h0
  obtain ⟨a1, rfl, rfl, rfl, w1⟩ := open_int Try.underlying3 (hval 1 3 v1 rfl rfl) h1
  obtain ⟨a2, rfl, rfl, rfl, w2⟩ := open_int Try.underlying3 (hval 2 3 v2 rfl rfl) h2
  obtain ⟨a3, len3, cap3, rfl⟩ := okWide_slice Try.underlying23 (hval 3 23 v3 rfl rfl)
  have k3 := h3
  have lt3 : ∀ x ∈ p3, x.block < W.heap.size := by obtain ⟨m, hm⟩ := k3; exact DataW.trod_lt m _ _ _ hm
  obtain ⟨l3, s3, b3⟩ : ∃ bs, Sl W (.slice a3 len3 cap3) bs ∧ Bs bs := by
    obtain ⟨fuel, hf⟩ := h3
    exact bytes_of_trod (by simpa [Value.cells] using hf)
  obtain ⟨a4, len4, cap4, rfl⟩ := okWide_slice Try.underlying23 (hval 4 23 v4 rfl rfl)
  have k4 := h4
  have lt4 : ∀ x ∈ p4, x.block < W.heap.size := by obtain ⟨m, hm⟩ := k4; exact DataW.trod_lt m _ _ _ hm
  obtain ⟨l4, s4, b4⟩ : ∃ bs, Sl W (.slice a4 len4 cap4) bs ∧ Bs bs := by
    obtain ⟨fuel, hf⟩ := h4
    exact bytes_of_trod (by simpa [Value.cells] using hf)
  clear hA0 hval0
  refine (walk a0 a1 a2 (.slice a3 len3 cap3) l3 (.slice a4 len4 cap4) l4 W (bounds_i64 w0) (bounds_i64 w1) (bounds_i64 w2) s3 b3 s4 b4).mono fun e W' ⟨he, bel⟩ => ?_
  subst he
  exact ⟨_, rfl, _, _, _, [], _, [], hW', trodAll_mk1 (shut_bool Try.underlying4 _), (trodAll_cons_mk (shut_int Try.underlying3 w0) (trodAll_cons_mk (shut_int Try.underlying3 w1) (trodAll_cons_mk (shut_int Try.underlying3 w2) (trodAll_cons_mk (Below.trod laidOut (by kernel_rfl) (of_decide_eq_true (by kernel_rfl)) k3 bel lt3) (trodAll_cons_mk (Below.trod laidOut (by kernel_rfl) (of_decide_eq_true (by kernel_rfl)) k4 bel lt4) trodAll_mk0))))), rfl, bel.frame _, fun h => by cases h⟩

theorem over : Rows.manifestFieldsRow.holds Try.pinned (OpenSpec.ofChange Rows.manifestFieldsSpec) :=
  OpenClaim.holds_of_wide 6 Try.f6 rfl rfl rfl rfl rfl rfl rfl ⟨rfl, rfl, rfl, rfl, rfl⟩ rfl rfl rfl rfl rfl (by kernel_rfl) Try.func6 (by kernel_rfl)
    (of_decide_eq_true (by kernel_rfl)) (by unfold Func.isWrapper; first | (rw [if_pos (by decide +kernel)]; kernel_rfl) | (rw [if_neg (by decide +kernel)]; exact ⟨rfl, rfl⟩))
    (fun os started H enc _ => lifted os started H enc)
end Go.Proofs.Ytioflclfgkcpfaa.manifestFields

namespace Go.Proofs.Ytioflclfgkcpfaa
/-- The given statement. -/
theorem ManifestFields_holds : Rows.ManifestFieldsSaid := manifestFields.over
#print axioms ManifestFields_holds
end Go.Proofs.Ytioflclfgkcpfaa
