/-
  The contract of package manifest's Encode.
-/
import Derived.Test.YtioflclfgkcpfaaKMName
import Derived.Test.YtioflclfgkcpfaaKMWire
import Derived.Test.YtioflclfgkcpfaaKLWn
namespace Go.Proofs.Ytioflclfgkcpfaa
open Go.RowKit
open Go.Proofs

theorem be_2 (n : Int) : be n 2 0 = be2 n := be_two n

set_option maxRecDepth 100000 in
set_option maxHeartbeats 2000000 in
theorem mencode_ok (v : Value) (m : Mf) (hr : rgtM m = true) (w : World) (hV : MV w v m) :
    Calls Try.prog 8 #[v] w fun e w' => ∃ ao k c, e = .returned (.tuple #[.slice ao k c, .int .i64 0]) ∧ Row w' w.heap.size (.slice ao k c) (encM m) ∧ Kp [] w w' := by
  have hV0 := hV
  obtain ⟨af, nf, cf, an, nn, cn, rfl, hF, hNt, hok⟩ := hV
  obtain ⟨hnm, hv0, hfl, hnl⟩ := (rgtM_iff m).1 hr
  have hnl2 := nameP_len hnm
  rw [nums_len] at hnl2
  obtain ⟨ob, hob⟩ : ∃ o : Obj, o = (.cells #[.string m.s, .int .u32 m.v, .slice af nf cf, .slice an nn cn] 25) := ⟨_, rfl⟩
  have K1 : Kp [] w (w.alloc ob) := (Kp.refl [] w).alloc ob
  have HR := hide (mright_any _ m true hr.symm (w.alloc ob) (hV0.kept K1))
  have G1 : (w.alloc ob).heap[w.heap.size]? = some (.cells #[.string m.s, .int .u32 m.v, .slice af nf cf, .slice an nn cn] 25 (0, 0)) := by rw [hob]; exact heap_alloc_new w _
  have hl1 := load_man G1
  have HG1 := hide G1
  rw [hob] at K1 HR hl1 HG1
  have HK1 := hide K1
  have HF := hide hF
  have HNt := hide hNt
  have hE : encM m = [77] ++ (be2 (nums m.s).length ++ nums m.s) ++ be4 m.v ++ m.f ++ (be2 m.n.length ++ m.n) := rfl
  obtain ⟨s, x, f, n⟩ := m
  simp only at hF hNt hfl hnl hnl2 hv0 hE HF HNt HG1 hl1 HR ⊢
  have HE := hide hE
  have HSL := hide hnl2
  have HFL := hide hfl
  have HNL := hide hnl
  have HNS := hide (nums_len s)
  clear hob K1 G1 hF hNt hV0 hr hnm hok hv0 hE hnl2 hfl hnl
  go_enter Try.func8, Try.ntmps8
  go_wp2_with fail
  refine (unhide HR).mono ?_
  rintro ee w2 ⟨rfl, K2⟩
  have HK2 := hide ((unhide HK1).trans K2)
  have HG2 := hide (K2.heap (unhide HG1) (by simp))
  clear HR K2 HK1 HG1 hl1
  go_wp2_with fail
  refine (new_abs w2).mono ?_
  rintro ee w3 ⟨p, rfl, W3, hp3, K3⟩
  have HW3 : Hid (Wn w2 w3 p (.slice none 0 0) []) := ⟨W3, K3, hp3, fun k hk => by cases hk⟩
  clear W3 hp3 K3
  go_wp2_with fail
  refine (wbyte_any p 77 _ [] w3 (unhide HW3).1 (by simp) (by omega) (by omega)).mono ?_
  rintro ee w4 ⟨rfl, v4, W4, S4⟩
  have HW4 := hide ((unhide HW3).step W4 S4)
  rw [List.nil_append] at HW4
  have e0 : w4.cell? ⟨w.heap.size, 0, none⟩ = some (.string s) := (cell_man ((unhide HW4).2.1.heap (unhide HG2) (by simp))).1
  obtain ⟨c5, w5, hcv, S5, K5⟩ := conv_of_string s w4 (by have := unhide HSL; omega)
  have HW5 := hide ((unhide HW4).kept K5)
  have HB5 := hide (bytes_ok p v4 [77] (.slice (some ⟨w4.heap.size, 0, none⟩) s.size c5) (nums s) w5 (unhide HW5).1 S5 (fun w1 k1 => S5.kept k1 (fun i hi hm => by
    have e : w4.heap.size = i := by simpa [Value.ownBlock] using hi
    simp only [List.mem_cons, Option.mem_toList] at hm
    rcases hm with hm | hm
    · have := (unhide HW4).1.lt; omega
    · have := ((unhide HW4).1.2.lt i hm).2; omega)) (by have := unhide HSL; rw [nums_len]; simp; omega) (by have := unhide HSL; rw [nums_len]; omega))
  clear W4 S4 HW3 HW4 S5 K5
  go_wp2_with fail
  refine (unhide HB5).mono ?_
  rintro ee w6 ⟨rfl, v6, W6, S6⟩
  have HW6 := hide ((unhide HW5).step W6 S6)
  rw [be_2, List.append_assoc] at HW6
  obtain ⟨L6, hL6⟩ : ∃ L, L = [77] ++ (be2 (nums s).length ++ nums s) := ⟨_, rfl⟩
  rw [← hL6] at HW6
  have hl6 : L6.length ≤ 23 := by rw [hL6]; simp only [List.length_append, List.length_cons, List.length_nil, be2, nums_len]; have := unhide HSL; omega
  have HE6 := hide hL6
  have e1 : w6.cell? ⟨w.heap.size, 1, none⟩ = some (.int .u32 x) := (cell_man ((unhide HW6).2.1.heap (unhide HG2) (by simp))).2.1
  have HC := hide (num_any p x v6 L6 w6 (unhide HW6).1 (by omega))
  have HLL := hide hl6
  clear W6 S6 HW5 HB5 e0 hcv hL6 hl6
  go_wp2_with fail
  refine (unhide HC).mono ?_
  rintro ee w7 ⟨rfl, v7, W7, S7⟩
  have HW7 := hide ((unhide HW6).step W7 S7)
  rw [be_4] at HW7
  have e2 : w7.cell? ⟨w.heap.size, 2, none⟩ = some (.slice af nf cf) := (cell_man ((unhide HW7).2.1.heap (unhide HG2) (by simp))).2.2.1
  have hl7 : (L6 ++ be4 x).length ≤ 27 := by rw [List.length_append]; have := unhide HLL; have : (be4 x).length = 4 := rfl; omega
  have HCr := hide (raw_any p v7 (L6 ++ be4 x) (.slice af nf cf) f w7 (unhide HW7).1 ((unhide HF).kept ((unhide HK2).trans (unhide HW7).2.1) (by simp)) (by have := unhide HFL; omega))
  have HL7 := hide hl7
  clear W7 S7 HW6 e1 HC hl7
  go_wp2_with fail
  refine (unhide HCr).mono ?_
  rintro ee w8 ⟨rfl, v8, W8, S8⟩
  have HW8 := hide ((unhide HW7).step W8 S8)
  have e3 : w8.cell? ⟨w.heap.size, 3, none⟩ = some (.slice an nn cn) := (cell_man ((unhide HW8).2.1.heap (unhide HG2) (by simp))).2.2.2
  have HCb := hide (bytes_ok p v8 (L6 ++ be4 x ++ f) (.slice an nn cn) n w8 (unhide HW8).1 ((unhide HNt).kept ((unhide HK2).trans (unhide HW8).2.1) (by simp)) (fun w1 k1 => (unhide HNt).kept ((unhide HK2).trans ((unhide HW8).kp k1)) (by simp)) (by rw [List.length_append]; have := unhide HL7; have := unhide HFL; have := unhide HNL; omega) (by have := unhide HNL; omega))
  clear W8 S8 HW7 e2 HCr
  go_wp2_with fail
  refine (unhide HCb).mono ?_
  rintro ee w9 ⟨rfl, v9, W9, S9⟩
  have HW9 := hide ((unhide HW8).step W9 S9)
  have hEE : L6 ++ be4 x ++ f ++ be n.length 2 0 ++ n = encM ⟨s, x, f, n⟩ := by rw [unhide HE, unhide HE6, be_2]; simp only [List.append_assoc]
  rw [hEE] at HW9
  have hlen : (encM ⟨s, x, f, n⟩).length ≤ 200 := by rw [encM_len]; simp only [nums_len]; have := unhide HFL; have := unhide HNL; have := unhide HSL; omega
  have HD := hide (done_any p v9 _ w9 (unhide HW9).1 (by omega))
  obtain ⟨EE, hEEq⟩ : ∃ E, E = encM ⟨s, x, f, n⟩ := ⟨_, rfl⟩
  obtain ⟨m7, hm7⟩ : ∃ m, m = EE.length := ⟨_, rfl⟩
  rw [← hEEq] at HD HW9
  have HQ := hide hEEq
  rw [← hm7] at HD
  have HM7 := hide hm7
  clear W9 S9 HW8 e3 HCb hEE hlen HE HE6 hEEq hm7
  go_wp2_with fail
  refine (unhide HD).mono ?_
  rintro ee wa ⟨aa, ca, rfl, Ra, Ka⟩
  have HRa : Hid (Row wa w9.heap.size (.slice aa m7 ca) EE) := by have := Ra; rw [unhide HM7] at this ⊢; exact this
  have HK9 := hide ((unhide HK2).trans (unhide HW9).2.1)
  have HKa := hide ((unhide HK9).trans Ka)
  clear Ra Ka HD HW9
  go_wp2_with fail
  go_ret2
  exact ⟨aa, m7, ca, rfl, by rw [← unhide HQ]; exact row_new (unhide HRa) (unhide HK9), unhide HKa⟩

set_option maxRecDepth 100000 in
set_option maxHeartbeats 1000000 in
theorem mencode_no (v : Value) (m : Mf) (hr : rgtM m = false) (w : World) (hV : MV w v m) :
    Calls Try.prog 8 #[v] w fun e w' => e = .returned (.tuple #[.slice none 0 0, .int .i64 12]) ∧ Kp [] w w' := by
  have hV0 := hV
  obtain ⟨af, nf, cf, an, nn, cn, rfl, hF, hNt, hok⟩ := hV
  obtain ⟨ob, hob⟩ : ∃ o : Obj, o = (.cells #[.string m.s, .int .u32 m.v, .slice af nf cf, .slice an nn cn] 25) := ⟨_, rfl⟩
  have K1 : Kp [] w (w.alloc ob) := (Kp.refl [] w).alloc ob
  have HR := hide (mright_any _ m false hr.symm (w.alloc ob) (hV0.kept K1))
  have hl1 : (loadVar 25 ⟨w.heap.size, 0, none⟩).run Try.prog (w.alloc ob) = .ok (.agg #[.string m.s, .int .u32 m.v, .slice af nf cf, .slice an nn cn]) (w.alloc ob) := load_man (fr := (0, 0)) (by rw [hob]; exact heap_alloc_new w _)
  rw [hob] at K1 HR hl1
  have HK1 := hide K1
  obtain ⟨s, x, f, n⟩ := m
  clear hob K1 hF hNt hV0 hr hok
  go_enter Try.func8, Try.ntmps8
  go_wp2_with fail
  refine (unhide HR).mono ?_
  rintro ee w2 ⟨rfl, K2⟩
  have HK2 := hide ((unhide HK1).trans K2)
  clear HR K2 HK1
  go_wp2_with fail
  go_ret2
  exact ⟨rfl, unhide HK2⟩
/-- what Encode tells: the bytes, or none. -/
def encA (m : Mf) : List Int := if rgtM m then encM m else []
theorem mencode_any (v : Value) (m : Mf) (w : World) (hV : MV w v m) :
    Calls Try.prog 8 #[v] w fun e w' => ∃ ao k c, e = .returned (.tuple #[.slice ao k c, .int .i64 (errOf (rgtM m))]) ∧ Sl w' (.slice ao k c) (encA m) ∧ (∀ i, (Value.slice ao k c).ownBlock = some i → w.heap.size ≤ i) ∧ Kp [] w w' := by
  unfold encA
  cases hr : rgtM m
  · refine (mencode_no v m hr w hV).mono ?_
    rintro e w' ⟨rfl, K⟩
    exact ⟨none, 0, 0, rfl, Sl.nil _, (fun i hi => by cases hi), K⟩
  · refine (mencode_ok v m hr w hV).mono ?_
    rintro e w' ⟨ao, k, c, rfl, R, K⟩
    exact ⟨ao, k, c, rfl, R.sl, R.own, K⟩
end Go.Proofs.Ytioflclfgkcpfaa
