/-
  The contract of package manifest's Decode.
-/
import Derived.Test.YtioflclfgkcpfaaKMName
import Derived.Test.YtioflclfgkcpfaaKMWire
namespace Go.Proofs.Ytioflclfgkcpfaa
open Go.RowKit
open Go.Proofs

/-- While a manifest is read: the reader at q, what is read of it at g1, the result's place at g0. -/
structure DcS (w0 : World) (g0 q g1 : Nat) (r : Value) (s : Bool × List Int) (x y z u : Value) (w : World) : Prop where
  rd : Rd w q r s.1 s.2
  own : ∀ k, r.ownBlock = some k → k < g1
  cell : w.heap[g1]? = some (.cells #[x, y, z, u] 25 (0, 0))
  res : w.heap[g0]? = some (.cells #[.string ⟨#[]⟩, .int .u32 0, .slice none 0 0, .slice none 0 0] 25 (0, 0))
  kp : Kp [] w0 w
  o1 : w0.heap.size ≤ g0
  o2 : g0 < q
  o3 : q < g1
section
variable {w0 w w' : World} {g0 q g1 : Nat} {r : Value} {s s' : Bool × List Int} {x y z u : Value}
theorem DcS.lt (h : DcS w0 g0 q g1 r s x y z u w) : g1 < w.heap.size := lt_of_block h.cell
theorem DcS.call (h : DcS w0 g0 q g1 r s x y z u w) (L : Left w q r s' w') : ∃ r', DcS w0 g0 q g1 r' s' x y z u w' := by
  obtain ⟨⟨r', R, O⟩, K⟩ := L
  have := h.o1
  have := h.o2
  have := h.o3
  exact ⟨r', R, fun k hk => h.own k (O k hk), K.heap h.cell (by simp; omega), K.heap h.res (by simp; omega), h.kp.then K (fun i hi => .inr (by simp at hi; omega)), h.o1, h.o2, h.o3⟩
theorem DcS.kept (h : DcS w0 g0 q g1 r s x y z u w) (K : Kp [] w w') : DcS w0 g0 q g1 r s x y z u w' :=
  ⟨h.rd.kept K (by simp) (by simp), h.own, K.heap h.cell (by simp), K.heap h.res (by simp), h.kp.trans K, h.o1, h.o2, h.o3⟩
theorem DcS.put (h : DcS w0 g0 q g1 r s x y z u w) (j : Nat) (v x' y' z' u' : Value) (hg : (w.setCell ⟨g1, j, none⟩ v).heap[g1]? = some (.cells #[x', y', z', u'] 25 (0, 0))) : DcS w0 g0 q g1 r s x' y' z' u' (w.setCell ⟨g1, j, none⟩ v) := by
  have K := setCell_kpm w g1 j v
  have := h.o1
  have := h.o2
  have := h.o3
  exact ⟨h.rd.kept K (by simp; omega) (fun i hi => by have := h.own i hi; simp; omega), h.own, hg, K.heap h.res (by simp; omega), h.kp.then K (fun i hi => .inr (by simp at hi; omega)), h.o1, h.o2, h.o3⟩
theorem DcS.put0 (h : DcS w0 g0 q g1 r s x y z u w) (v : Value) : DcS w0 g0 q g1 r s v y z u (w.setCell ⟨g1, 0, none⟩ v) := h.put 0 v _ _ _ _ (by simpa using heap_setCell_same w g1 0 _ _ v h.cell)
theorem DcS.put1 (h : DcS w0 g0 q g1 r s x y z u w) (v : Value) : DcS w0 g0 q g1 r s x v z u (w.setCell ⟨g1, 1, none⟩ v) := h.put 1 v _ _ _ _ (by simpa using heap_setCell_same w g1 1 _ _ v h.cell)
theorem DcS.put2 (h : DcS w0 g0 q g1 r s x y z u w) (v : Value) : DcS w0 g0 q g1 r s x y v u (w.setCell ⟨g1, 2, none⟩ v) := h.put 2 v _ _ _ _ (by simpa using heap_setCell_same w g1 2 _ _ v h.cell)
theorem DcS.put3 (h : DcS w0 g0 q g1 r s x y z u w) (v : Value) : DcS w0 g0 q g1 r s x y z v (w.setCell ⟨g1, 3, none⟩ v) := h.put 3 v _ _ _ _ (by simpa using heap_setCell_same w g1 3 _ _ v h.cell)
/-- a slice of the call's own that reads so, and does as long as only what was there changes. -/
def Far (g : Nat) (v : Value) (bs : List Int) (w : World) : Prop := Sl w v bs ∧ ∀ k, v.ownBlock = some k → g < k
theorem Far.kept {g : Nat} {v : Value} {bs : List Int} {S : List Nat} (h : Far g v bs w) (K : Kp S w w') (hS : ∀ i ∈ S, i ≤ g) : Far g v bs w' :=
  ⟨h.1.kept K (fun i hi hm => by have := hS i hm; have := h.2 i hi; omega), h.2⟩
end
theorem tkb_len1 {bad : Bool} {bs : List Int} {n : Int} : (tkb bad bs n).1.length ≤ bs.length := by have := @tkb_len bad bs n; omega
theorem ds_len (B : List Int) : (d1 B).2.2.length ≤ B.length ∧ (d2 B).2.2.length ≤ B.length ∧ (d3 B).2.2.length ≤ B.length ∧ (d4 B).2.2.length ≤ B.length := by
  have h1 := @tk_len false B 1
  have h2 := @tkb_len (d1 B).2.1 (d1 B).2.2 20
  have h3 := @tk_len (d2 B).2.1 (d2 B).2.2 4
  have h4 := @tk_len (d3 B).2.1 (d3 B).2.2 32
  rw [← d1_eq] at h1
  rw [← d2_eq] at h2
  rw [← d3_eq] at h3
  rw [← d4_eq] at h4
  refine ⟨by omega, by omega, by omega, by omega⟩

set_option maxRecDepth 100000 in
set_option maxHeartbeats 4000000 in
theorem mdecode_any (vb : Value) (B : List Int) (w : World) (hS : Sl w vb B) (hB : Bs B) (hl : B.length ≤ 140737488355328) :
    Calls Try.prog 9 #[vb] w fun e w' => ∃ v, e = .returned (.tuple #[v, .int .i64 (errOf (okM B))]) ∧ MV w' v (ansM B) ∧ Kp [] w w' := by
  obtain ⟨ob, hob⟩ : ∃ o : Obj, o = (.cells #[.string ⟨#[]⟩, .int .u32 0, .slice none 0 0, .slice none 0 0] 25) := ⟨_, rfl⟩
  have K1 : Kp [] w (w.alloc ob) := (Kp.refl [] w).alloc ob
  have HRd := hide (read_any vb B (w.alloc ob) (hS.kept K1 (by simp)) hl)
  have G1 : Hid ((w.alloc ob).heap[w.heap.size]? = some ob) := heap_alloc_new w ob
  have hz1 : Hid ((w.alloc ob).heap.size = w.heap.size + 1) := hide (by simp)
  rw [hob] at K1 HRd G1 hz1
  have HK1 := hide K1
  obtain ⟨ab, cb, hvb, _⟩ := hS
  obtain ⟨nb, hnb⟩ : ∃ n, n = B.length := ⟨_, rfl⟩
  rw [← hnb] at hvb
  subst hvb
  have HB := hide hB
  have HLN := hide hl
  have HBS := hide (ds_bs hB)
  have HDL := hide (ds_len B)
  clear hob K1 hB hl hnb
  go_enter Try.func9, Try.ntmps9
  go_wp2_with fail
  refine (unhide HRd).mono ?_
  rintro ee w2 ⟨q, v2, rfl, hq2, R2, hv2, K2⟩
  have HR2 := hide R2
  have HV2 := hide hv2
  have HQ2 := hide hq2
  have HK2 := hide K2
  have hRn := rbyte_any q v2 false B w2 R2 (unhide HB)
  rw [show tk false B 1 = d1 B from (d1_eq B).symm] at hRn
  obtain ⟨t, ht⟩ : ∃ t, t = val (d1 B).1 := ⟨_, rfl⟩
  rw [← ht] at hRn
  have HT := hide ht
  have HRn := hide hRn
  clear R2 hv2 hq2 K2 HRd hRn ht
  go_wp2_with fail
  refine (unhide HRn).mono ?_
  rintro ee w3 ⟨rfl, L3⟩
  have HL3 := hide L3
  obtain ⟨w4, hw4⟩ : ∃ w4, w4 = w3.alloc (.cells #[.string ⟨#[]⟩, .int .u32 0, .slice none 0 0, .slice none 0 0] 25) := ⟨_, rfl⟩
  obtain ⟨g1, hg1⟩ : ∃ g, g = w3.heap.size := ⟨_, rfl⟩
  obtain ⟨g0, hg0⟩ : ∃ g, g = w.heap.size := ⟨_, rfl⟩
  have HD4 : Hid (∃ r, DcS w g0 q g1 r (d1 B).2 (.string ⟨#[]⟩) (.int .u32 0) (.slice none 0 0) (.slice none 0 0) w4) := by
    obtain ⟨⟨r3, R3, O3⟩, K3⟩ := L3
    have K4 : Kp [] w3 w4 := by rw [hw4]; exact (Kp.refl [] w3).alloc _
    have hq := unhide HQ2
    have hz := unhide hz1
    rw [hz] at hq
    have hqlt : q < w2.heap.size := lt_of_block (unhide HR2).1
    have hs3 := K3.size
    refine ⟨r3, R3.kept K4 (by simp) (by simp), fun k hk => ?_, ?_, ?_, ?_, by omega, by omega, by omega⟩
    · have := (unhide HV2 k (O3 k hk)).2; omega
    · rw [hw4, hg1]; exact heap_alloc_new w3 _
    · refine K4.heap (K3.heap ((unhide HK2).heap (k := g0) ?_ (by simp)) (by simp; omega)) (by simp)
      rw [hg0]; exact unhide G1
    · exact (((unhide HK1).trans (unhide HK2)).then K3 (fun i hi => .inr (by simp at hi; omega))).trans K4
  have HG0 := hide hg0
  have HW4 := hide hw4
  have HG1' := hide hg1
  clear HRn HR2 HV2 HQ2 HK2 HK1 G1 hz1 L3 HL3 hw4 hg1 hg0
  go_wp2_with fail
  rw [← unhide HW4, ← unhide HG1', ← unhide HG0]
  obtain ⟨r4, D4⟩ := unhide HD4
  have HDD := hide D4
  have hC := rbytes_any q r4 (d1 B).2.1 (d1 B).2.2 20 w4 D4.rd (unhide HBS).1 (by have := (unhide HDL).1; have := unhide HLN; omega)
  rw [← d2_eq] at hC
  have HC := hide hC
  clear HD4 D4 hC HW4 HG1' HG0
  refine (unhide HC).mono ?_
  rintro ee w5 ⟨a5, c5, rfl, O5, L5⟩
  obtain ⟨r5, D5⟩ := (unhide HDD).call L5
  obtain ⟨m5, hm5⟩ : ∃ m, m = (d2 B).1.length := ⟨_, rfl⟩
  rw [← hm5] at O5 ⊢
  have hcv := O5.1.conv (P := Try.prog) 23 9 5 Try.underlying23 Try.underlying5 Try.underlying9
  obtain ⟨S5, hS5⟩ : ∃ S, S = strOfNums (d2 B).1 := ⟨_, rfl⟩
  rw [← hS5] at hcv
  have HS5 := hide hS5
  have hc5 : w5.cell? ⟨g1, 0, none⟩ = some (.string ⟨#[]⟩) := (cell_man D5.cell).1
  have hf5 : w5.frozen? ⟨g1, 0, none⟩ = false := frozen_of_row w5 g1 0 _ _ D5.cell
  have HD5 := hide (D5.put0 (.string S5))
  have hC := rnum_any q r5 (d2 B).2.1 (d2 B).2.2 _ (unhide HD5).rd (unhide HBS).2.1
  rw [← d3_eq] at hC
  obtain ⟨x, hx⟩ : ∃ x, x = val (d3 B).1 := ⟨_, rfl⟩
  rw [← hx] at hC
  have HX := hide hx
  have HCn := hide hC
  clear HC HDD O5 L5 D5 hC hm5 hS5 hx
  go_wp2_with fail
  refine (unhide HCn).mono ?_
  rintro ee w6 ⟨rfl, L6⟩
  obtain ⟨r6, D6⟩ := (unhide HD5).call L6
  have hc6 : w6.cell? ⟨g1, 1, none⟩ = some (.int .u32 0) := (cell_man D6.cell).2.1
  have hf6 : w6.frozen? ⟨g1, 1, none⟩ = false := frozen_of_row w6 g1 1 _ _ D6.cell
  have HD6 := hide (D6.put1 (.int .u32 x))
  have hC := raw_ok q r6 (d3 B).2.1 (d3 B).2.2 32 _ (unhide HD6).rd (by have := (unhide HDL).2.2.1; have := unhide HLN; omega)
  rw [← d4_eq] at hC
  have HCr := hide hC
  clear HCn HD5 L6 D6 hC hcv hc5 hf5
  go_wp2_with fail
  refine (unhide HCr).mono ?_
  rintro ee w7 ⟨a7, c7, rfl, O7, L7⟩
  obtain ⟨r7, D7⟩ := (unhide HD6).call L7
  obtain ⟨m7, hm7⟩ : ∃ m, m = (d4 B).1.length := ⟨_, rfl⟩
  rw [← hm7] at O7 ⊢
  have hc7 : w7.cell? ⟨g1, 2, none⟩ = some (.slice none 0 0) := (cell_man D7.cell).2.2.1
  have hf7 : w7.frozen? ⟨g1, 2, none⟩ = false := frozen_of_row w7 g1 2 _ _ D7.cell
  have hlt6 := (unhide HD6).lt
  have F7 : Far g1 (.slice a7 m7 c7) (d4 B).1 w7 := ⟨O7.1, fun k hk => by have := O7.2 k hk; omega⟩
  have HF7 := hide (F7.kept (setCell_kpm w7 g1 2 (.slice a7 m7 c7)) (by simp))
  have HD7 := hide (D7.put2 (.slice a7 m7 c7))
  have hC := rbytes_any q r7 (d4 B).2.1 (d4 B).2.2 64 _ (unhide HD7).rd (unhide HBS).2.2.2.1 (by have := (unhide HDL).2.2.2; have := unhide HLN; omega)
  rw [← d5_eq] at hC
  have HCb := hide hC
  clear HCr HD6 L7 D7 hC O7 hm7 hlt6 F7 hc6 hf6
  go_wp2_with fail
  refine (unhide HCb).mono ?_
  rintro ee w8 ⟨a8, c8, rfl, O8, L8⟩
  obtain ⟨r8, D8⟩ := (unhide HD7).call L8
  obtain ⟨m8, hm8⟩ : ∃ m, m = (d5 B).1.length := ⟨_, rfl⟩
  rw [← hm8] at O8 ⊢
  have hc8 : w8.cell? ⟨g1, 3, none⟩ = some (.slice none 0 0) := (cell_man D8.cell).2.2.2
  have hf8 : w8.frozen? ⟨g1, 3, none⟩ = false := frozen_of_row w8 g1 3 _ _ D8.cell
  have hlt7 := (unhide HD7).lt
  have hqg := D8.o3
  have F8 : Far g1 (.slice a8 m8 c8) (d5 B).1 w8 := ⟨O8.1, fun k hk => by have := O8.2 k hk; omega⟩
  have HF8 := hide (F8.kept (setCell_kpm w8 g1 3 (.slice a8 m8 c8)) (by simp))
  have HF78 := hide (((unhide HF7).kept L8.2 (by simp; omega)).kept (setCell_kpm w8 g1 3 (.slice a8 m8 c8)) (by simp))
  have HD8 := hide (D8.put3 (.slice a8 m8 c8))
  obtain ⟨W, hW⟩ : ∃ W, W = w8.setCell ⟨g1, 3, none⟩ (.slice a8 m8 c8) := ⟨_, rfl⟩
  have HWW := hide hW
  rw [← hW] at HF8 HF78 HD8
  have HMV : Hid (MV W (.agg #[.string S5, .int .u32 x, .slice a7 m7 c7, .slice a8 m8 c8]) (decM B)) := by
    refine ⟨a7, m7, c7, a8, m8, c8, ?_, (unhide HF78).1, (unhide HF8).1, decM_ok (unhide HB)⟩
    rw [unhide HS5, unhide HX]; rfl
  have HEnd := hide (end_any q r8 (d5 B).2.1 (d5 B).2.2 W (unhide HD8).rd)
  have HRgt := hide (fun b hb => mright_any _ (decM B) b hb W (unhide HMV))
  clear HCb HD7 L8 D8 O8 hm8 hlt7 F8 hc7 hf7 HF7 hW hqg
  obtain ⟨eb, heb⟩ : ∃ b, b = (!(d5 B).2.1 && (d5 B).2.2.isEmpty) := ⟨_, rfl⟩
  obtain ⟨rb, hrb⟩ : ∃ b, b = rgtM (decM B) := ⟨_, rfl⟩
  have hok : okM B = (decide (t = 77) && eb && rb) := by rw [heb, hrb, unhide HT]; rfl
  rw [← heb] at HEnd
  have HR1 := hide (unhide HRgt rb hrb)
  obtain ⟨z0, z1, z2, z3⟩ := cell_man (unhide HD8).cell
  have HOK := hide hok
  clear HRgt heb hrb hok
  by_cases h77 : t = 77
  · subst h77
    cases eb
    · have hno : okM B = false := by rw [unhide HOK]; rfl
      have HNO := hide hno
      clear hno HOK
      go_wp2_with fail
      rw [← unhide HWW]
      refine (unhide HEnd).mono ?_
      rintro ee w9 ⟨rfl, hw9⟩
      subst w9
      have G0 := (unhide HD8).res
      have HKW := hide (unhide HD8).kp
      have ho1 := (unhide HD8).o1
      clear HEnd HR1 z0 z1 z2 z3 HD8 hc8 hf8
      go_wp2_with (refine wpList_store_man rfl (.tmp 2) (.tmp 37) rfl g0 rfl _ _ _ _ _ _ _ _ G0 rfl ⟨rfl, rfl, rfl, rfl⟩ ?_; intro wa Ga Ka)
      refine bodyPost_ret (results_man rfl _ rfl Ga) rfl ?_
      exact ⟨_, by rw [unhide HNO]; rfl, by unfold ansM; rw [unhide HNO]; exact man0_v _, (unhide HKW).then Ka (fun i hi => .inr (by simp at hi; omega))⟩
    · cases rb
      · have hno : okM B = false := by rw [unhide HOK]; rfl
        have HNO := hide hno
        clear hno HOK
        go_wp2_with fail
        rw [← unhide HWW]
        refine (unhide HEnd).mono ?_
        rintro ee w9 ⟨rfl, hw9⟩
        subst w9
        clear HEnd
        go_wp2_with fail
        refine (unhide HR1).mono ?_
        rintro ee w9 ⟨rfl, K9⟩
        have D9 := (unhide HD8).kept K9
        have G0 := D9.res
        have HKW := hide D9.kp
        have ho1 := D9.o1
        clear HR1 z0 z1 z2 z3 HD8 hc8 hf8 K9 D9
        go_wp2_with (refine wpList_store_man rfl (.tmp 2) (.tmp 37) rfl g0 rfl _ _ _ _ _ _ _ _ G0 rfl ⟨rfl, rfl, rfl, rfl⟩ ?_; intro wa Ga Ka)
        refine bodyPost_ret (results_man rfl _ rfl Ga) rfl ?_
        exact ⟨_, by rw [unhide HNO]; rfl, by unfold ansM; rw [unhide HNO]; exact man0_v _, (unhide HKW).then Ka (fun i hi => .inr (by simp at hi; omega))⟩
      · have hyes : okM B = true := by rw [unhide HOK]; rfl
        have HYES := hide hyes
        clear hyes HOK
        go_wp2_with fail
        rw [← unhide HWW]
        refine (unhide HEnd).mono ?_
        rintro ee w9 ⟨rfl, hw9⟩
        subst w9
        clear HEnd
        go_wp2_with fail
        refine (unhide HR1).mono ?_
        rintro ee w9 ⟨rfl, K9⟩
        have D9 := (unhide HD8).kept K9
        have G0 := D9.res
        have HG9 := hide D9.cell
        have HKW := hide D9.kp
        have ho1 := D9.o1
        have HN0 := hide (noBy_man G0)
        have HM9 := hide ((unhide HMV).kept K9)
        clear HR1 z0 z1 z2 z3 HD8 hc8 hf8 K9 D9
        go_wp2_with (refine wpList_load_row rfl 25 (.tmp 6) rfl g1 rfl 25 _ (0, 0) _ (unhide HG9) Try.underlying25 rfl Try.manSize ?_; refine Hid.out ?_)
        refine hide ?_
        go_wp2_with (refine wpList_store_man rfl (.tmp 2) (.tmp 38) rfl g0 rfl _ _ _ _ _ _ _ _ G0 rfl ⟨rfl, rfl, rfl, rfl⟩ ?_; intro wa Ga Ka)
        refine bodyPost_ret (results_man rfl _ rfl Ga) rfl ?_
        exact ⟨_, by rw [unhide HYES]; rfl, by unfold ansM; rw [unhide HYES]; exact (unhide HM9).offBy (unhide HN0) Ka, (unhide HKW).then Ka (fun i hi => .inr (by simp at hi; omega))⟩
  · have hno : okM B = false := by rw [unhide HOK, decide_eq_false h77]; rfl
    have HNO := hide hno
    have h77' : (t == 77) = false := beq_eq_false_iff_ne.2 h77
    have G0 := (unhide HD8).res
    have HKW := hide (unhide HD8).kp
    have ho1 := (unhide HD8).o1
    rw [unhide HWW] at G0
    clear hno HOK HEnd HR1 z0 z1 z2 z3 HD8
    go_wp2_with (refine wpList_store_man rfl (.tmp 2) (.tmp 37) rfl g0 rfl _ _ _ _ _ _ _ _ G0 rfl ⟨rfl, rfl, rfl, rfl⟩ ?_; intro wa Ga Ka)
    refine bodyPost_ret (results_man rfl _ rfl Ga) rfl ?_
    rw [← unhide HWW] at Ka
    exact ⟨_, by rw [unhide HNO]; rfl, by unfold ansM; rw [unhide HNO]; exact man0_v _, (unhide HKW).then Ka (fun i hi => .inr (by simp at hi; omega))⟩
end Go.Proofs.Ytioflclfgkcpfaa
