/-
  The contract of the law package's reads.
-/
import Derived.Test.YtbkipibmaghejaaGreatDoorKXEncs
import Derived.Test.YtbkipibmaghejaaGreatDoorKXLaws
namespace Go.Proofs.YtbkipibmaghejaaGreatDoor
open Go.RowKit
open Go.Proofs

section
variable {w w' : World} {g : Nat} {x : Int} {b0 : Bool} {a1 : Option Addr} {n1 c1 : Nat} {t : TypeId} {fr : Nat × Nat}
theorem noBy_rr (hg : w.heap[g]? = some (.cells #[.slice a1 n1 c1, .int .i64 x, .bool b0] t fr)) : NoBy w [g] := by
  intro y hy
  obtain rfl : y = g := by simpa using hy
  refine ⟨_, _, _, hg, fun z hz u => ?_⟩
  rcases (by simpa using hz : z = .slice a1 n1 c1 ∨ z = .int .i64 x ∨ z = .bool b0) with rfl | rfl | rfl <;> simp
/-- a list of two slices or more, or of none, does not lie in a reader's block. -/
theorem lists_off3 (hg : w.heap[g]? = some (.cells #[.slice a1 n1 c1, .int .i64 x, .bool b0] t fr)) (k : Kp [g] w w') {v : Value} {l : List (Value × List Int)} (h : Lists w v l) (hl : l.length = 0 ∨ 2 ≤ l.length) : Lists w' v l := by
  obtain ⟨ao, c, rfl, h1, h2⟩ := h
  refine ⟨ao, c, rfl, h1, fun i hi => ?_⟩
  obtain ⟨b, off, e, h3, h4, h5⟩ := h2 i hi
  refine ⟨b, off, e, ?_, ?_, h5⟩
  · by_cases hb : b = g
    · exfalso
      subst hb
      subst e
      have at' : ∀ j (hj : j < l.length), ∃ p q r, (#[Value.slice a1 n1 c1, .int .i64 x, .bool b0])[off + j]? = some (.slice p q r) := fun j hj => by
        obtain ⟨b', off', e', h3', h4', _⟩ := h2 j hj
        injection e' with e'
        injection e' with e1 e2
        subst e1
        subst e2
        obtain ⟨p, r, es, _⟩ := h4'
        rw [cell_of_row w b (off + j) _ _ _ hg, es] at h3'
        exact ⟨p, _, r, h3'⟩
      obtain ⟨p1, q1, r1, e1⟩ := at' 1 (by omega)
      have : off = 0 ∨ off = 1 ∨ 2 ≤ off := by omega
      rcases this with rfl | rfl | h
      · simp at e1
      · simp at e1
      · rw [Array.getElem?_eq_none (by simp; omega)] at e1
        cases e1
    · exact k.cell h3 (by simpa using hb)
  · obtain ⟨p, q, es, _⟩ := id h4
    rw [es] at h4 ⊢
    exact Sl.offBy h4 (noBy_rr hg) k
theorem sg_off3 (hg : w.heap[g]? = some (.cells #[.slice a1 n1 c1, .int .i64 x, .bool b0] t fr)) (k : Kp [g] w w') {v : Value} {s : Bool × List Int} (h : SgV w v (ansG s)) : SgV w' v (ansG s) := by
  have hl : ((ansG s).ps.length = 0 ∨ 2 ≤ (ansG s).ps.length) ∧ ((ansG s).qs.length = 0 ∨ 2 ≤ (ansG s).qs.length) := by
    cases ho : okG s with
    | true => rw [ansG_yes ho]; exact ⟨.inr (by show 2 ≤ (chP 64 _).length; rw [chP_len]; omega), .inr (by show 2 ≤ (chP 4 _).length; rw [chP_len]; omega)⟩
    | false => rw [ansG_no ho]; exact ⟨.inl rfl, .inl rfl⟩
  obtain ⟨a, m, c, vp, vq, e, h1, h2⟩ := h
  obtain ⟨vp', vq', lp, lq, e', k1, k2, k3, k4⟩ := h2
  refine ⟨a, m, c, vp, vq, e, ⟨Sl.offBy h1.1 (noBy_rr hg) k, h1.2⟩, vp', vq', lp, lq, e', lists_off3 hg k k1 ?_, k2, lists_off3 hg k k3 ?_, k4⟩
  · rw [← List.length_map (f := (·.2)), k2]; exact hl.1
  · rw [← List.length_map (f := (·.2)), k4]; exact hl.2
end

set_option maxRecDepth 100000 in
set_option maxHeartbeats 8000000 in
theorem lreads_any (vb : Value) (B : List Int) (w : World) (hS : Sl w vb B) (hB : Bs B) (hl : B.length ≤ 140737488351232) (hv : ∀ k, vb.ownBlock = some k → k < w.heap.size) :
    Calls Tryz.prog 9 #[vb] w fun e w' => e = .returned (.bool true) ∧ Kp [] w w' := by
  have HRd := hide (read_any vb B w hS (by omega))
  have HS := hide (fun w' (k : Kp [] w w') => hS.kept k (by simp))
  have HB := hide hB
  have HL := hide hl
  have HV := hide hv
  obtain ⟨ab, cb, hvb, -⟩ := hS
  obtain ⟨nb, hnb⟩ : ∃ n, n = B.length := ⟨_, rfl⟩
  rw [← hnb] at hvb
  subst hvb
  obtain ⟨og, hog⟩ : ∃ b, b = okG (false, B) := ⟨_, rfl⟩
  obtain ⟨od, hod⟩ : ∃ b, b = okD B := ⟨_, rfl⟩
  have HOG := hide hog
  have HOD := hide hod
  clear hB hl hv hnb hog hod
  go_enter Tryz.func9, Tryz.ntmps9
  go_wp2_with fail
  refine (unhide HRd).mono ?_
  rintro ee w2 ⟨q, v2, rfl, hq2, R2, hv2, K2⟩
  obtain ⟨w3, hw3⟩ : ∃ w3, w3 = w2.alloc (.cells #[.slice ab nb cb, .int .i64 0, .bool false] 69) := ⟨_, rfl⟩
  obtain ⟨qr, hqr⟩ : ∃ g, g = w2.heap.size := ⟨_, rfl⟩
  have K3 : Kp [] w2 w3 := by rw [hw3]; exact (Kp.refl [] w2).alloc _
  have Gr3 : w3.heap[qr]? = some (.cells #[.slice ab nb cb, .int .i64 0, .bool false] 69 (0, 0)) := by rw [hw3, hqr]; exact heap_alloc_new w2 _
  have hqlt : q < w2.heap.size := lt_of_block R2.1
  have HGt := hide (ckget_any q v2 (false, B) w3 (R2.kept K3 (by simp) (by simp)) (fun k hk => Nat.lt_of_lt_of_le (hv2 k hk).2 K3.size) (unhide HB) (by have := unhide HL; show B.length ≤ _; omega))
  rw [← unhide HOG] at HGt
  have HK3 := hide (K2.trans K3)
  have HGr3 := hide Gr3
  have HV2 := hide hv2
  have HQ := hide hq2
  have HQL := hide hqlt
  have HW3 := hide hw3
  have HQR := hide hqr
  clear HRd R2 hv2 K2 K3 Gr3 hq2 hqlt hw3 hqr
  go_wp2_with fail
  rw [← unhide HW3, ← unhide HQR]
  refine (unhide HGt).mono ?_
  rintro ee w4 ⟨v4, rfl, V4, L4⟩
  obtain ⟨a1, m1, c1, ap1, np1, cp1, aq1, nq1, cq1, rfl, -, -⟩ := V4.shape
  obtain ⟨n, hn⟩ : ∃ n, n = (ansG (false, B)).n := ⟨_, rfl⟩
  obtain ⟨i, hi⟩ : ∃ n, n = (ansG (false, B)).i := ⟨_, rfl⟩
  rw [← hn, ← hi] at V4 ⊢
  have HN := hide hn
  have HI := hide hi
  have hQ := unhide HQ
  have hQL := unhide HQL
  have hQR := unhide HQR
  have HK4 := hide ((unhide HK3).then L4.2 (fun k hk => .inr (by simp at hk; omega)))
  have HGr4 := hide (L4.2.heap (unhide HGr3) (by simp; omega))
  obtain ⟨⟨r4, R4, O4⟩, -⟩ := L4
  have HR4 := hide R4
  have HO4 := hide O4
  have HV4 := hide V4
  have Ga := heap_alloc_new w4 (.cells #[.int .i64 0, .slice none 0 0, .int .i64 0, .slice none 0 0, .slice none 0 0] 30)
  have HKa : Hid (Kp [] w4 (w4.alloc (.cells #[.int .i64 0, .slice none 0 0, .int .i64 0, .slice none 0 0, .slice none 0 0] 30))) := (Kp.refl [] w4).alloc _
  clear HGt V4 R4 O4 hn hi hQ hQL hQR HGr3 HK3 HW3
  go_wp2_with (refine wpList_store_flat rfl 30 (.tmp 5) (.tmp 22) rfl w4.heap.size 0 rfl _ _ [.int .i64 n, .slice a1 m1 c1, .int .i64 i, .slice ap1 np1 cp1, .slice aq1 nq1 cq1] Ga rfl (by simp) Tryz.sgdSize (by simp [Value.oneCell']) #[.int .i64 n, .slice a1 m1 c1, .int .i64 i, .slice ap1 np1 cp1, .slice aq1 nq1 cq1] rfl ?_; intro w5 Gw5 Kw5; refine Hid.out ?_)
  obtain ⟨g5, hg5⟩ : ∃ g, g = w4.heap.size := ⟨_, rfl⟩
  have Kw4w5 : Kp [] w4 w5 := (unhide HKa).then Kw5 (fun i hi => .inr (by simp at hi; omega))
  rw [← hg5] at Gw5 ⊢
  clear hg5
  have HV5 := hide ((unhide HV4).kept Kw4w5)
  have HR5 := hide ((unhide HR4).kept Kw4w5 (by simp) (by simp))
  have hGr5 := Kw4w5.heap (unhide HGr4) (by simp)
  have HGr5 := hide hGr5
  have HK5 := hide ((unhide HK4).trans Kw4w5)
  have HG5 := hide Gw5
  have hbl : (∀ k, (Value.slice ab nb cb).ownBlock = some k → k < w5.heap.size) := fun k hk => Nat.lt_of_lt_of_le (unhide HV k hk) (unhide HK5).size
  have hne : (Value.slice ab nb cb).ownBlock ≠ some qr := fun e => by have := unhide HV qr e; have := unhide HQR; have := unhide HQ; have := unhide HQL; omega
  have hRR5 : RR w5 qr (.slice ab nb cb) 0 false B := ⟨hGr5, unhide HS w5 (unhide HK5), hne, by omega⟩
  have HRg := hide (refget_any qr (.slice ab nb cb) B (false, B) w5 0 false hRR5 (by rfl) hbl (unhide HB) (by have := unhide HL; omega))
  rw [← unhide HOG] at HRg
  clear Ga HKa Gw5 Kw5 Kw4w5 HV4 HR4 HGr4 HK4 hGr5 hbl hne hRR5
  refine hide ?_
  go_wp2_with fail
  refine (unhide HRg).mono ?_
  rintro ee w6 ⟨v6, rfl, V6, L6⟩
  obtain ⟨a2, m2, c2, ap2, np2, cp2, aq2, nq2, cq2, rfl, -, -⟩ := V6.shape
  rw [← unhide HN, ← unhide HI] at V6 ⊢
  have KL6 : Kp [qr] w5 w6 := by obtain ⟨_, _, _, _, K⟩ := L6; exact K
  have hQ := unhide HQ
  have hQL := unhide HQL
  have hQR := unhide HQR
  have hg5q : g5 ≠ qr := by
    intro e
    have h1 := unhide HGr5
    rw [← e, unhide HG5] at h1
    simp at h1
  have HV6 := hide V6
  have HV56 := hide (sg_off3 (unhide HGr5) KL6 (unhide HV5))
  have HR6 := hide ((unhide HR5).kept KL6 (by simp; omega) (fun k hk => by have := unhide HV2 k (unhide HO4 k hk); simp; omega))
  have HG56 := hide (KL6.heap (unhide HG5) (by simpa using hg5q))
  have HK6 := hide ((unhide HK5).then KL6 (fun k hk => .inr (by simp at hk; omega)))
  have HL6 : Hid (∃ j bad, RR w6 qr (.slice ab nb cb) j bad B ∧ (g3 (false, B)).2 = (bad, rest j bad B)) := by
    obtain ⟨j, bad, R, e, _⟩ := L6
    exact ⟨j, bad, R, e⟩
  have Ga := heap_alloc_new w6 (.cells #[.int .i64 0, .slice none 0 0, .int .i64 0, .slice none 0 0, .slice none 0 0] 30)
  have HKa : Hid (Kp [] w6 (w6.alloc (.cells #[.int .i64 0, .slice none 0 0, .int .i64 0, .slice none 0 0, .slice none 0 0] 30))) := (Kp.refl [] w6).alloc _
  clear HRg V6 L6 KL6 hQ hQL hQR hg5q HV5 HR5 HGr5 HK5 HG5
  go_wp2_with (refine wpList_store_flat rfl 30 (.tmp 7) (.tmp 27) rfl w6.heap.size 0 rfl _ _ [.int .i64 n, .slice a2 m2 c2, .int .i64 i, .slice ap2 np2 cp2, .slice aq2 nq2 cq2] Ga rfl (by simp) Tryz.sgdSize (by simp [Value.oneCell']) #[.int .i64 n, .slice a2 m2 c2, .int .i64 i, .slice ap2 np2 cp2, .slice aq2 nq2 cq2] rfl ?_; intro w7 Gw7 Kw7; refine Hid.out ?_)
  obtain ⟨g7, hg7⟩ : ∃ g, g = w6.heap.size := ⟨_, rfl⟩
  have Kw6w7 : Kp [] w6 w7 := (unhide HKa).then Kw7 (fun i hi => .inr (by simp at hi; omega))
  rw [← hg7] at Gw7 ⊢
  clear hg7
  have HV57 := hide ((unhide HV56).kept Kw6w7)
  have HV7 := hide ((unhide HV6).kept Kw6w7)
  have HR7 := hide ((unhide HR6).kept Kw6w7 (by simp) (by simp))
  have HG57 := hide (Kw6w7.heap (unhide HG56) (by simp))
  have HG7 := hide Gw7
  have HK7 := hide ((unhide HK6).trans Kw6w7)
  have HL7 : Hid (∃ j bad, RR w7 qr (.slice ab nb cb) j bad B ∧ (g3 (false, B)).2 = (bad, rest j bad B)) := by
    obtain ⟨j, bad, R, e⟩ := unhide HL6
    exact ⟨j, bad, R.kept Kw6w7 (by simp) (by simp), e⟩
  have HDc := hide (ckdec_any (.slice ab nb cb) B w7 (unhide HS w7 (unhide HK7)) (unhide HB) (by have := unhide HL; omega))
  rw [← unhide HOD] at HDc
  clear Ga HKa Gw7 Kw7 Kw6w7 HV56 HV6 HR6 HG56 HK6 HL6
  refine hide ?_
  go_wp2_with fail
  refine (unhide HDc).mono ?_
  rintro ee w8 ⟨v8, rfl, V8, K8⟩
  obtain ⟨a3, m3, c3, ap3, np3, cp3, aq3, nq3, cq3, rfl, -, -⟩ := V8.shape
  obtain ⟨nd, hnd⟩ : ∃ n, n = (ansD B).n := ⟨_, rfl⟩
  obtain ⟨jd, hjd⟩ : ∃ n, n = (ansD B).i := ⟨_, rfl⟩
  rw [← hnd, ← hjd] at V8 ⊢
  have HV8 := hide V8
  have HV58 := hide ((unhide HV57).kept K8)
  have HV78 := hide ((unhide HV7).kept K8)
  have HR8 := hide ((unhide HR7).kept K8 (by simp) (by simp))
  have HG58 := hide (K8.heap (unhide HG57) (by simp))
  have HG78 := hide (K8.heap (unhide HG7) (by simp))
  have HK8 := hide ((unhide HK7).trans K8)
  have HL8 : Hid (∃ j bad, RR w8 qr (.slice ab nb cb) j bad B ∧ (g3 (false, B)).2 = (bad, rest j bad B)) := by
    obtain ⟨j, bad, R, e⟩ := unhide HL7
    exact ⟨j, bad, R.kept K8 (by simp) (by simp), e⟩
  have Ga := heap_alloc_new w8 (.cells #[.int .i64 0, .slice none 0 0, .int .i64 0, .slice none 0 0, .slice none 0 0] 30)
  have HKa : Hid (Kp [] w8 (w8.alloc (.cells #[.int .i64 0, .slice none 0 0, .int .i64 0, .slice none 0 0, .slice none 0 0] 30))) := (Kp.refl [] w8).alloc _
  clear HDc V8 K8 hnd hjd HV57 HV7 HR7 HG57 HG7 HK7 HL7
  go_wp2_with (refine wpList_store_flat rfl 30 (.tmp 9) (.tmp 32) rfl w8.heap.size 0 rfl _ _ [.int .i64 nd, .slice a3 m3 c3, .int .i64 jd, .slice ap3 np3 cp3, .slice aq3 nq3 cq3] Ga rfl (by simp) Tryz.sgdSize (by simp [Value.oneCell']) #[.int .i64 nd, .slice a3 m3 c3, .int .i64 jd, .slice ap3 np3 cp3, .slice aq3 nq3 cq3] rfl ?_; intro w9 Gw9 Kw9; refine Hid.out ?_)
  obtain ⟨g9, hg9⟩ : ∃ g, g = w8.heap.size := ⟨_, rfl⟩
  have Kw8w9 : Kp [] w8 w9 := (unhide HKa).then Kw9 (fun i hi => .inr (by simp at hi; omega))
  rw [← hg9] at Gw9 ⊢
  clear hg9
  have HV9 := hide ((unhide HV8).kept Kw8w9)
  have HV59 := hide ((unhide HV58).kept Kw8w9)
  have HV79 := hide ((unhide HV78).kept Kw8w9)
  have HR9 := hide ((unhide HR8).kept Kw8w9 (by simp) (by simp))
  have hG59 := Kw8w9.heap (unhide HG58) (by simp)
  have hG79 := Kw8w9.heap (unhide HG78) (by simp)
  have HK9 := hide ((unhide HK8).trans Kw8w9)
  obtain ⟨j9, bad9, RR9, e9⟩ : ∃ j bad, RR w9 qr (.slice ab nb cb) j bad B ∧ (g3 (false, B)).2 = (bad, rest j bad B) := by
    obtain ⟨j, bad, R, e⟩ := unhide HL8
    exact ⟨j, bad, R.kept Kw8w9 (by simp) (by simp), e⟩
  have HRR9 := hide RR9
  have HE9 := hide e9
  have HG59 := hide hG59
  have HG79 := hide hG79
  have HG99 := hide Gw9
  clear Ga HKa Gw9 Kw9 Kw8w9 HV8 HV58 HV78 HR8 HG58 HG78 HK8 HL8 RR9 e9 hG59 hG79
  refine hide ?_
  cases og
  · -- neither is read
    have hodf : od = false := by rw [unhide HOD]; unfold okD; rw [← unhide HOG]; rfl
    have hsd : ansD B = sg0 := ansD_no (by rw [← unhide HOD]; exact hodf)
    clear HOD
    subst hodf
    have xx0 : w9.cell? ⟨g5, 0, none⟩ = some (.int .i64 n) := by rw [cell_of_row _ g5 0 _ _ _ (unhide HG59)]; rfl
    have xx1 : w9.cell? ⟨g5, 1, none⟩ = some (.slice a1 m1 c1) := by rw [cell_of_row _ g5 1 _ _ _ (unhide HG59)]; rfl
    have xx2 : w9.cell? ⟨g5, 2, none⟩ = some (.int .i64 i) := by rw [cell_of_row _ g5 2 _ _ _ (unhide HG59)]; rfl
    have xx3 : w9.cell? ⟨g5, 3, none⟩ = some (.slice ap1 np1 cp1) := by rw [cell_of_row _ g5 3 _ _ _ (unhide HG59)]; rfl
    have xx4 : w9.cell? ⟨g5, 4, none⟩ = some (.slice aq1 nq1 cq1) := by rw [cell_of_row _ g5 4 _ _ _ (unhide HG59)]; rfl
    have yy0 : w9.cell? ⟨g7, 0, none⟩ = some (.int .i64 n) := by rw [cell_of_row _ g7 0 _ _ _ (unhide HG79)]; rfl
    have yy1 : w9.cell? ⟨g7, 1, none⟩ = some (.slice a2 m2 c2) := by rw [cell_of_row _ g7 1 _ _ _ (unhide HG79)]; rfl
    have yy2 : w9.cell? ⟨g7, 2, none⟩ = some (.int .i64 i) := by rw [cell_of_row _ g7 2 _ _ _ (unhide HG79)]; rfl
    have yy3 : w9.cell? ⟨g7, 3, none⟩ = some (.slice ap2 np2 cp2) := by rw [cell_of_row _ g7 3 _ _ _ (unhide HG79)]; rfl
    have yy4 : w9.cell? ⟨g7, 4, none⟩ = some (.slice aq2 nq2 cq2) := by rw [cell_of_row _ g7 4 _ _ _ (unhide HG79)]; rfl
    have HE := hide (lequal_any _ _ _ w9 (unhide HV59) (unhide HV79))
    simp only [errX_f]
    go_wp2_with fail
    refine (unhide HE).mono ?_
    rintro ee wa ⟨rfl, Ka⟩
    have hGa := Ka.heap (unhide HG99) (by simp)
    have hVa := (unhide HV9).kept Ka
    rw [hsd] at hVa
    have zz0 : wa.cell? ⟨g9, 0, none⟩ = some (.int .i64 nd) := by rw [cell_of_row _ g9 0 _ _ _ (hGa)]; rfl
    have zz1 : wa.cell? ⟨g9, 1, none⟩ = some (.slice a3 m3 c3) := by rw [cell_of_row _ g9 1 _ _ _ (hGa)]; rfl
    have zz2 : wa.cell? ⟨g9, 2, none⟩ = some (.int .i64 jd) := by rw [cell_of_row _ g9 2 _ _ _ (hGa)]; rfl
    have zz3 : wa.cell? ⟨g9, 3, none⟩ = some (.slice ap3 np3 cp3) := by rw [cell_of_row _ g9 3 _ _ _ (hGa)]; rfl
    have zz4 : wa.cell? ⟨g9, 4, none⟩ = some (.slice aq3 nq3 cq3) := by rw [cell_of_row _ g9 4 _ _ _ (hGa)]; rfl
    have HE2 := hide (lequal_any _ _ sg0 wa hVa (sgd0_v wa))
    have HKa := hide ((unhide HK9).trans Ka)
    clear HE xx0 xx1 xx2 xx3 xx4 yy0 yy1 yy2 yy3 yy4 Ka hGa hVa hsd
    go_wp2_with fail
    refine (unhide HE2).mono ?_
    rintro ee wb ⟨rfl, Kb⟩
    have HKb := hide ((unhide HKa).trans Kb)
    clear HE2 zz0 zz1 zz2 zz3 zz4 Kb
    go_wp2_with fail
    go_ret
    exact ⟨rfl, unhide HKb⟩
  · have hb9 : bad9 = false := by
      have := okD_end (unhide HOG).symm
      rw [unhide HE9] at this
      exact this
    have hod2 : od = (rest j9 bad9 B).isEmpty := by
      rw [unhide HOD]
      unfold okD
      rw [← unhide HOG, unhide HE9]
      rfl
    have HEn := hide (rend_any qr (.slice ab nb cb) j9 bad9 B w9 (unhide HRR9))
    rw [← hod2, hb9] at HEn
    simp only [Bool.not_false, Bool.true_and] at HEn
    have HB9 := hide hb9
    clear hb9 hod2
    go_wp2_with fail
    refine (unhide HEn).mono ?_
    rintro ee wa ⟨rfl, na, hwa⟩
    have Ka : Kp [] w9 wa := by rw [hwa]; exact kp_drewN _ _
    have hGa5 := Ka.heap (unhide HG59) (by simp)
    have hGa7 := Ka.heap (unhide HG79) (by simp)
    have xx0 : wa.cell? ⟨g5, 0, none⟩ = some (.int .i64 n) := by rw [cell_of_row _ g5 0 _ _ _ (hGa5)]; rfl
    have xx1 : wa.cell? ⟨g5, 1, none⟩ = some (.slice a1 m1 c1) := by rw [cell_of_row _ g5 1 _ _ _ (hGa5)]; rfl
    have xx2 : wa.cell? ⟨g5, 2, none⟩ = some (.int .i64 i) := by rw [cell_of_row _ g5 2 _ _ _ (hGa5)]; rfl
    have xx3 : wa.cell? ⟨g5, 3, none⟩ = some (.slice ap1 np1 cp1) := by rw [cell_of_row _ g5 3 _ _ _ (hGa5)]; rfl
    have xx4 : wa.cell? ⟨g5, 4, none⟩ = some (.slice aq1 nq1 cq1) := by rw [cell_of_row _ g5 4 _ _ _ (hGa5)]; rfl
    have yy0 : wa.cell? ⟨g7, 0, none⟩ = some (.int .i64 n) := by rw [cell_of_row _ g7 0 _ _ _ (hGa7)]; rfl
    have yy1 : wa.cell? ⟨g7, 1, none⟩ = some (.slice a2 m2 c2) := by rw [cell_of_row _ g7 1 _ _ _ (hGa7)]; rfl
    have yy2 : wa.cell? ⟨g7, 2, none⟩ = some (.int .i64 i) := by rw [cell_of_row _ g7 2 _ _ _ (hGa7)]; rfl
    have yy3 : wa.cell? ⟨g7, 3, none⟩ = some (.slice ap2 np2 cp2) := by rw [cell_of_row _ g7 3 _ _ _ (hGa7)]; rfl
    have yy4 : wa.cell? ⟨g7, 4, none⟩ = some (.slice aq2 nq2 cq2) := by rw [cell_of_row _ g7 4 _ _ _ (hGa7)]; rfl
    have HE := hide (lequal_any _ _ _ wa ((unhide HV59).kept Ka) ((unhide HV79).kept Ka))
    have HKa := hide ((unhide HK9).trans Ka)
    have HK9a := hide Ka
    have HGa7 := hide hGa7
    clear HEn hwa Ka hGa5 hGa7
    cases od
    · have hsd : ansD B = sg0 := ansD_no (unhide HOD).symm
      simp only [errX_f]
      go_wp2_with fail
      refine (unhide HE).mono ?_
      rintro ee wb ⟨rfl, Kb⟩
      have hGb := ((unhide HK9a).trans Kb).heap (unhide HG99) (by simp)
      have hVb := (unhide HV9).kept ((unhide HK9a).trans Kb)
      rw [hsd] at hVb
      have zz0 : wb.cell? ⟨g9, 0, none⟩ = some (.int .i64 nd) := by rw [cell_of_row _ g9 0 _ _ _ (hGb)]; rfl
      have zz1 : wb.cell? ⟨g9, 1, none⟩ = some (.slice a3 m3 c3) := by rw [cell_of_row _ g9 1 _ _ _ (hGb)]; rfl
      have zz2 : wb.cell? ⟨g9, 2, none⟩ = some (.int .i64 jd) := by rw [cell_of_row _ g9 2 _ _ _ (hGb)]; rfl
      have zz3 : wb.cell? ⟨g9, 3, none⟩ = some (.slice ap3 np3 cp3) := by rw [cell_of_row _ g9 3 _ _ _ (hGb)]; rfl
      have zz4 : wb.cell? ⟨g9, 4, none⟩ = some (.slice aq3 nq3 cq3) := by rw [cell_of_row _ g9 4 _ _ _ (hGb)]; rfl
      have HE2 := hide (lequal_any _ _ sg0 wb hVb (sgd0_v wb))
      have HK9b := hide ((unhide HK9a).trans Kb)
      clear HE xx0 xx1 xx2 xx3 xx4 yy0 yy1 yy2 yy3 yy4 Kb hGb hVb hsd
      go_wp2_with fail
      refine (unhide HE2).mono ?_
      rintro ee wc ⟨rfl, Kc⟩
      have HK9c := hide ((unhide HK9b).trans Kc)
      clear HE2 zz0 zz1 zz2 zz3 zz4 Kc
      have HLf := hide (left_any q r4 _ _ wc ((unhide HR9).kept (unhide HK9c) (by simp) (by simp)))
      go_wp2_with fail
      refine (unhide HLf).mono ?_
      rintro ee wd ⟨rfl, hwd⟩
      subst wd
      clear HLf
      have hC := rleft_any qr (.slice ab nb cb) j9 bad9 B wc ((unhide HRR9).kept (unhide HK9c) (by simp) (by simp))
      rw [show rest j9 bad9 B = (g3 (false, B)).2.2 from by rw [unhide HE9]] at hC
      have HLr := hide hC
      obtain ⟨ll, hll⟩ : ∃ l, l = (g3 (false, B)).2.2.length := ⟨_, rfl⟩
      rw [← hll] at HLr ⊢
      clear hC hll
      go_wp2_with fail
      refine (unhide HLr).mono ?_
      rintro ee wd ⟨rfl, nd', hwd⟩
      have HKd : Hid (Kp [] w9 wd) := by rw [hwd]; exact (unhide HK9c).trans (kp_drewN _ _)
      clear HLr hwd
      go_wp2_with fail
      go_ret
      exact ⟨rfl, (unhide HK9).trans (unhide HKd)⟩
    · simp only [errX_t]
      go_wp2_with fail
      refine (unhide HE).mono ?_
      rintro ee wb ⟨rfl, Kb⟩
      have hGb := ((unhide HK9a).trans Kb).heap (unhide HG99) (by simp)
      have hGb7 := Kb.heap (unhide HGa7) (by simp)
      have hVb := (unhide HV9).kept ((unhide HK9a).trans Kb)
      have hs : ansD B = ansG (false, B) := by rw [ansD_yes (unhide HOD).symm, ansG_yes (unhide HOG).symm]
      rw [hs] at hVb
      have zz0 : wb.cell? ⟨g9, 0, none⟩ = some (.int .i64 nd) := by rw [cell_of_row _ g9 0 _ _ _ (hGb)]; rfl
      have zz1 : wb.cell? ⟨g9, 1, none⟩ = some (.slice a3 m3 c3) := by rw [cell_of_row _ g9 1 _ _ _ (hGb)]; rfl
      have zz2 : wb.cell? ⟨g9, 2, none⟩ = some (.int .i64 jd) := by rw [cell_of_row _ g9 2 _ _ _ (hGb)]; rfl
      have zz3 : wb.cell? ⟨g9, 3, none⟩ = some (.slice ap3 np3 cp3) := by rw [cell_of_row _ g9 3 _ _ _ (hGb)]; rfl
      have zz4 : wb.cell? ⟨g9, 4, none⟩ = some (.slice aq3 nq3 cq3) := by rw [cell_of_row _ g9 4 _ _ _ (hGb)]; rfl
      have uu0 : wb.cell? ⟨g7, 0, none⟩ = some (.int .i64 n) := by rw [cell_of_row _ g7 0 _ _ _ (hGb7)]; rfl
      have uu1 : wb.cell? ⟨g7, 1, none⟩ = some (.slice a2 m2 c2) := by rw [cell_of_row _ g7 1 _ _ _ (hGb7)]; rfl
      have uu2 : wb.cell? ⟨g7, 2, none⟩ = some (.int .i64 i) := by rw [cell_of_row _ g7 2 _ _ _ (hGb7)]; rfl
      have uu3 : wb.cell? ⟨g7, 3, none⟩ = some (.slice ap2 np2 cp2) := by rw [cell_of_row _ g7 3 _ _ _ (hGb7)]; rfl
      have uu4 : wb.cell? ⟨g7, 4, none⟩ = some (.slice aq2 nq2 cq2) := by rw [cell_of_row _ g7 4 _ _ _ (hGb7)]; rfl
      have HE2 := hide (lequal_any _ _ _ wb hVb ((unhide HV79).kept ((unhide HK9a).trans Kb)))
      have HK9b := hide ((unhide HK9a).trans Kb)
      clear HE xx0 xx1 xx2 xx3 xx4 yy0 yy1 yy2 yy3 yy4 Kb hGb hVb hs hGb7
      go_wp2_with fail
      refine (unhide HE2).mono ?_
      rintro ee wc ⟨rfl, Kc⟩
      have HK9c := hide ((unhide HK9b).trans Kc)
      clear HE2 zz0 zz1 zz2 zz3 zz4 uu0 uu1 uu2 uu3 uu4 Kc
      have HLf := hide (left_any q r4 _ _ wc ((unhide HR9).kept (unhide HK9c) (by simp) (by simp)))
      go_wp2_with fail
      refine (unhide HLf).mono ?_
      rintro ee wd ⟨rfl, hwd⟩
      subst wd
      clear HLf
      have hC := rleft_any qr (.slice ab nb cb) j9 bad9 B wc ((unhide HRR9).kept (unhide HK9c) (by simp) (by simp))
      rw [show rest j9 bad9 B = (g3 (false, B)).2.2 from by rw [unhide HE9]] at hC
      have HLr := hide hC
      obtain ⟨ll, hll⟩ : ∃ l, l = (g3 (false, B)).2.2.length := ⟨_, rfl⟩
      rw [← hll] at HLr ⊢
      clear hC hll
      go_wp2_with fail
      refine (unhide HLr).mono ?_
      rintro ee wd ⟨rfl, nd', hwd⟩
      have HKd : Hid (Kp [] w9 wd) := by rw [hwd]; exact (unhide HK9c).trans (kp_drewN _ _)
      clear HLr hwd
      go_wp2_with fail
      go_ret
      exact ⟨rfl, (unhide HK9).trans (unhide HKd)⟩
end Go.Proofs.YtbkipibmaghejaaGreatDoor
