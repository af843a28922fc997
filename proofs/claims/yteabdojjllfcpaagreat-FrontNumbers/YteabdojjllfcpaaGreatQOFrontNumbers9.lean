/-
  What the document says to a submission: the law's own answer.
-/
import Derived.Deep.CutBlock
import Derived.Test.YteabdojjllfcpaaGreatQOFrontNumbers8
namespace Go.Proofs.YteabdojjllfcpaaGreat
open Go.RowKit
open Go.Proofs
set_option linter.unusedVariables false
theorem find_at {α : Type} {l : List α} {p : α → Bool} (j : Nat) (h : j < l.length) (hno : ∀ e ∈ l.take j, p e = false) (hp : p l[j] = true) : l.find? p = some l[j] := by
  have e : l = l.take j ++ l[j] :: l.drop (j + 1) := by rw [List.getElem_cons_drop, List.take_append_drop]
  have h1 : (l.take j).find? p = none := List.find?_eq_none.2 (fun x hx => by rw [hno x hx]; simp)
  have h2 : (l.take j ++ l[j] :: l.drop (j + 1)).find? p = some l[j] := by rw [List.find?_append, h1, List.find?_cons_of_pos hp]; rfl
  rw [← e] at h2
  exact h2
theorem fdU_in {l : List (List Int)} {x : List Int} (h : x ∈ l) : fdU l x = (l.idxOf x : Int) := by unfold fdU; rw [if_pos h]
theorem fdU_out {l : List (List Int)} {x : List Int} (h : x ∉ l) : fdU l x = -1 := by unfold fdU; rw [if_neg h]
section
variable {w0 w : World} {A : Nat → Prop} {x pw : Nat} {vi : Value} {li : List (Value × List Int)} {vrc : Value} {lr : List (Value × List Int)} {vq : Value} {tq : List (Int × Int)} {vf vl vd ve vk : Value} {r s t : Int}
set_option maxRecDepth 100000 in
set_option maxHeartbeats 16000000 in
theorem fans_any (hW : Wd w x vf vl vd ve vk r s t (.pointer (some ⟨pw, 0, none⟩)) vrc vq) (hL : Lw w0 w A x pw vi li vrc lr vq tq) (hA : ∀ i, (A i ∨ i = x) → i < w.heap.size) (hx0 : w0.heap.size ≤ x) (hw : w0.heap.size ≤ w.heap.size) (vb : Value) (b : List Int) (hS : Sl w vb b) (hB : Bs b) (hbl : b.length ≤ 65535) (hvb : ∀ k, vb.ownBlock = some k → k < w.heap.size ∧ ¬ ((A k ∨ k = x) ∨ k = pw ∨ vi.ownBlock = some k) ∧ vrc.ownBlock ≠ some k) (now : Int) (its : List (List Int)) (hits : li.map (·.2) = its) (rc : List (List Int)) (hrc : lr.map (·.2) = rc) (htq : ∀ e ∈ tq, ∃ j : Nat, e.1 = j ∧ j < rc.length) (hil : its.length ≤ 1000) (hrl : rc.length ≤ 1000) (hql : tq.length ≤ 1000) (kk nn : Int) (rc' : List (List Int)) (tq' : List (Int × Int)) (hans : ansP its rc tq r b now = (kk, nn, rc', tq')) :
    Calls Tryz.prog 48 #[.pointer (some ⟨x, 0, none⟩), vb, .int .i64 now] w fun e w' => e = .returned (ansV kk nn) ∧ ∃ vrc' lr' vq', Wd w' x vf vl vd ve vk r s t (.pointer (some ⟨pw, 0, none⟩)) vrc' vq' ∧ Lw w0 w' A x pw vi li vrc' lr' vq' tq' ∧ lr'.map (·.2) = rc' ∧ ∃ T, Kp T w w' ∧ ∀ i ∈ T, i = x ∨ vrc.ownBlock = some i := by
  have K1 : Kp [] w (w.alloc (.cells #[.int .i64 0, .int .i64 0] 57)) := (Kp.refl [] w).alloc _
  have HD := hide (rdecode_any vb b _ (hS.kept K1 (by simp)) hB (by omega) (fun k hk => Nat.lt_of_lt_of_le (hvb k hk).1 K1.size))
  have G1 : Hid ((w.alloc (.cells #[.int .i64 0, .int .i64 0] 57)).heap[w.heap.size]? = some (.cells #[.int .i64 0, .int .i64 0] 57 (0, 0))) := heap_alloc_new w _
  have HK1 := hide K1
  have HW := hide hW
  have HL := hide hL
  have HS := hide hS
  have HB := hide hB
  have Hbl := hide hbl
  have Hvb := hide hvb
  have Hits := hide hits
  have Hrc := hide hrc
  have Htq := hide htq
  have Hlen := hide (And.intro hil (And.intro hrl hql))
  have Hans := hide hans
  have HAl := hide hA
  have Hx0 := hide hx0
  have Hw := hide hw
  obtain ⟨qa, qc, evq, -⟩ := hL.q
  obtain ⟨nq, hnq⟩ : ∃ n, n = tq.length := ⟨_, rfl⟩
  rw [← hnq] at evq
  subst evq
  obtain ⟨ra, rcp, evr⟩ := hL.alr.row.1.1.shape
  obtain ⟨nr, hnr⟩ : ∃ n, n = rc.length := ⟨_, rfl⟩
  rw [List.length_map, ← List.length_map (f := (·.2)), hrc, ← hnr] at evr
  subst evr
  have Hnq := hide hnq
  have Hnr := hide hnr
  obtain ⟨ab, cb, evb, -⟩ := hS
  obtain ⟨nb, hnb⟩ : ∃ n, n = b.length := ⟨_, rfl⟩
  rw [← hnb] at evb
  subst evb
  clear K1 hW hL hB hbl hvb hits hrc htq hil hrl hql hans hA hx0 hw hnb hnq hnr
  go_enter Tryz.func48, Tryz.ntmps48
  go_wp2_with fail
  refine HD.out.mono ?_
  rintro ee w2 ⟨vm, rfl, ⟨af, nf, cf, an, nn2, cn, rfl, -, -, -⟩, K2⟩
  have HK2 := hide K2
  clear HD K2
  go_wp2_with (refine wpList_store_man rfl (.tmp 7) (.tmp 14) rfl w2.heap.size rfl _ _ _ _ _ _ _ _ (heap_alloc_new w2 _) rfl ⟨rfl, rfl, rfl, rfl⟩ ?_; intro wa Ga Ka; refine Hid.out ?_)
  have KA : Kp [] (w.alloc (.cells #[.int .i64 0, .int .i64 0] 57)) wa := (HK2.out.alloc _).then Ka (fun i hi => .inr (by simp at hi; subst hi; exact HK2.out.size))
  have GA := hide (KA.heap G1.out (by simp))
  have HKA := hide (HK1.out.trans KA)
  have hsz1 : w.heap.size < wa.heap.size := by have := KA.size; simp at this; omega
  have Hsz := hide hsz1
  clear Ka Ga KA G1 HK2 HK1 hsz1
  have HWa := hide (HW.out.kept HKA.out (by simp))
  have HLa := hide (HL.out.on HKA.out)
  have HSa := hide (HS.out.kept HKA.out (by simp))
  -- what only made memory, and tells
  have done : ∀ (a b : Int) (w4 w5 : World), Kp [] wa w4 → Kp [w.heap.size] w4 w5 → rc' = rc → tq' = tq → ∃ vrc' lr' vq', Wd w5 x vf vl vd ve vk r s t (.pointer (some ⟨pw, 0, none⟩)) vrc' vq' ∧ Lw w0 w5 A x pw vi li vrc' lr' vq' tq' ∧ lr'.map (·.2) = rc' ∧ ∃ T, Kp T w w5 ∧ ∀ i ∈ T, i = x ∨ (Value.slice ra nr rcp).ownBlock = some i := fun a b w4 w5 k4 k5 e1 e2 => by
    have kt : Kp [] w w5 := (HKA.out.trans k4).then k5 (fun i hi => .inr (by simp at hi; omega))
    subst e1 e2
    exact ⟨_, lr, _, HW.out.kept kt (by simp), HL.out.on kt, Hrc.out, [], kt, by simp⟩
  have HDone := hide done
  clear done
  cases hokb : okM b with
  | false =>
    have hs := Hans.out
    unfold ansP at hs
    rw [if_pos hokb] at hs
    simp only [Prod.mk.injEq] at hs
    obtain ⟨e1, e2, e3, e4⟩ := hs
    subst e1 e2 e3 e4
    refine hide ?_
    go_wp2_with (refine wpList_store_flat rfl 57 (.tmp 6) (.tmp 18) rfl w.heap.size 0 rfl _ _ [.int .i64 4, .int .i64 0] GA.out rfl (by simp) Tryz.ansSize (by simp [Value.oneCell']) #[.int .i64 4, .int .i64 0] rfl ?_; intro w4 G4 K4)

    refine bodyPost_ret (results_flat1 rfl _ rfl G4 Tryz.underlying57 rfl Tryz.ansSize) rfl ?_
    exact ⟨rfl, HDone.out 4 0 wa w4 (Kp.refl _ _) K4 (by trivial) (by trivial)⟩
  | true =>
    have hs := Hans.out
    unfold ansP at hs
    rw [if_neg (by rw [hokb]; decide)] at hs
    have hc8 := HWa.out.c8
    have HF := hide (rfind_any pw vi li (.slice ab nb cb) b (fdU its b) wa HLa.out.led.c0 (HLa.out.ali.row.lists (by have := congrArg List.length Hits.out; rw [List.length_map] at this; have := Hlen.out; omega)) HSa.out HB.out (by have := congrArg List.length Hits.out; rw [List.length_map] at this; have := Hlen.out; omega) (by rw [Hits.out]))
    by_cases hin : b ∈ its
    · rw [if_pos hin] at hs
      rw [fdU_in hin] at HF
      simp only [Prod.mk.injEq] at hs
      obtain ⟨e1, e2, e3, e4⟩ := hs
      obtain ⟨ix, hix⟩ : ∃ n : Nat, n = its.idxOf b := ⟨_, rfl⟩
      rw [← hix] at e2 HF
      have hge : decide ((ix : Int) ≥ 0) = true := decide_eq_true (by omega)
      subst e1 e2 e3 e4
      clear hix hin hokb
      refine hide ?_
      go_wp2_with fail
      refine HF.out.mono ?_
      rintro ee w3 ⟨rfl, K3⟩
      have HK3 := hide K3
      have G3 := hide (K3.heap GA.out (by simp))
      clear HF K3
      go_wp2_with (refine wpList_store_flat rfl 57 (.tmp 6) (.tmp 28) rfl w.heap.size 0 rfl _ _ [.int .i64 2, .int .i64 ix] G3.out rfl (by simp) Tryz.ansSize (by simp [Value.oneCell']) #[.int .i64 2, .int .i64 ix] rfl ?_; intro w4 G4 K4)
      refine bodyPost_ret (results_flat1 rfl _ rfl G4 Tryz.underlying57 rfl Tryz.ansSize) rfl ?_
      exact ⟨rfl, HDone.out 2 ix w3 w4 HK3.out K4 (by trivial) (by trivial)⟩
    · rw [if_neg hin] at hs
      rw [fdU_out hin] at HF
      have Hs := hide hs
      clear hs hin hokb
      refine hide ?_
      go_wp2_with fail
      refine HF.out.mono ?_
      rintro ee w3 ⟨rfl, K3⟩
      have HK3 := hide K3
      have G3 := hide (K3.heap GA.out (by simp))
      have HW3 := hide (HWa.out.kept HK3.out (by simp))
      have HL3 := hide (HLa.out.on HK3.out)
      have HS3 := hide (HSa.out.kept HK3.out (by simp))
      have hx10 := HW3.out.c10
      clear HF K3 hc8 HWa HLa HSa GA
      go_wp2_with fail
      go_loopw [10] (fun i wr => ∃ j : Nat, j ≤ nq ∧ i = .int .i64 j ∧ Kp [] w3 wr ∧ ∀ e ∈ tq.take j, (rc.getD e.1.toNat [] == b) = false) (fun i _ => nq - (intOf i).toNat)
      case atStart => exact ⟨0, by omega, rfl, Kp.refl _ _, by simp⟩
      case round =>
        clear hx10
        obtain ⟨j, hj, rfl, Kj, hNo⟩ := hrel
        have HKj := hide Kj
        have HNo := hide hNo
        have hx10 := (HW3.out.kept Kj (by simp)).c10
        have hjb : nq ≤ 1000 := by rw [Hnq.out]; exact Hlen.out.2.2
        clear Kj hNo
        by_cases hlt : j < nq
        · have hlt' : (j : Int) < (nq : Int) := by omega
          have hdi : decide ((j : Int) < (nq : Int)) = true := decide_eq_true hlt'
          have hjt : j < tq.length := by rw [← Hnq.out]; exact hlt
          obtain ⟨bq, oq, cq, evq, -, hcn, -⟩ := HL3.out.q.at j hjt
          injection evq with e1 e2 e3
          subst e1 e3
          obtain ⟨n, hn1, hn2⟩ := Htq.out _ (List.getElem_mem hjt)
          rw [hn1] at hcn
          have hnl : n < lr.length := by have := congrArg List.length Hrc.out; rw [List.length_map] at this; omega
          obtain ⟨gr, hgr, hcr⟩ := HL3.out.alr.row.1.1.at n (by rw [List.length_map]; exact hnl)
          subst hgr
          rw [List.getElem_map] at hcr
          obtain ⟨hSn, hBn⟩ := HL3.out.alr.row.1.2 _ (List.getElem_mem hnl)
          have hrn : lr[n].2 = rc[n] := by
            have h1 : (lr.map (·.2))[n]'(by rw [List.length_map]; exact hnl) = rc[n] := by simp only [Hrc.out]
            rw [← h1, List.getElem_map]
          obtain ⟨bn, hbn⟩ : ∃ y, y = rc[n] := ⟨_, rfl⟩
          rw [hrn, ← hbn] at hSn hBn
          obtain ⟨an2, cn2, evn, -⟩ := id hSn
          obtain ⟨mn, hmn⟩ : ∃ m, m = bn.length := ⟨_, rfl⟩
          rw [← hmn] at evn
          rw [evn] at hSn hcr
          have hgd : rc.getD tq[j].1.toNat [] = bn := by rw [hn1, hbn]; simp [List.getD_eq_getElem?_getD, hn2]
          have htk : tq.take (j + 1) = tq.take j ++ [tq[j]] := List.take_succ_eq_append_getElem hjt
          have hn' : (n : Int) < (nr : Int) := by have := Hnr.out; omega
          have hn0 : n ≤ 1000 := by have := Hlen.out.2.1; omega
          have HKd := hide (HKj.out.trans (kp_drew _))
          have d9 := (HW3.out.kept HKd.out (by simp)).c9
          have d10 := (HW3.out.kept HKd.out (by simp)).c10
          have d1 := HKd.out.cell hcn (by simp)
          have d2 := HKd.out.cell hcr (by simp)
          have v1 := (hSn.kept HKd.out (by simp)).conv (P := Tryz.prog) 28 9 5 Tryz.underlying28 Tryz.underlying5 Tryz.underlying9
          have v2 := (HS3.out.kept HKd.out (by simp)).conv (P := Tryz.prog) 28 9 5 Tryz.underlying28 Tryz.underlying5 Tryz.underlying9
          have Htk := hide htk
          have Hgd := hide hgd
          have Hn1 := hide hn1
          have Hjt := hide hjt
          by_cases hxy : bn = b
          · subst hxy
            obtain ⟨S1, hS1⟩ : ∃ S, S = strOfNums bn := ⟨_, rfl⟩
            rw [← hS1] at v1 v2
            have G5 := hide (HKd.out.heap G3.out (by simp))
            have hs := Hs.out
            rw [find_at j hjt HNo.out (by rw [hgd]; simp)] at hs
            simp only [Prod.mk.injEq] at hs
            obtain ⟨e1, e2, e3, e4⟩ := hs
            rw [hn1] at e2
            subst e1 e2 e3 e4
            clear hS1 hbn hmn evn hrn hgd htk hn1 hnl hcn hcr hSn hBn hn2 hx10
            have hx10 := (HW3.out.kept HKj.out (by simp)).c10
            go_wp2_with fail
            refine region_read Tryz.mixed (by kernel_rfl) ?_
            repeat (first | go_big_quiet_skip | (go_big_quiet_want; go_big_quiet_op; go_big_quiet_on))
            refine wpQuiet_nil ?_
            go_wp2_with (refine wpList_store_flat rfl 57 (.tmp 6) (.tmp 64) rfl w.heap.size 0 rfl _ _ [.int .i64 1, .int .i64 n] G5.out rfl (by simp) Tryz.ansSize (by simp [Value.oneCell']) #[.int .i64 1, .int .i64 n] rfl ?_; intro w4 G4 K4)
            refine bodyPost_ret (results_flat1 rfl _ rfl G4 Tryz.underlying57 rfl Tryz.ansSize) rfl ?_
            exact ⟨rfl, HDone.out 1 n _ w4 (HK3.out.trans HKd.out) K4 (by trivial) (by trivial)⟩
          · have hss := str_beq bn b hBn.1 HB.out
            rw [decide_eq_false hxy] at hss
            have HXy := hide hxy
            obtain ⟨S1, hS1⟩ : ∃ S, S = strOfNums bn := ⟨_, rfl⟩
            obtain ⟨S2, hS2⟩ : ∃ S, S = strOfNums b := ⟨_, rfl⟩
            rw [← hS1, ← hS2] at hss
            rw [← hS1] at v1
            rw [← hS2] at v2
            clear hS1 hS2 hbn hmn evn hrn hgd htk hn1 hnl hcn hcr hSn hBn hn2 hxy
            go_wp2_with fail
            refine region_read Tryz.mixed (by kernel_rfl) ?_
            repeat (first | go_big_quiet_skip | (go_big_quiet_want; go_big_quiet_op; go_big_quiet_on))
            refine wpQuiet_nil ?_
            go_wp2_with fail
            go_roundw
            case rel => exact ⟨j + 1, by omega, by go_num, HKd.out, fun e he => by
              rw [Htk.out] at he
              rcases List.mem_append.1 he with he | he
              · exact HNo.out e he
              · obtain rfl : e = tq[j]'Hjt.out := by simpa using he
                rw [Hgd.out]
                simpa using HXy.out⟩
            case measure => simp [intOf]; omega
        · obtain rfl : j = nq := by omega
          have hi' : ¬ (j : Int) < (j : Int) := by omega
          have hdi : decide ((j : Int) < (j : Int)) = false := decide_eq_false hi'
          have hs := Hs.out
          have hnone : tq.find? (fun e => rc.getD e.1.toNat [] == b) = none := List.find?_eq_none.2 (fun e he => by
            rw [HNo.out e (by rw [List.take_of_length_le (by rw [Hnq.out]; exact Nat.le_refl _)]; exact he)]; simp)
          rw [hnone] at hs
          have HKd := hide (HKj.out.trans (kp_drew _))
          have d5 := (HW3.out.kept HKd.out (by simp)).c5
          have d10 := (HW3.out.kept HKd.out (by simp)).c10
          by_cases hfull : r ≤ (j : Int)
          · have hfd : decide (r ≤ (j : Int)) = true := decide_eq_true hfull
            have G5 := hide (HKd.out.heap G3.out (by simp))
            have hs : (if r ≤ (tq.length : Int) then ((3 : Int), (0 : Int), rc, tq) else (1, (rc.length : Int), rc ++ [b], tq ++ [((rc.length : Int), now)])) = (kk, nn, rc', tq') := hs
            rw [if_pos (by rw [← Hnq.out]; exact hfull)] at hs
            simp only [Prod.mk.injEq] at hs
            obtain ⟨e1, e2, e3, e4⟩ := hs
            subst e1 e2 e3 e4
            clear hnone
            go_wp2_with fail
            refine region_read Tryz.mixed (by kernel_rfl) ?_
            repeat (first | go_big_quiet_skip | (go_big_quiet_want; go_big_quiet_op; go_big_quiet_on))
            refine wpQuiet_nil ?_
            go_wp2_with (refine wpList_store_flat rfl 57 (.tmp 6) (.tmp 75) rfl w.heap.size 0 rfl _ _ [.int .i64 3, .int .i64 0] G5.out rfl (by simp) Tryz.ansSize (by simp [Value.oneCell']) #[.int .i64 3, .int .i64 0] rfl ?_; intro w4 G4 K4)
            refine bodyPost_ret (results_flat1 rfl _ rfl G4 Tryz.underlying57 rfl Tryz.ansSize) rfl ?_
            exact ⟨rfl, HDone.out 3 0 _ w4 (HK3.out.trans HKd.out) K4 (by trivial) (by trivial)⟩
          · have hfd : decide (r ≤ (j : Int)) = false := decide_eq_false hfull
            have hs : (if r ≤ (tq.length : Int) then ((3 : Int), (0 : Int), rc, tq) else (1, (rc.length : Int), rc ++ [b], tq ++ [((rc.length : Int), now)])) = (kk, nn, rc', tq') := hs
            rw [if_neg (by rw [← Hnq.out]; exact hfull), ← Hnr.out] at hs
            simp only [Prod.mk.injEq] at hs
            obtain ⟨e1, e2, e3, e4⟩ := hs
            subst e1 e2 e3 e4
            clear hnone
            go_wp2_with fail
            refine region_read Tryz.mixed (by kernel_rfl) ?_
            repeat (first | go_big_quiet_skip | (go_big_quiet_want; go_big_quiet_op; go_big_quiet_on))
            refine wpQuiet_nil ?_
            obtain ⟨w5, hw5⟩ : ∃ y, y = wr.drew := ⟨_, rfl⟩
            rw [← hw5] at HKd d5 d10 ⊢
            have HK5 := hide ((HKA.out.trans HK3.out).trans HKd.out)
            have H35 : Hid (w3.heap.size ≤ w5.heap.size) := hide HKd.out.size
            have HWd : Hid (∀ w', Kp [] w5.drew w' → Wd w' x vf vl vd ve vk r s t (.pointer (some ⟨pw, 0, none⟩)) (.slice ra nr rcp) (.slice qa j qc)) := fun w' k => (HW3.out.kept HKd.out (by simp)).kept ((kp_drew w5).trans k) (by simp)
            have HQr : Hid (∀ w', Kp [] w5.drew w' → RefQ w' (.slice qa j qc) tq) := fun w' k => (HL3.out.q.keptN HKd.out).keptN ((kp_drew w5).trans k)
            have HL5 := hide (HL3.out.on HKd.out)
            have HW5 := hide (HW3.out.kept HKd.out (by simp))
            have HS5 := hide (HS3.out.kept HKd.out (by simp))
            have G5 := hide (HKd.out.heap G3.out (by simp))
            clear hw5 HL3 HW3 HS3 G3 HKj HKd d5 d10 hfd hx10 hs Hs Hans HDone
            go_wp2_with fail
            refine region_growG_tail (K := KQ w5.drew.heap.size tq.length ((nr : Int), now)) (G := fun _ w => Kp [] w5.drew w) 16 Tryz.mixed [Is (.pointer (some ⟨x, 0, none⟩)), EmpB w5.drew.heap.size, Is (.pointer (some ⟨x, 0, none⟩)), Is (.pointer (some ⟨x, 0, none⟩)), Is (.pointer (some ⟨x, 10, none⟩)), Is (.slice qa j qc), RowTq w5.drew.heap.size tq, Is (.pointer (some ⟨x, 0, none⟩)), Is (.pointer (some ⟨x, 0, none⟩)), Is (.pointer (some ⟨x, 9, none⟩)), Is (.slice ra nr rcp), Is (.int .i64 nr), Is (.int .i64 now), Is (.agg #[.int .i64 (nr : Nat), .int .i64 now]), LitQ w5.drew.heap.size ((nr : Int), now), RowS1 w5.drew.heap.size tq ((nr : Int), now)] [[(0, none)], [], [(0, none)], [(78, some 2)], [(79, some 3)], [(80, some 4)], [(77, some 1), (81, some 5)], [(0, none)], [(83, some 7)], [(84, some 8)], [(85, some 9)], [(86, some 10)], [(2, none)], [(87, some 11), (88, some 12)], [(89, some 13)], [(82, some 6), (90, some 14)]] (by kernel_rfl) ?_ (Kp.refl [] w5.drew) ?_ ?_
            all_goals try simp only [List.take_succ_cons, List.take_zero, List.drop_succ_cons, List.drop_zero]
            · simp only [List.mem_cons, List.not_mem_nil, or_false]
              intro R hR
              rcases hR with rfl | rfl | rfl | rfl | rfl | rfl | rfl | rfl | rfl | rfl | rfl | rfl | rfl | rfl | rfl | rfl <;> first | exact stableG_isQ _ | exact stableG_emp _ | exact stableG_rowT _ _ | exact stableG_lit _ _ | exact stableG_row1 _ _
            · refine steps_consG (fun a w hk hn => ?_) ?_
              · have h0 : a.eval (.tmp 0) = .pointer (some ⟨x, 0, none⟩) := hn.1
                clear hn
                refine wantsG_of (fun _ _ k => kq_kp _ _ _ k) (fun v w' k => hk.trans k) (wants_plain rfl ?_)
                exact grown_move (.tmp 0) rfl h0
              refine steps_consG (fun a w hk hn => ?_) ?_
              · clear hn
                refine wantsG_of (fun _ _ k => kq_kp _ _ _ k) (fun v w' k => hk.trans k) (wants_plain rfl ?_)
                refine grown_run (v := .slice (some ⟨w.heap.size, 0, none⟩) 0 0) (w' := w.alloc (.cells #[] 143)) ?_ ((Kp.refl _ _).alloc _) ⟨_, rfl, heap_alloc_new w _, hk.size⟩
                obtain ⟨ρ, hρ, hc, hf, hg⟩ := eval_is a
                rw [hρ]
                simp [go_sem]
              refine steps_consG (fun a w hk hn => ?_) ?_
              · have h0 : a.eval (.tmp 0) = .pointer (some ⟨x, 0, none⟩) := hn.1
                clear hn
                refine wantsG_of (fun _ _ k => kq_kp _ _ _ k) (fun v w' k => hk.trans k) (wants_plain rfl ?_)
                exact grown_move (.tmp 0) rfl h0
              refine steps_consG (fun a w hk hn => ?_) ?_
              · have h78 : a.eval (.tmp 78) = .pointer (some ⟨x, 0, none⟩) := hn.1
                clear hn
                refine wantsG_of (fun _ _ k => kq_kp _ _ _ k) (fun v w' k => hk.trans k) (wants_plain rfl ?_)
                refine grown_run (v := .pointer (some ⟨x, 0, none⟩)) ?_ (Kp.refl _ _) rfl
                obtain ⟨ρ, hρ, hc, hf, hg⟩ := eval_is a
                rw [hρ] at h78 ⊢
                simp [go_sem, h78]
              refine steps_consG (fun a w hk hn => ?_) ?_
              · have h79 : a.eval (.tmp 79) = .pointer (some ⟨x, 0, none⟩) := hn.1
                clear hn
                refine wantsG_of (fun _ _ k => kq_kp _ _ _ k) (fun v w' k => hk.trans k) (wants_plain rfl ?_)
                refine grown_run (v := .pointer (some ⟨x, 10, none⟩)) ?_ (Kp.refl _ _) rfl
                obtain ⟨ρ, hρ, hc, hf, hg⟩ := eval_is a
                rw [hρ] at h79 ⊢
                simp [go_sem, h79]
              refine steps_consG (fun a w hk hn => ?_) ?_
              · have h80 : a.eval (.tmp 80) = .pointer (some ⟨x, 10, none⟩) := hn.1
                clear hn
                refine wantsG_of (fun _ _ k => kq_kp _ _ _ k) (fun v w' k => hk.trans k) (wants_plain rfl ?_)
                refine grown_run (v := .slice qa j qc) ?_ (Kp.refl _ _) rfl
                have hcell : w.cell? ⟨x, 10, none⟩ = some (.slice qa j qc) := by rw [cell_of_row w x 10 _ _ _ (HWd.out w hk)]; rfl
                obtain ⟨ρ, hρ, hc, hf, hg⟩ := eval_is a
                rw [hρ] at h80 ⊢
                simp [go_sem, h80, hcell]
              refine steps_consG (fun a w hk hn => ?_) ?_
              · have h77 : (EmpB w5.drew.heap.size) (a.eval (.tmp 77)) w := hn.1
                have h81 : a.eval (.tmp 81) = .slice qa j qc := hn.2.1
                clear hn
                refine wantsG_of (fun _ _ k => kq_kp _ _ _ k) (fun v w' k => hk.trans k) (wants_plain rfl ?_)
                exact grown_copyQ (.tmp 77) (.tmp 81) tq rfl h77 (by rw [h81]; exact HQr.out w hk) (by have := Hlen.out.2.2; omega) hk.size
              refine steps_consG (fun a w hk hn => ?_) ?_
              · have h0 : a.eval (.tmp 0) = .pointer (some ⟨x, 0, none⟩) := hn.1
                clear hn
                refine wantsG_of (fun _ _ k => kq_kp _ _ _ k) (fun v w' k => hk.trans k) (wants_plain rfl ?_)
                exact grown_move (.tmp 0) rfl h0
              refine steps_consG (fun a w hk hn => ?_) ?_
              · have h83 : a.eval (.tmp 83) = .pointer (some ⟨x, 0, none⟩) := hn.1
                clear hn
                refine wantsG_of (fun _ _ k => kq_kp _ _ _ k) (fun v w' k => hk.trans k) (wants_plain rfl ?_)
                refine grown_run (v := .pointer (some ⟨x, 0, none⟩)) ?_ (Kp.refl _ _) rfl
                obtain ⟨ρ, hρ, hc, hf, hg⟩ := eval_is a
                rw [hρ] at h83 ⊢
                simp [go_sem, h83]
              refine steps_consG (fun a w hk hn => ?_) ?_
              · have h84 : a.eval (.tmp 84) = .pointer (some ⟨x, 0, none⟩) := hn.1
                clear hn
                refine wantsG_of (fun _ _ k => kq_kp _ _ _ k) (fun v w' k => hk.trans k) (wants_plain rfl ?_)
                refine grown_run (v := .pointer (some ⟨x, 9, none⟩)) ?_ (Kp.refl _ _) rfl
                obtain ⟨ρ, hρ, hc, hf, hg⟩ := eval_is a
                rw [hρ] at h84 ⊢
                simp [go_sem, h84]
              refine steps_consG (fun a w hk hn => ?_) ?_
              · have h85 : a.eval (.tmp 85) = .pointer (some ⟨x, 9, none⟩) := hn.1
                clear hn
                refine wantsG_of (fun _ _ k => kq_kp _ _ _ k) (fun v w' k => hk.trans k) (wants_plain rfl ?_)
                refine grown_run (v := .slice ra nr rcp) ?_ (Kp.refl _ _) rfl
                have hcell : w.cell? ⟨x, 9, none⟩ = some (.slice ra nr rcp) := by rw [cell_of_row w x 9 _ _ _ (HWd.out w hk)]; rfl
                obtain ⟨ρ, hρ, hc, hf, hg⟩ := eval_is a
                rw [hρ] at h85 ⊢
                simp [go_sem, h85, hcell]
              refine steps_consG (fun a w hk hn => ?_) ?_
              · have h86 : a.eval (.tmp 86) = .slice ra nr rcp := hn.1
                clear hn
                refine wantsG_of (fun _ _ k => kq_kp _ _ _ k) (fun v w' k => hk.trans k) (wants_plain rfl ?_)
                refine grown_run (v := .int .i64 nr) ?_ (Kp.refl _ _) rfl
                obtain ⟨ρ, hρ, hc, hf, hg⟩ := eval_is a
                rw [hρ] at h86 ⊢
                simp [go_sem, h86]
              refine steps_consG (fun a w hk hn => ?_) ?_
              · have h2 : a.eval (.tmp 2) = .int .i64 now := hn.1
                clear hn
                refine wantsG_of (fun _ _ k => kq_kp _ _ _ k) (fun v w' k => hk.trans k) (wants_plain rfl ?_)
                exact grown_move (.tmp 2) rfl h2
              refine steps_consG (fun a w hk hn => ?_) ?_
              · have h87 : a.eval (.tmp 87) = .int .i64 nr := hn.1
                have h88 : a.eval (.tmp 88) = .int .i64 now := hn.2.1
                clear hn
                refine wantsG_of (fun _ _ k => kq_kp _ _ _ k) (fun v w' k => hk.trans k) (wants_plain rfl ?_)
                refine grown_run (v := .agg #[.int .i64 (nr : Nat), .int .i64 now]) ?_ (Kp.refl _ _) rfl
                obtain ⟨ρ, hρ, hc, hf, hg⟩ := eval_is a
                rw [hρ] at h87 h88 ⊢
                simp [go_sem, h87, h88]
              refine steps_consG (fun a w hk hn => ?_) ?_
              · have h89 : a.eval (.tmp 89) = .agg #[.int .i64 (nr : Nat), .int .i64 now] := hn.1
                clear hn
                refine wantsG_of (fun _ _ k => kq_kp _ _ _ k) (fun v w' k => hk.trans k) (wants_plain rfl ?_)
                exact grown_litQ (.tmp 89) ((nr : Int), now) rfl h89 hk.size
              refine steps_consG (fun a w hk hn => ?_) ?_
              · have h82 : (RowTq w5.drew.heap.size tq) (a.eval (.tmp 82)) w := hn.1
                have h90 : (LitQ w5.drew.heap.size ((nr : Int), now)) (a.eval (.tmp 90)) w := hn.2.1
                clear hn
                exact wantsG_putQ rfl (.tmp 82) (.tmp 90) tq ((nr : Int), now) rfl hk (Nat.le_refl _) h82 h90 (by have := Hlen.out.2.2; omega) hk.size
              exact trivial
            intro W1
            rintro _ rfl
            intro v77 h77
            rintro _ rfl
            rintro _ rfl
            rintro _ rfl
            rintro _ rfl
            intro v82 h82
            rintro _ rfl
            rintro _ rfl
            rintro _ rfl
            rintro _ rfl
            rintro _ rfl
            rintro _ rfl
            rintro _ rfl
            intro v90 h90
            intro v91 h91
            refine fin_nil ?_
            intro hkW1
            simp only [Act.put, List.set_cons_zero, List.set_cons_succ, List.setIfInBounds_toArray]
            have R8 := RowS1.row h91
            obtain ⟨a8, c8, ev91⟩ := R8.shape
            rw [List.length_append] at ev91
            obtain ⟨m8, hm8⟩ : ∃ m, m = tq.length + [((nr : Int), now)].length := ⟨_, rfl⟩
            rw [← hm8] at ev91
            subst ev91
            obtain ⟨w8, hw8⟩ : ∃ y, y = W1 := ⟨_, rfl⟩
            rw [← hw8] at hkW1 R8 ⊢
            have k8 : Kp [] w5 w8 := (kp_drew w5).trans hkW1
            have hW8 := HW5.out.kept k8 (by simp)
            have hc8 := hW8.c10
            have hf8 := hW8.f 10
            clear HWd HQr hkW1 h77 h82 h90 h91 hw8 hm8
            obtain ⟨w9, hw9⟩ : ∃ y, y = w8.setCell ⟨x, 10, none⟩ (.slice a8 m8 c8) := ⟨_, rfl⟩
            have k9 : Kp [x] w8 w9 := by rw [hw9]; exact kp_set w8 x 10 _
            have HW9 : Hid (Wd w9 x vf vl vd ve vk r s t (.pointer (some ⟨pw, 0, none⟩)) (.slice ra nr rcp) (.slice a8 m8 c8)) := by rw [hw9]; exact hW8.s10 _
            have hxl : x < w.heap.size := HAl.out x (.inr rfl)
            have hk58 := k8.size
            have hk5 := HK5.out.size
            have hL9 : Lw w0 w9 A x pw vi li (.slice ra nr rcp) lr (.slice a8 m8 c8) (tq ++ [((nr : Int), now)]) := (HL5.out.on k8).setq k9 ((RowQ2.ref R8).kept k9 (fun i hi hm => by
              obtain rfl : i = x := by simpa using hm
              have h1 := (R8.lt i hi).1
              have h2 : w5.drew.heap.size = w5.heap.size := rfl
              omega)) (fun k hk => by
              obtain ⟨h1, h2⟩ := R8.lt k hk
              have h3 : w5.drew.heap.size = w5.heap.size := rfl
              have h4 := k9.size
              have h5 := Hw.out
              refine ⟨by omega, by omega, fun e => ?_⟩
              have hlow : k < w5.heap.size := by
                rcases e with e | e | e | e
                · have := HAl.out k e; omega
                · rw [e]; exact HL5.out.led.lt
                · exact (HL5.out.ali.own k e).1
                · exact (HL5.out.alr.own k e).1
              omega)
            have HL9 := hide hL9
            have HS9 : Hid (Sl w9 (.slice ab nb cb) b) := hide ((HS5.out.kept k8 (by simp)).kept k9 (fun i hi hm => by
              obtain rfl : i = x := by simpa using hm
              exact (Hvb.out i hi).2.1 (.inl (.inr rfl))))
            have K59 : Kp [x] w w9 := ((HK5.out.trans k8).mono (by simp)).then k9 (fun i hi => .inl hi)
            have HK9 := hide K59
            have H59 : Hid (w5.heap.size ≤ w9.heap.size) := hide (by have := k9.size; omega)
            have G9 := hide (k9.heap (k8.heap G5.out (by simp)) (fun hm => by
              have : w.heap.size = x := by simpa using hm
              omega))
            have HW9' := hide hw9
            have HoQ : Hid (∀ k, (Value.slice a8 m8 c8).ownBlock = some k → k ≠ w.heap.size) := hide (fun k hk => by
              have h1 := (R8.lt k hk).1
              have h3 : w5.drew.heap.size = w5.heap.size := rfl
              have h4 := (HK3.out).size
              have h5 := Hsz.out
              have h6 := H35.out
              omega)
            clear hw9 k9 hL9 K59 R8 HK5 HL5 HW5 HS5 G5
            go_upto_region 15 with fail
            rw [← HW9'.out]
            clear HW9' hW8 hc8 hf8 k8 hk58 hk5
            have hc9 := HW9.out.c9
            have hlr : lr.length = nr := by have := congrArg List.length Hrc.out; rw [List.length_map] at this; have := Hnr.out; omega
            have Hlr := hide hlr
            have hp9 := HK9.out.size
            go_wp2_with (at_builtin; refine wpList_rowsR rfl (.tmp 98) (.tmp 100) rfl (.slice ra nr rcp) lr rfl (show RowsQ w9 0 _ lr from HL9.out.alr.row) (Nat.zero_le _) (by have := Hlr.out; have := Hnr.out; have := Hlen.out.2.1; omega) (.slice ab nb cb) b HS9.out (fun i hi => (Hvb.out i hi).2.2) (fun i _ => Nat.zero_le _) HB.out rfl ?_; intro aA mA cA wA hmA PA SA; have hnx : x ∉ (Value.slice ra nr rcp).ownBlock.toList := (fun hm => (HL9.out.alr.own x (by simpa [Option.mem_toList] using hm)).2 (.inl (.inr rfl))); have hWA := HW9.out.kept SA.1 hnx; have hcA := hWA.c9; have hfA := hWA.f 9; refine Hid.out ?_)
            rw [hlr] at hmA
            subst hmA
            clear hlr
            obtain ⟨wB, hwB⟩ : ∃ y, y = wA.setCell ⟨x, 9, none⟩ (.slice aA (nr + 1) cA) := ⟨_, rfl⟩
            have kB : Kp [x] wA wB := by rw [hwB]; exact kp_set wA x 9 _
            have HWB : Hid (Wd wB x vf vl vd ve vk r s t (.pointer (some ⟨pw, 0, none⟩)) (.slice aA (nr + 1) cA) (.slice a8 m8 c8)) := by rw [hwB]; exact hWA.s9 _
            have hLA := HL9.out.putr (y := (.slice ab nb cb, b)) (fun i hi => by have := HAl.out i hi; omega) PA SA (fun k hk => ⟨by have := (Hvb.out k hk).1; omega, (Hvb.out k hk).2.1, (Hvb.out k hk).2.2⟩) (by have := Hw.out; omega)
            have HLB : Hid (Lw w0 wB A x pw vi li (.slice aA (nr + 1) cA) (lr ++ [(.slice ab nb cb, b)]) (.slice a8 m8 c8) (tq ++ [((nr : Int), now)])) := hide (hLA.step ⟨⟨[x], fun i hi => .inr (by simpa using hi), kB⟩, fun i hi => .inl hi⟩)
            have hno : w.heap.size ∉ (Value.slice ra nr rcp).ownBlock.toList := fun hm => by
              have := (HL.out.alr.own w.heap.size (by simpa [Option.mem_toList] using hm)).1
              omega
            have KB : Kp (x :: (Value.slice ra nr rcp).ownBlock.toList) w wB := ((HK9.out.mono (by simp)).then SA.1 (fun i hi => .inl (by simp at hi ⊢; exact .inr hi))).then kB (fun i hi => .inl (by simp at hi ⊢; exact .inl hi))
            have HKB := hide KB
            have HoA : Hid (∀ k, (Value.slice aA (nr + 1) cA).ownBlock = some k → k ≠ w.heap.size) := hide (fun k hk => by
              rcases SA.2 k hk with e | e
              · have := (HL.out.alr.own k e).1; omega
              · have h4 := HK3.out.size
                have h5 := Hsz.out
                have h6 := H35.out
                have h7 := H59.out
                omega)
            have GB := hide (kB.heap (SA.1.heap G9.out hno) (fun hm => by
              have : w.heap.size = x := by simpa using hm
              omega))
            have HwB := hide hwB
            clear hwB kB hLA KB hno PA SA HK9 HL9 HW9 HS9 G9 hc9 hnx hp9
            refine hide ?_
            go_upto_region 16 with fail
            rw [← HwB.out]
            have hcB := HWB.out.c9
            have hnrb : nr ≤ 1000 := by rw [Hnr.out]; exact Hlen.out.2.1
            clear HwB hWA hcA hfA
            go_wp2_with (refine wpList_store_flat rfl 57 (.tmp 6) (.tmp 110) rfl w.heap.size 0 rfl _ _ [.int .i64 1, .int .i64 nr] GB.out rfl (by simp) Tryz.ansSize (by simp [Value.oneCell']) #[.int .i64 1, .int .i64 nr] rfl ?_; intro w4 G4 K4)
            refine bodyPost_ret (results_flat1 rfl _ rfl G4 Tryz.underlying57 rfl Tryz.ansSize) rfl ?_
            have hxw : x ∉ [w.heap.size] := fun hm => by
              have : x = w.heap.size := by simpa using hm
              omega
            refine ⟨rfl, _, lr ++ [(.slice ab nb cb, b)], _, HWB.out.kept K4 hxw, ?_, by rw [List.map_append, Hrc.out]; rfl, _, HKB.out.then K4 (fun i hi => .inr (by simp at hi; omega)), fun i hi => ?_⟩
            · refine HLB.out.aside K4 (fun hm => ?_) (fun i hi hm => ?_) (fun y hy i hi hm => ?_) (fun y hy i hi hm => ?_)
              · have h1 : pw = w.heap.size := by simpa using hm
                have := HL.out.led.lt
                omega
              · have h1 : i = w.heap.size := by simpa using hm
                rcases hi with e | e | e
                · have := (HL.out.ali.own i e).1; omega
                · exact HoA.out i e h1
                · exact HoQ.out i e h1
              · have h1 : i = w.heap.size := by simpa using hm
                have := (HL.out.ali.its y hy i hi).1
                omega
              · have h1 : i = w.heap.size := by simpa using hm
                rcases List.mem_append.1 hy with hy | hy
                · have := (HL.out.alr.its y hy i hi).1; omega
                · obtain rfl : y = (.slice ab nb cb, b) := by simpa using hy
                  have := (Hvb.out i hi).1
                  omega
            · rcases List.mem_cons.1 hi with e | e
              · exact .inl e
              · exact .inr (by simpa [Option.mem_toList] using e)
end
end Go.Proofs.YteabdojjllfcpaaGreat

/-
  Plays of front, as plain functions: the front, its ledger, and what the document says of them, side by side.
-/
namespace Go.Proofs.YteabdojjllfcpaaGreat
open Go.RowKit
open Go.Proofs
set_option linter.unusedVariables false
/-- since when, as the document's list has it. -/
def atQ (a : Int) : Int := if a = -9223372036854775808 then -1125899906842624 else a
/-- the document's queue beside the front's: numbers from a on. -/
def tqP (a : Nat) : List It → List (Int × Int)
  | [] => []
  | e :: l => ((a : Int), atQ e.at_) :: tqP (a + 1) l
theorem tqP_len (a : Nat) (l : List It) : (tqP a l).length = l.length := by
  induction l generalizing a with
  | nil => rfl
  | cons e l ih => simp [tqP, ih]
theorem tqP_snoc (a : Nat) (l : List It) (e : It) : tqP a (l ++ [e]) = tqP a l ++ [(((a + l.length : Nat) : Int), atQ e.at_)] := by
  induction l generalizing a with
  | nil => simp [tqP]
  | cons x l ih => simp [tqP, ih, Nat.add_assoc, Nat.add_comm 1]
theorem tqP_drop (a n : Nat) (l : List It) : (tqP a l).drop n = tqP (a + n) (l.drop n) ∨ l.length < n := by
  induction l generalizing a n with
  | nil => cases n with
    | zero => exact .inl rfl
    | succ n => exact .inr (by simp)
  | cons x l ih => cases n with
    | zero => exact .inl rfl
    | succ n =>
      rcases ih (a + 1) n with h | h
      · exact .inl (by simp only [tqP, List.drop_succ_cons, h]; congr 1; omega)
      · exact .inr (by simp; omega)
theorem tqP_get (a j : Nat) (l : List It) (h : j < (tqP a l).length) (h2 : j < l.length) : (tqP a l)[j] = (((a + j : Nat) : Int), atQ l[j].at_) := by
  induction l generalizing a j with
  | nil => cases h2
  | cons x l ih =>
    cases j with
    | zero => simp [tqP]
    | succ j =>
      simp only [tqP, List.getElem_cons_succ]
      rw [ih (a + 1) j (by simpa [tqP] using h) (by simpa using h2)]
      congr 2
      omega
theorem tqP_find (pre : List (List Int)) (l : List It) (b : List Int) : (b ∈ l.map It.bs → ∃ t, (tqP pre.length l).find? (fun e => (pre ++ l.map It.bs).getD e.1.toNat [] == b) = some (((pre.length + (l.map It.bs).idxOf b : Nat) : Int), t)) ∧
    (b ∉ l.map It.bs → (tqP pre.length l).find? (fun e => (pre ++ l.map It.bs).getD e.1.toNat [] == b) = none) := by
  induction l generalizing pre with
  | nil => exact ⟨fun h => by simp at h, fun _ => rfl⟩
  | cons x l ih =>
    have e1 : pre ++ (x :: l).map It.bs = (pre ++ [x.bs]) ++ l.map It.bs := by simp
    have e2 : (pre ++ [x.bs]).length = pre.length + 1 := by simp
    have h0 : ((pre ++ [x.bs]) ++ l.map It.bs).getD ((pre.length : Int)).toNat [] = x.bs := by
      rw [Int.toNat_natCast, List.getD_eq_getElem?_getD, List.append_assoc, List.getElem?_append_right (Nat.le_refl _), Nat.sub_self]
      rfl
    have ih := ih (pre ++ [x.bs])
    rw [e2] at ih
    rw [e1]
    by_cases hx : x.bs = b
    · refine ⟨fun _ => ⟨atQ x.at_, ?_⟩, fun h => absurd (by simp [hx]) h⟩
      have h1 : ((x :: l).map It.bs).idxOf b = 0 := by rw [List.map_cons, hx]; exact List.idxOf_cons_self
      rw [h1]
      show List.find? _ (((pre.length : Int), atQ x.at_) :: tqP (pre.length + 1) l) = _
      rw [List.find?_cons_of_pos (by show (_ == b) = true; rw [h0, hx]; simp)]
      rfl
    · have hne : ¬ (List.getD ((pre ++ [x.bs]) ++ l.map It.bs) ((pre.length : Int)).toNat [] == b) = true := by rw [h0]; simpa using hx
      have hfd : List.find? (fun e => ((pre ++ [x.bs]) ++ l.map It.bs).getD e.1.toNat [] == b) (tqP pre.length (x :: l)) = List.find? (fun e => ((pre ++ [x.bs]) ++ l.map It.bs).getD e.1.toNat [] == b) (tqP (pre.length + 1) l) := by
        show List.find? _ (((pre.length : Int), atQ x.at_) :: tqP (pre.length + 1) l) = _
        refine List.find?_cons_of_neg ?_
        exact hne
      rw [hfd]
      refine ⟨fun h => ?_, fun h => ih.2 (fun h' => h (by simp [h']))⟩
      have hm : b ∈ l.map It.bs := by
        rcases List.mem_cons.1 (by simpa using h : b ∈ x.bs :: l.map It.bs) with e | e
        · exact absurd e.symm hx
        · exact e
      obtain ⟨t, ht⟩ := ih.1 hm
      refine ⟨t, ?_⟩
      rw [ht]
      have h1 : ((x :: l).map It.bs).idxOf b = (l.map It.bs).idxOf b + 1 := by
        rw [List.map_cons, List.idxOf_cons, show (x.bs == b) = false from beq_eq_false_iff_ne.2 hx]
        rfl
      rw [h1]
      congr 3
      omega
theorem atQ_pos {a : Int} (h : 0 ≤ a) : atQ a = a := by unfold atQ; rw [if_neg (by omega)]
theorem atQ_evr (b : List Int) : atQ (evr b).at_ = -1125899906842624 := rfl
/-- times of the front's queue. -/
def TmQ (m : Int) (l : List It) : Prop := ∀ e ∈ l, e.at_ = -9223372036854775808 ∨ (0 ≤ e.at_ ∧ e.at_ ≤ m)
/-- is a batch due: the document's words. -/
def dueP (s t now : Int) (tq : List (Int × Int)) : Bool := decide (s ≤ (tq.length : Int)) || match tq with
  | [] => false
  | e :: _ => decide (e.2 + t ≤ now)
theorem due_tq {r s t now m : Int} {l : List It} (a : Nat) (ht : 0 ≤ t) (ht1 : t ≤ 1000) (hs : 1 ≤ s) (hn : 0 ≤ now) (hm : m ≤ 1000000) (hl : TmQ m l) : Qd.due ⟨r, s, t, l⟩ now = dueP s t now (tqP a l) := by
  cases l with
  | nil =>
    have : decide (s ≤ (0 : Int)) = false := decide_eq_false (by omega)
    show false = (decide (s ≤ (0 : Int)) || false)
    rw [this]
    rfl
  | cons x l =>
    have hx := hl x (by simp)
    simp only [Qd.due, dueP, tqP_len]
    congr 1
    simp only [tqP, oldP]
    rcases hx with h | ⟨h1, h2⟩
    · have : atQ x.at_ = -1125899906842624 := by rw [h]; rfl
      rw [this]
      have h4 : decide (-1125899906842624 + t ≤ now) = true := decide_eq_true (by omega)
      rw [h4]
      simp [h]
    · rw [atQ_pos h1]
      have h3 : decide (x.at_ = -9223372036854775808) = false := decide_eq_false (by omega)
      rw [h3, Bool.false_or, Bool.eq_iff_iff]
      simp
      omega
/-- the front and its ledger, behind k calls. -/
structure PlF (S : FS) (L : LS) (r s t : Int) (k : Nat) : Prop where
  room : S.room = r
  size : S.size = s
  wait : S.wait = t
  d : S.d = dkOn (layP S.rc)
  ok : ∀ x ∈ S.rc, okM x = true ∧ Bs x
  eq : S.rc = L.its ++ S.ms.map It.bs
  nd : S.rc.Nodup
  m : S.m ≤ k
  len : S.rc.length ≤ k
  dd : ∃ rs, gatU [] rs = some L.its ∧ L.dd = dkOn (layP rs) ∧ (∀ x ∈ rs, Bs x ∧ x.length ≤ 1100) ∧ rs.length ≤ k
  mj : L.mj ≤ k
  dk : L.dk = dkOn []
  tm : TmQ (20 * k) S.ms
section
variable {S : FS} {L : LS} {r s t : Int} {k : Nat}
theorem PlF.bs (h : PlF S L r s t k) : ∀ x ∈ S.rc, Bs x ∧ x.length ≤ 125 := fun x hx => ⟨(h.ok x hx).2, okM_short (h.ok x hx).2 (h.ok x hx).1⟩
theorem TmQ.mono {m m' : Int} {l : List It} (h : TmQ m l) (hm : m ≤ m') : TmQ m' l := fun e he => (h e he).imp id (fun ⟨h1, h2⟩ => ⟨h1, by omega⟩)
theorem PlF.more (h : PlF S L r s t k) : PlF S L r s t (k + 1) := by
  obtain ⟨rs, h1, h2, h3, h4⟩ := h.dd
  exact ⟨h.room, h.size, h.wait, h.d, h.ok, h.eq, h.nd, by have := h.m; omega, by have := h.len; omega, ⟨rs, h1, h2, h3, by omega⟩, by have := h.mj; omega, h.dk, h.tm.mono (by omega)⟩
theorem PlF.il (h : PlF S L r s t k) : L.its.length + S.ms.length = S.rc.length := by rw [h.eq]; simp
/-- a submission, and what the document says of it. -/
theorem PlF.sub (h : PlF S L r s t k) (hk : k ≤ 40) (b : List Int) (hb : Bs b) (now : Int) (hn0 : 0 ≤ now) (hn1 : now ≤ 20 * (k + 1)) :
    ∃ kk nn S', subP L.its S b now = (kk, nn, S') ∧ ansP L.its S.rc (tqP L.its.length S.ms) r b now = (kk, nn, S'.rc, tqP L.its.length S'.ms) ∧ PlF S' L r s t (k + 1) := by
  unfold subP ansP
  by_cases hok : okM b = false
  · exact ⟨4, 0, S, by rw [if_pos hok], by rw [if_pos hok], h.more⟩
  rw [if_neg hok, if_neg hok]
  have hokt : okM b = true := by simpa using hok
  by_cases hin : b ∈ L.its
  · exact ⟨2, _, S, by rw [if_pos hin], by rw [if_pos hin], h.more⟩
  rw [if_neg hin, if_neg hin]
  have hfd := tqP_find L.its S.ms b
  rw [← h.eq] at hfd
  by_cases hw : S.ms.any (sameI b) = true
  · have hwb : b ∈ S.ms.map It.bs := by rw [any_same] at hw; exact of_decide_eq_true hw
    have hrc : b ∈ S.rc := by rw [h.eq]; exact List.mem_append.2 (.inr hwb)
    obtain ⟨u, hu⟩ := hfd.1 hwb
    have hix : S.rc.idxOf b = L.its.length + (S.ms.map It.bs).idxOf b := by
      rw [h.eq, List.idxOf_append, if_neg hin, Nat.add_comm]
    refine ⟨1, (S.rc.idxOf b : Int), S, by rw [if_pos hw, if_pos hrc], ?_, h.more⟩
    rw [hu, hix]
  rw [if_neg hw]
  have hwb : b ∉ S.ms.map It.bs := by rw [any_same] at hw; exact of_decide_eq_false (by simpa using hw)
  rw [hfd.2 hwb, tqP_len]
  by_cases hroom : r ≤ S.ms.length
  · have h1 : S.room ≤ S.ms.length := by rw [h.room]; exact hroom
    exact ⟨3, 0, S, by rw [if_pos h1], by simp only [if_pos hroom], h.more⟩
  have h1 : ¬ S.room ≤ S.ms.length := by rw [h.room]; exact hroom
  have hbl := okM_short hb hokt
  have hlay := layP_len S.rc 125 (fun x hx => (h.bs x hx).2)
  have hmul : S.rc.length * (8 + 125) ≤ 40 * (8 + 125) := Nat.mul_le_mul_right _ (by have := h.len; omega)
  have hadd : S.d.add (recP b) = (true, dkOn (layP S.rc ++ recP b)) := by
    rw [h.d]
    exact Dk.add_on _ _ (by rw [recP_len]; omega)
  refine ⟨1, (S.rc.length : Int), S.put (dkOn (layP S.rc ++ recP b)) b now, by rw [if_neg h1, hadd, if_pos rfl], ?_, ?_⟩
  · simp only [if_neg hroom]
    have e1 : (S.put (dkOn (layP S.rc ++ recP b)) b now).ms = S.ms ++ [⟨b, now⟩] := rfl
    have e2 : (S.put (dkOn (layP S.rc ++ recP b)) b now).rc = S.rc ++ [b] := rfl
    rw [e1, e2, tqP_snoc, atQ_pos hn0, h.il]
  · have hnew : b ∉ S.rc := fun hm => by
      rw [h.eq] at hm
      exact (List.mem_append.1 hm).elim hin hwb
    obtain ⟨rs, h1, h2, h3, h4⟩ := h.dd
    refine ⟨h.room, h.size, h.wait, ?_, ?_, ?_, ?_, ?_, ?_, ⟨rs, h1, h2, h3, by omega⟩, by have := h.mj; omega, h.dk, ?_⟩
    · show dkOn (layP S.rc ++ recP b) = dkOn (layP (S.rc ++ [b]))
      rw [layP_snoc]
    · intro x hx
      rcases List.mem_append.1 hx with hx | hx
      · exact h.ok x hx
      · obtain rfl : x = b := by simpa using hx
        exact ⟨hokt, hb⟩
    · show S.rc ++ [b] = L.its ++ (S.ms ++ [It.mk b now]).map It.bs
      rw [List.map_append, ← List.append_assoc, ← h.eq]
      rfl
    · show (S.rc ++ [b]).Nodup
      rw [List.nodup_append]
      exact ⟨h.nd, by simp, fun a ha c hc => by simp at hc; subst hc; exact fun e => hnew (e ▸ ha)⟩
    · show S.m + 1 ≤ k + 1
      have := h.m; omega
    · show (S.rc ++ [b]).length ≤ k + 1
      have := h.len
      simp; omega
    · intro e he
      rcases List.mem_append.1 he with he | he
      · exact (h.tm.mono (by omega)) e he
      · obtain rfl : e = ⟨b, now⟩ := by simpa using he
        exact .inr ⟨hn0, by simpa using hn1⟩
/-- a step that is due. -/
theorem PlF.step (h : PlF S L r s t k) (hk : k ≤ 40) (hs0 : 1 ≤ s) (hs1 : s ≤ 8) (n : Nat) (hn : n = min S.size.toNat S.ms.length) (hn0 : 0 < n) (xs : List (List Int)) (hxs : xs = (S.ms.take n).map It.bs) :
    ∃ dd', L.dd.add (recP (batU xs)) = (true, dd') ∧ PlF { S with ms := S.ms.drop n } { L with dd := dd', mj := L.mj + 1, its := L.its ++ xs } r s t (k + 1) ∧ (L.its ++ xs).Nodup ∧ (L.its ++ xs).length ≤ 40 ∧ S.ms.length ≤ 40 ∧ xs.length = n := by
  have hsz := h.size
  have hxl : xs.length = n := by rw [hxs]; simp; omega
  have hn3 : n ≤ 8 := by omega
  have hsplit : S.ms.map It.bs = xs ++ (S.ms.drop n).map It.bs := by rw [hxs, ← List.map_append, List.take_append_drop]
  have hxs_mem : ∀ x ∈ xs, x ∈ S.rc := fun x hx => by rw [h.eq, hsplit]; exact List.mem_append.2 (.inr (List.mem_append.2 (.inl hx)))
  have hnd2 : (L.its ++ xs).Nodup := by
    have := h.nd
    rw [h.eq, hsplit, ← List.append_assoc] at this
    exact (List.nodup_append.1 this).1
  have hil := h.il
  have hrl := h.len
  obtain ⟨rs, g1, g2, g3, g4⟩ := h.dd
  have hbl := batU_len xs 125 (fun x hx => (h.bs x (hxs_mem x hx)).2)
  rw [hxl] at hbl
  have hm3 : n * (2 + 125) ≤ 8 * (2 + 125) := Nat.mul_le_mul_right _ hn3
  have hbB : Bs (batU xs) := batU_bs (fun x hx => (h.bs x (hxs_mem x hx)).1)
  have hxne : xs ≠ [] := fun e => by rw [e] at hxl; simp at hxl; omega
  have hgat : gatU [] (rs ++ [batU xs]) = some (L.its ++ xs) := gatU_add g1 hnd2 hxne (fun x hx => by have := (h.bs x (hxs_mem x hx)).2; omega) (by omega)
  have hlay := layP_len rs 1100 (fun r hr => (g3 r hr).2)
  have hmul : rs.length * (8 + 1100) ≤ 40 * (8 + 1100) := Nat.mul_le_mul_right _ (by omega)
  have hadd : L.dd.add (recP (batU xs)) = (true, dkOn (layP rs ++ recP (batU xs))) := by
    rw [g2]
    exact Dk.add_on _ _ (by rw [recP_len]; omega)
  have hxn : n ≤ S.ms.length := by omega
  refine ⟨_, hadd, ⟨h.room, h.size, h.wait, h.d, h.ok, ?_, h.nd, by have := h.m; show S.m ≤ k + 1; omega, by show S.rc.length ≤ k + 1; omega, ⟨rs ++ [batU xs], hgat, by rw [layP_snoc], ?_, by rw [List.length_append]; simp; omega⟩, by show L.mj + 1 ≤ k + 1; have := h.mj; omega, h.dk, ?_⟩, hnd2, ?_, by omega, hxl⟩
  · show S.rc = (L.its ++ xs) ++ (S.ms.drop n).map It.bs
    rw [List.append_assoc, ← hsplit]
    exact h.eq
  · intro r hr
    rcases List.mem_append.1 hr with hr | hr
    · exact g3 r hr
    · obtain rfl : r = batU xs := by simpa using hr
      exact ⟨hbB, by omega⟩
  · intro e he
    exact (h.tm.mono (by omega)) e (List.mem_of_mem_drop he)
  · rw [List.length_append, hxl]
    omega
/-- what is opened behind a crash. -/
theorem PlF.lack (h : PlF S L r s t k) : lackP L.its S.rc = S.ms.map It.bs := by
  have hnd := h.nd
  unfold lackP
  rw [h.eq] at hnd ⊢
  obtain ⟨-, -, hd⟩ := List.nodup_append.1 hnd
  rw [List.filter_append, List.filter_eq_nil_iff.2 (fun x hx => by simpa using hx), List.nil_append, List.filter_eq_self]
  intro x hx
  simp only [decide_eq_true_eq]
  exact fun hm => hd x hm x hx rfl
theorem tqP_evr (a : Nat) (l : List (List Int)) : tqP a (l.map evr) = (List.range l.length).map (fun j => (((a + j : Nat) : Int), (-1125899906842624 : Int))) := by
  induction l generalizing a with
  | nil => rfl
  | cons x l ih =>
    rw [List.length_cons, List.range_succ_eq_map, List.map_cons, List.map_cons, tqP, ih, List.map_map, atQ_evr]
    congr 1
    refine List.map_congr_left (fun j _ => ?_)
    simp only [Function.comp_apply]
    congr 2
    omega
theorem PlF.again (h : PlF S L r s t k) (mj : Nat) (hmj : mj ≤ k) (seed : List Int) (dd : Dk) (hdd : dd = L.dd) (dk : Dk) (hdk : dk = L.dk) : PlF ⟨r, s, t, (lackP L.its S.rc).map evr, S.rc, dkOn (layP S.rc), S.rc.length⟩ ⟨L.its, 0, seed, none, dd, dk, mj, 0⟩ r s t (k + 1) := by
  obtain ⟨rs, g1, g2, g3, g4⟩ := h.dd
  refine ⟨rfl, rfl, rfl, rfl, h.ok, ?_, h.nd, by have := h.len; show S.rc.length ≤ k + 1; omega, by have := h.len; show S.rc.length ≤ k + 1; omega, ⟨rs, g1, by rw [hdd, g2], g3, by omega⟩, by show mj ≤ k + 1; omega, by rw [hdk]; exact h.dk, ?_⟩
  · show S.rc = L.its ++ ((lackP L.its S.rc).map evr).map It.bs
    rw [map_evr, h.lack]
    exact h.eq
  · intro e he
    obtain ⟨x, -, rfl⟩ := List.mem_map.1 he
    exact .inl rfl
end
end Go.Proofs.YteabdojjllfcpaaGreat

/-
  The law's own step.
-/
namespace Go.Proofs.YteabdojjllfcpaaGreat
open Go.RowKit
open Go.Proofs
set_option linter.unusedVariables false
theorem cut_own {ao : Option Addr} {c k n n' c' m i : Nat} (h : (Value.slice (if c = k then ao else ao.map (·.add m)) n' c').ownBlock = some i) : (Value.slice ao n c).ownBlock = some i := by
  split at h
  · cases ao with
    | none => cases h
    | some a => exact h
  · cases ao with
    | none => cases h
    | some a =>
      have e : (a.add m).block = a.block := by unfold Addr.add; split <;> rfl
      have h : some (a.add m).block = some i := h
      rw [e] at h
      exact h
theorem seqF_succ (a n : Nat) : seqF a (n + 1) = seqF a n ++ [((a + n : Nat) : Int)] := by simp [seqF, List.range_succ]
theorem seqF_len (a n : Nat) : (seqF a n).length = n := by simp [seqF]
section
variable {w0 w : World} {A : Nat → Prop} {x pw : Nat} {vi : Value} {li : List (Value × List Int)} {vrc : Value} {lr : List (Value × List Int)} {vq : Value} {tq : List (Int × Int)} {vf vl vd ve vk : Value} {r s t : Int}
set_option maxRecDepth 100000 in
set_option maxHeartbeats 16000000 in
theorem fstepL_no (hW : Wd w x vf vl vd ve vk r s t (.pointer (some ⟨pw, 0, none⟩)) vrc vq) (hL : Lw w0 w A x pw vi li vrc lr vq tq) (hA : ∀ i, (A i ∨ i = x) → i < w.heap.size) (hx0 : w0.heap.size ≤ x) (hw : w0.heap.size ≤ w.heap.size) (now : Int) (hn0 : 0 ≤ now) (hn1 : now ≤ 1000000) (hs0 : 1 ≤ s) (hs1 : s ≤ 8) (ht0 : 0 ≤ t) (ht1 : t ≤ 1000) (its : List (List Int)) (hits : li.map (·.2) = its) (rc : List (List Int)) (hrc : lr.map (·.2) = rc) (htq : ∀ e ∈ tq, (∃ j : Nat, e.1 = j ∧ j < rc.length) ∧ -1125899906842624 ≤ e.2 ∧ e.2 ≤ 1000000) (hil : its.length ≤ 1000) (hrl : rc.length ≤ 1000) (hql : tq.length ≤ 1000) (hd : dueP s t now tq = false) :
    Calls Tryz.prog 51 #[.pointer (some ⟨x, 0, none⟩), .int .i64 now] w fun e w' => e = .returned (.slice none 0 0) ∧ Kp [] w w' := by
  obtain ⟨qa, qc, evq, -⟩ := id hL.q
  obtain ⟨nq, hnq⟩ : ∃ n, n = tq.length := ⟨_, rfl⟩
  rw [← hnq] at evq
  subst evq
  unfold dueP at hd
  rw [Bool.or_eq_false_iff] at hd
  obtain ⟨hd1, hd2⟩ := hd
  rw [← hnq] at hd1
  have hns : ¬ s ≤ (nq : Int) := of_decide_eq_false hd1
  have hlt : (nq : Int) < s := by omega
  have hltd : decide ((nq : Int) < s) = true := decide_eq_true hlt
  have HKp : Hid (∀ w', Kp [] w w' → Wd w' x vf vl vd ve vk r s t (.pointer (some ⟨pw, 0, none⟩)) vrc (.slice qa nq qc)) := fun w' k => hW.kept k (by simp)
  have hW0 := HKp.out w (Kp.refl _ _)
  have hW1 := HKp.out w.drew (kp_drew w)
  have c10 := hW0.c10
  have c6 := hW0.c6
  have c7 := hW0.c7
  have d10 := hW1.c10
  have d6 := hW1.c6
  have d7 := hW1.c7
  by_cases hz : nq = 0
  · subst hz
    have hz0 : ((0 : Nat) : Int) = 0 := rfl
    have hzb : (((0 : Nat) : Int) == (0 : Int)) = true := rfl
    have hlt0 : decide ((0 : Int) < s) = true := decide_eq_true (by omega)
    clear hnq hd1 hd2 hns hW hL hW0 hW1
    go_enter Tryz.func51, Tryz.ntmps51
    go_wp2_with fail
    refine region_read Tryz.mixed (by kernel_rfl) ?_
    repeat (first | go_big_quiet_skip | (go_big_quiet_want; go_big_quiet_op; go_big_quiet_on))
    refine wpQuiet_nil ?_
    go_wp2_with fail
    go_ret
    exact ⟨rfl, kp_drew w⟩
  · obtain ⟨e, l, htl⟩ : ∃ e l, tq = e :: l := by
      cases tq with
      | nil => simp at hnq; omega
      | cons e l => exact ⟨e, l, rfl⟩
    subst htl
    obtain ⟨bq, oq, cq, evq, hcq, -, hca⟩ := hL.q.at 0 (by simp)
    injection evq with e1 e2 e3
    subst e1 e3
    clear e2
    have hea : ((e :: l)[0]'(by simp)).2 = e.2 := rfl
    rw [hea] at hca
    have hb := (htq e (by simp)).2
    have hd2 : decide (e.2 + t ≤ now) = false := hd2
    have hng : ¬ e.2 + t ≤ now := of_decide_eq_false hd2
    have hbt : now < e.2 + t := by omega
    have hbd : decide (now < e.2 + t) = true := decide_eq_true hbt
    have hwr : IntKind.i64.wrap (e.2 + t) = e.2 + t := by simp [IntKind.wrap, IntKind.signed, IntKind.bits]; omega
    have hzb : ((nq : Int) == (0 : Int)) = false := by simp; omega
    have hpos : (0 : Int) < (nq : Int) := by omega
    simp only [Nat.zero_mul, Nat.add_zero] at hca
    have hcd : w.drew.cell? ⟨bq, oq + 1, none⟩ = some (.int .i64 e.2) := hca
    generalize e.2 = ea at *
    clear hnq hd1 hd2 hns hW hL hW0 hW1 hits hrc htq
    go_enter Tryz.func51, Tryz.ntmps51
    go_wp2_with fail
    refine region_read Tryz.mixed (by kernel_rfl) ?_
    repeat (first | go_big_quiet_skip | (go_big_quiet_want; go_big_quiet_op; go_big_quiet_on))
    refine wpQuiet_nil ?_
    go_wp2_with fail
    go_ret
    exact ⟨rfl, kp_drew w⟩
set_option maxRecDepth 100000 in
set_option maxHeartbeats 16000000 in
theorem fstepL_due (hW : Wd w x vf vl vd ve vk r s t (.pointer (some ⟨pw, 0, none⟩)) vrc vq) (hL : Lw w0 w A x pw vi li vrc lr vq tq) (hA : ∀ i, (A i ∨ i = x) → i < w.heap.size) (hx0 : w0.heap.size ≤ x) (hw : w0.heap.size ≤ w.heap.size) (now : Int) (hn0 : 0 ≤ now) (hn1 : now ≤ 1000000) (hs0 : 1 ≤ s) (hs1 : s ≤ 8) (ht0 : 0 ≤ t) (ht1 : t ≤ 1000) (its : List (List Int)) (hits : li.map (·.2) = its) (rc : List (List Int)) (hrc : lr.map (·.2) = rc) (htq : ∀ e ∈ tq, (∃ j : Nat, e.1 = j ∧ j < rc.length) ∧ -1125899906842624 ≤ e.2 ∧ e.2 ≤ 1000000) (hil : its.length ≤ 1000) (hrl : rc.length ≤ 1000) (hql : tq.length ≤ 1000) (hd : dueP s t now tq = true) (n : Nat) (hn : n = min s.toNat tq.length) (hnp : 0 < n) (xs : List (List Int)) (hxs : xs = (tq.take n).map (fun e => rc.getD e.1.toNat [])) :
    Calls Tryz.prog 51 #[.pointer (some ⟨x, 0, none⟩), .int .i64 now] w fun e w' => ∃ u, e = .returned u ∧ RowI w' w.heap.size u (seqF its.length n) ∧ ∃ vi' li' vq', Wd w' x vf vl vd ve vk r s t (.pointer (some ⟨pw, 0, none⟩)) vrc vq' ∧ Lw w0 w' A x pw vi' li' vrc lr vq' (tq.drop n) ∧ li'.map (·.2) = its ++ xs ∧ ∃ T, Kp T w w' ∧ ∀ i ∈ T, i = x ∨ i = pw ∨ vi.ownBlock = some i := by
  obtain ⟨qa, qc, evq, -⟩ := id hL.q
  obtain ⟨nq, hnq⟩ : ∃ n, n = tq.length := ⟨_, rfl⟩
  rw [← hnq] at evq
  subst evq
  obtain ⟨ra, rcp, evr⟩ := hL.alr.row.1.1.shape
  obtain ⟨nr, hnr⟩ : ∃ n, n = rc.length := ⟨_, rfl⟩
  rw [List.length_map, ← List.length_map (f := (·.2)), hrc, ← hnr] at evr
  subst evr
  have hnq0 : 0 < nq := by omega
  have hnqn : n ≤ nq := by omega
  obtain ⟨e, l, htl⟩ : ∃ e l, tq = e :: l := by
    cases tq with
    | nil => simp at hnq; omega
    | cons e l => exact ⟨e, l, rfl⟩
  obtain ⟨bq, oq, cq, evq, hcq, -, hca⟩ := hL.q.at 0 (by omega)
  injection evq with e1 e2 e3
  subst e1 e3
  have hea : (tq[0]'(by omega)).2 = e.2 := by simp [htl]
  rw [hea] at hca
  have hb := (htq e (by rw [htl]; simp)).2
  have hwr : IntKind.i64.wrap (e.2 + t) = e.2 + t := by simp [IntKind.wrap, IntKind.signed, IntKind.bits]; omega
  have hzb : ((nq : Int) == (0 : Int)) = false := by simp; omega
  have hpos : (0 : Int) < (nq : Int) := by omega
  simp only [Nat.zero_mul, Nat.add_zero] at hca
  have hor : s ≤ (nq : Int) ∨ ((nq : Int) < s ∧ ¬ now < e.2 + t) := by
    unfold dueP at hd
    rw [htl] at hd
    simp only [Bool.or_eq_true, decide_eq_true_eq] at hd
    rw [← htl, ← hnq] at hd
    omega
  have hcd : w.drew.cell? ⟨bq, oq + 1, none⟩ = some (.int .i64 e.2) := hca
  clear hea htl e2
  generalize e.2 = ea at *
  obtain ⟨wd, hwd⟩ : ∃ y, y = w.drew := ⟨_, rfl⟩
  have Kd : Kp [] w wd := by rw [hwd]; exact kp_drew w
  have HKd := hide Kd
  have Hwd := hide hwd
  have HW := hide (hW.kept Kd (by simp))
  have HL := hide (hL.on Kd)
  have HA := hide hA
  have Hx0 := hide hx0
  have Hw := hide hw
  have Hits := hide hits
  have Hrc := hide hrc
  have Htq := hide htq
  have Hlen := hide (And.intro hil (And.intro hrl hql))
  have Hn := hide hn
  have Hxs := hide hxs
  have Hnq := hide hnq
  have Hnr := hide hnr
  have HLw := hide hL
  have c10 := hW.c10
  have c6 := hW.c6
  have c7 := hW.c7
  have d10 := (hW.kept (kp_drew w) (by simp)).c10
  have d6 := (hW.kept (kp_drew w) (by simp)).c6
  have d7 := (hW.kept (kp_drew w) (by simp)).c7
  clear hits hrc htq hil hrl hql hd hn hxs hW hL hA hx0 hw hnq hnr Kd hwd
  go_enter Tryz.func51, Tryz.ntmps51
  go_upto_region 1 with fail
  go_cut [41] from 8 to 40 (fun c wc => c = .bool false ∧ wc = wd)
  case first =>
    rcases hor with hle | ⟨hlt, hnl⟩
    · have hd1 : decide ((nq : Int) < s) = false := decide_eq_false (by omega)
      go_wp2_with fail
      refine region_read Tryz.mixed (by kernel_rfl) ?_
      repeat (first | go_big_quiet_skip | (go_big_quiet_want; go_big_quiet_op; go_big_quiet_on))
      refine wpQuiet_nil ?_
      go_wp2_with fail
      go_meet
      exact ⟨rfl, Hwd.out.symm⟩
    · have hd1 : decide ((nq : Int) < s) = true := decide_eq_true hlt
      have hbd : decide (now < ea + t) = false := decide_eq_false hnl
      go_wp2_with fail
      refine region_read Tryz.mixed (by kernel_rfl) ?_
      repeat (first | go_big_quiet_skip | (go_big_quiet_want; go_big_quiet_op; go_big_quiet_on))
      refine wpQuiet_nil ?_
      go_wp2_with fail
      go_meet
      exact ⟨rfl, Hwd.out.symm⟩
  case rest =>
    obtain ⟨rfl, hwc⟩ := hcut
    subst wc
    clear c10 c6 c7 d10 d6 d7 hcd hca hor hwr
    have c10 := HW.out.c10
    have c6 := HW.out.c6
    go_upto_if 52 with fail
    go_cut [5] from 52 to 57 (fun v wc => v = .int .i64 (n : Nat) ∧ wc = wd)
    case first =>
      by_cases hsn : s > (nq : Int)
      · have hsd : decide ((nq : Int) < s) = true := decide_eq_true hsn
        have hnn : n = nq := by have := Hn.out; have := Hnq.out; omega
        go_wp2_with fail
        go_meet
        exact ⟨by rw [hnn], rfl⟩
      · have hsd : decide ((nq : Int) < s) = false := decide_eq_false hsn
        have hnn : s = (n : Int) := by have := Hn.out; have := Hnq.out; omega
        have Hnn := hide hnn
        clear hnn
        go_wp2_with fail
        go_meet
        exact ⟨by rw [Hnn.out], rfl⟩
    case rest =>
      obtain ⟨rfl, hwc⟩ := hcut
      subst wc
      clear c10 c6
      have HI : Hid (∃ (oa : Option Addr) (no oc : Nat) (vj : Value) (lj : List (Value × List Int)), Value.slice none 0 0 = .slice oa no oc ∧ RowI wd w.heap.size (.slice oa no oc) (seqF its.length 0) ∧ Wd wd x vf vl vd ve vk r s t (.pointer (some ⟨pw, 0, none⟩)) (.slice ra nr rcp) (.slice (some ⟨bq, oq, none⟩) nq qc) ∧ Lw w0 wd A x pw vj lj (.slice ra nr rcp) lr (.slice (some ⟨bq, oq, none⟩) nq qc) tq ∧ lj.map (·.2) = its ++ xs.take 0 ∧ (∀ i, vj.ownBlock = some i → vi.ownBlock = some i ∨ w.heap.size ≤ i) ∧ (∀ i, (Value.slice oa no oc).ownBlock = some i → vj.ownBlock ≠ some i) ∧ (∀ y ∈ lj, ∀ i, y.1.ownBlock = some i → i < w.heap.size) ∧ ∃ T, Kp T w wd ∧ ∀ i ∈ T, i = x ∨ i = pw ∨ vi.ownBlock = some i) :=
        ⟨none, 0, 0, vi, li, rfl, ⟨rfl, .inl ⟨rfl, rfl⟩⟩, HW.out, HL.out, by rw [Hits.out]; simp, fun i hi => .inl hi, (fun i hi => by cases hi), (fun y hy i hi => (HLw.out.ali.its y hy i hi).1), [], HKd.out, by simp⟩
      clear HW HL
      go_wp2_with fail
      go_loopw [6, 7] (fun o i wr => ∃ (j : Nat), j ≤ n ∧ i = .int .i64 j ∧ ∃ (oa : Option Addr) (no oc : Nat) (vj : Value) (lj : List (Value × List Int)), o = .slice oa no oc ∧ RowI wr w.heap.size (.slice oa no oc) (seqF its.length j) ∧ Wd wr x vf vl vd ve vk r s t (.pointer (some ⟨pw, 0, none⟩)) (.slice ra nr rcp) (.slice (some ⟨bq, oq, none⟩) nq qc) ∧ Lw w0 wr A x pw vj lj (.slice ra nr rcp) lr (.slice (some ⟨bq, oq, none⟩) nq qc) tq ∧ lj.map (·.2) = its ++ xs.take j ∧ (∀ i, vj.ownBlock = some i → vi.ownBlock = some i ∨ w.heap.size ≤ i) ∧ (∀ i, (Value.slice oa no oc).ownBlock = some i → vj.ownBlock ≠ some i) ∧ (∀ y ∈ lj, ∀ i, y.1.ownBlock = some i → i < w.heap.size) ∧ ∃ T, Kp T w wr ∧ ∀ i ∈ T, i = x ∨ i = pw ∨ vi.ownBlock = some i) (fun _ i _ => n - (intOf i).toNat)
      case atStart => exact ⟨0, by omega, rfl, HI.out⟩
      case round =>
        clear HI
        obtain ⟨j, hj, rfl, oa, no, oc, vj, lj, rfl, hRo, hW, hL, hlj, hvj, hov, hits', T, hKT, hT⟩ := hrel
        have hno : no = j := by
          obtain ⟨_, _, e⟩ := hRo.shape
          injection e with _ e2 _
          rw [e2, seqF_len]
        subst hno
        have HRo := hide hRo
        have HW := hide hW
        have HL := hide hL
        have Hlj := hide hlj
        have Hvj := hide hvj
        have Hov := hide hov
        have Hits' := hide hits'
        have HKT := hide hKT
        have HT := hide hT
        by_cases hjn : no < n
        · have hjn' : (no : Int) < (n : Int) := by omega
          have hdj : decide ((no : Int) < (n : Int)) = true := decide_eq_true hjn'
          obtain ⟨ia, ic, evi⟩ := hL.ali.row.1.1.shape
          rw [List.length_map] at evi
          obtain ⟨ni, hni⟩ : ∃ m, m = lj.length := ⟨_, rfl⟩
          rw [← hni] at evi
          subst evi
          have hnil : ni = its.length + no := by
            have h1 := congrArg List.length hlj
            have h2 : xs.length = n := by rw [Hxs.out]; simp; have := Hnq.out; omega
            rw [List.length_map, List.length_append, List.length_take] at h1
            omega
          have hnb : ni ≤ 100000 := by have := Hlen.out.1; have := Hlen.out.2.2; have := Hnq.out; omega
          have Hnil := hide hnil
          have Hni := hide hni
          have c8 := hW.c8
          have e0 := hL.led.c0
          have hno6 : (seqF its.length no).length ≤ 1000000 := by rw [seqF_len]; omega
          clear hRo hW hL hlj hvj hov hits' hKT hT hnil hni
          go_wp2_with (at_builtin; go_loud (refine wpList_append_rowi rfl (.tmp 63) (.tmp 72) rfl w.heap.size (.slice oa no oc) (seqF its.length no) rfl HRo.out (ni : Int) rfl hno6 HKT.out.size ?_); intro a8 m8 c8' wX RX SX; refine Hid.out ?_)
          have HRX := hide RX
          have HKX := hide SX.1
          have hsize := HKT.out.size
          -- what the list of the numbers does not lie in
          have hfar : ∀ i ∈ (Value.slice oa no oc).ownBlock.toList, w.heap.size ≤ i ∧ (Value.slice ia ni ic).ownBlock ≠ some i := fun i hi => by
            have hi : (Value.slice oa no oc).ownBlock = some i := by simpa [Option.mem_toList] using hi
            exact ⟨(HRo.out.lt hi).1, Hov.out i hi⟩
          have hlow : ∀ i, (A i ∨ i = x ∨ i = pw ∨ (Value.slice ra nr rcp).ownBlock = some i ∨ (Value.slice (some ⟨bq, oq, none⟩) nq qc).ownBlock = some i) → i < w.heap.size := fun i hi => by
            rcases hi with e | e | e | e | e
            · exact HA.out i (.inl e)
            · exact HA.out i (.inr e)
            · rw [e]; exact HLw.out.led.lt
            · exact (HLw.out.alr.own i e).1
            · exact (HLw.out.qo i e).2.1
          have HWX : Hid (Wd wX x vf vl vd ve vk r s t (.pointer (some ⟨pw, 0, none⟩)) (.slice ra nr rcp) (.slice (some ⟨bq, oq, none⟩) nq qc)) := hide (HW.out.kept SX.1 (fun hm => by
            have h1 := (hfar x hm).1
            have h2 := hlow x (.inr (.inl rfl))
            omega))
          have HLX : Hid (Lw w0 wX A x pw (.slice ia ni ic) lj (.slice ra nr rcp) lr (.slice (some ⟨bq, oq, none⟩) nq qc) tq) := hide (HL.out.aside SX.1 (fun hm => by
            have h1 := (hfar pw hm).1
            have h2 := hlow pw (.inr (.inr (.inl rfl)))
            omega) (fun i hi hm => by
            have h1 := hfar i hm
            rcases hi with e | e | e
            · exact h1.2 e
            · have h2 := hlow i (.inr (.inr (.inr (.inl e)))); omega
            · have h2 := hlow i (.inr (.inr (.inr (.inr e)))); omega) (fun y hy i hi hm => by
            have h1 := (hfar i hm).1
            have h2 := Hits'.out y hy i hi
            omega) (fun y hy i hi hm => by
            have h1 := (hfar i hm).1
            have h2 := (HLw.out.alr.its y hy i hi).1
            omega))
          have HKTX : Hid (Kp T w wX) := hide (HKT.out.then SX.1 (fun i hi => .inr (by have h1 := (hfar i hi).1; omega)))
          have HOvX : Hid (∀ i, (Value.slice a8 m8 c8').ownBlock = some i → w.heap.size ≤ i ∧ i < wX.heap.size ∧ (Value.slice ia ni ic).ownBlock ≠ some i) := hide (fun i hi => by
            obtain ⟨h1, h2⟩ := RX.lt hi
            refine ⟨h1, h2, fun e => ?_⟩
            rcases SX.2 i hi with h3 | h3
            · exact Hov.out i h3 e
            · have := (HL.out.ali.own i e).1
              omega)
          clear RX SX HRo HW HL HKT Hov c8 e0 hfar hlow hsize
          -- the receipt whose turn it is
          have hjq : no < tq.length := by have := Hnq.out; omega
          obtain ⟨bq2, oq2, cq2, evq2, -, hcm, -⟩ := HLX.out.q.at no hjq
          injection evq2 with e1 e2 e3
          injection e1 with e1
          injection e1 with e4 e5 e6
          subst e4 e5
          clear e2 e3 e6
          obtain ⟨⟨m, hm1, hm2⟩, -⟩ := Htq.out _ (List.getElem_mem hjq)
          rw [hm1] at hcm
          have hml : m < lr.length := by have := congrArg List.length Hrc.out; rw [List.length_map] at this; omega
          obtain ⟨gr, hgr, hcr⟩ := HLX.out.alr.row.1.1.at m (by rw [List.length_map]; exact hml)
          subst hgr
          rw [List.getElem_map] at hcr
          obtain ⟨hSn, hBn⟩ := HLX.out.alr.row.1.2 _ (List.getElem_mem hml)
          have hins : ∀ i, lr[m].1.ownBlock = some i → i < w.heap.size ∧ ¬ ((A i ∨ i = x) ∨ i = pw ∨ (Value.slice ia ni ic).ownBlock = some i) ∧ (Value.slice (some ⟨gr, 0, none⟩) nr rcp).ownBlock ≠ some i := fun i hi =>
            ⟨(HLw.out.alr.its _ (List.getElem_mem hml) i hi).1, (HLX.out.alr.its _ (List.getElem_mem hml) i hi).2, HLX.out.ee _ (List.getElem_mem hml) i hi⟩
          have hrn : lr[m].2 = rc[m] := by
            have h1 : (lr.map (·.2))[m]'(by rw [List.length_map]; exact hml) = rc[m] := by simp only [Hrc.out]
            rw [← h1, List.getElem_map]
          have hxn : xs.take (no + 1) = xs.take no ++ [rc[m]] := by
            have hlx : no < xs.length := by rw [Hxs.out]; simp; omega
            rw [List.take_succ_eq_append_getElem hlx]
            have hg : xs[no] = rc[m] := by
              simp only [Hxs.out, List.getElem_map, List.getElem_take, hm1, Int.toNat_natCast, List.getD_eq_getElem?_getD]
              rw [List.getElem?_eq_getElem hm2]
              rfl
            rw [hg]
          obtain ⟨bb, hbb⟩ : ∃ b, b = rc[m] := ⟨_, rfl⟩
          rw [hrn, ← hbb] at hSn hBn
          rw [← hbb] at hxn
          obtain ⟨ax, cx, evx, -⟩ := id hSn
          obtain ⟨nx, hnx⟩ : ∃ k, k = bb.length := ⟨_, rfl⟩
          rw [← hnx] at evx
          rw [evx] at hSn hcr hins
          have hmr : (m : Int) < (nr : Int) := by have := Hnr.out; omega
          have HMr := hide hmr
          have HJq : Hid ((no : Int) < (nq : Int)) := hide (by omega)
          have HSn := hide hSn
          have HBn := hide hBn.1
          have Hins := hide hins
          have Hxn := hide hxn
          have Hli := hide HLX.out.ali.row
          obtain ⟨c1, c2, c3, c4, c5, c6, c7, c8, hld⟩ := HLX.out.led
          have hoi : ∀ i, (Value.slice ia ni ic).ownBlock = some i → i ≠ x ∧ i ≠ pw ∧ (Value.slice (some ⟨gr, 0, none⟩) nr rcp).ownBlock ≠ some i ∧ (Value.slice (some ⟨bq, oq, none⟩) nq qc).ownBlock ≠ some i := fun i hi => by
            have h1 := (HLX.out.ali.own i hi).2
            exact ⟨fun e => h1 (.inl (.inr e)), fun e => h1 (.inr (.inl e)), fun e => h1 (.inr (.inr e)), fun e => (HLX.out.qo i e).2.2 (.inr (.inr (.inl hi)))⟩
          have hog : ∀ i ∈ (Value.slice ia ni ic).ownBlock.toList, (Value.slice ia ni ic).ownBlock = some i := fun i hi => by simpa [Option.mem_toList] using hi
          obtain ⟨X, hX⟩ : ∃ X, X = Value.slice ax nx cx := ⟨_, rfl⟩
          have KVk : ∀ w', KV (Value.slice ia ni ic).ownBlock.toList (lj.map (·.1)).length (.slice ax nx cx) wX.drew w' → Kp (Value.slice ia ni ic).ownBlock.toList wX w' := fun w' k' => ((kp_drew wX).mono (by simp)).trans k'.kp
          have HWd : Hid (∀ w', KV (Value.slice ia ni ic).ownBlock.toList (lj.map (·.1)).length (.slice ax nx cx) wX.drew w' → Wd w' x vf vl vd ve vk r s t (.pointer (some ⟨pw, 0, none⟩)) (.slice (some ⟨gr, 0, none⟩) nr rcp) (.slice (some ⟨bq, oq, none⟩) nq qc)) := hide (fun w' k' => HWX.out.kept (KVk w' k') (fun hm => (hoi x (hog x hm)).1 rfl))
          have HLd : Hid (∀ w', KV (Value.slice ia ni ic).ownBlock.toList (lj.map (·.1)).length (.slice ax nx cx) wX.drew w' → w'.heap[pw]? = some (.cells #[.slice ia ni ic, c1, c2, c3, c4, c5, c6, c7, c8] 152 (0, 0))) := hide (fun w' k' => (KVk w' k').heap hld (fun hm => (hoi pw (hog pw hm)).2.1 rfl))
          have HQc : Hid (∀ w', KV (Value.slice ia ni ic).ownBlock.toList (lj.map (·.1)).length (.slice ax nx cx) wX.drew w' → w'.cell? ⟨bq, oq + no * 2, none⟩ = some (.int .i64 (m : Nat))) := hide (fun w' k' => (KVk w' k').cell hcm (fun hm => (hoi bq (hog bq hm)).2.2.2 rfl))
          have HRc : Hid (∀ w', KV (Value.slice ia ni ic).ownBlock.toList (lj.map (·.1)).length (.slice ax nx cx) wX.drew w' → w'.cell? ⟨gr, m, none⟩ = some (.slice ax nx cx)) := hide (fun w' k' => (KVk w' k').cell hcr (fun hm => (hoi gr (hog gr hm)).2.2.1 rfl))
          have HVr : Hid (RowV wX.drew 0 (.slice ia ni ic) (lj.map (·.1))) := hide (HLX.out.ali.row.1.1.kept (kp_drew wX) (by simp))
          have HLn : Hid ((lj.map (·.1)).length ≤ 100000) := hide (by rw [List.length_map, ← Hni.out]; exact hnb)
          have HOg : Hid (∀ i ∈ (Value.slice ia ni ic).ownBlock.toList, i < wX.drew.heap.size) := hide (fun i hi => (HLX.out.ali.own i (hog i hi)).1)
          have hm8 : m8 = no + 1 := by
            obtain ⟨_, _, e⟩ := HRX.out.shape
            injection e with _ e2 _
            rw [e2, List.length_append, seqF_len]
            rfl
          subst hm8
          clear hcm hm1 hm2 hml hcr hSn hBn hins hrn hxn hbb hmr hld hoi hog hX KVk hjq evx hnx hjn' hdj
          refine hide ?_
          go_upto_region 11 with fail
          refine region_growG_tail (K := KV (Value.slice ia ni ic).ownBlock.toList (lj.map (·.1)).length (.slice ax nx cx)) (G := fun _ w => KV (Value.slice ia ni ic).ownBlock.toList (lj.map (·.1)).length (.slice ax nx cx) wX.drew w) 27 Tryz.mixed [Is (.pointer (some ⟨x, 0, none⟩)), Is (.pointer (some ⟨x, 0, none⟩)), Is (.pointer (some ⟨x, 8, none⟩)), Is (.pointer (some ⟨pw, 0, none⟩)), Is (.pointer (some ⟨x, 0, none⟩)), Is (.pointer (some ⟨x, 0, none⟩)), Is (.pointer (some ⟨x, 8, none⟩)), Is (.pointer (some ⟨pw, 0, none⟩)), Is (.pointer (some ⟨pw, 0, none⟩)), Is (.pointer (some ⟨pw, 0, none⟩)), Is (.slice ia ni ic), Is (.pointer (some ⟨x, 0, none⟩)), Is (.pointer (some ⟨x, 0, none⟩)), Is (.pointer (some ⟨x, 9, none⟩)), Is (.slice (some ⟨gr, 0, none⟩) nr rcp), Is (.pointer (some ⟨x, 0, none⟩)), Is (.pointer (some ⟨x, 0, none⟩)), Is (.pointer (some ⟨x, 10, none⟩)), Is (.slice (some ⟨bq, oq, none⟩) nq qc), Is (.int .i64 (no : Nat)), Is (.pointer (some ⟨bq, oq + no * 2, none⟩)), Is (.pointer (some ⟨bq, oq + no * 2, none⟩)), Is (.int .i64 (m : Nat)), Is (.pointer (some ⟨gr, m, none⟩)), Is (.slice ax nx cx), LitV wX.drew.heap.size (.slice ax nx cx), RowX wX.drew.heap.size (Value.slice ia ni ic).ownBlock.toList (lj.map (·.1)) (.slice ax nx cx)] [[(0, none)], [(74, some 0)], [(75, some 1)], [(76, some 2)], [(0, none)], [(78, some 4)], [(79, some 5)], [(80, some 6)], [(81, some 7)], [(82, some 8)], [(83, some 9)], [(0, none)], [(85, some 11)], [(86, some 12)], [(87, some 13)], [(0, none)], [(89, some 15)], [(90, some 16)], [(91, some 17)], [(7, none)], [(92, some 18), (93, some 19)], [(94, some 20)], [(95, some 21)], [(88, some 14), (96, some 22)], [(97, some 23)], [(98, some 24)], [(84, some 10), (99, some 25)]] (by kernel_rfl) ?_ (KV.of (Kp.refl [] _)) ?_ ?_
          all_goals try simp only [List.take_succ_cons, List.take_zero, List.drop_succ_cons, List.drop_zero]
          · simp only [List.mem_cons, List.not_mem_nil, or_false]
            intro R hR
            rcases hR with rfl | rfl | rfl | rfl | rfl | rfl | rfl | rfl | rfl | rfl | rfl | rfl | rfl | rfl | rfl | rfl | rfl | rfl | rfl | rfl | rfl | rfl | rfl | rfl | rfl | rfl | rfl <;> first | exact stableV_is _ | exact stableV_lit _ HOg.out | exact stableV_row _ _
          · refine steps_consG (fun a w hk hn => ?_) ?_
            · have h0 : a.eval (.tmp 0) = .pointer (some ⟨x, 0, none⟩) := hn.1
              clear hn
              refine wantsG_of (fun _ _ k => KV.of k) (fun v w' k => hk.trans (KV.of k)) (wants_plain rfl ?_)
              exact grown_move (.tmp 0) rfl h0
            refine steps_consG (fun a w hk hn => ?_) ?_
            · have h74 : a.eval (.tmp 74) = .pointer (some ⟨x, 0, none⟩) := hn.1
              clear hn
              refine wantsG_of (fun _ _ k => KV.of k) (fun v w' k => hk.trans (KV.of k)) (wants_plain rfl ?_)
              refine grown_run (v := .pointer (some ⟨x, 0, none⟩)) ?_ (Kp.refl _ _) rfl
              obtain ⟨ρ, hρ, hc, hf, hg⟩ := eval_is a
              rw [hρ] at h74 ⊢
              simp [go_sem, h74]
            refine steps_consG (fun a w hk hn => ?_) ?_
            · have h75 : a.eval (.tmp 75) = .pointer (some ⟨x, 0, none⟩) := hn.1
              clear hn
              refine wantsG_of (fun _ _ k => KV.of k) (fun v w' k => hk.trans (KV.of k)) (wants_plain rfl ?_)
              refine grown_run (v := .pointer (some ⟨x, 8, none⟩)) ?_ (Kp.refl _ _) rfl
              obtain ⟨ρ, hρ, hc, hf, hg⟩ := eval_is a
              rw [hρ] at h75 ⊢
              simp [go_sem, h75]
            refine steps_consG (fun a w hk hn => ?_) ?_
            · have h76 : a.eval (.tmp 76) = .pointer (some ⟨x, 8, none⟩) := hn.1
              clear hn
              refine wantsG_of (fun _ _ k => KV.of k) (fun v w' k => hk.trans (KV.of k)) (wants_plain rfl ?_)
              refine grown_run (v := .pointer (some ⟨pw, 0, none⟩)) ?_ (Kp.refl _ _) rfl
              have hcell : w.cell? ⟨x, 8, none⟩ = some (.pointer (some ⟨pw, 0, none⟩)) := by rw [cell_of_row w x 8 _ _ _ (HWd.out w hk)]; rfl
              obtain ⟨ρ, hρ, hc, hf, hg⟩ := eval_is a
              rw [hρ] at h76 ⊢
              simp [go_sem, h76, hcell]
            refine steps_consG (fun a w hk hn => ?_) ?_
            · have h0 : a.eval (.tmp 0) = .pointer (some ⟨x, 0, none⟩) := hn.1
              clear hn
              refine wantsG_of (fun _ _ k => KV.of k) (fun v w' k => hk.trans (KV.of k)) (wants_plain rfl ?_)
              exact grown_move (.tmp 0) rfl h0
            refine steps_consG (fun a w hk hn => ?_) ?_
            · have h78 : a.eval (.tmp 78) = .pointer (some ⟨x, 0, none⟩) := hn.1
              clear hn
              refine wantsG_of (fun _ _ k => KV.of k) (fun v w' k => hk.trans (KV.of k)) (wants_plain rfl ?_)
              refine grown_run (v := .pointer (some ⟨x, 0, none⟩)) ?_ (Kp.refl _ _) rfl
              obtain ⟨ρ, hρ, hc, hf, hg⟩ := eval_is a
              rw [hρ] at h78 ⊢
              simp [go_sem, h78]
            refine steps_consG (fun a w hk hn => ?_) ?_
            · have h79 : a.eval (.tmp 79) = .pointer (some ⟨x, 0, none⟩) := hn.1
              clear hn
              refine wantsG_of (fun _ _ k => KV.of k) (fun v w' k => hk.trans (KV.of k)) (wants_plain rfl ?_)
              refine grown_run (v := .pointer (some ⟨x, 8, none⟩)) ?_ (Kp.refl _ _) rfl
              obtain ⟨ρ, hρ, hc, hf, hg⟩ := eval_is a
              rw [hρ] at h79 ⊢
              simp [go_sem, h79]
            refine steps_consG (fun a w hk hn => ?_) ?_
            · have h80 : a.eval (.tmp 80) = .pointer (some ⟨x, 8, none⟩) := hn.1
              clear hn
              refine wantsG_of (fun _ _ k => KV.of k) (fun v w' k => hk.trans (KV.of k)) (wants_plain rfl ?_)
              refine grown_run (v := .pointer (some ⟨pw, 0, none⟩)) ?_ (Kp.refl _ _) rfl
              have hcell : w.cell? ⟨x, 8, none⟩ = some (.pointer (some ⟨pw, 0, none⟩)) := by rw [cell_of_row w x 8 _ _ _ (HWd.out w hk)]; rfl
              obtain ⟨ρ, hρ, hc, hf, hg⟩ := eval_is a
              rw [hρ] at h80 ⊢
              simp [go_sem, h80, hcell]
            refine steps_consG (fun a w hk hn => ?_) ?_
            · have h81 : a.eval (.tmp 81) = .pointer (some ⟨pw, 0, none⟩) := hn.1
              clear hn
              refine wantsG_of (fun _ _ k => KV.of k) (fun v w' k => hk.trans (KV.of k)) (wants_plain rfl ?_)
              refine grown_run (v := .pointer (some ⟨pw, 0, none⟩)) ?_ (Kp.refl _ _) rfl
              obtain ⟨ρ, hρ, hc, hf, hg⟩ := eval_is a
              rw [hρ] at h81 ⊢
              simp [go_sem, h81]
            refine steps_consG (fun a w hk hn => ?_) ?_
            · have h82 : a.eval (.tmp 82) = .pointer (some ⟨pw, 0, none⟩) := hn.1
              clear hn
              refine wantsG_of (fun _ _ k => KV.of k) (fun v w' k => hk.trans (KV.of k)) (wants_plain rfl ?_)
              refine grown_run (v := .pointer (some ⟨pw, 0, none⟩)) ?_ (Kp.refl _ _) rfl
              obtain ⟨ρ, hρ, hc, hf, hg⟩ := eval_is a
              rw [hρ] at h82 ⊢
              simp [go_sem, h82]
            refine steps_consG (fun a w hk hn => ?_) ?_
            · have h83 : a.eval (.tmp 83) = .pointer (some ⟨pw, 0, none⟩) := hn.1
              clear hn
              refine wantsG_of (fun _ _ k => KV.of k) (fun v w' k => hk.trans (KV.of k)) (wants_plain rfl ?_)
              refine grown_run (v := .slice ia ni ic) ?_ (Kp.refl _ _) rfl
              have hcell : w.cell? ⟨pw, 0, none⟩ = some (.slice ia ni ic) := by rw [cell_of_row w pw 0 _ _ _ (HLd.out w hk)]; rfl
              obtain ⟨ρ, hρ, hc, hf, hg⟩ := eval_is a
              rw [hρ] at h83 ⊢
              simp [go_sem, h83, hcell]
            refine steps_consG (fun a w hk hn => ?_) ?_
            · have h0 : a.eval (.tmp 0) = .pointer (some ⟨x, 0, none⟩) := hn.1
              clear hn
              refine wantsG_of (fun _ _ k => KV.of k) (fun v w' k => hk.trans (KV.of k)) (wants_plain rfl ?_)
              exact grown_move (.tmp 0) rfl h0
            refine steps_consG (fun a w hk hn => ?_) ?_
            · have h85 : a.eval (.tmp 85) = .pointer (some ⟨x, 0, none⟩) := hn.1
              clear hn
              refine wantsG_of (fun _ _ k => KV.of k) (fun v w' k => hk.trans (KV.of k)) (wants_plain rfl ?_)
              refine grown_run (v := .pointer (some ⟨x, 0, none⟩)) ?_ (Kp.refl _ _) rfl
              obtain ⟨ρ, hρ, hc, hf, hg⟩ := eval_is a
              rw [hρ] at h85 ⊢
              simp [go_sem, h85]
            refine steps_consG (fun a w hk hn => ?_) ?_
            · have h86 : a.eval (.tmp 86) = .pointer (some ⟨x, 0, none⟩) := hn.1
              clear hn
              refine wantsG_of (fun _ _ k => KV.of k) (fun v w' k => hk.trans (KV.of k)) (wants_plain rfl ?_)
              refine grown_run (v := .pointer (some ⟨x, 9, none⟩)) ?_ (Kp.refl _ _) rfl
              obtain ⟨ρ, hρ, hc, hf, hg⟩ := eval_is a
              rw [hρ] at h86 ⊢
              simp [go_sem, h86]
            refine steps_consG (fun a w hk hn => ?_) ?_
            · have h87 : a.eval (.tmp 87) = .pointer (some ⟨x, 9, none⟩) := hn.1
              clear hn
              refine wantsG_of (fun _ _ k => KV.of k) (fun v w' k => hk.trans (KV.of k)) (wants_plain rfl ?_)
              refine grown_run (v := .slice (some ⟨gr, 0, none⟩) nr rcp) ?_ (Kp.refl _ _) rfl
              have hcell : w.cell? ⟨x, 9, none⟩ = some (.slice (some ⟨gr, 0, none⟩) nr rcp) := by rw [cell_of_row w x 9 _ _ _ (HWd.out w hk)]; rfl
              obtain ⟨ρ, hρ, hc, hf, hg⟩ := eval_is a
              rw [hρ] at h87 ⊢
              simp [go_sem, h87, hcell]
            refine steps_consG (fun a w hk hn => ?_) ?_
            · have h0 : a.eval (.tmp 0) = .pointer (some ⟨x, 0, none⟩) := hn.1
              clear hn
              refine wantsG_of (fun _ _ k => KV.of k) (fun v w' k => hk.trans (KV.of k)) (wants_plain rfl ?_)
              exact grown_move (.tmp 0) rfl h0
            refine steps_consG (fun a w hk hn => ?_) ?_
            · have h89 : a.eval (.tmp 89) = .pointer (some ⟨x, 0, none⟩) := hn.1
              clear hn
              refine wantsG_of (fun _ _ k => KV.of k) (fun v w' k => hk.trans (KV.of k)) (wants_plain rfl ?_)
              refine grown_run (v := .pointer (some ⟨x, 0, none⟩)) ?_ (Kp.refl _ _) rfl
              obtain ⟨ρ, hρ, hc, hf, hg⟩ := eval_is a
              rw [hρ] at h89 ⊢
              simp [go_sem, h89]
            refine steps_consG (fun a w hk hn => ?_) ?_
            · have h90 : a.eval (.tmp 90) = .pointer (some ⟨x, 0, none⟩) := hn.1
              clear hn
              refine wantsG_of (fun _ _ k => KV.of k) (fun v w' k => hk.trans (KV.of k)) (wants_plain rfl ?_)
              refine grown_run (v := .pointer (some ⟨x, 10, none⟩)) ?_ (Kp.refl _ _) rfl
              obtain ⟨ρ, hρ, hc, hf, hg⟩ := eval_is a
              rw [hρ] at h90 ⊢
              simp [go_sem, h90]
            refine steps_consG (fun a w hk hn => ?_) ?_
            · have h91 : a.eval (.tmp 91) = .pointer (some ⟨x, 10, none⟩) := hn.1
              clear hn
              refine wantsG_of (fun _ _ k => KV.of k) (fun v w' k => hk.trans (KV.of k)) (wants_plain rfl ?_)
              refine grown_run (v := .slice (some ⟨bq, oq, none⟩) nq qc) ?_ (Kp.refl _ _) rfl
              have hcell : w.cell? ⟨x, 10, none⟩ = some (.slice (some ⟨bq, oq, none⟩) nq qc) := by rw [cell_of_row w x 10 _ _ _ (HWd.out w hk)]; rfl
              obtain ⟨ρ, hρ, hc, hf, hg⟩ := eval_is a
              rw [hρ] at h91 ⊢
              simp [go_sem, h91, hcell]
            refine steps_consG (fun a w hk hn => ?_) ?_
            · have h7 : a.eval (.tmp 7) = .int .i64 (no : Nat) := hn.1
              clear hn
              refine wantsG_of (fun _ _ k => KV.of k) (fun v w' k => hk.trans (KV.of k)) (wants_plain rfl ?_)
              exact grown_move (.tmp 7) rfl h7
            refine steps_consG (fun a w hk hn => ?_) ?_
            · have h92 : a.eval (.tmp 92) = .slice (some ⟨bq, oq, none⟩) nq qc := hn.1
              have h93 : a.eval (.tmp 93) = .int .i64 (no : Nat) := hn.2.1
              clear hn
              refine wantsG_of (fun _ _ k => KV.of k) (fun v w' k => hk.trans (KV.of k)) (wants_plain rfl ?_)
              refine grown_run (v := .pointer (some ⟨bq, oq + no * 2, none⟩)) ?_ (Kp.refl _ _) rfl
              have hin := HJq.out
              obtain ⟨ρ, hρ, hc, hf, hg⟩ := eval_is a
              rw [hρ] at h92 h93 ⊢
              simp [go_sem, h92, h93, hin]
            refine steps_consG (fun a w hk hn => ?_) ?_
            · have h94 : a.eval (.tmp 94) = .pointer (some ⟨bq, oq + no * 2, none⟩) := hn.1
              clear hn
              refine wantsG_of (fun _ _ k => KV.of k) (fun v w' k => hk.trans (KV.of k)) (wants_plain rfl ?_)
              refine grown_run (v := .pointer (some ⟨bq, oq + no * 2, none⟩)) ?_ (Kp.refl _ _) rfl
              obtain ⟨ρ, hρ, hc, hf, hg⟩ := eval_is a
              rw [hρ] at h94 ⊢
              simp [go_sem, h94]
            refine steps_consG (fun a w hk hn => ?_) ?_
            · have h95 : a.eval (.tmp 95) = .pointer (some ⟨bq, oq + no * 2, none⟩) := hn.1
              clear hn
              refine wantsG_of (fun _ _ k => KV.of k) (fun v w' k => hk.trans (KV.of k)) (wants_plain rfl ?_)
              refine grown_run (v := .int .i64 (m : Nat)) ?_ (Kp.refl _ _) rfl
              have hcell := HQc.out w hk
              obtain ⟨ρ, hρ, hc, hf, hg⟩ := eval_is a
              rw [hρ] at h95 ⊢
              simp [go_sem, h95, hcell]
            refine steps_consG (fun a w hk hn => ?_) ?_
            · have h88 : a.eval (.tmp 88) = .slice (some ⟨gr, 0, none⟩) nr rcp := hn.1
              have h96 : a.eval (.tmp 96) = .int .i64 (m : Nat) := hn.2.1
              clear hn
              refine wantsG_of (fun _ _ k => KV.of k) (fun v w' k => hk.trans (KV.of k)) (wants_plain rfl ?_)
              refine grown_run (v := .pointer (some ⟨gr, m, none⟩)) ?_ (Kp.refl _ _) rfl
              have hin := HMr.out
              obtain ⟨ρ, hρ, hc, hf, hg⟩ := eval_is a
              rw [hρ] at h88 h96 ⊢
              simp [go_sem, h88, h96, hin]
            refine steps_consG (fun a w hk hn => ?_) ?_
            · have h97 : a.eval (.tmp 97) = .pointer (some ⟨gr, m, none⟩) := hn.1
              clear hn
              refine wantsG_of (fun _ _ k => KV.of k) (fun v w' k => hk.trans (KV.of k)) (wants_plain rfl ?_)
              refine grown_run (v := .slice ax nx cx) ?_ (Kp.refl _ _) rfl
              have hcell := HRc.out w hk
              obtain ⟨ρ, hρ, hc, hf, hg⟩ := eval_is a
              rw [hρ] at h97 ⊢
              simp [go_sem, h97, hcell]
            refine steps_consG (fun a w hk hn => ?_) ?_
            · have h98 : a.eval (.tmp 98) = .slice ax nx cx := hn.1
              clear hn
              refine wantsG_of (fun _ _ k => KV.of k) (fun v w' k => hk.trans (KV.of k)) (wants_plain rfl ?_)
              exact grown_litV (.tmp 98) (.slice ax nx cx) rfl h98 ⟨_, _, _, rfl⟩ hk.kp.size
            refine steps_consG (fun a w hk hn => ?_) ?_
            · have h84 : a.eval (.tmp 84) = .slice ia ni ic := hn.1
              have h99 : (LitV wX.drew.heap.size (.slice ax nx cx)) (a.eval (.tmp 99)) w := hn.2.1
              clear hn
              refine wantsG_putV (w0 := wX.drew) (b0 := wX.drew.heap.size) ?_ (.tmp 84) (.tmp 99) (.slice ia ni ic) (lj.map (·.1)) (.slice ax nx cx) ?_ hk h84 HVr.out h99 (by simp [Value.oneCell']) HLn.out hk.kp.size
              · rfl
              · rfl
            exact trivial
          intro W1
          rintro _ rfl
          rintro _ rfl
          rintro _ rfl
          rintro _ rfl
          rintro _ rfl
          rintro _ rfl
          rintro _ rfl
          rintro _ rfl
          rintro _ rfl
          rintro _ rfl
          rintro _ rfl
          rintro _ rfl
          rintro _ rfl
          rintro _ rfl
          rintro _ rfl
          rintro _ rfl
          rintro _ rfl
          rintro _ rfl
          rintro _ rfl
          rintro _ rfl
          rintro _ rfl
          rintro _ rfl
          rintro _ rfl
          rintro _ rfl
          rintro _ rfl
          intro v99 h99
          intro v100 h100
          refine fin_nil ?_
          intro hkW1
          simp only [Act.put, List.set_cons_zero, List.set_cons_succ, List.setIfInBounds_toArray]
          have Hli2 : RowsQ wX.drew 0 (.slice ia ni ic) lj := Hli.out.kept (kp_drew wX) (by simp)
          obtain ⟨PR, SR⟩ := RowX.rows (bs := bb) h100 Hli2 hkW1 (Nat.le_refl _) (HSn.out.kept (kp_drew wX) (by simp)) HBn.out (fun i hi e => (Hins.out i hi).2.1 (.inr (.inr e)))
          have hld8 := HLd.out W1 hkW1
          have hW8 := HWd.out W1 hkW1
          obtain ⟨a9, c9, ev9⟩ := PR.1.1.shape
          rw [List.length_map, List.length_append] at ev9
          obtain ⟨n9, hn9⟩ : ∃ k, k = lj.length + [((Value.slice ax nx cx, bb) : Value × List Int)].length := ⟨_, rfl⟩
          rw [← hn9] at ev9
          subst ev9
          have hc0 : W1.cell? ⟨pw, 0, none⟩ = some (.slice ia ni ic) := by rw [cell_of_row W1 pw 0 _ _ _ hld8]; rfl
          have hf0 : W1.frozen? ⟨pw, 0, none⟩ = false := by simp [World.frozen?, hld8]
          obtain ⟨w9, hw9⟩ : ∃ y, y = W1.setCell ⟨pw, 0, none⟩ (.slice a9 n9 c9) := ⟨_, rfl⟩
          have Hw9 := hide hw9
          have hXl := HKTX.out.size
          have hL9 := (HLX.out.on (kp_drew wX)).puti (y := (.slice ax nx cx, bb)) (fun i hi => by have h1 := HA.out i hi; have h2 : wX.drew.heap.size = wX.heap.size := rfl; omega) PR SR (fun i hi => by
            obtain ⟨h1, h2, h3⟩ := Hins.out i hi
            have h4 : wX.drew.heap.size = wX.heap.size := rfl
            exact ⟨by omega, fun e => e.elim (fun e => h2 (.inl e)) (fun e => e.elim (fun e => h2 (.inr (.inl e))) h3)⟩) (fun y' hy' i hi => by
            have h1 := (HLw.out.alr.its y' hy' i hi).1
            have h4 : wX.drew.heap.size = wX.heap.size := rfl
            omega) (by have h4 : wX.drew.heap.size = wX.heap.size := rfl; have := Hw.out; omega)
          rw [← hw9] at hL9
          have k9 : Kp [pw] W1 w9 := by rw [hw9]; exact kp_set W1 pw 0 _
          have hpw := HLw.out.led.lt
          have hxw := HA.out x (.inr rfl)
          have HL9 := hide hL9
          have HW9 : Hid (Wd w9 x vf vl vd ve vk r s t (.pointer (some ⟨pw, 0, none⟩)) (.slice (some ⟨gr, 0, none⟩) nr rcp) (.slice (some ⟨bq, oq, none⟩) nq qc)) := hide (hW8.kept k9 (fun hm => HL9.out.po.2 (.inr (by simpa using (show x = pw by simpa using hm).symm))))
          have HRX9 : Hid (RowI w9 w.heap.size (.slice a8 (no + 1) c8') (seqF its.length (no + 1))) := hide (by
            have h1 := ((HRX.out.kept (kp_drew wX) (by simp)).kept SR.1 (fun i hi hm => (HOvX.out i hi).2.2 (by simpa [Option.mem_toList] using hm))).kept k9 (fun i hi hm => by
              have h2 := (HOvX.out i hi).1
              have h3 : i = pw := by simpa using hm
              omega)
            rw [seqF_succ, ← Hnil.out]
            exact h1)
          have HK9 : Hid (Kp (pw :: (T ++ vi.ownBlock.toList)) w w9) := hide ((((HKTX.out.mono (fun i hi => by simp [hi])).trans ((kp_drew wX).mono (by simp))).then SR.1 (fun i hi => by
            have hi : (Value.slice ia ni ic).ownBlock = some i := by simpa [Option.mem_toList] using hi
            rcases Hvj.out i hi with e | e
            · exact .inl (by simp [e])
            · exact .inr e)).then k9 (fun i hi => .inl (by simp at hi; simp [hi])))
          have Hvj9 : Hid (∀ i, (Value.slice a9 n9 c9).ownBlock = some i → vi.ownBlock = some i ∨ w.heap.size ≤ i) := hide (fun i hi => by
            rcases SR.2 i hi with e | e
            · exact Hvj.out i e
            · have h4 : wX.drew.heap.size = wX.heap.size := rfl
              exact .inr (by omega))
          have Hov9 : Hid (∀ i, (Value.slice a8 (no + 1) c8').ownBlock = some i → (Value.slice a9 n9 c9).ownBlock ≠ some i) := hide (fun i hi e => by
            obtain ⟨h1, h2, h3⟩ := HOvX.out i hi
            rcases SR.2 i e with e | e
            · exact h3 e
            · have h4 : wX.drew.heap.size = wX.heap.size := rfl
              omega)
          have Hlj9 : Hid ((lj ++ [(Value.slice ax nx cx, bb)]).map (·.2) = its ++ xs.take (no + 1)) := hide (by rw [List.map_append, Hlj.out, Hxn.out, List.append_assoc]; rfl)
          have Hit9 : Hid (∀ y ∈ lj ++ [(Value.slice ax nx cx, bb)], ∀ i, y.1.ownBlock = some i → i < w.heap.size) := hide (fun y hy i hi => by
            rcases List.mem_append.1 hy with hy | hy
            · exact Hits'.out y hy i hi
            · obtain rfl : y = (.slice ax nx cx, bb) := by simpa using hy
              exact (Hins.out i hi).1)
          have HT9 : Hid (∀ i ∈ pw :: (T ++ vi.ownBlock.toList), i = x ∨ i = pw ∨ vi.ownBlock = some i) := hide (fun i hi => by
            rcases List.mem_cons.1 hi with e | e
            · exact .inr (.inl e)
            · rcases List.mem_append.1 e with e | e
              · exact HT.out i e
              · exact .inr (.inr (by simpa [Option.mem_toList] using e)))
          clear hkW1 Hli2 PR SR hld8 hW8 hn9 hw9 hL9 k9 hpw hxw hXl h99 h100 HWd HLd HQc HRc HVr HLX HWX HRX HKTX HOvX Hvj
          have hn1000 : no ≤ 1000 := by have := Hlen.out.2.2; have := Hnq.out; omega
          go_wp2_with fail
          rw [← Hw9.out]
          go_roundw
          case rel => exact ⟨no + 1, by omega, by go_num, a8, no + 1, c8', .slice a9 n9 c9, _, rfl, HRX9.out, HW9.out, HL9.out, Hlj9.out, Hvj9.out, Hov9.out, Hit9.out, _, HK9.out, HT9.out⟩
          case measure => simp [intOf]; omega
        · have hnn : no = n := by omega
          subst hnn
          have hdj : decide ((no : Int) < (no : Int)) = false := decide_eq_false (by omega)
          have c10 := hW.c10
          have f10 := hW.f 10
          have hcq' : nq ≤ qc := by have := Hnq.out; omega
          have hrun : ∀ w', (Instr.sliceAt 48 (.slice (some ⟨bq, oq, none⟩) nq qc) (some (.int .i64 (no : Nat))) none none).run Tryz.prog w' = .ok (.slice (if qc = no then some ⟨bq, oq, none⟩ else (some (⟨bq, oq, none⟩ : Addr)).map (·.add (no * 2))) (nq - no) (qc - no)) w' := fun w' => run_restQ no w' hnqn hcq' (fun e => by cases e)
          have hRq := RefQ.cut hL.q no hnqn
          obtain ⟨a2, ha2⟩ : ∃ a2, a2 = (if qc = no then some ⟨bq, oq, none⟩ else (some (⟨bq, oq, none⟩ : Addr)).map (·.add (no * 2))) := ⟨_, rfl⟩
          have hown : ∀ i, (Value.slice a2 (nq - no) (qc - no)).ownBlock = some i → (Value.slice (some (⟨bq, oq, none⟩ : Addr)) nq qc).ownBlock = some i := fun i hi => by rw [ha2] at hi; exact cut_own hi
          obtain ⟨n2, hn2⟩ : ∃ k, k = nq - no := ⟨_, rfl⟩
          obtain ⟨q2, hq2⟩ : ∃ k, k = qc - no := ⟨_, rfl⟩
          rw [← ha2, ← hn2, ← hq2] at hrun hRq
          rw [← hn2, ← hq2] at hown
          obtain ⟨w9, hw9⟩ : ∃ y, y = wr.setCell ⟨x, 10, none⟩ (.slice a2 n2 q2) := ⟨_, rfl⟩
          have Hw9 := hide hw9
          have k9 : Kp [x] wr w9 := by rw [hw9]; exact kp_set wr x 10 _
          have HW9 : Hid (Wd w9 x vf vl vd ve vk r s t (.pointer (some ⟨pw, 0, none⟩)) (.slice ra nr rcp) (.slice a2 n2 q2)) := hide (by rw [hw9]; exact hW.s10 _)
          have hk9 := k9.size
          have HL9 := hide (hL.setq k9 (hRq.kept k9 (fun i hi hm => by
            have h1 : i = x := by simpa using hm
            exact (hL.qo i (hown i hi)).2.2 (.inl (.inr h1)))) (fun i hi => by
            obtain ⟨h1, h2, h3⟩ := hL.qo i (hown i hi)
            exact ⟨h1, by omega, h3⟩))
          have hxw := HA.out x (.inr rfl)
          have HRo9 : Hid (RowI w9 w.heap.size (.slice oa no oc) (seqF its.length no)) := hide (hRo.kept k9 (fun i hi hm => by
            have h1 : i = x := by simpa using hm
            have h2 := (hRo.lt hi).1
            omega))
          have HK9 : Hid (Kp (x :: T) w w9) := hide ((hKT.mono (fun i hi => by simp [hi])).then k9 (fun i hi => .inl (by simp at hi; simp [hi])))
          have Hlj9 : Hid (lj.map (·.2) = its ++ xs) := hide (by
            have h2 : xs.length = no := by rw [Hxs.out]; simp; have := Hnq.out; omega
            rw [hlj, List.take_of_length_le (by omega)])
          clear hRo hW hL hlj hvj hov hits' hKT hT hRq ha2 hown hn2 hq2 hw9 k9 hk9 hxw
          go_wp2_with fail
          go_ret
          rw [← Hw9.out]
          refine ⟨_, rfl, HRo9.out, vj, lj, _, HW9.out, HL9.out, Hlj9.out, _, HK9.out, fun i hi => ?_⟩
          rcases List.mem_cons.1 hi with e | e
          · exact .inl e
          · exact HT.out i e
end
end Go.Proofs.YteabdojjllfcpaaGreat
