/-
  The contracts of the reference's Verify and Encode.
-/
import Derived.Test.YtdjofooggofpkaaGreatDoorKSOwner
import Derived.Test.YtdjofooggofpkaaGreatDoorKORefs
namespace Go.Proofs.YtdjofooggofpkaaGreatDoor
open Go.RowKit
open Go.Proofs

theorem and_one64 (n : Nat) (h : n < 16) : bits .and .i64 (n : Int) 1 = ((n % 2 : Nat) : Int) := by
  have h2 : ∀ m ∈ List.range 16, bits .and .i64 (m : Int) 1 = ((m % 2 : Nat) : Int) := by decide +kernel
  exact h2 n (by simpa using h)

theorem flat32 : ∀ (m : List (List Int)), (∀ x ∈ m, x.length = 32) → m.flatten.length = 32 * m.length := by
  intro m
  induction m with
  | nil => simp
  | cons a m ih =>
    intro hm
    rw [List.flatten_cons, List.length_append, ih (fun x hx => hm x (by simp [hx])), hm a (by simp), List.length_cons]
    omega

set_option maxRecDepth 100000 in
set_option maxHeartbeats 2000000 in
theorem refencode_any (v : Value) (i : Int) (ps qs : List (List Int)) (hr : rgtP i ps qs = true) (w : World) (hV : SigV w v i ps qs) :
    Calls Tryz.prog 14 #[v] w fun e w' => ∃ ao m c, e = .returned (.slice ao m c) ∧ Row w' w.heap.size (.slice ao m c) (encP i ps qs) ∧ Kp [] w w' := by
  obtain ⟨⟨hi0, hi1⟩, ⟨hpl, hp32⟩, hql, hq32⟩ := (rgtP_iff i ps qs).1 hr
  obtain ⟨ap, np, cp, aq, nq, cq, lp, lq, rfl, hLP, hp, hLQ, hq, hnp, hnq⟩ := hV.shape
  rw [hpl] at hnp
  rw [hql] at hnq
  subst hnp
  subst hnq
  obtain ⟨ob, hob⟩ : ∃ o : Obj, o = (.cells #[.int .i64 i, .slice ap 64 cp, .slice aq 4 cq] 24) := ⟨_, rfl⟩
  have K1 : Kp [] w (w.alloc ob) := (Kp.refl [] w).alloc ob
  have G1 : (w.alloc ob).heap[w.heap.size]? = some ob := heap_alloc_new w ob
  rw [hob] at K1 G1
  have HK1 := hide K1
  have HG1 := hide G1
  have HLP := hide hLP
  have HLQ := hide hLQ
  have Hp := hide hp
  have Hq := hide hq
  have H32 := hide hp32
  have H32q := hide hq32
  have HPL := hide hpl
  have HQL := hide hql
  have hwrap : IntKind.u32.wrap i = i := by simp [IntKind.wrap, IntKind.signed, IntKind.bits]; omega
  clear hob K1 G1 hLP hLQ hp hq hV hr hp32 hq32 hpl hql
  go_enter Tryz.func14, Tryz.ntmps14
  go_wp2_with fail
  refine (refnum_any i _).mono ?_
  rintro ee w2 ⟨a2, m2, c2, rfl, R2, K2⟩
  have HR2 : Hid (Row w2 w.heap.size (.slice a2 m2 c2) (be4 i)) := row_new R2 (unhide HK1)
  have HK2 := hide ((unhide HK1).trans K2)
  have G2 := K2.heap (unhide HG1) (by simp)
  have e1 : w2.cell? ⟨w.heap.size, 1, none⟩ = some (.slice ap 64 cp) := by rw [cell_of_row w2 w.heap.size 1 _ _ _ G2]; rfl
  have e2 : w2.cell? ⟨w.heap.size, 2, none⟩ = some (.slice aq 4 cq) := by rw [cell_of_row w2 w.heap.size 2 _ _ _ G2]; rfl
  obtain ⟨o2, ho2⟩ : ∃ o : Obj, o = (.cells #[.slice ap 64 cp, .slice aq 4 cq] 22) := ⟨_, rfl⟩
  obtain ⟨W, hW⟩ : ∃ W, W = w2.alloc o2 := ⟨_, rfl⟩
  have KW : Kp [] w2 W := by rw [hW]; exact (Kp.refl [] w2).alloc o2
  have GW : W.heap[w2.heap.size]? = some o2 := by rw [hW]; exact heap_alloc_new w2 o2
  rw [ho2] at GW
  have HWE : Hid (W = w2.alloc (.cells #[.slice ap 64 cp, .slice aq 4 cq] 22)) := by rw [hW, ho2]; exact rfl
  have HGW := hide GW
  have HRW := hide ((unhide HR2).kept KW (by simp))
  have HKW := hide ((unhide HK2).trans KW)
  have hblt : (Value.slice a2 m2 c2).ownBlock ≠ some w2.heap.size := fun e => by
    have := R2.lt e
    omega
  have HBL := hide hblt
  clear R2 K2 G2 KW GW hW ho2 HK1 HG1 HR2 HK2 hblt
  go_wp2_with fail
  rw [← unhide HWE]
  have hgz : w2.heap.size < W.heap.size := (Array.getElem?_eq_some_iff.1 (unhide HGW)).1
  obtain ⟨G, hG⟩ : ∃ G, G = w2.heap.size := ⟨_, rfl⟩
  rw [← hG] at HGW HBL hgz ⊢
  have HW2 := hide hG
  clear hG
  go_loopw [3, 17] (fun v j wr => ∃ (s m cc : Nat) (ao : Option Addr), s ≤ 2 ∧ v = .slice ao m cc ∧ j = .int .i64 s ∧ Row wr w.heap.size v (be4 i ++ (([ps, qs].take s).flatten).flatten) ∧ Kp [] w wr ∧ wr.heap[G]? = some (.cells #[.slice ap 64 cp, .slice aq 4 cq] 22) ∧ v.ownBlock ≠ some G) (fun _ j _ => 2 - (intOf j).toNat)
  case atStart => exact ⟨0, m2, c2, a2, by omega, rfl, rfl, by simpa using unhide HRW, unhide HKW, unhide HGW, unhide HBL⟩
  case round =>
    clear HRW HKW HGW HBL e1 e2 HWE
    obtain ⟨s, m, cc, ao, hs, rfl, rfl, Rr, Kr, Gr, Br⟩ := hrel
    have HRr := hide Rr
    have HKr := hide Kr
    have HGr := hide Gr
    have HBr := hide Br
    clear Rr Kr Gr Br
    obtain ⟨wo, hwo⟩ : ∃ wo, wo = wr := ⟨_, rfl⟩
    subst hwo
    rcases (by omega : s = 0 ∨ s = 1 ∨ s = 2) with rfl | rfl | rfl
    · have c0 : wo.cell? ⟨G, 0, none⟩ = some (.slice ap 64 cp) := by rw [cell_of_row wo G 0 _ _ _ (unhide HGr)]; rfl
      have HR0 : Hid (Row wo w.heap.size (.slice ao m cc) (be4 i ++ (ps.take 0).flatten)) := hide (by simpa using unhide HRr)
      clear HRr
      simp only [show ((0 : Nat) : Int) = 0 from rfl]
      go_wp2_with fail
      go_loopw [3, 6] (fun v j wi => ∃ (k m cc : Nat) (ao : Option Addr), k ≤ 64 ∧ v = .slice ao m cc ∧ j = .int .i64 k ∧ Row wi w.heap.size v (be4 i ++ (ps.take k).flatten) ∧ Kp [] w wi ∧ wi.heap[G]? = some (.cells #[.slice ap 64 cp, .slice aq 4 cq] 22) ∧ v.ownBlock ≠ some G) (fun _ j _ => 64 - (intOf j).toNat)
      case atStart => exact ⟨0, m, cc, ao, by omega, rfl, rfl, unhide HR0, unhide HKr, unhide HGr, unhide HBr⟩
      case round =>
        clear HR0 HKr HGr HBr c0
        obtain ⟨k, m4, cc4, ao4, hk, rfl, rfl, Ri, Ki, Gi, Bi⟩ := hrel
        have HRi := hide Ri
        have HKi := hide Ki
        have HGi := hide Gi
        have HBi := hide Bi
        clear Ri Ki Gi Bi
        by_cases hlt : k < 64
        · have hlt2 : (k : Int) < 64 := by omega
          have hkl : k < ps.length := by have := unhide HPL; omega
          obtain ⟨b', off, ay, ny, cy, rfl, hc, hSy, _⟩ := lists_at (unhide HLP) (unhide Hp) k hkl
          have hcw := (unhide HKi).cell hc (by simp)
          obtain ⟨Y, hY⟩ : ∃ Y, Y = ps.getD k [] := ⟨_, rfl⟩
          have HE : Hid (be4 i ++ (ps.take (k + 1)).flatten = be4 i ++ (ps.take k).flatten ++ Y) := hide (by rw [hY, List.take_succ_eq_append_getElem hkl, List.flatten_append, List.append_assoc]; simp [List.getD, hkl])
          have HYL : Hid (Y.length = 32) := by rw [hY]; exact unhide H32 _ (getD_mem hkl)
          rw [← hY] at hSy
          have HSy := hide (hSy.kept (unhide HKi) (by simp))
          have HFL : Hid ((be4 i ++ (ps.take k).flatten).length ≤ 10000) := hide (by rw [List.length_append, flat32 _ (fun x hx => unhide H32 x (List.mem_of_mem_take hx)), List.length_take, be4_len]; omega)
          clear hc hSy hY
          go_wp2_with (at_builtin; refine wpList_append_row rfl (.tmp 27) (.tmp 31) rfl w.heap.size (.slice ao4 m4 cc4) _ rfl (unhide HRi) _ Y rfl (unhide HSy) (by have := unhide HFL; have := unhide HYL; omega) (by have := (unhide HKi).size; omega) ?_; intro ao6 m6 c6 w6 R6 s6)
          go_roundw
          case rel =>
            refine ⟨k + 1, m6, c6, ao6, by omega, rfl, by go_num, by rw [unhide HE]; exact R6, (unhide HRi).step (unhide HKi) s6, s6.1.heap (unhide HGi) (fun hm => unhide HBi (by simpa using hm)), fun e => ?_⟩
            rcases s6.2 G e with h | h
            · exact unhide HBi h
            · have := (Array.getElem?_eq_some_iff.1 (unhide HGi)).1; omega
          case measure => simp [intOf]; omega
        · have hk64 : k = 64 := by omega
          have hlt2 : ¬ (k : Int) < 64 := by omega
          have HR1 : Hid (Row wr w.heap.size (.slice ao4 m4 cc4) (be4 i ++ (([ps, qs].take (0 + 1)).flatten).flatten)) := by
            refine hide ?_
            have := unhide HRi
            rw [List.take_of_length_le (by have := unhide HPL; omega)] at this
            simpa using this
          clear hk64 HRi
          go_wp2_with fail
          go_roundw
          case rel => exact ⟨0 + 1, m4, cc4, ao4, by omega, rfl, by go_num, unhide HR1, unhide HKi, unhide HGi, unhide HBi⟩
          case measure => simp [intOf]
    · have c0 : wo.cell? ⟨G, 1, none⟩ = some (.slice aq 4 cq) := by rw [cell_of_row wo G 1 _ _ _ (unhide HGr)]; rfl
      have HR0 : Hid (Row wo w.heap.size (.slice ao m cc) (be4 i ++ ps.flatten ++ (qs.take 0).flatten)) := hide (by simpa using unhide HRr)
      clear HRr
      simp only [show ((1 : Nat) : Int) = 1 from rfl]
      go_wp2_with fail
      go_loopw [3, 6] (fun v j wi => ∃ (k m cc : Nat) (ao : Option Addr), k ≤ 4 ∧ v = .slice ao m cc ∧ j = .int .i64 k ∧ Row wi w.heap.size v (be4 i ++ ps.flatten ++ (qs.take k).flatten) ∧ Kp [] w wi ∧ wi.heap[G]? = some (.cells #[.slice ap 64 cp, .slice aq 4 cq] 22) ∧ v.ownBlock ≠ some G) (fun _ j _ => 4 - (intOf j).toNat)
      case atStart => exact ⟨0, m, cc, ao, by omega, rfl, rfl, unhide HR0, unhide HKr, unhide HGr, unhide HBr⟩
      case round =>
        clear HR0 HKr HGr HBr c0
        obtain ⟨k, m4, cc4, ao4, hk, rfl, rfl, Ri, Ki, Gi, Bi⟩ := hrel
        have HRi := hide Ri
        have HKi := hide Ki
        have HGi := hide Gi
        have HBi := hide Bi
        clear Ri Ki Gi Bi
        by_cases hlt : k < 4
        · have hlt2 : (k : Int) < 4 := by omega
          have hkl : k < qs.length := by have := unhide HQL; omega
          obtain ⟨b', off, ay, ny, cy, rfl, hc, hSy, _⟩ := lists_at (unhide HLQ) (unhide Hq) k hkl
          have hcw := (unhide HKi).cell hc (by simp)
          obtain ⟨Y, hY⟩ : ∃ Y, Y = qs.getD k [] := ⟨_, rfl⟩
          have HE : Hid (be4 i ++ ps.flatten ++ (qs.take (k + 1)).flatten = be4 i ++ ps.flatten ++ (qs.take k).flatten ++ Y) := hide (by rw [hY, List.take_succ_eq_append_getElem hkl, List.flatten_append, List.append_assoc, List.append_assoc]; simp [List.getD, hkl])
          have HYL : Hid (Y.length = 32) := by rw [hY]; exact unhide H32q _ (getD_mem hkl)
          rw [← hY] at hSy
          have HSy := hide (hSy.kept (unhide HKi) (by simp))
          have HFL : Hid ((be4 i ++ ps.flatten ++ (qs.take k).flatten).length ≤ 10000) := hide (by rw [List.length_append, List.length_append, flat32 _ (fun x hx => unhide H32q x (List.mem_of_mem_take hx)), List.length_take, flat32 _ (unhide H32), be4_len]; have := unhide HPL; omega)
          clear hc hSy hY
          go_wp2_with (at_builtin; refine wpList_append_row rfl (.tmp 27) (.tmp 31) rfl w.heap.size (.slice ao4 m4 cc4) _ rfl (unhide HRi) _ Y rfl (unhide HSy) (by have := unhide HFL; have := unhide HYL; omega) (by have := (unhide HKi).size; omega) ?_; intro ao6 m6 c6 w6 R6 s6)
          go_roundw
          case rel =>
            refine ⟨k + 1, m6, c6, ao6, by omega, rfl, by go_num, by rw [unhide HE]; exact R6, (unhide HRi).step (unhide HKi) s6, s6.1.heap (unhide HGi) (fun hm => unhide HBi (by simpa using hm)), fun e => ?_⟩
            rcases s6.2 G e with h | h
            · exact unhide HBi h
            · have := (Array.getElem?_eq_some_iff.1 (unhide HGi)).1; omega
          case measure => simp [intOf]; omega
        · have hk64 : k = 4 := by omega
          have hlt2 : ¬ (k : Int) < 4 := by omega
          have HR1 : Hid (Row wr w.heap.size (.slice ao4 m4 cc4) (be4 i ++ (([ps, qs].take (1 + 1)).flatten).flatten)) := by
            refine hide ?_
            have := unhide HRi
            rw [List.take_of_length_le (by have := unhide HQL; omega)] at this
            simpa using this
          clear hk64 HRi
          go_wp2_with fail
          go_roundw
          case rel => exact ⟨1 + 1, m4, cc4, ao4, by omega, rfl, by go_num, unhide HR1, unhide HKi, unhide HGi, unhide HBi⟩
          case measure => simp [intOf]
    · have HR1 : Hid (Row wo w.heap.size (.slice ao m cc) (encP i ps qs)) := by
        refine hide ?_
        have := unhide HRr
        unfold encP
        simpa using this
      clear HRr
      go_wp2_with fail
      go_ret
      exact ⟨ao, m, cc, rfl, unhide HR1, unhide HKr⟩
end Go.Proofs.YtdjofooggofpkaaGreatDoor

/-
  The contract of the reference's Same, of signatures that are alike.
-/
namespace Go.Proofs.YtdjofooggofpkaaGreatDoor
open Go.RowKit
open Go.Proofs

set_option maxRecDepth 100000 in
set_option maxHeartbeats 2000000 in
theorem refsame_any (v u : Value) (i : Int) (ps qs : List (List Int)) (w : World) (hV : SigV w v i ps qs) (hU : SigV w u i ps qs) :
    Calls Tryz.prog 20 #[v, u] w fun e w' => e = .returned (.bool true) ∧ Kp [] w w' := by
  obtain ⟨ap, np, cp, aq, nq, cq, lp, lq, rfl, hP, hp, hQ, hq, hnp, hnq⟩ := hV.shape
  obtain ⟨ar, nr, cr, as', ns, cs, lr, ls, rfl, hR, hr, hS, hs, hnr, hns⟩ := hU.shape
  obtain rfl : nr = np := by omega
  obtain rfl : ns = nq := by omega
  have hb1 : nr ≤ 9223372036854775807 := by obtain ⟨_, _, e, h, _⟩ := hP; injection e with _ e2; omega
  have hb2 : ns ≤ 9223372036854775807 := by obtain ⟨_, _, e, h, _⟩ := hQ; injection e with _ e2; omega
  obtain ⟨o1, ho1⟩ : ∃ o : Obj, o = (.cells #[.int .i64 i, .slice ap nr cp, .slice aq ns cq] 24) := ⟨_, rfl⟩
  obtain ⟨o2, ho2⟩ : ∃ o : Obj, o = (.cells #[.int .i64 i, .slice ar nr cr, .slice as' ns cs] 24) := ⟨_, rfl⟩
  obtain ⟨W, hW⟩ : ∃ W, W = (w.alloc o1).alloc o2 := ⟨_, rfl⟩
  have K1 : Kp [] w W := by rw [hW]; exact ((Kp.refl [] w).alloc o1).alloc o2
  have G1 : W.heap[w.heap.size]? = some o1 := by rw [hW]; exact heap_alloc2_old w o1 o2
  have G2 : W.heap[w.heap.size + 1]? = some o2 := by rw [hW]; exact heap_alloc2_new w o1 o2
  rw [ho1] at G1
  rw [ho2] at G2
  have hWE : W = (w.alloc (.cells #[.int .i64 i, .slice ap nr cp, .slice aq ns cq] 24)).alloc (.cells #[.int .i64 i, .slice ar nr cr, .slice as' ns cs] 24) := by rw [hW, ho1, ho2]
  have HWE := hide hWE
  have HG1 := hide G1
  have HG2 := hide G2
  have HK1 := hide K1
  have HP := hide (hP.kept K1)
  have HQ := hide (hQ.kept K1)
  have HR := hide (hR.kept K1)
  have HS := hide (hS.kept K1)
  have Hxp := hide hp
  have Hxq := hide hq
  have Hxr := hide hr
  have Hxs := hide hs
  have HN1 := hide hnr
  have HN2 := hide hns
  have hb1i : (nr : Int) ≤ 9223372036854775807 := by omega
  have hb2i : (ns : Int) ≤ 9223372036854775807 := by omega
  clear hP hQ hR hS hp hq hr hs hnp hnq hnr hns hV hU ho1 ho2 hW hWE K1 G1 G2
  go_enter Tryz.func20, Tryz.ntmps20
  go_wp2_with fail
  rw [← unhide HWE]
  go_loopw [5] (fun j wr => ∃ k : Nat, k ≤ nr ∧ j = .int .i64 k ∧ Kp [] W wr) (fun j _ => nr - (intOf j).toNat)
  case atStart => exact ⟨0, by omega, rfl, Kp.refl _ _⟩
  case round =>
    obtain ⟨k, hk, rfl, Kr⟩ := hrel
    have HKr := hide Kr
    have hr1 : wr.cell? ⟨w.heap.size, 1, none⟩ = some (.slice ap nr cp) := by rw [cell_of_row wr w.heap.size 1 _ _ _ (Kr.heap (unhide HG1) (by simp))]; rfl
    have hr2 : wr.cell? ⟨w.heap.size + 1, 1, none⟩ = some (.slice ar nr cr) := by rw [cell_of_row wr (w.heap.size + 1) 1 _ _ _ (Kr.heap (unhide HG2) (by simp))]; rfl
    clear Kr
    by_cases hlt : k < nr
    · have hlt2 : (k : Int) < (nr : Int) := by omega
      obtain ⟨b1, o1, ax, nx, cx, rfl, hcx, hSx, hBx⟩ := lists_at (unhide HP) (unhide Hxp) k (by have := unhide HN1; omega)
      obtain ⟨b2, o2, ay, ny, cy, rfl, hcy, hSy, hBy⟩ := lists_at (unhide HR) (unhide Hxr) k (by have := unhide HN1; omega)
      have d0 : wr.drew.cell? ⟨w.heap.size, 1, none⟩ = some (.slice (some ⟨b1, o1, none⟩) nr cp) := (kp_drew wr).cell hr1 (by simp)
      have d0' : wr.drew.cell? ⟨w.heap.size + 1, 1, none⟩ = some (.slice (some ⟨b2, o2, none⟩) nr cr) := (kp_drew wr).cell hr2 (by simp)
      have kk := (unhide HKr).trans (kp_drew wr)
      have d1 : wr.drew.cell? ⟨b1, o1 + k, none⟩ = some (.slice ax nx cx) := kk.cell hcx (by simp)
      have d2 : wr.drew.cell? ⟨b2, o2 + k, none⟩ = some (.slice ay ny cy) := kk.cell hcy (by simp)
      have v1 := (hSx.kept kk (by simp)).conv (P := Tryz.prog) 27 9 5 Tryz.underlying27 Tryz.underlying5 Tryz.underlying9
      have v2 := (hSy.kept kk (by simp)).conv (P := Tryz.prog) 27 9 5 Tryz.underlying27 Tryz.underlying5 Tryz.underlying9
      obtain ⟨S, hSS⟩ : ∃ S, S = strOfNums (ps.getD k []) := ⟨_, rfl⟩
      rw [← hSS] at v1 v2
      have HKK := hide kk
      clear hcx hcy hSx hSy hBx hBy hSS kk
      go_wp2_with fail
      refine region_read Tryz.mixed (by kernel_rfl) ?_
      repeat (first | go_big_quiet_skip | (go_big_quiet_want; go_big_quiet_op; go_big_quiet_on))
      refine wpQuiet_nil ?_
      go_wp2_with fail
      go_roundw
      case rel => exact ⟨k + 1, by omega, by go_num, unhide HKK⟩
      case measure => simp [intOf]; omega
    · obtain rfl : k = nr := by omega
      have hlt2 : ¬ (k : Int) < (k : Int) := by omega
      have HKe := hide (unhide HKr)
      go_wp2_with fail
      go_loopw [6] (fun j wr => ∃ k : Nat, k ≤ ns ∧ j = .int .i64 k ∧ Kp [] W wr) (fun j _ => ns - (intOf j).toNat)
      case atStart => exact ⟨0, by omega, rfl, unhide HKe⟩
      case round =>
        obtain ⟨k, hk, rfl, Kr⟩ := hrel
        have HKr := hide Kr
        have hr1 : wr.cell? ⟨w.heap.size, 2, none⟩ = some (.slice aq ns cq) := by rw [cell_of_row wr w.heap.size 2 _ _ _ (Kr.heap (unhide HG1) (by simp))]; rfl
        have hr2 : wr.cell? ⟨w.heap.size + 1, 2, none⟩ = some (.slice as' ns cs) := by rw [cell_of_row wr (w.heap.size + 1) 2 _ _ _ (Kr.heap (unhide HG2) (by simp))]; rfl
        clear Kr
        by_cases hlt : k < ns
        · have hlt2 : (k : Int) < (ns : Int) := by omega
          obtain ⟨b1, o1, ax, nx, cx, rfl, hcx, hSx, hBx⟩ := lists_at (unhide HQ) (unhide Hxq) k (by have := unhide HN2; omega)
          obtain ⟨b2, o2, ay, ny, cy, rfl, hcy, hSy, hBy⟩ := lists_at (unhide HS) (unhide Hxs) k (by have := unhide HN2; omega)
          have d0 : wr.drew.cell? ⟨w.heap.size, 2, none⟩ = some (.slice (some ⟨b1, o1, none⟩) ns cq) := (kp_drew wr).cell hr1 (by simp)
          have d0' : wr.drew.cell? ⟨w.heap.size + 1, 2, none⟩ = some (.slice (some ⟨b2, o2, none⟩) ns cs) := (kp_drew wr).cell hr2 (by simp)
          have kk := (unhide HKr).trans (kp_drew wr)
          have d1 : wr.drew.cell? ⟨b1, o1 + k, none⟩ = some (.slice ax nx cx) := kk.cell hcx (by simp)
          have d2 : wr.drew.cell? ⟨b2, o2 + k, none⟩ = some (.slice ay ny cy) := kk.cell hcy (by simp)
          have v1 := (hSx.kept kk (by simp)).conv (P := Tryz.prog) 27 9 5 Tryz.underlying27 Tryz.underlying5 Tryz.underlying9
          have v2 := (hSy.kept kk (by simp)).conv (P := Tryz.prog) 27 9 5 Tryz.underlying27 Tryz.underlying5 Tryz.underlying9
          obtain ⟨S, hSS⟩ : ∃ S, S = strOfNums (qs.getD k []) := ⟨_, rfl⟩
          rw [← hSS] at v1 v2
          have HKK := hide kk
          clear hcx hcy hSx hSy hBx hBy hSS kk
          go_wp2_with fail
          refine region_read Tryz.mixed (by kernel_rfl) ?_
          repeat (first | go_big_quiet_skip | (go_big_quiet_want; go_big_quiet_op; go_big_quiet_on))
          refine wpQuiet_nil ?_
          go_wp2_with fail
          go_roundw
          case rel => exact ⟨k + 1, by omega, by go_num, unhide HKK⟩
          case measure => simp [intOf]; omega
        · obtain rfl : k = ns := by omega
          have hlt2 : ¬ (k : Int) < (k : Int) := by omega
          go_wp2_with fail
          go_ret
          exact ⟨rfl, (unhide HK1).trans (unhide HKr)⟩
end Go.Proofs.YtdjofooggofpkaaGreatDoor
