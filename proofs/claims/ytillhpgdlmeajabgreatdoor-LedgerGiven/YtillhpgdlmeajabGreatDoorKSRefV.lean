/-
  The contracts of the reference's Verify and Encode.
-/
import Derived.Test.YtillhpgdlmeajabGreatDoorKSOwner
import Derived.Test.YtillhpgdlmeajabGreatDoorKORefs
namespace Go.Proofs.YtillhpgdlmeajabGreatDoor
open Go.RowKit
open Go.Proofs

theorem and_one64 (n : Nat) (h : n < 16) : bits .and .i64 (n : Int) 1 = ((n % 2 : Nat) : Int) := by
  have h2 : ∀ m ∈ List.range 16, bits .and .i64 (m : Int) 1 = ((m % 2 : Nat) : Int) := by decide +kernel
  exact h2 n (by simpa using h)

theorem flat32 : ∀ (m : List (List Int)), (∀ x ∈ m, x.length = 32) → m.flatten.length = 32 * m.length := by
  intro m
  induction m with
  | nil => simp
  | cons a m ih =>
    intro hm
    rw [List.flatten_cons, List.length_append, ih (fun x hx => hm x (by simp [hx])), hm a (by simp), List.length_cons]
    omega

end Go.Proofs.YtillhpgdlmeajabGreatDoor

/-
  The contract of the reference's Same, of signatures that are alike.
-/
namespace Go.Proofs.YtillhpgdlmeajabGreatDoor
open Go.RowKit
open Go.Proofs

set_option maxRecDepth 100000 in
set_option maxHeartbeats 2000000 in
theorem refsame_any (v u : Value) (i : Int) (ps qs : List (List Int)) (w : World) (hV : SigV w v i ps qs) (hU : SigV w u i ps qs) :
    Calls Tryz.prog 36 #[v, u] w fun e w' => e = .returned (.bool true) ∧ Kp [] w w' := by
  obtain ⟨ap, np, cp, aq, nq, cq, lp, lq, rfl, hP, hp, hQ, hq, hnp, hnq⟩ := hV.shape
  obtain ⟨ar, nr, cr, as', ns, cs, lr, ls, rfl, hR, hr, hS, hs, hnr, hns⟩ := hU.shape
  obtain rfl : nr = np := by omega
  obtain rfl : ns = nq := by omega
  have hb1 : nr ≤ 9223372036854775807 := by obtain ⟨_, _, e, h, _⟩ := hP; injection e with _ e2; omega
  have hb2 : ns ≤ 9223372036854775807 := by obtain ⟨_, _, e, h, _⟩ := hQ; injection e with _ e2; omega
  obtain ⟨o1, ho1⟩ : ∃ o : Obj, o = (.cells #[.int .i64 i, .slice ap nr cp, .slice aq ns cq] 52) := ⟨_, rfl⟩
  obtain ⟨o2, ho2⟩ : ∃ o : Obj, o = (.cells #[.int .i64 i, .slice ar nr cr, .slice as' ns cs] 52) := ⟨_, rfl⟩
  obtain ⟨W, hW⟩ : ∃ W, W = (w.alloc o1).alloc o2 := ⟨_, rfl⟩
  have K1 : Kp [] w W := by rw [hW]; exact ((Kp.refl [] w).alloc o1).alloc o2
  have G1 : W.heap[w.heap.size]? = some o1 := by rw [hW]; exact heap_alloc2_old w o1 o2
  have G2 : W.heap[w.heap.size + 1]? = some o2 := by rw [hW]; exact heap_alloc2_new w o1 o2
  rw [ho1] at G1
  rw [ho2] at G2
  have hWE : W = (w.alloc (.cells #[.int .i64 i, .slice ap nr cp, .slice aq ns cq] 52)).alloc (.cells #[.int .i64 i, .slice ar nr cr, .slice as' ns cs] 52) := by rw [hW, ho1, ho2]
  have HWE := hide hWE
  have HG1 := hide G1
  have HG2 := hide G2
  have HK1 := hide K1
  have HP := hide (hP.kept K1)
  have HQ := hide (hQ.kept K1)
  have HR := hide (hR.kept K1)
  have HS := hide (hS.kept K1)
  have Hxp := hide hp
  have Hxq := hide hq
  have Hxr := hide hr
  have Hxs := hide hs
  have HN1 := hide hnr
  have HN2 := hide hns
  have hb1i : (nr : Int) ≤ 9223372036854775807 := by omega
  have hb2i : (ns : Int) ≤ 9223372036854775807 := by omega
  clear hP hQ hR hS hp hq hr hs hnp hnq hnr hns hV hU ho1 ho2 hW hWE K1 G1 G2
  go_enter Tryz.func36, Tryz.ntmps36
  go_wp2_with fail
  rw [← unhide HWE]
  go_loopw [5] (fun j wr => ∃ k : Nat, k ≤ nr ∧ j = .int .i64 k ∧ Kp [] W wr) (fun j _ => nr - (intOf j).toNat)
  case atStart => exact ⟨0, by omega, rfl, Kp.refl _ _⟩
  case round =>
    obtain ⟨k, hk, rfl, Kr⟩ := hrel
    have HKr := hide Kr
    have hr1 : wr.cell? ⟨w.heap.size, 1, none⟩ = some (.slice ap nr cp) := by rw [cell_of_row wr w.heap.size 1 _ _ _ (Kr.heap (unhide HG1) (by simp))]; rfl
    have hr2 : wr.cell? ⟨w.heap.size + 1, 1, none⟩ = some (.slice ar nr cr) := by rw [cell_of_row wr (w.heap.size + 1) 1 _ _ _ (Kr.heap (unhide HG2) (by simp))]; rfl
    clear Kr
    by_cases hlt : k < nr
    · have hlt2 : (k : Int) < (nr : Int) := by omega
      obtain ⟨b1, o1, ax, nx, cx, rfl, hcx, hSx, hBx⟩ := lists_at (unhide HP) (unhide Hxp) k (by have := unhide HN1; omega)
      obtain ⟨b2, o2, ay, ny, cy, rfl, hcy, hSy, hBy⟩ := lists_at (unhide HR) (unhide Hxr) k (by have := unhide HN1; omega)
      have d0 : wr.drew.cell? ⟨w.heap.size, 1, none⟩ = some (.slice (some ⟨b1, o1, none⟩) nr cp) := (kp_drew wr).cell hr1 (by simp)
      have d0' : wr.drew.cell? ⟨w.heap.size + 1, 1, none⟩ = some (.slice (some ⟨b2, o2, none⟩) nr cr) := (kp_drew wr).cell hr2 (by simp)
      have kk := (unhide HKr).trans (kp_drew wr)
      have d1 : wr.drew.cell? ⟨b1, o1 + k, none⟩ = some (.slice ax nx cx) := kk.cell hcx (by simp)
      have d2 : wr.drew.cell? ⟨b2, o2 + k, none⟩ = some (.slice ay ny cy) := kk.cell hcy (by simp)
      have v1 := (hSx.kept kk (by simp)).conv (P := Tryz.prog) 29 9 5 Tryz.underlying29 Tryz.underlying5 Tryz.underlying9
      have v2 := (hSy.kept kk (by simp)).conv (P := Tryz.prog) 29 9 5 Tryz.underlying29 Tryz.underlying5 Tryz.underlying9
      obtain ⟨S, hSS⟩ : ∃ S, S = strOfNums (ps.getD k []) := ⟨_, rfl⟩
      rw [← hSS] at v1 v2
      have HKK := hide kk
      clear hcx hcy hSx hSy hBx hBy hSS kk
      go_wp2_with fail
      refine region_read Tryz.mixed (by kernel_rfl) ?_
      repeat (first | go_big_quiet_skip | (go_big_quiet_want; go_big_quiet_op; go_big_quiet_on))
      refine wpQuiet_nil ?_
      go_wp2_with fail
      go_roundw
      case rel => exact ⟨k + 1, by omega, by go_num, unhide HKK⟩
      case measure => simp [intOf]; omega
    · obtain rfl : k = nr := by omega
      have hlt2 : ¬ (k : Int) < (k : Int) := by omega
      have HKe := hide (unhide HKr)
      go_wp2_with fail
      go_loopw [6] (fun j wr => ∃ k : Nat, k ≤ ns ∧ j = .int .i64 k ∧ Kp [] W wr) (fun j _ => ns - (intOf j).toNat)
      case atStart => exact ⟨0, by omega, rfl, unhide HKe⟩
      case round =>
        obtain ⟨k, hk, rfl, Kr⟩ := hrel
        have HKr := hide Kr
        have hr1 : wr.cell? ⟨w.heap.size, 2, none⟩ = some (.slice aq ns cq) := by rw [cell_of_row wr w.heap.size 2 _ _ _ (Kr.heap (unhide HG1) (by simp))]; rfl
        have hr2 : wr.cell? ⟨w.heap.size + 1, 2, none⟩ = some (.slice as' ns cs) := by rw [cell_of_row wr (w.heap.size + 1) 2 _ _ _ (Kr.heap (unhide HG2) (by simp))]; rfl
        clear Kr
        by_cases hlt : k < ns
        · have hlt2 : (k : Int) < (ns : Int) := by omega
          obtain ⟨b1, o1, ax, nx, cx, rfl, hcx, hSx, hBx⟩ := lists_at (unhide HQ) (unhide Hxq) k (by have := unhide HN2; omega)
          obtain ⟨b2, o2, ay, ny, cy, rfl, hcy, hSy, hBy⟩ := lists_at (unhide HS) (unhide Hxs) k (by have := unhide HN2; omega)
          have d0 : wr.drew.cell? ⟨w.heap.size, 2, none⟩ = some (.slice (some ⟨b1, o1, none⟩) ns cq) := (kp_drew wr).cell hr1 (by simp)
          have d0' : wr.drew.cell? ⟨w.heap.size + 1, 2, none⟩ = some (.slice (some ⟨b2, o2, none⟩) ns cs) := (kp_drew wr).cell hr2 (by simp)
          have kk := (unhide HKr).trans (kp_drew wr)
          have d1 : wr.drew.cell? ⟨b1, o1 + k, none⟩ = some (.slice ax nx cx) := kk.cell hcx (by simp)
          have d2 : wr.drew.cell? ⟨b2, o2 + k, none⟩ = some (.slice ay ny cy) := kk.cell hcy (by simp)
          have v1 := (hSx.kept kk (by simp)).conv (P := Tryz.prog) 29 9 5 Tryz.underlying29 Tryz.underlying5 Tryz.underlying9
          have v2 := (hSy.kept kk (by simp)).conv (P := Tryz.prog) 29 9 5 Tryz.underlying29 Tryz.underlying5 Tryz.underlying9
          obtain ⟨S, hSS⟩ : ∃ S, S = strOfNums (qs.getD k []) := ⟨_, rfl⟩
          rw [← hSS] at v1 v2
          have HKK := hide kk
          clear hcx hcy hSx hSy hBx hBy hSS kk
          go_wp2_with fail
          refine region_read Tryz.mixed (by kernel_rfl) ?_
          repeat (first | go_big_quiet_skip | (go_big_quiet_want; go_big_quiet_op; go_big_quiet_on))
          refine wpQuiet_nil ?_
          go_wp2_with fail
          go_roundw
          case rel => exact ⟨k + 1, by omega, by go_num, unhide HKK⟩
          case measure => simp [intOf]; omega
        · obtain rfl : k = ns := by omega
          have hlt2 : ¬ (k : Int) < (k : Int) := by omega
          go_wp2_with fail
          go_ret
          exact ⟨rfl, (unhide HK1).trans (unhide HKr)⟩
end Go.Proofs.YtillhpgdlmeajabGreatDoor
