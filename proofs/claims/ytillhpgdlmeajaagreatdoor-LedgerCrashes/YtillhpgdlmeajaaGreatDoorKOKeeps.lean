/-
  The contract of the law package's Lists; lists of slices by their bytes, as what an operation yields.
-/
import Derived.Test.YtillhpgdlmeajaaGreatDoorKOSmalls
import Derived.Test.YtillhpgdlmeajaaGreatDoorKHSmalls
import Derived.Test.YtillhpgdlmeajaaGreatDoorKHRefs
namespace Go.Proofs.YtillhpgdlmeajaaGreatDoor
open Go.RowKit
open Go.Deep

set_option maxRecDepth 100000 in
set_option maxHeartbeats 1000000 in
theorem lists_any (va vb : Value) (la lb : List (Value × List Int)) (h : la.map (·.2) = lb.map (·.2)) (w : World) (hA : Lists w va la) (hB : Lists w vb lb) :
    Calls Tryz.prog 27 #[va, vb] w fun e w' => e = .returned (.bool true) ∧ Kp [] w w' := by
  have hlen : lb.length = la.length := by have := congrArg List.length h; simpa using this.symm
  have H := hide h
  obtain ⟨aa, ca, rfl, hla, hca⟩ := hA
  obtain ⟨ab, cb, rfl, hlb, hcb⟩ := hB
  have HA := hide hca
  have HB := hide hcb
  have HLE := hide hlen
  rw [hlen]
  obtain ⟨N, hN⟩ : ∃ N, N = la.length := ⟨_, rfl⟩
  have HN := hide hN
  rw [← hN] at hla ⊢
  have hNi : (N : Int) ≤ 9223372036854775807 := by omega
  clear h hca hcb hlen hlb hN
  go_enter Tryz.func27, Tryz.ntmps27
  go_wp2_with fail
  go_loopw [5] (fun i wr => ∃ k : Nat, k ≤ N ∧ i = .int .i64 k ∧ Kp [] w wr) (fun i _ => N - (intOf i).toNat)
  case atStart => exact ⟨0, by omega, rfl, Kp.refl _ _⟩
  case round =>
    obtain ⟨k, hk, rfl, Kr⟩ := hrel
    have HKr := hide Kr
    clear Kr
    by_cases hlt : k < N
    · have hlt2 : (k : Int) < (N : Int) := by omega
      have hka : k < la.length := by have := unhide HN; omega
      have hkb : k < lb.length := by have := unhide HLE; omega
      obtain ⟨b1, o1, rfl, hc1, hS1, _⟩ := unhide HA k hka
      obtain ⟨b2, o2, rfl, hc2, hS2, _⟩ := unhide HB k hkb
      have hxy : la[k].2 = lb[k].2 := by
        have h1 : (la.map (·.2))[k]? = (lb.map (·.2))[k]? := by rw [unhide H]
        rw [List.getElem?_map, List.getElem?_map, List.getElem?_eq_getElem hka, List.getElem?_eq_getElem hkb] at h1
        exact Option.some.inj h1
      have d1 : wr.drew.cell? ⟨b1, o1 + k, none⟩ = some la[k].1 := ((unhide HKr).trans (kp_drew wr)).cell hc1 (by simp)
      have d2 : wr.drew.cell? ⟨b2, o2 + k, none⟩ = some lb[k].1 := ((unhide HKr).trans (kp_drew wr)).cell hc2 (by simp)
      have v1 := (hS1.kept ((unhide HKr).trans (kp_drew wr)) (by simp)).conv (P := Tryz.prog) 22 9 5 Tryz.underlying22 Tryz.underlying5 Tryz.underlying9
      have v2 := (hS2.kept ((unhide HKr).trans (kp_drew wr)) (by simp)).conv (P := Tryz.prog) 22 9 5 Tryz.underlying22 Tryz.underlying5 Tryz.underlying9
      rw [← hxy] at v2
      obtain ⟨S, hSS⟩ : ∃ S, S = strOfNums la[k].2 := ⟨_, rfl⟩
      rw [← hSS] at v1 v2
      obtain ⟨x1, y1, e1, hj1⟩ := hS1
      obtain ⟨x2, y2, e2, hj2⟩ := hS2
      obtain ⟨n1, hn1⟩ : ∃ n, n = la[k].2.length := ⟨_, rfl⟩
      obtain ⟨n2, hn2⟩ : ∃ n, n = lb[k].2.length := ⟨_, rfl⟩
      rw [← hn1] at e1
      rw [← hn2] at e2
      rw [e1] at d1 v1
      rw [e2] at d2 v2
      clear hc1 hc2 hxy hSS e1 e2 hj1 hj2 hn1 hn2 HA HB
      go_wp2_with fail
      refine region_read Tryz.mixed (by kernel_rfl) ?_
      repeat (first | go_big_quiet_skip | (go_big_quiet_want; go_big_quiet_op; go_big_quiet_on))
      refine wpQuiet_nil ?_
      go_wp2_with fail
      go_roundw
      case rel => exact ⟨k + 1, by omega, by go_num, (unhide HKr).trans (kp_drew wr)⟩
      case measure => simp [intOf]; omega
    · obtain rfl : k = N := by omega
      clear HA HB
      go_wp2_with fail
      go_ret
      exact ⟨rfl, unhide HKr⟩
theorem wrap_at {x y : Int} (h : x = y) (h0 : -9223372036854775808 ≤ x) (h1 : x ≤ 9223372036854775807) : IntKind.i64.wrap x = y := by
  subst h
  simp [IntKind.wrap, IntKind.signed, IntKind.bits]
  omega
/-- The value is a slice of slices that reads as these bytes. -/
def LsM (ls : List (List Int)) : Tell := fun v w => ∃ l, Lists w v l ∧ l.map (·.2) = ls
theorem stable_lsm (ls : List (List Int)) : Tell.stable (LsM ls) := fun _ _ _ k ⟨l, h, e⟩ => ⟨l, h.kept k, e⟩
theorem grown_build1 {o : Oper} {a : Act} {w : World} (x : Operand) (ho : o.op = .buildSlice 33 1 #[(0, x)]) (bs : List Int) (h : Sl w (a.eval x) bs) (hB : Bs bs) : grown Tryz.prog w (LsM [bs]) ((execOp a.eval o).run Tryz.prog w) := by
  have h2 := lists1 h hB
  obtain ⟨ao, c, e, _⟩ := h
  refine grown_run (v := .slice (some ⟨w.heap.size, 0, none⟩) 1 1) (w' := w.alloc (.cells #[a.eval x] 22)) ?_ ((Kp.refl _ _).alloc _) ⟨_, h2, rfl⟩
  obtain ⟨ρ, hρ, hc, hf, hg⟩ := eval_is a
  rw [hρ] at e ⊢
  unfold execOp
  simp only [ho]
  simp [go_sem, e]
theorem reftagged_lsm {tag : Int} {v : Value} {ls : List (List Int)} {w : World} (r : List Int) (hr : r = sha (tag :: ls.flatten)) (h : LsM ls v w) (h0 : 0 ≤ tag) (h1 : tag ≤ 255) (hn : ls.length ≤ 100000) (hm : ∀ x ∈ ls, x.length ≤ 1000000) :
    Calls Tryz.prog 40 #[.int .u8 tag, v] w fun e w' => ∃ ao m c, e = .returned (.slice ao m c) ∧ Row w' w.heap.size (.slice ao m c) r ∧ Kp [] w w' := by
  obtain ⟨l, hL, he⟩ := h
  exact reftagged_any tag v l r (by rw [hr, cat_map he]) w hL h0 h1 (by rw [← List.length_map (f := (·.2)), he]; exact hn) (small_of_map he hm)
theorem lists_lsm {va vb : Value} {ls : List (List Int)} {w : World} (hA : LsM ls va w) (hB : LsM ls vb w) :
    Calls Tryz.prog 27 #[va, vb] w fun e w' => e = .returned (.bool true) ∧ Kp [] w w' := by
  obtain ⟨la, h1, e1⟩ := hA
  obtain ⟨lb, h2, e2⟩ := hB
  exact lists_any va vb la lb (e1.trans e2.symm) w h1 h2
end Go.Proofs.YtillhpgdlmeajaaGreatDoor

/-
  The contracts of the law package's helpers Seed and Lists, and of known.
-/
namespace Go.Proofs.YtillhpgdlmeajaaGreatDoor
open Go.RowKit
open Go.Deep

set_option maxRecDepth 100000 in
set_option maxHeartbeats 1000000 in
theorem seed_any (n : Int) (w : World) (hn : -9223372036854775808 ≤ n ∧ n ≤ 9223372036854775807) :
    Calls Tryz.prog 9 #[.int .i64 n] w fun e w' => ∃ ao m c r, e = .returned (.slice ao m c) ∧ Row w' w.heap.size (.slice ao m c) r ∧ r.length = 32 ∧ Bs r ∧ Kp [] w w' := by
  have HW := hide (within_any n 0 1000 w (by omega) (by omega) (by omega) hn)
  clear hn
  go_enter Tryz.func9, Tryz.ntmps9
  go_wp2_with fail
  refine (unhide HW).mono ?_
  rintro ee w1 ⟨x, rfl, hx0, hx1, hw⟩
  subst w1
  clear HW
  go_wp2_with fail
  obtain ⟨ob, hob⟩ : ∃ o : Obj, o = (.cells #[.int .u8 (x % 5)] 5) := ⟨_, rfl⟩
  have hP : Sl (w.alloc ob) (.slice (some ⟨w.heap.size, 0, none⟩) 1 1) [x % 5] := by
    rw [hob]; exact Sl.block (cs := [x % 5]) (t := 5) (fr := (0, 0)) (heap_alloc_new w _) (by simp [maxLen])
  have hPB : Bs [x % 5] := by
    intro b hb
    obtain rfl : b = x % 5 := by simpa using hb
    omega
  have Ka := (Kp.refl [] w).alloc ob
  have HL := lists1 hP hPB
  rw [show (w.alloc ob).heap.size = w.heap.size + 1 by simp] at HL
  have HK := hide (Ka.alloc (.cells #[.slice (some ⟨w.heap.size, 0, none⟩) 1 1] 22))
  rw [← hob]
  refine (reftagged_any 99 _ _ _ rfl _ HL (by omega) (by omega) (by simp) (by simp)).mono ?_
  rintro ee w2 ⟨ao2, m2, c2, rfl, R2, K2⟩
  obtain ⟨r, hr⟩ : ∃ r, r = sha (99 :: cat [(Value.slice (some ⟨w.heap.size, 0, none⟩) 1 1, [x % 5])]) := ⟨_, rfl⟩
  rw [← hr] at R2
  have HR2 := hide (row_new R2 (unhide HK))
  have HK2 := hide ((unhide HK).trans K2)
  have HRL : Hid (r.length = 32 ∧ Bs r) := by rw [hr]; exact ⟨sha_len _, sha_bs _⟩
  clear HL HK hob R2 K2 Ka hP hPB hr
  go_wp2_with fail
  go_ret
  exact ⟨ao2, m2, c2, r, rfl, unhide HR2, (unhide HRL).1, (unhide HRL).2, unhide HK2⟩

end Go.Proofs.YtillhpgdlmeajaaGreatDoor

/-
  The contract of the law package's known.
-/
namespace Go.Proofs.YtillhpgdlmeajaaGreatDoor
open Go.RowKit

theorem bs109 : Bs [109] := fun b hb => by
  obtain rfl : b = 109 := by simpa using hb
  omega
theorem sl109 (w : World) : Sl (w.alloc (.cells #[.int .u8 109] 5 (1, 2))) (.slice (some ⟨w.heap.size, 0, none⟩) 1 1) [109] := Sl.block (cs := [109]) (t := 5) (fr := (1, 2)) (heap_alloc_new w _) (by simp [maxLen])

end Go.Proofs.YtillhpgdlmeajaaGreatDoor

/-
  Lists of slices by their bytes, beside chapter 4's runs.
-/
