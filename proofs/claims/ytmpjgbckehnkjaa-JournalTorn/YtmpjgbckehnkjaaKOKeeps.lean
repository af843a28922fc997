/-
  The contract of the law package's Lists; lists of slices by their bytes, as what an operation yields.
-/
import Derived.Test.YtmpjgbckehnkjaaKOSmalls
import Derived.Test.YtmpjgbckehnkjaaKHSmalls
import Derived.Test.YtmpjgbckehnkjaaKHRefs
namespace Go.Proofs.Ytmpjgbckehnkjaa
open Go.RowKit
open Go.Deep

set_option maxRecDepth 100000 in
set_option maxHeartbeats 1000000 in
theorem lists_any (va vb : Value) (la lb : List (Value × List Int)) (h : la.map (·.2) = lb.map (·.2)) (w : World) (hA : Lists w va la) (hB : Lists w vb lb) :
    Calls Try.prog 28 #[va, vb] w fun e w' => e = .returned (.bool true) ∧ Kp [] w w' := by
  have hlen : lb.length = la.length := by have := congrArg List.length h; simpa using this.symm
  have H := hide h
  obtain ⟨aa, ca, rfl, hla, hca⟩ := hA
  obtain ⟨ab, cb, rfl, hlb, hcb⟩ := hB
  have HA := hide hca
  have HB := hide hcb
  have HLE := hide hlen
  rw [hlen]
  obtain ⟨N, hN⟩ : ∃ N, N = la.length := ⟨_, rfl⟩
  have HN := hide hN
  rw [← hN] at hla ⊢
  have hNi : (N : Int) ≤ 9223372036854775807 := by omega
  clear h hca hcb hlen hlb hN
  go_enter Try.func28, Try.ntmps28
  go_wp2_with fail
  go_loopw [5] (fun i wr => ∃ k : Nat, k ≤ N ∧ i = .int .i64 k ∧ Kp [] w wr) (fun i _ => N - (intOf i).toNat)
  case atStart => exact ⟨0, by omega, rfl, Kp.refl _ _⟩
  case round =>
    obtain ⟨k, hk, rfl, Kr⟩ := hrel
    have HKr := hide Kr
    clear Kr
    by_cases hlt : k < N
    · have hlt2 : (k : Int) < (N : Int) := by omega
      have hka : k < la.length := by have := unhide HN; omega
      have hkb : k < lb.length := by have := unhide HLE; omega
      obtain ⟨b1, o1, rfl, hc1, hS1, _⟩ := unhide HA k hka
      obtain ⟨b2, o2, rfl, hc2, hS2, _⟩ := unhide HB k hkb
      have hxy : la[k].2 = lb[k].2 := by
        have h1 : (la.map (·.2))[k]? = (lb.map (·.2))[k]? := by rw [unhide H]
        rw [List.getElem?_map, List.getElem?_map, List.getElem?_eq_getElem hka, List.getElem?_eq_getElem hkb] at h1
        exact Option.some.inj h1
      have d1 : wr.drew.cell? ⟨b1, o1 + k, none⟩ = some la[k].1 := ((unhide HKr).trans (kp_drew wr)).cell hc1 (by simp)
      have d2 : wr.drew.cell? ⟨b2, o2 + k, none⟩ = some lb[k].1 := ((unhide HKr).trans (kp_drew wr)).cell hc2 (by simp)
      have v1 := (hS1.kept ((unhide HKr).trans (kp_drew wr)) (by simp)).conv (P := Try.prog) 22 9 5 Try.underlying22 Try.underlying5 Try.underlying9
      have v2 := (hS2.kept ((unhide HKr).trans (kp_drew wr)) (by simp)).conv (P := Try.prog) 22 9 5 Try.underlying22 Try.underlying5 Try.underlying9
      rw [← hxy] at v2
      obtain ⟨S, hSS⟩ : ∃ S, S = strOfNums la[k].2 := ⟨_, rfl⟩
      rw [← hSS] at v1 v2
      obtain ⟨x1, y1, e1, hj1⟩ := hS1
      obtain ⟨x2, y2, e2, hj2⟩ := hS2
      obtain ⟨n1, hn1⟩ : ∃ n, n = la[k].2.length := ⟨_, rfl⟩
      obtain ⟨n2, hn2⟩ : ∃ n, n = lb[k].2.length := ⟨_, rfl⟩
      rw [← hn1] at e1
      rw [← hn2] at e2
      rw [e1] at d1 v1
      rw [e2] at d2 v2
      clear hc1 hc2 hxy hSS e1 e2 hj1 hj2 hn1 hn2 HA HB
      go_wp2_with fail
      refine region_read Try.mixed (by kernel_rfl) ?_
      repeat (first | go_big_quiet_skip | (go_big_quiet_want; go_big_quiet_op; go_big_quiet_on))
      refine wpQuiet_nil ?_
      go_wp2_with fail
      go_roundw
      case rel => exact ⟨k + 1, by omega, by go_num, (unhide HKr).trans (kp_drew wr)⟩
      case measure => simp [intOf]; omega
    · obtain rfl : k = N := by omega
      clear HA HB
      go_wp2_with fail
      go_ret
      exact ⟨rfl, unhide HKr⟩
theorem wrap_at {x y : Int} (h : x = y) (h0 : -9223372036854775808 ≤ x) (h1 : x ≤ 9223372036854775807) : IntKind.i64.wrap x = y := by
  subst h
  simp [IntKind.wrap, IntKind.signed, IntKind.bits]
  omega
/-- The value is a slice of slices that reads as these bytes. -/
def LsM (ls : List (List Int)) : Tell := fun v w => ∃ l, Lists w v l ∧ l.map (·.2) = ls
theorem stable_lsm (ls : List (List Int)) : Tell.stable (LsM ls) := fun _ _ _ k ⟨l, h, e⟩ => ⟨l, h.kept k, e⟩
theorem grown_build1 {o : Oper} {a : Act} {w : World} (x : Operand) (ho : o.op = .buildSlice 24 1 #[(0, x)]) (bs : List Int) (h : Sl w (a.eval x) bs) (hB : Bs bs) : grown Try.prog w (LsM [bs]) ((execOp a.eval o).run Try.prog w) := by
  have h2 := lists1 h hB
  obtain ⟨ao, c, e, _⟩ := h
  refine grown_run (v := .slice (some ⟨w.heap.size, 0, none⟩) 1 1) (w' := w.alloc (.cells #[a.eval x] 22)) ?_ ((Kp.refl _ _).alloc _) ⟨_, h2, rfl⟩
  obtain ⟨ρ, hρ, hc, hf, hg⟩ := eval_is a
  rw [hρ] at e ⊢
  unfold execOp
  simp only [ho]
  simp [go_sem, e]
theorem lists_lsm {va vb : Value} {ls : List (List Int)} {w : World} (hA : LsM ls va w) (hB : LsM ls vb w) :
    Calls Try.prog 28 #[va, vb] w fun e w' => e = .returned (.bool true) ∧ Kp [] w w' := by
  obtain ⟨la, h1, e1⟩ := hA
  obtain ⟨lb, h2, e2⟩ := hB
  exact lists_any va vb la lb (e1.trans e2.symm) w h1 h2
end Go.Proofs.Ytmpjgbckehnkjaa

/-
  The contracts of the law package's helpers Seed and Lists, and of known.
-/
namespace Go.Proofs.Ytmpjgbckehnkjaa
open Go.RowKit
open Go.Deep

end Go.Proofs.Ytmpjgbckehnkjaa

/-
  The contract of the law package's known.
-/
namespace Go.Proofs.Ytmpjgbckehnkjaa
open Go.RowKit

theorem bs109 : Bs [109] := fun b hb => by
  obtain rfl : b = 109 := by simpa using hb
  omega
theorem sl109 (w : World) : Sl (w.alloc (.cells #[.int .u8 109] 5 (1, 2))) (.slice (some ⟨w.heap.size, 0, none⟩) 1 1) [109] := Sl.block (cs := [109]) (t := 5) (fr := (1, 2)) (heap_alloc_new w _) (by simp [maxLen])

end Go.Proofs.Ytmpjgbckehnkjaa

/-
  Lists of slices by their bytes, beside chapter 4's runs.
-/
