/-
  The contract of the law package's Lists; lists of slices by their bytes, as what an operation yields.
-/
import Derived.Test.YtillhpgdlmeajabGreatDoorKOSmalls
import Derived.Test.YtillhpgdlmeajabGreatDoorKHSmalls
import Derived.Test.YtillhpgdlmeajabGreatDoorKHRefs
namespace Go.Proofs.YtillhpgdlmeajabGreatDoor
open Go.RowKit
open Go.Deep

theorem wrap_at {x y : Int} (h : x = y) (h0 : -9223372036854775808 ≤ x) (h1 : x ≤ 9223372036854775807) : IntKind.i64.wrap x = y := by
  subst h
  simp [IntKind.wrap, IntKind.signed, IntKind.bits]
  omega
/-- The value is a slice of slices that reads as these bytes. -/
def LsM (ls : List (List Int)) : Tell := fun v w => ∃ l, Lists w v l ∧ l.map (·.2) = ls
theorem stable_lsm (ls : List (List Int)) : Tell.stable (LsM ls) := fun _ _ _ k ⟨l, h, e⟩ => ⟨l, h.kept k, e⟩
theorem grown_build1 {o : Oper} {a : Act} {w : World} (x : Operand) (ho : o.op = .buildSlice 31 1 #[(0, x)]) (bs : List Int) (h : Sl w (a.eval x) bs) (hB : Bs bs) : grown Tryz.prog w (LsM [bs]) ((execOp a.eval o).run Tryz.prog w) := by
  have h2 := lists1 h hB
  obtain ⟨ao, c, e, _⟩ := h
  refine grown_run (v := .slice (some ⟨w.heap.size, 0, none⟩) 1 1) (w' := w.alloc (.cells #[a.eval x] 29)) ?_ ((Kp.refl _ _).alloc _) ⟨_, h2, rfl⟩
  obtain ⟨ρ, hρ, hc, hf, hg⟩ := eval_is a
  rw [hρ] at e ⊢
  unfold execOp
  simp only [ho]
  simp [go_sem, e]
theorem reftagged_lsm {tag : Int} {v : Value} {ls : List (List Int)} {w : World} (r : List Int) (hr : r = sha (tag :: ls.flatten)) (h : LsM ls v w) (h0 : 0 ≤ tag) (h1 : tag ≤ 255) (hn : ls.length ≤ 100000) (hm : ∀ x ∈ ls, x.length ≤ 1000000) :
    Calls Tryz.prog 30 #[.int .u8 tag, v] w fun e w' => ∃ ao m c, e = .returned (.slice ao m c) ∧ Row w' w.heap.size (.slice ao m c) r ∧ Kp [] w w' := by
  obtain ⟨l, hL, he⟩ := h
  exact reftagged_any tag v l r (by rw [hr, cat_map he]) w hL h0 h1 (by rw [← List.length_map (f := (·.2)), he]; exact hn) (small_of_map he hm)
end Go.Proofs.YtillhpgdlmeajabGreatDoor

/-
  The contracts of the law package's helpers Seed and Lists, and of known.
-/
namespace Go.Proofs.YtillhpgdlmeajabGreatDoor
open Go.RowKit
open Go.Deep

set_option maxRecDepth 100000 in
set_option maxHeartbeats 1000000 in
theorem seed_any (n : Int) (w : World) (hn : -9223372036854775808 ≤ n ∧ n ≤ 9223372036854775807) :
    Calls Tryz.prog 8 #[.int .i64 n] w fun e w' => ∃ ao m c r, e = .returned (.slice ao m c) ∧ Row w' w.heap.size (.slice ao m c) r ∧ r.length = 32 ∧ Bs r ∧ Kp [] w w' := by
  have HW := hide (within_any n 0 1000 w (by omega) (by omega) (by omega) hn)
  clear hn
  go_enter Tryz.func8, Tryz.ntmps8
  go_wp2_with fail
  refine (unhide HW).mono ?_
  rintro ee w1 ⟨x, rfl, hx0, hx1, hw⟩
  subst w1
  clear HW
  go_wp2_with fail
  obtain ⟨ob, hob⟩ : ∃ o : Obj, o = (.cells #[.int .u8 (x % 5)] 5) := ⟨_, rfl⟩
  have hP : Sl (w.alloc ob) (.slice (some ⟨w.heap.size, 0, none⟩) 1 1) [x % 5] := by
    rw [hob]; exact Sl.block (cs := [x % 5]) (t := 5) (fr := (0, 0)) (heap_alloc_new w _) (by simp [maxLen])
  have hPB : Bs [x % 5] := by
    intro b hb
    obtain rfl : b = x % 5 := by simpa using hb
    omega
  have Ka := (Kp.refl [] w).alloc ob
  have HL := lists1 hP hPB
  rw [show (w.alloc ob).heap.size = w.heap.size + 1 by simp] at HL
  have HK := hide (Ka.alloc (.cells #[.slice (some ⟨w.heap.size, 0, none⟩) 1 1] 29))
  rw [← hob]
  refine (reftagged_any 99 _ _ _ rfl _ HL (by omega) (by omega) (by simp) (by simp)).mono ?_
  rintro ee w2 ⟨ao2, m2, c2, rfl, R2, K2⟩
  obtain ⟨r, hr⟩ : ∃ r, r = sha (99 :: cat [(Value.slice (some ⟨w.heap.size, 0, none⟩) 1 1, [x % 5])]) := ⟨_, rfl⟩
  rw [← hr] at R2
  have HR2 := hide (row_new R2 (unhide HK))
  have HK2 := hide ((unhide HK).trans K2)
  have HRL : Hid (r.length = 32 ∧ Bs r) := by rw [hr]; exact ⟨sha_len _, sha_bs _⟩
  clear HL HK hob R2 K2 Ka hP hPB hr
  go_wp2_with fail
  go_ret
  exact ⟨ao2, m2, c2, r, rfl, unhide HR2, (unhide HRL).1, (unhide HRL).2, unhide HK2⟩

end Go.Proofs.YtillhpgdlmeajabGreatDoor

/-
  The contract of the law package's known.
-/
namespace Go.Proofs.YtillhpgdlmeajabGreatDoor
open Go.RowKit

theorem bs109 : Bs [109] := fun b hb => by
  obtain rfl : b = 109 := by simpa using hb
  omega
theorem sl109 (w : World) : Sl (w.alloc (.cells #[.int .u8 109] 5 (1, 2))) (.slice (some ⟨w.heap.size, 0, none⟩) 1 1) [109] := Sl.block (cs := [109]) (t := 5) (fr := (1, 2)) (heap_alloc_new w _) (by simp [maxLen])

end Go.Proofs.YtillhpgdlmeajabGreatDoor

/-
  Lists of slices by their bytes, beside chapter 4's runs.
-/
