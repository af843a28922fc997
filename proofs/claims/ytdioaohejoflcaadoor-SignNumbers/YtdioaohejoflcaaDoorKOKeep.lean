/-
  The contracts of the law package's helpers Seed and Lists, and of known.
-/
import Derived.Test.YtdioaohejoflcaaDoorKORefDig
import Derived.Test.YtdioaohejoflcaaDoorKHAux
import Derived.Test.YtdioaohejoflcaaDoorKORoot
import Derived.Test.YtdioaohejoflcaaDoorKRGrowLs
namespace Go.Proofs.YtdioaohejoflcaaDoor
open Go.RowKit
open Go.Deep

set_option maxRecDepth 100000 in
set_option maxHeartbeats 1000000 in
theorem seed_any (n : Int) (w : World) (hn : -9223372036854775808 ≤ n ∧ n ≤ 9223372036854775807) :
    Calls Tryd.prog 10 #[.int .i64 n] w fun e w' => ∃ ao m c r, e = .returned (.slice ao m c) ∧ Row w' w.heap.size (.slice ao m c) r ∧ r.length = 32 ∧ Bs r ∧ Kp [] w w' := by
  have HW := hide (within_any n 0 1000 w (by omega) (by omega) (by omega) hn)
  clear hn
  go_enter Tryd.func10, Tryd.ntmps10
  go_wp2_with fail
  refine (unhide HW).mono ?_
  rintro ee w1 ⟨x, rfl, hx0, hx1, hw⟩
  subst w1
  clear HW
  go_wp2_with fail
  obtain ⟨ob, hob⟩ : ∃ o : Obj, o = (.cells #[.int .u8 (x % 5)] 5) := ⟨_, rfl⟩
  have hP : Sl (w.alloc ob) (.slice (some ⟨w.heap.size, 0, none⟩) 1 1) [x % 5] := by
    rw [hob]; exact Sl.block (cs := [x % 5]) (t := 5) (fr := (0, 0)) (heap_alloc_new w _) (by simp [maxLen])
  have hPB : Bs [x % 5] := by
    intro b hb
    obtain rfl : b = x % 5 := by simpa using hb
    omega
  have Ka := (Kp.refl [] w).alloc ob
  have HL := lists1 hP hPB
  rw [show (w.alloc ob).heap.size = w.heap.size + 1 by simp] at HL
  have HK := hide (Ka.alloc (.cells #[.slice (some ⟨w.heap.size, 0, none⟩) 1 1] 24))
  rw [← hob]
  refine (reftagged_any 99 _ _ _ rfl _ HL (by omega) (by omega) (by simp) (by simp)).mono ?_
  rintro ee w2 ⟨ao2, m2, c2, rfl, R2, K2⟩
  obtain ⟨r, hr⟩ : ∃ r, r = sha (99 :: cat [(Value.slice (some ⟨w.heap.size, 0, none⟩) 1 1, [x % 5])]) := ⟨_, rfl⟩
  rw [← hr] at R2
  have HR2 := hide (row_new R2 (unhide HK))
  have HK2 := hide ((unhide HK).trans K2)
  have HRL : Hid (r.length = 32 ∧ Bs r) := by rw [hr]; exact ⟨sha_len _, sha_bs _⟩
  clear HL HK hob R2 K2 Ka hP hPB hr
  go_wp2_with fail
  go_ret
  exact ⟨ao2, m2, c2, r, rfl, unhide HR2, (unhide HRL).1, (unhide HRL).2, unhide HK2⟩

end Go.Proofs.YtdioaohejoflcaaDoor
