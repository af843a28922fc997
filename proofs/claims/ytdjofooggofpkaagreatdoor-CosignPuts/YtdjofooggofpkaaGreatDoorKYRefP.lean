/-
  The contracts of the reference's Cosign and Policy.
-/
import Derived.Test.YtdjofooggofpkaaGreatDoorKXRefB
import Derived.Test.YtdjofooggofpkaaGreatDoorKYSpecs
import Derived.Test.YtdjofooggofpkaaGreatDoorKXSmalls
import Derived.Test.YtdjofooggofpkaaGreatDoorKRGrows
namespace Go.Proofs.YtdjofooggofpkaaGreatDoor
open Go.RowKit
open Go.Proofs

theorem letW_nums : letW = nums ⟨#[98, 114, 111, 97, 100, 115, 104, 101, 101, 116, 32, 99, 111, 115, 105, 103, 110]⟩ := by decide
set_option maxRecDepth 100000 in
set_option maxHeartbeats 1000000 in
theorem rcosign_any (vc : Value) (n : Int) (r B : List Int) (hB : B = bodW n r) (w : World) (hC : CkV w vc n r) :
    Calls Tryz.prog 9 #[vc] w fun e w' => ∃ ao m c, e = .returned (.slice ao m c) ∧ Sl w' (.slice ao m c) B ∧ Kp [] w w' := by
  have HC := hide hC
  obtain ⟨a, m, c, rfl, -, -⟩ := hC
  obtain ⟨w1, hw1⟩ : ∃ w1, w1 = w.alloc (.cells #[.int .i64 n, .slice a m c] 33) := ⟨_, rfl⟩
  have K1 : Kp [] w w1 := by rw [hw1]; exact (Kp.refl [] w).alloc _
  have G1 : w1.heap[w.heap.size]? = some (.cells #[.int .i64 n, .slice a m c] 33 (0, 0)) := by rw [hw1]; exact heap_alloc_new w _
  have hl1 := load_whole (T := 33) G1 Tryz.underlying33 rfl Tryz.chkSize
  have HD := hide (refbody_any ⟨#[98, 114, 111, 97, 100, 115, 104, 101, 101, 116, 32, 99, 111, 115, 105, 103, 110]⟩ letW letW_nums (by decide) _ n r B hB w1 ((unhide HC).kept K1))
  rw [hw1] at hl1
  have HK1 := hide K1
  have HW1 := hide hw1
  clear hw1 K1 G1 hB
  go_enter Tryz.func9, Tryz.ntmps9
  go_wp2_with fail
  rw [← unhide HW1]
  refine (unhide HD).mono ?_
  rintro ee w2 ⟨a2, m2, c2, rfl, S2, K2⟩
  have HK2 := hide ((unhide HK1).trans K2)
  have HS2 := hide S2
  clear K2 S2 HD hl1
  go_wp2_with fail
  go_ret
  exact ⟨a2, m2, c2, rfl, unhide HS2, unhide HK2⟩

end Go.Proofs.YtdjofooggofpkaaGreatDoor
