/-
  The contract of the law package's known: two sums that are written down.
-/
import Derived.Test.YthmbeamphahlmaaDoorHHex
import Derived.Lib.SlBytesConst
namespace Go.Proofs.YthmbeamphahlmaaDoor
open Go.RowKit

theorem sha_len (bs : List Int) : (sha bs).length = 32 := by
  unfold sha fin8
  rw [lay8_len, blks_len _ _ (blks_len _ _ rfl _)]
theorem lay8_bs (s : List Int) : Bs (lay8 s) := by
  intro b hb
  unfold lay8 at hb
  obtain ⟨x, _, hx⟩ := List.mem_flatMap.1 hb
  simp only [List.mem_cons, List.not_mem_nil, or_false] at hx
  rcases hx with rfl | rfl | rfl | rfl <;> omega
theorem sha_bs (bs : List Int) : Bs (sha bs) := lay8_bs _
theorem known_abc : strOfNums (hexs (sha [97, 98, 99])) = ⟨#[98, 97, 55, 56, 49, 54, 98, 102, 56, 102, 48, 49, 99, 102, 101, 97, 52, 49, 52, 49, 52, 48, 100, 101, 53, 100, 97, 101, 50, 50, 50, 51, 98, 48, 48, 51, 54, 49, 97, 51, 57, 54, 49, 55, 55, 97, 57, 99, 98, 52, 49, 48, 102, 102, 54, 49, 102, 50, 48, 48, 49, 53, 97, 100]⟩ := by rw [sha_abc]; decide +kernel
theorem known_nil : (strOfNums (hexs (sha []))).size = 64 ∧ (strOfNums (hexs (sha []))).extract 0 8 = ⟨#[101, 51, 98, 48, 99, 52, 52, 50]⟩ := by rw [sha_nil]; decide +kernel

theorem sum_at (vb : Value) (bs r : List Int) (hr : r = sha bs) (w : World) (hS : Sl w vb bs) (hB : Bs bs) (hl : bs.length ≤ 1000000000000) (hG : Gl w) :
    Calls Tryd.prog 8 #[vb] w fun e w' => ∃ ao m c, e = .returned (.slice ao m c) ∧ Row w' w.heap.size (.slice ao m c) r ∧ Kp [] w w' := by
  subst hr
  exact sum_any vb bs w hS hB hl hG
theorem hex_at (vb : Value) (bs : List Int) (S : ByteArray) (hs : S = strOfNums (hexs bs)) (w : World) (hS : Sl w vb bs) (hB : Bs bs) (hl : bs.length ≤ 1000000) :
    Calls Tryd.prog 12 #[vb] w fun e w' => e = .returned (.string S) ∧ Kp [] w w' := by
  subst hs
  exact hex_any vb bs w hS hB hl
/-- what is known of the two sums. -/
theorem known_facts : ∃ (rA rN : List Int) (SA SN : ByteArray), rA = sha [97, 98, 99] ∧ rN = sha [] ∧ SA = strOfNums (hexs rA) ∧ SN = strOfNums (hexs rN) ∧ rA.length = 32 ∧ rN.length = 32 ∧ Bs rA ∧ Bs rN ∧
    SA = ⟨#[98, 97, 55, 56, 49, 54, 98, 102, 56, 102, 48, 49, 99, 102, 101, 97, 52, 49, 52, 49, 52, 48, 100, 101, 53, 100, 97, 101, 50, 50, 50, 51, 98, 48, 48, 51, 54, 49, 97, 51, 57, 54, 49, 55, 55, 97, 57, 99, 98, 52, 49, 48, 102, 102, 54, 49, 102, 50, 48, 48, 49, 53, 97, 100]⟩ ∧ SN.size = 64 ∧ SN.extract 0 8 = ⟨#[101, 51, 98, 48, 99, 52, 52, 50]⟩ :=
  ⟨_, _, _, _, rfl, rfl, rfl, rfl, sha_len _, sha_len _, sha_bs _, sha_bs _, known_abc, known_nil.1, known_nil.2⟩

set_option maxRecDepth 100000 in
set_option maxHeartbeats 2000000 in
theorem known_any (w : World) (hG : Gl w) : Calls Tryd.prog 14 #[] w fun e w' => e = .returned (.bool true) ∧ Kp [] w w' := by
  obtain ⟨rA, rN, SA, SN, e1, e2, e3, e4, l1, l2, b1, b2, f1, f2, f3⟩ := known_facts
  have E1 := hide e1
  have E2 := hide e2
  have E3 := hide e3
  have E4 := hide e4
  have B1 := hide b1
  have B2 := hide b2
  have HG := hide hG
  have K1 := hide ((Kp.refl [] w).alloc (.cells #[.int .u8 97, .int .u8 98, .int .u8 99] 5 (3, 4)))
  have S1 := hide (Sl.block (cs := [97, 98, 99]) (t := 5) (heap_alloc_new w (.cells #[.int .u8 97, .int .u8 98, .int .u8 99] 5 (3, 4))) (by simp [maxLen]))
  have kc := fun (w : World) (C : Array Value) (n c : Nat) => Lib.run_convert_bytes_const (P := Tryd.prog) w 22 5 C n c Tryd.underlying22 Tryd.underlying5
  have hB3 : Hid (Bs [97, 98, 99]) := by
    intro b hb
    simp only [List.mem_cons, List.not_mem_nil, or_false] at hb
    omega
  have hB0 : Hid (Bs []) := fun b hb => by cases hb
  clear hG e1 e2 e3 e4 b1 b2
  go_enter Tryd.func14, Tryd.ntmps14
  go_wp2_with fail
  refine (sum_at _ [97, 98, 99] rA (unhide E1) _ (unhide S1) (unhide hB3) (by simp) ((unhide HG).kept (unhide K1) (by simp))).mono ?_
  rintro ee w2 ⟨ao2, m2, c2, rfl, R2, K2⟩
  have hK2 := hide ((unhide K1).trans K2)
  have hR2 := hide R2
  clear K1 S1 kc K2 R2
  go_wp2_with fail
  refine (hex_at _ rA SA (unhide E3) w2 (unhide hR2).sl (unhide B1) (by omega)).mono ?_
  rintro ee w3 ⟨rfl, K3⟩
  have hK3 := hide ((unhide hK2).trans K3)
  clear hK2 hR2 K3
  go_wp2_with fail
  clear f1
  refine (sum_at _ [] rN (unhide E2) w3 (Sl.nil _) (unhide hB0) (by simp) ((unhide HG).kept (unhide hK3) (by simp))).mono ?_
  rintro ee w4 ⟨ao4, m4, c4, rfl, R4, K4⟩
  have hK4 := hide ((unhide hK3).trans K4)
  have hR4 := hide R4
  clear hK3 K4 R4
  go_wp2_with fail
  refine (hex_at _ rN SN (unhide E4) w4 (unhide hR4).sl (unhide B2) (by omega)).mono ?_
  rintro ee w5 ⟨rfl, K5⟩
  have hK5 := hide ((unhide hK4).trans K5)
  clear hK4 hR4 K5
  go_wp2_with fail
  refine (sum_at _ [] rN (unhide E2) w5 (Sl.nil _) (unhide hB0) (by simp) ((unhide HG).kept (unhide hK5) (by simp))).mono ?_
  rintro ee w6 ⟨ao6, m6, c6, rfl, R6, K6⟩
  have hK6 := hide ((unhide hK5).trans K6)
  have hR6 := hide R6
  clear hK5 K6 R6
  go_wp2_with fail
  refine (hex_at _ rN SN (unhide E4) w6 (unhide hR6).sl (unhide B2) (by omega)).mono ?_
  rintro ee w7 ⟨rfl, K7⟩
  have hK7 := hide ((unhide hK6).trans K7)
  clear hK6 hR6 K7
  go_wp2_with fail
  go_ret
  exact ⟨rfl, unhide hK7⟩
end Go.Proofs.YthmbeamphahlmaaDoor
