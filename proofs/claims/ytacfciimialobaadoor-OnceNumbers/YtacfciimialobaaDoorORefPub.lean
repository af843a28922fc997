/-
  The contract of the reference's Public.
-/
import Derived.Test.YtacfciimialobaaDoorORefSec
namespace Go.Proofs.YtacfciimialobaaDoor
open Go.RowKit

theorem flat_two (bs : List Int) (key : Int) (k : Nat) : (ptsP bs key noneC (2 * (k + 1))).flatten = (ptsP bs key noneC (2 * k)).flatten ++ shnP bs key (k : Nat) 0 ++ shnP bs key (k : Nat) 1 := by
  rw [show 2 * (k + 1) = 2 * k + 1 + 1 by omega, ptsP_succ, ptsP_succ, List.flatten_append, List.flatten_append]
  have e0 := ptP_at bs key noneC k 0 (by omega)
  have e1 := ptP_at bs key noneC k 1 (by omega)
  rw [Nat.add_zero] at e0
  rw [e0, e1]
  simp [noneC]
theorem flat_len (bs : List Int) (key : Int) (c : Nat → Nat → Bool) (n : Nat) : (ptsP bs key c n).flatten.length = 32 * n := by
  induction n with
  | zero => rfl
  | succ n ih => rw [ptsP_succ, List.flatten_append, List.length_append, ih]; simp [ptP_len]; omega

set_option maxRecDepth 100000 in
set_option maxHeartbeats 1000000 in
theorem refpublic_any (vb : Value) (bs : List Int) (key : Int) (r : List Int) (hr : r = pubP bs key) (w : World) (hS : Sl w vb bs) (hB : Bs bs) (hl : bs.length ≤ 1000) :
    Calls Tryd.prog 21 #[vb, .int .i64 key] w fun e w' => ∃ ao m c, e = .returned (.slice ao m c) ∧ Row w' w.heap.size (.slice ao m c) r ∧ Kp [] w w' := by
  have HR := hide hr
  have HS := hide hS
  have HB := hide hB
  obtain ⟨ab, cb, hvb, _⟩ := hS
  obtain ⟨nb, hnb⟩ : ∃ n, n = bs.length := ⟨_, rfl⟩
  rw [← hnb] at hvb
  subst hvb
  clear hr hnb hB
  go_enter Tryd.func21, Tryd.ntmps21
  go_wp2_with fail
  go_loopw [5, 6] (fun v i wr => ∃ (k m c : Nat) (ao : Option Addr), k ≤ 32 ∧ v = .slice ao m c ∧ i = .int .i64 k ∧ Row wr w.heap.size v (ptsP bs key noneC (2 * k)).flatten ∧ Kp [] w wr) (fun _ i _ => 32 - (intOf i).toNat)
  case atStart => exact ⟨0, 0, 0, none, by omega, rfl, rfl, row_nil _ _, Kp.refl _ _⟩
  case round =>
    obtain ⟨k, m, c, ao, hk, rfl, rfl, Rr, Kr⟩ := hrel
    have HRr := hide Rr
    have HKr := hide Kr
    clear Rr Kr
    by_cases hlt : k < 32
    · have hlt2 : (k : Int) < 32 := by omega
      obtain ⟨fl, hfl⟩ : ∃ fl, fl = (ptsP bs key noneC (2 * k)).flatten := ⟨_, rfl⟩
      obtain ⟨r0, hr0⟩ : ∃ r, r = shnP bs key (k : Nat) 0 := ⟨_, rfl⟩
      obtain ⟨r1, hr1⟩ : ∃ r, r = shnP bs key (k : Nat) 1 := ⟨_, rfl⟩
      have HE : Hid ((ptsP bs key noneC (2 * (k + 1))).flatten = fl ++ r0 ++ r1) := by rw [hfl, hr0, hr1]; exact flat_two bs key k
      have hfll : fl.length ≤ 2048 := by rw [hfl, flat_len]; omega
      have hr0l : r0.length = 32 := by rw [hr0]; exact shnP_len _ _ _ _
      have hr1l : r1.length = 32 := by rw [hr1]; exact shnP_len _ _ _ _
      rw [← hfl] at HRr
      have HR0 := hide hr0
      have HR1 := hide hr1
      clear hfl hr0 hr1
      go_wp2_with fail
      refine (refshown_any _ bs key (k : Nat) 0 r0 (unhide HR0) wr ((unhide HS).kept (unhide HKr) (by simp)) (unhide HB) hl).mono ?_
      rintro ee w2 ⟨a2, m2, c2, rfl, R2, K2⟩
      have HR2 := hide R2
      have HK2 := hide K2
      clear R2 K2
      go_wp2_with (at_builtin; refine wpList_append_row rfl (.tmp 11) (.tmp 15) rfl w.heap.size _ fl rfl ((unhide HRr).kept (unhide HK2) (by simp)) _ r0 rfl (unhide HR2).sl (by omega) (by have := (unhide HKr).size; have := (unhide HK2).size; omega) ?_; intro ao3 m3 c3 w3 R3 s3)
      have HK3 := hide ((unhide HRr).step (unhide HKr) (s3.after (unhide HK2)))
      have HR3 := hide R3
      clear R3 s3 HR2 HK2 HRr HKr
      refine (refshown_any _ bs key (k : Nat) 1 r1 (unhide HR1) w3 ((unhide HS).kept (unhide HK3) (by simp)) (unhide HB) hl).mono ?_
      rintro ee w4 ⟨a4, m4, c4, rfl, R4, K4⟩
      have HR4 := hide R4
      have HK4 := hide K4
      clear R4 K4
      go_wp2_with (at_builtin; refine wpList_append_row rfl (.tmp 16) (.tmp 20) rfl w.heap.size _ (fl ++ r0) rfl ((unhide HR3).kept (unhide HK4) (by simp)) _ r1 rfl (unhide HR4).sl (by rw [List.length_append]; omega) (by have := (unhide HK3).size; have := (unhide HK4).size; omega) ?_; intro ao5 m5 c5 w5 R5 s5)
      go_roundw
      case rel => exact ⟨k + 1, m5, c5, ao5, by omega, rfl, by go_num, by rw [unhide HE]; exact R5, (unhide HR3).step (unhide HK3) (s5.after (unhide HK4))⟩
      case measure => simp [intOf]; omega
    · obtain rfl : k = 32 := by omega
      obtain ⟨fl, hfl⟩ : ∃ fl, fl = (ptsP bs key noneC 64).flatten := ⟨_, rfl⟩
      have hfll : fl.length ≤ 2048 := by rw [hfl, flat_len]; omega
      have hFB : Hid (Bs fl) := by
        rw [hfl]
        intro b hb
        obtain ⟨x, hx, hb⟩ := List.mem_flatten.1 hb
        unfold ptsP at hx
        obtain ⟨i, _, rfl⟩ := List.mem_map.1 hx
        exact ptP_bs _ _ _ _ b hb
      have hrr : Hid (Row wr w.heap.size (.slice ao m c) fl) := by rw [hfl]; exact unhide HRr
      have HR2 : Hid (r = sha (12 :: fl)) := by rw [unhide HR, hfl]; rfl
      have HL := hide (lists1 (unhide hrr).sl (unhide hFB))
      have HK := hide ((unhide HKr).trans ((Kp.refl [] wr).alloc (.cells #[.slice ao m c] 22)))
      clear hfl HRr HKr HR hrr
      go_wp2_with fail
      refine (reftagged_any 12 _ _ r (by rw [unhide HR2, cat1]) _ (unhide HL) (by omega) (by omega) (by simp) (by simp; omega)).mono ?_
      rintro ee w2 ⟨ao2, m2, c2, rfl, R2, K2⟩
      have HR3 := hide (row_new R2 (unhide HK))
      have HK2 := hide ((unhide HK).trans K2)
      clear HL HK HR2 R2 K2
      go_wp2_with fail
      go_ret
      exact ⟨ao2, m2, c2, rfl, unhide HR3, unhide HK2⟩
end Go.Proofs.YtacfciimialobaaDoor
