/-
  The laws of keys: on, lay, known.
-/
import Derived.Test.YtjmabnchaglpdaaKKOpen
namespace Go.Proofs.Ytjmabnchaglpdaa
open Go.ChangeShapes Go.WideShapes Go.ChangeAt Go.RowKit
open Go.Proofs
open Go.Deep
set_option linter.unusedVariables false

set_option maxRecDepth 100000 in
set_option maxHeartbeats 2000000 in
theorem kon_any (vb : Value) (b : List Int) (w : World) (hS : Sl w vb b) (hB : Bs b) (hl : b.length ≤ 1048576) :
    Calls Try.prog 7 #[vb] w fun e w' => ∃ p, e = .returned (.pointer (some ⟨p, 0, none⟩)) ∧ Nx w w' p (dkOn b) := by
  have hN := hide (nw_new 1048576 w (by omega) (by omega))
  have HA : Hid ((dk0 1048576).app b = (true, ⟨b, 0, 1048576, 0, false⟩)) := by
    have h1 := Dk.app_plain (d := dk0 1048576) rfl (Int.le_refl 0) b (by show ((0 + b.length : Nat) : Int) ≤ 1048576; omega)
    exact h1
  have HY : Hid ((⟨b, 0, 1048576, 0, false⟩ : Dk).sync = (true, dkOn b)) := Dk.sync_plain (d := ⟨b, 0, 1048576, 0, false⟩) rfl (Int.le_refl 0)
  have HS := hide (fun w' (k : Kp [] w w') => hS.kept k (by simp))
  have HB := hide hB
  clear hS hB hl
  go_enter Try.func7, Try.ntmps7
  go_wp2_with (first
    | (go_at_call 19; refine hN.out.mono ?_; rintro e w1 ⟨p, rfl, N1⟩; clear hN; have HN1 := hide N1; clear N1)
    | (go_at_call 22; refine (nw_append HN1.out (HS.out w1 HN1.out.kp) HB.out true HA.out 0 rfl).mono ?_; rintro e w2 ⟨rfl, v2, N2, -⟩; have HN2 := hide N2; clear HN1 N2)
    | (go_at_call 23; refine (nw_sync HN2.out true HY.out 0 rfl).mono ?_; rintro e w3 ⟨rfl, N3, -⟩; have HN3 := hide N3; clear HN2 N3))
  go_ret
  exact ⟨p, rfl, v2, HN3.out⟩
section
variable {w0 w : World} {p q n k : Nat} {d d' : Dk}
theorem bx_arm (h : Bx w0 w p d q n k) (x : Int) (hx : x ≤ 9223372036854775807) (he : d.armed (max x 0) = d') : Calls Try.prog 16 #[.pointer (some ⟨p, 0, none⟩), .int .i64 x] w fun e w' => e = .returned (.tuple #[]) ∧ Bx w0 w' p d' q n k := by
  obtain ⟨v, j, m, h1, h2, h3, h4⟩ := h
  refine (nw_arm h2.nw x hx he).mono ?_
  rintro e w' ⟨rfl, N, T⟩
  exact ⟨rfl, Bx.disk ⟨j, m, h1, h2, h3, h4⟩ N T⟩
theorem bx_grow (h : Bx w0 w p d q n k) (x : Int) (er : Bool) (he : d.grow x = (er, d')) : Calls Try.prog 20 #[.pointer (some ⟨p, 0, none⟩), .int .i64 x] w fun e w' => e = .returned (.bool er) ∧ Bx w0 w' p d' q n k := by
  obtain ⟨v, j, m, h1, h2, h3, h4⟩ := h
  refine (nw_grow h2.nw x er he).mono ?_
  rintro e w' ⟨rfl, N, T⟩
  exact ⟨rfl, Bx.disk ⟨j, m, h1, h2, h3, h4⟩ N T⟩
theorem nx_crash (h : Nx w0 w p d) (x : Int) (he : d.crash x = d') : Calls Try.prog 18 #[.pointer (some ⟨p, 0, none⟩), .int .i64 x] w fun e w' => e = .returned (.tuple #[]) ∧ Nx w0 w' p d' := by
  obtain ⟨v, h⟩ := h
  refine (nw_crash h x he).mono ?_
  rintro e w' ⟨rfl, v', N, T⟩
  exact ⟨rfl, v', N⟩
end
set_option maxRecDepth 100000 in
set_option maxHeartbeats 2000000 in
theorem klay_any (n : Nat) (w : World) (hn : n ≤ 256) :
    Calls Try.prog 8 #[.int .i64 n] w fun e w' => ∃ ao m c, e = .returned (.slice ao m c) ∧ Row w' w.heap.size (.slice ao m c) (klay n) ∧ Kp [] w w' := by
  go_enter Try.func8, Try.ntmps8
  go_wp2_with fail
  go_loopw [3, 4] (fun o i wr => ∃ k : Nat, k ≤ n ∧ i = .int .i64 k ∧ ∃ ao m c, o = .slice ao m c ∧ Row wr w.heap.size o (klay k) ∧ Kp [] w wr) (fun _ i _ => n - (intOf i).toNat)
  case atStart => exact ⟨0, by omega, rfl, _, _, _, rfl, ⟨rfl, .inl ⟨rfl, rfl⟩⟩, Kp.refl _ _⟩
  case round =>
    obtain ⟨k, hk, rfl, ao, m, c, rfl, R, K⟩ := hrel
    have HR := hide R
    have HK := hide K
    by_cases hlt : k < n
    · have hlt' : (k : Int) < (n : Int) := by omega
      have h8 : IntKind.u8.wrap (k : Int) = k := by simp [IntKind.wrap, IntKind.signed, IntKind.bits]; omega
      have hkl : (klay k).length ≤ 10000 := by rw [klay_len]; omega
      have hrl : (recP [(k : Int)]).length ≤ 100 := by rw [recP_len]; simp
      have ka : Kp [] wr (wr.alloc (.cells #[.int .u8 (k : Int)] 5)) := (Kp.refl [] wr).alloc _
      have HRc := hide (record_any _ [(k : Int)] _ (lit_sl wr [(k : Int)] 1 (0, 0) rfl (by omega)) (by simp))
      have HKa := hide ka
      clear R K ka
      go_wp2_with fail
      refine HRc.out.mono ?_
      rintro ee w2 ⟨a2, m2, c2, rfl, R2, K2⟩
      have HR2 := hide (HR.out.kept (HKa.out.trans K2) (by simp))
      have HK2 := hide (HK.out.trans (HKa.out.trans K2))
      have hs2 := R2.sl
      clear R2 K2 HRc
      go_wp2_with (at_builtin; refine wpList_append_row rfl (.tmp 10) (.tmp 14) rfl w.heap.size _ _ rfl HR2.out _ _ rfl hs2 (by omega) HK2.out.size ?_; intro a3 m3 c3 w3 R3 S3)
      go_roundw
      case rel => exact ⟨k + 1, by omega, by go_num, a3, m3, c3, rfl, by rw [klay_succ]; exact R3, S3.kpn HK2.out HR2.out⟩
      case measure => simp [intOf]; omega
    · obtain rfl : k = n := by omega
      clear R K
      go_wp2_with fail
      go_ret
      exact ⟨ao, m, c, rfl, HR.out, HK.out⟩
theorem on0 : klay 0 = [] := rfl
set_option maxRecDepth 100000 in
set_option maxHeartbeats 4000000 in
theorem kknown_any (w : World) : Calls Try.prog 15 #[] w fun e w' => e = .returned (.bool true) ∧ Kp [] w w' := by
  have HOn := hide (kon_any (.slice none 0 0) [] w (Sl.nil w) (fun b hb => by cases hb) (by simp))
  go_enter Try.func15, Try.ntmps15
  go_wp2_with fail
  refine HOn.out.mono ?_
  rintro ee w1 ⟨p, rfl, N1⟩
  rw [← on0] at N1
  have HOp := hide (kopen_ok N1 rfl (Int.le_refl 0) rfl (Nat.zero_le _) (klay_opn 0) (klay_dk 0))
  clear N1 HOn
  go_wp2_with fail
  refine HOp.out.mono ?_
  rintro ee w2 ⟨q, rfl, B2⟩
  have HT1 := hide (take_any B2 (by omega) (by omega) true (kadd_on (by omega)) 0 0 rfl rfl 1 rfl)
  clear B2 HOp
  go_wp2_with fail
  refine HT1.out.mono ?_
  rintro ee w3 ⟨rfl, B3⟩
  have HT2 := hide (take_any B3 (by omega) (by omega) true (kadd_on (by omega)) 1 0 rfl rfl 2 rfl)
  clear B3 HT1
  go_wp2_with fail
  refine HT2.out.mono ?_
  rintro ee w4 ⟨rfl, B4⟩
  have HO2 := hide (kopen_ok B4.nx rfl (Int.le_refl 0) rfl (by omega) (klay_opn 2) (klay_dk 2))
  clear B4 HT2
  go_wp2_with fail
  refine HO2.out.mono ?_
  rintro ee w5 ⟨q5, rfl, B5⟩
  have HT3 := hide (take_any B5 (by omega) (by omega) true (kadd_on (by omega)) 2 0 rfl rfl 3 rfl)
  clear B5 HO2
  go_wp2_with fail
  refine HT3.out.mono ?_
  rintro ee w6 ⟨rfl, B6⟩
  have HLf := hide (left_keys B6 (by omega) 13 rfl)
  have HB6 := hide B6
  clear B6 HT3
  go_wp2_with (go_at_call 11; refine HLf.out.mono ?_; rintro ee w7 ⟨rfl, hw⟩; subst w7; clear HLf)
  go_ret
  exact ⟨rfl, HB6.out.kp⟩
end Go.Proofs.Ytjmabnchaglpdaa
