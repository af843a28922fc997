/-
  The contract of the reference's Leaves, of longer items.
-/
import Derived.Test.YtillhpgdlmeajaaGreatDoorKTRef
namespace Go.Proofs.YtillhpgdlmeajaaGreatDoor
open Go.RowKit
open Go.Proofs
set_option maxRecDepth 100000 in
set_option maxHeartbeats 2000000 in
theorem rleaves_big (vl : Value) (ls : List (List Int)) (w : World) (hL : LcM ls vl w) (hn : ls.length ≤ 1000) (hm : ∀ x ∈ ls, x.length ≤ 65535) :
    Calls Tryz.prog 25 #[vl] w fun e w' => ∃ ao m c, e = .returned (.slice ao m c) ∧ Acc w (ls.map tleafP) (.slice ao m c) w' := by
  have HL := hide hL
  have HM := hide hm
  obtain ⟨al, cl, e, h1, h2, h3⟩ := hL.shape
  obtain ⟨N, hN⟩ : ∃ N, N = ls.length := ⟨_, rfl⟩
  rw [← hN] at e hn
  subst e
  have HN := hide hN
  have hnn : (N : Int) ≤ 1000 := by omega
  clear hL hm hN h1 h2 h3
  go_enter Tryz.func25, Tryz.ntmps25
  go_wp2_with fail
  go_loopw [3, 4] (fun v i wr => ∃ (k m cc : Nat) (ao : Option Addr), k ≤ N ∧ v = .slice ao m cc ∧ i = .int .i64 k ∧ Acc w ((ls.take k).map tleafP) v wr) (fun _ i _ => N - (intOf i).toNat)
  case atStart => exact ⟨0, 0, 0, none, by omega, rfl, rfl, [], ⟨World.ownsRow_nil _ _ _ _, fun x hx => by cases hx⟩, rfl, Kp.refl _ _⟩
  case round =>
    obtain ⟨k, m, cc, ao, hk, rfl, rfl, Ar⟩ := hrel
    have HA := hide Ar
    clear Ar
    by_cases hlt : k < N
    · have hlt2 : (k : Int) < (N : Int) := by omega
      have hkl : k < ls.length := by have := unhide HN; omega
      have HE : Hid ((ls.take (k + 1)).map tleafP = (ls.take k).map tleafP ++ [tleafP ls[k]]) := hide (by rw [List.take_succ_eq_append_getElem hkl, List.map_append]; rfl)
      have hx := List.getElem?_eq_getElem hkl
      have hml := unhide HM ls[k] (List.getElem_mem hkl)
      have HLN : Hid (((ls.take k).map tleafP).length ≤ 1000000) := hide (by simp; omega)
      obtain ⟨x, hxx⟩ : ∃ x, x = ls[k] := ⟨_, rfl⟩
      rw [← hxx] at HE hx hml
      obtain ⟨-, b, off, u, rfl, hc, hS, hB⟩ := (unhide HL).at k x hx
      have Kr := (unhide HA).kp
      have hcw := Kr.cell hc (by simp)
      have hSw := hS.kept Kr (by simp)
      obtain ⟨ax, cx, hux, _⟩ := hS
      obtain ⟨nx, hnx⟩ : ∃ nx, nx = x.length := ⟨_, rfl⟩
      rw [← hnx] at hux
      subst hux
      obtain ⟨r, hr⟩ : ∃ r, r = tleafP x := ⟨_, rfl⟩
      rw [← hr] at HE
      have HRB : Hid (Bs r) := by rw [hr]; exact sha_bs _
      have HC := hide (rleaf_any _ x r hr wr hSw hB (by omega))
      clear hx hxx hkl hc hSw hB hnx hr Kr
      go_wp2_with fail
      refine (unhide HC).mono ?_
      rintro ee w4 ⟨a4, m4, c4, rfl, R4, K4⟩
      have HR4 := hide R4
      have HK4 := hide K4
      clear R4 K4 HC hcw
      go_wp2_with (at_builtin; refine wpList_acc rfl (.tmp 11) (.tmp 17) rfl _ _ rfl (unhide HA) (unhide HLN) _ r (unhide HK4) (unhide HR4) (unhide HRB) rfl ?_; intro ao5 m5 c5 w5 A5)
      go_roundw
      case rel => exact ⟨k + 1, m5, c5, ao5, by omega, rfl, by go_num, by have e := unhide HE; rw [e]; exact A5⟩
      case measure => simp [intOf]; omega
    · obtain rfl : k = N := by omega
      have e : (ls.take k).map tleafP = ls.map tleafP := by rw [unhide HN, List.take_length]
      rw [e] at HA
      clear e
      go_wp2_with fail
      go_ret
      exact ⟨ao, m, cc, rfl, unhide HA⟩
end Go.Proofs.YtillhpgdlmeajaaGreatDoor
