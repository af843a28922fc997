/-
  The contracts of the reference reader's Bytes and End.
-/
import Derived.Test.YtbkipibmaghejaaGreatDoorKSRefReader
import Derived.Test.YtbkipibmaghejaaGreatDoorKMWire
namespace Go.Proofs.YtbkipibmaghejaaGreatDoor
open Go.RowKit
open Go.Proofs

theorem rend_any (q : Nat) (v : Value) (i : Nat) (bad : Bool) (B : List Int) (w : World) (hR : RR w q v i bad B) :
    Calls Tryz.prog 40 #[.pointer (some ⟨q, 0, none⟩)] w fun e w' => e = .returned (.bool (!bad && (rest i bad B).isEmpty)) ∧ ∃ n, w' = w.drewN n := by
  obtain ⟨ao, c, rfl, h1, h2, h3, h4⟩ := hR.2.1
  obtain ⟨hc0, hc1, hc2⟩ := cell_of_three hR.1
  have hi := hR.2.2.2
  clear h4 h3 hR
  cases bad with
  | true =>
    go_enter Tryz.func40, Tryz.ntmps40
    go_wp2_with fail
    go_quiet (fail)
    go_wp2_with fail
    go_ret
    exact ⟨rfl, nq, rfl⟩
  | false =>
    have hE : (B.drop i).isEmpty = ((i : Int) == (B.length : Int)) := by
      rw [Bool.eq_iff_iff]; simp; omega
    have HE : Hid ((!false && (rest i false B).isEmpty) = ((i : Int) == (B.length : Int))) := hE
    rw [HE.out]
    clear hE HE
    go_enter Tryz.func40, Tryz.ntmps40
    go_wp2_with fail
    go_quiet (fail)
    go_wp2_with fail
    go_ret
    exact ⟨rfl, nq, rfl⟩
end Go.Proofs.YtbkipibmaghejaaGreatDoor
