/-
  AgendaPlays: whatever is asked of an agenda, it answers as the plain list does.
-/
import Derived.Test.YtlmbheobaiibeaaPlWalk
namespace Go.Proofs.Ytlmbheobaiibeaa
open Go.RowKit

theorem plays_walk (v0 : Value) (l : List (Int × Int × Int)) (w : World) (h0 : Asks3 w v0 l) : Calls Try.prog 4 #[v0] w fun e w' => e = .returned (.bool true) ∧ Kp [] w w' := by
  have hp := play_any v0 l w h0
  obtain ⟨ao, c, rfl, _⟩ := h0
  go_enter Try.func4, Try.ntmps4
  go_wp2_with (first
    | (go_at_call 9; refine hp.mono ?_; rintro e w1 ⟨rfl, k1⟩; clear hp; have hkn := known_any w1)
    | (go_at_call 10; refine hkn.mono ?_; rintro e w2 ⟨rfl, k2⟩; clear hkn))
  go_ret
  exact ⟨rfl, k1.trans k2⟩
end Go.Proofs.Ytlmbheobaiibeaa
