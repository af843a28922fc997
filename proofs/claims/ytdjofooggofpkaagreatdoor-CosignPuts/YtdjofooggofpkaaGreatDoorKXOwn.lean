/-
  A slice of bytes that is handed in lies in a block that is there.
-/
import Derived.Test.YtdjofooggofpkaaGreatDoorKHSmalls
namespace Go.Proofs.YtdjofooggofpkaaGreatDoor
open Go.ChangeShapes Go.WideShapes Go.ChangeAt Go.RowKit
set_option maxRecDepth 100000 in
theorem own_lt {w : World} {base : Nat} {a : Option Addr} {len cap : Nat} (hv : Value.okWide Tryz.prog w .any base 27 (.slice a len cap)) : ∀ k, (Value.slice a len cap).ownBlock = some k → k < w.heap.size := by
  intro k hk
  cases a with
  | none => cases hk
  | some ad =>
    cases hk
    simp only [Value.okWide, Tryz.underlying27, Cell.okWide, Cell.ok, World.has] at hv
    obtain ⟨_, _, _, _, row, cells, hs, _⟩ := hv
    rcases Nat.lt_or_ge ad.block w.heap.size with h | h
    · exact h
    · exfalso
      simp [World.shape?, Array.getElem?_eq_none h] at hs
end Go.Proofs.YtdjofooggofpkaaGreatDoor
