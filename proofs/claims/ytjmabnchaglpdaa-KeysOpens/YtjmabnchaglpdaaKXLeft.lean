/-
  What is left of a reader: package wire's Left, and the reference's.
-/
import Derived.Test.YtjmabnchaglpdaaKSRefReader
import Derived.Test.YtjmabnchaglpdaaKSWire
namespace Go.Proofs.Ytjmabnchaglpdaa
open Go.RowKit
open Go.Proofs

theorem left_any (q : Nat) (v : Value) (bad : Bool) (bs : List Int) (w : World) (h : Rd w q v bad bs) :
    Calls Try.prog 41 #[.pointer (some ⟨q, 0, none⟩)] w fun e w' => e = .returned (.int .i64 bs.length) ∧ w' = w := by
  obtain ⟨ao, c, rfl, h1, h2, h3, h4⟩ := h.2.1
  have hc0 := (cell_of_two h.1).1
  clear h4 h3 h
  go_enter Try.func41, Try.ntmps41
  go_wp2
  go_ret
  exact ⟨rfl, rfl⟩
end Go.Proofs.Ytjmabnchaglpdaa
