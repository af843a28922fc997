/-
  The contracts of the program's Tagged and Same.
-/
import Derived.Test.YtioflclfgkcpfaaKLs
import Derived.Test.YtioflclfgkcpfaaKHKnown
namespace Go.Proofs.Ytioflclfgkcpfaa
open Go.RowKit

theorem equal_any (v1 v2 : Value) (bs cs : List Int) (S T : ByteArray) (hs : S = strOfNums bs) (ht : T = strOfNums cs) (w : World) (h1 : Sl w v1 bs) (h2 : Sl w v2 cs) :
    Calls Try.prog 41 #[v1, v2] w fun e w' => e = .returned (.bool (S.toList == T.toList)) ∧ w' = w := by
  have c1 := h1.conv (P := Try.prog) 23 9 5 Try.underlying23 Try.underlying5 Try.underlying9
  have c2 := h2.conv (P := Try.prog) 23 9 5 Try.underlying23 Try.underlying5 Try.underlying9
  rw [← hs] at c1
  rw [← ht] at c2
  clear hs ht
  obtain ⟨a1, x1, rfl, _⟩ := h1
  obtain ⟨a2, x2, rfl, _⟩ := h2
  go_enter Try.func41, Try.ntmps41
  go_wp2_with fail
  go_ret
  exact ⟨rfl, rfl⟩
theorem samehash_any (v1 v2 : Value) (bs cs : List Int) (S T : ByteArray) (hs : S = strOfNums bs) (ht : T = strOfNums cs) (w : World) (h1 : Sl w v1 bs) (h2 : Sl w v2 cs) :
    Calls Try.prog 32 #[v1, v2] w fun e w' => e = .returned (.bool (S.toList == T.toList)) ∧ w' = w := by
  have HC := hide (equal_any v1 v2 bs cs S T hs ht w h1 h2)
  clear h1 h2 hs ht
  go_enter Try.func32, Try.ntmps32
  go_wp2_with (go_at_call 41; refine (unhide HC).mono ?_; rintro ee w2 ⟨rfl, hw⟩; subst w2)
  go_ret
  exact ⟨rfl, rfl⟩
end Go.Proofs.Ytioflclfgkcpfaa
