/-
  What an operation yields that is looked for only where a test is true.
-/
import Derived.Test.YtioflclfgkcpfaaKRGrows
namespace Go.Proofs.Ytioflclfgkcpfaa
open Go.RowKit
def IfT (b : Bool) (R : Tell) : Tell := fun v w => b = true → R v w
theorem stable_ift {b : Bool} {R : Tell} (h : Tell.stable R) : Tell.stable (IfT b R) := fun v w w' k hR hb => h v w w' k (hR hb)
theorem grown_mono {P : Program} {w : World} {R R' : Tell} {x : Result Next} (h : grown P w R x) (hR : ∀ v w', R v w' → R' v w') : grown P w R' x := by
  unfold grown at h ⊢
  split at h
  · exact ⟨h.1, hR _ _ h.2⟩
  · exact ⟨h.1, hR _ _ h.2⟩
  · exact h.mono fun e w'' ⟨v, h1, h2, h3⟩ => ⟨v, h1, h2, hR _ _ h3⟩
  · exact h.elim
theorem wants_ift {P : Program} {ops : Array Oper} {o : Oper} {a : Act} {w : World} {R : Tell} {g : Nat} {b : Bool} {d : Tmp} (hg : o.guard = some (g, true)) (hd : (ops[g]?).bind (·.dst) = some d) (he : a.eval (.tmp d) = .bool b) (h : b = true → grown P w R ((execOp a.eval o).run P w)) : wants P ops o a w (IfT b R) := by
  cases b
  · exact wants_not (d := d) hg hd he (fun h => by cases h)
  · exact wants_guard (d := d) hg hd he (grown_mono (h rfl) (fun v w' hR _ => hR))
end Go.Proofs.Ytioflclfgkcpfaa
