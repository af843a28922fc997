/-
  A ledger in memory: its block, its shelf, its journal, its box, its seed, what it published last; how it is kept.
-/
import Derived.Test.YteabdojjllfcpaaGreatQC21
import Derived.Test.YteabdojjllfcpaaGreatQOFrontKeeps5
namespace Go.Proofs.YteabdojjllfcpaaGreat
open Go.RowKit
open Go.Proofs
set_option linter.unusedVariables false
section
variable {w0 w w' : World} {l pd pk j s q : Nat} {S : LS} {f : Fps} {vs pv : Value}
/-- the box takes a step. -/
theorem LgX.stepB {F' : Nat → Prop} {dk' : Dk} {mk' n' : Nat} (h : LgX w0 w l pd pk S f j s q vs pv) (t : Stp (f 6) w w' F') (g : Bf w0 w' pk dk' q n' mk' F') (hn : n' ≤ 16) : LgX w0 w' l pd pk { S with dk := dk', mb := mk', n := n' } (f.upd 6 F') j s q vs pv := by
  obtain ⟨T, hT, k⟩ := t.kp
  have o := h.ok.upd t
  have no : ∀ b, 6 ≠ b → ∀ i ∈ T, ¬ f b i := fun b hb => h.ok.apart hb hT
  refine ⟨o, h.at_.kept k (fun hm => no 1 (by decide) _ hm h.f1), ?_, h.sd.kept k (fun i hi hm => no 2 (by decide) i hm (h.f2 i hi)), ?_, ?_, ?_, ?_, ?_, h.sl, h.sb, h.few, hn⟩
  · rw [upd_ne (by decide)]; exact h.f1
  · rw [upd_ne (by decide)]; exact h.f2
  · rw [upd_ne (by decide)]; exact h.la.kept k (no 3 (by decide))
  · rw [upd_ne (by decide)]; exact h.sh.kept k (no 4 (by decide))
  · rw [upd_ne (by decide)]; exact h.jx.kept k o.kp (no 5 (by decide))
  · rw [upd_eq]; exact g
end
end Go.Proofs.YteabdojjllfcpaaGreat
