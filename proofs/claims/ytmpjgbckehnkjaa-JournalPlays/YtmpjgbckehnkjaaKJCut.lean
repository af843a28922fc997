/-
  What the ways through an 'if' want to meet again.
-/
import Derived.Test.YtmpjgbckehnkjaaKJDuo
import Derived.Deep.Cut
import Derived.Deep.CutRange
namespace Go.Proofs.Ytmpjgbckehnkjaa
theorem jcut_nil : True := trivial
end Go.Proofs.Ytmpjgbckehnkjaa
