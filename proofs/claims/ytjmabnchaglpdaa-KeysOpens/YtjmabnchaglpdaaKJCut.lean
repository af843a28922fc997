/-
  What the ways through an 'if' want to meet again.
-/
import Derived.Test.YtjmabnchaglpdaaKJDuo
import Derived.Deep.Cut
import Derived.Deep.CutRange
namespace Go.Proofs.Ytjmabnchaglpdaa
theorem jcut_nil : True := trivial
end Go.Proofs.Ytjmabnchaglpdaa
