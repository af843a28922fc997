/-
  The statements' own do: a call of both disks; both tell the same.
-/
import Derived.Test.YtmpjgbckehnkjaaKDDuo
import Derived.Deep.CutRange
import Derived.Deep.CutBlock
namespace Go.Proofs.Ytmpjgbckehnkjaa
open Go.RowKit
open Go.Proofs

end Go.Proofs.Ytmpjgbckehnkjaa
