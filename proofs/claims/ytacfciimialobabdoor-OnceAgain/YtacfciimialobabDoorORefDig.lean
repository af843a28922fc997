/-
  The contract of the reference's Digest.
-/
import Derived.Test.YtacfciimialobabDoorODigest
import Derived.Test.YtacfciimialobabDoorHRefTag
namespace Go.Proofs.YtacfciimialobabDoor
open Go.RowKit

end Go.Proofs.YtacfciimialobabDoor
