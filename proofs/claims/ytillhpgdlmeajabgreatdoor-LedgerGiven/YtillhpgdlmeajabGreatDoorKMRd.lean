/-
  The contracts of the reference reader's Bytes and End.
-/
import Derived.Test.YtillhpgdlmeajabGreatDoorKSRefReader
import Derived.Test.YtillhpgdlmeajabGreatDoorKMWire
namespace Go.Proofs.YtillhpgdlmeajabGreatDoor
open Go.RowKit
open Go.Proofs

end Go.Proofs.YtillhpgdlmeajabGreatDoor
