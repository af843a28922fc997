/-
  The contracts of package wire's Byte of a writer and of a reader.
-/
import Derived.Test.YtillhpgdlmeajabGreatDoorKLSmalls
import Derived.Test.YtillhpgdlmeajabGreatDoorKSWire
namespace Go.Proofs.YtillhpgdlmeajabGreatDoor
open Go.RowKit
open Go.Proofs

end Go.Proofs.YtillhpgdlmeajabGreatDoor
