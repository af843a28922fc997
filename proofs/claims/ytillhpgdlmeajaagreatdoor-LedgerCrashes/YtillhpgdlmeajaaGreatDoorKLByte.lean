/-
  The contracts of package wire's Byte of a writer and of a reader.
-/
import Derived.Test.YtillhpgdlmeajaaGreatDoorKLSmalls
import Derived.Test.YtillhpgdlmeajaaGreatDoorKSWire
namespace Go.Proofs.YtillhpgdlmeajaaGreatDoor
open Go.RowKit
open Go.Proofs

end Go.Proofs.YtillhpgdlmeajaaGreatDoor
