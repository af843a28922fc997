/-
  Slices of slices of bytes: how they are read.
-/
import Derived.Test.YtfepkcjelecpkaaQC6
import Derived.Test.YtfepkcjelecpkaaQOBatchOrders2
namespace Go.Proofs.Ytfepkcjelecpkaa
open Go.RowKit
theorem lists_nil (w : World) (ao : Option Addr) (c : Nat) : Lists w (.slice ao 0 c) [] := ⟨ao, c, rfl, by simp, fun i hi => by cases hi⟩
end Go.Proofs.Ytfepkcjelecpkaa
