/-
  Rows of bytes that a call owns; append from whatever slice onto such a row.
-/
import Derived.Test.YtfepkcjelecpkaaQC4
import Derived.Test.YtfepkcjelecpkaaQOBatchOrders1
namespace Go.Proofs.Ytfepkcjelecpkaa
open Go.RowKit
theorem Row.sl {w : World} {base : Nat} {v : Value} {bs : List Int} (h : Row w base v bs) : Sl w v bs := Sl.of_owns h
end Go.Proofs.Ytfepkcjelecpkaa
