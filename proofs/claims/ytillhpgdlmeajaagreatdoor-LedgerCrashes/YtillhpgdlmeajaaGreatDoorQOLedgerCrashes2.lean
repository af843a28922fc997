/-
  A string turned into bytes: it makes memory, and reads as the string's bytes; strings and the lists of their bytes.
-/
import Derived.Test.YtillhpgdlmeajaaGreatDoorQC7
namespace Go.Proofs.YtillhpgdlmeajaaGreatDoor
open Go.RowKit
theorem nums_bs (S : ByteArray) : Bs (nums S) := by
  intro b hb
  obtain ⟨x, _, rfl⟩ := List.mem_map.1 hb
  have := x.toNat_lt
  omega
end Go.Proofs.YtillhpgdlmeajaaGreatDoor
