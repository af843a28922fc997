/-
  A string turned into bytes: it makes memory, and reads as the string's bytes; strings and the lists of their bytes.
-/
import Derived.Deep.RegionLaw
import Derived.Lib.ConvBytes
import Derived.Test.YtfepkcjelecpkaaQC4
namespace Go.Proofs.Ytfepkcjelecpkaa
open Go.RowKit
def nums (S : ByteArray) : List Int := S.data.toList.map fun b => (b.toNat : Int)
theorem u8_of (x : Int) (h0 : 0 ≤ x) (h1 : x ≤ 255) : (((UInt8.ofNat x.toNat).toNat : Nat) : Int) = x := by
  rw [UInt8.toNat_ofNat']
  omega
theorem nums_str (bs : List Int) (h : Bs bs) : nums (strOfNums bs) = bs := by
  unfold nums strOfNums
  simp only [List.map_map]
  conv => rhs; rw [← List.map_id bs]
  refine List.map_congr_left (fun x hx => ?_)
  have := h x hx
  simp only [Function.comp, id]
  exact u8_of x this.1 this.2
/-- two strings are one just if their bytes are. -/
theorem str_same {a b : List Int} (ha : Bs a) (hb : Bs b) (h : strOfNums a = strOfNums b) : a = b := by
  rw [← nums_str a ha, ← nums_str b hb, h]
end Go.Proofs.Ytfepkcjelecpkaa
