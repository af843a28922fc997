/-
  The contract of the reference's block: one block of 64 bytes.
-/
import Derived.Test.YtjmabnchaglpdaaKHMixs
import Derived.Test.YtjmabnchaglpdaaKHSums
import Derived.Deep.RegionHeld3
import Derived.Test.YtjmabnchaglpdaaKHTags
import Derived.Test.YtjmabnchaglpdaaKOSmalls
namespace Go.Proofs.Ytjmabnchaglpdaa
open Go.RowKit

theorem ad_comm (x y : Int) : ad x y = ad y x := by unfold ad; rw [Int.add_comm]
theorem next_ref (x0 x1 x2 x3 : Int) : (x3 + bits .xor .u32 (bits .xor .u32 (rot x2 7) (rot x2 18)) (x2 / 8) + x1 + bits .xor .u32 (bits .xor .u32 (rot x0 17) (rot x0 19)) (x0 / 1024)) % 4294967296 = ad (ad (ad (sS1 x0) x1) (sS0 x2)) x3 := by
  rw [ad4]
  show (x3 + sS0 x2 + x1 + sS1 x0) % 4294967296 = _
  congr 1
  omega
theorem blk_ref (h bs : List Int) : List.zipWith ad h (rds (sch bs 64) h 64) = blk h bs := by
  unfold blk
  rw [List.zipWith_comm]
  congr 1
  funext x y
  exact ad_comm y x

theorem rnd_raw (a b c d e f g h k w : Int) : rnd [a, b, c, d, e, f, g, h] k w = [((h + bits .xor .u32 (bits .xor .u32 (rot e 6) (rot e 11)) (rot e 25) + bits .xor .u32 (bits .and .u32 e f) (bits .and .u32 (bits .xor .u32 IntKind.u32.max e) g) + k + w) % 4294967296 + (bits .xor .u32 (bits .xor .u32 (rot a 2) (rot a 13)) (rot a 22) + bits .xor .u32 (bits .xor .u32 (bits .and .u32 a b) (bits .and .u32 a c)) (bits .and .u32 b c)) % 4294967296) % 4294967296, a, b, c, (d + (h + bits .xor .u32 (bits .xor .u32 (rot e 6) (rot e 11)) (rot e 25) + bits .xor .u32 (bits .and .u32 e f) (bits .and .u32 (bits .xor .u32 IntKind.u32.max e) g) + k + w) % 4294967296) % 4294967296, e, f, g] := by
  rw [rnd_eq]
  simp only [bS0, bS1, chs, maj]
theorem rnd_raw2 (a b c d e f g h k w : Int) : rnd [a, b, c, d, e, f, g, h] k w = [(h + bits .xor .u32 (bits .xor .u32 (rot e 6) (rot e 11)) (rot e 25) + bits .xor .u32 (bits .and .u32 e f) (bits .and .u32 (bits .xor .u32 IntKind.u32.max e) g) + k + w + (bits .xor .u32 (bits .xor .u32 (rot a 2) (rot a 13)) (rot a 22) + bits .xor .u32 (bits .xor .u32 (bits .and .u32 a b) (bits .and .u32 a c)) (bits .and .u32 b c))) % 4294967296, a, b, c, (d + (h + bits .xor .u32 (bits .xor .u32 (rot e 6) (rot e 11)) (rot e 25) + bits .xor .u32 (bits .and .u32 e f) (bits .and .u32 (bits .xor .u32 IntKind.u32.max e) g) + k + w)) % 4294967296, e, f, g] := by
  rw [rnd_raw]
  simp only [List.cons.injEq, and_true, true_and]
  constructor <;> omega
end Go.Proofs.Ytjmabnchaglpdaa

/-
  The contracts of the reference's constants and Sum.
-/
namespace Go.Proofs.Ytjmabnchaglpdaa
open Go.RowKit

/-- What is left of a text behind k blocks. -/
theorem blks_succ (k : Nat) (s bs : List Int) : blks (k + 1) s bs = blk (blks k s bs) ((bs.drop (64 * k)).take 64) := rfl

end Go.Proofs.Ytjmabnchaglpdaa

/-
  The contracts of the reference's Tagged and of the law package's hex.
-/
namespace Go.Proofs.Ytjmabnchaglpdaa
open Go.RowKit

end Go.Proofs.Ytjmabnchaglpdaa

/-
  The contract of the reference's Digest.
-/
namespace Go.Proofs.Ytjmabnchaglpdaa
open Go.RowKit

end Go.Proofs.Ytjmabnchaglpdaa
