/-
  SHA-256 as a plain function of lists of numbers: what both the program and the reference come to.
-/
import Derived.Test.YtioflclfgkcpfaaDoorKHTurn
namespace Go.Proofs.YtioflclfgkcpfaaDoor
open Go.RowKit

def consts : List Int := [1116352408, 1899447441, 3049323471, 3921009573, 961987163, 1508970993, 2453635748, 2870763221, 3624381080, 310598401, 607225278, 1426881987, 1925078388, 2162078206, 2614888103, 3248222580, 3835390401, 4022224774, 264347078, 604807628, 770255983, 1249150122, 1555081692, 1996064986, 2554220882, 2821834349, 2952996808, 3210313671, 3336571891, 3584528711, 113926993, 338241895, 666307205, 773529912, 1294757372, 1396182291, 1695183700, 1986661051, 2177026350, 2456956037, 2730485921, 2820302411, 3259730800, 3345764771, 3516065817, 3600352804, 4094571909, 275423344, 430227734, 506948616, 659060556, 883997877, 958139571, 1322822218, 1537002063, 1747873779, 1955562222, 2024104815, 2227730452, 2361852424, 2428436474, 2756734187, 3204031479, 3329325298]
def begin8 : List Int := [1779033703, 3144134277, 1013904242, 2773480762, 1359893119, 2600822924, 528734635, 1541459225]
/-- A sum of words. -/
def ad (x y : Int) : Int := (x + y) % 4294967296
/-- The word that four bytes make. -/
def wd (a b c d : Int) : Int := bits .or .u32 (bits .or .u32 (bits .or .u32 (a * 16777216) (b * 65536)) (c * 256)) d
def wordAt (bs : List Int) (i : Nat) : Int := wd (bs.getD (4 * i) 0) (bs.getD (4 * i + 1) 0) (bs.getD (4 * i + 2) 0) (bs.getD (4 * i + 3) 0)
def nextW (l : List Int) (i : Nat) : Int := ad (ad (ad (sS1 (l.getD (i - 2) 0)) (l.getD (i - 7) 0)) (sS0 (l.getD (i - 15) 0))) (l.getD (i - 16) 0)
/-- The first n words of a block's schedule. -/
def sch (bs : List Int) : Nat → List Int
  | 0 => []
  | n + 1 => sch bs n ++ [if n < 16 then wordAt bs n else nextW (sch bs n) n]
/-- One round. -/
def rnd (s : List Int) (k w : Int) : List Int :=
  match s with
  | [a, b, c, d, e, f, g, h] => [ad (ad (ad (ad (ad h (bS1 e)) (chs e f g)) k) w) (ad (bS0 a) (maj a b c)), a, b, c, ad d (ad (ad (ad (ad h (bS1 e)) (chs e f g)) k) w), e, f, g]
  | l => l
def rds (ws s : List Int) : Nat → List Int
  | 0 => s
  | n + 1 => rnd (rds ws s n) (consts.getD n 0) (ws.getD n 0)
/-- One block. -/
def blk (s bs : List Int) : List Int := List.zipWith ad (rds (sch bs 64) s 64) s
def blks : Nat → List Int → List Int → List Int
  | 0, s, _ => s
  | n + 1, s, bs => blk (blks n s bs) ((bs.drop (64 * n)).take 64)
def zeros (n : Nat) : Nat := (119 - n % 64) % 64
def be8 (n : Int) : List Int := [n / 72057594037927936 % 256, n / 281474976710656 % 256, n / 1099511627776 % 256, n / 4294967296 % 256, n / 16777216 % 256, n / 65536 % 256, n / 256 % 256, n % 256]
def pad (rest : List Int) (n : Nat) : List Int := rest ++ [128] ++ List.replicate (zeros rest.length) 0 ++ be8 (n * 8)
def lay8 (s : List Int) : List Int := s.flatMap fun x => [x / 16777216 % 256, x / 65536 % 256, x / 256 % 256, x % 256]
def fin8 (s rest : List Int) (n : Nat) : List Int := lay8 (blks ((pad rest n).length / 64) s (pad rest n))
def sha (bs : List Int) : List Int := fin8 (blks (bs.length / 64) begin8 bs) (bs.drop (bs.length / 64 * 64)) bs.length
set_option maxRecDepth 100000 in
theorem sha_abc : sha [97, 98, 99] = [186, 120, 22, 191, 143, 1, 207, 234, 65, 65, 64, 222, 93, 174, 34, 35, 176, 3, 97, 163, 150, 23, 122, 156, 180, 16, 255, 97, 242, 0, 21, 173] := by decide +kernel
set_option maxRecDepth 100000 in
theorem sha_nil : sha [] = [227, 176, 196, 66, 152, 252, 28, 20, 154, 251, 244, 200, 153, 111, 185, 36, 39, 174, 65, 228, 100, 155, 147, 76, 164, 149, 153, 27, 120, 82, 184, 85] := by decide +kernel
end Go.Proofs.YtioflclfgkcpfaaDoor
