/-
  Chapter 6 as plain functions: where a row of leaves is parted, leaves, nodes, the root.
-/
import Derived.Lib.BitFns
import Derived.Test.YteabdojjllfcpaaGreatQC13
namespace Go.Proofs.YteabdojjllfcpaaGreat
/-- the greatest power of two below n; 0 of n below 2. -/
def tsplP (n : Nat) : Nat := if n < 2 then 0 else 2 ^ (n - 1).log2
def tleafP (b : List Int) : List Int := sha (0 :: b)
def tnodeP (a b : List Int) : List Int := sha (1 :: (a ++ b))
/-- the root of leaves, fewer than f. -/
def trootF : Nat → List (List Int) → List Int
  | 0, _ => sha []
  | f + 1, ls =>
    if 2 ≤ ls.length then tnodeP (trootF f (ls.take (tsplP ls.length))) (trootF f (ls.drop (tsplP ls.length)))
    else match ls with
      | [] => sha []
      | x :: _ => x
/-- the root of leaves. -/
def trootP (ls : List (List Int)) : List Int := trootF (ls.length + 1) ls
end Go.Proofs.YteabdojjllfcpaaGreat
