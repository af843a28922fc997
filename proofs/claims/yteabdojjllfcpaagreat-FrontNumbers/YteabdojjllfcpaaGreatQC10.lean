/-
  The contracts of the law package's helpers Roomy, Same and Intact at bytes over this seat's program.
-/
import Derived.Laws.CopyOwn
import Derived.ProofKit
import Derived.Test.YteabdojjllfcpaaGreatQC5
namespace Go.Proofs.YteabdojjllfcpaaGreat
open Go.RowKit
theorem Sl.spot {w : World} {ao : Option Addr} {n c : Nat} {bs : List Int} (h : Sl w (.slice ao n c) bs) (h0 : 0 < n) :
    ∃ b off, ao = some ⟨b, off, none⟩ ∧ n = bs.length ∧ ∀ k (hk : k < bs.length), w.cell? ⟨b, off + k, none⟩ = some (.int .u8 bs[k]) := by
  obtain ⟨ao', c', he, h1, h2, h3, h4⟩ := h
  injection he with e1 e2 e3
  subst e1 e2 e3
  cases ao with
  | none => have := h3 rfl; omega
  | some a =>
    obtain ⟨b, off, spot⟩ := a
    have hc := h4 _ rfl 0 (.int .u8 bs[0]) (by simp [List.getElem?_eq_getElem h0])
    have hspot : spot = none := by simpa [Addr.add] using World.cell?_spot hc
    subst hspot
    refine ⟨b, off, rfl, rfl, fun k hk => ?_⟩
    have := h4 _ rfl k (.int .u8 bs[k]) (by simp [List.getElem?_eq_getElem hk])
    rwa [Addr.add_lit] at this
end Go.Proofs.YteabdojjllfcpaaGreat
