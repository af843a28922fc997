/-
  The laws of ledger: fresh, on, Same, two new disks and a ledger on them; Add and Publish while power lasts.
-/
import Derived.Test.YteabdojjllfcpaaGreatQC24
import Derived.Test.YteabdojjllfcpaaGreatQOFrontNumbers6
namespace Go.Proofs.YteabdojjllfcpaaGreat
open Go.RowKit
open Go.Proofs
set_option linter.unusedVariables false
theorem two_ok {w w1 w2 : World} {pd pk : Nat} {v1 v2 : Value} {d1 d2 : Dk} (N1 : Nw w w1 pd v1 d1) (N2 : Nw w1 w2 pk v2 d2) :
    (f2 w.heap.size w1.heap.size w2.heap.size).Ok w w2 ∧ Dx w w2 pd d1 ((f2 w.heap.size w1.heap.size w2.heap.size) 5) ∧ Dx w w2 pk d2 ((f2 w.heap.size w1.heap.size w2.heap.size) 6) := by
  have s1 := N1.kp.size
  have s2 := N2.kp.size
  have k0 := N1.kp.trans N2.kp
  refine ⟨⟨k0, fun a b i ha hb => ?_, fun a i ha => ?_⟩, ⟨v1, N1.on N2.kp, fun i hi => .inl ⟨rfl, N1.news i hi, N1.dk.lt i hi⟩⟩, ⟨v2, ⟨⟨N2.dk.here, owns_rebase N2.dk.row (fun k hk => Nat.le_trans s1 (N2.dk.row.own k hk)), N2.dk.fit, N2.dk.typ⟩, Nat.le_trans s1 N2.new, k0, N2.arm⟩, fun i hi => .inr ⟨rfl, N2.news i hi, N2.dk.lt i hi⟩⟩⟩
  · rcases ha with ⟨rfl, h⟩ | ⟨rfl, h⟩ <;> rcases hb with ⟨rfl, g⟩ | ⟨rfl, g⟩ <;> first | rfl | omega
  · rcases ha with ⟨rfl, h⟩ | ⟨rfl, h⟩ <;> omega
theorem uopen_fresh {w w1 w2 w3 : World} {pd pk : Nat} {v1 v2 vs : Value} {seed : List Int} (N1 : Nw w w1 pd v1 (dkOn [])) (N2 : Nw w1 w2 pk v2 (dkOn [])) (K3 : Kp [] w2 w3) (R3 : Row w3 w2.heap.size vs seed) (hB : Bs seed) (hl : seed.length = 32) :
    Calls Tryz.prog 9 #[.pointer (some ⟨pd, 0, none⟩), .pointer (some ⟨pk, 0, none⟩), vs] w3 fun e w' => ∃ l, e = .returned (.tuple #[.pointer (some ⟨l, 0, none⟩), .int .i64 0]) ∧ ∃ f', Lg w w' l pd pk (ls0 seed) f' := by
  obtain ⟨o, d, k⟩ := two_ok N1 N2
  have o3 := o.on K3
  refine (uopen_ok vs seed R3.sl hB hl (fun i hi ⟨a, ha⟩ => by have := (o.rng a i ha).2; have := R3.own i hi; omega) o3 (d.kept K3 o3.kp (by simp)) rfl (Int.le_refl 0) (k.kept K3 o3.kp (by simp)) rfl (Int.le_refl 0) rfl (Nat.zero_le _) (klay_opn 0) (klay_dk 0) rfl opnP_nil rfl (rs := []) (its := []) rfl (by simp) (by simp) (by simp [lenU]) (by simp)).mono ?_
  rintro e w' ⟨l, rfl, f', L, -⟩
  exact ⟨l, rfl, f', L⟩
section
variable {w0 w : World} {l pd pk : Nat} {S : LS} {f : Fps}
end
end Go.Proofs.YteabdojjllfcpaaGreat
