/-
  The contract of the ledger's Add where there would be too many leaves.
-/
import Derived.Test.YtillhpgdlmeajaaGreatDoorKULaw
namespace Go.Proofs.YtillhpgdlmeajaaGreatDoor
open Go.RowKit
open Go.Proofs
set_option linter.unusedVariables false
section
variable {w0 w : World} {l pd pk : Nat} {S : LS} {f : Fps}
/-- there would be too many leaves. -/
theorem uadd_over (h : Lg w0 w l pd pk S f) (vi : Value) (li : List (Value × List Int)) (xs : List (List Int)) (hxs : li.map (·.2) = xs) (hL : Lists w vi li) (hl : ∀ x ∈ xs, x.length ≤ 65535) (hn : xs.length ≤ 1000) (h257 : 256 < (allU S.its xs).length) :
    Calls Tryz.prog 15 #[.pointer (some ⟨l, 0, none⟩), vi] w fun e w' => e = .returned (.tuple #[.slice none 0 0, .int .i64 3]) ∧ Kp [] w w' := by
  have HNu := hide (numbered_any h vi li xs hxs hL hl hn)
  have HH := hide h
  have hll := allU_len S.its xs
  obtain ⟨fr, hfr⟩ : ∃ fr, fr = newU S.its xs := ⟨_, rfl⟩
  rw [← hfr] at HNu hll
  obtain ⟨a, ha⟩ : ∃ a, a = S.its.length := ⟨_, rfl⟩
  obtain ⟨b, hb⟩ : ∃ b, b = fr.length := ⟨_, rfl⟩
  have hfew := h.few
  have hb1 : b ≤ 1000 := by rw [hb, hfr]; have := newU_le S.its xs; omega
  rw [← ha] at hfew
  have hab2 : (256 : Int) < (a : Int) + (b : Int) := by omega
  have hab3 : decide ((256 : Int) < (a : Int) + (b : Int)) = true := decide_eq_true hab2
  have hw : IntKind.i64.wrap ((a : Int) + (b : Int)) = (a : Int) + (b : Int) := by simp [IntKind.wrap, IntKind.signed, IntKind.bits]; omega
  have HA := hide ha
  have HBB := hide hb
  clear h hL hl hn hxs ha hb hfr hll h257
  go_enter Tryz.func15, Tryz.ntmps15
  go_wp2_with fail
  refine HNu.out.mono ?_
  rintro ee w1 ⟨ao, m, c, s2, rfl, R1, K1, F, Sh1, hF⟩
  have HR1 := hide R1
  have HK1 := hide K1
  have HSh := hide Sh1
  have HZ := hide (usize_any (HH.out.on K1) a (by rw [HA.out]))
  clear R1 K1 Sh1 hF HNu
  go_wp2_with fail
  refine HZ.out.mono ?_
  rintro ee w2 ⟨rfl, hw2⟩
  subst w2
  have HZ2 := hide (ssize_any HSh.out b (by rw [HBB.out]))
  clear HZ
  go_wp2_with fail
  refine HZ2.out.mono ?_
  rintro ee w2 ⟨rfl, hw2⟩
  subst w2
  clear HZ2
  go_wp2_with fail
  go_ret2
  exact ⟨rfl, HK1.out⟩
end
end Go.Proofs.YtillhpgdlmeajaaGreatDoor
