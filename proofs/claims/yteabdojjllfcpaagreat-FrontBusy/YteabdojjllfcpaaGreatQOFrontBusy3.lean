/-
  The contracts of package wire's reader for every call, by one plain function of what is left: Raw, Byte, Num, Bytes, Left; and of the helpers Cut and Within.
-/
import Derived.Test.YteabdojjllfcpaaGreatQC14
import Derived.Test.YteabdojjllfcpaaGreatQOFrontBusy1
namespace Go.Proofs.YteabdojjllfcpaaGreat
open Go.RowKit
/-- a bad reader has nothing left. -/
def St (s : Bool × List Int) : Prop := s.1 = true → s.2 = []
end Go.Proofs.YteabdojjllfcpaaGreat

/-
  The contracts of package disk's small functions: count, told, keep, New, Size, Synced, Down, Arm, Grow, Bytes.
-/
namespace Go.Proofs.YteabdojjllfcpaaGreat
open Go.RowKit
open Go.Proofs
theorem Dk.Fit.grows {d : Dk} (h : d.Fit) (n : Int) : (d.grow n).2.Fit := by
  have := Dk.grow_ok h.ok n
  unfold Dk.grow at *
  split
  · rename_i hd
    rw [if_pos hd] at this
    exact ⟨this, h.lo, h.hi, h.dn, h.bytes⟩
  · exact h
set_option maxHeartbeats 1000000 in
theorem grow_any (p : Nat) (v : Value) (d : Dk) (n : Int) (base : Nat) (w : World) (h : DskP w base p v d) :
    Calls Tryz.prog 30 #[.pointer (some ⟨p, 0, none⟩), .int .i64 n] w fun e w' => e = .returned (.bool (d.grow n).1) ∧ DskP w' base p v (d.grow n).2 ∧ DSt p w v w' v := by
  have hc0 := h.here.c0
  have hc2 := h.here.c2
  have f2 := h.here.f 2
  have hft := h.fit.grows n
  obtain ⟨ao, c, rfl⟩ := h.shape
  obtain ⟨k, hk⟩ : ∃ k, k = d.bs.length := ⟨_, rfl⟩
  rw [← hk] at hc0 h ⊢
  by_cases hg : (k : Int) ≤ n ∧ n ≤ 1048576
  · have e : d.grow n = (true, { d with lim := n }) := by unfold Dk.grow; rw [if_pos (by omega)]
    obtain ⟨g1, g2⟩ := hg
    rw [e] at hft ⊢
    have FIN : Hid (DskP (w.setCell ⟨p, 2, none⟩ (.int .i64 n)) base p (.slice ao k c) { d with lim := n }) := h.poke (kp_set w p 2 _) (h.here.s2 _) rfl hft
    have g1' : ¬ n < (k : Int) := by omega
    have g2' : ¬ 1048576 < n := by omega
    clear h hft hk e
    go_enter Tryz.func30, Tryz.ntmps30
    go_wp2_with fail
    go_ret
    exact ⟨rfl, FIN.out, DSt.one _ (kp_set _ _ _ _)⟩
  · have e : d.grow n = (false, d) := by unfold Dk.grow; rw [if_neg (by omega)]
    rw [e] at hft ⊢
    have FIN := hide h
    by_cases g1 : n < (k : Int)
    · clear h hft hk e
      go_enter Tryz.func30, Tryz.ntmps30
      go_wp2_with fail
      go_ret
      exact ⟨rfl, FIN.out, DSt.refl _ _ _⟩
    · have g2' : 1048576 < n := by omega
      clear h hft hk e
      go_enter Tryz.func30, Tryz.ntmps30
      go_wp2_with fail
      go_ret
      exact ⟨rfl, FIN.out, DSt.refl _ _ _⟩
end Go.Proofs.YteabdojjllfcpaaGreat

/-
  A new disk and its steps, as the law package takes them; Cut of the law package by its value; known.
-/
namespace Go.Proofs.YteabdojjllfcpaaGreat
open Go.RowKit
open Go.Proofs
namespace Dk
theorem grow_arm {d : Dk} (h0 : 0 ≤ d.arm) (n : Int) : 0 ≤ (d.grow n).2.arm := by
  unfold grow
  split <;> exact h0
end Dk
section
variable {w0 w w' : World} {p : Nat} {v v' : Value} {d d' : Dk}
theorem nw_grow (h : Nw w0 w p v d) (n : Int) (er : Bool) (he : d.grow n = (er, d')) : Calls Tryz.prog 30 #[.pointer (some ⟨p, 0, none⟩), .int .i64 n] w fun e w' => e = .returned (.bool er) ∧ Nw w0 w' p v d' ∧ DSt p w v w' v := by
  refine (grow_any p v d n w0.heap.size w h.dk).mono ?_
  rintro e w' ⟨rfl, D, T⟩
  have ha := Dk.grow_arm h.arm n
  rw [he] at D ha
  exact ⟨by rw [he], h.step D T ha, T⟩
end
end Go.Proofs.YteabdojjllfcpaaGreat
