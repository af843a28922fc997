/-
  The laws of ledger: fresh, on, Same, two new disks and a ledger on them; Add and Publish while power lasts.
-/
import Derived.Deep.LoopGhost
import Derived.Test.YteabdojjllfcpaaGreatQC23
namespace Go.Proofs.YteabdojjllfcpaaGreat
open Go.RowKit
open Go.Proofs
set_option linter.unusedVariables false
def IntsU (w : World) (v : Value) (l : List Int) : Prop := ∃ ao c, v = .slice ao l.length c ∧ l.length ≤ maxLen ∧ ∀ i (h : i < l.length), ∃ a, ao = some a ∧ w.cell? (a.add i) = some (.int .i64 l[i])
theorem IntsU.kept {w w' : World} {v : Value} {l : List Int} {S : List Nat} (h : IntsU w v l) (k : Kp S w w') (hv : ∀ i, v.ownBlock = some i → i ∉ S) : IntsU w' v l := by
  obtain ⟨ao, c, rfl, h1, h2⟩ := h
  refine ⟨ao, c, rfl, h1, fun i hi => ?_⟩
  obtain ⟨a, e, h3⟩ := h2 i hi
  subst e
  exact ⟨a, rfl, k.cell h3 (by rw [add_block]; exact hv a.block rfl)⟩
theorem RowI.ints {w : World} {base : Nat} {v : Value} {l : List Int} (h : RowI w base v l) (hl : l.length ≤ 1000000) : IntsU w v l := by
  rcases h.2 with ⟨rfl, h0⟩ | ⟨g, cap, cur, rfl, _⟩
  · have : l = [] := List.eq_nil_of_length_eq_zero h0
    subst this
    exact ⟨none, 0, rfl, by simp [maxLen], fun i hi => by cases hi⟩
  · refine ⟨some ⟨g, 0, none⟩, cap, rfl, by unfold maxLen; omega, fun i hi => ⟨_, rfl, ?_⟩⟩
    exact h.cells (g := g) rfl i _ (by simp [List.getElem?_eq_getElem hi])
theorem ints_block {w : World} {g : Nat} {l : List Int} {t : TypeId} {fr : Nat × Nat} (hg : w.heap[g]? = some (.cells (l.map (Value.int .i64)).toArray t fr)) (hl : l.length ≤ 1000) : IntsU w (.slice (some ⟨g, 0, none⟩) l.length l.length) l := by
  refine ⟨some ⟨g, 0, none⟩, l.length, rfl, by unfold maxLen; omega, fun i hi => ⟨_, rfl, ?_⟩⟩
  rw [Addr.add_lit, cell_of_row w g _ _ _ _ hg]
  simp [List.getElem?_eq_getElem hi]
set_option maxHeartbeats 1000000 in
theorem isame_any (va vb : Value) (l l' : List Int) (w : World) (ha : IntsU w va l) (hb : IntsU w vb l') (hl : l.length ≤ 1000000) (hl' : l'.length ≤ 1000000) :
    Calls Tryz.prog 50 #[va, vb] w fun e w' => e = .returned (.bool (decide (l = l'))) ∧ Kp [] w w' := by
  obtain ⟨ao, c, rfl, _, hA⟩ := ha
  obtain ⟨bo, c', rfl, _, hB⟩ := hb
  obtain ⟨n, hn⟩ : ∃ n, n = l.length := ⟨_, rfl⟩
  obtain ⟨n', hn'⟩ : ∃ n', n' = l'.length := ⟨_, rfl⟩
  rw [← hn] at hl ⊢
  rw [← hn'] at hl' ⊢
  have HN := hide hn
  have HN' := hide hn'
  have HA := hide hA
  have HB := hide hB
  clear hn hn' hA hB
  go_enter Tryz.func50, Tryz.ntmps50
  by_cases hnn : n = n'
  · subst hnn
    go_wp2
    go_loopg [5] n (fun kx s5 wr => ∃ i : Nat, s5 = .int .i64 i ∧ i ≤ n ∧ n - i ≤ kx ∧ Hid (Kp [] w wr) ∧ Hid (l.take i = l'.take i))
    case atStart => exact ⟨0, rfl, Nat.zero_le _, by omega, Kp.refl _ _, by show _ = _; simp⟩
    case round =>
      obtain ⟨i, rfl, hi, hkx, HK, HT⟩ := hrel
      by_cases hin : i < n
      · have hiz : (i : Int) < (n : Int) := by omega
        have hil : i < l.length := by rw [← HN.out]; exact hin
        have hil' : i < l'.length := by rw [← HN'.out]; exact hin
        obtain ⟨a, rfl, ca⟩ := HA.out i hil
        obtain ⟨b, rfl, cb⟩ := HB.out i hil'
        have ca' := HK.out.cell ca (by simp)
        have cb' := HK.out.cell cb (by simp)
        obtain ⟨x, hx⟩ : ∃ x, x = l[i] := ⟨_, rfl⟩
        obtain ⟨y, hy⟩ : ∃ y, y = l'[i] := ⟨_, rfl⟩
        rw [← hx] at ca'
        rw [← hy] at cb'
        have HX := hide hx
        have HY := hide hy
        clear hx hy ca cb
        go_wp2_with fail
        refine region_read Tryz.mixed (by kernel_rfl) ?_
        repeat (first | go_big_quiet_skip | (go_big_quiet_want; go_big_quiet_op; go_big_quiet_on))
        refine wpQuiet_nil ?_
        by_cases hxy : x = y
        · subst hxy
          go_wp2_with fail
          go_roundg (n - (i + 1))
          case measure => omega
          case rel =>
            refine ⟨i + 1, by go_num, by omega, Nat.le_refl _, HK.out.drew, ?_⟩
            show _ = _
            rw [List.take_add_one, List.take_add_one, HT.out, List.getElem?_eq_getElem hil, List.getElem?_eq_getElem hil', ← HX.out, ← HY.out]
        · have hne : (x != y) = true := by simpa using hxy
          go_wp2_with fail
          go_ret
          refine ⟨?_, HK.out.drew⟩
          have : ¬ l = l' := fun e => hxy (by rw [HX.out, HY.out]; simp [e])
          rw [decide_eq_false this]
          rfl
      · have hiz : ¬ (i : Int) < (n : Int) := by omega
        have he : l = l' := by
          have h1 := HT.out
          rwa [List.take_of_length_le (by rw [← HN.out]; omega), List.take_of_length_le (by rw [← HN'.out]; omega)] at h1
        have HE := hide he
        clear he
        go_wp2
        go_ret
        refine ⟨?_, HK.out⟩
        rw [decide_eq_true HE.out]
        rfl
  · have hne : ((n : Int) != (n' : Int)) = true := by simp; omega
    have he : ¬ l = l' := fun e => hnn (by rw [HN.out, HN'.out, e])
    have HE := hide he
    clear he
    go_wp2
    go_ret
    refine ⟨?_, Kp.refl _ _⟩
    rw [decide_eq_false HE.out]
    rfl
/-- What Within tells. -/
def wi (n lo hi : Int) : Int := if lo ≤ n ∧ n ≤ hi then n else if n.tmod (hi - lo + 1) < 0 then lo + (n.tmod (hi - lo + 1) + hi - lo + 1) else lo + n.tmod (hi - lo + 1)
/-- two disks, one made behind the other. -/
def f2 (a b c : Nat) : Fps := fun n i => (n = 5 ∧ a ≤ i ∧ i < b) ∨ (n = 6 ∧ b ≤ i ∧ i < c)
/-- a ledger that was just opened. -/
def ls0 (seed : List Int) : LS := ⟨[], 0, seed, none, dkOn [], dkOn [], 0, 0⟩
section
variable {w0 w : World} {l pd pk : Nat} {S : LS} {f : Fps}
end
end Go.Proofs.YteabdojjllfcpaaGreat
