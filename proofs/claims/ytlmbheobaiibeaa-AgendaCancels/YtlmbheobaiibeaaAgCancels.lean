/-
  AgendaCancels: what is cancelled is not told any more, what is not is, in its order.
-/
import Derived.Test.YtlmbheobaiibeaaAgTwo
namespace Go.Proofs.Ytlmbheobaiibeaa
open Go.RowKit Go.Sort Go.Lib

theorem ints_at' {w : World} {v : Value} {l : List Int} (h : IntsA w v l) : ∃ ao c, v = .slice ao l.length c ∧ ∀ i, i < l.length → ∃ a, ao = some a ∧ w.cell? (a.add i) = some (.int .i64 (l.getD i 0)) := by
  obtain ⟨ao, c, rfl, _, h2⟩ := h
  refine ⟨ao, c, rfl, fun i hi => ?_⟩
  obtain ⟨a, e, hc⟩ := h2 i hi
  exact ⟨a, e, by rw [hc]; simp [hi]⟩

/-- What both agendas are in a round of AgendaCancels. -/
def CanI (w wr : World) (pa pb : Nat) (k : Int) (i q : Nat) : Prop :=
  ∃ va ma vb mb, Two w wr pa va ma i pb vb mb q ∧ ma.length = i ∧ mb.length = q ∧ (ma.filter (keepW k)).map pr = mb.map pr

set_option maxHeartbeats 4000000 in
set_option maxRecDepth 100000 in
theorem cancels_walk (vt : Value) (ts : List Int) (what : Int) (w : World) (ht : IntsA w vt ts) :
    Calls Try.prog 6 #[vt, .int .i64 what] w fun e w' => e = .returned (.bool true) ∧ Kp [] w w' := by
  obtain ⟨ao, c, rfl, hcell⟩ := ints_at' ht
  obtain ⟨n0, hn0⟩ : ∃ n0, n0 = ts.length := ⟨_, rfl⟩
  have CELL : Hid (∀ w', Kp [] w w' → ∀ i : Nat, i < n0 → ∃ a, ao = some a ∧ w'.cell? (a.add i) = some (.int .i64 (ts.getD i 0))) := fun w' k i hi => by
    obtain ⟨a, e, hc⟩ := hcell i (by omega)
    exact ⟨a, e, k.cell hc (by simp)⟩
  rw [← hn0]
  clear hcell ht hn0
  have hN := new_ag w
  have hwk := fun w => within_any what 0 5 w (by omega) (by omega) (by omega)
  generalize wi what 0 5 = k at hwk
  go_enter Try.func6, Try.ntmps6
  go_wp2_with (first
    | (go_at_call 11; refine hN.mono ?_; rintro e w1 ⟨pa, rfl, A1, hpa, k1⟩; clear hN; have hN2 := new_ag w1)
    | (go_at_call 11; refine hN2.mono ?_; rintro e w2 ⟨pb, rfl, B1, hpb, k2⟩; clear hN2)
    | (go_at_call 13; refine (hwk _).mono ?_; rintro e w' ⟨rfl, hw⟩; subst w'; clear hwk))
  have INV : Hid (CanI w w2 pa pb k 0 0) := ⟨_, _, _, _, two_new A1 hpa k1 B1 hpb k2, rfl, rfl, rfl⟩
  clear A1 hpa k1 B1 hpb k2
  go_loopg [8, 9] 60 (fun kx s8 s9 wr => ∃ i q g : Nat, s8 = .int .i64 (g : Nat) ∧ s9 = .int .i64 i ∧ q + g = i ∧ i ≤ 60 ∧ i ≤ n0 ∧ 60 - i ≤ kx ∧ Hid (CanI w wr pa pb k i q))
  case atStart => exact ⟨0, 0, 0, rfl, rfl, rfl, by omega, Nat.zero_le _, by omega, INV⟩
  case round =>
    clear INV
    obtain ⟨i, q, g, rfl, rfl, hqi, hi, hin, hkx, HI⟩ := hrel
    obtain ⟨va, ma, vb, mb, TW, la, lb, PR⟩ := HI.out
    clear HI
    by_cases hgo : i < n0 ∧ i < 60
    · have hiz : (i : Int) < (n0 : Int) := by omega
      have hi4 : (i : Int) < 60 := by omega
      obtain ⟨a, rfl, hc⟩ := CELL.out wr TW.kp i hgo.1
      obtain ⟨x, hx⟩ : ∃ x, x = ts.getD i 0 := ⟨_, rfl⟩
      rw [← hx] at hc
      clear hx
      have hwt := fun w => within_any x 0 1073741824 w (by omega) (by omega) (by omega)
      have hwi := wi_ge x 0 1073741824 (by omega)
      generalize wi x 0 1073741824 = X at hwt hwi
      have hadd := add_ag pa va ma i (X / 6 % 9) (X % 6) wr TW.a (by omega)
      have HL := hide (And.intro la lb)
      have HPR := hide PR
      have HTW := hide TW
      have HQ := hide hqi
      clear la lb PR hqi
      by_cases hYk : X % 6 = k
      · have hne : ((X % 6) != k) = false := by simp [hYk]
        have HYK := hide hYk
        have hg60 : g ≤ 60 := by have := HQ.out; omega
        clear hYk
        go_wp2_with (first
          | (go_at_call 13; refine (hwt _).mono ?_; rintro e w' ⟨rfl, hw⟩; subst w')
          | (go_at_call 12; refine hadd.mono ?_; rintro e w3 ⟨rfl, va', A3, T3⟩; clear hadd))
        go_roundg (60 - (i + 1))
        case measure => omega
        case rel =>
          refine ⟨i + 1, q, g + 1, by go_num, by go_num, by have := HQ.out; omega, by omega, by omega, Nat.le_refl _, va', _, vb, mb, HTW.out.stepA A3 T3, ?_, HL.out.2, ?_⟩
          · rw [(insE_perm ma _).length_eq]; simp [HL.out.1]
          · rw [insE_filter HTW.out.a.srt, if_neg (by simp [keepW, HYK.out])]
            exact HPR.out
      · have hne : ((X % 6) != k) = true := by simpa using hYk
        have HYK := hide hYk
        have hq60 : q ≤ 60 := by have := HQ.out; omega
        clear hYk
        go_wp2_with (first
          | (go_at_call 13; refine (hwt _).mono ?_; rintro e w' ⟨rfl, hw⟩; subst w')
          | (go_at_call 12; refine hadd.mono ?_; rintro e w3 ⟨rfl, va', A3, T3⟩; clear hadd; have TW3 := HTW.out.stepA A3 T3; have haddb := add_ag pb vb mb q (X / 6 % 9) (X % 6) w3 TW3.b (by omega))
          | (go_at_call 12; refine haddb.mono ?_; rintro e w4 ⟨rfl, vb', B4, T4⟩; clear haddb))
        go_roundg (60 - (i + 1))
        case measure => omega
        case rel =>
          refine ⟨i + 1, q + 1, g, rfl, by go_num, by have := HQ.out; omega, by omega, by omega, Nat.le_refl _, va', _, vb', _, TW3.stepB B4 T4, ?_, ?_, ?_⟩
          · rw [(insE_perm ma _).length_eq]; simp [HL.out.1]
          · rw [(insE_perm mb _).length_eq]; simp [HL.out.2]
          · rw [insE_filter HTW.out.a.srt, if_pos (by simpa [keepW] using HYK.out), insE_pr (fun x hx => HTW.out.a.num x (List.mem_filter.1 hx).1), insE_pr (fun x hx => HTW.out.b.num x hx), HPR.out]
            rfl
    · have hex : (¬ (i : Int) < (n0 : Int)) ∨ ((i : Int) < (n0 : Int) ∧ ¬ (i : Int) < 60) := by omega
      have hfl : (ma.filter (keepW k)).length = q := by rw [pr_len, PR, ← pr_len, lb]
      have hff : (ma.filter (keepW k)).filter (keepW k) = ma.filter (keepW k) := by simp
      have hwh : (ma.filter (keepW k)).map En.what = mb.map En.what := by rw [pr_what, PR, ← pr_what]
      have hca := cancel_ag pa va ma i k wr TW.a (by omega)
      rw [la, hfl, show ((i : Int) - (q : Int)) = (g : Int) by omega] at hca
      have CA2 : Hid (∀ w' v', Ag w' pa v' (ma.filter (keepW k)) i → Calls Try.prog 17 #[.pointer (some ⟨pa, 0, none⟩), .int .i64 k] w' fun e w'' => e = .returned (.int .i64 0) ∧ ∃ v'', Ag w'' pa v'' (ma.filter (keepW k)) i ∧ Ste pa w' v' w'' v'') := fun w' v' h => by
        have := cancel_ag pa v' _ i k w' h (by omega)
        rw [hff, Int.sub_self] at this
        exact this
      have HTW := hide TW
      have WH := hide hwh
      have FL := hide (And.intro hfl lb)
      clear hwh hff PR TW hgo la lb hfl
      generalize ma.filter (keepW k) = mf at *
      have hq60 : q ≤ 60 := by omega
      rcases hex with h1 | ⟨h1, h2⟩
      all_goals
        go_wp2_with (first
          | (go_at_call 17; refine hca.mono ?_; rintro e w3 ⟨rfl, v3, A3, T3⟩; clear hca; have TW3 := HTW.out.stepA A3 T3; have hcb := CA2.out w3 v3 A3)
          | (go_at_call 17; refine hcb.mono ?_; rintro e w4 ⟨rfl, v4, A4, T4⟩; clear hcb; have TW4 := TW3.stepA A4 T4; have hal := all_ag pa v4 mf i w4 A4 (by omega))
          | (go_at_call 19; refine hal.mono ?_; rintro e w5 ⟨v5, rfl, I5, k5⟩; clear hal; have TW5 := TW4.on k5; have hbl := all_ag pb vb mb q w5 TW5.b (by omega))
          | (go_at_call 19; refine hbl.mono ?_; rintro e w6 ⟨v6, rfl, I6, k6⟩; clear hbl; have TW6 := TW5.on k6; have hsm := same_any v5 v6 _ _ w6 (I5.kept k6) I6 (by have := FL.out; simp; omega) (by have := FL.out; simp; omega); rw [WH.out, decide_eq_true rfl] at hsm; clear I5 I6)
          | (go_at_call 18; refine hsm.mono ?_; rintro e w7 ⟨rfl, k7⟩; clear hsm; have TW7 := TW6.on k7; have hla := len_ag pa v4 mf i w7 TW7.a; rw [FL.out.1] at hla; have hlb := len_ag pb vb mb q w7 TW7.b; rw [FL.out.2] at hlb; have hkn := known_any w7)
          | (go_at_call 16; refine hla.mono ?_; rintro e w' ⟨rfl, hw⟩; subst w'; clear hla)
          | (go_at_call 16; refine hlb.mono ?_; rintro e w' ⟨rfl, hw⟩; subst w'; clear hlb)
          | (go_at_call 10; refine hkn.mono ?_; rintro e w8 ⟨rfl, k8⟩; clear hkn))
        go_ret
        exact ⟨rfl, TW7.kp.trans k8⟩
end Go.Proofs.Ytlmbheobaiibeaa
