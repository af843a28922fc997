/-
  AgendaNexts: what Next tells is what Due gives as soon as its time has come, and not before.
-/
import Derived.Test.YtlmbheobaiibeaaAgB
namespace Go.Proofs.Ytlmbheobaiibeaa
open Go.RowKit Go.Sort Go.Lib

theorem ints_at {w : World} {v : Value} {l : List Int} (h : IntsA w v l) : ∃ ao c, v = .slice ao l.length c ∧ ∀ i, i < l.length → ∃ a, ao = some a ∧ w.cell? (a.add i) = some (.int .i64 (l.getD i 0)) := by
  obtain ⟨ao, c, rfl, _, h2⟩ := h
  refine ⟨ao, c, rfl, fun i hi => ?_⟩
  obtain ⟨a, e, hc⟩ := h2 i hi
  exact ⟨a, e, by rw [hc]; simp [hi]⟩

set_option maxHeartbeats 4000000 in
set_option maxRecDepth 100000 in
theorem nexts_walk (vt : Value) (ts : List Int) (w : World) (ht : IntsA w vt ts) :
    Calls Try.prog 8 #[vt] w fun e w' => e = .returned (.bool true) ∧ Kp [] w w' := by
  have hN := new_ag w
  obtain ⟨ao, c, rfl, hcell⟩ := ints_at ht
  obtain ⟨n0, hn0⟩ : ∃ n0, n0 = ts.length := ⟨_, rfl⟩
  have CELL : Hid (∀ w', Kp [] w w' → ∀ i : Nat, i < n0 → ∃ a, ao = some a ∧ w'.cell? (a.add i) = some (.int .i64 (ts.getD i 0))) := fun w' k i hi => by
    obtain ⟨a, e, hc⟩ := hcell i (by omega)
    exact ⟨a, e, k.cell hc (by simp)⟩
  rw [← hn0]
  clear hcell ht hn0
  go_enter Try.func8, Try.ntmps8
  go_wp2_with (go_at_call 11; refine hN.mono ?_; rintro e w1 ⟨p, rfl, A1, hp, k1⟩; clear hN)
  have INV : Hid (∃ (v : Value) (m : List En), Ag w1 p v m 0 ∧ Fr w p v ∧ Kp [] w w1 ∧ m.length = 0 ∧ ∀ e ∈ m, 0 ≤ e.at_ ∧ e.at_ ≤ 100) := ⟨_, _, A1, fr_new hp, k1, rfl, by simp⟩
  clear A1 hp k1
  go_loopg [4, 5] 40 (fun kx s4 s5 wr => ∃ i : Nat, s4 = .int .i64 i ∧ s5 = .int .i64 i ∧ i ≤ 40 ∧ i ≤ n0 ∧ 40 - i ≤ kx ∧ Hid (∃ (v : Value) (m : List En), Ag wr p v m i ∧ Fr w p v ∧ Kp [] w wr ∧ m.length = i ∧ ∀ e ∈ m, 0 ≤ e.at_ ∧ e.at_ ≤ 100))
  case atStart => exact ⟨0, rfl, rfl, by omega, Nat.zero_le _, by omega, INV⟩
  case round =>
    clear INV
    obtain ⟨i, rfl, rfl, hi, hin, hkx, HI⟩ := hrel
    obtain ⟨v, m, A2, F2, k2, hl2, P2⟩ := HI.out
    clear HI
    by_cases hgo : i < n0 ∧ i < 40
    · have hiz : (i : Int) < (n0 : Int) := by omega
      have hi4 : (i : Int) < 40 := by omega
      obtain ⟨a, rfl, hc⟩ := CELL.out wr k2 i hgo.1
      obtain ⟨x, hx⟩ : ∃ x, x = ts.getD i 0 := ⟨_, rfl⟩
      rw [← hx] at hc
      have HX := hide hx
      have HP := hide P2
      clear hx P2
      have hwt := fun w => within_any x 0 100 w (by omega) (by omega) (by omega)
      have hwi := wi_ge x 0 100 (by omega)
      generalize wi x 0 100 = t at hwt hwi
      have hadd := add_ag p v m i t x wr.drew (A2.keptN (Kp.refl [] wr).drew) (by omega)
      go_wp2_with fail
      refine region_tail 10 Try.mixed (by kernel_rfl) ?_
      simp only [List.take_succ_cons, List.take_zero, List.drop_succ_cons, List.drop_zero]
      repeat (first | go_big_quiet_skip | (go_big_quiet_want; go_big_quiet_op; first | go_big_quiet_on | (refine ⟨_, hwt _, ?_⟩; go_big_quiet_on)))
      refine wpQuiet_nil ?_
      go_wp2_with (go_at_call 12; refine hadd.mono ?_; rintro e w2 ⟨rfl, v', A3, T3'⟩; clear hadd)
      go_roundg (40 - (i + 1))
      case measure => omega
      case rel =>
        obtain ⟨K3, F3⟩ := Ste.fresh k2 F2 (Ste.trans ⟨((Kp.refl [] wr).drew).mono (by simp), fun _ e => .inl e⟩ T3')
        refine ⟨i + 1, by go_num, by go_num, by omega, by omega, Nat.le_refl _, v', _, A3, F3, K3, ?_, fun e he => ?_⟩
        · rw [(insE_perm m _).length_eq]; simp [hl2]
        · rcases List.mem_cons.1 ((insE_perm m _).mem_iff.1 he) with rfl | h1
          · exact hwi
          · exact HP.out e h1
    · have INV2 : Hid (∃ (v : Value) (m : List En) (k : Nat), Ag wr p v m k ∧ k ≤ 40 ∧ Fr w p v ∧ Kp [] w wr ∧ m.length = i ∧ ∀ e ∈ m, 0 ≤ e.at_ ∧ e.at_ ≤ 100) := ⟨v, m, i, A2, hi, F2, k2, hl2, P2⟩
      clear A2 F2 k2 hl2 P2 hkx
      have hex : (¬ (i : Int) < (n0 : Int)) ∨ ((i : Int) < (n0 : Int) ∧ ¬ (i : Int) < 40) := by omega
      clear hgo
      rcases hex with h1 | ⟨h1, h2⟩
      all_goals
        go_wp2_with fail
        go_loopg [4] i (fun kx s4 wr => ∃ q : Nat, s4 = .int .i64 q ∧ q ≤ kx ∧ q ≤ 40 ∧ Hid (∃ (v : Value) (m : List En) (k : Nat), Ag wr p v m k ∧ k ≤ 40 ∧ Fr w p v ∧ Kp [] w wr ∧ m.length = q ∧ ∀ e ∈ m, 0 ≤ e.at_ ∧ e.at_ ≤ 100))
        case atStart => exact ⟨i, rfl, Nat.le_refl _, hi, INV2⟩
        case round =>
          clear INV2
          obtain ⟨q, rfl, hqk, hq4, HI⟩ := hrel
          obtain ⟨v, m, k, A2, hk, F2, k2, hl2, P2⟩ := HI.out
          clear HI
          by_cases hq : 0 < q
          · have hqz : (0 : Int) < (q : Int) := by omega
            cases m with
            | nil => exfalso; simp at hl2; omega
            | cons x l =>
              have xb := P2 x (by simp)
              have hnx := next_ag p v (x :: l) k wr A2
              simp only [List.headD_cons, List.isEmpty_cons, Bool.not_false] at hnx
              obtain ⟨xa, hxa⟩ : ∃ xa, xa = x.at_ := ⟨_, rfl⟩
              obtain ⟨xw, hxw⟩ : ∃ xw, xw = x.what := ⟨_, rfl⟩
              have LEN : Hid (∀ w', Kp [] wr w' → Calls Try.prog 16 #[.pointer (some ⟨p, 0, none⟩)] w' fun e w'' => e = .returned (.int .i64 (q : Nat)) ∧ w'' = w') := fun w' kk => by
                have := len_ag p v (x :: l) k w' (A2.keptN kk)
                rwa [hl2] at this
              have DUE1 : Hid (∀ w', Kp [] wr w' → Calls Try.prog 15 #[.pointer (some ⟨p, 0, none⟩), .int .i64 (xa - 1)] w' fun e w'' => e = .returned (.tuple #[.int .i64 0, .bool false]) ∧ ∃ v', Ag w'' p v' (x :: l) k ∧ Ste p w' v w'' v') := fun w' kk => by
                have := due_ag p v (x :: l) k (xa - 1) w' (A2.keptN kk) (by omega)
                simpa [dueP, show ¬ x.at_ ≤ xa - 1 by omega] using this
              have DUE2 : Hid (∀ w' v', Ag w' p v' (x :: l) k → Calls Try.prog 15 #[.pointer (some ⟨p, 0, none⟩), .int .i64 xa] w' fun e w'' => e = .returned (.tuple #[.int .i64 xw, .bool true]) ∧ ∃ v'', Ag w'' p v'' l k ∧ Ste p w' v' w'' v'') := fun w' v' h => by
                have := due_ag p v' (x :: l) k xa w' h (by omega)
                simpa [dueP, hxa, hxw] using this
              have REST : Hid (∀ e ∈ l, 0 ≤ e.at_ ∧ e.at_ ≤ 100) := fun e he => P2 e (by simp [he])
              have hll : l.length = q - 1 := by simp at hl2; omega
              rw [← hxa, ← hxw] at hnx
              have hxa0 : 0 ≤ xa := by omega
              have hxa1 : xa ≤ 100 := by omega
              have FK := hide (And.intro F2 k2)
              clear A2 P2 hl2 F2 k2 hxa hxw xb
              go_wp2_with (first
                | (go_at_call 14; refine hnx.mono ?_; rintro e w1 ⟨rfl, k1⟩; clear hnx; have hln := LEN.out w1 k1; have hdu := DUE1.out w1 k1)
                | (go_at_call 16; refine hln.mono ?_; rintro e w' ⟨rfl, hw⟩; subst w'; clear hln)
                | (go_at_call 15; refine hdu.mono ?_; rintro e w2 ⟨rfl, v2, A3, T3⟩; clear hdu; have hdv := DUE2.out w2 v2 A3)
                | (go_at_call 15; refine hdv.mono ?_; rintro e w3 ⟨rfl, v3, A4, T4⟩; clear hdv))
              go_roundg (q - 1)
              case measure => omega
              case rel =>
                obtain ⟨K3, F3⟩ := Ste.fresh FK.out.2 FK.out.1 (Ste.trans ⟨k1.mono (by simp), fun _ e => .inl e⟩ (T3.trans T4))
                exact ⟨q - 1, by congr 1; omega, Nat.le_refl _, by omega, v3, l, k, A4, hk, F3, K3, hll, REST.out⟩
          · have hqz : ¬ (0 : Int) < (q : Int) := by omega
            have hm : m = [] := List.eq_nil_of_length_eq_zero (by omega)
            subst hm
            have hnx := next_ag p v [] k wr A2
            simp only [List.headD_nil, List.isEmpty_nil, Bool.not_true] at hnx
            clear P2 hl2 A2
            go_wp2_with (first
              | (go_at_call 14; refine hnx.mono ?_; rintro e w1 ⟨rfl, k1⟩; clear hnx; have hkn := known_any w1)
              | (go_at_call 10; refine hkn.mono ?_; rintro e w3 ⟨rfl, k3⟩; clear hkn))
            go_ret
            exact ⟨rfl, (k2.trans k1).trans k3⟩
end Go.Proofs.Ytlmbheobaiibeaa
