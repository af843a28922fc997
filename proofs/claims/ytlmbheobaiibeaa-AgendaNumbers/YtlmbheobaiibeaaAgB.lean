/-
  The book's Same and Within, and the statements' own known.
-/
import Derived.Test.YtlmbheobaiibeaaAgN
namespace Go.Proofs.Ytlmbheobaiibeaa
open Go.RowKit Go.Sort Go.Lib

set_option maxHeartbeats 1000000 in
theorem same_any (va vb : Value) (l l' : List Int) (w : World) (ha : IntsA w va l) (hb : IntsA w vb l') (hl : l.length ≤ 1000000) (hl' : l'.length ≤ 1000000) :
    Calls Try.prog 18 #[va, vb] w fun e w' => e = .returned (.bool (decide (l = l'))) ∧ Kp [] w w' := by
  obtain ⟨ao, c, rfl, _, hA⟩ := ha
  obtain ⟨bo, c', rfl, _, hB⟩ := hb
  obtain ⟨n, hn⟩ : ∃ n, n = l.length := ⟨_, rfl⟩
  obtain ⟨n', hn'⟩ : ∃ n', n' = l'.length := ⟨_, rfl⟩
  rw [← hn] at hl ⊢
  rw [← hn'] at hl' ⊢
  have HN := hide hn
  have HN' := hide hn'
  have HA := hide hA
  have HB := hide hB
  clear hn hn' hA hB
  go_enter Try.func18, Try.ntmps18
  by_cases hnn : n = n'
  · subst hnn
    go_wp2
    go_loopg [5] n (fun kx s5 wr => ∃ i : Nat, s5 = .int .i64 i ∧ i ≤ n ∧ n - i ≤ kx ∧ Hid (Kp [] w wr) ∧ Hid (l.take i = l'.take i))
    case atStart => exact ⟨0, rfl, Nat.zero_le _, by omega, Kp.refl _ _, by show _ = _; simp⟩
    case round =>
      obtain ⟨i, rfl, hi, hkx, HK, HT⟩ := hrel
      by_cases hin : i < n
      · have hiz : (i : Int) < (n : Int) := by omega
        have hil : i < l.length := by rw [← HN.out]; exact hin
        have hil' : i < l'.length := by rw [← HN'.out]; exact hin
        obtain ⟨a, rfl, ca⟩ := HA.out i hil
        obtain ⟨b, rfl, cb⟩ := HB.out i hil'
        have ca' := HK.out.cell ca (by simp)
        have cb' := HK.out.cell cb (by simp)
        obtain ⟨x, hx⟩ : ∃ x, x = l[i] := ⟨_, rfl⟩
        obtain ⟨y, hy⟩ : ∃ y, y = l'[i] := ⟨_, rfl⟩
        rw [← hx] at ca'
        rw [← hy] at cb'
        have HX := hide hx
        have HY := hide hy
        clear hx hy ca cb
        go_wp2_with fail
        refine region_read Try.mixed (by kernel_rfl) ?_
        repeat (first | go_big_quiet_skip | (go_big_quiet_want; go_big_quiet_op; go_big_quiet_on))
        refine wpQuiet_nil ?_
        by_cases hxy : x = y
        · subst hxy
          go_wp2_with fail
          go_roundg (n - (i + 1))
          case measure => omega
          case rel =>
            refine ⟨i + 1, by go_num, by omega, Nat.le_refl _, HK.out.drew, ?_⟩
            show _ = _
            rw [List.take_add_one, List.take_add_one, HT.out, List.getElem?_eq_getElem hil, List.getElem?_eq_getElem hil', ← HX.out, ← HY.out]
        · have hne : (x != y) = true := by simpa using hxy
          go_wp2_with fail
          go_ret
          refine ⟨?_, HK.out.drew⟩
          have : ¬ l = l' := fun e => hxy (by rw [HX.out, HY.out]; simp [e])
          rw [decide_eq_false this]
          rfl
      · have hiz : ¬ (i : Int) < (n : Int) := by omega
        have he : l = l' := by
          have h1 := HT.out
          rwa [List.take_of_length_le (by rw [← HN.out]; omega), List.take_of_length_le (by rw [← HN'.out]; omega)] at h1
        have HE := hide he
        clear he
        go_wp2
        go_ret
        refine ⟨?_, HK.out⟩
        rw [decide_eq_true HE.out]
        rfl
  · have hne : ((n : Int) != (n' : Int)) = true := by simp; omega
    have he : ¬ l = l' := fun e => hnn (by rw [HN.out, HN'.out, e])
    have HE := hide he
    clear he
    go_wp2
    go_ret
    refine ⟨?_, Kp.refl _ _⟩
    rw [decide_eq_false HE.out]
    rfl

/-- What Within tells. -/
def wi (n lo hi : Int) : Int := if lo ≤ n ∧ n ≤ hi then n else if n.tmod (hi - lo + 1) < 0 then lo + (n.tmod (hi - lo + 1) + hi - lo + 1) else lo + n.tmod (hi - lo + 1)
theorem tmod_bounds (n c : Int) (hc : 0 < c) : -c < n.tmod c ∧ n.tmod c < c := by
  have h1 := Int.emod_nonneg n (by omega : c ≠ 0)
  have h2 := Int.emod_lt_of_pos n hc
  constructor
  · have := Int.lt_tmod_of_pos n hc; omega
  · exact Int.tmod_lt_of_pos n hc
theorem wi_ge (n lo hi : Int) (h : lo ≤ hi) : lo ≤ wi n lo hi ∧ wi n lo hi ≤ hi := by
  have := tmod_bounds n (hi - lo + 1) (by omega)
  unfold wi
  split
  · assumption
  · split <;> omega
set_option maxHeartbeats 1000000 in
theorem within_any (n lo hi : Int) (w : World) (h1 : -1000 ≤ lo) (h2 : lo ≤ hi) (h3 : hi ≤ 1073741824) : Calls Try.prog 13 #[.int .i64 n, .int .i64 lo, .int .i64 hi] w fun e w' => e = .returned (.int .i64 (wi n lo hi)) ∧ w' = w := by
  have hb := tmod_bounds n (hi - lo + 1) (by omega)
  have hc : hi - lo + 1 ≠ 0 := by omega
  have hwi : wi n lo hi = if lo ≤ n ∧ n ≤ hi then n else if n.tmod (hi - lo + 1) < 0 then lo + (n.tmod (hi - lo + 1) + hi - lo + 1) else lo + n.tmod (hi - lo + 1) := rfl
  have W := hide hwi
  clear hwi
  go_enter Try.func13, Try.ntmps13
  go_wp2
  all_goals
    go_ret
    refine ⟨congrArg Ending.returned (congrArg (Value.int IntKind.i64) ?_), rfl⟩
    rw [W.out]
    split <;> first | rfl | omega | (split <;> omega)

/-- Ints in a block as it was built. -/
theorem ints_lit (w : World) (l : List Int) (hl : l.length ≤ 1000) : IntsA (w.alloc (.cells (l.map (Value.int .i64)).toArray 3)) (.slice (some ⟨w.heap.size, 0, none⟩) l.length l.length) l := by
  refine ⟨some ⟨w.heap.size, 0, none⟩, l.length, rfl, by unfold maxLen; omega, fun i hi => ⟨_, rfl, ?_⟩⟩
  rw [Addr.add_lit, World.cell?_alloc_at _ _ _ _ rfl]
  simp [hi]

/-- The agenda's blocks are new since w. -/
def Fr (w : World) (p : Nat) (v : Value) : Prop := ∀ i ∈ fp p v, w.heap.size ≤ i
theorem Ste.fresh {w w1 w2 : World} {p : Nat} {v v' : Value} (k : Kp [] w w1) (f : Fr w p v) (t : Ste p w1 v w2 v') : Kp [] w w2 ∧ Fr w p v' := by
  refine ⟨k.then t.1 (fun i hi => .inr (f i hi)), fun i hi => ?_⟩
  simp only [fp, List.mem_cons, Option.mem_toList] at hi
  rcases hi with rfl | hi
  · exact f i (by simp [fp])
  · rcases t.2 i hi with h | h
    · exact f i (by simp [fp, h])
    · exact Nat.le_trans k.size h
theorem fr_new {w : World} {p : Nat} (h : w.heap.size ≤ p) : Fr w p (.slice none 0 0) := fun i hi => by simp [fp, Value.ownBlock] at hi; omega

theorem known_list : insE (insE (insE [] ⟨5, ((0 : Nat) : Int), 1⟩) ⟨3, ((1 : Nat) : Int), 2⟩) ⟨5, ((2 : Nat) : Int), 3⟩ = [⟨3, 1, 2⟩, ⟨5, 0, 1⟩, ⟨5, 2, 3⟩] := by decide
set_option maxHeartbeats 2000000 in
theorem known_any (w : World) : Calls Try.prog 10 #[] w fun e w' => e = .returned (.bool true) ∧ Kp [] w w' := by
  have hN := new_ag w
  go_enter Try.func10, Try.ntmps10
  go_wp2_with (first
    | (go_at_call 11; refine hN.mono ?_; rintro e w1 ⟨p, rfl, A1, hp, k1⟩; clear hN; have h1 := add_ag p _ _ 0 5 1 w1 A1 (by omega))
    | (go_at_call 12; refine h1.mono ?_; rintro e w2 ⟨rfl, v2, A2, T2⟩; clear h1; have h2 := add_ag p _ _ 1 3 2 w2 A2 (by omega))
    | (go_at_call 12; refine h2.mono ?_; rintro e w3 ⟨rfl, v3, A3, T3⟩; clear h2; have h3 := add_ag p _ _ 2 5 3 w3 A3 (by omega))
    | (go_at_call 12; refine h3.mono ?_; rintro e w4 ⟨rfl, v4, A4, T4⟩; clear h3; rw [known_list] at A4; have h4 := all_ag p _ _ 3 w4 A4 (by omega))
    | (go_at_call 19; refine h4.mono ?_; rintro e w5 ⟨v5, rfl, I5, k5⟩; clear h4; have k6 := k5.alloc (.cells ([2, 1, 3].map (Value.int .i64)).toArray 3); have h6 := same_any v5 _ _ _ _ (I5.kept ((Kp.refl [] w5).alloc _)) (ints_lit w5 [2, 1, 3] (by simp)) (by decide) (by decide); rw [show decide (List.map En.what [⟨3, 1, 2⟩, ⟨5, 0, 1⟩, ⟨5, 2, 3⟩] = [2, 1, 3]) = true from by decide] at h6; have A6 := A4.keptN k6; have I5' := hide I5; clear I5)
    | (go_at_call 18; refine h6.mono ?_; rintro e w7 ⟨rfl, k7⟩; clear h6; have h7 := len_ag p _ _ 3 w7 (A6.keptN k7))
    | (go_at_call 16; refine h7.mono ?_; rintro e w8 ⟨rfl, hw⟩; subst w8; clear h7))
  go_ret
  refine ⟨rfl, ?_⟩
  obtain ⟨K2, F2⟩ := Ste.fresh k1 (fr_new hp) T2
  obtain ⟨K3, F3⟩ := Ste.fresh K2 F2 T3
  obtain ⟨K4, _⟩ := Ste.fresh K3 F3 T4
  exact (K4.trans k6).trans k7
end Go.Proofs.Ytlmbheobaiibeaa
