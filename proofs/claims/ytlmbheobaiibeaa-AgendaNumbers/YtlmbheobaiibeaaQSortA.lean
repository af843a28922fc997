/-
  sort.insertionSort, sort.reverseRange over the queue: what the block holds behind them.
-/
import Derived.Test.YtlmbheobaiibeaaQRow
import Derived.Sort.WalkA
import Derived.Sort.Walk11
import Derived.Deep.LoopGhost
namespace Go.Proofs.Ytlmbheobaiibeaa
open Go.RowKit Go.Sort Go.Lib

theorem q_less (v : Option Addr) (n c : Nat) (w : World) : Sem.run Try.prog (method 210 47 (.slice v n c) "Less") w = .ok (67, .slice v n c) w := by kernel_rfl
theorem q_swap (v : Option Addr) (n c : Nat) (w : World) : Sem.run Try.prog (method 210 47 (.slice v n c) "Swap") w = .ok (68, .slice v n c) w := by kernel_rfl
theorem q_len (v : Option Addr) (n c : Nat) (w : World) : Sem.run Try.prog (method 210 47 (.slice v n c) "Len") w = .ok (66, .slice v n c) w := by kernel_rfl

/-- The world behind a walk that kept to the block g: what it holds there. -/
structure St (g cap n : Nat) (w w' : World) (d : Array En) : Prop where
  kp : Kp [g] w w'
  ro : Ro g cap n w' d
theorem St.start {g cap n : Nat} {w : World} {d : Array En} (h : Ro g cap n w d) : St g cap n w w d := ⟨Kp.refl _ _, h⟩
theorem St.on {g cap n : Nat} {w w1 w2 : World} {d : Array En} (h : St g cap n w w1 d) (k : Kp [] w1 w2) : St g cap n w w2 d := ⟨h.kp.trans (k.mono (by simp)), h.ro.kept k⟩
theorem St.then {g cap n : Nat} {w w1 w2 : World} {d d' : Array En} (h : St g cap n w w1 d) (k : St g cap n w1 w2 d') : St g cap n w w2 d' := ⟨h.kp.trans k.kp, k.ro⟩
theorem less_st {g cap n : Nat} {w w1 : World} {d : Array En} (h : St g cap n w w1 d) (i j : Nat) (hi : i < n) (hj : j < n) :
    Calls Try.prog 67 #[.slice (some ⟨g, 0, none⟩) n cap, .int .i64 i, .int .i64 j] w1 fun e w' => e = .returned (.bool (ltE d[i]! d[j]!)) ∧ St g cap n w w' d :=
  (less_any g cap n d w1 h.ro i j hi hj).mono fun _ _ ⟨he, k⟩ => ⟨he, h.on k⟩
theorem swap_st {g cap n : Nat} {w w1 : World} {d : Array En} (h : St g cap n w w1 d) (i j : Nat) (hi : i < n) (hj : j < n) :
    Calls Try.prog 68 #[.slice (some ⟨g, 0, none⟩) n cap, .int .i64 i, .int .i64 j] w1 fun e w' => e = .returned (.tuple #[]) ∧ St g cap n w w' (swp d i j) :=
  (swap_any g cap n d w1 h.ro i j hi hj).mono fun _ _ ⟨he, k, r⟩ => ⟨he, h.then ⟨k, r⟩⟩

set_option maxHeartbeats 2000000 in
set_option maxRecDepth 100000 in
theorem insertionSort_st (g cap n a b : Nat) (d : Array En) (w : World) (hS : Ro g cap n w d) (hab : a ≤ b) (hb : b ≤ n) (hn : n ≤ 1000000) :
    Calls Try.prog 36 #[.iface 47 (.slice (some ⟨g, 0, none⟩) n cap), .int .i64 a, .int .i64 b] w fun e w' =>
      e = .returned (.tuple #[]) ∧ St g cap n w w' (Sort.insertionSort ltE d a b) := by
  have mL := q_less (some ⟨g, 0, none⟩) n cap
  have mS := q_swap (some ⟨g, 0, none⟩) n cap
  have S0 := St.start hS
  clear hS
  go_enter Try.func36, Try.ntmps36
  go_wp2
  go_loopg [6] (b + 1 - a) (fun k6 vi wr => ∃ (i : Nat) (dk : Array En), vi = .int .i64 i ∧ b + 1 - i ≤ k6 ∧ a < i ∧ i ≤ b + 1 ∧ St g cap n w wr dk ∧ Hid (insOuter ltE a b i dk = insOuter ltE a b (a + 1) d))
  case atStart => exact ⟨a + 1, d, by go_num, by omega, by omega, by omega, S0, rfl⟩
  case round =>
    obtain ⟨i, dk, rfl, hk6, hai, hib, S1, HO⟩ := hrel
    clear S0
    go_wp2
    · have hlt : i < b := by assumption
      rw [decide_eq_true hlt]
      go_loopg [7] i (fun k7 vj wr2 => ∃ (j : Nat) (dj : Array En), vj = .int .i64 j ∧ j ≤ k7 ∧ a ≤ j ∧ j ≤ i ∧ St g cap n w wr2 dj ∧ Hid (insInner ltE a j dj = insInner ltE a i dk))
      case atStart => exact ⟨i, dk, rfl, Nat.le_refl _, by omega, Nat.le_refl _, S1, rfl⟩
      case round =>
        obtain ⟨j, dj, rfl, hk7, haj, hji, S2, HI⟩ := hrel
        clear S1
        have OUT : Hid ((j ≤ a ∨ ltE dj[j]! dj[j - 1]! = false) → insOuter ltE a b (i + 1) dj = insOuter ltE a b (a + 1) d) := fun hs => by
          rw [← HO.out, insOuter_go _ _ _ _ _ hlt, ← HI.out, insInner_stop _ _ _ _ hs]
        by_cases hja : a < j
        · have hl := less_st S2 j (j - 1) (by omega) (by omega)
          rw [show (((j - 1 : Nat) : Int)) = (j : Int) - 1 by omega] at hl
          cases hlv : ltE dj[j]! dj[j - 1]! with
          | true =>
            rw [hlv] at hl
            clear S2
            go_wp2_with (first
              | (go_at_call 67; refine hl.mono ?_; rintro e w1 ⟨rfl, S3⟩; have hsw := swap_st S3 j (j - 1) (by omega) (by omega); rw [show (((j - 1 : Nat) : Int)) = (j : Int) - 1 by omega] at hsw; clear S3)
              | (go_at_call 68; refine hsw.mono ?_; rintro e w2 ⟨rfl, S4⟩))
            go_roundg (j - 1)
            case rel => exact ⟨j - 1, swp dj j (j - 1), by congr 1; omega, by omega, by omega, by omega, S4, by rw [← HI.out, insInner_go ltE a j dj hja hlv]; exact rfl⟩
            case measure => omega
          | false =>
            rw [hlv] at hl
            clear S2
            go_wp2_with (go_at_call 67; refine hl.mono ?_; rintro e w1 ⟨rfl, S3⟩)
            go_roundg (b - i)
            case rel => exact ⟨i + 1, dj, by go_num, by omega, by omega, by omega, S3, OUT.out (Or.inr hlv)⟩
            case measure => omega
        · go_wp2
          go_roundg (b - i)
          case rel => exact ⟨i + 1, dj, by go_num, by omega, by omega, by omega, S2, OUT.out (Or.inl (by omega))⟩
          case measure => omega
    · have hge : ¬ i < b := by assumption
      go_end0
      exact ⟨rfl, by unfold Sort.insertionSort; rw [← HO.out, insOuter_stop _ _ _ _ _ hge]; exact S1⟩

set_option maxHeartbeats 1600000 in
set_option maxRecDepth 1000000 in
theorem reverseRange_st (g cap n a b : Nat) (d : Array En) (w : World) (hS : Ro g cap n w d) (hab : a ≤ b) (hb : b ≤ n) (hn : n ≤ 1000000) :
    Calls Try.prog 40 #[.iface 47 (.slice (some ⟨g, 0, none⟩) n cap), .int .i64 a, .int .i64 b] w fun e w' =>
      e = .returned (.tuple #[]) ∧ St g cap n w w' (reverseRange d a b) := by
  have mS := q_swap (some ⟨g, 0, none⟩) n cap
  have S0 := St.start hS
  clear hS
  go_enter Try.func40, Try.ntmps40
  go_wp2
  go_loopg [6, 7] (b - a) (fun k s6 s7 wr => ∃ (i jn : Nat) (jz : Int) (dk : Array En), s6 = .int .i64 i ∧ s7 = .int .i64 jz ∧ ((i : Int) < jz → jz = jn ∧ jn < n) ∧ (¬ (i : Int) < jz → ¬ i < jn) ∧ jn - i ≤ k ∧
    St g cap n w wr dk ∧ Hid (reverseLoop i jn dk = reverseLoop a (b - 1) d))
  case atStart => exact ⟨a, b - 1, (b : Int) - 1, d, rfl, rfl, fun h => ⟨by omega, by omega⟩, fun h => by omega, by omega, S0, rfl⟩
  case round =>
    obtain ⟨i, jn, jz, dk, rfl, rfl, h1, h2, hk, S1, HE⟩ := hrel
    clear S0
    by_cases hlt : (i : Int) < jz
    · obtain ⟨rfl, hjn⟩ := h1 hlt
      have hij : i < jn := by omega
      have hs := swap_st S1 i jn (by omega) (by omega)
      clear h1 h2 S1
      go_wp2_with (go_at_call 68; refine hs.mono ?_; rintro e w1 ⟨rfl, S2⟩)
      go_roundg (jn - 1 - (i + 1))
      case measure => omega
      case rel => exact ⟨i + 1, jn - 1, (jn : Int) - 1, swp dk i jn, by simp, rfl, fun h => ⟨by omega, by omega⟩, fun h => by omega, Nat.le_refl _, S2, by rw [← HE.out]; show _ = _; rw [eq_comm, reverseLoop, if_pos hij]⟩
    · have hnot := h2 hlt
      clear h1 h2
      go_wp2
      go_end0
      refine ⟨rfl, ?_⟩
      have e := HE.out
      rw [reverseLoop, if_neg hnot] at e
      rw [reverseRange, ← e]
      exact S1
end Go.Proofs.Ytlmbheobaiibeaa
