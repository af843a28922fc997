/-
  math/bits.Len of small numbers, sort.nextPowerOfTwo, (*sort.xorshift).Next, sort.breakPatterns over the queue.
-/
import Derived.Test.YtlmbheobaiibeaaQSortA
import Derived.Sort.Walk7
import Derived.Lib.Strings
import Derived.Lib.Slices
import Derived.Lib.Small
import Derived.Lib.BitFns
import Derived.Lib.Walk
namespace Go.Proofs.Ytlmbheobaiibeaa
open Go.RowKit Go.Sort Go.Lib

set_option maxHeartbeats 4000000 in
set_option maxRecDepth 100000 in
theorem len64_int (x : Int) (w : World) (h0 : 0 ≤ x) (h1 : x ≤ 255) : Calls Try.prog 35 #[.int .u64 x] w fun e w' => e = .returned (.int .i64 (Lib.bitLen x.toNat)) ∧ w' = w := by
  go_enter Try.func35, Try.ntmps35
  go_wp2
  all_goals first
    | (exfalso; omega)
    | (go_ret; refine ⟨congrArg Ending.returned (congrArg (Value.int IntKind.i64) ?_), rfl⟩
       have l := Lib.bitLen_le8' x (by omega) (by omega)
       rw [Lib.len8_of x (by omega) (by omega)]; unfold wrap64; omega)
theorem len64_small (n : Nat) (w : World) (h : n < 256) : Calls Try.prog 35 #[.int .u64 (n : Int)] w fun e w' => e = .returned (.int .i64 (bitsLen n : Nat)) ∧ w' = w := by
  have := len64_int (n : Int) w (by omega) (by omega)
  rwa [Int.toNat_natCast, bitLen_eq n (by omega)] at this

theorem len_small (n : Nat) (w : World) (h : n < 256) : Calls Try.prog 32 #[.int .u64 (n : Int)] w fun e w' => e = .returned (.int .i64 (bitsLen n : Nat)) ∧ w' = w := by
  go_enter Try.func32, Try.ntmps32
  go_wp2_with (go_at_call 35; refine (len64_small n _ h).mono ?_; rintro e w' ⟨rfl, rfl⟩)
  go_ret
  exact ⟨rfl, rfl⟩

set_option maxHeartbeats 1000000 in
theorem nextPowerOfTwo_any (n : Nat) (hn : n < 256) (w : World) : Calls Try.prog 45 #[.int .i64 n] w fun e w' => e = .returned (.int .u64 ((1 <<< bitsLen n : Nat) : Int)) ∧ w' = w := by
  have hk : bitsLen n ≤ 62 := (bitsLen_le_iff n 62).2 (by omega)
  have hp := wrap_two_pow (bitsLen n) hk
  go_enter Try.func45, Try.ntmps45
  go_wp2_with (go_at_call 32; refine (len_small n _ hn).mono ?_; rintro e w' ⟨rfl, rfl⟩)
  go_ret
  exact ⟨rfl, rfl⟩

set_option maxHeartbeats 2000000 in
set_option maxRecDepth 1000000 in
theorem next_any (rb X : Nat) (hX : X < 18446744073709551616) (w : World) (hc : w.cell? ⟨rb, 0, none⟩ = some (.int .u64 X)) (hf : w.frozen? ⟨rb, 0, none⟩ = false) :
    Calls Try.prog 46 #[.pointer (some ⟨rb, 0, none⟩)] w fun e w' => e = .returned (.int .u64 (xorNextN X : Nat)) ∧ w' = (w.setCell ⟨rb, 0, none⟩ (.int .u64 (xorNextN X : Nat))).drewN 3 := by
  obtain ⟨A, hA⟩ : ∃ A : Nat, A = X ^^^ (X * 8192 % 18446744073709551616) := ⟨_, rfl⟩
  obtain ⟨B, hB⟩ : ∃ B : Nat, B = A ^^^ (A / 128) := ⟨_, rfl⟩
  obtain ⟨C, hC⟩ : ∃ C : Nat, C = B ^^^ (B * 131072 % 18446744073709551616) := ⟨_, rfl⟩
  have lA : A < 18446744073709551616 := by rw [hA]; exact Nat.xor_lt_two_pow (n := 64) (by omega) (by omega)
  have lB : B < 18446744073709551616 := by rw [hB]; exact Nat.xor_lt_two_pow (n := 64) (by omega) (by omega)
  have e1 : bits .xor .u64 (X : Int) (IntKind.u64.wrap ((X : Int) * 8192)) = (A : Int) := by
    rw [IntKind.wrap_u64, show ((X : Int) * 8192 % 18446744073709551616) = ((X * 8192 % 18446744073709551616 : Nat) : Int) by omega, bits_xor_u64_nat _ _ hX (by omega), hA]
  have e2 : bits .xor .u64 (A : Int) ((A : Int) / 128) = (B : Int) := by
    rw [show ((A : Int) / 128) = ((A / 128 : Nat) : Int) by omega, bits_xor_u64_nat _ _ lA (by omega), hB]
  have e3 : bits .xor .u64 (B : Int) (IntKind.u64.wrap ((B : Int) * 131072)) = (C : Int) := by
    rw [IntKind.wrap_u64, show ((B : Int) * 131072 % 18446744073709551616) = ((B * 131072 % 18446744073709551616 : Nat) : Int) by omega, bits_xor_u64_nat _ _ lB (by omega), hC]
  have hv : xorNextN X = C := by unfold xorNextN; simp only []; rw [← hA, ← hB, ← hC]
  rw [hv]
  clear hA hB hC hv
  have hss : ∀ v v', (w.setCell ⟨rb, 0, none⟩ v).setCell ⟨rb, 0, none⟩ v' = w.setCell ⟨rb, 0, none⟩ v' := setCell_setCell w rb 0
  go_enter Try.func46, Try.ntmps46
  go_wp2
  go_region
  all_goals go_wp2
  all_goals go_region
  all_goals go_wp2
  all_goals go_region
  all_goals go_wp2
  go_ret
  exact ⟨rfl, rfl⟩

/-- The block rb is a number of 64 bits of its own. -/
def Rnd (w : World) (rb X : Nat) : Prop := w.heap[rb]? = some (.cells #[.int .u64 (X : Int)] 86 (0, 0))
theorem next_rnd (rb X : Nat) (hX : X < 18446744073709551616) (w : World) (h : Rnd w rb X) :
    Calls Try.prog 46 #[.pointer (some ⟨rb, 0, none⟩)] w fun e w' => e = .returned (.int .u64 (xorNextN X : Nat)) ∧ Kp [rb] w w' ∧ Rnd w' rb (xorNextN X) :=
  (next_any rb X hX w (by rw [cell_of_row w rb 0 _ _ (0, 0) h]; rfl) (frozen_of_row w rb 0 _ _ h)).mono fun _ _ ⟨he, hw⟩ => ⟨he, by
    subst hw
    refine ⟨((Kp.refl [rb] w).setCell (p := ⟨rb, 0, none⟩) (.inl (by simp)) _).trans ((kp_drewN _ 3).mono (by simp)), ?_⟩
    exact heap_setCell_one h⟩

set_option maxHeartbeats 4000000 in
set_option maxRecDepth 1000000 in
theorem breakPatterns_go (g cap n a L' : Nat) (d : Array En) (w : World) (hS : Ro g cap n w d) (hb : a + L' ≤ n) (hn : n < 256) (h8 : 8 ≤ L') :
    Calls Try.prog 38 #[.iface 47 (.slice (some ⟨g, 0, none⟩) n cap), .int .i64 a, .int .i64 ((a + L' : Nat) : Int)] w fun e w' =>
      e = .returned (.tuple #[]) ∧ St g cap n w w' (breakPatterns d a (a + L')) := by
  rw [breakPatterns_eq d a L' h8]
  obtain ⟨M, hM⟩ : ∃ M : Nat, M = 1 <<< bitsLen L' := ⟨_, rfl⟩
  have hM1 : 1 ≤ M := by rw [hM, Nat.one_shiftLeft]; exact Nat.two_pow_pos _
  have hM2 : M ≤ 2 * L' := by rw [hM, Nat.one_shiftLeft]; exact two_pow_bitsLen_le (by omega)
  have hNP := fun w => nextPowerOfTwo_any L' (by omega) w
  rw [← hM] at hNP ⊢
  clear hM
  have mS := q_swap (some ⟨g, 0, none⟩) n cap
  have hg := hS.lt
  have S0 : St g cap n w (w.alloc (.cells #[.int .u64 (L' : Int)] 86)) d := (St.start hS).on ((Kp.refl [] w).alloc _)
  have R0 : Hid (Rnd (w.alloc (.cells #[.int .u64 (L' : Int)] 86)) w.heap.size L') := heap_alloc_new w _
  have hLz : ((a : Int) + (L' : Int) - (a : Int)) = (L' : Int) := by omega
  have h8z : (8 : Int) ≤ (L' : Int) := by omega
  clear hS
  go_enter Try.func38, Try.ntmps38
  go_wp2_with (go_at_call 45; refine (hNP _).mono ?_; rintro e w' ⟨rfl, rfl⟩)
  clear hNP
  go_loopg [9] 3 (fun g1 vi wr => ∃ (t : Nat) (r : UInt64) (dk : Array En), vi = .int .i64 ((a : Int) + (L' : Int) / 4 * 2 - 1 + (t : Int)) ∧ t ≤ 3 ∧ 3 - t ≤ g1 ∧ St g cap n w wr dk ∧ Hid (Rnd wr w.heap.size r.toNat) ∧
      Hid (bpRest a L' M (a + L' / 4 * 2 - 1) (3 - t) t (r, dk) = bpRest a L' M (a + L' / 4 * 2 - 1) 3 0 (UInt64.ofNat L', d)))
  case atStart =>
    refine ⟨0, UInt64.ofNat L', d, by simp, by omega, by omega, S0, ?_, rfl⟩
    rw [show (UInt64.ofNat L').toNat = L' from by simp; omega]
    exact R0
  case round =>
    obtain ⟨t, r, dk, rfl, ht, hg1, S1, R1, HR⟩ := hrel
    clear S0 R0
    by_cases ht3 : t < 3
    · have hle : (a : Int) + (L' : Int) / 4 * 2 - 1 + (t : Int) ≤ (a : Int) + (L' : Int) / 4 * 2 + 1 := by omega
      obtain ⟨R', hR'⟩ : ∃ R' : Nat, R' = xorNextN r.toNat := ⟨_, rfl⟩
      have lR' : R' < 18446744073709551616 := by rw [hR']; exact xorNextN_lt _ r.toNat_lt
      obtain ⟨O, hO⟩ : ∃ O : Nat, O = R' &&& (M - 1) := ⟨_, rfl⟩
      have lO : O ≤ M - 1 := by rw [hO]; exact Nat.and_le_right
      have eAnd : bits .and .u64 (R' : Int) ((M : Int) - 1) = (O : Int) := by
        rw [show ((M : Int) - 1) = ((M - 1 : Nat) : Int) by omega, bits_and_u64_nat _ _ lR' (by omega), hO]
      have hNext := next_rnd w.heap.size r.toNat r.toNat_lt wr R1.out
      rw [← hR'] at hNext
      have HN : Hid (R' = (xorNext r).toNat ∧ O = (xorNext r).toNat &&& (M - 1)) := by
        have e : R' = (xorNext r).toNat := by rw [hR', xorNext_toNat]
        exact ⟨e, by rw [hO, e]⟩
      clear hR' hO R1
      have hgr : w.heap.size ∉ [g] := by simp; omega
      have kk : ∀ {x y : World}, Kp [w.heap.size] x y → w.heap.size ≤ x.heap.size → Kp [g] w x → Kp [g] w y := fun {x y} k hx k0 => k0.then k (fun i hi => by simp at hi; subst hi; exact .inr (Nat.le_refl _))
      have nx : Hid (∀ w1, Kp [w.heap.size] wr w1 → St g cap n w w1 dk) := fun w1 k => ⟨kk k (by have := S1.kp.size; omega) S1.kp, S1.ro.keptS k (by simp; omega)⟩
      clear kk S1
      have hidx : ((a + L' / 4 * 2 - 1 + t : Nat) : Int) = (a : Int) + (L' : Int) / 4 * 2 - 1 + (t : Int) := by omega
      have HIDX := hide hidx
      clear hidx
      by_cases hLO : L' ≤ O
      · have hLOz : (L' : Int) ≤ (O : Int) := by omega
        have ho2 : Hid (((a + (O - L') : Nat) : Int) = (a : Int) + ((O : Int) - (L' : Int))) := (show _ = _ by omega)
        go_wp2_with (first | (go_at_call 46; refine hNext.mono ?_; rintro e w1 ⟨rfl, k1, R2⟩; clear hNext; have hs := swap_any g cap n dk w1 (nx.out w1 k1).ro (a + L' / 4 * 2 - 1 + t) (a + (O - L')) (by omega) (by omega); rw [HIDX.out, ho2.out] at hs; have R3 := hide R2; clear R2) | (go_at_call 68; refine hs.mono ?_; rintro e w2 ⟨rfl, k2, r2⟩; clear hs))
        go_roundg (3 - (t + 1))
        case measure => omega
        case rel => exact ⟨t + 1, xorNext r, swp dk (a + L' / 4 * 2 - 1 + t) (a + (O - L')), by congr 1; push_cast; omega, by omega, Nat.le_refl _, (nx.out w1 k1).then ⟨k2, r2⟩, by rw [← HN.out.1]; exact k2.heap R3.out hgr,
          (show Hid _ from by rw [← HR.out, bp_step a L' M _ t r dk (O - L') ht3 (by rw [← HN.out.2, if_pos (by omega)])]; exact rfl)⟩
      · have hLOz : ¬ (L' : Int) ≤ (O : Int) := by omega
        have ho2 : Hid (((a + O : Nat) : Int) = (a : Int) + (O : Int)) := (show _ = _ by omega)
        go_wp2_with (first | (go_at_call 46; refine hNext.mono ?_; rintro e w1 ⟨rfl, k1, R2⟩; clear hNext; have hs := swap_any g cap n dk w1 (nx.out w1 k1).ro (a + L' / 4 * 2 - 1 + t) (a + O) (by omega) (by omega); rw [HIDX.out, ho2.out] at hs; have R3 := hide R2; clear R2) | (go_at_call 68; refine hs.mono ?_; rintro e w2 ⟨rfl, k2, r2⟩; clear hs))
        go_roundg (3 - (t + 1))
        case measure => omega
        case rel => exact ⟨t + 1, xorNext r, swp dk (a + L' / 4 * 2 - 1 + t) (a + O), by congr 1; push_cast; omega, by omega, Nat.le_refl _, (nx.out w1 k1).then ⟨k2, r2⟩, by rw [← HN.out.1]; exact k2.heap R3.out hgr,
          (show Hid _ from by rw [← HR.out, bp_step a L' M _ t r dk O ht3 (by rw [← HN.out.2, if_neg (by omega)])]; exact rfl)⟩
    · obtain rfl : t = 3 := by omega
      have hle : ¬ ((a : Int) + (L' : Int) / 4 * 2 - 1 + ((3 : Nat) : Int) ≤ (a : Int) + (L' : Int) / 4 * 2 + 1) := by omega
      go_wp2
      go_end0
      refine ⟨rfl, ?_⟩
      rw [← HR.out]
      exact S1

set_option maxHeartbeats 1000000 in
theorem breakPatterns_st (g cap n a b : Nat) (d : Array En) (w : World) (hS : Ro g cap n w d) (hab : a ≤ b) (hb : b ≤ n) (hn : n < 256) :
    Calls Try.prog 38 #[.iface 47 (.slice (some ⟨g, 0, none⟩) n cap), .int .i64 a, .int .i64 b] w fun e w' =>
      e = .returned (.tuple #[]) ∧ St g cap n w w' (breakPatterns d a b) := by
  obtain ⟨L', rfl⟩ : ∃ L', b = a + L' := ⟨b - a, by omega⟩
  by_cases h8 : 8 ≤ L'
  · exact breakPatterns_go g cap n a L' d w hS hb hn h8
  · have hv : breakPatterns d a (a + L') = d := by unfold breakPatterns; simp only [Nat.add_sub_cancel_left]; rw [if_neg h8]
    rw [hv]
    have hLz : ((a : Int) + (L' : Int) - (a : Int)) = (L' : Int) := by omega
    have h8z : ¬ (8 : Int) ≤ (L' : Int) := by omega
    have S0 := St.start hS
    clear hS
    go_enter Try.func38, Try.ntmps38
    go_wp2
    go_end0
    exact ⟨rfl, S0⟩
end Go.Proofs.Ytlmbheobaiibeaa
