/-
  sort.order2, sort.median, sort.medianAdjacent, sort.choosePivot over the queue: they only compare.
-/
import Derived.Test.YtlmbheobaiibeaaQSortA
import Derived.Sort.Walk11
import Derived.Deep.RegionWith
namespace Go.Proofs.Ytlmbheobaiibeaa
open Go.RowKit Go.Sort Go.Lib

/-- The block cb is a number of its own. -/
def Box (w : World) (cb s : Nat) : Prop := w.heap[cb]? = some (.cells #[.int .i64 (s : Int)] 3 (0, 0))
section
variable {w w' : World} {cb s : Nat}
theorem Box.cell (h : Box w cb s) : w.cell? ⟨cb, 0, none⟩ = some (.int .i64 s) := by rw [cell_of_row w cb 0 _ 3 (0, 0) h]; rfl
theorem Box.frozen (h : Box w cb s) : w.frozen? ⟨cb, 0, none⟩ = false := frozen_of_row w cb 0 _ 3 h
theorem Box.kept (h : Box w cb s) {S : List Nat} (k : Kp S w w') (hn : cb ∉ S) : Box w' cb s := k.heap h hn
theorem Box.set (h : Box w cb s) (t : Nat) : Box (w.setCell ⟨cb, 0, none⟩ (.int .i64 (t : Int))) cb t := heap_setCell_one h
end
theorem ord2_lt (d : Array En) {a b n : Nat} (s : Nat) (ha : a < n) (hb : b < n) : (order2 ltE d a b s).1 < n ∧ (order2 ltE d a b s).2.1 < n := by
  unfold order2; split <;> exact ⟨by assumption, by assumption⟩
theorem ord2_swaps (d : Array En) (a b s : Nat) : (order2 ltE d a b s).2.2 ≤ s + 1 := by
  unfold order2; split <;> simp

set_option maxHeartbeats 1000000 in
set_option maxRecDepth 100000 in
theorem order2_st (g cap n : Nat) (d : Array En) (W : World) (hS : Ro g cap n W d) (a b cb s : Nat) (ha : a < n) (hb : b < n) (hB : Box W cb s) (hs : s < 1000) :
    Calls Try.prog 49 #[.iface 47 (.slice (some ⟨g, 0, none⟩) n cap), .int .i64 a, .int .i64 b, .pointer (some ⟨cb, 0, none⟩)] W fun e w' =>
      e = .returned (.tuple #[.int .i64 (order2 ltE d a b s).1, .int .i64 (order2 ltE d a b s).2.1]) ∧ Kp [cb] W w' ∧ Box w' cb (order2 ltE d a b s).2.2 := by
  have mL := q_less (some ⟨g, 0, none⟩) n cap
  have hl := less_any g cap n d W hS b a hb ha
  clear hS
  have HB := hide hB
  clear hB
  go_enter Try.func49, Try.ntmps49
  cases hlv : ltE d[b]! d[a]! with
  | true =>
    rw [hlv] at hl
    have e2 : order2 ltE d a b s = (b, a, s + 1) := by simp [order2, hlv]
    go_wp2_with (go_at_call 67; refine hl.mono ?_; rintro e w1 ⟨rfl, k1⟩; have cs := (HB.out.kept k1 (by simp)).cell; have fs := (HB.out.kept k1 (by simp)).frozen)
    go_ret2
    rw [e2]
    refine ⟨rfl, (k1.mono (by simp)).setCell (p := ⟨cb, 0, none⟩) (.inl (by simp)) _, ?_⟩
    have := (HB.out.kept k1 (by simp)).set (s + 1)
    rw [Int.natCast_add] at this
    exact this
  | false =>
    rw [hlv] at hl
    have e2 : order2 ltE d a b s = (a, b, s) := by simp [order2, hlv]
    go_wp2_with (go_at_call 67; refine hl.mono ?_; rintro e w1 ⟨rfl, k1⟩)
    go_ret2
    rw [e2]
    exact ⟨rfl, k1.mono (by simp), HB.out.kept k1 (by simp)⟩

set_option maxHeartbeats 1000000 in
set_option maxRecDepth 100000 in
theorem median_st (g cap n : Nat) (d : Array En) (W : World) (hS : Ro g cap n W d) (a b c cb s : Nat) (ha : a < n) (hb : b < n) (hc : c < n) (hB : Box W cb s) (hne : g ≠ cb) (hs : s < 900) :
    Calls Try.prog 48 #[.iface 47 (.slice (some ⟨g, 0, none⟩) n cap), .int .i64 a, .int .i64 b, .int .i64 c, .pointer (some ⟨cb, 0, none⟩)] W fun e w' =>
      e = .returned (.int .i64 (median ltE d a b c s).1) ∧ Kp [cb] W w' ∧ Box w' cb (median ltE d a b c s).2 := by
  obtain ⟨a1, b1, s1, h1⟩ : ∃ a1 b1 s1, order2 ltE d a b s = (a1, b1, s1) := ⟨_, _, _, rfl⟩
  obtain ⟨b2, c2, s2, h2⟩ : ∃ b2 c2 s2, order2 ltE d b1 c s1 = (b2, c2, s2) := ⟨_, _, _, rfl⟩
  obtain ⟨a3, b3, s3, h3⟩ : ∃ a3 b3 s3, order2 ltE d a1 b2 s2 = (a3, b3, s3) := ⟨_, _, _, rfl⟩
  have hm : median ltE d a b c s = (b3, s3) := by simp [median, h1, h2, h3]
  have l1 := ord2_lt d s ha hb; rw [h1] at l1
  have w1 := ord2_swaps d a b s; rw [h1] at w1
  have l2 := ord2_lt d s1 l1.2 hc; rw [h2] at l2
  have w2 := ord2_swaps d b1 c s1; rw [h2] at w2
  have c1 := order2_st g cap n d W hS a b cb s ha hb hB (by omega)
  rw [h1] at c1
  have C2 : Hid (∀ W', Kp [cb] W W' → Box W' cb s1 → Calls Try.prog 49 #[.iface 47 (.slice (some ⟨g, 0, none⟩) n cap), .int .i64 b1, .int .i64 c, .pointer (some ⟨cb, 0, none⟩)] W' fun e w' => e = .returned (.tuple #[.int .i64 b2, .int .i64 c2]) ∧ Kp [cb] W' w' ∧ Box w' cb s2) := fun W' k hB' => by
    have := order2_st g cap n d W' (hS.keptS k (by simpa using hne)) b1 c cb s1 l1.2 hc hB' (by simp at w1; omega)
    rw [h2] at this
    exact this
  have C3 : Hid (∀ W', Kp [cb] W W' → Box W' cb s2 → Calls Try.prog 49 #[.iface 47 (.slice (some ⟨g, 0, none⟩) n cap), .int .i64 a1, .int .i64 b2, .pointer (some ⟨cb, 0, none⟩)] W' fun e w' => e = .returned (.tuple #[.int .i64 a3, .int .i64 b3]) ∧ Kp [cb] W' w' ∧ Box w' cb s3) := fun W' k hB' => by
    have := order2_st g cap n d W' (hS.keptS k (by simpa using hne)) a1 b2 cb s2 l1.1 l2.1 hB' (by simp at w1 w2; omega)
    rw [h3] at this
    exact this
  rw [hm]
  clear h1 h2 h3 hm l1 l2 w1 w2 hS hB
  go_enter Try.func48, Try.ntmps48
  go_wp2_with (first
    | (go_at_call 49; refine c1.mono ?_; rintro e w1 ⟨rfl, k1, B1⟩; clear c1; have c2' := C2.out w1 k1 B1; have B1' := hide B1; clear B1)
    | (go_at_call 49; refine c2'.mono ?_; rintro e w2 ⟨rfl, k2, B2⟩; clear c2'; have c3' := C3.out w2 (k1.trans k2) B2; have B2' := hide B2; clear B2)
    | (go_at_call 49; refine c3'.mono ?_; rintro e w3 ⟨rfl, k3, B3⟩; clear c3'; have B3' := hide B3; clear B3))
  go_ret
  exact ⟨rfl, (k1.trans k2).trans k3, B3'.out⟩

set_option maxHeartbeats 1000000 in
set_option maxRecDepth 100000 in
theorem medianAdjacent_st (g cap n : Nat) (d : Array En) (W : World) (hS : Ro g cap n W d) (a cb s : Nat) (ha1 : 1 ≤ a) (ha2 : a + 1 < n) (hn : n ≤ 1000000) (hB : Box W cb s) (hne : g ≠ cb) (hs : s < 900) :
    Calls Try.prog 47 #[.iface 47 (.slice (some ⟨g, 0, none⟩) n cap), .int .i64 a, .pointer (some ⟨cb, 0, none⟩)] W fun e w' =>
      e = .returned (.int .i64 (medianAdjacent ltE d a s).1) ∧ Kp [cb] W w' ∧ Box w' cb (medianAdjacent ltE d a s).2 := by
  have hm := median_st g cap n d W hS (a - 1) a (a + 1) cb s (by omega) (by omega) ha2 hB hne hs
  rw [show ((a - 1 : Nat) : Int) = (a : Int) - 1 by omega, show ((a + 1 : Nat) : Int) = (a : Int) + 1 by omega] at hm
  have HB := hide hB
  clear hS hB
  go_enter Try.func47, Try.ntmps47
  go_wp2_with (go_at_call 48; refine hm.mono ?_; rintro e w1 ⟨rfl, k1, B1⟩)
  go_ret
  exact ⟨rfl, k1, B1⟩

theorem box_new (W : World) : Box (W.alloc (.cells #[.int .i64 0] 3)) W.heap.size 0 := heap_alloc_new W _

set_option maxHeartbeats 2000000 in
set_option maxRecDepth 100000 in
theorem choosePivot_st (g cap n : Nat) (d : Array En) (W : World) (hS : Ro g cap n W d) (a b : Nat) (hab : a < b) (hb : b ≤ n) (hn : n ≤ 1000000) :
    Calls Try.prog 39 #[.iface 47 (.slice (some ⟨g, 0, none⟩) n cap), .int .i64 a, .int .i64 b] W fun e w' =>
      e = .returned (.tuple #[.int .i64 (choosePivot ltE d a b).1, .int .i64 (hintCode (choosePivot ltE d a b).2)]) ∧ Kp [] W w' := by
  have hg := hS.lt
  have K0 : Kp [W.heap.size] W (W.alloc (.cells #[.int .i64 0] 3)) := (Kp.refl _ W).alloc _
  have B0 := hide (box_new W)
  have hne : g ≠ W.heap.size := by omega
  have fin : ∀ w', Kp [W.heap.size] W w' → Kp [] W w' := fun w' k => (Kp.refl [] W).then k (fun i hi => by simp at hi; subst hi; exact .inr (Nat.le_refl _))
  have FIN := hide fin
  have MA : Hid (∀ W' x s, Kp [W.heap.size] W W' → Box W' W.heap.size s → 1 ≤ x → x + 1 < n → s < 900 → Calls Try.prog 47 #[.iface 47 (.slice (some ⟨g, 0, none⟩) n cap), .int .i64 (x : Nat), .pointer (some ⟨W.heap.size, 0, none⟩)] W' fun e w' =>
      e = .returned (.int .i64 (medianAdjacent ltE d x s).1) ∧ Kp [W.heap.size] W w' ∧ Box w' W.heap.size (medianAdjacent ltE d x s).2) := fun W' x s k hB h1 h2 hs =>
    (medianAdjacent_st g cap n d W' (hS.keptS k (by simpa using hne)) x W.heap.size s h1 h2 hn hB hne hs).mono fun _ _ ⟨he, k', b'⟩ => ⟨he, k.trans k', b'⟩
  have MD : Hid (∀ W' x y z s, Kp [W.heap.size] W W' → Box W' W.heap.size s → x < n → y < n → z < n → s < 900 → Calls Try.prog 48 #[.iface 47 (.slice (some ⟨g, 0, none⟩) n cap), .int .i64 (x : Nat), .int .i64 (y : Nat), .int .i64 (z : Nat), .pointer (some ⟨W.heap.size, 0, none⟩)] W' fun e w' =>
      e = .returned (.int .i64 (median ltE d x y z s).1) ∧ Kp [W.heap.size] W w' ∧ Box w' W.heap.size (median ltE d x y z s).2) := fun W' x y z s k hB hx hy hz hs =>
    (median_st g cap n d W' (hS.keptS k (by simpa using hne)) x y z W.heap.size s hx hy hz hB hne hs).mono fun _ _ ⟨he, k', b'⟩ => ⟨he, k.trans k', b'⟩
  clear hS fin hne
  rw [choosePivot_eq]
  obtain ⟨I, hI⟩ : ∃ I : Nat, I = a + (b - a) / 4 * 1 := ⟨_, rfl⟩
  obtain ⟨J, hJ⟩ : ∃ J : Nat, J = a + (b - a) / 4 * 2 := ⟨_, rfl⟩
  obtain ⟨K, hK⟩ : ∃ K : Nat, K = a + (b - a) / 4 * 3 := ⟨_, rfl⟩
  have eI : ((a : Int) + ((b : Int) - (a : Int)) / 4) = (I : Int) := by omega
  have eJ : ((a : Int) + ((b : Int) - (a : Int)) / 4 * 2) = (J : Int) := by omega
  have eK : ((a : Int) + ((b : Int) - (a : Int)) / 4 * 3) = (K : Int) := by omega
  by_cases h8 : b - a ≥ 8
  · by_cases h50 : b - a ≥ 50
    · obtain ⟨i1, s1, h1⟩ : ∃ i1 s1, medianAdjacent ltE d I 0 = (i1, s1) := ⟨_, _, rfl⟩
      obtain ⟨j1, s2, h2⟩ : ∃ j1 s2, medianAdjacent ltE d J s1 = (j1, s2) := ⟨_, _, rfl⟩
      obtain ⟨k1, s3, h3⟩ : ∃ k1 s3, medianAdjacent ltE d K s2 = (k1, s3) := ⟨_, _, rfl⟩
      obtain ⟨p, s, h4⟩ : ∃ p s, median ltE d i1 j1 k1 s3 = (p, s) := ⟨_, _, rfl⟩
      have hraw : rawPivot ltE d a b = (p, s) := by simp only [rawPivot, if_pos h8, if_pos h50, ← hI, ← hJ, ← hK, h1, h2, h3, h4]
      have m1 := medianAdjacent_mem ltE d I 0; rw [h1] at m1
      have m2 := medianAdjacent_mem ltE d J s1; rw [h2] at m2
      have m3 := medianAdjacent_mem ltE d K s2; rw [h3] at m3
      have n1 := medianAdjacent_count ltE d I 0; rw [h1] at n1
      have n2 := medianAdjacent_count ltE d J s1; rw [h2] at n2
      have n3 := medianAdjacent_count ltE d K s2; rw [h3] at n3
      simp only [] at m1 m2 m3 n1 n2 n3
      have c1 := MA.out _ I 0 K0 B0.out (by omega) (by omega) (by omega)
      rw [h1] at c1
      have C2 : Hid (∀ W', Kp [W.heap.size] W W' → Box W' W.heap.size s1 → Calls Try.prog 47 #[.iface 47 (.slice (some ⟨g, 0, none⟩) n cap), .int .i64 (J : Nat), .pointer (some ⟨W.heap.size, 0, none⟩)] W' fun e w' => e = .returned (.int .i64 (j1 : Nat)) ∧ Kp [W.heap.size] W w' ∧ Box w' W.heap.size s2) := fun W' k hB => by
        have h := MA.out W' J s1 k hB (by omega) (by omega) (by omega); rw [h2] at h; exact h
      have C3 : Hid (∀ W', Kp [W.heap.size] W W' → Box W' W.heap.size s2 → Calls Try.prog 47 #[.iface 47 (.slice (some ⟨g, 0, none⟩) n cap), .int .i64 (K : Nat), .pointer (some ⟨W.heap.size, 0, none⟩)] W' fun e w' => e = .returned (.int .i64 (k1 : Nat)) ∧ Kp [W.heap.size] W w' ∧ Box w' W.heap.size s3) := fun W' k hB => by
        have h := MA.out W' K s2 k hB (by omega) (by omega) (by omega); rw [h3] at h; exact h
      have C4 : Hid (∀ W', Kp [W.heap.size] W W' → Box W' W.heap.size s3 → Calls Try.prog 48 #[.iface 47 (.slice (some ⟨g, 0, none⟩) n cap), .int .i64 (i1 : Nat), .int .i64 (j1 : Nat), .int .i64 (k1 : Nat), .pointer (some ⟨W.heap.size, 0, none⟩)] W' fun e w' => e = .returned (.int .i64 (p : Nat)) ∧ Kp [W.heap.size] W w' ∧ Box w' W.heap.size s) := fun W' k hB => by
        have h := MD.out W' i1 j1 k1 s3 k hB (by omega) (by omega) (by omega) (by omega); rw [h4] at h; exact h
      rw [hraw]
      obtain ⟨Hc, hHc⟩ : ∃ Hc : Int, Hc = hintCode (hintOf s) := ⟨_, rfl⟩
      have hh0 : Hid (s = 0 → Hc = 1) := fun h => by rw [hHc, h]; rfl
      have hh12 : Hid (s = 12 → Hc = 2) := fun h => by rw [hHc, h]; rfl
      have hhx : Hid (s ≠ 0 → s ≠ 12 → Hc = 0) := fun h1 h2 => by rw [hHc]; unfold hintOf; rw [if_neg h1, if_neg h2]; rfl
      show Calls Try.prog _ _ W fun e w' => e = .returned (.tuple #[.int .i64 (p : Int), .int .i64 (hintCode (hintOf s))]) ∧ Kp [] W w'
      rw [← hHc]
      clear hHc hraw h1 h2 h3 h4 MA MD hI hJ hK m1 m2 m3 B0
      go_enter Try.func39, Try.ntmps39
      go_wp2_with (first
        | (go_at_call 47; refine c1.mono ?_; rintro e w1 ⟨rfl, q1, B1⟩; clear c1; have c2 := C2.out w1 q1 B1; clear B1)
        | (go_at_call 47; refine c2.mono ?_; rintro e w2 ⟨rfl, q2, B2⟩; clear c2; have c3 := C3.out w2 q2 B2; clear B2)
        | (go_at_call 47; refine c3.mono ?_; rintro e w3 ⟨rfl, q3, B3⟩; clear c3; have c4 := C4.out w3 q3 B3; clear B3)
        | (go_at_call 48; refine c4.mono ?_; rintro e w4 ⟨rfl, q4, B4⟩; clear c4; have cS := B4.cell; clear B4))
      all_goals
        go_ret2
        refine ⟨?_, FIN.out _ q4⟩
        first
          | (have e0 : (s : Int) = 0 := of_beq_int (by assumption)
             rw [hh0.out (by omega)]; rfl)
          | (have e1 : (s : Int) = 12 := of_beq_int (by assumption)
             rw [hh12.out (by omega)]; rfl)
          | (have e0 : (s : Int) ≠ 0 := of_bne_int (by assumption)
             have e1 : (s : Int) ≠ 12 := of_bne_int (by assumption)
             rw [hhx.out (by omega) (by omega)]; rfl)
          | (rw [hh0.out (by omega)]; rfl)
    · obtain ⟨p, s, h4⟩ : ∃ p s, median ltE d I J K 0 = (p, s) := ⟨_, _, rfl⟩
      have hraw : rawPivot ltE d a b = (p, s) := by simp only [rawPivot, if_pos h8, if_neg h50, ← hI, ← hJ, ← hK, h4]
      have c4 := MD.out _ I J K 0 K0 B0.out (by omega) (by omega) (by omega) (by omega)
      rw [h4] at c4
      rw [hraw]
      obtain ⟨Hc, hHc⟩ : ∃ Hc : Int, Hc = hintCode (hintOf s) := ⟨_, rfl⟩
      have hh0 : Hid (s = 0 → Hc = 1) := fun h => by rw [hHc, h]; rfl
      have hh12 : Hid (s = 12 → Hc = 2) := fun h => by rw [hHc, h]; rfl
      have hhx : Hid (s ≠ 0 → s ≠ 12 → Hc = 0) := fun h1 h2 => by rw [hHc]; unfold hintOf; rw [if_neg h1, if_neg h2]; rfl
      show Calls Try.prog _ _ W fun e w' => e = .returned (.tuple #[.int .i64 (p : Int), .int .i64 (hintCode (hintOf s))]) ∧ Kp [] W w'
      rw [← hHc]
      clear hHc hraw h4 MA MD hI hJ hK B0
      go_enter Try.func39, Try.ntmps39
      go_wp2_with (go_at_call 48; refine c4.mono ?_; rintro e w4 ⟨rfl, q4, B4⟩; clear c4; have cS := B4.cell; clear B4)
      all_goals
        go_ret2
        refine ⟨?_, FIN.out _ q4⟩
        first
          | (have e0 : (s : Int) = 0 := of_beq_int (by assumption)
             rw [hh0.out (by omega)]; rfl)
          | (have e1 : (s : Int) = 12 := of_beq_int (by assumption)
             rw [hh12.out (by omega)]; rfl)
          | (have e0 : (s : Int) ≠ 0 := of_bne_int (by assumption)
             have e1 : (s : Int) ≠ 12 := of_bne_int (by assumption)
             rw [hhx.out (by omega) (by omega)]; rfl)
          | (rw [hh0.out (by omega)]; rfl)
  · have hraw : rawPivot ltE d a b = (J, 0) := by simp only [rawPivot, if_neg h8, ← hJ]
    rw [hraw]
    clear MA MD hI hJ hK hraw
    go_enter Try.func39, Try.ntmps39
    go_wp2
    go_ret2
    exact ⟨rfl, FIN.out _ K0⟩
end Go.Proofs.Ytlmbheobaiibeaa
