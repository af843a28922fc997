/-
  The contracts of the law package's helpers Roomy, Same and Intact at bytes over this seat's program.
-/
import Derived.Test.YtioflclfgkcpfaaDoorKHHex
import Derived.Laws.CopyOwn
import Derived.Deep.QuietTactic
import Derived.BigQuiet
import Derived.SizedLaws
import Derived.ProofKit
namespace Go.Proofs.YtioflclfgkcpfaaDoor
open Go.RowKit

theorem Sl.spot {w : World} {ao : Option Addr} {n c : Nat} {bs : List Int} (h : Sl w (.slice ao n c) bs) (h0 : 0 < n) :
    ∃ b off, ao = some ⟨b, off, none⟩ ∧ n = bs.length ∧ ∀ k (hk : k < bs.length), w.cell? ⟨b, off + k, none⟩ = some (.int .u8 bs[k]) := by
  obtain ⟨ao', c', he, h1, h2, h3, h4⟩ := h
  injection he with e1 e2 e3
  subst e1 e2 e3
  cases ao with
  | none => have := h3 rfl; omega
  | some a =>
    obtain ⟨b, off, spot⟩ := a
    have hc := h4 _ rfl 0 (.int .u8 bs[0]) (by simp [List.getElem?_eq_getElem h0])
    have hspot : spot = none := by simpa [Addr.add] using World.cell?_spot hc
    subst hspot
    refine ⟨b, off, rfl, rfl, fun k hk => ?_⟩
    have := h4 _ rfl k (.int .u8 bs[k]) (by simp [List.getElem?_eq_getElem hk])
    rwa [Addr.add_lit] at this
theorem owns_of_heap {w : World} {base g n : Nat} {ys : List Value} (hb : base ≤ g) (h : w.heap[g]? = some (.cells ys.toArray 5 (0, 0))) (hn : ys.length = n) (hm : n ≤ maxLen) :
    w.ownsRow base 5 1 (.slice (some ⟨g, 0, none⟩) n n) n ys :=
  ⟨by omega, .inr ⟨g, n, _, rfl, hb, h, Nat.le_refl _, hm, by simpa using hn, by rw [Nat.mul_one]; exact List.take_of_length_le (by simp; omega)⟩⟩
theorem Kp.of_below {w w' : World} (h : Below w.heap.size w w') : Kp [] w w' := ⟨h.os, h.tape, h.output, h.size, fun k hk _ => h.block k hk⟩

theorem made_row {w : World} {base g n : Nat} {xs : List Value} (h : w.ownsRow base 5 1 (.slice (some ⟨g, 0, none⟩) n n) n xs) : ∃ cur : List Value, w.heap[g]? = some (.cells cur.toArray 5 (0, 0)) ∧ cur.length = n := by
  rcases h.2 with ⟨h', _⟩ | ⟨g', cap, cur, h', _, hg, _, _, hs, _⟩
  · cases h'
  · cases h'
    exact ⟨cur.toList, by simpa using hg, by simpa using hs⟩
theorem copy_src {w w1 : World} {ao : Option Addr} {cs : List Value} {c : Nat} (hB : Below w.heap.size w w1) (h : ∀ a, ao = some a → ∀ j u, cs[j]? = some u → w.cell? (a.add j) = some u) (h3 : ao = none → c = 0) (hpos : c ≠ 0) : ∃ ad, ao = some ad ∧ ∀ j v, cs[j]? = some v → w1.cell? (ad.add j) = some v := by
  cases ao with
  | none => exact absurd (h3 rfl) hpos
  | some a => exact ⟨a, rfl, fun j u hu => (Kp.of_below hB).cell (h a rfl j u hu) (by simp)⟩

set_option maxRecDepth 100000 in
set_option maxHeartbeats 1000000 in
theorem roomy_any (v : Value) (bs : List Int) (mark : Int) (w : World) (hS : Sl w v bs) (hb : bs.length ≤ 140737488351232) :
    Calls Tryd.prog 11 #[v, .int .u8 mark] w fun e w' => ∃ g n, e = .returned (.slice (some ⟨g, 0, none⟩) n n) ∧ n = bs.length + 80 ∧ w'.ownsRow w.heap.size 5 1 (.slice (some ⟨g, 0, none⟩) n n) n ((bs ++ List.replicate 80 mark).map (Value.int .u8)) ∧ Kp [] w w' := by
  obtain ⟨i0, hi0, hz0, hz1, hz2⟩ := info_parts Tryd.info5
  obtain ⟨ao, c, rfl, h1, h2, h3, h4⟩ := hS
  have hlen : (bs.length : Int) ≤ 140737488351232 := by omega
  obtain ⟨cs, hcs⟩ : ∃ cs, cs = bs.map (Value.int .u8) := ⟨_, rfl⟩
  have hcl : cs.length = bs.length := by rw [hcs]; simp
  have hone : ∀ u ∈ cs, u.oneCell' = true := by rw [hcs]; simp [Value.oneCell']
  have hsrc : Hid (∀ a, ao = some a → ∀ j u, cs[j]? = some u → w.cell? (a.add j) = some u) := by rw [hcs]; exact h4
  have HC := hide hcs
  have HCL := hide hcl
  clear h4 hcs hcl
  obtain ⟨n, hn⟩ : ∃ n, n = bs.length + 80 := ⟨_, rfl⟩
  have HN := hide hn
  have hn2 : (bs.length : Int) + 80 = (n : Int) := by omega
  have hn3 : bs.length + 80 ≤ n := by omega
  clear hn
  go_enter Tryd.func11, Tryd.ntmps11
  have hszi : (Tryd.prog.info? 5).map (·.size) = some 1 := by rw [hi0]; simp [hz1]
  go_wp2_with (first
    | (at_make; refine wpList_make_full _ rfl _ _ 23 rfl w.heap.size 5 i0 (.int .u8 0) 1 Tryd.underlying23 hi0 hz0 hz1 .i64 .i64 _ _ n rfl rfl (by omega) (by omega) (by rw [hz2]; have := unhide HN; omega) (by unfold maxLen; have := unhide HN; omega) (Nat.le_refl _) ?_; intro w1 o1 g1; obtain ⟨cur, hcur, hcn⟩ : ∃ cur : List Value, w1.heap[w.heap.size]? = some (.cells cur.toArray 5 (0, 0)) ∧ cur.length = n := made_row o1; have B1 : Below w.heap.size w w1 := (Below.refl _ _).grown g1 (Nat.le_refl _) (by intro k hk; cases hk); have HB1 := hide B1; have HCN := hide hcn; have HCU := hide hcur; clear o1 g1 B1 hcn hcur)
    | (refine wpList_copy_splice rfl (.tmp 11) (.tmp 12) 23 23 rfl 5 Tryd.underlying23 hszi (some ⟨w.heap.size, 0, none⟩) ao n n bs.length c rfl rfl w.heap.size 0 cur 5 (unhide HCU) cs (by have := unhide HCL; have := unhide HN; unfold Nat.min; omega) (fun hpos => ⟨rfl, copy_src (unhide HB1) (unhide hsrc) (h3) (by have := unhide HCL; omega)⟩) (by have := unhide HCL; have := unhide HCN; omega) hone w.heap.size w (unhide HB1) (Nat.le_refl _) ?_; intro w2 H2 B2))
  have hrow : w2.ownsRow w.heap.size 5 1 (.slice (some ⟨w.heap.size, 0, none⟩) n n) n (splice cur 0 cs) := by
    have e1 := unhide HCN
    have e2 := unhide HCL
    have e3 := unhide HN
    exact owns_of_heap (Nat.le_refl _) H2.out (by rw [length_splice _ _ _ (by omega)]; exact e1) (by unfold maxLen; omega)
  have htk : (splice cur 0 cs).take bs.length = cs ++ List.replicate (bs.length - bs.length) (.int .u8 mark) := by
    unfold splice
    rw [List.take_zero, List.nil_append, List.take_left' (unhide HCL)]
    simp
  have K2 := Kp.of_below B2
  have hcn0 : n ≤ 140737488351312 := by have := unhide HN; omega
  clear H2 B2
  go_loopw [6] (fun j wr => ∃ k : Nat, bs.length ≤ k ∧ k ≤ n ∧ j = .int .i64 k ∧ Kp [] w wr ∧ ∃ ys : List Value, wr.ownsRow w.heap.size 5 1 (.slice (some ⟨w.heap.size, 0, none⟩) n n) n ys ∧ ys.take k = cs ++ List.replicate (k - bs.length) (.int .u8 mark)) (fun j _ => n - (intOf j).toNat)
  case atStart => exact ⟨bs.length, Nat.le_refl _, by omega, rfl, K2, _, hrow, htk⟩
  case round =>
    obtain ⟨k, hk1, hk2, rfl, K', ys, hr, ht⟩ := hrel
    clear hrow htk K2
    have hyl : ys.length = n := by have := hr.1; omega
    by_cases hlt : k < n
    · have hlt3 : (k : Int) < (n : Int) := by omega
      have hcj : wr.cell? ⟨w.heap.size, k, none⟩ = some ys[k] := by
        rw [hr.cellAt k (by omega)]; simp [List.getElem?_eq_getElem (show k < ys.length by omega)]
      have hfj := hr.frozenAt k
      have HZ : Hid ((wr.setCell ⟨w.heap.size, k, none⟩ (.int .u8 mark)).ownsRow w.heap.size 5 1 (.slice (some ⟨w.heap.size, 0, none⟩) n n) n (ys.set k (.int .u8 mark)) ∧ Kp [] w (wr.setCell ⟨w.heap.size, k, none⟩ (.int .u8 mark)) ∧ (ys.set k (.int .u8 mark)).take (k + 1) = cs ++ List.replicate (k + 1 - bs.length) (.int .u8 mark)) := by
        refine ⟨(hr.stored k (.int .u8 mark)).1, K'.setCell (p := ⟨w.heap.size, k, none⟩) (.inr (Nat.le_refl _)) _, ?_⟩
        rw [List.take_succ_eq_append_getElem (by simp; omega), List.take_set_of_le (Nat.le_refl _), ht, List.getElem_set_self, List.append_assoc, show k + 1 - bs.length = (k - bs.length) + 1 from by omega, List.replicate_succ']
      obtain ⟨old, hold⟩ : ∃ old, old = ys[k] := ⟨_, rfl⟩
      rw [← hold] at hcj
      clear hr K' ht hold hyl
      go_wp2_with fail
      go_roundw
      case rel => exact ⟨k + 1, by omega, by omega, by go_num, (unhide HZ).2.1, _, (unhide HZ).1, (unhide HZ).2.2⟩
      case measure => simp [intOf]; omega
    · obtain rfl : k = n := by omega
      have hys : ys = (bs ++ List.replicate 80 mark).map (Value.int .u8) := by
        rw [List.take_of_length_le (by omega)] at ht
        rw [ht, unhide HC, List.map_append, List.map_replicate, show k - bs.length = 80 from by have := unhide HN; omega]
      rw [hys] at hr
      clear hys ht
      go_wp2_with fail
      go_ret
      exact ⟨_, _, rfl, unhide HN, hr, K'⟩

set_option maxHeartbeats 1000000 in
theorem same_any (v1 v2 : Value) (bs : List Int) (w : World) (h1 : Sl w v1 bs) (h2 : Sl w v2 bs) :
    Calls Tryd.prog 24 #[v1, v2] w fun e w' => e = .returned (.bool true) ∧ Kp [] w w' := by
  have s1 := h1
  have s2 := h2
  obtain ⟨a1, c1, rfl, p1, p2, p3, p4⟩ := h1
  obtain ⟨a2, c2, rfl, q1, q2, q3, q4⟩ := h2
  unfold maxLen at p2
  have hlen : (bs.length : Int) ≤ 9223372036854775807 := by omega
  clear p4 q4
  go_enter Tryd.func24, Tryd.ntmps24
  go_wp2_with fail
  go_loopw [5] (fun j wr => ∃ k : Nat, k ≤ bs.length ∧ j = .int .i64 k ∧ Kp [] w wr) (fun j _ => bs.length - (intOf j).toNat)
  case atStart => exact ⟨0, by omega, rfl, Kp.refl _ _⟩
  case round =>
    obtain ⟨k, hk, rfl, K'⟩ := hrel
    by_cases hlt : k < bs.length
    · have hlt3 : (k : Int) < (bs.length : Int) := by omega
      have hk0 : (0 : Int) ≤ (k : Int) := by omega
      obtain ⟨b1, o1, rfl, _, d1⟩ := s1.spot (by omega)
      obtain ⟨b2, o2, rfl, _, d2⟩ := s2.spot (by omega)
      have e1 := K'.cell (d1 k hlt) (by simp)
      have e2 := K'.cell (d2 k hlt) (by simp)
      obtain ⟨y, hy⟩ : ∃ y, y = bs[k] := ⟨_, rfl⟩
      rw [← hy] at e1 e2
      clear d1 d2 hy s1 s2 p3 q3
      go_wp2_with fail
      go_quiet (fail)
      go_wp2_with fail
      go_roundw
      case rel => exact ⟨k + 1, by omega, by go_num, K'.trans (kp_drewN _ _)⟩
      case measure => simp [intOf]; omega
    · obtain rfl : k = bs.length := by omega
      clear s1 s2 p3 q3
      go_wp2_with fail
      go_ret
      exact ⟨rfl, K'⟩

set_option maxHeartbeats 1000000 in
theorem intact_any (v1 v2 : Value) (bs : List Int) (mark : Int) (w : World) (h1 : Sl w v1 (bs ++ List.replicate 80 mark)) (h2 : Sl w v2 bs) (hb : bs.length ≤ 140737488351232) :
    Calls Tryd.prog 13 #[v1, v2, .int .u8 mark] w fun e w' => e = .returned (.bool true) ∧ Kp [] w w' := by
  have s1 := h1
  have s2 := h2
  obtain ⟨a1, c1, rfl, p1, p2, p3, p4⟩ := h1
  obtain ⟨a2, c2, rfl, q1, q2, q3, q4⟩ := h2
  obtain ⟨F, hF⟩ : ∃ F, F = bs ++ List.replicate 80 mark := ⟨_, rfl⟩
  have hFl : F.length = bs.length + 80 := by rw [hF]; simp
  rw [← hF] at s1 p1
  rw [← hF]
  have hpre := s1.take bs.length (by omega)
  rw [show F.take bs.length = bs from by rw [hF]; simp] at hpre
  have hmk : ∀ k (h : k < F.length), bs.length ≤ k → F[k] = mark := fun k h hk => by
    subst hF
    rw [List.getElem_append_right hk, List.getElem_replicate]
  have HM := hide hmk
  have hlen : (bs.length : Int) ≤ 140737488351232 := by omega
  have hne : ((F.length : Int) != (bs.length : Int) + 80) = false := by rw [bne_eq_false_iff_eq]; omega
  have hc1 : (bs.length : Int) ≤ (c1 : Int) := by omega
  have HFL := hide hFl
  have hF2 : (F.length : Int) ≤ 140737488351312 := by omega
  have hF3 : bs.length ≤ F.length := by omega
  clear p4 q4 hF hmk hFl
  go_enter Tryd.func13, Tryd.ntmps13
  go_wp2_with fail
  refine (same_any _ _ bs _ hpre s2).mono ?_
  rintro e w1 ⟨rfl, k1⟩
  go_wp2_with fail
  go_loopw [7] (fun j wr => ∃ k : Nat, bs.length ≤ k ∧ k ≤ F.length ∧ j = .int .i64 k ∧ Kp [] w wr) (fun j _ => F.length - (intOf j).toNat)
  case atStart => exact ⟨bs.length, Nat.le_refl _, by omega, rfl, k1⟩
  case round =>
    obtain ⟨k, hk, hk2, rfl, K'⟩ := hrel
    by_cases hlt : k < F.length
    · have hlt3 : (k : Int) < (F.length : Int) := by omega
      obtain ⟨b1, o1, rfl, _, d1⟩ := s1.spot (by omega)
      have e1 := K'.cell (d1 k hlt) (by simp)
      rw [unhide HM k hlt hk] at e1
      clear d1 s1 s2 p3 q3 hpre
      go_wp2_with fail
      go_roundw
      case rel => exact ⟨k + 1, by omega, by omega, by go_num, K'⟩
      case measure => simp [intOf]; omega
    · obtain rfl : k = F.length := by omega
      clear s1 s2 p3 q3 hpre
      go_wp2_with fail
      go_ret
      exact ⟨rfl, K'⟩

end Go.Proofs.YtioflclfgkcpfaaDoor
