/-
  The contracts of the program's padded, laidDown and beginning.
-/
import Derived.Test.YtioflclfgkcpfaaDoorKHRow
namespace Go.Proofs.YtioflclfgkcpfaaDoor
open Go.RowKit

theorem Row.own {w : World} {base : Nat} {v : Value} {bs : List Int} (h : Row w base v bs) : ∀ k, v.ownBlock = some k → base ≤ k := by
  intro k hk
  rcases h.2 with ⟨rfl, _⟩ | ⟨g, cap, cur, rfl, hb, _⟩
  · cases hk
  · cases hk; exact hb
theorem Row.step {w w1 w2 : World} {v v' : Value} {bs : List Int} (h : Row w1 w.heap.size v bs) (k : Kp [] w w1) (s : RStep w1 v w2 v') : Kp [] w w2 :=
  k.then s.1 (fun i hi => .inr (h.own i (by simpa using hi)))
/-- One byte, in a block of its own. -/
theorem one_block (w : World) (x : Int) : Sl (w.alloc (.cells #[.int .u8 x] 5)) (.slice (some ⟨w.heap.size, 0, none⟩) 1 1) [x] :=
  Sl.block (cs := [x]) (t := 5) (heap_alloc_new w _) (by simp [maxLen])

theorem be8_take (n : Int) (j : Nat) (hj : j < 8) : (be8 n).take (j + 1) = (be8 n).take j ++ [n / 2 ^ (8 * (7 - j)) % 256] := by
  match j, hj with
  | 0, _ => rfl
  | 1, _ => rfl
  | 2, _ => rfl
  | 3, _ => rfl
  | 4, _ => rfl
  | 5, _ => rfl
  | 6, _ => rfl
  | 7, _ => simp [be8]

set_option maxRecDepth 100000 in
set_option maxHeartbeats 2000000 in
theorem padded_any (vr : Value) (rs : List Int) (N : Nat) (w : World) (hS : Sl w vr rs) (hl : rs.length < 64) (hN : N ≤ 1000000000000000) :
    Calls Tryd.prog 59 #[vr, .int .i64 N] w fun e w' => ∃ ao m c, e = .returned (.slice ao m c) ∧ Row w' w.heap.size (.slice ao m c) (pad rs N) ∧ Kp [] w w' := by
  obtain ⟨i0, hi0, hz0, hz1, hz2⟩ := info_parts Tryd.info5
  obtain ⟨ar, cr, rfl, h1, h2, h3, _⟩ := id hS
  have HSl := hide hS
  clear hS
  have hrl : (rs.length : Int) < 64 := by omega
  go_enter Tryd.func59, Tryd.ntmps59
  go_wp2_with (first
    | (at_make; refine wpList_make_own _ rfl _ _ 23 rfl w.heap.size 5 i0 (.int .u8 0) 1 Tryd.underlying23 hi0 hz0 hz1 .i64 .i64 128 128 rfl rfl rfl (by rw [hz2]; omega) (by unfold maxLen; omega) (Nat.le_refl _) ?_; intro w1 o1 g1; have K1 : Kp [] w w1 := (Kp.refl [] w).grown g1 (by intro k hk; cases hk); have R1 : Row w1 w.heap.size _ [] := o1; have HS1 := (unhide HSl).kept K1 (by simp))
    | (at_builtin; refine wpList_append_row rfl (.tmp 9) (.tmp 10) rfl w.heap.size _ [] rfl R1 _ rs rfl HS1 (by simp; omega) K1.size ?_; intro ao2 m2 c2 w2 r2 s2; have K2 := R1.step K1 s2; rw [List.nil_append] at r2)
    | (at_builtin; refine wpList_append_row rfl (.tmp 12) (.tmp 13) rfl w.heap.size _ rs rfl (r2.kept ((Kp.refl [] w2).alloc _) (by simp)) _ [128] rfl (one_block w2 128) (by simp; omega) (by have := K2.size; simp; omega) ?_; intro ao3 m3 c3 w3 r3 s3; have K3 := r2.step K2 (s3.after ((Kp.refl [] w2).alloc _))))
  clear R1 HS1 o1 g1 K1 s2 s3 r2 K2
  have hm3 := r3.len
  have hR3 : Row w3 w.heap.size (.slice ao3 m3 c3) (rs ++ [128] ++ List.replicate 0 0) := by simpa using r3
  have hR := hide hR3
  have hK3 := hide K3
  clear r3 hR3 K3 hm3
  go_loopw [5] (fun v wr => ∃ (z m c : Nat) (ao : Option Addr), z ≤ zeros rs.length ∧ v = .slice ao m c ∧ Row wr w.heap.size v (rs ++ [128] ++ List.replicate z 0) ∧ Kp [] w wr) (fun v _ => 200 - (match v with | .slice _ m _ => m | _ => 0))
  case atStart => exact ⟨0, m3, c3, ao3, by omega, rfl, unhide hR, unhide hK3⟩
  case round =>
    obtain ⟨z, m, c, ao, hz, rfl, Rr, Kr⟩ := hrel
    have hml := Rr.len
    simp only [List.length_append, List.length_replicate, List.length_cons, List.length_nil] at hml
    have hzb : zeros rs.length < 64 := by unfold zeros; omega
    by_cases hlt : z < zeros rs.length
    · have hne : ¬ ((m : Int) % 64 = 56) := by unfold zeros at hlt; omega
      have hmm : m ≤ 150 := by omega
      have HML := hide hml
      have hrb : (rs ++ [128] ++ List.replicate z (0 : Int)).length ≤ 150 := by simp; omega
      clear hml
      go_wp2_with (at_builtin; refine wpList_append_row rfl (.tmp 19) (.tmp 20) rfl w.heap.size _ _ rfl (Rr.kept ((Kp.refl [] wr).alloc _) (by simp)) _ [0] rfl (one_block wr 0) (by simp only [List.length_cons, List.length_nil]; omega) (by have := Kr.size; simp; omega) ?_; intro ao2 m2 c2 w2 r2 s2)
      have hm2 := r2.len
      simp only [List.length_append, List.length_replicate, List.length_cons, List.length_nil] at hm2
      go_roundw
      case rel =>
        refine ⟨z + 1, m2, c2, ao2, by omega, rfl, ?_, Rr.step Kr (s2.after ((Kp.refl [] wr).alloc _))⟩
        rw [List.replicate_succ', ← List.append_assoc]
        exact r2
      case measure => show 200 - m2 < 200 - m; have := unhide HML; omega
    · have hzz : z = zeros rs.length := by omega
      have he : (m : Int) % 64 = 56 := by rw [hzz] at hml; unfold zeros at hml; omega
      obtain ⟨pre, hpre⟩ : ∃ pre, pre = rs ++ [128] ++ List.replicate z 0 := ⟨_, rfl⟩
      have hpl : pre.length ≤ 128 := by rw [hpre]; simp; omega
      have hR9 : Row wr w.heap.size (.slice ao m c) (pre ++ (be8 (N * 8)).take 0) := by simpa [hpre] using Rr
      have HR9 := hide hR9
      have HK9 := hide Kr
      have HP : Hid (pre ++ (be8 (N * 8)).take 8 = pad rs N) := by
        show _ = _
        unfold pad
        rw [hpre, hzz, List.take_of_length_le (by simp [be8])]
      clear hpre Rr Kr hR9 hml hzz hlt hz hzb
      go_wp2_with fail
      obtain ⟨C, hC⟩ : ∃ C, C = (N : Int) * 8 := ⟨_, rfl⟩
      have hC0 : 0 ≤ C := by omega
      have hC1 : C ≤ 8000000000000000 := by omega
      rw [← hC] at HR9 HP
      simp only [← hC]
      clear hC he
      go_loopw [5, 7] (fun v i wr => ∃ (j m c : Nat) (ao : Option Addr), j ≤ 8 ∧ v = .slice ao m c ∧ i = .int .i64 (7 - (j : Int)) ∧ Row wr w.heap.size v (pre ++ (be8 C).take j) ∧ Kp [] w wr) (fun _ i _ => (intOf i + 1).toNat)
      case atStart => exact ⟨0, m, c, ao, by omega, rfl, rfl, unhide HR9, unhide HK9⟩
      case round =>
        obtain ⟨j, m, c, ao, hj, rfl, rfl, Rr, Kr⟩ := hrel
        by_cases hlt : j < 8
        · have hj2 : (j : Int) < 8 := by omega
          have hj3 : (j : Int) ≤ 7 := by omega
          have HT := hide (be8_take C j hlt)
          have hpj : (pre ++ (be8 C).take j).length ≤ 136 := by simp [be8]; omega
          obtain ⟨q, hq⟩ : ∃ q, q = pre ++ (be8 C).take j := ⟨_, rfl⟩
          rw [← hq] at hpj Rr
          have HQ := hide hq
          clear hq
          go_wp2_with (at_builtin; refine wpList_append_row rfl (.tmp 29) (.tmp 35) rfl w.heap.size _ _ rfl (Rr.kept ((Kp.refl [] wr).alloc _) (by simp)) _ [C / 2 ^ (8 * (7 - j)) % 256] rfl (one_block wr _) (by simp; omega) (by have := Kr.size; simp; omega) ?_; intro ao2 m2 c2 w2 r2 s2)
          go_roundw
          case rel =>
            refine ⟨j + 1, m2, c2, ao2, by omega, rfl, by go_num, ?_, Rr.step Kr (s2.after ((Kp.refl [] wr).alloc _))⟩
            rw [unhide HT, ← List.append_assoc, ← unhide HQ]
            exact r2
          case measure => simp [intOf]; omega
        · obtain rfl : j = 8 := by omega
          rw [unhide HP] at Rr
          go_wp2_with fail
          go_ret
          exact ⟨ao, m, c, rfl, Rr, Kr⟩

theorem lay8_snoc (s : List Int) (k : Nat) (hk : k < s.length) : lay8 (s.take (k + 1)) = lay8 (s.take k) ++ [s.getD k 0 / 16777216 % 256, s.getD k 0 / 65536 % 256, s.getD k 0 / 256 % 256, s.getD k 0 % 256] := by
  unfold lay8
  rw [List.take_succ_eq_append_getElem hk, List.flatMap_append]
  simp [List.getElem?_eq_getElem hk]
theorem lay8_len (s : List Int) : (lay8 s).length = 4 * s.length := by
  unfold lay8
  induction s with
  | nil => rfl
  | cons a s ih => simp only [List.flatMap_cons, List.length_append, ih, List.length_cons, List.length_nil]; omega

set_option maxRecDepth 100000 in
set_option maxHeartbeats 2000000 in
theorem laid_any (s : List Int) (w : World) (hs : s.length = 8) :
    Calls Tryd.prog 60 #[ag s] w fun e w' => ∃ ao m c, e = .returned (.slice ao m c) ∧ Row w' w.heap.size (.slice ao m c) (lay8 s) ∧ Kp [] w w' := by
  obtain ⟨i0, hi0, hz0, hz1, hz2⟩ := info_parts Tryd.info5
  have hi : (Tryd.prog.info? 80).map (·.size) = some s.length := by rw [hs]; exact Tryd.szW
  go_enter Tryd.func60, Tryd.ntmps60
  go_wp2_with (first
    | (refine wpList_box_ar (w := w) rfl 80 (.tmp 0) rfl _ rfl ?_; intro wa Aa Ka za)
    | (at_make; refine wpList_make_own _ rfl _ _ 23 rfl w.heap.size 5 i0 (.int .u8 0) 1 Tryd.underlying23 hi0 hz0 hz1 .i64 .i64 32 32 rfl rfl rfl (by rw [hz2]; omega) (by unfold maxLen; omega) (by omega) ?_; intro w1 o1 g1; have K1 : Kp [] wa w1 := (Kp.refl [] wa).grown g1 (by intro k hk; cases hk); have R1 : Row w1 w.heap.size _ [] := o1; have A1 := Aa.kept K1 (by simp))
    | (refine wpList_load_ar rfl 80 (.tmp 1) rfl w.heap.size rfl _ _ 8 22 A1 Tryd.underlying80 hi ?_))
  obtain ⟨b1, hb1⟩ : ∃ b, b = w.heap.size := ⟨_, rfl⟩
  have K2 := Ka.trans K1
  rw [za] at R1
  simp only [← hb1] at R1 ⊢
  have hR := hide R1
  have hK := hide K2
  have hbw : b1 ≤ w1.heap.size := by have := K2.size; omega
  have HB1 := hide hb1
  clear R1 K2 A1 K1 g1 o1 za Aa Ka hb1
  go_loopw [3, 8] (fun v i wr => ∃ (k m c : Nat) (ao : Option Addr), k ≤ 8 ∧ v = .slice ao m c ∧ i = .int .i64 k ∧ Row wr b1 v (lay8 (s.take k)) ∧ Kp [] w wr) (fun _ i _ => 8 - (intOf i).toNat)
  case atStart => exact ⟨0, 0, 32, some ⟨b1 + 1, 0, none⟩, by omega, rfl, rfl, unhide hR, unhide hK⟩
  case round =>
    obtain ⟨k, m, c, ao, hk, rfl, rfl, Rr, Kr⟩ := hrel
    by_cases hlt : k < 8
    · have hlt2 : (k : Int) < 8 := by omega
      have hix := fun W => indexW s k W hlt hs
      have hsn := lay8_snoc s k (by omega)
      obtain ⟨x, hx⟩ : ∃ x, x = s.getD k 0 := ⟨_, rfl⟩
      simp only [← hx] at hix hsn
      have HS := hide hsn
      have hll : (lay8 (s.take k)).length ≤ 32 := by rw [lay8_len]; simp; omega
      clear hx hsn
      go_wp2_with (at_builtin; refine wpList_append_row rfl (.tmp 11) (.tmp 23) rfl b1 _ _ rfl (Rr.kept ((Kp.refl [] wr).alloc _) (by simp)) _ [x / 16777216 % 256, x / 65536 % 256, x / 256 % 256, x % 256] rfl (Sl.block (cs := [x / 16777216 % 256, x / 65536 % 256, x / 256 % 256, x % 256]) (t := 5) (heap_alloc_new wr _) (by simp [maxLen])) (by simp only [List.length_cons, List.length_nil]; omega) (by have := Kr.size; have := unhide HB1; simp; omega) ?_; intro ao2 m2 c2 w2 r2 s2)
      go_roundw
      case rel =>
        refine ⟨k + 1, m2, c2, ao2, by omega, rfl, by go_num, ?_, ?_⟩
        · rw [unhide HS]; exact r2
        · rw [unhide HB1] at Rr
          exact Rr.step Kr (s2.after ((Kp.refl [] wr).alloc _))
      case measure => simp [intOf]; omega
    · obtain rfl : k = 8 := by omega
      rw [List.take_of_length_le (by omega)] at Rr
      go_wp2_with fail
      go_ret
      exact ⟨ao, m, c, rfl, (unhide HB1) ▸ Rr, Kr⟩

set_option maxRecDepth 100000 in
theorem beg_any (w : World) : Calls Tryd.prog 57 #[] w fun e w' => e = .returned (ag begin8) ∧ Kp [] w w' := by
  obtain ⟨i0, hi0, hz0⟩ := Tryd.zeroW
  go_enter Tryd.func57, Tryd.ntmps57
  go_wp2_with (first
    | (refine wpList_alloc_ar (w := w) rfl 80 rfl i0 _ hi0 hz0 ?_; intro w1 A1 K1 z1)
    | (refine wpList_store_ar rfl 80 (.tmp 0) (.tmp 1) rfl w.heap.size rfl _ _ begin8 A1 rfl rfl Tryd.szW ?_; intro w2 A2 K2 z2))
  refine bodyPost_ret (results_cell_row rfl _ w2 w.heap.size _ _ (0, 0) (.array 8 22) rfl A2 Tryd.underlying80 rfl Tryd.szW) rfl ?_
  exact ⟨rfl, K1.then K2 (by simp)⟩
end Go.Proofs.YtioflclfgkcpfaaDoor
