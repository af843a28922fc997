/-
  A region that draws its order, whose operations only read but for the last, which all others come ahead of: one walk serves.
-/
import Derived.Test.YtdioaohejoflcaaDoorM2
import Derived.StillTailTactics
import Derived.BigQuiet
import Derived.Deep.QuietTactic
import Derived.Maps.AppendAt
namespace Go.Proofs.YtdioaohejoflcaaDoor
open Go.RowKit

theorem still_of_quiet {P : Program} {ops : Array Oper} {w : World} {Q : Act → Prop} : ∀ (l : List Oper) (a : Act), wpQuiet P ops (fun w' => w' = w) Q l a → wpStill P ops w Q l a
  | [], _, h => h
  | o :: rest, a, h => by
    simp only [wpQuiet] at h
    simp only [wpStill]
    split
    · rename_i hw
      rw [if_pos hw] at h
      obtain ⟨v, h1, h2⟩ := h
      have h3 := h1 w rfl
      unfold Oper.quietAt at h3
      unfold Oper.still
      generalize (execOp a.eval o).run P w = r at *
      cases r with
      | ok n w' =>
        cases n <;> simp only [Oper.quietUpon] at h3 <;> simp only [Oper.stillUpon]
        case value u => obtain ⟨e1, e2⟩ := h3; subst e1; subst e2; exact ⟨rfl, still_of_quiet rest _ h2⟩
        case skip => obtain ⟨e1, e2⟩ := h3; subst e1; rw [e2] at h2; exact ⟨rfl, still_of_quiet rest _ h2⟩
        case enter f args => obtain ⟨e1, hc⟩ := h3; exact ⟨e1, v, hc, still_of_quiet rest _ h2⟩
      | halt x w' => simp only [Oper.quietUpon] at h3
    · rename_i hw
      rw [if_neg hw] at h
      exact still_of_quiet rest _ h

theorem region_tail {P : Program} {id : Nat} {Q : Exit → Act → World → Prop} {a : Act} {w : World} {l : List Oper} (n : Nat) (hm : P.follows .mixedOrders = true) (hB : Region.lexTailB .any l.toArray n = true)
    (h : wpQuiet P l.toArray (fun w' => w' = w.drew) (fun a' => wpList P l.toArray Q (l.drop n) a' w.drew) (l.take n) a) : (Code.region id l.toArray true).wp P Q a w :=
  wp_region_still_tail n hm hB (still_of_quiet _ _ h)

/-- all of it only reads, and no callee draws. -/
theorem region_read {P : Program} {id : Nat} {Q : Exit → Act → World → Prop} {a : Act} {w : World} {l : List Oper} (hm : P.follows .mixedOrders = true) (hB : Region.lexB .any l.toArray = true)
    (h : wpQuiet P l.toArray (fun w' => w' = w.drew) (fun a' => Q .normal a' w.drew) l a) : (Code.region id l.toArray true).wp P Q a w :=
  wp_region_still_lit hm hB (still_of_quiet _ _ h)
theorem Tryd.mixed : Tryd.prog.follows .mixedOrders = true := by kernel_rfl

theorem Sl.at {w : World} {vb : Value} {bs : List Int} {n : Nat} (h : Sl w vb bs) (hl : bs.length = n) (hn : 0 < n) : ∃ a c, vb = .slice (some a) n c ∧ n ≤ c ∧ c ≤ maxLen ∧ ∀ j, j < n → w.cell? (a.add j) = some (.int .u8 (bs.getD j 0)) := by
  obtain ⟨ab, cb, rfl, h1, h2, h3, h4⟩ := h
  cases ab with
  | none => have := h3 rfl; omega
  | some a => exact ⟨a, cb, by rw [hl], by omega, h2, fun j hj => h4 a rfl j _ (by simp [List.getElem?_eq_getElem (show j < bs.length by omega)])⟩
theorem add_at (a : Addr) (m n : Nat) : (⟨(a.add m).block, (a.add m).off + (n + 1), none⟩ : Addr) = a.add (m + (n + 1)) := by rw [← Addr.add_add, Addr.add_succ']
theorem Bs.at {bs : List Int} (h : Bs bs) (i : Nat) : 0 ≤ bs.getD i 0 ∧ bs.getD i 0 ≤ 255 := by
  rcases Nat.lt_or_ge i bs.length with hi | hi
  · rw [List.getD_eq_getElem?_getD, List.getElem?_eq_getElem hi]; exact h _ (List.getElem_mem hi)
  · rw [List.getD_eq_getElem?_getD, List.getElem?_eq_none hi]; simp
theorem kp_drew (w : World) : Kp [] w w.drew := ⟨rfl, rfl, rfl, Nat.le_refl _, fun _ _ _ => rfl⟩

theorem sch_len (bs : List Int) (n : Nat) : (sch bs n).length = n := by
  induction n with
  | zero => rfl
  | succ n ih => simp [sch, ih]
end Go.Proofs.YtdioaohejoflcaaDoor

/-
  The contract of the program's schedule: the words of a block.
-/
namespace Go.Proofs.YtdioaohejoflcaaDoor
open Go.RowKit
theorem sch_set (bs : List Int) (k : Nat) (hk : k < 64) (x : Int) (hx : sch bs (k + 1) = sch bs k ++ [x]) : (sch bs k ++ List.replicate (64 - k) 0).set k x = sch bs (k + 1) ++ List.replicate (64 - (k + 1)) 0 := by
  have h := sch_len bs k
  rw [hx, List.set_append_right _ _ (by omega), h, Nat.sub_self, show 64 - k = (64 - (k + 1)) + 1 by omega, List.replicate_succ, List.set_cons_zero, List.append_assoc]
  rfl
theorem ad4 (a b c d : Int) : ad (ad (ad a b) c) d = (a + b + c + d) % 4294967296 := by unfold ad; omega
set_option maxRecDepth 100000 in
theorem sched_any (vb : Value) (bs : List Int) (w : World) (hS : Sl w vb bs) (hl : bs.length = 64) (hB : Bs bs) : Calls Tryd.prog 91 #[vb] w fun e w' => e = .returned (ag (sch bs 64)) ∧ Kp [] w w' := by
  obtain ⟨i0, hi0, hz0⟩ := Tryd.zero64
  obtain ⟨ab, cb, rfl, h1, h2, h4⟩ := hS.at hl (by omega)
  have h1i : (64 : Int) ≤ (cb : Int) := by omega
  have H4 := hide h4
  have hab : ab.block < w.heap.size := by have := World.block_lt_of_cell? _ _ (h4 0 (by omega)); rwa [add_block] at this
  clear h4 hS
  go_enter Tryd.func91, Tryd.ntmps91
  go_wp2_with (first
    | (refine wpList_alloc_ar (w := w) rfl 103 rfl i0 _ hi0 hz0 ?_; intro wa Aa Ka za)
    | (refine wpList_alloc_ar (w := wa) rfl 103 rfl i0 _ hi0 hz0 ?_; intro w1 A1 K1 z1))
  obtain ⟨b1, hb1⟩ : ∃ b, b = w.heap.size := ⟨_, rfl⟩
  obtain ⟨b2, hb2⟩ : ∃ b, b = b1 + 1 := ⟨_, rfl⟩
  have hne : b1 ≠ b2 := by omega
  rw [← hb1] at Aa
  rw [za, ← hb1, ← hb2] at A1
  have K2 := Ka.trans K1
  have A2 := Aa.kept K1 (by simp)
  simp only [← hb1, ← hb2]
  have HC : Hid (∀ j, j < 64 → w1.cell? (ab.add j) = some (.int .u8 (bs.getD j 0))) := fun j hj => K2.cell (unhide H4 j hj) (by simp)
  have hbw : w.heap.size ≤ b2 := by omega
  have hbw1 : w.heap.size ≤ b1 := by omega
  clear H4 hb1 hb2 Ka K1 Aa za z1
  go_loopw [7] (fun i wr => ∃ k : Nat, k ≤ 16 ∧ i = .int .i64 k ∧ Kp [b2] w1 wr ∧ Ar wr b2 103 (sch bs k ++ List.replicate (64 - k) 0)) (fun i _ => 16 - (intOf i).toNat)
  case atStart => exact ⟨0, by omega, rfl, Kp.refl _ _, A1⟩
  case round =>
    obtain ⟨k, hk, rfl, Kr, Ak⟩ := hrel
    by_cases hlt : k < 16
    · have hlt2 : (k : Int) < 16 := by omega
      have hcbk : ¬ (cb = 4 * k) := by omega
      have hs4 : 4 * k + 4 - 4 * k = 4 := by omega
      have hck : ∀ j, j < 64 → wr.cell? (ab.add j) = some (.int .u8 (bs.getD j 0)) := fun j hj => Kr.cell (unhide HC j hj) (by rw [add_block]; simp; omega)
      obtain ⟨x0, hx0⟩ : ∃ x, x = bs.getD (4 * k) 0 := ⟨_, rfl⟩
      obtain ⟨x1, hx1⟩ : ∃ x, x = bs.getD (4 * k + 1) 0 := ⟨_, rfl⟩
      obtain ⟨x2, hx2⟩ : ∃ x, x = bs.getD (4 * k + 2) 0 := ⟨_, rfl⟩
      obtain ⟨x3, hx3⟩ : ∃ x, x = bs.getD (4 * k + 3) 0 := ⟨_, rfl⟩
      have hc0 := hck (4 * k) (by omega)
      have hc1 := hck (4 * k + 1) (by omega)
      have hc2 := hck (4 * k + 2) (by omega)
      have hc3 := hck (4 * k + 3) (by omega)
      rw [← hx0] at hc0
      rw [← add_at ab (4 * k) 0, ← hx1] at hc1
      rw [← add_at ab (4 * k) 1, ← hx2] at hc2
      rw [← add_at ab (4 * k) 2, ← hx3] at hc3
      have d0 := hB.at (4 * k)
      have d1 := hB.at (4 * k + 1)
      have d2 := hB.at (4 * k + 2)
      have d3 := hB.at (4 * k + 3)
      rw [← hx0] at d0
      rw [← hx1] at d1
      rw [← hx2] at d2
      rw [← hx3] at d3
      have hsch : sch bs (k + 1) = sch bs k ++ [wd x0 x1 x2 x3] := by simp only [sch, if_pos hlt, wordAt, hx0, hx1, hx2, hx3]
      have hset := sch_set bs k (by omega) _ hsch
      obtain ⟨ys, hys⟩ : ∃ ys, ys = sch bs k ++ List.replicate (64 - k) 0 := ⟨_, rfl⟩
      rw [← hys] at Ak hset
      have hyl : ys.length = 64 := by rw [hys]; simp [sch_len]; omega
      have hck' := Ak.cell k (by omega)
      have hfk := Ak.frozen k
      have HA := hide Ak
      have HS := hide hset
      have hkr := hide Kr
      obtain ⟨old, hold⟩ : ∃ old, old = ys.getD k 0 := ⟨_, rfl⟩
      rw [← hold] at hck'
      clear hck hx0 hx1 hx2 hx3 hsch hset hys Ak Kr hold
      go_wp2_with fail
      refine region_tail 24 Tryd.mixed (by kernel_rfl) ?_
      simp only [List.take_succ_cons, List.take_zero, List.drop_succ_cons, List.drop_zero]
      repeat (first | go_big_quiet_skip | (go_big_quiet_want; go_big_quiet_op; go_big_quiet_on))
      refine wpQuiet_nil ?_
      go_wp2_with fail
      go_roundw
      case rel =>
        refine ⟨k + 1, by omega, by go_num, ((unhide hkr).setCell (p := ⟨b2, k, none⟩) (.inl (by simp)) _).drew, ?_⟩
        rw [← unhide HS]
        exact (unhide HA).set k _
      case measure => simp [intOf]; omega
    · obtain rfl : k = 16 := by omega
      obtain ⟨w2, hw2⟩ : ∃ w2, w2 = wr := ⟨_, rfl⟩
      subst hw2
      have HK := hide Kr
      clear A1 Kr
      go_wp2_with fail
      go_loopw [6] (fun i wr => ∃ k : Nat, 16 ≤ k ∧ k ≤ 64 ∧ i = .int .i64 k ∧ Kp [b2] w1 wr ∧ Ar wr b2 103 (sch bs k ++ List.replicate (64 - k) 0)) (fun i _ => 64 - (intOf i).toNat)
      case atStart => exact ⟨16, by omega, by omega, rfl, unhide HK, Ak⟩
      case round =>
        obtain ⟨k, hk1, hk, rfl, Kr, Ar1⟩ := hrel
        clear Ak HK
        by_cases hlt : k < 64
        · have hlt2 : (k : Int) < 64 := by omega
          have hk2 : (16 : Int) ≤ (k : Int) := by omega
          have hnl : ¬ k < 16 := by omega
          obtain ⟨ys, hys⟩ : ∃ ys, ys = sch bs k ++ List.replicate (64 - k) 0 := ⟨_, rfl⟩
          have hgd : ∀ j, j < k → ys.getD j 0 = (sch bs k).getD j 0 := fun j hj => by
            rw [hys, List.getD_eq_getElem?_getD, List.getD_eq_getElem?_getD, List.getElem?_append_left (by rw [sch_len]; exact hj)]
          have hyl : ys.length = 64 := by rw [hys]; simp [sch_len]; omega
          have hset := fun x hx => sch_set bs k (by omega) x hx
          rw [← hys] at Ar1 hset
          obtain ⟨x0, hx0⟩ : ∃ x, x = ys.getD (k - 2) 0 := ⟨_, rfl⟩
          obtain ⟨x1, hx1⟩ : ∃ x, x = ys.getD (k - 7) 0 := ⟨_, rfl⟩
          obtain ⟨x2, hx2⟩ : ∃ x, x = ys.getD (k - 15) 0 := ⟨_, rfl⟩
          obtain ⟨x3, hx3⟩ : ∃ x, x = ys.getD (k - 16) 0 := ⟨_, rfl⟩
          have hc0 := Ar1.cell (k - 2) (by omega)
          have hc1 := Ar1.cell (k - 7) (by omega)
          have hc2 := Ar1.cell (k - 15) (by omega)
          have hc3 := Ar1.cell (k - 16) (by omega)
          rw [← hx0] at hc0
          rw [← hx1] at hc1
          rw [← hx2] at hc2
          rw [← hx3] at hc3
          have hsch : sch bs (k + 1) = sch bs k ++ [ad (ad (ad (sS1 x0) x1) (sS0 x2)) x3] := by
            simp only [sch, if_neg hnl, nextW, hx0, hx1, hx2, hx3]
            rw [hgd _ (by omega), hgd _ (by omega), hgd _ (by omega), hgd _ (by omega)]
          have HS := hide (hset _ hsch)
          have HA := hide Ar1
          have hkr := hide Kr
          have hck' := Ar1.cell k (by omega)
          have hfk := Ar1.frozen k
          obtain ⟨old, hold⟩ : ∃ old, old = ys.getD k 0 := ⟨_, rfl⟩
          rw [← hold] at hck'
          clear hx0 hx1 hx2 hx3 hsch hset hys Ar1 Kr hold hgd
          go_wp2_with fail
          refine region_tail 23 Tryd.mixed (by kernel_rfl) ?_
          simp only [List.take_succ_cons, List.take_zero, List.drop_succ_cons, List.drop_zero]
          repeat (first | go_big_quiet_skip | (go_big_quiet_want; go_big_quiet_op; first | go_big_quiet_on | (refine ⟨_, sS1_any _ _, ?_⟩; go_big_quiet_on) | (refine ⟨_, sS0_any _ _, ?_⟩; go_big_quiet_on)))
          refine wpQuiet_nil ?_
          go_wp2_with fail
          go_roundw
          case rel =>
            refine ⟨k + 1, by omega, by omega, by go_num, ((unhide hkr).setCell (p := ⟨b2, k, none⟩) (.inl (by simp)) _).drew, ?_⟩
            rw [← unhide HS, ad4]
            exact (unhide HA).set k _
          case measure => simp [intOf]; omega
        · obtain rfl : k = 64 := by omega
          have A3 := A2.kept Kr (by simpa using hne)
          have hl64 : (sch bs 64 ++ List.replicate (64 - 64) 0 : List Int) = sch bs 64 := by simp
          rw [hl64] at Ar1
          have hi : (Tryd.prog.info? 103).map (·.size) = some (sch bs 64).length := by rw [sch_len]; exact Tryd.sz64
          go_wp2_with (first
            | (refine wpList_load_ar rfl 103 (.tmp 3) rfl b2 rfl _ _ 64 70 Ar1 Tryd.underlying103 hi ?_)
            | (refine wpList_store_ar rfl 103 (.tmp 2) (.tmp 69) rfl b1 rfl _ _ _ A3 rfl (by rw [sch_len]; rfl) hi ?_; intro w9 A9 K9 z9))
          refine bodyPost_ret (results_cell_row rfl _ w9 b1 _ _ (0, 0) (.array 64 70) rfl A9 Tryd.underlying103 rfl (by simpa using hi)) rfl ?_
          refine ⟨rfl, ?_⟩
          exact (K2.then Kr (by simp; omega)).then K9 (by simp; omega)
end Go.Proofs.YtdioaohejoflcaaDoor

/-
  The contract of the program's mix: one block.
-/
namespace Go.Proofs.YtdioaohejoflcaaDoor
open Go.RowKit

/-- The table of the program's package, as its text lays it. -/
def Gl (w : World) : Prop := ∀ k, k < 64 → w.cell? ⟨0, k, none⟩ = some (.int .u32 (consts.getD k 0))
theorem Gl.pos {w : World} (h : Gl w) : 0 < w.heap.size := World.block_lt_of_cell? _ _ (h 0 (by omega))
theorem Gl.kept {w w' : World} {S : List Nat} (h : Gl w) (k : Kp S w w') (hs : 0 ∉ S) : Gl w' := fun j hj => k.cell (h j hj) hs
theorem rds_len (ws : List Int) (s : List Int) (hs : s.length = 8) : ∀ n, (rds ws s n).length = 8
  | 0 => hs
  | n + 1 => by
    have ih := rds_len ws s hs n
    simp only [rds]
    unfold rnd
    split
    · rfl
    · exact ih
theorem eight {s : List Int} (h : s.length = 8) : ∃ a b c d e f g i, s = [a, b, c, d, e, f, g, i] := by
  match s, h with
  | [a, b, c, d, e, f, g, i], _ => exact ⟨a, b, c, d, e, f, g, i, rfl⟩

theorem zip_step (tt s0 : List Int) (k : Nat) (h1 : k < tt.length) (h2 : k < s0.length) (ys : List Int) (hys : ys = List.zipWith ad (tt.take k) s0 ++ tt.drop k) :
    ys.set k (ad (ys.getD k 0) (s0.getD k 0)) = List.zipWith ad (tt.take (k + 1)) s0 ++ tt.drop (k + 1) := by
  have hz : (List.zipWith ad (tt.take k) s0).length = k := by simp; omega
  have e1 : ys.getD k 0 = tt[k] := by rw [hys, List.getD_eq_getElem?_getD, List.getElem?_append_right (by omega), hz, Nat.sub_self]; simp [List.getElem?_eq_getElem h1]
  have e2 : s0.getD k 0 = s0[k] := by simp [List.getElem?_eq_getElem h2]
  rw [e1, e2, hys, List.set_append_right _ _ (by omega), hz, Nat.sub_self, List.drop_eq_getElem_cons h1, List.set_cons_zero]
  have e3 : List.zipWith ad (tt.take (k + 1)) s0 = List.zipWith ad (tt.take k) s0 ++ [ad tt[k] s0[k]] := by
    refine List.ext_getElem (by simp; omega) (fun i hi1 hi2 => ?_)
    rcases Nat.lt_or_ge i k with hik | hik
    · rw [List.getElem_append_left (by omega)]; simp
    · have : i = k := by simp at hi1; omega
      subst this
      rw [List.getElem_append_right (by omega)]
      simp [hz]
  rw [e3, List.append_assoc]
  rfl
theorem ad5 (a b c d e : Int) : ad (ad (ad (ad a b) c) d) e = (a + b + c + d + e) % 4294967296 := by unfold ad; omega
theorem rnd_eq (a b c d e f g h k w : Int) : rnd [a, b, c, d, e, f, g, h] k w = [((h + bS1 e + chs e f g + k + w) % 4294967296 + (bS0 a + maj a b c) % 4294967296) % 4294967296, a, b, c, (d + (h + bS1 e + chs e f g + k + w) % 4294967296) % 4294967296, e, f, g] := by
  simp only [rnd, ad5]
  rfl
set_option maxRecDepth 100000 in
set_option maxHeartbeats 4000000 in
theorem mix_any (s : List Int) (vb : Value) (bs : List Int) (w : World) (hs : s.length = 8) (hS : Sl w vb bs) (hl : bs.length = 64) (hB : Bs bs) (hG : Gl w) : Calls Tryd.prog 90 #[ag s, vb] w fun e w' => e = .returned (ag (blk s bs)) ∧ Kp [] w w' := by
  obtain ⟨i0, hi0, hz0⟩ := Tryd.zeroW
  obtain ⟨ws, hws⟩ : ∃ ws, ws = sch bs 64 := ⟨_, rfl⟩
  have hwl : ws.length = 64 := by rw [hws]; exact sch_len _ _
  have HW := hide hws
  have HB : Hid (Bs bs) := hB
  have HG : Hid (Gl w) := hG
  have hpos := hG.pos
  have HSl : Hid (Sl w vb bs) := hS
  clear hws hB hG hS
  obtain ⟨a, b, c, d, e, f, g, h, rfl⟩ := eight hs
  go_enter Tryd.func90, Tryd.ntmps90
  go_wp2_with (first
    | (refine wpList_box_ar (w := w) rfl 109 (.tmp 0) rfl _ rfl ?_; intro wa Aa Ka za)
    | (refine wpList_alloc_ar (w := wa) rfl 109 rfl i0 _ hi0 hz0 ?_; intro w1 A1 K1 z1))
  obtain ⟨b1, hb1⟩ : ∃ b, b = w.heap.size := ⟨_, rfl⟩
  obtain ⟨b2, hb2⟩ : ∃ b, b = b1 + 1 := ⟨_, rfl⟩
  have hne : b1 ≠ b2 := by omega
  rw [← hb1] at Aa
  rw [za, ← hb1, ← hb2] at A1
  have K2 := Ka.trans K1
  have A2 := Aa.kept K1 (by simp)
  simp only [← hb1]
  have hbw : w.heap.size ≤ b2 := by omega
  have hbw1 : w.heap.size ≤ b1 := by omega
  have HSl1 : Hid (Sl w1 vb bs) := (unhide HSl).kept K2 (by simp)
  have HG1 : Hid (Gl w1) := (unhide HG).kept K2 (by simp)
  have za' : wa.heap.size = b2 := by omega
  clear hb1 hb2 Ka K1 Aa za
  have c0 := A2.cell 0 (by simp)
  have c1 := A2.cell 1 (by simp)
  have c2 := A2.cell 2 (by simp)
  have c3 := A2.cell 3 (by simp)
  have c4 := A2.cell 4 (by simp)
  have c5 := A2.cell 5 (by simp)
  have c6 := A2.cell 6 (by simp)
  have c7 := A2.cell 7 (by simp)
  simp only [List.getD_cons_zero, List.getD_cons_succ] at c0 c1 c2 c3 c4 c5 c6 c7
  simp only [za', Act.put, List.set_cons_zero, List.set_cons_succ, List.setIfInBounds_toArray]
  refine region_read Tryd.mixed (by kernel_rfl) ?_
  repeat (first | go_big_quiet_skip | (go_big_quiet_want; go_big_quiet_op; go_big_quiet_on))
  refine wpQuiet_nil ?_
  go_wp2_with fail
  refine region_read Tryd.mixed (by kernel_rfl) ?_
  repeat (first | go_big_quiet_skip | (go_big_quiet_want; go_big_quiet_op; go_big_quiet_on))
  refine wpQuiet_nil ?_
  have kd : Kp [] w1 w1.drew.drew := (kp_drew _).trans (kp_drew _)
  go_wp2_with (refine (sched_any vb bs _ ((unhide HSl1).kept kd (by simp)) hl (unhide HB)).mono ?_; rintro ee w3 ⟨rfl, K3⟩; rw [← unhide HW])
  have K13 := kd.trans K3
  have HK13 := hide K13
  have HK2 := hide K2
  have A3 := A2.kept K13 (by simp)
  have A4 := A1.kept K13 (by simp)
  have HA3 := hide A3
  have HA4 := hide A4
  have HG3 : Hid (Gl w3) := (unhide HG1).kept K13 (by simp)
  have hsz : w.heap.size ≤ w3.heap.size := Nat.le_trans K2.size K13.size
  obtain ⟨s0, hs0⟩ : ∃ s, s = [a, b, c, d, e, f, g, h] := ⟨_, rfl⟩
  have hs08 : s0.length = 8 := by rw [hs0]; rfl
  have HS0 := hide hs0
  simp only [← hs0] at HA3 ⊢
  have hrd0 : rds ws s0 0 = [a, b, c, d, e, f, g, h] := hs0
  have HR0 := hide hrd0
  clear c0 c1 c2 c3 c4 c5 c6 c7 A1 A2 kd K3 K13 K2 A3 A4 HSl HSl1 HG HG1 hs hs0 z1 za' hrd0
  go_loopw [5, 6, 7, 8, 9, 10, 11, 12, 37] (fun va vb vc vd ve vf vg vh i wr => ∃ (k n : Nat) (a b c d e f g h : Int), k ≤ 64 ∧ i = .int .i64 k ∧ va = .int .u32 a ∧ vb = .int .u32 b ∧ vc = .int .u32 c ∧ vd = .int .u32 d ∧ ve = .int .u32 e ∧ vf = .int .u32 f ∧ vg = .int .u32 g ∧ vh = .int .u32 h ∧ rds ws s0 k = [a, b, c, d, e, f, g, h] ∧ wr = w3.drewN n) (fun _ _ _ _ _ _ _ _ i _ => 64 - (intOf i).toNat)
  case atStart => exact ⟨0, 0, a, b, c, d, e, f, g, h, by omega, rfl, rfl, rfl, rfl, rfl, rfl, rfl, rfl, rfl, unhide HR0, rfl⟩
  case round =>
    clear HR0
    obtain ⟨k, n, a', b', c', d', e', f', g', h', hk, rfl, rfl, rfl, rfl, rfl, rfl, rfl, rfl, rfl, hrd, rfl⟩ := hrel
    by_cases hlt : k < 64
    · have hlt2 : (k : Int) < 64 := by omega
      have hix := fun W => index64 ws k W hlt hwl
      have hgl := unhide HG3 k hlt
      obtain ⟨x, hx⟩ : ∃ x, x = ws.getD k 0 := ⟨_, rfl⟩
      obtain ⟨y, hy⟩ : ∃ y, y = consts.getD k 0 := ⟨_, rfl⟩
      rw [← hy] at hgl
      simp only [← hx] at hix
      have hnx : rds ws s0 (k + 1) = rnd [a', b', c', d', e', f', g', h'] y x := by simp only [rds, hrd, hx, hy]
      have HN := hide hnx
      clear hx hy hrd hnx
      go_wp2_with fail
      refine region_read Tryd.mixed (by kernel_rfl) ?_
      repeat (first | go_big_quiet_skip | (go_big_quiet_want; go_big_quiet_op; first | go_big_quiet_on | (refine ⟨_, bS1_any _ _, ?_⟩; go_big_quiet_on) | (refine ⟨_, chs_any _ _ _ _, ?_⟩; go_big_quiet_on)))
      refine wpQuiet_nil ?_
      go_wp2_with (first
        | (go_at_call 94; refine (bS0_any _ _).mono ?_; rintro ee w5 ⟨rfl, hw5⟩; subst w5)
        | (go_at_call 95; refine (maj_any _ _ _ _).mono ?_; rintro ee w5 ⟨rfl, hw5⟩; subst w5))
      go_roundw
      case rel => exact ⟨k + 1, n + 1, _, _, _, _, _, _, _, _, by omega, by go_num, rfl, rfl, rfl, rfl, rfl, rfl, rfl, rfl, (unhide HN).trans (rnd_eq ..), rfl⟩
      case measure => simp [intOf]; omega
    · obtain rfl : k = 64 := by omega
      clear hk hlt
      have HR := hide hrd
      clear hrd
      obtain ⟨w4, hw4⟩ : ∃ w4, w4 = w3.drewN n := ⟨_, rfl⟩
      have K34 : Kp [] w3 w4 := by rw [hw4]; exact kp_drewN w3 n
      rw [← hw4]
      have HK := hide (((unhide HK2).trans (unhide HK13)).trans K34)
      have HB1 := hide ((unhide HA3).kept K34 (by simp))
      have HB2 := hide ((unhide HA4).kept K34 (by simp))
      have hsz4 : w.heap.size ≤ w4.heap.size := Nat.le_trans hsz K34.size
      have hl1 := (unhide HB1).lt
      have hl2 := (unhide HB2).lt
      clear hw4 K34 HK2 HK13 HA3 HA4 HG3 hsz
      go_wp2_with (first
        | (refine wpList_alloc_ar (w := w4) rfl 109 rfl i0 _ hi0 hz0 ?_; intro w5 A5 K5 z5)
        | (refine wpList_store_ar rfl 109 (.tmp 17) (.tmp 84) rfl w4.heap.size rfl _ _ [a', b', c', d', e', f', g', h'] A5 rfl rfl Tryd.szW ?_; intro w6 A6 K6 z6))
      obtain ⟨b3, hb3⟩ : ∃ b, b = w4.heap.size := ⟨_, rfl⟩
      rw [← hb3] at A5 A6 K6 hl1 hl2
      simp only [← hb3]
      have A7 := (((unhide HB1).kept K5 (by simp)).kept K6 (by simp; omega))
      have A8 := (((unhide HB2).kept K5 (by simp)).kept K6 (by simp; omega))
      have K7 : Kp [] w w6 := ((unhide HK).trans K5).then K6 (by simp; omega)
      obtain ⟨tt, htt⟩ : ∃ tt, tt = [a', b', c', d', e', f', g', h'] := ⟨_, rfl⟩
      rw [← htt] at A6 HR
      have htl : tt.length = 8 := by rw [htt]; rfl
      have hA7 := hide A7
      have hA8 := hide A8
      have hK7 := hide K7
      have h0 : tt = List.zipWith ad (tt.take 0) s0 ++ tt.drop 0 := by simp
      rw [h0] at A6
      have hA6 := hide A6
      have hbw3 : w.heap.size ≤ b3 := by omega
      clear hb3 A5 K5 z5 K6 z6 A7 A8 K7 htt HB1 HB2 HK A6 h0 hsz4
      go_loopw [85] (fun i wr => ∃ k : Nat, k ≤ 8 ∧ i = .int .i64 k ∧ Kp [b3] w6 wr ∧ Ar wr b3 109 (List.zipWith ad (tt.take k) s0 ++ tt.drop k)) (fun i _ => 8 - (intOf i).toNat)
      case atStart => exact ⟨0, by omega, rfl, Kp.refl _ _, unhide hA6⟩
      case round =>
        obtain ⟨k, hk, rfl, Kr, Ak⟩ := hrel
        clear hA6
        have A9 := (unhide hA7).kept Kr (by simp; omega)
        by_cases hlt : k < 8
        · have hlt2 : (k : Int) < 8 := by omega
          obtain ⟨ys, hys⟩ : ∃ ys, ys = List.zipWith ad (tt.take k) s0 ++ tt.drop k := ⟨_, rfl⟩
          have hz : (List.zipWith ad (tt.take k) s0).length = k := by simp; omega
          have hyl : ys.length = 8 := by rw [hys]; simp [hz]; omega
          have hset : ys.set k (ad (ys.getD k 0) (s0.getD k 0)) = List.zipWith ad (tt.take (k + 1)) s0 ++ tt.drop (k + 1) := zip_step tt s0 k (by omega) (by omega) ys hys
          rw [← hys] at Ak
          have hc1 := Ak.cell k (by omega)
          have hc2 := A9.cell k (by omega)
          have hfk := Ak.frozen k
          obtain ⟨x, hx⟩ : ∃ x, x = ys.getD k 0 := ⟨_, rfl⟩
          obtain ⟨y, hy⟩ : ∃ y, y = s0.getD k 0 := ⟨_, rfl⟩
          rw [← hx] at hc1 hset
          rw [← hy] at hc2 hset
          have HS := hide hset
          have HA := hide Ak
          have hkr := hide Kr
          clear hx hy hset Ak Kr A9 hys hz
          go_wp2_with fail
          refine region_tail 8 Tryd.mixed (by kernel_rfl) ?_
          simp only [List.take_succ_cons, List.take_zero, List.drop_succ_cons, List.drop_zero]
          repeat (first | go_big_quiet_skip | (go_big_quiet_want; go_big_quiet_op; go_big_quiet_on))
          refine wpQuiet_nil ?_
          go_wp2_with fail
          go_roundw
          case rel =>
            refine ⟨k + 1, by omega, by go_num, ((unhide hkr).setCell (p := ⟨b3, k, none⟩) (.inl (by simp)) _).drew, ?_⟩
            rw [← unhide HS]
            exact (unhide HA).set k _
          case measure => simp [intOf]; omega
        · obtain rfl : k = 8 := by omega
          have A10 := (unhide hA8).kept Kr (by simp; omega)
          have hfin : List.zipWith ad (tt.take 8) s0 ++ tt.drop 8 = blk s0 bs := by
            rw [List.take_of_length_le (by omega), List.drop_of_length_le (by omega), List.append_nil]
            unfold blk
            rw [← unhide HW, unhide HR]
          rw [hfin] at Ak
          have hbl : (blk s0 bs).length = 8 := by rw [← hfin]; simp; omega
          have hi : (Tryd.prog.info? 109).map (·.size) = some (blk s0 bs).length := by rw [hbl]; exact Tryd.szW
          go_wp2_with (first
            | (refine wpList_load_ar rfl 109 (.tmp 17) rfl b3 rfl _ _ 8 70 Ak Tryd.underlying109 hi ?_)
            | (refine wpList_store_ar rfl 109 (.tmp 4) (.tmp 97) rfl b2 rfl _ _ _ A10 rfl (by rw [hbl]; rfl) hi ?_; intro w9 A9 K9 z9))
          refine bodyPost_ret (results_cell_row rfl _ w9 b2 _ _ (0, 0) (.array 8 70) rfl A9 Tryd.underlying109 rfl (by simpa using hi)) rfl ?_
          refine ⟨?_, ?_⟩
          · rw [← unhide HS0]; rfl
          · exact ((unhide hK7).then Kr (by simp; omega)).then K9 (by simp; omega)
end Go.Proofs.YtdioaohejoflcaaDoor

/-
  The contract of the program's mixAll: all blocks of a text that has whole ones alone.
-/
namespace Go.Proofs.YtdioaohejoflcaaDoor
open Go.RowKit

theorem quiet_load_ar {o : Oper} {a : Act} {w : World} {K : Act → Prop} (ty : TypeId) (x : Operand) (ho : o.op = .load ty x) (b : Nat) (hx : a.eval x = .pointer (some ⟨b, 0, none⟩)) (t : TypeId) (s : List Int) (n : Nat) (e : TypeId) (hA : Ar w b t s)
    (hu : Tryd.prog.underlying ty = some (.array n e)) (hi : (Tryd.prog.info? ty).map (·.size) = some s.length) (h : K (a.put o.dst (ag s))) : o.quiet Tryd.prog a (fun w' => w' = w) K := by
  refine ⟨ag s, fun w' hw => ?_, h⟩
  subst hw
  unfold Oper.quietAt execOp
  simp only [ho, hx, Instr.loadAt, Instr.sureAddr, Sem.run_bind, Sem.run_pure, Result.andThen_ok, run_loadVar_row w' b t ty _ (0, 0) (.array n e) hA hu rfl (by simpa using hi), Oper.quietUpon]
  exact ⟨trivial, rfl⟩
theorem Sl.sub {w : World} {a : Addr} {len c : Nat} {bs : List Int} (h : Sl w (.slice (some a) len c) bs) (i m : Nat) (hm : 0 < m) (hi : i + m ≤ bs.length) : Sl w (.slice (some (a.add i)) m (c - i)) ((bs.drop i).take m) := by
  have hc : bs.length ≤ c := by obtain ⟨_, _, e, h1, _⟩ := h; cases e; exact h1
  have h1 := h.drop i (by omega)
  rw [if_neg (by omega)] at h1
  have h2 := h1.take m (by simp; omega)
  exact h2
theorem Bs.take {bs : List Int} (h : Bs bs) (n : Nat) : Bs (bs.take n) := fun b hb => h b (List.mem_of_mem_take hb)
theorem Bs.drop {bs : List Int} (h : Bs bs) (n : Nat) : Bs (bs.drop n) := fun b hb => h b (List.mem_of_mem_drop hb)
theorem blk_len (s bs : List Int) (h : s.length = 8) : (blk s bs).length = 8 := by
  unfold blk
  simp [rds_len _ _ h, h]
theorem blks_len (s bs : List Int) (h : s.length = 8) : ∀ n, (blks n s bs).length = 8
  | 0 => h
  | n + 1 => blk_len _ _ (blks_len s bs h n)

set_option maxRecDepth 100000 in
set_option maxHeartbeats 2000000 in
theorem mixAll_any (s : List Int) (vb : Value) (bs : List Int) (n : Nat) (w : World) (hs : s.length = 8) (hS : Sl w vb bs) (hl : bs.length = 64 * n) (hn : n ≤ 1000000000000) (hB : Bs bs) (hG : Gl w) : Calls Tryd.prog 87 #[ag s, vb] w fun e w' => e = .returned (ag (blks n s bs)) ∧ Kp [] w w' := by
  obtain ⟨i0, hi0, hz0⟩ := Tryd.zeroW
  have HB : Hid (Bs bs) := hB
  have HG : Hid (Gl w) := hG
  have hpos := hG.pos
  have HSl : Hid (Sl w vb bs) := hS
  obtain ⟨ab, cb, rfl, h1, h2, h3, _⟩ := hS
  rw [hl] at h1 HSl ⊢
  have h1i : 64 * (n : Int) ≤ (cb : Int) := by omega
  clear hB hG
  go_enter Tryd.func87, Tryd.ntmps87
  go_wp2_with (first
    | (refine wpList_box_ar (w := w) rfl 109 (.tmp 0) rfl _ rfl ?_; intro wa Aa Ka za)
    | (refine wpList_alloc_ar (w := wa) rfl 109 rfl i0 _ hi0 hz0 ?_; intro w1 A1 K1 z1))
  obtain ⟨b1, hb1⟩ : ∃ b, b = w.heap.size := ⟨_, rfl⟩
  obtain ⟨b2, hb2⟩ : ∃ b, b = b1 + 1 := ⟨_, rfl⟩
  have hne : b1 ≠ b2 := by omega
  rw [← hb1] at Aa
  rw [za, ← hb1, ← hb2] at A1
  have K2 := Ka.trans K1
  have A2 := Aa.kept K1 (by simp)
  simp only [← hb1, ← hb2]
  have hbw : w.heap.size ≤ b2 := by omega
  have hbw1 : w.heap.size ≤ b1 := by omega
  have hA1 := hide A1
  have hA2 := hide A2
  have hK2 := hide K2
  clear hb1 hb2 Ka K1 Aa za A1 A2 K2 z1
  go_loopw [5] (fun i wr => ∃ k : Nat, k ≤ n ∧ i = .int .i64 (64 * k : Int) ∧ Kp [b1] w1 wr ∧ Ar wr b1 109 (blks k s bs)) (fun i _ => 64 * n - (intOf i).toNat)
  case atStart => exact ⟨0, by omega, rfl, Kp.refl _ _, unhide hA2⟩
  case round =>
    obtain ⟨k, hk, rfl, Kr, Ak⟩ := hrel
    have hlk := blks_len s bs hs k
    by_cases hlt : k < n
    · have hlt2 : (k : Int) < (n : Int) := by omega
      cases ab with
      | none => have := h3 rfl; omega
      | some ab =>
      have Kw : Kp [b1] w wr := ((unhide hK2).mono (by simp)).trans Kr
      have Sr := (unhide HSl).old Kw (by intro i _ hi; simp; omega)
      have Sk := hide (Sr.sub (64 * k) 64 (by omega) (by omega))
      have HKr := hide Kr
      have HA := hide Ak
      have hcb : ¬ (cb = 64 * k) := by omega
      have hs6 : 64 * k + 64 - 64 * k = 64 := by omega
      have hi : (Tryd.prog.info? 109).map (·.size) = some (blks k s bs).length := by rw [hlk]; exact Tryd.szW
      have AD : Ar wr.drew b1 109 (blks k s bs) := Ak
      obtain ⟨sk, hsk⟩ : ∃ sk, sk = blks k s bs := ⟨_, rfl⟩
      have HSK := hide hsk
      rw [← hsk] at HA AD hi hlk
      have hAD := hide AD
      clear Kr Ak Kw Sr AD hsk
      go_wp2_with fail
      refine region_tail 6 Tryd.mixed (by kernel_rfl) ?_
      simp only [List.take_succ_cons, List.take_zero, List.drop_succ_cons, List.drop_zero]
      go_big_quiet_want
      refine quiet_load_ar 109 (.tmp 2) rfl b1 rfl _ sk 8 70 (unhide hAD) Tryd.underlying109 hi ?_
      simp only [Act.put, List.set_cons_zero, List.set_cons_succ, List.setIfInBounds_toArray]
      go_big_quiet_on
      repeat (first | go_big_quiet_skip | (go_big_quiet_want; go_big_quiet_op; go_big_quiet_on))
      refine wpQuiet_nil ?_
      have hb64 : ((bs.drop (64 * k)).take 64).length = 64 := by simp; omega
      have GD : Gl wr.drew := ((unhide HG).kept (((unhide hK2).mono (by simp)).trans (unhide HKr) : Kp [b1] w wr) (by simp; omega)).kept (kp_drew wr) (by simp)
      have HGD := hide GD
      clear GD
      go_wp2_with (first
        | (refine (mix_any sk _ _ _ hlk ((unhide Sk).kept (kp_drew wr) (by simp)) hb64 (((unhide HB).drop _).take _) (unhide HGD)).mono ?_; rintro ee w5 ⟨rfl, K5⟩; have A5 := (unhide hAD).kept K5 (by simp); have hbl := blk_len sk ((bs.drop (64 * k)).take 64) hlk; have hi5 : (Tryd.prog.info? 109).map (·.size) = some (blk sk ((bs.drop (64 * k)).take 64)).length := by rw [hbl]; exact Tryd.szW)
        | (refine wpList_store_ar rfl 109 (.tmp 2) (.tmp 18) rfl b1 rfl _ _ _ A5 rfl (by rw [hbl]; exact hlk) hi5 ?_; intro w6 A6 K6 z6))
      go_roundw
      case rel =>
        refine ⟨k + 1, by omega, by go_num, ?_, ?_⟩
        · exact (((unhide HKr).trans ((kp_drew wr).mono (by simp))).trans (K5.mono (by simp))).trans K6
        · show Ar w6 b1 _ (blk (blks k s bs) ((bs.drop (64 * k)).take 64))
          rw [← unhide HSK]
          exact A6
      case measure => simp [intOf]; omega
    · obtain rfl : k = n := by omega
      have A10 := (unhide hA1).kept Kr (by simp; omega)
      have hi : (Tryd.prog.info? 109).map (·.size) = some (blks k s bs).length := by rw [hlk]; exact Tryd.szW
      go_wp2_with (first
        | (refine wpList_load_ar rfl 109 (.tmp 2) rfl b1 rfl _ _ 8 70 Ak Tryd.underlying109 hi ?_)
        | (refine wpList_store_ar rfl 109 (.tmp 4) (.tmp 19) rfl b2 rfl _ _ _ A10 rfl (by rw [hlk]; rfl) hi ?_; intro w9 A9 K9 z9))
      refine bodyPost_ret (results_cell_row rfl _ w9 b2 _ _ (0, 0) (.array 8 70) rfl A9 Tryd.underlying109 rfl (by simpa using hi)) rfl ?_
      refine ⟨rfl, ?_⟩
      exact ((unhide hK2).then Kr (by simp; omega)).then K9 (by simp; omega)
end Go.Proofs.YtdioaohejoflcaaDoor

/-
  Rows of bytes that a call owns; append from whatever slice onto such a row.
-/
namespace Go.Proofs.YtdioaohejoflcaaDoor
open Go.RowKit

theorem Tryd.info5 : (Tryd.prog.info? 5).map (fun i => (i.zero, i.size, i.bytes)) = some (some (.int .u8 0), 1, 1) := by kernel_rfl
theorem owns_shape {w : World} {base : Nat} {e : TypeId} {v : Value} {n : Nat} {xs : List Value} (h : w.ownsRow base e 1 v n xs) : ∃ ao c, v = .slice ao n c := by
  rcases h.2 with ⟨rfl, rfl⟩ | ⟨g, cap, cur, rfl, _⟩
  · exact ⟨_, _, rfl⟩
  · exact ⟨_, _, rfl⟩


theorem Sl.block {w : World} {b : Nat} {cs : List Int} {t : TypeId} {fr : Nat × Nat} (hb : w.heap[b]? = some (.cells (cs.map (Value.int .u8)).toArray t fr)) (hm : cs.length ≤ maxLen) : Sl w (.slice (some ⟨b, 0, none⟩) cs.length cs.length) cs := by
  refine ⟨some ⟨b, 0, none⟩, cs.length, rfl, Nat.le_refl _, hm, (fun h => by cases h), fun a ha j u hu => ?_⟩
  cases ha
  exact World.news_of_block hb j u (by simpa using hu)

/-- One step of a row of bytes that the call owns. -/
def RStep (w : World) (v : Value) (w' : World) (v' : Value) : Prop :=
  Kp v.ownBlock.toList w w' ∧ ∀ k, v'.ownBlock = some k → v.ownBlock = some k ∨ w.heap.size ≤ k
theorem RStep.refl (w : World) (v : Value) : RStep w v w v := ⟨Kp.refl _ _, fun _ h => .inl h⟩
theorem RStep.trans {a b c : World} {u v x : Value} (h : RStep a u b v) (k : RStep b v c x) : RStep a u c x := by
  refine ⟨h.1.then k.1 (fun i hi => ?_), fun i hi => ?_⟩
  · simp only [Option.mem_toList] at hi ⊢
    exact h.2 i hi
  · rcases k.2 i hi with h1 | h1
    · exact h.2 i h1
    · exact .inr (Nat.le_trans h.1.size h1)
/-- The row v of the bytes bs, of the call's own from base on. -/
def Row (w : World) (base : Nat) (v : Value) (bs : List Int) : Prop := w.ownsRow base 5 1 v bs.length (bs.map (Value.int .u8))
theorem Row.shape {w : World} {base : Nat} {v : Value} {bs : List Int} (h : Row w base v bs) : ∃ ao c, v = .slice ao bs.length c := owns_shape h
theorem Row.sl {w : World} {base : Nat} {v : Value} {bs : List Int} (h : Row w base v bs) : Sl w v bs := Sl.of_owns h
theorem row_step {w w0 w1 : World} {base : Nat} {v v' : Value} {bs new : List Int} (h0 : Kp [] w w0)
    (hown : w1.ownsRow base 5 1 v' (bs.length + new.length) (bs.map (Value.int .u8) ++ new.map (Value.int .u8))) (hgrow : w0.grownBy w1 v.ownBlock) (hat : v'.ownBlock = v.ownBlock ∨ v'.ownBlock = some w0.heap.size) :
    Row w1 base v' (bs ++ new) ∧ RStep w v w1 v' := by
  refine ⟨by unfold Row; simpa using hown, (h0.mono (by simp)).grown hgrow (fun k hk => .inl (by simp [hk])), fun k hk => ?_⟩
  rcases hat with e | e
  · exact .inl (e ▸ hk)
  · rw [e] at hk; cases hk; exact .inr h0.size

theorem Row.len {w : World} {base m c : Nat} {ao : Option Addr} {bs : List Int} (h : Row w base (.slice ao m c) bs) : m = bs.length := by
  obtain ⟨_, _, e⟩ := h.shape; cases e; rfl

/-- append of bytes, whatever slice they come in, onto a row of the call's own. -/
theorem wpList_append_row {w : World} {ops : Array Oper} {rest : List Oper} {o : Oper} {a : Act} {Q : Exit → Act → World → Prop} (hgd : o.guard = none) (s x : Operand)
    (ho : o.op = .call { callee := .builtin .append, args := #[s, x], argTypes := #[24, 24] }) (base : Nat) (v : Value) (bs : List Int) (hs : a.eval s = v) (hrow : Row w base v bs)
    (vx : Value) (cs : List Int) (hx : a.eval x = vx) (hS : Sl w vx cs) (hb : bs.length + cs.length ≤ 140737488355328) (hbase : base ≤ w.heap.size)
    (h : ∀ ao m c w', Row w' base (.slice ao m c) (bs ++ cs) → RStep w v w' (.slice ao m c) → wpList Tryd.prog ops Q rest (a.put o.dst (.slice ao m c)) w') : wpList Tryd.prog ops Q (o :: rest) a w := by
  obtain ⟨i0, hi0, hz0, hz1, hz2⟩ := info_parts Tryd.info5
  obtain ⟨av, cv, rfl⟩ := hrow.shape
  obtain ⟨ax, cx, rfl, h1, h2, h3, h4⟩ := hS
  cases ax with
  | none =>
    have : cs = [] := List.eq_nil_of_length_eq_zero (by have := h3 rfl; omega)
    subst this
    obtain rfl := h3 rfl
    refine wpList_append_own_none hgd s x 24 ho base 5 i0 1 Tryd.underlying24 hi0 _ _ _ hs hrow hx ?_
    have := h av bs.length cv w
    simp only [List.append_nil] at this
    exact this hrow (RStep.refl _ _)
  | some a' =>
    refine wpList_append_own_at w hgd s x 24 ho base 5 i0 (.int .u8 0) 1 1 Tryd.underlying24 hi0 hz0 hz1 hz2 rfl (by decide) _ bs.length (bs.map (Value.int .u8)) hs hrow a' cs.length cx (cs.map (Value.int .u8)) hx (by simp) (h4 a' rfl) (by simp [Value.oneCell']) (by unfold maxLen; omega) (by omega) hbase ?_
    intro v' w1 hown1 hgrow _ hat
    have R := row_step (new := cs) (Kp.refl [] w) hown1 hgrow hat
    obtain ⟨ao', c', hv⟩ := R.1.shape
    subst hv
    exact h ao' _ c' w1 R.1 R.2
theorem Row.kept {w w' : World} {base : Nat} {v : Value} {bs : List Int} {S : List Nat} (h : Row w base v bs) (k : Kp S w w') (hv : ∀ i, v.ownBlock = some i → i ∉ S) : Row w' base v bs := k.owns h hv
theorem RStep.after {w w0 w1 : World} {v v' : Value} (h : RStep w0 v w1 v') (k : Kp [] w w0) : RStep w v w1 v' :=
  ⟨(k.mono (by simp)).trans h.1, fun i hi => (h.2 i hi).imp id (fun e => Nat.le_trans k.size e)⟩

end Go.Proofs.YtdioaohejoflcaaDoor

/-
  The contracts of the program's padded, laidDown and beginning.
-/
namespace Go.Proofs.YtdioaohejoflcaaDoor
open Go.RowKit

theorem Row.own {w : World} {base : Nat} {v : Value} {bs : List Int} (h : Row w base v bs) : ∀ k, v.ownBlock = some k → base ≤ k := by
  intro k hk
  rcases h.2 with ⟨rfl, _⟩ | ⟨g, cap, cur, rfl, hb, _⟩
  · cases hk
  · cases hk; exact hb
theorem Row.step {w w1 w2 : World} {v v' : Value} {bs : List Int} (h : Row w1 w.heap.size v bs) (k : Kp [] w w1) (s : RStep w1 v w2 v') : Kp [] w w2 :=
  k.then s.1 (fun i hi => .inr (h.own i (by simpa using hi)))
/-- One byte, in a block of its own. -/
theorem one_block (w : World) (x : Int) : Sl (w.alloc (.cells #[.int .u8 x] 5)) (.slice (some ⟨w.heap.size, 0, none⟩) 1 1) [x] :=
  Sl.block (cs := [x]) (t := 5) (heap_alloc_new w _) (by simp [maxLen])

theorem be8_take (n : Int) (j : Nat) (hj : j < 8) : (be8 n).take (j + 1) = (be8 n).take j ++ [n / 2 ^ (8 * (7 - j)) % 256] := by
  match j, hj with
  | 0, _ => rfl
  | 1, _ => rfl
  | 2, _ => rfl
  | 3, _ => rfl
  | 4, _ => rfl
  | 5, _ => rfl
  | 6, _ => rfl
  | 7, _ => simp [be8]

set_option maxRecDepth 100000 in
set_option maxHeartbeats 2000000 in
theorem padded_any (vr : Value) (rs : List Int) (N : Nat) (w : World) (hS : Sl w vr rs) (hl : rs.length < 64) (hN : N ≤ 1000000000000000) :
    Calls Tryd.prog 88 #[vr, .int .i64 N] w fun e w' => ∃ ao m c, e = .returned (.slice ao m c) ∧ Row w' w.heap.size (.slice ao m c) (pad rs N) ∧ Kp [] w w' := by
  obtain ⟨i0, hi0, hz0, hz1, hz2⟩ := info_parts Tryd.info5
  obtain ⟨ar, cr, rfl, h1, h2, h3, _⟩ := id hS
  have HSl := hide hS
  clear hS
  have hrl : (rs.length : Int) < 64 := by omega
  go_enter Tryd.func88, Tryd.ntmps88
  go_wp2_with (first
    | (at_make; refine wpList_make_own _ rfl _ _ 24 rfl w.heap.size 5 i0 (.int .u8 0) 1 Tryd.underlying24 hi0 hz0 hz1 .i64 .i64 128 128 rfl rfl rfl (by rw [hz2]; omega) (by unfold maxLen; omega) (Nat.le_refl _) ?_; intro w1 o1 g1; have K1 : Kp [] w w1 := (Kp.refl [] w).grown g1 (by intro k hk; cases hk); have R1 : Row w1 w.heap.size _ [] := o1; have HS1 := (unhide HSl).kept K1 (by simp))
    | (at_builtin; refine wpList_append_row rfl (.tmp 9) (.tmp 10) rfl w.heap.size _ [] rfl R1 _ rs rfl HS1 (by simp; omega) K1.size ?_; intro ao2 m2 c2 w2 r2 s2; have K2 := R1.step K1 s2; rw [List.nil_append] at r2)
    | (at_builtin; refine wpList_append_row rfl (.tmp 12) (.tmp 13) rfl w.heap.size _ rs rfl (r2.kept ((Kp.refl [] w2).alloc _) (by simp)) _ [128] rfl (one_block w2 128) (by simp; omega) (by have := K2.size; simp; omega) ?_; intro ao3 m3 c3 w3 r3 s3; have K3 := r2.step K2 (s3.after ((Kp.refl [] w2).alloc _))))
  clear R1 HS1 o1 g1 K1 s2 s3 r2 K2
  have hm3 := r3.len
  have hR3 : Row w3 w.heap.size (.slice ao3 m3 c3) (rs ++ [128] ++ List.replicate 0 0) := by simpa using r3
  have hR := hide hR3
  have hK3 := hide K3
  clear r3 hR3 K3 hm3
  go_loopw [5] (fun v wr => ∃ (z m c : Nat) (ao : Option Addr), z ≤ zeros rs.length ∧ v = .slice ao m c ∧ Row wr w.heap.size v (rs ++ [128] ++ List.replicate z 0) ∧ Kp [] w wr) (fun v _ => 200 - (match v with | .slice _ m _ => m | _ => 0))
  case atStart => exact ⟨0, m3, c3, ao3, by omega, rfl, unhide hR, unhide hK3⟩
  case round =>
    obtain ⟨z, m, c, ao, hz, rfl, Rr, Kr⟩ := hrel
    have hml := Rr.len
    simp only [List.length_append, List.length_replicate, List.length_cons, List.length_nil] at hml
    have hzb : zeros rs.length < 64 := by unfold zeros; omega
    by_cases hlt : z < zeros rs.length
    · have hne : ¬ ((m : Int) % 64 = 56) := by unfold zeros at hlt; omega
      have hmm : m ≤ 150 := by omega
      have HML := hide hml
      have hrb : (rs ++ [128] ++ List.replicate z (0 : Int)).length ≤ 150 := by simp; omega
      clear hml
      go_wp2_with (at_builtin; refine wpList_append_row rfl (.tmp 19) (.tmp 20) rfl w.heap.size _ _ rfl (Rr.kept ((Kp.refl [] wr).alloc _) (by simp)) _ [0] rfl (one_block wr 0) (by simp only [List.length_cons, List.length_nil]; omega) (by have := Kr.size; simp; omega) ?_; intro ao2 m2 c2 w2 r2 s2)
      have hm2 := r2.len
      simp only [List.length_append, List.length_replicate, List.length_cons, List.length_nil] at hm2
      go_roundw
      case rel =>
        refine ⟨z + 1, m2, c2, ao2, by omega, rfl, ?_, Rr.step Kr (s2.after ((Kp.refl [] wr).alloc _))⟩
        rw [List.replicate_succ', ← List.append_assoc]
        exact r2
      case measure => show 200 - m2 < 200 - m; have := unhide HML; omega
    · have hzz : z = zeros rs.length := by omega
      have he : (m : Int) % 64 = 56 := by rw [hzz] at hml; unfold zeros at hml; omega
      obtain ⟨pre, hpre⟩ : ∃ pre, pre = rs ++ [128] ++ List.replicate z 0 := ⟨_, rfl⟩
      have hpl : pre.length ≤ 128 := by rw [hpre]; simp; omega
      have hR9 : Row wr w.heap.size (.slice ao m c) (pre ++ (be8 (N * 8)).take 0) := by simpa [hpre] using Rr
      have HR9 := hide hR9
      have HK9 := hide Kr
      have HP : Hid (pre ++ (be8 (N * 8)).take 8 = pad rs N) := by
        show _ = _
        unfold pad
        rw [hpre, hzz, List.take_of_length_le (by simp [be8])]
      clear hpre Rr Kr hR9 hml hzz hlt hz hzb
      go_wp2_with fail
      obtain ⟨C, hC⟩ : ∃ C, C = (N : Int) * 8 := ⟨_, rfl⟩
      have hC0 : 0 ≤ C := by omega
      have hC1 : C ≤ 8000000000000000 := by omega
      rw [← hC] at HR9 HP
      simp only [← hC]
      clear hC he
      go_loopw [5, 7] (fun v i wr => ∃ (j m c : Nat) (ao : Option Addr), j ≤ 8 ∧ v = .slice ao m c ∧ i = .int .i64 (7 - (j : Int)) ∧ Row wr w.heap.size v (pre ++ (be8 C).take j) ∧ Kp [] w wr) (fun _ i _ => (intOf i + 1).toNat)
      case atStart => exact ⟨0, m, c, ao, by omega, rfl, rfl, unhide HR9, unhide HK9⟩
      case round =>
        obtain ⟨j, m, c, ao, hj, rfl, rfl, Rr, Kr⟩ := hrel
        by_cases hlt : j < 8
        · have hj2 : (j : Int) < 8 := by omega
          have hj3 : (j : Int) ≤ 7 := by omega
          have HT := hide (be8_take C j hlt)
          have hpj : (pre ++ (be8 C).take j).length ≤ 136 := by simp [be8]; omega
          obtain ⟨q, hq⟩ : ∃ q, q = pre ++ (be8 C).take j := ⟨_, rfl⟩
          rw [← hq] at hpj Rr
          have HQ := hide hq
          clear hq
          go_wp2_with (at_builtin; refine wpList_append_row rfl (.tmp 29) (.tmp 35) rfl w.heap.size _ _ rfl (Rr.kept ((Kp.refl [] wr).alloc _) (by simp)) _ [C / 2 ^ (8 * (7 - j)) % 256] rfl (one_block wr _) (by simp; omega) (by have := Kr.size; simp; omega) ?_; intro ao2 m2 c2 w2 r2 s2)
          go_roundw
          case rel =>
            refine ⟨j + 1, m2, c2, ao2, by omega, rfl, by go_num, ?_, Rr.step Kr (s2.after ((Kp.refl [] wr).alloc _))⟩
            rw [unhide HT, ← List.append_assoc, ← unhide HQ]
            exact r2
          case measure => simp [intOf]; omega
        · obtain rfl : j = 8 := by omega
          rw [unhide HP] at Rr
          go_wp2_with fail
          go_ret
          exact ⟨ao, m, c, rfl, Rr, Kr⟩

theorem lay8_snoc (s : List Int) (k : Nat) (hk : k < s.length) : lay8 (s.take (k + 1)) = lay8 (s.take k) ++ [s.getD k 0 / 16777216 % 256, s.getD k 0 / 65536 % 256, s.getD k 0 / 256 % 256, s.getD k 0 % 256] := by
  unfold lay8
  rw [List.take_succ_eq_append_getElem hk, List.flatMap_append]
  simp [List.getElem?_eq_getElem hk]
theorem lay8_len (s : List Int) : (lay8 s).length = 4 * s.length := by
  unfold lay8
  induction s with
  | nil => rfl
  | cons a s ih => simp only [List.flatMap_cons, List.length_append, ih, List.length_cons, List.length_nil]; omega

set_option maxRecDepth 100000 in
set_option maxHeartbeats 2000000 in
theorem laid_any (s : List Int) (w : World) (hs : s.length = 8) :
    Calls Tryd.prog 89 #[ag s] w fun e w' => ∃ ao m c, e = .returned (.slice ao m c) ∧ Row w' w.heap.size (.slice ao m c) (lay8 s) ∧ Kp [] w w' := by
  obtain ⟨i0, hi0, hz0, hz1, hz2⟩ := info_parts Tryd.info5
  have hi : (Tryd.prog.info? 109).map (·.size) = some s.length := by rw [hs]; exact Tryd.szW
  go_enter Tryd.func89, Tryd.ntmps89
  go_wp2_with (first
    | (refine wpList_box_ar (w := w) rfl 109 (.tmp 0) rfl _ rfl ?_; intro wa Aa Ka za)
    | (at_make; refine wpList_make_own _ rfl _ _ 24 rfl w.heap.size 5 i0 (.int .u8 0) 1 Tryd.underlying24 hi0 hz0 hz1 .i64 .i64 32 32 rfl rfl rfl (by rw [hz2]; omega) (by unfold maxLen; omega) (by omega) ?_; intro w1 o1 g1; have K1 : Kp [] wa w1 := (Kp.refl [] wa).grown g1 (by intro k hk; cases hk); have R1 : Row w1 w.heap.size _ [] := o1; have A1 := Aa.kept K1 (by simp))
    | (refine wpList_load_ar rfl 109 (.tmp 1) rfl w.heap.size rfl _ _ 8 70 A1 Tryd.underlying109 hi ?_))
  obtain ⟨b1, hb1⟩ : ∃ b, b = w.heap.size := ⟨_, rfl⟩
  have K2 := Ka.trans K1
  rw [za] at R1
  simp only [← hb1] at R1 ⊢
  have hR := hide R1
  have hK := hide K2
  have hbw : b1 ≤ w1.heap.size := by have := K2.size; omega
  have HB1 := hide hb1
  clear R1 K2 A1 K1 g1 o1 za Aa Ka hb1
  go_loopw [3, 8] (fun v i wr => ∃ (k m c : Nat) (ao : Option Addr), k ≤ 8 ∧ v = .slice ao m c ∧ i = .int .i64 k ∧ Row wr b1 v (lay8 (s.take k)) ∧ Kp [] w wr) (fun _ i _ => 8 - (intOf i).toNat)
  case atStart => exact ⟨0, 0, 32, some ⟨b1 + 1, 0, none⟩, by omega, rfl, rfl, unhide hR, unhide hK⟩
  case round =>
    obtain ⟨k, m, c, ao, hk, rfl, rfl, Rr, Kr⟩ := hrel
    by_cases hlt : k < 8
    · have hlt2 : (k : Int) < 8 := by omega
      have hix := fun W => indexW s k W hlt hs
      have hsn := lay8_snoc s k (by omega)
      obtain ⟨x, hx⟩ : ∃ x, x = s.getD k 0 := ⟨_, rfl⟩
      simp only [← hx] at hix hsn
      have HS := hide hsn
      have hll : (lay8 (s.take k)).length ≤ 32 := by rw [lay8_len]; simp; omega
      clear hx hsn
      go_wp2_with (at_builtin; refine wpList_append_row rfl (.tmp 11) (.tmp 23) rfl b1 _ _ rfl (Rr.kept ((Kp.refl [] wr).alloc _) (by simp)) _ [x / 16777216 % 256, x / 65536 % 256, x / 256 % 256, x % 256] rfl (Sl.block (cs := [x / 16777216 % 256, x / 65536 % 256, x / 256 % 256, x % 256]) (t := 5) (heap_alloc_new wr _) (by simp [maxLen])) (by simp only [List.length_cons, List.length_nil]; omega) (by have := Kr.size; have := unhide HB1; simp; omega) ?_; intro ao2 m2 c2 w2 r2 s2)
      go_roundw
      case rel =>
        refine ⟨k + 1, m2, c2, ao2, by omega, rfl, by go_num, ?_, ?_⟩
        · rw [unhide HS]; exact r2
        · rw [unhide HB1] at Rr
          exact Rr.step Kr (s2.after ((Kp.refl [] wr).alloc _))
      case measure => simp [intOf]; omega
    · obtain rfl : k = 8 := by omega
      rw [List.take_of_length_le (by omega)] at Rr
      go_wp2_with fail
      go_ret
      exact ⟨ao, m, c, rfl, (unhide HB1) ▸ Rr, Kr⟩

set_option maxRecDepth 100000 in
theorem beg_any (w : World) : Calls Tryd.prog 86 #[] w fun e w' => e = .returned (ag begin8) ∧ Kp [] w w' := by
  obtain ⟨i0, hi0, hz0⟩ := Tryd.zeroW
  go_enter Tryd.func86, Tryd.ntmps86
  go_wp2_with (first
    | (refine wpList_alloc_ar (w := w) rfl 109 rfl i0 _ hi0 hz0 ?_; intro w1 A1 K1 z1)
    | (refine wpList_store_ar rfl 109 (.tmp 0) (.tmp 1) rfl w.heap.size rfl _ _ begin8 A1 rfl rfl Tryd.szW ?_; intro w2 A2 K2 z2))
  refine bodyPost_ret (results_cell_row rfl _ w2 w.heap.size _ _ (0, 0) (.array 8 70) rfl A2 Tryd.underlying109 rfl Tryd.szW) rfl ?_
  exact ⟨rfl, K1.then K2 (by simp)⟩
end Go.Proofs.YtdioaohejoflcaaDoor

/-
  The contract of the program's Sum.
-/
namespace Go.Proofs.YtdioaohejoflcaaDoor
open Go.RowKit

theorem run_load_ar {w : World} {b : Nat} {t ty : TypeId} {s : List Int} {n : Nat} {e : TypeId} (hA : Ar w b t s) (hu : Tryd.prog.underlying ty = some (.array n e)) (hi : (Tryd.prog.info? ty).map (·.size) = some s.length) :
    (Instr.loadAt ty (.pointer (some ⟨b, 0, none⟩))).run Tryd.prog w = .ok (ag s) w := by
  simp only [Instr.loadAt, Instr.sureAddr, Sem.run_bind, Sem.run_pure, Result.andThen_ok, run_loadVar_row w b t ty _ (0, 0) (.array n e) hA hu rfl (by simpa using hi)]
  rfl
theorem run_store_ar {w : World} {b : Nat} {t ty : TypeId} {s0 s : List Int} (hA : Ar w b t s0) (hl : s0.length = s.length) (hi : (Tryd.prog.info? ty).map (·.size) = some s.length) :
    ∃ w', (Instr.storeAt ty (.pointer (some ⟨b, 0, none⟩)) (ag s)).run Tryd.prog w = .ok () w' ∧ Ar w' b t s ∧ Kp [b] w w' := by
  refine ⟨_, run_storeAt_mid w b 0 ty (s.map (Value.int .u32)).toArray ?_ (by simpa using hi) (all_oneCell_toArray (by simp [Value.oneCell'])), ?_, kp_setCells w b _ 0 w (Kp.refl _ _)⟩
  · intro j hj
    simp only [List.size_toArray, List.length_map] at hj
    rw [Nat.zero_add, hA.cell j (by omega)]
    exact ⟨rfl, hA.frozen j⟩
  · have := ar_setCells b t s 0 s0 w hA (by omega)
    simpa using this
theorem pad_len (rs : List Int) (N : Nat) (h : rs.length < 64) : (pad rs N).length = 64 * ((pad rs N).length / 64) ∧ (pad rs N).length ≤ 128 := by
  have : (pad rs N).length = rs.length + 1 + zeros rs.length + 8 := by simp [pad, be8]; omega
  unfold zeros at this
  omega
theorem be8_bs (n : Int) : Bs (be8 n) := by
  intro b hb
  simp only [be8, List.mem_cons, List.not_mem_nil, or_false] at hb
  rcases hb with rfl | rfl | rfl | rfl | rfl | rfl | rfl | rfl <;> omega
theorem pad_bs (rs : List Int) (N : Nat) (h : Bs rs) : Bs (pad rs N) := by
  intro b hb
  simp only [pad, List.mem_append] at hb
  rcases hb with ((hb | hb) | hb) | hb
  · exact h b hb
  · simp at hb; omega
  · have := (List.mem_replicate.1 hb).2; omega
  · exact be8_bs _ b hb

theorem Ar.cells8 {w : World} {b : Nat} {ty : TypeId} {x0 x1 x2 x3 x4 x5 x6 x7 : Int} (h : Ar w b ty [x0, x1, x2, x3, x4, x5, x6, x7]) :
    w.cell? ⟨b, 0, none⟩ = some (.int .u32 x0) ∧ w.cell? ⟨b, 1, none⟩ = some (.int .u32 x1) ∧ w.cell? ⟨b, 2, none⟩ = some (.int .u32 x2) ∧ w.cell? ⟨b, 3, none⟩ = some (.int .u32 x3) ∧ w.cell? ⟨b, 4, none⟩ = some (.int .u32 x4) ∧ w.cell? ⟨b, 5, none⟩ = some (.int .u32 x5) ∧ w.cell? ⟨b, 6, none⟩ = some (.int .u32 x6) ∧ w.cell? ⟨b, 7, none⟩ = some (.int .u32 x7) :=
  ⟨h.cell 0 (by simp), h.cell 1 (by simp), h.cell 2 (by simp), h.cell 3 (by simp), h.cell 4 (by simp), h.cell 5 (by simp), h.cell 6 (by simp), h.cell 7 (by simp)⟩
theorem Ar.frozen8 {w : World} {b : Nat} {ty : TypeId} {s : List Int} (h : Ar w b ty s) :
    w.frozen? ⟨b, 0, none⟩ = false ∧ w.frozen? ⟨b, 1, none⟩ = false ∧ w.frozen? ⟨b, 2, none⟩ = false ∧ w.frozen? ⟨b, 3, none⟩ = false ∧ w.frozen? ⟨b, 4, none⟩ = false ∧ w.frozen? ⟨b, 5, none⟩ = false ∧ w.frozen? ⟨b, 6, none⟩ = false ∧ w.frozen? ⟨b, 7, none⟩ = false :=
  ⟨h.frozen 0, h.frozen 1, h.frozen 2, h.frozen 3, h.frozen 4, h.frozen 5, h.frozen 6, h.frozen 7⟩
theorem ag_eight (x0 x1 x2 x3 x4 x5 x6 x7 : Int) : ag [x0, x1, x2, x3, x4, x5, x6, x7] = .agg #[.int .u32 x0, .int .u32 x1, .int .u32 x2, .int .u32 x3, .int .u32 x4, .int .u32 x5, .int .u32 x6, .int .u32 x7] := rfl
theorem padded_at (vr : Value) (rs : List Int) (N : Nat) (L : Int) (hL : L = (N : Int)) (w : World) (hS : Sl w vr rs) (hl : rs.length < 64) (hN : N ≤ 1000000000000000) :
    Calls Tryd.prog 88 #[vr, .int .i64 L] w fun e w' => ∃ ao m c, e = .returned (.slice ao m c) ∧ Row w' w.heap.size (.slice ao m c) (pad rs N) ∧ Kp [] w w' := by
  subst hL
  exact padded_any vr rs N w hS hl hN
theorem sha_parts (bs : List Int) (n N k : Nat) (s1 xs ys : List Int) (hN : N = bs.length) (hn : n = bs.length / 64) (h1 : s1 = blks n begin8 bs) (hx : s1 = xs) (hk : k = (pad (bs.drop (64 * n)) N).length / 64) (hy : blks k xs (pad (bs.drop (64 * n)) N) = ys) : lay8 ys = sha bs := by
  unfold sha fin8
  rw [show bs.length / 64 * 64 = 64 * n from by omega, ← hn, ← h1, hx, ← hN, ← hk, hy]
theorem blks_take (s bs : List Int) (m : Nat) : ∀ k, 64 * k ≤ m → blks k s (bs.take m) = blks k s bs
  | 0, _ => rfl
  | k + 1, h => by
    simp only [blks]
    rw [blks_take s bs m k (by omega), List.drop_take, List.take_take, Nat.min_eq_left (by omega)]

set_option maxRecDepth 100000 in
set_option maxHeartbeats 2000000 in
theorem sum_any (vb : Value) (bs : List Int) (w : World) (hS : Sl w vb bs) (hB : Bs bs) (hl : bs.length ≤ 1000000000000) (hG : Gl w) :
    Calls Tryd.prog 84 #[vb] w fun e w' => ∃ ao m c, e = .returned (.slice ao m c) ∧ Row w' w.heap.size (.slice ao m c) (sha bs) ∧ Kp [] w w' := by
  obtain ⟨i0, hi0, hz0⟩ := Tryd.zeroW
  have HB : Hid (Bs bs) := hB
  have HG : Hid (Gl w) := hG
  have hpos := hG.pos
  have HSl : Hid (Sl w vb bs) := hS
  obtain ⟨ab, cb, rfl, h1, h2, h3, _⟩ := hS
  obtain ⟨N, hN⟩ : ∃ N, N = bs.length := ⟨_, rfl⟩
  obtain ⟨n, hn⟩ : ∃ n, n = bs.length / 64 := ⟨_, rfl⟩
  have hrem : (N : Int) - (N : Int) % 64 = 64 * (n : Int) := by omega
  have hnn : 64 * n ≤ N := by omega
  have hcc : (N : Int) ≤ (cb : Int) := by omega
  rw [← hN] at h1 HSl ⊢
  have HN := hide hN
  have HNn := hide hn
  have hNl : N ≤ 1000000000000 := by omega
  clear hB hG hN hn hl
  go_enter Tryd.func84, Tryd.ntmps84
  go_wp2_with (first
    | (go_at_call 86; refine (beg_any _).mono ?_; rintro ee w1 ⟨rfl, K1⟩)
    | (refine wpList_alloc_ar (w := w1) rfl 109 rfl i0 _ hi0 hz0 ?_; intro w2 A2 K2 z2)
    | (refine wpList_store_ar rfl 109 (.tmp 3) (.tmp 5) rfl w1.heap.size rfl _ _ begin8 A2 rfl rfl Tryd.szW ?_; intro w3 A3 K3 z3))
  obtain ⟨b1, hb1⟩ : ∃ b, b = w1.heap.size := ⟨_, rfl⟩
  have hbw : w.heap.size ≤ b1 := by have := K1.size; omega
  rw [← hb1] at A2 A3 K3
  simp only [← hb1]
  have K13 : Kp [] w w3 := (K1.trans K2).then K3 (by simp; omega)
  have S3 := (unhide HSl).kept K13 (by simp)
  have T3 := hide ((S3.kept (kp_drew w3) (by simp)).take (64 * n) (by have := unhide HN; omega))
  have HG3 := hide (((unhide HG).kept K13 (by simp)).kept (kp_drew w3) (by simp))
  have AD : Ar w3.drew b1 109 begin8 := A3
  have HK13 := hide K13
  have hAD := hide AD
  have hS3 := hide S3
  clear A2 A3 K1 K2 K3 K13 z2 z3 AD S3 hb1
  have hcc2 : 64 * (n : Int) ≤ (cb : Int) := by omega
  have hcc3 : 64 * (n : Int) ≤ (N : Int) := by omega
  refine region_tail 4 Tryd.mixed (by kernel_rfl) ?_
  simp only [List.take_succ_cons, List.take_zero, List.drop_succ_cons, List.drop_zero]
  go_big_quiet_want
  refine quiet_load_ar 109 (.tmp 3) rfl b1 rfl _ begin8 8 70 (unhide hAD) Tryd.underlying109 Tryd.szW ?_
  simp only [Act.put, List.set_cons_zero, List.set_cons_succ, List.setIfInBounds_toArray]
  go_big_quiet_on
  repeat (first | go_big_quiet_skip | (go_big_quiet_want; go_big_quiet_op; go_big_quiet_on))
  refine wpQuiet_nil ?_
  have hbt : (bs.take (64 * n)).length = 64 * n := by have := unhide HN; simp; omega
  obtain ⟨s1, hs1⟩ : ∃ s1, s1 = blks n begin8 bs := ⟨_, rfl⟩
  have hs1' : blks n begin8 (bs.take (64 * n)) = s1 := by rw [blks_take _ _ _ _ (Nat.le_refl _), hs1]
  have hs18 : s1.length = 8 := by rw [hs1]; exact blks_len _ _ rfl n
  have hi1 : (Tryd.prog.info? 109).map (·.size) = some s1.length := by rw [hs18]; exact Tryd.szW
  have HS1 := hide hs1
  have HS1' := hide hs1'
  clear hs1 hs1'
  go_wp2_with (first
    | (go_at_call 87; refine (mixAll_any begin8 _ _ n _ rfl (unhide T3) hbt (by omega) ((unhide HB).take _) (unhide HG3)).mono ?_; rintro ee w4 ⟨rfl, K4⟩; rw [unhide HS1']; have A4 := (unhide hAD).kept K4 (by simp))
    | (refine wpList_store_ar rfl 109 (.tmp 3) (.tmp 16) rfl b1 rfl _ _ s1 A4 rfl (by rw [hs18]; rfl) hi1 ?_; intro w5 A5 K5 z5))
  have K15 : Kp [] w w5 := (((unhide HK13).trans (kp_drew w3)).trans K4).then K5 (by simp; omega)
  have hK := hide K15
  have hA5 := hide A5
  have S5 := hide ((unhide HSl).kept K15 (by simp))
  have HG5 := hide ((unhide HG).kept K15 (by simp))
  have hl5 := A5.lt
  clear A4 A5 K4 K5 z5 K15 T3 HG3 HK13 hAD hS3
  simp only [Act.put]
  obtain ⟨x0, x1, x2, x3, x4, x5, x6, x7, hx⟩ := eight hs18
  have A5 := unhide hA5
  rw [hx] at A5
  obtain ⟨p0, p1, p2, p3, p4, p5, p6, p7⟩ := A5.cells8
  have HX := hide hx
  have SD : Sl w5.drew (.slice ab N cb) bs := (unhide S5).kept (kp_drew w5) (by simp)
  have SDr := SD.drop (64 * n) (by have := unhide HN; omega)
  have hSD := hide SDr
  have hrl : (bs.drop (64 * n)).length < 64 := by have := unhide HN; simp; omega
  have hA5' := hide A5
  clear SD SDr A5 hx
  have hcut : cb = 64 * n ∨ ∃ a, ab = some a ∧ ¬ cb = 64 * n := by
    by_cases hc : cb = 64 * n
    · exact .inl hc
    · cases ab with
      | none => have := h3 rfl; omega
      | some a => exact .inr ⟨a, rfl, hc⟩
  rcases hcut with hc | ⟨a, rfl, hc⟩
  · rw [if_pos hc] at hSD
    obtain rfl : cb = 64 * n := hc
    obtain rfl : N = 64 * n := by omega
    rw [Nat.sub_self] at hSD
    have hpl := pad_len (bs.drop (64 * n)) (64 * n) hrl
    have hpb := hide (pad_bs (bs.drop (64 * n)) (64 * n) ((unhide HB).drop _))
    obtain ⟨k6, hk6⟩ : ∃ k, k = (pad (bs.drop (64 * n)) (64 * n)).length / 64 := ⟨_, rfl⟩
    rw [← hk6] at hpl
    have hk62 : k6 ≤ 2 := by omega
    have HPL := hide hpl
    have HK6 := hide hk6
    clear hpl hk6
    go_region_with (first
      | (go_at_call 88; refine (padded_at _ (bs.drop (64 * n)) (64 * n) _ (by omega) _ (unhide hSD) hrl (by omega)).mono ?_; rintro ee w6 ⟨ao6, m6, c6, rfl, R6, K6⟩; have A6 := (unhide hA5').kept ((kp_drew w5).trans K6) (by simp); obtain ⟨q0, q1, q2, q3, q4, q5, q6, q7⟩ := A6.cells8; have hR6 := hide R6; have hK6 := hide K6; have hA6 := hide A6; clear R6 K6 A6)
      | (go_at_call 87; refine (mixAll_any [x0, x1, x2, x3, x4, x5, x6, x7] _ _ k6 _ rfl (unhide hR6).sl (unhide HPL).1 (by omega) (unhide hpb) ((unhide HG5).kept ((kp_drew w5).trans (unhide hK6)) (by simp))).mono ?_; rintro ee w7 ⟨rfl, K7⟩; obtain ⟨y0, y1, y2, y3, y4, y5, y6, y7, hy⟩ := eight (blks_len [x0, x1, x2, x3, x4, x5, x6, x7] (pad (bs.drop (64 * n)) (64 * n)) rfl k6); rw [hy, ag_eight]; have A7 := (unhide hA6).kept K7 (by simp); obtain ⟨r0, r1, r2, r3, r4, r5, r6, r7⟩ := A7.cells8; obtain ⟨t0, t1, t2, t3, t4, t5, t6, t7⟩ := A7.frozen8; have HY := hide hy; have hA7 := hide A7; have hK7 := hide K7; clear hy A7 K7))
    all_goals have A8 : Ar _ b1 109 [y0, y1, y2, y3, y4, y5, y6, y7] := ((((((((unhide hA7).set 0 y0).set 1 y1).set 2 y2).set 3 y3).set 4 y4).set 5 y5).set 6 y6).set 7 y7
    all_goals have hfin := sha_parts bs n _ k6 s1 _ _ (unhide HN) (unhide HNn) (unhide HS1) (unhide HX) (unhide HK6) (unhide HY)
    all_goals have hrow : ∀ W9 ao m c, Row W9 w.heap.size (.slice ao m c) (lay8 [y0, y1, y2, y3, y4, y5, y6, y7]) → Row W9 w.heap.size (.slice ao m c) (sha bs) := fun _ _ _ _ h => hfin ▸ h
    all_goals have HR := hide hrow
    all_goals have HKW : Hid (Kp [b1] w5 w7) := ((((kp_drew w5).trans (unhide hK6)).trans (unhide hK7)).mono (by simp))
    all_goals have KW := (unhide hK).then ((((((((((unhide HKW).setCell (p := ⟨b1, 0, none⟩) (.inl (by simp)) (.int .u32 y0)).setCell (p := ⟨b1, 1, none⟩) (.inl (by simp)) (.int .u32 y1)).setCell (p := ⟨b1, 2, none⟩) (.inl (by simp)) (.int .u32 y2)).setCell (p := ⟨b1, 3, none⟩) (.inl (by simp)) (.int .u32 y3)).setCell (p := ⟨b1, 4, none⟩) (.inl (by simp)) (.int .u32 y4)).setCell (p := ⟨b1, 5, none⟩) (.inl (by simp)) (.int .u32 y5)).setCell (p := ⟨b1, 6, none⟩) (.inl (by simp)) (.int .u32 y6)).setCell (p := ⟨b1, 7, none⟩) (.inl (by simp)) (.int .u32 y7))) (by simp; omega)
    all_goals clear hrow hfin p0 p1 p2 p3 p4 p5 p6 p7 q0 q1 q2 q3 q4 q5 q6 q7 r0 r1 r2 r3 r4 r5 r6 r7 t0 t1 t2 t3 t4 t5 t6 t7
    all_goals (go_wp2_with (first
      | (refine wpList_load_ar rfl 109 (.tmp 3) rfl b1 rfl _ _ 8 70 A8 Tryd.underlying109 Tryd.szW ?_)
      | (go_at_call 89; refine (laid_any [y0, y1, y2, y3, y4, y5, y6, y7] _ rfl).mono ?_; rintro ee w9 ⟨ao9, m9, c9, rfl, R9, K9⟩)))
    all_goals go_ret
    all_goals exact ⟨ao9, m9, c9, rfl, unhide HR _ _ _ _ (owns_rebase R9 (fun k hk => Nat.le_trans KW.size (R9.own k hk))), KW.trans K9⟩
  · rw [if_neg hc] at hSD
    have hpl := pad_len (bs.drop (64 * n)) N hrl
    have hpb := hide (pad_bs (bs.drop (64 * n)) N ((unhide HB).drop _))
    obtain ⟨k6, hk6⟩ : ∃ k, k = (pad (bs.drop (64 * n)) N).length / 64 := ⟨_, rfl⟩
    rw [← hk6] at hpl
    have hk62 : k6 ≤ 2 := by omega
    have HPL := hide hpl
    have HK6 := hide hk6
    clear hpl hk6
    go_region_with (first
      | (go_at_call 88; refine (padded_any _ (bs.drop (64 * n)) N _ (unhide hSD) hrl (by omega)).mono ?_; rintro ee w6 ⟨ao6, m6, c6, rfl, R6, K6⟩; have A6 := (unhide hA5').kept ((kp_drew w5).trans K6) (by simp); obtain ⟨q0, q1, q2, q3, q4, q5, q6, q7⟩ := A6.cells8; have hR6 := hide R6; have hK6 := hide K6; have hA6 := hide A6; clear R6 K6 A6)
      | (go_at_call 87; refine (mixAll_any [x0, x1, x2, x3, x4, x5, x6, x7] _ _ k6 _ rfl (unhide hR6).sl (unhide HPL).1 (by omega) (unhide hpb) ((unhide HG5).kept ((kp_drew w5).trans (unhide hK6)) (by simp))).mono ?_; rintro ee w7 ⟨rfl, K7⟩; obtain ⟨y0, y1, y2, y3, y4, y5, y6, y7, hy⟩ := eight (blks_len [x0, x1, x2, x3, x4, x5, x6, x7] (pad (bs.drop (64 * n)) N) rfl k6); rw [hy, ag_eight]; have A7 := (unhide hA6).kept K7 (by simp); obtain ⟨r0, r1, r2, r3, r4, r5, r6, r7⟩ := A7.cells8; obtain ⟨t0, t1, t2, t3, t4, t5, t6, t7⟩ := A7.frozen8; have HY := hide hy; have hA7 := hide A7; have hK7 := hide K7; clear hy A7 K7))
    all_goals have A8 : Ar _ b1 109 [y0, y1, y2, y3, y4, y5, y6, y7] := ((((((((unhide hA7).set 0 y0).set 1 y1).set 2 y2).set 3 y3).set 4 y4).set 5 y5).set 6 y6).set 7 y7
    all_goals have hfin := sha_parts bs n _ k6 s1 _ _ (unhide HN) (unhide HNn) (unhide HS1) (unhide HX) (unhide HK6) (unhide HY)
    all_goals have hrow : ∀ W9 ao m c, Row W9 w.heap.size (.slice ao m c) (lay8 [y0, y1, y2, y3, y4, y5, y6, y7]) → Row W9 w.heap.size (.slice ao m c) (sha bs) := fun _ _ _ _ h => hfin ▸ h
    all_goals have HR := hide hrow
    all_goals have HKW : Hid (Kp [b1] w5 w7) := ((((kp_drew w5).trans (unhide hK6)).trans (unhide hK7)).mono (by simp))
    all_goals have KW := (unhide hK).then ((((((((((unhide HKW).setCell (p := ⟨b1, 0, none⟩) (.inl (by simp)) (.int .u32 y0)).setCell (p := ⟨b1, 1, none⟩) (.inl (by simp)) (.int .u32 y1)).setCell (p := ⟨b1, 2, none⟩) (.inl (by simp)) (.int .u32 y2)).setCell (p := ⟨b1, 3, none⟩) (.inl (by simp)) (.int .u32 y3)).setCell (p := ⟨b1, 4, none⟩) (.inl (by simp)) (.int .u32 y4)).setCell (p := ⟨b1, 5, none⟩) (.inl (by simp)) (.int .u32 y5)).setCell (p := ⟨b1, 6, none⟩) (.inl (by simp)) (.int .u32 y6)).setCell (p := ⟨b1, 7, none⟩) (.inl (by simp)) (.int .u32 y7))) (by simp; omega)
    all_goals clear hrow hfin p0 p1 p2 p3 p4 p5 p6 p7 q0 q1 q2 q3 q4 q5 q6 q7 r0 r1 r2 r3 r4 r5 r6 r7 t0 t1 t2 t3 t4 t5 t6 t7
    all_goals (go_wp2_with (first
      | (refine wpList_load_ar rfl 109 (.tmp 3) rfl b1 rfl _ _ 8 70 A8 Tryd.underlying109 Tryd.szW ?_)
      | (go_at_call 89; refine (laid_any [y0, y1, y2, y3, y4, y5, y6, y7] _ rfl).mono ?_; rintro ee w9 ⟨ao9, m9, c9, rfl, R9, K9⟩)))
    all_goals go_ret
    all_goals exact ⟨ao9, m9, c9, rfl, unhide HR _ _ _ _ (owns_rebase R9 (fun k hk => Nat.le_trans KW.size (R9.own k hk))), KW.trans K9⟩
end Go.Proofs.YtdioaohejoflcaaDoor

/-
  The contract of the reference's block: one block of 64 bytes.
-/
namespace Go.Proofs.YtdioaohejoflcaaDoor
open Go.RowKit

theorem ad_comm (x y : Int) : ad x y = ad y x := by unfold ad; rw [Int.add_comm]
theorem next_ref (x0 x1 x2 x3 : Int) : (x3 + bits .xor .u32 (bits .xor .u32 (rot x2 7) (rot x2 18)) (x2 / 8) + x1 + bits .xor .u32 (bits .xor .u32 (rot x0 17) (rot x0 19)) (x0 / 1024)) % 4294967296 = ad (ad (ad (sS1 x0) x1) (sS0 x2)) x3 := by
  rw [ad4]
  show (x3 + sS0 x2 + x1 + sS1 x0) % 4294967296 = _
  congr 1
  omega
theorem blk_ref (h bs : List Int) : List.zipWith ad h (rds (sch bs 64) h 64) = blk h bs := by
  unfold blk
  rw [List.zipWith_comm]
  congr 1
  funext x y
  exact ad_comm y x

theorem rnd_raw (a b c d e f g h k w : Int) : rnd [a, b, c, d, e, f, g, h] k w = [((h + bits .xor .u32 (bits .xor .u32 (rot e 6) (rot e 11)) (rot e 25) + bits .xor .u32 (bits .and .u32 e f) (bits .and .u32 (bits .xor .u32 IntKind.u32.max e) g) + k + w) % 4294967296 + (bits .xor .u32 (bits .xor .u32 (rot a 2) (rot a 13)) (rot a 22) + bits .xor .u32 (bits .xor .u32 (bits .and .u32 a b) (bits .and .u32 a c)) (bits .and .u32 b c)) % 4294967296) % 4294967296, a, b, c, (d + (h + bits .xor .u32 (bits .xor .u32 (rot e 6) (rot e 11)) (rot e 25) + bits .xor .u32 (bits .and .u32 e f) (bits .and .u32 (bits .xor .u32 IntKind.u32.max e) g) + k + w) % 4294967296) % 4294967296, e, f, g] := by
  rw [rnd_eq]
  simp only [bS0, bS1, chs, maj]
theorem rnd_raw2 (a b c d e f g h k w : Int) : rnd [a, b, c, d, e, f, g, h] k w = [(h + bits .xor .u32 (bits .xor .u32 (rot e 6) (rot e 11)) (rot e 25) + bits .xor .u32 (bits .and .u32 e f) (bits .and .u32 (bits .xor .u32 IntKind.u32.max e) g) + k + w + (bits .xor .u32 (bits .xor .u32 (rot a 2) (rot a 13)) (rot a 22) + bits .xor .u32 (bits .xor .u32 (bits .and .u32 a b) (bits .and .u32 a c)) (bits .and .u32 b c))) % 4294967296, a, b, c, (d + (h + bits .xor .u32 (bits .xor .u32 (rot e 6) (rot e 11)) (rot e 25) + bits .xor .u32 (bits .and .u32 e f) (bits .and .u32 (bits .xor .u32 IntKind.u32.max e) g) + k + w)) % 4294967296, e, f, g] := by
  rw [rnd_raw]
  simp only [List.cons.injEq, and_true, true_and]
  constructor <;> omega
set_option maxRecDepth 100000 in
set_option maxHeartbeats 2000000 in
theorem block_any (h0 : List Int) (bk : Nat) (vb : Value) (bs : List Int) (w : World) (hh : h0.length = 8) (hk0 : Ar w bk 103 consts) (hS : Sl w vb bs) (hl : bs.length = 64) (hB : Bs bs) :
    Calls Tryd.prog 77 #[ag h0, .pointer (some ⟨bk, 0, none⟩), vb] w fun e w' => e = .returned (ag (blk h0 bs)) ∧ Kp [] w w' := by
  obtain ⟨i0, hi0, hz0⟩ := Tryd.zero64
  obtain ⟨i8, hi8, hz8⟩ := Tryd.zero8
  obtain ⟨ab, cb, rfl, h1, h2, h4⟩ := hS.at hl (by omega)
  have h1i : (64 : Int) ≤ (cb : Int) := by omega
  have H4 := hide h4
  have hab : ab.block < w.heap.size := by have := World.block_lt_of_cell? _ _ (h4 0 (by omega)); rwa [add_block] at this
  have hbk := hk0.lt
  have HK0 := hide hk0
  clear h4 hS hk0
  go_enter Tryd.func77, Tryd.ntmps77
  go_wp2_with (first
    | (refine wpList_box_ar (w := w) rfl 102 (.tmp 0) rfl _ rfl ?_; intro wa Aa Ka za)
    | (refine wpList_alloc_ar (w := wa) rfl 102 rfl i8 _ hi8 hz8 ?_; intro wb Ab Kb zb)
    | (refine wpList_alloc_ar (w := wb) rfl 103 rfl i0 _ hi0 hz0 ?_; intro w1 A1 K1 z1))
  obtain ⟨b1, hb1⟩ : ∃ b, b = w.heap.size := ⟨_, rfl⟩
  obtain ⟨b2, hb2⟩ : ∃ b, b = b1 + 1 := ⟨_, rfl⟩
  obtain ⟨b3, hb3⟩ : ∃ b, b = b2 + 1 := ⟨_, rfl⟩
  rw [← hb1] at Aa
  rw [za, ← hb1, ← hb2] at Ab
  rw [zb, za, ← hb1, show b1 + 1 + 1 = b3 by omega] at A1
  have K2 := (Ka.trans Kb).trans K1
  have AH := (Aa.kept Kb (by simp)).kept K1 (by simp)
  have AR := Ab.kept K1 (by simp)
  have hbw : w.heap.size ≤ b1 := by omega
  have hb12 : b2 = b1 + 1 := hb2
  have hb13 : b3 = b1 + 2 := by omega
  simp only [← hb1, ← hb2, ← hb3]
  have HC : Hid (∀ j, j < 64 → w1.cell? (ab.add j) = some (.int .u8 (bs.getD j 0))) := fun j hj => K2.cell (unhide H4 j hj) (by simp)
  have HKK := hide ((unhide HK0).kept K2 (by simp))
  have hAH := hide AH
  have hAR := hide AR
  have hA1 := hide A1
  have hK2 := hide K2
  have HB12 := hide hb12
  have HB13 := hide hb13
  have hsz1 : w1.heap.size = b1 + 3 := by omega
  have HSZ := hide hsz1
  clear H4 hb1 hb2 hb3 Ka Kb K1 Aa Ab za zb z1 A1 AH AR K2 hb12 hb13 hsz1
  go_loopw [8] (fun i wr => ∃ k : Nat, k ≤ 16 ∧ i = .int .i64 k ∧ Kp [b3] w1 wr ∧ Ar wr b3 103 (sch bs k ++ List.replicate (64 - k) 0)) (fun i _ => 16 - (intOf i).toNat)
  case atStart => exact ⟨0, by omega, rfl, Kp.refl _ _, unhide hA1⟩
  case round =>
    obtain ⟨k, hk, rfl, Kr, Ak⟩ := hrel
    by_cases hlt : k < 16
    · have hlt2 : (k : Int) < 16 := by omega
      have hck : ∀ j, j < 64 → wr.cell? (ab.add j) = some (.int .u8 (bs.getD j 0)) := fun j hj => Kr.cell (unhide HC j hj) (by have := unhide HB13; rw [add_block]; simp; omega)
      obtain ⟨x0, hx0⟩ : ∃ x, x = bs.getD (4 * k) 0 := ⟨_, rfl⟩
      obtain ⟨x1, hx1⟩ : ∃ x, x = bs.getD (4 * k + 1) 0 := ⟨_, rfl⟩
      obtain ⟨x2, hx2⟩ : ∃ x, x = bs.getD (4 * k + 2) 0 := ⟨_, rfl⟩
      obtain ⟨x3, hx3⟩ : ∃ x, x = bs.getD (4 * k + 3) 0 := ⟨_, rfl⟩
      have hc0 := hck (4 * k) (by omega)
      have hc1 := hck (4 * k + 1) (by omega)
      have hc2 := hck (4 * k + 2) (by omega)
      have hc3 := hck (4 * k + 3) (by omega)
      rw [← hx0] at hc0
      rw [Addr.add_succ', ← hx1] at hc1
      rw [Addr.add_succ', ← hx2] at hc2
      rw [Addr.add_succ', ← hx3] at hc3
      have d0 := hB.at (4 * k)
      have d1 := hB.at (4 * k + 1)
      have d2 := hB.at (4 * k + 2)
      have d3 := hB.at (4 * k + 3)
      rw [← hx0] at d0
      rw [← hx1] at d1
      rw [← hx2] at d2
      rw [← hx3] at d3
      have hsch : sch bs (k + 1) = sch bs k ++ [wd x0 x1 x2 x3] := by simp only [sch, if_pos hlt, wordAt, hx0, hx1, hx2, hx3]
      have hset := sch_set bs k (by omega) _ hsch
      obtain ⟨ys, hys⟩ : ∃ ys, ys = sch bs k ++ List.replicate (64 - k) 0 := ⟨_, rfl⟩
      rw [← hys] at Ak hset
      have hyl : ys.length = 64 := by rw [hys]; simp [sch_len]; omega
      have hck' := Ak.cell k (by omega)
      have hfk := Ak.frozen k
      have HA := hide Ak
      have HS := hide hset
      have hkr := hide Kr
      obtain ⟨old, hold⟩ : ∃ old, old = ys.getD k 0 := ⟨_, rfl⟩
      rw [← hold] at hck'
      clear hck hx0 hx1 hx2 hx3 hsch hset hys Ak Kr hold
      go_wp2_with fail
      refine region_tail 35 Tryd.mixed (by kernel_rfl) ?_
      simp only [List.take_succ_cons, List.take_zero, List.drop_succ_cons, List.drop_zero]
      repeat (first | go_big_quiet_skip | (go_big_quiet_want; go_big_quiet_op; go_big_quiet_on))
      refine wpQuiet_nil ?_
      go_wp2_with fail
      go_roundw
      case rel =>
        refine ⟨k + 1, by omega, by go_num, ((unhide hkr).setCell (p := ⟨b3, k, none⟩) (.inl (by simp)) _).drew, ?_⟩
        rw [← unhide HS]
        exact (unhide HA).set k _
      case measure => simp [intOf]; omega
    · obtain rfl : k = 16 := by omega
      obtain ⟨w2, hw2⟩ : ∃ w2, w2 = wr := ⟨_, rfl⟩
      subst hw2
      have HK := hide Kr
      have hAk := hide Ak
      clear Kr Ak
      go_wp2_with fail
      go_loopw [9] (fun i wr => ∃ k : Nat, 16 ≤ k ∧ k ≤ 64 ∧ i = .int .i64 k ∧ Kp [b3] w1 wr ∧ Ar wr b3 103 (sch bs k ++ List.replicate (64 - k) 0)) (fun i _ => 64 - (intOf i).toNat)
      case atStart => exact ⟨16, by omega, by omega, rfl, unhide HK, unhide hAk⟩
      case round =>
        obtain ⟨k, hk1, hk, rfl, Kr, Ar1⟩ := hrel
        clear hAk HK
        by_cases hlt : k < 64
        · have hlt2 : (k : Int) < 64 := by omega
          have hk2 : (16 : Int) ≤ (k : Int) := by omega
          have hnl : ¬ k < 16 := by omega
          obtain ⟨ys, hys⟩ : ∃ ys, ys = sch bs k ++ List.replicate (64 - k) 0 := ⟨_, rfl⟩
          have hgd : ∀ j, j < k → ys.getD j 0 = (sch bs k).getD j 0 := fun j hj => by
            rw [hys, List.getD_eq_getElem?_getD, List.getD_eq_getElem?_getD, List.getElem?_append_left (by rw [sch_len]; exact hj)]
          have hyl : ys.length = 64 := by rw [hys]; simp [sch_len]; omega
          have hset := fun x hx => sch_set bs k (by omega) x hx
          rw [← hys] at Ar1 hset
          obtain ⟨x0, hx0⟩ : ∃ x, x = ys.getD (k - 2) 0 := ⟨_, rfl⟩
          obtain ⟨x1, hx1⟩ : ∃ x, x = ys.getD (k - 7) 0 := ⟨_, rfl⟩
          obtain ⟨x2, hx2⟩ : ∃ x, x = ys.getD (k - 15) 0 := ⟨_, rfl⟩
          obtain ⟨x3, hx3⟩ : ∃ x, x = ys.getD (k - 16) 0 := ⟨_, rfl⟩
          have hc0 := Ar1.cell (k - 2) (by omega)
          have hc1 := Ar1.cell (k - 7) (by omega)
          have hc2 := Ar1.cell (k - 15) (by omega)
          have hc3 := Ar1.cell (k - 16) (by omega)
          rw [← hx0] at hc0
          rw [← hx1] at hc1
          rw [← hx2] at hc2
          rw [← hx3] at hc3
          have hsch : sch bs (k + 1) = sch bs k ++ [ad (ad (ad (sS1 x0) x1) (sS0 x2)) x3] := by
            simp only [sch, if_neg hnl, nextW, hx0, hx1, hx2, hx3]
            rw [hgd _ (by omega), hgd _ (by omega), hgd _ (by omega), hgd _ (by omega)]
          have HS := hide (hset _ hsch)
          have HA := hide Ar1
          have hkr := hide Kr
          have hck' := Ar1.cell k (by omega)
          have hfk := Ar1.frozen k
          obtain ⟨old, hold⟩ : ∃ old, old = ys.getD k 0 := ⟨_, rfl⟩
          rw [← hold] at hck'
          clear hx0 hx1 hx2 hx3 hsch hset hys Ar1 Kr hold hgd
          go_wp2_with fail
          refine region_read Tryd.mixed (by kernel_rfl) ?_
          repeat (first | go_big_quiet_skip | (go_big_quiet_want; go_big_quiet_op; go_big_quiet_on))
          refine wpQuiet_nil ?_
          go_wp2_with fail
          refine region_tail 29 Tryd.mixed (by kernel_rfl) ?_
          simp only [List.take_succ_cons, List.take_zero, List.drop_succ_cons, List.drop_zero]
          repeat (first | go_big_quiet_skip | (go_big_quiet_want; go_big_quiet_op; first | go_big_quiet_on | (refine ⟨_, turn_any _ _ _ (by omega) (by omega), ?_⟩; go_big_quiet_on)))
          refine wpQuiet_nil ?_
          go_wp2_with fail
          go_roundw
          case rel =>
            refine ⟨k + 1, by omega, by omega, by go_num, (((unhide hkr).setCell (p := ⟨b3, k, none⟩) (.inl (by simp)) _).drew).drew, ?_⟩
            rw [← unhide HS, ← next_ref]
            exact (unhide HA).set k _
          case measure => simp [intOf]; omega
        · obtain rfl : k = 64 := by omega
          obtain ⟨ws, hws⟩ : ∃ ws, ws = sch bs 64 := ⟨_, rfl⟩
          have hwl : ws.length = 64 := by rw [hws]; exact sch_len _ _
          have AW : Ar wr b3 103 ws := by rw [hws]; simpa using Ar1
          have AH := (unhide hAH).kept Kr (by have := unhide HB13; simp; omega)
          have AR := (unhide hAR).kept Kr (by have := unhide HB13; have := unhide HB12; simp; omega)
          have AK := (unhide HKK).kept Kr (by have := unhide HB13; simp; omega)
          have KW : Kp [] w wr := (unhide hK2).then Kr (by have := unhide HB13; simp; omega)
          obtain ⟨w4, hw4⟩ : ∃ w4, w4 = wr := ⟨_, rfl⟩
          subst hw4
          have HW := hide hws
          have hszw : w.heap.size ≤ w4.heap.size := KW.size
          have hl1 := AH.lt
          have hl2 := AR.lt
          have hl3 := AW.lt
          have hl4 := AK.lt
          have hi : (Tryd.prog.info? 102).map (·.size) = some h0.length := by rw [hh]; exact Tryd.sz8
          clear Ar1 Kr hws
          go_wp2_with (first
            | (refine wpList_load_ar rfl 102 (.tmp 3) rfl b1 rfl _ _ 8 70 AH Tryd.underlying102 hi ?_)
            | (refine wpList_alloc_ar (w := w4) rfl 102 rfl i8 _ hi8 hz8 ?_; intro w5 A5 K5 z5)
            | (refine wpList_store_ar rfl 102 (.tmp 12) (.tmp 99) rfl w4.heap.size rfl _ _ h0 A5 rfl (by rw [hh]; rfl) hi ?_; intro w6 A6 K6 z6))
          obtain ⟨b4, hb4⟩ : ∃ b, b = w4.heap.size := ⟨_, rfl⟩
          rw [← hb4] at A5 A6 K6 hl1 hl2 hl3 hl4
          simp only [← hb4]
          have n1 : b1 ≠ b4 := by omega
          have n2 : b2 ≠ b4 := by omega
          have n3 : b3 ≠ b4 := by omega
          have n4 : bk ≠ b4 := by omega
          have hb4w : w.heap.size ≤ b4 := by omega
          have hAW := hide ((AW.kept K5 (by simp)).kept K6 (by simp; omega))
          have hAH := hide ((AH.kept K5 (by simp)).kept K6 (by simp; omega))
          have hAR := hide ((AR.kept K5 (by simp)).kept K6 (by simp; omega))
          have hAK := hide ((AK.kept K5 (by simp)).kept K6 (by simp; omega))
          have hK6 : Hid (Kp [] w w6) := (KW.trans K5).then K6 (by simp; omega)
          have hA6 := hide A6
          clear A5 A6 K5 K6 z5 z6 AW AH AR AK KW hl1 hl2 hl3 hl4 hszw hb4
          go_loopw [13] (fun i wr => ∃ k : Nat, k ≤ 64 ∧ i = .int .i64 k ∧ Kp [b4] w6 wr ∧ Ar wr b4 102 (rds ws h0 k)) (fun i _ => 64 - (intOf i).toNat)
          case atStart => exact ⟨0, by omega, rfl, Kp.refl _ _, unhide hA6⟩
          case round =>
            obtain ⟨k, hk, rfl, Kr, Ak⟩ := hrel
            have hrl := rds_len ws h0 hh k
            by_cases hlt : k < 64
            · have hlt2 : (k : Int) < 64 := by omega
              have hcw := ((unhide hAW).kept Kr (by simpa using n3)).cell k (by omega)
              have hck := ((unhide hAK).kept Kr (by simpa using n4)).cell k (by simpa [consts] using hlt)
              obtain ⟨a, b, c, d, e, f, g, q, hrd⟩ := eight hrl
              rw [hrd] at Ak
              have hnx : rds ws h0 (k + 1) = rnd [a, b, c, d, e, f, g, q] (consts.getD k 0) (ws.getD k 0) := by simp only [rds, hrd]
              obtain ⟨x, hx⟩ : ∃ x, x = ws.getD k 0 := ⟨_, rfl⟩
              obtain ⟨y, hy⟩ : ∃ y, y = consts.getD k 0 := ⟨_, rfl⟩
              rw [← hx] at hcw hnx
              rw [← hy] at hck hnx
              have HN := hide hnx
              have c0 := Ak.cell 0 (by simp)
              have c1 := Ak.cell 1 (by simp)
              have c2 := Ak.cell 2 (by simp)
              have c3 := Ak.cell 3 (by simp)
              have c4 := Ak.cell 4 (by simp)
              have c5 := Ak.cell 5 (by simp)
              have c6 := Ak.cell 6 (by simp)
              have c7 := Ak.cell 7 (by simp)
              simp only [List.getD_cons_zero, List.getD_cons_succ] at c0 c1 c2 c3 c4 c5 c6 c7
              have hA := hide Ak
              have hkr := hide Kr
              clear Ak Kr hx hy hnx hrd hrl
              go_wp2_with fail
              refine region_read Tryd.mixed (by kernel_rfl) ?_
              repeat (first | go_big_quiet_skip | (go_big_quiet_want; go_big_quiet_op; go_big_quiet_on))
              refine wpQuiet_nil ?_
              go_wp2_with fail
              refine region_read Tryd.mixed (by kernel_rfl) ?_
              repeat (first | go_big_quiet_skip | (go_big_quiet_want; go_big_quiet_op; first | go_big_quiet_on | (refine ⟨_, turn_any _ _ _ (by omega) (by omega), ?_⟩; go_big_quiet_on)))
              refine wpQuiet_nil ?_
              go_wp2_with fail
              refine region_read Tryd.mixed (by kernel_rfl) ?_
              repeat (first | go_big_quiet_skip | (go_big_quiet_want; go_big_quiet_op; first | go_big_quiet_on | (refine ⟨_, turn_any _ _ _ (by omega) (by omega), ?_⟩; go_big_quiet_on)))
              refine wpQuiet_nil ?_
              have hA3 : Ar wr.drew.drew.drew b4 102 [a, b, c, d, e, f, g, q] := unhide hA
              go_wp2_with (refine wpList_store_ar rfl 102 (.tmp 12) (.tmp 181) rfl b4 rfl _ _ [_, _, _, _, _, _, _, _] hA3 rfl rfl Tryd.sz8 ?_; intro w9 A9 K9 z9)
              go_roundw
              case rel =>
                refine ⟨k + 1, by omega, by go_num, ((unhide hkr).drew.drew.drew).trans K9, ?_⟩
                rw [unhide HN, rnd_raw2]
                exact A9
              case measure => simp [intOf]; omega
            · obtain rfl : k = 64 := by omega
              clear hk hlt
              obtain ⟨tt, htt⟩ : ∃ tt, tt = rds ws h0 64 := ⟨_, rfl⟩
              rw [← htt] at Ak hrl
              have HT := hide htt
              have hAk := hide Ak
              have AH := (unhide hAH).kept Kr (by simpa using n1)
              have hAR8 := hide ((unhide hAR).kept Kr (by simpa using n2))
              have hKW : Hid (Kp [] w wr) := (unhide hK6).then Kr (by simp; omega)
              have h00 : h0 = List.zipWith ad (h0.take 0) tt ++ h0.drop 0 := by simp
              rw [h00] at AH
              have hAH8 := hide AH
              obtain ⟨w8, hw8⟩ : ∃ w8, w8 = wr := ⟨_, rfl⟩
              subst hw8
              have hb21 : b1 ≠ b2 := by have := unhide HB12; omega
              clear Ak Kr AH h00 htt hA6 hAW hAH hAR hAK hK6
              go_wp2_with fail
              go_loopw [18] (fun i wr => ∃ k : Nat, k ≤ 8 ∧ i = .int .i64 k ∧ Kp [b1] w8 wr ∧ Ar wr b1 102 (List.zipWith ad (h0.take k) tt ++ h0.drop k)) (fun i _ => 8 - (intOf i).toNat)
              case atStart => exact ⟨0, by omega, rfl, Kp.refl _ _, unhide hAH8⟩
              case round =>
                obtain ⟨k, hk, rfl, Kr, Ak⟩ := hrel
                clear hAH8
                have A9 := (unhide hAk).kept Kr (by simp; omega)
                by_cases hlt : k < 8
                · have hlt2 : (k : Int) < 8 := by omega
                  obtain ⟨ys, hys⟩ : ∃ ys, ys = List.zipWith ad (h0.take k) tt ++ h0.drop k := ⟨_, rfl⟩
                  have hz : (List.zipWith ad (h0.take k) tt).length = k := by simp; omega
                  have hyl : ys.length = 8 := by rw [hys]; simp [hz]; omega
                  have hset : ys.set k (ad (ys.getD k 0) (tt.getD k 0)) = List.zipWith ad (h0.take (k + 1)) tt ++ h0.drop (k + 1) := zip_step h0 tt k (by omega) (by omega) ys hys
                  rw [← hys] at Ak
                  have hc1 := Ak.cell k (by omega)
                  have hc2 := A9.cell k (by omega)
                  have hfk := Ak.frozen k
                  obtain ⟨x, hx⟩ : ∃ x, x = ys.getD k 0 := ⟨_, rfl⟩
                  obtain ⟨y, hy⟩ : ∃ y, y = tt.getD k 0 := ⟨_, rfl⟩
                  rw [← hx] at hc1 hset
                  rw [← hy] at hc2 hset
                  have HS := hide hset
                  have HA := hide Ak
                  have hkr := hide Kr
                  clear hx hy hset Ak Kr A9 hys hz
                  go_wp2_with fail
                  refine region_tail 9 Tryd.mixed (by kernel_rfl) ?_
                  simp only [List.take_succ_cons, List.take_zero, List.drop_succ_cons, List.drop_zero]
                  repeat (first | go_big_quiet_skip | (go_big_quiet_want; go_big_quiet_op; go_big_quiet_on))
                  refine wpQuiet_nil ?_
                  go_wp2_with fail
                  go_roundw
                  case rel =>
                    refine ⟨k + 1, by omega, by go_num, ((unhide hkr).setCell (p := ⟨b1, k, none⟩) (.inl (by simp)) _).drew, ?_⟩
                    rw [← unhide HS]
                    exact (unhide HA).set k _
                  case measure => simp [intOf]; omega
                · obtain rfl : k = 8 := by omega
                  have A10 := (unhide hAR8).kept Kr (by simp; omega)
                  have hfin : List.zipWith ad (h0.take 8) tt ++ h0.drop 8 = blk h0 bs := by
                    rw [List.take_of_length_le (by omega), List.drop_of_length_le (by omega), List.append_nil, unhide HT, unhide HW, blk_ref]
                  rw [hfin] at Ak
                  have hbl : (blk h0 bs).length = 8 := blk_len _ _ hh
                  have hib : (Tryd.prog.info? 102).map (·.size) = some (blk h0 bs).length := by rw [hbl]; exact Tryd.sz8
                  go_wp2_with (first
                    | (refine wpList_load_ar rfl 102 (.tmp 3) rfl b1 rfl _ _ 8 70 Ak Tryd.underlying102 hib ?_)
                    | (refine wpList_store_ar rfl 102 (.tmp 6) (.tmp 195) rfl b2 rfl _ _ _ A10 rfl (by rw [hbl]; rfl) hib ?_; intro w9 A9 K9 z9))
                  refine bodyPost_ret (results_cell_row rfl _ w9 b2 _ _ (0, 0) (.array 8 70) rfl A9 Tryd.underlying102 rfl (by simpa using hib)) rfl ?_
                  refine ⟨rfl, ?_⟩
                  have hbw2 : w.heap.size ≤ b2 := by have := unhide HB12; omega
                  exact ((unhide hKW).then Kr (by simp; omega)).then K9 (by simp; omega)
end Go.Proofs.YtdioaohejoflcaaDoor
