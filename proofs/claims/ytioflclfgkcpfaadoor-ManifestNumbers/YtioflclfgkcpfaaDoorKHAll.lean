/-
  The contract of the program's mixAll: all blocks of a text that has whole ones alone.
-/
import Derived.Test.YtioflclfgkcpfaaDoorKHMix
namespace Go.Proofs.YtioflclfgkcpfaaDoor
open Go.RowKit

theorem quiet_load_ar {o : Oper} {a : Act} {w : World} {K : Act → Prop} (ty : TypeId) (x : Operand) (ho : o.op = .load ty x) (b : Nat) (hx : a.eval x = .pointer (some ⟨b, 0, none⟩)) (t : TypeId) (s : List Int) (n : Nat) (e : TypeId) (hA : Ar w b t s)
    (hu : Tryd.prog.underlying ty = some (.array n e)) (hi : (Tryd.prog.info? ty).map (·.size) = some s.length) (h : K (a.put o.dst (ag s))) : o.quiet Tryd.prog a (fun w' => w' = w) K := by
  refine ⟨ag s, fun w' hw => ?_, h⟩
  subst hw
  unfold Oper.quietAt execOp
  simp only [ho, hx, Instr.loadAt, Instr.sureAddr, Sem.run_bind, Sem.run_pure, Result.andThen_ok, run_loadVar_row w' b t ty _ (0, 0) (.array n e) hA hu rfl (by simpa using hi), Oper.quietUpon]
  exact ⟨trivial, rfl⟩
theorem Sl.sub {w : World} {a : Addr} {len c : Nat} {bs : List Int} (h : Sl w (.slice (some a) len c) bs) (i m : Nat) (hm : 0 < m) (hi : i + m ≤ bs.length) : Sl w (.slice (some (a.add i)) m (c - i)) ((bs.drop i).take m) := by
  have hc : bs.length ≤ c := by obtain ⟨_, _, e, h1, _⟩ := h; cases e; exact h1
  have h1 := h.drop i (by omega)
  rw [if_neg (by omega)] at h1
  have h2 := h1.take m (by simp; omega)
  exact h2
theorem Bs.take {bs : List Int} (h : Bs bs) (n : Nat) : Bs (bs.take n) := fun b hb => h b (List.mem_of_mem_take hb)
theorem Bs.drop {bs : List Int} (h : Bs bs) (n : Nat) : Bs (bs.drop n) := fun b hb => h b (List.mem_of_mem_drop hb)
theorem blk_len (s bs : List Int) (h : s.length = 8) : (blk s bs).length = 8 := by
  unfold blk
  simp [rds_len _ _ h, h]
theorem blks_len (s bs : List Int) (h : s.length = 8) : ∀ n, (blks n s bs).length = 8
  | 0 => h
  | n + 1 => blk_len _ _ (blks_len s bs h n)

set_option maxRecDepth 100000 in
set_option maxHeartbeats 2000000 in
theorem mixAll_any (s : List Int) (vb : Value) (bs : List Int) (n : Nat) (w : World) (hs : s.length = 8) (hS : Sl w vb bs) (hl : bs.length = 64 * n) (hn : n ≤ 1000000000000) (hB : Bs bs) (hG : Gl w) : Calls Tryd.prog 58 #[ag s, vb] w fun e w' => e = .returned (ag (blks n s bs)) ∧ Kp [] w w' := by
  obtain ⟨i0, hi0, hz0⟩ := Tryd.zeroW
  have HB : Hid (Bs bs) := hB
  have HG : Hid (Gl w) := hG
  have hpos := hG.pos
  have HSl : Hid (Sl w vb bs) := hS
  obtain ⟨ab, cb, rfl, h1, h2, h3, _⟩ := hS
  rw [hl] at h1 HSl ⊢
  have h1i : 64 * (n : Int) ≤ (cb : Int) := by omega
  clear hB hG
  go_enter Tryd.func58, Tryd.ntmps58
  go_wp2_with (first
    | (refine wpList_box_ar (w := w) rfl 80 (.tmp 0) rfl _ rfl ?_; intro wa Aa Ka za)
    | (refine wpList_alloc_ar (w := wa) rfl 80 rfl i0 _ hi0 hz0 ?_; intro w1 A1 K1 z1))
  obtain ⟨b1, hb1⟩ : ∃ b, b = w.heap.size := ⟨_, rfl⟩
  obtain ⟨b2, hb2⟩ : ∃ b, b = b1 + 1 := ⟨_, rfl⟩
  have hne : b1 ≠ b2 := by omega
  rw [← hb1] at Aa
  rw [za, ← hb1, ← hb2] at A1
  have K2 := Ka.trans K1
  have A2 := Aa.kept K1 (by simp)
  simp only [← hb1, ← hb2]
  have hbw : w.heap.size ≤ b2 := by omega
  have hbw1 : w.heap.size ≤ b1 := by omega
  have hA1 := hide A1
  have hA2 := hide A2
  have hK2 := hide K2
  clear hb1 hb2 Ka K1 Aa za A1 A2 K2 z1
  go_loopw [5] (fun i wr => ∃ k : Nat, k ≤ n ∧ i = .int .i64 (64 * k : Int) ∧ Kp [b1] w1 wr ∧ Ar wr b1 80 (blks k s bs)) (fun i _ => 64 * n - (intOf i).toNat)
  case atStart => exact ⟨0, by omega, rfl, Kp.refl _ _, unhide hA2⟩
  case round =>
    obtain ⟨k, hk, rfl, Kr, Ak⟩ := hrel
    have hlk := blks_len s bs hs k
    by_cases hlt : k < n
    · have hlt2 : (k : Int) < (n : Int) := by omega
      cases ab with
      | none => have := h3 rfl; omega
      | some ab =>
      have Kw : Kp [b1] w wr := ((unhide hK2).mono (by simp)).trans Kr
      have Sr := (unhide HSl).old Kw (by intro i _ hi; simp; omega)
      have Sk := hide (Sr.sub (64 * k) 64 (by omega) (by omega))
      have HKr := hide Kr
      have HA := hide Ak
      have hcb : ¬ (cb = 64 * k) := by omega
      have hs6 : 64 * k + 64 - 64 * k = 64 := by omega
      have hi : (Tryd.prog.info? 80).map (·.size) = some (blks k s bs).length := by rw [hlk]; exact Tryd.szW
      have AD : Ar wr.drew b1 80 (blks k s bs) := Ak
      obtain ⟨sk, hsk⟩ : ∃ sk, sk = blks k s bs := ⟨_, rfl⟩
      have HSK := hide hsk
      rw [← hsk] at HA AD hi hlk
      have hAD := hide AD
      clear Kr Ak Kw Sr AD hsk
      go_wp2_with fail
      refine region_tail 6 Tryd.mixed (by kernel_rfl) ?_
      simp only [List.take_succ_cons, List.take_zero, List.drop_succ_cons, List.drop_zero]
      go_big_quiet_want
      refine quiet_load_ar 80 (.tmp 2) rfl b1 rfl _ sk 8 22 (unhide hAD) Tryd.underlying80 hi ?_
      simp only [Act.put, List.set_cons_zero, List.set_cons_succ, List.setIfInBounds_toArray]
      go_big_quiet_on
      repeat (first | go_big_quiet_skip | (go_big_quiet_want; go_big_quiet_op; go_big_quiet_on))
      refine wpQuiet_nil ?_
      have hb64 : ((bs.drop (64 * k)).take 64).length = 64 := by simp; omega
      have GD : Gl wr.drew := ((unhide HG).kept (((unhide hK2).mono (by simp)).trans (unhide HKr) : Kp [b1] w wr) (by simp; omega)).kept (kp_drew wr) (by simp)
      have HGD := hide GD
      clear GD
      go_wp2_with (first
        | (refine (mix_any sk _ _ _ hlk ((unhide Sk).kept (kp_drew wr) (by simp)) hb64 (((unhide HB).drop _).take _) (unhide HGD)).mono ?_; rintro ee w5 ⟨rfl, K5⟩; have A5 := (unhide hAD).kept K5 (by simp); have hbl := blk_len sk ((bs.drop (64 * k)).take 64) hlk; have hi5 : (Tryd.prog.info? 80).map (·.size) = some (blk sk ((bs.drop (64 * k)).take 64)).length := by rw [hbl]; exact Tryd.szW)
        | (refine wpList_store_ar rfl 80 (.tmp 2) (.tmp 18) rfl b1 rfl _ _ _ A5 rfl (by rw [hbl]; exact hlk) hi5 ?_; intro w6 A6 K6 z6))
      go_roundw
      case rel =>
        refine ⟨k + 1, by omega, by go_num, ?_, ?_⟩
        · exact (((unhide HKr).trans ((kp_drew wr).mono (by simp))).trans (K5.mono (by simp))).trans K6
        · show Ar w6 b1 _ (blk (blks k s bs) ((bs.drop (64 * k)).take 64))
          rw [← unhide HSK]
          exact A6
      case measure => simp [intOf]; omega
    · obtain rfl : k = n := by omega
      have A10 := (unhide hA1).kept Kr (by simp; omega)
      have hi : (Tryd.prog.info? 80).map (·.size) = some (blks k s bs).length := by rw [hlk]; exact Tryd.szW
      go_wp2_with (first
        | (refine wpList_load_ar rfl 80 (.tmp 2) rfl b1 rfl _ _ 8 22 Ak Tryd.underlying80 hi ?_)
        | (refine wpList_store_ar rfl 80 (.tmp 4) (.tmp 19) rfl b2 rfl _ _ _ A10 rfl (by rw [hlk]; rfl) hi ?_; intro w9 A9 K9 z9))
      refine bodyPost_ret (results_cell_row rfl _ w9 b2 _ _ (0, 0) (.array 8 22) rfl A9 Tryd.underlying80 rfl (by simpa using hi)) rfl ?_
      refine ⟨rfl, ?_⟩
      exact ((unhide hK2).then Kr (by simp; omega)).then K9 (by simp; omega)
end Go.Proofs.YtioflclfgkcpfaaDoor
