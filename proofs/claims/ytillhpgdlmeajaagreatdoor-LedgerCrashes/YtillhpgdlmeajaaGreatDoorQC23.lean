/-
  The contracts of package ledger: leaves, Root, Entry, Public, KeysLeft, isSize.
-/
import Derived.Test.YtillhpgdlmeajaaGreatDoorQC22
import Derived.Test.YtillhpgdlmeajaaGreatDoorQC20
namespace Go.Proofs.YtillhpgdlmeajaaGreatDoor
open Go.RowKit
open Go.Proofs
set_option linter.unusedVariables false
theorem RowU.room {w : World} {base m c : Nat} {ao : Option Addr} {l : List (List Int)} (h : RowU w base (.slice ao m c) l) : m ≤ c ∧ c ≤ maxLen ∧ (ao = none → c = 0) := by
  rcases h.2 with ⟨h', h0⟩ | ⟨g, cap, cur, h', hb, hg, hc, hx, hs, ht⟩
  · injection h' with h1 h2 h3
    exact ⟨by omega, by rw [h3]; unfold maxLen; omega, fun _ => h3⟩
  · injection h' with h1 h2 h3
    subst h3
    rw [h2]
    exact ⟨hc, by omega, fun e => by rw [h1] at e; cases e⟩
theorem run_ufirst (ao : Option Addr) (n c k : Nat) (w : World) (h2 : k ≤ c) (h4 : ao = none → c = 0) :
    (Instr.sliceAt 109 (.slice ao n c) none (some (.int .i64 (k : Nat))) none).run Tryz.prog w = .ok (.slice ao k c) w := by
  cases ao with
  | none =>
    have h0 := h4 rfl
    obtain rfl : k = 0 := by omega
    subst h0
    simp [go_sem, Tryz.underlying109]
  | some a =>
    have : (k : Int) ≤ (c : Int) := by omega
    simp [go_sem, Tryz.underlying109, this]
theorem Acc.lcm {w wr : World} {ls : List (List Int)} {v : Value} (h : Acc w ls v wr) (hl : ls.length ≤ 1000) : LcM ls v wr := by
  obtain ⟨l, h1, h2, _⟩ := h
  exact ⟨l, lc_of_owns h1.1 (h1.lists (by rw [← List.length_map (f := (·.2)), h2]; exact hl)), h2⟩
section
variable {w0 w : World} {l pd pk : Nat} {S : LS} {f : Fps}
set_option maxRecDepth 100000 in
set_option maxHeartbeats 4000000 in
theorem uleaves_any (h : Lg w0 w l pd pk S f) (n : Nat) (hn : n ≤ S.its.length) (hG : Gl w) :
    Calls Tryz.prog 68 #[.pointer (some ⟨l, 0, none⟩), .int .i64 n] w fun e w' => ∃ ao m c, e = .returned (.slice ao m c) ∧ Acc w ((S.its.take n).map tleafP) (.slice ao m c) w' := by
  obtain ⟨j, s, q, vs, pv, hx⟩ := h
  obtain ⟨v2, b2, hSc, hRU, -⟩ := hx.sh.ex
  have hbs := hx.sh.bs
  have hfew := hx.few
  obtain ⟨a2, c2, rfl⟩ := hRU.shape
  obtain ⟨r1, r2, r3⟩ := hRU.room
  obtain ⟨i0, hi0, hz0, hz1, hz2⟩ := info_parts Tryz.infoSl
  have HAt := hide hx.at_
  have HSc := hide hSc
  have HRU := hide hRU
  have HBs := hide hbs
  have HG := hide hG
  have hrun := fun wr => run_ufirst a2 S.its.length c2 n wr (by omega) r3
  have hnf : n ≤ 256 := by omega
  have HN := hide hn
  clear hx hSc hRU hbs hG r1 r2 r3 hn hfew
  go_enter Tryz.func68, Tryz.ntmps68
  go_wp2_with (at_make; refine wpList_make_own _ rfl _ _ 33 rfl w.heap.size 22 i0 (.slice none 0 0) 1 Tryz.underlying33 hi0 hz0 hz1 .i64 .i64 _ n rfl rfl rfl (by rw [hz2]; omega) (by unfold maxLen; omega) (Nat.le_refl _) ?_; intro w1 o1 g1; refine Hid.out ?_)
  have K1 : Kp [] w w1 := (Kp.refl [] w).grown g1 (by intro k hk; cases hk)
  have hc1 := (HAt.out.kept K1 (by simp)).c1
  have hc0 : w1.cell? ⟨s, 0, none⟩ = some (.slice a2 S.its.length c2) := K1.cell HSc.out.c0 (by simp)
  have HA : Hid (Acc w ((S.its.take 0).map tleafP) (.slice (some ⟨w.heap.size, 0, none⟩) 0 n) w1) := ⟨[], ⟨o1, by simp⟩, by simp, K1⟩
  have hr1 := hrun w1
  clear o1 g1 K1 hrun
  refine hide ?_
  go_wp2_with fail
  go_loopw [5, 20] (fun o i wr => ∃ k : Nat, k ≤ n ∧ i = .int .i64 k ∧ (∃ ao m c, o = .slice ao m c) ∧ Acc w ((S.its.take k).map tleafP) o wr) (fun _ i _ => n - (intOf i).toNat)
  case atStart => exact ⟨0, by omega, rfl, ⟨_, _, _, rfl⟩, HA.out⟩
  case round =>
    obtain ⟨k, hk, rfl, ⟨ao, m, c, rfl⟩, A⟩ := hrel
    have HAk := hide A
    clear A HA hr1 hc1 hc0
    by_cases hlt : k < n
    · have hlt' : (k : Int) < (n : Int) := by omega
      have hkl : k < S.its.length := by have := HN.out; omega
      obtain ⟨g, rfl, hc⟩ := (HRU.out.kept HAk.out.kp (by simp)).at k hkl
      obtain ⟨hBx, hlx⟩ := HBs.out S.its[k] (List.getElem_mem hkl)
      have htk : S.its.take (k + 1) = S.its.take k ++ [S.its[k]] := List.take_succ_eq_append_getElem hkl
      obtain ⟨x, hxx⟩ : ∃ x, x = S.its[k] := ⟨_, rfl⟩
      rw [← hxx] at hc hBx hlx htk
      obtain ⟨c5, w5, hcv, S5, K5⟩ := conv_big (strOfNums x) wr (by rw [str_size]; omega)
      rw [nums_str x hBx] at S5
      have HLf := hide (tleaf_any _ x (tleafP x) rfl w5 S5 hBx (by omega) (HG.out.kept (HAk.out.kp.trans K5) (by simp)))
      have HK5 := hide K5
      have HTK := hide htk
      have hal : ((S.its.take k).map tleafP).length ≤ 256 := by rw [List.length_map, List.length_take]; omega
      clear S5 K5 htk hxx
      go_wp2_with fail
      refine HLf.out.mono ?_
      rintro ee w6 ⟨a6, m6, c6, rfl, R6, K6⟩
      have HR6 := hide (row_new R6 HK5.out)
      have HK6 := hide (HK5.out.trans K6)
      clear HLf R6 K6 hcv hc
      go_wp2_with (at_builtin; refine wpList_acc rfl (.tmp 24) (.tmp 28) rfl (.slice ao m c) _ rfl HAk.out (by omega) _ _ HK6.out HR6.out (sha_bs _) rfl ?_; intro a7 m7 c7 w7 A7)
      go_roundw
      case rel => exact ⟨k + 1, by omega, by go_num, ⟨a7, m7, c7, rfl⟩, by rw [HTK.out, List.map_append]; exact A7⟩
      case measure => simp [intOf]; omega
    · have hkn : k = n := by omega
      have hnlt : ¬ (k : Int) < (n : Int) := by omega
      have HAn : Hid (Acc w ((S.its.take n).map tleafP) (.slice ao m c) wr) := by rw [← hkn]; exact HAk.out
      clear hkn HAk
      go_wp2_with fail
      go_ret
      exact ⟨ao, m, c, rfl, by rw [← List.map_take]; exact HAn.out⟩
theorem uroot_any (h : Lg w0 w l pd pk S f) (r : List Int) (hr : r = rtU S.its) (hG : Gl w) :
    Calls Tryz.prog 23 #[.pointer (some ⟨l, 0, none⟩)] w fun e w' => ∃ ao m c, e = .returned (.slice ao m c) ∧ Row w' w.heap.size (.slice ao m c) r ∧ Kp [] w w' := by
  have HZ := hide (usize_any h _ rfl)
  have HLv := hide (uleaves_any h S.its.length (Nat.le_refl _) hG)
  have hfew := h.few
  have HG := hide hG
  have HR := hide hr
  rw [List.take_length] at HLv
  obtain ⟨n, hn⟩ : ∃ n, n = S.its.length := ⟨_, rfl⟩
  rw [← hn] at HZ HLv hfew
  have HN := hide hn
  clear h hG hr hn
  go_enter Tryz.func23, Tryz.ntmps23
  go_wp2_with fail
  refine HZ.out.mono ?_
  rintro ee w1 ⟨rfl, hw⟩
  subst w1
  clear HZ
  go_wp2_with fail
  refine HLv.out.mono ?_
  rintro ee w1 ⟨ao, m, c, rfl, A1⟩
  have HRt := hide (troot_any n _ (S.its.map tleafP) r w1 HR.out (by rw [List.length_map]; exact HN.out.symm) (by omega) (A1.lcm (by rw [List.length_map, ← HN.out]; omega)) (fun x hx => by
    obtain ⟨y, _, rfl⟩ := List.mem_map.1 hx
    have := sha_len (0 :: y); unfold tleafP; omega) (HG.out.kept A1.kp (by simp)))
  have HK1 := hide A1.kp
  clear HLv A1
  go_wp2_with fail
  refine HRt.out.mono ?_
  rintro ee w2 ⟨a2, m2, c2, rfl, R2, K2⟩
  have HR2 := hide (row_new R2 HK1.out)
  have HK2 := hide (HK1.out.trans K2)
  clear HRt R2 K2
  go_wp2_with fail
  go_ret
  exact ⟨a2, m2, c2, rfl, HR2.out, HK2.out⟩
theorem ukeys_any (h : Lg w0 w l pd pk S f) (x : Int) (hx : x = 16 - (S.n : Int)) : Calls Tryz.prog 35 #[.pointer (some ⟨l, 0, none⟩)] w fun e w' => e = .returned (.int .i64 x) ∧ w' = w := by
  obtain ⟨j, s, q, vs, pv, h⟩ := h
  have hc := h.at_.c2
  have HZ := hide (left_keys h.bf.bx h.nk x hx)
  clear h hx
  go_enter Tryz.func35, Tryz.ntmps35
  go_wp2_with fail
  refine HZ.out.mono ?_
  rintro ee w1 ⟨rfl, hw⟩
  subst w1
  clear HZ
  go_wp2_with fail
  go_ret
  exact ⟨rfl, rfl⟩
end
end Go.Proofs.YtillhpgdlmeajaaGreatDoor

/-
  The contracts of package ledger: copyOfEach, copyOf.
-/
namespace Go.Proofs.YtillhpgdlmeajaaGreatDoor
open Go.RowKit
open Go.Proofs
set_option linter.unusedVariables false
def RO (B : Nat) (r : List Int) : Tell := fun v w => ∃ a m c, v = .slice a m c ∧ Sl w (.slice a m c) r ∧ ∀ k, (Value.slice a m c).ownBlock = some k → B ≤ k
theorem stable_ro (B : Nat) (r : List Int) : Tell.stable (RO B r) := fun _ _ _ k ⟨a, m, c, e, h1, h2⟩ => ⟨a, m, c, e, h1.kept k (by simp), h2⟩
/-- the block of a slice may be written. -/
def Fz (w : World) (v : Value) : Prop := ∀ g, v.ownBlock = some g → g < w.heap.size ∧ ∀ k, w.frozen? ⟨g, k, none⟩ = false
theorem frz_kept {w w' : World} {S : List Nat} {g i : Nat} (k : Kp S w w') (hl : g < w.heap.size) (hn : g ∉ S) (h : w.frozen? ⟨g, i, none⟩ = false) : w'.frozen? ⟨g, i, none⟩ = false := by
  have e := k.block g hl hn
  unfold World.frozen? at h ⊢
  simp only at h ⊢
  rw [e]
  exact h
theorem Fz.kept {w w' : World} {v : Value} {S : List Nat} (h : Fz w v) (k : Kp S w w') (hS : ∀ g, v.ownBlock = some g → g ∉ S) : Fz w' v := fun g hg => ⟨Nat.lt_of_lt_of_le (h g hg).1 k.size, fun i => frz_kept k (h g hg).1 (hS g hg) ((h g hg).2 i)⟩
theorem Row.fz {w : World} {base : Nat} {v : Value} {bs : List Int} (h : Row w base v bs) : Fz w v := by
  intro g hg
  rcases h.2 with ⟨e, _⟩ | ⟨g', cap, cur, e, hb, hh, _⟩
  · rw [e] at hg; cases hg
  · rw [e] at hg
    obtain rfl : g' = g := by simpa [Value.ownBlock] using hg
    refine ⟨(Array.getElem?_eq_some_iff.1 hh).1, fun k => ?_⟩
    unfold World.frozen?
    simp [hh]
def RF (B : Nat) (r : List Int) : Tell := fun v w => RO B r v w ∧ Fz w v
theorem stable_rf (B : Nat) (r : List Int) : Tell.stable (RF B r) := fun v w w' k ⟨h1, h2⟩ => ⟨stable_ro B r _ _ _ k h1, h2.kept k (by simp)⟩
def CkF (B : Nat) (n : Int) (r : List Int) : Tell := fun v w => ∃ vr, v = .agg #[.int .i64 n, vr] ∧ RF B r vr w
theorem stable_ckf (B : Nat) (n : Int) (r : List Int) : Tell.stable (CkF B n r) := fun _ _ _ k ⟨vr, e, h⟩ => ⟨vr, e, stable_rf B r _ _ _ k h⟩
/-- a signed checkpoint that stays so whatever becomes of the blocks below b; its root may be written. -/
def SgU (b : Nat) (w : World) (v : Value) (s : Sg) : Prop := SgA b w v s ∧ ∀ n vr i p q, v = .agg #[n, vr, i, p, q] → Fz w vr ∧ ∀ g, vr.ownBlock = some g → b ≤ g
theorem SgU.v {b : Nat} {w : World} {v : Value} {s : Sg} (h : SgU b w v s) : SgV w v s := h.1.v
theorem SgU.f {b : Nat} {w w' : World} {v : Value} {s : Sg} (h : SgU b w v s) (k : Kp [] w w') : SgF (fun i => b ≤ i ∧ i < w'.heap.size) w' v s := h.1.f k
theorem SgU.low {b c : Nat} {w : World} {v : Value} {s : Sg} (h : SgU b w v s) (hc : c ≤ b) : SgU c w v s := ⟨h.1.low hc, fun n vr i p q e => ⟨(h.2 n vr i p q e).1, fun g hg => Nat.le_trans hc ((h.2 n vr i p q e).2 g hg)⟩⟩
theorem SgU.kept {b : Nat} {w w' : World} {v : Value} {s : Sg} {S : List Nat} (h : SgU b w v s) (hS : ∀ q ∈ S, q < b) (k : Kp S w w') : SgU b w' v s :=
  ⟨h.1.kept hS k, fun n vr i p q e => ⟨(h.2 n vr i p q e).1.kept k (fun g hg hm => by have := (h.2 n vr i p q e).2 g hg; have := hS g hm; omega), (h.2 n vr i p q e).2⟩⟩
/-- a list that stays so whatever becomes of the blocks below B. -/
def LO (B : Nat) (ls : List (List Int)) : Tell := fun v w => ∃ a m c, v = .slice a m c ∧ ∀ (S : List Nat) (w2 : World), (∀ q ∈ S, q < B) → Kp S w w2 → ∃ l, Lists w2 (.slice a m c) l ∧ l.map (·.2) = ls
theorem stable_lo (B : Nat) (ls : List (List Int)) : Tell.stable (LO B ls) := fun _ _ _ k ⟨a, m, c, e, h⟩ => ⟨a, m, c, e, fun S w2 hS k2 => h S w2 hS ((k.mono (by simp)).trans k2)⟩
def SigO (B : Nat) (i : Int) (ps qs : List (List Int)) : Tell := fun v w => ∃ vp vq, v = .agg #[.int .i64 i, vp, vq] ∧ LO B ps vp w ∧ LO B qs vq w
theorem stable_sigo (B : Nat) (i : Int) (ps qs : List (List Int)) : Tell.stable (SigO B i ps qs) := fun _ _ _ k ⟨vp, vq, e, h1, h2⟩ => ⟨vp, vq, e, stable_lo B ps _ _ _ k h1, stable_lo B qs _ _ _ k h2⟩
def SgdO (B : Nat) (s : Sg) : Tell := fun v w => ∃ vr vp vq, v = .agg #[.int .i64 s.n, vr, .int .i64 s.i, vp, vq] ∧ RF B s.r vr w ∧ LO B s.ps vp w ∧ LO B s.qs vq w
theorem stable_sgdo (B : Nat) (s : Sg) : Tell.stable (SgdO B s) := fun _ _ _ k ⟨vr, vp, vq, e, h1, h2, h3⟩ => ⟨vr, vp, vq, e, stable_rf B s.r _ _ _ k h1, stable_lo B s.ps _ _ _ k h2, stable_lo B s.qs _ _ _ k h3⟩
theorem grown_bck {o : Oper} {a : Act} {w : World} {B : Nat} {n : Int} {r : List Int} (x0 x1 : Operand) (ho : o.op = .build 68 #[(0, x0), (1, x1)]) (h0 : a.eval x0 = .int .i64 n) (h1 : RF B r (a.eval x1) w) :
    grown Tryz.prog w (CkF B n r) ((execOp a.eval o).run Tryz.prog w) := by
  obtain ⟨⟨ar, mr, cr, e, h2, h3⟩, h4⟩ := h1
  rw [e] at h4
  refine grown_run (v := .agg #[.int .i64 n, .slice ar mr cr]) ?_ (Kp.refl _ _) ⟨_, rfl, ⟨ar, mr, cr, rfl, h2, h3⟩, h4⟩
  obtain ⟨ρ, hρ, _⟩ := eval_is a
  rw [hρ] at e h0 ⊢
  unfold execOp
  simp only [ho]
  simp [go_sem, e, h0]
theorem grown_bsig {o : Oper} {a : Act} {w : World} {B : Nat} {i : Int} {ps qs : List (List Int)} (x0 x1 x2 : Operand) (ho : o.op = .build 70 #[(0, x0), (1, x1), (2, x2)]) (h0 : a.eval x0 = .int .i64 i) (h1 : LO B ps (a.eval x1) w) (h2 : LO B qs (a.eval x2) w) :
    grown Tryz.prog w (SigO B i ps qs) ((execOp a.eval o).run Tryz.prog w) := by
  obtain ⟨ap, mp, cp, e1, g1⟩ := h1
  obtain ⟨aq, mq, cq, e2, g2⟩ := h2
  refine grown_run (v := .agg #[.int .i64 i, .slice ap mp cp, .slice aq mq cq]) ?_ (Kp.refl _ _) ⟨_, _, rfl, ⟨ap, mp, cp, rfl, g1⟩, ⟨aq, mq, cq, rfl, g2⟩⟩
  obtain ⟨ρ, hρ, _⟩ := eval_is a
  rw [hρ] at e1 e2 h0 ⊢
  unfold execOp
  simp only [ho]
  simp [go_sem, e1, e2, h0]
theorem grown_bsgd {o : Oper} {a : Act} {w : World} {B : Nat} {n i : Int} {r : List Int} {ps qs : List (List Int)} (x0 x1 : Operand) (ho : o.op = .build 72 #[(0, x0), (1, x1)]) (h0 : CkF B n r (a.eval x0) w) (h1 : SigO B i ps qs (a.eval x1) w) :
    grown Tryz.prog w (SgdO B ⟨n, r, i, ps, qs⟩) ((execOp a.eval o).run Tryz.prog w) := by
  obtain ⟨vr, e, ⟨ar, mr, cr, rfl, h2, h3⟩, h4⟩ := h0
  obtain ⟨vp, vq, e1, ⟨ap, mp, cp, rfl, g1⟩, ⟨aq, mq, cq, rfl, g2⟩⟩ := h1
  refine grown_run (v := .agg #[.int .i64 n, .slice ar mr cr, .int .i64 i, .slice ap mp cp, .slice aq mq cq]) ?_ (Kp.refl _ _) ⟨_, _, _, rfl, ⟨⟨ar, mr, cr, rfl, h2, h3⟩, h4⟩, ⟨ap, mp, cp, rfl, g1⟩, ⟨aq, mq, cq, rfl, g2⟩⟩
  obtain ⟨ρ, hρ, _⟩ := eval_is a
  rw [hρ] at e e1 ⊢
  unfold execOp
  simp only [ho]
  simp [go_sem, e, e1]
theorem Acc.lo {B : Nat} {w wr : World} {ls : List (List Int)} {a : Option Addr} {m c : Nat} (h : Acc w ls (.slice a m c) wr) (hB : B ≤ w.heap.size) (hl : ls.length ≤ 1000) : LO B ls (.slice a m c) wr := by
  obtain ⟨l, h1, h2, h3⟩ := h
  refine ⟨a, m, c, rfl, fun S w2 hS k => ⟨l, (h1.keptS k (fun i hi => by have := hS i hi; omega)).lists (by rw [← List.length_map (f := (·.2)), h2]; exact hl), h2⟩⟩
set_option maxRecDepth 100000 in
set_option maxHeartbeats 4000000 in
theorem ueach_any (v : Value) (l : List (Value × List Int)) (ls : List (List Int)) (w : World) (hL : Lists w v l) (hls : l.map (·.2) = ls) (hn : ls.length ≤ 1000) (hm : ∀ x ∈ ls, x.length ≤ 1000) :
    Calls Tryz.prog 117 #[v] w fun e w' => ∃ ao m c, e = .returned (.slice ao m c) ∧ Acc w ls (.slice ao m c) w' := by
  have hB := hL.bs
  obtain ⟨al, cl, rfl, -, hcell⟩ := hL
  obtain ⟨i0, hi0, hz0, hz1, hz2⟩ := info_parts Tryz.infoSl
  obtain ⟨N, hN⟩ : ∃ N, N = l.length := ⟨_, rfl⟩
  have hNl : ls.length = N := by rw [← hls, hN]; simp
  have hget : ∀ k (hk : k < N), ∃ (hk2 : k < ls.length), ∃ b off, al = some ⟨b, off, none⟩ ∧ ∃ u, w.cell? ⟨b, off + k, none⟩ = some u ∧ Sl w u ls[k] ∧ Bs ls[k] := fun k hk => by
    have hk1 : k < l.length := by omega
    obtain ⟨b, off, e, h1, h2, h3⟩ := hcell k hk1
    have hk2 : k < ls.length := by omega
    have e2 : ls[k] = l[k].2 := by simp [← hls]
    exact ⟨hk2, b, off, e, l[k].1, h1, by rw [e2]; exact h2, by rw [e2]; exact h3⟩
  rw [← hN]
  have HGet := hide hget
  have HM := hide hm
  have HNl := hide hNl
  have hN1 : N ≤ 1000 := by omega
  clear hcell hget hB hls hN hn hm hNl
  go_enter Tryz.func117, Tryz.ntmps117
  go_wp2_with (at_make; refine wpList_make_own _ rfl _ _ 33 rfl w.heap.size 22 i0 (.slice none 0 0) 1 Tryz.underlying33 hi0 hz0 hz1 .i64 .i64 _ N rfl rfl rfl (by rw [hz2]; omega) (by unfold maxLen; omega) (Nat.le_refl _) ?_; intro w1 o1 g1; refine Hid.out ?_)
  have K1 : Kp [] w w1 := (Kp.refl [] w).grown g1 (by intro k hk; cases hk)
  have HA : Hid (Acc w (ls.take 0) (.slice (some ⟨w.heap.size, 0, none⟩) 0 N) w1) := ⟨[], ⟨o1, by simp⟩, by simp, K1⟩
  clear o1 g1 K1
  refine hide ?_
  go_wp2_with fail
  go_loopw [3, 11] (fun o i wr => ∃ k : Nat, k ≤ N ∧ i = .int .i64 k ∧ (∃ ao m c, o = .slice ao m c) ∧ Acc w (ls.take k) o wr) (fun _ i _ => N - (intOf i).toNat)
  case atStart => exact ⟨0, by omega, rfl, ⟨_, _, _, rfl⟩, HA.out⟩
  case round =>
    obtain ⟨k, hk, rfl, ⟨ao, m, c, rfl⟩, A⟩ := hrel
    have HAk := hide A
    clear A HA
    by_cases hlt : k < N
    · have hlt' : (k : Int) < (N : Int) := by omega
      obtain ⟨hk2, b, off, rfl, u, hu, hSu, hBu⟩ := HGet.out k hlt
      have hcu := HAk.out.kp.cell hu (by simp)
      have htk : ls.take (k + 1) = ls.take k ++ [ls[k]] := List.take_succ_eq_append_getElem hk2
      have hxm := HM.out _ (List.getElem_mem hk2)
      obtain ⟨x, hxx⟩ : ∃ x, x = ls[k] := ⟨_, rfl⟩
      rw [← hxx] at hSu hBu htk hxm
      have HCl := hide (dclone_any u x wr (hSu.kept HAk.out.kp (by simp)) (by omega))
      obtain ⟨ax, cx, hux, -⟩ := id hSu
      obtain ⟨nx, hnx⟩ : ∃ n, n = x.length := ⟨_, rfl⟩
      rw [← hnx] at hux
      rw [hux] at hcu HCl
      have HTK := hide htk
      have HBu := hide hBu
      have hal : (ls.take k).length ≤ 1000 := by rw [List.length_take]; omega
      clear hSu hBu htk hxx hu hux hnx hxm
      go_wp2_with fail
      refine HCl.out.mono ?_
      rintro ee w6 ⟨a6, m6, c6, rfl, R6, K6⟩
      have HR6 := hide R6
      have HK6 := hide K6
      clear HCl R6 K6 hcu
      go_wp2_with (at_builtin; refine wpList_acc rfl (.tmp 15) (.tmp 18) rfl (.slice ao m c) _ rfl HAk.out (by omega) _ _ HK6.out HR6.out HBu.out rfl ?_; intro a7 m7 c7 w7 A7)
      go_roundw
      case rel => exact ⟨k + 1, by omega, by go_num, ⟨a7, m7, c7, rfl⟩, by rw [HTK.out]; exact A7⟩
      case measure => simp [intOf]; omega
    · have hkn : k = N := by omega
      have hnlt : ¬ (k : Int) < (N : Int) := by omega
      have HAn : Hid (Acc w ls (.slice ao m c) wr) := by
        have := HAk.out
        rwa [List.take_of_length_le (by have := HNl.out; omega)] at this
      clear hkn HAk
      go_wp2_with fail
      go_ret
      exact ⟨ao, m, c, rfl, HAn.out⟩
/-- no part of a signature is long. -/
structure Sg.Small (s : Sg) : Prop where
  r : s.r.length ≤ 1000
  ps : s.ps.length ≤ 1000
  qs : s.qs.length ≤ 1000
  pm : ∀ x ∈ s.ps, x.length ≤ 1000
  qm : ∀ x ∈ s.qs, x.length ≤ 1000
set_option maxRecDepth 100000 in
set_option maxHeartbeats 4000000 in
theorem ucopy_any (v : Value) (s : Sg) (w : World) (hV : SgV w v s) (hs : s.Small) :
    Calls Tryz.prog 78 #[v] w fun e w' => ∃ v', e = .returned v' ∧ SgU w.heap.size w' v' s ∧ Kp [] w w' := by
  obtain ⟨n, r, i, ps, qs⟩ := s
  obtain ⟨h1, h2, h3, h4, h5⟩ := hs
  simp only at h1 h2 h3 h4 h5
  obtain ⟨ar, mr, cr, vp, vq, rfl, ⟨hSr, hBr⟩, hSig⟩ := hV
  obtain ⟨vp', vq', lp, lq, e, hLp, hlp, hLq, hlq⟩ := hSig
  simp only [Value.agg.injEq, Array.mk.injEq, List.cons.injEq, and_true, true_and] at e
  obtain ⟨rfl, rfl⟩ := e
  simp only at hSr hBr hlp hlq
  obtain ⟨ap, cp, hvp, -⟩ := id hLp
  obtain ⟨aq, cq, hvq, -⟩ := id hLq
  obtain ⟨np, hnp⟩ : ∃ n, n = lp.length := ⟨_, rfl⟩
  obtain ⟨nq, hnq⟩ : ∃ n, n = lq.length := ⟨_, rfl⟩
  rw [← hnp] at hvp
  rw [← hnq] at hvq
  subst hvp hvq
  obtain ⟨w2, hw2⟩ : ∃ w2, w2 = (w.alloc (.cells #[.int .i64 n, .slice ar mr cr, .int .i64 i, .slice ap np cp, .slice aq nq cq] 72)).alloc (.cells #[.int .i64 0, .slice none 0 0, .int .i64 0, .slice none 0 0, .slice none 0 0] 72) := ⟨_, rfl⟩
  obtain ⟨g1, hg1⟩ : ∃ g, g = w.heap.size := ⟨_, rfl⟩
  obtain ⟨g2, hg2⟩ : ∃ g, g = w.heap.size + 1 := ⟨_, rfl⟩
  have K2 : Kp [] w w2 := by rw [hw2]; exact ((Kp.refl [] w).alloc _).alloc _
  have G1 : w2.heap[g1]? = some (.cells #[.int .i64 n, .slice ar mr cr, .int .i64 i, .slice ap np cp, .slice aq nq cq] 72 (0, 0)) := by rw [hw2, hg1]; exact heap_alloc2_old w _ _
  have G2 : w2.heap[g2]? = some (.cells #[.int .i64 0, .slice none 0 0, .int .i64 0, .slice none 0 0, .slice none 0 0] 72 (0, 0)) := by rw [hw2, hg2]; exact heap_alloc2_new w _ _
  have HD : Hid (∀ w', Kp [] w2.drew w' → Kp [] w2 w') := fun w' k' => (kp_drew w2).trans k'
  have HS1 : Hid (∀ w', Kp [] w2.drew w' → w'.heap[g1]? = some (.cells #[.int .i64 n, .slice ar mr cr, .int .i64 i, .slice ap np cp, .slice aq nq cq] 72 (0, 0))) := fun w' k' => (unhide HD w' k').heap G1 (by simp)
  have HSr : Hid (∀ w', Kp [] w2.drew w' → Sl w' (.slice ar mr cr) r) := fun w' k' => hSr.kept (K2.trans (unhide HD w' k')) (by simp)
  have HSp : Hid (∀ w', Kp [] w2.drew w' → Lists w' (.slice ap np cp) lp) := fun w' k' => hLp.kept (K2.trans (unhide HD w' k'))
  have HSq : Hid (∀ w', Kp [] w2.drew w' → Lists w' (.slice aq nq cq) lq) := fun w' k' => hLq.kept (K2.trans (unhide HD w' k'))
  have HRL : Hid (r.length ≤ 100000000) := hide (by omega)
  have HPe := hide hlp
  have HQe := hide hlq
  have HPn := hide h2
  have HQn := hide h3
  have HPm := hide h4
  have HQm := hide h5
  have HBr := hide hBr
  have HK2 := hide K2
  have HG2 := hide G2
  have HW2 := hide hw2
  have H1 := hide hg1
  have H2 := hide hg2
  clear h1 h2 h3 h4 h5 hSr hBr hLp hLq hlp hlq K2 G1 G2 hw2 hg1 hg2 hnp hnq
  go_enter Tryz.func78, Tryz.ntmps78
  go_wp2_with fail
  rw [← unhide HW2, ← unhide H2, ← unhide H1]
  refine region_grow_tail 21 Tryz.mixed [Is (.pointer (some ⟨g1, 0, none⟩)), Is (.pointer (some ⟨g1, 0, none⟩)), Is (.int .i64 n), Is (.pointer (some ⟨g1, 0, none⟩)), Is (.pointer (some ⟨g1, 1, none⟩)), Is (.slice ar mr cr), RF w2.drew.heap.size r, CkF w2.drew.heap.size n r, Is (.pointer (some ⟨g1, 2, none⟩)), Is (.pointer (some ⟨g1, 2, none⟩)), Is (.int .i64 i), Is (.pointer (some ⟨g1, 2, none⟩)), Is (.pointer (some ⟨g1, 3, none⟩)), Is (.slice ap np cp), LO w2.drew.heap.size ps, Is (.pointer (some ⟨g1, 2, none⟩)), Is (.pointer (some ⟨g1, 4, none⟩)), Is (.slice aq nq cq), LO w2.drew.heap.size qs, SigO w2.drew.heap.size i ps qs, SgdO w2.drew.heap.size ⟨n, r, i, ps, qs⟩] [[(1, none)], [(3, some 0)], [(4, some 1)], [(1, none)], [(6, some 3)], [(7, some 4)], [(8, some 5)], [(5, some 2), (9, some 6)], [(1, none)], [(11, some 8)], [(12, some 9)], [(1, none)], [(14, some 11)], [(15, some 12)], [(16, some 13)], [(1, none)], [(18, some 15)], [(19, some 16)], [(20, some 17)], [(13, some 10), (17, some 14), (21, some 18)], [(10, some 7), (22, some 19)]] (by kernel_rfl) ?_ ?_ ?_
  all_goals try simp only [List.take_succ_cons, List.take_zero, List.drop_succ_cons, List.drop_zero]
  · simp only [List.mem_cons, List.not_mem_nil, or_false]
    intro R hR
    rcases hR with rfl | rfl | rfl | rfl | rfl | rfl | rfl | rfl | rfl | rfl | rfl | rfl | rfl | rfl | rfl | rfl | rfl | rfl | rfl | rfl | rfl <;> first | exact stable_is _ | exact stable_rf _ _ | exact stable_ckf _ _ _ | exact stable_lo _ _ | exact stable_sigo _ _ _ _ | exact stable_sgdo _ _
  · refine steps_cons (fun a w hk hn => ?_) ?_
    · have h1 : a.eval (.tmp 1) = .pointer (some ⟨g1, 0, none⟩) := hn.1
      clear hn
      refine wants_plain rfl ?_
      refine grown_run (v := .pointer (some ⟨g1, 0, none⟩)) ?_ (Kp.refl _ _) rfl
      obtain ⟨ρ, hρ, hc, hf, hg⟩ := eval_is a
      rw [hρ] at h1 ⊢
      simp [go_sem, h1]
    refine steps_cons (fun a w hk hn => ?_) ?_
    · have h3 : a.eval (.tmp 3) = .pointer (some ⟨g1, 0, none⟩) := hn.1
      clear hn
      refine wants_plain rfl ?_
      refine grown_run (v := .pointer (some ⟨g1, 0, none⟩)) ?_ (Kp.refl _ _) rfl
      obtain ⟨ρ, hρ, hc, hf, hg⟩ := eval_is a
      rw [hρ] at h3 ⊢
      simp [go_sem, h3]
    refine steps_cons (fun a w hk hn => ?_) ?_
    · have h4 : a.eval (.tmp 4) = .pointer (some ⟨g1, 0, none⟩) := hn.1
      clear hn
      refine wants_plain rfl ?_
      refine grown_run (v := .int .i64 n) ?_ (Kp.refl _ _) rfl
      have hcell : w.cell? ⟨g1, 0, none⟩ = some (.int .i64 n) := by rw [cell_of_row w g1 0 _ _ _ (unhide HS1 w hk)]; rfl
      obtain ⟨ρ, hρ, hc, hf, hg⟩ := eval_is a
      rw [hρ] at h4 ⊢
      simp [go_sem, h4, hcell]
    refine steps_cons (fun a w hk hn => ?_) ?_
    · have h1 : a.eval (.tmp 1) = .pointer (some ⟨g1, 0, none⟩) := hn.1
      clear hn
      refine wants_plain rfl ?_
      refine grown_run (v := .pointer (some ⟨g1, 0, none⟩)) ?_ (Kp.refl _ _) rfl
      obtain ⟨ρ, hρ, hc, hf, hg⟩ := eval_is a
      rw [hρ] at h1 ⊢
      simp [go_sem, h1]
    refine steps_cons (fun a w hk hn => ?_) ?_
    · have h6 : a.eval (.tmp 6) = .pointer (some ⟨g1, 0, none⟩) := hn.1
      clear hn
      refine wants_plain rfl ?_
      refine grown_run (v := .pointer (some ⟨g1, 1, none⟩)) ?_ (Kp.refl _ _) rfl
      obtain ⟨ρ, hρ, hc, hf, hg⟩ := eval_is a
      rw [hρ] at h6 ⊢
      simp [go_sem, h6]
    refine steps_cons (fun a w hk hn => ?_) ?_
    · have h7 : a.eval (.tmp 7) = .pointer (some ⟨g1, 1, none⟩) := hn.1
      clear hn
      refine wants_plain rfl ?_
      refine grown_run (v := .slice ar mr cr) ?_ (Kp.refl _ _) rfl
      have hcell : w.cell? ⟨g1, 1, none⟩ = some (.slice ar mr cr) := by rw [cell_of_row w g1 1 _ _ _ (unhide HS1 w hk)]; rfl
      obtain ⟨ρ, hρ, hc, hf, hg⟩ := eval_is a
      rw [hρ] at h7 ⊢
      simp [go_sem, h7, hcell]
    refine steps_cons (fun a w hk hn => ?_) ?_
    · have h8 : a.eval (.tmp 8) = .slice ar mr cr := hn.1
      clear hn
      refine wants_plain rfl ?_
      refine grown_call (f := 45) rfl Tryz.func45 (by kernel_rfl) (by kernel_rfl) ?_
      simp only [List.map_toArray, List.map_cons, List.map_nil, h8]
      refine (dclone_any _ r w (unhide HSr w hk) (unhide HRL)).mono ?_
      rintro e w' ⟨a', m', c', rfl, R, K⟩
      exact ⟨_, rfl, K, ⟨a', m', c', rfl, R.sl, fun k hk' => Nat.le_trans hk.size (R.own k hk')⟩, R.fz⟩
    refine steps_cons (fun a w hk hn => ?_) ?_
    · have h5 : a.eval (.tmp 5) = .int .i64 n := hn.1
      have h9 : (RF w2.drew.heap.size r) (a.eval (.tmp 9)) w := hn.2.1
      clear hn
      refine wants_plain rfl ?_
      exact grown_bck (.tmp 5) (.tmp 9) rfl h5 h9
    refine steps_cons (fun a w hk hn => ?_) ?_
    · have h1 : a.eval (.tmp 1) = .pointer (some ⟨g1, 0, none⟩) := hn.1
      clear hn
      refine wants_plain rfl ?_
      refine grown_run (v := .pointer (some ⟨g1, 2, none⟩)) ?_ (Kp.refl _ _) rfl
      obtain ⟨ρ, hρ, hc, hf, hg⟩ := eval_is a
      rw [hρ] at h1 ⊢
      simp [go_sem, h1]
    refine steps_cons (fun a w hk hn => ?_) ?_
    · have h11 : a.eval (.tmp 11) = .pointer (some ⟨g1, 2, none⟩) := hn.1
      clear hn
      refine wants_plain rfl ?_
      refine grown_run (v := .pointer (some ⟨g1, 2, none⟩)) ?_ (Kp.refl _ _) rfl
      obtain ⟨ρ, hρ, hc, hf, hg⟩ := eval_is a
      rw [hρ] at h11 ⊢
      simp [go_sem, h11]
    refine steps_cons (fun a w hk hn => ?_) ?_
    · have h12 : a.eval (.tmp 12) = .pointer (some ⟨g1, 2, none⟩) := hn.1
      clear hn
      refine wants_plain rfl ?_
      refine grown_run (v := .int .i64 i) ?_ (Kp.refl _ _) rfl
      have hcell : w.cell? ⟨g1, 2, none⟩ = some (.int .i64 i) := by rw [cell_of_row w g1 2 _ _ _ (unhide HS1 w hk)]; rfl
      obtain ⟨ρ, hρ, hc, hf, hg⟩ := eval_is a
      rw [hρ] at h12 ⊢
      simp [go_sem, h12, hcell]
    refine steps_cons (fun a w hk hn => ?_) ?_
    · have h1 : a.eval (.tmp 1) = .pointer (some ⟨g1, 0, none⟩) := hn.1
      clear hn
      refine wants_plain rfl ?_
      refine grown_run (v := .pointer (some ⟨g1, 2, none⟩)) ?_ (Kp.refl _ _) rfl
      obtain ⟨ρ, hρ, hc, hf, hg⟩ := eval_is a
      rw [hρ] at h1 ⊢
      simp [go_sem, h1]
    refine steps_cons (fun a w hk hn => ?_) ?_
    · have h14 : a.eval (.tmp 14) = .pointer (some ⟨g1, 2, none⟩) := hn.1
      clear hn
      refine wants_plain rfl ?_
      refine grown_run (v := .pointer (some ⟨g1, 3, none⟩)) ?_ (Kp.refl _ _) rfl
      obtain ⟨ρ, hρ, hc, hf, hg⟩ := eval_is a
      rw [hρ] at h14 ⊢
      simp [go_sem, h14]
    refine steps_cons (fun a w hk hn => ?_) ?_
    · have h15 : a.eval (.tmp 15) = .pointer (some ⟨g1, 3, none⟩) := hn.1
      clear hn
      refine wants_plain rfl ?_
      refine grown_run (v := .slice ap np cp) ?_ (Kp.refl _ _) rfl
      have hcell : w.cell? ⟨g1, 3, none⟩ = some (.slice ap np cp) := by rw [cell_of_row w g1 3 _ _ _ (unhide HS1 w hk)]; rfl
      obtain ⟨ρ, hρ, hc, hf, hg⟩ := eval_is a
      rw [hρ] at h15 ⊢
      simp [go_sem, h15, hcell]
    refine steps_cons (fun a w hk hn => ?_) ?_
    · have h16 : a.eval (.tmp 16) = .slice ap np cp := hn.1
      clear hn
      refine wants_plain rfl ?_
      refine grown_call (f := 117) rfl Tryz.func117 (by kernel_rfl) (by kernel_rfl) ?_
      simp only [List.map_toArray, List.map_cons, List.map_nil, h16]
      refine (ueach_any _ lp ps w (unhide HSp w hk) (unhide HPe) (unhide HPn) (unhide HPm)).mono ?_
      rintro e w' ⟨a', m', c', rfl, A⟩
      exact ⟨_, rfl, A.kp, A.lo hk.size (unhide HPn)⟩
    refine steps_cons (fun a w hk hn => ?_) ?_
    · have h1 : a.eval (.tmp 1) = .pointer (some ⟨g1, 0, none⟩) := hn.1
      clear hn
      refine wants_plain rfl ?_
      refine grown_run (v := .pointer (some ⟨g1, 2, none⟩)) ?_ (Kp.refl _ _) rfl
      obtain ⟨ρ, hρ, hc, hf, hg⟩ := eval_is a
      rw [hρ] at h1 ⊢
      simp [go_sem, h1]
    refine steps_cons (fun a w hk hn => ?_) ?_
    · have h18 : a.eval (.tmp 18) = .pointer (some ⟨g1, 2, none⟩) := hn.1
      clear hn
      refine wants_plain rfl ?_
      refine grown_run (v := .pointer (some ⟨g1, 4, none⟩)) ?_ (Kp.refl _ _) rfl
      obtain ⟨ρ, hρ, hc, hf, hg⟩ := eval_is a
      rw [hρ] at h18 ⊢
      simp [go_sem, h18]
    refine steps_cons (fun a w hk hn => ?_) ?_
    · have h19 : a.eval (.tmp 19) = .pointer (some ⟨g1, 4, none⟩) := hn.1
      clear hn
      refine wants_plain rfl ?_
      refine grown_run (v := .slice aq nq cq) ?_ (Kp.refl _ _) rfl
      have hcell : w.cell? ⟨g1, 4, none⟩ = some (.slice aq nq cq) := by rw [cell_of_row w g1 4 _ _ _ (unhide HS1 w hk)]; rfl
      obtain ⟨ρ, hρ, hc, hf, hg⟩ := eval_is a
      rw [hρ] at h19 ⊢
      simp [go_sem, h19, hcell]
    refine steps_cons (fun a w hk hn => ?_) ?_
    · have h20 : a.eval (.tmp 20) = .slice aq nq cq := hn.1
      clear hn
      refine wants_plain rfl ?_
      refine grown_call (f := 117) rfl Tryz.func117 (by kernel_rfl) (by kernel_rfl) ?_
      simp only [List.map_toArray, List.map_cons, List.map_nil, h20]
      refine (ueach_any _ lq qs w (unhide HSq w hk) (unhide HQe) (unhide HQn) (unhide HQm)).mono ?_
      rintro e w' ⟨a', m', c', rfl, A⟩
      exact ⟨_, rfl, A.kp, A.lo hk.size (unhide HQn)⟩
    refine steps_cons (fun a w hk hn => ?_) ?_
    · have h13 : a.eval (.tmp 13) = .int .i64 i := hn.1
      have h17 : (LO w2.drew.heap.size ps) (a.eval (.tmp 17)) w := hn.2.1
      have h21 : (LO w2.drew.heap.size qs) (a.eval (.tmp 21)) w := hn.2.2.1
      clear hn
      refine wants_plain rfl ?_
      exact grown_bsig (.tmp 13) (.tmp 17) (.tmp 21) rfl h13 h17 h21
    refine steps_cons (fun a w hk hn => ?_) ?_
    · have h10 : (CkF w2.drew.heap.size n r) (a.eval (.tmp 10)) w := hn.1
      have h22 : (SigO w2.drew.heap.size i ps qs) (a.eval (.tmp 22)) w := hn.2.1
      clear hn
      refine wants_plain rfl ?_
      exact grown_bsgd (.tmp 10) (.tmp 22) rfl h10 h22
    exact trivial
  intro W1 hkW1
  rintro _ rfl
  rintro _ rfl
  rintro _ rfl
  rintro _ rfl
  rintro _ rfl
  rintro _ rfl
  intro v9 h9
  intro v10 h10
  rintro _ rfl
  rintro _ rfl
  rintro _ rfl
  rintro _ rfl
  rintro _ rfl
  rintro _ rfl
  intro v17 h17
  rintro _ rfl
  rintro _ rfl
  rintro _ rfl
  intro v21 h21
  intro v22 h22
  intro v23 h23
  refine fin_nil ?_
  simp only [Act.put, List.set_cons_zero, List.set_cons_succ, List.setIfInBounds_toArray]
  obtain ⟨vr, vp, vq, rfl, ⟨⟨a7, m7, c7, rfl, S7, O7⟩, Z7⟩, ⟨a8, m8, c8, rfl, L8⟩, ⟨a9, m9, c9, rfl, L9⟩⟩ := h23
  simp only at S7 O7 Z7 L8 L9
  have K67 := unhide HD W1 hkW1
  have G27 := K67.heap (unhide HG2) (by simp)
  have hsz7 : w2.drew.heap.size = w2.heap.size := rfl
  have hlt2 : g2 < w2.heap.size := lt_of_block (unhide HG2)
  clear h9 h10 h17 h21 h22
  go_wp2_with (refine wpList_store_flat rfl 72 (.tmp 2) (.tmp 23) rfl g2 0 rfl _ _ [.int .i64 n, .slice a7 m7 c7, .int .i64 i, .slice a8 m8 c8, .slice a9 m9 c9] G27 rfl (by simp) Tryz.sgdSize (by simp [Value.oneCell']) #[.int .i64 n, .slice a7 m7 c7, .int .i64 i, .slice a8 m8 c8, .slice a9 m9 c9] rfl ?_; intro w8 G8 K8)
  refine bodyPost_ret (results_flat1 rfl _ rfl G8 Tryz.underlying72 rfl Tryz.sgdSize) rfl ?_
  have hs2 := (unhide HK2).size
  have hg2 := unhide H2
  refine ⟨_, rfl, ⟨fun SS w9 hS9 k9 => ?_, fun n' vr' i' p' q' e' => ?_⟩, ((unhide HK2).trans K67).then K8 (fun i hi => .inr (by simp at hi; omega))⟩
  · have hlow : ∀ q ∈ [g2] ++ SS, q < w2.drew.heap.size := fun q hq => by
      rcases List.mem_append.1 hq with hq | hq
      · simp at hq; omega
      · have := hS9 q hq; omega
    have kk : Kp ([g2] ++ SS) W1 w9 := K8.comp k9
    obtain ⟨l8, q8, e8⟩ := L8 _ w9 hlow kk
    obtain ⟨l9, q9, e9⟩ := L9 _ w9 hlow kk
    refine ⟨a7, m7, c7, .slice a8 m8 c8, .slice a9 m9 c9, rfl, ⟨S7.kept kk (fun k hk hm => ?_), unhide HBr⟩, _, _, l8, l9, rfl, q8, e8, q9, e9⟩
    have := O7 k hk
    have := hlow k hm
    omega
  · simp only [Value.agg.injEq, Array.mk.injEq, List.cons.injEq, and_true] at e'
    obtain ⟨_, rfl, _⟩ := e'
    exact ⟨Z7.kept K8 (fun g hg hm => by simp at hm; have := O7 g hg; omega), fun g hg => by have := O7 g hg; have := hs2; omega⟩
end Go.Proofs.YtillhpgdlmeajaaGreatDoor
