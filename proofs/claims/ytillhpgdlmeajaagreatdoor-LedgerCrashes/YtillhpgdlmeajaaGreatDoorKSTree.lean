/-
  Signatures in memory; the contracts of package sign's small functions: isSeed, isKey, areHashes, Right.
-/
import Derived.Test.YtillhpgdlmeajaaGreatDoorKSSpec
import Derived.Test.YtillhpgdlmeajaaGreatDoorKOSmalls
import Derived.Test.YtillhpgdlmeajaaGreatDoorKOKeeps
import Derived.Test.YtillhpgdlmeajaaGreatDoorKRGrows
namespace Go.Proofs.YtillhpgdlmeajaaGreatDoor
open Go.RowKit

/-- v is a signature: its number, its parts, its path. -/
def SigV (w : World) (v : Value) (i : Int) (ps qs : List (List Int)) : Prop :=
  ∃ vp vq lp lq, v = .agg #[.int .i64 i, vp, vq] ∧ Lists w vp lp ∧ lp.map (·.2) = ps ∧ Lists w vq lq ∧ lq.map (·.2) = qs
theorem SigV.kept {w w' : World} {v : Value} {i : Int} {ps qs : List (List Int)} (h : SigV w v i ps qs) (k : Kp [] w w') : SigV w' v i ps qs := by
  obtain ⟨vp, vq, lp, lq, e, h1, h2, h3, h4⟩ := h
  exact ⟨vp, vq, lp, lq, e, h1.kept k, h2, h3.kept k, h4⟩
theorem SigV.bs {w : World} {v : Value} {i : Int} {ps qs : List (List Int)} (h : SigV w v i ps qs) : (∀ x ∈ ps, Bs x) ∧ ∀ x ∈ qs, Bs x := by
  obtain ⟨vp, vq, lp, lq, e, h1, rfl, h3, rfl⟩ := h
  refine ⟨fun x hx => ?_, fun x hx => ?_⟩
  · obtain ⟨y, hy, rfl⟩ := List.mem_map.1 hx; exact h1.bs y hy
  · obtain ⟨y, hy, rfl⟩ := List.mem_map.1 hx; exact h3.bs y hy
/-- are these n hashes? -/
def hsP (n : Nat) (ls : List (List Int)) : Bool := ls.length == n && ls.all (fun x => x.length == 32)
theorem hsP_bad {n : Nat} {ls : List (List Int)} (k : Nat) (h : k < ls.length) (hb : ls[k].length ≠ 32) : hsP n ls = false := by
  unfold hsP
  have : ls.all (fun x => x.length == 32) = false := by
    rw [List.all_eq_false]
    exact ⟨ls[k], List.getElem_mem h, by simpa using hb⟩
  rw [this, Bool.and_false]
theorem hsP_good {n : Nat} {ls : List (List Int)} (h : ls.length = n) (hb : ∀ i (h : i < ls.length), ls[i].length = 32) : hsP n ls = true := by
  unfold hsP
  rw [Bool.and_eq_true]
  refine ⟨by simp [h], List.all_eq_true.2 (fun x hx => ?_)⟩
  obtain ⟨i, hi, rfl⟩ := List.getElem_of_mem hx
  simp [hb i hi]
theorem hsP_short {n : Nat} {ls : List (List Int)} (h : ls.length ≠ n) : hsP n ls = false := by
  unfold hsP
  simp [h]
theorem rgtP_hs (i : Int) (ps qs : List (List Int)) : rgtP i ps qs = (decide (0 ≤ i ∧ i < 16) && (hsP 64 ps && hsP 4 qs)) := rfl

theorem isSeed_any (vb : Value) (bs : List Int) (w : World) (hS : Sl w vb bs) (hl : bs.length = 32) :
    Calls Tryz.prog 121 #[vb] w fun e w' => e = .returned (.bool true) ∧ w' = w := by
  obtain ⟨ab, cb, rfl, _⟩ := hS
  rw [hl]
  go_enter Tryz.func121, Tryz.ntmps121
  go_wp2_with fail
  go_ret
  exact ⟨rfl, rfl⟩
theorem isSeed_no (vb : Value) (bs : List Int) (w : World) (hS : Sl w vb bs) (hl : bs.length ≠ 32) :
    Calls Tryz.prog 121 #[vb] w fun e w' => e = .returned (.bool false) ∧ w' = w := by
  obtain ⟨ab, cb, rfl, _⟩ := hS
  have h1 : ((bs.length : Int) == 32) = false := beq_eq_false_iff_ne.2 (by omega)
  go_enter Tryz.func121, Tryz.ntmps121
  go_wp2_with fail
  go_ret
  exact ⟨by first | rfl | simp [h1], rfl⟩
theorem isKey_any (i : Int) (b : Bool) (hb : b = decide (0 ≤ i ∧ i < 16)) (w : World) :
    Calls Tryz.prog 164 #[.int .i64 i] w fun e w' => e = .returned (.bool b) ∧ w' = w := by
  by_cases h1 : 0 ≤ i
  · by_cases h2 : i < 16
    · obtain rfl : b = true := by rw [hb]; exact decide_eq_true ⟨h1, h2⟩
      clear hb
      go_enter Tryz.func164, Tryz.ntmps164
      go_wp2_with fail
      go_ret
      exact ⟨rfl, rfl⟩
    · obtain rfl : b = false := by rw [hb]; exact decide_eq_false (fun h => h2 h.2)
      clear hb
      go_enter Tryz.func164, Tryz.ntmps164
      go_wp2_with fail
      go_ret
      exact ⟨rfl, rfl⟩
  · obtain rfl : b = false := by rw [hb]; exact decide_eq_false (fun h => h1 h.1)
    clear hb
    go_enter Tryz.func164, Tryz.ntmps164
    go_wp2_with fail
    go_ret
    exact ⟨rfl, rfl⟩

end Go.Proofs.YtillhpgdlmeajaaGreatDoor

/-
  The contract of package sign's Right.
-/
namespace Go.Proofs.YtillhpgdlmeajaaGreatDoor
open Go.RowKit

theorem Lists.shape {w : World} {v : Value} {l : List (Value × List Int)} (h : Lists w v l) : ∃ ao c, v = .slice ao l.length c := by obtain ⟨ao, c, e, _⟩ := h; exact ⟨ao, c, e⟩
/-- a signature's own shape. -/
theorem SigV.shape {w : World} {v : Value} {i : Int} {ps qs : List (List Int)} (h : SigV w v i ps qs) : ∃ ap np cp aq nq cq lp lq, v = .agg #[.int .i64 i, .slice ap np cp, .slice aq nq cq] ∧ Lists w (.slice ap np cp) lp ∧ lp.map (·.2) = ps ∧ Lists w (.slice aq nq cq) lq ∧ lq.map (·.2) = qs ∧ np = ps.length ∧ nq = qs.length := by
  obtain ⟨vp, vq, lp, lq, e, h1, h2, h3, h4⟩ := h
  obtain ⟨ap, cp, e1⟩ := h1.shape
  obtain ⟨aq, cq, e2⟩ := h3.shape
  subst e1
  subst e2
  exact ⟨ap, _, cp, aq, _, cq, lp, lq, e, h1, h2, h3, h4, by rw [← h2]; simp, by rw [← h4]; simp⟩

end Go.Proofs.YtillhpgdlmeajaaGreatDoor

/-
  The contracts of package sign's nodes: nodeAbove, leaves, above.
-/
namespace Go.Proofs.YtillhpgdlmeajaaGreatDoor
open Go.RowKit
open Go.Proofs

set_option maxRecDepth 100000 in
set_option maxHeartbeats 1000000 in
theorem node_any (va vb : Value) (xs bs : List Int) (r : List Int) (hr : r = nodeP xs bs) (w : World) (hA : Sl w va xs) (hAB : Bs xs) (hB : Sl w vb bs) (hBB : Bs bs) (hal : xs.length ≤ 1000) (hbl : bs.length ≤ 1000) (hG : Gl w) :
    Calls Tryz.prog 152 #[va, vb] w fun e w' => ∃ ao m c, e = .returned (.slice ao m c) ∧ Row w' w.heap.size (.slice ao m c) r ∧ Kp [] w w' := by
  have HG := hide hG
  have HR := hide hr
  have HL := lists2 hA hAB hB hBB
  obtain ⟨aa, ca, hva, _⟩ := hA
  obtain ⟨ab, cb, hvb, _⟩ := hB
  obtain ⟨na, hna⟩ : ∃ n, n = xs.length := ⟨_, rfl⟩
  obtain ⟨nb, hnb⟩ : ∃ n, n = bs.length := ⟨_, rfl⟩
  rw [← hna] at hva
  rw [← hnb] at hvb
  subst hva
  subst hvb
  have HL2 := hide HL
  have HK := hide ((Kp.refl [] w).alloc (.cells #[.slice aa na ca, .slice ab nb cb] 22))
  clear HL hG hr hna hnb
  go_enter Tryz.func152, Tryz.ntmps152
  go_wp2_with fail
  refine (tagged_any 14 _ _ r (by rw [unhide HR, cat2]; rfl) _ (unhide HL2) (by omega) (by omega) (by simp) (by simp; omega) ((unhide HG).kept (unhide HK) (by simp))).mono ?_
  rintro ee w2 ⟨a2, m2, c2, rfl, R2, K2⟩
  have HR2 := hide (row_new R2 (unhide HK))
  have HK2 := hide ((unhide HK).trans K2)
  clear R2 K2 HL2 HK HR
  go_wp2_with fail
  go_ret
  exact ⟨a2, m2, c2, rfl, unhide HR2, unhide HK2⟩

set_option maxRecDepth 100000 in
set_option maxHeartbeats 1000000 in
theorem leaves_any (vb : Value) (bs : List Int) (w : World) (hS : Sl w vb bs) (hB : Bs bs) (hl : bs.length ≤ 1000) (hG : Gl w) :
    Calls Tryz.prog 122 #[vb] w fun e w' => ∃ ao m c, e = .returned (.slice ao m c) ∧ Acc w (lvsP bs 16) (.slice ao m c) w' := by
  obtain ⟨i0, hi0, hz0, hz1, hz2⟩ := info_parts Tryz.infoSl
  have HS := hide hS
  have HG := hide hG
  have HB := hide hB
  obtain ⟨ab, cb, hvb, _⟩ := hS
  obtain ⟨nb, hnb⟩ : ∃ n, n = bs.length := ⟨_, rfl⟩
  rw [← hnb] at hvb
  subst hvb
  clear hG hB hnb
  go_enter Tryz.func122, Tryz.ntmps122
  go_wp2_with (at_make; refine wpList_make_own _ rfl _ _ 33 rfl w.heap.size 22 i0 (.slice none 0 0) 1 Tryz.underlying33 hi0 hz0 hz1 .i64 .i64 _ 16 rfl rfl (by omega) (by rw [hz2]; omega) (by unfold maxLen; omega) (Nat.le_refl _) ?_; intro w1 o1 g1; have K1 : Kp [] w w1 := (Kp.refl [] w).grown g1 (by intro k hk; cases hk); have R1 : RowV w1 w.heap.size _ [] := o1)
  have A1 : Hid (Acc w (lvsP bs 0) (.slice (some ⟨w.heap.size, 0, none⟩) 0 16) w1) := ⟨[], ⟨R1, fun x hx => by cases hx⟩, rfl, K1⟩
  clear o1 g1 R1 K1
  go_loopw [3, 6] (fun v i wr => ∃ (k m cc : Nat) (ao : Option Addr), k ≤ 16 ∧ v = .slice ao m cc ∧ i = .int .i64 k ∧ Acc w (lvsP bs k) v wr) (fun _ i _ => 16 - (intOf i).toNat)
  case atStart => exact ⟨0, 0, 16, some ⟨w.heap.size, 0, none⟩, by omega, rfl, rfl, unhide A1⟩
  case round =>
    obtain ⟨k, m, cc, ao, hk, rfl, rfl, Ar⟩ := hrel
    clear A1
    have HA := hide Ar
    clear Ar
    by_cases hlt : k < 16
    · have hlt2 : (k : Int) < 16 := by omega
      obtain ⟨r, hr⟩ : ∃ r, r = pubP bs (k : Nat) := ⟨_, rfl⟩
      have HRB : Hid (Bs r) := by rw [hr]; exact pubP_bs _ _
      have HE : Hid (lvsP bs (k + 1) = lvsP bs k ++ [r]) := by rw [hr]; exact lvsP_succ _ _
      have HLN : Hid ((lvsP bs k).length ≤ 1000000) := by rw [lvsP_len]; show k ≤ 1000000; omega
      have HC := hide (public_any (.slice ab nb cb) bs (k : Nat) r hr wr ((unhide HS).kept (unhide HA).kp (by simp)) (unhide HB) hl ((unhide HG).kept (unhide HA).kp (by simp)))
      clear hr
      go_wp2_with fail
      refine (unhide HC).mono ?_
      rintro ee w4 ⟨a4, m4, c4, rfl, R4, K4⟩
      have HR4 := hide R4
      have HK4 := hide K4
      clear R4 K4 HC
      go_wp2_with (at_builtin; refine wpList_acc rfl (.tmp 9) (.tmp 13) rfl _ _ rfl (unhide HA) (unhide HLN) _ r (unhide HK4) (unhide HR4) (unhide HRB) rfl ?_; intro ao5 m5 c5 w5 A5)
      go_roundw
      case rel => exact ⟨k + 1, m5, c5, ao5, by omega, rfl, by go_num, by have e := unhide HE; rw [← e] at A5; exact A5⟩
      case measure => simp [intOf]; omega
    · obtain rfl : k = 16 := by omega
      go_wp2_with fail
      go_ret
      exact ⟨ao, m, cc, rfl, unhide HA⟩

/-- The value is a slice of one slice, which is a row that is new since. -/
def One (base : Nat) (r : List Int) : Tell := fun v w => ∃ g vx, v = .slice (some ⟨g, 0, none⟩) 1 1 ∧ w.cell? ⟨g, 0, none⟩ = some vx ∧ Row w base vx r
theorem stable_one (base : Nat) (r : List Int) : Tell.stable (One base r) := fun _ _ _ k ⟨g, vx, h1, h2, h3⟩ => ⟨g, vx, h1, k.cell h2 (by simp), h3.kept k (by simp)⟩
/-- The value is a row that is new since. -/
def RowT (base : Nat) (r : List Int) : Tell := fun v w => Row w base v r
theorem stable_row (base : Nat) (r : List Int) : Tell.stable (RowT base r) := fun _ _ _ k h => h.kept k (by simp)
theorem grown_one {o : Oper} {a : Act} {w : World} (x : Operand) (ho : o.op = .buildSlice 33 1 #[(0, x)]) (base : Nat) (r : List Int) (h : Row w base (a.eval x) r) : grown Tryz.prog w (One base r) ((execOp a.eval o).run Tryz.prog w) := by
  obtain ⟨ao, c, e⟩ := h.shape
  refine grown_run (v := .slice (some ⟨w.heap.size, 0, none⟩) 1 1) (w' := w.alloc (.cells #[a.eval x] 22)) ?_ ((Kp.refl _ _).alloc _) ⟨w.heap.size, _, rfl, cell_of_one (heap_alloc_new w _), h.kept ((Kp.refl [] w).alloc _) (by simp)⟩
  obtain ⟨ρ, hρ, hc, hf, hg⟩ := eval_is a
  rw [hρ] at e ⊢
  unfold execOp
  simp only [ho]
  simp [go_sem, e]
/-- one more slice behind them, as it lies in a block of its own. -/
theorem wpList_accg {w wr w3 : World} {ops : Array Oper} {rest : List Oper} {o : Oper} {a : Act} {Q : Exit → Act → World → Prop} (hgd : o.guard = none) (s x : Operand)
    (ho : o.op = .call { callee := .builtin .append, args := #[s, x], argTypes := #[33, 33] }) (v : Value) (ls : List (List Int)) (hs : a.eval s = v) (hA : Acc w ls v wr) (hl : ls.length ≤ 1000000)
    (bs : List Int) (k : Kp [] wr w3) (vx : Value) (hx : a.eval x = vx) (h1 : One wr.heap.size bs vx w3) (hb : Bs bs)
    (h : ∀ ao m c w', Acc w (ls ++ [bs]) (.slice ao m c) w' → wpList Tryz.prog ops Q rest (a.put o.dst (.slice ao m c)) w') : wpList Tryz.prog ops Q (o :: rest) a w3 := by
  obtain ⟨l, hP, hl2, hK⟩ := hA
  obtain ⟨g, vy, hv, hc, hr⟩ := h1
  have hP2 := hP.kept k
  obtain ⟨ax, cx, hvx⟩ := hr.shape
  refine wpList_append_rowv hgd s x ho w.heap.size v (l.map (·.1)) hs hP2.1 ⟨g, 0, none⟩ 1 [vy] (by rw [hx, hv]; rfl) ?_ ?_ ?_ ?_ ?_
  · intro j u hu
    have hj : j = 0 := by have := (List.getElem?_eq_some_iff.1 hu).1; simpa using this
    subst hj
    simp at hu
    subst hu
    exact hc
  · simp [hvx, Value.oneCell']
  · have : l.length = ls.length := by rw [← hl2]; simp
    simp; omega
  · have := hK.size
    have := k.size
    omega
  · intro ao m c w' r st
    refine h ao m c w' ⟨l ++ [(vy, bs)], hP.snoc (x := (vy, bs)) k hr hb (Kp.refl _ _) r st hK.size, by simp [hl2], ?_⟩
    exact (hK.trans k).then st.1 (fun i hi => .inr (hP.1.own i (by simpa using hi)))

theorem abv_take (ls : List (List Int)) (k : Nat) (h : k < ls.length / 2) : (abvP ls).take (k + 1) = (abvP ls).take k ++ [nodeP (ls.getD (2 * k) []) (ls.getD (2 * k + 1) [])] := by
  rw [List.take_succ_eq_append_getElem (by rw [abvP_len]; exact h)]
  simp [abvP]
theorem lists_at {w : World} {ao : Option Addr} {n c : Nat} {l : List (Value × List Int)} {ls : List (List Int)} (hL : Lists w (.slice ao n c) l) (he : l.map (·.2) = ls) (i : Nat) (hi : i < ls.length) :
    ∃ b off ax nx cx, ao = some ⟨b, off, none⟩ ∧ w.cell? ⟨b, off + i, none⟩ = some (.slice ax nx cx) ∧ Sl w (.slice ax nx cx) (ls.getD i []) ∧ Bs (ls.getD i []) := by
  subst he
  obtain ⟨ao', c', e, _, h2⟩ := hL
  have hi2 : i < l.length := by simpa using hi
  obtain ⟨b, off, e2, h3, h4, h5⟩ := h2 i hi2
  injection e with e0
  subst e0
  have hg : (l.map (·.2)).getD i [] = l[i].2 := by simp [List.getD, hi2]
  rw [hg]
  obtain ⟨ax, cx, e4, _⟩ := id h4
  rw [e4] at h3 h4
  exact ⟨b, off, ax, _, cx, e2, h3, h4, h5⟩

set_option maxRecDepth 100000 in
set_option maxHeartbeats 4000000 in
theorem above_any (vl : Value) (l : List (Value × List Int)) (ls : List (List Int)) (hls : l.map (·.2) = ls) (hm : ∀ x ∈ ls, x.length ≤ 1000) (w : World) (hL : Lists w vl l) (hn : ls.length ≤ 100) (he : ls.length % 2 = 0) (hG : Gl w) :
    Calls Tryz.prog 123 #[vl] w fun e w' => ∃ ao m c, e = .returned (.slice ao m c) ∧ Acc w (abvP ls) (.slice ao m c) w' := by
  obtain ⟨i0, hi0, hz0, hz1, hz2⟩ := info_parts Tryz.infoSl
  have HG := hide hG
  have HL := hide hL
  have HLS := hide hls
  have HM := hide hm
  have hlen : l.length = ls.length := by rw [← hls]; simp
  obtain ⟨al, cl, hvl, _⟩ := hL
  rw [hlen] at hvl
  subst hvl
  obtain ⟨N, hN⟩ : ∃ N, N = ls.length := ⟨_, rfl⟩
  have HN := hide hN
  rw [← hN] at hn he HL ⊢
  obtain ⟨M, hM⟩ : ∃ M, M = N / 2 := ⟨_, rfl⟩
  have hNM : N = 2 * M := by omega
  have hq : Int.tdiv (N : Int) 2 = (M : Int) := by rw [Int.tdiv_eq_ediv_of_nonneg (by omega)]; omega
  have hq2 : (N : Int) / 2 = (M : Int) := by omega
  have hM100 : (M : Int) ≤ 100 := by omega
  have hNi : (N : Int) ≤ 100 := by omega
  have HNM := hide hNM
  clear hG hlen hls hm hN hM hNM
  go_enter Tryz.func123, Tryz.ntmps123
  go_wp2_with (at_make; refine wpList_make_own _ rfl _ _ 33 rfl w.heap.size 22 i0 (.slice none 0 0) 1 Tryz.underlying33 hi0 hz0 hz1 .i64 .i64 _ M rfl rfl (by omega) (by rw [hz2]; omega) (by unfold maxLen; omega) (Nat.le_refl _) ?_; intro w1 o1 g1; have K1 : Kp [] w w1 := (Kp.refl [] w).grown g1 (by intro k hk; cases hk); have R1 : RowV w1 w.heap.size _ [] := o1)
  have A1 : Hid (Acc w ((abvP ls).take 0) (.slice (some ⟨w.heap.size, 0, none⟩) 0 M) w1) := ⟨[], ⟨R1, fun x hx => by cases hx⟩, rfl, K1⟩
  clear o1 g1 R1 K1
  go_loopw [3, 4] (fun v i wr => ∃ (k m cc : Nat) (ao : Option Addr), k ≤ M ∧ v = .slice ao m cc ∧ i = .int .i64 ((2 * k : Nat) : Int) ∧ Acc w ((abvP ls).take k) v wr) (fun _ i _ => 2 * M - (intOf i).toNat)
  case atStart => exact ⟨0, 0, M, some ⟨w.heap.size, 0, none⟩, by omega, rfl, rfl, unhide A1⟩
  case round =>
    obtain ⟨k, m, cc, ao, hk, rfl, rfl, Ar⟩ := hrel
    clear A1
    have HA := hide Ar
    clear Ar
    obtain ⟨j, hj⟩ : ∃ j, j = 2 * k := ⟨_, rfl⟩
    rw [← hj]
    by_cases hlt : k < M
    · have hlt2 : (j : Int) < (N : Int) := by have := unhide HNM; omega
      have hlt3 : (j : Int) + 1 < (N : Int) := by have := unhide HNM; omega
      have hwr : IntKind.i64.wrap ((j : Int) + 1) = (j : Int) + 1 := wrap_at rfl (by omega) (by omega)
      obtain ⟨b, off, ax, nx, cx, rfl, hcx, hSx, hBx⟩ := lists_at (unhide HL) (unhide HLS) j (by have := unhide HN; have := unhide HNM; omega)
      obtain ⟨b', off', ay, ny, cy, e, hcy, hSy, hBy⟩ := lists_at (unhide HL) (unhide HLS) (j + 1) (by have := unhide HN; have := unhide HNM; omega)
      injection e with e
      injection e with e1 e2
      subst e1
      subst e2
      have hxl : (ls.getD j []).length ≤ 1000 := unhide HM _ (getD_mem (by have := unhide HN; have := unhide HNM; omega))
      have hyl : (ls.getD (j + 1) []).length ≤ 1000 := unhide HM _ (getD_mem (by have := unhide HN; have := unhide HNM; omega))
      obtain ⟨r, hr⟩ : ∃ r, r = nodeP (ls.getD j []) (ls.getD (j + 1) []) := ⟨_, rfl⟩
      have HRB : Hid (Bs r) := by rw [hr]; exact nodeP_bs _ _
      have HE : Hid ((abvP ls).take (k + 1) = (abvP ls).take k ++ [r]) := by rw [hr, hj]; exact abv_take ls k (by have := unhide HN; have := unhide HNM; omega)
      have HLN : Hid (((abvP ls).take k).length ≤ 1000000) := by rw [List.length_take]; show min k _ ≤ 1000000; omega
      obtain ⟨X, hX⟩ : ∃ X, X = ls.getD j [] := ⟨_, rfl⟩
      obtain ⟨Y, hY⟩ : ∃ Y, Y = ls.getD (j + 1) [] := ⟨_, rfl⟩
      rw [← hX] at hSx hBx hxl hr
      rw [← hY] at hSy hBy hyl hr
      have HKr := hide (unhide HA).kp
      have CX : ∀ w', Kp [] wr.drew w' → w'.cell? ⟨b, off + j, none⟩ = some (.slice ax nx cx) := fun w' k' => (((unhide HKr).trans (kp_drew wr)).trans k').cell hcx (by simp)
      have CY : ∀ w', Kp [] wr.drew w' → w'.cell? ⟨b, off + (j + 1), none⟩ = some (.slice ay ny cy) := fun w' k' => (((unhide HKr).trans (kp_drew wr)).trans k').cell hcy (by simp)
      have SX : ∀ w', Kp [] wr.drew w' → Sl w' (.slice ax nx cx) X := fun w' k' => hSx.kept (((unhide HKr).trans (kp_drew wr)).trans k') (by simp)
      have SY : ∀ w', Kp [] wr.drew w' → Sl w' (.slice ay ny cy) Y := fun w' k' => hSy.kept (((unhide HKr).trans (kp_drew wr)).trans k') (by simp)
      have GL : ∀ w', Kp [] wr.drew w' → Gl w' := fun w' k' => (unhide HG).kept (((unhide HKr).trans (kp_drew wr)).trans k') (by simp)
      have BS : ∀ w', Kp [] wr.drew w' → wr.heap.size ≤ w'.heap.size := fun w' k' => k'.size
      have HCX := hide CX
      have HCY := hide CY
      have HSX := hide SX
      have HSY := hide SY
      have HGL := hide GL
      have HR := hide hr
      have HBX := hide hBx
      have HBY := hide hBy
      clear hX hY hcx hcy hSx hSy hBx hBy hr CX CY SX SY GL BS
      have hjj : (j : Int) = 2 * (k : Int) := by omega
      have HJ := hide hjj
      have HJN := hide hj
      clear hjj hj
      go_wp2_with fail
      refine region_grow_tail 12 Tryz.mixed [Is (.slice ao m cc), Is (.slice (some ⟨b, off, none⟩) N cl), Is (.int .i64 j), Is (.pointer (some ⟨b, off + j, none⟩)), Is (.slice ax nx cx), Is (.slice (some ⟨b, off, none⟩) N cl), Is (.int .i64 j), Is (.int .i64 (j + 1)), Is (.pointer (some ⟨b, off + (j + 1), none⟩)), Is (.slice ay ny cy), RowT wr.heap.size r, One wr.heap.size r] [[(3, none)], [(0, none)], [(4, none)], [(16, some 1), (17, some 2)], [(18, some 3)], [(0, none)], [(4, none)], [(21, some 6)], [(20, some 5), (22, some 7)], [(23, some 8)], [(19, some 4), (24, some 9)], [(25, some 10)]] (by kernel_rfl) ?_ ?_ ?_
      all_goals try simp only [List.take_succ_cons, List.take_zero, List.drop_succ_cons, List.drop_zero]
      · simp only [List.mem_cons, List.not_mem_nil, or_false]
        intro R hR
        rcases hR with rfl | rfl | rfl | rfl | rfl | rfl | rfl | rfl | rfl | rfl | rfl | rfl <;> first | exact stable_is _ | exact stable_row _ _ | exact stable_one _ _
      · refine steps_cons (fun a w hk hn => ?_) ?_
        · have h3 : a.eval (.tmp 3) = .slice ao m cc := hn.1
          clear hn
          refine wants_plain rfl ?_
          exact grown_move (.tmp 3) rfl h3
        refine steps_cons (fun a w hk hn => ?_) ?_
        · have h0 : a.eval (.tmp 0) = .slice (some ⟨b, off, none⟩) N cl := hn.1
          clear hn
          refine wants_plain rfl ?_
          exact grown_move (.tmp 0) rfl h0
        refine steps_cons (fun a w hk hn => ?_) ?_
        · have h4 : a.eval (.tmp 4) = .int .i64 j := hn.1
          clear hn
          refine wants_plain rfl ?_
          exact grown_move (.tmp 4) rfl h4
        refine steps_cons (fun a w hk hn => ?_) ?_
        · have h16 : a.eval (.tmp 16) = .slice (some ⟨b, off, none⟩) N cl := hn.1
          have h17 : a.eval (.tmp 17) = .int .i64 j := hn.2.1
          clear hn
          refine wants_plain rfl ?_
          refine grown_run (v := .pointer (some ⟨b, off + j, none⟩)) ?_ (Kp.refl _ _) rfl
          obtain ⟨ρ, hρ, hc, hf, hg⟩ := eval_is a
          rw [hρ] at h16 h17 ⊢
          simp [go_sem, h16, h17, hlt2]
        refine steps_cons (fun a w hk hn => ?_) ?_
        · have h18 : a.eval (.tmp 18) = .pointer (some ⟨b, off + j, none⟩) := hn.1
          clear hn
          refine wants_plain rfl ?_
          refine grown_run (v := .slice ax nx cx) ?_ (Kp.refl _ _) rfl
          have hcell := unhide HCX w hk
          obtain ⟨ρ, hρ, hc, hf, hg⟩ := eval_is a
          rw [hρ] at h18 ⊢
          simp [go_sem, h18, hcell]
        refine steps_cons (fun a w hk hn => ?_) ?_
        · have h0 : a.eval (.tmp 0) = .slice (some ⟨b, off, none⟩) N cl := hn.1
          clear hn
          refine wants_plain rfl ?_
          exact grown_move (.tmp 0) rfl h0
        refine steps_cons (fun a w hk hn => ?_) ?_
        · have h4 : a.eval (.tmp 4) = .int .i64 j := hn.1
          clear hn
          refine wants_plain rfl ?_
          exact grown_move (.tmp 4) rfl h4
        refine steps_cons (fun a w hk hn => ?_) ?_
        · have h21 : a.eval (.tmp 21) = .int .i64 j := hn.1
          clear hn
          refine wants_plain rfl ?_
          refine grown_run (v := .int .i64 (j + 1)) ?_ (Kp.refl _ _) rfl
          obtain ⟨ρ, hρ, hc, hf, hg⟩ := eval_is a
          rw [hρ] at h21 ⊢
          simp [go_sem, hc, h21, hwr]
        refine steps_cons (fun a w hk hn => ?_) ?_
        · have h20 : a.eval (.tmp 20) = .slice (some ⟨b, off, none⟩) N cl := hn.1
          have h22 : a.eval (.tmp 22) = .int .i64 (j + 1) := hn.2.1
          clear hn
          refine wants_plain rfl ?_
          refine grown_run (v := .pointer (some ⟨b, off + (j + 1), none⟩)) ?_ (Kp.refl _ _) rfl
          obtain ⟨ρ, hρ, hc, hf, hg⟩ := eval_is a
          rw [hρ] at h20 h22 ⊢
          simp [go_sem, h20, h22, hlt3]
          intro h; omega
        refine steps_cons (fun a w hk hn => ?_) ?_
        · have h23 : a.eval (.tmp 23) = .pointer (some ⟨b, off + (j + 1), none⟩) := hn.1
          clear hn
          refine wants_plain rfl ?_
          refine grown_run (v := .slice ay ny cy) ?_ (Kp.refl _ _) rfl
          have hcell := unhide HCY w hk
          obtain ⟨ρ, hρ, hc, hf, hg⟩ := eval_is a
          rw [hρ] at h23 ⊢
          simp [go_sem, h23, hcell]
        refine steps_cons (fun a w hk hn => ?_) ?_
        · have h19 : a.eval (.tmp 19) = .slice ax nx cx := hn.1
          have h24 : a.eval (.tmp 24) = .slice ay ny cy := hn.2.1
          clear hn
          refine wants_plain rfl ?_
          refine grown_call (f := 152) rfl Tryz.func152 (by kernel_rfl) (by kernel_rfl) ?_
          simp only [List.map_toArray, List.map_cons, List.map_nil, h19, h24]
          refine (node_any _ _ X Y r (unhide HR) w (unhide HSX w hk) (unhide HBX) (unhide HSY w hk) (unhide HBY) hxl hyl (unhide HGL w hk)).mono ?_
          rintro e w' ⟨ao, m, c, rfl, R, K⟩
          exact ⟨_, rfl, K, owns_rebase R (fun i hi => Nat.le_trans hk.size (R.own i hi))⟩
        refine steps_cons (fun a w hk hn => ?_) ?_
        · have h25 : (RowT wr.heap.size r) (a.eval (.tmp 25)) w := hn.1
          clear hn
          refine wants_plain rfl ?_
          exact grown_one (.tmp 25) rfl wr.heap.size r h25
        exact trivial
      intro W1 hkW1
      rintro _ rfl
      rintro _ rfl
      rintro _ rfl
      rintro _ rfl
      rintro _ rfl
      rintro _ rfl
      rintro _ rfl
      rintro _ rfl
      rintro _ rfl
      rintro _ rfl
      intro v25 h25
      intro v26 h26
      refine fin_nil ?_
      simp only [Act.put, List.set_cons_zero, List.set_cons_succ, List.setIfInBounds_toArray]
      go_wp2_with (at_builtin; refine wpList_accg rfl (.tmp 15) (.tmp 26) rfl _ _ rfl (unhide HA) (unhide HLN) r ((kp_drew wr).trans hkW1) v26 rfl h26 (unhide HRB) ?_; intro ao5 m5 c5 w5 A5)
      go_roundw
      case rel => exact ⟨k + 1, m5, c5, ao5, by omega, rfl, by have := unhide HJ; go_num, by have e := unhide HE; rw [← e] at A5; exact A5⟩
      case measure => simp [intOf]; have := unhide HJN; omega
    · obtain rfl : k = M := by omega
      have hlt2 : ¬ (j : Int) < (N : Int) := by have := unhide HNM; omega
      have HT : Hid ((abvP ls).take k = abvP ls) := List.take_of_length_le (by rw [abvP_len]; have := unhide HN; have := unhide HNM; omega)
      clear hj
      go_wp2_with fail
      go_ret
      exact ⟨ao, m, cc, rfl, by have := unhide HA; rw [unhide HT] at this; exact this⟩
end Go.Proofs.YtillhpgdlmeajaaGreatDoor

/-
  The contracts of package sign's pathOf, ledUp and Public.
-/
namespace Go.Proofs.YtillhpgdlmeajaaGreatDoor
open Go.RowKit
open Go.Proofs

/-- rows of slices that are gathered, while blocks in S may change: the slices lie in blocks of which F holds. -/
def AccS (S : List Nat) (F : Nat → Prop) (w : World) (ls : List (List Int)) (v : Value) (wr : World) : Prop := ∃ l, RowS wr w.heap.size v l ∧ l.map (·.2) = ls ∧ Kp S w wr ∧ ∀ x ∈ l, ∀ q, x.1.ownBlock = some q → F q
theorem AccS.mid {S : List Nat} {F : Nat → Prop} {w wr w2 : World} {ls : List (List Int)} {v : Value} (h : AccS S F w ls v wr) (k : Kp [] wr w2) : AccS S F w ls v w2 := by
  obtain ⟨l, h1, h2, h3, h4⟩ := h
  exact ⟨l, h1.kept k, h2, h3.trans (k.mono (by simp)), h4⟩
theorem AccS.kp {S : List Nat} {F : Nat → Prop} {w wr : World} {ls : List (List Int)} {v : Value} (h : AccS S F w ls v wr) : Kp S w wr := by obtain ⟨_, _, _, h3, _⟩ := h; exact h3
theorem AccS.lt {S : List Nat} {F : Nat → Prop} {w wr : World} {ls : List (List Int)} {v : Value} (h : AccS S F w ls v wr) : ∀ q, v.ownBlock = some q → q < wr.heap.size := by obtain ⟨_, h1, _, _⟩ := h; exact fun q hq => h1.1.lt hq
theorem AccS.lists {S : List Nat} {F : Nat → Prop} {w wr : World} {ls : List (List Int)} {v : Value} (h : AccS S F w ls v wr) (hl : ls.length ≤ 1000) : ∃ l, Lists wr v l ∧ l.map (·.2) = ls ∧ (∀ q, v.ownBlock = some q → w.heap.size ≤ q) ∧ ∀ x ∈ l, ∀ q, x.1.ownBlock = some q → F q := by
  obtain ⟨l, h1, h2, _, h4⟩ := h
  exact ⟨l, h1.lists (by rw [← List.length_map (f := (·.2)), h2]; exact hl), h2, h1.1.own, h4⟩
theorem Sl.lt {w : World} {v : Value} {bs : List Int} (h : Sl w v bs) (hb : bs ≠ []) : ∀ q, v.ownBlock = some q → q < w.heap.size := by
  obtain ⟨ao, c, rfl, h1, h2, h3, h4⟩ := h
  intro q hq
  cases ao with
  | none => cases hq
  | some a =>
    have hp : 0 < bs.length := List.length_pos_iff.2 hb
    have hc := h4 a rfl 0 (.int .u8 bs[0]) (by simp [List.getElem?_eq_getElem hp])
    have := World.block_lt_of_cell? _ _ hc
    rw [add_block] at this
    have e : a.block = q := by simpa [Value.ownBlock] using hq
    omega
theorem RowS.snoc {w3 w4 : World} {base : Nat} {v v' vx : Value} {bs : List Int} {l : List (Value × List Int)} (h : RowS w3 base v l) (hx : Sl w3 vx bs) (hB : Bs bs) (ha : ∀ q, vx.ownBlock = some q → v.ownBlock = some q → bs = [])
    (r : RowV w4 base v' (l.map (·.1) ++ [vx])) (s : RStep w3 v w4 v') : RowS w4 base v' (l ++ [(vx, bs)]) := by
  have one : ∀ (x : Value) (cs : List Int), Sl w3 x cs → (∀ q, x.ownBlock = some q → v.ownBlock = some q → cs = []) → Sl w4 x cs ∧ ∀ q, x.ownBlock = some q → v'.ownBlock = some q → cs = [] := by
    intro x cs hS hA
    refine ⟨hS.apart s.1 (fun q hq hm => hA q hq (by simpa using hm)), fun q hq hv => ?_⟩
    by_cases hc : cs = []
    · exact hc
    · rcases s.2 q hv with h1 | h1
      · exact hA q hq h1
      · have := hS.lt hc q hq; omega
  refine ⟨by rw [List.map_append]; exact r, fun y hy => ?_⟩
  rcases List.mem_append.1 hy with hy | hy
  · obtain ⟨h1, h2, h3⟩ := h.2 y hy
    exact ⟨(one y.1 y.2 h1 h3).1, h2, (one y.1 y.2 h1 h3).2⟩
  · obtain rfl : y = (vx, bs) := by simpa using hy
    exact ⟨(one vx bs hx ha).1, hB, (one vx bs hx ha).2⟩
/-- one more slice, that lies wherever it lies, behind them. -/
theorem wpList_accs {S : List Nat} {F : Nat → Prop} {w wr : World} {ops : Array Oper} {rest : List Oper} {o : Oper} {a : Act} {Q : Exit → Act → World → Prop} (hgd : o.guard = none) (s x : Operand)
    (ho : o.op = .call { callee := .builtin .append, args := #[s, x], argTypes := #[33, 33] }) (v : Value) (ls : List (List Int)) (hs : a.eval s = v) (hA : AccS S F w ls v wr) (hl : ls.length ≤ 1000000)
    (vx : Value) (bs : List Int) (hS : Sl wr vx bs) (hB : Bs bs) (hap : ∀ q, vx.ownBlock = some q → v.ownBlock = some q → bs = []) (hF : ∀ q, vx.ownBlock = some q → F q) (hx : a.eval x = .slice (some ⟨wr.heap.size, 0, none⟩) 1 1)
    (h : ∀ ao m c w', AccS S F w (ls ++ [bs]) (.slice ao m c) w' → RStep wr v w' (.slice ao m c) → wpList Tryz.prog ops Q rest (a.put o.dst (.slice ao m c)) w') : wpList Tryz.prog ops Q (o :: rest) a (wr.alloc (.cells #[vx] 22)) := by
  obtain ⟨l, hP, hl2, hK, hF4⟩ := hA
  have Ka := (Kp.refl [] wr).alloc (.cells #[vx] 22)
  have hP2 := hP.kept Ka
  obtain ⟨ax, cx, hvx, _⟩ := id hS
  refine wpList_append_rowv hgd s x ho w.heap.size v (l.map (·.1)) hs hP2.1 ⟨wr.heap.size, 0, none⟩ 1 [vx] hx ?_ ?_ ?_ ?_ ?_
  · intro j u hu
    exact World.news_of_block (heap_alloc_new wr _) j u (by simpa using hu)
  · simp [hvx, Value.oneCell']
  · have : l.length = ls.length := by rw [← hl2]; simp
    simp; omega
  · have := hK.size
    simp; omega
  · intro ao m c w' r st
    refine h ao m c w' ⟨l ++ [(vx, bs)], hP2.snoc (hS.kept Ka (by simp)) hB hap r st, by simp [hl2], ?_, fun y hy => ?_⟩ (st.after Ka)
    · exact (hK.trans (Ka.mono (by simp))).then st.1 (fun i hi => .inr (hP.1.own i (by simpa using hi)))
    · rcases List.mem_append.1 hy with hy | hy
      · exact hF4 y hy
      · obtain rfl : y = (vx, bs) := by simpa using hy
        exact hF
theorem Lists.off {w w' : World} {v : Value} {l : List (Value × List Int)} {S : List Nat} (h : Lists w v l) (k : Kp S w w') (hv : ∀ q, v.ownBlock = some q → q ∉ S) (hy : ∀ y ∈ l, ∀ q, y.1.ownBlock = some q → q ∉ S) : Lists w' v l := by
  obtain ⟨ao, c, rfl, h1, h2⟩ := h
  refine ⟨ao, c, rfl, h1, fun i hi => ?_⟩
  obtain ⟨b, off, e, h3, h4, h5⟩ := h2 i hi
  subst e
  exact ⟨b, off, rfl, k.cell h3 (hv b rfl), h4.kept k (hy _ (List.getElem_mem hi)), h5⟩
/-- a level of nodes that lies apart from pv. -/
def LvA (F : Nat → Prop) (w : World) (v : Value) (ls : List (List Int)) (pv : Value) : Prop :=
  ∃ l, Lists w v l ∧ l.map (·.2) = ls ∧ (∀ q, v.ownBlock = some q → q < w.heap.size ∧ pv.ownBlock ≠ some q) ∧ ∀ y ∈ l, ∀ q, y.1.ownBlock = some q → (q < w.heap.size ∧ pv.ownBlock ≠ some q) ∧ F q
theorem LvA.of_acc {F : Nat → Prop} {w1 w2 : World} {v pv : Value} {ls : List (List Int)} (h : Acc w1 ls v w2) (hl : ls.length ≤ 1000) (hp : ∀ q, pv.ownBlock = some q → q < w1.heap.size) (hF : ∀ q, w1.heap.size ≤ q → F q) : LvA F w2 v ls pv := by
  obtain ⟨l, h1, h2, h3⟩ := h
  refine ⟨l, h1.lists (by rw [← List.length_map (f := (·.2)), h2]; exact hl), h2, fun q hq => ⟨h1.1.lt hq, fun e => ?_⟩, fun y hy q hq => ⟨⟨(h1.2 y hy).1.lt hq, fun e => ?_⟩, hF q ((h1.2 y hy).1.own q hq)⟩⟩
  · have := h1.1.own q hq; have := hp q e; omega
  · have := (h1.2 y hy).1.own q hq; have := hp q e; omega
theorem LvA.step {F : Nat → Prop} {w w' : World} {v pv pv' : Value} {ls : List (List Int)} (h : LvA F w v ls pv) (s : RStep w pv w' pv') : LvA F w' v ls pv' := by
  obtain ⟨l, h1, h2, h3, h4⟩ := h
  have key : ∀ q, q < w.heap.size ∧ pv.ownBlock ≠ some q → q < w'.heap.size ∧ pv'.ownBlock ≠ some q := fun q ⟨a, b⟩ => ⟨Nat.lt_of_lt_of_le a s.1.size, fun e => by
    rcases s.2 q e with h5 | h5
    · exact b h5
    · omega⟩
  exact ⟨l, h1.off s.1 (fun q hq hm => (h3 q hq).2 (by simpa using hm)) (fun y hy q hq hm => (h4 y hy q hq).1.2 (by simpa using hm)), h2, fun q hq => key q (h3 q hq), fun y hy q hq => ⟨key q (h4 y hy q hq).1, (h4 y hy q hq).2⟩⟩
theorem LvA.at {F : Nat → Prop} {w : World} {ao : Option Addr} {n c : Nat} {pv : Value} {ls : List (List Int)} (h : LvA F w (.slice ao n c) ls pv) (i : Nat) (hi : i < ls.length) :
    ∃ b off ax nx cx, ao = some ⟨b, off, none⟩ ∧ w.cell? ⟨b, off + i, none⟩ = some (.slice ax nx cx) ∧ Sl w (.slice ax nx cx) (ls.getD i []) ∧ Bs (ls.getD i []) ∧ n = ls.length ∧ ∀ q, (Value.slice ax nx cx).ownBlock = some q → pv.ownBlock ≠ some q ∧ F q := by
  obtain ⟨l, hL, he, _, h4⟩ := h
  subst he
  obtain ⟨ao', c', e, _, h2⟩ := hL
  have hi2 : i < l.length := by simpa using hi
  obtain ⟨b, off, e2, h3, h5, h6⟩ := h2 i hi2
  injection e with e0 e1
  subst e0
  have hg : (l.map (·.2)).getD i [] = l[i].2 := by simp [List.getD, hi2]
  rw [hg]
  have h7 := h4 l[i] (List.getElem_mem hi2)
  obtain ⟨ax, cx, e4, _⟩ := id h5
  rw [e4] at h3 h5 h7
  exact ⟨b, off, ax, _, cx, e2, h3, h5, h6, by simp [e1], fun q hq => ⟨(h7 q hq).1.2, (h7 q hq).2⟩⟩

theorem sib_xor (x : Nat) (h : x < 16) : bits .xor .i64 (x : Int) 1 = (sibP x : Int) := by
  have h2 : ∀ m ∈ List.range 16, bits .xor .i64 (m : Int) 1 = (sibP m : Int) := by decide +kernel
  exact h2 x (by simpa using h)
theorem lv_even (bs : List Int) (k : Nat) (h : k < 4) : (lvP bs k).length % 2 = 0 := by
  rw [lvP_len]
  rcases (by omega : k = 0 ∨ k = 1 ∨ k = 2 ∨ k = 3) with rfl | rfl | rfl | rfl <;> decide
theorem lv_le (bs : List Int) (k : Nat) : (lvP bs k).length ≤ 16 := by rw [lvP_len]; exact Nat.div_le_self _ _

set_option maxRecDepth 100000 in
set_option maxHeartbeats 2000000 in
theorem pathOf_any (vb : Value) (bs : List Int) (i : Nat) (w : World) (hS : Sl w vb bs) (hB : Bs bs) (hl : bs.length ≤ 1000) (hi : i < 16) (hG : Gl w) :
    Calls Tryz.prog 166 #[vb, .int .i64 i] w fun e w' => ∃ ao m c, e = .returned (.slice ao m c) ∧ AccS [] (w.heap.size ≤ ·) w (pthP bs i 4) (.slice ao m c) w' := by
  obtain ⟨i0, hi0, hz0, hz1, hz2⟩ := info_parts Tryz.infoSl
  have HS := hide hS
  have HG := hide hG
  have HB := hide hB
  obtain ⟨ab, cb, hvb, _⟩ := hS
  obtain ⟨nb, hnb⟩ : ∃ n, n = bs.length := ⟨_, rfl⟩
  rw [← hnb] at hvb
  subst hvb
  clear hG hB hnb
  go_enter Tryz.func166, Tryz.ntmps166
  go_wp2_with (at_make; refine wpList_make_own _ rfl _ _ 33 rfl w.heap.size 22 i0 (.slice none 0 0) 1 Tryz.underlying33 hi0 hz0 hz1 .i64 .i64 _ 4 rfl rfl (by omega) (by rw [hz2]; omega) (by unfold maxLen; omega) (Nat.le_refl _) ?_; intro w1 o1 g1; have K1 : Kp [] w w1 := (Kp.refl [] w).grown g1 (by intro k hk; cases hk); have R1 : RowV w1 w.heap.size _ [] := o1)
  have A1 : Hid (AccS [] (w.heap.size ≤ ·) w (pthP bs i 0) (.slice (some ⟨w.heap.size, 0, none⟩) 0 4) w1) := ⟨[], ⟨R1, fun x hx => by cases hx⟩, rfl, K1, fun x hx => by cases hx⟩
  have HC := hide (leaves_any (.slice ab nb cb) bs w1 ((unhide HS).kept K1 (by simp)) (unhide HB) hl ((unhide HG).kept K1 (by simp)))
  clear o1 g1 R1 K1
  refine (unhide HC).mono ?_
  rintro ee w2 ⟨a2, m2, c2, rfl, A2⟩
  have V2 : Hid (LvA (w.heap.size ≤ ·) w2 (.slice a2 m2 c2) (lvP bs 0) (.slice (some ⟨w.heap.size, 0, none⟩) 0 4)) := LvA.of_acc A2 (by have := lv_le bs 0; omega) (unhide A1).lt (fun q hq => Nat.le_trans (unhide A1).kp.size hq)
  have A3 := hide ((unhide A1).mid A2.kp)
  clear HC A1 A2
  go_wp2_with fail
  go_loopw [5, 6, 1, 10] (fun v lv x j wr => ∃ (k m cc m2 c2 : Nat) (ao a2 : Option Addr), k ≤ 4 ∧ v = .slice ao m cc ∧ lv = .slice a2 m2 c2 ∧ x = .int .i64 ((i / 2 ^ k : Nat) : Int) ∧ j = .int .i64 k ∧ AccS [] (w.heap.size ≤ ·) w (pthP bs i k) v wr ∧ LvA (w.heap.size ≤ ·) wr lv (lvP bs k) v) (fun _ _ _ j _ => 4 - (intOf j).toNat)
  case atStart => exact ⟨0, 0, 4, m2, c2, some ⟨w.heap.size, 0, none⟩, a2, by omega, rfl, rfl, by simp, rfl, unhide A3, unhide V2⟩
  case round =>
    clear A3 V2
    obtain ⟨k, m, cc, m3, c3, ao, a3, hk, rfl, rfl, rfl, rfl, Ar, Vr⟩ := hrel
    have HA := hide Ar
    have HV := hide Vr
    clear Ar Vr
    by_cases hlt : k < 4
    · have hlt2 : (k : Int) < 4 := by omega
      have hx16 : i / 2 ^ k < 16 := Nat.lt_of_le_of_lt (Nat.div_le_self _ _) hi
      have hsl : sibP (i / 2 ^ k) < (lvP bs k).length := by rw [lvP_len]; exact sib_lv hi hlt
      have hxor := sib_xor _ hx16
      have hE := pthP_succ bs i k
      obtain ⟨b, off, ax, nx, cx, rfl, hc, hSx, hBx, hm3, hap⟩ := (unhide HV).at _ hsl
      have hev := lv_even bs k hlt
      have hle := lv_le bs k
      have hq : Int.tdiv ((i / 2 ^ k : Nat) : Int) 2 = ((i / 2 ^ (k + 1) : Nat) : Int) := by rw [Int.tdiv_eq_ediv_of_nonneg (Int.natCast_nonneg _), Nat.pow_succ, ← Nat.div_div_eq_div_mul]; omega
      have hq2 : ((i / 2 ^ k : Nat) : Int) / 2 = ((i / 2 ^ (k + 1) : Nat) : Int) := by rw [Nat.pow_succ, ← Nat.div_div_eq_div_mul]; omega
      rw [← hm3] at hsl
      obtain ⟨x, hx⟩ : ∃ x, x = i / 2 ^ k := ⟨_, rfl⟩
      obtain ⟨y, hy⟩ : ∃ y, y = i / 2 ^ (k + 1) := ⟨_, rfl⟩
      obtain ⟨s, hs⟩ : ∃ s, s = sibP x := ⟨_, rfl⟩
      rw [← hx] at hxor hsl hE hc hSx hBx hq hq2 hx16 ⊢
      rw [← hs] at hxor hsl hE hc hSx hBx
      rw [← hy] at hq hq2
      have hsi : (s : Int) < (m3 : Int) := by omega
      obtain ⟨X, hX⟩ : ∃ X, X = (lvP bs k).getD s [] := ⟨_, rfl⟩
      rw [← hX] at hE hSx hBx
      have HE := hide hE
      have HSx := hide hSx
      have HBx := hide hBx
      have HAP := hide hap
      have HY := hide hy
      have HEV := hide hev
      have HLE := hide hle
      have HM3 := hide hm3
      have HLN : Hid ((pthP bs i k).length ≤ 1000000) := by rw [pthP_len]; show k ≤ 1000000; omega
      clear hE hSx hBx hap hy hx hs hX hev hle hm3
      go_wp2_with (at_builtin; refine wpList_accs rfl (.tmp 12) (.tmp 18) rfl _ _ rfl (unhide HA) (unhide HLN) _ X (unhide HSx) (unhide HBx) (fun q h1 h2 => absurd h2 (unhide HAP q h1).1) (fun q h1 => (unhide HAP q h1).2) rfl ?_; intro ao5 m5 c5 w5 A5 S5)
      have HA5 := hide A5
      have HV5 := hide ((unhide HV).step S5)
      clear A5 S5 HV HA HSx HAP
      have HAB : Hid (∃ l, Lists w5 (.slice (some ⟨b, off, none⟩) m3 c3) l ∧ l.map (·.2) = lvP bs k) := by obtain ⟨l, h1, h2, _⟩ := unhide HV5; exact ⟨l, h1, h2⟩
      obtain ⟨ll, hll, hle⟩ := unhide HAB
      have HC := hide (above_any (.slice (some ⟨b, off, none⟩) m3 c3) ll (lvP bs k) hle (fun x hx => by rw [(lvP_all bs k x hx).1]; omega) w5 hll (by have := unhide HLE; omega) (unhide HEV) ((unhide HG).kept (unhide HA5).kp (by simp)))
      clear hll hle HAB
      refine (unhide HC).mono ?_
      rintro ee w6 ⟨a6, m6, c6, rfl, A6⟩
      have HV6 : Hid (LvA (w.heap.size ≤ ·) w6 (.slice a6 m6 c6) (lvP bs (k + 1)) (.slice ao5 m5 c5)) := LvA.of_acc A6 (by have := lv_le bs (k + 1); omega) (unhide HA5).lt (fun q hq => Nat.le_trans (unhide HA5).kp.size hq)
      have HA6 := hide ((unhide HA5).mid A6.kp)
      clear HC A6 HA5 HV5
      go_wp2_with fail
      go_roundw
      case rel => exact ⟨k + 1, m5, c5, m6, c6, ao5, a6, by omega, rfl, rfl, by rw [← unhide HY], by go_num, by have e := unhide HE; rw [← e] at HA6; exact unhide HA6, unhide HV6⟩
      case measure => simp [intOf]; omega
    · obtain rfl : k = 4 := by omega
      clear HV
      go_wp2_with fail
      go_ret
      exact ⟨ao, m, cc, rfl, unhide HA⟩

theorem led_take (x : List Int) (i : Nat) (ls : List (List Int)) (k : Nat) (h : k < ls.length) : ledP x i (ls.take (k + 1)) = if i / 2 ^ k % 2 = 0 then nodeP (ledP x i (ls.take k)) (ls.getD k []) else nodeP (ls.getD k []) (ledP x i (ls.take k)) := by
  rw [List.take_succ_eq_append_getElem h, ledP_snoc, List.length_take, Nat.min_eq_left (Nat.le_of_lt h)]
  simp [List.getD, h]
theorem ledP_ok (x : List Int) (i : Nat) (ls : List (List Int)) (h0 : x.length ≤ 1000) (h1 : Bs x) : (ledP x i ls).length ≤ 1000 ∧ Bs (ledP x i ls) := by
  induction ls generalizing x i with
  | nil => exact ⟨h0, h1⟩
  | cons o l ih =>
    rw [ledP]
    split
    · exact ih _ _ (by rw [nodeP_len]; omega) (nodeP_bs _ _)
    · exact ih _ _ (by rw [nodeP_len]; omega) (nodeP_bs _ _)

set_option maxRecDepth 100000 in
set_option maxHeartbeats 2000000 in
theorem spublic_any (vb : Value) (bs : List Int) (r : List Int) (hr : r = topP bs) (w : World) (hS : Sl w vb bs) (hB : Bs bs) (hl : bs.length = 32) (hG : Gl w) :
    Calls Tryz.prog 84 #[vb] w fun e w' => ∃ ao m c, e = .returned (.slice ao m c) ∧ Sl w' (.slice ao m c) r ∧ Kp [] w w' := by
  have HS := hide hS
  have HG := hide hG
  have HR := hide hr
  have HI := hide (isSeed_any vb bs w hS hl)
  have HC := hide (leaves_any vb bs w hS hB (by omega) hG)
  obtain ⟨ab, cb, hvb, _⟩ := hS
  obtain ⟨nb, hnb⟩ : ∃ n, n = bs.length := ⟨_, rfl⟩
  rw [← hnb] at hvb
  subst hvb
  clear hG hB hnb hr
  go_enter Tryz.func84, Tryz.ntmps84
  go_wp2_with fail
  refine (unhide HI).mono ?_
  rintro ee w1 ⟨rfl, hw⟩
  subst w1
  go_wp2_with fail
  refine (unhide HC).mono ?_
  rintro ee w2 ⟨a2, m2, c2, rfl, A2⟩
  have HK2 := hide A2.kp
  have HL2 : Hid (∃ l, Lists w2 (.slice a2 m2 c2) l ∧ l.map (·.2) = lvP bs 0) := A2.lists (by rw [lvsP_len]; omega)
  clear HC HI A2
  go_wp2_with fail
  go_loopw [3, 9] (fun lv j wr => ∃ (k m2 c2 : Nat) (a2 : Option Addr), k ≤ 4 ∧ lv = .slice a2 m2 c2 ∧ j = .int .i64 k ∧ (∃ l, Lists wr lv l ∧ l.map (·.2) = lvP bs k) ∧ Kp [] w wr) (fun _ j _ => 4 - (intOf j).toNat)
  case atStart => exact ⟨0, m2, c2, a2, by omega, rfl, rfl, unhide HL2, unhide HK2⟩
  case round =>
    clear HL2 HK2
    obtain ⟨k, m3, c3, a3, hk, rfl, rfl, ⟨l, hL, hle⟩, Kr⟩ := hrel
    have HKr := hide Kr
    by_cases hlt : k < 4
    · have hlt2 : (k : Int) < 4 := by omega
      have HC := hide (above_any (.slice a3 m3 c3) l (lvP bs k) hle (fun x hx => by rw [(lvP_all bs k x hx).1]; omega) wr hL (by have := lv_le bs k; omega) (lv_even bs k hlt) ((unhide HG).kept Kr (by simp)))
      clear hL hle Kr
      go_wp2_with fail
      refine (unhide HC).mono ?_
      rintro ee w6 ⟨a6, m6, c6, rfl, A6⟩
      have HL6 : Hid (∃ l, Lists w6 (.slice a6 m6 c6) l ∧ l.map (·.2) = lvP bs (k + 1)) := A6.lists (by rw [abvP_len]; have := lv_le bs k; omega)
      have HK6 := hide ((unhide HKr).trans A6.kp)
      clear A6 HC
      go_wp2_with fail
      go_roundw
      case rel => exact ⟨k + 1, m6, c6, a6, by omega, rfl, by go_num, unhide HL6, unhide HK6⟩
      case measure => simp [intOf]; omega
    · obtain rfl : k = 4 := by omega
      obtain ⟨b, off, ay, ny, cy, rfl, hc, hSy, hBy⟩ := lists_at hL hle 0 (by rw [lvP_len]; decide)
      have hm3 : m3 = 1 := by
        obtain ⟨ao', c', e, _⟩ := hL
        injection e with _ e2
        rw [e2, ← List.length_map (f := (·.2)), hle, lvP_len]
      subst hm3
      have HSy : Hid (Sl wr (.slice ay ny cy) r) := by rw [unhide HR]; exact hSy
      rw [Nat.add_zero] at hc
      clear hSy hBy hL hle Kr HR
      go_wp2_with fail
      go_ret
      exact ⟨ay, ny, cy, rfl, unhide HSy, unhide HKr⟩
end Go.Proofs.YtillhpgdlmeajaaGreatDoor

/-
  Signatures that stay as they are, whatever becomes of the blocks below.
-/
namespace Go.Proofs.YtillhpgdlmeajaaGreatDoor
open Go.RowKit

/-- a signature that stays so, whatever becomes of the blocks below b. -/
def SigA (b : Nat) (w : World) (v : Value) (i : Int) (ps qs : List (List Int)) : Prop := ∀ (S : List Nat) (w2 : World), (∀ q ∈ S, q < b) → Kp S w w2 → SigV w2 v i ps qs
theorem SigA.v {b : Nat} {w : World} {v : Value} {i : Int} {ps qs : List (List Int)} (h : SigA b w v i ps qs) : SigV w v i ps qs := h [] w (by simp) (Kp.refl _ _)
theorem SigA.kept {b : Nat} {w w' : World} {v : Value} {i : Int} {ps qs : List (List Int)} {S : List Nat} (h : SigA b w v i ps qs) (hS : ∀ q ∈ S, q < b) (k : Kp S w w') : SigA b w' v i ps qs := fun S2 w2 h2 k2 =>
  h (S ++ S2) w2 (fun q hq => (List.mem_append.1 hq).elim (hS q) (h2 q)) ((k.mono (by simp; intro x hx; exact .inl hx)).trans (k2.mono (by simp; intro x hx; exact .inr hx)))
end Go.Proofs.YtillhpgdlmeajaaGreatDoor
