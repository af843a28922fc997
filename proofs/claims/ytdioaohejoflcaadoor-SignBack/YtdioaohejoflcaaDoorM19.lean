/-
  The statement SignBackCardSaid: for all numbers, messages and bytes the law function SignBack returns true and leaves its arguments as they were; the table hash.roundWords starts as the program's text lays it (tied). No other condition.
-/
import Derived.Test.YtdioaohejoflcaaDoorM18
import Derived.Test.YtdioaohejoflcaaDoorM16
import Derived.Test.YtdioaohejoflcaaDoorTie
import Derived.Test.YtdioaohejoflcaaDoorCards
import Derived.SevenTiedAt
namespace Go.Proofs.YtdioaohejoflcaaDoor.signBack
open Go.ChangeShapes Go.WideShapes Go.ChangeAt Go.RowKit
open Go.Deep
open Go.Proofs.YtdioaohejoflcaaDoor
set_option linter.unusedVariables false

/-- some bytes. -/
def AnyB : Tell := fun v w => ∃ bs, Sl w v bs ∧ Bs bs
theorem stable_anyb : Tell.stable AnyB := fun _ _ _ k ⟨bs, h, hb⟩ => ⟨bs, h.kept k (by simp), hb⟩
/-- five slices of bytes. -/
def Ls5 : Tell := fun v w => ∃ g ls, v = .slice (some ⟨g, 0, none⟩) 5 5 ∧ ls.length = 5 ∧ ∃ l, Lists w v l ∧ l.map (·.2) = ls
theorem stable_ls5 : Tell.stable Ls5 := fun _ _ _ k ⟨g, ls, e, h, l, h1, h2⟩ => ⟨g, ls, e, h, l, h1.kept k, h2⟩
/-- a signature with other parts. -/
def OthS (ps : List (List Int)) : Tell := fun v w => ∃ i' ps' qs', SigV w v i' ps' qs' ∧ ps' ≠ ps
theorem stable_oth (ps : List (List Int)) : Tell.stable (OthS ps) := fun _ _ _ k ⟨i, p, q, h, hb⟩ => ⟨i, p, q, h.kept k, hb⟩
theorem turned_one {v : Value} {i : Int} {ps qs : List (List Int)} {w : World} {ax tn : Int} (hV : SigV w v i ps qs) (hi : -9223372036854775808 ≤ i ∧ i ≤ 9223372036854775807) (hr : rgtP i ps qs = true) (hax : -9223372036854775808 ≤ ax ∧ ax ≤ 9223372036854775807) (htn : 0 ≤ tn ∧ tn ≤ 255) (hz : tn ≠ 0) :
    Calls Tryd.prog 18 #[v, .int .i64 1, .int .i64 ax, .int .u8 tn] w fun e w' => ∃ v', e = .returned v' ∧ ∃ i' ps' qs', SigV w' v' i' ps' qs' ∧ ps' ≠ ps ∧ Kp [] w w' := by
  have hr := (rgtP_iff _ _ _).1 hr
  refine (turned_any v i ps qs 1 ax tn w hV hi hr.2.1.1 hr.2.1.2 hr.2.2.1 hr.2.2.2 (by omega) hax htn).mono ?_
  rintro e w' ⟨v', rfl, i', ps', qs', h1, h2, h3, h4⟩
  exact ⟨v', rfl, i', ps', qs', h1, h3 rfl hz, h4⟩
theorem same_oth {v u : Value} {i : Int} {ps qs : List (List Int)} {w : World} (hV : SigV w v i ps qs) (h : OthS ps u w) :
    Calls Tryd.prog 25 #[v, u] w fun e w' => e = .returned (.bool false) ∧ Kp [] w w' := by
  obtain ⟨j, rs, ts, hU, hne⟩ := h
  exact ssame_any v u i j ps qs rs ts false (by simp; intro _ e; exact absurd e.symm hne) w hV hU
theorem build5 {o : Oper} {a : Act} {w : World} {x0 x1 : Value} {cs : List Int} (h0 : a.eval (.tmp 94) = x0) (h1 : a.eval (.tmp 96) = x1) (h2 : Sl w (a.eval (.tmp 101)) (cs ++ [0])) (h3 : AnyB (a.eval (.tmp 103)) w) (h4 : AnyB (a.eval (.tmp 105)) w) (ho : o.op = .buildSlice 31 5 #[(0, .tmp 94), (1, .tmp 96), (2, .tmp 101), (3, .tmp 103), (4, .tmp 105)])
    (hx0 : Sl w x0 cs) (hx1 : Sl w x1 (cs.drop 1)) (hb : Bs cs) : grown Tryd.prog w Ls5 ((execOp a.eval o).run Tryd.prog w) := by
  obtain ⟨b3, h3, hb3⟩ := h3
  obtain ⟨b4, h4, hb4⟩ := h4
  rw [← h0] at hx0
  rw [← h1] at hx1
  obtain ⟨y0, e0⟩ : ∃ y, y = a.eval (.tmp 94) := ⟨_, rfl⟩
  obtain ⟨y1, e1⟩ : ∃ y, y = a.eval (.tmp 96) := ⟨_, rfl⟩
  obtain ⟨y2, e2⟩ : ∃ y, y = a.eval (.tmp 101) := ⟨_, rfl⟩
  obtain ⟨y3, e3⟩ : ∃ y, y = a.eval (.tmp 103) := ⟨_, rfl⟩
  obtain ⟨y4, e4⟩ : ∃ y, y = a.eval (.tmp 105) := ⟨_, rfl⟩
  rw [← e0] at hx0
  rw [← e1] at hx1
  rw [← e2] at h2
  rw [← e3] at h3
  rw [← e4] at h4
  have K : Kp [] w (w.alloc (.cells #[y0, y1, y2, y3, y4] 24)) := (Kp.refl _ _).alloc _
  refine grown_run (v := .slice (some ⟨w.heap.size, 0, none⟩) 5 5) (w' := w.alloc (.cells #[y0, y1, y2, y3, y4] 24)) ?_ K ⟨w.heap.size, _, rfl, ?_, [(y0, cs), (y1, cs.drop 1), (y2, cs ++ [0]), (y3, b3), (y4, b4)], ?_, rfl⟩
  · obtain ⟨_, _, s0, _⟩ := hx0
    obtain ⟨_, _, s1, _⟩ := hx1
    obtain ⟨_, _, s2, _⟩ := h2
    obtain ⟨_, _, s3, _⟩ := h3
    obtain ⟨_, _, s4, _⟩ := h4
    rw [execOp, ho]
    obtain ⟨ρ, hρ, hc, hf, hg⟩ := eval_is a
    rw [hρ] at e0 e1 e2 e3 e4 ⊢
    simp [go_sem, ← e0, ← e1, ← e2, ← e3, ← e4, s0, s1, s2, s3, s4]
  · rfl
  · refine lists_of_block (l := [(y0, cs), (y1, cs.drop 1), (y2, cs ++ [0]), (y3, b3), (y4, b4)]) (heap_alloc_new w _) (by simp) (fun x hx => ?_)
    have hb2 : Bs (cs ++ [0]) := fun b h => by
      rcases List.mem_append.1 h with h | h
      · exact hb b h
      · obtain rfl := List.mem_singleton.1 h; omega
    simp only [List.mem_cons, List.not_mem_nil, or_false] at hx
    rcases hx with rfl | rfl | rfl | rfl | rfl
    · exact ⟨hx0.kept K (by simp), hb⟩
    · exact ⟨hx1.kept K (by simp), hb.drop 1⟩
    · exact ⟨h2.kept K (by simp), hb2⟩
    · exact ⟨h3.kept K (by simp), hb3⟩
    · exact ⟨h4.kept K (by simp), hb4⟩
theorem row_block {w : World} {base : Nat} {v : Value} {bs : List Int} (h : Row w base v bs) (hne : bs ≠ []) : ∃ g cap cur, v = .slice (some ⟨g, 0, none⟩) bs.length cap ∧ base ≤ g ∧ w.heap[g]? = some (.cells cur 5 (0, 0)) ∧ bs.length ≤ cap ∧ cap ≤ maxLen := by
  rcases h.2 with ⟨_, h0⟩ | ⟨g, cap, cur, e, h1, h2, h3, h4, _⟩
  · exact absurd (List.eq_nil_of_length_eq_zero h0) hne
  · exact ⟨g, cap, cur, e, h1, h2, h3, h4⟩
theorem sl_one {w : World} {g n c : Nat} {bs : List Int} (h : Sl w (.slice (some ⟨g, 0, none⟩) n c) bs) : Sl w (.slice (some ⟨g, 1, none⟩) (n - 1) (c - 1)) (bs.drop 1) := by
  obtain ⟨ao, c', e, h1, h2, h3, h4⟩ := h
  injection e with e1 e2 e3
  subst e1
  subst e2
  subst e3
  refine ⟨some ⟨g, 1, none⟩, c - 1, by rw [List.length_drop], by rw [List.length_drop]; omega, by omega, (fun e => by cases e), fun a ha j u hu => ?_⟩
  injection ha with ha
  subst ha
  have := h4 _ rfl (j + 1) u (by rw [← hu, List.map_drop, List.getElem?_drop, Nat.add_comm])
  rw [Addr.add_lit] at this ⊢
  rw [← this, Nat.zero_add, Nat.add_comm]
def dI (b : List Int) : Int := if decOk b then val (b.take 4) else 0
def dP (b : List Int) : List (List Int) := if decOk b then chP 64 (b.drop 4) else []
def dQ (b : List Int) : List (List Int) := if decOk b then chP 4 (b.drop 2052) else []
theorem decd_sig {b : List Int} {v : Value} {e : Int} {w : World} (h : Decd b v e w) : SigV w v (dI b) (dP b) (dQ b) ∧ e = if decOk b then 0 else 12 := by
  unfold Decd at h
  unfold dI dP dQ
  cases hd : decOk b with
  | true => rw [hd] at h; exact h
  | false => rw [hd] at h; obtain ⟨rfl, rfl⟩ := h; exact ⟨sig0_v w, rfl⟩
theorem rdecd_sig {b : List Int} {v : Value} {e : Bool} {w : World} (h : RDecd b v e w) : SigV w v (dI b) (dP b) (dQ b) ∧ e = decOk b := by
  unfold RDecd at h
  unfold dI dP dQ
  cases hd : decOk b with
  | true => rw [hd] at h; exact h
  | false => rw [hd] at h; obtain ⟨rfl, rfl⟩ := h; exact ⟨sig0_v w, rfl⟩

set_option maxRecDepth 100000 in
set_option maxHeartbeats 8000000 in
theorem walk (n ix : Int) (v2 : Value) (ms0 : List Int) (ax tn : Int) (v5 : Value) (bs0 : List Int) (w : World) (hG : Gl w) (hn : -9223372036854775808 ≤ n ∧ n ≤ 9223372036854775807) (hix : -9223372036854775808 ≤ ix ∧ ix ≤ 9223372036854775807) (hm0 : Sl w v2 ms0) (hM0 : Bs ms0) (hax : -9223372036854775808 ≤ ax ∧ ax ≤ 9223372036854775807) (htn : 0 ≤ tn ∧ tn ≤ 255) (hb0 : Sl w v5 bs0) (hB0 : Bs bs0) :
    Calls Tryd.prog 6 #[.int .i64 n, .int .i64 ix, v2, .int .i64 ax, .int .u8 tn, v5] w fun e w' => e = .returned (.bool true) ∧ Below w.heap.size w w' := by
  have HG := hide hG
  obtain ⟨ms, hms⟩ : ∃ ms, ms = ms0.take 100 := ⟨_, rfl⟩
  have hml : ms.length ≤ 100 := by rw [hms]; simp; omega
  have HBm : Hid (Bs ms) := by rw [hms]; exact hM0.take _
  have HKC := hide (fun w' (k : Kp [] w w') => by have := cut_any v2 ms0 100 w' (hm0.kept k (by simp)); rw [← hms] at this; exact this)
  have HM00 : Hid (∀ w', Kp [] w w' → Sl w' v2 ms0) := fun w' k => hm0.kept k (by simp)
  have HM0 := hide hm0
  have HB00 := hide hb0
  have HB0 := hide hB0
  have HC1 := hide (seed_any n w hn)
  have HCW := hide (fun w => within_any ix 0 15 w (by omega) (by omega) (by omega) hix)
  have HCA := hide (fun w => within_any ax 0 2179 w (by omega) (by omega) (by omega) hax)
  have HAX := hide hax
  have HTN := hide htn
  clear hG hm0 hM0 hms hn hix hax htn hb0 hB0
  go_enter Tryd.func6, Tryd.ntmps6
  go_wp2_with fail
  refine (unhide HC1).mono ?_
  rintro ee w1 ⟨a1, m1, c1, sd, rfl, R1, hsl, hsb, K1⟩
  have HS1 := hide R1.sl
  have HK1 := hide K1
  have HSB := hide hsb
  have HSL := hide hsl
  clear R1 K1 hsb hsl HC1
  go_wp2_with fail
  refine (unhide HCW w1).mono ?_
  rintro ee w2 ⟨xi, rfl, hx0, hx1, hw⟩
  subst w2
  obtain ⟨i, rfl⟩ := Int.eq_ofNat_of_zero_le hx0
  have hi16 : i < 16 := by omega
  clear HCW
  go_wp2_with fail
  refine (unhide HKC w1 (unhide HK1)).mono ?_
  rintro ee w2 ⟨am, cm, rfl, hT, hw⟩
  subst w2
  have HM1 : Hid (Sl w1 (.slice am ms.length cm) ms) := hT _ (unhide HM00 w1 (unhide HK1))
  obtain ⟨mm, hmm⟩ : ∃ m, m = ms.length := ⟨_, rfl⟩
  rw [← hmm] at HM1 ⊢
  clear hT hmm
  obtain ⟨d, hd⟩ : ∃ d, d = digP ms := ⟨_, rfl⟩
  have HD := hide hd
  have HC := hide (ssign_any (.slice a1 m1 c1) sd i (.slice am mm cm) ms d hd w1 (unhide HS1) (unhide HSB) (unhide HSL) hi16 (unhide HM1) (unhide HBm) (by omega) ((unhide HG).kept (unhide HK1) (by simp)))
  clear hd
  go_wp2_with fail
  refine (unhide HC).mono ?_
  rintro ee w3 ⟨v3, rfl, V3, K3⟩
  obtain ⟨ap, np, cp, aq, nq, cq, lp, lq, hv3, hLP, hp, hLQ, hq, hnp, hnq⟩ := V3.shape
  subst hv3
  have HV3 := hide V3
  have HK3 := hide ((unhide HK1).trans K3)
  have HK13 := hide K3
  have Ga := heap_alloc_new w3 (.cells #[.int .i64 0, .slice none 0 0, .slice none 0 0] 33)
  clear hLP hp hLQ hq hnp hnq V3 K3 HC HM1
  go_wp2_with (refine wpList_store_sig rfl (.tmp 14) (.tmp 35) rfl w3.heap.size rfl _ _ _ _ _ _ Ga rfl ⟨rfl, rfl, rfl⟩ ?_; intro w4 G4 K4; refine Hid.out ?_)
  have Kb : Kp [] w3 w4 := ((Kp.refl [] w3).alloc (.cells #[.int .i64 0, .slice none 0 0, .slice none 0 0] 33)).then K4 (by simp)
  obtain ⟨gs, hgs⟩ : ∃ g, g = w3.heap.size := ⟨_, rfl⟩
  rw [← hgs] at G4 ⊢
  have HV4 := hide ((unhide HV3).kept Kb)
  have HK4 := hide ((unhide HK3).trans Kb)
  have HK14 := hide ((unhide HK13).trans Kb)
  have HG4 := hide G4
  have hgs4 : gs < w4.heap.size := (Array.getElem?_eq_some_iff.1 G4).1
  have HRS : Hid (rgtP (i : Int) (sgnP sd i d) (pthP sd i 4) = true) := rgtP_sgn sd i hi16 d
  have HC := hide (encode_any _ _ _ _ (unhide HRS) w4 (unhide HV4))
  clear Ga K4 G4 Kb HV3 hgs
  refine hide ?_
  go_wp2_with (refine wpList_load_row rfl 33 (.tmp 14) rfl gs rfl 33 _ (0, 0) _ (unhide HG4) Tryd.underlying33 rfl Tryd.sigSize ?_)
  refine (unhide HC).mono ?_
  rintro ee w5 ⟨ao5, m5, c5, rfl, R5, K5⟩
  obtain ⟨xs, hxs⟩ : ∃ x, x = encP (i : Int) (sgnP sd i d) (pthP sd i 4) := ⟨_, rfl⟩
  have hxl : xs.length = 2180 := by rw [hxs]; exact encP_len _ _ _ (unhide HRS)
  have HXSB : Hid (Bs xs) := by rw [hxs]; exact encP_bs _ _ _ (unhide HRS) (unhide HV4).bs.1 (unhide HV4).bs.2
  have HDX : Hid (decOk xs = true ∧ val (xs.take 4) = i ∧ chP 64 (xs.drop 4) = sgnP sd i d ∧ chP 4 (xs.drop 2052) = pthP sd i 4) := by rw [hxs]; exact encP_back _ _ _ (unhide HRS)
  rw [← hxs] at R5
  obtain ⟨gx, xc, cur, hv5, hgx, hgc, hxc, hxm⟩ := row_block R5 (fun e => by rw [e] at hxl; cases hxl)
  rw [hxl] at hv5 hxc
  rw [hv5] at R5 ⊢
  have HX5 := hide R5.sl
  have HGC5 := hide hgc
  have HK45 := hide K5
  have HK5 := hide ((unhide HK4).trans K5)
  have hgx5 : gx < w5.heap.size := (Array.getElem?_eq_some_iff.1 hgc).1
  have hsz4 : w.heap.size ≤ w4.heap.size := (unhide HK4).size
  have hxci : (2180 : Int) ≤ (xc : Int) := by omega
  have HC2 := hide (decode_apart _ xs w5 (unhide HX5) (unhide HXSB) (unhide HDX).1)
  clear R5 K5 HC hxs hgc hv5
  refine hide ?_
  go_wp2_with fail
  refine (unhide HC2).mono ?_
  rintro ee w6 ⟨vt, rfl, VT, K6⟩
  rw [(unhide HDX).2.1, (unhide HDX).2.2.1, (unhide HDX).2.2.2] at VT
  obtain ⟨bp, bnp, bcp, bq, bnq, bcq, lp, lq, hvt, hLP, hp, hLQ, hq, hnp, hnq⟩ := (VT [] w6 (by simp) (Kp.refl _ _)).shape
  subst hvt
  have HVT6 := hide VT
  have HK56 := hide K6
  have HK6 := hide ((unhide HK5).trans K6)
  have hsz6 : w5.heap.size ≤ w6.heap.size := K6.size
  have Ga := heap_alloc_new w6 (.cells #[.int .i64 0, .slice none 0 0, .slice none 0 0] 33)
  clear hLP hp hLQ hq hnp hnq VT K6 HC2
  go_wp2_with (refine wpList_store_sig rfl (.tmp 18) (.tmp 45) rfl w6.heap.size rfl _ _ _ _ _ _ Ga rfl ⟨rfl, rfl, rfl⟩ ?_; intro w7 G7 K7; refine Hid.out ?_)
  have Kb : Kp [] w6 w7 := ((Kp.refl [] w6).alloc (.cells #[.int .i64 0, .slice none 0 0, .slice none 0 0] 33)).then K7 (by simp)
  obtain ⟨gt, hgt⟩ : ∃ g, g = w6.heap.size := ⟨_, rfl⟩
  rw [← hgt] at G7 ⊢
  have hgtx : gx < gt := by omega
  have hgsx : gs < gx := by omega
  have HG7 := hide G7
  have HK67 := hide Kb
  have HK7 := hide ((unhide HK6).trans Kb)
  have HK47 := hide ((unhide HK45).trans ((unhide HK56).trans Kb))
  have HK57 := hide ((unhide HK56).trans Kb)
  clear Ga K7 G7 Kb hgt
  refine hide ?_
  obtain ⟨tp, htp⟩ : ∃ t, t = topP sd := ⟨_, rfl⟩
  have HTP := hide htp
  have HTB : Hid (Bs tp) := by rw [htp]; exact (topP_ok sd).2
  have HVF : Hid (true = verP tp ms i (sgnP sd i d) (pthP sd i 4)) := by rw [htp, unhide HD]; exact (verP_sgn sd ms i hi16).symm
  clear htp
  have HKX : Hid (∀ w', Kp [] w7.drew w' → Kp [] w w') := fun w' k' => (unhide HK7).trans ((kp_drew w7).trans k')
  have HGS : Hid (∀ w', Kp [] w7.drew w' → w'.heap[gs]? = some (.cells #[.int .i64 i, .slice ap np cp, .slice aq nq cq] 33 (0, 0))) := fun w' k' => ((unhide HK47).trans ((kp_drew w7).trans k')).heap (unhide HG4) (by simp)
  have HGT : Hid (∀ w', Kp [] w7.drew w' → w'.heap[gt]? = some (.cells #[.int .i64 i, .slice bp bnp bcp, .slice bq bnq bcq] 33 (0, 0))) := fun w' k' => ((kp_drew w7).trans k').heap (unhide HG7) (by simp)
  have HVS : Hid (∀ w', Kp [] w7.drew w' → SigV w' (.agg #[.int .i64 i, .slice ap np cp, .slice aq nq cq]) i (sgnP sd i d) (pthP sd i 4)) := fun w' k' => (unhide HV4).kept ((unhide HK47).trans ((kp_drew w7).trans k'))
  have HVT : Hid (∀ w', Kp [] w7.drew w' → SigV w' (.agg #[.int .i64 i, .slice bp bnp bcp, .slice bq bnq bcq]) i (sgnP sd i d) (pthP sd i 4)) := fun w' k' => unhide HVT6 [] w' (by simp) ((unhide HK67).trans ((kp_drew w7).trans k'))
  have HSD : Hid (∀ w', Kp [] w7.drew w' → Sl w' (.slice a1 m1 c1) sd) := fun w' k' => (unhide HS1).kept ((unhide HK14).trans ((unhide HK47).trans ((kp_drew w7).trans k'))) (by simp)
  have HGL : Hid (∀ w', Kp [] w7.drew w' → Gl w') := fun w' k' => (unhide HG).kept (unhide HKX w' k') (by simp)
  go_wp2_with fail
  refine region_grow Tryd.mixed [Is (.int .i64 0), Is (.bool false), Is (.bool false), Is (.int .i64 0), Is (.bool false), Is (.bool false), Is (.bool false), Is (.int .i64 0), Is (.bool false), Is (.bool false), Is (.bool false), Is (.agg #[.int .i64 i, .slice ap np cp, .slice aq nq cq]), Is (.agg #[.int .i64 i, .slice bp bnp bcp, .slice bq bnq bcq]), Is (.bool true), Is (.bool false), Is (.bool false), Is (.bool false), Is (.agg #[.int .i64 i, .slice ap np cp, .slice aq nq cq]), Is (.agg #[.int .i64 i, .slice bp bnp bcp, .slice bq bnq bcq]), Is (.bool true), Is (.bool false), Is (.bool false), Is (.bool false), Is (.slice a1 m1 c1), SlT (tp), Is (v2), SlT (ms), Is (.agg #[.int .i64 i, .slice bp bnp bcp, .slice bq bnq bcq]), Is (.bool true), Is (.bool false), Is (.bool false), Is (.bool false), Is (.slice (some ⟨gx, 0, none⟩) 2180 xc), Is (.int .i64 2180), Is (.bool false), Is (.bool false)] [[(15, none)], [(47, some 0)], [(48, some 1)], [(17, none), (49, some 2)], [(50, some 3), (49, some 2)], [(49, some 2), (51, some 4)], [(52, some 5)], [(19, none), (53, some 6)], [(54, some 7), (53, some 6)], [(53, some 6), (55, some 8)], [(56, some 9)], [(14, none), (57, some 10)], [(18, none), (57, some 10)], [(58, some 11), (59, some 12), (57, some 10)], [(60, some 13), (57, some 10)], [(57, some 10), (61, some 14)], [(62, some 15)], [(14, none), (63, some 16)], [(18, none), (63, some 16)], [(64, some 17), (65, some 18), (63, some 16)], [(66, some 19), (63, some 16)], [(63, some 16), (67, some 20)], [(68, some 21)], [(13, none), (69, some 22)], [(70, some 23), (69, some 22)], [(2, none), (69, some 22)], [(72, some 25), (69, some 22)], [(18, none), (69, some 22)], [(71, some 24), (73, some 26), (74, some 27), (69, some 22)], [(75, some 28), (69, some 22)], [(69, some 22), (76, some 29)], [(77, some 30)], [(16, none), (78, some 31)], [(79, some 32), (78, some 31)], [(80, some 33), (78, some 31)], [(78, some 31), (81, some 34)]] (by kernel_rfl) ?_ ?_ ?_
  · simp only [List.mem_cons, List.not_mem_nil, or_false]
    intro R hR
    rcases hR with rfl | rfl | rfl | rfl | rfl | rfl | rfl | rfl | rfl | rfl | rfl | rfl | rfl | rfl | rfl | rfl | rfl | rfl | rfl | rfl | rfl | rfl | rfl | rfl | rfl | rfl | rfl | rfl | rfl | rfl | rfl | rfl | rfl | rfl | rfl | rfl <;> first | exact stable_is _ | exact stable_sl _
  · refine steps_cons (fun a w hk hn => ?_) ?_
    · have h15 : a.eval (.tmp 15) = .int .i64 0 := hn.1
      clear hn
      refine wants_plain rfl ?_
      exact grown_move (.tmp 15) rfl h15
    refine steps_cons (fun a w hk hn => ?_) ?_
    · have h47 : a.eval (.tmp 47) = .int .i64 0 := hn.1
      clear hn
      refine wants_plain rfl ?_
      refine grown_run (v := .bool false) ?_ (Kp.refl _ _) rfl
      obtain ⟨ρ, hρ, hc, hf, hg⟩ := eval_is a
      rw [hρ] at h47 ⊢
      simp [go_sem, hc, h47]
    refine steps_cons (fun a w hk hn => ?_) ?_
    · have h48 : a.eval (.tmp 48) = .bool false := hn.1
      clear hn
      refine wants_plain rfl ?_
      exact grown_move (.tmp 48) rfl h48
    refine steps_cons (fun a w hk hn => ?_) ?_
    · have h17 : a.eval (.tmp 17) = .int .i64 0 := hn.1
      have h49 : a.eval (.tmp 49) = .bool false := hn.2.1
      clear hn
      refine wants_guard (d := 49) rfl rfl h49 ?_
      exact grown_move (.tmp 17) rfl h17
    refine steps_cons (fun a w hk hn => ?_) ?_
    · have h50 : a.eval (.tmp 50) = .int .i64 0 := hn.1
      have h49 : a.eval (.tmp 49) = .bool false := hn.2.1
      clear hn
      refine wants_guard (d := 49) rfl rfl h49 ?_
      refine grown_run (v := .bool false) ?_ (Kp.refl _ _) rfl
      obtain ⟨ρ, hρ, hc, hf, hg⟩ := eval_is a
      rw [hρ] at h50 ⊢
      simp [go_sem, hc, h50]
    refine steps_cons (fun a w hk hn => ?_) ?_
    · have h49 : a.eval (.tmp 49) = .bool false := hn.1
      have h51 : a.eval (.tmp 51) = .bool false := hn.2.1
      clear hn
      refine wants_plain rfl ?_
      exact grown_pick _ _ _ false rfl h49 h51
    refine steps_cons (fun a w hk hn => ?_) ?_
    · have h52 : a.eval (.tmp 52) = .bool false := hn.1
      clear hn
      refine wants_plain rfl ?_
      exact grown_move (.tmp 52) rfl h52
    refine steps_cons (fun a w hk hn => ?_) ?_
    · have h19 : a.eval (.tmp 19) = .int .i64 0 := hn.1
      have h53 : a.eval (.tmp 53) = .bool false := hn.2.1
      clear hn
      refine wants_guard (d := 53) rfl rfl h53 ?_
      exact grown_move (.tmp 19) rfl h19
    refine steps_cons (fun a w hk hn => ?_) ?_
    · have h54 : a.eval (.tmp 54) = .int .i64 0 := hn.1
      have h53 : a.eval (.tmp 53) = .bool false := hn.2.1
      clear hn
      refine wants_guard (d := 53) rfl rfl h53 ?_
      refine grown_run (v := .bool false) ?_ (Kp.refl _ _) rfl
      obtain ⟨ρ, hρ, hc, hf, hg⟩ := eval_is a
      rw [hρ] at h54 ⊢
      simp [go_sem, hc, h54]
    refine steps_cons (fun a w hk hn => ?_) ?_
    · have h53 : a.eval (.tmp 53) = .bool false := hn.1
      have h55 : a.eval (.tmp 55) = .bool false := hn.2.1
      clear hn
      refine wants_plain rfl ?_
      exact grown_pick _ _ _ false rfl h53 h55
    refine steps_cons (fun a w hk hn => ?_) ?_
    · have h56 : a.eval (.tmp 56) = .bool false := hn.1
      clear hn
      refine wants_plain rfl ?_
      exact grown_move (.tmp 56) rfl h56
    refine steps_cons (fun a w hk hn => ?_) ?_
    · have h14 : a.eval (.tmp 14) = .pointer (some ⟨gs, 0, none⟩) := hn.1
      have h57 : a.eval (.tmp 57) = .bool false := hn.2.1
      clear hn
      refine wants_guard (d := 57) rfl rfl h57 ?_
      exact grown_loadsig (.tmp 14) rfl gs _ _ _ _ h14 (unhide HGS w hk) rfl
    refine steps_cons (fun a w hk hn => ?_) ?_
    · have h18 : a.eval (.tmp 18) = .pointer (some ⟨gt, 0, none⟩) := hn.1
      have h57 : a.eval (.tmp 57) = .bool false := hn.2.1
      clear hn
      refine wants_guard (d := 57) rfl rfl h57 ?_
      exact grown_loadsig (.tmp 18) rfl gt _ _ _ _ h18 (unhide HGT w hk) rfl
    refine steps_cons (fun a w hk hn => ?_) ?_
    · have h58 : a.eval (.tmp 58) = .agg #[.int .i64 i, .slice ap np cp, .slice aq nq cq] := hn.1
      have h59 : a.eval (.tmp 59) = .agg #[.int .i64 i, .slice bp bnp bcp, .slice bq bnq bcq] := hn.2.1
      have h57 : a.eval (.tmp 57) = .bool false := hn.2.2.1
      clear hn
      refine wants_guard (d := 57) rfl rfl h57 ?_
      refine grown_call (f := 25) rfl Tryd.func25 (by kernel_rfl) (by kernel_rfl) ?_
      simp only [List.map_toArray, List.map_cons, List.map_nil, h58, h59]
      refine (ssame_any _ _ _ _ _ _ _ _ true (by simp) w (unhide HVS w hk) (unhide HVT w hk)).mono ?_
      rintro e w' ⟨rfl, K⟩
      exact ⟨_, rfl, K, rfl⟩
    refine steps_cons (fun a w hk hn => ?_) ?_
    · have h60 : a.eval (.tmp 60) = .bool true := hn.1
      have h57 : a.eval (.tmp 57) = .bool false := hn.2.1
      clear hn
      refine wants_guard (d := 57) rfl rfl h57 ?_
      refine grown_run (v := .bool false) ?_ (Kp.refl _ _) rfl
      obtain ⟨ρ, hρ, hc, hf, hg⟩ := eval_is a
      rw [hρ] at h60 ⊢
      simp [go_sem, h60]
    refine steps_cons (fun a w hk hn => ?_) ?_
    · have h57 : a.eval (.tmp 57) = .bool false := hn.1
      have h61 : a.eval (.tmp 61) = .bool false := hn.2.1
      clear hn
      refine wants_plain rfl ?_
      exact grown_pick _ _ _ false rfl h57 h61
    refine steps_cons (fun a w hk hn => ?_) ?_
    · have h62 : a.eval (.tmp 62) = .bool false := hn.1
      clear hn
      refine wants_plain rfl ?_
      exact grown_move (.tmp 62) rfl h62
    refine steps_cons (fun a w hk hn => ?_) ?_
    · have h14 : a.eval (.tmp 14) = .pointer (some ⟨gs, 0, none⟩) := hn.1
      have h63 : a.eval (.tmp 63) = .bool false := hn.2.1
      clear hn
      refine wants_guard (d := 63) rfl rfl h63 ?_
      exact grown_loadsig (.tmp 14) rfl gs _ _ _ _ h14 (unhide HGS w hk) rfl
    refine steps_cons (fun a w hk hn => ?_) ?_
    · have h18 : a.eval (.tmp 18) = .pointer (some ⟨gt, 0, none⟩) := hn.1
      have h63 : a.eval (.tmp 63) = .bool false := hn.2.1
      clear hn
      refine wants_guard (d := 63) rfl rfl h63 ?_
      exact grown_loadsig (.tmp 18) rfl gt _ _ _ _ h18 (unhide HGT w hk) rfl
    refine steps_cons (fun a w hk hn => ?_) ?_
    · have h64 : a.eval (.tmp 64) = .agg #[.int .i64 i, .slice ap np cp, .slice aq nq cq] := hn.1
      have h65 : a.eval (.tmp 65) = .agg #[.int .i64 i, .slice bp bnp bcp, .slice bq bnq bcq] := hn.2.1
      have h63 : a.eval (.tmp 63) = .bool false := hn.2.2.1
      clear hn
      refine wants_guard (d := 63) rfl rfl h63 ?_
      refine grown_call (f := 14) rfl Tryd.func14 (by kernel_rfl) (by kernel_rfl) ?_
      simp only [List.map_toArray, List.map_cons, List.map_nil, h64, h65]
      refine (refsame_any _ _ _ _ _ w (unhide HVS w hk) (unhide HVT w hk)).mono ?_
      rintro e w' ⟨rfl, K⟩
      exact ⟨_, rfl, K, rfl⟩
    refine steps_cons (fun a w hk hn => ?_) ?_
    · have h66 : a.eval (.tmp 66) = .bool true := hn.1
      have h63 : a.eval (.tmp 63) = .bool false := hn.2.1
      clear hn
      refine wants_guard (d := 63) rfl rfl h63 ?_
      refine grown_run (v := .bool false) ?_ (Kp.refl _ _) rfl
      obtain ⟨ρ, hρ, hc, hf, hg⟩ := eval_is a
      rw [hρ] at h66 ⊢
      simp [go_sem, h66]
    refine steps_cons (fun a w hk hn => ?_) ?_
    · have h63 : a.eval (.tmp 63) = .bool false := hn.1
      have h67 : a.eval (.tmp 67) = .bool false := hn.2.1
      clear hn
      refine wants_plain rfl ?_
      exact grown_pick _ _ _ false rfl h63 h67
    refine steps_cons (fun a w hk hn => ?_) ?_
    · have h68 : a.eval (.tmp 68) = .bool false := hn.1
      clear hn
      refine wants_plain rfl ?_
      exact grown_move (.tmp 68) rfl h68
    refine steps_cons (fun a w hk hn => ?_) ?_
    · have h13 : a.eval (.tmp 13) = .slice a1 m1 c1 := hn.1
      have h69 : a.eval (.tmp 69) = .bool false := hn.2.1
      clear hn
      refine wants_guard (d := 69) rfl rfl h69 ?_
      exact grown_move (.tmp 13) rfl h13
    refine steps_cons (fun a w hk hn => ?_) ?_
    · have h70 : a.eval (.tmp 70) = .slice a1 m1 c1 := hn.1
      have h69 : a.eval (.tmp 69) = .bool false := hn.2.1
      clear hn
      refine wants_guard (d := 69) rfl rfl h69 ?_
      refine grown_call (f := 11) rfl Tryd.func11 (by kernel_rfl) (by kernel_rfl) ?_
      simp only [List.map_toArray, List.map_cons, List.map_nil, h70]
      refine (spublic_any _ sd tp (unhide HTP) w (unhide HSD w hk) (unhide HSB) (unhide HSL) (unhide HGL w hk)).mono ?_
      rintro e w' ⟨ao, m, c, rfl, R, K⟩
      exact ⟨_, rfl, K, R⟩
    refine steps_cons (fun a w hk hn => ?_) ?_
    · have h2 : a.eval (.tmp 2) = v2 := hn.1
      have h69 : a.eval (.tmp 69) = .bool false := hn.2.1
      clear hn
      refine wants_guard (d := 69) rfl rfl h69 ?_
      exact grown_move (.tmp 2) rfl h2
    refine steps_cons (fun a w hk hn => ?_) ?_
    · have h72 : a.eval (.tmp 72) = v2 := hn.1
      have h69 : a.eval (.tmp 69) = .bool false := hn.2.1
      clear hn
      refine wants_guard (d := 69) rfl rfl h69 ?_
      refine grown_call (f := 22) rfl Tryd.func22 (by kernel_rfl) (by kernel_rfl) ?_
      simp only [List.map_toArray, List.map_cons, List.map_nil, h72]
      refine (unhide HKC w (unhide HKX w hk)).mono ?_
      rintro e w' ⟨ao, c, rfl, hT, hw⟩
      subst w'
      exact ⟨_, rfl, Kp.refl _ _, hT _ ((unhide HM0).kept (unhide HKX w hk) (by simp))⟩
    refine steps_cons (fun a w hk hn => ?_) ?_
    · have h18 : a.eval (.tmp 18) = .pointer (some ⟨gt, 0, none⟩) := hn.1
      have h69 : a.eval (.tmp 69) = .bool false := hn.2.1
      clear hn
      refine wants_guard (d := 69) rfl rfl h69 ?_
      exact grown_loadsig (.tmp 18) rfl gt _ _ _ _ h18 (unhide HGT w hk) rfl
    refine steps_cons (fun a w hk hn => ?_) ?_
    · have h71 : Sl w (a.eval (.tmp 71)) (tp) := hn.1
      have h73 : Sl w (a.eval (.tmp 73)) (ms) := hn.2.1
      have h74 : a.eval (.tmp 74) = .agg #[.int .i64 i, .slice bp bnp bcp, .slice bq bnq bcq] := hn.2.2.1
      have h69 : a.eval (.tmp 69) = .bool false := hn.2.2.2.1
      clear hn
      refine wants_guard (d := 69) rfl rfl h69 ?_
      refine grown_call (f := 16) rfl Tryd.func16 (by kernel_rfl) (by kernel_rfl) ?_
      simp only [List.map_toArray, List.map_cons, List.map_nil, h74]
      refine (sverify_any _ tp _ ms _ i _ _ true (unhide HVF) w h71 (unhide HTB) h73 (unhide HBm) (by omega) (unhide HVT w hk) (unhide HGL w hk)).mono ?_
      rintro e w' ⟨rfl, K⟩
      exact ⟨_, rfl, K, rfl⟩
    refine steps_cons (fun a w hk hn => ?_) ?_
    · have h75 : a.eval (.tmp 75) = .bool true := hn.1
      have h69 : a.eval (.tmp 69) = .bool false := hn.2.1
      clear hn
      refine wants_guard (d := 69) rfl rfl h69 ?_
      refine grown_run (v := .bool false) ?_ (Kp.refl _ _) rfl
      obtain ⟨ρ, hρ, hc, hf, hg⟩ := eval_is a
      rw [hρ] at h75 ⊢
      simp [go_sem, h75]
    refine steps_cons (fun a w hk hn => ?_) ?_
    · have h69 : a.eval (.tmp 69) = .bool false := hn.1
      have h76 : a.eval (.tmp 76) = .bool false := hn.2.1
      clear hn
      refine wants_plain rfl ?_
      exact grown_pick _ _ _ false rfl h69 h76
    refine steps_cons (fun a w hk hn => ?_) ?_
    · have h77 : a.eval (.tmp 77) = .bool false := hn.1
      clear hn
      refine wants_plain rfl ?_
      exact grown_move (.tmp 77) rfl h77
    refine steps_cons (fun a w hk hn => ?_) ?_
    · have h16 : a.eval (.tmp 16) = .slice (some ⟨gx, 0, none⟩) 2180 xc := hn.1
      have h78 : a.eval (.tmp 78) = .bool false := hn.2.1
      clear hn
      refine wants_guard (d := 78) rfl rfl h78 ?_
      exact grown_move (.tmp 16) rfl h16
    refine steps_cons (fun a w hk hn => ?_) ?_
    · have h79 : a.eval (.tmp 79) = .slice (some ⟨gx, 0, none⟩) 2180 xc := hn.1
      have h78 : a.eval (.tmp 78) = .bool false := hn.2.1
      clear hn
      refine wants_guard (d := 78) rfl rfl h78 ?_
      refine grown_run (v := .int .i64 2180) ?_ (Kp.refl _ _) rfl
      obtain ⟨ρ, hρ, hc, hf, hg⟩ := eval_is a
      rw [hρ] at h79 ⊢
      simp [go_sem, h79]
    refine steps_cons (fun a w hk hn => ?_) ?_
    · have h80 : a.eval (.tmp 80) = .int .i64 2180 := hn.1
      have h78 : a.eval (.tmp 78) = .bool false := hn.2.1
      clear hn
      refine wants_guard (d := 78) rfl rfl h78 ?_
      refine grown_run (v := .bool false) ?_ (Kp.refl _ _) rfl
      obtain ⟨ρ, hρ, hc, hf, hg⟩ := eval_is a
      rw [hρ] at h80 ⊢
      simp [go_sem, hc, h80]
    refine steps_cons (fun a w hk hn => ?_) ?_
    · have h78 : a.eval (.tmp 78) = .bool false := hn.1
      have h81 : a.eval (.tmp 81) = .bool false := hn.2.1
      clear hn
      refine wants_plain rfl ?_
      exact grown_pick _ _ _ false rfl h78 h81
    exact trivial
  intro W1 hkW1
  rintro _ rfl
  rintro _ rfl
  rintro _ rfl
  rintro _ rfl
  rintro _ rfl
  rintro _ rfl
  rintro _ rfl
  rintro _ rfl
  rintro _ rfl
  rintro _ rfl
  rintro _ rfl
  rintro _ rfl
  rintro _ rfl
  rintro _ rfl
  rintro _ rfl
  rintro _ rfl
  rintro _ rfl
  rintro _ rfl
  rintro _ rfl
  rintro _ rfl
  rintro _ rfl
  rintro _ rfl
  rintro _ rfl
  rintro _ rfl
  intro v71 h71
  rintro _ rfl
  intro v73 h73
  rintro _ rfl
  rintro _ rfl
  rintro _ rfl
  rintro _ rfl
  rintro _ rfl
  rintro _ rfl
  rintro _ rfl
  rintro _ rfl
  rintro _ rfl
  refine fin_nil ?_
  simp only [Act.put, List.set_cons_zero, List.set_cons_succ, List.setIfInBounds_toArray]
  have HKW := hide ((kp_drew w7).trans hkW1)
  clear hkW1
  have HG2 := hide ((unhide HK57).trans (unhide HKW))
  have hcur := (unhide HG2).heap (unhide HGC5) (by simp)
  have HX8 := hide ((unhide HX5).kept (unhide HG2) (by simp))
  have HCU := hide hcur
  clear hcur HGS HGT HVS HVT HSD HGL HKX h71 h73
  go_wp2_with fail
  refine (unhide HCA W1).mono ?_
  rintro ee w8 ⟨xk, rfl, hk0, hk1, hw⟩
  subst w8
  obtain ⟨k, rfl⟩ := Int.eq_ofNat_of_zero_le hk0
  have hk2180 : k < 2180 := by omega
  have hk3 : (k : Int) < 2180 := by omega
  obtain ⟨B, hB⟩ : ∃ B, B = xs[k]'(by omega) := ⟨_, rfl⟩
  have hcell : W1.cell? ⟨gx, k, none⟩ = some (.int .u8 B) := by
    obtain ⟨ao', c', e, _, _, _, h4⟩ := unhide HX8
    injection e with e1 _ _
    have := h4 ⟨gx, 0, none⟩ e1.symm k (.int .u8 B) (by rw [hB, List.getElem?_map, List.getElem?_eq_getElem (by omega)]; rfl)
    rw [Addr.add_lit, Nat.zero_add] at this
    exact this
  have hfr : W1.frozen? ⟨gx, k, none⟩ = false := frozen_of_row W1 gx k _ _ (unhide HCU)
  obtain ⟨y, hy⟩ : ∃ y, y = bits .xor .u8 B tn := ⟨_, rfl⟩
  have hyb : 0 ≤ y ∧ y ≤ 255 := by rw [hy]; exact xor_bd B tn
  have k8 := setCell_kp W1 gx k (.int .u8 y)
  obtain ⟨cs, hX9, hcb⟩ := (unhide HX8).poke (unhide HXSB) y hyb.1 hyb.2 hcell
  have HX9 := hide hX9
  have HXB := hide hcb
  have HK8 := hide k8
  rw [hy] at HX9 HK8
  clear hX9 hcb k8 hyb hy hB HCU HCA HX8
  go_wp2_with fail
  obtain ⟨w9, hw9⟩ : ∃ w9, w9 = W1.setCell ⟨gx, k, none⟩ (.int .u8 (bits .xor .u8 B tn)) := ⟨_, rfl⟩
  rw [← hw9] at HX9 HK8 ⊢
  clear hw9 hcell hfr
  have HXL : Hid (cs.length = 2180) := by obtain ⟨_, _, e, _⟩ := unhide HX9; injection e with _ e _; exact e.symm
  have HXN : Hid (cs ≠ []) := fun e => by have := unhide HXL; rw [e] at this; cases this
  have HK09 : Hid (Kp [] w w9) := ((unhide HK7).trans (unhide HKW)).then (unhide HK8) (fun j hj => .inr (by simp at hj; omega))
  have HK49 : Hid (Kp [gx] w4 w9) := (((unhide HK47).trans (unhide HKW)).mono (by simp)).trans (unhide HK8)
  have HK69 : Hid (Kp [gx] w6 w9) := (((unhide HK67).trans (unhide HKW)).mono (by simp)).trans (unhide HK8)
  have HV9 : Hid (SigV w9 (.agg #[.int .i64 i, .slice ap np cp, .slice aq nq cq]) i (sgnP sd i d) (pthP sd i 4)) := (unhide HV4).old (unhide HK49) (fun q hq => by simp at hq; omega)
  have HT9 : Hid (SigV w9 (.agg #[.int .i64 i, .slice bp bnp bcp, .slice bq bnq bcq]) i (sgnP sd i d) (pthP sd i 4)) := unhide HVT6 [gx] w9 (fun q hq => by simp at hq; omega) (unhide HK69)
  have HGS9 : Hid (w9.heap[gs]? = some (.cells #[.int .i64 i, .slice ap np cp, .slice aq nq cq] 33 (0, 0))) := (unhide HK49).heap (unhide HG4) (by simp; omega)
  have HGT9 : Hid (w9.heap[gt]? = some (.cells #[.int .i64 i, .slice bp bnp bcp, .slice bq bnq bcq] 33 (0, 0))) := (((unhide HKW).mono (by simp)).trans (unhide HK8)).heap (unhide HG7) (by simp; omega)
  have HX2 : Hid (∀ w', Kp [] w9.drew w' → Sl w' (.slice (some ⟨gx, 0, none⟩) 2180 xc) cs) := fun w' k' => (unhide HX9).kept ((kp_drew w9).trans k') (by simp)
  have HX1 : Hid (∀ w', Kp [] w9.drew w' → Sl w' (.slice (some ⟨gx, 1, none⟩) 2179 (xc - 1)) (cs.drop 1)) := fun w' k' => sl_one (unhide HX2 w' k')
  have HB2 : Hid (∀ w', Kp [] w9.drew w' → Sl w' v5 bs0) := fun w' k' => (unhide HB00).kept ((unhide HK09).trans ((kp_drew w9).trans k')) (by simp)
  have hxc1 : (1 : Int) ≤ (xc : Int) := by omega
  have hxc2 : ¬ xc = 1 := by omega
  clear HK8 HKW HG2 HV4 HG4 HG7 HVT6
  go_wp2_with fail
  refine region_grow Tryd.mixed [Is (.slice (some ⟨gx, 0, none⟩) 2180 xc), Is (.slice (some ⟨gx, 0, none⟩) 2180 xc), Is (.slice (some ⟨gx, 1, none⟩) 2179 (xc - 1)), Full [], Is (.slice (some ⟨gx, 0, none⟩) 2180 xc), ZRow cs, Full [0], SlT (cs ++ [0]), Is (v5), AnyB, Is (v5), AnyB, Ls5, Is (.int .i64 5), Is (.int .i64 0)] [[(16, none)], [(16, none)], [(95, some 1)], [], [(16, none)], [(97, some 3), (98, some 4)], [], [(99, some 5), (100, some 6)], [(5, none)], [(102, some 8)], [(5, none)], [(104, some 10)], [(94, some 0), (96, some 2), (101, some 7), (103, some 9), (105, some 11)], [(106, some 12)], []] (by kernel_rfl) ?_ ?_ ?_
  · simp only [List.mem_cons, List.not_mem_nil, or_false]
    intro R hR
    rcases hR with rfl | rfl | rfl | rfl | rfl | rfl | rfl | rfl | rfl | rfl | rfl | rfl | rfl | rfl | rfl <;> first | exact stable_is _ | exact stable_full _ | exact stable_zrow _ | exact stable_sl _ | exact stable_anyb | exact stable_ls5
  · refine steps_cons (fun a w hk hn => ?_) ?_
    · have h16 : a.eval (.tmp 16) = .slice (some ⟨gx, 0, none⟩) 2180 xc := hn.1
      clear hn
      refine wants_plain rfl ?_
      exact grown_move (.tmp 16) rfl h16
    refine steps_cons (fun a w hk hn => ?_) ?_
    · have h16 : a.eval (.tmp 16) = .slice (some ⟨gx, 0, none⟩) 2180 xc := hn.1
      clear hn
      refine wants_plain rfl ?_
      exact grown_move (.tmp 16) rfl h16
    refine steps_cons (fun a w hk hn => ?_) ?_
    · have h95 : a.eval (.tmp 95) = .slice (some ⟨gx, 0, none⟩) 2180 xc := hn.1
      clear hn
      refine wants_plain rfl ?_
      refine grown_run (v := .slice (some ⟨gx, 1, none⟩) 2179 (xc - 1)) ?_ (Kp.refl _ _) rfl
      obtain ⟨ρ, hρ, hc, hf, hg⟩ := eval_is a
      rw [hρ] at h95 ⊢
      simp [go_sem, hc, h95, Instr.sliceAt, Sem.run_bind, hxc2]
    refine steps_cons (fun a w hk hn => ?_) ?_
    · clear hn
      refine wants_plain rfl ?_
      refine grown_run (v := .slice (some ⟨w.heap.size, 0, none⟩) 0 0) (w' := w.alloc (.cells #[] 5)) ?_ ((Kp.refl _ _).alloc _) ⟨⟨_, rfl⟩, Sl.block (cs := []) (t := 5) (heap_alloc_new w _) (by simp [maxLen])⟩
      obtain ⟨ρ, hρ, hc, hf, hg⟩ := eval_is a
      rw [hρ]
      simp [go_sem]
    refine steps_cons (fun a w hk hn => ?_) ?_
    · have h16 : a.eval (.tmp 16) = .slice (some ⟨gx, 0, none⟩) 2180 xc := hn.1
      clear hn
      refine wants_plain rfl ?_
      exact grown_move (.tmp 16) rfl h16
    refine steps_cons (fun a w hk hn => ?_) ?_
    · have h97 : (Full []) (a.eval (.tmp 97)) w := hn.1
      have h98 : a.eval (.tmp 98) = .slice (some ⟨gx, 0, none⟩) 2180 xc := hn.2.1
      clear hn
      refine wants_plain rfl ?_
      exact grown_append_z (.tmp 97) (.tmp 98) cs rfl h97 (by rw [h98]; exact unhide HX2 w hk) (unhide HXN) (by rw [unhide HXL]; omega) (fun v w' h => h)
    refine steps_cons (fun a w hk hn => ?_) ?_
    · clear hn
      refine wants_plain rfl ?_
      refine grown_run (v := .slice (some ⟨w.heap.size, 0, none⟩) 1 1) (w' := w.alloc (.cells #[.int .u8 0] 5)) ?_ ((Kp.refl _ _).alloc _) ⟨⟨_, rfl⟩, one_block w 0⟩
      obtain ⟨ρ, hρ, hc, hf, hg⟩ := eval_is a
      rw [hρ]
      simp [go_sem, hc]
    refine steps_cons (fun a w hk hn => ?_) ?_
    · have h99 : (ZRow cs) (a.eval (.tmp 99)) w := hn.1
      have h100 : (Full [0]) (a.eval (.tmp 100)) w := hn.2.1
      clear hn
      refine wants_plain rfl ?_
      exact grown_append_0 (.tmp 99) (.tmp 100) cs rfl h99 h100.2 (by rw [unhide HXL]; omega) (fun v w' h => h)
    refine steps_cons (fun a w hk hn => ?_) ?_
    · have h5 : a.eval (.tmp 5) = v5 := hn.1
      clear hn
      refine wants_plain rfl ?_
      exact grown_move (.tmp 5) rfl h5
    refine steps_cons (fun a w hk hn => ?_) ?_
    · have h102 : a.eval (.tmp 102) = v5 := hn.1
      clear hn
      refine wants_plain rfl ?_
      refine grown_call (f := 21) rfl Tryd.func21 (by kernel_rfl) (by kernel_rfl) ?_
      simp only [List.map_toArray, List.map_cons, List.map_nil, h102]
      refine (sized_sig _ bs0 w (unhide HB2 w hk) (unhide HB0)).mono ?_
      rintro e w' ⟨g, bs', rfl, hl, hb, R, K⟩
      exact ⟨_, rfl, K, bs', R.sl, hb⟩
    refine steps_cons (fun a w hk hn => ?_) ?_
    · have h5 : a.eval (.tmp 5) = v5 := hn.1
      clear hn
      refine wants_plain rfl ?_
      exact grown_move (.tmp 5) rfl h5
    refine steps_cons (fun a w hk hn => ?_) ?_
    · have h104 : a.eval (.tmp 104) = v5 := hn.1
      clear hn
      refine wants_plain rfl ?_
      refine grown_call (f := 22) rfl Tryd.func22 (by kernel_rfl) (by kernel_rfl) ?_
      simp only [List.map_toArray, List.map_cons, List.map_nil, h104]
      refine (cut_any _ bs0 50 w (unhide HB2 w hk)).mono ?_
      rintro e w' ⟨ao, c, rfl, hT, hw⟩
      subst w'
      exact ⟨_, rfl, Kp.refl _ _, _, hT _ (unhide HB2 w hk), (unhide HB0).take _⟩
    refine steps_cons (fun a w hk hn => ?_) ?_
    · have h94 : a.eval (.tmp 94) = .slice (some ⟨gx, 0, none⟩) 2180 xc := hn.1
      have h96 : a.eval (.tmp 96) = .slice (some ⟨gx, 1, none⟩) 2179 (xc - 1) := hn.2.1
      have h101 : Sl w (a.eval (.tmp 101)) (cs ++ [0]) := hn.2.2.1
      have h103 : (AnyB) (a.eval (.tmp 103)) w := hn.2.2.2.1
      have h105 : (AnyB) (a.eval (.tmp 105)) w := hn.2.2.2.2.1
      clear hn
      refine wants_plain rfl ?_
      exact build5 h94 h96 h101 h103 h105 rfl (unhide HX2 w hk) (unhide HX1 w hk) (unhide HXB)
    refine steps_cons (fun a w hk hn => ?_) ?_
    · have h106 : (Ls5) (a.eval (.tmp 106)) w := hn.1
      clear hn
      refine wants_plain rfl ?_
      obtain ⟨g, ls, he, _⟩ := h106
      refine grown_run (v := .int .i64 5) ?_ (Kp.refl _ _) rfl
      obtain ⟨ρ, hρ, hc, hf, hg⟩ := eval_is a
      rw [hρ] at he ⊢
      simp [go_sem, he]
    refine steps_cons (fun a w hk hn => ?_) ?_
    · clear hn
      refine wants_plain rfl ?_
      exact grown_move _ rfl rfl
    exact trivial
  intro W2 hkW2
  rintro _ rfl
  rintro _ rfl
  rintro _ rfl
  intro v97 h97
  rintro _ rfl
  intro v99 h99
  intro v100 h100
  intro v101 h101
  rintro _ rfl
  intro v103 h103
  rintro _ rfl
  intro v105 h105
  intro v106 h106
  rintro _ rfl
  rintro _ rfl
  refine fin_nil ?_
  simp only [Act.put, List.set_cons_zero, List.set_cons_succ, List.setIfInBounds_toArray]
  obtain ⟨gl, ls, hv106, hl5, hLs⟩ := h106
  subst hv106
  have HLS := hide hLs
  have HLB := hide hl5
  have HKW2 := hide ((kp_drew w9).trans hkW2)
  clear hLs hl5 hkW2 h97 h99 h100 h101 h103 h105 HX2 HX1 HB2 HX9 hxc1 hxc2
  go_wp2_with fail
  go_loopw [108] (fun j wr => ∃ k : Nat, k ≤ 5 ∧ j = .int .i64 (k : Int) ∧ Kp [] W2 wr) (fun j _ => 5 - (intOf j).toNat)
  case atStart => exact ⟨0, by omega, rfl, Kp.refl _ _⟩
  case round =>
    obtain ⟨kk, hkk, rfl, Kr⟩ := hrel
    have HKr := hide Kr
    have HKR9 := hide ((unhide HKW2).trans Kr)
    clear Kr
    by_cases hlt : kk < 5
    · have hlt2 : (kk : Int) < 5 := by omega
      obtain ⟨l, hL, hle⟩ := unhide HLS
      obtain ⟨b', off', ay, ny, cy, e1, hcell, hSy, hBy⟩ := lists_at (hL.kept (unhide HKr)) hle kk (by have := unhide HLB; omega)
      injection e1 with e1
      injection e1 with e2 e3
      subst e2
      subst e3
      rw [Nat.zero_add] at hcell
      obtain ⟨bs, hbs⟩ : ∃ b, b = ls.getD kk [] := ⟨_, rfl⟩
      rw [← hbs] at hSy hBy
      have HSy := hide hSy
      have HBy := hide hBy
      have HC := hide (decode_any (.slice ay ny cy) bs wr hSy hBy)
      clear hL hle hSy hBy hbs
      go_wp2_with fail
      refine (unhide HC).mono ?_
      rintro ee wa ⟨vu, x, rfl, DU, Ka⟩
      obtain ⟨VU, hx⟩ := decd_sig DU
      obtain ⟨ep, enp, ecp, eq, enq, ecq, lp, lq, hvu, hLP, hp, hLQ, hq, hnp, hnq⟩ := VU.shape
      obtain ⟨ok, hok⟩ : ∃ o, o = decOk bs := ⟨_, rfl⟩
      obtain ⟨di, hdi⟩ : ∃ z, z = dI bs := ⟨_, rfl⟩
      obtain ⟨dp, hdp⟩ : ∃ z, z = dP bs := ⟨_, rfl⟩
      obtain ⟨dq, hdq⟩ : ∃ z, z = dQ bs := ⟨_, rfl⟩
      have HDE : Hid (∀ {v : Value} {e : Bool} {w : World}, RDecd bs v e w → SigV w v di dp dq ∧ e = ok) := by rw [hok, hdi, hdp, hdq]; exact rdecd_sig
      rw [← hdi, ← hdp, ← hdq] at VU
      rw [← hdi] at hvu
      rw [← hok] at hx
      subst hvu
      have HXE := hide hx
      clear hx
      have HVU0 := hide VU
      have HKa := hide Ka
      have HOK := hide hok
      have Ga := heap_alloc_new wa (.cells #[.int .i64 0, .slice none 0 0, .slice none 0 0] 33)
      clear hLP hp hLQ hq hnp hnq VU Ka DU HC hdi hdp hdq hok hcell
      go_wp2_with (refine wpList_store_sig rfl (.tmp 22) (.tmp 115) rfl wa.heap.size rfl _ _ _ _ _ _ Ga rfl ⟨rfl, rfl, rfl⟩ ?_; intro wb Gb Kb'; refine Hid.out ?_)
      have Kb : Kp [] wa wb := ((Kp.refl [] wa).alloc (.cells #[.int .i64 0, .slice none 0 0, .slice none 0 0] 33)).then Kb' (by simp)
      obtain ⟨gu, hgu⟩ : ∃ g, g = wa.heap.size := ⟨_, rfl⟩
      rw [← hgu] at Gb ⊢
      have HGb := hide Gb
      have HKab := hide Kb
      have HC := hide (refdecode_any (.slice ay ny cy) bs wb ((unhide HSy).kept ((unhide HKa).trans Kb) (by simp)) (unhide HBy))
      clear Ga Kb' Gb Kb hgu
      refine hide ?_
      go_wp2_with fail
      refine (unhide HC).mono ?_
      rintro ee wc ⟨vv, ok', rfl, DV, Kc⟩
      obtain ⟨VV, hok'⟩ := unhide HDE DV
      subst hok'
      obtain ⟨fp, fnp, fcp, fq, fnq, fcq, lp, lq, hvv, hLP, hp, hLQ, hq, hnp, hnq⟩ := VV.shape
      subst hvv
      have HVV0 := hide VV
      have HKbc := hide Kc
      have Ga := heap_alloc_new wc (.cells #[.int .i64 0, .slice none 0 0, .slice none 0 0] 33)
      clear hLP hp hLQ hq hnp hnq VV Kc DV HC HDE
      go_wp2_with (refine wpList_store_sig rfl (.tmp 24) (.tmp 120) rfl wc.heap.size rfl _ _ _ _ _ _ Ga rfl ⟨rfl, rfl, rfl⟩ ?_; intro wd Gd Kd'; refine Hid.out ?_)
      have Kd : Kp [] wc wd := ((Kp.refl [] wc).alloc (.cells #[.int .i64 0, .slice none 0 0, .slice none 0 0] 33)).then Kd' (by simp)
      obtain ⟨gv, hgv⟩ : ∃ g, g = wc.heap.size := ⟨_, rfl⟩
      rw [← hgv] at Gd ⊢
      have Kbd : Kp [] wb wd := (unhide HKbc).trans Kd
      have HGU : Hid (wd.heap[gu]? = some (.cells #[.int .i64 di, .slice ep enp ecp, .slice eq enq ecq] 33 (0, 0))) := Kbd.heap (unhide HGb) (by simp)
      have HGV := hide Gd
      have HC := hide (refsame_any _ _ _ _ _ wd ((unhide HVU0).kept ((unhide HKab).trans Kbd)) ((unhide HVV0).kept Kd))
      have HKD := hide ((unhide HKr).trans ((unhide HKa).trans ((unhide HKab).trans Kbd)))
      clear Ga Kd' Gd Kd Kbd hgv HVU0 HVV0 HKab HKbc HGb HKa HSy HBy HOK
      have gu0 : wd.cell? ⟨gu, 0, none⟩ = some (.int .i64 di) := by rw [cell_of_row wd gu 0 _ _ _ (unhide HGU)]; rfl
      have gu1 : wd.cell? ⟨gu, 1, none⟩ = some (.slice ep enp ecp) := by rw [cell_of_row wd gu 1 _ _ _ (unhide HGU)]; rfl
      have gu2 : wd.cell? ⟨gu, 2, none⟩ = some (.slice eq enq ecq) := by rw [cell_of_row wd gu 2 _ _ _ (unhide HGU)]; rfl
      have gv0 : wd.cell? ⟨gv, 0, none⟩ = some (.int .i64 di) := by rw [cell_of_row wd gv 0 _ _ _ (unhide HGV)]; rfl
      have gv1 : wd.cell? ⟨gv, 1, none⟩ = some (.slice fp fnp fcp) := by rw [cell_of_row wd gv 1 _ _ _ (unhide HGV)]; rfl
      have gv2 : wd.cell? ⟨gv, 2, none⟩ = some (.slice fq fnq fcq) := by rw [cell_of_row wd gv 2 _ _ _ (unhide HGV)]; rfl
      have hlu := load_sig wd gu _ _ _ (0, 0) (unhide HGU)
      have hlv := load_sig wd gv _ _ _ (0, 0) (unhide HGV)
      refine hide ?_
      cases ok'
      · have hxv : x = 12 := unhide HXE
        clear HXE
        subst hxv
        go_wp2_with fail
        refine (unhide HC).mono ?_
        rintro ee we ⟨rfl, Ke⟩
        have HKE := hide ((unhide HKD).trans Ke)
        clear Ke HC
        go_wp2_with fail
        go_roundw
        case rel => exact ⟨kk + 1, by omega, by go_num, unhide HKE⟩
        case measure => simp [intOf]; omega
      · have hxv : x = 0 := unhide HXE
        clear HXE
        subst hxv
        go_wp2_with fail
        refine (unhide HC).mono ?_
        rintro ee we ⟨rfl, Ke⟩
        have HKE := hide ((unhide HKD).trans Ke)
        clear Ke HC
        go_wp2_with fail
        go_roundw
        case rel => exact ⟨kk + 1, by omega, by go_num, unhide HKE⟩
        case measure => simp [intOf]; omega
    · have hlt2 : ¬ (kk : Int) < 5 := by omega
      have HGS3 : Hid (∀ w', Kp [] wr.drew w' → w'.heap[gs]? = some (.cells #[.int .i64 i, .slice ap np cp, .slice aq nq cq] 33 (0, 0))) := fun w' k' => ((unhide HKR9).trans ((kp_drew wr).trans k')).heap (unhide HGS9) (by simp)
      have HGT3 : Hid (∀ w', Kp [] wr.drew w' → w'.heap[gt]? = some (.cells #[.int .i64 i, .slice bp bnp bcp, .slice bq bnq bcq] 33 (0, 0))) := fun w' k' => ((unhide HKR9).trans ((kp_drew wr).trans k')).heap (unhide HGT9) (by simp)
      have HVS3 : Hid (∀ w', Kp [] wr.drew w' → SigV w' (.agg #[.int .i64 i, .slice ap np cp, .slice aq nq cq]) i (sgnP sd i d) (pthP sd i 4)) := fun w' k' => (unhide HV9).kept ((unhide HKR9).trans ((kp_drew wr).trans k'))
      have HVT3 : Hid (∀ w', Kp [] wr.drew w' → SigV w' (.agg #[.int .i64 i, .slice bp bnp bcp, .slice bq bnq bcq]) i (sgnP sd i d) (pthP sd i 4)) := fun w' k' => (unhide HT9).kept ((unhide HKR9).trans ((kp_drew wr).trans k'))
      have HGL3 : Hid (∀ w', Kp [] wr.drew w' → Gl w') := fun w' k' => (unhide HG).kept ((unhide HK09).trans ((unhide HKR9).trans ((kp_drew wr).trans k'))) (by simp)
      by_cases hz : tn = 0
      · subst hz
        go_wp2_with fail
        refine region_grow Tryd.mixed [Is (.agg #[.int .i64 i, .slice ap np cp, .slice aq nq cq]), Is (.agg #[.int .i64 i, .slice bp bnp bcp, .slice bq bnq bcq]), Is (.bool true), Is (.bool true), Is (.int .u8 0), Is (.bool true), Is (.bool true), Is (undef), Is (undef), Is (undef), Is (undef), Is (undef), Is (undef), Is (undef), Is (.bool true), Is (.bool true), Is (.bool true), Is (.bool true), Is (.bool true), Is (.bool true)] [[(14, none)], [(18, none)], [(141, some 0), (142, some 1)], [(143, some 2)], [(4, none), (144, some 3)], [(145, some 4), (144, some 3)], [(146, some 5), (144, some 3)], [(14, none), (147, some 6)], [(14, none), (147, some 6)], [(3, none), (147, some 6)], [(4, none), (147, some 6)], [(149, some 8), (150, some 9), (151, some 10), (147, some 6)], [(148, some 7), (152, some 11), (147, some 6)], [(153, some 12), (147, some 6)], [(147, some 6), (154, some 13), (144, some 3)], [(144, some 3), (155, some 14)], [(156, some 15)], [(157, some 16)], [(157, some 16), (158, some 17)], [(159, some 18)]] (by kernel_rfl) ?_ ?_ ?_
        · simp only [List.mem_cons, List.not_mem_nil, or_false]
          intro R hR
          rcases hR with rfl | rfl | rfl | rfl | rfl | rfl | rfl | rfl | rfl | rfl | rfl | rfl | rfl | rfl | rfl | rfl | rfl | rfl | rfl | rfl <;> first | exact stable_is _
        · refine steps_cons (fun a w hk hn => ?_) ?_
          · have h14 : a.eval (.tmp 14) = .pointer (some ⟨gs, 0, none⟩) := hn.1
            clear hn
            refine wants_plain rfl ?_
            exact grown_loadsig (.tmp 14) rfl gs _ _ _ _ h14 (unhide HGS3 w hk) rfl
          refine steps_cons (fun a w hk hn => ?_) ?_
          · have h18 : a.eval (.tmp 18) = .pointer (some ⟨gt, 0, none⟩) := hn.1
            clear hn
            refine wants_plain rfl ?_
            exact grown_loadsig (.tmp 18) rfl gt _ _ _ _ h18 (unhide HGT3 w hk) rfl
          refine steps_cons (fun a w hk hn => ?_) ?_
          · have h141 : a.eval (.tmp 141) = .agg #[.int .i64 i, .slice ap np cp, .slice aq nq cq] := hn.1
            have h142 : a.eval (.tmp 142) = .agg #[.int .i64 i, .slice bp bnp bcp, .slice bq bnq bcq] := hn.2.1
            clear hn
            refine wants_plain rfl ?_
            refine grown_call (f := 25) rfl Tryd.func25 (by kernel_rfl) (by kernel_rfl) ?_
            simp only [List.map_toArray, List.map_cons, List.map_nil, h141, h142]
            refine (ssame_any _ _ _ _ _ _ _ _ true (by simp) w (unhide HVS3 w hk) (unhide HVT3 w hk)).mono ?_
            rintro e w' ⟨rfl, K⟩
            exact ⟨_, rfl, K, rfl⟩
          refine steps_cons (fun a w hk hn => ?_) ?_
          · have h143 : a.eval (.tmp 143) = .bool true := hn.1
            clear hn
            refine wants_plain rfl ?_
            exact grown_move (.tmp 143) rfl h143
          refine steps_cons (fun a w hk hn => ?_) ?_
          · have h4 : a.eval (.tmp 4) = .int .u8 0 := hn.1
            have h144 : a.eval (.tmp 144) = .bool true := hn.2.1
            clear hn
            refine wants_guard (d := 144) rfl rfl h144 ?_
            exact grown_move (.tmp 4) rfl h4
          refine steps_cons (fun a w hk hn => ?_) ?_
          · have h145 : a.eval (.tmp 145) = .int .u8 0 := hn.1
            have h144 : a.eval (.tmp 144) = .bool true := hn.2.1
            clear hn
            refine wants_guard (d := 144) rfl rfl h144 ?_
            refine grown_run (v := .bool true) ?_ (Kp.refl _ _) rfl
            obtain ⟨ρ, hρ, hc, hf, hg⟩ := eval_is a
            rw [hρ] at h145 ⊢
            simp [go_sem, hc, h145]
          refine steps_cons (fun a w hk hn => ?_) ?_
          · have h146 : a.eval (.tmp 146) = .bool true := hn.1
            have h144 : a.eval (.tmp 144) = .bool true := hn.2.1
            clear hn
            refine wants_guard (d := 144) rfl rfl h144 ?_
            exact grown_move (.tmp 146) rfl h146
          refine steps_cons (fun a w hk hn => ?_) ?_
          · have h14 : a.eval (.tmp 14) = .pointer (some ⟨gs, 0, none⟩) := hn.1
            have h147 : a.eval (.tmp 147) = .bool true := hn.2.1
            clear hn
            exact wants_not (d := 147) rfl rfl h147 rfl
          refine steps_cons (fun a w hk hn => ?_) ?_
          · have h14 : a.eval (.tmp 14) = .pointer (some ⟨gs, 0, none⟩) := hn.1
            have h147 : a.eval (.tmp 147) = .bool true := hn.2.1
            clear hn
            exact wants_not (d := 147) rfl rfl h147 rfl
          refine steps_cons (fun a w hk hn => ?_) ?_
          · have h3 : a.eval (.tmp 3) = .int .i64 ax := hn.1
            have h147 : a.eval (.tmp 147) = .bool true := hn.2.1
            clear hn
            exact wants_not (d := 147) rfl rfl h147 rfl
          refine steps_cons (fun a w hk hn => ?_) ?_
          · have h4 : a.eval (.tmp 4) = .int .u8 0 := hn.1
            have h147 : a.eval (.tmp 147) = .bool true := hn.2.1
            clear hn
            exact wants_not (d := 147) rfl rfl h147 rfl
          refine steps_cons (fun a w hk hn => ?_) ?_
          · have h149 : a.eval (.tmp 149) = undef := hn.1
            have h150 : a.eval (.tmp 150) = undef := hn.2.1
            have h151 : a.eval (.tmp 151) = undef := hn.2.2.1
            have h147 : a.eval (.tmp 147) = .bool true := hn.2.2.2.1
            clear hn
            exact wants_not (d := 147) rfl rfl h147 rfl
          refine steps_cons (fun a w hk hn => ?_) ?_
          · have h148 : a.eval (.tmp 148) = undef := hn.1
            have h152 : a.eval (.tmp 152) = undef := hn.2.1
            have h147 : a.eval (.tmp 147) = .bool true := hn.2.2.1
            clear hn
            exact wants_not (d := 147) rfl rfl h147 rfl
          refine steps_cons (fun a w hk hn => ?_) ?_
          · have h153 : a.eval (.tmp 153) = undef := hn.1
            have h147 : a.eval (.tmp 147) = .bool true := hn.2.1
            clear hn
            exact wants_not (d := 147) rfl rfl h147 rfl
          refine steps_cons (fun a w hk hn => ?_) ?_
          · have h147 : a.eval (.tmp 147) = .bool true := hn.1
            have h154 : a.eval (.tmp 154) = undef := hn.2.1
            have h144 : a.eval (.tmp 144) = .bool true := hn.2.2.1
            clear hn
            refine wants_guard (d := 144) rfl rfl h144 ?_
            exact grown_pick _ _ _ true rfl h147 rfl
          refine steps_cons (fun a w hk hn => ?_) ?_
          · have h144 : a.eval (.tmp 144) = .bool true := hn.1
            have h155 : a.eval (.tmp 155) = .bool true := hn.2.1
            clear hn
            refine wants_plain rfl ?_
            exact grown_pick _ _ _ true rfl h144 h155
          refine steps_cons (fun a w hk hn => ?_) ?_
          · have h156 : a.eval (.tmp 156) = .bool true := hn.1
            clear hn
            refine wants_plain rfl ?_
            exact grown_move (.tmp 156) rfl h156
          refine steps_cons (fun a w hk hn => ?_) ?_
          · have h157 : a.eval (.tmp 157) = .bool true := hn.1
            clear hn
            refine wants_guard (d := 157) rfl rfl h157 ?_
            refine grown_call (f := 20) rfl Tryd.func20 (by kernel_rfl) (by kernel_rfl) ?_
            simp only [List.map_toArray, List.map_nil]
            refine (sknown_any w (unhide HGL3 w hk)).mono ?_
            rintro e w' ⟨rfl, K⟩
            exact ⟨_, rfl, K, rfl⟩
          refine steps_cons (fun a w hk hn => ?_) ?_
          · have h157 : a.eval (.tmp 157) = .bool true := hn.1
            have h158 : a.eval (.tmp 158) = .bool true := hn.2.1
            clear hn
            refine wants_plain rfl ?_
            exact grown_pick _ _ _ true rfl h157 h158
          refine steps_cons (fun a w hk hn => ?_) ?_
          · have h159 : a.eval (.tmp 159) = .bool true := hn.1
            clear hn
            refine wants_plain rfl ?_
            exact grown_assign (.tmp 159) rfl h159
          exact trivial
        intro W3 hkW3
        rintro _ rfl
        rintro _ rfl
        rintro _ rfl
        rintro _ rfl
        rintro _ rfl
        rintro _ rfl
        rintro _ rfl
        rintro _ rfl
        rintro _ rfl
        rintro _ rfl
        rintro _ rfl
        rintro _ rfl
        rintro _ rfl
        rintro _ rfl
        rintro _ rfl
        rintro _ rfl
        rintro _ rfl
        rintro _ rfl
        rintro _ rfl
        rintro _ rfl
        refine fin_nil ?_
        simp only [Act.put, List.set_cons_zero, List.set_cons_succ, List.setIfInBounds_toArray]
        go_wp2_with fail
        go_ret
        exact ⟨rfl, ((unhide HK09).trans ((unhide HKR9).trans ((kp_drew wr).trans hkW3))).below (Nat.le_refl _) (by simp)⟩
      · have HNZ := hide hz
        clear hz
        go_wp2_with fail
        refine region_grow Tryd.mixed [Is (.agg #[.int .i64 i, .slice ap np cp, .slice aq nq cq]), Is (.agg #[.int .i64 i, .slice bp bnp bcp, .slice bq bnq bcq]), Is (.bool true), Is (.bool true), Is (.int .u8 tn), Is (.bool false), Is (.bool false), Is (.agg #[.int .i64 i, .slice ap np cp, .slice aq nq cq]), Is (.agg #[.int .i64 i, .slice ap np cp, .slice aq nq cq]), Is (.int .i64 ax), Is (.int .u8 tn), OthS (sgnP sd i d), Is (.bool false), Is (.bool true), Is (.bool true), Is (.bool true), Is (.bool true), Is (.bool true), Is (.bool true), Is (.bool true)] [[(14, none)], [(18, none)], [(141, some 0), (142, some 1)], [(143, some 2)], [(4, none), (144, some 3)], [(145, some 4), (144, some 3)], [(146, some 5), (144, some 3)], [(14, none), (147, some 6)], [(14, none), (147, some 6)], [(3, none), (147, some 6)], [(4, none), (147, some 6)], [(149, some 8), (150, some 9), (151, some 10), (147, some 6)], [(148, some 7), (152, some 11), (147, some 6)], [(153, some 12), (147, some 6)], [(147, some 6), (154, some 13), (144, some 3)], [(144, some 3), (155, some 14)], [(156, some 15)], [(157, some 16)], [(157, some 16), (158, some 17)], [(159, some 18)]] (by kernel_rfl) ?_ ?_ ?_
        · simp only [List.mem_cons, List.not_mem_nil, or_false]
          intro R hR
          rcases hR with rfl | rfl | rfl | rfl | rfl | rfl | rfl | rfl | rfl | rfl | rfl | rfl | rfl | rfl | rfl | rfl | rfl | rfl | rfl | rfl <;> first | exact stable_is _ | exact stable_oth _
        · refine steps_cons (fun a w hk hn => ?_) ?_
          · have h14 : a.eval (.tmp 14) = .pointer (some ⟨gs, 0, none⟩) := hn.1
            clear hn
            refine wants_plain rfl ?_
            exact grown_loadsig (.tmp 14) rfl gs _ _ _ _ h14 (unhide HGS3 w hk) rfl
          refine steps_cons (fun a w hk hn => ?_) ?_
          · have h18 : a.eval (.tmp 18) = .pointer (some ⟨gt, 0, none⟩) := hn.1
            clear hn
            refine wants_plain rfl ?_
            exact grown_loadsig (.tmp 18) rfl gt _ _ _ _ h18 (unhide HGT3 w hk) rfl
          refine steps_cons (fun a w hk hn => ?_) ?_
          · have h141 : a.eval (.tmp 141) = .agg #[.int .i64 i, .slice ap np cp, .slice aq nq cq] := hn.1
            have h142 : a.eval (.tmp 142) = .agg #[.int .i64 i, .slice bp bnp bcp, .slice bq bnq bcq] := hn.2.1
            clear hn
            refine wants_plain rfl ?_
            refine grown_call (f := 25) rfl Tryd.func25 (by kernel_rfl) (by kernel_rfl) ?_
            simp only [List.map_toArray, List.map_cons, List.map_nil, h141, h142]
            refine (ssame_any _ _ _ _ _ _ _ _ true (by simp) w (unhide HVS3 w hk) (unhide HVT3 w hk)).mono ?_
            rintro e w' ⟨rfl, K⟩
            exact ⟨_, rfl, K, rfl⟩
          refine steps_cons (fun a w hk hn => ?_) ?_
          · have h143 : a.eval (.tmp 143) = .bool true := hn.1
            clear hn
            refine wants_plain rfl ?_
            exact grown_move (.tmp 143) rfl h143
          refine steps_cons (fun a w hk hn => ?_) ?_
          · have h4 : a.eval (.tmp 4) = .int .u8 tn := hn.1
            have h144 : a.eval (.tmp 144) = .bool true := hn.2.1
            clear hn
            refine wants_guard (d := 144) rfl rfl h144 ?_
            exact grown_move (.tmp 4) rfl h4
          refine steps_cons (fun a w hk hn => ?_) ?_
          · have h145 : a.eval (.tmp 145) = .int .u8 tn := hn.1
            have h144 : a.eval (.tmp 144) = .bool true := hn.2.1
            clear hn
            refine wants_guard (d := 144) rfl rfl h144 ?_
            refine grown_run (v := .bool false) ?_ (Kp.refl _ _) rfl
            obtain ⟨ρ, hρ, hc, hf, hg⟩ := eval_is a
            rw [hρ] at h145 ⊢
            simp [go_sem, hc, h145, unhide HNZ]
          refine steps_cons (fun a w hk hn => ?_) ?_
          · have h146 : a.eval (.tmp 146) = .bool false := hn.1
            have h144 : a.eval (.tmp 144) = .bool true := hn.2.1
            clear hn
            refine wants_guard (d := 144) rfl rfl h144 ?_
            exact grown_move (.tmp 146) rfl h146
          refine steps_cons (fun a w hk hn => ?_) ?_
          · have h14 : a.eval (.tmp 14) = .pointer (some ⟨gs, 0, none⟩) := hn.1
            have h147 : a.eval (.tmp 147) = .bool false := hn.2.1
            clear hn
            refine wants_guard (d := 147) rfl rfl h147 ?_
            exact grown_loadsig (.tmp 14) rfl gs _ _ _ _ h14 (unhide HGS3 w hk) rfl
          refine steps_cons (fun a w hk hn => ?_) ?_
          · have h14 : a.eval (.tmp 14) = .pointer (some ⟨gs, 0, none⟩) := hn.1
            have h147 : a.eval (.tmp 147) = .bool false := hn.2.1
            clear hn
            refine wants_guard (d := 147) rfl rfl h147 ?_
            exact grown_loadsig (.tmp 14) rfl gs _ _ _ _ h14 (unhide HGS3 w hk) rfl
          refine steps_cons (fun a w hk hn => ?_) ?_
          · have h3 : a.eval (.tmp 3) = .int .i64 ax := hn.1
            have h147 : a.eval (.tmp 147) = .bool false := hn.2.1
            clear hn
            refine wants_guard (d := 147) rfl rfl h147 ?_
            exact grown_move (.tmp 3) rfl h3
          refine steps_cons (fun a w hk hn => ?_) ?_
          · have h4 : a.eval (.tmp 4) = .int .u8 tn := hn.1
            have h147 : a.eval (.tmp 147) = .bool false := hn.2.1
            clear hn
            refine wants_guard (d := 147) rfl rfl h147 ?_
            exact grown_move (.tmp 4) rfl h4
          refine steps_cons (fun a w hk hn => ?_) ?_
          · have h149 : a.eval (.tmp 149) = .agg #[.int .i64 i, .slice ap np cp, .slice aq nq cq] := hn.1
            have h150 : a.eval (.tmp 150) = .int .i64 ax := hn.2.1
            have h151 : a.eval (.tmp 151) = .int .u8 tn := hn.2.2.1
            have h147 : a.eval (.tmp 147) = .bool false := hn.2.2.2.1
            clear hn
            refine wants_guard (d := 147) rfl rfl h147 ?_
            refine grown_call (f := 18) rfl Tryd.func18 (by kernel_rfl) (by kernel_rfl) ?_
            simp only [List.map_toArray, List.map_cons, List.map_nil, h149, h150, h151]
            refine (turned_one (unhide HVS3 w hk) (by omega) (unhide HRS) (unhide HAX) (unhide HTN) (unhide HNZ)).mono ?_
            rintro e w' ⟨v', rfl, i', ps', qs', V, hb, K⟩
            exact ⟨_, rfl, K, i', ps', qs', V, hb⟩
          refine steps_cons (fun a w hk hn => ?_) ?_
          · have h148 : a.eval (.tmp 148) = .agg #[.int .i64 i, .slice ap np cp, .slice aq nq cq] := hn.1
            have h152 : (OthS (sgnP sd i d)) (a.eval (.tmp 152)) w := hn.2.1
            have h147 : a.eval (.tmp 147) = .bool false := hn.2.2.1
            clear hn
            refine wants_guard (d := 147) rfl rfl h147 ?_
            refine grown_call (f := 25) rfl Tryd.func25 (by kernel_rfl) (by kernel_rfl) ?_
            simp only [List.map_toArray, List.map_cons, List.map_nil, h148]
            refine (same_oth (unhide HVS3 w hk) h152).mono ?_
            rintro e w' ⟨rfl, K⟩
            exact ⟨_, rfl, K, rfl⟩
          refine steps_cons (fun a w hk hn => ?_) ?_
          · have h153 : a.eval (.tmp 153) = .bool false := hn.1
            have h147 : a.eval (.tmp 147) = .bool false := hn.2.1
            clear hn
            refine wants_guard (d := 147) rfl rfl h147 ?_
            refine grown_run (v := .bool true) ?_ (Kp.refl _ _) rfl
            obtain ⟨ρ, hρ, hc, hf, hg⟩ := eval_is a
            rw [hρ] at h153 ⊢
            simp [go_sem, h153]
          refine steps_cons (fun a w hk hn => ?_) ?_
          · have h147 : a.eval (.tmp 147) = .bool false := hn.1
            have h154 : a.eval (.tmp 154) = .bool true := hn.2.1
            have h144 : a.eval (.tmp 144) = .bool true := hn.2.2.1
            clear hn
            refine wants_guard (d := 144) rfl rfl h144 ?_
            exact grown_pick _ _ _ false rfl h147 h154
          refine steps_cons (fun a w hk hn => ?_) ?_
          · have h144 : a.eval (.tmp 144) = .bool true := hn.1
            have h155 : a.eval (.tmp 155) = .bool true := hn.2.1
            clear hn
            refine wants_plain rfl ?_
            exact grown_pick _ _ _ true rfl h144 h155
          refine steps_cons (fun a w hk hn => ?_) ?_
          · have h156 : a.eval (.tmp 156) = .bool true := hn.1
            clear hn
            refine wants_plain rfl ?_
            exact grown_move (.tmp 156) rfl h156
          refine steps_cons (fun a w hk hn => ?_) ?_
          · have h157 : a.eval (.tmp 157) = .bool true := hn.1
            clear hn
            refine wants_guard (d := 157) rfl rfl h157 ?_
            refine grown_call (f := 20) rfl Tryd.func20 (by kernel_rfl) (by kernel_rfl) ?_
            simp only [List.map_toArray, List.map_nil]
            refine (sknown_any w (unhide HGL3 w hk)).mono ?_
            rintro e w' ⟨rfl, K⟩
            exact ⟨_, rfl, K, rfl⟩
          refine steps_cons (fun a w hk hn => ?_) ?_
          · have h157 : a.eval (.tmp 157) = .bool true := hn.1
            have h158 : a.eval (.tmp 158) = .bool true := hn.2.1
            clear hn
            refine wants_plain rfl ?_
            exact grown_pick _ _ _ true rfl h157 h158
          refine steps_cons (fun a w hk hn => ?_) ?_
          · have h159 : a.eval (.tmp 159) = .bool true := hn.1
            clear hn
            refine wants_plain rfl ?_
            exact grown_assign (.tmp 159) rfl h159
          exact trivial
        intro W3 hkW3
        rintro _ rfl
        rintro _ rfl
        rintro _ rfl
        rintro _ rfl
        rintro _ rfl
        rintro _ rfl
        rintro _ rfl
        rintro _ rfl
        rintro _ rfl
        rintro _ rfl
        rintro _ rfl
        intro v152 h152
        rintro _ rfl
        rintro _ rfl
        rintro _ rfl
        rintro _ rfl
        rintro _ rfl
        rintro _ rfl
        rintro _ rfl
        rintro _ rfl
        refine fin_nil ?_
        simp only [Act.put, List.set_cons_zero, List.set_cons_succ, List.setIfInBounds_toArray]
        go_wp2_with fail
        go_ret
        exact ⟨rfl, ((unhide HK09).trans ((unhide HKR9).trans ((kp_drew wr).trans hkW3))).below (Nat.le_refl _) (by simp)⟩

set_option maxRecDepth 100000 in
theorem lifted (os : Os) (started : os.Started) (H : Type) (enc : TypeId × Value → H) :
    ReturnsInHanded {} Tryd.checked os 6 .any (fun w args => (Rows.signBackSpec.pre enc Tryd.prog Tryd.f6 [] false w args ∧ laidMetH Tryd.prog laid1 w) ∧ sizedMet enc Tryd.prog Tryd.f6 (OpenSpec.ofChange Rows.signBackSpec) false w args) (Rows.signBackSpec.post enc Tryd.prog Tryd.f6 false true false false) := by
  refine returnsInHanded_of_change_and (C := Tryd.checked) (X := fun w _ => laidMetH Tryd.prog laid1 w) (fun _ _ _ hh h => h.of_heap hh) own started (by kernel_rfl) Tryd.func6
    (ChangeSpec.witness_shaped (enc := enc) (C := Tryd.checked) (os := os) (X := fun w _ => laidMetH Tryd.prog laid1 w) false (World.doorLaid Tryd.prog 400 os) #[.int .i64 0, .int .i64 0, .slice none 0 0, .int .i64 0, .int .u8 0, .slice none 0 0] 8 rfl (World.shaped_of_RefB (by kernel_rfl) (by kernel_rfl)) (by kernel_rfl) (by kernel_rfl) (by kernel_rfl) (door_met os _)) ?_
  intro W base args ds gs before hval0 hW hcnd hsz0 hL _
  have hG := gl_of_laid hL
  have hval : ∀ (j : Nat) t v, Tryd.f6.params[j]? = some t → args[j]? = some v → Value.okWide Tryd.prog W .any base t v := hval0
  have hW' := hW
  obtain ⟨p, q, hA0, hV, rfl, hfz, hnd⟩ := hW
  have hA : DataW.TrodAll enc Tryd.prog W 0 (fun _ => true) true Tryd.f6.params.toList args.toList ds p := hA0
  rw [Tryd.params6] at hA hval
  obtain ⟨v0, vs0, d0, ds0, p0, q0, hargs, rfl, rfl, h0, r0⟩ := trodAll_cons hA
  obtain ⟨v1, vs1, d1, ds1, p1, q1, rfl, rfl, rfl, h1, r1⟩ := trodAll_cons r0
  obtain ⟨v2, vs2, d2, ds2, p2, q2, rfl, rfl, rfl, h2, r2⟩ := trodAll_cons r1
  obtain ⟨v3, vs3, d3, ds3, p3, q3, rfl, rfl, rfl, h3, r3⟩ := trodAll_cons r2
  obtain ⟨v4, vs4, d4, ds4, p4, q4, rfl, rfl, rfl, h4, r4⟩ := trodAll_cons r3
  obtain ⟨v5, vs5, d5, ds5, p5, q5, rfl, rfl, rfl, h5, r5⟩ := trodAll_cons r4
  obtain ⟨rfl, rfl, rfl⟩ := trodAll_nil r5
  obtain rfl : args = #[v0, v1, v2, v3, v4, v5] := by cases args; simp_all
  obtain ⟨rfl, rfl⟩ := trodVars_none hV
  obtain ⟨a0, rfl, rfl, rfl, w0⟩ := open_int Tryd.underlying3 (hval 0 3 v0 rfl rfl) h0
  obtain ⟨a1, rfl, rfl, rfl, w1⟩ := open_int Tryd.underlying3 (hval 1 3 v1 rfl rfl) h1
  obtain ⟨a2, len2, cap2, rfl⟩ := okWide_slice Tryd.underlying24 (hval 2 24 v2 rfl rfl)
  have k2 := h2
  have lt2 : ∀ x ∈ p2, x.block < W.heap.size := by obtain ⟨m, hm⟩ := k2; exact DataW.trod_lt m _ _ _ hm
  obtain ⟨l2, s2, b2⟩ : ∃ bs, Sl W (.slice a2 len2 cap2) bs ∧ Bs bs := by
    obtain ⟨fuel, hf⟩ := h2
    exact bytes_of_trod (by simpa [Value.cells] using hf)
  obtain ⟨a3, rfl, rfl, rfl, w3⟩ := open_int Tryd.underlying3 (hval 3 3 v3 rfl rfl) h3
  obtain ⟨a4, rfl, rfl, rfl, w4⟩ := open_int Tryd.underlying5 (hval 4 5 v4 rfl rfl) h4
  obtain ⟨a5, len5, cap5, rfl⟩ := okWide_slice Tryd.underlying24 (hval 5 24 v5 rfl rfl)
  have k5 := h5
  have lt5 : ∀ x ∈ p5, x.block < W.heap.size := by obtain ⟨m, hm⟩ := k5; exact DataW.trod_lt m _ _ _ hm
  obtain ⟨l5, s5, b5⟩ : ∃ bs, Sl W (.slice a5 len5 cap5) bs ∧ Bs bs := by
    obtain ⟨fuel, hf⟩ := h5
    exact bytes_of_trod (by simpa [Value.cells] using hf)
  clear hA0 hval0
  refine (walk a0 a1 (.slice a2 len2 cap2) l2 a3 a4 (.slice a5 len5 cap5) l5 W hG (bounds_i64 w0) (bounds_i64 w1) s2 b2 (bounds_i64 w3) (bounds_u8 w4) s5 b5).mono fun e W' ⟨he, bel⟩ => ?_
  subst he
  exact ⟨_, rfl, _, _, _, [], _, [], hW', trodAll_mk1 (shut_bool Tryd.underlying4 _), (trodAll_cons_mk (shut_int Tryd.underlying3 w0) (trodAll_cons_mk (shut_int Tryd.underlying3 w1) (trodAll_cons_mk (Below.trod laidOut (by kernel_rfl) (of_decide_eq_true (by kernel_rfl)) k2 bel lt2) (trodAll_cons_mk (shut_int Tryd.underlying3 w3) (trodAll_cons_mk (shut_int Tryd.underlying5 w4) (trodAll_cons_mk (Below.trod laidOut (by kernel_rfl) (of_decide_eq_true (by kernel_rfl)) k5 bel lt5) trodAll_mk0)))))), rfl, bel.frame _, fun h => by cases h⟩

theorem over : Rows.signBackRow.holds Tryd.pinned (OpenSpec.ofChange Rows.signBackSpec) :=
  OpenClaim.holds_of_wide 6 Tryd.f6 rfl rfl rfl rfl rfl rfl rfl ⟨rfl, rfl, rfl, rfl, rfl⟩ rfl rfl rfl rfl rfl (by kernel_rfl) Tryd.func6 (by kernel_rfl)
    (of_decide_eq_true (by kernel_rfl)) (by unfold Func.isWrapper; first | (rw [if_pos (by decide +kernel)]; kernel_rfl) | (rw [if_neg (by decide +kernel)]; exact ⟨rfl, rfl⟩))
    (fun os started H enc _ => lifted os started H enc)
end Go.Proofs.YtdioaohejoflcaaDoor.signBack

namespace Go.Proofs.YtdioaohejoflcaaDoor
/-- The given statement: the tied card. -/
theorem SignBack_holds : Rows.SignBackCardSaid :=
  Claim7.holds_tied_plain_at .later [] [.data] true Rows.signBackCard.stood.harness false
    signBack.over (fun _ h => by cases h) (by kernel_rfl) (fun _ h => by cases h) signBack_row_tie rfl ⟨rfl, rfl⟩ (by kernel_rfl) rfl
    (fun f fn hf hfn => by
      obtain rfl : f = 6 := Option.some.inj ((show Tryd.prog.funcNamed "broadsheet/broadsheetlaw5.SignBack" = some 6 by kernel_rfl).symm.trans hf) |>.symm
      obtain rfl : fn = Tryd.f6 := (Option.some.inj (Tryd.func6.symm.trans hfn)).symm
      exact ⟨by kernel_rfl, fun j t ht => by
        rw [Tryd.params6] at ht
        have hm : t ∈ ([3, 3, 24, 3, 5, 24] : List TypeId) := by simpa using Array.mem_of_getElem? ht
        have hall : (([3, 3, 24, 3, 5, 24] : List TypeId).all fun u => !Tryd.prog.wantsStandIn u) = true := by kernel_rfl
        exact (show Tryd.prog.wantsStandIn t = false by simpa using List.all_eq_true.1 hall t hm)⟩)
    (by kernel_rfl)
#print axioms SignBack_holds
end Go.Proofs.YtdioaohejoflcaaDoor
