/-
  The statement CheckTellsCardSaid: for all numbers, checkpoints and bytes the law function CheckTells returns true and leaves its arguments as they were; the table hash.roundWords starts as the program's text lays it (tied). No other condition.
-/
import Derived.Test.YtbkipibmaghejaaGreatDoorKXLawS
import Derived.Test.YtbkipibmaghejaaGreatDoorKXLawR
import Derived.Test.YtbkipibmaghejaaGreatDoorKXLaws
import Derived.Test.YtbkipibmaghejaaGreatDoorKXArg
import Derived.Test.YtbkipibmaghejaaGreatDoorKXSmalls
import Derived.Test.YtbkipibmaghejaaGreatDoorKLReach
import Derived.Test.YtbkipibmaghejaaGreatDoorKXOwn
import Derived.Test.YtbkipibmaghejaaGreatDoorKRGrowX
import Derived.Test.YtbkipibmaghejaaGreatDoorKHSmalls
import Derived.Test.YtbkipibmaghejaaGreatDoorTie
import Derived.Test.YtbkipibmaghejaaGreatDoorCards
import Derived.SevenTiedAt
namespace Go.Proofs.YtbkipibmaghejaaGreatDoor.checkTells
open Go.ChangeShapes Go.WideShapes Go.ChangeAt Go.RowKit
open Go.Proofs.YtbkipibmaghejaaGreatDoor
set_option linter.unusedVariables false

theorem bs_take {bs : List Int} (n : Nat) (h : Bs bs) : Bs (bs.take n) := fun b hb => h b (List.mem_of_mem_take hb)
/-- a pair: a signed checkpoint, and why not. -/
def PrT (s : Sg) (e : Int) : Tell := fun v w => ∃ x, v = .tuple #[x, .int .i64 e] ∧ SgV w x s
theorem stable_prt (s : Sg) (e : Int) : Tell.stable (PrT s e) := fun _ _ _ k ⟨x, h1, h2⟩ => ⟨x, h1, h2.kept k⟩
theorem grown_x0 {o : Oper} {a : Act} {w : World} (x : Operand) (ho : o.op = .extract x 0) (s : Sg) (e : Int) (h : PrT s e (a.eval x) w) : grown Tryz.prog w (SgT s) ((execOp a.eval o).run Tryz.prog w) := by
  obtain ⟨y, h1, h2⟩ := h
  refine grown_run (v := y) ?_ (Kp.refl _ _) h2
  obtain ⟨ρ, hρ, _⟩ := eval_is a
  rw [hρ] at h1 ⊢
  unfold execOp
  simp only [ho]
  simp [go_sem, h1]
theorem grown_x1 {o : Oper} {a : Act} {w : World} (x : Operand) (ho : o.op = .extract x 1) (s : Sg) (e : Int) (h : PrT s e (a.eval x) w) : grown Tryz.prog w (Is (.int .i64 e)) ((execOp a.eval o).run Tryz.prog w) := by
  obtain ⟨y, h1, h2⟩ := h
  refine grown_run (v := .int .i64 e) ?_ (Kp.refl _ _) rfl
  obtain ⟨ρ, hρ, _⟩ := eval_is a
  rw [hρ] at h1 ⊢
  unfold execOp
  simp only [ho]
  simp [go_sem, h1]
/-- a new signed checkpoint's place. -/
def NewS (s0 : Nat) : Tell := fun v w => ∃ g, v = .pointer (some ⟨g, 0, none⟩) ∧ w.heap[g]? = some (.cells #[.int .i64 0, .slice none 0 0, .int .i64 0, .slice none 0 0, .slice none 0 0] 30) ∧ s0 ≤ g
theorem stable_news (s0 : Nat) : Tell.stable (NewS s0) := fun _ _ _ k ⟨g, e, h1, h2⟩ => ⟨g, e, k.heap h1 (by simp), h2⟩
theorem grown_news {o : Oper} {a : Act} {w : World} (s0 : Nat) (hs : s0 ≤ w.heap.size) (ho : o.op = .alloc 30) : grown Tryz.prog w (NewS s0) ((execOp a.eval o).run Tryz.prog w) := by
  refine grown_run (v := .pointer (some ⟨w.heap.size, 0, none⟩)) (w' := w.alloc (.cells #[.int .i64 0, .slice none 0 0, .int .i64 0, .slice none 0 0, .slice none 0 0] 30)) ?_ ((Kp.refl [] w).alloc _) ⟨_, rfl, heap_alloc_new w _, hs⟩
  unfold execOp
  simp only [ho]
  simp [go_sem]
theorem sg0_off {w w' : World} {v : Value} (h : SgV w v sg0) : SgV w' v sg0 := by
  obtain ⟨a, m, c, vp, vq, e, h1, vp', vq', lp, lq, e', k1, k2, k3, k4⟩ := h
  have hp : lp = [] := List.map_eq_nil_iff.1 k2
  have hq : lq = [] := List.map_eq_nil_iff.1 k4
  subst hp
  subst hq
  obtain ⟨ap, cp, rfl, q1, -⟩ := k1
  obtain ⟨aq, cq, rfl, q2, -⟩ := k3
  exact ⟨a, m, c, vp, vq, e, ⟨sl_empty h1.1, h1.2⟩, _, _, [], [], e', ⟨ap, cp, rfl, q1, fun i hi => by cases hi⟩, rfl, ⟨aq, cq, rfl, q2, fun i hi => by cases hi⟩, rfl⟩
def AnyT : Tell := fun _ _ => True
/-- a block that holds a signed checkpoint. -/
def IsSg (w : World) (g : Nat) : Prop := ∃ (x y : Int) (a1 : Option Addr) (n1 c1 : Nat) (a2 : Option Addr) (n2 c2 : Nat) (a3 : Option Addr) (n3 c3 : Nat), w.heap[g]? = some (.cells #[.int .i64 x, .slice a1 n1 c1, .int .i64 y, .slice a2 n2 c2, .slice a3 n3 c3] 30 (0, 0))
/-- nothing old was changed, but for one signed checkpoint from B on. -/
def KN (B : Nat) (w w' : World) : Prop := Kp [] w w' ∨ ∃ g, B ≤ g ∧ IsSg w g ∧ IsSg w' g ∧ Kp [g] w w'
def NewX (B : Nat) : Tell := fun v w => ∃ g, v = .pointer (some ⟨g, 0, none⟩) ∧ IsSg w g ∧ B ≤ g
theorem stableN_any {B : Nat} : Tell.stableG (KN B) AnyT := fun _ _ _ _ h => h
theorem stableN_is {B : Nat} (c : Value) : Tell.stableG (KN B) (Is c) := fun _ _ _ _ h => h
theorem stableN_sl {B : Nat} (bs : List Int) : Tell.stableG (KN B) (SlT bs) := fun v w w' k h => by
  have h0 : Sl w v bs := h
  rcases k with k | ⟨g, _, hs, _, k⟩
  · exact h0.kept k (by simp)
  · obtain ⟨ao, c, rfl, -⟩ := id h0
    obtain ⟨x, y, a1, n1, c1, a2, n2, c2, a3, n3, c3, hg⟩ := hs
    exact Sl.offBy h0 (noBy_sgd hg) k
theorem keepN {B : Nat} {w w' : World} {v : Value} {s : Sg} (hs : s = sg0 ∨ (3 ≤ s.ps.length ∧ 3 ≤ s.qs.length)) (k : KN B w w') (h : SgV w v s) : SgV w' v s := by
  rcases k with k | ⟨g, _, hg, _, k⟩
  · exact h.kept k
  · rcases hs with rfl | hs
    · exact sg0_off h
    · obtain ⟨x, y, a1, n1, c1, a2, n2, c2, a3, n3, c3, hg⟩ := hg
      exact sg_off5 hg k h hs.1 hs.2
theorem stableN_sg {B : Nat} (s : Sg) (hs : s = sg0 ∨ (3 ≤ s.ps.length ∧ 3 ≤ s.qs.length)) : Tell.stableG (KN B) (SgT s) := fun _ _ _ k h => keepN hs k h
theorem stableN_prt {B : Nat} (s : Sg) (e : Int) (hs : s = sg0 ∨ (3 ≤ s.ps.length ∧ 3 ≤ s.qs.length)) : Tell.stableG (KN B) (PrT s e) := fun _ _ _ k ⟨x, h1, h2⟩ => ⟨x, h1, keepN hs k h2⟩
theorem stableN_new {B : Nat} (B' : Nat) : Tell.stableG (KN B) (NewX B') := fun v w w' k ⟨g, e, h1, h2⟩ => by
  rcases k with k | ⟨g', _, hg, hg', k⟩
  · obtain ⟨x, y, a1, n1, c1, a2, n2, c2, a3, n3, c3, h⟩ := h1
    exact ⟨g, e, ⟨x, y, a1, n1, c1, a2, n2, c2, a3, n3, c3, k.heap h (by simp)⟩, h2⟩
  · by_cases hh : g = g'
    · rw [hh] at e h2; exact ⟨g', e, hg', h2⟩
    · obtain ⟨x, y, a1, n1, c1, a2, n2, c2, a3, n3, c3, h⟩ := h1
      exact ⟨g, e, ⟨x, y, a1, n1, c1, a2, n2, c2, a3, n3, c3, k.heap h (by simpa using hh)⟩, h2⟩
theorem grown_newx {o : Oper} {a : Act} {w : World} (s0 : Nat) (hs : s0 ≤ w.heap.size) (ho : o.op = .alloc 30) : grown Tryz.prog w (NewX s0) ((execOp a.eval o).run Tryz.prog w) := by
  refine grown_run (v := .pointer (some ⟨w.heap.size, 0, none⟩)) (w' := w.alloc (.cells #[.int .i64 0, .slice none 0 0, .int .i64 0, .slice none 0 0, .slice none 0 0] 30)) ?_ ((Kp.refl [] w).alloc _) ⟨_, rfl, ⟨0, 0, none, 0, 0, none, 0, 0, none, 0, 0, heap_alloc_new w _⟩, hs⟩
  unfold execOp
  simp only [ho]
  simp [go_sem]
/-- what was stored so far. -/
def GN (w0 : World) (k tp tv : Nat) (listed : Array Bool) (a : Act) (w : World) : Prop :=
  Kp [] w0 w ∧ (listed.getD k false = true → ∃ g cs, a.eval (.tmp tp) = .pointer (some ⟨g, 0, none⟩) ∧ a.eval (.tmp tv) = .agg cs ∧ w.heap[g]? = some (.cells cs 30 (0, 0)))
section
variable {w0 w w' : World} {k tp tv : Nat} {listed : Array Bool} {a : Act}
theorem GN.free (h : GN w0 k tp tv listed a w) (k' : Nat) (hk : k' ≠ k) (d : Tmp) (hd : d = tp ∨ d = tv → listed.getD k false = false) (v : Value) (K : Kp [] w w') : GN w0 k tp tv (listed.setIfInBounds k' true) (a.put (some d) v) w' := by
  refine ⟨h.1.trans K, fun hl => ?_⟩
  rw [getD_set_neM hk] at hl
  obtain ⟨g, cs, e1, e2, hg⟩ := h.2 hl
  have h1 : d ≠ tp := fun e => by rw [hd (.inl e)] at hl; cases hl
  have h2 : d ≠ tv := fun e => by rw [hd (.inr e)] at hl; cases hl
  exact ⟨g, cs, by rw [eval_put_ne h1]; exact e1, by rw [eval_put_ne h2]; exact e2, K.heap hg (by simp)⟩
theorem GN.st {ops : Array Oper} {o : Oper} {s : Sg} (h : GN w0 k tp tv listed a w) (hsz : k < listed.size) (hg : o.guard = none) (ho : o.op = .store 30 (.tmp tp) (.tmp tv)) (hd : o.dst = none) (hp : NewX w0.heap.size (a.eval (.tmp tp)) w) (hu : SgT s (a.eval (.tmp tv)) w) : wantsG (KN w0.heap.size) (GN w0 k tp tv (listed.setIfInBounds k true)) Tryz.prog ops o a w AnyT := by
  obtain ⟨g, e1, hs, hb⟩ := hp
  have hu' : SgV w (a.eval (.tmp tv)) s := hu
  obtain ⟨ar, mr, cr, ap, np, cp, aq, nq, cq, e2, -, -⟩ := hu'.shape
  obtain ⟨x, y, a1, n1, c1, a2, n2, c2, a3, n3, c3, hh⟩ := id hs
  have K := kp_fcells w g [.int .i64 s.n, .slice ar mr cr, .int .i64 s.i, .slice ap np cp, .slice aq nq cq] 0 w (Kp.refl _ _)
  have G' := heap_fcells g _ [.int .i64 s.n, .slice ar mr cr, .int .i64 s.i, .slice ap np cp, .slice aq nq cq] 0 w _ hh
  have hrun := run_storeAt_mid (P := Tryz.prog) w g 0 30 #[.int .i64 s.n, .slice ar mr cr, .int .i64 s.i, .slice ap np cp, .slice aq nq cq] (fun j hj => by
    rw [Nat.zero_add, cell_of_row w g j _ _ _ hh]
    refine ⟨?_, frozen_of_row w g j _ _ hh⟩
    have hj5 : j < 5 := by simpa using hj
    rcases (by omega : j = 0 ∨ j = 1 ∨ j = 2 ∨ j = 3 ∨ j = 4) with rfl | rfl | rfl | rfl | rfl <;> rfl) Tryz.sgdSize (by simp [Value.oneCell'])
  refine wantsG_skipM (w' := w.setCells g 0 [.int .i64 s.n, .slice ar mr cr, .int .i64 s.i, .slice ap np cp, .slice aq nq cq]) hg ?_ ⟨⟨.inr ⟨g, hb, hs, ⟨s.n, s.i, ar, mr, cr, ap, np, cp, aq, nq, cq, G'⟩, K⟩, h.1.then K (fun i hi => .inr (by simp at hi; omega)), fun _ => ⟨g, _, by rw [hd]; exact e1, by rw [hd]; exact e2, G'⟩⟩, trivial⟩
  unfold execOp
  simp only [ho, e1, e2, Sem.run_bind, hrun, Result.andThen_ok, Sem.run_pure]
  exact .inl trivial
end
theorem sgv_ck {w : World} {s : Sg} {n i : Int} {r : List Int} {ar ap aq : Option Addr} {mr cr np cp nq cq : Nat} (hn : n = s.n) (hr : r = s.r) (h : SgV w (.agg #[.int .i64 n, .slice ar mr cr, .int .i64 i, .slice ap np cp, .slice aq nq cq]) s) : CkV w (.agg #[.int .i64 n, .slice ar mr cr]) n r := by
  obtain ⟨a, m, c, vp, vq, e, h1, _⟩ := h
  simp only [Value.agg.injEq, Array.mk.injEq, List.cons.injEq] at e
  obtain ⟨e0, e1, -⟩ := e
  rw [hr]
  exact ⟨a, m, c, by rw [e1], h1.1, h1.2⟩
theorem sgv_mix {w : World} {s : Sg} {n i nc : Int} {tc : List Int} {ar ap aq ac : Option Addr} {mr cr np cp nq cq kc cc : Nat} (hi : i = s.i) (h : SgV w (.agg #[.int .i64 n, .slice ar mr cr, .int .i64 i, .slice ap np cp, .slice aq nq cq]) s) (hc : CkV w (.agg #[.int .i64 nc, .slice ac kc cc]) nc tc) : SgV w (.agg #[.int .i64 nc, .slice ac kc cc, .int .i64 i, .slice ap np cp, .slice aq nq cq]) ⟨nc, tc, i, s.ps, s.qs⟩ := by
  obtain ⟨a, m, c, vp, vq, e, _, h2⟩ := h
  simp only [Value.agg.injEq, Array.mk.injEq, List.cons.injEq] at e
  obtain ⟨-, -, -, e3, e4, -⟩ := e
  obtain ⟨a', m', c', e', h3, h4⟩ := hc
  simp only [Value.agg.injEq, Array.mk.injEq, List.cons.injEq, and_true, true_and] at e'
  rw [e3, e4, e', hi]
  exact ⟨a', m', c', vp, vq, rfl, ⟨h3, h4⟩, h2⟩

set_option maxRecDepth 100000 in
set_option maxHeartbeats 8000000 in
theorem walk (xn xi xs xr : Int) (vc : Value) (nc : Int) (rc : List Int) (vb : Value) (bs : List Int) (w : World) (hG : Gl w) (hn : -9223372036854775808 ≤ xn ∧ xn ≤ 9223372036854775807) (hi : -9223372036854775808 ≤ xi ∧ xi ≤ 9223372036854775807) (hs : -9223372036854775808 ≤ xs ∧ xs ≤ 9223372036854775807) (hr : -9223372036854775808 ≤ xr ∧ xr ≤ 9223372036854775807) (hC : CkV w vc nc rc) (hCz : -9223372036854775808 ≤ nc ∧ nc ≤ 9223372036854775807) (hS : Sl w vb bs) (hB : Bs bs) (hl : bs.length ≤ 140737488351232) (hbo : ∀ k, vb.ownBlock = some k → k < w.heap.size) :
    Calls Tryz.prog 4 #[.int .i64 xn, .int .i64 xi, .int .i64 xs, .int .i64 xr, vc, vb] w fun e w' => e = .returned (.bool true) ∧ Below w.heap.size w w' := by
  have HG := hide hG
  have HS0 := hide (fun w' (k : Kp [] w w') => hS.kept k (by simp))
  have HB := hide hB
  have HBL := hide hl
  have HBO := hide hbo
  obtain ⟨ab, cb, hvb, -⟩ := id hS
  obtain ⟨nb, hnb⟩ : ∃ k, k = bs.length := ⟨_, rfl⟩
  rw [← hnb] at hvb
  subst hvb
  obtain ⟨ac, mc, cc, rfl, hSc, hBc⟩ := hC
  obtain ⟨g10, hg10⟩ : ∃ g, g = w.heap.size := ⟨_, rfl⟩
  obtain ⟨w1, hw1⟩ : ∃ w1, w1 = w.alloc (.cells #[.int .i64 nc, .slice ac mc cc] 25) := ⟨_, rfl⟩
  have K1 : Kp [] w w1 := by rw [hw1]; exact (Kp.refl [] w).alloc _
  have G1 : w1.heap[g10]? = some (.cells #[.int .i64 nc, .slice ac mc cc] 25 (0, 0)) := by rw [hw1, hg10]; exact heap_alloc_new w _
  obtain ⟨kc, hkc⟩ : ∃ k, k = min mc 40 := ⟨_, rfl⟩
  have hCu := cut_val ac mc cc 40 rc w1 (hSc.kept K1 (by simp))
  rw [← hkc] at hCu
  have HCu := hide hCu
  have x1 : w1.cell? ⟨g10, 1, none⟩ = some (.slice ac mc cc) := by rw [cell_of_row w1 g10 1 _ _ _ G1]; rfl
  have z1 : w1.frozen? ⟨g10, 1, none⟩ = false := frozen_of_row w1 g10 1 _ _ G1
  obtain ⟨w2, hw2⟩ : ∃ w2, w2 = w1.setCell ⟨g10, 1, none⟩ (.slice ac kc cc) := ⟨_, rfl⟩
  have K2 : Kp [] w w2 := by rw [hw2]; exact K1.then (kp_fcell w1 g10 1 _) (fun i hi => .inr (by simp at hi; omega))
  have HG2 : Hid (w2.heap[g10]? = some (.cells #[.int .i64 nc, .slice ac kc cc] 25 (0, 0))) := hide (by rw [hw2]; simpa using heap_setCell_same w1 g10 1 _ _ (.slice ac kc cc) G1)
  obtain ⟨tc, htc⟩ : ∃ t, t = rc.take 40 := ⟨_, rfl⟩
  have HC0 : Hid (∀ w', Kp [] w w' → CkV w' (.agg #[.int .i64 nc, .slice ac kc cc]) nc tc) := fun w' k' => ⟨ac, kc, cc, rfl, by rw [htc, hkc]; exact cut_sl 40 (hSc.kept k' (by simp)), by rw [htc]; exact bs_take 40 hBc⟩
  obtain ⟨s, hsg⟩ : ∃ s, s = sgdX xn xi xs xr := ⟨_, rfl⟩
  obtain ⟨j, hj⟩ : ∃ j, j = (wiP xi 0 15).toNat := ⟨_, rfl⟩
  obtain ⟨n, hn'⟩ : ∃ n, n = s.n := ⟨_, rfl⟩
  obtain ⟨r, hr'⟩ : ∃ r, r = s.r := ⟨_, rfl⟩
  obtain ⟨i, hi'⟩ : ∃ i, i = s.i := ⟨_, rfl⟩
  have hse : s = sgnC (seedX xn) j n r := by rw [hn', hr', hj, hsg]; rfl
  have HSE := hide hse
  have HJ : Hid (j < 16) := hide (by rw [hj]; exact sgdX_i xi)
  have HIE : Hid (wiP xi 0 15 = (j : Int)) := hide (by rw [hj]; have h := wiP_ge xi 0 15 (by omega); omega)
  have HRC : Hid (rgtC n r = true) := hide (by rw [hn', hr', hsg]; exact sgdX_c xn xi xs xr)
  have HSI : Hid (-9223372036854775808 ≤ s.i ∧ s.i ≤ 9223372036854775807) := hide (by rw [hse]; show _ ≤ (j : Int) ∧ (j : Int) ≤ _; have := unhide HJ; omega)
  have HSI2 : Hid (-9223372036854775808 ≤ (Sg.mk nc tc i s.ps s.qs).i ∧ (Sg.mk nc tc i s.ps s.qs).i ≤ 9223372036854775807) := hide (by show _ ≤ i ∧ i ≤ _; rw [hi']; exact unhide HSI)
  have HNS := hide hn'
  have HRS := hide hr'
  have HIS := hide hi'
  have hCs := lsigned_any xn xi xs xr w2
  rw [← hsg] at hCs
  obtain ⟨tp, htp⟩ : ∃ t, t = topP (seedX xn) := ⟨_, rfl⟩
  rw [← htp] at hCs
  have HTB : Hid (Bs tp) := hide (by rw [htp]; exact (topP_ok _).2)
  have HCs := hide hCs
  obtain ⟨q, hq⟩ : ∃ q, q = rgtC nc tc := ⟨_, rfl⟩
  have HQ := hide hq
  obtain ⟨bb, hbb⟩ : ∃ b, b = decide (n = nc ∧ r = tc) := ⟨_, rfl⟩
  have HBBe := hide hbb
  have HK2 := hide K2
  have HW1 := hide hw1
  have HW2 := hide hw2
  have H10 := hide hg10
  clear hG hn hi hs hr hCz hS hB hl hbo hnb hSc hBc hg10 hw1 K1 G1 hkc hCu hw2 K2 htc hsg hj hn' hr' hi' hse hCs htp hq hbb
  go_enter Tryz.func4, Tryz.ntmps4
  go_wp2_with fail
  rw [← unhide HW1, ← unhide H10]
  refine (unhide HCu).mono ?_
  rintro ee wz ⟨rfl, hwz⟩
  subst wz
  clear HCu
  go_wp2_with fail
  rw [← unhide HW2]
  refine (unhide HCs).mono ?_
  rintro ee w3' ⟨v1, at', mt, ct, rfl, V1, T1, K3⟩
  have hV1 := V1.v
  obtain ⟨a1, m1, c1, ap1, np1, cp1, aq1, nq1, cq1, rfl, -, -⟩ := hV1.shape
  rw [← unhide HNS, ← unhide HIS] at hV1 ⊢
  have HV1 := hide hV1
  have HT1 := hide T1
  have HK3' := hide ((unhide HK2).trans K3)
  have HG3' := hide (K3.heap (unhide HG2) (by simp))
  have Ga := heap_alloc_new w3' (.cells #[.int .i64 0, .slice none 0 0, .int .i64 0, .slice none 0 0, .slice none 0 0] 30)
  have HKa : Hid (Kp [] w3' (w3'.alloc (.cells #[.int .i64 0, .slice none 0 0, .int .i64 0, .slice none 0 0, .slice none 0 0] 30))) := (Kp.refl [] w3').alloc _
  clear HCs V1 T1 K3 hV1 HG2 HK2 x1 z1 HW1 HW2
  go_wp2_with (refine wpList_store_flat rfl 30 (.tmp 13) (.tmp 30) rfl w3'.heap.size 0 rfl _ _ [.int .i64 n, .slice a1 m1 c1, .int .i64 i, .slice ap1 np1 cp1, .slice aq1 nq1 cq1] Ga rfl (by simp) Tryz.sgdSize (by simp [Value.oneCell']) #[.int .i64 n, .slice a1 m1 c1, .int .i64 i, .slice ap1 np1 cp1, .slice aq1 nq1 cq1] rfl ?_; intro w3 G3 K3; refine Hid.out ?_)
  obtain ⟨g13, hg13⟩ : ∃ g, g = w3'.heap.size := ⟨_, rfl⟩
  have K33 : Kp [] w3' w3 := (unhide HKa).then K3 (fun i hi => .inr (by simp at hi; omega))
  rw [← hg13] at G3 ⊢
  clear hg13
  have HV3 := hide ((unhide HV1).kept K33)
  have HT3 := hide ((unhide HT1).kept K33 (by simp))
  have HK3 := hide ((unhide HK3').trans K33)
  have HG103 := hide (K33.heap (unhide HG3') (by simp))
  have HG133 := hide G3
  have HD3 : Hid (∀ w', Kp [] w3.drew w' → Kp [] w3 w') := fun w' k' => (kp_drew w3).trans k'
  have HS13 : Hid (∀ w', Kp [] w3.drew w' → w'.heap[g13]? = some (.cells #[.int .i64 n, .slice a1 m1 c1, .int .i64 i, .slice ap1 np1 cp1, .slice aq1 nq1 cq1] 30 (0, 0))) := fun w' k' => (unhide HD3 w' k').heap (unhide HG133) (by simp)
  have HCK : Hid (∀ w', Kp [] w3.drew w' → CkV w' (.agg #[.int .i64 n, .slice a1 m1 c1]) n r) := fun w' k' => sgv_ck (unhide HNS) (unhide HRS) ((unhide HV3).kept (unhide HD3 w' k'))
  have HGW : Hid (∀ w', Kp [] w3.drew w' → Gl w') := fun w' k' => (unhide HG).kept ((unhide HK3).trans (unhide HD3 w' k')) (by simp)
  clear Ga HKa G3 K3 K33 HV1 HT1 HK3' HG3'
  refine hide ?_
  go_wp2_with fail
  refine region_growL (K := KN w3.drew.heap.size) (G := GN w3.drew 11 15 40) Tryz.mixed [Is (.int .i64 xn), SlT (seedX xn), Is (.int .i64 xi), Is (.int .i64 (j : Int)), Is (.pointer (some ⟨g13, 0, none⟩)), Is (.agg #[.int .i64 n, .slice a1 m1 c1]), PrT (sgnC (seedX xn) j n r) 0, PrT (sgnC (seedX xn) j n r) 0, SgT (sgnC (seedX xn) j n r), Is (.int .i64 0), NewX w3.drew.heap.size, AnyT, Is (.int .i64 0)] [[(0, none)], [(33, some 0)], [(1, none)], [(35, some 2)], [(13, none)], [(37, some 4)], [(34, some 1), (36, some 3), (38, some 5)], [(39, some 6)], [(32, some 7)], [(32, some 7)], [], [(15, some 10), (40, some 8)], [(41, some 9)]] (by kernel_rfl) ?_ ?_ ?_ ?_ ?_
  · intro k R hR hd w'
    have hk : k < 13 := by have := (List.getElem?_eq_some_iff.1 hR).1; simpa using this
    rcases (by omega : k = 0 ∨ k = 1 ∨ k = 2 ∨ k = 3 ∨ k = 4 ∨ k = 5 ∨ k = 6 ∨ k = 7 ∨ k = 8 ∨ k = 9 ∨ k = 10 ∨ k = 11 ∨ k = 12) with rfl | rfl | rfl | rfl | rfl | rfl | rfl | rfl | rfl | rfl | rfl | rfl | rfl <;> first | (cases hR; exact trivial) | cases hd
  · simp only [List.mem_cons, List.not_mem_nil, or_false]
    intro R hR
    rcases hR with rfl | rfl | rfl | rfl | rfl | rfl | rfl | rfl | rfl | rfl | rfl | rfl | rfl <;> first | exact stableN_is _ | exact stableN_sl _ | exact stableN_any | exact stableN_new _ | exact stableN_sg _ (.inr ⟨by show 3 ≤ (sgnP _ _ _).length; rw [sgnP, ptsP_len]; omega, by show 3 ≤ (pthP _ _ _).length; rw [pthP_len]; omega⟩) | exact stableN_prt _ _ (.inr ⟨by show 3 ≤ (sgnP _ _ _).length; rw [sgnP, ptsP_len]; omega, by show 3 ≤ (pthP _ _ _).length; rw [pthP_len]; omega⟩)
  · exact ⟨Kp.refl _ _, fun h => by simp at h⟩
  · refine steps_consL (fun listed a w hnot hdep hcl hsz hg hn => ?_) ?_
    · have h0 : a.eval (.tmp 0) = .int .i64 xn := hn.1
      clear hn
      have hk := hg.1
      refine wantsG_of1M (fun _ k => .inl k) (fun v w' k => hg.free 0 (by decide) 33 (fun h => absurd h (by decide)) v k) ?_
      refine wants_plain rfl ?_
      exact grown_move (.tmp 0) rfl h0
    refine steps_consL (fun listed a w hnot hdep hcl hsz hg hn => ?_) ?_
    · have h33 : a.eval (.tmp 33) = .int .i64 xn := hn.1
      clear hn
      have hk := hg.1
      refine wantsG_of1M (fun _ k => .inl k) (fun v w' k => hg.free 1 (by decide) 34 (fun h => absurd h (by decide)) v k) ?_
      refine wants_plain rfl ?_
      refine grown_call (f := 11) rfl Tryz.func11 (by kernel_rfl) (by kernel_rfl) ?_
      simp only [List.map_toArray, List.map_cons, List.map_nil, h33]
      refine (xseed_any xn w).mono ?_
      rintro e w' ⟨ao, m, c, rfl, R, K⟩
      exact ⟨_, rfl, K, R.sl⟩
    refine steps_consL (fun listed a w hnot hdep hcl hsz hg hn => ?_) ?_
    · have h1 : a.eval (.tmp 1) = .int .i64 xi := hn.1
      clear hn
      have hk := hg.1
      refine wantsG_of1M (fun _ k => .inl k) (fun v w' k => hg.free 2 (by decide) 35 (fun h => absurd h (by decide)) v k) ?_
      refine wants_plain rfl ?_
      exact grown_move (.tmp 1) rfl h1
    refine steps_consL (fun listed a w hnot hdep hcl hsz hg hn => ?_) ?_
    · have h35 : a.eval (.tmp 35) = .int .i64 xi := hn.1
      clear hn
      have hk := hg.1
      refine wantsG_of1M (fun _ k => .inl k) (fun v w' k => hg.free 3 (by decide) 36 (fun h => absurd h (by decide)) v k) ?_
      refine wants_plain rfl ?_
      refine grown_call (f := 14) rfl Tryz.func14 (by kernel_rfl) (by kernel_rfl) ?_
      simp only [List.map_toArray, List.map_cons, List.map_nil, h35]
      refine (within_wi xi 0 15 w (by omega) (by omega) (by omega)).mono ?_
      rintro e w' ⟨rfl, rfl⟩
      exact ⟨_, rfl, Kp.refl _ _, congrArg (Value.int .i64) (unhide HIE)⟩
    refine steps_consL (fun listed a w hnot hdep hcl hsz hg hn => ?_) ?_
    · have h13 : a.eval (.tmp 13) = .pointer (some ⟨g13, 0, none⟩) := hn.1
      clear hn
      have hk := hg.1
      refine wantsG_of1M (fun _ k => .inl k) (fun v w' k => hg.free 4 (by decide) 37 (fun h => absurd h (by decide)) v k) ?_
      refine wants_plain rfl ?_
      refine grown_run (v := .pointer (some ⟨g13, 0, none⟩)) ?_ (Kp.refl _ _) rfl
      obtain ⟨ρ, hρ, hc, hf, hg⟩ := eval_is a
      rw [hρ] at h13 ⊢
      simp [go_sem, h13]
    refine steps_consL (fun listed a w hnot hdep hcl hsz hg hn => ?_) ?_
    · have h37 : a.eval (.tmp 37) = .pointer (some ⟨g13, 0, none⟩) := hn.1
      clear hn
      have hk := hg.1
      refine wantsG_of1M (fun _ k => .inl k) (fun v w' k => hg.free 5 (by decide) 38 (fun h => absurd h (by decide)) v k) ?_
      refine wants_plain rfl ?_
      exact grown_loadf 25 (.tmp 37) rfl g13 0 h37 _ _ _ _ (unhide HS13 w hk) [.int .i64 n, .slice a1 m1 c1] (flat_in rfl) Tryz.underlying25 rfl Tryz.chkSize rfl
    refine steps_consL (fun listed a w hnot hdep hcl hsz hg hn => ?_) ?_
    · have h34 : Sl w (a.eval (.tmp 34)) (seedX xn) := hn.1
      have h36 : a.eval (.tmp 36) = .int .i64 (j : Int) := hn.2.1
      have h38 : a.eval (.tmp 38) = .agg #[.int .i64 n, .slice a1 m1 c1] := hn.2.2.1
      clear hn
      have hk := hg.1
      refine wantsG_of1M (fun _ k => .inl k) (fun v w' k => hg.free 6 (by decide) 39 (fun h => absurd h (by decide)) v k) ?_
      refine wants_plain rfl ?_
      refine grown_call (f := 10) rfl Tryz.func10 (by kernel_rfl) (by kernel_rfl) ?_
      simp only [List.map_toArray, List.map_cons, List.map_nil, h36, h38]
      refine (cksign_ok _ (seedX xn) j _ n r w h34 (seedX_bs xn) (seedX_len xn) (unhide HJ) (unhide HCK w hk) (unhide HRC) (unhide HGW w hk)).mono ?_
      rintro e w' ⟨v, rfl, V, K⟩
      exact ⟨_, rfl, K, ⟨_, rfl, V⟩⟩
    refine steps_consL (fun listed a w hnot hdep hcl hsz hg hn => ?_) ?_
    · have h39 : (PrT (sgnC (seedX xn) j n r) 0) (a.eval (.tmp 39)) w := hn.1
      clear hn
      have hk := hg.1
      refine wantsG_of1M (fun _ k => .inl k) (fun v w' k => hg.free 7 (by decide) 32 (fun h => absurd h (by decide)) v k) ?_
      refine wants_plain rfl ?_
      exact grown_move (.tmp 39) rfl h39
    refine steps_consL (fun listed a w hnot hdep hcl hsz hg hn => ?_) ?_
    · have h32 : (PrT (sgnC (seedX xn) j n r) 0) (a.eval (.tmp 32)) w := hn.1
      clear hn
      have hk := hg.1
      refine wantsG_of1M (fun _ k => .inl k) (fun v w' k => hg.free 8 (by decide) 40 (fun _ => lstM hcl 11 8 rfl (by decide) hnot) v k) ?_
      refine wants_plain rfl ?_
      exact grown_x0 (.tmp 32) rfl _ _ h32
    refine steps_consL (fun listed a w hnot hdep hcl hsz hg hn => ?_) ?_
    · have h32 : (PrT (sgnC (seedX xn) j n r) 0) (a.eval (.tmp 32)) w := hn.1
      clear hn
      have hk := hg.1
      refine wantsG_of1M (fun _ k => .inl k) (fun v w' k => hg.free 9 (by decide) 41 (fun h => absurd h (by decide)) v k) ?_
      refine wants_plain rfl ?_
      exact grown_x1 (.tmp 32) rfl _ _ h32
    refine steps_consL (fun listed a w hnot hdep hcl hsz hg hn => ?_) ?_
    · clear hn
      have hk := hg.1
      refine wantsG_of1M (fun _ k => .inl k) (fun v w' k => hg.free 10 (by decide) 15 (fun _ => lstM hcl 11 10 rfl (by decide) hnot) v k) ?_
      refine wants_plain rfl ?_
      exact grown_newx _ hk.size rfl
    refine steps_consL (fun listed a w hnot hdep hcl hsz hg hn => ?_) ?_
    · have h15 : (NewX w3.drew.heap.size) (a.eval (.tmp 15)) w := hn.1
      have h40 : (SgT (sgnC (seedX xn) j n r)) (a.eval (.tmp 40)) w := hn.2.1
      clear hn
      exact hg.st hsz rfl rfl rfl h15 h40
    refine steps_consL (fun listed a w hnot hdep hcl hsz hg hn => ?_) ?_
    · have h41 : a.eval (.tmp 41) = .int .i64 0 := hn.1
      clear hn
      have hk := hg.1
      refine wantsG_of1M (fun _ k => .inl k) (fun v w' k => hg.free 12 (by decide) 16 (fun h => absurd h (by decide)) v k) ?_
      refine wants_plain rfl ?_
      exact grown_assign (.tmp 41) rfl h41
    exact trivial
  intro W1
  rintro _ rfl
  intro v34 h34
  rintro _ rfl
  rintro _ rfl
  rintro _ rfl
  rintro _ rfl
  intro v39 h39
  intro v32 h32
  intro v40 h40
  rintro _ rfl
  intro v15 h15
  intro _ _
  rintro _ rfl
  refine fin_nil ?_
  intro listed hall hgg
  obtain ⟨hkW1, hst⟩ := hgg
  obtain ⟨gst, cst, est, evt, Gst⟩ := hst (hall 11 (by decide))
  simp only [Act.put, List.set_cons_zero, List.set_cons_succ, List.setIfInBounds_toArray] at est evt ⊢
  obtain ⟨g15, rfl, -, hbn⟩ := h15
  have hV40 : SgV W1 v40 (sgnC (seedX xn) j n r) := h40
  rw [← unhide HSE] at hV40
  obtain ⟨a2, m2, c2, ap2, np2, cp2, aq2, nq2, cq2, rfl, -, -⟩ := hV40.shape
  rw [← unhide HNS, ← unhide HIS] at hV40 evt ⊢
  have HV40 := hide hV40
  have K31 := unhide HD3 W1 hkW1
  obtain ⟨w4, hw4⟩ : ∃ w4, w4 = W1 := ⟨_, rfl⟩
  have K34 : Kp [] w3 w4 := by rw [hw4]; exact K31
  have hV4 : SgV w4 (.agg #[.int .i64 n, .slice a2 m2 c2, .int .i64 i, .slice ap2 np2 cp2, .slice aq2 nq2 cq2]) s := by rw [hw4]; exact unhide HV40
  have eg : gst = g15 := by
    have h := est
    simp [Act.eval] at h
    exact h.symm
  have ec : cst = #[.int .i64 n, .slice a2 m2 c2, .int .i64 i, .slice ap2 np2 cp2, .slice aq2 nq2 cq2] := by
    have h := evt
    simp [Act.eval] at h
    exact h.symm
  rw [eg, ec] at Gst
  have G4 : w4.heap[g15]? = some (.cells #[.int .i64 n, .slice a2 m2 c2, .int .i64 i, .slice ap2 np2 cp2, .slice aq2 nq2 cq2] 30 (0, 0)) := by rw [hw4]; exact Gst
  rw [← hw4]
  clear h34 h39 h32 h40 hV40 hkW1 hbn est evt Gst eg ec hall hst hw4
  have hG134 := K34.heap (unhide HG133) (by simp)
  have x0 : w4.cell? ⟨g15, 0, none⟩ = some (.int .i64 n) := by rw [cell_of_row _ g15 0 _ _ _ (G4)]; rfl
  have x1 : w4.cell? ⟨g15, 1, none⟩ = some (.slice a2 m2 c2) := by rw [cell_of_row _ g15 1 _ _ _ (G4)]; rfl
  have x2 : w4.cell? ⟨g15, 2, none⟩ = some (.int .i64 i) := by rw [cell_of_row _ g15 2 _ _ _ (G4)]; rfl
  have x3 : w4.cell? ⟨g15, 3, none⟩ = some (.slice ap2 np2 cp2) := by rw [cell_of_row _ g15 3 _ _ _ (G4)]; rfl
  have x4 : w4.cell? ⟨g15, 4, none⟩ = some (.slice aq2 nq2 cq2) := by rw [cell_of_row _ g15 4 _ _ _ (G4)]; rfl
  have y0 : w4.cell? ⟨g13, 0, none⟩ = some (.int .i64 n) := by rw [cell_of_row _ g13 0 _ _ _ (hG134)]; rfl
  have y1 : w4.cell? ⟨g13, 1, none⟩ = some (.slice a1 m1 c1) := by rw [cell_of_row _ g13 1 _ _ _ (hG134)]; rfl
  have y2 : w4.cell? ⟨g13, 2, none⟩ = some (.int .i64 i) := by rw [cell_of_row _ g13 2 _ _ _ (hG134)]; rfl
  have y3 : w4.cell? ⟨g13, 3, none⟩ = some (.slice ap1 np1 cp1) := by rw [cell_of_row _ g13 3 _ _ _ (hG134)]; rfl
  have y4 : w4.cell? ⟨g13, 4, none⟩ = some (.slice aq1 nq1 cq1) := by rw [cell_of_row _ g13 4 _ _ _ (hG134)]; rfl
  have HE4 := hide (lequal_any _ _ s w4 hV4 ((unhide HV3).kept K34))
  have HK34 := hide K34
  clear K31 G4 K34 hV4 HV40 hG134 HD3 HS13 HCK HGW
  go_wp2_with fail
  refine (unhide HE4).mono ?_
  rintro ee w5 ⟨rfl, K5⟩
  have K35 := (unhide HK34).trans K5
  have HK5 := hide ((unhide HK3).trans K35)
  have HG105 := hide (K35.heap (unhide HG103) (by simp))
  have HG135 := hide (K35.heap (unhide HG133) (by simp))
  have HV135 := hide ((unhide HV3).kept K35)
  have HT5 := hide ((unhide HT3).kept K35 (by simp))
  have HD5 : Hid (∀ w', Kp [] w5.drew w' → Kp [] w5 w') := fun w' k' => (kp_drew w5).trans k'
  have HS10 : Hid (∀ w', Kp [] w5.drew w' → w'.heap[g10]? = some (.cells #[.int .i64 nc, .slice ac kc cc] 25 (0, 0))) := fun w' k' => (unhide HD5 w' k').heap (unhide HG105) (by simp)
  have HCC : Hid (∀ w', Kp [] w5.drew w' → CkV w' (.agg #[.int .i64 nc, .slice ac kc cc]) nc tc) := fun w' k' => unhide HC0 w' ((unhide HK5).trans (unhide HD5 w' k'))
  have HGW5 : Hid (∀ w', Kp [] w5.drew w' → Gl w') := fun w' k' => (unhide HG).kept ((unhide HK5).trans (unhide HD5 w' k')) (by simp)
  clear HE4 K5 K35 HK34 HV3 HT3 HK3 HG103 HG133 x0 x1 x2 x3 x4 y0 y1 y2 y3 y4
  cases q
  · go_wp2_with fail
    refine region_growL (K := KN w5.drew.heap.size) (G := GN w5.drew 10 17 57) Tryz.mixed [Is (.int .i64 xn), SlT (seedX xn), Is (.int .i64 xi), Is (.int .i64 (j : Int)), Is (.agg #[.int .i64 nc, .slice ac kc cc]), PrT (sg0) 12, PrT (sg0) 12, SgT (sg0), Is (.int .i64 12), NewX w5.drew.heap.size, AnyT, Is (.int .i64 12)] [[(0, none)], [(51, some 0)], [(1, none)], [(53, some 2)], [(10, none)], [(52, some 1), (54, some 3), (55, some 4)], [(56, some 5)], [(50, some 6)], [(50, some 6)], [], [(17, some 9), (57, some 7)], [(58, some 8)]] (by kernel_rfl) ?_ ?_ ?_ ?_ ?_
    · intro k R hR hd w'
      have hk : k < 12 := by have := (List.getElem?_eq_some_iff.1 hR).1; simpa using this
      rcases (by omega : k = 0 ∨ k = 1 ∨ k = 2 ∨ k = 3 ∨ k = 4 ∨ k = 5 ∨ k = 6 ∨ k = 7 ∨ k = 8 ∨ k = 9 ∨ k = 10 ∨ k = 11) with rfl | rfl | rfl | rfl | rfl | rfl | rfl | rfl | rfl | rfl | rfl | rfl <;> first | (cases hR; exact trivial) | cases hd
    · simp only [List.mem_cons, List.not_mem_nil, or_false]
      intro R hR
      rcases hR with rfl | rfl | rfl | rfl | rfl | rfl | rfl | rfl | rfl | rfl | rfl | rfl <;> first | exact stableN_is _ | exact stableN_sl _ | exact stableN_any | exact stableN_new _ | exact stableN_sg _ (.inl rfl) | exact stableN_prt _ _ (.inl rfl)
    · exact ⟨Kp.refl _ _, fun h => by simp at h⟩
    · refine steps_consL (fun listed a w hnot hdep hcl hsz hg hn => ?_) ?_
      · have h0 : a.eval (.tmp 0) = .int .i64 xn := hn.1
        clear hn
        have hk := hg.1
        refine wantsG_of1M (fun _ k => .inl k) (fun v w' k => hg.free 0 (by decide) 51 (fun h => absurd h (by decide)) v k) ?_
        refine wants_plain rfl ?_
        exact grown_move (.tmp 0) rfl h0
      refine steps_consL (fun listed a w hnot hdep hcl hsz hg hn => ?_) ?_
      · have h51 : a.eval (.tmp 51) = .int .i64 xn := hn.1
        clear hn
        have hk := hg.1
        refine wantsG_of1M (fun _ k => .inl k) (fun v w' k => hg.free 1 (by decide) 52 (fun h => absurd h (by decide)) v k) ?_
        refine wants_plain rfl ?_
        refine grown_call (f := 11) rfl Tryz.func11 (by kernel_rfl) (by kernel_rfl) ?_
        simp only [List.map_toArray, List.map_cons, List.map_nil, h51]
        refine (xseed_any xn w).mono ?_
        rintro e w' ⟨ao, m, c, rfl, R, K⟩
        exact ⟨_, rfl, K, R.sl⟩
      refine steps_consL (fun listed a w hnot hdep hcl hsz hg hn => ?_) ?_
      · have h1 : a.eval (.tmp 1) = .int .i64 xi := hn.1
        clear hn
        have hk := hg.1
        refine wantsG_of1M (fun _ k => .inl k) (fun v w' k => hg.free 2 (by decide) 53 (fun h => absurd h (by decide)) v k) ?_
        refine wants_plain rfl ?_
        exact grown_move (.tmp 1) rfl h1
      refine steps_consL (fun listed a w hnot hdep hcl hsz hg hn => ?_) ?_
      · have h53 : a.eval (.tmp 53) = .int .i64 xi := hn.1
        clear hn
        have hk := hg.1
        refine wantsG_of1M (fun _ k => .inl k) (fun v w' k => hg.free 3 (by decide) 54 (fun h => absurd h (by decide)) v k) ?_
        refine wants_plain rfl ?_
        refine grown_call (f := 14) rfl Tryz.func14 (by kernel_rfl) (by kernel_rfl) ?_
        simp only [List.map_toArray, List.map_cons, List.map_nil, h53]
        refine (within_wi xi 0 15 w (by omega) (by omega) (by omega)).mono ?_
        rintro e w' ⟨rfl, rfl⟩
        exact ⟨_, rfl, Kp.refl _ _, congrArg (Value.int .i64) (unhide HIE)⟩
      refine steps_consL (fun listed a w hnot hdep hcl hsz hg hn => ?_) ?_
      · have h10 : a.eval (.tmp 10) = .pointer (some ⟨g10, 0, none⟩) := hn.1
        clear hn
        have hk := hg.1
        refine wantsG_of1M (fun _ k => .inl k) (fun v w' k => hg.free 4 (by decide) 55 (fun h => absurd h (by decide)) v k) ?_
        refine wants_plain rfl ?_
        exact grown_loadf 25 (.tmp 10) rfl g10 0 h10 _ _ _ _ (unhide HS10 w hk) [.int .i64 nc, .slice ac kc cc] (flat_in rfl) Tryz.underlying25 rfl Tryz.chkSize rfl
      refine steps_consL (fun listed a w hnot hdep hcl hsz hg hn => ?_) ?_
      · have h52 : Sl w (a.eval (.tmp 52)) (seedX xn) := hn.1
        have h54 : a.eval (.tmp 54) = .int .i64 (j : Int) := hn.2.1
        have h55 : a.eval (.tmp 55) = .agg #[.int .i64 nc, .slice ac kc cc] := hn.2.2.1
        clear hn
        have hk := hg.1
        refine wantsG_of1M (fun _ k => .inl k) (fun v w' k => hg.free 5 (by decide) 56 (fun h => absurd h (by decide)) v k) ?_
        refine wants_plain rfl ?_
        refine grown_call (f := 10) rfl Tryz.func10 (by kernel_rfl) (by kernel_rfl) ?_
        simp only [List.map_toArray, List.map_cons, List.map_nil, h54, h55]
        refine (cksign_no _ (seedX xn) _ _ nc tc w h52 (unhide HCC w hk) (unhide HQ).symm).mono ?_
        rintro e w' ⟨rfl, K⟩
        exact ⟨_, rfl, K, ⟨_, rfl, sgd0_v _⟩⟩
      refine steps_consL (fun listed a w hnot hdep hcl hsz hg hn => ?_) ?_
      · have h56 : (PrT (sg0) 12) (a.eval (.tmp 56)) w := hn.1
        clear hn
        have hk := hg.1
        refine wantsG_of1M (fun _ k => .inl k) (fun v w' k => hg.free 6 (by decide) 50 (fun h => absurd h (by decide)) v k) ?_
        refine wants_plain rfl ?_
        exact grown_move (.tmp 56) rfl h56
      refine steps_consL (fun listed a w hnot hdep hcl hsz hg hn => ?_) ?_
      · have h50 : (PrT (sg0) 12) (a.eval (.tmp 50)) w := hn.1
        clear hn
        have hk := hg.1
        refine wantsG_of1M (fun _ k => .inl k) (fun v w' k => hg.free 7 (by decide) 57 (fun _ => lstM hcl 10 7 rfl (by decide) hnot) v k) ?_
        refine wants_plain rfl ?_
        exact grown_x0 (.tmp 50) rfl _ _ h50
      refine steps_consL (fun listed a w hnot hdep hcl hsz hg hn => ?_) ?_
      · have h50 : (PrT (sg0) 12) (a.eval (.tmp 50)) w := hn.1
        clear hn
        have hk := hg.1
        refine wantsG_of1M (fun _ k => .inl k) (fun v w' k => hg.free 8 (by decide) 58 (fun h => absurd h (by decide)) v k) ?_
        refine wants_plain rfl ?_
        exact grown_x1 (.tmp 50) rfl _ _ h50
      refine steps_consL (fun listed a w hnot hdep hcl hsz hg hn => ?_) ?_
      · clear hn
        have hk := hg.1
        refine wantsG_of1M (fun _ k => .inl k) (fun v w' k => hg.free 9 (by decide) 17 (fun _ => lstM hcl 10 9 rfl (by decide) hnot) v k) ?_
        refine wants_plain rfl ?_
        exact grown_newx _ hk.size rfl
      refine steps_consL (fun listed a w hnot hdep hcl hsz hg hn => ?_) ?_
      · have h17 : (NewX w5.drew.heap.size) (a.eval (.tmp 17)) w := hn.1
        have h57 : (SgT (sg0)) (a.eval (.tmp 57)) w := hn.2.1
        clear hn
        exact hg.st hsz rfl rfl rfl h17 h57
      refine steps_consL (fun listed a w hnot hdep hcl hsz hg hn => ?_) ?_
      · have h58 : a.eval (.tmp 58) = .int .i64 12 := hn.1
        clear hn
        have hk := hg.1
        refine wantsG_of1M (fun _ k => .inl k) (fun v w' k => hg.free 11 (by decide) 18 (fun h => absurd h (by decide)) v k) ?_
        refine wants_plain rfl ?_
        exact grown_assign (.tmp 58) rfl h58
      exact trivial
    intro W2
    rintro _ rfl
    intro v52 h52
    rintro _ rfl
    rintro _ rfl
    rintro _ rfl
    intro v56 h56
    intro v50 h50
    intro v57 h57
    rintro _ rfl
    intro v17 h17
    intro _ _
    rintro _ rfl
    refine fin_nil ?_
    intro listed hall hgg
    obtain ⟨hkW2, hst⟩ := hgg
    obtain ⟨gst, cst, est, evt, Gst⟩ := hst (hall 10 (by decide))
    simp only [Act.put, List.set_cons_zero, List.set_cons_succ, List.setIfInBounds_toArray] at est evt ⊢
    obtain ⟨g17, rfl, -, hbn⟩ := h17
    have hV57 : SgV W2 v57 sg0 := h57
    obtain ⟨a4, m4, c4, ap4, np4, cp4, aq4, nq4, cq4, rfl, -, -⟩ := hV57.shape
    have K52 := unhide HD5 W2 hkW2
    have HV2 := hide hV57
    obtain ⟨ny, hny⟩ : ∃ n, n = sg0.n := ⟨_, rfl⟩
    obtain ⟨iy, hiy⟩ : ∃ n, n = sg0.i := ⟨_, rfl⟩
    rw [← hny, ← hiy] at HV2 evt ⊢
    obtain ⟨w6, hw6⟩ : ∃ w6, w6 = W2 := ⟨_, rfl⟩
    have K56 : Kp [] w5 w6 := by rw [hw6]; exact K52
    have HV6 : Hid (SgV w6 (.agg #[.int .i64 ny, .slice a4 m4 c4, .int .i64 iy, .slice ap4 np4 cp4, .slice aq4 nq4 cq4]) sg0) := by rw [hw6]; exact unhide HV2
    have eg : gst = g17 := by
      have h := est
      simp [Act.eval] at h
      exact h.symm
    have ec : cst = #[.int .i64 ny, .slice a4 m4 c4, .int .i64 iy, .slice ap4 np4 cp4, .slice aq4 nq4 cq4] := by
      have h := evt
      simp [Act.eval] at h
      exact h.symm
    rw [eg, ec] at Gst
    have G6 : w6.heap[g17]? = some (.cells #[.int .i64 ny, .slice a4 m4 c4, .int .i64 iy, .slice ap4 np4 cp4, .slice aq4 nq4 cq4] 30 (0, 0)) := by rw [hw6]; exact Gst
    rw [← hw6]
    clear h52 h56 h50 h57 hV57 hkW2 hny hiy hbn est evt Gst eg ec hall hst hw6
    have HK56 := hide K56
    have HR6 := hide (rckright_any (.agg #[.int .i64 nc, .slice ac kc cc]) nc tc false (unhide HQ) w6 (unhide HC0 w6 ((unhide HK5).trans K56)))
    have x0 : w6.cell? ⟨g10, 0, none⟩ = some (.int .i64 nc) := by rw [cell_of_row _ g10 0 _ _ _ (K56.heap (unhide HG105) (by simp))]; rfl
    have x1 : w6.cell? ⟨g10, 1, none⟩ = some (.slice ac kc cc) := by rw [cell_of_row _ g10 1 _ _ _ (K56.heap (unhide HG105) (by simp))]; rfl
    have HG176 := hide G6
    clear G6 K52 K56 HV2 HD5 HS10 HCC HGW5
    go_wp2_with fail
    refine (unhide HR6).mono ?_
    rintro ee w7 ⟨rfl, K7⟩
    have hG177 := K7.heap (unhide HG176) (by simp)
    have y0 : w7.cell? ⟨g17, 0, none⟩ = some (.int .i64 ny) := by rw [cell_of_row _ g17 0 _ _ _ (hG177)]; rfl
    have y1 : w7.cell? ⟨g17, 1, none⟩ = some (.slice a4 m4 c4) := by rw [cell_of_row _ g17 1 _ _ _ (hG177)]; rfl
    have y2 : w7.cell? ⟨g17, 2, none⟩ = some (.int .i64 iy) := by rw [cell_of_row _ g17 2 _ _ _ (hG177)]; rfl
    have y3 : w7.cell? ⟨g17, 3, none⟩ = some (.slice ap4 np4 cp4) := by rw [cell_of_row _ g17 3 _ _ _ (hG177)]; rfl
    have y4 : w7.cell? ⟨g17, 4, none⟩ = some (.slice aq4 nq4 cq4) := by rw [cell_of_row _ g17 4 _ _ _ (hG177)]; rfl
    have HE7 := hide (lequal_any _ _ sg0 w7 ((unhide HV6).kept K7) (sgd0_v w7))
    have HK57 := hide ((unhide HK56).trans K7)
    clear HR6 x0 x1 hG177 K7 HK56
    go_wp2_with fail
    refine (unhide HE7).mono ?_
    rintro ee w8 ⟨rfl, K8⟩
    have K58 := (unhide HK57).trans K8
    clear HE7 y0 y1 y2 y3 y4 K8 HK57
    have HK58 := hide K58
    have x0 : w8.cell? ⟨g13, 0, none⟩ = some (.int .i64 n) := by rw [cell_of_row _ g13 0 _ _ _ (K58.heap (unhide HG135) (by simp))]; rfl
    have x1 : w8.cell? ⟨g13, 1, none⟩ = some (.slice a1 m1 c1) := by rw [cell_of_row _ g13 1 _ _ _ (K58.heap (unhide HG135) (by simp))]; rfl
    have x2 : w8.cell? ⟨g13, 2, none⟩ = some (.int .i64 i) := by rw [cell_of_row _ g13 2 _ _ _ (K58.heap (unhide HG135) (by simp))]; rfl
    have x3 : w8.cell? ⟨g13, 3, none⟩ = some (.slice ap1 np1 cp1) := by rw [cell_of_row _ g13 3 _ _ _ (K58.heap (unhide HG135) (by simp))]; rfl
    have x4 : w8.cell? ⟨g13, 4, none⟩ = some (.slice aq1 nq1 cq1) := by rw [cell_of_row _ g13 4 _ _ _ (K58.heap (unhide HG135) (by simp))]; rfl
    have Ga := heap_alloc_new w8 (.cells #[.int .i64 0, .slice none 0 0, .int .i64 0, .slice none 0 0, .slice none 0 0] 30)
    have HKa : Hid (Kp [] w8 (w8.alloc (.cells #[.int .i64 0, .slice none 0 0, .int .i64 0, .slice none 0 0, .slice none 0 0] 30))) := (Kp.refl [] w8).alloc _
    clear K58 HG176 HV6
    go_wp2_with (refine wpList_store_flat rfl 30 (.tmp 19) (.tmp 78) rfl w8.heap.size 0 rfl _ _ [.int .i64 n, .slice a1 m1 c1, .int .i64 i, .slice ap1 np1 cp1, .slice aq1 nq1 cq1] Ga rfl (by simp) Tryz.sgdSize (by simp [Value.oneCell']) #[.int .i64 n, .slice a1 m1 c1, .int .i64 i, .slice ap1 np1 cp1, .slice aq1 nq1 cq1] rfl ?_; intro w9 G9 K9; refine Hid.out ?_)
    obtain ⟨g19, hg19⟩ : ∃ g, g = w8.heap.size := ⟨_, rfl⟩
    have K89 : Kp [] w8 w9 := (unhide HKa).then K9 (fun i hi => .inr (by simp at hi; omega))
    rw [← hg19] at G9 ⊢
    have HG19 := hide hg19
    have HK89 := hide K89
    have y0 : w9.cell? ⟨g10, 0, none⟩ = some (.int .i64 nc) := by rw [cell_of_row _ g10 0 _ _ _ (((unhide HK58).trans K89).heap (unhide HG105) (by simp))]; rfl
    have y1 : w9.cell? ⟨g10, 1, none⟩ = some (.slice ac kc cc) := by rw [cell_of_row _ g10 1 _ _ _ (((unhide HK58).trans K89).heap (unhide HG105) (by simp))]; rfl
    clear Ga HKa K9 K89 hg19 x0 x1 x2 x3 x4
    refine hide ?_
    go_wp2_with (refine wpList_store_flat rfl 25 (.tmp 80) (.tmp 79) rfl g19 0 rfl _ _ [.int .i64 nc, .slice ac kc cc] G9 rfl (by simp) Tryz.chkSize (by simp [Value.oneCell']) #[.int .i64 nc, .slice ac kc cc, .int .i64 i, .slice ap1 np1 cp1, .slice aq1 nq1 cq1] rfl ?_; intro w10 G10 K10; refine Hid.out ?_)
    have K8t : Kp [] w8 w10 := (unhide HK89).then K10 (fun i hi => .inr (by simp at hi; have := unhide HG19; omega))
    have K5t := (unhide HK58).trans K8t
    have HKt := hide ((unhide HK5).trans K5t)
    have HDt : Hid (∀ w', Kp [] w10.drew w' → Kp [] w10 w') := fun w' k' => (kp_drew w10).trans k'
    have hS10 := (unhide HV135).kept K5t
    have hG10 := K5t.heap (unhide HG105) (by simp)
    have hG13 := K5t.heap (unhide HG135) (by simp)
    have hT10 := (unhide HT5).kept K5t (by simp)
    have HF10 : Hid (∀ w', Kp [] w10.drew w' → w'.heap[g10]? = some (.cells #[.int .i64 nc, .slice ac kc cc] 25 (0, 0))) := fun w' k' => (unhide HDt w' k').heap hG10 (by simp)
    have HF13 : Hid (∀ w', Kp [] w10.drew w' → w'.heap[g13]? = some (.cells #[.int .i64 n, .slice a1 m1 c1, .int .i64 i, .slice ap1 np1 cp1, .slice aq1 nq1 cq1] 30 (0, 0))) := fun w' k' => (unhide HDt w' k').heap hG13 (by simp)
    have HF19 : Hid (∀ w', Kp [] w10.drew w' → w'.heap[g19]? = some (.cells #[.int .i64 nc, .slice ac kc cc, .int .i64 i, .slice ap1 np1 cp1, .slice aq1 nq1 cq1] 30 (0, 0))) := fun w' k' => (unhide HDt w' k').heap G10 (by simp)
    have HSF : Hid (∀ w', Kp [] w10.drew w' → SgV w' (.agg #[.int .i64 n, .slice a1 m1 c1, .int .i64 i, .slice ap1 np1 cp1, .slice aq1 nq1 cq1]) s) := fun w' k' => hS10.kept (unhide HDt w' k')
    have HC10 : Hid (∀ w', Kp [] w10.drew w' → CkV w' (.agg #[.int .i64 nc, .slice ac kc cc]) nc tc) := fun w' k' => unhide HC0 w' ((unhide HKt).trans (unhide HDt w' k'))
    have HC13 : Hid (∀ w', Kp [] w10.drew w' → CkV w' (.agg #[.int .i64 n, .slice a1 m1 c1]) n r) := fun w' k' => sgv_ck (unhide HNS) (unhide HRS) (unhide HSF w' k')
    have HTF : Hid (∀ w', Kp [] w10.drew w' → SgV w' (.agg #[.int .i64 nc, .slice ac kc cc, .int .i64 i, .slice ap1 np1 cp1, .slice aq1 nq1 cq1]) ⟨nc, tc, i, s.ps, s.qs⟩) := fun w' k' => sgv_mix (unhide HIS) (unhide HSF w' k') (unhide HC10 w' k')
    have HTP : Hid (∀ w', Kp [] w10.drew w' → Sl w' (.slice at' mt ct) tp) := fun w' k' => hT10.kept (unhide HDt w' k') (by simp)
    have HGF : Hid (∀ w', Kp [] w10.drew w' → Gl w') := fun w' k' => (unhide HG).kept ((unhide HKt).trans (unhide HDt w' k')) (by simp)
    have HBF : Hid (∀ w', Kp [] w10.drew w' → Sl w' (.slice ab nb cb) bs) := fun w' k' => unhide HS0 w' ((unhide HKt).trans (unhide HDt w' k'))
    have HBV : Hid (∀ w', Kp [] w10.drew w' → ∀ k, (Value.slice ab nb cb).ownBlock = some k → k < w'.heap.size) := fun w' k' k hk => Nat.lt_of_lt_of_le (unhide HBO k hk) ((unhide HKt).trans (unhide HDt w' k')).size
    clear G9 K10 y0 y1 K8t K5t hS10 hG10 hG13 hT10 G10 HK58 HK89 HG19
    refine hide ?_
    go_wp2_with fail
    refine region_grow Tryz.mixed [Is (.slice at' mt ct), Is (.agg #[.int .i64 n, .slice a1 m1 c1, .int .i64 i, .slice ap1 np1 cp1, .slice aq1 nq1 cq1]), Is (.bool true), Is (.bool true), Is (.slice at' mt ct), Is (.agg #[.int .i64 nc, .slice ac kc cc, .int .i64 i, .slice ap1 np1 cp1, .slice aq1 nq1 cq1]), Is (.bool true), Is (.bool true), Is (.bool true), Is (.int .i64 xr), SlT (hashX xr), Is (.agg #[.int .i64 n, .slice a1 m1 c1, .int .i64 i, .slice ap1 np1 cp1, .slice aq1 nq1 cq1]), Is (.bool true), Is (.bool true), Is (.bool true), Is (.slice ab nb cb), Is (.bool true), Is (.bool true), Is (.bool true), Is (.pointer (some ⟨g13, 0, none⟩)), Is (.agg #[.int .i64 n, .slice a1 m1 c1]), Is (.agg #[.int .i64 nc, .slice ac kc cc]), Is (.bool bb), Is (.pointer (some ⟨g13, 0, none⟩)), Is (.agg #[.int .i64 n, .slice a1 m1 c1]), Is (.agg #[.int .i64 nc, .slice ac kc cc]), Is (.bool bb), Is (.bool true), Is (.bool true), Is (.bool true), Is (.bool true), Is (.bool true), Is (.bool true)] [[(14, none)], [(13, none)], [(81, some 0), (82, some 1)], [(83, some 2)], [(14, none), (84, some 3)], [(19, none), (84, some 3)], [(85, some 4), (86, some 5), (84, some 3)], [(84, some 3), (87, some 6)], [(88, some 7)], [(3, none), (89, some 8)], [(90, some 9), (89, some 8)], [(13, none), (89, some 8)], [(91, some 10), (92, some 11), (89, some 8)], [(89, some 8), (93, some 12)], [(94, some 13)], [(5, none), (95, some 14)], [(96, some 15), (95, some 14)], [(95, some 14), (97, some 16)], [(98, some 17)], [(13, none), (99, some 18)], [(100, some 19), (99, some 18)], [(10, none), (99, some 18)], [(101, some 20), (102, some 21), (99, some 18)], [(13, none), (99, some 18)], [(104, some 23), (99, some 18)], [(10, none), (99, some 18)], [(105, some 24), (106, some 25), (99, some 18)], [(103, some 22), (107, some 26), (99, some 18)], [(99, some 18), (108, some 27)], [(109, some 28)], [(110, some 29)], [(110, some 29), (111, some 30)], [(112, some 31)]] (by kernel_rfl) ?_ ?_ ?_
    · simp only [List.mem_cons, List.not_mem_nil, or_false]
      intro R hR
      rcases hR with rfl | rfl | rfl | rfl | rfl | rfl | rfl | rfl | rfl | rfl | rfl | rfl | rfl | rfl | rfl | rfl | rfl | rfl | rfl | rfl | rfl | rfl | rfl | rfl | rfl | rfl | rfl | rfl | rfl | rfl | rfl | rfl | rfl <;> first | exact stable_is _ | exact stable_sl _
    · refine steps_cons (fun a w hk hn => ?_) ?_
      · have h14 : a.eval (.tmp 14) = .slice at' mt ct := hn.1
        clear hn
        refine wants_plain rfl ?_
        exact grown_move (.tmp 14) rfl h14
      refine steps_cons (fun a w hk hn => ?_) ?_
      · have h13 : a.eval (.tmp 13) = .pointer (some ⟨g13, 0, none⟩) := hn.1
        clear hn
        refine wants_plain rfl ?_
        exact grown_loadf 30 (.tmp 13) rfl g13 0 h13 _ _ _ _ (unhide HF13 w hk) [.int .i64 n, .slice a1 m1 c1, .int .i64 i, .slice ap1 np1 cp1, .slice aq1 nq1 cq1] (flat_in rfl) Tryz.underlying30 rfl Tryz.sgdSize rfl
      refine steps_cons (fun a w hk hn => ?_) ?_
      · have h81 : a.eval (.tmp 81) = .slice at' mt ct := hn.1
        have h82 : a.eval (.tmp 82) = .agg #[.int .i64 n, .slice a1 m1 c1, .int .i64 i, .slice ap1 np1 cp1, .slice aq1 nq1 cq1] := hn.2.1
        clear hn
        refine wants_plain rfl ?_
        refine grown_call (f := 7) rfl Tryz.func7 (by kernel_rfl) (by kernel_rfl) ?_
        simp only [List.map_toArray, List.map_cons, List.map_nil, h81, h82]
        refine (lsame_any _ tp _ s w (unhide HTP w hk) (unhide HTB) (unhide HSF w hk) (unhide HSI) (unhide HGF w hk)).mono ?_
        rintro e w' ⟨rfl, K⟩
        exact ⟨_, rfl, K, rfl⟩
      refine steps_cons (fun a w hk hn => ?_) ?_
      · have h83 : a.eval (.tmp 83) = .bool true := hn.1
        clear hn
        refine wants_plain rfl ?_
        exact grown_move (.tmp 83) rfl h83
      refine steps_cons (fun a w hk hn => ?_) ?_
      · have h14 : a.eval (.tmp 14) = .slice at' mt ct := hn.1
        have h84 : a.eval (.tmp 84) = .bool true := hn.2.1
        clear hn
        refine wants_guard (d := 84) rfl rfl h84 ?_
        exact grown_move (.tmp 14) rfl h14
      refine steps_cons (fun a w hk hn => ?_) ?_
      · have h19 : a.eval (.tmp 19) = .pointer (some ⟨g19, 0, none⟩) := hn.1
        have h84 : a.eval (.tmp 84) = .bool true := hn.2.1
        clear hn
        refine wants_guard (d := 84) rfl rfl h84 ?_
        exact grown_loadf 30 (.tmp 19) rfl g19 0 h19 _ _ _ _ (unhide HF19 w hk) [.int .i64 nc, .slice ac kc cc, .int .i64 i, .slice ap1 np1 cp1, .slice aq1 nq1 cq1] (flat_in rfl) Tryz.underlying30 rfl Tryz.sgdSize rfl
      refine steps_cons (fun a w hk hn => ?_) ?_
      · have h85 : a.eval (.tmp 85) = .slice at' mt ct := hn.1
        have h86 : a.eval (.tmp 86) = .agg #[.int .i64 nc, .slice ac kc cc, .int .i64 i, .slice ap1 np1 cp1, .slice aq1 nq1 cq1] := hn.2.1
        have h84 : a.eval (.tmp 84) = .bool true := hn.2.2.1
        clear hn
        refine wants_guard (d := 84) rfl rfl h84 ?_
        refine grown_call (f := 7) rfl Tryz.func7 (by kernel_rfl) (by kernel_rfl) ?_
        simp only [List.map_toArray, List.map_cons, List.map_nil, h85, h86]
        refine (lsame_any _ tp _ ⟨nc, tc, i, s.ps, s.qs⟩ w (unhide HTP w hk) (unhide HTB) (unhide HTF w hk) (unhide HSI2) (unhide HGF w hk)).mono ?_
        rintro e w' ⟨rfl, K⟩
        exact ⟨_, rfl, K, rfl⟩
      refine steps_cons (fun a w hk hn => ?_) ?_
      · have h84 : a.eval (.tmp 84) = .bool true := hn.1
        have h87 : a.eval (.tmp 87) = .bool true := hn.2.1
        clear hn
        refine wants_plain rfl ?_
        exact grown_pick _ _ _ true rfl h84 h87
      refine steps_cons (fun a w hk hn => ?_) ?_
      · have h88 : a.eval (.tmp 88) = .bool true := hn.1
        clear hn
        refine wants_plain rfl ?_
        exact grown_move (.tmp 88) rfl h88
      refine steps_cons (fun a w hk hn => ?_) ?_
      · have h3 : a.eval (.tmp 3) = .int .i64 xr := hn.1
        have h89 : a.eval (.tmp 89) = .bool true := hn.2.1
        clear hn
        refine wants_guard (d := 89) rfl rfl h89 ?_
        exact grown_move (.tmp 3) rfl h3
      refine steps_cons (fun a w hk hn => ?_) ?_
      · have h90 : a.eval (.tmp 90) = .int .i64 xr := hn.1
        have h89 : a.eval (.tmp 89) = .bool true := hn.2.1
        clear hn
        refine wants_guard (d := 89) rfl rfl h89 ?_
        refine grown_call (f := 17) rfl Tryz.func17 (by kernel_rfl) (by kernel_rfl) ?_
        simp only [List.map_toArray, List.map_cons, List.map_nil, h90]
        refine (xhash_any xr w).mono ?_
        rintro e w' ⟨ao, m, c, rfl, R, K⟩
        exact ⟨_, rfl, K, R.sl⟩
      refine steps_cons (fun a w hk hn => ?_) ?_
      · have h13 : a.eval (.tmp 13) = .pointer (some ⟨g13, 0, none⟩) := hn.1
        have h89 : a.eval (.tmp 89) = .bool true := hn.2.1
        clear hn
        refine wants_guard (d := 89) rfl rfl h89 ?_
        exact grown_loadf 30 (.tmp 13) rfl g13 0 h13 _ _ _ _ (unhide HF13 w hk) [.int .i64 n, .slice a1 m1 c1, .int .i64 i, .slice ap1 np1 cp1, .slice aq1 nq1 cq1] (flat_in rfl) Tryz.underlying30 rfl Tryz.sgdSize rfl
      refine steps_cons (fun a w hk hn => ?_) ?_
      · have h91 : Sl w (a.eval (.tmp 91)) (hashX xr) := hn.1
        have h92 : a.eval (.tmp 92) = .agg #[.int .i64 n, .slice a1 m1 c1, .int .i64 i, .slice ap1 np1 cp1, .slice aq1 nq1 cq1] := hn.2.1
        have h89 : a.eval (.tmp 89) = .bool true := hn.2.2.1
        clear hn
        refine wants_guard (d := 89) rfl rfl h89 ?_
        refine grown_call (f := 7) rfl Tryz.func7 (by kernel_rfl) (by kernel_rfl) ?_
        simp only [List.map_toArray, List.map_cons, List.map_nil, h92]
        refine (lsame_any _ (hashX xr) _ s w h91 (hashX_bs xr) (unhide HSF w hk) (unhide HSI) (unhide HGF w hk)).mono ?_
        rintro e w' ⟨rfl, K⟩
        exact ⟨_, rfl, K, rfl⟩
      refine steps_cons (fun a w hk hn => ?_) ?_
      · have h89 : a.eval (.tmp 89) = .bool true := hn.1
        have h93 : a.eval (.tmp 93) = .bool true := hn.2.1
        clear hn
        refine wants_plain rfl ?_
        exact grown_pick _ _ _ true rfl h89 h93
      refine steps_cons (fun a w hk hn => ?_) ?_
      · have h94 : a.eval (.tmp 94) = .bool true := hn.1
        clear hn
        refine wants_plain rfl ?_
        exact grown_move (.tmp 94) rfl h94
      refine steps_cons (fun a w hk hn => ?_) ?_
      · have h5 : a.eval (.tmp 5) = .slice ab nb cb := hn.1
        have h95 : a.eval (.tmp 95) = .bool true := hn.2.1
        clear hn
        refine wants_guard (d := 95) rfl rfl h95 ?_
        exact grown_move (.tmp 5) rfl h5
      refine steps_cons (fun a w hk hn => ?_) ?_
      · have h96 : a.eval (.tmp 96) = .slice ab nb cb := hn.1
        have h95 : a.eval (.tmp 95) = .bool true := hn.2.1
        clear hn
        refine wants_guard (d := 95) rfl rfl h95 ?_
        refine grown_call (f := 9) rfl Tryz.func9 (by kernel_rfl) (by kernel_rfl) ?_
        simp only [List.map_toArray, List.map_cons, List.map_nil, h96]
        refine (lreads_any _ bs w (unhide HBF w hk) (unhide HB) (unhide HBL) (unhide HBV w hk)).mono ?_
        rintro e w' ⟨rfl, K⟩
        exact ⟨_, rfl, K, rfl⟩
      refine steps_cons (fun a w hk hn => ?_) ?_
      · have h95 : a.eval (.tmp 95) = .bool true := hn.1
        have h97 : a.eval (.tmp 97) = .bool true := hn.2.1
        clear hn
        refine wants_plain rfl ?_
        exact grown_pick _ _ _ true rfl h95 h97
      refine steps_cons (fun a w hk hn => ?_) ?_
      · have h98 : a.eval (.tmp 98) = .bool true := hn.1
        clear hn
        refine wants_plain rfl ?_
        exact grown_move (.tmp 98) rfl h98
      refine steps_cons (fun a w hk hn => ?_) ?_
      · have h13 : a.eval (.tmp 13) = .pointer (some ⟨g13, 0, none⟩) := hn.1
        have h99 : a.eval (.tmp 99) = .bool true := hn.2.1
        clear hn
        refine wants_guard (d := 99) rfl rfl h99 ?_
        refine grown_run (v := .pointer (some ⟨g13, 0, none⟩)) ?_ (Kp.refl _ _) rfl
        obtain ⟨ρ, hρ, hc, hf, hg⟩ := eval_is a
        rw [hρ] at h13 ⊢
        simp [go_sem, h13]
      refine steps_cons (fun a w hk hn => ?_) ?_
      · have h100 : a.eval (.tmp 100) = .pointer (some ⟨g13, 0, none⟩) := hn.1
        have h99 : a.eval (.tmp 99) = .bool true := hn.2.1
        clear hn
        refine wants_guard (d := 99) rfl rfl h99 ?_
        exact grown_loadf 25 (.tmp 100) rfl g13 0 h100 _ _ _ _ (unhide HF13 w hk) [.int .i64 n, .slice a1 m1 c1] (flat_in rfl) Tryz.underlying25 rfl Tryz.chkSize rfl
      refine steps_cons (fun a w hk hn => ?_) ?_
      · have h10 : a.eval (.tmp 10) = .pointer (some ⟨g10, 0, none⟩) := hn.1
        have h99 : a.eval (.tmp 99) = .bool true := hn.2.1
        clear hn
        refine wants_guard (d := 99) rfl rfl h99 ?_
        exact grown_loadf 25 (.tmp 10) rfl g10 0 h10 _ _ _ _ (unhide HF10 w hk) [.int .i64 nc, .slice ac kc cc] (flat_in rfl) Tryz.underlying25 rfl Tryz.chkSize rfl
      refine steps_cons (fun a w hk hn => ?_) ?_
      · have h101 : a.eval (.tmp 101) = .agg #[.int .i64 n, .slice a1 m1 c1] := hn.1
        have h102 : a.eval (.tmp 102) = .agg #[.int .i64 nc, .slice ac kc cc] := hn.2.1
        have h99 : a.eval (.tmp 99) = .bool true := hn.2.2.1
        clear hn
        refine wants_guard (d := 99) rfl rfl h99 ?_
        refine grown_call (f := 18) rfl Tryz.func18 (by kernel_rfl) (by kernel_rfl) ?_
        simp only [List.map_toArray, List.map_cons, List.map_nil, h101, h102]
        refine (cksame_any _ _ n nc r tc bb (unhide HBBe) w (unhide HC13 w hk) (unhide HC10 w hk)).mono ?_
        rintro e w' ⟨rfl, K⟩
        exact ⟨_, rfl, K, rfl⟩
      refine steps_cons (fun a w hk hn => ?_) ?_
      · have h13 : a.eval (.tmp 13) = .pointer (some ⟨g13, 0, none⟩) := hn.1
        have h99 : a.eval (.tmp 99) = .bool true := hn.2.1
        clear hn
        refine wants_guard (d := 99) rfl rfl h99 ?_
        refine grown_run (v := .pointer (some ⟨g13, 0, none⟩)) ?_ (Kp.refl _ _) rfl
        obtain ⟨ρ, hρ, hc, hf, hg⟩ := eval_is a
        rw [hρ] at h13 ⊢
        simp [go_sem, h13]
      refine steps_cons (fun a w hk hn => ?_) ?_
      · have h104 : a.eval (.tmp 104) = .pointer (some ⟨g13, 0, none⟩) := hn.1
        have h99 : a.eval (.tmp 99) = .bool true := hn.2.1
        clear hn
        refine wants_guard (d := 99) rfl rfl h99 ?_
        exact grown_loadf 25 (.tmp 104) rfl g13 0 h104 _ _ _ _ (unhide HF13 w hk) [.int .i64 n, .slice a1 m1 c1] (flat_in rfl) Tryz.underlying25 rfl Tryz.chkSize rfl
      refine steps_cons (fun a w hk hn => ?_) ?_
      · have h10 : a.eval (.tmp 10) = .pointer (some ⟨g10, 0, none⟩) := hn.1
        have h99 : a.eval (.tmp 99) = .bool true := hn.2.1
        clear hn
        refine wants_guard (d := 99) rfl rfl h99 ?_
        exact grown_loadf 25 (.tmp 10) rfl g10 0 h10 _ _ _ _ (unhide HF10 w hk) [.int .i64 nc, .slice ac kc cc] (flat_in rfl) Tryz.underlying25 rfl Tryz.chkSize rfl
      refine steps_cons (fun a w hk hn => ?_) ?_
      · have h105 : a.eval (.tmp 105) = .agg #[.int .i64 n, .slice a1 m1 c1] := hn.1
        have h106 : a.eval (.tmp 106) = .agg #[.int .i64 nc, .slice ac kc cc] := hn.2.1
        have h99 : a.eval (.tmp 99) = .bool true := hn.2.2.1
        clear hn
        refine wants_guard (d := 99) rfl rfl h99 ?_
        refine grown_call (f := 19) rfl Tryz.func19 (by kernel_rfl) (by kernel_rfl) ?_
        simp only [List.map_toArray, List.map_cons, List.map_nil, h105, h106]
        refine (rcksame_any _ _ n nc r tc bb (unhide HBBe) w (unhide HC13 w hk) (unhide HC10 w hk)).mono ?_
        rintro e w' ⟨rfl, K⟩
        exact ⟨_, rfl, K, rfl⟩
      refine steps_cons (fun a w hk hn => ?_) ?_
      · have h103 : a.eval (.tmp 103) = .bool bb := hn.1
        have h107 : a.eval (.tmp 107) = .bool bb := hn.2.1
        have h99 : a.eval (.tmp 99) = .bool true := hn.2.2.1
        clear hn
        refine wants_guard (d := 99) rfl rfl h99 ?_
        refine grown_run (v := .bool true) ?_ (Kp.refl _ _) rfl
        obtain ⟨ρ, hρ, hc, hf, hg⟩ := eval_is a
        rw [hρ] at h103 h107 ⊢
        simp [go_sem, h103, h107]
      refine steps_cons (fun a w hk hn => ?_) ?_
      · have h99 : a.eval (.tmp 99) = .bool true := hn.1
        have h108 : a.eval (.tmp 108) = .bool true := hn.2.1
        clear hn
        refine wants_plain rfl ?_
        exact grown_pick _ _ _ true rfl h99 h108
      refine steps_cons (fun a w hk hn => ?_) ?_
      · have h109 : a.eval (.tmp 109) = .bool true := hn.1
        clear hn
        refine wants_plain rfl ?_
        exact grown_move (.tmp 109) rfl h109
      refine steps_cons (fun a w hk hn => ?_) ?_
      · have h110 : a.eval (.tmp 110) = .bool true := hn.1
        clear hn
        refine wants_guard (d := 110) rfl rfl h110 ?_
        refine grown_call (f := 12) rfl Tryz.func12 (by kernel_rfl) (by kernel_rfl) ?_
        simp only [List.map_toArray, List.map_nil]
        refine (xknown_any w (unhide HGF w hk)).mono ?_
        rintro e w' ⟨rfl, K⟩
        exact ⟨_, rfl, K, rfl⟩
      refine steps_cons (fun a w hk hn => ?_) ?_
      · have h110 : a.eval (.tmp 110) = .bool true := hn.1
        have h111 : a.eval (.tmp 111) = .bool true := hn.2.1
        clear hn
        refine wants_plain rfl ?_
        exact grown_pick _ _ _ true rfl h110 h111
      refine steps_cons (fun a w hk hn => ?_) ?_
      · have h112 : a.eval (.tmp 112) = .bool true := hn.1
        clear hn
        refine wants_plain rfl ?_
        exact grown_assign (.tmp 112) rfl h112
      exact trivial
    intro W3 hkW3
    rintro _ rfl
    rintro _ rfl
    rintro _ rfl
    rintro _ rfl
    rintro _ rfl
    rintro _ rfl
    rintro _ rfl
    rintro _ rfl
    rintro _ rfl
    rintro _ rfl
    intro v91 h91
    rintro _ rfl
    rintro _ rfl
    rintro _ rfl
    rintro _ rfl
    rintro _ rfl
    rintro _ rfl
    rintro _ rfl
    rintro _ rfl
    rintro _ rfl
    rintro _ rfl
    rintro _ rfl
    rintro _ rfl
    rintro _ rfl
    rintro _ rfl
    rintro _ rfl
    rintro _ rfl
    rintro _ rfl
    rintro _ rfl
    rintro _ rfl
    rintro _ rfl
    rintro _ rfl
    rintro _ rfl
    refine fin_nil ?_
    simp only [Act.put, List.set_cons_zero, List.set_cons_succ, List.setIfInBounds_toArray]
    go_wp2_with fail
    go_ret
    exact ⟨rfl, ((unhide HKt).trans (unhide HDt W3 hkW3)).below (Nat.le_refl _) (by simp)⟩
  · go_wp2_with fail
    refine region_growL (K := KN w5.drew.heap.size) (G := GN w5.drew 10 17 57) Tryz.mixed [Is (.int .i64 xn), SlT (seedX xn), Is (.int .i64 xi), Is (.int .i64 (j : Int)), Is (.agg #[.int .i64 nc, .slice ac kc cc]), PrT (sgnC (seedX xn) j nc tc) 0, PrT (sgnC (seedX xn) j nc tc) 0, SgT (sgnC (seedX xn) j nc tc), Is (.int .i64 0), NewX w5.drew.heap.size, AnyT, Is (.int .i64 0)] [[(0, none)], [(51, some 0)], [(1, none)], [(53, some 2)], [(10, none)], [(52, some 1), (54, some 3), (55, some 4)], [(56, some 5)], [(50, some 6)], [(50, some 6)], [], [(17, some 9), (57, some 7)], [(58, some 8)]] (by kernel_rfl) ?_ ?_ ?_ ?_ ?_
    · intro k R hR hd w'
      have hk : k < 12 := by have := (List.getElem?_eq_some_iff.1 hR).1; simpa using this
      rcases (by omega : k = 0 ∨ k = 1 ∨ k = 2 ∨ k = 3 ∨ k = 4 ∨ k = 5 ∨ k = 6 ∨ k = 7 ∨ k = 8 ∨ k = 9 ∨ k = 10 ∨ k = 11) with rfl | rfl | rfl | rfl | rfl | rfl | rfl | rfl | rfl | rfl | rfl | rfl <;> first | (cases hR; exact trivial) | cases hd
    · simp only [List.mem_cons, List.not_mem_nil, or_false]
      intro R hR
      rcases hR with rfl | rfl | rfl | rfl | rfl | rfl | rfl | rfl | rfl | rfl | rfl | rfl <;> first | exact stableN_is _ | exact stableN_sl _ | exact stableN_any | exact stableN_new _ | exact stableN_sg _ (.inr ⟨by show 3 ≤ (sgnP _ _ _).length; rw [sgnP, ptsP_len]; omega, by show 3 ≤ (pthP _ _ _).length; rw [pthP_len]; omega⟩) | exact stableN_prt _ _ (.inr ⟨by show 3 ≤ (sgnP _ _ _).length; rw [sgnP, ptsP_len]; omega, by show 3 ≤ (pthP _ _ _).length; rw [pthP_len]; omega⟩)
    · exact ⟨Kp.refl _ _, fun h => by simp at h⟩
    · refine steps_consL (fun listed a w hnot hdep hcl hsz hg hn => ?_) ?_
      · have h0 : a.eval (.tmp 0) = .int .i64 xn := hn.1
        clear hn
        have hk := hg.1
        refine wantsG_of1M (fun _ k => .inl k) (fun v w' k => hg.free 0 (by decide) 51 (fun h => absurd h (by decide)) v k) ?_
        refine wants_plain rfl ?_
        exact grown_move (.tmp 0) rfl h0
      refine steps_consL (fun listed a w hnot hdep hcl hsz hg hn => ?_) ?_
      · have h51 : a.eval (.tmp 51) = .int .i64 xn := hn.1
        clear hn
        have hk := hg.1
        refine wantsG_of1M (fun _ k => .inl k) (fun v w' k => hg.free 1 (by decide) 52 (fun h => absurd h (by decide)) v k) ?_
        refine wants_plain rfl ?_
        refine grown_call (f := 11) rfl Tryz.func11 (by kernel_rfl) (by kernel_rfl) ?_
        simp only [List.map_toArray, List.map_cons, List.map_nil, h51]
        refine (xseed_any xn w).mono ?_
        rintro e w' ⟨ao, m, c, rfl, R, K⟩
        exact ⟨_, rfl, K, R.sl⟩
      refine steps_consL (fun listed a w hnot hdep hcl hsz hg hn => ?_) ?_
      · have h1 : a.eval (.tmp 1) = .int .i64 xi := hn.1
        clear hn
        have hk := hg.1
        refine wantsG_of1M (fun _ k => .inl k) (fun v w' k => hg.free 2 (by decide) 53 (fun h => absurd h (by decide)) v k) ?_
        refine wants_plain rfl ?_
        exact grown_move (.tmp 1) rfl h1
      refine steps_consL (fun listed a w hnot hdep hcl hsz hg hn => ?_) ?_
      · have h53 : a.eval (.tmp 53) = .int .i64 xi := hn.1
        clear hn
        have hk := hg.1
        refine wantsG_of1M (fun _ k => .inl k) (fun v w' k => hg.free 3 (by decide) 54 (fun h => absurd h (by decide)) v k) ?_
        refine wants_plain rfl ?_
        refine grown_call (f := 14) rfl Tryz.func14 (by kernel_rfl) (by kernel_rfl) ?_
        simp only [List.map_toArray, List.map_cons, List.map_nil, h53]
        refine (within_wi xi 0 15 w (by omega) (by omega) (by omega)).mono ?_
        rintro e w' ⟨rfl, rfl⟩
        exact ⟨_, rfl, Kp.refl _ _, congrArg (Value.int .i64) (unhide HIE)⟩
      refine steps_consL (fun listed a w hnot hdep hcl hsz hg hn => ?_) ?_
      · have h10 : a.eval (.tmp 10) = .pointer (some ⟨g10, 0, none⟩) := hn.1
        clear hn
        have hk := hg.1
        refine wantsG_of1M (fun _ k => .inl k) (fun v w' k => hg.free 4 (by decide) 55 (fun h => absurd h (by decide)) v k) ?_
        refine wants_plain rfl ?_
        exact grown_loadf 25 (.tmp 10) rfl g10 0 h10 _ _ _ _ (unhide HS10 w hk) [.int .i64 nc, .slice ac kc cc] (flat_in rfl) Tryz.underlying25 rfl Tryz.chkSize rfl
      refine steps_consL (fun listed a w hnot hdep hcl hsz hg hn => ?_) ?_
      · have h52 : Sl w (a.eval (.tmp 52)) (seedX xn) := hn.1
        have h54 : a.eval (.tmp 54) = .int .i64 (j : Int) := hn.2.1
        have h55 : a.eval (.tmp 55) = .agg #[.int .i64 nc, .slice ac kc cc] := hn.2.2.1
        clear hn
        have hk := hg.1
        refine wantsG_of1M (fun _ k => .inl k) (fun v w' k => hg.free 5 (by decide) 56 (fun h => absurd h (by decide)) v k) ?_
        refine wants_plain rfl ?_
        refine grown_call (f := 10) rfl Tryz.func10 (by kernel_rfl) (by kernel_rfl) ?_
        simp only [List.map_toArray, List.map_cons, List.map_nil, h54, h55]
        refine (cksign_ok _ (seedX xn) j _ nc tc w h52 (seedX_bs xn) (seedX_len xn) (unhide HJ) (unhide HCC w hk) (unhide HQ).symm (unhide HGW5 w hk)).mono ?_
        rintro e w' ⟨v, rfl, V, K⟩
        exact ⟨_, rfl, K, ⟨_, rfl, V⟩⟩
      refine steps_consL (fun listed a w hnot hdep hcl hsz hg hn => ?_) ?_
      · have h56 : (PrT (sgnC (seedX xn) j nc tc) 0) (a.eval (.tmp 56)) w := hn.1
        clear hn
        have hk := hg.1
        refine wantsG_of1M (fun _ k => .inl k) (fun v w' k => hg.free 6 (by decide) 50 (fun h => absurd h (by decide)) v k) ?_
        refine wants_plain rfl ?_
        exact grown_move (.tmp 56) rfl h56
      refine steps_consL (fun listed a w hnot hdep hcl hsz hg hn => ?_) ?_
      · have h50 : (PrT (sgnC (seedX xn) j nc tc) 0) (a.eval (.tmp 50)) w := hn.1
        clear hn
        have hk := hg.1
        refine wantsG_of1M (fun _ k => .inl k) (fun v w' k => hg.free 7 (by decide) 57 (fun _ => lstM hcl 10 7 rfl (by decide) hnot) v k) ?_
        refine wants_plain rfl ?_
        exact grown_x0 (.tmp 50) rfl _ _ h50
      refine steps_consL (fun listed a w hnot hdep hcl hsz hg hn => ?_) ?_
      · have h50 : (PrT (sgnC (seedX xn) j nc tc) 0) (a.eval (.tmp 50)) w := hn.1
        clear hn
        have hk := hg.1
        refine wantsG_of1M (fun _ k => .inl k) (fun v w' k => hg.free 8 (by decide) 58 (fun h => absurd h (by decide)) v k) ?_
        refine wants_plain rfl ?_
        exact grown_x1 (.tmp 50) rfl _ _ h50
      refine steps_consL (fun listed a w hnot hdep hcl hsz hg hn => ?_) ?_
      · clear hn
        have hk := hg.1
        refine wantsG_of1M (fun _ k => .inl k) (fun v w' k => hg.free 9 (by decide) 17 (fun _ => lstM hcl 10 9 rfl (by decide) hnot) v k) ?_
        refine wants_plain rfl ?_
        exact grown_newx _ hk.size rfl
      refine steps_consL (fun listed a w hnot hdep hcl hsz hg hn => ?_) ?_
      · have h17 : (NewX w5.drew.heap.size) (a.eval (.tmp 17)) w := hn.1
        have h57 : (SgT (sgnC (seedX xn) j nc tc)) (a.eval (.tmp 57)) w := hn.2.1
        clear hn
        exact hg.st hsz rfl rfl rfl h17 h57
      refine steps_consL (fun listed a w hnot hdep hcl hsz hg hn => ?_) ?_
      · have h58 : a.eval (.tmp 58) = .int .i64 0 := hn.1
        clear hn
        have hk := hg.1
        refine wantsG_of1M (fun _ k => .inl k) (fun v w' k => hg.free 11 (by decide) 18 (fun h => absurd h (by decide)) v k) ?_
        refine wants_plain rfl ?_
        exact grown_assign (.tmp 58) rfl h58
      exact trivial
    intro W2
    rintro _ rfl
    intro v52 h52
    rintro _ rfl
    rintro _ rfl
    rintro _ rfl
    intro v56 h56
    intro v50 h50
    intro v57 h57
    rintro _ rfl
    intro v17 h17
    intro _ _
    rintro _ rfl
    refine fin_nil ?_
    intro listed hall hgg
    obtain ⟨hkW2, hst⟩ := hgg
    obtain ⟨gst, cst, est, evt, Gst⟩ := hst (hall 10 (by decide))
    simp only [Act.put, List.set_cons_zero, List.set_cons_succ, List.setIfInBounds_toArray] at est evt ⊢
    obtain ⟨g17, rfl, -, hbn⟩ := h17
    have hV57 : SgV W2 v57 (sgnC (seedX xn) j nc tc) := h57
    obtain ⟨a4, m4, c4, ap4, np4, cp4, aq4, nq4, cq4, rfl, -, -⟩ := hV57.shape
    have K52 := unhide HD5 W2 hkW2
    have HV2 := hide hV57
    obtain ⟨ny, hny⟩ : ∃ n, n = (sgnC (seedX xn) j nc tc).n := ⟨_, rfl⟩
    obtain ⟨iy, hiy⟩ : ∃ n, n = (sgnC (seedX xn) j nc tc).i := ⟨_, rfl⟩
    rw [← hny, ← hiy] at HV2 evt ⊢
    obtain ⟨w6, hw6⟩ : ∃ w6, w6 = W2 := ⟨_, rfl⟩
    have K56 : Kp [] w5 w6 := by rw [hw6]; exact K52
    have HV6 : Hid (SgV w6 (.agg #[.int .i64 ny, .slice a4 m4 c4, .int .i64 iy, .slice ap4 np4 cp4, .slice aq4 nq4 cq4]) (sgnC (seedX xn) j nc tc)) := by rw [hw6]; exact unhide HV2
    have eg : gst = g17 := by
      have h := est
      simp [Act.eval] at h
      exact h.symm
    have ec : cst = #[.int .i64 ny, .slice a4 m4 c4, .int .i64 iy, .slice ap4 np4 cp4, .slice aq4 nq4 cq4] := by
      have h := evt
      simp [Act.eval] at h
      exact h.symm
    rw [eg, ec] at Gst
    have G6 : w6.heap[g17]? = some (.cells #[.int .i64 ny, .slice a4 m4 c4, .int .i64 iy, .slice ap4 np4 cp4, .slice aq4 nq4 cq4] 30 (0, 0)) := by rw [hw6]; exact Gst
    rw [← hw6]
    clear h52 h56 h50 h57 hV57 hkW2 hny hiy hbn est evt Gst eg ec hall hst hw6
    have HK56 := hide K56
    have HR6 := hide (rckright_any (.agg #[.int .i64 nc, .slice ac kc cc]) nc tc true (unhide HQ) w6 (unhide HC0 w6 ((unhide HK5).trans K56)))
    have x0 : w6.cell? ⟨g10, 0, none⟩ = some (.int .i64 nc) := by rw [cell_of_row _ g10 0 _ _ _ (K56.heap (unhide HG105) (by simp))]; rfl
    have x1 : w6.cell? ⟨g10, 1, none⟩ = some (.slice ac kc cc) := by rw [cell_of_row _ g10 1 _ _ _ (K56.heap (unhide HG105) (by simp))]; rfl
    have HG176 := hide G6
    clear G6 K52 K56 HV2 HD5 HS10 HCC HGW5
    go_wp2_with fail
    refine (unhide HR6).mono ?_
    rintro ee w7 ⟨rfl, K7⟩
    have K58 := (unhide HK56).trans K7
    obtain ⟨w8, hw8⟩ : ∃ w8, w8 = w7 := ⟨_, rfl⟩
    rw [← hw8] at K58 ⊢
    clear HR6 x0 x1 K7 hw8 HK56
    have HK58 := hide K58
    have x0 : w8.cell? ⟨g13, 0, none⟩ = some (.int .i64 n) := by rw [cell_of_row _ g13 0 _ _ _ (K58.heap (unhide HG135) (by simp))]; rfl
    have x1 : w8.cell? ⟨g13, 1, none⟩ = some (.slice a1 m1 c1) := by rw [cell_of_row _ g13 1 _ _ _ (K58.heap (unhide HG135) (by simp))]; rfl
    have x2 : w8.cell? ⟨g13, 2, none⟩ = some (.int .i64 i) := by rw [cell_of_row _ g13 2 _ _ _ (K58.heap (unhide HG135) (by simp))]; rfl
    have x3 : w8.cell? ⟨g13, 3, none⟩ = some (.slice ap1 np1 cp1) := by rw [cell_of_row _ g13 3 _ _ _ (K58.heap (unhide HG135) (by simp))]; rfl
    have x4 : w8.cell? ⟨g13, 4, none⟩ = some (.slice aq1 nq1 cq1) := by rw [cell_of_row _ g13 4 _ _ _ (K58.heap (unhide HG135) (by simp))]; rfl
    have Ga := heap_alloc_new w8 (.cells #[.int .i64 0, .slice none 0 0, .int .i64 0, .slice none 0 0, .slice none 0 0] 30)
    have HKa : Hid (Kp [] w8 (w8.alloc (.cells #[.int .i64 0, .slice none 0 0, .int .i64 0, .slice none 0 0, .slice none 0 0] 30))) := (Kp.refl [] w8).alloc _
    clear K58 HG176 HV6
    go_wp2_with (refine wpList_store_flat rfl 30 (.tmp 19) (.tmp 78) rfl w8.heap.size 0 rfl _ _ [.int .i64 n, .slice a1 m1 c1, .int .i64 i, .slice ap1 np1 cp1, .slice aq1 nq1 cq1] Ga rfl (by simp) Tryz.sgdSize (by simp [Value.oneCell']) #[.int .i64 n, .slice a1 m1 c1, .int .i64 i, .slice ap1 np1 cp1, .slice aq1 nq1 cq1] rfl ?_; intro w9 G9 K9; refine Hid.out ?_)
    obtain ⟨g19, hg19⟩ : ∃ g, g = w8.heap.size := ⟨_, rfl⟩
    have K89 : Kp [] w8 w9 := (unhide HKa).then K9 (fun i hi => .inr (by simp at hi; omega))
    rw [← hg19] at G9 ⊢
    have HG19 := hide hg19
    have HK89 := hide K89
    have y0 : w9.cell? ⟨g10, 0, none⟩ = some (.int .i64 nc) := by rw [cell_of_row _ g10 0 _ _ _ (((unhide HK58).trans K89).heap (unhide HG105) (by simp))]; rfl
    have y1 : w9.cell? ⟨g10, 1, none⟩ = some (.slice ac kc cc) := by rw [cell_of_row _ g10 1 _ _ _ (((unhide HK58).trans K89).heap (unhide HG105) (by simp))]; rfl
    clear Ga HKa K9 K89 hg19 x0 x1 x2 x3 x4
    refine hide ?_
    go_wp2_with (refine wpList_store_flat rfl 25 (.tmp 80) (.tmp 79) rfl g19 0 rfl _ _ [.int .i64 nc, .slice ac kc cc] G9 rfl (by simp) Tryz.chkSize (by simp [Value.oneCell']) #[.int .i64 nc, .slice ac kc cc, .int .i64 i, .slice ap1 np1 cp1, .slice aq1 nq1 cq1] rfl ?_; intro w10 G10 K10; refine Hid.out ?_)
    have K8t : Kp [] w8 w10 := (unhide HK89).then K10 (fun i hi => .inr (by simp at hi; have := unhide HG19; omega))
    have K5t := (unhide HK58).trans K8t
    have HKt := hide ((unhide HK5).trans K5t)
    have HDt : Hid (∀ w', Kp [] w10.drew w' → Kp [] w10 w') := fun w' k' => (kp_drew w10).trans k'
    have hS10 := (unhide HV135).kept K5t
    have hG10 := K5t.heap (unhide HG105) (by simp)
    have hG13 := K5t.heap (unhide HG135) (by simp)
    have hT10 := (unhide HT5).kept K5t (by simp)
    have HF10 : Hid (∀ w', Kp [] w10.drew w' → w'.heap[g10]? = some (.cells #[.int .i64 nc, .slice ac kc cc] 25 (0, 0))) := fun w' k' => (unhide HDt w' k').heap hG10 (by simp)
    have HF13 : Hid (∀ w', Kp [] w10.drew w' → w'.heap[g13]? = some (.cells #[.int .i64 n, .slice a1 m1 c1, .int .i64 i, .slice ap1 np1 cp1, .slice aq1 nq1 cq1] 30 (0, 0))) := fun w' k' => (unhide HDt w' k').heap hG13 (by simp)
    have HF19 : Hid (∀ w', Kp [] w10.drew w' → w'.heap[g19]? = some (.cells #[.int .i64 nc, .slice ac kc cc, .int .i64 i, .slice ap1 np1 cp1, .slice aq1 nq1 cq1] 30 (0, 0))) := fun w' k' => (unhide HDt w' k').heap G10 (by simp)
    have HSF : Hid (∀ w', Kp [] w10.drew w' → SgV w' (.agg #[.int .i64 n, .slice a1 m1 c1, .int .i64 i, .slice ap1 np1 cp1, .slice aq1 nq1 cq1]) s) := fun w' k' => hS10.kept (unhide HDt w' k')
    have HC10 : Hid (∀ w', Kp [] w10.drew w' → CkV w' (.agg #[.int .i64 nc, .slice ac kc cc]) nc tc) := fun w' k' => unhide HC0 w' ((unhide HKt).trans (unhide HDt w' k'))
    have HC13 : Hid (∀ w', Kp [] w10.drew w' → CkV w' (.agg #[.int .i64 n, .slice a1 m1 c1]) n r) := fun w' k' => sgv_ck (unhide HNS) (unhide HRS) (unhide HSF w' k')
    have HTF : Hid (∀ w', Kp [] w10.drew w' → SgV w' (.agg #[.int .i64 nc, .slice ac kc cc, .int .i64 i, .slice ap1 np1 cp1, .slice aq1 nq1 cq1]) ⟨nc, tc, i, s.ps, s.qs⟩) := fun w' k' => sgv_mix (unhide HIS) (unhide HSF w' k') (unhide HC10 w' k')
    have HTP : Hid (∀ w', Kp [] w10.drew w' → Sl w' (.slice at' mt ct) tp) := fun w' k' => hT10.kept (unhide HDt w' k') (by simp)
    have HGF : Hid (∀ w', Kp [] w10.drew w' → Gl w') := fun w' k' => (unhide HG).kept ((unhide HKt).trans (unhide HDt w' k')) (by simp)
    have HBF : Hid (∀ w', Kp [] w10.drew w' → Sl w' (.slice ab nb cb) bs) := fun w' k' => unhide HS0 w' ((unhide HKt).trans (unhide HDt w' k'))
    have HBV : Hid (∀ w', Kp [] w10.drew w' → ∀ k, (Value.slice ab nb cb).ownBlock = some k → k < w'.heap.size) := fun w' k' k hk => Nat.lt_of_lt_of_le (unhide HBO k hk) ((unhide HKt).trans (unhide HDt w' k')).size
    clear G9 K10 y0 y1 K8t K5t hS10 hG10 hG13 hT10 G10 HK58 HK89 HG19
    refine hide ?_
    go_wp2_with fail
    refine region_grow Tryz.mixed [Is (.slice at' mt ct), Is (.agg #[.int .i64 n, .slice a1 m1 c1, .int .i64 i, .slice ap1 np1 cp1, .slice aq1 nq1 cq1]), Is (.bool true), Is (.bool true), Is (.slice at' mt ct), Is (.agg #[.int .i64 nc, .slice ac kc cc, .int .i64 i, .slice ap1 np1 cp1, .slice aq1 nq1 cq1]), Is (.bool true), Is (.bool true), Is (.bool true), Is (.int .i64 xr), SlT (hashX xr), Is (.agg #[.int .i64 n, .slice a1 m1 c1, .int .i64 i, .slice ap1 np1 cp1, .slice aq1 nq1 cq1]), Is (.bool true), Is (.bool true), Is (.bool true), Is (.slice ab nb cb), Is (.bool true), Is (.bool true), Is (.bool true), Is (.pointer (some ⟨g13, 0, none⟩)), Is (.agg #[.int .i64 n, .slice a1 m1 c1]), Is (.agg #[.int .i64 nc, .slice ac kc cc]), Is (.bool bb), Is (.pointer (some ⟨g13, 0, none⟩)), Is (.agg #[.int .i64 n, .slice a1 m1 c1]), Is (.agg #[.int .i64 nc, .slice ac kc cc]), Is (.bool bb), Is (.bool true), Is (.bool true), Is (.bool true), Is (.bool true), Is (.bool true), Is (.bool true)] [[(14, none)], [(13, none)], [(81, some 0), (82, some 1)], [(83, some 2)], [(14, none), (84, some 3)], [(19, none), (84, some 3)], [(85, some 4), (86, some 5), (84, some 3)], [(84, some 3), (87, some 6)], [(88, some 7)], [(3, none), (89, some 8)], [(90, some 9), (89, some 8)], [(13, none), (89, some 8)], [(91, some 10), (92, some 11), (89, some 8)], [(89, some 8), (93, some 12)], [(94, some 13)], [(5, none), (95, some 14)], [(96, some 15), (95, some 14)], [(95, some 14), (97, some 16)], [(98, some 17)], [(13, none), (99, some 18)], [(100, some 19), (99, some 18)], [(10, none), (99, some 18)], [(101, some 20), (102, some 21), (99, some 18)], [(13, none), (99, some 18)], [(104, some 23), (99, some 18)], [(10, none), (99, some 18)], [(105, some 24), (106, some 25), (99, some 18)], [(103, some 22), (107, some 26), (99, some 18)], [(99, some 18), (108, some 27)], [(109, some 28)], [(110, some 29)], [(110, some 29), (111, some 30)], [(112, some 31)]] (by kernel_rfl) ?_ ?_ ?_
    · simp only [List.mem_cons, List.not_mem_nil, or_false]
      intro R hR
      rcases hR with rfl | rfl | rfl | rfl | rfl | rfl | rfl | rfl | rfl | rfl | rfl | rfl | rfl | rfl | rfl | rfl | rfl | rfl | rfl | rfl | rfl | rfl | rfl | rfl | rfl | rfl | rfl | rfl | rfl | rfl | rfl | rfl | rfl <;> first | exact stable_is _ | exact stable_sl _
    · refine steps_cons (fun a w hk hn => ?_) ?_
      · have h14 : a.eval (.tmp 14) = .slice at' mt ct := hn.1
        clear hn
        refine wants_plain rfl ?_
        exact grown_move (.tmp 14) rfl h14
      refine steps_cons (fun a w hk hn => ?_) ?_
      · have h13 : a.eval (.tmp 13) = .pointer (some ⟨g13, 0, none⟩) := hn.1
        clear hn
        refine wants_plain rfl ?_
        exact grown_loadf 30 (.tmp 13) rfl g13 0 h13 _ _ _ _ (unhide HF13 w hk) [.int .i64 n, .slice a1 m1 c1, .int .i64 i, .slice ap1 np1 cp1, .slice aq1 nq1 cq1] (flat_in rfl) Tryz.underlying30 rfl Tryz.sgdSize rfl
      refine steps_cons (fun a w hk hn => ?_) ?_
      · have h81 : a.eval (.tmp 81) = .slice at' mt ct := hn.1
        have h82 : a.eval (.tmp 82) = .agg #[.int .i64 n, .slice a1 m1 c1, .int .i64 i, .slice ap1 np1 cp1, .slice aq1 nq1 cq1] := hn.2.1
        clear hn
        refine wants_plain rfl ?_
        refine grown_call (f := 7) rfl Tryz.func7 (by kernel_rfl) (by kernel_rfl) ?_
        simp only [List.map_toArray, List.map_cons, List.map_nil, h81, h82]
        refine (lsame_any _ tp _ s w (unhide HTP w hk) (unhide HTB) (unhide HSF w hk) (unhide HSI) (unhide HGF w hk)).mono ?_
        rintro e w' ⟨rfl, K⟩
        exact ⟨_, rfl, K, rfl⟩
      refine steps_cons (fun a w hk hn => ?_) ?_
      · have h83 : a.eval (.tmp 83) = .bool true := hn.1
        clear hn
        refine wants_plain rfl ?_
        exact grown_move (.tmp 83) rfl h83
      refine steps_cons (fun a w hk hn => ?_) ?_
      · have h14 : a.eval (.tmp 14) = .slice at' mt ct := hn.1
        have h84 : a.eval (.tmp 84) = .bool true := hn.2.1
        clear hn
        refine wants_guard (d := 84) rfl rfl h84 ?_
        exact grown_move (.tmp 14) rfl h14
      refine steps_cons (fun a w hk hn => ?_) ?_
      · have h19 : a.eval (.tmp 19) = .pointer (some ⟨g19, 0, none⟩) := hn.1
        have h84 : a.eval (.tmp 84) = .bool true := hn.2.1
        clear hn
        refine wants_guard (d := 84) rfl rfl h84 ?_
        exact grown_loadf 30 (.tmp 19) rfl g19 0 h19 _ _ _ _ (unhide HF19 w hk) [.int .i64 nc, .slice ac kc cc, .int .i64 i, .slice ap1 np1 cp1, .slice aq1 nq1 cq1] (flat_in rfl) Tryz.underlying30 rfl Tryz.sgdSize rfl
      refine steps_cons (fun a w hk hn => ?_) ?_
      · have h85 : a.eval (.tmp 85) = .slice at' mt ct := hn.1
        have h86 : a.eval (.tmp 86) = .agg #[.int .i64 nc, .slice ac kc cc, .int .i64 i, .slice ap1 np1 cp1, .slice aq1 nq1 cq1] := hn.2.1
        have h84 : a.eval (.tmp 84) = .bool true := hn.2.2.1
        clear hn
        refine wants_guard (d := 84) rfl rfl h84 ?_
        refine grown_call (f := 7) rfl Tryz.func7 (by kernel_rfl) (by kernel_rfl) ?_
        simp only [List.map_toArray, List.map_cons, List.map_nil, h85, h86]
        refine (lsame_any _ tp _ ⟨nc, tc, i, s.ps, s.qs⟩ w (unhide HTP w hk) (unhide HTB) (unhide HTF w hk) (unhide HSI2) (unhide HGF w hk)).mono ?_
        rintro e w' ⟨rfl, K⟩
        exact ⟨_, rfl, K, rfl⟩
      refine steps_cons (fun a w hk hn => ?_) ?_
      · have h84 : a.eval (.tmp 84) = .bool true := hn.1
        have h87 : a.eval (.tmp 87) = .bool true := hn.2.1
        clear hn
        refine wants_plain rfl ?_
        exact grown_pick _ _ _ true rfl h84 h87
      refine steps_cons (fun a w hk hn => ?_) ?_
      · have h88 : a.eval (.tmp 88) = .bool true := hn.1
        clear hn
        refine wants_plain rfl ?_
        exact grown_move (.tmp 88) rfl h88
      refine steps_cons (fun a w hk hn => ?_) ?_
      · have h3 : a.eval (.tmp 3) = .int .i64 xr := hn.1
        have h89 : a.eval (.tmp 89) = .bool true := hn.2.1
        clear hn
        refine wants_guard (d := 89) rfl rfl h89 ?_
        exact grown_move (.tmp 3) rfl h3
      refine steps_cons (fun a w hk hn => ?_) ?_
      · have h90 : a.eval (.tmp 90) = .int .i64 xr := hn.1
        have h89 : a.eval (.tmp 89) = .bool true := hn.2.1
        clear hn
        refine wants_guard (d := 89) rfl rfl h89 ?_
        refine grown_call (f := 17) rfl Tryz.func17 (by kernel_rfl) (by kernel_rfl) ?_
        simp only [List.map_toArray, List.map_cons, List.map_nil, h90]
        refine (xhash_any xr w).mono ?_
        rintro e w' ⟨ao, m, c, rfl, R, K⟩
        exact ⟨_, rfl, K, R.sl⟩
      refine steps_cons (fun a w hk hn => ?_) ?_
      · have h13 : a.eval (.tmp 13) = .pointer (some ⟨g13, 0, none⟩) := hn.1
        have h89 : a.eval (.tmp 89) = .bool true := hn.2.1
        clear hn
        refine wants_guard (d := 89) rfl rfl h89 ?_
        exact grown_loadf 30 (.tmp 13) rfl g13 0 h13 _ _ _ _ (unhide HF13 w hk) [.int .i64 n, .slice a1 m1 c1, .int .i64 i, .slice ap1 np1 cp1, .slice aq1 nq1 cq1] (flat_in rfl) Tryz.underlying30 rfl Tryz.sgdSize rfl
      refine steps_cons (fun a w hk hn => ?_) ?_
      · have h91 : Sl w (a.eval (.tmp 91)) (hashX xr) := hn.1
        have h92 : a.eval (.tmp 92) = .agg #[.int .i64 n, .slice a1 m1 c1, .int .i64 i, .slice ap1 np1 cp1, .slice aq1 nq1 cq1] := hn.2.1
        have h89 : a.eval (.tmp 89) = .bool true := hn.2.2.1
        clear hn
        refine wants_guard (d := 89) rfl rfl h89 ?_
        refine grown_call (f := 7) rfl Tryz.func7 (by kernel_rfl) (by kernel_rfl) ?_
        simp only [List.map_toArray, List.map_cons, List.map_nil, h92]
        refine (lsame_any _ (hashX xr) _ s w h91 (hashX_bs xr) (unhide HSF w hk) (unhide HSI) (unhide HGF w hk)).mono ?_
        rintro e w' ⟨rfl, K⟩
        exact ⟨_, rfl, K, rfl⟩
      refine steps_cons (fun a w hk hn => ?_) ?_
      · have h89 : a.eval (.tmp 89) = .bool true := hn.1
        have h93 : a.eval (.tmp 93) = .bool true := hn.2.1
        clear hn
        refine wants_plain rfl ?_
        exact grown_pick _ _ _ true rfl h89 h93
      refine steps_cons (fun a w hk hn => ?_) ?_
      · have h94 : a.eval (.tmp 94) = .bool true := hn.1
        clear hn
        refine wants_plain rfl ?_
        exact grown_move (.tmp 94) rfl h94
      refine steps_cons (fun a w hk hn => ?_) ?_
      · have h5 : a.eval (.tmp 5) = .slice ab nb cb := hn.1
        have h95 : a.eval (.tmp 95) = .bool true := hn.2.1
        clear hn
        refine wants_guard (d := 95) rfl rfl h95 ?_
        exact grown_move (.tmp 5) rfl h5
      refine steps_cons (fun a w hk hn => ?_) ?_
      · have h96 : a.eval (.tmp 96) = .slice ab nb cb := hn.1
        have h95 : a.eval (.tmp 95) = .bool true := hn.2.1
        clear hn
        refine wants_guard (d := 95) rfl rfl h95 ?_
        refine grown_call (f := 9) rfl Tryz.func9 (by kernel_rfl) (by kernel_rfl) ?_
        simp only [List.map_toArray, List.map_cons, List.map_nil, h96]
        refine (lreads_any _ bs w (unhide HBF w hk) (unhide HB) (unhide HBL) (unhide HBV w hk)).mono ?_
        rintro e w' ⟨rfl, K⟩
        exact ⟨_, rfl, K, rfl⟩
      refine steps_cons (fun a w hk hn => ?_) ?_
      · have h95 : a.eval (.tmp 95) = .bool true := hn.1
        have h97 : a.eval (.tmp 97) = .bool true := hn.2.1
        clear hn
        refine wants_plain rfl ?_
        exact grown_pick _ _ _ true rfl h95 h97
      refine steps_cons (fun a w hk hn => ?_) ?_
      · have h98 : a.eval (.tmp 98) = .bool true := hn.1
        clear hn
        refine wants_plain rfl ?_
        exact grown_move (.tmp 98) rfl h98
      refine steps_cons (fun a w hk hn => ?_) ?_
      · have h13 : a.eval (.tmp 13) = .pointer (some ⟨g13, 0, none⟩) := hn.1
        have h99 : a.eval (.tmp 99) = .bool true := hn.2.1
        clear hn
        refine wants_guard (d := 99) rfl rfl h99 ?_
        refine grown_run (v := .pointer (some ⟨g13, 0, none⟩)) ?_ (Kp.refl _ _) rfl
        obtain ⟨ρ, hρ, hc, hf, hg⟩ := eval_is a
        rw [hρ] at h13 ⊢
        simp [go_sem, h13]
      refine steps_cons (fun a w hk hn => ?_) ?_
      · have h100 : a.eval (.tmp 100) = .pointer (some ⟨g13, 0, none⟩) := hn.1
        have h99 : a.eval (.tmp 99) = .bool true := hn.2.1
        clear hn
        refine wants_guard (d := 99) rfl rfl h99 ?_
        exact grown_loadf 25 (.tmp 100) rfl g13 0 h100 _ _ _ _ (unhide HF13 w hk) [.int .i64 n, .slice a1 m1 c1] (flat_in rfl) Tryz.underlying25 rfl Tryz.chkSize rfl
      refine steps_cons (fun a w hk hn => ?_) ?_
      · have h10 : a.eval (.tmp 10) = .pointer (some ⟨g10, 0, none⟩) := hn.1
        have h99 : a.eval (.tmp 99) = .bool true := hn.2.1
        clear hn
        refine wants_guard (d := 99) rfl rfl h99 ?_
        exact grown_loadf 25 (.tmp 10) rfl g10 0 h10 _ _ _ _ (unhide HF10 w hk) [.int .i64 nc, .slice ac kc cc] (flat_in rfl) Tryz.underlying25 rfl Tryz.chkSize rfl
      refine steps_cons (fun a w hk hn => ?_) ?_
      · have h101 : a.eval (.tmp 101) = .agg #[.int .i64 n, .slice a1 m1 c1] := hn.1
        have h102 : a.eval (.tmp 102) = .agg #[.int .i64 nc, .slice ac kc cc] := hn.2.1
        have h99 : a.eval (.tmp 99) = .bool true := hn.2.2.1
        clear hn
        refine wants_guard (d := 99) rfl rfl h99 ?_
        refine grown_call (f := 18) rfl Tryz.func18 (by kernel_rfl) (by kernel_rfl) ?_
        simp only [List.map_toArray, List.map_cons, List.map_nil, h101, h102]
        refine (cksame_any _ _ n nc r tc bb (unhide HBBe) w (unhide HC13 w hk) (unhide HC10 w hk)).mono ?_
        rintro e w' ⟨rfl, K⟩
        exact ⟨_, rfl, K, rfl⟩
      refine steps_cons (fun a w hk hn => ?_) ?_
      · have h13 : a.eval (.tmp 13) = .pointer (some ⟨g13, 0, none⟩) := hn.1
        have h99 : a.eval (.tmp 99) = .bool true := hn.2.1
        clear hn
        refine wants_guard (d := 99) rfl rfl h99 ?_
        refine grown_run (v := .pointer (some ⟨g13, 0, none⟩)) ?_ (Kp.refl _ _) rfl
        obtain ⟨ρ, hρ, hc, hf, hg⟩ := eval_is a
        rw [hρ] at h13 ⊢
        simp [go_sem, h13]
      refine steps_cons (fun a w hk hn => ?_) ?_
      · have h104 : a.eval (.tmp 104) = .pointer (some ⟨g13, 0, none⟩) := hn.1
        have h99 : a.eval (.tmp 99) = .bool true := hn.2.1
        clear hn
        refine wants_guard (d := 99) rfl rfl h99 ?_
        exact grown_loadf 25 (.tmp 104) rfl g13 0 h104 _ _ _ _ (unhide HF13 w hk) [.int .i64 n, .slice a1 m1 c1] (flat_in rfl) Tryz.underlying25 rfl Tryz.chkSize rfl
      refine steps_cons (fun a w hk hn => ?_) ?_
      · have h10 : a.eval (.tmp 10) = .pointer (some ⟨g10, 0, none⟩) := hn.1
        have h99 : a.eval (.tmp 99) = .bool true := hn.2.1
        clear hn
        refine wants_guard (d := 99) rfl rfl h99 ?_
        exact grown_loadf 25 (.tmp 10) rfl g10 0 h10 _ _ _ _ (unhide HF10 w hk) [.int .i64 nc, .slice ac kc cc] (flat_in rfl) Tryz.underlying25 rfl Tryz.chkSize rfl
      refine steps_cons (fun a w hk hn => ?_) ?_
      · have h105 : a.eval (.tmp 105) = .agg #[.int .i64 n, .slice a1 m1 c1] := hn.1
        have h106 : a.eval (.tmp 106) = .agg #[.int .i64 nc, .slice ac kc cc] := hn.2.1
        have h99 : a.eval (.tmp 99) = .bool true := hn.2.2.1
        clear hn
        refine wants_guard (d := 99) rfl rfl h99 ?_
        refine grown_call (f := 19) rfl Tryz.func19 (by kernel_rfl) (by kernel_rfl) ?_
        simp only [List.map_toArray, List.map_cons, List.map_nil, h105, h106]
        refine (rcksame_any _ _ n nc r tc bb (unhide HBBe) w (unhide HC13 w hk) (unhide HC10 w hk)).mono ?_
        rintro e w' ⟨rfl, K⟩
        exact ⟨_, rfl, K, rfl⟩
      refine steps_cons (fun a w hk hn => ?_) ?_
      · have h103 : a.eval (.tmp 103) = .bool bb := hn.1
        have h107 : a.eval (.tmp 107) = .bool bb := hn.2.1
        have h99 : a.eval (.tmp 99) = .bool true := hn.2.2.1
        clear hn
        refine wants_guard (d := 99) rfl rfl h99 ?_
        refine grown_run (v := .bool true) ?_ (Kp.refl _ _) rfl
        obtain ⟨ρ, hρ, hc, hf, hg⟩ := eval_is a
        rw [hρ] at h103 h107 ⊢
        simp [go_sem, h103, h107]
      refine steps_cons (fun a w hk hn => ?_) ?_
      · have h99 : a.eval (.tmp 99) = .bool true := hn.1
        have h108 : a.eval (.tmp 108) = .bool true := hn.2.1
        clear hn
        refine wants_plain rfl ?_
        exact grown_pick _ _ _ true rfl h99 h108
      refine steps_cons (fun a w hk hn => ?_) ?_
      · have h109 : a.eval (.tmp 109) = .bool true := hn.1
        clear hn
        refine wants_plain rfl ?_
        exact grown_move (.tmp 109) rfl h109
      refine steps_cons (fun a w hk hn => ?_) ?_
      · have h110 : a.eval (.tmp 110) = .bool true := hn.1
        clear hn
        refine wants_guard (d := 110) rfl rfl h110 ?_
        refine grown_call (f := 12) rfl Tryz.func12 (by kernel_rfl) (by kernel_rfl) ?_
        simp only [List.map_toArray, List.map_nil]
        refine (xknown_any w (unhide HGF w hk)).mono ?_
        rintro e w' ⟨rfl, K⟩
        exact ⟨_, rfl, K, rfl⟩
      refine steps_cons (fun a w hk hn => ?_) ?_
      · have h110 : a.eval (.tmp 110) = .bool true := hn.1
        have h111 : a.eval (.tmp 111) = .bool true := hn.2.1
        clear hn
        refine wants_plain rfl ?_
        exact grown_pick _ _ _ true rfl h110 h111
      refine steps_cons (fun a w hk hn => ?_) ?_
      · have h112 : a.eval (.tmp 112) = .bool true := hn.1
        clear hn
        refine wants_plain rfl ?_
        exact grown_assign (.tmp 112) rfl h112
      exact trivial
    intro W3 hkW3
    rintro _ rfl
    rintro _ rfl
    rintro _ rfl
    rintro _ rfl
    rintro _ rfl
    rintro _ rfl
    rintro _ rfl
    rintro _ rfl
    rintro _ rfl
    rintro _ rfl
    intro v91 h91
    rintro _ rfl
    rintro _ rfl
    rintro _ rfl
    rintro _ rfl
    rintro _ rfl
    rintro _ rfl
    rintro _ rfl
    rintro _ rfl
    rintro _ rfl
    rintro _ rfl
    rintro _ rfl
    rintro _ rfl
    rintro _ rfl
    rintro _ rfl
    rintro _ rfl
    rintro _ rfl
    rintro _ rfl
    rintro _ rfl
    rintro _ rfl
    rintro _ rfl
    rintro _ rfl
    rintro _ rfl
    refine fin_nil ?_
    simp only [Act.put, List.set_cons_zero, List.set_cons_succ, List.setIfInBounds_toArray]
    go_wp2_with fail
    go_ret
    exact ⟨rfl, ((unhide HKt).trans (unhide HDt W3 hkW3)).below (Nat.le_refl _) (by simp)⟩

set_option maxRecDepth 100000 in
theorem lifted (os : Os) (started : os.Started) (H : Type) (enc : TypeId × Value → H) :
    ReturnsInHanded {} Tryz.checked os 4 .any (fun w args => (Rows.checkTellsSpec.pre enc Tryz.prog Tryz.f4 [] false w args ∧ laidMetH Tryz.prog laid1 w) ∧ sizedMet enc Tryz.prog Tryz.f4 (OpenSpec.ofChange Rows.checkTellsSpec) false w args) (Rows.checkTellsSpec.post enc Tryz.prog Tryz.f4 false true false false) := by
  refine returnsInHanded_of_change_and (C := Tryz.checked) (X := fun w _ => laidMetH Tryz.prog laid1 w) (fun _ _ _ hh h => h.of_heap hh) own started (by kernel_rfl) Tryz.func4
    (ChangeSpec.witness_shaped (enc := enc) (C := Tryz.checked) (os := os) (X := fun w _ => laidMetH Tryz.prog laid1 w) false (World.doorLaid Tryz.prog 400 os) #[.int .i64 0, .int .i64 0, .int .i64 0, .int .i64 0, .agg #[.int .i64 0, .slice none 0 0], .slice none 0 0] 8 rfl (World.shaped_of_RefB (by kernel_rfl) (by kernel_rfl)) (by kernel_rfl) (by kernel_rfl) (by kernel_rfl) (door_met os _)) ?_
  intro W base args ds gs before hval0 hW hcnd hsz0 hL _
  have hG := gl_of_laid hL
  have hsz : (DataW.weightsEach Tryz.prog (Tryz.f4.params.toList ++ Rows.checkTellsSpec.plain.varTypes Tryz.prog) (ds ++ gs)).all (· ≤ reachBytes) = true := hsz0
  have hval : ∀ (j : Nat) t v, Tryz.f4.params[j]? = some t → args[j]? = some v → Value.okWide Tryz.prog W .any base t v := hval0
  have hW' := hW
  obtain ⟨p, q, hA0, hV, rfl, hfz, hnd⟩ := hW
  have hA : DataW.TrodAll enc Tryz.prog W 0 (fun _ => true) true Tryz.f4.params.toList args.toList ds p := hA0
  rw [Tryz.params4] at hA hval hsz
  obtain ⟨v0, vs0, d0, ds0, p0, q0, hargs, rfl, rfl, h0, r0⟩ := trodAll_cons hA
  obtain ⟨v1, vs1, d1, ds1, p1, q1, rfl, rfl, rfl, h1, r1⟩ := trodAll_cons r0
  obtain ⟨v2, vs2, d2, ds2, p2, q2, rfl, rfl, rfl, h2, r2⟩ := trodAll_cons r1
  obtain ⟨v3, vs3, d3, ds3, p3, q3, rfl, rfl, rfl, h3, r3⟩ := trodAll_cons r2
  obtain ⟨v4, vs4, d4, ds4, p4, q4, rfl, rfl, rfl, h4, r4⟩ := trodAll_cons r3
  obtain ⟨v5, vs5, d5, ds5, p5, q5, rfl, rfl, rfl, h5, r5⟩ := trodAll_cons r4
  obtain ⟨rfl, rfl, rfl⟩ := trodAll_nil r5
  obtain rfl : args = #[v0, v1, v2, v3, v4, v5] := by cases args; simp_all
  obtain ⟨rfl, rfl⟩ := trodVars_none hV
  obtain ⟨a0, rfl, rfl, rfl, w0⟩ := open_int Tryz.underlying3 (hval 0 3 v0 rfl rfl) h0
  obtain ⟨a1, rfl, rfl, rfl, w1⟩ := open_int Tryz.underlying3 (hval 1 3 v1 rfl rfl) h1
  obtain ⟨a2, rfl, rfl, rfl, w2⟩ := open_int Tryz.underlying3 (hval 2 3 v2 rfl rfl) h2
  obtain ⟨a3, rfl, rfl, rfl, w3⟩ := open_int Tryz.underlying3 (hval 3 3 v3 rfl rfl) h3
  have k4 := h4
  have lt4 : ∀ x ∈ p4, x.block < W.heap.size := by obtain ⟨m, hm⟩ := k4; exact DataW.trod_lt m _ _ _ hm
  obtain ⟨n4, l4, s4, z4⟩ := chk_open (hval 4 25 v4 rfl rfl) h4
  obtain ⟨a5, len5, cap5, rfl⟩ := okWide_slice Tryz.underlying23 (hval 5 23 v5 rfl rfl)
  have k5 := h5
  have lt5 : ∀ x ∈ p5, x.block < W.heap.size := by obtain ⟨m, hm⟩ := k5; exact DataW.trod_lt m _ _ _ hm
  obtain ⟨l5, s5, b5⟩ : ∃ bs, Sl W (.slice a5 len5 cap5) bs ∧ Bs bs := by
    obtain ⟨fuel, hf⟩ := h5
    exact bytes_of_trod (by simpa [Value.cells] using hf)
  have z5 : l5.length ≤ 140737488351232 := by
    obtain ⟨fuel, hf⟩ := k5
    exact sl_len s5 (reach_bytes (j := 5) (by simpa [Value.cells] using hf) hsz rfl rfl)
  have ow5 := own_lt (hval 5 23 (.slice a5 len5 cap5) rfl rfl)
  clear hA0 hval0
  refine (walk a0 a1 a2 a3 v4 n4 l4 (.slice a5 len5 cap5) l5 W hG (bounds_i64 w0) (bounds_i64 w1) (bounds_i64 w2) (bounds_i64 w3) s4 z4 s5 b5 z5 ow5).mono fun e W' ⟨he, bel⟩ => ?_
  subst he
  exact ⟨_, rfl, _, _, _, [], _, [], hW', trodAll_mk1 (shut_bool Tryz.underlying4 _), (trodAll_cons_mk (shut_int Tryz.underlying3 w0) (trodAll_cons_mk (shut_int Tryz.underlying3 w1) (trodAll_cons_mk (shut_int Tryz.underlying3 w2) (trodAll_cons_mk (shut_int Tryz.underlying3 w3) (trodAll_cons_mk (Below.trod laidOut (by kernel_rfl) (of_decide_eq_true (by kernel_rfl)) k4 bel lt4) (trodAll_cons_mk (Below.trod laidOut (by kernel_rfl) (of_decide_eq_true (by kernel_rfl)) k5 bel lt5) trodAll_mk0)))))), rfl, bel.frame _, fun h => by cases h⟩

theorem over : Rows.checkTellsRow.holds Tryz.pinned (OpenSpec.ofChange Rows.checkTellsSpec) :=
  OpenClaim.holds_of_wide 4 Tryz.f4 rfl rfl rfl rfl rfl rfl rfl ⟨rfl, rfl, rfl, rfl, rfl⟩ rfl rfl rfl rfl rfl (by kernel_rfl) Tryz.func4 (by kernel_rfl)
    (of_decide_eq_true (by kernel_rfl)) (by unfold Func.isWrapper; first | (rw [if_pos (by decide +kernel)]; kernel_rfl) | (rw [if_neg (by decide +kernel)]; exact ⟨rfl, rfl⟩))
    (fun os started H enc _ => lifted os started H enc)
end Go.Proofs.YtbkipibmaghejaaGreatDoor.checkTells

namespace Go.Proofs.YtbkipibmaghejaaGreatDoor
/-- The given statement: the tied card. -/
theorem CheckTells_holds : Rows.CheckTellsCardSaid :=
  Claim7.holds_tied_plain_at .later [] [.data] true Rows.checkTellsCard.stood.harness false
    checkTells.over (fun _ h => by cases h) (by kernel_rfl) (fun _ h => by cases h) checkTells_row_tie rfl ⟨rfl, rfl⟩ (by kernel_rfl) rfl
    (fun f fn hf hfn => by
      obtain rfl : f = 4 := Option.some.inj ((show Tryz.prog.funcNamed "broadsheet/broadsheetlaw10.CheckTells" = some 4 by kernel_rfl).symm.trans hf) |>.symm
      obtain rfl : fn = Tryz.f4 := (Option.some.inj (Tryz.func4.symm.trans hfn)).symm
      exact ⟨by kernel_rfl, fun j t ht => by
        rw [Tryz.params4] at ht
        have hm : t ∈ ([3, 3, 3, 3, 25, 23] : List TypeId) := by simpa using Array.mem_of_getElem? ht
        have hall : (([3, 3, 3, 3, 25, 23] : List TypeId).all fun u => !Tryz.prog.wantsStandIn u) = true := by kernel_rfl
        exact (show Tryz.prog.wantsStandIn t = false by simpa using List.all_eq_true.1 hall t hm)⟩)
    (by kernel_rfl)
#print axioms CheckTells_holds
end Go.Proofs.YtbkipibmaghejaaGreatDoor
