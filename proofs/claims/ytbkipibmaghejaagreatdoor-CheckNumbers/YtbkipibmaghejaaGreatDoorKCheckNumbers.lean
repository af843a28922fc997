/-
  The statement CheckNumbersCardSaid: the law function CheckNumbers returns true; the table hash.roundWords starts as the program's text lays it (tied). No other condition.
-/
import Derived.Test.YtbkipibmaghejaaGreatDoorKXLawS
import Derived.Test.YtbkipibmaghejaaGreatDoorKXLawR
import Derived.Test.YtbkipibmaghejaaGreatDoorKXLaws
import Derived.Test.YtbkipibmaghejaaGreatDoorKLReach
import Derived.Test.YtbkipibmaghejaaGreatDoorKLSpot
import Derived.Test.YtbkipibmaghejaaGreatDoorKLMarks
import Derived.Test.YtbkipibmaghejaaGreatDoorKRGrowX
import Derived.Test.YtbkipibmaghejaaGreatDoorKHSmalls
import Derived.Test.YtbkipibmaghejaaGreatDoorTie
import Derived.Test.YtbkipibmaghejaaGreatDoorCards
import Derived.SevenTiedAt
namespace Go.Proofs.YtbkipibmaghejaaGreatDoor.checkNumbers
open Go.ChangeShapes Go.WideShapes Go.ChangeAt Go.RowKit
open Go.Proofs.YtbkipibmaghejaaGreatDoor
set_option linter.unusedVariables false

theorem bs_take {bs : List Int} (n : Nat) (h : Bs bs) : Bs (bs.take n) := fun b hb => h b (List.mem_of_mem_take hb)
theorem bs_zeros (n : Nat) : Bs (List.replicate n 0) := fun b hb => by have := List.eq_of_mem_replicate hb; omega
/-- a pair: a signed checkpoint, and why not. -/
def PrT (s : Sg) (e : Int) : Tell := fun v w => ∃ x, v = .tuple #[x, .int .i64 e] ∧ SgV w x s
theorem stable_prt (s : Sg) (e : Int) : Tell.stable (PrT s e) := fun _ _ _ k ⟨x, h1, h2⟩ => ⟨x, h1, h2.kept k⟩
theorem grown_x0 {o : Oper} {a : Act} {w : World} (x : Operand) (ho : o.op = .extract x 0) (s : Sg) (e : Int) (h : PrT s e (a.eval x) w) : grown Tryz.prog w (SgT s) ((execOp a.eval o).run Tryz.prog w) := by
  obtain ⟨y, h1, h2⟩ := h
  refine grown_run (v := y) ?_ (Kp.refl _ _) h2
  obtain ⟨ρ, hρ, _⟩ := eval_is a
  rw [hρ] at h1 ⊢
  unfold execOp
  simp only [ho]
  simp [go_sem, h1]
theorem grown_x1 {o : Oper} {a : Act} {w : World} (x : Operand) (ho : o.op = .extract x 1) (s : Sg) (e : Int) (h : PrT s e (a.eval x) w) : grown Tryz.prog w (Is (.int .i64 e)) ((execOp a.eval o).run Tryz.prog w) := by
  obtain ⟨y, h1, h2⟩ := h
  refine grown_run (v := .int .i64 e) ?_ (Kp.refl _ _) rfl
  obtain ⟨ρ, hρ, _⟩ := eval_is a
  rw [hρ] at h1 ⊢
  unfold execOp
  simp only [ho]
  simp [go_sem, h1]
/-- a new signed checkpoint's place. -/
def NewS (s0 : Nat) : Tell := fun v w => ∃ g, v = .pointer (some ⟨g, 0, none⟩) ∧ w.heap[g]? = some (.cells #[.int .i64 0, .slice none 0 0, .int .i64 0, .slice none 0 0, .slice none 0 0] 30) ∧ s0 ≤ g
theorem stable_news (s0 : Nat) : Tell.stable (NewS s0) := fun _ _ _ k ⟨g, e, h1, h2⟩ => ⟨g, e, k.heap h1 (by simp), h2⟩
theorem grown_news {o : Oper} {a : Act} {w : World} (s0 : Nat) (hs : s0 ≤ w.heap.size) (ho : o.op = .alloc 30) : grown Tryz.prog w (NewS s0) ((execOp a.eval o).run Tryz.prog w) := by
  refine grown_run (v := .pointer (some ⟨w.heap.size, 0, none⟩)) (w' := w.alloc (.cells #[.int .i64 0, .slice none 0 0, .int .i64 0, .slice none 0 0, .slice none 0 0] 30)) ?_ ((Kp.refl [] w).alloc _) ⟨_, rfl, heap_alloc_new w _, hs⟩
  unfold execOp
  simp only [ho]
  simp [go_sem]
theorem sg0_off {w w' : World} {v : Value} (h : SgV w v sg0) : SgV w' v sg0 := by
  obtain ⟨a, m, c, vp, vq, e, h1, vp', vq', lp, lq, e', k1, k2, k3, k4⟩ := h
  have hp : lp = [] := List.map_eq_nil_iff.1 k2
  have hq : lq = [] := List.map_eq_nil_iff.1 k4
  subst hp
  subst hq
  obtain ⟨ap, cp, rfl, q1, -⟩ := k1
  obtain ⟨aq, cq, rfl, q2, -⟩ := k3
  exact ⟨a, m, c, vp, vq, e, ⟨sl_empty h1.1, h1.2⟩, _, _, [], [], e', ⟨ap, cp, rfl, q1, fun i hi => by cases hi⟩, rfl, ⟨aq, cq, rfl, q2, fun i hi => by cases hi⟩, rfl⟩
def AnyT : Tell := fun _ _ => True
/-- a block that holds a signed checkpoint. -/
def IsSg (w : World) (g : Nat) : Prop := ∃ (x y : Int) (a1 : Option Addr) (n1 c1 : Nat) (a2 : Option Addr) (n2 c2 : Nat) (a3 : Option Addr) (n3 c3 : Nat), w.heap[g]? = some (.cells #[.int .i64 x, .slice a1 n1 c1, .int .i64 y, .slice a2 n2 c2, .slice a3 n3 c3] 30 (0, 0))
/-- nothing old was changed, but for one signed checkpoint from B on. -/
def KN (B : Nat) (w w' : World) : Prop := Kp [] w w' ∨ ∃ g, B ≤ g ∧ IsSg w g ∧ IsSg w' g ∧ Kp [g] w w'
def NewX (B : Nat) : Tell := fun v w => ∃ g, v = .pointer (some ⟨g, 0, none⟩) ∧ IsSg w g ∧ B ≤ g
theorem stableN_any {B : Nat} : Tell.stableG (KN B) AnyT := fun _ _ _ _ h => h
theorem stableN_is {B : Nat} (c : Value) : Tell.stableG (KN B) (Is c) := fun _ _ _ _ h => h
theorem stableN_sl {B : Nat} (bs : List Int) : Tell.stableG (KN B) (SlT bs) := fun v w w' k h => by
  have h0 : Sl w v bs := h
  rcases k with k | ⟨g, _, hs, _, k⟩
  · exact h0.kept k (by simp)
  · obtain ⟨ao, c, rfl, -⟩ := id h0
    obtain ⟨x, y, a1, n1, c1, a2, n2, c2, a3, n3, c3, hg⟩ := hs
    exact Sl.offBy h0 (noBy_sgd hg) k
theorem keepN {B : Nat} {w w' : World} {v : Value} {s : Sg} (hs : s = sg0 ∨ (3 ≤ s.ps.length ∧ 3 ≤ s.qs.length)) (k : KN B w w') (h : SgV w v s) : SgV w' v s := by
  rcases k with k | ⟨g, _, hg, _, k⟩
  · exact h.kept k
  · rcases hs with rfl | hs
    · exact sg0_off h
    · obtain ⟨x, y, a1, n1, c1, a2, n2, c2, a3, n3, c3, hg⟩ := hg
      exact sg_off5 hg k h hs.1 hs.2
theorem stableN_sg {B : Nat} (s : Sg) (hs : s = sg0 ∨ (3 ≤ s.ps.length ∧ 3 ≤ s.qs.length)) : Tell.stableG (KN B) (SgT s) := fun _ _ _ k h => keepN hs k h
theorem stableN_prt {B : Nat} (s : Sg) (e : Int) (hs : s = sg0 ∨ (3 ≤ s.ps.length ∧ 3 ≤ s.qs.length)) : Tell.stableG (KN B) (PrT s e) := fun _ _ _ k ⟨x, h1, h2⟩ => ⟨x, h1, keepN hs k h2⟩
theorem stableN_new {B : Nat} (B' : Nat) : Tell.stableG (KN B) (NewX B') := fun v w w' k ⟨g, e, h1, h2⟩ => by
  rcases k with k | ⟨g', _, hg, hg', k⟩
  · obtain ⟨x, y, a1, n1, c1, a2, n2, c2, a3, n3, c3, h⟩ := h1
    exact ⟨g, e, ⟨x, y, a1, n1, c1, a2, n2, c2, a3, n3, c3, k.heap h (by simp)⟩, h2⟩
  · by_cases hh : g = g'
    · rw [hh] at e h2; exact ⟨g', e, hg', h2⟩
    · obtain ⟨x, y, a1, n1, c1, a2, n2, c2, a3, n3, c3, h⟩ := h1
      exact ⟨g, e, ⟨x, y, a1, n1, c1, a2, n2, c2, a3, n3, c3, k.heap h (by simpa using hh)⟩, h2⟩
theorem grown_newx {o : Oper} {a : Act} {w : World} (s0 : Nat) (hs : s0 ≤ w.heap.size) (ho : o.op = .alloc 30) : grown Tryz.prog w (NewX s0) ((execOp a.eval o).run Tryz.prog w) := by
  refine grown_run (v := .pointer (some ⟨w.heap.size, 0, none⟩)) (w' := w.alloc (.cells #[.int .i64 0, .slice none 0 0, .int .i64 0, .slice none 0 0, .slice none 0 0] 30)) ?_ ((Kp.refl [] w).alloc _) ⟨_, rfl, ⟨0, 0, none, 0, 0, none, 0, 0, none, 0, 0, heap_alloc_new w _⟩, hs⟩
  unfold execOp
  simp only [ho]
  simp [go_sem]
/-- what was stored so far. -/
def GN (w0 : World) (k tp tv : Nat) (listed : Array Bool) (a : Act) (w : World) : Prop :=
  Kp [] w0 w ∧ (listed.getD k false = true → ∃ g cs, a.eval (.tmp tp) = .pointer (some ⟨g, 0, none⟩) ∧ a.eval (.tmp tv) = .agg cs ∧ w.heap[g]? = some (.cells cs 30 (0, 0)))
section
variable {w0 w w' : World} {k tp tv : Nat} {listed : Array Bool} {a : Act}
theorem GN.free (h : GN w0 k tp tv listed a w) (k' : Nat) (hk : k' ≠ k) (d : Tmp) (hd : d = tp ∨ d = tv → listed.getD k false = false) (v : Value) (K : Kp [] w w') : GN w0 k tp tv (listed.setIfInBounds k' true) (a.put (some d) v) w' := by
  refine ⟨h.1.trans K, fun hl => ?_⟩
  rw [getD_set_neM hk] at hl
  obtain ⟨g, cs, e1, e2, hg⟩ := h.2 hl
  have h1 : d ≠ tp := fun e => by rw [hd (.inl e)] at hl; cases hl
  have h2 : d ≠ tv := fun e => by rw [hd (.inr e)] at hl; cases hl
  exact ⟨g, cs, by rw [eval_put_ne h1]; exact e1, by rw [eval_put_ne h2]; exact e2, K.heap hg (by simp)⟩
theorem GN.st {ops : Array Oper} {o : Oper} {s : Sg} (h : GN w0 k tp tv listed a w) (hsz : k < listed.size) (hg : o.guard = none) (ho : o.op = .store 30 (.tmp tp) (.tmp tv)) (hd : o.dst = none) (hp : NewX w0.heap.size (a.eval (.tmp tp)) w) (hu : SgT s (a.eval (.tmp tv)) w) : wantsG (KN w0.heap.size) (GN w0 k tp tv (listed.setIfInBounds k true)) Tryz.prog ops o a w AnyT := by
  obtain ⟨g, e1, hs, hb⟩ := hp
  have hu' : SgV w (a.eval (.tmp tv)) s := hu
  obtain ⟨ar, mr, cr, ap, np, cp, aq, nq, cq, e2, -, -⟩ := hu'.shape
  obtain ⟨x, y, a1, n1, c1, a2, n2, c2, a3, n3, c3, hh⟩ := id hs
  have K := kp_fcells w g [.int .i64 s.n, .slice ar mr cr, .int .i64 s.i, .slice ap np cp, .slice aq nq cq] 0 w (Kp.refl _ _)
  have G' := heap_fcells g _ [.int .i64 s.n, .slice ar mr cr, .int .i64 s.i, .slice ap np cp, .slice aq nq cq] 0 w _ hh
  have hrun := run_storeAt_mid (P := Tryz.prog) w g 0 30 #[.int .i64 s.n, .slice ar mr cr, .int .i64 s.i, .slice ap np cp, .slice aq nq cq] (fun j hj => by
    rw [Nat.zero_add, cell_of_row w g j _ _ _ hh]
    refine ⟨?_, frozen_of_row w g j _ _ hh⟩
    have hj5 : j < 5 := by simpa using hj
    rcases (by omega : j = 0 ∨ j = 1 ∨ j = 2 ∨ j = 3 ∨ j = 4) with rfl | rfl | rfl | rfl | rfl <;> rfl) Tryz.sgdSize (by simp [Value.oneCell'])
  refine wantsG_skipM (w' := w.setCells g 0 [.int .i64 s.n, .slice ar mr cr, .int .i64 s.i, .slice ap np cp, .slice aq nq cq]) hg ?_ ⟨⟨.inr ⟨g, hb, hs, ⟨s.n, s.i, ar, mr, cr, ap, np, cp, aq, nq, cq, G'⟩, K⟩, h.1.then K (fun i hi => .inr (by simp at hi; omega)), fun _ => ⟨g, _, by rw [hd]; exact e1, by rw [hd]; exact e2, G'⟩⟩, trivial⟩
  unfold execOp
  simp only [ho, e1, e2, Sem.run_bind, hrun, Result.andThen_ok, Sem.run_pure]
  exact .inl trivial
end
theorem sgv_ck {w : World} {s : Sg} {n i : Int} {r : List Int} {ar ap aq : Option Addr} {mr cr np cp nq cq : Nat} (hn : n = s.n) (hr : r = s.r) (h : SgV w (.agg #[.int .i64 n, .slice ar mr cr, .int .i64 i, .slice ap np cp, .slice aq nq cq]) s) : CkV w (.agg #[.int .i64 n, .slice ar mr cr]) n r := by
  obtain ⟨a, m, c, vp, vq, e, h1, _⟩ := h
  simp only [Value.agg.injEq, Array.mk.injEq, List.cons.injEq] at e
  obtain ⟨e0, e1, -⟩ := e
  rw [hr]
  exact ⟨a, m, c, by rw [e1], h1.1, h1.2⟩
theorem sgv_mix {w : World} {s : Sg} {n i nc : Int} {tc : List Int} {ar ap aq ac : Option Addr} {mr cr np cp nq cq kc cc : Nat} (hi : i = s.i) (h : SgV w (.agg #[.int .i64 n, .slice ar mr cr, .int .i64 i, .slice ap np cp, .slice aq nq cq]) s) (hc : CkV w (.agg #[.int .i64 nc, .slice ac kc cc]) nc tc) : SgV w (.agg #[.int .i64 nc, .slice ac kc cc, .int .i64 i, .slice ap np cp, .slice aq nq cq]) ⟨nc, tc, i, s.ps, s.qs⟩ := by
  obtain ⟨a, m, c, vp, vq, e, _, h2⟩ := h
  simp only [Value.agg.injEq, Array.mk.injEq, List.cons.injEq] at e
  obtain ⟨-, -, -, e3, e4, -⟩ := e
  obtain ⟨a', m', c', e', h3, h4⟩ := hc
  simp only [Value.agg.injEq, Array.mk.injEq, List.cons.injEq, and_true, true_and] at e'
  rw [e3, e4, e', hi]
  exact ⟨a', m', c', vp, vq, rfl, ⟨h3, h4⟩, h2⟩


theorem wp_append_run {o : Oper} {a : Act} {w w' : World} {K : Act → World → Prop} {Q : Exit → Act → World → Prop} {v vx u : Value} (s x : Operand) (ho : o.op = .call { callee := .builtin .append, args := #[s, x], argTypes := #[23, 23] }) (hs : a.eval s = v) (hx : a.eval x = vx) (hr : (Builtin.append_ #[23, 23] o.type #[v, vx]).run Tryz.prog w = .ok u w') (h : K (a.put o.dst u) w') : o.wp Tryz.prog a w K Q := by
  unfold Oper.wp execOp
  simp only [ho, resolve, invoke, builtin, Sem.run_bind, Sem.run_pure, Result.andThen_ok, List.map_toArray, List.map_cons, List.map_nil, hs, hx, hr]
  exact h
theorem wpList_append_grd {w w' : World} {ops : Array Oper} {rest : List Oper} {o : Oper} {a : Act} {Q : Exit → Act → World → Prop} {v vx u : Value} (s x : Operand) (hw : Region.wanted o (yielded ops a.tmps) = true) (ho : o.op = .call { callee := .builtin .append, args := #[s, x], argTypes := #[23, 23] }) (hs : a.eval s = v) (hx : a.eval x = vx) (hr : (Builtin.append_ #[23, 23] o.type #[v, vx]).run Tryz.prog w = .ok u w') (h : wpList Tryz.prog ops Q rest (a.put o.dst u) w') : wpList Tryz.prog ops Q (o :: rest) a w := by
  unfold wpList
  rw [if_pos hw]
  exact .inl (wp_append_run s x ho hs hx hr h)
theorem sl_short (w : World) : Sl (w.alloc (.cells #[.int .u8 115, .int .u8 104, .int .u8 111, .int .u8 114, .int .u8 116] 5 (5, 6))) (.slice (some ⟨w.heap.size, 0, none⟩) 5 5) [115, 104, 111, 114, 116] := by
  refine ⟨some ⟨w.heap.size, 0, none⟩, 5, rfl, Nat.le_refl _, by simp [maxLen], (fun e => by cases e), fun a ha j u hu => ?_⟩
  injection ha with ha
  subst ha
  rw [Addr.add_lit, Nat.zero_add, cell_of_row _ w.heap.size j _ _ _ (heap_alloc_new w _)]
  simpa using hu
theorem sl_one (w : World) : Sl (w.alloc (.cells #[.int .u8 1] 5)) (.slice (some ⟨w.heap.size, 0, none⟩) 1 1) [1] := by
  refine ⟨some ⟨w.heap.size, 0, none⟩, 1, rfl, Nat.le_refl _, by simp [maxLen], (fun e => by cases e), fun a ha j u hu => ?_⟩
  injection ha with ha
  subst ha
  rw [Addr.add_lit, Nat.zero_add, cell_of_row _ w.heap.size j _ _ _ (heap_alloc_new w _)]
  simpa using hu
theorem rowm_none (w : World) : RowM (w.alloc (.cells #[] 5)) w.heap.size (.slice (some ⟨w.heap.size, 0, none⟩) 0 0) [] := ⟨w.heap.size, 0, rfl, Nat.le_refl _, lt_of_block (heap_alloc_new w _), Nat.le_refl _, by simp [maxLen], fun j u hu => by simp at hu, fun j hj => by omega⟩
def n7 (k : Nat) : Int := if k = 0 then -1 else if k = 1 then 0 else if k = 2 then 1 else if k = 3 then 255 else if k = 4 then 256 else if k = 5 then 257 else 1099511627776
def cs7 : Array Value := #[.int .i64 (-1), .int .i64 0, .int .i64 1, .int .i64 255, .int .i64 256, .int .i64 257, .int .i64 1099511627776]
theorem cs7_at (k : Nat) (hk : k < 7) : cs7[k]? = some (.int .i64 (n7 k)) := by
  rcases (by omega : k = 0 ∨ k = 1 ∨ k = 2 ∨ k = 3 ∨ k = 4 ∨ k = 5 ∨ k = 6) with rfl | rfl | rfl | rfl | rfl | rfl | rfl <;> rfl
def l4 (k : Nat) : Nat := if k = 0 then 0 else if k = 1 then 31 else if k = 2 then 32 else 33
theorem l4_le (k : Nat) : l4 k ≤ 33 := by
  unfold l4
  repeat' split
  all_goals omega
def cs4 : Array Value := #[.int .i64 0, .int .i64 31, .int .i64 32, .int .i64 33]
theorem cs4_at (k : Nat) (hk : k < 4) : cs4[k]? = some (.int .i64 (l4 k : Nat)) := by
  rcases (by omega : k = 0 ∨ k = 1 ∨ k = 2 ∨ k = 3) with rfl | rfl | rfl | rfl <;> rfl

set_option maxRecDepth 100000 in
set_option maxHeartbeats 8000000 in
theorem walk (w : World) (hG : Gl w) :
    Calls Tryz.prog 3 #[] w fun e w' => e = .returned (.bool true) ∧ Below w.heap.size w w' := by
  obtain ⟨i0, hi0, hz0, hz1, hz2⟩ := info_parts Tryz.info5
  have HG := hide hG
  clear hG
  go_enter Tryz.func3, Tryz.ntmps3
  go_wp2_with fail
  obtain ⟨g16, hg16⟩ : ∃ g, g = w.heap.size := ⟨_, rfl⟩
  obtain ⟨w0, hw0⟩ : ∃ x, x = w.alloc (.cells cs7 3) := ⟨_, rfl⟩
  have H16 : Hid (w0.heap[g16]? = some (.cells cs7 3 (0, 0))) := hide (by rw [hw0, hg16]; exact heap_alloc_new w _)
  have HK0 : Hid (Kp [] w w0) := hide (by rw [hw0]; exact (Kp.refl [] w).alloc _)
  unfold cs7 at hw0
  rw [← hw0, ← hg16]
  clear hw0 hg16
  go_loopw [18] (fun i wr => ∃ k : Nat, k ≤ 7 ∧ i = .int .i64 k ∧ Kp [] w0 wr) (fun i _ => 7 - (intOf i).toNat)
  case atStart => exact ⟨0, by omega, rfl, Kp.refl _ _⟩
  case round =>
    obtain ⟨k, hk7, rfl, Kq⟩ := hrel
    have HKq := hide Kq
    clear Kq
    obtain ⟨wp, hwp⟩ : ∃ x, x = wr := ⟨_, rfl⟩
    subst hwp
    by_cases hkk : k < 7
    · have hk2 : (k : Int) < 7 := by omega
      have hcell : wp.cell? ⟨g16, k, none⟩ = some (.int .i64 (n7 k)) := by
        rw [cell_of_row wp g16 k _ _ _ ((unhide HKq).heap (unhide H16) (by simp))]
        exact cs7_at k hkk
      obtain ⟨xk, hxk⟩ : ∃ x, x = n7 k := ⟨_, rfl⟩
      rw [← hxk] at hcell
      clear hxk
      go_wp2_with fail
      obtain ⟨g22, hg22⟩ : ∃ g, g = wp.heap.size := ⟨_, rfl⟩
      obtain ⟨wi, hwi⟩ : ∃ x, x = wp.alloc (.cells cs4 3) := ⟨_, rfl⟩
      have H22 : Hid (wi.heap[g22]? = some (.cells cs4 3 (0, 0))) := hide (by rw [hwi, hg22]; exact heap_alloc_new wp _)
      have HKi : Hid (Kp [] wp wi) := hide (by rw [hwi]; exact (Kp.refl [] wp).alloc _)
      unfold cs4 at hwi
      rw [← hwi, ← hg22]
      clear hwi hg22 hcell
      go_loopw [24] (fun i wr => ∃ j : Nat, j ≤ 4 ∧ i = .int .i64 j ∧ Kp [] wi wr) (fun i _ => 4 - (intOf i).toNat)
      case atStart => exact ⟨0, by omega, rfl, Kp.refl _ _⟩
      case round =>
        obtain ⟨j, hj4, rfl, Kj⟩ := hrel
        have HKj := hide Kj
        clear Kj
        obtain ⟨wj, hwj⟩ : ∃ x, x = wr := ⟨_, rfl⟩
        subst hwj
        by_cases hjj : j < 4
        · have hj2 : (j : Int) < 4 := by omega
          have hcell : wj.cell? ⟨g22, j, none⟩ = some (.int .i64 (l4 j : Nat)) := by
            rw [cell_of_row wj g22 j _ _ _ ((unhide HKj).heap (unhide H22) (by simp))]
            exact cs4_at j hjj
          obtain ⟨lk, hlk⟩ : ∃ x, x = l4 j := ⟨_, rfl⟩
          have hlk33 : lk ≤ 33 := by rw [hlk]; exact l4_le j
          rw [← hlk] at hcell
          clear hlk
          obtain ⟨s, hsg⟩ : ∃ s, s = sgdX 0 3 4 5 := ⟨_, rfl⟩
          have HRg : Hid (s.rgt = true) := hide (by rw [hsg]; exact sgdX_rgt _ _ _ _)
          have HRC0 : Hid (rgtC s.n s.r = true) := hide (by rw [hsg]; exact sgdX_c _ _ _ _)
          have HSI : Hid (-9223372036854775808 ≤ s.i ∧ s.i ≤ 9223372036854775807) := hide (by rw [hsg]; have h : (sgdX 0 3 4 5).i = (((wiP 3 0 15).toNat : Nat) : Int) := rfl; have := sgdX_i 3; rw [h]; omega)
          have hsg0 := hsg
          have hC := lsigned_any 0 3 4 5 wj
          rw [← hsg] at hC
          have HC := hide hC
          have HLQ : Hid (3 ≤ s.ps.length ∧ 3 ≤ s.qs.length) := hide (by rw [hsg0]; exact ⟨by show 3 ≤ (sgnP _ _ _).length; rw [sgnP, ptsP_len]; omega, by show 3 ≤ (pthP _ _ _).length; rw [pthP_len]; omega⟩)
          obtain ⟨tp, htp⟩ : ∃ t, t = topP (seedX 0) := ⟨_, rfl⟩
          rw [← htp] at HC
          have HTB : Hid (Bs tp) := hide (by rw [htp]; exact (topP_ok _).2)
          clear hsg hC htp hsg0
          go_wp2_with fail
          refine (unhide HC).mono ?_
          rintro ee w1 ⟨v1, at', mt, ct, rfl, V1, T1, K1⟩
          have hV1 := V1.v
          obtain ⟨a1, m1, c1, ap1, np1, cp1, aq1, nq1, cq1, rfl, -, -⟩ := hV1.shape
          obtain ⟨n, hn⟩ : ∃ n, n = s.n := ⟨_, rfl⟩
          obtain ⟨i, hi⟩ : ∃ n, n = s.i := ⟨_, rfl⟩
          rw [← hn, ← hi] at hV1 ⊢
          have HN := hide hn
          have HI := hide hi
          have HV1 := hide hV1
          have HT1 := hide T1
          have HK1 := hide K1
          have Ga := heap_alloc_new w1 (.cells #[.int .i64 0, .slice none 0 0, .int .i64 0, .slice none 0 0, .slice none 0 0] 30)
          have HKa : Hid (Kp [] w1 (w1.alloc (.cells #[.int .i64 0, .slice none 0 0, .int .i64 0, .slice none 0 0, .slice none 0 0] 30))) := (Kp.refl [] w1).alloc _
          clear HC V1 T1 K1 hV1 hn hi
          go_wp2_with (refine wpList_store_flat rfl 30 (.tmp 5) (.tmp 30) rfl w1.heap.size 0 rfl _ _ [.int .i64 n, .slice a1 m1 c1, .int .i64 i, .slice ap1 np1 cp1, .slice aq1 nq1 cq1] Ga rfl (by simp) Tryz.sgdSize (by simp [Value.oneCell']) #[.int .i64 n, .slice a1 m1 c1, .int .i64 i, .slice ap1 np1 cp1, .slice aq1 nq1 cq1] rfl ?_; intro w2 Gw2 Kw2; refine Hid.out ?_)
          obtain ⟨g5, hg5⟩ : ∃ g, g = w1.heap.size := ⟨_, rfl⟩
          have Kw1w2 : Kp [] w1 w2 := (unhide HKa).then Kw2 (fun i hi => .inr (by simp at hi; omega))
          rw [← hg5] at Gw2 ⊢
          have HG5 := hide hg5
          have HV2 := hide ((unhide HV1).kept Kw1w2)
          have HT2 := hide ((unhide HT1).kept Kw1w2 (by simp))
          have HK2 := hide ((unhide HK1).trans Kw1w2)
          have HK12 := hide Kw1w2
          have HG2 := hide Gw2
          clear Ga HKa Gw2 Kw2 Kw1w2 HV1 HT1 hg5 hcell
          refine hide ?_
          go_wp2_with (at_make; refine wpList_make_full _ rfl _ _ 23 rfl w2.heap.size 5 i0 (.int .u8 0) 1 Tryz.underlying23 hi0 hz0 hz1 .i64 .i64 _ _ lk rfl rfl (by omega) (by omega) (by rw [hz2]; omega) (by unfold maxLen; omega) (Nat.le_refl _) ?_; intro w3 o3 gr3; refine Hid.out ?_)
          have S3 : Sl w3 (.slice (some ⟨w2.heap.size, 0, none⟩) lk lk) (List.replicate lk 0) := Sl.of_owns (by rw [made_zeros] at o3; simpa using o3)
          have K3 : Kp [] w2 w3 := (Kp.refl [] w2).grown gr3 (by intro k hk; cases hk)
          obtain ⟨gm, hgm⟩ : ∃ g, g = w2.heap.size := ⟨_, rfl⟩
          rw [← hgm] at S3 ⊢
          have HS3 := hide S3
          have HK3 := hide K3
          have G3 := K3.heap (unhide HG2) (by simp)
          clear o3 gr3 S3 K3 hgm
          refine hide ?_
          go_wp2_with (refine wpList_store_flat rfl 25 (.tmp 36) (.tmp 35) rfl g5 0 rfl _ _ [.int .i64 xk, .slice (some ⟨gm, 0, none⟩) lk lk] G3 rfl (by simp) Tryz.chkSize (by simp [Value.oneCell']) #[.int .i64 xk, .slice (some ⟨gm, 0, none⟩) lk lk, .int .i64 i, .slice ap1 np1 cp1, .slice aq1 nq1 cq1] rfl ?_; intro w4 G4 K4; refine Hid.out ?_)
          have K14 : Kp [] w1 w4 := ((unhide HK12).trans (unhide HK3)).then K4 (fun i hi => .inr (by simp at hi; have := unhide HG5; omega))
          have KJ4 : Kp [] wj w4 := ((unhide HK2).trans (unhide HK3)).then K4 (fun i hi => .inr (by simp at hi; have := unhide HG5; have := (unhide HK1).size; omega))
          have S4 : Sl w4 (.slice (some ⟨gm, 0, none⟩) lk lk) (List.replicate lk 0) := Sl.offBy (unhide HS3) (noBy_sgd G3) K4
          have V4 : SgV w4 (.agg #[.int .i64 n, .slice a1 m1 c1, .int .i64 i, .slice ap1 np1 cp1, .slice aq1 nq1 cq1]) s := sg_off5 G3 K4 ((unhide HV2).kept (unhide HK3)) (unhide HLQ).1 (unhide HLQ).2
          have T4 : Sl w4 (.slice at' mt ct) tp := Sl.offBy ((unhide HT2).kept (unhide HK3) (by simp)) (noBy_sgd G3) K4
          have HKw4 := hide (((((unhide HK0).trans (unhide HKq)).trans (unhide HKi)).trans (unhide HKj)).trans KJ4)
          have HK4 := hide ((unhide HKj).trans KJ4)
          have x0 : w4.cell? ⟨g5, 0, none⟩ = some (.int .i64 xk) := by rw [cell_of_row _ g5 0 _ _ _ (G4)]; rfl
          have x1 : w4.cell? ⟨g5, 1, none⟩ = some (.slice (some ⟨gm, 0, none⟩) lk lk) := by rw [cell_of_row _ g5 1 _ _ _ (G4)]; rfl
          have x2 : w4.cell? ⟨g5, 2, none⟩ = some (.int .i64 i) := by rw [cell_of_row _ g5 2 _ _ _ (G4)]; rfl
          have x3 : w4.cell? ⟨g5, 3, none⟩ = some (.slice ap1 np1 cp1) := by rw [cell_of_row _ g5 3 _ _ _ (G4)]; rfl
          have x4 : w4.cell? ⟨g5, 4, none⟩ = some (.slice aq1 nq1 cq1) := by rw [cell_of_row _ g5 4 _ _ _ (G4)]; rfl
          have HC2 := hide (lsame_any (.slice at' mt ct) tp _ ⟨xk, List.replicate lk 0, i, s.ps, s.qs⟩ w4 T4 (unhide HTB) (sgv_mix (unhide HI) V4 ⟨_, _, _, rfl, S4, bs_zeros lk⟩) (by show -9223372036854775808 ≤ i ∧ i ≤ _; rw [unhide HI]; exact unhide HSI) ((unhide HG).kept (unhide HKw4) (by simp)))
          clear G3 K4 K14 KJ4 S4 V4 T4 G4 HS3 HK3 HV2 HT2 HK2 HG2 HK12 HG5 HK1
          refine hide ?_
          go_wp2_with fail
          refine (unhide HC2).mono ?_
          rintro ee w5 ⟨rfl, K5⟩
          have HK5 := hide ((unhide HK4).trans K5)
          clear HC2 K5 x0 x1 x2 x3 x4 HK4
          go_wp2_with fail
          go_roundw
          case rel => exact ⟨j + 1, by omega, by go_num, unhide HK5⟩
          case measure => simp [intOf]; omega
        · have hj2 : ¬ (j : Int) < 4 := by omega
          have HK6 := hide (((unhide HKq).trans (unhide HKi)).trans (unhide HKj))
          go_wp2_with fail
          go_roundw
          case rel => exact ⟨k + 1, by omega, by go_num, unhide HK6⟩
          case measure => simp [intOf]; omega
    · have hk2 : ¬ (k : Int) < 7 := by omega
      have HKp := hide ((unhide HK0).trans (unhide HKq))
      clear HK0 HKq H16 hkk hk7
      obtain ⟨s, hsg⟩ : ∃ s, s = sgdX 1 2 3 4 := ⟨_, rfl⟩
      have HRg : Hid (s.rgt = true) := hide (by rw [hsg]; exact sgdX_rgt _ _ _ _)
      have HRC0 : Hid (rgtC s.n s.r = true) := hide (by rw [hsg]; exact sgdX_c _ _ _ _)
      have HSI : Hid (-9223372036854775808 ≤ s.i ∧ s.i ≤ 9223372036854775807) := hide (by rw [hsg]; have h : (sgdX 1 2 3 4).i = (((wiP 2 0 15).toNat : Nat) : Int) := rfl; have := sgdX_i 2; rw [h]; omega)
      have hC := lsigned_any 1 2 3 4 wp
      rw [← hsg] at hC
      have HC := hide hC
      obtain ⟨tp, htp⟩ : ∃ t, t = topP (seedX 1) := ⟨_, rfl⟩
      rw [← htp] at HC
      have HTB : Hid (Bs tp) := hide (by rw [htp]; exact (topP_ok _).2)
      clear hsg hC htp
      go_wp2_with fail
      refine (unhide HC).mono ?_
      rintro ee w1 ⟨v1, at', mt, ct, rfl, V1, T1, K1⟩
      have hV1 := V1.v
      obtain ⟨a1, m1, c1, ap1, np1, cp1, aq1, nq1, cq1, rfl, -, -⟩ := hV1.shape
      obtain ⟨n, hn⟩ : ∃ n, n = s.n := ⟨_, rfl⟩
      obtain ⟨i, hi⟩ : ∃ n, n = s.i := ⟨_, rfl⟩
      rw [← hn, ← hi] at hV1 ⊢
      have HN := hide hn
      have HI := hide hi
      have HV1 := hide hV1
      have HT1 := hide T1
      have HK1 := hide K1
      have Ga := heap_alloc_new w1 (.cells #[.int .i64 0, .slice none 0 0, .int .i64 0, .slice none 0 0, .slice none 0 0] 30)
      have HKa : Hid (Kp [] w1 (w1.alloc (.cells #[.int .i64 0, .slice none 0 0, .int .i64 0, .slice none 0 0, .slice none 0 0] 30))) := (Kp.refl [] w1).alloc _
      clear HC V1 T1 K1 hV1 hn hi
      go_wp2_with (refine wpList_store_flat rfl 30 (.tmp 7) (.tmp 45) rfl w1.heap.size 0 rfl _ _ [.int .i64 n, .slice a1 m1 c1, .int .i64 i, .slice ap1 np1 cp1, .slice aq1 nq1 cq1] Ga rfl (by simp) Tryz.sgdSize (by simp [Value.oneCell']) #[.int .i64 n, .slice a1 m1 c1, .int .i64 i, .slice ap1 np1 cp1, .slice aq1 nq1 cq1] rfl ?_; intro w2 Gw2 Kw2; refine Hid.out ?_)
      obtain ⟨g7, hg7⟩ : ∃ g, g = w1.heap.size := ⟨_, rfl⟩
      have Kw1w2 : Kp [] w1 w2 := (unhide HKa).then Kw2 (fun i hi => .inr (by simp at hi; omega))
      rw [← hg7] at Gw2 ⊢
      have HV2 := hide ((unhide HV1).kept Kw1w2)
      have HK2 := hide (((unhide HKp).trans (unhide HK1)).trans Kw1w2)
      have HG2 := hide Gw2
      have HPu := hide (refput_ok _ s w2 (unhide HV2) (unhide HRg) (unhide HSI))
      obtain ⟨L, hL⟩ : ∃ L, L = s.lay := ⟨_, rfl⟩
      rw [← hL] at HPu
      have HLn : Hid (L.length = 2216) := hide (by rw [hL]; exact Sg.lay_len (unhide HRg))
      have HLB : Hid (Bs L) := hide (by rw [hL]; exact Sg.lay_bs (unhide HRg) (unhide HV2).bs.1 (unhide HV2).bs.2.1 (unhide HV2).bs.2.2)
      have x0 : w2.cell? ⟨g7, 0, none⟩ = some (.int .i64 n) := by rw [cell_of_row _ g7 0 _ _ _ (Gw2)]; rfl
      have x1 : w2.cell? ⟨g7, 1, none⟩ = some (.slice a1 m1 c1) := by rw [cell_of_row _ g7 1 _ _ _ (Gw2)]; rfl
      have x2 : w2.cell? ⟨g7, 2, none⟩ = some (.int .i64 i) := by rw [cell_of_row _ g7 2 _ _ _ (Gw2)]; rfl
      have x3 : w2.cell? ⟨g7, 3, none⟩ = some (.slice ap1 np1 cp1) := by rw [cell_of_row _ g7 3 _ _ _ (Gw2)]; rfl
      have x4 : w2.cell? ⟨g7, 4, none⟩ = some (.slice aq1 nq1 cq1) := by rw [cell_of_row _ g7 4 _ _ _ (Gw2)]; rfl
      clear Ga HKa Gw2 Kw2 Kw1w2 HV1 HT1 HK1 hL hg7 HKp
      refine hide ?_
      go_wp2_with fail
      refine (unhide HPu).mono ?_
      rintro ee w3 ⟨a3, m3, c3, rfl, R3, K3⟩
      have hm3 : m3 = 2216 := by rw [R3.len, unhide HLn]
      subst hm3
      have hcc : 2216 ≤ c3 ∧ c3 ≤ 9223372036854775807 := by obtain ⟨_, _, e, h1, h2, _⟩ := R3.sl; injection e with _ e2 e3; have := unhide HLn; unfold maxLen at h2; omega
      obtain ⟨gb, rfl, hgb0, hgb1, -⟩ := R3.spot (by omega)
      have HSL := hide R3.sl
      have HGB := hide hgb1
      have HV3 := hide ((unhide HV2).kept K3)
      have HK3 := hide ((unhide HK2).trans K3)
      have HG3 := hide (K3.heap (unhide HG2) (by simp))
      clear HPu R3 K3 HV2 HK2 HG2 hgb0 hgb1 x0 x1 x2 x3 x4
      go_wp2_with fail
      go_loopw [11] (fun i wr => ∃ k : Nat, k ≤ 2252 ∧ i = .int .i64 k ∧ Kp [] w3 wr) (fun i _ => 2253 - (intOf i).toNat)
      case atStart => exact ⟨0, by omega, rfl, Kp.refl _ _⟩
      case round =>
        obtain ⟨j, hj9, rfl, Kt⟩ := hrel
        have HKt := hide Kt
        clear Kt
        obtain ⟨w5, hwt⟩ : ∃ x, x = wr := ⟨_, rfl⟩
        subst hwt
        by_cases hjj : j < 2216
        · have hj2 : (j : Int) < 2216 := by omega
          have hjc : (j : Int) ≤ (c3 : Int) := by omega
          have hvb : ∀ i, (Value.slice (some ⟨gb, 0, none⟩) j c3).ownBlock = some i → i < w5.heap.size := fun i hi => by
            have e : gb = i := by simpa [Value.ownBlock] using hi
            have h1 := unhide HGB
            have h2 := (unhide HKt).size
            omega
          have hSt : Sl w5 (.slice (some ⟨gb, 0, none⟩) j c3) (L.take j) := ((unhide HSL).kept (unhide HKt) (by simp)).take j (by rw [unhide HLn]; omega)
          have HC := hide (lreads_any (.slice (some ⟨gb, 0, none⟩) j c3) (L.take j) w5 hSt (bs_take j (unhide HLB)) (by rw [List.length_take]; omega) hvb)
          clear hvb hSt
          go_wp2_with fail
          refine (unhide HC).mono ?_
          rintro ee w6 ⟨rfl, K6⟩
          have HK6 := hide ((unhide HKt).trans K6)
          clear HC K6
          go_wp2_with fail
          go_roundw
          case rel => exact ⟨j + 37, by omega, by go_num, unhide HK6⟩
          case measure => simp [intOf]; omega
        · have hj2 : ¬ (j : Int) < 2216 := by omega
          obtain ⟨r, hr⟩ : ∃ r, r = s.r := ⟨_, rfl⟩
          have HRC : Hid (rgtC n r = true) := hide (by rw [unhide HN, hr]; exact unhide HRC0)
          have HRR := hide hr
          have HDt : Hid (∀ w', Kp [] w5.drew w' → Kp [] w3 w') := fun w' k' => ((unhide HKt).trans (kp_drew w5)).trans k'
          have HS7 : Hid (∀ w', Kp [] w5.drew w' → w'.heap[g7]? = some (.cells #[.int .i64 n, .slice a1 m1 c1, .int .i64 i, .slice ap1 np1 cp1, .slice aq1 nq1 cq1] 30 (0, 0))) := fun w' k' => (unhide HDt w' k').heap (unhide HG3) (by simp)
          have HCK : Hid (∀ w', Kp [] w5.drew w' → CkV w' (.agg #[.int .i64 n, .slice a1 m1 c1]) n r) := fun w' k' => sgv_ck (unhide HN) (unhide HRR) ((unhide HV3).kept (unhide HDt w' k'))
          clear hr hjj hj9
          go_wp2_with fail
          refine region_growL (K := KN w5.drew.heap.size) (G := GN w5.drew 8 12 68) Tryz.mixed [SlT (seedX 1), Is (.pointer (some ⟨g7, 0, none⟩)), Is (.agg #[.int .i64 n, .slice a1 m1 c1]), PrT sg0 23, PrT sg0 23, SgT sg0, Is (.int .i64 23), NewX w5.drew.heap.size, AnyT, Is (.int .i64 23)] [[], [(7, none)], [(65, some 1)], [(64, some 0), (66, some 2)], [(67, some 3)], [(63, some 4)], [(63, some 4)], [], [(12, some 7), (68, some 5)], [(69, some 6)]] (by kernel_rfl) ?_ ?_ ?_ ?_ ?_
          · intro k R hR hd w'
            have hk : k < 10 := by have := (List.getElem?_eq_some_iff.1 hR).1; simpa using this
            rcases (by omega : k = 0 ∨ k = 1 ∨ k = 2 ∨ k = 3 ∨ k = 4 ∨ k = 5 ∨ k = 6 ∨ k = 7 ∨ k = 8 ∨ k = 9) with rfl | rfl | rfl | rfl | rfl | rfl | rfl | rfl | rfl | rfl <;> first | (cases hR; exact trivial) | cases hd
          · simp only [List.mem_cons, List.not_mem_nil, or_false]
            intro R hR
            rcases hR with rfl | rfl | rfl | rfl | rfl | rfl | rfl | rfl | rfl | rfl <;> first | exact stableN_is _ | exact stableN_sl _ | exact stableN_any | exact stableN_new _ | exact stableN_sg _ (.inl rfl) | exact stableN_prt _ _ (.inl rfl)
          · exact ⟨Kp.refl _ _, fun h => by simp at h⟩
          · refine steps_consL (fun listed a w hnot hdep hcl hsz hg hn => ?_) ?_
            · clear hn
              have hk := hg.1
              refine wantsG_of1M (fun _ k => .inl k) (fun v w' k => hg.free 0 (by decide) 64 (fun h => absurd h (by decide)) v k) ?_
              refine wants_plain rfl ?_
              refine grown_call (f := 11) rfl Tryz.func11 (by kernel_rfl) (by kernel_rfl) ?_
              simp only [List.map_toArray, List.map_cons, List.map_nil]
              refine (xseed_any 1 w).mono ?_
              rintro e w' ⟨ao, m, c, rfl, R, K⟩
              exact ⟨_, rfl, K, R.sl⟩
            refine steps_consL (fun listed a w hnot hdep hcl hsz hg hn => ?_) ?_
            · have h7 : a.eval (.tmp 7) = .pointer (some ⟨g7, 0, none⟩) := hn.1
              clear hn
              have hk := hg.1
              refine wantsG_of1M (fun _ k => .inl k) (fun v w' k => hg.free 1 (by decide) 65 (fun h => absurd h (by decide)) v k) ?_
              refine wants_plain rfl ?_
              refine grown_run (v := .pointer (some ⟨g7, 0, none⟩)) ?_ (Kp.refl _ _) rfl
              obtain ⟨ρ, hρ, hc, hf, hg⟩ := eval_is a
              rw [hρ] at h7 ⊢
              simp [go_sem, h7]
            refine steps_consL (fun listed a w hnot hdep hcl hsz hg hn => ?_) ?_
            · have h65 : a.eval (.tmp 65) = .pointer (some ⟨g7, 0, none⟩) := hn.1
              clear hn
              have hk := hg.1
              refine wantsG_of1M (fun _ k => .inl k) (fun v w' k => hg.free 2 (by decide) 66 (fun h => absurd h (by decide)) v k) ?_
              refine wants_plain rfl ?_
              exact grown_loadf 25 (.tmp 65) rfl g7 0 h65 _ _ _ _ (unhide HS7 w hk) [.int .i64 n, .slice a1 m1 c1] (flat_in rfl) Tryz.underlying25 rfl Tryz.chkSize rfl
            refine steps_consL (fun listed a w hnot hdep hcl hsz hg hn => ?_) ?_
            · have h64 : Sl w (a.eval (.tmp 64)) (seedX 1) := hn.1
              have h66 : a.eval (.tmp 66) = .agg #[.int .i64 n, .slice a1 m1 c1] := hn.2.1
              clear hn
              have hk := hg.1
              refine wantsG_of1M (fun _ k => .inl k) (fun v w' k => hg.free 3 (by decide) 67 (fun h => absurd h (by decide)) v k) ?_
              refine wants_plain rfl ?_
              refine grown_call (f := 10) rfl Tryz.func10 (by kernel_rfl) (by kernel_rfl) ?_
              simp only [List.map_toArray, List.map_cons, List.map_nil, h66]
              refine (cksign_used _ (seedX 1) 16 _ n r w h64 (seedX_len 1) (by omega) (unhide HCK w hk) (unhide HRC)).mono ?_
              rintro e w' ⟨rfl, K⟩
              exact ⟨_, rfl, K, ⟨_, rfl, sgd0_v _⟩⟩
            refine steps_consL (fun listed a w hnot hdep hcl hsz hg hn => ?_) ?_
            · have h67 : (PrT sg0 23) (a.eval (.tmp 67)) w := hn.1
              clear hn
              have hk := hg.1
              refine wantsG_of1M (fun _ k => .inl k) (fun v w' k => hg.free 4 (by decide) 63 (fun h => absurd h (by decide)) v k) ?_
              refine wants_plain rfl ?_
              exact grown_move (.tmp 67) rfl h67
            refine steps_consL (fun listed a w hnot hdep hcl hsz hg hn => ?_) ?_
            · have h63 : (PrT sg0 23) (a.eval (.tmp 63)) w := hn.1
              clear hn
              have hk := hg.1
              refine wantsG_of1M (fun _ k => .inl k) (fun v w' k => hg.free 5 (by decide) 68 (fun _ => lstM hcl 8 5 rfl (by decide) hnot) v k) ?_
              refine wants_plain rfl ?_
              exact grown_x0 (.tmp 63) rfl _ _ h63
            refine steps_consL (fun listed a w hnot hdep hcl hsz hg hn => ?_) ?_
            · have h63 : (PrT sg0 23) (a.eval (.tmp 63)) w := hn.1
              clear hn
              have hk := hg.1
              refine wantsG_of1M (fun _ k => .inl k) (fun v w' k => hg.free 6 (by decide) 69 (fun h => absurd h (by decide)) v k) ?_
              refine wants_plain rfl ?_
              exact grown_x1 (.tmp 63) rfl _ _ h63
            refine steps_consL (fun listed a w hnot hdep hcl hsz hg hn => ?_) ?_
            · clear hn
              have hk := hg.1
              refine wantsG_of1M (fun _ k => .inl k) (fun v w' k => hg.free 7 (by decide) 12 (fun _ => lstM hcl 8 7 rfl (by decide) hnot) v k) ?_
              refine wants_plain rfl ?_
              exact grown_newx _ hk.size rfl
            refine steps_consL (fun listed a w hnot hdep hcl hsz hg hn => ?_) ?_
            · have h12 : (NewX w5.drew.heap.size) (a.eval (.tmp 12)) w := hn.1
              have h68 : (SgT sg0) (a.eval (.tmp 68)) w := hn.2.1
              clear hn
              exact hg.st hsz rfl rfl rfl h12 h68
            refine steps_consL (fun listed a w hnot hdep hcl hsz hg hn => ?_) ?_
            · have h69 : a.eval (.tmp 69) = .int .i64 23 := hn.1
              clear hn
              have hk := hg.1
              refine wantsG_of1M (fun _ k => .inl k) (fun v w' k => hg.free 9 (by decide) 13 (fun h => absurd h (by decide)) v k) ?_
              refine wants_plain rfl ?_
              exact grown_assign (.tmp 69) rfl h69
            exact trivial
          intro W1
          intro v64 h64
          rintro _ rfl
          rintro _ rfl
          intro v67 h67
          intro v63 h63
          intro v68 h68
          rintro _ rfl
          intro v12 h12
          intro _ _
          rintro _ rfl
          refine fin_nil ?_
          intro listed hall hgg
          obtain ⟨hkW1, hst⟩ := hgg
          obtain ⟨gst, cst, est, evt, Gst⟩ := hst (hall 8 (by decide))
          simp only [Act.put, List.set_cons_zero, List.set_cons_succ, List.setIfInBounds_toArray] at est evt ⊢
          have HKW := hide hkW1
          obtain ⟨wA, hwA⟩ : ∃ x, x = W1 := ⟨_, rfl⟩
          have HKA := hide (unhide HDt W1 hkW1)
          obtain ⟨g12, e12, -, hbn⟩ := h12
          subst e12
          have G7A := unhide HS7 W1 hkW1
          have CA := unhide HCK W1 hkW1
          rw [← hwA] at HKA G7A CA ⊢
          clear h64 h67 h63 h68 hkW1 est evt Gst hall hst hwA HKW hbn HS7 HCK HDt
          obtain ⟨ob, hob⟩ : ∃ o : Obj, o = (.cells #[.int .u8 115, .int .u8 104, .int .u8 111, .int .u8 114, .int .u8 116] 5 (5, 6)) := ⟨_, rfl⟩
          have kc1 := Lib.run_convert_bytes_const (P := Tryz.prog) wA 23 5 #[.int .u8 115, .int .u8 104, .int .u8 111, .int .u8 114, .int .u8 116] 5 5 Tryz.underlying23 Tryz.underlying5
          rw [show (#[Value.int .u8 115, .int .u8 104, .int .u8 111, .int .u8 114, .int .u8 116].size, #[Value.int .u8 115, .int .u8 104, .int .u8 111, .int .u8 114, .int .u8 116].size + 1) = (5, 6) from rfl, ← hob] at kc1
          have Kb : Kp [] wA (wA.alloc ob) := (Kp.refl [] wA).alloc ob
          have hM1 : Sl (wA.alloc ob) (.slice (some ⟨wA.heap.size, 0, none⟩) 5 5) [115, 104, 111, 114, 116] := by rw [hob]; exact sl_short wA
          have HC := hide (cksign_arg _ [115, 104, 111, 114, 116] 0 (.agg #[.int .i64 n, .slice a1 m1 c1]) n r (wA.alloc ob) hM1 (by decide) (CA.kept Kb) (unhide HRC))
          have HKb := hide ((unhide HKA).trans Kb)
          have G7b := Kb.heap G7A (by simp)
          have y0 : (wA.alloc ob).cell? ⟨g7, 0, none⟩ = some (.int .i64 n) := by rw [cell_of_row _ g7 0 _ _ _ (G7b)]; rfl
          have y1 : (wA.alloc ob).cell? ⟨g7, 1, none⟩ = some (.slice a1 m1 c1) := by rw [cell_of_row _ g7 1 _ _ _ (G7b)]; rfl
          have y2 : (wA.alloc ob).cell? ⟨g7, 2, none⟩ = some (.int .i64 i) := by rw [cell_of_row _ g7 2 _ _ _ (G7b)]; rfl
          have y3 : (wA.alloc ob).cell? ⟨g7, 3, none⟩ = some (.slice ap1 np1 cp1) := by rw [cell_of_row _ g7 3 _ _ _ (G7b)]; rfl
          have y4 : (wA.alloc ob).cell? ⟨g7, 4, none⟩ = some (.slice aq1 nq1 cq1) := by rw [cell_of_row _ g7 4 _ _ _ (G7b)]; rfl
          clear Kb hob hM1 G7A CA G7b
          go_wp2_with fail
          refine (unhide HC).mono ?_
          rintro ee wb ⟨rfl, Kb⟩
          have HKc := hide ((unhide HKb).trans Kb)
          have Ga := heap_alloc_new wb (.cells #[.int .i64 0, .slice none 0 0, .int .i64 0, .slice none 0 0, .slice none 0 0] 30)
          have HKa : Hid (Kp [] wb (wb.alloc (.cells #[.int .i64 0, .slice none 0 0, .int .i64 0, .slice none 0 0, .slice none 0 0] 30))) := (Kp.refl [] wb).alloc _
          clear Kb HC kc1 HKb HKA y0 y1 y2 y3 y4
          go_wp2_with (refine wpList_store_flat rfl 30 (.tmp 14) (.tmp 76) rfl wb.heap.size 0 rfl _ _ [.int .i64 0, .slice none 0 0, .int .i64 0, .slice none 0 0, .slice none 0 0] Ga rfl (by simp) Tryz.sgdSize (by simp [Value.oneCell']) #[.int .i64 0, .slice none 0 0, .int .i64 0, .slice none 0 0, .slice none 0 0] rfl ?_; intro wc Gwc Kwc; refine Hid.out ?_)
          obtain ⟨g14, hg14⟩ : ∃ g, g = wb.heap.size := ⟨_, rfl⟩
          have Kwbwc : Kp [] wb wc := (unhide HKa).then Kwc (fun i hi => .inr (by simp at hi; omega))
          rw [← hg14] at Gwc ⊢
          have HKd := hide ((unhide HKc).trans Kwbwc)
          have hvb : ∀ i, (Value.slice (some ⟨gb, 0, none⟩) 2216 c3).ownBlock = some i → i < wc.heap.size := fun i hi => by
            have e : gb = i := by simpa [Value.ownBlock] using hi
            have h1 := unhide HGB
            have h2 := (unhide HKd).size
            omega
          have HRd := hide (lreads_any (.slice (some ⟨gb, 0, none⟩) 2216 c3) L wc ((unhide HSL).kept (unhide HKd) (by simp)) (unhide HLB) (by rw [unhide HLn]; omega) hvb)
          clear Ga HKa Gwc Kwc Kwbwc HKc hg14 hvb
          refine hide ?_
          go_wp2_with fail
          refine (unhide HRd).mono ?_
          rintro ee wd ⟨rfl, Kd⟩
          have HKe := hide ((unhide HKd).trans Kd)
          obtain ⟨we, hwe⟩ : ∃ x, x = wd.alloc (.cells #[] 5) := ⟨_, rfl⟩
          have hre : RowM we wd.heap.size (.slice (some ⟨wd.heap.size, 0, none⟩) 0 0) [] := by rw [hwe]; exact rowm_none wd
          have Kde : Kp [] wd we := by rw [hwe]; exact (Kp.refl [] wd).alloc _
          have hSe := (unhide HSL).kept ((unhide HKe).trans Kde) (by simp)
          obtain ⟨aa, ma, ca, wf, hap, Rf, Sf⟩ := append_m we _ _ [] _ L 23 hre hSe (by have := unhide HLn; simp; omega) Kde.size
          have Kdf : Kp [] wd wf := Kde.then Sf.1 (fun i hi => .inr (by have := hre.own i (by simpa using hi); omega))
          rw [List.nil_append] at Rf
          obtain ⟨gx, cx, ex, -⟩ := id Rf
          injection ex with ex1 ex2 ex3
          subst ex1
          clear ex2 ex3
          obtain ⟨wg, hwg⟩ : ∃ x, x = wf.alloc (.cells #[.int .u8 1] 5) := ⟨_, rfl⟩
          have Kfg : Kp [] wf wg := by rw [hwg]; exact (Kp.refl [] wf).alloc _
          have hS1 : Sl wg (.slice (some ⟨wf.heap.size, 0, none⟩) 1 1) [1] := by rw [hwg]; exact sl_one wf
          have Rg := Rf.kept Kfg (by simp)
          obtain ⟨ab, mb, cb, wh, hap2, Rh, Sh⟩ := append_m wg _ _ L _ [1] 23 Rg hS1 (by have := unhide HLn; simp; omega) (Nat.le_trans Kdf.size Kfg.size)
          have Kdh : Kp [] wd wh := (Kdf.trans Kfg).then Sh.1 (fun i hi => .inr (by have := Rg.own i (by simpa using hi); omega))
          have HKh := hide ((unhide HKe).trans Kdh)
          have HRd2 := hide (lreads_any (.slice ab mb cb) (L ++ [1]) wh Rh.sl ((unhide HLB).append (fun b hb => by simp at hb; omega)) (by have := unhide HLn; simp; omega) (fun j hj => (Rh.own j hj).2))
          rw [hwe] at hap
          rw [hwg] at hap2
          clear HRd Kd HKe hre Kde hSe Rf Sf Kdf Kfg hS1 Rg Rh Sh Kdh hwe hwg HKd
          go_wp2_with fail
          rename_i KK hKK
          refine wp_append_run (.tmp 84) (.tmp 85) rfl rfl rfl hap (hKK _ _ ?_)
          go_wp2_with (at_builtin; refine wpList_append_grd (.tmp 86) (.tmp 87) rfl rfl rfl rfl hap2 ?_)
          refine (unhide HRd2).mono ?_
          rintro ee wk ⟨rfl, Kk⟩
          have HKk := hide ((unhide HK3).trans ((unhide HKh).trans Kk))
          have HKn := hide (xknown_any wk ((unhide HG).kept (unhide HKk) (by simp)))
          clear HRd2 Kk hap hap2
          go_wp2_with fail
          refine (unhide HKn).mono ?_
          rintro ee wl ⟨rfl, Kl⟩
          have HKl := hide ((unhide HKk).trans Kl)
          clear HKn Kl
          go_wp2_with fail
          go_ret
          exact ⟨rfl, (unhide HKl).below (Nat.le_refl _) (by simp)⟩

set_option maxRecDepth 100000 in
theorem lifted (os : Os) (started : os.Started) (H : Type) (enc : TypeId × Value → H) :
    ReturnsInHanded {} Tryz.checked os 3 .any (fun w args => (Rows.checkNumbersSpec.pre enc Tryz.prog Tryz.f3 [] false w args ∧ laidMetH Tryz.prog laid1 w) ∧ sizedMet enc Tryz.prog Tryz.f3 (OpenSpec.ofChange Rows.checkNumbersSpec) false w args) (Rows.checkNumbersSpec.post enc Tryz.prog Tryz.f3 false true false false) := by
  refine returnsInHanded_of_change_and (C := Tryz.checked) (X := fun w _ => laidMetH Tryz.prog laid1 w) (fun _ _ _ hh h => h.of_heap hh) own started (by kernel_rfl) Tryz.func3
    (ChangeSpec.witness_shaped (enc := enc) (C := Tryz.checked) (os := os) (X := fun w _ => laidMetH Tryz.prog laid1 w) false (World.doorLaid Tryz.prog 400 os) #[] 8 rfl (World.shaped_of_RefB (by kernel_rfl) (by kernel_rfl)) (by kernel_rfl) (by kernel_rfl) (by kernel_rfl) (door_met os _)) ?_
  intro W base args ds gs before hval0 hW hcnd hsz0 hL _
  have hG := gl_of_laid hL
  have hval : ∀ (j : Nat) t v, Tryz.f3.params[j]? = some t → args[j]? = some v → Value.okWide Tryz.prog W .any base t v := hval0
  have hW' := hW
  obtain ⟨p, q, hA0, hV, rfl, hfz, hnd⟩ := hW
  have hA : DataW.TrodAll enc Tryz.prog W 0 (fun _ => true) true Tryz.f3.params.toList args.toList ds p := hA0
  rw [Tryz.params3] at hA hval
  obtain ⟨hargs, rfl, rfl⟩ := trodAll_nil hA
  obtain rfl : args = #[] := by cases args; simp_all
  obtain ⟨rfl, rfl⟩ := trodVars_none hV
  clear hA0 hval0
  refine (walk  W hG).mono fun e W' ⟨he, bel⟩ => ?_
  subst he
  exact ⟨_, rfl, _, _, _, [], _, [], hW', trodAll_mk1 (shut_bool Tryz.underlying4 _), trodAll_mk0, rfl, bel.frame _, fun h => by cases h⟩

theorem over : Rows.checkNumbersRow.holds Tryz.pinned (OpenSpec.ofChange Rows.checkNumbersSpec) :=
  OpenClaim.holds_of_wide 3 Tryz.f3 rfl rfl rfl rfl rfl rfl rfl ⟨rfl, rfl, rfl, rfl, rfl⟩ rfl rfl rfl rfl rfl (by kernel_rfl) Tryz.func3 (by kernel_rfl)
    (of_decide_eq_true (by kernel_rfl)) (by unfold Func.isWrapper; first | (rw [if_pos (by decide +kernel)]; kernel_rfl) | (rw [if_neg (by decide +kernel)]; exact ⟨rfl, rfl⟩))
    (fun os started H enc _ => lifted os started H enc)
end Go.Proofs.YtbkipibmaghejaaGreatDoor.checkNumbers

namespace Go.Proofs.YtbkipibmaghejaaGreatDoor
/-- The given statement: the tied card. -/
theorem CheckNumbers_holds : Rows.CheckNumbersCardSaid :=
  Claim7.holds_tied_plain_at .later [] [.data] true Rows.checkNumbersCard.stood.harness false
    checkNumbers.over (fun _ h => by cases h) (by kernel_rfl) (fun _ h => by cases h) checkNumbers_row_tie rfl ⟨rfl, rfl⟩ (by kernel_rfl) rfl
    (fun f fn hf hfn => by
      obtain rfl : f = 3 := Option.some.inj ((show Tryz.prog.funcNamed "broadsheet/broadsheetlaw10.CheckNumbers" = some 3 by kernel_rfl).symm.trans hf) |>.symm
      obtain rfl : fn = Tryz.f3 := (Option.some.inj (Tryz.func3.symm.trans hfn)).symm
      exact ⟨by kernel_rfl, fun j t ht => by
        rw [Tryz.params3] at ht
        have hm : t ∈ ([] : List TypeId) := by simpa using Array.mem_of_getElem? ht
        have hall : (([] : List TypeId).all fun u => !Tryz.prog.wantsStandIn u) = true := by kernel_rfl
        exact (show Tryz.prog.wantsStandIn t = false by simpa using List.all_eq_true.1 hall t hm)⟩)
    (by kernel_rfl)
#print axioms CheckNumbers_holds
end Go.Proofs.YtbkipibmaghejaaGreatDoor
