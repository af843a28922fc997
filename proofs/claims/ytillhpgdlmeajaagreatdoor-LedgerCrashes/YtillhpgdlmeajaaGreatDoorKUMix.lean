/-
  A signed checkpoint that is told by a call and stored in a new block, in whatever order: what stays.
-/
import Derived.Test.YtillhpgdlmeajaaGreatDoorKUCopy
import Derived.Test.YtillhpgdlmeajaaGreatDoorKXEncs
import Derived.Test.YtillhpgdlmeajaaGreatDoorKRGrowX
namespace Go.Proofs.YtillhpgdlmeajaaGreatDoor.umix
open Go.RowKit
open Go.Proofs
open Go.Proofs.YtillhpgdlmeajaaGreatDoor
set_option linter.unusedVariables false

/-- a block that holds a signed checkpoint. -/
def IsSg (w : World) (g : Nat) : Prop := ∃ (x y : Int) (a1 : Option Addr) (n1 c1 : Nat) (a2 : Option Addr) (n2 c2 : Nat) (a3 : Option Addr) (n3 c3 : Nat), w.heap[g]? = some (.cells #[.int .i64 x, .slice a1 n1 c1, .int .i64 y, .slice a2 n2 c2, .slice a3 n3 c3] 72 (0, 0))
def Big (s : Sg) : Prop := 3 ≤ s.ps.length ∧ 3 ≤ s.qs.length
theorem off5 {b g : Nat} {w w' : World} {v : Value} {s : Sg} (h : SgA b w v s) (hc : Big s) (hb : b ≤ g) (hg : IsSg w g) (k : Kp [g] w w') : SgA b w' v s := fun S w2 hS k2 => by
  obtain ⟨x, y, a1, n1, c1, a2, n2, c2, a3, n3, c3, hg⟩ := hg
  have hgS : g ∉ S := fun hm => by have := hS g hm; omega
  have hgl : g < w.heap.size := lt_of_block hg
  have hg2 : g < w2.heap.size := Nat.lt_of_lt_of_le hgl (Nat.le_trans k.size k2.size)
  obtain ⟨w3, hw3⟩ : ∃ w3 : World, w3 = { w2 with heap := w2.heap.setIfInBounds g (.cells #[.int .i64 x, .slice a1 n1 c1, .int .i64 y, .slice a2 n2 c2, .slice a3 n3 c3] 72 (0, 0)) } := ⟨_, rfl⟩
  have hg3 : w3.heap[g]? = some (.cells #[.int .i64 x, .slice a1 n1 c1, .int .i64 y, .slice a2 n2 c2, .slice a3 n3 c3] 72 (0, 0)) := by rw [hw3]; simp [hg2]
  have ho : ∀ i, i ≠ g → w3.heap[i]? = w2.heap[i]? := fun i hi => by
    rw [hw3]
    exact Array.getElem?_setIfInBounds_ne (fun e => hi e.symm)
  have hsz : w3.heap.size = w2.heap.size := by rw [hw3]; simp
  have K3 : Kp S w w3 := ⟨by rw [hw3]; exact k2.os.trans k.os, by rw [hw3]; exact k2.tape.trans k.tape, by rw [hw3]; exact k2.output.trans k.output, by rw [hsz]; exact Nat.le_trans k.size k2.size, fun i hi hs => by
    by_cases e : i = g
    · subst e; rw [hg3, hg]
    · rw [ho i e]
      exact (k2.block i (Nat.lt_of_lt_of_le hi k.size) hs).trans (k.block i hi (by simpa using e))⟩
  have K32 : Kp [g] w3 w2 := ⟨by rw [hw3], by rw [hw3], by rw [hw3], by rw [hsz]; exact Nat.le_refl _, fun i hi hs => (ho i (by simpa using hs)).symm⟩
  exact sg_off5 hg3 K32 (h S w3 hS K3) hc.1 hc.2
def AnyT : Tell := fun _ _ => True
def SgAT (b : Nat) (s : Sg) : Tell := fun v w => SgA b w v s
theorem stable_sgat (b : Nat) (s : Sg) : Tell.stable (SgAT b s) := fun _ _ _ k h => h.kept (S := []) (by simp) k
/-- a pair: a signed checkpoint, and why not. -/
def PrT (b : Nat) (s : Sg) (e : Int) : Tell := fun v w => ∃ x, v = .tuple #[x, .int .i64 e] ∧ SgA b w x s
theorem stable_prt (b : Nat) (s : Sg) (e : Int) : Tell.stable (PrT b s e) := fun _ _ _ k ⟨x, h1, h2⟩ => ⟨x, h1, h2.kept (S := []) (by simp) k⟩
theorem grown_x0 {o : Oper} {a : Act} {w : World} (x : Operand) (ho : o.op = .extract x 0) (b : Nat) (s : Sg) (e : Int) (h : PrT b s e (a.eval x) w) : grown Tryz.prog w (SgAT b s) ((execOp a.eval o).run Tryz.prog w) := by
  obtain ⟨y, h1, h2⟩ := h
  refine grown_run (v := y) ?_ (Kp.refl _ _) h2
  obtain ⟨ρ, hρ, _⟩ := eval_is a
  rw [hρ] at h1 ⊢
  unfold execOp
  simp only [ho]
  simp [go_sem, h1]
theorem grown_x1 {o : Oper} {a : Act} {w : World} (x : Operand) (ho : o.op = .extract x 1) (b : Nat) (s : Sg) (e : Int) (h : PrT b s e (a.eval x) w) : grown Tryz.prog w (Is (.int .i64 e)) ((execOp a.eval o).run Tryz.prog w) := by
  obtain ⟨y, h1, h2⟩ := h
  refine grown_run (v := .int .i64 e) ?_ (Kp.refl _ _) rfl
  obtain ⟨ρ, hρ, _⟩ := eval_is a
  rw [hρ] at h1 ⊢
  unfold execOp
  simp only [ho]
  simp [go_sem, h1]
theorem grown_bcks {o : Oper} {a : Act} {w : World} {n : Int} {r : List Int} (x0 x1 : Operand) (ho : o.op = .build 68 #[(0, x0), (1, x1)]) (h0 : a.eval x0 = .int .i64 n) (h1 : SlT r (a.eval x1) w) (hB : Bs r) :
    grown Tryz.prog w (CkT n r) ((execOp a.eval o).run Tryz.prog w) := by
  have h2 : Sl w (a.eval x1) r := h1
  obtain ⟨ar, cr, e, _⟩ := id h2
  rw [e] at h2
  refine grown_run (v := .agg #[.int .i64 n, .slice ar r.length cr]) ?_ (Kp.refl _ _) ⟨ar, r.length, cr, rfl, h2, hB⟩
  obtain ⟨ρ, hρ, _⟩ := eval_is a
  rw [hρ] at e h0 ⊢
  unfold execOp
  simp only [ho]
  simp [go_sem, e, h0]
/-- nothing old was changed, but for one signed checkpoint from B on. -/
def KN (B : Nat) (w w' : World) : Prop := Kp [] w w' ∨ ∃ g, B ≤ g ∧ IsSg w g ∧ IsSg w' g ∧ Kp [g] w w'
def NewX (B : Nat) : Tell := fun v w => ∃ g, v = .pointer (some ⟨g, 0, none⟩) ∧ IsSg w g ∧ B ≤ g
theorem stableN_any {B : Nat} : Tell.stableG (KN B) AnyT := fun _ _ _ _ h => h
theorem stableN_is {B : Nat} (c : Value) : Tell.stableG (KN B) (Is c) := fun _ _ _ _ h => h
theorem stableN_sl {B : Nat} (bs : List Int) : Tell.stableG (KN B) (SlT bs) := fun v w w' k h => by
  have h0 : Sl w v bs := h
  rcases k with k | ⟨g, _, hs, _, k⟩
  · exact h0.kept k (by simp)
  · obtain ⟨ao, c, rfl, -⟩ := id h0
    obtain ⟨x, y, a1, n1, c1, a2, n2, c2, a3, n3, c3, hg⟩ := hs
    exact Sl.offBy h0 (noBy_sgd hg) k
theorem stableN_ck {B : Nat} (n : Int) (r : List Int) : Tell.stableG (KN B) (CkT n r) := fun v w w' k h => by
  obtain ⟨a, m, c, e, h1, h2⟩ := h
  exact ⟨a, m, c, e, stableN_sl r _ _ _ k h1, h2⟩
theorem keepN {B b : Nat} {w w' : World} {v : Value} {s : Sg} (hs : Big s) (hb : b ≤ B) (k : KN B w w') (h : SgA b w v s) : SgA b w' v s := by
  rcases k with k | ⟨g, hB, hg, _, k⟩
  · exact h.kept (S := []) (by simp) k
  · exact off5 h hs (by omega) hg k
theorem stableN_sg {B b : Nat} (s : Sg) (hs : Big s) (hb : b ≤ B) : Tell.stableG (KN B) (SgAT b s) := fun _ _ _ k h => keepN hs hb k h
theorem stableN_prt {B b : Nat} (s : Sg) (e : Int) (hs : Big s) (hb : b ≤ B) : Tell.stableG (KN B) (PrT b s e) := fun _ _ _ k ⟨x, h1, h2⟩ => ⟨x, h1, keepN hs hb k h2⟩
theorem stableN_new {B : Nat} (B' : Nat) : Tell.stableG (KN B) (NewX B') := fun v w w' k ⟨g, e, h1, h2⟩ => by
  rcases k with k | ⟨g', _, hg, hg', k⟩
  · obtain ⟨x, y, a1, n1, c1, a2, n2, c2, a3, n3, c3, h⟩ := h1
    exact ⟨g, e, ⟨x, y, a1, n1, c1, a2, n2, c2, a3, n3, c3, k.heap h (by simp)⟩, h2⟩
  · by_cases hh : g = g'
    · rw [hh] at e h2; exact ⟨g', e, hg', h2⟩
    · obtain ⟨x, y, a1, n1, c1, a2, n2, c2, a3, n3, c3, h⟩ := h1
      exact ⟨g, e, ⟨x, y, a1, n1, c1, a2, n2, c2, a3, n3, c3, k.heap h (by simpa using hh)⟩, h2⟩
theorem grown_newx {o : Oper} {a : Act} {w : World} (s0 : Nat) (hs : s0 ≤ w.heap.size) (ho : o.op = .alloc 72) : grown Tryz.prog w (NewX s0) ((execOp a.eval o).run Tryz.prog w) := by
  refine grown_run (v := .pointer (some ⟨w.heap.size, 0, none⟩)) (w' := w.alloc (.cells #[.int .i64 0, .slice none 0 0, .int .i64 0, .slice none 0 0, .slice none 0 0] 72)) ?_ ((Kp.refl [] w).alloc _) ⟨_, rfl, ⟨0, 0, none, 0, 0, none, 0, 0, none, 0, 0, heap_alloc_new w _⟩, hs⟩
  unfold execOp
  simp only [ho]
  simp [go_sem]
/-- what was stored so far. -/
def GN (w0 : World) (k tp tv : Nat) (listed : Array Bool) (a : Act) (w : World) : Prop :=
  Kp [] w0 w ∧ (listed.getD k false = true → ∃ g cs, a.eval (.tmp tp) = .pointer (some ⟨g, 0, none⟩) ∧ a.eval (.tmp tv) = .agg cs ∧ w.heap[g]? = some (.cells cs 72 (0, 0)))
section
variable {w0 w w' : World} {k tp tv : Nat} {listed : Array Bool} {a : Act}
theorem GN.free (h : GN w0 k tp tv listed a w) (k' : Nat) (hk : k' ≠ k) (d : Tmp) (hd : d = tp ∨ d = tv → listed.getD k false = false) (v : Value) (K : Kp [] w w') : GN w0 k tp tv (listed.setIfInBounds k' true) (a.put (some d) v) w' := by
  refine ⟨h.1.trans K, fun hl => ?_⟩
  rw [getD_set_neM hk] at hl
  obtain ⟨g, cs, e1, e2, hg⟩ := h.2 hl
  have h1 : d ≠ tp := fun e => by rw [hd (.inl e)] at hl; cases hl
  have h2 : d ≠ tv := fun e => by rw [hd (.inr e)] at hl; cases hl
  exact ⟨g, cs, by rw [eval_put_ne h1]; exact e1, by rw [eval_put_ne h2]; exact e2, K.heap hg (by simp)⟩
theorem GN.st {ops : Array Oper} {o : Oper} {b : Nat} {s : Sg} (h : GN w0 k tp tv listed a w) (hsz : k < listed.size) (hg : o.guard = none) (ho : o.op = .store 72 (.tmp tp) (.tmp tv)) (hd : o.dst = none) (hp : NewX w0.heap.size (a.eval (.tmp tp)) w) (hu : SgAT b s (a.eval (.tmp tv)) w) : wantsG (KN w0.heap.size) (GN w0 k tp tv (listed.setIfInBounds k true)) Tryz.prog ops o a w AnyT := by
  obtain ⟨g, e1, hs, hb⟩ := hp
  have hu' : SgV w (a.eval (.tmp tv)) s := SgA.v hu
  obtain ⟨ar, mr, cr, ap, np, cp, aq, nq, cq, e2, -, -⟩ := hu'.shape
  obtain ⟨x, y, a1, n1, c1, a2, n2, c2, a3, n3, c3, hh⟩ := id hs
  have K := kp_fcells w g [.int .i64 s.n, .slice ar mr cr, .int .i64 s.i, .slice ap np cp, .slice aq nq cq] 0 w (Kp.refl _ _)
  have G' := heap_fcells g _ [.int .i64 s.n, .slice ar mr cr, .int .i64 s.i, .slice ap np cp, .slice aq nq cq] 0 w _ hh
  have hrun := run_storeAt_mid (P := Tryz.prog) w g 0 72 #[.int .i64 s.n, .slice ar mr cr, .int .i64 s.i, .slice ap np cp, .slice aq nq cq] (fun j hj => by
    rw [Nat.zero_add, cell_of_row w g j _ _ _ hh]
    refine ⟨?_, frozen_of_row w g j _ _ hh⟩
    have hj5 : j < 5 := by simpa using hj
    rcases (by omega : j = 0 ∨ j = 1 ∨ j = 2 ∨ j = 3 ∨ j = 4) with rfl | rfl | rfl | rfl | rfl <;> rfl) Tryz.sgdSize (by simp [Value.oneCell'])
  refine wantsG_skipM (w' := w.setCells g 0 [.int .i64 s.n, .slice ar mr cr, .int .i64 s.i, .slice ap np cp, .slice aq nq cq]) hg ?_ ⟨⟨.inr ⟨g, hb, hs, ⟨s.n, s.i, ar, mr, cr, ap, np, cp, aq, nq, cq, G'⟩, K⟩, h.1.then K (fun i hi => .inr (by simp at hi; omega)), fun _ => ⟨g, _, by rw [hd]; exact e1, by rw [hd]; exact e2, G'⟩⟩, trivial⟩
  unfold execOp
  simp only [ho, e1, e2, Sem.run_bind, hrun, Result.andThen_ok, Sem.run_pure]
  exact .inl trivial
end
end Go.Proofs.YtillhpgdlmeajaaGreatDoor.umix
