/-
  Regions that draw their order and store a cosignature into a new place of its own.
-/
import Derived.Test.YtdjofooggofpkaaDoorKYSpecs
import Derived.Test.YtdjofooggofpkaaDoorKLMan
import Derived.Test.YtdjofooggofpkaaDoorKRGrowX
import Derived.Test.YtdjofooggofpkaaDoorKSOwner
namespace Go.Proofs.YtdjofooggofpkaaDoor
open Go.RowKit
open Go.Proofs

def AnyT : Tell := fun _ _ => True
/-- a block that holds a cosignature. -/
def IsCo (w : World) (g : Nat) : Prop := ∃ (x y : Int) (a2 : Option Addr) (n2 c2 : Nat) (a3 : Option Addr) (n3 c3 : Nat), w.heap[g]? = some (.cells #[.int .i64 x, .int .i64 y, .slice a2 n2 c2, .slice a3 n3 c3] 33 (0, 0))
section
variable {w w' : World} {g : Nat} {x y : Int} {a2 a3 : Option Addr} {n2 c2 n3 c3 : Nat} {t : TypeId} {fr : Nat × Nat}
theorem noBy_cos (hg : w.heap[g]? = some (.cells #[.int .i64 x, .int .i64 y, .slice a2 n2 c2, .slice a3 n3 c3] t fr)) : NoBy w [g] := by
  intro z hz
  obtain rfl : z = g := by simpa using hz
  refine ⟨_, _, _, hg, fun u hu v => ?_⟩
  rcases (by simpa using hu : u = .int .i64 x ∨ u = .int .i64 y ∨ u = .slice a2 n2 c2 ∨ u = .slice a3 n3 c3) with rfl | rfl | rfl | rfl <;> simp
/-- a list of three slices or more does not lie in a cosignature's block. -/
theorem lists_off4 (hg : w.heap[g]? = some (.cells #[.int .i64 x, .int .i64 y, .slice a2 n2 c2, .slice a3 n3 c3] t fr)) (k : Kp [g] w w') {v : Value} {l : List (Value × List Int)} (h : Lists w v l) (hl : l = [] ∨ 3 ≤ l.length) : Lists w' v l := by
  obtain ⟨ao, c, rfl, h1, h2⟩ := h
  refine ⟨ao, c, rfl, h1, fun i hi => ?_⟩
  have hl : 3 ≤ l.length := by rcases hl with rfl | hl; · cases hi
                               · exact hl
  obtain ⟨b, off, e, h3, h4, h5⟩ := h2 i hi
  refine ⟨b, off, e, ?_, ?_, h5⟩
  · by_cases hb : b = g
    · exfalso
      subst hb
      subst e
      have at' : ∀ j (hj : j < l.length), ∃ p q r, (#[Value.int .i64 x, .int .i64 y, .slice a2 n2 c2, .slice a3 n3 c3])[off + j]? = some (.slice p q r) := fun j hj => by
        obtain ⟨b', off', e', h3', h4', _⟩ := h2 j hj
        injection e' with e'
        injection e' with e1 e2
        subst e1
        subst e2
        obtain ⟨p, r, es, _⟩ := h4'
        rw [cell_of_row w b (off + j) _ _ _ hg, es] at h3'
        exact ⟨p, _, r, h3'⟩
      obtain ⟨p0, q0, r0, e0⟩ := at' 0 (by omega)
      obtain ⟨p2, q2, r2, e2⟩ := at' 2 (by omega)
      have : off = 0 ∨ off = 1 ∨ 2 ≤ off := by omega
      rcases this with rfl | rfl | h
      · simp at e0
      · simp at e0
      · rw [Array.getElem?_eq_none (by simp; omega)] at e2
        cases e2
    · exact k.cell h3 (by simpa using hb)
  · obtain ⟨p, q, es, _⟩ := id h4
    rw [es] at h4 ⊢
    exact Sl.offBy h4 (noBy_cos hg) k
end
/-- nothing there, or three slices and more. -/
def Co.big (c : Co) : Prop := (c.ps = [] ∨ 3 ≤ c.ps.length) ∧ (c.qs = [] ∨ 3 ≤ c.qs.length)
theorem co0_big : co0.big := ⟨.inl rfl, .inl rfl⟩
theorem CoV.off4 {w w' : World} {g : Nat} {v : Value} {c : Co} (h : CoV w v c) (hc : c.big) (hg : IsCo w g) (k : Kp [g] w w') : CoV w' v c := by
  obtain ⟨ap, np, cp, aq, nq, cq, e, vp, vq, lp, lq, e2, h1, h2, h3, h4⟩ := h
  obtain ⟨x, y, a2, n2, c2, a3, n3, c3, hg⟩ := hg
  have hp : lp = [] ∨ 3 ≤ lp.length := by
    rcases hc.1 with h | h
    · left; rw [h] at h2; exact List.map_eq_nil_iff.1 h2
    · right; rw [← List.length_map (f := (·.2)), h2]; exact h
  have hq : lq = [] ∨ 3 ≤ lq.length := by
    rcases hc.2 with h | h
    · left; rw [h] at h4; exact List.map_eq_nil_iff.1 h4
    · right; rw [← List.length_map (f := (·.2)), h4]; exact h
  exact ⟨ap, np, cp, aq, nq, cq, e, vp, vq, lp, lq, e2, lists_off4 hg k h1 hp, h2, lists_off4 hg k h3 hq, h4⟩
theorem CoA.off4 {b g : Nat} {w w' : World} {v : Value} {c : Co} (h : CoA b w v c) (hc : c.big) (hb : b ≤ g) (hg : IsCo w g) (k : Kp [g] w w') : CoA b w' v c := fun S w2 hS k2 => by
  obtain ⟨x, y, a2, n2, c2, a3, n3, c3, hg⟩ := hg
  have hgS : g ∉ S := fun hm => by have := hS g hm; omega
  have hgl : g < w.heap.size := lt_of_block hg
  have hg2 : g < w2.heap.size := Nat.lt_of_lt_of_le hgl (Nat.le_trans k.size k2.size)
  obtain ⟨w3, hw3⟩ : ∃ w3 : World, w3 = { w2 with heap := w2.heap.setIfInBounds g (.cells #[.int .i64 x, .int .i64 y, .slice a2 n2 c2, .slice a3 n3 c3] 33 (0, 0)) } := ⟨_, rfl⟩
  have hg3 : w3.heap[g]? = some (.cells #[.int .i64 x, .int .i64 y, .slice a2 n2 c2, .slice a3 n3 c3] 33 (0, 0)) := by rw [hw3]; simp [hg2]
  have ho : ∀ i, i ≠ g → w3.heap[i]? = w2.heap[i]? := fun i hi => by
    rw [hw3]
    exact Array.getElem?_setIfInBounds_ne (fun e => hi e.symm)
  have hsz : w3.heap.size = w2.heap.size := by rw [hw3]; simp
  have K3 : Kp S w w3 := ⟨by rw [hw3]; exact k2.os.trans k.os, by rw [hw3]; exact k2.tape.trans k.tape, by rw [hw3]; exact k2.output.trans k.output, by rw [hsz]; exact Nat.le_trans k.size k2.size, fun i hi hs => by
    by_cases e : i = g
    · subst e; rw [hg3, hg]
    · rw [ho i e]
      exact (k2.block i (Nat.lt_of_lt_of_le hi k.size) hs).trans (k.block i hi (by simpa using e))⟩
  have K32 : Kp [g] w3 w2 := ⟨by rw [hw3], by rw [hw3], by rw [hw3], by rw [hsz]; exact Nat.le_refl _, fun i hi hs => (ho i (by simpa using hs)).symm⟩
  exact (h S w3 hS K3).off4 hc ⟨x, y, a2, n2, c2, a3, n3, c3, hg3⟩ K32
theorem coA_zero (b : Nat) (w : World) : CoA b w cos0 co0 := fun _ w2 _ _ => cos0_v w2
def CoAT (b : Nat) (c : Co) : Tell := fun v w => CoA b w v c
theorem stable_coat (b : Nat) (c : Co) : Tell.stable (CoAT b c) := fun _ _ _ k h => h.kept (S := []) (by simp) k
/-- a pair: a cosignature, and why not. -/
def PrT (b : Nat) (c : Co) (e : Int) : Tell := fun v w => ∃ x, v = .tuple #[x, .int .i64 e] ∧ CoA b w x c
theorem stable_prt (b : Nat) (c : Co) (e : Int) : Tell.stable (PrT b c e) := fun _ _ _ k ⟨x, h1, h2⟩ => ⟨x, h1, h2.kept (S := []) (by simp) k⟩
theorem grown_x0 {o : Oper} {a : Act} {w : World} (x : Operand) (ho : o.op = .extract x 0) (b : Nat) (c : Co) (e : Int) (h : PrT b c e (a.eval x) w) : grown Tryd.prog w (CoAT b c) ((execOp a.eval o).run Tryd.prog w) := by
  obtain ⟨y, h1, h2⟩ := h
  refine grown_run (v := y) ?_ (Kp.refl _ _) h2
  obtain ⟨ρ, hρ, _⟩ := eval_is a
  rw [hρ] at h1 ⊢
  unfold execOp
  simp only [ho]
  simp [go_sem, h1]
theorem grown_x1 {o : Oper} {a : Act} {w : World} (x : Operand) (ho : o.op = .extract x 1) (b : Nat) (c : Co) (e : Int) (h : PrT b c e (a.eval x) w) : grown Tryd.prog w (Is (.int .i64 e)) ((execOp a.eval o).run Tryd.prog w) := by
  obtain ⟨y, h1, h2⟩ := h
  refine grown_run (v := .int .i64 e) ?_ (Kp.refl _ _) rfl
  obtain ⟨ρ, hρ, _⟩ := eval_is a
  rw [hρ] at h1 ⊢
  unfold execOp
  simp only [ho]
  simp [go_sem, h1]
/-- nothing old was changed, but for one cosignature from B on. -/
def KN (B : Nat) (w w' : World) : Prop := Kp [] w w' ∨ ∃ g, B ≤ g ∧ IsCo w g ∧ IsCo w' g ∧ Kp [g] w w'
/-- a new cosignature's place. -/
def NewX (B : Nat) : Tell := fun v w => ∃ g, v = .pointer (some ⟨g, 0, none⟩) ∧ IsCo w g ∧ B ≤ g
theorem stable_newx (B : Nat) : Tell.stable (NewX B) := fun v w w' k ⟨g, e, h1, h2⟩ => by
  obtain ⟨x, y, a2, n2, c2, a3, n3, c3, h⟩ := h1
  exact ⟨g, e, ⟨x, y, a2, n2, c2, a3, n3, c3, k.heap h (by simp)⟩, h2⟩
theorem stableN_any {B : Nat} : Tell.stableG (KN B) AnyT := fun _ _ _ _ h => h
theorem stableN_is {B : Nat} (c : Value) : Tell.stableG (KN B) (Is c) := fun _ _ _ _ h => h
theorem stableN_sl {B : Nat} (bs : List Int) : Tell.stableG (KN B) (SlT bs) := fun v w w' k h => by
  have h0 : Sl w v bs := h
  rcases k with k | ⟨g, _, hs, _, k⟩
  · exact h0.kept k (by simp)
  · obtain ⟨ao, c, rfl, -⟩ := id h0
    obtain ⟨x, y, a2, n2, c2, a3, n3, c3, hg⟩ := hs
    exact Sl.offBy h0 (noBy_cos hg) k
theorem keepN {B b : Nat} {w w' : World} {v : Value} {c : Co} (hc : c.big) (hb : b ≤ B) (k : KN B w w') (h : CoA b w v c) : CoA b w' v c := by
  rcases k with k | ⟨g, hB, hg, _, k⟩
  · exact h.kept (S := []) (by simp) k
  · exact h.off4 hc (by omega) hg k
theorem stableN_coat {B b : Nat} (c : Co) (hc : c.big) (hb : b ≤ B) : Tell.stableG (KN B) (CoAT b c) := fun _ _ _ k h => keepN hc hb k h
theorem stableN_prt {B b : Nat} (c : Co) (e : Int) (hc : c.big) (hb : b ≤ B) : Tell.stableG (KN B) (PrT b c e) := fun _ _ _ k ⟨x, h1, h2⟩ => ⟨x, h1, keepN hc hb k h2⟩
theorem stableN_new {B : Nat} (B' : Nat) : Tell.stableG (KN B) (NewX B') := fun v w w' k ⟨g, e, h1, h2⟩ => by
  rcases k with k | ⟨g', _, hg, hg', k⟩
  · exact stable_newx B' v w w' k ⟨g, e, h1, h2⟩
  · by_cases hh : g = g'
    · rw [hh] at e h2; exact ⟨g', e, hg', h2⟩
    · obtain ⟨x, y, a2, n2, c2, a3, n3, c3, h⟩ := h1
      exact ⟨g, e, ⟨x, y, a2, n2, c2, a3, n3, c3, k.heap h (by simpa using hh)⟩, h2⟩
theorem grown_newx {o : Oper} {a : Act} {w : World} (s0 : Nat) (hs : s0 ≤ w.heap.size) (ho : o.op = .alloc 33) : grown Tryd.prog w (NewX s0) ((execOp a.eval o).run Tryd.prog w) := by
  refine grown_run (v := .pointer (some ⟨w.heap.size, 0, none⟩)) (w' := w.alloc (.cells #[.int .i64 0, .int .i64 0, .slice none 0 0, .slice none 0 0] 33)) ?_ ((Kp.refl [] w).alloc _) ⟨_, rfl, ⟨0, 0, none, 0, 0, none, 0, 0, heap_alloc_new w _⟩, hs⟩
  unfold execOp
  simp only [ho]
  simp [go_sem]
/-- what was stored so far. -/
def GN (w0 : World) (k tp tv : Nat) (listed : Array Bool) (a : Act) (w : World) : Prop :=
  Kp [] w0 w ∧ (listed.getD k false = true → ∃ g cs, a.eval (.tmp tp) = .pointer (some ⟨g, 0, none⟩) ∧ a.eval (.tmp tv) = .agg cs ∧ w.heap[g]? = some (.cells cs 33 (0, 0)))
section
variable {w0 w w' : World} {k tp tv : Nat} {listed : Array Bool} {a : Act}
theorem GN.free (h : GN w0 k tp tv listed a w) (k' : Nat) (hk : k' ≠ k) (d : Tmp) (hd : d = tp ∨ d = tv → listed.getD k false = false) (v : Value) (K : Kp [] w w') : GN w0 k tp tv (listed.setIfInBounds k' true) (a.put (some d) v) w' := by
  refine ⟨h.1.trans K, fun hl => ?_⟩
  rw [getD_set_neM hk] at hl
  obtain ⟨g, cs, e1, e2, hg⟩ := h.2 hl
  have h1 : d ≠ tp := fun e => by rw [hd (.inl e)] at hl; cases hl
  have h2 : d ≠ tv := fun e => by rw [hd (.inr e)] at hl; cases hl
  exact ⟨g, cs, by rw [eval_put_ne h1]; exact e1, by rw [eval_put_ne h2]; exact e2, K.heap hg (by simp)⟩
theorem GN.st {ops : Array Oper} {o : Oper} {b : Nat} {c : Co} (h : GN w0 k tp tv listed a w) (_hsz : k < listed.size) (hg : o.guard = none) (ho : o.op = .store 33 (.tmp tp) (.tmp tv)) (hd : o.dst = none) (hp : NewX w0.heap.size (a.eval (.tmp tp)) w) (hu : CoAT b c (a.eval (.tmp tv)) w) : wantsG (KN w0.heap.size) (GN w0 k tp tv (listed.setIfInBounds k true)) Tryd.prog ops o a w AnyT := by
  obtain ⟨g, e1, hs, hb⟩ := hp
  obtain ⟨ap, np, cp, aq, nq, cq, e2, -⟩ := CoA.v hu
  obtain ⟨x, y, a2, n2, c2, a3, n3, c3, hh⟩ := id hs
  have K := kp_fcells w g [.int .i64 c.k, .int .i64 c.i, .slice ap np cp, .slice aq nq cq] 0 w (Kp.refl _ _)
  have G' := heap_fcells g _ [.int .i64 c.k, .int .i64 c.i, .slice ap np cp, .slice aq nq cq] 0 w _ hh
  have hrun := run_storeAt_mid (P := Tryd.prog) w g 0 33 #[.int .i64 c.k, .int .i64 c.i, .slice ap np cp, .slice aq nq cq] (fun j hj => by
    rw [Nat.zero_add, cell_of_row w g j _ _ _ hh]
    refine ⟨?_, frozen_of_row w g j _ _ hh⟩
    have hj5 : j < 4 := by simpa using hj
    rcases (by omega : j = 0 ∨ j = 1 ∨ j = 2 ∨ j = 3) with rfl | rfl | rfl | rfl <;> rfl) Tryd.cosSize (by simp [Value.oneCell'])
  refine wantsG_skipM (w' := w.setCells g 0 [.int .i64 c.k, .int .i64 c.i, .slice ap np cp, .slice aq nq cq]) hg ?_ ⟨⟨.inr ⟨g, hb, hs, ⟨c.k, c.i, ap, np, cp, aq, nq, cq, G'⟩, K⟩, h.1.then K (fun i hi => .inr (by simp at hi; omega)), fun _ => ⟨g, _, by rw [hd]; exact e1, by rw [hd]; exact e2, G'⟩⟩, trivial⟩
  unfold execOp
  simp only [ho, e1, e2, Sem.run_bind, hrun, Result.andThen_ok, Sem.run_pure]
  exact .inl trivial
end
end Go.Proofs.YtdjofooggofpkaaDoor

/-
  Cosignatures that are built of a signature that an operation of a region yielded.
-/
namespace Go.Proofs.YtdjofooggofpkaaDoor
open Go.RowKit
open Go.Proofs

def SgT (b : Nat) (i : Int) (ps qs : List (List Int)) : Tell := fun v w => SigA b w v i ps qs
theorem stable_sgt (b : Nat) (i : Int) (ps qs : List (List Int)) : Tell.stable (SgT b i ps qs) := fun _ _ _ k h => h.kept (S := []) (by simp) k
theorem sigA_coA {b : Nat} {w : World} {k i : Int} {ap aq : Option Addr} {np cp nq cq : Nat} {ps qs : List (List Int)} (h : SigA b w (.agg #[.int .i64 i, .slice ap np cp, .slice aq nq cq]) i ps qs) : CoA b w (.agg #[.int .i64 k, .int .i64 i, .slice ap np cp, .slice aq nq cq]) ⟨k, i, ps, qs⟩ :=
  fun S w2 hS k2 => ⟨ap, np, cp, aq, nq, cq, rfl, h S w2 hS k2⟩
theorem grown_bco {o : Oper} {a : Act} {w : World} {b : Nat} {k i : Int} {ps qs : List (List Int)} (x0 x1 : Operand) (ho : o.op = .build 33 #[(0, x0), (1, x1)]) (h0 : a.eval x0 = .int .i64 k) (h1 : SgT b i ps qs (a.eval x1) w) :
    grown Tryd.prog w (CoAT b ⟨k, i, ps, qs⟩) ((execOp a.eval o).run Tryd.prog w) := by
  have h2 : SigA b w (a.eval x1) i ps qs := h1
  obtain ⟨ap, np, cp, aq, nq, cq, lp, lq, e, -⟩ := h2.v.shape
  rw [e] at h2
  refine grown_run (v := .agg #[.int .i64 k, .int .i64 i, .slice ap np cp, .slice aq nq cq]) ?_ (Kp.refl _ _) (sigA_coA h2)
  obtain ⟨ρ, hρ, _⟩ := eval_is a
  rw [hρ] at e h0 ⊢
  unfold execOp
  simp only [ho]
  simp [go_sem, e, h0]
end Go.Proofs.YtdjofooggofpkaaDoor

/-
  What a reference's owner signs: it stays, whatever becomes of blocks that were made between the owner and the signing. Cosignatures that stay so.
-/
namespace Go.Proofs.YtdjofooggofpkaaDoor
open Go.RowKit
open Go.Proofs

/-- a cosignature that stays so, whatever becomes of the blocks of which Q holds. -/
def CoQ (Q : Nat → Prop) (w : World) (v : Value) (c : Co) : Prop := ∀ (S : List Nat) (w2 : World), (∀ q ∈ S, Q q) → Kp S w w2 → CoV w2 v c
section
variable {Q : Nat → Prop} {w w' : World} {u : Value} {c : Co}
theorem CoQ.v (h : CoQ Q w u c) : CoV w u c := h [] w (by simp) (Kp.refl _ _)
theorem CoQ.kept (h : CoQ Q w u c) (k : Kp [] w w') : CoQ Q w' u c := fun S2 w2 h2 k2 => h S2 w2 h2 ((k.mono (by simp)).trans k2)
theorem CoQ.off4 {g : Nat} (h : CoQ Q w u c) (hc : c.big) (hb : ¬ Q g) (hg : IsCo w g) (k : Kp [g] w w') : CoQ Q w' u c := fun S w2 hS k2 => by
  obtain ⟨x, y, a2, n2, c2, a3, n3, c3, hg⟩ := hg
  have hgS : g ∉ S := fun hm => hb (hS g hm)
  have hgl : g < w.heap.size := lt_of_block hg
  have hg2 : g < w2.heap.size := Nat.lt_of_lt_of_le hgl (Nat.le_trans k.size k2.size)
  obtain ⟨w3, hw3⟩ : ∃ w3 : World, w3 = { w2 with heap := w2.heap.setIfInBounds g (.cells #[.int .i64 x, .int .i64 y, .slice a2 n2 c2, .slice a3 n3 c3] 33 (0, 0)) } := ⟨_, rfl⟩
  have hg3 : w3.heap[g]? = some (.cells #[.int .i64 x, .int .i64 y, .slice a2 n2 c2, .slice a3 n3 c3] 33 (0, 0)) := by rw [hw3]; simp [hg2]
  have ho : ∀ i, i ≠ g → w3.heap[i]? = w2.heap[i]? := fun i hi => by
    rw [hw3]
    exact Array.getElem?_setIfInBounds_ne (fun e => hi e.symm)
  have hsz : w3.heap.size = w2.heap.size := by rw [hw3]; simp
  have K3 : Kp S w w3 := ⟨by rw [hw3]; exact k2.os.trans k.os, by rw [hw3]; exact k2.tape.trans k.tape, by rw [hw3]; exact k2.output.trans k.output, by rw [hsz]; exact Nat.le_trans k.size k2.size, fun i hi hs => by
    by_cases e : i = g
    · subst e; rw [hg3, hg]
    · rw [ho i e]
      exact (k2.block i (Nat.lt_of_lt_of_le hi k.size) hs).trans (k.block i hi (by simpa using e))⟩
  have K32 : Kp [g] w3 w2 := ⟨by rw [hw3], by rw [hw3], by rw [hw3], by rw [hsz]; exact Nat.le_refl _, fun i hi hs => (ho i (by simpa using hs)).symm⟩
  exact (h S w3 hS K3).off4 hc ⟨x, y, a2, n2, c2, a3, n3, c3, hg3⟩ K32
/-- said to be of another. -/
theorem CoQ.said {k i j : Int} {ap aq : Option Addr} {np cp nq cq : Nat} {ps qs : List (List Int)} (h : CoQ Q w (.agg #[.int .i64 k, .int .i64 i, .slice ap np cp, .slice aq nq cq]) ⟨k, i, ps, qs⟩) : CoQ Q w (.agg #[.int .i64 j, .int .i64 i, .slice ap np cp, .slice aq nq cq]) ⟨j, i, ps, qs⟩ := fun S w2 hS k2 => by
  obtain ⟨ap', np', cp', aq', nq', cq', e, hs⟩ := h S w2 hS k2
  simp only [Value.agg.injEq, Array.mk.injEq, List.cons.injEq, and_true, true_and] at e
  obtain ⟨e1, e2⟩ := e
  rw [← e1, ← e2] at hs
  exact ⟨ap, np, cp, aq, nq, cq, rfl, hs⟩
end
def CoQT (B0 B1 : Nat) (c : Co) : Tell := fun v w => CoQ (fun q => B0 ≤ q ∧ q < B1) w v c
theorem stable_coqt (B0 B1 : Nat) (c : Co) : Tell.stable (CoQT B0 B1 c) := fun _ _ _ k h => h.kept k
def SgQT (B0 B1 : Nat) (i : Int) (ps qs : List (List Int)) : Tell := fun v w => ∀ (S : List Nat) w2, (∀ q ∈ S, B0 ≤ q ∧ q < B1) → Kp S w w2 → SigV w2 v i ps qs
theorem stable_sgqt (B0 B1 : Nat) (i : Int) (ps qs : List (List Int)) : Tell.stable (SgQT B0 B1 i ps qs) := fun _ _ _ k h S w2 hS k2 => h S w2 hS ((k.mono (by simp)).trans k2)
theorem grown_bcq {o : Oper} {a : Act} {w : World} {B0 B1 : Nat} {k i : Int} {ps qs : List (List Int)} (x0 x1 : Operand) (ho : o.op = .build 33 #[(0, x0), (1, x1)]) (h0 : a.eval x0 = .int .i64 k) (h1 : SgQT B0 B1 i ps qs (a.eval x1) w) :
    grown Tryd.prog w (CoQT B0 B1 ⟨k, i, ps, qs⟩) ((execOp a.eval o).run Tryd.prog w) := by
  have h2 : SigV w (a.eval x1) i ps qs := h1 [] w (by simp) (Kp.refl _ _)
  obtain ⟨ap, np, cp, aq, nq, cq, lp, lq, e, -⟩ := h2.shape
  have h3 : CoQ (fun q => B0 ≤ q ∧ q < B1) w (.agg #[.int .i64 k, .int .i64 i, .slice ap np cp, .slice aq nq cq]) ⟨k, i, ps, qs⟩ := fun S w2 hS k2 => ⟨ap, np, cp, aq, nq, cq, rfl, by have := h1 S w2 hS k2; rw [e] at this; exact this⟩
  refine grown_run (v := .agg #[.int .i64 k, .int .i64 i, .slice ap np cp, .slice aq nq cq]) ?_ (Kp.refl _ _) h3
  obtain ⟨ρ, hρ, _⟩ := eval_is a
  rw [hρ] at e h0 ⊢
  unfold execOp
  simp only [ho]
  simp [go_sem, e, h0]

set_option maxRecDepth 100000 in
set_option maxHeartbeats 4000000 in
theorem own_signK (g base : Nat) (bs : List Int) (i : Nat) (vm : Value) (ms : List Int) (d : Int) (hd : d = digP ms) (w0 : World) (hO : Ow w0 base g bs 5) (w : World) (k0 : Kp [] w0 w) (hB : Bs bs) (hl : bs.length = 32) (hi : i < 16) (hM : Sl w vm ms) (hMB : Bs ms) (hml : ms.length ≤ 1000) :
    Calls Tryd.prog 27 #[.pointer (some ⟨g, 0, none⟩), .int .i64 i, vm] w fun e w' => ∃ v, e = .returned v ∧ (∀ (S : List Nat) w2, (∀ q ∈ S, w0.heap.size ≤ q ∧ q < w.heap.size) → Kp S w' w2 → SigV w2 v i (sgnP bs i d) (pthP bs i 4)) ∧ Kp [] w w' := by
  have hg0 : g < w0.heap.size := lt_of_block hO.choose_spec.choose_spec.choose_spec.choose_spec.choose_spec.1
  have h00 : w0.heap.size ≤ w.heap.size := k0.size
  have hgw : g < w.heap.size := by omega
  obtain ⟨sa, sn, sc, gl, lc, h0, h1, hS, hLv⟩ := hO.lv
  replace h0 := k0.cell h0 (by simp)
  replace h1 := k0.cell h1 (by simp)
  replace hS := hS.kept k0 (by simp)
  have HK0 := hide k0
  obtain ⟨ob, hob⟩ : ∃ o : Obj, o = (.cells #[.int .i64 0, .slice none 0 0, .slice none 0 0] 31) := ⟨_, rfl⟩
  have K1 : Kp [] w (w.alloc ob) := (Kp.refl [] w).alloc ob
  have HC := hide (refsign_any (.slice sa sn sc) bs i vm ms d hd (w.alloc ob) (hS.kept K1 (by simp)) hB (by omega) (hM.kept K1 (by simp)) hMB hml)
  have hc0 : (w.alloc ob).cell? ⟨g, 0, none⟩ = some (.slice sa sn sc) := K1.cell h0 (by simp)
  have G1 : Hid ((w.alloc ob).heap[w.heap.size]? = some ob) := heap_alloc_new w ob
  rw [hob] at K1 HC hc0 G1
  have HK1 := hide K1
  have HLV := hide hLv
  have H1 := hide h1
  obtain ⟨am, cm, hvm, _⟩ := hM
  obtain ⟨nm, hnm⟩ : ∃ n, n = ms.length := ⟨_, rfl⟩
  rw [← hnm] at hvm
  subst hvm
  clear k0 hob K1 hO hB hMB hd hnm h0 h1 hS hLv
  go_enter Tryd.func27, Tryd.ntmps27
  go_wp2_with fail
  refine (unhide HC).mono ?_
  rintro ee w2 ⟨a2, m2, c2, rfl, A2⟩
  have HK2 := hide ((unhide HK1).trans A2.kp)
  have HG2 := hide (A2.kp.heap (unhide G1) (by simp))
  have HL2 : Hid (∃ l, Lists w2 (.slice a2 m2 c2) l ∧ l.map (·.2) = sgnP bs i d ∧ (∀ q, (Value.slice a2 m2 c2).ownBlock = some q → w.heap.size < q ∧ q < w2.heap.size) ∧ ∀ x ∈ l, ∀ q, x.1.ownBlock = some q → w.heap.size < q ∧ q < w2.heap.size) := by
    obtain ⟨l, k1, k2, _⟩ := A2
    have hz : ∀ o : Obj, (w.alloc o).heap.size = w.heap.size + 1 := fun o => by simp
    refine ⟨l, k1.lists (by rw [← List.length_map (f := (·.2)), k2, sgnP, ptsP_len]; omega), k2, fun q hq => ?_, fun x hx q hq => ?_⟩
    · have := k1.1.own q hq; have := k1.1.lt hq; rw [hz] at *; omega
    · have := (k1.2 x hx).1.own q hq; have := (k1.2 x hx).1.lt hq; rw [hz] at *; omega
  have Ga := heap_alloc_new w2 (.cells #[.int .i64 0, .slice none 0 0, .slice none 0 0] 31)
  have HKa : Hid (Kp [] w2 (w2.alloc (.cells #[.int .i64 0, .slice none 0 0, .slice none 0 0] 31))) := (Kp.refl [] w2).alloc _
  clear HC A2 HK1 G1 hc0
  go_wp2_with (refine wpList_store_sig rfl (.tmp 7) (.tmp 17) rfl w2.heap.size rfl _ _ _ _ _ _ Ga rfl ⟨rfl, rfl, rfl⟩ ?_; intro w3 G3 K3)
  obtain ⟨gs, hgs⟩ : ∃ gs, gs = w2.heap.size := ⟨_, rfl⟩
  have hz2 : ∀ o : Obj, (w2.alloc o).heap.size = w2.heap.size + 1 := fun o => by simp
  have hs3 : gs < w3.heap.size := by rw [hgs]; exact (Array.getElem?_eq_some_iff.1 G3).1
  have hws : w.heap.size < gs := by rw [hgs]; exact (Array.getElem?_eq_some_iff.1 (unhide HG2)).1
  have HK3 : Hid (Kp [] w w3) := ((unhide HK2).trans (unhide HKa)).then K3 (fun i hi => .inr (by simp at hi; omega))
  have HQ3 : Hid (Kp [gs] w2 w3) := by rw [hgs]; exact ((unhide HKa).mono (by simp)).trans K3
  rw [← hgs] at G3 ⊢
  have HG3 := hide G3
  have A3 : Hid (AccS [gs] (fun q => g < q ∧ q < w0.heap.size) w3 (pthP bs i 0) (.slice none 0 0) w3) := ⟨[], ⟨⟨rfl, .inl ⟨rfl, rfl⟩⟩, fun x hx => by cases hx⟩, rfl, Kp.refl _ _, fun x hx => by cases hx⟩
  have HGS := hide hgs
  clear Ga HKa G3 K3 hz2 hgs
  go_wp2_with fail
  go_loopw [8] (fun j wr => ∃ (h m cc : Nat) (ao : Option Addr), h ≤ 4 ∧ j = .int .i64 h ∧ AccS [gs] (fun q => g < q ∧ q < w0.heap.size) w3 (pthP bs i h) (.slice ao m cc) wr ∧ wr.heap[gs]? = some (.cells #[.int .i64 i, .slice a2 m2 c2, .slice ao m cc] 31 (0, 0))) (fun j _ => 4 - (intOf j).toNat)
  case atStart => exact ⟨0, 0, 0, none, by omega, rfl, unhide A3, unhide HG3⟩
  case round =>
    clear A3 HG3
    obtain ⟨h, m, cc, ao, hh, rfl, Ar, Gr⟩ := hrel
    have HA := hide Ar
    have HGr := hide Gr
    have HKr : Hid (Kp [] w wr) := (unhide HK3).then Ar.kp (fun i hi => .inr (by simp at hi; omega))
    clear Ar Gr
    by_cases hlt : h < 4
    · have hlt2 : (h : Int) < 4 := by omega
      have hx16 : i / 2 ^ h < 16 := Nat.lt_of_le_of_lt (Nat.div_le_self _ _) hi
      have hsl : sibP (i / 2 ^ h) < (lvP bs h).length := by rw [lvP_len]; exact sib_lv hi hlt
      have hxor := sib_xor _ hx16
      have hE := pthP_succ bs i h
      obtain ⟨b, off, nl, cl, ax, nx, cx, k1, k2, k3, k4, k5, k6⟩ := unhide HLV h (by omega) _ hsl
      have hshr : (i : Int) / 2 ^ h = ((i / 2 ^ h : Nat) : Int) := by rw [Int.natCast_ediv, Int.natCast_pow]; rfl
      rw [← k2] at hsl
      obtain ⟨x, hx⟩ : ∃ x, x = i / 2 ^ h := ⟨_, rfl⟩
      obtain ⟨s, hs⟩ : ∃ s, s = sibP x := ⟨_, rfl⟩
      rw [← hx] at hxor hsl hE k3 k4 k5 hshr hx16
      rw [← hs] at hxor hsl hE k3 k4 k5
      have hsi : (s : Int) < (nl : Int) := by omega
      obtain ⟨X, hX⟩ : ∃ X, X = (lvP bs h).getD s [] := ⟨_, rfl⟩
      rw [← hX] at hE k4 k5
      have HE := hide hE
      have HLN : Hid ((pthP bs i h).length ≤ 1000000) := by rw [pthP_len]; show h ≤ 1000000; omega
      have hc1 : wr.cell? ⟨g, 1, none⟩ = some (.slice (some ⟨gl, 0, none⟩) 5 lc) := (unhide HKr).cell (unhide H1) (by simp)
      have hc2 : wr.cell? ⟨gl, h, none⟩ = some (.slice (some ⟨b, off, none⟩) nl cl) := ((unhide HK0).trans (unhide HKr)).cell k1 (by simp)
      have hc3 : wr.cell? ⟨b, off + s, none⟩ = some (.slice ax nx cx) := ((unhide HK0).trans (unhide HKr)).cell k3 (by simp)
      have hc4 : wr.cell? ⟨gs, 2, none⟩ = some (.slice ao m cc) := by rw [cell_of_row wr gs 2 _ _ _ (unhide HGr)]; rfl
      have hlt5 : (h : Int) < 5 := by omega
      have hw64 : IntKind.u64.wrap (h : Int) = (h : Int) := by simp [IntKind.wrap, IntKind.signed, IntKind.bits]; omega
      have hmin : min h 64 = h := by omega
      have hgr : gs < wr.heap.size := (Array.getElem?_eq_some_iff.1 (unhide HGr)).1
      have hca : ∀ o, (wr.alloc o).cell? ⟨gs, 2, none⟩ = some (.slice ao m cc) := fun o => (World.cell?_alloc_lt _ _ _ (by exact hgr)).trans hc4
      have HSx := hide (k4.kept ((unhide HK0).trans (unhide HKr)) (by simp))
      have HBx := hide k5
      have HFx := hide k6
      have HAP : Hid (∀ q, (Value.slice ax nx cx).ownBlock = some q → (Value.slice ao m cc).ownBlock = some q → X = []) := fun q h1 h2 => by
        obtain ⟨_, hR, _⟩ := unhide HA
        have := hR.1.own q h2
        have := k6 q h1
        have := (unhide HK3).size
        omega
      clear hE k1 k2 k3 k4 k5 k6 hX hs hx
      go_wp2_with fail
      go_region_law ((refine step_accs (by rfl) (.tmp 23) (.tmp 38) (by rfl) (.slice ao m cc) _ (by rfl) (unhide HA) (unhide HLN) (.slice ax nx cx) X (unhide HSx) (unhide HBx) (unhide HAP) (unhide HFx) wr.heap.size (by rfl) (by exact cell_of_one (heap_alloc_new wr _)) (((Kp.refl [] wr).alloc _).drew) ?_; intro ao5 m5 c5 w5 A5 S5; have G5 : w5.heap[gs]? = some (.cells #[.int .i64 i, .slice a2 m2 c2, .slice ao m cc] 31 (0, 0)) := (S5.1.heap (unhide HGr) (fun hm => (by obtain ⟨_, hR, _⟩ := unhide HA; have := hR.1.own gs (by simpa using hm); omega))); have hc5 : w5.cell? ⟨gs, 2, none⟩ = some (.slice ao m cc) := (by rw [cell_of_row w5 gs 2 _ _ _ G5]; rfl); have hf5 : w5.frozen? ⟨gs, 2, none⟩ = false := frozen_of_row w5 gs 2 _ _ G5))
      all_goals
        have G6 : (w5.setCell ⟨gs, 2, none⟩ (.slice ao5 m5 c5)).heap[gs]? = some (.cells #[.int .i64 i, .slice a2 m2 c2, .slice ao5 m5 c5] 31 (0, 0)) := by
          have := heap_setCell_same w5 gs 2 _ _ (.slice ao5 m5 c5) G5
          simpa using this
        have A6 := A5.off (setCell_kp w5 gs 2 (.slice ao5 m5 c5)) (by simp) (fun i hi e => by subst e; omega) hs3
        have HG6 := hide G6
        have HA6 := hide A6
        clear A5 S5 G5 G6 A6 hc1 hc2 hc3 hc4 hca hc5 hf5 hw64 hmin HSx HAP
        go_wp2_with fail
        go_roundw
        case rel => exact ⟨h + 1, m5, c5, ao5, by omega, by go_num, by rw [unhide HE]; exact unhide HA6, unhide HG6⟩
        case measure => simp [intOf]; omega
    · obtain rfl : h = 4 := by omega
      have HV : Hid (∀ (S : List Nat) w', (∀ q ∈ S, (w0.heap.size ≤ q ∧ q < w.heap.size) ∨ q = w.heap.size) → Kp S wr w' → SigV w' (.agg #[.int .i64 i, .slice a2 m2 c2, .slice ao m cc]) i (sgnP bs i d) (pthP bs i 4)) := by
        intro S w' hS' k'
        obtain ⟨lp, p1, p2, p3, p4⟩ := unhide HL2
        obtain ⟨lq, q1, q2, q3, q4⟩ := (unhide HA).lists (by rw [pthP_len]; omega)
        have hg := unhide HGS
        have pr := (p1.off (unhide HQ3) (fun q hq => by have := p3 q hq; simp; omega) (fun y hy q hq => by have := p4 y hy q hq; simp; omega)).off (unhide HA).kp (fun q hq => by have := p3 q hq; simp; omega) (fun y hy q hq => by have := p4 y hy q hq; simp; omega)
        refine ⟨_, _, lp, lq, rfl, pr.off k' (fun q hq hm => by have := p3 q hq; have := hS' q hm; omega) (fun y hy q hq hm => by have := p4 y hy q hq; have := hS' q hm; omega), p2, q1.off k' (fun q hq hm => ?_) (fun y hy q hq hm => ?_), q2⟩
        · have := q3 q hq; have := (unhide HK3).size; have := hS' q hm; omega
        · have := q4 y hy q hq; have := hS' q hm; omega
      have G0 : wr.heap[w.heap.size]? = some (.cells #[.int .i64 0, .slice none 0 0, .slice none 0 0] 31) := (unhide HA).kp.heap ((unhide HQ3).heap (unhide HG2) (by simp; omega)) (by simp; omega)
      clear HLV H1 HA
      go_wp2_with (refine wpList_load_row rfl 31 (.tmp 7) rfl gs rfl 31 _ (0, 0) _ (unhide HGr) Tryd.underlying31 rfl Tryd.sigSize ?_; refine Hid.out ?_)
      refine hide ?_
      go_wp2_with (refine wpList_store_sig rfl (.tmp 6) (.tmp 41) rfl w.heap.size rfl _ _ _ _ _ _ G0 rfl ⟨rfl, rfl, rfl⟩ ?_; intro w4 G4 K4)
      refine bodyPost_ret (results_sig1 rfl _ _ w.heap.size _ _ _ (0, 0) rfl G4) rfl ?_
      exact ⟨_, rfl, fun S w5 h5 k5 => unhide HV (w.heap.size :: S) w5 (fun q hq => by rcases List.mem_cons.1 hq with e | e; exact .inr e; exact .inl (h5 q e)) ((K4.mono (by simp)).trans (k5.mono (by simp; intro x hx; exact .inr hx))), (unhide HKr).then K4 (by simp)⟩
end Go.Proofs.YtdjofooggofpkaaDoor
