/-
  Regions that draw their order and store a cosignature into a new place of its own.
-/
import Derived.Test.YtdjofooggofpkaaGreatDoorKYSpecs
import Derived.Test.YtdjofooggofpkaaGreatDoorKLMan
import Derived.Test.YtdjofooggofpkaaGreatDoorKRGrowX
import Derived.Test.YtdjofooggofpkaaGreatDoorKSOwner
namespace Go.Proofs.YtdjofooggofpkaaGreatDoor
open Go.RowKit
open Go.Proofs

def AnyT : Tell := fun _ _ => True
/-- a block that holds a cosignature. -/
def IsCo (w : World) (g : Nat) : Prop := ∃ (x y : Int) (a2 : Option Addr) (n2 c2 : Nat) (a3 : Option Addr) (n3 c3 : Nat), w.heap[g]? = some (.cells #[.int .i64 x, .int .i64 y, .slice a2 n2 c2, .slice a3 n3 c3] 26 (0, 0))
section
variable {w w' : World} {g : Nat} {x y : Int} {a2 a3 : Option Addr} {n2 c2 n3 c3 : Nat} {t : TypeId} {fr : Nat × Nat}
theorem noBy_cos (hg : w.heap[g]? = some (.cells #[.int .i64 x, .int .i64 y, .slice a2 n2 c2, .slice a3 n3 c3] t fr)) : NoBy w [g] := by
  intro z hz
  obtain rfl : z = g := by simpa using hz
  refine ⟨_, _, _, hg, fun u hu v => ?_⟩
  rcases (by simpa using hu : u = .int .i64 x ∨ u = .int .i64 y ∨ u = .slice a2 n2 c2 ∨ u = .slice a3 n3 c3) with rfl | rfl | rfl | rfl <;> simp
/-- a list of three slices or more does not lie in a cosignature's block. -/
theorem lists_off4 (hg : w.heap[g]? = some (.cells #[.int .i64 x, .int .i64 y, .slice a2 n2 c2, .slice a3 n3 c3] t fr)) (k : Kp [g] w w') {v : Value} {l : List (Value × List Int)} (h : Lists w v l) (hl : l = [] ∨ 3 ≤ l.length) : Lists w' v l := by
  obtain ⟨ao, c, rfl, h1, h2⟩ := h
  refine ⟨ao, c, rfl, h1, fun i hi => ?_⟩
  have hl : 3 ≤ l.length := by rcases hl with rfl | hl; · cases hi
                               · exact hl
  obtain ⟨b, off, e, h3, h4, h5⟩ := h2 i hi
  refine ⟨b, off, e, ?_, ?_, h5⟩
  · by_cases hb : b = g
    · exfalso
      subst hb
      subst e
      have at' : ∀ j (hj : j < l.length), ∃ p q r, (#[Value.int .i64 x, .int .i64 y, .slice a2 n2 c2, .slice a3 n3 c3])[off + j]? = some (.slice p q r) := fun j hj => by
        obtain ⟨b', off', e', h3', h4', _⟩ := h2 j hj
        injection e' with e'
        injection e' with e1 e2
        subst e1
        subst e2
        obtain ⟨p, r, es, _⟩ := h4'
        rw [cell_of_row w b (off + j) _ _ _ hg, es] at h3'
        exact ⟨p, _, r, h3'⟩
      obtain ⟨p0, q0, r0, e0⟩ := at' 0 (by omega)
      obtain ⟨p2, q2, r2, e2⟩ := at' 2 (by omega)
      have : off = 0 ∨ off = 1 ∨ 2 ≤ off := by omega
      rcases this with rfl | rfl | h
      · simp at e0
      · simp at e0
      · rw [Array.getElem?_eq_none (by simp; omega)] at e2
        cases e2
    · exact k.cell h3 (by simpa using hb)
  · obtain ⟨p, q, es, _⟩ := id h4
    rw [es] at h4 ⊢
    exact Sl.offBy h4 (noBy_cos hg) k
end
/-- nothing there, or three slices and more. -/
def Co.big (c : Co) : Prop := (c.ps = [] ∨ 3 ≤ c.ps.length) ∧ (c.qs = [] ∨ 3 ≤ c.qs.length)
theorem co0_big : co0.big := ⟨.inl rfl, .inl rfl⟩
theorem CoV.off4 {w w' : World} {g : Nat} {v : Value} {c : Co} (h : CoV w v c) (hc : c.big) (hg : IsCo w g) (k : Kp [g] w w') : CoV w' v c := by
  obtain ⟨ap, np, cp, aq, nq, cq, e, vp, vq, lp, lq, e2, h1, h2, h3, h4⟩ := h
  obtain ⟨x, y, a2, n2, c2, a3, n3, c3, hg⟩ := hg
  have hp : lp = [] ∨ 3 ≤ lp.length := by
    rcases hc.1 with h | h
    · left; rw [h] at h2; exact List.map_eq_nil_iff.1 h2
    · right; rw [← List.length_map (f := (·.2)), h2]; exact h
  have hq : lq = [] ∨ 3 ≤ lq.length := by
    rcases hc.2 with h | h
    · left; rw [h] at h4; exact List.map_eq_nil_iff.1 h4
    · right; rw [← List.length_map (f := (·.2)), h4]; exact h
  exact ⟨ap, np, cp, aq, nq, cq, e, vp, vq, lp, lq, e2, lists_off4 hg k h1 hp, h2, lists_off4 hg k h3 hq, h4⟩
theorem CoA.off4 {b g : Nat} {w w' : World} {v : Value} {c : Co} (h : CoA b w v c) (hc : c.big) (hb : b ≤ g) (hg : IsCo w g) (k : Kp [g] w w') : CoA b w' v c := fun S w2 hS k2 => by
  obtain ⟨x, y, a2, n2, c2, a3, n3, c3, hg⟩ := hg
  have hgS : g ∉ S := fun hm => by have := hS g hm; omega
  have hgl : g < w.heap.size := lt_of_block hg
  have hg2 : g < w2.heap.size := Nat.lt_of_lt_of_le hgl (Nat.le_trans k.size k2.size)
  obtain ⟨w3, hw3⟩ : ∃ w3 : World, w3 = { w2 with heap := w2.heap.setIfInBounds g (.cells #[.int .i64 x, .int .i64 y, .slice a2 n2 c2, .slice a3 n3 c3] 26 (0, 0)) } := ⟨_, rfl⟩
  have hg3 : w3.heap[g]? = some (.cells #[.int .i64 x, .int .i64 y, .slice a2 n2 c2, .slice a3 n3 c3] 26 (0, 0)) := by rw [hw3]; simp [hg2]
  have ho : ∀ i, i ≠ g → w3.heap[i]? = w2.heap[i]? := fun i hi => by
    rw [hw3]
    exact Array.getElem?_setIfInBounds_ne (fun e => hi e.symm)
  have hsz : w3.heap.size = w2.heap.size := by rw [hw3]; simp
  have K3 : Kp S w w3 := ⟨by rw [hw3]; exact k2.os.trans k.os, by rw [hw3]; exact k2.tape.trans k.tape, by rw [hw3]; exact k2.output.trans k.output, by rw [hsz]; exact Nat.le_trans k.size k2.size, fun i hi hs => by
    by_cases e : i = g
    · subst e; rw [hg3, hg]
    · rw [ho i e]
      exact (k2.block i (Nat.lt_of_lt_of_le hi k.size) hs).trans (k.block i hi (by simpa using e))⟩
  have K32 : Kp [g] w3 w2 := ⟨by rw [hw3], by rw [hw3], by rw [hw3], by rw [hsz]; exact Nat.le_refl _, fun i hi hs => (ho i (by simpa using hs)).symm⟩
  exact (h S w3 hS K3).off4 hc ⟨x, y, a2, n2, c2, a3, n3, c3, hg3⟩ K32
theorem coA_zero (b : Nat) (w : World) : CoA b w cos0 co0 := fun _ w2 _ _ => cos0_v w2
def CoAT (b : Nat) (c : Co) : Tell := fun v w => CoA b w v c
theorem stable_coat (b : Nat) (c : Co) : Tell.stable (CoAT b c) := fun _ _ _ k h => h.kept (S := []) (by simp) k
/-- a pair: a cosignature, and why not. -/
def PrT (b : Nat) (c : Co) (e : Int) : Tell := fun v w => ∃ x, v = .tuple #[x, .int .i64 e] ∧ CoA b w x c
theorem stable_prt (b : Nat) (c : Co) (e : Int) : Tell.stable (PrT b c e) := fun _ _ _ k ⟨x, h1, h2⟩ => ⟨x, h1, h2.kept (S := []) (by simp) k⟩
theorem grown_x0 {o : Oper} {a : Act} {w : World} (x : Operand) (ho : o.op = .extract x 0) (b : Nat) (c : Co) (e : Int) (h : PrT b c e (a.eval x) w) : grown Tryz.prog w (CoAT b c) ((execOp a.eval o).run Tryz.prog w) := by
  obtain ⟨y, h1, h2⟩ := h
  refine grown_run (v := y) ?_ (Kp.refl _ _) h2
  obtain ⟨ρ, hρ, _⟩ := eval_is a
  rw [hρ] at h1 ⊢
  unfold execOp
  simp only [ho]
  simp [go_sem, h1]
theorem grown_x1 {o : Oper} {a : Act} {w : World} (x : Operand) (ho : o.op = .extract x 1) (b : Nat) (c : Co) (e : Int) (h : PrT b c e (a.eval x) w) : grown Tryz.prog w (Is (.int .i64 e)) ((execOp a.eval o).run Tryz.prog w) := by
  obtain ⟨y, h1, h2⟩ := h
  refine grown_run (v := .int .i64 e) ?_ (Kp.refl _ _) rfl
  obtain ⟨ρ, hρ, _⟩ := eval_is a
  rw [hρ] at h1 ⊢
  unfold execOp
  simp only [ho]
  simp [go_sem, h1]
/-- nothing old was changed, but for one cosignature from B on. -/
def KN (B : Nat) (w w' : World) : Prop := Kp [] w w' ∨ ∃ g, B ≤ g ∧ IsCo w g ∧ IsCo w' g ∧ Kp [g] w w'
/-- a new cosignature's place. -/
def NewX (B : Nat) : Tell := fun v w => ∃ g, v = .pointer (some ⟨g, 0, none⟩) ∧ IsCo w g ∧ B ≤ g
theorem stable_newx (B : Nat) : Tell.stable (NewX B) := fun v w w' k ⟨g, e, h1, h2⟩ => by
  obtain ⟨x, y, a2, n2, c2, a3, n3, c3, h⟩ := h1
  exact ⟨g, e, ⟨x, y, a2, n2, c2, a3, n3, c3, k.heap h (by simp)⟩, h2⟩
theorem stableN_any {B : Nat} : Tell.stableG (KN B) AnyT := fun _ _ _ _ h => h
theorem stableN_is {B : Nat} (c : Value) : Tell.stableG (KN B) (Is c) := fun _ _ _ _ h => h
theorem stableN_sl {B : Nat} (bs : List Int) : Tell.stableG (KN B) (SlT bs) := fun v w w' k h => by
  have h0 : Sl w v bs := h
  rcases k with k | ⟨g, _, hs, _, k⟩
  · exact h0.kept k (by simp)
  · obtain ⟨ao, c, rfl, -⟩ := id h0
    obtain ⟨x, y, a2, n2, c2, a3, n3, c3, hg⟩ := hs
    exact Sl.offBy h0 (noBy_cos hg) k
theorem keepN {B b : Nat} {w w' : World} {v : Value} {c : Co} (hc : c.big) (hb : b ≤ B) (k : KN B w w') (h : CoA b w v c) : CoA b w' v c := by
  rcases k with k | ⟨g, hB, hg, _, k⟩
  · exact h.kept (S := []) (by simp) k
  · exact h.off4 hc (by omega) hg k
theorem stableN_coat {B b : Nat} (c : Co) (hc : c.big) (hb : b ≤ B) : Tell.stableG (KN B) (CoAT b c) := fun _ _ _ k h => keepN hc hb k h
theorem stableN_prt {B b : Nat} (c : Co) (e : Int) (hc : c.big) (hb : b ≤ B) : Tell.stableG (KN B) (PrT b c e) := fun _ _ _ k ⟨x, h1, h2⟩ => ⟨x, h1, keepN hc hb k h2⟩
theorem stableN_new {B : Nat} (B' : Nat) : Tell.stableG (KN B) (NewX B') := fun v w w' k ⟨g, e, h1, h2⟩ => by
  rcases k with k | ⟨g', _, hg, hg', k⟩
  · exact stable_newx B' v w w' k ⟨g, e, h1, h2⟩
  · by_cases hh : g = g'
    · rw [hh] at e h2; exact ⟨g', e, hg', h2⟩
    · obtain ⟨x, y, a2, n2, c2, a3, n3, c3, h⟩ := h1
      exact ⟨g, e, ⟨x, y, a2, n2, c2, a3, n3, c3, k.heap h (by simpa using hh)⟩, h2⟩
theorem grown_newx {o : Oper} {a : Act} {w : World} (s0 : Nat) (hs : s0 ≤ w.heap.size) (ho : o.op = .alloc 26) : grown Tryz.prog w (NewX s0) ((execOp a.eval o).run Tryz.prog w) := by
  refine grown_run (v := .pointer (some ⟨w.heap.size, 0, none⟩)) (w' := w.alloc (.cells #[.int .i64 0, .int .i64 0, .slice none 0 0, .slice none 0 0] 26)) ?_ ((Kp.refl [] w).alloc _) ⟨_, rfl, ⟨0, 0, none, 0, 0, none, 0, 0, heap_alloc_new w _⟩, hs⟩
  unfold execOp
  simp only [ho]
  simp [go_sem]
/-- what was stored so far. -/
def GN (w0 : World) (k tp tv : Nat) (listed : Array Bool) (a : Act) (w : World) : Prop :=
  Kp [] w0 w ∧ (listed.getD k false = true → ∃ g cs, a.eval (.tmp tp) = .pointer (some ⟨g, 0, none⟩) ∧ a.eval (.tmp tv) = .agg cs ∧ w.heap[g]? = some (.cells cs 26 (0, 0)))
section
variable {w0 w w' : World} {k tp tv : Nat} {listed : Array Bool} {a : Act}
theorem GN.free (h : GN w0 k tp tv listed a w) (k' : Nat) (hk : k' ≠ k) (d : Tmp) (hd : d = tp ∨ d = tv → listed.getD k false = false) (v : Value) (K : Kp [] w w') : GN w0 k tp tv (listed.setIfInBounds k' true) (a.put (some d) v) w' := by
  refine ⟨h.1.trans K, fun hl => ?_⟩
  rw [getD_set_neM hk] at hl
  obtain ⟨g, cs, e1, e2, hg⟩ := h.2 hl
  have h1 : d ≠ tp := fun e => by rw [hd (.inl e)] at hl; cases hl
  have h2 : d ≠ tv := fun e => by rw [hd (.inr e)] at hl; cases hl
  exact ⟨g, cs, by rw [eval_put_ne h1]; exact e1, by rw [eval_put_ne h2]; exact e2, K.heap hg (by simp)⟩
theorem GN.st {ops : Array Oper} {o : Oper} {b : Nat} {c : Co} (h : GN w0 k tp tv listed a w) (_hsz : k < listed.size) (hg : o.guard = none) (ho : o.op = .store 26 (.tmp tp) (.tmp tv)) (hd : o.dst = none) (hp : NewX w0.heap.size (a.eval (.tmp tp)) w) (hu : CoAT b c (a.eval (.tmp tv)) w) : wantsG (KN w0.heap.size) (GN w0 k tp tv (listed.setIfInBounds k true)) Tryz.prog ops o a w AnyT := by
  obtain ⟨g, e1, hs, hb⟩ := hp
  obtain ⟨ap, np, cp, aq, nq, cq, e2, -⟩ := CoA.v hu
  obtain ⟨x, y, a2, n2, c2, a3, n3, c3, hh⟩ := id hs
  have K := kp_fcells w g [.int .i64 c.k, .int .i64 c.i, .slice ap np cp, .slice aq nq cq] 0 w (Kp.refl _ _)
  have G' := heap_fcells g _ [.int .i64 c.k, .int .i64 c.i, .slice ap np cp, .slice aq nq cq] 0 w _ hh
  have hrun := run_storeAt_mid (P := Tryz.prog) w g 0 26 #[.int .i64 c.k, .int .i64 c.i, .slice ap np cp, .slice aq nq cq] (fun j hj => by
    rw [Nat.zero_add, cell_of_row w g j _ _ _ hh]
    refine ⟨?_, frozen_of_row w g j _ _ hh⟩
    have hj5 : j < 4 := by simpa using hj
    rcases (by omega : j = 0 ∨ j = 1 ∨ j = 2 ∨ j = 3) with rfl | rfl | rfl | rfl <;> rfl) Tryz.cosSize (by simp [Value.oneCell'])
  refine wantsG_skipM (w' := w.setCells g 0 [.int .i64 c.k, .int .i64 c.i, .slice ap np cp, .slice aq nq cq]) hg ?_ ⟨⟨.inr ⟨g, hb, hs, ⟨c.k, c.i, ap, np, cp, aq, nq, cq, G'⟩, K⟩, h.1.then K (fun i hi => .inr (by simp at hi; omega)), fun _ => ⟨g, _, by rw [hd]; exact e1, by rw [hd]; exact e2, G'⟩⟩, trivial⟩
  unfold execOp
  simp only [ho, e1, e2, Sem.run_bind, hrun, Result.andThen_ok, Sem.run_pure]
  exact .inl trivial
end
end Go.Proofs.YtdjofooggofpkaaGreatDoor

/-
  Cosignatures that are built of a signature that an operation of a region yielded.
-/
namespace Go.Proofs.YtdjofooggofpkaaGreatDoor
open Go.RowKit
open Go.Proofs

def SgT (b : Nat) (i : Int) (ps qs : List (List Int)) : Tell := fun v w => SigA b w v i ps qs
theorem stable_sgt (b : Nat) (i : Int) (ps qs : List (List Int)) : Tell.stable (SgT b i ps qs) := fun _ _ _ k h => h.kept (S := []) (by simp) k
theorem sigA_coA {b : Nat} {w : World} {k i : Int} {ap aq : Option Addr} {np cp nq cq : Nat} {ps qs : List (List Int)} (h : SigA b w (.agg #[.int .i64 i, .slice ap np cp, .slice aq nq cq]) i ps qs) : CoA b w (.agg #[.int .i64 k, .int .i64 i, .slice ap np cp, .slice aq nq cq]) ⟨k, i, ps, qs⟩ :=
  fun S w2 hS k2 => ⟨ap, np, cp, aq, nq, cq, rfl, h S w2 hS k2⟩
theorem grown_bco {o : Oper} {a : Act} {w : World} {b : Nat} {k i : Int} {ps qs : List (List Int)} (x0 x1 : Operand) (ho : o.op = .build 26 #[(0, x0), (1, x1)]) (h0 : a.eval x0 = .int .i64 k) (h1 : SgT b i ps qs (a.eval x1) w) :
    grown Tryz.prog w (CoAT b ⟨k, i, ps, qs⟩) ((execOp a.eval o).run Tryz.prog w) := by
  have h2 : SigA b w (a.eval x1) i ps qs := h1
  obtain ⟨ap, np, cp, aq, nq, cq, lp, lq, e, -⟩ := h2.v.shape
  rw [e] at h2
  refine grown_run (v := .agg #[.int .i64 k, .int .i64 i, .slice ap np cp, .slice aq nq cq]) ?_ (Kp.refl _ _) (sigA_coA h2)
  obtain ⟨ρ, hρ, _⟩ := eval_is a
  rw [hρ] at e h0 ⊢
  unfold execOp
  simp only [ho]
  simp [go_sem, e, h0]
end Go.Proofs.YtdjofooggofpkaaGreatDoor
