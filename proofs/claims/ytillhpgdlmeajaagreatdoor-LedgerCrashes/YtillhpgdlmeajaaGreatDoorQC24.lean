/-
  A signed checkpoint that is told by a call and stored in a new block, in whatever order: what stays.
-/
import Derived.Test.YtillhpgdlmeajaaGreatDoorQC23
import Derived.Test.YtillhpgdlmeajaaGreatDoorQC19
namespace Go.Proofs.YtillhpgdlmeajaaGreatDoor.umix
open Go.RowKit
open Go.Proofs
open Go.Proofs.YtillhpgdlmeajaaGreatDoor
set_option linter.unusedVariables false
/-- a block that holds a signed checkpoint. -/
def IsSg (w : World) (g : Nat) : Prop := ∃ (x y : Int) (a1 : Option Addr) (n1 c1 : Nat) (a2 : Option Addr) (n2 c2 : Nat) (a3 : Option Addr) (n3 c3 : Nat), w.heap[g]? = some (.cells #[.int .i64 x, .slice a1 n1 c1, .int .i64 y, .slice a2 n2 c2, .slice a3 n3 c3] 72 (0, 0))
def Big (s : Sg) : Prop := 3 ≤ s.ps.length ∧ 3 ≤ s.qs.length
theorem off5 {b g : Nat} {w w' : World} {v : Value} {s : Sg} (h : SgA b w v s) (hc : Big s) (hb : b ≤ g) (hg : IsSg w g) (k : Kp [g] w w') : SgA b w' v s := fun S w2 hS k2 => by
  obtain ⟨x, y, a1, n1, c1, a2, n2, c2, a3, n3, c3, hg⟩ := hg
  have hgS : g ∉ S := fun hm => by have := hS g hm; omega
  have hgl : g < w.heap.size := lt_of_block hg
  have hg2 : g < w2.heap.size := Nat.lt_of_lt_of_le hgl (Nat.le_trans k.size k2.size)
  obtain ⟨w3, hw3⟩ : ∃ w3 : World, w3 = { w2 with heap := w2.heap.setIfInBounds g (.cells #[.int .i64 x, .slice a1 n1 c1, .int .i64 y, .slice a2 n2 c2, .slice a3 n3 c3] 72 (0, 0)) } := ⟨_, rfl⟩
  have hg3 : w3.heap[g]? = some (.cells #[.int .i64 x, .slice a1 n1 c1, .int .i64 y, .slice a2 n2 c2, .slice a3 n3 c3] 72 (0, 0)) := by rw [hw3]; simp [hg2]
  have ho : ∀ i, i ≠ g → w3.heap[i]? = w2.heap[i]? := fun i hi => by
    rw [hw3]
    exact Array.getElem?_setIfInBounds_ne (fun e => hi e.symm)
  have hsz : w3.heap.size = w2.heap.size := by rw [hw3]; simp
  have K3 : Kp S w w3 := ⟨by rw [hw3]; exact k2.os.trans k.os, by rw [hw3]; exact k2.tape.trans k.tape, by rw [hw3]; exact k2.output.trans k.output, by rw [hsz]; exact Nat.le_trans k.size k2.size, fun i hi hs => by
    by_cases e : i = g
    · subst e; rw [hg3, hg]
    · rw [ho i e]
      exact (k2.block i (Nat.lt_of_lt_of_le hi k.size) hs).trans (k.block i hi (by simpa using e))⟩
  have K32 : Kp [g] w3 w2 := ⟨by rw [hw3], by rw [hw3], by rw [hw3], by rw [hsz]; exact Nat.le_refl _, fun i hi hs => (ho i (by simpa using hs)).symm⟩
  exact sg_off5 hg3 K32 (h S w3 hS K3) hc.1 hc.2
def AnyT : Tell := fun _ _ => True
def SgAT (b : Nat) (s : Sg) : Tell := fun v w => SgA b w v s
/-- a pair: a signed checkpoint, and why not. -/
def PrT (b : Nat) (s : Sg) (e : Int) : Tell := fun v w => ∃ x, v = .tuple #[x, .int .i64 e] ∧ SgA b w x s
theorem grown_x0 {o : Oper} {a : Act} {w : World} (x : Operand) (ho : o.op = .extract x 0) (b : Nat) (s : Sg) (e : Int) (h : PrT b s e (a.eval x) w) : grown Tryz.prog w (SgAT b s) ((execOp a.eval o).run Tryz.prog w) := by
  obtain ⟨y, h1, h2⟩ := h
  refine grown_run (v := y) ?_ (Kp.refl _ _) h2
  obtain ⟨ρ, hρ, _⟩ := eval_is a
  rw [hρ] at h1 ⊢
  unfold execOp
  simp only [ho]
  simp [go_sem, h1]
theorem grown_x1 {o : Oper} {a : Act} {w : World} (x : Operand) (ho : o.op = .extract x 1) (b : Nat) (s : Sg) (e : Int) (h : PrT b s e (a.eval x) w) : grown Tryz.prog w (Is (.int .i64 e)) ((execOp a.eval o).run Tryz.prog w) := by
  obtain ⟨y, h1, h2⟩ := h
  refine grown_run (v := .int .i64 e) ?_ (Kp.refl _ _) rfl
  obtain ⟨ρ, hρ, _⟩ := eval_is a
  rw [hρ] at h1 ⊢
  unfold execOp
  simp only [ho]
  simp [go_sem, h1]
theorem grown_bcks {o : Oper} {a : Act} {w : World} {n : Int} {r : List Int} (x0 x1 : Operand) (ho : o.op = .build 68 #[(0, x0), (1, x1)]) (h0 : a.eval x0 = .int .i64 n) (h1 : SlT r (a.eval x1) w) (hB : Bs r) :
    grown Tryz.prog w (CkT n r) ((execOp a.eval o).run Tryz.prog w) := by
  have h2 : Sl w (a.eval x1) r := h1
  obtain ⟨ar, cr, e, _⟩ := id h2
  rw [e] at h2
  refine grown_run (v := .agg #[.int .i64 n, .slice ar r.length cr]) ?_ (Kp.refl _ _) ⟨ar, r.length, cr, rfl, h2, hB⟩
  obtain ⟨ρ, hρ, _⟩ := eval_is a
  rw [hρ] at e h0 ⊢
  unfold execOp
  simp only [ho]
  simp [go_sem, e, h0]
/-- nothing old was changed, but for one signed checkpoint from B on. -/
def KN (B : Nat) (w w' : World) : Prop := Kp [] w w' ∨ ∃ g, B ≤ g ∧ IsSg w g ∧ IsSg w' g ∧ Kp [g] w w'
def NewX (B : Nat) : Tell := fun v w => ∃ g, v = .pointer (some ⟨g, 0, none⟩) ∧ IsSg w g ∧ B ≤ g
theorem stableN_any {B : Nat} : Tell.stableG (KN B) AnyT := fun _ _ _ _ h => h
theorem stableN_is {B : Nat} (c : Value) : Tell.stableG (KN B) (Is c) := fun _ _ _ _ h => h
theorem stableN_sl {B : Nat} (bs : List Int) : Tell.stableG (KN B) (SlT bs) := fun v w w' k h => by
  have h0 : Sl w v bs := h
  rcases k with k | ⟨g, _, hs, _, k⟩
  · exact h0.kept k (by simp)
  · obtain ⟨ao, c, rfl, -⟩ := id h0
    obtain ⟨x, y, a1, n1, c1, a2, n2, c2, a3, n3, c3, hg⟩ := hs
    exact Sl.offBy h0 (noBy_sgd hg) k
theorem stableN_ck {B : Nat} (n : Int) (r : List Int) : Tell.stableG (KN B) (CkT n r) := fun v w w' k h => by
  obtain ⟨a, m, c, e, h1, h2⟩ := h
  exact ⟨a, m, c, e, stableN_sl r _ _ _ k h1, h2⟩
theorem keepN {B b : Nat} {w w' : World} {v : Value} {s : Sg} (hs : Big s) (hb : b ≤ B) (k : KN B w w') (h : SgA b w v s) : SgA b w' v s := by
  rcases k with k | ⟨g, hB, hg, _, k⟩
  · exact h.kept (S := []) (by simp) k
  · exact off5 h hs (by omega) hg k
theorem stableN_sg {B b : Nat} (s : Sg) (hs : Big s) (hb : b ≤ B) : Tell.stableG (KN B) (SgAT b s) := fun _ _ _ k h => keepN hs hb k h
theorem stableN_prt {B b : Nat} (s : Sg) (e : Int) (hs : Big s) (hb : b ≤ B) : Tell.stableG (KN B) (PrT b s e) := fun _ _ _ k ⟨x, h1, h2⟩ => ⟨x, h1, keepN hs hb k h2⟩
theorem stableN_new {B : Nat} (B' : Nat) : Tell.stableG (KN B) (NewX B') := fun v w w' k ⟨g, e, h1, h2⟩ => by
  rcases k with k | ⟨g', _, hg, hg', k⟩
  · obtain ⟨x, y, a1, n1, c1, a2, n2, c2, a3, n3, c3, h⟩ := h1
    exact ⟨g, e, ⟨x, y, a1, n1, c1, a2, n2, c2, a3, n3, c3, k.heap h (by simp)⟩, h2⟩
  · by_cases hh : g = g'
    · rw [hh] at e h2; exact ⟨g', e, hg', h2⟩
    · obtain ⟨x, y, a1, n1, c1, a2, n2, c2, a3, n3, c3, h⟩ := h1
      exact ⟨g, e, ⟨x, y, a1, n1, c1, a2, n2, c2, a3, n3, c3, k.heap h (by simpa using hh)⟩, h2⟩
theorem grown_newx {o : Oper} {a : Act} {w : World} (s0 : Nat) (hs : s0 ≤ w.heap.size) (ho : o.op = .alloc 72) : grown Tryz.prog w (NewX s0) ((execOp a.eval o).run Tryz.prog w) := by
  refine grown_run (v := .pointer (some ⟨w.heap.size, 0, none⟩)) (w' := w.alloc (.cells #[.int .i64 0, .slice none 0 0, .int .i64 0, .slice none 0 0, .slice none 0 0] 72)) ?_ ((Kp.refl [] w).alloc _) ⟨_, rfl, ⟨0, 0, none, 0, 0, none, 0, 0, none, 0, 0, heap_alloc_new w _⟩, hs⟩
  unfold execOp
  simp only [ho]
  simp [go_sem]
/-- what was stored so far. -/
def GN (w0 : World) (k tp tv : Nat) (listed : Array Bool) (a : Act) (w : World) : Prop :=
  Kp [] w0 w ∧ (listed.getD k false = true → ∃ g cs, a.eval (.tmp tp) = .pointer (some ⟨g, 0, none⟩) ∧ a.eval (.tmp tv) = .agg cs ∧ w.heap[g]? = some (.cells cs 72 (0, 0)))
section
variable {w0 w w' : World} {k tp tv : Nat} {listed : Array Bool} {a : Act}
theorem GN.free (h : GN w0 k tp tv listed a w) (k' : Nat) (hk : k' ≠ k) (d : Tmp) (hd : d = tp ∨ d = tv → listed.getD k false = false) (v : Value) (K : Kp [] w w') : GN w0 k tp tv (listed.setIfInBounds k' true) (a.put (some d) v) w' := by
  refine ⟨h.1.trans K, fun hl => ?_⟩
  rw [getD_set_neM hk] at hl
  obtain ⟨g, cs, e1, e2, hg⟩ := h.2 hl
  have h1 : d ≠ tp := fun e => by rw [hd (.inl e)] at hl; cases hl
  have h2 : d ≠ tv := fun e => by rw [hd (.inr e)] at hl; cases hl
  exact ⟨g, cs, by rw [eval_put_ne h1]; exact e1, by rw [eval_put_ne h2]; exact e2, K.heap hg (by simp)⟩
theorem GN.st {ops : Array Oper} {o : Oper} {b : Nat} {s : Sg} (h : GN w0 k tp tv listed a w) (hsz : k < listed.size) (hg : o.guard = none) (ho : o.op = .store 72 (.tmp tp) (.tmp tv)) (hd : o.dst = none) (hp : NewX w0.heap.size (a.eval (.tmp tp)) w) (hu : SgAT b s (a.eval (.tmp tv)) w) : wantsG (KN w0.heap.size) (GN w0 k tp tv (listed.setIfInBounds k true)) Tryz.prog ops o a w AnyT := by
  obtain ⟨g, e1, hs, hb⟩ := hp
  have hu' : SgV w (a.eval (.tmp tv)) s := SgA.v hu
  obtain ⟨ar, mr, cr, ap, np, cp, aq, nq, cq, e2, -, -⟩ := hu'.shape
  obtain ⟨x, y, a1, n1, c1, a2, n2, c2, a3, n3, c3, hh⟩ := id hs
  have K := kp_fcells w g [.int .i64 s.n, .slice ar mr cr, .int .i64 s.i, .slice ap np cp, .slice aq nq cq] 0 w (Kp.refl _ _)
  have G' := heap_fcells g _ [.int .i64 s.n, .slice ar mr cr, .int .i64 s.i, .slice ap np cp, .slice aq nq cq] 0 w _ hh
  have hrun := run_storeAt_mid (P := Tryz.prog) w g 0 72 #[.int .i64 s.n, .slice ar mr cr, .int .i64 s.i, .slice ap np cp, .slice aq nq cq] (fun j hj => by
    rw [Nat.zero_add, cell_of_row w g j _ _ _ hh]
    refine ⟨?_, frozen_of_row w g j _ _ hh⟩
    have hj5 : j < 5 := by simpa using hj
    rcases (by omega : j = 0 ∨ j = 1 ∨ j = 2 ∨ j = 3 ∨ j = 4) with rfl | rfl | rfl | rfl | rfl <;> rfl) Tryz.sgdSize (by simp [Value.oneCell'])
  refine wantsG_skipM (w' := w.setCells g 0 [.int .i64 s.n, .slice ar mr cr, .int .i64 s.i, .slice ap np cp, .slice aq nq cq]) hg ?_ ⟨⟨.inr ⟨g, hb, hs, ⟨s.n, s.i, ar, mr, cr, ap, np, cp, aq, nq, cq, G'⟩, K⟩, h.1.then K (fun i hi => .inr (by simp at hi; omega)), fun _ => ⟨g, _, by rw [hd]; exact e1, by rw [hd]; exact e2, G'⟩⟩, trivial⟩
  unfold execOp
  simp only [ho, e1, e2, Sem.run_bind, hrun, Result.andThen_ok, Sem.run_pure]
  exact .inl trivial
end
end Go.Proofs.YtillhpgdlmeajaaGreatDoor.umix

/-
  The contracts of package ledger: Find, signNow, Publish, Last.
-/
namespace Go.Proofs.YtillhpgdlmeajaaGreatDoor
open Go.RowKit
open Go.Proofs
open Go.Proofs.YtillhpgdlmeajaaGreatDoor.umix
set_option linter.unusedVariables false
theorem Stp.aside {F F' : Nat → Prop} {w w1 w2 : World} {T : List Nat} (h : Stp F w w1 F') (k : Kp T w1 w2) (hT : ∀ i ∈ T, w.heap.size ≤ i) : Stp F w w2 F' := by
  obtain ⟨⟨U, hU, kU⟩, h2⟩ := h
  exact ⟨⟨U, hU, kU.then k (fun i hi => .inr (hT i hi))⟩, fun i hi => (h2 i hi).imp id (fun h => ⟨h.1, Nat.lt_of_lt_of_le h.2 k.size⟩)⟩
section
variable {w0 w : World} {l pd pk : Nat} {S : LS} {f : Fps}
theorem rtU_len (x : List (List Int)) : (rtU x).length = 32 := by
  unfold rtU
  exact trootP_all (Q := fun r => r.length = 32) (fun b => sha_len b) _ (fun y hy => by obtain ⟨z, _, rfl⟩ := List.mem_map.1 hy; exact sha_len _)
theorem rtU_bs (x : List (List Int)) : Bs (rtU x) := by
  unfold rtU
  exact trootP_all (Q := Bs) (fun b => sha_bs b) _ (fun y hy => by obtain ⟨z, _, rfl⟩ := List.mem_map.1 hy; exact sha_bs _)
theorem sgU_small (seed : List Int) (x : List (List Int)) (a : Nat × Nat) (h : a.2 < 16) : (sgU seed x a).Small := by
  have h1 := (rgtP_iff _ _ _).1 (rgtP_sgn seed a.2 h (digP (bodC (a.1 : Int) (rtU (x.take a.1)))))
  refine ⟨?_, ?_, ?_, fun y hy => ?_, fun y hy => ?_⟩
  · show (rtU _).length ≤ 1000; rw [rtU_len]; omega
  · show (sgnP _ _ _).length ≤ 1000; rw [h1.2.1.1]; omega
  · show (pthP _ _ _).length ≤ 1000; rw [h1.2.2.1]; omega
  · have := h1.2.1.2 y hy; omega
  · have := h1.2.2.2 y hy; omega
set_option maxRecDepth 100000 in
set_option maxHeartbeats 8000000 in
theorem usign_any (h : Lg w0 w l pd pk S f) (hG : Gl w0) (hn : S.n < 16) (hmb : S.mb ≤ 1000) (er : Bool) (dk' : Dk) (he : S.dk.add (recP [(S.n : Int)]) = (er, dk')) (en : Int) (hen : en = if er then 0 else 13) :
    Calls Tryz.prog 77 #[.pointer (some ⟨l, 0, none⟩)] w fun e w' => e = .returned (.int .i64 en) ∧ ∃ f', Lg w0 w' l pd pk { S with dk := dk', mb := S.mb + 1, n := if er then S.n + 1 else S.n, la := if er then some (S.its.length, S.n) else S.la } f' ∧ LSt w f w' f' := by
  obtain ⟨j, s, q, vs, pv, hx⟩ := h
  have hc := hx.at_.c2
  have HT := hide (bf_take hx.bf hn hmb er he _ en rfl hen _ rfl)
  obtain ⟨ky, hky⟩ : ∃ k, k = S.n := ⟨_, rfl⟩
  obtain ⟨il, hil⟩ : ∃ k, k = S.its.length := ⟨_, rfl⟩
  have HX := hide hx
  have HG := hide hG
  have HN := hide hn
  have HEn := hide hen
  have HKY := hide hky
  have HIL := hide hil
  rw [← hky] at HT
  clear hx hG hn hmb he hen hky hil
  go_enter Tryz.func77, Tryz.ntmps77
  go_wp2_with fail
  refine HT.out.mono ?_
  rintro ee w2 ⟨rfl, F6, B2, T2⟩
  have hn' : (if er then ky + 1 else ky) ≤ 16 := by have := HN.out; have := HKY.out; split <;> omega
  have hx2 := HX.out.stepB T2 B2 hn'
  have HT2 : Hid (Stp f.tot w w2 (f.upd 6 F6).tot) := T2.one
  have HX2 := hide hx2
  clear HT B2 T2 hx2 HX hc hn'
  cases er
  · obtain rfl : en = 13 := by rw [HEn.out]; rfl
    have e1 : (if false = true then ((ky : Nat) : Int) else 0) = 0 := by simp
    rw [e1]
    go_wp2_with fail
    go_ret
    refine ⟨rfl, f.upd 6 F6, ⟨j, s, q, vs, pv, ?_⟩, HT2.out⟩
    have := HX2.out
    simp only [Bool.false_eq_true, if_false] at this ⊢
    rw [← HKY.out]; exact this
  · obtain rfl : en = 0 := by rw [HEn.out]; rfl
    have e1 : (if true = true then ((ky : Nat) : Int) else 0) = ky := by simp
    rw [e1]
    have hx2 := HX2.out
    simp only [if_true] at hx2
    have hsd := hx2.sd
    obtain ⟨av, cv, hvs, -⟩ := id hsd
    obtain ⟨nv, hnv⟩ : ∃ n, n = S.seed.length := ⟨_, rfl⟩
    simp only at hvs hsd
    rw [← hnv] at hvs
    subst hvs
    obtain ⟨r, hr⟩ : ∃ r, r = rtU S.its := ⟨_, rfl⟩
    have HXX := hide hx2
    have HD : Hid (∀ w', Kp [] w2.drew w' → Kp [] w2 w') := fun w' k' => (kp_drew w2).trans k'
    have HAt : Hid (∀ w', Kp [] w2.drew w' → Fv 99 w' l (.func (.func 44) #[.pointer (some ⟨j, 0, none⟩)] #[]) (.pointer (some ⟨s, 0, none⟩)) (.pointer (some ⟨q, 0, none⟩)) (.slice av nv cv) pv) := fun w' k => hx2.at_.kept (unhide HD w' k) (by simp)
    have HSd : Hid (∀ w', Kp [] w2.drew w' → Sl w' (.slice av nv cv) S.seed) := fun w' k => hsd.kept (unhide HD w' k) (by simp)
    have HLg : Hid (∀ w', Kp [] w2.drew w' → Lg w0 w' l pd pk { S with dk := dk', mb := S.mb + 1, n := ky + 1 } (f.upd 6 F6)) := fun w' k => ⟨j, s, q, _, pv, hx2.on (unhide HD w' k)⟩
    have HGw : Hid (∀ w', Kp [] w2.drew w' → Gl w') := fun w' k => HG.out.kept (hx2.ok.kp.trans (unhide HD w' k)) (by simp)
    have HSb : Hid (Bs S.seed) := hx2.sb
    have HSl : Hid (S.seed.length = 32) := hx2.sl
    have HKy : Hid (ky < 16) := hide (by rw [HKY.out]; exact HN.out)
    have HIl : Hid ((il : Int) = (S.its.length : Int)) := hide (by rw [HIL.out])
    have HRr := hide hr
    have HRb : Hid (Bs r) := hide (by rw [hr]; exact rtU_bs _)
    have HRg : Hid (rgtC (il : Int) r = true) := hide (by
      rw [rgtC_iff]
      have := hx2.few
      simp only at this
      have := HIL.out
      exact ⟨⟨by omega, by omega⟩, by rw [hr, rtU_len]⟩)
    obtain ⟨SG, hSG⟩ : ∃ x, x = sgU S.seed S.its (il, ky) := ⟨_, rfl⟩
    have HSGe : Hid (sgnC S.seed ky (il : Int) r = SG) := hide (by rw [hSG, hr]; unfold sgU; rw [HIL.out, List.take_length])
    have HBig : Hid (Big SG) := hide (by
      rw [hSG]
      have h1 := (rgtP_iff _ _ _).1 (rgtP_sgn S.seed ky (unhide HKy) (digP (bodC (il : Int) (rtU (S.its.take il)))))
      exact ⟨by show 3 ≤ (sgnP _ _ _).length; rw [h1.2.1.1]; omega, by show 3 ≤ (pthP _ _ _).length; rw [h1.2.2.1]; omega⟩)
    have HSGd := hide hSG
    clear hx2 hsd hnv hr hSG HX2
    go_wp2_with fail
    refine region_growL (K := KN w2.drew.heap.size) (G := GN w2.drew 15 5 29) Tryz.mixed [Is (.pointer (some ⟨l, 0, none⟩)), Is (.pointer (some ⟨l, 0, none⟩)), Is (.pointer (some ⟨l, 3, none⟩)), Is (.slice av nv cv), Is (.int .i64 (ky : Int)), Is (.pointer (some ⟨l, 0, none⟩)), Is (.int .i64 (il : Int)), Is (.pointer (some ⟨l, 0, none⟩)), SlT (r), CkT (il : Int) r, PrT w2.drew.heap.size SG 0, PrT w2.drew.heap.size SG 0, SgAT w2.drew.heap.size SG, Is (.int .i64 0), NewX w2.drew.heap.size, AnyT, Is (.int .i64 0)] [[(0, none)], [(18, some 0)], [(19, some 1)], [(20, some 2)], [(3, none)], [(0, none)], [(23, some 5)], [(0, none)], [(25, some 7)], [(24, some 6), (26, some 8)], [(21, some 3), (22, some 4), (27, some 9)], [(28, some 10)], [(17, some 11)], [(17, some 11)], [], [(5, some 14), (29, some 12)], [(30, some 13)]] (by kernel_rfl) ?_ ?_ ?_ ?_ ?_
    · intro k R hR hd w'
      have hk : k < 17 := by have := (List.getElem?_eq_some_iff.1 hR).1; simpa using this
      rcases (by omega : k = 0 ∨ k = 1 ∨ k = 2 ∨ k = 3 ∨ k = 4 ∨ k = 5 ∨ k = 6 ∨ k = 7 ∨ k = 8 ∨ k = 9 ∨ k = 10 ∨ k = 11 ∨ k = 12 ∨ k = 13 ∨ k = 14 ∨ k = 15 ∨ k = 16) with rfl | rfl | rfl | rfl | rfl | rfl | rfl | rfl | rfl | rfl | rfl | rfl | rfl | rfl | rfl | rfl | rfl <;> first | (cases hR; exact trivial) | cases hd
    · simp only [List.mem_cons, List.not_mem_nil, or_false]
      intro R hR
      rcases hR with rfl | rfl | rfl | rfl | rfl | rfl | rfl | rfl | rfl | rfl | rfl | rfl | rfl | rfl | rfl | rfl | rfl <;> first | exact stableN_is _ | exact stableN_sl _ | exact stableN_any | exact stableN_new _ | exact stableN_ck _ _ | exact stableN_sg _ (unhide HBig) (Nat.le_refl _) | exact stableN_prt _ _ (unhide HBig) (Nat.le_refl _)
    · exact ⟨Kp.refl _ _, fun h => by simp at h⟩
    · refine steps_consL (fun listed a w hnot hdep hcl hsz hg hn => ?_) ?_
      · have h0 : a.eval (.tmp 0) = .pointer (some ⟨l, 0, none⟩) := hn.1
        clear hn
        have hk := hg.1
        refine wantsG_of1M (fun _ k => .inl k) (fun v w' k => hg.free 0 (by decide) 18 (fun h => absurd h (by decide)) v k) ?_
        refine wants_plain rfl ?_
        exact grown_move (.tmp 0) rfl h0
      refine steps_consL (fun listed a w hnot hdep hcl hsz hg hn => ?_) ?_
      · have h18 : a.eval (.tmp 18) = .pointer (some ⟨l, 0, none⟩) := hn.1
        clear hn
        have hk := hg.1
        refine wantsG_of1M (fun _ k => .inl k) (fun v w' k => hg.free 1 (by decide) 19 (fun h => absurd h (by decide)) v k) ?_
        refine wants_plain rfl ?_
        refine grown_run (v := .pointer (some ⟨l, 0, none⟩)) ?_ (Kp.refl _ _) rfl
        obtain ⟨ρ, hρ, hc, hf, hg⟩ := eval_is a
        rw [hρ] at h18 ⊢
        simp [go_sem, h18]
      refine steps_consL (fun listed a w hnot hdep hcl hsz hg hn => ?_) ?_
      · have h19 : a.eval (.tmp 19) = .pointer (some ⟨l, 0, none⟩) := hn.1
        clear hn
        have hk := hg.1
        refine wantsG_of1M (fun _ k => .inl k) (fun v w' k => hg.free 2 (by decide) 20 (fun h => absurd h (by decide)) v k) ?_
        refine wants_plain rfl ?_
        refine grown_run (v := .pointer (some ⟨l, 3, none⟩)) ?_ (Kp.refl _ _) rfl
        obtain ⟨ρ, hρ, hc, hf, hg⟩ := eval_is a
        rw [hρ] at h19 ⊢
        simp [go_sem, h19]
      refine steps_consL (fun listed a w hnot hdep hcl hsz hg hn => ?_) ?_
      · have h20 : a.eval (.tmp 20) = .pointer (some ⟨l, 3, none⟩) := hn.1
        clear hn
        have hk := hg.1
        refine wantsG_of1M (fun _ k => .inl k) (fun v w' k => hg.free 3 (by decide) 21 (fun h => absurd h (by decide)) v k) ?_
        refine wants_plain rfl ?_
        refine grown_run (v := .slice av nv cv) ?_ (Kp.refl _ _) rfl
        have hcell : w.cell? ⟨l, 3, none⟩ = some (.slice av nv cv) := by rw [cell_of_row w l 3 _ _ _ (HAt.out w hk)]; rfl
        obtain ⟨ρ, hρ, hc, hf, hg⟩ := eval_is a
        rw [hρ] at h20 ⊢
        simp [go_sem, h20, hcell]
      refine steps_consL (fun listed a w hnot hdep hcl hsz hg hn => ?_) ?_
      · have h3 : a.eval (.tmp 3) = .int .i64 (ky : Int) := hn.1
        clear hn
        have hk := hg.1
        refine wantsG_of1M (fun _ k => .inl k) (fun v w' k => hg.free 4 (by decide) 22 (fun h => absurd h (by decide)) v k) ?_
        refine wants_plain rfl ?_
        exact grown_move (.tmp 3) rfl h3
      refine steps_consL (fun listed a w hnot hdep hcl hsz hg hn => ?_) ?_
      · have h0 : a.eval (.tmp 0) = .pointer (some ⟨l, 0, none⟩) := hn.1
        clear hn
        have hk := hg.1
        refine wantsG_of1M (fun _ k => .inl k) (fun v w' k => hg.free 5 (by decide) 23 (fun h => absurd h (by decide)) v k) ?_
        refine wants_plain rfl ?_
        exact grown_move (.tmp 0) rfl h0
      refine steps_consL (fun listed a w hnot hdep hcl hsz hg hn => ?_) ?_
      · have h23 : a.eval (.tmp 23) = .pointer (some ⟨l, 0, none⟩) := hn.1
        clear hn
        have hk := hg.1
        refine wantsG_of1M (fun _ k => .inl k) (fun v w' k => hg.free 6 (by decide) 24 (fun h => absurd h (by decide)) v k) ?_
        refine wants_plain rfl ?_
        refine grown_call (f := 16) rfl Tryz.func16 (by kernel_rfl) (by kernel_rfl) ?_
        simp only [List.map_toArray, List.map_cons, List.map_nil, h23]
        refine (usize_any (unhide HLg w hk) (il : Int) (unhide HIl)).mono ?_
        rintro e w' ⟨rfl, rfl⟩
        exact ⟨_, rfl, Kp.refl _ _, rfl⟩
      refine steps_consL (fun listed a w hnot hdep hcl hsz hg hn => ?_) ?_
      · have h0 : a.eval (.tmp 0) = .pointer (some ⟨l, 0, none⟩) := hn.1
        clear hn
        have hk := hg.1
        refine wantsG_of1M (fun _ k => .inl k) (fun v w' k => hg.free 7 (by decide) 25 (fun h => absurd h (by decide)) v k) ?_
        refine wants_plain rfl ?_
        exact grown_move (.tmp 0) rfl h0
      refine steps_consL (fun listed a w hnot hdep hcl hsz hg hn => ?_) ?_
      · have h25 : a.eval (.tmp 25) = .pointer (some ⟨l, 0, none⟩) := hn.1
        clear hn
        have hk := hg.1
        refine wantsG_of1M (fun _ k => .inl k) (fun v w' k => hg.free 8 (by decide) 26 (fun h => absurd h (by decide)) v k) ?_
        refine wants_plain rfl ?_
        refine grown_call (f := 23) rfl Tryz.func23 (by kernel_rfl) (by kernel_rfl) ?_
        simp only [List.map_toArray, List.map_cons, List.map_nil, h25]
        refine (uroot_any (unhide HLg w hk) r (unhide HRr) (unhide HGw w hk)).mono ?_
        rintro e w' ⟨ao, m, c, rfl, R, K⟩
        exact ⟨_, rfl, K, R.sl⟩
      refine steps_consL (fun listed a w hnot hdep hcl hsz hg hn => ?_) ?_
      · have h24 : a.eval (.tmp 24) = .int .i64 (il : Int) := hn.1
        have h26 : Sl w (a.eval (.tmp 26)) (r) := hn.2.1
        clear hn
        have hk := hg.1
        refine wantsG_of1M (fun _ k => .inl k) (fun v w' k => hg.free 9 (by decide) 27 (fun h => absurd h (by decide)) v k) ?_
        refine wants_plain rfl ?_
        exact grown_bcks (.tmp 24) (.tmp 26) rfl h24 h26 (unhide HRb)
      refine steps_consL (fun listed a w hnot hdep hcl hsz hg hn => ?_) ?_
      · have h21 : a.eval (.tmp 21) = .slice av nv cv := hn.1
        have h22 : a.eval (.tmp 22) = .int .i64 (ky : Int) := hn.2.1
        have h27 : (CkT (il : Int) r) (a.eval (.tmp 27)) w := hn.2.2.1
        clear hn
        have hk := hg.1
        refine wantsG_of1M (fun _ k => .inl k) (fun v w' k => hg.free 10 (by decide) 28 (fun h => absurd h (by decide)) v k) ?_
        refine wants_plain rfl ?_
        refine grown_call (f := 116) rfl Tryz.func116 (by kernel_rfl) (by kernel_rfl) ?_
        simp only [List.map_toArray, List.map_cons, List.map_nil, h21, h22]
        refine (cksign_okA (.slice av nv cv) S.seed ky _ (il : Int) r w (unhide HSd w hk) (unhide HSb) (unhide HSl) (unhide HKy) h27 (unhide HRg) (unhide HGw w hk)).mono ?_
        rintro e w' ⟨v, rfl, V, K⟩
        rw [unhide HSGe] at V
        exact ⟨_, rfl, K, ⟨_, rfl, V.low hk.size⟩⟩
      refine steps_consL (fun listed a w hnot hdep hcl hsz hg hn => ?_) ?_
      · have h28 : (PrT w2.drew.heap.size SG 0) (a.eval (.tmp 28)) w := hn.1
        clear hn
        have hk := hg.1
        refine wantsG_of1M (fun _ k => .inl k) (fun v w' k => hg.free 11 (by decide) 17 (fun h => absurd h (by decide)) v k) ?_
        refine wants_plain rfl ?_
        exact grown_move (.tmp 28) rfl h28
      refine steps_consL (fun listed a w hnot hdep hcl hsz hg hn => ?_) ?_
      · have h17 : (PrT w2.drew.heap.size SG 0) (a.eval (.tmp 17)) w := hn.1
        clear hn
        have hk := hg.1
        refine wantsG_of1M (fun _ k => .inl k) (fun v w' k => hg.free 12 (by decide) 29 (fun _ => lstM hcl 15 12 rfl (by decide) hnot) v k) ?_
        refine wants_plain rfl ?_
        exact grown_x0 (.tmp 17) rfl _ _ _ h17
      refine steps_consL (fun listed a w hnot hdep hcl hsz hg hn => ?_) ?_
      · have h17 : (PrT w2.drew.heap.size SG 0) (a.eval (.tmp 17)) w := hn.1
        clear hn
        have hk := hg.1
        refine wantsG_of1M (fun _ k => .inl k) (fun v w' k => hg.free 13 (by decide) 30 (fun h => absurd h (by decide)) v k) ?_
        refine wants_plain rfl ?_
        exact grown_x1 (.tmp 17) rfl _ _ _ h17
      refine steps_consL (fun listed a w hnot hdep hcl hsz hg hn => ?_) ?_
      · clear hn
        have hk := hg.1
        refine wantsG_of1M (fun _ k => .inl k) (fun v w' k => hg.free 14 (by decide) 5 (fun _ => lstM hcl 15 14 rfl (by decide) hnot) v k) ?_
        refine wants_plain rfl ?_
        exact grown_newx _ hk.size rfl
      refine steps_consL (fun listed a w hnot hdep hcl hsz hg hn => ?_) ?_
      · have h5 : (NewX w2.drew.heap.size) (a.eval (.tmp 5)) w := hn.1
        have h29 : (SgAT w2.drew.heap.size SG) (a.eval (.tmp 29)) w := hn.2.1
        clear hn
        exact hg.st hsz rfl rfl rfl h5 h29
      refine steps_consL (fun listed a w hnot hdep hcl hsz hg hn => ?_) ?_
      · have h30 : a.eval (.tmp 30) = .int .i64 0 := hn.1
        clear hn
        have hk := hg.1
        refine wantsG_of1M (fun _ k => .inl k) (fun v w' k => hg.free 16 (by decide) 4 (fun h => absurd h (by decide)) v k) ?_
        refine wants_plain rfl ?_
        exact grown_assign (.tmp 30) rfl h30
      exact trivial
    intro W1
    rintro _ rfl
    rintro _ rfl
    rintro _ rfl
    rintro _ rfl
    rintro _ rfl
    rintro _ rfl
    rintro _ rfl
    rintro _ rfl
    intro v26 h26
    intro v27 h27
    intro v28 h28
    intro v17 h17
    intro v29 h29
    rintro _ rfl
    intro v5 h5
    intro _ _
    rintro _ rfl
    refine fin_nil ?_
    intro listed hall hgg
    obtain ⟨hkW1, hst⟩ := hgg
    obtain ⟨gst, cst, est, evt, Gst⟩ := hst (hall 15 (by decide))
    simp only [Act.put, List.set_cons_zero, List.set_cons_succ, List.setIfInBounds_toArray] at est evt ⊢
    obtain ⟨g15, rfl, -, hbn⟩ := h5
    have hA29 : SgA w2.drew.heap.size W1 v29 SG := h29
    obtain ⟨a2, m2, c2, ap2, np2, cp2, aq2, nq2, cq2, rfl, -, -⟩ := hA29.v.shape
    have eg : gst = g15 := by
      have h := est
      simp [Act.eval] at h
      exact h.symm
    have ec : cst = #[.int .i64 SG.n, .slice a2 m2 c2, .int .i64 SG.i, .slice ap2 np2 cp2, .slice aq2 nq2 cq2] := by
      have h := evt
      simp [Act.eval] at h
      exact h.symm
    rw [eg, ec] at Gst
    obtain ⟨w4, hw4⟩ : ∃ w4, w4 = W1 := ⟨_, rfl⟩
    rw [← hw4] at Gst hA29 hkW1 ⊢
    have K24 : Kp [] w2 w4 := unhide HD w4 hkW1
    have hn1 : SG.n = (il : Int) := by rw [unhide HSGd]; rfl
    have hi1 : SG.i = (ky : Int) := by rw [unhide HSGd]; rfl
    rw [hn1, hi1] at Gst hA29
    have hlt : g15 < w4.heap.size := lt_of_block Gst
    have hLa : LaP w4 (.pointer (some ⟨g15, 0, none⟩)) S.seed S.its (some (il, ky)) (fun i => w2.heap.size ≤ i ∧ i < w4.heap.size) :=
      ⟨by rw [HIL.out]; exact Nat.le_refl _, unhide HKy, g15, _, _, _, rfl, ⟨hbn, hlt⟩, Gst, by rw [← unhide HSGd]; exact SgA.f hA29 (Kp.refl _ _)⟩
    have hstp := HXX.out.stepL (a := (il, ky)) K24 (fun i hi => hi) hLa
    have hfz := (HXX.out.on K24).at_.f 4
    have hc4 := (HXX.out.on K24).at_.c4
    have HST := hide hstp
    clear h26 h28 h17 h27 h29 hA29 hkW1 hbn est evt Gst eg ec hall hst hstp hw4 hLa K24 hn1 hi1 hlt
    go_wp2_with fail
    go_ret
    refine ⟨rfl, _, ⟨j, s, q, .slice av nv cv, .pointer (some ⟨g15, 0, none⟩), ?_⟩, HT2.out.trans HST.out.2⟩
    have := HST.out.1
    rw [HIL.out, HKY.out] at this
    simpa using this
set_option maxRecDepth 100000 in
set_option maxHeartbeats 4000000 in
theorem upublish_old (h : Lg w0 w l pd pk S f) (a1 a2 : Nat) (hla : S.la = some (a1, a2)) (ha : a1 = S.its.length) : Calls Tryz.prog 33 #[.pointer (some ⟨l, 0, none⟩)] w fun e w' => ∃ v, e = .returned (.tuple #[v, .int .i64 0]) ∧ SgU w.heap.size w' v (sgU S.seed S.its (a1, a2)) ∧ Kp [] w w' := by
  obtain ⟨j, s, q, vs, pv, hx⟩ := h
  have hla2 := hx.la
  rw [hla] at hla2
  obtain ⟨hle, ha16, tt, vr, vp, vq, rfl, hFt, hFv, hSF⟩ := hla2
  obtain ⟨ar, mr, cr, ap, np, cp, aq, nq, cq, e2, -, -⟩ := hSF.v.shape
  simp only [Value.agg.injEq, Array.mk.injEq, List.cons.injEq, and_true] at e2
  obtain ⟨-, rfl, -, rfl, rfl⟩ := e2
  obtain ⟨av, cv, hvs, -⟩ := hx.sd
  obtain ⟨nv, hnv⟩ : ∃ n, n = S.seed.length := ⟨_, rfl⟩
  rw [← hnv] at hvs
  subst hvs
  obtain ⟨g0, hg⟩ : ∃ g, g = w.heap.size := ⟨_, rfl⟩
  obtain ⟨w1, hw1⟩ : ∃ w1, w1 = w.alloc (.cells #[.int .i64 0, .slice none 0 0, .int .i64 0, .slice none 0 0, .slice none 0 0] 72) := ⟨_, rfl⟩
  have K1 : Kp [] w w1 := by rw [hw1]; exact (Kp.refl [] w).alloc _
  have G0 : w1.heap[g0]? = some (.cells #[.int .i64 0, .slice none 0 0, .int .i64 0, .slice none 0 0, .slice none 0 0] 72 (0, 0)) := by rw [hw1, hg]; exact heap_alloc_new w _
  have hX1 := hx.on K1
  have HD : Hid (∀ w', Kp [] w1.drew w' → Kp [] w1 w') := fun w' k' => (kp_drew w1).trans k'
  have HAt : Hid (∀ w', Kp [] w1.drew w' → Fv 99 w' l (.func (.func 44) #[.pointer (some ⟨j, 0, none⟩)] #[]) (.pointer (some ⟨s, 0, none⟩)) (.pointer (some ⟨q, 0, none⟩)) (.slice av nv cv) (.pointer (some ⟨tt, 0, none⟩))) := fun w' k => hX1.at_.kept (HD.out w' k) (by simp)
  have HTt : Hid (∀ w', Kp [] w1.drew w' → Fv 72 w' tt (.int .i64 (a1 : Int)) (.slice ar mr cr) (.int .i64 (a2 : Int)) (.slice ap np cp) (.slice aq nq cq)) := fun w' k => hFv.kept (K1.trans (HD.out w' k)) (by simp)
  have HLg : Hid (∀ w', Kp [] w1.drew w' → Lg w0 w' l pd pk S f) := fun w' k => ⟨j, s, q, _, _, hX1.on (HD.out w' k)⟩
  obtain ⟨il, hil⟩ : ∃ k, k = S.its.length := ⟨_, rfl⟩
  have HIl : Hid ((il : Int) = (S.its.length : Int)) := hide (by rw [hil])
  have HCmp : Hid ((a1 : Int) = (il : Int)) := hide (by rw [ha, hil])
  have HX1 := hide hX1
  have HFv := hide hFv
  have HSF := hide hSF
  have Hsm := hide (sgU_small S.seed S.its (a1, a2) ha16)
  have HK1 := hide K1
  have HGe := hide hg
  have HW1 := hide hw1
  have HG0 := hide G0
  clear hx hla hFv hSF hle hFt K1 hg hw1 hX1 ha hnv hil G0
  go_enter Tryz.func33, Tryz.ntmps33
  go_wp2_with fail
  rw [← HW1.out, ← HGe.out]
  refine region_grow Tryz.mixed [Is (.pointer (some ⟨l, 0, none⟩)), Is (.pointer (some ⟨l, 0, none⟩)), Is (.pointer (some ⟨l, 4, none⟩)), Is (.pointer (some ⟨tt, 0, none⟩)), Is (.bool false), Is (.bool false), Is (.pointer (some ⟨l, 0, none⟩)), Is (.pointer (some ⟨l, 0, none⟩)), Is (.pointer (some ⟨l, 4, none⟩)), Is (.pointer (some ⟨tt, 0, none⟩)), Is (.pointer (some ⟨tt, 0, none⟩)), Is (.pointer (some ⟨tt, 0, none⟩)), Is (.pointer (some ⟨tt, 0, none⟩)), Is (.int .i64 (a1 : Int)), Is (.pointer (some ⟨l, 0, none⟩)), Is (.int .i64 (il : Int)), Is (.bool false), Is (.bool false)] [[(0, none)], [(5, some 0)], [(6, some 1)], [(7, some 2)], [(8, some 3)], [(9, some 4)], [(0, none), (10, some 5)], [(11, some 6), (10, some 5)], [(12, some 7), (10, some 5)], [(13, some 8), (10, some 5)], [(14, some 9), (10, some 5)], [(15, some 10), (10, some 5)], [(16, some 11), (10, some 5)], [(17, some 12), (10, some 5)], [(0, none), (10, some 5)], [(19, some 14), (10, some 5)], [(18, some 13), (20, some 15), (10, some 5)], [(10, some 5), (21, some 16)]] (by kernel_rfl) ?_ ?_ ?_
  · simp only [List.mem_cons, List.not_mem_nil, or_false]
    intro R hR
    rcases hR with rfl | rfl | rfl | rfl | rfl | rfl | rfl | rfl | rfl | rfl | rfl | rfl | rfl | rfl | rfl | rfl | rfl | rfl <;> first | exact stable_is _
  · refine steps_cons (fun a w hk hn => ?_) ?_
    · have h0 : a.eval (.tmp 0) = .pointer (some ⟨l, 0, none⟩) := hn.1
      clear hn
      refine wants_plain rfl ?_
      exact grown_move (.tmp 0) rfl h0
    refine steps_cons (fun a w hk hn => ?_) ?_
    · have h5 : a.eval (.tmp 5) = .pointer (some ⟨l, 0, none⟩) := hn.1
      clear hn
      refine wants_plain rfl ?_
      refine grown_run (v := .pointer (some ⟨l, 0, none⟩)) ?_ (Kp.refl _ _) rfl
      obtain ⟨ρ, hρ, hc, hf, hg⟩ := eval_is a
      rw [hρ] at h5 ⊢
      simp [go_sem, h5]
    refine steps_cons (fun a w hk hn => ?_) ?_
    · have h6 : a.eval (.tmp 6) = .pointer (some ⟨l, 0, none⟩) := hn.1
      clear hn
      refine wants_plain rfl ?_
      refine grown_run (v := .pointer (some ⟨l, 4, none⟩)) ?_ (Kp.refl _ _) rfl
      obtain ⟨ρ, hρ, hc, hf, hg⟩ := eval_is a
      rw [hρ] at h6 ⊢
      simp [go_sem, h6]
    refine steps_cons (fun a w hk hn => ?_) ?_
    · have h7 : a.eval (.tmp 7) = .pointer (some ⟨l, 4, none⟩) := hn.1
      clear hn
      refine wants_plain rfl ?_
      refine grown_run (v := .pointer (some ⟨tt, 0, none⟩)) ?_ (Kp.refl _ _) rfl
      have hcell : w.cell? ⟨l, 4, none⟩ = some (.pointer (some ⟨tt, 0, none⟩)) := by rw [cell_of_row w l 4 _ _ _ (HAt.out w hk)]; rfl
      obtain ⟨ρ, hρ, hc, hf, hg⟩ := eval_is a
      rw [hρ] at h7 ⊢
      simp [go_sem, h7, hcell]
    refine steps_cons (fun a w hk hn => ?_) ?_
    · have h8 : a.eval (.tmp 8) = .pointer (some ⟨tt, 0, none⟩) := hn.1
      clear hn
      refine wants_plain rfl ?_
      refine grown_run (v := .bool false) ?_ (Kp.refl _ _) rfl
      obtain ⟨ρ, hρ, hc, hf, hg⟩ := eval_is a
      rw [hρ] at h8 ⊢
      simp [go_sem, hc, h8]
    refine steps_cons (fun a w hk hn => ?_) ?_
    · have h9 : a.eval (.tmp 9) = .bool false := hn.1
      clear hn
      refine wants_plain rfl ?_
      exact grown_move (.tmp 9) rfl h9
    refine steps_cons (fun a w hk hn => ?_) ?_
    · have h0 : a.eval (.tmp 0) = .pointer (some ⟨l, 0, none⟩) := hn.1
      have h10 : a.eval (.tmp 10) = .bool false := hn.2.1
      clear hn
      refine wants_guard (d := 10) rfl rfl h10 ?_
      exact grown_move (.tmp 0) rfl h0
    refine steps_cons (fun a w hk hn => ?_) ?_
    · have h11 : a.eval (.tmp 11) = .pointer (some ⟨l, 0, none⟩) := hn.1
      have h10 : a.eval (.tmp 10) = .bool false := hn.2.1
      clear hn
      refine wants_guard (d := 10) rfl rfl h10 ?_
      refine grown_run (v := .pointer (some ⟨l, 0, none⟩)) ?_ (Kp.refl _ _) rfl
      obtain ⟨ρ, hρ, hc, hf, hg⟩ := eval_is a
      rw [hρ] at h11 ⊢
      simp [go_sem, h11]
    refine steps_cons (fun a w hk hn => ?_) ?_
    · have h12 : a.eval (.tmp 12) = .pointer (some ⟨l, 0, none⟩) := hn.1
      have h10 : a.eval (.tmp 10) = .bool false := hn.2.1
      clear hn
      refine wants_guard (d := 10) rfl rfl h10 ?_
      refine grown_run (v := .pointer (some ⟨l, 4, none⟩)) ?_ (Kp.refl _ _) rfl
      obtain ⟨ρ, hρ, hc, hf, hg⟩ := eval_is a
      rw [hρ] at h12 ⊢
      simp [go_sem, h12]
    refine steps_cons (fun a w hk hn => ?_) ?_
    · have h13 : a.eval (.tmp 13) = .pointer (some ⟨l, 4, none⟩) := hn.1
      have h10 : a.eval (.tmp 10) = .bool false := hn.2.1
      clear hn
      refine wants_guard (d := 10) rfl rfl h10 ?_
      refine grown_run (v := .pointer (some ⟨tt, 0, none⟩)) ?_ (Kp.refl _ _) rfl
      have hcell : w.cell? ⟨l, 4, none⟩ = some (.pointer (some ⟨tt, 0, none⟩)) := by rw [cell_of_row w l 4 _ _ _ (HAt.out w hk)]; rfl
      obtain ⟨ρ, hρ, hc, hf, hg⟩ := eval_is a
      rw [hρ] at h13 ⊢
      simp [go_sem, h13, hcell]
    refine steps_cons (fun a w hk hn => ?_) ?_
    · have h14 : a.eval (.tmp 14) = .pointer (some ⟨tt, 0, none⟩) := hn.1
      have h10 : a.eval (.tmp 10) = .bool false := hn.2.1
      clear hn
      refine wants_guard (d := 10) rfl rfl h10 ?_
      refine grown_run (v := .pointer (some ⟨tt, 0, none⟩)) ?_ (Kp.refl _ _) rfl
      obtain ⟨ρ, hρ, hc, hf, hg⟩ := eval_is a
      rw [hρ] at h14 ⊢
      simp [go_sem, h14]
    refine steps_cons (fun a w hk hn => ?_) ?_
    · have h15 : a.eval (.tmp 15) = .pointer (some ⟨tt, 0, none⟩) := hn.1
      have h10 : a.eval (.tmp 10) = .bool false := hn.2.1
      clear hn
      refine wants_guard (d := 10) rfl rfl h10 ?_
      refine grown_run (v := .pointer (some ⟨tt, 0, none⟩)) ?_ (Kp.refl _ _) rfl
      obtain ⟨ρ, hρ, hc, hf, hg⟩ := eval_is a
      rw [hρ] at h15 ⊢
      simp [go_sem, h15]
    refine steps_cons (fun a w hk hn => ?_) ?_
    · have h16 : a.eval (.tmp 16) = .pointer (some ⟨tt, 0, none⟩) := hn.1
      have h10 : a.eval (.tmp 10) = .bool false := hn.2.1
      clear hn
      refine wants_guard (d := 10) rfl rfl h10 ?_
      refine grown_run (v := .pointer (some ⟨tt, 0, none⟩)) ?_ (Kp.refl _ _) rfl
      obtain ⟨ρ, hρ, hc, hf, hg⟩ := eval_is a
      rw [hρ] at h16 ⊢
      simp [go_sem, h16]
    refine steps_cons (fun a w hk hn => ?_) ?_
    · have h17 : a.eval (.tmp 17) = .pointer (some ⟨tt, 0, none⟩) := hn.1
      have h10 : a.eval (.tmp 10) = .bool false := hn.2.1
      clear hn
      refine wants_guard (d := 10) rfl rfl h10 ?_
      refine grown_run (v := .int .i64 (a1 : Int)) ?_ (Kp.refl _ _) rfl
      have hcell : w.cell? ⟨tt, 0, none⟩ = some (.int .i64 (a1 : Int)) := by rw [cell_of_row w tt 0 _ _ _ (HTt.out w hk)]; rfl
      obtain ⟨ρ, hρ, hc, hf, hg⟩ := eval_is a
      rw [hρ] at h17 ⊢
      simp [go_sem, h17, hcell]
    refine steps_cons (fun a w hk hn => ?_) ?_
    · have h0 : a.eval (.tmp 0) = .pointer (some ⟨l, 0, none⟩) := hn.1
      have h10 : a.eval (.tmp 10) = .bool false := hn.2.1
      clear hn
      refine wants_guard (d := 10) rfl rfl h10 ?_
      exact grown_move (.tmp 0) rfl h0
    refine steps_cons (fun a w hk hn => ?_) ?_
    · have h19 : a.eval (.tmp 19) = .pointer (some ⟨l, 0, none⟩) := hn.1
      have h10 : a.eval (.tmp 10) = .bool false := hn.2.1
      clear hn
      refine wants_guard (d := 10) rfl rfl h10 ?_
      refine grown_call (f := 16) rfl Tryz.func16 (by kernel_rfl) (by kernel_rfl) ?_
      simp only [List.map_toArray, List.map_cons, List.map_nil, h19]
      refine (usize_any (HLg.out w hk) (il : Int) HIl.out).mono ?_
      rintro e w' ⟨rfl, rfl⟩
      exact ⟨_, rfl, Kp.refl _ _, rfl⟩
    refine steps_cons (fun a w hk hn => ?_) ?_
    · have h18 : a.eval (.tmp 18) = .int .i64 (a1 : Int) := hn.1
      have h20 : a.eval (.tmp 20) = .int .i64 (il : Int) := hn.2.1
      have h10 : a.eval (.tmp 10) = .bool false := hn.2.2.1
      clear hn
      refine wants_guard (d := 10) rfl rfl h10 ?_
      refine grown_run (v := .bool false) ?_ (Kp.refl _ _) rfl
      obtain ⟨ρ, hρ, hc, hf, hg⟩ := eval_is a
      rw [hρ] at h18 h20 ⊢
      simp [go_sem, h18, h20, HCmp.out]
    refine steps_cons (fun a w hk hn => ?_) ?_
    · have h10 : a.eval (.tmp 10) = .bool false := hn.1
      have h21 : a.eval (.tmp 21) = .bool false := hn.2.1
      clear hn
      refine wants_plain rfl ?_
      exact grown_pick _ _ _ false rfl h10 h21
    exact trivial
  intro W1 hkW1
  rintro _ rfl
  rintro _ rfl
  rintro _ rfl
  rintro _ rfl
  rintro _ rfl
  rintro _ rfl
  rintro _ rfl
  rintro _ rfl
  rintro _ rfl
  rintro _ rfl
  rintro _ rfl
  rintro _ rfl
  rintro _ rfl
  rintro _ rfl
  rintro _ rfl
  rintro _ rfl
  rintro _ rfl
  rintro _ rfl
  refine fin_nil ?_
  simp only [Act.put, List.set_cons_zero, List.set_cons_succ, List.setIfInBounds_toArray]
  have K12 := HD.out W1 hkW1
  have hX := HX1.out.on K12
  have hFv5 := HFv.out.kept (HK1.out.trans K12) (by simp)
  have hV5 := (HSF.out.kept (HK1.out.trans K12) (by simp)).v
  have hsm := Hsm.out
  have G0 := K12.heap HG0.out (by simp)
  have HK12 := hide (HK1.out.trans K12)
  clear K12 hkW1 HG0
  have x0 := hFv5.c0
  have x1 := hFv5.c1
  have x2 := hFv5.c2
  have x3 := hFv5.c3
  have x4 := hFv5.c4
  have y4 := hX.at_.c4
  have HC := hide (ucopy_any (.agg #[.int .i64 (a1 : Int), .slice ar mr cr, .int .i64 (a2 : Int), .slice ap np cp, .slice aq nq cq]) _ W1 hV5 hsm)
  have HG0 := hide G0
  have hg0 : g0 < W1.heap.size := lt_of_block G0
  have HX5 := hide hX
  clear hV5 hsm G0 hFv5 hX
  go_wp2_with fail
  refine HC.out.mono ?_
  rintro ee w5 ⟨v5, rfl, A5, K5⟩
  obtain ⟨br, kr, dr, bp, kp, dp, bq', kq, dq, rfl, -, -⟩ := A5.v.shape
  have G5 := K5.heap HG0.out (by simp)
  have HA5 := hide A5
  have HK5 := hide K5
  clear HC A5 K5 x0 x1 x2 x3 x4 y4
  go_wp2_with (refine wpList_store_flat rfl 72 (.tmp 2) (.tmp 35) rfl g0 0 rfl _ _ [.int .i64 _, .slice br kr dr, .int .i64 _, .slice bp kp dp, .slice bq' kq dq] G5 rfl (by simp) Tryz.sgdSize (by simp [Value.oneCell']) #[.int .i64 _, .slice br kr dr, .int .i64 _, .slice bp kp dp, .slice bq' kq dq] rfl ?_; intro w6 G6 K6)
  refine bodyPost_ret (results_flat2 rfl _ rfl G6 Tryz.underlying72 rfl Tryz.sgdSize) rfl ?_
  have hA6 := HA5.out.kept (S := [g0]) (by simpa using hg0) K6
  exact ⟨_, rfl, hA6.low HK12.out.size, (HK12.out.trans HK5.out).then K6 (fun i hi => .inr (by simp at hi; have := HGe.out; omega))⟩
set_option maxRecDepth 100000 in
set_option maxHeartbeats 8000000 in
theorem upub_anyN (h : Lg w0 w l pd pk S f) (hG : Gl w0) (hla : S.la = none) (hn : S.n < 16) (hmb : S.mb ≤ 1000) (er : Bool) (dk' : Dk) (he : S.dk.add (recP [(S.n : Int)]) = (er, dk')) : Calls Tryz.prog 33 #[.pointer (some ⟨l, 0, none⟩)] w fun e w' => ∃ v en, e = .returned (.tuple #[v, .int .i64 en]) ∧ en = (if er then 0 else 13) ∧ ∃ f', Lg w0 w' l pd pk { S with dk := dk', mb := S.mb + 1, n := if er then S.n + 1 else S.n, la := if er then some (S.its.length, S.n) else S.la } f' ∧ LSt w f w' f' ∧ ∃ b, (∀ i, f'.tot i → i < b) ∧ w.heap.size ≤ b ∧ b ≤ w'.heap.size ∧ (if er then SgU b w' v (sgU S.seed S.its (S.its.length, S.n)) else v = sgd0) := by
  obtain ⟨j, s, q, vs, pv, hx⟩ := h
  have hla2 := hx.la
  rw [hla] at hla2
  obtain rfl : pv = .pointer none := hla2
  obtain ⟨av, cv, hvs, -⟩ := hx.sd
  obtain ⟨nv, hnv⟩ : ∃ n, n = S.seed.length := ⟨_, rfl⟩
  rw [← hnv] at hvs
  subst hvs
  obtain ⟨g0, hg⟩ : ∃ g, g = w.heap.size := ⟨_, rfl⟩
  obtain ⟨w1, hw1⟩ : ∃ w1, w1 = w.alloc (.cells #[.int .i64 0, .slice none 0 0, .int .i64 0, .slice none 0 0, .slice none 0 0] 72) := ⟨_, rfl⟩
  have K1 : Kp [] w w1 := by rw [hw1]; exact (Kp.refl [] w).alloc _
  have G0 : w1.heap[g0]? = some (.cells #[.int .i64 0, .slice none 0 0, .int .i64 0, .slice none 0 0, .slice none 0 0] 72 (0, 0)) := by rw [hw1, hg]; exact heap_alloc_new w _
  have hX1 := hx.on K1
  have HD : Hid (∀ w', Kp [] w1.drew w' → Kp [] w1 w') := fun w' k' => (kp_drew w1).trans k'
  have HAt : Hid (∀ w', Kp [] w1.drew w' → Fv 99 w' l (.func (.func 44) #[.pointer (some ⟨j, 0, none⟩)] #[]) (.pointer (some ⟨s, 0, none⟩)) (.pointer (some ⟨q, 0, none⟩)) (.slice av nv cv) (.pointer none)) := fun w' k => hX1.at_.kept (HD.out w' k) (by simp)
  have HX1 := hide hX1
  have HK1 := hide K1
  have HGe := hide hg
  have HW1 := hide hw1
  have HG0 := hide G0
  have hg0f : f.tot g0 → g0 < w.heap.size := fun ⟨a, ha'⟩ => by have := hx.ok.rng a _ ha'; omega
  have Hw0 := hide hx.ok.kp.size
  have HN := hide hn
  have HG := hide hG
  have HMb := hide hmb
  have HE := hide he
  obtain ⟨en, hen⟩ : ∃ en : Int, en = if er then 0 else 13 := ⟨_, rfl⟩
  have HEn := hide hen
  clear hn hG hmb he hen
  clear hx hla K1 hg hw1 hX1 hnv G0
  go_enter Tryz.func33, Tryz.ntmps33
  go_wp2_with fail
  rw [← HW1.out, ← HGe.out]
  refine region_grow Tryz.mixed [Is (.pointer (some ⟨l, 0, none⟩)), Is (.pointer (some ⟨l, 0, none⟩)), Is (.pointer (some ⟨l, 4, none⟩)), Is (.pointer none), Is (.bool true), Is (.bool true), Is (undef), Is (undef), Is (undef), Is (undef), Is (undef), Is (undef), Is (undef), Is (undef), Is (undef), Is (undef), Is (undef), Is (.bool true)] [[(0, none)], [(5, some 0)], [(6, some 1)], [(7, some 2)], [(8, some 3)], [(9, some 4)], [(0, none), (10, some 5)], [(11, some 6), (10, some 5)], [(12, some 7), (10, some 5)], [(13, some 8), (10, some 5)], [(14, some 9), (10, some 5)], [(15, some 10), (10, some 5)], [(16, some 11), (10, some 5)], [(17, some 12), (10, some 5)], [(0, none), (10, some 5)], [(19, some 14), (10, some 5)], [(18, some 13), (20, some 15), (10, some 5)], [(10, some 5), (21, some 16)]] (by kernel_rfl) ?_ ?_ ?_
  · simp only [List.mem_cons, List.not_mem_nil, or_false]
    intro R hR
    rcases hR with rfl | rfl | rfl | rfl | rfl | rfl | rfl | rfl | rfl | rfl | rfl | rfl | rfl | rfl | rfl | rfl | rfl | rfl <;> first | exact stable_is _
  · refine steps_cons (fun a w hk hn => ?_) ?_
    · have h0 : a.eval (.tmp 0) = .pointer (some ⟨l, 0, none⟩) := hn.1
      clear hn
      refine wants_plain rfl ?_
      exact grown_move (.tmp 0) rfl h0
    refine steps_cons (fun a w hk hn => ?_) ?_
    · have h5 : a.eval (.tmp 5) = .pointer (some ⟨l, 0, none⟩) := hn.1
      clear hn
      refine wants_plain rfl ?_
      refine grown_run (v := .pointer (some ⟨l, 0, none⟩)) ?_ (Kp.refl _ _) rfl
      obtain ⟨ρ, hρ, hc, hf, hg⟩ := eval_is a
      rw [hρ] at h5 ⊢
      simp [go_sem, h5]
    refine steps_cons (fun a w hk hn => ?_) ?_
    · have h6 : a.eval (.tmp 6) = .pointer (some ⟨l, 0, none⟩) := hn.1
      clear hn
      refine wants_plain rfl ?_
      refine grown_run (v := .pointer (some ⟨l, 4, none⟩)) ?_ (Kp.refl _ _) rfl
      obtain ⟨ρ, hρ, hc, hf, hg⟩ := eval_is a
      rw [hρ] at h6 ⊢
      simp [go_sem, h6]
    refine steps_cons (fun a w hk hn => ?_) ?_
    · have h7 : a.eval (.tmp 7) = .pointer (some ⟨l, 4, none⟩) := hn.1
      clear hn
      refine wants_plain rfl ?_
      refine grown_run (v := .pointer none) ?_ (Kp.refl _ _) rfl
      have hcell : w.cell? ⟨l, 4, none⟩ = some (.pointer none) := by rw [cell_of_row w l 4 _ _ _ (HAt.out w hk)]; rfl
      obtain ⟨ρ, hρ, hc, hf, hg⟩ := eval_is a
      rw [hρ] at h7 ⊢
      simp [go_sem, h7, hcell]
    refine steps_cons (fun a w hk hn => ?_) ?_
    · have h8 : a.eval (.tmp 8) = .pointer none := hn.1
      clear hn
      refine wants_plain rfl ?_
      refine grown_run (v := .bool true) ?_ (Kp.refl _ _) rfl
      obtain ⟨ρ, hρ, hc, hf, hg⟩ := eval_is a
      rw [hρ] at h8 ⊢
      simp [go_sem, hc, h8]
    refine steps_cons (fun a w hk hn => ?_) ?_
    · have h9 : a.eval (.tmp 9) = .bool true := hn.1
      clear hn
      refine wants_plain rfl ?_
      exact grown_move (.tmp 9) rfl h9
    refine steps_cons (fun a w hk hn => ?_) ?_
    · have h0 : a.eval (.tmp 0) = .pointer (some ⟨l, 0, none⟩) := hn.1
      have h10 : a.eval (.tmp 10) = .bool true := hn.2.1
      clear hn
      exact wants_not (d := 10) rfl rfl h10 rfl
    refine steps_cons (fun a w hk hn => ?_) ?_
    · have h11 : a.eval (.tmp 11) = undef := hn.1
      have h10 : a.eval (.tmp 10) = .bool true := hn.2.1
      clear hn
      exact wants_not (d := 10) rfl rfl h10 rfl
    refine steps_cons (fun a w hk hn => ?_) ?_
    · have h12 : a.eval (.tmp 12) = undef := hn.1
      have h10 : a.eval (.tmp 10) = .bool true := hn.2.1
      clear hn
      exact wants_not (d := 10) rfl rfl h10 rfl
    refine steps_cons (fun a w hk hn => ?_) ?_
    · have h13 : a.eval (.tmp 13) = undef := hn.1
      have h10 : a.eval (.tmp 10) = .bool true := hn.2.1
      clear hn
      exact wants_not (d := 10) rfl rfl h10 rfl
    refine steps_cons (fun a w hk hn => ?_) ?_
    · have h14 : a.eval (.tmp 14) = undef := hn.1
      have h10 : a.eval (.tmp 10) = .bool true := hn.2.1
      clear hn
      exact wants_not (d := 10) rfl rfl h10 rfl
    refine steps_cons (fun a w hk hn => ?_) ?_
    · have h15 : a.eval (.tmp 15) = undef := hn.1
      have h10 : a.eval (.tmp 10) = .bool true := hn.2.1
      clear hn
      exact wants_not (d := 10) rfl rfl h10 rfl
    refine steps_cons (fun a w hk hn => ?_) ?_
    · have h16 : a.eval (.tmp 16) = undef := hn.1
      have h10 : a.eval (.tmp 10) = .bool true := hn.2.1
      clear hn
      exact wants_not (d := 10) rfl rfl h10 rfl
    refine steps_cons (fun a w hk hn => ?_) ?_
    · have h17 : a.eval (.tmp 17) = undef := hn.1
      have h10 : a.eval (.tmp 10) = .bool true := hn.2.1
      clear hn
      exact wants_not (d := 10) rfl rfl h10 rfl
    refine steps_cons (fun a w hk hn => ?_) ?_
    · have h0 : a.eval (.tmp 0) = .pointer (some ⟨l, 0, none⟩) := hn.1
      have h10 : a.eval (.tmp 10) = .bool true := hn.2.1
      clear hn
      exact wants_not (d := 10) rfl rfl h10 rfl
    refine steps_cons (fun a w hk hn => ?_) ?_
    · have h19 : a.eval (.tmp 19) = undef := hn.1
      have h10 : a.eval (.tmp 10) = .bool true := hn.2.1
      clear hn
      exact wants_not (d := 10) rfl rfl h10 rfl
    refine steps_cons (fun a w hk hn => ?_) ?_
    · have h18 : a.eval (.tmp 18) = undef := hn.1
      have h20 : a.eval (.tmp 20) = undef := hn.2.1
      have h10 : a.eval (.tmp 10) = .bool true := hn.2.2.1
      clear hn
      exact wants_not (d := 10) rfl rfl h10 rfl
    refine steps_cons (fun a w hk hn => ?_) ?_
    · have h10 : a.eval (.tmp 10) = .bool true := hn.1
      have h21 : a.eval (.tmp 21) = undef := hn.2.1
      clear hn
      refine wants_plain rfl ?_
      exact grown_pick _ _ _ true rfl h10 rfl
    exact trivial
  intro W1 hkW1
  rintro _ rfl
  rintro _ rfl
  rintro _ rfl
  rintro _ rfl
  rintro _ rfl
  rintro _ rfl
  rintro _ rfl
  rintro _ rfl
  rintro _ rfl
  rintro _ rfl
  rintro _ rfl
  rintro _ rfl
  rintro _ rfl
  rintro _ rfl
  rintro _ rfl
  rintro _ rfl
  rintro _ rfl
  rintro _ rfl
  refine fin_nil ?_
  simp only [Act.put, List.set_cons_zero, List.set_cons_succ, List.setIfInBounds_toArray]
  have K12 := HD.out W1 hkW1
  have HX2 := hide (HX1.out.on K12)
  have HG2 := hide (K12.heap HG0.out (by simp))
  have HK12 := hide (HK1.out.trans K12)
  clear K12 hkW1 HG0
  have HSn := hide (usign_any ⟨j, s, q, _, _, HX2.out⟩ HG.out HN.out HMb.out er dk' HE.out en HEn.out)
  have hlt2 : g0 < W1.heap.size := lt_of_block HG2.out
  have hlt0 : g0 = w.heap.size := HGe.out
  have Hlt0 := hide hlt0
  have hno : ¬ f.tot g0 := fun e => by have := hg0f e; omega
  go_wp2_with fail
  refine HSn.out.mono ?_
  rintro ee w3 ⟨rfl, f', L3, T3⟩
  have HL3 := hide L3
  have HT3 : Hid (LSt w f w3 f') := (Stp.mid HK12.out).trans T3
  have HG3 := hide (T3.heap HG2.out hno)
  have hng : ¬ f'.tot g0 := T3.off hlt2 hno
  have HNG := hide hng
  have hg3 : g0 < w3.heap.size := lt_of_block HG3.out
  have Hsz := hide T3.size
  clear HSn L3 T3 hno hng hlt2 hlt0
  cases er
  · obtain rfl : en = 13 := by rw [HEn.out]; rfl
    have G3 := HG3.out
    go_wp2_with (refine wpList_store_flat rfl 72 (.tmp 2) (.tmp 27) rfl g0 0 rfl _ _ [.int .i64 0, .slice none 0 0, .int .i64 0, .slice none 0 0, .slice none 0 0] G3 rfl (by simp) Tryz.sgdSize (by simp [Value.oneCell']) #[.int .i64 0, .slice none 0 0, .int .i64 0, .slice none 0 0, .slice none 0 0] rfl ?_; intro w7 G7 K7)
    refine bodyPost_ret (results_flat2 rfl _ rfl G7 Tryz.underlying72 rfl Tryz.sgdSize) rfl ?_
    have hl7 : ∀ i ∈ [g0], w0.heap.size ≤ i ∧ ¬ f'.tot i := fun i hi => by simp at hi; subst hi; exact ⟨by have := Hlt0.out; have := Hw0.out; omega, HNG.out⟩
    refine ⟨_, 13, rfl, rfl, f', HL3.out.beside K7 hl7, HT3.out.aside K7 (by have := Hlt0.out; simp; omega), w3.heap.size, fun i hi => (HL3.out.lt i hi).2, HT3.out.size, K7.size, rfl⟩
  · obtain rfl : en = 0 := by rw [HEn.out]; rfl
    obtain ⟨a1, hza1⟩ : ∃ a, a = S.its.length := ⟨_, rfl⟩
    obtain ⟨a2, hza2⟩ : ∃ a, a = S.n := ⟨_, rfl⟩
    obtain ⟨j3, s3, q3, vs3, pv3, hX⟩ := HL3.out
    have hla3 := hX.la
    simp only [if_true] at hla3
    rw [← hza1, ← hza2] at hla3
    have HZ1 := hide hza1
    have HZ2 := hide hza2
    clear hza1 hza2
    obtain ⟨hle3, ha3, tt, vr, vp, vq, rfl, hFt3, hFv3, hSF3⟩ := hla3
    obtain ⟨ar, mr, cr, ap, np, cp, aq, nq, cq, e2, -, -⟩ := hSF3.v.shape
    simp only [Value.agg.injEq, Array.mk.injEq, List.cons.injEq, and_true] at e2
    obtain ⟨-, rfl, -, rfl, rfl⟩ := e2
    have hFv5 := hFv3
    have hV5 := hSF3.v
    have hsm := sgU_small S.seed S.its (a1, a2) ha3
    have G0 := HG3.out
    clear hFv3 hSF3 hle3 hFt3 ha3 HL3
    have x0 := hFv5.c0
    have x1 := hFv5.c1
    have x2 := hFv5.c2
    have x3 := hFv5.c3
    have x4 := hFv5.c4
    have y4 := hX.at_.c4
    have HC := hide (ucopy_any (.agg #[.int .i64 (a1 : Int), .slice ar mr cr, .int .i64 (a2 : Int), .slice ap np cp, .slice aq nq cq]) _ w3 hV5 hsm)
    have HG0 := hide G0
    have hg0 : g0 < w3.heap.size := lt_of_block G0
    have HX5 := hide hX
    clear hV5 hsm G0 hFv5 hX
    go_wp2_with fail
    refine HC.out.mono ?_
    rintro ee w5 ⟨v5, rfl, A5, K5⟩
    obtain ⟨br, kr, dr, bp, kp, dp, bq', kq, dq, rfl, -, -⟩ := A5.v.shape
    have G5 := K5.heap HG0.out (by simp)
    have HA5 := hide A5
    have HK5 := hide K5
    clear HC A5 K5 x0 x1 x2 x3 x4 y4
    go_wp2_with (refine wpList_store_flat rfl 72 (.tmp 2) (.tmp 35) rfl g0 0 rfl _ _ [.int .i64 _, .slice br kr dr, .int .i64 _, .slice bp kp dp, .slice bq' kq dq] G5 rfl (by simp) Tryz.sgdSize (by simp [Value.oneCell']) #[.int .i64 _, .slice br kr dr, .int .i64 _, .slice bp kp dp, .slice bq' kq dq] rfl ?_; intro w6 G6 K6)
    refine bodyPost_ret (results_flat2 rfl _ rfl G6 Tryz.underlying72 rfl Tryz.sgdSize) rfl ?_
    have hA6 := HA5.out.kept (S := [g0]) (by simpa using hg0) K6
    have hl7 : ∀ i ∈ [g0], w0.heap.size ≤ i ∧ ¬ f'.tot i := fun i hi => by simp at hi; subst hi; exact ⟨by have := Hlt0.out; have := Hw0.out; omega, HNG.out⟩
    have L5 : Lg w0 w6 l pd pk _ f' := ⟨j3, s3, q3, vs3, _, (HX5.out.on HK5.out).beside K6 hl7⟩
    refine ⟨_, 0, rfl, rfl, f', L5, (HT3.out.trans (Stp.mid HK5.out)).aside K6 (by have := Hlt0.out; simp; omega), w3.heap.size, fun i ⟨a, ha'⟩ => (HX5.out.ok.rng a i ha').2, HT3.out.size, Nat.le_trans HK5.out.size K6.size, ?_⟩
    have e6 : (S.its.length, S.n) = (a1, a2) := by rw [HZ1.out, HZ2.out]
    rw [e6]
    exact hA6
set_option maxRecDepth 100000 in
set_option maxHeartbeats 8000000 in
theorem upub_anyS (h : Lg w0 w l pd pk S f) (hG : Gl w0) (a1 a2 : Nat) (hla : S.la = some (a1, a2)) (ha : a1 ≠ S.its.length) (hn : S.n < 16) (hmb : S.mb ≤ 1000) (er : Bool) (dk' : Dk) (he : S.dk.add (recP [(S.n : Int)]) = (er, dk')) : Calls Tryz.prog 33 #[.pointer (some ⟨l, 0, none⟩)] w fun e w' => ∃ v en, e = .returned (.tuple #[v, .int .i64 en]) ∧ en = (if er then 0 else 13) ∧ ∃ f', Lg w0 w' l pd pk { S with dk := dk', mb := S.mb + 1, n := if er then S.n + 1 else S.n, la := if er then some (S.its.length, S.n) else S.la } f' ∧ LSt w f w' f' ∧ ∃ b, (∀ i, f'.tot i → i < b) ∧ w.heap.size ≤ b ∧ b ≤ w'.heap.size ∧ (if er then SgU b w' v (sgU S.seed S.its (S.its.length, S.n)) else v = sgd0) := by
  obtain ⟨j, s, q, vs, pv, hx⟩ := h
  have hla2 := hx.la
  rw [hla] at hla2
  obtain ⟨hle, ha16, tt, vr, vp, vq, rfl, hFt, hFv, hSF⟩ := hla2
  obtain ⟨ar, mr, cr, ap, np, cp, aq, nq, cq, e2, -, -⟩ := hSF.v.shape
  simp only [Value.agg.injEq, Array.mk.injEq, List.cons.injEq, and_true] at e2
  obtain ⟨-, rfl, -, rfl, rfl⟩ := e2
  obtain ⟨av, cv, hvs, -⟩ := hx.sd
  obtain ⟨nv, hnv⟩ : ∃ n, n = S.seed.length := ⟨_, rfl⟩
  rw [← hnv] at hvs
  subst hvs
  obtain ⟨g0, hg⟩ : ∃ g, g = w.heap.size := ⟨_, rfl⟩
  obtain ⟨w1, hw1⟩ : ∃ w1, w1 = w.alloc (.cells #[.int .i64 0, .slice none 0 0, .int .i64 0, .slice none 0 0, .slice none 0 0] 72) := ⟨_, rfl⟩
  have K1 : Kp [] w w1 := by rw [hw1]; exact (Kp.refl [] w).alloc _
  have G0 : w1.heap[g0]? = some (.cells #[.int .i64 0, .slice none 0 0, .int .i64 0, .slice none 0 0, .slice none 0 0] 72 (0, 0)) := by rw [hw1, hg]; exact heap_alloc_new w _
  have hX1 := hx.on K1
  have HD : Hid (∀ w', Kp [] w1.drew w' → Kp [] w1 w') := fun w' k' => (kp_drew w1).trans k'
  have HAt : Hid (∀ w', Kp [] w1.drew w' → Fv 99 w' l (.func (.func 44) #[.pointer (some ⟨j, 0, none⟩)] #[]) (.pointer (some ⟨s, 0, none⟩)) (.pointer (some ⟨q, 0, none⟩)) (.slice av nv cv) (.pointer (some ⟨tt, 0, none⟩))) := fun w' k => hX1.at_.kept (HD.out w' k) (by simp)
  have HTt : Hid (∀ w', Kp [] w1.drew w' → Fv 72 w' tt (.int .i64 (a1 : Int)) (.slice ar mr cr) (.int .i64 (a2 : Int)) (.slice ap np cp) (.slice aq nq cq)) := fun w' k => hFv.kept (K1.trans (HD.out w' k)) (by simp)
  have HLg : Hid (∀ w', Kp [] w1.drew w' → Lg w0 w' l pd pk S f) := fun w' k => ⟨j, s, q, _, _, hX1.on (HD.out w' k)⟩
  obtain ⟨il, hil⟩ : ∃ k, k = S.its.length := ⟨_, rfl⟩
  have HIl : Hid ((il : Int) = (S.its.length : Int)) := hide (by rw [hil])
  have HCmp : Hid (¬ (a1 : Int) = (il : Int)) := hide (by rw [hil]; omega)
  have HX1 := hide hX1
  have HK1 := hide K1
  have HGe := hide hg
  have HW1 := hide hw1
  have HG0 := hide G0
  have hg0f : f.tot g0 → g0 < w.heap.size := fun ⟨a, ha'⟩ => by have := hx.ok.rng a _ ha'; omega
  have Hw0 := hide hx.ok.kp.size
  have HN := hide hn
  have HG := hide hG
  have HMb := hide hmb
  have HE := hide he
  obtain ⟨en, hen⟩ : ∃ en : Int, en = if er then 0 else 13 := ⟨_, rfl⟩
  have HEn := hide hen
  clear hn hG hmb he hen
  clear hx hla hFv hSF hle hFt K1 hg hw1 hX1 ha hnv hil G0 ha16
  go_enter Tryz.func33, Tryz.ntmps33
  go_wp2_with fail
  rw [← HW1.out, ← HGe.out]
  refine region_grow Tryz.mixed [Is (.pointer (some ⟨l, 0, none⟩)), Is (.pointer (some ⟨l, 0, none⟩)), Is (.pointer (some ⟨l, 4, none⟩)), Is (.pointer (some ⟨tt, 0, none⟩)), Is (.bool false), Is (.bool false), Is (.pointer (some ⟨l, 0, none⟩)), Is (.pointer (some ⟨l, 0, none⟩)), Is (.pointer (some ⟨l, 4, none⟩)), Is (.pointer (some ⟨tt, 0, none⟩)), Is (.pointer (some ⟨tt, 0, none⟩)), Is (.pointer (some ⟨tt, 0, none⟩)), Is (.pointer (some ⟨tt, 0, none⟩)), Is (.int .i64 (a1 : Int)), Is (.pointer (some ⟨l, 0, none⟩)), Is (.int .i64 (il : Int)), Is (.bool true), Is (.bool true)] [[(0, none)], [(5, some 0)], [(6, some 1)], [(7, some 2)], [(8, some 3)], [(9, some 4)], [(0, none), (10, some 5)], [(11, some 6), (10, some 5)], [(12, some 7), (10, some 5)], [(13, some 8), (10, some 5)], [(14, some 9), (10, some 5)], [(15, some 10), (10, some 5)], [(16, some 11), (10, some 5)], [(17, some 12), (10, some 5)], [(0, none), (10, some 5)], [(19, some 14), (10, some 5)], [(18, some 13), (20, some 15), (10, some 5)], [(10, some 5), (21, some 16)]] (by kernel_rfl) ?_ ?_ ?_
  · simp only [List.mem_cons, List.not_mem_nil, or_false]
    intro R hR
    rcases hR with rfl | rfl | rfl | rfl | rfl | rfl | rfl | rfl | rfl | rfl | rfl | rfl | rfl | rfl | rfl | rfl | rfl | rfl <;> first | exact stable_is _
  · refine steps_cons (fun a w hk hn => ?_) ?_
    · have h0 : a.eval (.tmp 0) = .pointer (some ⟨l, 0, none⟩) := hn.1
      clear hn
      refine wants_plain rfl ?_
      exact grown_move (.tmp 0) rfl h0
    refine steps_cons (fun a w hk hn => ?_) ?_
    · have h5 : a.eval (.tmp 5) = .pointer (some ⟨l, 0, none⟩) := hn.1
      clear hn
      refine wants_plain rfl ?_
      refine grown_run (v := .pointer (some ⟨l, 0, none⟩)) ?_ (Kp.refl _ _) rfl
      obtain ⟨ρ, hρ, hc, hf, hg⟩ := eval_is a
      rw [hρ] at h5 ⊢
      simp [go_sem, h5]
    refine steps_cons (fun a w hk hn => ?_) ?_
    · have h6 : a.eval (.tmp 6) = .pointer (some ⟨l, 0, none⟩) := hn.1
      clear hn
      refine wants_plain rfl ?_
      refine grown_run (v := .pointer (some ⟨l, 4, none⟩)) ?_ (Kp.refl _ _) rfl
      obtain ⟨ρ, hρ, hc, hf, hg⟩ := eval_is a
      rw [hρ] at h6 ⊢
      simp [go_sem, h6]
    refine steps_cons (fun a w hk hn => ?_) ?_
    · have h7 : a.eval (.tmp 7) = .pointer (some ⟨l, 4, none⟩) := hn.1
      clear hn
      refine wants_plain rfl ?_
      refine grown_run (v := .pointer (some ⟨tt, 0, none⟩)) ?_ (Kp.refl _ _) rfl
      have hcell : w.cell? ⟨l, 4, none⟩ = some (.pointer (some ⟨tt, 0, none⟩)) := by rw [cell_of_row w l 4 _ _ _ (HAt.out w hk)]; rfl
      obtain ⟨ρ, hρ, hc, hf, hg⟩ := eval_is a
      rw [hρ] at h7 ⊢
      simp [go_sem, h7, hcell]
    refine steps_cons (fun a w hk hn => ?_) ?_
    · have h8 : a.eval (.tmp 8) = .pointer (some ⟨tt, 0, none⟩) := hn.1
      clear hn
      refine wants_plain rfl ?_
      refine grown_run (v := .bool false) ?_ (Kp.refl _ _) rfl
      obtain ⟨ρ, hρ, hc, hf, hg⟩ := eval_is a
      rw [hρ] at h8 ⊢
      simp [go_sem, hc, h8]
    refine steps_cons (fun a w hk hn => ?_) ?_
    · have h9 : a.eval (.tmp 9) = .bool false := hn.1
      clear hn
      refine wants_plain rfl ?_
      exact grown_move (.tmp 9) rfl h9
    refine steps_cons (fun a w hk hn => ?_) ?_
    · have h0 : a.eval (.tmp 0) = .pointer (some ⟨l, 0, none⟩) := hn.1
      have h10 : a.eval (.tmp 10) = .bool false := hn.2.1
      clear hn
      refine wants_guard (d := 10) rfl rfl h10 ?_
      exact grown_move (.tmp 0) rfl h0
    refine steps_cons (fun a w hk hn => ?_) ?_
    · have h11 : a.eval (.tmp 11) = .pointer (some ⟨l, 0, none⟩) := hn.1
      have h10 : a.eval (.tmp 10) = .bool false := hn.2.1
      clear hn
      refine wants_guard (d := 10) rfl rfl h10 ?_
      refine grown_run (v := .pointer (some ⟨l, 0, none⟩)) ?_ (Kp.refl _ _) rfl
      obtain ⟨ρ, hρ, hc, hf, hg⟩ := eval_is a
      rw [hρ] at h11 ⊢
      simp [go_sem, h11]
    refine steps_cons (fun a w hk hn => ?_) ?_
    · have h12 : a.eval (.tmp 12) = .pointer (some ⟨l, 0, none⟩) := hn.1
      have h10 : a.eval (.tmp 10) = .bool false := hn.2.1
      clear hn
      refine wants_guard (d := 10) rfl rfl h10 ?_
      refine grown_run (v := .pointer (some ⟨l, 4, none⟩)) ?_ (Kp.refl _ _) rfl
      obtain ⟨ρ, hρ, hc, hf, hg⟩ := eval_is a
      rw [hρ] at h12 ⊢
      simp [go_sem, h12]
    refine steps_cons (fun a w hk hn => ?_) ?_
    · have h13 : a.eval (.tmp 13) = .pointer (some ⟨l, 4, none⟩) := hn.1
      have h10 : a.eval (.tmp 10) = .bool false := hn.2.1
      clear hn
      refine wants_guard (d := 10) rfl rfl h10 ?_
      refine grown_run (v := .pointer (some ⟨tt, 0, none⟩)) ?_ (Kp.refl _ _) rfl
      have hcell : w.cell? ⟨l, 4, none⟩ = some (.pointer (some ⟨tt, 0, none⟩)) := by rw [cell_of_row w l 4 _ _ _ (HAt.out w hk)]; rfl
      obtain ⟨ρ, hρ, hc, hf, hg⟩ := eval_is a
      rw [hρ] at h13 ⊢
      simp [go_sem, h13, hcell]
    refine steps_cons (fun a w hk hn => ?_) ?_
    · have h14 : a.eval (.tmp 14) = .pointer (some ⟨tt, 0, none⟩) := hn.1
      have h10 : a.eval (.tmp 10) = .bool false := hn.2.1
      clear hn
      refine wants_guard (d := 10) rfl rfl h10 ?_
      refine grown_run (v := .pointer (some ⟨tt, 0, none⟩)) ?_ (Kp.refl _ _) rfl
      obtain ⟨ρ, hρ, hc, hf, hg⟩ := eval_is a
      rw [hρ] at h14 ⊢
      simp [go_sem, h14]
    refine steps_cons (fun a w hk hn => ?_) ?_
    · have h15 : a.eval (.tmp 15) = .pointer (some ⟨tt, 0, none⟩) := hn.1
      have h10 : a.eval (.tmp 10) = .bool false := hn.2.1
      clear hn
      refine wants_guard (d := 10) rfl rfl h10 ?_
      refine grown_run (v := .pointer (some ⟨tt, 0, none⟩)) ?_ (Kp.refl _ _) rfl
      obtain ⟨ρ, hρ, hc, hf, hg⟩ := eval_is a
      rw [hρ] at h15 ⊢
      simp [go_sem, h15]
    refine steps_cons (fun a w hk hn => ?_) ?_
    · have h16 : a.eval (.tmp 16) = .pointer (some ⟨tt, 0, none⟩) := hn.1
      have h10 : a.eval (.tmp 10) = .bool false := hn.2.1
      clear hn
      refine wants_guard (d := 10) rfl rfl h10 ?_
      refine grown_run (v := .pointer (some ⟨tt, 0, none⟩)) ?_ (Kp.refl _ _) rfl
      obtain ⟨ρ, hρ, hc, hf, hg⟩ := eval_is a
      rw [hρ] at h16 ⊢
      simp [go_sem, h16]
    refine steps_cons (fun a w hk hn => ?_) ?_
    · have h17 : a.eval (.tmp 17) = .pointer (some ⟨tt, 0, none⟩) := hn.1
      have h10 : a.eval (.tmp 10) = .bool false := hn.2.1
      clear hn
      refine wants_guard (d := 10) rfl rfl h10 ?_
      refine grown_run (v := .int .i64 (a1 : Int)) ?_ (Kp.refl _ _) rfl
      have hcell : w.cell? ⟨tt, 0, none⟩ = some (.int .i64 (a1 : Int)) := by rw [cell_of_row w tt 0 _ _ _ (HTt.out w hk)]; rfl
      obtain ⟨ρ, hρ, hc, hf, hg⟩ := eval_is a
      rw [hρ] at h17 ⊢
      simp [go_sem, h17, hcell]
    refine steps_cons (fun a w hk hn => ?_) ?_
    · have h0 : a.eval (.tmp 0) = .pointer (some ⟨l, 0, none⟩) := hn.1
      have h10 : a.eval (.tmp 10) = .bool false := hn.2.1
      clear hn
      refine wants_guard (d := 10) rfl rfl h10 ?_
      exact grown_move (.tmp 0) rfl h0
    refine steps_cons (fun a w hk hn => ?_) ?_
    · have h19 : a.eval (.tmp 19) = .pointer (some ⟨l, 0, none⟩) := hn.1
      have h10 : a.eval (.tmp 10) = .bool false := hn.2.1
      clear hn
      refine wants_guard (d := 10) rfl rfl h10 ?_
      refine grown_call (f := 16) rfl Tryz.func16 (by kernel_rfl) (by kernel_rfl) ?_
      simp only [List.map_toArray, List.map_cons, List.map_nil, h19]
      refine (usize_any (HLg.out w hk) (il : Int) HIl.out).mono ?_
      rintro e w' ⟨rfl, rfl⟩
      exact ⟨_, rfl, Kp.refl _ _, rfl⟩
    refine steps_cons (fun a w hk hn => ?_) ?_
    · have h18 : a.eval (.tmp 18) = .int .i64 (a1 : Int) := hn.1
      have h20 : a.eval (.tmp 20) = .int .i64 (il : Int) := hn.2.1
      have h10 : a.eval (.tmp 10) = .bool false := hn.2.2.1
      clear hn
      refine wants_guard (d := 10) rfl rfl h10 ?_
      refine grown_run (v := .bool true) ?_ (Kp.refl _ _) rfl
      obtain ⟨ρ, hρ, hc, hf, hg⟩ := eval_is a
      rw [hρ] at h18 h20 ⊢
      simp [go_sem, h18, h20, HCmp.out]
    refine steps_cons (fun a w hk hn => ?_) ?_
    · have h10 : a.eval (.tmp 10) = .bool false := hn.1
      have h21 : a.eval (.tmp 21) = .bool true := hn.2.1
      clear hn
      refine wants_plain rfl ?_
      exact grown_pick _ _ _ false rfl h10 h21
    exact trivial
  intro W1 hkW1
  rintro _ rfl
  rintro _ rfl
  rintro _ rfl
  rintro _ rfl
  rintro _ rfl
  rintro _ rfl
  rintro _ rfl
  rintro _ rfl
  rintro _ rfl
  rintro _ rfl
  rintro _ rfl
  rintro _ rfl
  rintro _ rfl
  rintro _ rfl
  rintro _ rfl
  rintro _ rfl
  rintro _ rfl
  rintro _ rfl
  refine fin_nil ?_
  simp only [Act.put, List.set_cons_zero, List.set_cons_succ, List.setIfInBounds_toArray]
  have K12 := HD.out W1 hkW1
  have HX2 := hide (HX1.out.on K12)
  have HG2 := hide (K12.heap HG0.out (by simp))
  have HK12 := hide (HK1.out.trans K12)
  clear K12 hkW1 HG0
  have HSn := hide (usign_any ⟨j, s, q, _, _, HX2.out⟩ HG.out HN.out HMb.out er dk' HE.out en HEn.out)
  have hlt2 : g0 < W1.heap.size := lt_of_block HG2.out
  have hlt0 : g0 = w.heap.size := HGe.out
  have Hlt0 := hide hlt0
  have hno : ¬ f.tot g0 := fun e => by have := hg0f e; omega
  go_wp2_with fail
  refine HSn.out.mono ?_
  rintro ee w3 ⟨rfl, f', L3, T3⟩
  have HL3 := hide L3
  have HT3 : Hid (LSt w f w3 f') := (Stp.mid HK12.out).trans T3
  have HG3 := hide (T3.heap HG2.out hno)
  have hng : ¬ f'.tot g0 := T3.off hlt2 hno
  have HNG := hide hng
  have hg3 : g0 < w3.heap.size := lt_of_block HG3.out
  have Hsz := hide T3.size
  clear HSn L3 T3 hno hng hlt2 hlt0
  cases er
  · obtain rfl : en = 13 := by rw [HEn.out]; rfl
    have G3 := HG3.out
    go_wp2_with (refine wpList_store_flat rfl 72 (.tmp 2) (.tmp 27) rfl g0 0 rfl _ _ [.int .i64 0, .slice none 0 0, .int .i64 0, .slice none 0 0, .slice none 0 0] G3 rfl (by simp) Tryz.sgdSize (by simp [Value.oneCell']) #[.int .i64 0, .slice none 0 0, .int .i64 0, .slice none 0 0, .slice none 0 0] rfl ?_; intro w7 G7 K7)
    refine bodyPost_ret (results_flat2 rfl _ rfl G7 Tryz.underlying72 rfl Tryz.sgdSize) rfl ?_
    have hl7 : ∀ i ∈ [g0], w0.heap.size ≤ i ∧ ¬ f'.tot i := fun i hi => by simp at hi; subst hi; exact ⟨by have := Hlt0.out; have := Hw0.out; omega, HNG.out⟩
    refine ⟨_, 13, rfl, rfl, f', HL3.out.beside K7 hl7, HT3.out.aside K7 (by have := Hlt0.out; simp; omega), w3.heap.size, fun i hi => (HL3.out.lt i hi).2, HT3.out.size, K7.size, rfl⟩
  · obtain rfl : en = 0 := by rw [HEn.out]; rfl
    obtain ⟨a1, hza1⟩ : ∃ a, a = S.its.length := ⟨_, rfl⟩
    obtain ⟨a2, hza2⟩ : ∃ a, a = S.n := ⟨_, rfl⟩
    obtain ⟨j3, s3, q3, vs3, pv3, hX⟩ := HL3.out
    have hla3 := hX.la
    simp only [if_true] at hla3
    rw [← hza1, ← hza2] at hla3
    have HZ1 := hide hza1
    have HZ2 := hide hza2
    clear hza1 hza2
    obtain ⟨hle3, ha3, tt, vr, vp, vq, rfl, hFt3, hFv3, hSF3⟩ := hla3
    obtain ⟨ar, mr, cr, ap, np, cp, aq, nq, cq, e2, -, -⟩ := hSF3.v.shape
    simp only [Value.agg.injEq, Array.mk.injEq, List.cons.injEq, and_true] at e2
    obtain ⟨-, rfl, -, rfl, rfl⟩ := e2
    have hFv5 := hFv3
    have hV5 := hSF3.v
    have hsm := sgU_small S.seed S.its (a1, a2) ha3
    have G0 := HG3.out
    clear hFv3 hSF3 hle3 hFt3 ha3 HL3
    have x0 := hFv5.c0
    have x1 := hFv5.c1
    have x2 := hFv5.c2
    have x3 := hFv5.c3
    have x4 := hFv5.c4
    have y4 := hX.at_.c4
    have HC := hide (ucopy_any (.agg #[.int .i64 (a1 : Int), .slice ar mr cr, .int .i64 (a2 : Int), .slice ap np cp, .slice aq nq cq]) _ w3 hV5 hsm)
    have HG0 := hide G0
    have hg0 : g0 < w3.heap.size := lt_of_block G0
    have HX5 := hide hX
    clear hV5 hsm G0 hFv5 hX
    go_wp2_with fail
    refine HC.out.mono ?_
    rintro ee w5 ⟨v5, rfl, A5, K5⟩
    obtain ⟨br, kr, dr, bp, kp, dp, bq', kq, dq, rfl, -, -⟩ := A5.v.shape
    have G5 := K5.heap HG0.out (by simp)
    have HA5 := hide A5
    have HK5 := hide K5
    clear HC A5 K5 x0 x1 x2 x3 x4 y4
    go_wp2_with (refine wpList_store_flat rfl 72 (.tmp 2) (.tmp 35) rfl g0 0 rfl _ _ [.int .i64 _, .slice br kr dr, .int .i64 _, .slice bp kp dp, .slice bq' kq dq] G5 rfl (by simp) Tryz.sgdSize (by simp [Value.oneCell']) #[.int .i64 _, .slice br kr dr, .int .i64 _, .slice bp kp dp, .slice bq' kq dq] rfl ?_; intro w6 G6 K6)
    refine bodyPost_ret (results_flat2 rfl _ rfl G6 Tryz.underlying72 rfl Tryz.sgdSize) rfl ?_
    have hA6 := HA5.out.kept (S := [g0]) (by simpa using hg0) K6
    have hl7 : ∀ i ∈ [g0], w0.heap.size ≤ i ∧ ¬ f'.tot i := fun i hi => by simp at hi; subst hi; exact ⟨by have := Hlt0.out; have := Hw0.out; omega, HNG.out⟩
    have L5 : Lg w0 w6 l pd pk _ f' := ⟨j3, s3, q3, vs3, _, (HX5.out.on HK5.out).beside K6 hl7⟩
    refine ⟨_, 0, rfl, rfl, f', L5, (HT3.out.trans (Stp.mid HK5.out)).aside K6 (by have := Hlt0.out; simp; omega), w3.heap.size, fun i ⟨a, ha'⟩ => (HX5.out.ok.rng a i ha').2, HT3.out.size, Nat.le_trans HK5.out.size K6.size, ?_⟩
    have e6 : (S.its.length, S.n) = (a1, a2) := by rw [HZ1.out, HZ2.out]
    rw [e6]
    exact hA6
end
end Go.Proofs.YtillhpgdlmeajaaGreatDoor

/-
  The contracts of package ledger: gathered, Open.
-/
namespace Go.Proofs.YtillhpgdlmeajaaGreatDoor
open Go.RowKit
open Go.Proofs
set_option linter.unusedVariables false
theorem tkbU_short (bad : Bool) (bs : List Int) (n : Nat) (hB : Bs bs) : (tkb bad bs n).1.length ≤ n := by
  unfold tkb
  split
  · simp
  · rename_i h
    have h2 : val (tk bad bs 2).1 ≤ (n : Int) := by omega
    have h0 := (val_bd _ (tk_bs1 (bad := bad) (n := 2) hB)).1
    obtain ⟨k, hk⟩ := Int.eq_ofNat_of_zero_le h0
    rw [hk] at h2 ⊢
    exact Nat.le_trans tk_len1 (by omega)
theorem lists_big {w : World} {base : Nat} {v : Value} {l : List (Value × List Int)} (h : RowS w base v l) (hl : l.length ≤ 1000000) : Lists w v l := by
  rcases h.1.2 with ⟨rfl, h0⟩ | ⟨g, cap, cur, rfl, _⟩
  · have : l = [] := List.eq_nil_of_length_eq_zero (by simpa using h0)
    subst this
    exact lists_nil w none 0
  · refine ⟨some ⟨g, 0, none⟩, cap, by simp, by omega, fun i hi => ⟨g, 0, rfl, ?_, (h.2 _ (List.getElem_mem hi)).1, (h.2 _ (List.getElem_mem hi)).2.1⟩⟩
    have := h.1.cells (g := g) rfl i l[i].1 (by simp [List.getElem?_eq_getElem hi])
    simpa [Addr.add_lit] using this
theorem itsU_bs : ∀ (n : Nat) (b : List Int) (xs : List (List Int)), Bs b → itsU n b = some xs → (∀ x ∈ xs, Bs x ∧ x.length ≤ 65535) ∧ xs.length * 2 ≤ b.length
  | 0, b, xs, hB, h => by
    unfold itsU at h
    split at h
    · cases h; simp
    · cases h
  | n + 1, b, xs, hB, h => by
    unfold itsU at h
    split at h
    · cases h
    · rename_i hbad
      have hbad : (tkb false b 65535).2.1 = false := by simpa using hbad
      cases h2 : itsU n (tkb false b 65535).2.2 with
      | none => rw [h2] at h; cases h
      | some ys =>
        rw [h2] at h
        simp only [Option.map_some, Option.some.injEq] at h
        obtain ⟨i1, i2⟩ := itsU_bs n _ ys (tkb_bs2 hB) h2
        have h3 := tkb_less hbad
        refine ⟨fun x hx => ?_, by rw [← h, List.length_cons]; omega⟩
        rw [← h] at hx
        rcases List.mem_cons.1 hx with rfl | hx
        · exact ⟨tkb_bs1 hB, tkbU_short false b 65535 hB⟩
        · exact i1 x hx
theorem unlU_bs {r : List Int} {xs : List (List Int)} (hB : Bs r) (h : unlU r = some xs) : (∀ x ∈ xs, Bs x ∧ x.length ≤ 65535) ∧ xs.length * 2 ≤ r.length := by
  unfold unlU at h
  split at h
  · cases h
  · split at h
    · cases h
    · obtain ⟨h1, h2⟩ := itsU_bs _ _ xs (fun b hb => hB b (List.mem_of_mem_drop hb)) h
      rw [List.length_drop] at h2
      exact ⟨h1, by omega⟩
theorem gatU_append (l a b : List (List Int)) : gatU l (a ++ b) = (gatU l a).bind (fun m => gatU m b) := by
  induction a generalizing l with
  | nil => rfl
  | cons x a ih =>
    simp only [List.cons_append, gatU]
    split
    · rfl
    · split
      · exact ih _
      · rfl
theorem gatU_none {rs : List (List Int)} {k : Nat} (h : gatU [] (rs.take k) = none) : gatU [] rs = none := by
  have := gatU_append [] (rs.take k) (rs.drop k)
  rw [List.take_append_drop, h] at this
  exact this
theorem gatU_succ {rs l : List (List Int)} {k : Nat} (hk : k < rs.length) (h : gatU [] (rs.take k) = some l) : gatU [] (rs.take (k + 1)) = match unlU rs[k] with
    | none => none
    | some xs => if (l ++ xs).Nodup then some (l ++ xs) else none := by
  rw [List.take_succ_eq_append_getElem hk, gatU_snoc, h]
  simp only [Option.bind_some, gatU]
  cases unlU rs[k] <;> rfl
/-- what records' lengths come to. -/
def lenU (rs : List (List Int)) : Nat := (rs.map List.length).sum
theorem lenU_take (rs : List (List Int)) (k : Nat) : lenU (rs.take k) ≤ lenU rs := by
  have := congrArg lenU (List.take_append_drop k rs)
  unfold lenU at this ⊢
  rw [List.map_append, List.sum_append] at this
  omega
theorem lenU_succ {rs : List (List Int)} {k : Nat} (hk : k < rs.length) : lenU (rs.take (k + 1)) = lenU (rs.take k) + rs[k].length := by
  rw [List.take_succ_eq_append_getElem hk]
  unfold lenU
  rw [List.map_append, List.sum_append]
  simp
set_option maxRecDepth 100000 in
set_option maxHeartbeats 8000000 in
theorem gathered_any (v : Value) (lv : List (Value × List Int)) (rs : List (List Int)) (hrs : lv.map (·.2) = rs) (w : World) (hL : Lists w v lv) (hB : ∀ r ∈ rs, Bs r) (hl : lenU rs ≤ 100000) (hn : rs.length ≤ 200000) (ok : Bool) (hok : ok = (redU rs).isSome) :
    Calls Tryz.prog 43 #[v] w fun e w' => ∃ p, e = .returned (.tuple #[p, .bool ok]) ∧ Kp [] w w' ∧ ∀ its, redU rs = some its → ∃ s F, p = .pointer (some ⟨s, 0, none⟩) ∧ Sh w' s its F ∧ ∀ i, F i → w.heap.size ≤ i ∧ i < w'.heap.size := by
  obtain ⟨al, cl, rfl, -, hcell⟩ := hL
  obtain ⟨N, hN⟩ : ∃ N, N = lv.length := ⟨_, rfl⟩
  have hNr : rs.length = N := by rw [← hrs, hN]; simp
  have hget : ∀ k (hk : k < N), ∃ (hk2 : k < rs.length), ∃ b off, al = some ⟨b, off, none⟩ ∧ ∃ u, w.cell? ⟨b, off + k, none⟩ = some u ∧ Sl w u rs[k] := fun k hk => by
    have hk1 : k < lv.length := by omega
    obtain ⟨b, off, e, h1, h2, h3⟩ := hcell k hk1
    have hk2 : k < rs.length := by omega
    have e2 : rs[k] = lv[k].2 := by simp [← hrs]
    exact ⟨hk2, b, off, e, lv[k].1, h1, by rw [e2]; exact h2⟩
  rw [← hN]
  have HGet := hide hget
  have HB := hide hB
  have HL := hide hl
  have HOk := hide hok
  have HNr := hide hNr
  have hN2 : N ≤ 200000 := by omega
  clear hcell hget hB hrs hN hn hl hok hNr
  go_enter Tryz.func43, Tryz.ntmps43
  go_wp2_with fail
  refine (newShelf_any w).mono ?_
  rintro ee w1 ⟨s2, F1, rfl, S1, hF1, K1⟩
  have HS1 := hide S1
  have HF1 := hide hF1
  have HK1 := hide K1
  clear S1 hF1 K1
  go_wp2_with fail
  go_loopw [16] (fun i wr => ∃ k : Nat, k ≤ N ∧ i = .int .i64 k ∧ ∃ its F, gatU [] (rs.take k) = some its ∧ Sh wr s2 its F ∧ its.length * 2 ≤ lenU (rs.take k) ∧ (∀ i, F i → w.heap.size ≤ i ∧ i < wr.heap.size) ∧ Kp [] w wr) (fun i _ => N - (intOf i).toNat)
  case atStart => exact ⟨0, by omega, rfl, [], F1, rfl, HS1.out, by simp, HF1.out, HK1.out⟩
  case round =>
    obtain ⟨k, hk, rfl, its, F, hg, Sf, hli, hF, K⟩ := hrel
    have HG := hide hg
    have HSf := hide Sf
    have HLi := hide hli
    have HF := hide hF
    have HK := hide K
    clear hg Sf hli hF HS1 HF1 HK1
    by_cases hlt : k < N
    · have hlt' : (k : Int) < (N : Int) := by omega
      obtain ⟨hkx, b, off, rfl, u, hu, hSu⟩ := HGet.out k hlt
      have hcu := K.cell hu (by simp)
      have hSu2 := hSu.kept K (by simp)
      have hsucc := gatU_succ hkx HG.out
      have hlsucc := lenU_succ hkx
      have hltk := lenU_take rs (k + 1)
      obtain ⟨x, hx⟩ : ∃ x, x = rs[k] := ⟨_, rfl⟩
      have hBx : Bs x := by rw [hx]; exact HB.out _ (List.getElem_mem hkx)
      rw [← hx] at hSu2 hsucc hlsucc
      obtain ⟨ax, cx, hux, -⟩ := id hSu2
      obtain ⟨nx, hnx⟩ : ∃ n, n = x.length := ⟨_, rfl⟩
      rw [← hnx] at hux
      rw [hux] at hcu hSu2
      have hxl : x.length ≤ 100000 := by have := HL.out; omega
      obtain ⟨okr, hokr⟩ : ∃ o, o = (unlU x).isSome := ⟨_, rfl⟩
      have HUn := hide (unlaid_any _ x wr hSu2 hBx (by omega) okr hokr)
      have HSucc := hide hsucc
      have HLs := hide hlsucc
      have HBx := hide hBx
      have hbnd : its.length * 2 + x.length ≤ 100000 := by have := HLi.out; have := HL.out; omega
      have HLt := hide hltk
      cases hun : unlU x with
      | none =>
        rw [hun] at hokr
        have hokr2 : okr = false := by rw [hokr]; rfl
        clear hokr
        subst hokr2
        have hred : redU rs = none := by
          unfold redU
          have : gatU [] (rs.take (k + 1)) = none := by rw [HSucc.out, hun]
          rw [gatU_none this]
        have hok2 : ok = false := by rw [HOk.out, hred]; rfl
        subst hok2
        have HRed := hide hred
        clear hSu hSu2 hu hux hnx hx hsucc hlsucc hltk hBx hun hred K
        go_wp2_with fail
        refine HUn.out.mono ?_
        rintro ee w2 ⟨a2, m2, c2, rfl, K2, -⟩
        have HK2 := hide (HK.out.trans K2)
        clear HUn K2
        go_wp2_with fail
        go_ret2
        exact ⟨_, rfl, HK2.out, fun z hz => by rw [HRed.out] at hz; cases hz⟩
      | some xs =>
        rw [hun] at hokr
        have hokr2 : okr = true := by rw [hokr]; rfl
        clear hokr
        subst hokr2
        obtain ⟨hxB, hx2⟩ := unlU_bs hBx hun
        have HUn2 := hide hun
        have HxB := hide hxB
        have hxs5 : xs.length ≤ 50000 := by omega
        clear hSu hSu2 hu hux hnx hx hsucc hlsucc hltk hBx hxB K hun
        go_wp2_with fail
        refine HUn.out.mono ?_
        rintro ee w2 ⟨a2, m2, c2, rfl, K2, hrow⟩
        obtain ⟨lx, P2, hlx⟩ := hrow xs HUn2.out
        have hm2 : m2 = xs.length := by have := P2.1.1.len; rw [List.length_map] at this; rw [this, ← hlx]; simp
        have HP2 := hide P2
        have HLx := hide hlx
        have HM2 := hide hm2
        have HSf2 := hide (HSf.out.kept K2 (by simp))
        have HK2 := hide (HK.out.trans K2)
        have HKr := hide K2
        have hm3 : m2 ≤ 50000 := by omega
        clear HUn K2 hrow P2 hlx hm2
        go_wp2_with fail
        obtain ⟨bN, hbN⟩ : ∃ n, n = wr.heap.size := ⟨_, rfl⟩
        have HSz : Hid (bN ≤ w2.heap.size) := hide (by rw [hbN]; exact HKr.out.size)
        rw [← hbN] at HF HP2
        clear hbN HKr
        go_loopw [29] (fun i wr => ∃ t : Nat, t ≤ m2 ∧ i = .int .i64 t ∧ (its ++ xs.take t).Nodup ∧ ∃ F', Sh wr s2 (its ++ xs.take t) F' ∧ Stp F w2 wr F') (fun i _ => m2 - (intOf i).toNat)
        case atStart => exact ⟨0, by omega, rfl, by simpa using HSf2.out.nd, F, by simpa using HSf2.out, Stp.refl _ _⟩
        case round =>
          obtain ⟨t, ht, rfl, hnd, F', Sq, Tq⟩ := hrel
          have HSq := hide Sq
          have HTq := hide Tq
          have HND := hide hnd
          clear Sq hnd
          have hF2 : ∀ i, F i → i < w2.heap.size := fun i hi => Nat.lt_of_lt_of_le (HF.out i hi).2 HSz.out
          have hFq : ∀ i, F' i → w.heap.size ≤ i ∧ i < wr.heap.size := fun i hi => by
            have h0 := HK2.out.size
            have h1 := Tq.size
            rcases Tq.2 i hi with h | h
            · have := HF.out i h; have := hF2 i h; omega
            · omega
          have HFq := hide hFq
          by_cases htl : t < m2
          · have htl' : (t : Int) < (m2 : Int) := by omega
            have htx : t < xs.length := by have := HM2.out; omega
            have htx2 : t < lx.length := by have h := congrArg List.length HLx.out; rw [List.length_map] at h; omega
            obtain ⟨T, hT, kT⟩ := Tq.kp
            have hlow : ∀ i ∈ T, i < bN := fun i hi => (HF.out i (hT i hi)).2
            have P3 := HP2.out.kept kT hlow
            have hL3 : Lists wr (.slice a2 m2 c2) lx := lists_big P3.1 (by have h := congrArg List.length HLx.out; rw [List.length_map] at h; omega)
            obtain ⟨a3, c3, e3, -, hc3⟩ := hL3
            obtain ⟨b3, o3, e4, hcc, hSc, hBc⟩ := hc3 t htx2
            injection e3 with e5 e6 e7
            subst e7
            rw [← e5] at e4
            subst e4
            have ey : lx[t].2 = xs[t] := by simp [← HLx.out]
            rw [ey] at hSc hBc
            obtain ⟨y, hy⟩ : ∃ y, y = xs[t] := ⟨_, rfl⟩
            rw [← hy] at hSc hBc
            have hyl : y.length ≤ 65535 := by rw [hy]; exact (HxB.out _ (List.getElem_mem htx)).2
            have hcv := hSc.conv (P := Tryz.prog) 22 9 5 Tryz.underlying22 Tryz.underlying5 Tryz.underlying9
            have htk : xs.take (t + 1) = xs.take t ++ [y] := by rw [List.take_succ_eq_append_getElem htx, ← hy]
            have HTK := hide htk
            have HY := hide hy
            have hll : (its ++ xs.take t).length < 100000 := by rw [List.length_append, List.length_take]; omega
            have HP := hide (put_any HSq.out (fun i hi => (hFq i hi).2) y hBc hyl hll)
            obtain ⟨ay, cy, hyv, -⟩ := id hSc
            obtain ⟨ny, hny⟩ : ∃ n, n = y.length := ⟨_, rfl⟩
            rw [← hny] at hyv
            rw [hyv] at hcc hcv
            clear e5 e6 hc3 hSc hBc hyv hny hy htk ey hll P3 hT kT hlow
            by_cases hin : y ∈ its ++ xs.take t
            · have hd : decide (y ∈ its ++ xs.take t) = true := decide_eq_true hin
              rw [hd] at HP
              have hred : redU rs = none := by
                unfold redU
                have h5 : gatU [] (rs.take (k + 1)) = none := by
                  rw [HSucc.out, HUn2.out]
                  simp only
                  rw [if_neg]
                  intro hnd2
                  have e : its ++ xs = (its ++ xs.take t) ++ xs.drop t := by rw [List.append_assoc, List.take_append_drop]
                  rw [e] at hnd2
                  refine (List.nodup_append.1 hnd2).2.2 y hin y ?_ rfl
                  rw [List.mem_iff_getElem]
                  exact ⟨0, by simp; omega, by simp [HY.out]⟩
                rw [gatU_none h5]
              have hok2 : ok = false := by rw [HOk.out, hred]; rfl
              subst hok2
              have HRed := hide hred
              clear hred hin hd Tq hFq hF2
              go_wp2_with fail
              refine HP.out.mono ?_
              rintro ee w4 ⟨rfl, F4, S4, T4⟩
              have HK4 : Hid (Kp [] w w4) := (HTq.out.trans T4).base HK2.out (fun i hi => (HF.out i hi).1)
              clear HP S4 T4
              go_wp2_with fail
              go_ret2
              exact ⟨_, rfl, HK4.out, fun z hz => by rw [HRed.out] at hz; cases hz⟩
            · have hd : decide (y ∈ its ++ xs.take t) = false := decide_eq_false hin
              rw [hd, insU_new hin] at HP
              have HIn := hide hin
              clear hin hd Tq hFq hF2
              go_wp2_with fail
              refine HP.out.mono ?_
              rintro ee w4 ⟨rfl, F4, S4, T4⟩
              have HS4 := hide S4
              have HT4 := hide T4
              clear HP S4 T4 hcc hcv
              go_wp2_with fail
              go_roundw
              case rel =>
                refine ⟨t + 1, by omega, by go_num, ?_, F4, ?_, HTq.out.trans HT4.out⟩
                · have := HS4.out.nd; rw [HTK.out, ← List.append_assoc]; exact this
                · rw [HTK.out, ← List.append_assoc]; exact HS4.out
              case measure => simp [intOf]; omega
          · have htm : t = m2 := by omega
            have hnlt : ¬ (t : Int) < (m2 : Int) := by omega
            have e : xs.take t = xs := List.take_of_length_le (by have := HM2.out; omega)
            rw [e] at HSq HND
            have hw1 : IntKind.i64.wrap ((k : Int) + 1) = (k : Int) + 1 := by simp [IntKind.wrap, IntKind.signed, IntKind.bits]; omega
            clear htm e hF2
            go_wp2_with fail
            go_roundw
            case rel =>
              refine ⟨k + 1, by omega, by go_num, its ++ xs, F', ?_, HSq.out, ?_, HFq.out, HTq.out.base HK2.out (fun i hi => (HF.out i hi).1)⟩
              · rw [HSucc.out, HUn2.out]
                simp only
                rw [if_pos HND.out]
              · rw [HLs.out, List.length_append]; have := HLi.out; omega
            case measure => simp [intOf]; omega
    · have hkn : k = N := by omega
      have hnlt : ¬ (k : Int) < (N : Int) := by omega
      have e : rs.take k = rs := List.take_of_length_le (by have := HNr.out; omega)
      rw [e] at HG
      have HZ := hide (ssize_any HSf.out _ rfl)
      obtain ⟨n, hn⟩ : ∃ n, n = its.length := ⟨_, rfl⟩
      rw [← hn] at HZ
      have hr : redU rs = if n ≤ 256 then some its else none := by unfold redU; rw [HG.out, hn]
      have hok3 : ok = decide ((n : Int) ≤ 256) := by
        rw [HOk.out, hr]
        by_cases h : n ≤ 256
        · rw [if_pos h, decide_eq_true (by omega)]; rfl
        · rw [if_neg h, decide_eq_false (by omega)]; rfl
      have HRr := hide hr
      have Hok3 := hide hok3
      clear K hkn e hn hr hok3
      go_wp2_with fail
      refine HZ.out.mono ?_
      rintro ee w2 ⟨rfl, hw⟩
      subst w2
      clear HZ
      go_wp2_with fail
      go_ret2
      refine ⟨_, by rw [Hok3.out]; rfl, HK.out, fun z hz => ?_⟩
      rw [HRr.out] at hz
      split at hz
      · cases hz; exact ⟨s2, F, rfl, HSf.out, HF.out⟩
      · cases hz
section
variable {w0 w : World} {pd pk n at_ : Nat} {dd dk dk' dd' : Dk} {f : Fps}
set_option maxRecDepth 100000 in
set_option maxHeartbeats 4000000 in
theorem uopen_ok (vs : Value) (seed : List Int) (hS : Sl w vs seed) (hsB : Bs seed) (hl : seed.length = 32) (hsk : ∀ k, vs.ownBlock = some k → ¬ f.tot k) (hf : f.Ok w0 w) (hD : Dx w0 w pd dd (f 5)) (dn : dd.down = false) (da : dd.arm ≤ 0) (hK : Dx w0 w pk dk (f 6)) (kd : dk.down = false) (ka : dk.arm ≤ 0) {b : List Int} (hb : dk.bs = b) (hn : n ≤ 16) (ho : opnP b = (keyL n, at_, true)) (hdk : dk.opn = dk') {bd : List Int} (hbd : dd.bs = bd) {rs : List (List Int)} {at2 : Nat} (hop : opnP bd = (rs, at2, true)) (hdd : dd.opn = dd') {its : List (List Int)} (hits : gatU [] rs = some its) (h256 : its.length ≤ 256) (hrB : ∀ r ∈ rs, Bs r) (hlr : lenU rs ≤ 100000) (hrn : rs.length ≤ 200000) :
    Calls Tryz.prog 10 #[.pointer (some ⟨pd, 0, none⟩), .pointer (some ⟨pk, 0, none⟩), vs] w fun e w' => ∃ l, e = .returned (.tuple #[.pointer (some ⟨l, 0, none⟩), .int .i64 0]) ∧ ∃ f', Lg w0 w' l pd pk ⟨its, n, seed, none, dd', dk', rs.length, n⟩ f' ∧ LSt w f w' f' := by
  have HS := hide hS
  obtain ⟨av, cv, hvs, -⟩ := hS
  rw [hl] at hvs
  have HK := hide (bf_open hK kd ka hb hn ho hdk)
  have HD := hide hD
  have HF := hide hf
  have Hdn := hide dn
  have Hda := hide da
  have Hbd := hide hbd
  have HOp := hide hop
  have Hdd := hide hdd
  have HIt := hide hits
  have H256 := hide h256
  have HrB := hide hrB
  have HLr := hide hlr
  have HRn := hide hrn
  have HSb := hide hsB
  have HSl := hide hl
  have HSk := hide hsk
  have HNk := hide hn
  subst hvs
  clear hK kd ka hb hn ho hD hf dn da hbd hop hits h256 hrB hlr hrn hsB hsk hl hdk hdd
  go_enter Tryz.func10, Tryz.ntmps10
  go_wp2_with fail
  refine HK.out.mono ?_
  rintro ee w1 ⟨q, rfl, F6, B1, T1⟩
  have ok1 := HF.out.upd T1
  obtain ⟨T, hT, k1⟩ := T1.kp
  obtain ⟨v, N1, hv⟩ := HD.out.kept k1 ok1.kp (HF.out.apart (a := 6) (b := 5) (by decide) hT)
  have HS1 := hide (HS.out.kept k1 (fun i hi hm => HSk.out i hi ⟨6, hT i hm⟩))
  have HJ := hide (open_ok N1 Hdn.out Hda.out Hbd.out HOp.out Hdd.out)
  have HB1 := hide B1
  have HT1 := hide T1
  have HO1 := hide ok1
  have Hv := hide hv
  clear HK B1 T1 ok1 hT k1 N1 hv
  go_wp2_with fail
  refine HJ.out.mono ?_
  rintro ee w2 ⟨j, v2, al, cl, lv, rfl, J2, hj2, D2, P2, hl2⟩
  have t5 : Stp (f 5) w1 w2 (fun i => grF (f 5) v2 i ∨ i = j) := by
    have t := D2.stp Hv.out J2.nw.rlt
    refine ⟨t.1, fun i hi => ?_⟩
    rcases hi with hi | rfl
    · exact t.2 i hi
    · exact .inr ⟨hj2, J2.jr.lt⟩
  have e5 : f.upd 6 F6 5 = f 5 := upd_ne (by decide)
  have ok2 : ((f.upd 6 F6).upd 5 (fun i => grF (f 5) v2 i ∨ i = j)).Ok w0 w2 := HO1.out.upd (by rw [e5]; exact t5)
  obtain ⟨T2, hT2, k2⟩ := t5.kp
  have e6 : f.upd 6 F6 6 = F6 := upd_eq
  have B2 := HB1.out.kept k2 ok2.kp (by have := HO1.out.apart (a := 5) (b := 6) (by decide) (S := T2) (by rw [e5]; exact hT2); rw [e6] at this; exact this)
  have HS2 : Hid (Sl w2 (.slice av 32 cv) seed) := hide (HS1.out.kept k2 (fun i hi hm => HSk.out i hi ⟨5, hT2 i hm⟩))
  have hml : rs.length = lv.length := by rw [← hl2]; simp
  have HG := hide (gathered_any (.slice al rs.length cl) lv _ hl2 w2 (lists_big P2.parts.rowS (by have := HRn.out; omega)) HrB.out HLr.out HRn.out true (by unfold redU; rw [HIt.out]; simp only; rw [if_pos H256.out]; rfl))
  have HJ2 := hide J2
  have HB2 := hide B2
  have HO2 := hide ok2
  have HT5 := hide t5
  obtain ⟨nr, hnr⟩ : ∃ n, n = rs.length := ⟨_, rfl⟩
  rw [← hnr] at HG ⊢
  have HNR := hide hnr
  clear HJ J2 hj2 D2 P2 hl2 t5 e5 e6 ok2 hT2 k2 B2 hml hnr
  go_wp2_with fail
  refine HG.out.mono ?_
  rintro ee w3 ⟨p3, rfl, K3, hsh⟩
  obtain ⟨s, F4, rfl, S3, hF4⟩ := hsh its (by unfold redU; rw [HIt.out]; simp only; rw [if_pos H256.out])
  have HC := hide (dclone_any (.slice av 32 cv) seed w3 (HS2.out.kept K3 (by simp)) (by have := HSl.out; omega))
  have HK3 := hide K3
  have HS3 := hide S3
  have HF4 := hide hF4
  clear HG K3 hsh S3 hF4
  go_wp2_with fail
  refine HC.out.mono ?_
  rintro ee w4 ⟨a4, m4, c4, rfl, R4, K4⟩
  have HR4 := hide R4
  have HK4 := hide K4
  clear HC R4 K4
  go_wp2_with fail
  go_ret2
  have ka : Kp [] w4 (w4.alloc (.cells #[.func (.func 44) #[.pointer (some ⟨j, 0, none⟩)] #[], .pointer (some ⟨s, 0, none⟩), .pointer (some ⟨q, 0, none⟩), .slice a4 m4 c4, .pointer none] 99)) := (Kp.refl [] w4).alloc _
  have K35 := HK4.out.trans ka
  have K25 := HK3.out.trans K35
  have s0 := HF.out.kp.size
  have s1 := HT1.out.size
  have s2 := HT5.out.size
  have s3 := HK3.out.size
  have s4 := HK4.out.size
  have h5 : ∀ i, (grF (f 5) v2 i ∨ i = j) → (f 5 i ∧ i < w.heap.size) ∨ (w1.heap.size ≤ i ∧ i < w2.heap.size) := fun i hi => (HT5.out.2 i hi).imp (fun h => ⟨h, (HF.out.rng 5 i h).2⟩) id
  have h6 : ∀ i, F6 i → (f 6 i ∧ i < w.heap.size) ∨ (w.heap.size ≤ i ∧ i < w1.heap.size) := fun i hi => (HT1.out.2 i hi).imp (fun h => ⟨h, (HF.out.rng 6 i h).2⟩) id
  have h56 : ∀ i, f 5 i → f 6 i → False := fun i h1 h2 => by have := HF.out.ap 5 6 i h1 h2; omega
  have h2 : ∀ i, (Value.slice a4 m4 c4).ownBlock = some i → w3.heap.size ≤ i ∧ i < w4.heap.size := fun i hi => ⟨HR4.out.own i hi, HR4.out.lt hi⟩
  have h4 := HF4.out
  have hk0 : Kp [] w0 (w4.alloc (.cells #[.func (.func 44) #[.pointer (some ⟨j, 0, none⟩)] #[], .pointer (some ⟨s, 0, none⟩), .pointer (some ⟨q, 0, none⟩), .slice a4 m4 c4, .pointer none] 99)) := HO2.out.kp.trans K25
  let f' : Fps := fun a i => (a = 1 ∧ i = w4.heap.size) ∨ (a = 2 ∧ (Value.slice a4 m4 c4).ownBlock = some i) ∨ (a = 4 ∧ F4 i) ∨ (a = 5 ∧ (grF (f 5) v2 i ∨ i = j)) ∨ (a = 6 ∧ F6 i)
  have hr0 : ∀ i, f 5 i ∨ f 6 i → w0.heap.size ≤ i ∧ i < w.heap.size := fun i hi => hi.elim (HF.out.rng 5 i) (HF.out.rng 6 i)
  have rng : ∀ a i, f' a i → w0.heap.size ≤ i ∧ i < w4.heap.size + 1 := fun a i hi => by
    rcases hi with ⟨-, rfl⟩ | ⟨-, h⟩ | ⟨-, h⟩ | ⟨-, h⟩ | ⟨-, h⟩
    · omega
    · have := h2 i h; omega
    · have := h4 i h; omega
    · rcases h5 i h with ⟨h, _⟩ | h
      · have := hr0 i (.inl h); omega
      · omega
    · rcases h6 i h with ⟨h, _⟩ | h
      · have := hr0 i (.inr h); omega
      · omega
  have pos : ∀ a i, f' a i → (a = 1 ∧ w4.heap.size ≤ i) ∨ (a = 2 ∧ w3.heap.size ≤ i ∧ i < w4.heap.size) ∨ (a = 4 ∧ w2.heap.size ≤ i ∧ i < w3.heap.size) ∨ (a = 5 ∧ (f 5 i ∧ i < w.heap.size ∨ w1.heap.size ≤ i ∧ i < w2.heap.size)) ∨ (a = 6 ∧ (f 6 i ∧ i < w.heap.size ∨ w.heap.size ≤ i ∧ i < w1.heap.size)) := fun a i hi => by
    rcases hi with ⟨ha, rfl⟩ | ⟨ha, h⟩ | ⟨ha, h⟩ | ⟨ha, h⟩ | ⟨ha, h⟩
    · exact .inl ⟨ha, Nat.le_refl _⟩
    · exact .inr (.inl ⟨ha, h2 i h⟩)
    · exact .inr (.inr (.inl ⟨ha, h4 i h⟩))
    · exact .inr (.inr (.inr (.inl ⟨ha, h5 i h⟩)))
    · exact .inr (.inr (.inr (.inr ⟨ha, h6 i h⟩)))
  have ap : f'.Apart := fun a b i ha hb => by
    rcases pos a i ha with ⟨rfl, p⟩ | ⟨rfl, p⟩ | ⟨rfl, p⟩ | ⟨rfl, p | p⟩ | ⟨rfl, p | p⟩ <;> rcases pos b i hb with ⟨rfl, q⟩ | ⟨rfl, q⟩ | ⟨rfl, q⟩ | ⟨rfl, q | q⟩ | ⟨rfl, q | q⟩ <;> first | rfl | (exfalso; omega) | exact (h56 i p.1 q.1).elim | exact (h56 i q.1 p.1).elim
  have e1 : f' 5 = fun i => grF (f 5) v2 i ∨ i = j := funext fun i => by simp [f']
  have e2 : f' 6 = F6 := funext fun i => by simp [f']
  have e3 : f' 4 = F4 := funext fun i => by simp [f']
  refine ⟨w4.heap.size, rfl, f', ⟨j, s, q, .slice a4 m4 c4, .pointer none, ⟨hk0, ap, fun a i hi => by have := rng a i hi; simp; omega⟩, heap_alloc_new w4 _, .inl ⟨rfl, rfl⟩, HR4.out.sl.kept ka (by simp), fun k hk => .inr (.inl ⟨rfl, hk⟩), rfl, ?_, ?_, ?_, HSl.out, HSb.out, H256.out, HNk.out⟩, ?_⟩
  · rw [e3]; exact HS3.out.kept K35 (by simp)
  · rw [e1]
    exact ⟨v2, rs.length, Nat.le_refl _, HJ2.out.kept K25 hk0 (by simp) (by simp), .inr rfl, fun i hi => .inl (grF_fp (Hv.out pd (mem_dfp.2 (.inl rfl))) i hi)⟩
  · rw [e2]; exact HB2.out.kept K25 hk0 (by simp)
  · have t6 : Stp f.tot w w1 (fun i => f 5 i ∨ F6 i) := by
      refine ⟨?_, fun i hi => ?_⟩
      · obtain ⟨T, hT, k⟩ := HT1.out.kp
        exact ⟨T, fun i hi => ⟨6, hT i hi⟩, k⟩
      · rcases hi with hi | hi
        · exact .inl ⟨5, hi⟩
        · exact (HT1.out.2 i hi).imp (fun h => ⟨6, h⟩) id
    have t5 : Stp (fun i => f 5 i ∨ F6 i) w1 w2 (fun i => (grF (f 5) v2 i ∨ i = j) ∨ F6 i) := by
      refine ⟨?_, fun i hi => ?_⟩
      · obtain ⟨T, hT, k⟩ := HT5.out.kp
        exact ⟨T, fun i hi => .inl (hT i hi), k⟩
      · rcases hi with hi | hi
        · exact (HT5.out.2 i hi).imp .inl id
        · exact .inl (.inr hi)
    obtain ⟨tk, tn⟩ := (t6.trans t5).trans (Stp.mid K25)
    refine ⟨tk, fun i ⟨a, ha⟩ => ?_⟩
    have hsz : (w4.alloc (.cells #[.func (.func 44) #[.pointer (some ⟨j, 0, none⟩)] #[], .pointer (some ⟨s, 0, none⟩), .pointer (some ⟨q, 0, none⟩), .slice a4 m4 c4, .pointer none] 99)).heap.size = w4.heap.size + 1 := by simp
    rw [hsz] at tn ⊢
    rcases ha with ⟨-, rfl⟩ | ⟨-, h⟩ | ⟨-, h⟩ | ⟨-, h⟩ | ⟨-, h⟩
    · exact .inr ⟨by omega, by omega⟩
    · have := h2 i h; exact .inr ⟨by omega, by omega⟩
    · have := h4 i h; exact .inr ⟨by omega, by omega⟩
    · exact tn i (.inl h)
    · exact tn i (.inr h)
end
end Go.Proofs.YtillhpgdlmeajaaGreatDoor
