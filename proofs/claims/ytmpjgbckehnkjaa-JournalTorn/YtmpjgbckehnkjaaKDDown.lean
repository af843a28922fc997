/-
  Regions that draw their order in which a disk takes one step: what holds of the disk while they go on.
-/
import Derived.Test.YtmpjgbckehnkjaaKDPlay
import Derived.Test.YtmpjgbckehnkjaaKRGrowC
import Derived.Test.YtmpjgbckehnkjaaKRGrowX
namespace Go.Proofs.Ytmpjgbckehnkjaa
open Go.RowKit
open Go.Proofs
set_option linter.unusedVariables false

/-- whatever it is. -/
def AnyT : Tell := fun _ _ => True
theorem stableK_any {K : World → World → Prop} : Tell.stableG K AnyT := fun _ _ _ _ _ => trivial
/-- j stands ahead of i. -/
def ancB (l : List Oper) : Nat → Nat → Nat → Bool
  | 0, _, _ => false
  | f + 1, i, j => match l[i]? with
    | none => false
    | some o => (odeps o).any fun k => k == j || ancB l f k j
theorem anc_closed {l : List Oper} {listed : Array Bool} (hcl : ClosedL l listed) : ∀ (f i j : Nat), ancB l f i j = true → listed.getD i false = true → listed.getD j false = true
  | 0, _, _, h, _ => by cases h
  | f + 1, i, j, h, hi => by
    unfold ancB at h
    cases ho : l[i]? with
    | none => rw [ho] at h; cases h
    | some o =>
      rw [ho] at h
      obtain ⟨k, hk, h1⟩ := List.any_eq_true.1 h
      have hk' := hcl i o ho hi k hk
      rcases (Bool.or_eq_true _ _).mp h1 with h2 | h2
      · rw [← of_decide_eq_true (by simpa using h2 : decide (k = j) = true)]; exact hk'
      · exact anc_closed hcl f k j h2 hk'
theorem anc_listed {l : List Oper} {listed : Array Bool} (hcl : ClosedL l listed) {o : Oper} (f i j : Nat) (ho : l[i]? = some o) (hdep : ∀ k ∈ odeps o, listed.getD k false = true) (h : ancB l (f + 1) i j = true) : listed.getD j false = true := by
  unfold ancB at h
  rw [ho] at h
  obtain ⟨k, hk, h1⟩ := List.any_eq_true.1 h
  have hk' := hdep k hk
  rcases (Bool.or_eq_true _ _).mp h1 with h2 | h2
  · rw [← of_decide_eq_true (by simpa using h2 : decide (k = j) = true)]; exact hk'
  · exact anc_closed hcl f k j h2 hk'
theorem anc_not {l : List Oper} {listed : Array Bool} (hcl : ClosedL l listed) (f i j : Nat) (h : ancB l f i j = true) (hj : listed.getD j false = false) : listed.getD i false = false := by
  cases hi : listed.getD i false with
  | false => rfl
  | true => rw [anc_closed hcl f i j h hi] at hj; cases hj
theorem getD_set_back {listed : Array Bool} {i j : Nat} (h : (listed.setIfInBounds i true).getD j false = false) : listed.getD j false = false := by
  by_cases e : i = j
  · subst e
    by_cases hi : i < listed.size
    · rw [getD_set_selfM i hi] at h; cases h
    · rw [Array.getD_eq_getD_getElem?, Array.getElem?_eq_none (by omega)]; rfl
  · rw [getD_set_neM e] at h; exact h
theorem freeze_kpg (w : World) (p : Addr) (n : Nat) : Kp [p.block] w (w.freeze p n) := by
  unfold World.freeze
  split
  · exact Kp.refl _ _
  · refine ⟨rfl, rfl, rfl, by simp, fun k hlt hn => ?_⟩
    rw [Array.getElem?_modify, if_neg (by show ¬ p.block = k; intro e; exact hn (by simp [e]))]
theorem run_convert_lig (w : World) (a : Addr) (n c : Nat) : ∃ w', (convert 22 22 (.slice (some a) n c)).run Try.prog w = .ok (.slice (some a) n c) w' ∧ Kc w w' ∧ Kp [a.block] w w' := by
  simp [convert, run_underlying Try.underlying22, run_underlying Try.underlying5, markStringish]
  cases h : w.shape? a.block with
  | none => exact ⟨w, by simp, Kc.refl _, Kp.refl _ _⟩
  | some x => exact ⟨w.freeze ⟨a.block, x.2, none⟩ 1, by simp, freeze_kc _ _ _, freeze_kpg _ ⟨a.block, x.2, none⟩ _⟩
/-- What holds while such a region goes on: the disk is at d0, behind the operation iA at d1; behind iB and ahead of iC the slot sB reads as B; behind iL and ahead of iM the slot sL is a row of its own that reads as L; behind iM and ahead of iA so does the slot sM. -/
structure GD (w0 : World) (p : Nat) (d0 d1 : Dk) (iA iB iC sB iL iM sL sM : Nat) (B L : List Int) (fl : Bool) (listed : Array Bool) (a : Act) (w : World) : Prop where
  dk : ∃ v, Nw w0 w p v (if listed.getD iA false = true then d1 else d0) ∧ (fl = true → listed.getD iL false = true → listed.getD iM false = false → ∃ g c, a.eval (.tmp sL) = .slice (some ⟨g, 0, none⟩) L.length c ∧ Sl w (.slice (some ⟨g, 0, none⟩) L.length c) L ∧ g ∉ dfp p v ∧ w0.heap.size ≤ g)
  sz : sB < a.tmps.size ∧ sL < a.tmps.size ∧ sM < a.tmps.size
  cl : listed.getD iB false = true → listed.getD iC false = false → Sl w (a.eval (.tmp sB)) B
  lt : fl = true → listed.getD iM false = true → listed.getD iA false = false → Sl w (a.eval (.tmp sM)) L
section
variable {w0 : World} {p : Nat} {d0 d1 : Dk} {iA iB iC sB iL iM sL sM : Nat} {B L : List Int} {fl : Bool} {listed : Array Bool} {a : Act} {w w' : World}
theorem GD.kp (h : GD w0 p d0 d1 iA iB iC sB iL iM sL sM B L fl listed a w) : Kp [] w0 w := by obtain ⟨v, h1, _⟩ := h.dk; exact h1.kp
theorem GD.at0 (h : GD w0 p d0 d1 iA iB iC sB iL iM sL sM B L fl listed a w) (hA : listed.getD iA false = false) : ∃ v, Nw w0 w p v d0 := by
  obtain ⟨v, h1, _⟩ := h.dk
  rw [if_neg (by rw [hA]; decide)] at h1
  exact ⟨v, h1⟩
theorem GD.at1 (h : GD w0 p d0 d1 iA iB iC sB iL iM sL sM B L fl listed a w) (hA : listed.getD iA false = true) : ∃ v, Nw w0 w p v d1 := by
  obtain ⟨v, h1, _⟩ := h.dk
  rw [if_pos hA] at h1
  exact ⟨v, h1⟩
theorem put_size (a : Act) (d : Tmp) (v : Value) : (a.put (some d) v).tmps.size = a.tmps.size := by simp [Act.put]
theorem GD.start {v : Value} {n : Nat} (h : Nw w0 w p v d0) (hs : sB < a.tmps.size ∧ sL < a.tmps.size ∧ sM < a.tmps.size) : GD w0 p d0 d1 iA iB iC sB iL iM sL sM B L fl (Array.replicate n false) a w := by
  have hf : ∀ i, (Array.replicate n false).getD i false = false := fun i => by
    rw [Array.getD_eq_getD_getElem?]
    by_cases hi : i < n <;> simp [hi]
  exact ⟨⟨v, by rw [if_neg (by rw [hf]; decide)]; exact h, fun _ e => by rw [hf] at e; cases e⟩, hs, (fun e => by rw [hf] at e; cases e), fun _ e => by rw [hf] at e; cases e⟩
theorem eval_put_other {a : Act} {d t : Tmp} {v : Value} (h : d ≠ t) : (a.put (some d) v).eval (.tmp t) = a.eval (.tmp t) := eval_put_ne h
theorem GD.free (h : GD w0 p d0 d1 iA iB iC sB iL iM sL sM B L fl listed a w) (k : Nat) (hk : k ≠ iA ∧ k ≠ iB ∧ k ≠ iL ∧ k ≠ iM) (d : Tmp) (hd : d ≠ sB ∧ d ≠ sL ∧ d ≠ sM) (v : Value) (K : Kp [] w w') : GD w0 p d0 d1 iA iB iC sB iL iM sL sM B L fl (listed.setIfInBounds k true) (a.put (some d) v) w' := by
  obtain ⟨x, h1, h2⟩ := h.dk
  refine ⟨⟨x, ?_, fun e0 e1 e2 => ?_⟩, by rw [put_size]; exact h.sz, fun e1 e2 => ?_, fun e0 e1 e2 => ?_⟩
  · rw [getD_set_neM hk.1]; exact h1.on K
  · rw [getD_set_neM hk.2.2.1] at e1
    rw [getD_set_neM hk.2.2.2] at e2
    obtain ⟨g, c, q1, q2, q3, q4⟩ := h2 e0 e1 e2
    exact ⟨g, c, by rw [eval_put_other hd.2.1]; exact q1, q2.kept K (by simp), q3, q4⟩
  · rw [getD_set_neM hk.2.1] at e1
    rw [eval_put_other hd.1]
    exact (h.cl e1 (getD_set_back e2)).kept K (by simp)
  · rw [getD_set_neM hk.2.2.2] at e1
    rw [getD_set_neM hk.1] at e2
    rw [eval_put_other hd.2.2]
    exact (h.lt e0 e1 e2).kept K (by simp)
/-- a call of a Go function inside such a region. -/
theorem wantsG_callW {K : World → World → Prop} {G : Act → World → Prop} {P : Program} {ops : Array Oper} {o : Oper} {a : Act} {w : World} {R : Tell} (hw : Region.wanted o (yielded ops a.tmps) = true) {f : FuncId} {fn : Func} {xs : Array Operand} {ats : Array TypeId} (ho : o.op = .call { callee := .value (.func f), args := xs, argTypes := ats }) (hf : P.funcs[f]? = some fn) (hn : (fn.name == "runtime.NumGoroutine") = false) (hb : fn.body.isNone = false)
    (h : Calls P f (xs.map a.eval) w fun e w' => ∃ v, e = .returned v ∧ (K w w' ∧ G (a.put o.dst v) w') ∧ R v w') : wantsG K G P ops o a w R := by
  unfold wantsG
  rw [if_pos hw]
  have e : (execOp a.eval o).run P w = .ok (.enter f (xs.map a.eval)) w := by
    obtain ⟨dst, op, ty, pos, after, guard⟩ := o
    simp only at ho
    subst ho
    rw [execOp_call_go]
    have h1 : fn.name ≠ "runtime.NumGoroutine" := by simpa using hn
    have h2 : ¬ fn.body = none := by intro h2; rw [h2] at hb; cases hb
    simp [callFunc, hf, h1, h2]
  rw [e]
  exact h
theorem GD.append {ops : Array Oper} {o : Oper} (h : GD w0 p d0 d1 iA iB iC sB iL iM sL sM B L fl listed a w) (hnA : listed.getD iA false = false) (hsz : iA < listed.size) (hC : listed.getD iB false = true → listed.getD iC false = true) (hM : fl = true → listed.getD iL false = true → listed.getD iM false = true) (hi : iA ≠ iB ∧ iA ≠ iC ∧ iA ≠ iL ∧ iA ≠ iM)
    (hw : Region.wanted o (yielded ops a.tmps) = true) (x y : Operand) {ats : Array TypeId} (ho : o.op = .call { callee := .value (.func 32), args := #[x, y], argTypes := ats }) (d : Tmp) (hdst : o.dst = some d) (hd : d ≠ sB ∧ d ≠ sL ∧ d ≠ sM) (hx : a.eval x = .pointer (some ⟨p, 0, none⟩)) {b : List Int} (hS : Sl w (a.eval y) b) (hB : Bs b) (er : Bool) (he : d0.app b = (er, d1)) (en : Int) (hn : en = if er then 0 else 13) :
    wantsG KT (GD w0 p d0 d1 iA iB iC sB iL iM sL sM B L fl (listed.setIfInBounds iA true)) Try.prog ops o a w (Is (.int .i64 en)) := by
  obtain ⟨v, N⟩ := h.at0 hnA
  refine wantsG_callW hw ho Try.func32 (by kernel_rfl) (by kernel_rfl) ?_
  simp only [List.map_toArray, List.map_cons, List.map_nil, hx]
  refine (nw_append N hS hB er he en hn).mono ?_
  rintro e w' ⟨rfl, v', N', T'⟩
  refine ⟨_, rfl, ⟨trivial, ?_⟩, rfl⟩
  rw [hdst]
  refine ⟨⟨v', by rw [if_pos (getD_set_selfM iA hsz)]; exact N', fun e0 e1 e2 => ?_⟩, by rw [put_size]; exact h.sz, fun e1 e2 => ?_, fun e0 e1 e2 => ?_⟩
  · rw [getD_set_neM hi.2.2.1] at e1
    rw [getD_set_neM hi.2.2.2] at e2
    rw [hM e0 e1] at e2; cases e2
  · rw [getD_set_neM hi.1] at e1
    rw [getD_set_neM hi.2.1] at e2
    rw [hC e1] at e2; cases e2
  · rw [getD_set_selfM iA hsz] at e2; cases e2
theorem GD.bytes {ops : Array Oper} {o : Oper} (h : GD w0 p d0 d1 iA iB iC sB iL iM sL sM B L fl listed a w) (dd : Dk) (hdd : ∃ v, Nw w0 w p v dd) (hBs : dd.bs = B) (hi : iB ≠ iA ∧ iB ≠ iL ∧ iB ≠ iM) (hs : sB ≠ sL ∧ sB ≠ sM)
    (hw : Region.wanted o (yielded ops a.tmps) = true) (x : Operand) {ats : Array TypeId} (ho : o.op = .call { callee := .value (.func 25), args := #[x], argTypes := ats }) (hdst : o.dst = some sB) (hx : a.eval x = .pointer (some ⟨p, 0, none⟩)) :
    wantsG KT (GD w0 p d0 d1 iA iB iC sB iL iM sL sM B L fl (listed.setIfInBounds iB true)) Try.prog ops o a w AnyT := by
  obtain ⟨v, N⟩ := hdd
  refine wantsG_callW hw ho Try.func25 (by kernel_rfl) (by kernel_rfl) ?_
  simp only [List.map_toArray, List.map_cons, List.map_nil, hx]
  refine (dbytes_any p v dd w0.heap.size w N.dk).mono ?_
  rintro e w' ⟨ao, m, c, rfl, R, K⟩
  refine ⟨_, rfl, ⟨trivial, ?_⟩, trivial⟩
  rw [hdst]
  obtain ⟨x, h1, h2⟩ := h.dk
  refine ⟨⟨x, ?_, fun e0 e1 e2 => ?_⟩, by rw [put_size]; exact h.sz, fun e1 e2 => ?_, fun e0 e1 e2 => ?_⟩
  · rw [getD_set_neM hi.1]; exact h1.on K
  · rw [getD_set_neM hi.2.1] at e1
    rw [getD_set_neM hi.2.2] at e2
    obtain ⟨g, c, q1, q2, q3, q4⟩ := h2 e0 e1 e2
    exact ⟨g, c, by rw [eval_put_other hs.1]; exact q1, q2.kept K (by simp), q3, q4⟩
  · rw [eval_put_same h.sz.1, ← hBs]; exact R.sl
  · rw [getD_set_neM hi.2.2] at e1
    rw [getD_set_neM hi.1] at e2
    rw [eval_put_other hs.2]
    exact (h.lt e0 e1 e2).kept K (by simp)
theorem GD.lit {ops : Array Oper} {o : Oper} (h : GD w0 p d0 d1 iA iB iC sB iL iM sL sM B L fl listed a w) (hi : iL ≠ iA ∧ iL ≠ iB ∧ iL ≠ iM) (hs : sL ≠ sB ∧ sL ≠ sM) (hm : L.length ≤ 1000) (hM : listed.getD iM false = false)
    (hw : Region.wanted o (yielded ops a.tmps) = true) (hdst : o.dst = some sL) (ho : (execOp a.eval o).run Try.prog w = .ok (.value (.slice (some ⟨w.heap.size, 0, none⟩) L.length L.length)) (w.alloc (.cells (L.map (Value.int .u8)).toArray 5))) :
    wantsG KT (GD w0 p d0 d1 iA iB iC sB iL iM sL sM B L fl (listed.setIfInBounds iL true)) Try.prog ops o a w AnyT := by
  unfold wantsG
  rw [if_pos hw, ho]
  refine ⟨⟨trivial, ?_⟩, trivial⟩
  rw [hdst]
  have K := (Kp.refl [] w).alloc (.cells (L.map (Value.int .u8)).toArray 5)
  obtain ⟨x, h1, h2⟩ := h.dk
  refine ⟨⟨x, ?_, fun e0 e1 e2 => ?_⟩, by rw [put_size]; exact h.sz, fun e1 e2 => ?_, fun e0 e1 e2 => ?_⟩
  · rw [getD_set_neM hi.1]; exact h1.on K
  · refine ⟨w.heap.size, L.length, by rw [eval_put_same h.sz.2.1], lit_sl w L L.length (0, 0) rfl hm, fun hmm => ?_, h1.kp.size⟩
    have := h1.dk.lt _ hmm; omega
  · rw [getD_set_neM hi.2.1] at e1
    rw [eval_put_other hs.1]
    exact (h.cl e1 (getD_set_back e2)).kept K (by simp)
  · rw [getD_set_neM hi.2.2] at e1
    rw [hM] at e1; cases e1
theorem GD.mark {ops : Array Oper} {o : Oper} (h : GD w0 p d0 d1 iA iB iC sB iL iM sL sM B L fl listed a w) (hi : iM ≠ iA ∧ iM ≠ iB ∧ iM ≠ iL) (hs : sM ≠ sB ∧ sM ≠ sL) (hL : listed.getD iL false = true) (hM : listed.getD iM false = false) (hsz : iM < listed.size) (hf : fl = true)
    (hw : Region.wanted o (yielded ops a.tmps) = true) (hdst : o.dst = some sM) (ho : o.op = .convert 22 22 (.tmp sL)) :
    wantsG KT (GD w0 p d0 d1 iA iB iC sB iL iM sL sM B L fl (listed.setIfInBounds iM true)) Try.prog ops o a w AnyT := by
  obtain ⟨x, h1, h2⟩ := h.dk
  obtain ⟨g, c, q1, q2, q3, q4⟩ := h2 hf hL hM
  obtain ⟨w', hr, k1, k2⟩ := run_convert_lig w ⟨g, 0, none⟩ L.length c
  have e : (execOp a.eval o).run Try.prog w = .ok (.value (.slice (some ⟨g, 0, none⟩) L.length c)) w' := by
    unfold execOp
    simp only [ho, q1, Sem.run_bind, hr, Result.andThen_ok, Sem.run_pure]
  unfold wantsG
  rw [if_pos hw, e]
  refine ⟨⟨trivial, ?_⟩, trivial⟩
  rw [hdst]
  refine ⟨⟨x, ?_, fun e0 e1 e2 => ?_⟩, by rw [put_size]; exact h.sz, fun e1 e2 => ?_, fun e0 e1 e2 => ?_⟩
  · rw [getD_set_neM hi.1]
    exact ⟨h1.dk.kept k2 (fun i hi hm => q3 (by have e : i = g := by { simpa using hm }; rw [← e]; exact hi)), h1.new, h1.kp.then k2 (fun i hi => .inr (by have e : i = g := by { simpa using hi }; omega)), h1.arm⟩
  · rw [getD_set_selfM iM hsz] at e2; cases e2
  · rw [getD_set_neM hi.2.1] at e1
    rw [eval_put_other hs.1]
    exact (h.cl e1 (getD_set_back e2)).kc k1
  · rw [eval_put_same h.sz.2.2]
    exact q2.kc k1
end
theorem sizeAt_any (p n : Nat) (w : World) (h : ∃ base v d, DskP w base p v d ∧ d.bs.length = n) :
    Calls Try.prog 15 #[.pointer (some ⟨p, 0, none⟩)] w fun e w' => e = .returned (.int .i64 (n : Nat)) ∧ w' = w := by
  obtain ⟨base, v, d, h1, h2⟩ := h
  exact sizen_any p v d base w h1 n h2
theorem bs_lit2 (l : List Int) (h : l.all (fun b => decide (0 ≤ b) && decide (b ≤ 255)) = true) : Bs l := fun b hb => by
  have := List.all_eq_true.1 h b hb
  simpa using this
end Go.Proofs.Ytmpjgbckehnkjaa
