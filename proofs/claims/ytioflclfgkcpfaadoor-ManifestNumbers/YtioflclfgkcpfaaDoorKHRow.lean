/-
  Rows of bytes that a call owns; append from whatever slice onto such a row.
-/
import Derived.Test.YtioflclfgkcpfaaDoorKHAll
import Derived.Maps.AppendAt
namespace Go.Proofs.YtioflclfgkcpfaaDoor
open Go.RowKit

theorem Tryd.info5 : (Tryd.prog.info? 5).map (fun i => (i.zero, i.size, i.bytes)) = some (some (.int .u8 0), 1, 1) := by kernel_rfl
theorem owns_shape {w : World} {base : Nat} {e : TypeId} {v : Value} {n : Nat} {xs : List Value} (h : w.ownsRow base e 1 v n xs) : ∃ ao c, v = .slice ao n c := by
  rcases h.2 with ⟨rfl, rfl⟩ | ⟨g, cap, cur, rfl, _⟩
  · exact ⟨_, _, rfl⟩
  · exact ⟨_, _, rfl⟩


theorem Sl.block {w : World} {b : Nat} {cs : List Int} {t : TypeId} {fr : Nat × Nat} (hb : w.heap[b]? = some (.cells (cs.map (Value.int .u8)).toArray t fr)) (hm : cs.length ≤ maxLen) : Sl w (.slice (some ⟨b, 0, none⟩) cs.length cs.length) cs := by
  refine ⟨some ⟨b, 0, none⟩, cs.length, rfl, Nat.le_refl _, hm, (fun h => by cases h), fun a ha j u hu => ?_⟩
  cases ha
  exact World.news_of_block hb j u (by simpa using hu)

/-- One step of a row of bytes that the call owns. -/
def RStep (w : World) (v : Value) (w' : World) (v' : Value) : Prop :=
  Kp v.ownBlock.toList w w' ∧ ∀ k, v'.ownBlock = some k → v.ownBlock = some k ∨ w.heap.size ≤ k
theorem RStep.refl (w : World) (v : Value) : RStep w v w v := ⟨Kp.refl _ _, fun _ h => .inl h⟩
theorem RStep.trans {a b c : World} {u v x : Value} (h : RStep a u b v) (k : RStep b v c x) : RStep a u c x := by
  refine ⟨h.1.then k.1 (fun i hi => ?_), fun i hi => ?_⟩
  · simp only [Option.mem_toList] at hi ⊢
    exact h.2 i hi
  · rcases k.2 i hi with h1 | h1
    · exact h.2 i h1
    · exact .inr (Nat.le_trans h.1.size h1)
/-- The row v of the bytes bs, of the call's own from base on. -/
def Row (w : World) (base : Nat) (v : Value) (bs : List Int) : Prop := w.ownsRow base 5 1 v bs.length (bs.map (Value.int .u8))
theorem Row.shape {w : World} {base : Nat} {v : Value} {bs : List Int} (h : Row w base v bs) : ∃ ao c, v = .slice ao bs.length c := owns_shape h
theorem Row.sl {w : World} {base : Nat} {v : Value} {bs : List Int} (h : Row w base v bs) : Sl w v bs := Sl.of_owns h
theorem row_step {w w0 w1 : World} {base : Nat} {v v' : Value} {bs new : List Int} (h0 : Kp [] w w0)
    (hown : w1.ownsRow base 5 1 v' (bs.length + new.length) (bs.map (Value.int .u8) ++ new.map (Value.int .u8))) (hgrow : w0.grownBy w1 v.ownBlock) (hat : v'.ownBlock = v.ownBlock ∨ v'.ownBlock = some w0.heap.size) :
    Row w1 base v' (bs ++ new) ∧ RStep w v w1 v' := by
  refine ⟨by unfold Row; simpa using hown, (h0.mono (by simp)).grown hgrow (fun k hk => .inl (by simp [hk])), fun k hk => ?_⟩
  rcases hat with e | e
  · exact .inl (e ▸ hk)
  · rw [e] at hk; cases hk; exact .inr h0.size

theorem Row.len {w : World} {base m c : Nat} {ao : Option Addr} {bs : List Int} (h : Row w base (.slice ao m c) bs) : m = bs.length := by
  obtain ⟨_, _, e⟩ := h.shape; cases e; rfl

/-- append of bytes, whatever slice they come in, onto a row of the call's own. -/
theorem wpList_append_row {w : World} {ops : Array Oper} {rest : List Oper} {o : Oper} {a : Act} {Q : Exit → Act → World → Prop} (hgd : o.guard = none) (s x : Operand)
    (ho : o.op = .call { callee := .builtin .append, args := #[s, x], argTypes := #[23, 23] }) (base : Nat) (v : Value) (bs : List Int) (hs : a.eval s = v) (hrow : Row w base v bs)
    (vx : Value) (cs : List Int) (hx : a.eval x = vx) (hS : Sl w vx cs) (hb : bs.length + cs.length ≤ 140737488355328) (hbase : base ≤ w.heap.size)
    (h : ∀ ao m c w', Row w' base (.slice ao m c) (bs ++ cs) → RStep w v w' (.slice ao m c) → wpList Tryd.prog ops Q rest (a.put o.dst (.slice ao m c)) w') : wpList Tryd.prog ops Q (o :: rest) a w := by
  obtain ⟨i0, hi0, hz0, hz1, hz2⟩ := info_parts Tryd.info5
  obtain ⟨av, cv, rfl⟩ := hrow.shape
  obtain ⟨ax, cx, rfl, h1, h2, h3, h4⟩ := hS
  cases ax with
  | none =>
    have : cs = [] := List.eq_nil_of_length_eq_zero (by have := h3 rfl; omega)
    subst this
    obtain rfl := h3 rfl
    refine wpList_append_own_none hgd s x 23 ho base 5 i0 1 Tryd.underlying23 hi0 _ _ _ hs hrow hx ?_
    have := h av bs.length cv w
    simp only [List.append_nil] at this
    exact this hrow (RStep.refl _ _)
  | some a' =>
    refine wpList_append_own_at w hgd s x 23 ho base 5 i0 (.int .u8 0) 1 1 Tryd.underlying23 hi0 hz0 hz1 hz2 rfl (by decide) _ bs.length (bs.map (Value.int .u8)) hs hrow a' cs.length cx (cs.map (Value.int .u8)) hx (by simp) (h4 a' rfl) (by simp [Value.oneCell']) (by unfold maxLen; omega) (by omega) hbase ?_
    intro v' w1 hown1 hgrow _ hat
    have R := row_step (new := cs) (Kp.refl [] w) hown1 hgrow hat
    obtain ⟨ao', c', hv⟩ := R.1.shape
    subst hv
    exact h ao' _ c' w1 R.1 R.2
theorem Row.kept {w w' : World} {base : Nat} {v : Value} {bs : List Int} {S : List Nat} (h : Row w base v bs) (k : Kp S w w') (hv : ∀ i, v.ownBlock = some i → i ∉ S) : Row w' base v bs := k.owns h hv
theorem RStep.after {w w0 w1 : World} {v v' : Value} (h : RStep w0 v w1 v') (k : Kp [] w w0) : RStep w v w1 v' :=
  ⟨(k.mono (by simp)).trans h.1, fun i hi => (h.2 i hi).imp id (fun e => Nat.le_trans k.size e)⟩

end Go.Proofs.YtioflclfgkcpfaaDoor
