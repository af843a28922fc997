/-
  The contracts of the reference writer's Num and Bytes over this seat's program: what is put behind a row of bytes that the call owns.
-/
import Derived.Test.YthpekclkclpbpaaFew
namespace Go.Proofs.Ythpekclkclpbpaa
open Go.RowKit

/-- One step of a row of bytes that the call owns. -/
def RStep (w : World) (v : Value) (w' : World) (v' : Value) : Prop :=
  Kp v.ownBlock.toList w w' ∧ ∀ k, v'.ownBlock = some k → v.ownBlock = some k ∨ w.heap.size ≤ k
theorem RStep.refl (w : World) (v : Value) : RStep w v w v := ⟨Kp.refl _ _, fun _ h => .inl h⟩
theorem RStep.trans {a b c : World} {u v x : Value} (h : RStep a u b v) (k : RStep b v c x) : RStep a u c x := by
  refine ⟨h.1.then k.1 (fun i hi => ?_), fun i hi => ?_⟩
  · simp only [Option.mem_toList] at hi ⊢
    exact h.2 i hi
  · rcases k.2 i hi with h1 | h1
    · exact h.2 i h1
    · exact .inr (Nat.le_trans h.1.size h1)
/-- The row v of the bytes bs, of the call's own from base on. -/
def Row (w : World) (base : Nat) (v : Value) (bs : List Int) : Prop := w.ownsRow base 5 1 v bs.length (bs.map (Value.int .u8))
theorem Row.shape {w : World} {base : Nat} {v : Value} {bs : List Int} (h : Row w base v bs) : ∃ ao c, v = .slice ao bs.length c := owns_shape h
theorem Row.sl {w : World} {base : Nat} {v : Value} {bs : List Int} (h : Row w base v bs) : Sl w v bs := Sl.of_owns h
theorem row_step {w w0 w1 : World} {base : Nat} {v v' : Value} {bs new : List Int} (h0 : Kp [] w w0)
    (hown : w1.ownsRow base 5 1 v' (bs.length + new.length) (bs.map (Value.int .u8) ++ new.map (Value.int .u8))) (hgrow : w0.grownBy w1 v.ownBlock) (hat : v'.ownBlock = v.ownBlock ∨ v'.ownBlock = some w0.heap.size) :
    Row w1 base v' (bs ++ new) ∧ RStep w v w1 v' := by
  refine ⟨by unfold Row; simpa using hown, (h0.mono (by simp)).grown hgrow (fun k hk => .inl (by simp [hk])), fun k hk => ?_⟩
  rcases hat with e | e
  · exact .inl (e ▸ hk)
  · rw [e] at hk; cases hk; exact .inr h0.size

theorem be_4 (n : Int) : be n 4 0 = [n / 16777216 % 256, n / 65536 % 256, n / 256 % 256, n % 256] := by simp [be, byteAt, List.range_succ]

theorem Row.len {w : World} {base m c : Nat} {ao : Option Addr} {bs : List Int} (h : Row w base (.slice ao m c) bs) : m = bs.length := by
  obtain ⟨_, _, e⟩ := h.shape; cases e; rfl

/-- append of bytes, whatever slice they come in, onto a row of the call's own. -/
theorem wpList_append_row {w : World} {ops : Array Oper} {rest : List Oper} {o : Oper} {a : Act} {Q : Exit → Act → World → Prop} (hgd : o.guard = none) (s x : Operand)
    (ho : o.op = .call { callee := .builtin .append, args := #[s, x], argTypes := #[25, 25] }) (base : Nat) (v : Value) (bs : List Int) (hs : a.eval s = v) (hrow : Row w base v bs)
    (vx : Value) (cs : List Int) (hx : a.eval x = vx) (hS : Sl w vx cs) (hb : bs.length + cs.length ≤ 140737488355328) (hbase : base ≤ w.heap.size)
    (h : ∀ ao m c w', Row w' base (.slice ao m c) (bs ++ cs) → RStep w v w' (.slice ao m c) → wpList Try.prog ops Q rest (a.put o.dst (.slice ao m c)) w') : wpList Try.prog ops Q (o :: rest) a w := by
  obtain ⟨i0, hi0, hz0, hz1, hz2⟩ := info_parts Try.info5
  obtain ⟨av, cv, rfl⟩ := hrow.shape
  obtain ⟨ax, cx, rfl, h1, h2, h3, h4⟩ := hS
  cases ax with
  | none =>
    have : cs = [] := List.eq_nil_of_length_eq_zero (by have := h3 rfl; omega)
    subst this
    obtain rfl := h3 rfl
    refine wpList_append_own_none hgd s x 25 ho base 5 i0 1 Try.underlying25 hi0 _ _ _ hs hrow hx ?_
    have := h av bs.length cv w
    simp only [List.append_nil] at this
    exact this hrow (RStep.refl _ _)
  | some a' =>
    refine wpList_append_own_at w hgd s x 25 ho base 5 i0 (.int .u8 0) 1 1 Try.underlying25 hi0 hz0 hz1 hz2 rfl (by decide) _ bs.length (bs.map (Value.int .u8)) hs hrow a' cs.length cx (cs.map (Value.int .u8)) hx (by simp) (h4 a' rfl) (by simp [Value.oneCell']) (by unfold maxLen; omega) (by omega) hbase ?_
    intro v' w1 hown1 hgrow _ hat
    have R := row_step (new := cs) (Kp.refl [] w) hown1 hgrow hat
    obtain ⟨ao', c', hv⟩ := R.1.shape
    subst hv
    exact h ao' _ c' w1 R.1 R.2
theorem Row.kept {w w' : World} {base : Nat} {v : Value} {bs : List Int} {S : List Nat} (h : Row w base v bs) (k : Kp S w w') (hv : ∀ i, v.ownBlock = some i → i ∉ S) : Row w' base v bs := k.owns h hv
theorem RStep.after {w w0 w1 : World} {v v' : Value} (h : RStep w0 v w1 v') (k : Kp [] w w0) : RStep w v w1 v' :=
  ⟨(k.mono (by simp)).trans h.1, fun i hi => (h.2 i hi).imp id (fun e => Nat.le_trans k.size e)⟩

set_option maxHeartbeats 400000 in
theorem refnum_any (v : Value) (bs : List Int) (n : Int) (base : Nat) (w : World) (h : Row w base v bs) (hbase : base ≤ w.heap.size) (hb : bs.length ≤ 100000000000) :
    Calls Try.prog 36 #[v, .int .u32 n] w fun e w' => ∃ ao m c, e = .returned (.slice ao m c) ∧ Row w' base (.slice ao m c) (bs ++ be n 4 0) ∧ RStep w v w' (.slice ao m c) := by
  rw [be_4]
  obtain ⟨cs, hcs⟩ : ∃ cs, cs = [n / 16777216 % 256, n / 65536 % 256, n / 256 % 256, n % 256] := ⟨_, rfl⟩
  have hl : cs.length = 4 := by rw [hcs]; rfl
  have hsl : Sl (w.alloc (.cells #[.int .u8 (n / 16777216 % 256), .int .u8 (n / 65536 % 256), .int .u8 (n / 256 % 256), .int .u8 (n % 256)] 5)) (.slice (some ⟨w.heap.size, 0, none⟩) 4 4) cs := by
    rw [hcs]; exact Sl.block (cs := [n / 16777216 % 256, n / 65536 % 256, n / 256 % 256, n % 256]) (t := 5) (heap_alloc_new w _) (by simp [maxLen])
  rw [← hcs]
  clear hcs
  go_enter Try.func36, Try.ntmps36
  go_wp2_with (at_builtin; refine wpList_append_row rfl _ _ rfl base v bs rfl (h.kept ((Kp.refl [] w).alloc _) (by simp)) _ cs rfl hsl (by omega) (by simp; omega) ?_; intro ao m c w1 r1 s1)
  go_ret
  exact ⟨ao, m, c, rfl, r1, s1.after ((Kp.refl [] w).alloc _)⟩

set_option maxHeartbeats 400000 in
theorem refbytes_any (v : Value) (bs : List Int) (vx : Value) (cs : List Int) (base : Nat) (w : World) (h : Row w base v bs) (hbase : base ≤ w.heap.size) (hb : bs.length + cs.length ≤ 100000000000) (hS : Sl w vx cs) (hk : ∀ w1, Kp v.ownBlock.toList w w1 → Sl w1 vx cs) :
    Calls Try.prog 28 #[v, vx] w fun e w' => ∃ ao m c, e = .returned (.slice ao m c) ∧ Row w' base (.slice ao m c) (bs ++ be cs.length 2 0 ++ cs) ∧ RStep w v w' (.slice ao m c) := by
  obtain ⟨ax, cx, rfl, hx1, hx2, hx3, _⟩ := hS
  have HK := hide hk
  clear hk
  rw [be_two]
  obtain ⟨ds, hds⟩ : ∃ ds, ds = [(cs.length : Int) / 256 % 256, (cs.length : Int) % 256] := ⟨_, rfl⟩
  have hl : ds.length = 2 := by rw [hds]; rfl
  have hsl : Sl (w.alloc (.cells #[.int .u8 ((cs.length : Int) / 256 % 256), .int .u8 ((cs.length : Int) % 256)] 5)) (.slice (some ⟨w.heap.size, 0, none⟩) 2 2) ds := by
    rw [hds]; exact Sl.block (cs := [(cs.length : Int) / 256 % 256, (cs.length : Int) % 256]) (t := 5) (heap_alloc_new w _) (by simp [maxLen])
  rw [← hds]
  clear hds
  go_enter Try.func28, Try.ntmps28
  go_wp2_with (first | (at_builtin; refine wpList_append_row rfl (.tmp 5) (.tmp 13) rfl base v bs rfl (h.kept ((Kp.refl [] w).alloc _) (by simp)) _ ds rfl hsl (by omega) (by simp; omega) ?_; intro ao m c w1 r1 s1; have s1' := s1.after ((Kp.refl [] w).alloc _); have hsx := unhide HK _ s1'.1) | (at_builtin; refine wpList_append_row rfl (.tmp 14) (.tmp 15) rfl base _ _ rfl r1 _ cs rfl hsx (by rw [List.length_append]; omega) (by have := s1'.1.size; omega) ?_; intro ao2 m2 c2 w2 r2 s2))
  go_ret
  exact ⟨ao2, m2, c2, rfl, r2, s1'.trans s2⟩
end Go.Proofs.Ythpekclkclpbpaa
