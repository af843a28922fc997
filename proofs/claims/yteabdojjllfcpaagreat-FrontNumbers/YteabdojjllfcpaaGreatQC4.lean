/-
  A region that draws its order, whose operations only read but for the last, which all others come ahead of: one walk serves.
-/
import Derived.BigQuiet
import Derived.StillTailTactics
import Derived.Test.YteabdojjllfcpaaGreatQC2
namespace Go.Proofs.YteabdojjllfcpaaGreat
open Go.RowKit
theorem still_of_quiet {P : Program} {ops : Array Oper} {w : World} {Q : Act → Prop} : ∀ (l : List Oper) (a : Act), wpQuiet P ops (fun w' => w' = w) Q l a → wpStill P ops w Q l a
  | [], _, h => h
  | o :: rest, a, h => by
    simp only [wpQuiet] at h
    simp only [wpStill]
    split
    · rename_i hw
      rw [if_pos hw] at h
      obtain ⟨v, h1, h2⟩ := h
      have h3 := h1 w rfl
      unfold Oper.quietAt at h3
      unfold Oper.still
      generalize (execOp a.eval o).run P w = r at *
      cases r with
      | ok n w' =>
        cases n <;> simp only [Oper.quietUpon] at h3 <;> simp only [Oper.stillUpon]
        case value u => obtain ⟨e1, e2⟩ := h3; subst e1; subst e2; exact ⟨rfl, still_of_quiet rest _ h2⟩
        case skip => obtain ⟨e1, e2⟩ := h3; subst e1; rw [e2] at h2; exact ⟨rfl, still_of_quiet rest _ h2⟩
        case enter f args => obtain ⟨e1, hc⟩ := h3; exact ⟨e1, v, hc, still_of_quiet rest _ h2⟩
      | halt x w' => simp only [Oper.quietUpon] at h3
    · rename_i hw
      rw [if_neg hw] at h
      exact still_of_quiet rest _ h
theorem region_tail {P : Program} {id : Nat} {Q : Exit → Act → World → Prop} {a : Act} {w : World} {l : List Oper} (n : Nat) (hm : P.follows .mixedOrders = true) (hB : Region.lexTailB .any l.toArray n = true)
    (h : wpQuiet P l.toArray (fun w' => w' = w.drew) (fun a' => wpList P l.toArray Q (l.drop n) a' w.drew) (l.take n) a) : (Code.region id l.toArray true).wp P Q a w :=
  wp_region_still_tail n hm hB (still_of_quiet _ _ h)
/-- all of it only reads, and no callee draws. -/
theorem region_read {P : Program} {id : Nat} {Q : Exit → Act → World → Prop} {a : Act} {w : World} {l : List Oper} (hm : P.follows .mixedOrders = true) (hB : Region.lexB .any l.toArray = true)
    (h : wpQuiet P l.toArray (fun w' => w' = w.drew) (fun a' => Q .normal a' w.drew) l a) : (Code.region id l.toArray true).wp P Q a w :=
  wp_region_still_lit hm hB (still_of_quiet _ _ h)
theorem Tryz.mixed : Tryz.prog.follows .mixedOrders = true := by kernel_rfl
theorem Sl.at {w : World} {vb : Value} {bs : List Int} {n : Nat} (h : Sl w vb bs) (hl : bs.length = n) (hn : 0 < n) : ∃ a c, vb = .slice (some a) n c ∧ n ≤ c ∧ c ≤ maxLen ∧ ∀ j, j < n → w.cell? (a.add j) = some (.int .u8 (bs.getD j 0)) := by
  obtain ⟨ab, cb, rfl, h1, h2, h3, h4⟩ := h
  cases ab with
  | none => have := h3 rfl; omega
  | some a => exact ⟨a, cb, by rw [hl], by omega, h2, fun j hj => h4 a rfl j _ (by simp [List.getElem?_eq_getElem (show j < bs.length by omega)])⟩
theorem Bs.at {bs : List Int} (h : Bs bs) (i : Nat) : 0 ≤ bs.getD i 0 ∧ bs.getD i 0 ≤ 255 := by
  rcases Nat.lt_or_ge i bs.length with hi | hi
  · rw [List.getD_eq_getElem?_getD, List.getElem?_eq_getElem hi]; exact h _ (List.getElem_mem hi)
  · rw [List.getD_eq_getElem?_getD, List.getElem?_eq_none hi]; simp
theorem kp_drew (w : World) : Kp [] w w.drew := ⟨rfl, rfl, rfl, Nat.le_refl _, fun _ _ _ => rfl⟩
theorem sch_len (bs : List Int) (n : Nat) : (sch bs n).length = n := by
  induction n with
  | zero => rfl
  | succ n ih => simp [sch, ih]
end Go.Proofs.YteabdojjllfcpaaGreat

/-
  The contract of the program's schedule: the words of a block.
-/
namespace Go.Proofs.YteabdojjllfcpaaGreat
open Go.RowKit
theorem sch_set (bs : List Int) (k : Nat) (hk : k < 64) (x : Int) (hx : sch bs (k + 1) = sch bs k ++ [x]) : (sch bs k ++ List.replicate (64 - k) 0).set k x = sch bs (k + 1) ++ List.replicate (64 - (k + 1)) 0 := by
  have h := sch_len bs k
  rw [hx, List.set_append_right _ _ (by omega), h, Nat.sub_self, show 64 - k = (64 - (k + 1)) + 1 by omega, List.replicate_succ, List.set_cons_zero, List.append_assoc]
  rfl
theorem ad4 (a b c d : Int) : ad (ad (ad a b) c) d = (a + b + c + d) % 4294967296 := by unfold ad; omega
end Go.Proofs.YteabdojjllfcpaaGreat

/-
  The contract of the program's mix: one block.
-/
namespace Go.Proofs.YteabdojjllfcpaaGreat
open Go.RowKit
theorem rds_len (ws : List Int) (s : List Int) (hs : s.length = 8) : ∀ n, (rds ws s n).length = 8
  | 0 => hs
  | n + 1 => by
    have ih := rds_len ws s hs n
    simp only [rds]
    unfold rnd
    split
    · rfl
    · exact ih
theorem eight {s : List Int} (h : s.length = 8) : ∃ a b c d e f g i, s = [a, b, c, d, e, f, g, i] := by
  match s, h with
  | [a, b, c, d, e, f, g, i], _ => exact ⟨a, b, c, d, e, f, g, i, rfl⟩
theorem zip_step (tt s0 : List Int) (k : Nat) (h1 : k < tt.length) (h2 : k < s0.length) (ys : List Int) (hys : ys = List.zipWith ad (tt.take k) s0 ++ tt.drop k) :
    ys.set k (ad (ys.getD k 0) (s0.getD k 0)) = List.zipWith ad (tt.take (k + 1)) s0 ++ tt.drop (k + 1) := by
  have hz : (List.zipWith ad (tt.take k) s0).length = k := by simp; omega
  have e1 : ys.getD k 0 = tt[k] := by rw [hys, List.getD_eq_getElem?_getD, List.getElem?_append_right (by omega), hz, Nat.sub_self]; simp [List.getElem?_eq_getElem h1]
  have e2 : s0.getD k 0 = s0[k] := by simp [List.getElem?_eq_getElem h2]
  rw [e1, e2, hys, List.set_append_right _ _ (by omega), hz, Nat.sub_self, List.drop_eq_getElem_cons h1, List.set_cons_zero]
  have e3 : List.zipWith ad (tt.take (k + 1)) s0 = List.zipWith ad (tt.take k) s0 ++ [ad tt[k] s0[k]] := by
    refine List.ext_getElem (by simp; omega) (fun i hi1 hi2 => ?_)
    rcases Nat.lt_or_ge i k with hik | hik
    · rw [List.getElem_append_left (by omega)]; simp
    · have : i = k := by simp at hi1; omega
      subst this
      rw [List.getElem_append_right (by omega)]
      simp [hz]
  rw [e3, List.append_assoc]
  rfl
theorem ad5 (a b c d e : Int) : ad (ad (ad (ad a b) c) d) e = (a + b + c + d + e) % 4294967296 := by unfold ad; omega
theorem rnd_eq (a b c d e f g h k w : Int) : rnd [a, b, c, d, e, f, g, h] k w = [((h + bS1 e + chs e f g + k + w) % 4294967296 + (bS0 a + maj a b c) % 4294967296) % 4294967296, a, b, c, (d + (h + bS1 e + chs e f g + k + w) % 4294967296) % 4294967296, e, f, g] := by
  simp only [rnd, ad5]
  rfl
end Go.Proofs.YteabdojjllfcpaaGreat

/-
  The contract of the program's mixAll: all blocks of a text that has whole ones alone.
-/
namespace Go.Proofs.YteabdojjllfcpaaGreat
open Go.RowKit
theorem quiet_load_ar {o : Oper} {a : Act} {w : World} {K : Act → Prop} (ty : TypeId) (x : Operand) (ho : o.op = .load ty x) (b : Nat) (hx : a.eval x = .pointer (some ⟨b, 0, none⟩)) (t : TypeId) (s : List Int) (n : Nat) (e : TypeId) (hA : Ar w b t s)
    (hu : Tryz.prog.underlying ty = some (.array n e)) (hi : (Tryz.prog.info? ty).map (·.size) = some s.length) (h : K (a.put o.dst (ag s))) : o.quiet Tryz.prog a (fun w' => w' = w) K := by
  refine ⟨ag s, fun w' hw => ?_, h⟩
  subst hw
  unfold Oper.quietAt execOp
  simp only [ho, hx, Instr.loadAt, Instr.sureAddr, Sem.run_bind, Sem.run_pure, Result.andThen_ok, run_loadVar_row w' b t ty _ (0, 0) (.array n e) hA hu rfl (by simpa using hi), Oper.quietUpon]
  exact ⟨trivial, rfl⟩
theorem Bs.take {bs : List Int} (h : Bs bs) (n : Nat) : Bs (bs.take n) := fun b hb => h b (List.mem_of_mem_take hb)
theorem Bs.drop {bs : List Int} (h : Bs bs) (n : Nat) : Bs (bs.drop n) := fun b hb => h b (List.mem_of_mem_drop hb)
theorem blk_len (s bs : List Int) (h : s.length = 8) : (blk s bs).length = 8 := by
  unfold blk
  simp [rds_len _ _ h, h]
theorem blks_len (s bs : List Int) (h : s.length = 8) : ∀ n, (blks n s bs).length = 8
  | 0 => h
  | n + 1 => blk_len _ _ (blks_len s bs h n)
end Go.Proofs.YteabdojjllfcpaaGreat

/-
  Rows of bytes that a call owns; append from whatever slice onto such a row.
-/
namespace Go.Proofs.YteabdojjllfcpaaGreat
open Go.RowKit
theorem Tryz.info5 : (Tryz.prog.info? 5).map (fun i => (i.zero, i.size, i.bytes)) = some (some (.int .u8 0), 1, 1) := by kernel_rfl
theorem owns_shape {w : World} {base : Nat} {e : TypeId} {v : Value} {n : Nat} {xs : List Value} (h : w.ownsRow base e 1 v n xs) : ∃ ao c, v = .slice ao n c := by
  rcases h.2 with ⟨rfl, rfl⟩ | ⟨g, cap, cur, rfl, _⟩
  · exact ⟨_, _, rfl⟩
  · exact ⟨_, _, rfl⟩
theorem Sl.block {w : World} {b : Nat} {cs : List Int} {t : TypeId} {fr : Nat × Nat} (hb : w.heap[b]? = some (.cells (cs.map (Value.int .u8)).toArray t fr)) (hm : cs.length ≤ maxLen) : Sl w (.slice (some ⟨b, 0, none⟩) cs.length cs.length) cs := by
  refine ⟨some ⟨b, 0, none⟩, cs.length, rfl, Nat.le_refl _, hm, (fun h => by cases h), fun a ha j u hu => ?_⟩
  cases ha
  exact World.news_of_block hb j u (by simpa using hu)
/-- One step of a row of bytes that the call owns. -/
def RStep (w : World) (v : Value) (w' : World) (v' : Value) : Prop :=
  Kp v.ownBlock.toList w w' ∧ ∀ k, v'.ownBlock = some k → v.ownBlock = some k ∨ w.heap.size ≤ k
theorem RStep.refl (w : World) (v : Value) : RStep w v w v := ⟨Kp.refl _ _, fun _ h => .inl h⟩
theorem RStep.trans {a b c : World} {u v x : Value} (h : RStep a u b v) (k : RStep b v c x) : RStep a u c x := by
  refine ⟨h.1.then k.1 (fun i hi => ?_), fun i hi => ?_⟩
  · simp only [Option.mem_toList] at hi ⊢
    exact h.2 i hi
  · rcases k.2 i hi with h1 | h1
    · exact h.2 i h1
    · exact .inr (Nat.le_trans h.1.size h1)
/-- The row v of the bytes bs, of the call's own from base on. -/
def Row (w : World) (base : Nat) (v : Value) (bs : List Int) : Prop := w.ownsRow base 5 1 v bs.length (bs.map (Value.int .u8))
theorem Row.shape {w : World} {base : Nat} {v : Value} {bs : List Int} (h : Row w base v bs) : ∃ ao c, v = .slice ao bs.length c := owns_shape h
theorem Row.sl {w : World} {base : Nat} {v : Value} {bs : List Int} (h : Row w base v bs) : Sl w v bs := Sl.of_owns h
theorem row_step {w w0 w1 : World} {base : Nat} {v v' : Value} {bs new : List Int} (h0 : Kp [] w w0)
    (hown : w1.ownsRow base 5 1 v' (bs.length + new.length) (bs.map (Value.int .u8) ++ new.map (Value.int .u8))) (hgrow : w0.grownBy w1 v.ownBlock) (hat : v'.ownBlock = v.ownBlock ∨ v'.ownBlock = some w0.heap.size) :
    Row w1 base v' (bs ++ new) ∧ RStep w v w1 v' := by
  refine ⟨by unfold Row; simpa using hown, (h0.mono (by simp)).grown hgrow (fun k hk => .inl (by simp [hk])), fun k hk => ?_⟩
  rcases hat with e | e
  · exact .inl (e ▸ hk)
  · rw [e] at hk; cases hk; exact .inr h0.size
theorem Row.len {w : World} {base m c : Nat} {ao : Option Addr} {bs : List Int} (h : Row w base (.slice ao m c) bs) : m = bs.length := by
  obtain ⟨_, _, e⟩ := h.shape; cases e; rfl
/-- append of bytes, whatever slice they come in, onto a row of the call's own. -/
theorem wpList_append_row {w : World} {ops : Array Oper} {rest : List Oper} {o : Oper} {a : Act} {Q : Exit → Act → World → Prop} (hgd : o.guard = none) (s x : Operand)
    (ho : o.op = .call { callee := .builtin .append, args := #[s, x], argTypes := #[28, 28] }) (base : Nat) (v : Value) (bs : List Int) (hs : a.eval s = v) (hrow : Row w base v bs)
    (vx : Value) (cs : List Int) (hx : a.eval x = vx) (hS : Sl w vx cs) (hb : bs.length + cs.length ≤ 140737488355328) (hbase : base ≤ w.heap.size)
    (h : ∀ ao m c w', Row w' base (.slice ao m c) (bs ++ cs) → RStep w v w' (.slice ao m c) → wpList Tryz.prog ops Q rest (a.put o.dst (.slice ao m c)) w') : wpList Tryz.prog ops Q (o :: rest) a w := by
  obtain ⟨i0, hi0, hz0, hz1, hz2⟩ := info_parts Tryz.info5
  obtain ⟨av, cv, rfl⟩ := hrow.shape
  obtain ⟨ax, cx, rfl, h1, h2, h3, h4⟩ := hS
  cases ax with
  | none =>
    have : cs = [] := List.eq_nil_of_length_eq_zero (by have := h3 rfl; omega)
    subst this
    obtain rfl := h3 rfl
    refine wpList_append_own_none hgd s x 28 ho base 5 i0 1 Tryz.underlying28 hi0 _ _ _ hs hrow hx ?_
    have := h av bs.length cv w
    simp only [List.append_nil] at this
    exact this hrow (RStep.refl _ _)
  | some a' =>
    refine wpList_append_own_at w hgd s x 28 ho base 5 i0 (.int .u8 0) 1 1 Tryz.underlying28 hi0 hz0 hz1 hz2 rfl (by decide) _ bs.length (bs.map (Value.int .u8)) hs hrow a' cs.length cx (cs.map (Value.int .u8)) hx (by simp) (h4 a' rfl) (by simp [Value.oneCell']) (by unfold maxLen; omega) (by omega) hbase ?_
    intro v' w1 hown1 hgrow _ hat
    have R := row_step (new := cs) (Kp.refl [] w) hown1 hgrow hat
    obtain ⟨ao', c', hv⟩ := R.1.shape
    subst hv
    exact h ao' _ c' w1 R.1 R.2
theorem Row.kept {w w' : World} {base : Nat} {v : Value} {bs : List Int} {S : List Nat} (h : Row w base v bs) (k : Kp S w w') (hv : ∀ i, v.ownBlock = some i → i ∉ S) : Row w' base v bs := k.owns h hv
theorem RStep.after {w w0 w1 : World} {v v' : Value} (h : RStep w0 v w1 v') (k : Kp [] w w0) : RStep w v w1 v' :=
  ⟨(k.mono (by simp)).trans h.1, fun i hi => (h.2 i hi).imp id (fun e => Nat.le_trans k.size e)⟩
end Go.Proofs.YteabdojjllfcpaaGreat

/-
  The contracts of the program's padded, laidDown and beginning.
-/
namespace Go.Proofs.YteabdojjllfcpaaGreat
open Go.RowKit
theorem Row.own {w : World} {base : Nat} {v : Value} {bs : List Int} (h : Row w base v bs) : ∀ k, v.ownBlock = some k → base ≤ k := by
  intro k hk
  rcases h.2 with ⟨rfl, _⟩ | ⟨g, cap, cur, rfl, hb, _⟩
  · cases hk
  · cases hk; exact hb
theorem Row.step {w w1 w2 : World} {v v' : Value} {bs : List Int} (h : Row w1 w.heap.size v bs) (k : Kp [] w w1) (s : RStep w1 v w2 v') : Kp [] w w2 :=
  k.then s.1 (fun i hi => .inr (h.own i (by simpa using hi)))
/-- One byte, in a block of its own. -/
theorem one_block (w : World) (x : Int) : Sl (w.alloc (.cells #[.int .u8 x] 5)) (.slice (some ⟨w.heap.size, 0, none⟩) 1 1) [x] :=
  Sl.block (cs := [x]) (t := 5) (heap_alloc_new w _) (by simp [maxLen])
theorem be8_take (n : Int) (j : Nat) (hj : j < 8) : (be8 n).take (j + 1) = (be8 n).take j ++ [n / 2 ^ (8 * (7 - j)) % 256] := by
  match j, hj with
  | 0, _ => rfl
  | 1, _ => rfl
  | 2, _ => rfl
  | 3, _ => rfl
  | 4, _ => rfl
  | 5, _ => rfl
  | 6, _ => rfl
  | 7, _ => simp [be8]
theorem lay8_snoc (s : List Int) (k : Nat) (hk : k < s.length) : lay8 (s.take (k + 1)) = lay8 (s.take k) ++ [s.getD k 0 / 16777216 % 256, s.getD k 0 / 65536 % 256, s.getD k 0 / 256 % 256, s.getD k 0 % 256] := by
  unfold lay8
  rw [List.take_succ_eq_append_getElem hk, List.flatMap_append]
  simp [List.getElem?_eq_getElem hk]
theorem lay8_len (s : List Int) : (lay8 s).length = 4 * s.length := by
  unfold lay8
  induction s with
  | nil => rfl
  | cons a s ih => simp only [List.flatMap_cons, List.length_append, ih, List.length_cons, List.length_nil]; omega
end Go.Proofs.YteabdojjllfcpaaGreat

/-
  The contract of the program's Sum.
-/
namespace Go.Proofs.YteabdojjllfcpaaGreat
open Go.RowKit
theorem pad_len (rs : List Int) (N : Nat) (h : rs.length < 64) : (pad rs N).length = 64 * ((pad rs N).length / 64) ∧ (pad rs N).length ≤ 128 := by
  have : (pad rs N).length = rs.length + 1 + zeros rs.length + 8 := by simp [pad, be8]; omega
  unfold zeros at this
  omega
theorem be8_bs (n : Int) : Bs (be8 n) := by
  intro b hb
  simp only [be8, List.mem_cons, List.not_mem_nil, or_false] at hb
  rcases hb with rfl | rfl | rfl | rfl | rfl | rfl | rfl | rfl <;> omega
theorem pad_bs (rs : List Int) (N : Nat) (h : Bs rs) : Bs (pad rs N) := by
  intro b hb
  simp only [pad, List.mem_append] at hb
  rcases hb with ((hb | hb) | hb) | hb
  · exact h b hb
  · simp at hb; omega
  · have := (List.mem_replicate.1 hb).2; omega
  · exact be8_bs _ b hb
end Go.Proofs.YteabdojjllfcpaaGreat

/-
  The contract of the reference's block: one block of 64 bytes.
-/
namespace Go.Proofs.YteabdojjllfcpaaGreat
open Go.RowKit
theorem ad_comm (x y : Int) : ad x y = ad y x := by unfold ad; rw [Int.add_comm]
theorem next_ref (x0 x1 x2 x3 : Int) : (x3 + bits .xor .u32 (bits .xor .u32 (rot x2 7) (rot x2 18)) (x2 / 8) + x1 + bits .xor .u32 (bits .xor .u32 (rot x0 17) (rot x0 19)) (x0 / 1024)) % 4294967296 = ad (ad (ad (sS1 x0) x1) (sS0 x2)) x3 := by
  rw [ad4]
  show (x3 + sS0 x2 + x1 + sS1 x0) % 4294967296 = _
  congr 1
  omega
theorem blk_ref (h bs : List Int) : List.zipWith ad h (rds (sch bs 64) h 64) = blk h bs := by
  unfold blk
  rw [List.zipWith_comm]
  congr 1
  funext x y
  exact ad_comm y x
theorem rnd_raw (a b c d e f g h k w : Int) : rnd [a, b, c, d, e, f, g, h] k w = [((h + bits .xor .u32 (bits .xor .u32 (rot e 6) (rot e 11)) (rot e 25) + bits .xor .u32 (bits .and .u32 e f) (bits .and .u32 (bits .xor .u32 IntKind.u32.max e) g) + k + w) % 4294967296 + (bits .xor .u32 (bits .xor .u32 (rot a 2) (rot a 13)) (rot a 22) + bits .xor .u32 (bits .xor .u32 (bits .and .u32 a b) (bits .and .u32 a c)) (bits .and .u32 b c)) % 4294967296) % 4294967296, a, b, c, (d + (h + bits .xor .u32 (bits .xor .u32 (rot e 6) (rot e 11)) (rot e 25) + bits .xor .u32 (bits .and .u32 e f) (bits .and .u32 (bits .xor .u32 IntKind.u32.max e) g) + k + w) % 4294967296) % 4294967296, e, f, g] := by
  rw [rnd_eq]
  simp only [bS0, bS1, chs, maj]
theorem rnd_raw2 (a b c d e f g h k w : Int) : rnd [a, b, c, d, e, f, g, h] k w = [(h + bits .xor .u32 (bits .xor .u32 (rot e 6) (rot e 11)) (rot e 25) + bits .xor .u32 (bits .and .u32 e f) (bits .and .u32 (bits .xor .u32 IntKind.u32.max e) g) + k + w + (bits .xor .u32 (bits .xor .u32 (rot a 2) (rot a 13)) (rot a 22) + bits .xor .u32 (bits .xor .u32 (bits .and .u32 a b) (bits .and .u32 a c)) (bits .and .u32 b c))) % 4294967296, a, b, c, (d + (h + bits .xor .u32 (bits .xor .u32 (rot e 6) (rot e 11)) (rot e 25) + bits .xor .u32 (bits .and .u32 e f) (bits .and .u32 (bits .xor .u32 IntKind.u32.max e) g) + k + w)) % 4294967296, e, f, g] := by
  rw [rnd_raw]
  simp only [List.cons.injEq, and_true, true_and]
  constructor <;> omega
set_option maxRecDepth 100000 in
set_option maxHeartbeats 2000000 in
theorem block_any (h0 : List Int) (bk : Nat) (vb : Value) (bs : List Int) (w : World) (hh : h0.length = 8) (hk0 : Ar w bk 167 consts) (hS : Sl w vb bs) (hl : bs.length = 64) (hB : Bs bs) :
    Calls Tryz.prog 102 #[ag h0, .pointer (some ⟨bk, 0, none⟩), vb] w fun e w' => e = .returned (ag (blk h0 bs)) ∧ Kp [] w w' := by
  obtain ⟨i0, hi0, hz0⟩ := Tryz.zero64
  obtain ⟨i8, hi8, hz8⟩ := Tryz.zero8
  obtain ⟨ab, cb, rfl, h1, h2, h4⟩ := hS.at hl (by omega)
  have h1i : (64 : Int) ≤ (cb : Int) := by omega
  have H4 := hide h4
  have hab : ab.block < w.heap.size := by have := World.block_lt_of_cell? _ _ (h4 0 (by omega)); rwa [add_block] at this
  have hbk := hk0.lt
  have HK0 := hide hk0
  clear h4 hS hk0
  go_enter Tryz.func102, Tryz.ntmps102
  go_wp2_with (first
    | (refine wpList_box_ar (w := w) rfl 166 (.tmp 0) rfl _ rfl ?_; intro wa Aa Ka za)
    | (refine wpList_alloc_ar (w := wa) rfl 166 rfl i8 _ hi8 hz8 ?_; intro wb Ab Kb zb)
    | (refine wpList_alloc_ar (w := wb) rfl 167 rfl i0 _ hi0 hz0 ?_; intro w1 A1 K1 z1))
  obtain ⟨b1, hb1⟩ : ∃ b, b = w.heap.size := ⟨_, rfl⟩
  obtain ⟨b2, hb2⟩ : ∃ b, b = b1 + 1 := ⟨_, rfl⟩
  obtain ⟨b3, hb3⟩ : ∃ b, b = b2 + 1 := ⟨_, rfl⟩
  rw [← hb1] at Aa
  rw [za, ← hb1, ← hb2] at Ab
  rw [zb, za, ← hb1, show b1 + 1 + 1 = b3 by omega] at A1
  have K2 := (Ka.trans Kb).trans K1
  have AH := (Aa.kept Kb (by simp)).kept K1 (by simp)
  have AR := Ab.kept K1 (by simp)
  have hbw : w.heap.size ≤ b1 := by omega
  have hb12 : b2 = b1 + 1 := hb2
  have hb13 : b3 = b1 + 2 := by omega
  simp only [← hb1, ← hb2, ← hb3]
  have HC : Hid (∀ j, j < 64 → w1.cell? (ab.add j) = some (.int .u8 (bs.getD j 0))) := fun j hj => K2.cell (unhide H4 j hj) (by simp)
  have HKK := hide ((unhide HK0).kept K2 (by simp))
  have hAH := hide AH
  have hAR := hide AR
  have hA1 := hide A1
  have hK2 := hide K2
  have HB12 := hide hb12
  have HB13 := hide hb13
  have hsz1 : w1.heap.size = b1 + 3 := by omega
  have HSZ := hide hsz1
  clear H4 hb1 hb2 hb3 Ka Kb K1 Aa Ab za zb z1 A1 AH AR K2 hb12 hb13 hsz1
  go_loopw [8] (fun i wr => ∃ k : Nat, k ≤ 16 ∧ i = .int .i64 k ∧ Kp [b3] w1 wr ∧ Ar wr b3 167 (sch bs k ++ List.replicate (64 - k) 0)) (fun i _ => 16 - (intOf i).toNat)
  case atStart => exact ⟨0, by omega, rfl, Kp.refl _ _, unhide hA1⟩
  case round =>
    obtain ⟨k, hk, rfl, Kr, Ak⟩ := hrel
    by_cases hlt : k < 16
    · have hlt2 : (k : Int) < 16 := by omega
      have hck : ∀ j, j < 64 → wr.cell? (ab.add j) = some (.int .u8 (bs.getD j 0)) := fun j hj => Kr.cell (unhide HC j hj) (by have := unhide HB13; rw [add_block]; simp; omega)
      obtain ⟨x0, hx0⟩ : ∃ x, x = bs.getD (4 * k) 0 := ⟨_, rfl⟩
      obtain ⟨x1, hx1⟩ : ∃ x, x = bs.getD (4 * k + 1) 0 := ⟨_, rfl⟩
      obtain ⟨x2, hx2⟩ : ∃ x, x = bs.getD (4 * k + 2) 0 := ⟨_, rfl⟩
      obtain ⟨x3, hx3⟩ : ∃ x, x = bs.getD (4 * k + 3) 0 := ⟨_, rfl⟩
      have hc0 := hck (4 * k) (by omega)
      have hc1 := hck (4 * k + 1) (by omega)
      have hc2 := hck (4 * k + 2) (by omega)
      have hc3 := hck (4 * k + 3) (by omega)
      rw [← hx0] at hc0
      rw [Addr.add_succ', ← hx1] at hc1
      rw [Addr.add_succ', ← hx2] at hc2
      rw [Addr.add_succ', ← hx3] at hc3
      have d0 := hB.at (4 * k)
      have d1 := hB.at (4 * k + 1)
      have d2 := hB.at (4 * k + 2)
      have d3 := hB.at (4 * k + 3)
      rw [← hx0] at d0
      rw [← hx1] at d1
      rw [← hx2] at d2
      rw [← hx3] at d3
      have hsch : sch bs (k + 1) = sch bs k ++ [wd x0 x1 x2 x3] := by simp only [sch, if_pos hlt, wordAt, hx0, hx1, hx2, hx3]
      have hset := sch_set bs k (by omega) _ hsch
      obtain ⟨ys, hys⟩ : ∃ ys, ys = sch bs k ++ List.replicate (64 - k) 0 := ⟨_, rfl⟩
      rw [← hys] at Ak hset
      have hyl : ys.length = 64 := by rw [hys]; simp [sch_len]; omega
      have hck' := Ak.cell k (by omega)
      have hfk := Ak.frozen k
      have HA := hide Ak
      have HS := hide hset
      have hkr := hide Kr
      obtain ⟨old, hold⟩ : ∃ old, old = ys.getD k 0 := ⟨_, rfl⟩
      rw [← hold] at hck'
      clear hck hx0 hx1 hx2 hx3 hsch hset hys Ak Kr hold
      go_wp2_with fail
      refine region_tail 35 Tryz.mixed (by kernel_rfl) ?_
      simp only [List.take_succ_cons, List.take_zero, List.drop_succ_cons, List.drop_zero]
      repeat (first | go_big_quiet_skip | (go_big_quiet_want; go_big_quiet_op; go_big_quiet_on))
      refine wpQuiet_nil ?_
      go_wp2_with fail
      go_roundw
      case rel =>
        refine ⟨k + 1, by omega, by go_num, ((unhide hkr).setCell (p := ⟨b3, k, none⟩) (.inl (by simp)) _).drew, ?_⟩
        rw [← unhide HS]
        exact (unhide HA).set k _
      case measure => simp [intOf]; omega
    · obtain rfl : k = 16 := by omega
      obtain ⟨w2, hw2⟩ : ∃ w2, w2 = wr := ⟨_, rfl⟩
      subst hw2
      have HK := hide Kr
      have hAk := hide Ak
      clear Kr Ak
      go_wp2_with fail
      go_loopw [9] (fun i wr => ∃ k : Nat, 16 ≤ k ∧ k ≤ 64 ∧ i = .int .i64 k ∧ Kp [b3] w1 wr ∧ Ar wr b3 167 (sch bs k ++ List.replicate (64 - k) 0)) (fun i _ => 64 - (intOf i).toNat)
      case atStart => exact ⟨16, by omega, by omega, rfl, unhide HK, unhide hAk⟩
      case round =>
        obtain ⟨k, hk1, hk, rfl, Kr, Ar1⟩ := hrel
        clear hAk HK
        by_cases hlt : k < 64
        · have hlt2 : (k : Int) < 64 := by omega
          have hk2 : (16 : Int) ≤ (k : Int) := by omega
          have hnl : ¬ k < 16 := by omega
          obtain ⟨ys, hys⟩ : ∃ ys, ys = sch bs k ++ List.replicate (64 - k) 0 := ⟨_, rfl⟩
          have hgd : ∀ j, j < k → ys.getD j 0 = (sch bs k).getD j 0 := fun j hj => by
            rw [hys, List.getD_eq_getElem?_getD, List.getD_eq_getElem?_getD, List.getElem?_append_left (by rw [sch_len]; exact hj)]
          have hyl : ys.length = 64 := by rw [hys]; simp [sch_len]; omega
          have hset := fun x hx => sch_set bs k (by omega) x hx
          rw [← hys] at Ar1 hset
          obtain ⟨x0, hx0⟩ : ∃ x, x = ys.getD (k - 2) 0 := ⟨_, rfl⟩
          obtain ⟨x1, hx1⟩ : ∃ x, x = ys.getD (k - 7) 0 := ⟨_, rfl⟩
          obtain ⟨x2, hx2⟩ : ∃ x, x = ys.getD (k - 15) 0 := ⟨_, rfl⟩
          obtain ⟨x3, hx3⟩ : ∃ x, x = ys.getD (k - 16) 0 := ⟨_, rfl⟩
          have hc0 := Ar1.cell (k - 2) (by omega)
          have hc1 := Ar1.cell (k - 7) (by omega)
          have hc2 := Ar1.cell (k - 15) (by omega)
          have hc3 := Ar1.cell (k - 16) (by omega)
          rw [← hx0] at hc0
          rw [← hx1] at hc1
          rw [← hx2] at hc2
          rw [← hx3] at hc3
          have hsch : sch bs (k + 1) = sch bs k ++ [ad (ad (ad (sS1 x0) x1) (sS0 x2)) x3] := by
            simp only [sch, if_neg hnl, nextW, hx0, hx1, hx2, hx3]
            rw [hgd _ (by omega), hgd _ (by omega), hgd _ (by omega), hgd _ (by omega)]
          have HS := hide (hset _ hsch)
          have HA := hide Ar1
          have hkr := hide Kr
          have hck' := Ar1.cell k (by omega)
          have hfk := Ar1.frozen k
          obtain ⟨old, hold⟩ : ∃ old, old = ys.getD k 0 := ⟨_, rfl⟩
          rw [← hold] at hck'
          clear hx0 hx1 hx2 hx3 hsch hset hys Ar1 Kr hold hgd
          go_wp2_with fail
          refine region_read Tryz.mixed (by kernel_rfl) ?_
          repeat (first | go_big_quiet_skip | (go_big_quiet_want; go_big_quiet_op; go_big_quiet_on))
          refine wpQuiet_nil ?_
          go_wp2_with fail
          refine region_tail 29 Tryz.mixed (by kernel_rfl) ?_
          simp only [List.take_succ_cons, List.take_zero, List.drop_succ_cons, List.drop_zero]
          repeat (first | go_big_quiet_skip | (go_big_quiet_want; go_big_quiet_op; first | go_big_quiet_on | (refine ⟨_, turn_any _ _ _ (by omega) (by omega), ?_⟩; go_big_quiet_on)))
          refine wpQuiet_nil ?_
          go_wp2_with fail
          go_roundw
          case rel =>
            refine ⟨k + 1, by omega, by omega, by go_num, (((unhide hkr).setCell (p := ⟨b3, k, none⟩) (.inl (by simp)) _).drew).drew, ?_⟩
            rw [← unhide HS, ← next_ref]
            exact (unhide HA).set k _
          case measure => simp [intOf]; omega
        · obtain rfl : k = 64 := by omega
          obtain ⟨ws, hws⟩ : ∃ ws, ws = sch bs 64 := ⟨_, rfl⟩
          have hwl : ws.length = 64 := by rw [hws]; exact sch_len _ _
          have AW : Ar wr b3 167 ws := by rw [hws]; simpa using Ar1
          have AH := (unhide hAH).kept Kr (by have := unhide HB13; simp; omega)
          have AR := (unhide hAR).kept Kr (by have := unhide HB13; have := unhide HB12; simp; omega)
          have AK := (unhide HKK).kept Kr (by have := unhide HB13; simp; omega)
          have KW : Kp [] w wr := (unhide hK2).then Kr (by have := unhide HB13; simp; omega)
          obtain ⟨w4, hw4⟩ : ∃ w4, w4 = wr := ⟨_, rfl⟩
          subst hw4
          have HW := hide hws
          have hszw : w.heap.size ≤ w4.heap.size := KW.size
          have hl1 := AH.lt
          have hl2 := AR.lt
          have hl3 := AW.lt
          have hl4 := AK.lt
          have hi : (Tryz.prog.info? 166).map (·.size) = some h0.length := by rw [hh]; exact Tryz.sz8
          clear Ar1 Kr hws
          go_wp2_with (first
            | (refine wpList_load_ar rfl 166 (.tmp 3) rfl b1 rfl _ _ 8 95 AH Tryz.underlying166 hi ?_)
            | (refine wpList_alloc_ar (w := w4) rfl 166 rfl i8 _ hi8 hz8 ?_; intro w5 A5 K5 z5)
            | (refine wpList_store_ar rfl 166 (.tmp 12) (.tmp 99) rfl w4.heap.size rfl _ _ h0 A5 rfl (by rw [hh]; rfl) hi ?_; intro w6 A6 K6 z6))
          obtain ⟨b4, hb4⟩ : ∃ b, b = w4.heap.size := ⟨_, rfl⟩
          rw [← hb4] at A5 A6 K6 hl1 hl2 hl3 hl4
          simp only [← hb4]
          have n1 : b1 ≠ b4 := by omega
          have n2 : b2 ≠ b4 := by omega
          have n3 : b3 ≠ b4 := by omega
          have n4 : bk ≠ b4 := by omega
          have hb4w : w.heap.size ≤ b4 := by omega
          have hAW := hide ((AW.kept K5 (by simp)).kept K6 (by simp; omega))
          have hAH := hide ((AH.kept K5 (by simp)).kept K6 (by simp; omega))
          have hAR := hide ((AR.kept K5 (by simp)).kept K6 (by simp; omega))
          have hAK := hide ((AK.kept K5 (by simp)).kept K6 (by simp; omega))
          have hK6 : Hid (Kp [] w w6) := (KW.trans K5).then K6 (by simp; omega)
          have hA6 := hide A6
          clear A5 A6 K5 K6 z5 z6 AW AH AR AK KW hl1 hl2 hl3 hl4 hszw hb4
          go_loopw [13] (fun i wr => ∃ k : Nat, k ≤ 64 ∧ i = .int .i64 k ∧ Kp [b4] w6 wr ∧ Ar wr b4 166 (rds ws h0 k)) (fun i _ => 64 - (intOf i).toNat)
          case atStart => exact ⟨0, by omega, rfl, Kp.refl _ _, unhide hA6⟩
          case round =>
            obtain ⟨k, hk, rfl, Kr, Ak⟩ := hrel
            have hrl := rds_len ws h0 hh k
            by_cases hlt : k < 64
            · have hlt2 : (k : Int) < 64 := by omega
              have hcw := ((unhide hAW).kept Kr (by simpa using n3)).cell k (by omega)
              have hck := ((unhide hAK).kept Kr (by simpa using n4)).cell k (by simpa [consts] using hlt)
              obtain ⟨a, b, c, d, e, f, g, q, hrd⟩ := eight hrl
              rw [hrd] at Ak
              have hnx : rds ws h0 (k + 1) = rnd [a, b, c, d, e, f, g, q] (consts.getD k 0) (ws.getD k 0) := by simp only [rds, hrd]
              obtain ⟨x, hx⟩ : ∃ x, x = ws.getD k 0 := ⟨_, rfl⟩
              obtain ⟨y, hy⟩ : ∃ y, y = consts.getD k 0 := ⟨_, rfl⟩
              rw [← hx] at hcw hnx
              rw [← hy] at hck hnx
              have HN := hide hnx
              have c0 := Ak.cell 0 (by simp)
              have c1 := Ak.cell 1 (by simp)
              have c2 := Ak.cell 2 (by simp)
              have c3 := Ak.cell 3 (by simp)
              have c4 := Ak.cell 4 (by simp)
              have c5 := Ak.cell 5 (by simp)
              have c6 := Ak.cell 6 (by simp)
              have c7 := Ak.cell 7 (by simp)
              simp only [List.getD_cons_zero, List.getD_cons_succ] at c0 c1 c2 c3 c4 c5 c6 c7
              have hA := hide Ak
              have hkr := hide Kr
              clear Ak Kr hx hy hnx hrd hrl
              go_wp2_with fail
              refine region_read Tryz.mixed (by kernel_rfl) ?_
              repeat (first | go_big_quiet_skip | (go_big_quiet_want; go_big_quiet_op; go_big_quiet_on))
              refine wpQuiet_nil ?_
              go_wp2_with fail
              refine region_read Tryz.mixed (by kernel_rfl) ?_
              repeat (first | go_big_quiet_skip | (go_big_quiet_want; go_big_quiet_op; first | go_big_quiet_on | (refine ⟨_, turn_any _ _ _ (by omega) (by omega), ?_⟩; go_big_quiet_on)))
              refine wpQuiet_nil ?_
              go_wp2_with fail
              refine region_read Tryz.mixed (by kernel_rfl) ?_
              repeat (first | go_big_quiet_skip | (go_big_quiet_want; go_big_quiet_op; first | go_big_quiet_on | (refine ⟨_, turn_any _ _ _ (by omega) (by omega), ?_⟩; go_big_quiet_on)))
              refine wpQuiet_nil ?_
              have hA3 : Ar wr.drew.drew.drew b4 166 [a, b, c, d, e, f, g, q] := unhide hA
              go_wp2_with (refine wpList_store_ar rfl 166 (.tmp 12) (.tmp 181) rfl b4 rfl _ _ [_, _, _, _, _, _, _, _] hA3 rfl rfl Tryz.sz8 ?_; intro w9 A9 K9 z9)
              go_roundw
              case rel =>
                refine ⟨k + 1, by omega, by go_num, ((unhide hkr).drew.drew.drew).trans K9, ?_⟩
                rw [unhide HN, rnd_raw2]
                exact A9
              case measure => simp [intOf]; omega
            · obtain rfl : k = 64 := by omega
              clear hk hlt
              obtain ⟨tt, htt⟩ : ∃ tt, tt = rds ws h0 64 := ⟨_, rfl⟩
              rw [← htt] at Ak hrl
              have HT := hide htt
              have hAk := hide Ak
              have AH := (unhide hAH).kept Kr (by simpa using n1)
              have hAR8 := hide ((unhide hAR).kept Kr (by simpa using n2))
              have hKW : Hid (Kp [] w wr) := (unhide hK6).then Kr (by simp; omega)
              have h00 : h0 = List.zipWith ad (h0.take 0) tt ++ h0.drop 0 := by simp
              rw [h00] at AH
              have hAH8 := hide AH
              obtain ⟨w8, hw8⟩ : ∃ w8, w8 = wr := ⟨_, rfl⟩
              subst hw8
              have hb21 : b1 ≠ b2 := by have := unhide HB12; omega
              clear Ak Kr AH h00 htt hA6 hAW hAH hAR hAK hK6
              go_wp2_with fail
              go_loopw [18] (fun i wr => ∃ k : Nat, k ≤ 8 ∧ i = .int .i64 k ∧ Kp [b1] w8 wr ∧ Ar wr b1 166 (List.zipWith ad (h0.take k) tt ++ h0.drop k)) (fun i _ => 8 - (intOf i).toNat)
              case atStart => exact ⟨0, by omega, rfl, Kp.refl _ _, unhide hAH8⟩
              case round =>
                obtain ⟨k, hk, rfl, Kr, Ak⟩ := hrel
                clear hAH8
                have A9 := (unhide hAk).kept Kr (by simp; omega)
                by_cases hlt : k < 8
                · have hlt2 : (k : Int) < 8 := by omega
                  obtain ⟨ys, hys⟩ : ∃ ys, ys = List.zipWith ad (h0.take k) tt ++ h0.drop k := ⟨_, rfl⟩
                  have hz : (List.zipWith ad (h0.take k) tt).length = k := by simp; omega
                  have hyl : ys.length = 8 := by rw [hys]; simp [hz]; omega
                  have hset : ys.set k (ad (ys.getD k 0) (tt.getD k 0)) = List.zipWith ad (h0.take (k + 1)) tt ++ h0.drop (k + 1) := zip_step h0 tt k (by omega) (by omega) ys hys
                  rw [← hys] at Ak
                  have hc1 := Ak.cell k (by omega)
                  have hc2 := A9.cell k (by omega)
                  have hfk := Ak.frozen k
                  obtain ⟨x, hx⟩ : ∃ x, x = ys.getD k 0 := ⟨_, rfl⟩
                  obtain ⟨y, hy⟩ : ∃ y, y = tt.getD k 0 := ⟨_, rfl⟩
                  rw [← hx] at hc1 hset
                  rw [← hy] at hc2 hset
                  have HS := hide hset
                  have HA := hide Ak
                  have hkr := hide Kr
                  clear hx hy hset Ak Kr A9 hys hz
                  go_wp2_with fail
                  refine region_tail 9 Tryz.mixed (by kernel_rfl) ?_
                  simp only [List.take_succ_cons, List.take_zero, List.drop_succ_cons, List.drop_zero]
                  repeat (first | go_big_quiet_skip | (go_big_quiet_want; go_big_quiet_op; go_big_quiet_on))
                  refine wpQuiet_nil ?_
                  go_wp2_with fail
                  go_roundw
                  case rel =>
                    refine ⟨k + 1, by omega, by go_num, ((unhide hkr).setCell (p := ⟨b1, k, none⟩) (.inl (by simp)) _).drew, ?_⟩
                    rw [← unhide HS]
                    exact (unhide HA).set k _
                  case measure => simp [intOf]; omega
                · obtain rfl : k = 8 := by omega
                  have A10 := (unhide hAR8).kept Kr (by simp; omega)
                  have hfin : List.zipWith ad (h0.take 8) tt ++ h0.drop 8 = blk h0 bs := by
                    rw [List.take_of_length_le (by omega), List.drop_of_length_le (by omega), List.append_nil, unhide HT, unhide HW, blk_ref]
                  rw [hfin] at Ak
                  have hbl : (blk h0 bs).length = 8 := blk_len _ _ hh
                  have hib : (Tryz.prog.info? 166).map (·.size) = some (blk h0 bs).length := by rw [hbl]; exact Tryz.sz8
                  go_wp2_with (first
                    | (refine wpList_load_ar rfl 166 (.tmp 3) rfl b1 rfl _ _ 8 95 Ak Tryz.underlying166 hib ?_)
                    | (refine wpList_store_ar rfl 166 (.tmp 6) (.tmp 195) rfl b2 rfl _ _ _ A10 rfl (by rw [hbl]; rfl) hib ?_; intro w9 A9 K9 z9))
                  refine bodyPost_ret (results_cell_row rfl _ w9 b2 _ _ (0, 0) (.array 8 95) rfl A9 Tryz.underlying166 rfl (by simpa using hib)) rfl ?_
                  refine ⟨rfl, ?_⟩
                  have hbw2 : w.heap.size ≤ b2 := by have := unhide HB12; omega
                  exact ((unhide hKW).then Kr (by simp; omega)).then K9 (by simp; omega)
end Go.Proofs.YteabdojjllfcpaaGreat

/-
  Within as a plain function.
-/
namespace Go.Proofs.YteabdojjllfcpaaGreat
open Go.RowKit
open Go.Proofs
/-- what Within tells. -/
def wiP (n lo hi : Int) : Int := if lo ≤ n ∧ n ≤ hi then n else if n.tmod (hi - lo + 1) < 0 then lo + (n.tmod (hi - lo + 1) + hi - lo + 1) else lo + n.tmod (hi - lo + 1)
theorem tmod_bnd (n c : Int) (hc : 0 < c) : -c < n.tmod c ∧ n.tmod c < c := by
  have h1 := Int.emod_nonneg n (by omega : c ≠ 0)
  have h2 := Int.emod_lt_of_pos n hc
  constructor
  · have := Int.lt_tmod_of_pos n hc; omega
  · exact Int.tmod_lt_of_pos n hc
theorem wiP_ge (n lo hi : Int) (h : lo ≤ hi) : lo ≤ wiP n lo hi ∧ wiP n lo hi ≤ hi := by
  have := tmod_bnd n (hi - lo + 1) (by omega)
  unfold wiP
  split
  · assumption
  · split <;> omega
set_option maxHeartbeats 1000000 in
theorem within_wi (n lo hi : Int) (w : World) (h1 : -1000 ≤ lo) (h2 : lo ≤ hi) (h3 : hi ≤ 1073741824) : Calls Tryz.prog 20 #[.int .i64 n, .int .i64 lo, .int .i64 hi] w fun e w' => e = .returned (.int .i64 (wiP n lo hi)) ∧ w' = w := by
  have hb := tmod_bnd n (hi - lo + 1) (by omega)
  have hc : hi - lo + 1 ≠ 0 := by omega
  have hwi : wiP n lo hi = if lo ≤ n ∧ n ≤ hi then n else if n.tmod (hi - lo + 1) < 0 then lo + (n.tmod (hi - lo + 1) + hi - lo + 1) else lo + n.tmod (hi - lo + 1) := rfl
  have W := hide hwi
  clear hwi
  go_enter Tryz.func20, Tryz.ntmps20
  go_wp2
  all_goals
    go_ret
    refine ⟨congrArg Ending.returned (congrArg (Value.int IntKind.i64) ?_), rfl⟩
    rw [unhide W]
    split <;> first | rfl | omega | (split <;> omega)
end Go.Proofs.YteabdojjllfcpaaGreat
