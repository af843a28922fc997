/-
  Rows of bytes that a call owns; append from whatever slice onto such a row.
-/
import Derived.Test.YtjmabnchaglpdaaKHMixs
import Derived.Maps.AppendAt
import Derived.Deep.RegionLaw
namespace Go.Proofs.Ytjmabnchaglpdaa
open Go.RowKit

theorem Try.info5 : (Try.prog.info? 5).map (fun i => (i.zero, i.size, i.bytes)) = some (some (.int .u8 0), 1, 1) := by kernel_rfl
theorem owns_shape {w : World} {base : Nat} {e : TypeId} {v : Value} {n : Nat} {xs : List Value} (h : w.ownsRow base e 1 v n xs) : ∃ ao c, v = .slice ao n c := by
  rcases h.2 with ⟨rfl, rfl⟩ | ⟨g, cap, cur, rfl, _⟩
  · exact ⟨_, _, rfl⟩
  · exact ⟨_, _, rfl⟩


theorem Sl.block {w : World} {b : Nat} {cs : List Int} {t : TypeId} {fr : Nat × Nat} (hb : w.heap[b]? = some (.cells (cs.map (Value.int .u8)).toArray t fr)) (hm : cs.length ≤ maxLen) : Sl w (.slice (some ⟨b, 0, none⟩) cs.length cs.length) cs := by
  refine ⟨some ⟨b, 0, none⟩, cs.length, rfl, Nat.le_refl _, hm, (fun h => by cases h), fun a ha j u hu => ?_⟩
  cases ha
  exact World.news_of_block hb j u (by simpa using hu)

/-- One step of a row of bytes that the call owns. -/
def RStep (w : World) (v : Value) (w' : World) (v' : Value) : Prop :=
  Kp v.ownBlock.toList w w' ∧ ∀ k, v'.ownBlock = some k → v.ownBlock = some k ∨ w.heap.size ≤ k
theorem RStep.refl (w : World) (v : Value) : RStep w v w v := ⟨Kp.refl _ _, fun _ h => .inl h⟩
theorem RStep.trans {a b c : World} {u v x : Value} (h : RStep a u b v) (k : RStep b v c x) : RStep a u c x := by
  refine ⟨h.1.then k.1 (fun i hi => ?_), fun i hi => ?_⟩
  · simp only [Option.mem_toList] at hi ⊢
    exact h.2 i hi
  · rcases k.2 i hi with h1 | h1
    · exact h.2 i h1
    · exact .inr (Nat.le_trans h.1.size h1)
/-- The row v of the bytes bs, of the call's own from base on. -/
def Row (w : World) (base : Nat) (v : Value) (bs : List Int) : Prop := w.ownsRow base 5 1 v bs.length (bs.map (Value.int .u8))
theorem Row.shape {w : World} {base : Nat} {v : Value} {bs : List Int} (h : Row w base v bs) : ∃ ao c, v = .slice ao bs.length c := owns_shape h
theorem Row.sl {w : World} {base : Nat} {v : Value} {bs : List Int} (h : Row w base v bs) : Sl w v bs := Sl.of_owns h
theorem row_step {w w0 w1 : World} {base : Nat} {v v' : Value} {bs new : List Int} (h0 : Kp [] w w0)
    (hown : w1.ownsRow base 5 1 v' (bs.length + new.length) (bs.map (Value.int .u8) ++ new.map (Value.int .u8))) (hgrow : w0.grownBy w1 v.ownBlock) (hat : v'.ownBlock = v.ownBlock ∨ v'.ownBlock = some w0.heap.size) :
    Row w1 base v' (bs ++ new) ∧ RStep w v w1 v' := by
  refine ⟨by unfold Row; simpa using hown, (h0.mono (by simp)).grown hgrow (fun k hk => .inl (by simp [hk])), fun k hk => ?_⟩
  rcases hat with e | e
  · exact .inl (e ▸ hk)
  · rw [e] at hk; cases hk; exact .inr h0.size

theorem Row.len {w : World} {base m c : Nat} {ao : Option Addr} {bs : List Int} (h : Row w base (.slice ao m c) bs) : m = bs.length := by
  obtain ⟨_, _, e⟩ := h.shape; cases e; rfl

/-- append of bytes, whatever slice they come in, onto a row of the call's own. -/
theorem wpList_append_row {w : World} {ops : Array Oper} {rest : List Oper} {o : Oper} {a : Act} {Q : Exit → Act → World → Prop} (hgd : o.guard = none) (s x : Operand)
    (ho : o.op = .call { callee := .builtin .append, args := #[s, x], argTypes := #[24, 24] }) (base : Nat) (v : Value) (bs : List Int) (hs : a.eval s = v) (hrow : Row w base v bs)
    (vx : Value) (cs : List Int) (hx : a.eval x = vx) (hS : Sl w vx cs) (hb : bs.length + cs.length ≤ 140737488355328) (hbase : base ≤ w.heap.size)
    (h : ∀ ao m c w', Row w' base (.slice ao m c) (bs ++ cs) → RStep w v w' (.slice ao m c) → wpList Try.prog ops Q rest (a.put o.dst (.slice ao m c)) w') : wpList Try.prog ops Q (o :: rest) a w := by
  obtain ⟨i0, hi0, hz0, hz1, hz2⟩ := info_parts Try.info5
  obtain ⟨av, cv, rfl⟩ := hrow.shape
  obtain ⟨ax, cx, rfl, h1, h2, h3, h4⟩ := hS
  cases ax with
  | none =>
    have : cs = [] := List.eq_nil_of_length_eq_zero (by have := h3 rfl; omega)
    subst this
    obtain rfl := h3 rfl
    refine wpList_append_own_none hgd s x 24 ho base 5 i0 1 Try.underlying24 hi0 _ _ _ hs hrow hx ?_
    have := h av bs.length cv w
    simp only [List.append_nil] at this
    exact this hrow (RStep.refl _ _)
  | some a' =>
    refine wpList_append_own_at w hgd s x 24 ho base 5 i0 (.int .u8 0) 1 1 Try.underlying24 hi0 hz0 hz1 hz2 rfl (by decide) _ bs.length (bs.map (Value.int .u8)) hs hrow a' cs.length cx (cs.map (Value.int .u8)) hx (by simp) (h4 a' rfl) (by simp [Value.oneCell']) (by unfold maxLen; omega) (by omega) hbase ?_
    intro v' w1 hown1 hgrow _ hat
    have R := row_step (new := cs) (Kp.refl [] w) hown1 hgrow hat
    obtain ⟨ao', c', hv⟩ := R.1.shape
    subst hv
    exact h ao' _ c' w1 R.1 R.2
theorem Row.kept {w w' : World} {base : Nat} {v : Value} {bs : List Int} {S : List Nat} (h : Row w base v bs) (k : Kp S w w') (hv : ∀ i, v.ownBlock = some i → i ∉ S) : Row w' base v bs := k.owns h hv
theorem RStep.after {w w0 w1 : World} {v v' : Value} (h : RStep w0 v w1 v') (k : Kp [] w w0) : RStep w v w1 v' :=
  ⟨(k.mono (by simp)).trans h.1, fun i hi => (h.2 i hi).imp id (fun e => Nat.le_trans k.size e)⟩

end Go.Proofs.Ytjmabnchaglpdaa

/-
  The contracts of the program's padded, laidDown and beginning.
-/
namespace Go.Proofs.Ytjmabnchaglpdaa
open Go.RowKit

theorem Row.own {w : World} {base : Nat} {v : Value} {bs : List Int} (h : Row w base v bs) : ∀ k, v.ownBlock = some k → base ≤ k := by
  intro k hk
  rcases h.2 with ⟨rfl, _⟩ | ⟨g, cap, cur, rfl, hb, _⟩
  · cases hk
  · cases hk; exact hb
theorem Row.step {w w1 w2 : World} {v v' : Value} {bs : List Int} (h : Row w1 w.heap.size v bs) (k : Kp [] w w1) (s : RStep w1 v w2 v') : Kp [] w w2 :=
  k.then s.1 (fun i hi => .inr (h.own i (by simpa using hi)))
/-- One byte, in a block of its own. -/
theorem one_block (w : World) (x : Int) : Sl (w.alloc (.cells #[.int .u8 x] 5)) (.slice (some ⟨w.heap.size, 0, none⟩) 1 1) [x] :=
  Sl.block (cs := [x]) (t := 5) (heap_alloc_new w _) (by simp [maxLen])

theorem be8_take (n : Int) (j : Nat) (hj : j < 8) : (be8 n).take (j + 1) = (be8 n).take j ++ [n / 2 ^ (8 * (7 - j)) % 256] := by
  match j, hj with
  | 0, _ => rfl
  | 1, _ => rfl
  | 2, _ => rfl
  | 3, _ => rfl
  | 4, _ => rfl
  | 5, _ => rfl
  | 6, _ => rfl
  | 7, _ => simp [be8]

theorem lay8_snoc (s : List Int) (k : Nat) (hk : k < s.length) : lay8 (s.take (k + 1)) = lay8 (s.take k) ++ [s.getD k 0 / 16777216 % 256, s.getD k 0 / 65536 % 256, s.getD k 0 / 256 % 256, s.getD k 0 % 256] := by
  unfold lay8
  rw [List.take_succ_eq_append_getElem hk, List.flatMap_append]
  simp [List.getElem?_eq_getElem hk]
theorem lay8_len (s : List Int) : (lay8 s).length = 4 * s.length := by
  unfold lay8
  induction s with
  | nil => rfl
  | cons a s ih => simp only [List.flatMap_cons, List.length_append, ih, List.length_cons, List.length_nil]; omega

end Go.Proofs.Ytjmabnchaglpdaa

/-
  The contract of the program's Sum.
-/
namespace Go.Proofs.Ytjmabnchaglpdaa
open Go.RowKit

theorem run_load_ar {w : World} {b : Nat} {t ty : TypeId} {s : List Int} {n : Nat} {e : TypeId} (hA : Ar w b t s) (hu : Try.prog.underlying ty = some (.array n e)) (hi : (Try.prog.info? ty).map (·.size) = some s.length) :
    (Instr.loadAt ty (.pointer (some ⟨b, 0, none⟩))).run Try.prog w = .ok (ag s) w := by
  simp only [Instr.loadAt, Instr.sureAddr, Sem.run_bind, Sem.run_pure, Result.andThen_ok, run_loadVar_row w b t ty _ (0, 0) (.array n e) hA hu rfl (by simpa using hi)]
  rfl
theorem run_store_ar {w : World} {b : Nat} {t ty : TypeId} {s0 s : List Int} (hA : Ar w b t s0) (hl : s0.length = s.length) (hi : (Try.prog.info? ty).map (·.size) = some s.length) :
    ∃ w', (Instr.storeAt ty (.pointer (some ⟨b, 0, none⟩)) (ag s)).run Try.prog w = .ok () w' ∧ Ar w' b t s ∧ Kp [b] w w' := by
  refine ⟨_, run_storeAt_mid w b 0 ty (s.map (Value.int .u32)).toArray ?_ (by simpa using hi) (all_oneCell_toArray (by simp [Value.oneCell'])), ?_, kp_setCells w b _ 0 w (Kp.refl _ _)⟩
  · intro j hj
    simp only [List.size_toArray, List.length_map] at hj
    rw [Nat.zero_add, hA.cell j (by omega)]
    exact ⟨rfl, hA.frozen j⟩
  · have := ar_setCells b t s 0 s0 w hA (by omega)
    simpa using this
theorem pad_len (rs : List Int) (N : Nat) (h : rs.length < 64) : (pad rs N).length = 64 * ((pad rs N).length / 64) ∧ (pad rs N).length ≤ 128 := by
  have : (pad rs N).length = rs.length + 1 + zeros rs.length + 8 := by simp [pad, be8]; omega
  unfold zeros at this
  omega
theorem be8_bs (n : Int) : Bs (be8 n) := by
  intro b hb
  simp only [be8, List.mem_cons, List.not_mem_nil, or_false] at hb
  rcases hb with rfl | rfl | rfl | rfl | rfl | rfl | rfl | rfl <;> omega
theorem pad_bs (rs : List Int) (N : Nat) (h : Bs rs) : Bs (pad rs N) := by
  intro b hb
  simp only [pad, List.mem_append] at hb
  rcases hb with ((hb | hb) | hb) | hb
  · exact h b hb
  · simp at hb; omega
  · have := (List.mem_replicate.1 hb).2; omega
  · exact be8_bs _ b hb

theorem Ar.cells8 {w : World} {b : Nat} {ty : TypeId} {x0 x1 x2 x3 x4 x5 x6 x7 : Int} (h : Ar w b ty [x0, x1, x2, x3, x4, x5, x6, x7]) :
    w.cell? ⟨b, 0, none⟩ = some (.int .u32 x0) ∧ w.cell? ⟨b, 1, none⟩ = some (.int .u32 x1) ∧ w.cell? ⟨b, 2, none⟩ = some (.int .u32 x2) ∧ w.cell? ⟨b, 3, none⟩ = some (.int .u32 x3) ∧ w.cell? ⟨b, 4, none⟩ = some (.int .u32 x4) ∧ w.cell? ⟨b, 5, none⟩ = some (.int .u32 x5) ∧ w.cell? ⟨b, 6, none⟩ = some (.int .u32 x6) ∧ w.cell? ⟨b, 7, none⟩ = some (.int .u32 x7) :=
  ⟨h.cell 0 (by simp), h.cell 1 (by simp), h.cell 2 (by simp), h.cell 3 (by simp), h.cell 4 (by simp), h.cell 5 (by simp), h.cell 6 (by simp), h.cell 7 (by simp)⟩
theorem Ar.frozen8 {w : World} {b : Nat} {ty : TypeId} {s : List Int} (h : Ar w b ty s) :
    w.frozen? ⟨b, 0, none⟩ = false ∧ w.frozen? ⟨b, 1, none⟩ = false ∧ w.frozen? ⟨b, 2, none⟩ = false ∧ w.frozen? ⟨b, 3, none⟩ = false ∧ w.frozen? ⟨b, 4, none⟩ = false ∧ w.frozen? ⟨b, 5, none⟩ = false ∧ w.frozen? ⟨b, 6, none⟩ = false ∧ w.frozen? ⟨b, 7, none⟩ = false :=
  ⟨h.frozen 0, h.frozen 1, h.frozen 2, h.frozen 3, h.frozen 4, h.frozen 5, h.frozen 6, h.frozen 7⟩
theorem ag_eight (x0 x1 x2 x3 x4 x5 x6 x7 : Int) : ag [x0, x1, x2, x3, x4, x5, x6, x7] = .agg #[.int .u32 x0, .int .u32 x1, .int .u32 x2, .int .u32 x3, .int .u32 x4, .int .u32 x5, .int .u32 x6, .int .u32 x7] := rfl
theorem sha_parts (bs : List Int) (n N k : Nat) (s1 xs ys : List Int) (hN : N = bs.length) (hn : n = bs.length / 64) (h1 : s1 = blks n begin8 bs) (hx : s1 = xs) (hk : k = (pad (bs.drop (64 * n)) N).length / 64) (hy : blks k xs (pad (bs.drop (64 * n)) N) = ys) : lay8 ys = sha bs := by
  unfold sha fin8
  rw [show bs.length / 64 * 64 = 64 * n from by omega, ← hn, ← h1, hx, ← hN, ← hk, hy]
theorem blks_take (s bs : List Int) (m : Nat) : ∀ k, 64 * k ≤ m → blks k s (bs.take m) = blks k s bs
  | 0, _ => rfl
  | k + 1, h => by
    simp only [blks]
    rw [blks_take s bs m k (by omega), List.drop_take, List.take_take, Nat.min_eq_left (by omega)]

end Go.Proofs.Ytjmabnchaglpdaa

/-
  The contract of the program's Hex.
-/
namespace Go.Proofs.Ytjmabnchaglpdaa
open Go.RowKit

/-- append at a step of a region that draws its order. -/
theorem step_append_row {w : World} {ops : Array Oper} {o : Oper} {a : Act} {K : Act → World → Prop} {Q : Exit → Act → World → Prop} {E : Prop} (hgd : o.guard = none) (s x : Operand)
    (ho : o.op = .call { callee := .builtin .append, args := #[s, x], argTypes := #[24, 24] }) (base : Nat) (v : Value) (bs : List Int) (hs : a.eval s = v) (hrow : Row w base v bs)
    (vx : Value) (cs : List Int) (hx : a.eval x = vx) (hS : Sl w vx cs) (hb : bs.length + cs.length ≤ 140737488355328) (hbase : base ≤ w.heap.size)
    (h : ∀ ao m c w', Row w' base (.slice ao m c) (bs ++ cs) → RStep w v w' (.slice ao m c) → K (a.put o.dst (.slice ao m c)) w') :
    if Region.wanted o (yielded ops a.tmps) = true then Oper.wp Try.prog o a w K Q else E := by
  have hw : Region.wanted o (yielded ops a.tmps) = true := by simp [Region.wanted, hgd]
  rw [if_pos hw]
  obtain ⟨i0, hi0, hz0, hz1, hz2⟩ := info_parts Try.info5
  obtain ⟨av, cv, rfl⟩ := hrow.shape
  obtain ⟨ax, cx, rfl, h1, h2, h3, h4⟩ := hS
  cases ax with
  | none =>
    have : cs = [] := List.eq_nil_of_length_eq_zero (by have := h3 rfl; omega)
    subst this
    obtain rfl := h3 rfl
    have hrun := run_append_owned_none (P := Try.prog) (w := w) base 24 o.type 5 i0 1 Try.underlying24 hi0 _ _ _ hrow
    have hK := h av bs.length cv w
    simp only [List.append_nil] at hK
    unfold Oper.wp
    simp [execOp, ho, resolve, invoke, builtin, hs, hx, hrun, Result.andThen]
    exact hK hrow (RStep.refl _ _)
  | some a' =>
    obtain ⟨v', w1, hr, hown1, hgrow, _, hat⟩ := run_append_own_at (P := Try.prog) w base 24 o.type 5 i0 (.int .u8 0) 1 1 Try.underlying24 hi0 hz0 hz1 hz2 rfl (by decide) _ bs.length (bs.map (Value.int .u8)) hrow a' cs.length cx (cs.map (Value.int .u8)) (by simp) (h4 a' rfl) (by simp [Value.oneCell']) (by unfold maxLen; omega) (by omega) hbase
    have R := row_step (new := cs) (Kp.refl [] w) hown1 hgrow hat
    obtain ⟨ao', c', hv⟩ := R.1.shape
    subst hv
    have hK := h ao' _ c' w1 R.1 R.2
    unfold Oper.wp execOp
    simp only [ho, resolve, invoke, builtin, Sem.run_bind, Sem.run_pure, Result.andThen_ok, List.map_toArray, List.map_cons, List.map_nil, hs, hx, hr]
    exact hK


def digs : ByteArray := ⟨#[48, 49, 50, 51, 52, 53, 54, 55, 56, 57, 97, 98, 99, 100, 101, 102]⟩
/-- The sign of a half byte. -/
def sg (i : Int) : Int := (digs.data.getD i.toNat 0).toNat
def hexs (bs : List Int) : List Int := bs.flatMap fun x => [sg (x / 16), sg (x % 16)]
theorem hexs_snoc (bs : List Int) (k : Nat) (hk : k < bs.length) : hexs (bs.take (k + 1)) = hexs (bs.take k) ++ [sg (bs.getD k 0 / 16), sg (bs.getD k 0 % 16)] := by
  unfold hexs
  rw [List.take_succ_eq_append_getElem hk, List.flatMap_append]
  simp [List.getElem?_eq_getElem hk]
theorem hexs_len (bs : List Int) : (hexs bs).length = 2 * bs.length := by
  unfold hexs
  induction bs with
  | nil => rfl
  | cons a s ih => simp only [List.flatMap_cons, List.length_append, ih, List.length_cons, List.length_nil]; omega
theorem sg_eq (i : Int) (h : i.toNat < digs.size) : ((digs[i.toNat]'h).toNat : Int) = sg i := by
  have e : digs.data.getD i.toNat 0 = digs[i.toNat]'h := by
    have h' : i.toNat < digs.data.size := h
    rw [Array.getD_eq_getD_getElem?, Array.getElem?_eq_getElem h']
    rfl
  unfold sg
  rw [e]
theorem and15 (x : Int) (h0 : 0 ≤ x) (h1 : x ≤ 255) : bits .and .u8 x 15 = x % 16 := by
  obtain ⟨m, rfl⟩ := Int.eq_ofNat_of_zero_le h0
  have h : ∀ m ∈ List.range 256, bits .and .u8 (m : Int) 15 = (m : Int) % 16 := by decide +kernel
  exact h m (by simp; omega)

end Go.Proofs.Ytjmabnchaglpdaa
