/-
  The contracts of package wire's writer over this seat's program: New, number, Num: what a call writes behind what there was, and what it leaves alone.
-/
import Derived.Deep.RegionLaw
import Derived.Test.YteabdojjllfcpaaGreatQC4
namespace Go.Proofs.YteabdojjllfcpaaGreat
open Go.RowKit
/-- A writer: its one cell at block p holds the slice v, which owns the bytes bs. -/
def Wr (w : World) (p : Nat) (v : Value) (bs : List Int) : Prop :=
  w.heap[p]? = some (.cells #[v] 192 (0, 0)) ∧ w.ownsRow (p + 1) 5 1 v bs.length (bs.map (Value.int .u8))
/-- One step of a writer: besides its cell and its row nothing old was changed; its row is the old one, or new. -/
def Step (p : Nat) (w : World) (v : Value) (w' : World) (v' : Value) : Prop :=
  Kp (p :: v.ownBlock.toList) w w' ∧ ∀ k, v'.ownBlock = some k → v.ownBlock = some k ∨ w.heap.size ≤ k
theorem Step.refl (p : Nat) (w : World) (v : Value) : Step p w v w v := ⟨Kp.refl _ _, fun _ h => .inl h⟩
theorem Step.trans {p : Nat} {a b c : World} {u v x : Value} (h : Step p a u b v) (k : Step p b v c x) : Step p a u c x := by
  refine ⟨h.1.then k.1 (fun i hi => ?_), fun i hi => ?_⟩
  · simp only [List.mem_cons, Option.mem_toList] at hi ⊢
    rcases hi with rfl | hi
    · exact .inl (.inl rfl)
    · rcases h.2 i hi with h1 | h1
      · exact .inl (.inr h1)
      · exact .inr h1
  · rcases k.2 i hi with h1 | h1
    · exact h.2 i h1
    · exact .inr (Nat.le_trans h.1.size h1)
theorem Wr.cell {w : World} {p : Nat} {v : Value} {bs : List Int} (h : Wr w p v bs) : w.cell? ⟨p, 0, none⟩ = some v := cell_of_one h.1
theorem Wr.free {w : World} {p : Nat} {v : Value} {bs : List Int} (h : Wr w p v bs) : w.frozen? ⟨p, 0, none⟩ = false := free_of_one h.1
theorem Wr.lt {w : World} {p : Nat} {v : Value} {bs : List Int} (h : Wr w p v bs) : p < w.heap.size := lt_of_block h.1
theorem Wr.ne {w : World} {p : Nat} {v : Value} {bs : List Int} (h : Wr w p v bs) : v.ownBlock ≠ some p := fun e => by have := h.2.lt p e; omega
theorem Wr.kept {w w' : World} {p : Nat} {v : Value} {bs : List Int} {S : List Nat} (h : Wr w p v bs) (k : Kp S w w') (hp : p ∉ S) (hv : ∀ i, v.ownBlock = some i → i ∉ S) : Wr w' p v bs :=
  ⟨k.heap h.1 hp, k.owns h.2 hv⟩
/-- behind an append and the store of its slice. -/
theorem wr_step {wr w0 w1 : World} {p g cap : Nat} {v : Value} {bs new : List Int} (h : Wr wr p v bs) (h0 : Kp [] wr w0)
    (hown : w1.ownsRow (p + 1) 5 1 (.slice (some ⟨g, 0, none⟩) (bs.length + new.length) cap) (bs.length + new.length) (bs.map (Value.int .u8) ++ new.map (Value.int .u8)))
    (hgrow : w0.grownBy w1 v.ownBlock) (hat : v.ownBlock = some g ∨ wr.heap.size ≤ g) :
    Wr (w1.setCell ⟨p, 0, none⟩ (.slice (some ⟨g, 0, none⟩) (bs.length + new.length) cap)) p (.slice (some ⟨g, 0, none⟩) (bs.length + new.length) cap) (bs ++ new) ∧
      Step p wr v (w1.setCell ⟨p, 0, none⟩ (.slice (some ⟨g, 0, none⟩) (bs.length + new.length) cap)) (.slice (some ⟨g, 0, none⟩) (bs.length + new.length) cap) := by
  have h1 : w1.heap[p]? = some (.cells #[v] 192 (0, 0)) := by
    rw [hgrow.block p (Nat.lt_of_lt_of_le h.lt h0.size) (Ne.symm h.ne)]
    exact h0.heap h.1 (by simp)
  refine ⟨⟨one_setCell h1, ?_⟩, ?_, ?_⟩
  · have := ownsRow_setCell_below hown (a := ⟨p, 0, none⟩) (by simp) (.slice (some ⟨g, 0, none⟩) (bs.length + new.length) cap)
    simpa using this
  · have k1 : Kp (p :: v.ownBlock.toList) wr w0 := h0.mono (by simp)
    have k2 := k1.grown hgrow (fun k hk => .inl (by simp [hk]))
    exact k2.setCell (p := ⟨p, 0, none⟩) (.inl (by simp)) _
  · intro k hk
    simp only [Value.ownBlock, Option.some.injEq] at hk
    subst hk
    exact hat
/-- Byte number j of n, counted from the lowest. -/
def byteAt (n : Int) (j : Nat) : Int := n / 256 ^ j % 256
/-- The lowest size bytes of n from the highest on, down to byte k. -/
def be (n : Int) (size k : Nat) : List Int := (List.range (size - k)).map fun t => byteAt n (size - 1 - t)
theorem be_none (n : Int) (size : Nat) : be n size size = [] := by simp [be]
theorem be_step (n : Int) (size j : Nat) (h : j + 1 ≤ size) : be n size j = be n size (j + 1) ++ [byteAt n j] := by
  unfold be
  rw [show size - j = (size - (j + 1)) + 1 from by omega, List.range_succ, List.map_append]
  simp only [List.map_cons, List.map_nil]
  rw [show size - 1 - (size - (j + 1)) = j from by omega]
theorem be_length (n : Int) (size k : Nat) : (be n size k).length = size - k := by simp [be]
theorem byte_wrap (n : Int) (j : Nat) : IntKind.u8.wrap (n / 2 ^ (8 * (j : Int)).toNat) = byteAt n j := by
  have e : (8 * (j : Int)).toNat = 8 * j := by omega
  rw [e, Int.pow_mul]
  simp [IntKind.wrap, IntKind.signed, IntKind.bits, byteAt]
theorem wnew_any (w : World) : Calls Tryz.prog 116 #[] w fun e w' => e = .returned (.pointer (some ⟨w.heap.size, 0, none⟩)) ∧ w' = w.alloc (.cells #[.slice none 0 0] 192) := by
  go_enter Tryz.func116, Tryz.ntmps116
  go_wp2
  go_ret
  exact ⟨rfl, rfl⟩
theorem wr_new (w : World) : Wr (w.alloc (.cells #[.slice none 0 0] 192)) w.heap.size (.slice none 0 0) [] :=
  ⟨heap_alloc_new w _, World.ownsRow_nil _ _ _ _⟩
/-- New, told without its world. -/
theorem new_abs (w : World) : Calls Tryz.prog 116 #[] w fun e w' => ∃ p, e = .returned (.pointer (some ⟨p, 0, none⟩)) ∧ Wr w' p (.slice none 0 0) [] ∧ w.heap.size ≤ p ∧ Kp [] w w' :=
  (wnew_any w).mono fun _ _ ⟨h1, h2⟩ => ⟨w.heap.size, h1, h2 ▸ wr_new w, Nat.le_refl _, h2 ▸ (Kp.refl [] w).alloc _⟩
set_option maxHeartbeats 400000 in
theorem number_any (p : Nat) (n : Int) (size : Nat) (v : Value) (bs : List Int) (w : World) (hw : Wr w p v bs) (hs : size ≤ 4) (hb : bs.length ≤ 100000000000000) :
    Calls Tryz.prog 124 #[.pointer (some ⟨p, 0, none⟩), .int .u32 n, .int .i64 size] w fun e w' => e = .returned (.tuple #[]) ∧ ∃ v', Wr w' p v' (bs ++ be n size 0) ∧ Step p w v w' v' := by
  obtain ⟨i0, hi0, hz0, hz1, hz2⟩ := info_parts Tryz.info5
  go_enter Tryz.func124, Tryz.ntmps124
  go_wp2
  go_loopw [6] (fun i wr => ∃ k : Nat, k ≤ size ∧ i = .int .i64 ((k : Int) - 1) ∧ ∃ v', Wr wr p v' (bs ++ be n size k) ∧ Step p w v wr v') (fun i _ => (intOf i + 1).toNat)
  case atStart => exact ⟨size, Nat.le_refl _, rfl, v, by rw [be_none, List.append_nil]; exact hw, Step.refl _ _ _⟩
  case round =>
    obtain ⟨k, hk, rfl, v', hw', hst⟩ := hrel
    by_cases hk0 : 0 < k
    · obtain ⟨j, rfl⟩ : ∃ j : Nat, k = j + 1 := ⟨k - 1, by omega⟩
      obtain ⟨cs, hcs⟩ : ∃ cs, cs = bs ++ be n size (j + 1) := ⟨_, rfl⟩
      rw [← hcs] at hw'
      have hlen : cs.length ≤ 100000000000004 := by rw [hcs, List.length_append, be_length]; omega
      have HC : Hid (cs = bs ++ be n size (j + 1)) := hcs
      clear hcs
      have hc := hw'.cell
      have hf := hw'.free
      have hown := hw'.2
      have hlt := hw'.lt
      have hfa : ∀ o, (wr.alloc o).frozen? ⟨p, 0, none⟩ = false := fun o => by rw [World.frozen?_alloc_old _ _ _ (by simp; omega)]; exact hf
      have hca : ∀ o, (wr.alloc o).cell? ⟨p, 0, none⟩ = some v' := fun o => (World.cell?_alloc_lt _ _ _ (by exact hlt)).trans hc
      have hne := hw'.ne
      have hwrp : IntKind.i64.wrap (8 * (j : Int)) = 8 * (j : Int) := by simp [IntKind.wrap, IntKind.signed, IntKind.bits]; omega
      have hj0 : (0 : Int) ≤ 8 * (j : Int) := by omega
      have hj1 : 8 * (j : Int) ≤ 32 := by omega
      have hbw := byte_wrap n j
      go_wp2
      go_region_law ((refine step_append_lies _ (by rfl) _ _ _ (by rfl) (p + 1) 5 i0 _ 1 1 Tryz.underlying28 hi0 hz0 hz1 hz2 rfl (by omega) v' _ _ (by rfl) ((hown.alloc _).drew) ⟨wr.heap.size, 0, none⟩ 1 1 [.int .u8 (byteAt n j)] (by rfl) (by rfl) (World.news_of_block (cs := #[.int .u8 (byteAt n j)]) (t := 5) (fr := (0, 0)) (heap_alloc_new wr _)) (by simp [Value.oneCell']) (by omega) (by unfold maxLen; omega) (by omega) (by simp; omega) (wr.heap.size + 1) (by simp) ?_; intro gg cap w1 hown1 hgrow hat hltg; have hc1 : w1.cell? ⟨p, 0, none⟩ = some v' := (by rw [hgrow.cell_far _ (by simp; omega) (Ne.symm hne)]; simpa using hca _); have hf1 : w1.frozen? ⟨p, 0, none⟩ = false := (by rw [hgrow.frozen_far _ (by simp; omega) (Ne.symm hne)]; simpa using hfa _)))
      all_goals
        have R := wr_step (new := [byteAt n j]) hw' (((Kp.refl [] wr).alloc _).drew) hown1 hgrow (hat.imp id (fun e => by omega))
        clear hown1 hgrow hat hltg hown hc hf hfa hca hne hc1 hf1
        go_wp2
        go_roundw
        case rel => exact ⟨j, by omega, by go_num, _, by rw [be_step n size j hk, ← List.append_assoc, ← HC.out]; exact R.1, hst.trans R.2⟩
        case measure => simp [intOf]
    · obtain rfl : k = 0 := by omega
      go_wp2
      go_end0
      exact ⟨rfl, v', hw', hst⟩
theorem num_any (p : Nat) (n : Int) (v : Value) (bs : List Int) (w : World) (hw : Wr w p v bs) (hb : bs.length ≤ 100000000000000) :
    Calls Tryz.prog 117 #[.pointer (some ⟨p, 0, none⟩), .int .u32 n] w fun e w' => e = .returned (.tuple #[]) ∧ ∃ v', Wr w' p v' (bs ++ be n 4 0) ∧ Step p w v w' v' := by
  go_enter Tryz.func117, Tryz.ntmps117
  go_wp2_with (go_at_call 124; refine (number_any p n 4 v bs _ hw (by omega) hb).mono ?_; rintro e w' ⟨rfl, v', h1, h2⟩)
  go_end0
  exact ⟨rfl, v', h1, h2⟩
end Go.Proofs.YteabdojjllfcpaaGreat

/-
  The contract of the program's Hex.
-/
namespace Go.Proofs.YteabdojjllfcpaaGreat
open Go.RowKit
/-- append at a step of a region that draws its order. -/
theorem step_append_row {w : World} {ops : Array Oper} {o : Oper} {a : Act} {K : Act → World → Prop} {Q : Exit → Act → World → Prop} {E : Prop} (hgd : o.guard = none) (s x : Operand)
    (ho : o.op = .call { callee := .builtin .append, args := #[s, x], argTypes := #[28, 28] }) (base : Nat) (v : Value) (bs : List Int) (hs : a.eval s = v) (hrow : Row w base v bs)
    (vx : Value) (cs : List Int) (hx : a.eval x = vx) (hS : Sl w vx cs) (hb : bs.length + cs.length ≤ 140737488355328) (hbase : base ≤ w.heap.size)
    (h : ∀ ao m c w', Row w' base (.slice ao m c) (bs ++ cs) → RStep w v w' (.slice ao m c) → K (a.put o.dst (.slice ao m c)) w') :
    if Region.wanted o (yielded ops a.tmps) = true then Oper.wp Tryz.prog o a w K Q else E := by
  have hw : Region.wanted o (yielded ops a.tmps) = true := by simp [Region.wanted, hgd]
  rw [if_pos hw]
  obtain ⟨i0, hi0, hz0, hz1, hz2⟩ := info_parts Tryz.info5
  obtain ⟨av, cv, rfl⟩ := hrow.shape
  obtain ⟨ax, cx, rfl, h1, h2, h3, h4⟩ := hS
  cases ax with
  | none =>
    have : cs = [] := List.eq_nil_of_length_eq_zero (by have := h3 rfl; omega)
    subst this
    obtain rfl := h3 rfl
    have hrun := run_append_owned_none (P := Tryz.prog) (w := w) base 28 o.type 5 i0 1 Tryz.underlying28 hi0 _ _ _ hrow
    have hK := h av bs.length cv w
    simp only [List.append_nil] at hK
    unfold Oper.wp
    simp [execOp, ho, resolve, invoke, builtin, hs, hx, hrun, Result.andThen]
    exact hK hrow (RStep.refl _ _)
  | some a' =>
    obtain ⟨v', w1, hr, hown1, hgrow, _, hat⟩ := run_append_own_at (P := Tryz.prog) w base 28 o.type 5 i0 (.int .u8 0) 1 1 Tryz.underlying28 hi0 hz0 hz1 hz2 rfl (by decide) _ bs.length (bs.map (Value.int .u8)) hrow a' cs.length cx (cs.map (Value.int .u8)) (by simp) (h4 a' rfl) (by simp [Value.oneCell']) (by unfold maxLen; omega) (by omega) hbase
    have R := row_step (new := cs) (Kp.refl [] w) hown1 hgrow hat
    obtain ⟨ao', c', hv⟩ := R.1.shape
    subst hv
    have hK := h ao' _ c' w1 R.1 R.2
    unfold Oper.wp execOp
    simp only [ho, resolve, invoke, builtin, Sem.run_bind, Sem.run_pure, Result.andThen_ok, List.map_toArray, List.map_cons, List.map_nil, hs, hx, hr]
    exact hK
end Go.Proofs.YteabdojjllfcpaaGreat

/-
  The contracts of the reference's constants and Sum.
-/
namespace Go.Proofs.YteabdojjllfcpaaGreat
open Go.RowKit
set_option maxRecDepth 100000 in
set_option maxHeartbeats 4000000 in
theorem consts_any (w : World) : Calls Tryz.prog 101 #[] w fun e w' => e = .returned (ag consts) ∧ Kp [] w w' := by
  obtain ⟨i0, hi0, hz0⟩ := Tryz.zero64
  go_enter Tryz.func101, Tryz.ntmps101
  go_wp2_with (first
    | (refine wpList_alloc_ar (w := w) rfl 167 rfl i0 _ hi0 hz0 ?_; intro w1 A1 K1 z1)
    | (refine wpList_store_ar rfl 167 (.tmp 0) (.tmp 1) rfl w.heap.size rfl _ _ consts A1 rfl rfl Tryz.sz64 ?_; intro w2 A2 K2 z2))
  refine bodyPost_ret (results_cell_row rfl _ w2 w.heap.size _ _ (0, 0) (.array 64 95) rfl A2 Tryz.underlying167 rfl Tryz.sz64) rfl ?_
  exact ⟨rfl, K1.then K2 (by simp)⟩
/-- What is left of a text behind k blocks. -/
theorem blks_succ (k : Nat) (s bs : List Int) : blks (k + 1) s bs = blk (blks k s bs) ((bs.drop (64 * k)).take 64) := rfl
set_option maxRecDepth 100000 in
set_option maxHeartbeats 2000000 in
theorem refsum_any (vb : Value) (bs : List Int) (w : World) (hS : Sl w vb bs) (hB : Bs bs) (hl : bs.length ≤ 1000000000000) :
    Calls Tryz.prog 76 #[vb] w fun e w' => ∃ ao m c, e = .returned (.slice ao m c) ∧ Row w' w.heap.size (.slice ao m c) (sha bs) ∧ Kp [] w w' := by
  obtain ⟨i0, hi0, hz0⟩ := Tryz.zero64
  obtain ⟨i8, hi8, hz8⟩ := Tryz.zero8
  have HB : Hid (Bs bs) := hB
  have HSl : Hid (Sl w vb bs) := hS
  obtain ⟨ab, cb, rfl, h1, h2, h3, _⟩ := hS
  obtain ⟨N, hN⟩ : ∃ N, N = bs.length := ⟨_, rfl⟩
  rw [← hN] at h1 HSl ⊢
  have HN := hide hN
  have hNl : N ≤ 1000000000000 := by omega
  clear hB hN hl
  go_enter Tryz.func76, Tryz.ntmps76
  go_wp2_with (first
    | (refine wpList_alloc_ar (w := w) rfl 166 rfl i8 _ hi8 hz8 ?_; intro w1 A1 K1 z1)
    | (refine wpList_store_ar rfl 166 (.tmp 3) (.tmp 10) rfl w.heap.size rfl _ _ begin8 A1 rfl rfl Tryz.sz8 ?_; intro w2 A2 K2 z2)
    | (go_at_call 101; refine (consts_any _).mono ?_; rintro ee w3 ⟨rfl, K3⟩)
    | (refine wpList_alloc_ar (w := w3) rfl 167 rfl i0 _ hi0 hz0 ?_; intro w4 A4 K4 z4)
    | (refine wpList_store_ar rfl 167 (.tmp 4) (.tmp 11) rfl w3.heap.size rfl _ _ consts A4 rfl rfl Tryz.sz64 ?_; intro w5 A5 K5 z5))
  obtain ⟨b1, hb1⟩ : ∃ b, b = w.heap.size := ⟨_, rfl⟩
  obtain ⟨b2, hb2⟩ : ∃ b, b = w3.heap.size := ⟨_, rfl⟩
  rw [← hb2] at A4 A5 K5
  rw [← hb1] at A1 A2 K2
  simp only [← hb1, ← hb2]
  have hs3 := K3.size
  have hs1 := K1.size
  have hA2l := A2.lt
  have hne : b1 ≠ b2 := by omega
  have K25 : Kp [] w2 w4 := K3.trans K4
  have hAH : Hid (Ar w5 b1 166 begin8) := (A2.kept K25 (by simp)).kept K5 (by simpa using hne)
  have hAK : Hid (Ar w5 b2 167 consts) := A5
  have hKW : Hid (Kp [] w w5) := ((K1.then K2 (by simp; omega)).trans K25).then K5 (by simp; omega)
  have hbw2 : w.heap.size ≤ b2 := by omega
  have HB1 := hide hb1
  clear A1 A2 A4 A5 K1 K2 K3 K4 K5 K25 z1 z2 z4 z5 hs3 hs1 hA2l hb1 hb2
  go_loopw [0] (fun v wr => ∃ (k m c : Nat) (ao : Option Addr), 64 * k ≤ N ∧ v = .slice ao m c ∧ Sl w v (bs.drop (64 * k)) ∧ Kp [b1] w5 wr ∧ Ar wr b1 166 (blks k begin8 bs)) (fun v _ => (match v with | .slice _ m _ => m | _ => 0))
  case atStart => exact ⟨0, N, cb, ab, by omega, rfl, by simpa using unhide HSl, Kp.refl _ _, unhide hAH⟩
  case round =>
    obtain ⟨k, m, c, ao, hk, rfl, Sk, Kr, Ak⟩ := hrel
    have hlk := blks_len begin8 bs rfl k
    have hml : m = N - 64 * k := by obtain ⟨_, _, e, _⟩ := Sk; injection e with _ e2 _; rw [e2]; simp; have := unhide HN; omega
    have hmc : m ≤ c ∧ c ≤ maxLen ∧ (ao = none → c = 0) := by obtain ⟨_, _, e, x1, x2, x3, _⟩ := Sk; injection e with e1 e2 e3; subst e1; subst e3; exact ⟨by omega, x2, x3⟩
    obtain ⟨hmc, hcx, hao⟩ := hmc
    unfold maxLen at hcx
    have hKw : Hid (Kp [b1] w wr) := ((unhide hKW).mono (by simp)).trans Kr
    have hbl1 : w.heap.size ≤ b1 := by have := unhide HB1; omega
    by_cases hge : 64 ≤ m
    · cases ao with
      | none => have := hao rfl; omega
      | some a =>
      have hgi : (64 : Int) ≤ (m : Int) := by omega
      have hgc : (64 : Int) ≤ (c : Int) := by omega
      have hdl : (bs.drop (64 * k)).length = m := by have := unhide HN; simp; omega
      have ST := Sk.take 64 (by omega)
      have hST : Hid (Sl wr.drew (.slice (some a) 64 c) ((bs.drop (64 * k)).take 64)) := (ST.old (unhide hKw) (by intro i _ hi; simp; omega)).kept (kp_drew wr) (by simp)
      have hSD := hide (Sk.drop 64 (by omega))
      have hdd : (bs.drop (64 * k)).drop 64 = bs.drop (64 * (k + 1)) := by rw [List.drop_drop]; congr 1
      rw [hdd] at hSD
      have hb64 : ((bs.drop (64 * k)).take 64).length = 64 := by simp; have := unhide HN; omega
      have hKr := hide Kr
      obtain ⟨sk, hsk⟩ : ∃ sk, sk = blks k begin8 bs := ⟨_, rfl⟩
      have HSK := hide hsk
      have AD : Ar wr.drew b1 166 (blks k begin8 bs) := Ak
      rw [← hsk] at AD hlk
      have hAD := hide AD
      have hAKr : Hid (Ar wr.drew b2 167 consts) := (unhide hAK).kept Kr.drew (by simpa using Ne.symm hne)
      have hi : (Tryz.prog.info? 166).map (·.size) = some sk.length := by rw [hlk]; exact Tryz.sz8
      have HML := hide hml
      clear Sk ST Kr Ak AD hsk hdd hdl hml
      go_wp2_with fail
      refine region_tail 3 Tryz.mixed (by kernel_rfl) ?_
      simp only [List.take_succ_cons, List.take_zero, List.drop_succ_cons, List.drop_zero]
      go_big_quiet_want
      refine quiet_load_ar 166 (.tmp 3) rfl b1 rfl _ sk 8 95 (unhide hAD) Tryz.underlying166 hi ?_
      simp only [Act.put, List.set_cons_zero, List.set_cons_succ, List.setIfInBounds_toArray]
      go_big_quiet_on
      repeat (first | go_big_quiet_skip | (go_big_quiet_want; go_big_quiet_op; go_big_quiet_on))
      refine wpQuiet_nil ?_
      have hbl := blk_len sk ((bs.drop (64 * k)).take 64) hlk
      have hi6 : (Tryz.prog.info? 166).map (·.size) = some (blk sk ((bs.drop (64 * k)).take 64)).length := by rw [hbl]; exact Tryz.sz8
      by_cases hc : c = 64
      · obtain rfl : c = 64 := hc
        obtain rfl : m = 64 := by omega
        go_wp2_with (first
          | (go_at_call 102; refine (block_any sk b2 _ _ _ hlk (unhide hAKr) (unhide hST) hb64 (((unhide HB).drop _).take _)).mono ?_; rintro ee w6 ⟨rfl, K6⟩; have A6 := (unhide hAD).kept K6 (by simp))
          | (refine wpList_store_ar rfl 166 (.tmp 3) (.tmp 20) rfl b1 rfl _ _ _ A6 rfl (by rw [hbl]; exact hlk) hi6 ?_; intro w7 A7 K7 z7))
        go_roundw
        case rel =>
          refine ⟨k + 1, 0, 0, some a, by have := unhide HML; omega, rfl, ?_, (((unhide hKr).drew).trans (K6.mono (by simp))).trans K7, ?_⟩
          · have := unhide hSD; rwa [if_pos trivial] at this
          · rw [blks_succ, ← unhide HSK]; exact A7
        case measure => show 0 < 64; omega
      · go_wp2_with (first
          | (go_at_call 102; refine (block_any sk b2 _ _ _ hlk (unhide hAKr) (unhide hST) hb64 (((unhide HB).drop _).take _)).mono ?_; rintro ee w6 ⟨rfl, K6⟩; have A6 := (unhide hAD).kept K6 (by simp))
          | (refine wpList_store_ar rfl 166 (.tmp 3) (.tmp 20) rfl b1 rfl _ _ _ A6 rfl (by rw [hbl]; exact hlk) hi6 ?_; intro w7 A7 K7 z7))
        go_roundw
        case rel =>
          refine ⟨k + 1, m - 64, c - 64, some (a.add 64), by have := unhide HML; omega, rfl, ?_, (((unhide hKr).drew).trans (K6.mono (by simp))).trans K7, ?_⟩
          · have := unhide hSD; rwa [if_neg hc] at this
          · rw [blks_succ, ← unhide HSK]; exact A7
        case measure => show m - 64 < m; omega
    · have hk64 : k = N / 64 := by omega
      obtain ⟨w6, hw6⟩ : ∃ w6, w6 = wr := ⟨_, rfl⟩
      subst hw6
      obtain ⟨rs, hrs⟩ : ∃ rs, rs = bs.drop (64 * k) := ⟨_, rfl⟩
      have hrl : rs.length = m := by rw [hrs]; simp; have := unhide HN; omega
      have hrl64 : rs.length < 64 := by omega
      have hS6 : Sl w6 (.slice ao m c) rs := by rw [hrs]; exact Sk.old (unhide hKw) (by intro i _ hi; simp; omega)
      obtain ⟨s1, hs1⟩ : ∃ s1, s1 = blks k begin8 bs := ⟨_, rfl⟩
      rw [← hs1] at Ak hlk
      have HRS := hide hrs
      have HS1 := hide hs1
      have HK64 := hide hk64
      have hA6 := hide Ak
      have hA26 : Hid (Ar w6 b2 167 consts) := (unhide hAK).kept Kr (by simpa using Ne.symm hne)
      have hl1 := Ak.lt
      have hl2 := (unhide hA26).lt
      have HS6 := hide hS6
      have HBr : Hid (Bs rs) := by rw [hrs]; exact (unhide HB).drop _
      have hmi : (m : Int) < 64 := by omega
      have HRL := hide hrl
      clear Sk Kr Ak hS6 hrs hs1 hk64 hrl hml hAH hAK hge
      have R0 : Row (w6.alloc (.cells #[] 5)) w6.heap.size (.slice (some ⟨w6.heap.size, 0, none⟩) 0 0) [] := World.ownsRow_made w6 #[] 0 (Nat.le_refl _) (by simp [maxLen]) rfl
      have hR0 := hide R0
      have HS60 := hide ((unhide HS6).kept ((Kp.refl [] w6).alloc (.cells #[] 5)) (by simp))
      have K60 : Kp [] w6 (w6.alloc (.cells #[] 5)) := (Kp.refl [] w6).alloc _
      clear R0
      go_wp2_with (first
        | (at_builtin; refine wpList_append_row rfl (.tmp 23) (.tmp 24) rfl w6.heap.size _ [] rfl (unhide hR0) _ rs rfl (unhide HS60) (by simp; omega) K60.size ?_; intro ao7 m7 c7 w7 r7 s7; have K7 := (unhide hR0).step K60 s7; rw [List.nil_append] at r7)
        | (at_builtin; refine wpList_append_row rfl (.tmp 25) (.tmp 26) rfl w6.heap.size _ rs rfl (r7.kept ((Kp.refl [] w7).alloc _) (by simp)) _ [128] rfl (one_block w7 128) (by simp; omega) (by have := K7.size; simp; omega) ?_; intro ao8 m8 c8 w8 r8 s8; have K8 := r7.step K7 (s8.after ((Kp.refl [] w7).alloc _))))
      have hm8 := r8.len
      have hR3 : Row w8 w6.heap.size (.slice ao8 m8 c8) (rs ++ [128] ++ List.replicate 0 0) := by simpa using r8
      have hR := hide hR3
      have hK8 := hide K8
      clear r7 r8 hR3 K7 K8 s7 s8 hm8 K60 hR0 HS60
      go_loopw [6] (fun v wr => ∃ (z m c : Nat) (ao : Option Addr), z ≤ zeros rs.length ∧ v = .slice ao m c ∧ Row wr w6.heap.size v (rs ++ [128] ++ List.replicate z 0) ∧ Kp [] w6 wr) (fun v _ => 200 - (match v with | .slice _ m _ => m | _ => 0))
      case atStart => exact ⟨0, m8, c8, ao8, by omega, rfl, unhide hR, unhide hK8⟩
      case round =>
        obtain ⟨z, m, c, ao, hz, rfl, Rr, Kr⟩ := hrel
        have hml := Rr.len
        simp only [List.length_append, List.length_replicate, List.length_cons, List.length_nil] at hml
        have hzb : zeros rs.length < 64 := by unfold zeros; omega
        by_cases hlt : z < zeros rs.length
        · have hne6 : ¬ ((m : Int) % 64 = 56) := by unfold zeros at hlt; omega
          have hmm : m ≤ 150 := by omega
          have HML := hide hml
          have hrb : (rs ++ [128] ++ List.replicate z (0 : Int)).length ≤ 150 := by simp; omega
          clear hml
          go_wp2_with (at_builtin; refine wpList_append_row rfl (.tmp 32) (.tmp 33) rfl w6.heap.size _ _ rfl (Rr.kept ((Kp.refl [] wr).alloc _) (by simp)) _ [0] rfl (one_block wr 0) (by simp only [List.length_cons, List.length_nil]; omega) (by have := Kr.size; simp; omega) ?_; intro ao2 m2 c2 w2 r2 s2)
          have hm2 := r2.len
          simp only [List.length_append, List.length_replicate, List.length_cons, List.length_nil] at hm2
          go_roundw
          case rel =>
            refine ⟨z + 1, m2, c2, ao2, by omega, rfl, ?_, Rr.step Kr (s2.after ((Kp.refl [] wr).alloc _))⟩
            rw [List.replicate_succ', ← List.append_assoc]
            exact r2
          case measure => show 200 - m2 < 200 - m; have := unhide HML; omega
        · have hzz : z = zeros rs.length := by omega
          have he : (m : Int) % 64 = 56 := by rw [hzz] at hml; unfold zeros at hml; omega
          obtain ⟨pre, hpre⟩ : ∃ pre, pre = rs ++ [128] ++ List.replicate z 0 := ⟨_, rfl⟩
          have hpl : pre.length ≤ 128 := by rw [hpre]; simp; omega
          have hR9 : Row wr w6.heap.size (.slice ao m c) (pre ++ (be8 (N * 8)).take 0) := by simpa [hpre] using Rr
          have HR9 := hide hR9
          have HK9 := hide Kr
          have HP : Hid (pre ++ (be8 (N * 8)).take 8 = pad rs N) := by
            show _ = _
            unfold pad
            rw [hpre, hzz, List.take_of_length_le (by simp [be8])]
          clear hpre Rr Kr hR9 hml hzz hlt hz hzb
          have hN8 : (N : Int) * 8 ≤ 8000000000000 := by omega
          go_wp2_with fail
          clear he
          go_loopw [6, 7] (fun v i wr => ∃ (j m c : Nat) (ao : Option Addr), j ≤ 8 ∧ v = .slice ao m c ∧ i = .int .i64 (7 - (j : Int)) ∧ Row wr w6.heap.size v (pre ++ (be8 (N * 8)).take j) ∧ Kp [] w6 wr) (fun _ i _ => (intOf i + 1).toNat)
          case atStart => exact ⟨0, m, c, ao, by omega, rfl, rfl, unhide HR9, unhide HK9⟩
          case round =>
            obtain ⟨j, m, c, ao, hj, rfl, rfl, Rr, Kr⟩ := hrel
            by_cases hlt : j < 8
            · have hj2 : (j : Int) < 8 := by omega
              have hj3 : (j : Int) ≤ 7 := by omega
              have HT := hide (be8_take (N * 8) j hlt)
              have hpj : (pre ++ (be8 (N * 8)).take j).length ≤ 136 := by simp [be8]; omega
              obtain ⟨q, hq⟩ : ∃ q, q = pre ++ (be8 (N * 8)).take j := ⟨_, rfl⟩
              rw [← hq] at hpj Rr
              have HQ := hide hq
              clear hq
              go_wp2_with (at_builtin; refine wpList_append_row rfl (.tmp 39) (.tmp 48) rfl w6.heap.size _ _ rfl (Rr.kept ((Kp.refl [] wr).alloc _) (by simp)) _ [(N : Int) * 8 / 2 ^ (8 * (7 - j)) % 256] rfl (one_block wr _) (by simp; omega) (by have := Kr.size; simp; omega) ?_; intro ao2 m2 c2 w2 r2 s2)
              go_roundw
              case rel =>
                refine ⟨j + 1, m2, c2, ao2, by omega, rfl, by go_num, ?_, Rr.step Kr (s2.after ((Kp.refl [] wr).alloc _))⟩
                rw [unhide HT, ← List.append_assoc, ← unhide HQ]
                exact r2
              case measure => simp [intOf]; omega
            · obtain rfl : j = 8 := by omega
              rw [unhide HP] at Rr
              have e78 : (7 : Int) - ((8 : Nat) : Int) = -1 := by decide
              simp only [e78]
              clear e78
              obtain ⟨w9, hw9⟩ : ∃ w9, w9 = wr := ⟨_, rfl⟩
              subst hw9
              obtain ⟨pp, hpp⟩ : ∃ pp, pp = pad rs N := ⟨_, rfl⟩
              have hpl2 := pad_len rs N hrl64
              have HBp : Hid (Bs pp) := by rw [hpp]; exact pad_bs rs N (unhide HBr)
              rw [← hpp] at Rr hpl2
              obtain ⟨q, hq⟩ : ∃ q, q = pp.length / 64 := ⟨_, rfl⟩
              rw [← hq] at hpl2
              obtain ⟨hpq, hp128⟩ := hpl2
              have hmp : m = pp.length := Rr.len
              have hown : ∀ i, (Value.slice ao m c).ownBlock = some i → b1 ≠ i := fun i hi => by have := Rr.own i hi; omega
              have hown2 : ∀ i, (Value.slice ao m c).ownBlock = some i → b2 ≠ i := fun i hi => by have := Rr.own i hi; omega
              have hS9 := hide Rr.sl
              have hA9 := hide ((unhide hA6).kept Kr (by simp))
              have hA29 := hide ((unhide hA26).kept Kr (by simp))
              have hK9w : Hid (Kp [b1] w w9) := (unhide hKw).trans (Kr.mono (by simp))
              have HPP := hide hpp
              have HQ := hide hq
              have HPQ := hide hpq
              have hq2 : q ≤ 2 := by omega
              have HMP := hide hmp
              clear Rr Kr hpp hq hmp HR9 HK9 HP hpl hN8 hK8 hR hA6 hA26
              go_wp2_with fail
              go_loopw [6] (fun v wr => ∃ (j m c : Nat) (ao : Option Addr), j ≤ q ∧ v = .slice ao m c ∧ m = 64 * (q - j) ∧ (∀ i, v.ownBlock = some i → b1 ≠ i) ∧ Sl w9 v (pp.drop (64 * j)) ∧ Kp [b1] w9 wr ∧ Ar wr b1 166 (blks j s1 pp)) (fun v _ => (match v with | .slice _ m _ => m | _ => 0))
              case atStart => exact ⟨0, m, c, ao, by omega, rfl, by have := unhide HMP; have := unhide HPQ; omega, hown, by simpa using unhide hS9, Kp.refl _ _, unhide hA9⟩
              case round =>
                obtain ⟨j, m, c, ao, hj, rfl, hm, ho1, Sj, Kr, Aj⟩ := hrel
                have hlj := blks_len s1 pp hlk j
                have hmc : m ≤ c ∧ c ≤ maxLen ∧ (ao = none → c = 0) := by obtain ⟨_, _, e, x1, x2, x3, _⟩ := Sj; injection e with e1 e2 e3; subst e1; subst e3; exact ⟨by omega, x2, x3⟩
                obtain ⟨hmc, hcx, hao⟩ := hmc
                unfold maxLen at hcx
                by_cases hlt : j < q
                · have hge : 64 ≤ m := by omega
                  cases ao with
                  | none => have := hao rfl; omega
                  | some a =>
                  have hgi : (64 : Int) ≤ (m : Int) := by omega
                  have hg0 : (0 : Int) < (m : Int) := by omega
                  have hgc : (64 : Int) ≤ (c : Int) := by omega
                  have hdl : (pp.drop (64 * j)).length = m := by have := unhide HPQ; simp; omega
                  have ST := Sj.take 64 (by omega)
                  have hST : Hid (Sl wr.drew (.slice (some a) 64 c) ((pp.drop (64 * j)).take 64)) := (ST.kept Kr (by intro i hi; have := ho1 i hi; simp; omega)).kept (kp_drew wr) (by simp)
                  have hSD := hide (Sj.drop 64 (by omega))
                  have hdd : (pp.drop (64 * j)).drop 64 = pp.drop (64 * (j + 1)) := by rw [List.drop_drop]; congr 1
                  rw [hdd] at hSD
                  have hb64 : ((pp.drop (64 * j)).take 64).length = 64 := by simp; have := unhide HPQ; omega
                  have hKr := hide Kr
                  obtain ⟨sk, hsk⟩ : ∃ sk, sk = blks j s1 pp := ⟨_, rfl⟩
                  have HSK := hide hsk
                  have AD : Ar wr.drew b1 166 (blks j s1 pp) := Aj
                  rw [← hsk] at AD hlj
                  have hAD := hide AD
                  have hAKr : Hid (Ar wr.drew b2 167 consts) := (unhide hA29).kept Kr.drew (by simpa using Ne.symm hne)
                  have hi : (Tryz.prog.info? 166).map (·.size) = some sk.length := by rw [hlj]; exact Tryz.sz8
                  have HML := hide hm
                  have HO1 := hide ho1
                  have hab1 : b1 ≠ a.block := ho1 a.block rfl
                  clear Sj ST Kr Aj AD hsk hdd hdl hm ho1
                  go_wp2_with fail
                  refine region_tail 3 Tryz.mixed (by kernel_rfl) ?_
                  simp only [List.take_succ_cons, List.take_zero, List.drop_succ_cons, List.drop_zero]
                  go_big_quiet_want
                  refine quiet_load_ar 166 (.tmp 3) rfl b1 rfl _ sk 8 95 (unhide hAD) Tryz.underlying166 hi ?_
                  simp only [Act.put, List.set_cons_zero, List.set_cons_succ, List.setIfInBounds_toArray]
                  go_big_quiet_on
                  repeat (first | go_big_quiet_skip | (go_big_quiet_want; go_big_quiet_op; go_big_quiet_on))
                  refine wpQuiet_nil ?_
                  have hbl := blk_len sk ((pp.drop (64 * j)).take 64) hlj
                  have hi6 : (Tryz.prog.info? 166).map (·.size) = some (blk sk ((pp.drop (64 * j)).take 64)).length := by rw [hbl]; exact Tryz.sz8
                  by_cases hc : c = 64
                  · obtain rfl : c = 64 := hc
                    obtain rfl : m = 64 := by omega
                    go_wp2_with (first
                      | (go_at_call 102; refine (block_any sk b2 _ _ _ hlj (unhide hAKr) (unhide hST) hb64 (((unhide HBp).drop _).take _)).mono ?_; rintro ee w10 ⟨rfl, K10⟩; have A10 := (unhide hAD).kept K10 (by simp))
                      | (refine wpList_store_ar rfl 166 (.tmp 3) (.tmp 56) rfl b1 rfl _ _ _ A10 rfl (by rw [hbl]; exact hlj) hi6 ?_; intro w11 A11 K11 z11))
                    go_roundw
                    case rel =>
                      refine ⟨j + 1, 0, 0, some a, by omega, rfl, by have := unhide HML; omega, unhide HO1, ?_, (((unhide hKr).drew).trans (K10.mono (by simp))).trans K11, ?_⟩
                      · have := unhide hSD; rwa [if_pos trivial] at this
                      · rw [blks_succ, ← unhide HSK]; exact A11
                    case measure => show 0 < 64; omega
                  · go_wp2_with (first
                      | (go_at_call 102; refine (block_any sk b2 _ _ _ hlj (unhide hAKr) (unhide hST) hb64 (((unhide HBp).drop _).take _)).mono ?_; rintro ee w10 ⟨rfl, K10⟩; have A10 := (unhide hAD).kept K10 (by simp))
                      | (refine wpList_store_ar rfl 166 (.tmp 3) (.tmp 56) rfl b1 rfl _ _ _ A10 rfl (by rw [hbl]; exact hlj) hi6 ?_; intro w11 A11 K11 z11))
                    go_roundw
                    case rel =>
                      refine ⟨j + 1, m - 64, c - 64, some (a.add 64), by omega, rfl, by have := unhide HML; omega, ?_, ?_, (((unhide hKr).drew).trans (K10.mono (by simp))).trans K11, ?_⟩
                      · intro i hi
                        have : i = a.block := by have e := hi; simp only [Value.ownBlock, Option.some.injEq] at e; rw [← e]
                        rw [this]; exact hab1
                      · have := unhide hSD; rwa [if_neg hc] at this
                      · rw [blks_succ, ← unhide HSK]; exact A11
                    case measure => show m - 64 < m; omega
                · obtain rfl : j = q := by omega
                  obtain rfl : m = 0 := by omega
                  obtain ⟨w10, hw10⟩ : ∃ w10, w10 = wr := ⟨_, rfl⟩
                  subst hw10
                  obtain ⟨s2, hs2⟩ : ∃ s2, s2 = blks j s1 pp := ⟨_, rfl⟩
                  rw [← hs2] at Aj hlj
                  have hfin : lay8 s2 = sha bs := by
                    have e1 := unhide HN
                    have e2 := unhide HK64
                    unfold sha fin8
                    rw [← e1, ← e2, hs2, unhide HS1, unhide HQ, unhide HPP, unhide HRS, Nat.mul_comm k 64]
                  have HF := hide hfin
                  have hA10 := hide Aj
                  have hl10 := Aj.lt
                  have hK10 : Hid (Kp [] w w10) := ((unhide hK9w).trans Kr).then (Kp.refl [] w10) (by simp) |>.below (Nat.le_refl _) (by simp; omega) |> fun h => ⟨h.os, h.tape, h.output, h.size, fun k hk _ => h.block k hk⟩
                  clear Sj Kr Aj hs2 hfin hA9 hA29 hK9w hS9 ho1 hm hmc
                  go_wp2_with fail
                  go_loopw [8, 9] (fun v i wr => ∃ (k m c : Nat) (ao : Option Addr), k ≤ 8 ∧ v = .slice ao m c ∧ i = .int .i64 k ∧ Row wr w10.heap.size v (lay8 (s2.take k)) ∧ Kp [] w10 wr) (fun _ i _ => 8 - (intOf i).toNat)
                  case atStart => exact ⟨0, 0, 0, none, by omega, rfl, rfl, ⟨rfl, .inl ⟨rfl, rfl⟩⟩, Kp.refl _ _⟩
                  case round =>
                    obtain ⟨k, m, c, ao, hk, rfl, rfl, Rr, Kr⟩ := hrel
                    by_cases hlt : k < 8
                    · have hlt2 : (k : Int) < 8 := by omega
                      have hck := ((unhide hA10).kept Kr (by simp)).cell k (by omega)
                      have hsn := lay8_snoc s2 k (by omega)
                      obtain ⟨x, hx⟩ : ∃ x, x = s2.getD k 0 := ⟨_, rfl⟩
                      rw [← hx] at hck hsn
                      have HS := hide hsn
                      have hll : (lay8 (s2.take k)).length ≤ 32 := by rw [lay8_len]; simp; omega
                      have hRr := hide Rr
                      have hKr := hide Kr
                      clear hx hsn Rr Kr
                      have hnb : b1 ∉ (Value.slice ao m c).ownBlock.toList := by intro h; have := (unhide hRr).own b1 (by simpa using h); omega
                      go_wp2_with fail
                      go_region_held3 (fun W => W.cell? ⟨b1, k, none⟩ = some (.int .u32 x)) (first | go_keep | exact s2'.1.cell (((Kp.refl [] wr).alloc _).drew.cell hck (by simp)) hnb) ((refine step_append_row (by rfl) (.tmp 63) (.tmp 83) (by rfl) w10.heap.size _ _ (by rfl) ((unhide hRr).kept ((Kp.refl [] wr).alloc _).drew (by simp)) _ [_, _, _, _] (by rfl) (Sl.block (cs := [_, _, _, _]) (t := 5) (heap_alloc_new wr _) (by simp [maxLen])) (by simp only [List.length_cons, List.length_nil]; omega) (by have := (unhide hKr).size; simp; omega) ?_; intro ao2 m2 c2 w2 r2 s2'))
                      go_wp2_with fail
                      go_roundw
                      case rel =>
                        refine ⟨k + 1, m2, c2, ao2, by omega, rfl, by go_num, ?_, (unhide hRr).step (unhide hKr) (s2'.after ((Kp.refl [] wr).alloc _).drew)⟩
                        rw [unhide HS]; exact r2
                      case measure => simp [intOf]; omega
                    · obtain rfl : k = 8 := by omega
                      rw [List.take_of_length_le (by omega), unhide HF] at Rr
                      go_wp2_with fail
                      go_ret
                      exact ⟨ao, m, c, rfl, owns_rebase Rr (fun i hi => Nat.le_trans (unhide hK10).size (Rr.own i hi)), (unhide hK10).trans Kr⟩
theorem refsum_at (vb : Value) (bs r : List Int) (hr : r = sha bs) (w : World) (hS : Sl w vb bs) (hB : Bs bs) (hl : bs.length ≤ 1000000000000) :
    Calls Tryz.prog 76 #[vb] w fun e w' => ∃ ao m c, e = .returned (.slice ao m c) ∧ Row w' w.heap.size (.slice ao m c) r ∧ Kp [] w w' := by
  subst hr
  exact refsum_any vb bs w hS hB hl
end Go.Proofs.YteabdojjllfcpaaGreat
