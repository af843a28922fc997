/-
  The contracts of package ledger: leaves, Root, Entry, Public, KeysLeft, isSize.
-/
import Derived.Test.YtillhpgdlmeajaaGreatDoorQB5
import Derived.Test.YtillhpgdlmeajaaGreatDoorQB1
import Derived.Test.YtillhpgdlmeajaaGreatDoorQB3
import Derived.Test.YtillhpgdlmeajaaGreatDoorQLedgerPlays1
import Derived.Test.YtillhpgdlmeajaaGreatDoorQB2
import Derived.Test.YtillhpgdlmeajaaGreatDoorQB4
import Derived.Deep.AppendSrc
import Derived.Deep.RegionHeld3
import Derived.Test.YtillhpgdlmeajaaGreatDoorQB6
import Derived.Deep.LoopGhost
import Derived.ProofKit
import Derived.Test.YtillhpgdlmeajaaGreatDoorQB7
import Derived.ArgAppend
import Derived.Deep.Upon
namespace Go.Proofs.YtillhpgdlmeajaaGreatDoor
open Go.RowKit
open Go.Proofs
set_option linter.unusedVariables false
section
variable {w0 w : World} {l pd pk : Nat} {S : LS} {f : Fps}
theorem upublic_any (h : Lg w0 w l pd pk S f) (r : List Int) (hr : r = topP S.seed) (hG : Gl w) :
    Calls Tryz.prog 39 #[.pointer (some ⟨l, 0, none⟩)] w fun e w' => ∃ ao m c, e = .returned (.slice ao m c) ∧ Sl w' (.slice ao m c) r ∧ Kp [] w w' := by
  obtain ⟨j, s, q, vs, pv, h⟩ := h
  have hc := h.at_.c3
  have HZ := hide (spublic_any vs S.seed r hr w h.sd h.sb h.sl hG)
  obtain ⟨av, cv, hvs, -⟩ := h.sd
  obtain ⟨nv, hnv⟩ : ∃ n, n = S.seed.length := ⟨_, rfl⟩
  rw [← hnv] at hvs
  rw [hvs] at hc HZ
  clear h hr hG hvs hnv
  go_enter Tryz.func39, Tryz.ntmps39
  go_wp2_with fail
  refine HZ.out.mono ?_
  rintro ee w1 ⟨a1, m1, c1, rfl, S1, K1⟩
  have HS1 := hide S1
  have HK1 := hide K1
  clear HZ S1 K1
  go_wp2_with fail
  go_ret
  exact ⟨a1, m1, c1, rfl, HS1.out, HK1.out⟩
theorem uentry_no (h : Lg w0 w l pd pk S f) (i : Int) (hi : ¬ (0 ≤ i ∧ i < (S.its.length : Int))) : Calls Tryz.prog 36 #[.pointer (some ⟨l, 0, none⟩), .int .i64 i] w fun e w' => e = .returned (.tuple #[.slice none 0 0, .bool false]) ∧ w' = w := by
  have HZ := hide (usize_any h _ rfl)
  obtain ⟨n, hn⟩ : ∃ n, n = S.its.length := ⟨_, rfl⟩
  rw [← hn] at HZ hi
  clear h hn
  by_cases h0 : i < 0
  · have hd : decide (i < 0) = true := decide_eq_true h0
    clear hi HZ
    go_enter Tryz.func36, Tryz.ntmps36
    go_wp2_with fail
    go_ret2
    exact ⟨rfl, rfl⟩
  · have hd : decide (i < 0) = false := decide_eq_false h0
    have h1 : (n : Int) ≤ i := by omega
    have hd1 : decide ((n : Int) ≤ i) = true := decide_eq_true h1
    clear hi
    go_enter Tryz.func36, Tryz.ntmps36
    go_wp2_with fail
    refine HZ.out.mono ?_
    rintro ee w1 ⟨rfl, hw⟩
    subst w1
    clear HZ
    go_wp2_with fail
    go_ret2
    exact ⟨rfl, rfl⟩
set_option maxRecDepth 100000 in
/-- the first n cells of a block may be written. -/
def UFz (w : World) (g n : Nat) : Prop := ∀ k, k < n → w.frozen? ⟨g, k, none⟩ = false
theorem conv_big2 (S : ByteArray) (w : World) (hS : S.size ≤ 9223372036854775807) : ∃ c w', (convert 9 22 (.string S)).run Tryz.prog w = .ok (.slice (some ⟨w.heap.size, 0, none⟩) S.size c) w' ∧ Sl w' (.slice (some ⟨w.heap.size, 0, none⟩) S.size c) (nums S) ∧ Kp [] w w' ∧ UFz w' w.heap.size S.size := by
  obtain ⟨c, w', h1, h2, h3⟩ := conv_big S w hS
  have h4 := Lib.run_convert_string_bytes (P := Tryz.prog) w 9 22 5 S Tryz.underlying9 Tryz.underlying22 Tryz.underlying5
  rw [h1] at h4
  injection h4 with h5 h6
  refine ⟨c, w', h1, h2, h3, fun k hk => ?_⟩
  subst h6
  have hsz : k < (Lib.bytesCells w 5 S).size := by
    unfold Lib.bytesCells
    have e : S.data.size = S.size := rfl
    simp
    omega
  unfold World.frozen?
  simp only [Lib.bytesWorld_at_new]
  simp; omega
set_option maxRecDepth 100000 in
theorem uentry_ok (h : Lg w0 w l pd pk S f) (i : Nat) (hi : i < S.its.length) (x : List Int) (hx : x = S.its[i]) : Calls Tryz.prog 36 #[.pointer (some ⟨l, 0, none⟩), .int .i64 i] w fun e w' => ∃ c, e = .returned (.tuple #[.slice (some ⟨w.heap.size, 0, none⟩) x.length c, .bool true]) ∧ Sl w' (.slice (some ⟨w.heap.size, 0, none⟩) x.length c) x ∧ Kp [] w w' ∧ UFz w' w.heap.size x.length := by
  have HZ := hide (usize_any h _ rfl)
  obtain ⟨j, s, q, vs, pv, hg⟩ := h
  obtain ⟨v2, b2, hSc, hRU, -⟩ := hg.sh.ex
  obtain ⟨a2, c2, rfl⟩ := hRU.shape
  have hc1 := hg.at_.c1
  have hc0 := hSc.c0
  obtain ⟨g, rfl, hc⟩ := hRU.at i hi
  obtain ⟨hBx, hlx⟩ := hg.sh.bs _ (List.getElem_mem hi)
  rw [← hx] at hc hBx hlx
  obtain ⟨c5, w5, hcv, S5, K5, Z5⟩ := conv_big2 (strOfNums x) w (by rw [str_size]; omega)
  rw [nums_str x hBx] at S5
  rw [str_size] at hcv S5 Z5
  have HS5 := hide S5
  have HK5 := hide K5
  have HZ5 := hide Z5
  obtain ⟨n, hn⟩ : ∃ n, n = S.its.length := ⟨_, rfl⟩
  rw [← hn] at HZ hi hc0
  have h0 : ¬ (i : Int) < 0 := by omega
  have hd : decide ((i : Int) < 0) = false := decide_eq_false h0
  have h1 : ¬ (n : Int) ≤ (i : Int) := by omega
  have h2 : (i : Int) < (n : Int) := by omega
  have hd1 : decide ((n : Int) ≤ (i : Int)) = false := decide_eq_false h1
  obtain ⟨nx, hnx⟩ : ∃ n, n = x.length := ⟨_, rfl⟩
  rw [← hnx] at hcv HS5 HZ5 ⊢
  clear hn hg hSc hRU S5 K5 Z5 hx hnx
  go_enter Tryz.func36, Tryz.ntmps36
  go_wp2_with fail
  refine HZ.out.mono ?_
  rintro ee w1 ⟨rfl, hw⟩
  subst w1
  clear HZ
  go_wp2_with fail
  go_ret2
  exact ⟨c5, rfl, HS5.out, HK5.out, HZ5.out⟩
end
end Go.Proofs.YtillhpgdlmeajaaGreatDoor

/-
  Rows of bytes told by their cells alone, so that a mark behind the last cell (a string that was turned into bytes) does not matter: append onto them.
-/
namespace Go.Proofs.YtillhpgdlmeajaaGreatDoor
open Go.RowKit
theorem append_m (w : World) (base : Nat) (v : Value) (bs : List Int) (vx : Value) (cs : List Int) (ty : TypeId) (h : RowM w base v bs) (hS : Sl w vx cs) (hb : bs.length + cs.length ≤ 140737488355328) (hbase : base ≤ w.heap.size) :
    ∃ ao m c w', (Builtin.append_ #[22, 22] ty #[v, vx]).run Tryz.prog w = .ok (.slice ao m c) w' ∧ RowM w' base (.slice ao m c) (bs ++ cs) ∧ RStep w v w' (.slice ao m c) := by
  obtain ⟨i0, hi0, hz0, hz1, hz2⟩ := info_parts Tryz.info5
  obtain ⟨g, cap, rfl, h0, hg, h1, h2, h3, h4⟩ := h
  obtain ⟨ax, cx, rfl, x1, x2, x3, x4⟩ := hS
  have hsrc : Src Tryz.prog i0.size 22 (.slice ax cs.length cx) cs.length (cs.map (Value.int .u8)) w := by
    cases ax with
    | none =>
      have e : cs = [] := List.eq_nil_of_length_eq_zero (by have := x3 rfl; omega)
      subst e
      exact Src.ofNil w Tryz.underlying22 cx
    | some ad => exact Src.ofSlice w Tryz.underlying22 ad cs.length cx _ (by simp [hz1]) (x4 ad rfl) (by simp [Value.oneCell'])
  by_cases hfit : bs.length + cs.length ≤ cap
  · have hsome : ∀ j, j < (cs.map (Value.int .u8)).length → (w.cell? ⟨g, 0 + bs.length * i0.size + j, none⟩).isSome = true := fun j hj => by
      rw [hz1, Nat.mul_one, Nat.zero_add]; rw [List.length_map] at hj; exact (h4 _ (by omega)).1
    have hrun := run_append_room_src (P := Tryz.prog) w 22 22 ty 5 i0 Tryz.underlying22 hi0 g 0 bs.length cap _ cs.length _ hsrc hfit hsome (fun j hj => by
      rw [hz1, Nat.mul_one, Nat.zero_add]; rw [List.length_map] at hj; exact (h4 _ (by omega)).2)
    rw [hz1, Nat.mul_one, Nat.zero_add] at hrun
    simp only [hz1, Nat.mul_one, Nat.zero_add] at hsome
    have K := kp_fcells w g (cs.map (Value.int .u8)) bs.length w (Kp.refl _ _)
    refine ⟨_, _, _, _, hrun, ⟨g, cap, by rw [List.length_append], h0, Nat.lt_of_lt_of_le hg K.size, by rw [List.length_append]; exact hfit, h2, fun j u hu => ?_, fun j hj => ⟨?_, ?_⟩⟩, K, fun k hk => .inl hk⟩
    · by_cases hj : j < bs.length
      · rw [World.cell?_setCells_out g _ _ _ _ (fun _ _ => .inl hj)]
        rw [List.map_append, List.getElem?_append_left (by simpa using hj)] at hu
        exact h3 j u hu
      · rw [List.map_append, List.getElem?_append_right (by simpa using Nat.le_of_not_lt hj)] at hu
        have hj2 : j - bs.length < (cs.map (Value.int .u8)).length := by have := (List.getElem?_eq_some_iff.1 hu).1; simpa using this
        have := World.cell?_setCells_in g (cs.map (Value.int .u8)) bs.length w hsome (j - bs.length) hj2
        rw [show bs.length + (j - bs.length) = j by omega] at this
        rw [this, ← hu]
        simp only [List.length_map]
        exact (List.getElem?_eq_getElem hj2).symm
    · by_cases hin : bs.length ≤ j ∧ j < bs.length + (cs.map (Value.int .u8)).length
      · have := World.cell?_setCells_in g (cs.map (Value.int .u8)) bs.length w hsome (j - bs.length) (by omega)
        rw [show bs.length + (j - bs.length) = j by omega] at this
        rw [this]; rfl
      · rw [World.cell?_setCells_out g _ _ _ _ (fun _ _ => by show j < bs.length ∨ bs.length + (cs.map (Value.int .u8)).length ≤ j; omega)]
        exact (h4 j hj).1
    · rw [World.frozen?_setCells]; exact (h4 j hj).2
  · have hold : (Builtin.firstCells i0.size bs.length (.slice (some ⟨g, 0, none⟩) bs.length cap)).run Tryz.prog w.drew = .ok (bs.map (Value.int .u8)).toArray w.drew := by
      refine run_firstCells_some w.drew i0.size bs.length ⟨g, 0, none⟩ bs.length cap (bs.map (Value.int .u8)) (by simp [hz1]) (fun j u hu => ?_)
      rw [Addr.add_lit, Nat.zero_add]
      exact h3 j u hu
    have hrun := run_append_grow_src (P := Tryz.prog) w 22 22 ty 5 i0 (.int .u8 0) Tryz.underlying22 hi0 hz0 (some ⟨g, 0, none⟩) bs.length cap _ hold _ cs.length _ hsrc (by omega) (by omega) (growslice_fits (by omega) (by rw [hz2]; omega))
    have hge := grownCap_ge w (bs.length + cs.length) cap 5
    have hgm := grownCap_le_maxLen w (bs.length + cs.length) cap 5 (by unfold maxLen; omega)
    generalize grownCap w (bs.length + cs.length) cap 5 = gc at hrun hge hgm
    obtain ⟨C, hC⟩ : ∃ C, C = ((bs.map (Value.int .u8) ++ cs.map (Value.int .u8)).toArray ++ Builtin.zeroCells (Value.int .u8 0).cells (gc - (bs.length + cs.length))) := ⟨_, rfl⟩
    have hCs : C.size = gc := by
      rw [hC, Array.size_append, size_zeroCells]
      simp [Value.cells]
      omega
    rw [← hC] at hrun
    have e1 : ∀ j, (w.drew.alloc (.cells C 5)).cell? ⟨w.heap.size, j, none⟩ = C[j]? := fun j => World.cell?_alloc_new w.drew C 5 j
    refine ⟨_, _, _, _, hrun, ⟨w.heap.size, gc, by rw [List.length_append], hbase, by simp, by rw [List.length_append]; exact hge, hgm, fun j u hu => ?_, fun j hj => ⟨?_, World.frozen?_alloc_new w.drew C 5 j⟩⟩, ((kp_drew w).alloc _).mono (by simp), fun k hk => .inr (by cases hk; exact Nat.le_refl _)⟩
    · rw [e1, hC]
      rw [List.map_append] at hu
      have hj := (List.getElem?_eq_some_iff.1 hu).1
      rw [Array.getElem?_append_left (by simpa using hj), List.getElem?_toArray]
      exact hu
    · rw [e1, Array.getElem?_eq_getElem (by omega)]
      rfl
theorem wpList_append_m {w : World} {ops : Array Oper} {rest : List Oper} {o : Oper} {a : Act} {Q : Exit → Act → World → Prop} (hgd : o.guard = none) (s x : Operand)
    (ho : o.op = .call { callee := .builtin .append, args := #[s, x], argTypes := #[22, 22] }) (base : Nat) (v : Value) (bs : List Int) (hs : a.eval s = v) (hrow : RowM w base v bs)
    (vx : Value) (cs : List Int) (hx : a.eval x = vx) (hS : Sl w vx cs) (hb : bs.length + cs.length ≤ 140737488355328) (hbase : base ≤ w.heap.size)
    (h : ∀ ao m c w', RowM w' base (.slice ao m c) (bs ++ cs) → RStep w v w' (.slice ao m c) → wpList Tryz.prog ops Q rest (a.put o.dst (.slice ao m c)) w') : wpList Tryz.prog ops Q (o :: rest) a w := by
  obtain ⟨ao, m, c, w', hr, R, St⟩ := append_m w base v bs vx cs o.type hrow hS hb hbase
  refine wpList_plain hgd fun K hK => ?_
  unfold Oper.wp execOp
  simp only [ho, resolve, invoke, builtin, Sem.run_bind, Sem.run_pure, Result.andThen_ok, List.map_toArray, List.map_cons, List.map_nil, hs, hx, hr]
  exact hK _ _ (h ao m c w' R St)
theorem step_append_m {w : World} {ops : Array Oper} {o : Oper} {a : Act} {K : Act → World → Prop} {Q : Exit → Act → World → Prop} {E : Prop} (hgd : o.guard = none) (s x : Operand)
    (ho : o.op = .call { callee := .builtin .append, args := #[s, x], argTypes := #[22, 22] }) (base : Nat) (v : Value) (bs : List Int) (hs : a.eval s = v) (hrow : RowM w base v bs)
    (vx : Value) (cs : List Int) (hx : a.eval x = vx) (hS : Sl w vx cs) (hb : bs.length + cs.length ≤ 140737488355328) (hbase : base ≤ w.heap.size)
    (h : ∀ ao m c w', RowM w' base (.slice ao m c) (bs ++ cs) → RStep w v w' (.slice ao m c) → K (a.put o.dst (.slice ao m c)) w') : if Region.wanted o (yielded ops a.tmps) = true then Oper.wp Tryz.prog o a w K Q else E := by
  have hw : Region.wanted o (yielded ops a.tmps) = true := by simp [Region.wanted, hgd]
  rw [if_pos hw]
  obtain ⟨ao, m, c, w', hr, R, St⟩ := append_m w base v bs vx cs o.type hrow hS hb hbase
  unfold Oper.wp execOp
  simp only [ho, resolve, invoke, builtin, Sem.run_bind, Sem.run_pure, Result.andThen_ok, List.map_toArray, List.map_cons, List.map_nil, hs, hx, hr]
  exact h ao m c w' R St
/-- a string turned into bytes. -/
theorem conv_m (S : ByteArray) (w : World) (hS : S.size ≤ 1000) : ∃ c w', (convert 9 22 (.string S)).run Tryz.prog w = .ok (.slice (some ⟨w.heap.size, 0, none⟩) S.size c) w' ∧ RowM w' w.heap.size (.slice (some ⟨w.heap.size, 0, none⟩) S.size c) (nums S) ∧ Kp [] w w' := by
  refine ⟨_, _, Lib.run_convert_string_bytes (P := Tryz.prog) w 9 22 5 S Tryz.underlying9 Tryz.underlying22 Tryz.underlying5, ?_, ⟨rfl, rfl, rfl, by rw [Lib.bytesWorld_size]; omega, fun k hk _ => Lib.bytesWorld_at_old w 5 S k hk⟩⟩
  have hge := grownCap_ge w S.size 0 5
  have hgm := grownCap_le_maxLen w S.size 0 5 (by unfold maxLen; omega)
  have hsz : (Lib.bytesCells w 5 S).size = grownCap w S.size 0 5 := by
    unfold Lib.bytesCells
    simp only [Array.size_append, Array.size_map, Array.size_replicate]
    have : S.data.size = S.size := rfl
    omega
  have hblk := Lib.bytesWorld_at_new w 5 S
  refine ⟨w.heap.size, grownCap w S.size 0 5, by rw [nums_len], Nat.le_refl _, by rw [Lib.bytesWorld_size]; omega, by rw [nums_len]; exact hge, hgm, fun j u hu => ?_, fun j hj => ⟨?_, ?_⟩⟩
  · have hj : j < S.size := by have := (List.getElem?_eq_some_iff.1 hu).1; simpa [nums] using this
    rw [Lib.bytesWorld_cell w 5 S j hj, ← hu]
    have hj2 : j < S.data.toList.length := by simpa using hj
    simp [nums, List.getD, List.getElem?_eq_getElem hj2]
  · rw [cell_of_row _ _ j _ _ _ hblk, Array.getElem?_eq_getElem (by omega)]
    rfl
  · simp only [World.frozen?, hblk]
    simp
    omega
end Go.Proofs.YtillhpgdlmeajaaGreatDoor

/-
  The contracts of the reference's body and Body of a checkpoint.
-/
namespace Go.Proofs.YtillhpgdlmeajaaGreatDoor
open Go.RowKit
open Go.Proofs
set_option maxHeartbeats 400000 in
theorem refnum_m (v : Value) (bs : List Int) (n : Int) (base : Nat) (w : World) (h : RowM w base v bs) (hbase : base ≤ w.heap.size) (hb : bs.length ≤ 100000000000) :
    Calls Tryz.prog 49 #[v, .int .u32 n] w fun e w' => ∃ ao m c, e = .returned (.slice ao m c) ∧ RowM w' base (.slice ao m c) (bs ++ be4 n) ∧ RStep w v w' (.slice ao m c) := by
  obtain ⟨cs, hcs⟩ : ∃ cs, cs = be4 n := ⟨_, rfl⟩
  have hl : cs.length = 4 := by rw [hcs]; rfl
  have hsl : Sl (w.alloc (.cells #[.int .u8 (n / 16777216 % 256), .int .u8 (n / 65536 % 256), .int .u8 (n / 256 % 256), .int .u8 (n % 256)] 5)) (.slice (some ⟨w.heap.size, 0, none⟩) 4 4) cs := by
    rw [hcs]; exact Sl.block (cs := [n / 16777216 % 256, n / 65536 % 256, n / 256 % 256, n % 256]) (t := 5) (heap_alloc_new w _) (by simp [maxLen])
  rw [← hcs]
  clear hcs
  go_enter Tryz.func49, Tryz.ntmps49
  go_wp2_with (at_builtin; refine wpList_append_m rfl _ _ rfl base v bs rfl (h.kept ((Kp.refl [] w).alloc _) (by simp)) _ cs rfl hsl (by omega) (by simp; omega) ?_; intro ao m c w1 r1 s1)
  go_ret
  exact ⟨ao, m, c, rfl, r1, s1.after ((Kp.refl [] w).alloc _)⟩
theorem step_callX {P : Program} {ops : Array Oper} {o : Oper} {a : Act} {w : World} {K : Act → World → Prop} {Q : Exit → Act → World → Prop} {E : Prop} {f : FuncId} {fn : Func} {xs : Array Operand} {ats : Array TypeId} (hgd : o.guard = none) (ho : o.op = .call { callee := .value (.func f), args := xs, argTypes := ats }) (hf : P.funcs[f]? = some fn) (hn : (fn.name == "runtime.NumGoroutine") = false) (hb : fn.body.isNone = false)
    (h : Calls P f (xs.map a.eval) w fun e w' => ∃ v, e = .returned v ∧ K (a.put o.dst v) w') : if Region.wanted o (yielded ops a.tmps) = true then Oper.wp P o a w K Q else E := by
  have hw : Region.wanted o (yielded ops a.tmps) = true := by simp [Region.wanted, hgd]
  rw [if_pos hw]
  have e : (execOp a.eval o).run P w = .ok (.enter f (xs.map a.eval)) w := by
    obtain ⟨dst, op, ty, pos, after, guard⟩ := o
    simp only at ho
    subst ho
    rw [execOp_call_go]
    have h1 : fn.name ≠ "runtime.NumGoroutine" := by simpa using hn
    have h2 : ¬ fn.body = none := by intro h2; rw [h2] at hb; cases hb
    simp [callFunc, hf, h1, h2]
  unfold Oper.wp
  rw [e]
  simp only [Oper.upon]
  refine h.mono ?_
  rintro e' w' ⟨v, rfl, hv⟩
  exact hv
set_option maxRecDepth 100000 in
set_option maxHeartbeats 4000000 in
theorem refbody_any (S : ByteArray) (L : List Int) (hL : L = nums S) (hz : S.size ≤ 100) (vc : Value) (n : Int) (r B : List Int) (hB : B = if rgtC n r then L ++ (be4 n ++ r) else []) (w : World) (hC : CkV w vc n r) :
    Calls Tryz.prog 120 #[.string S, vc] w fun e w' => ∃ ao m c, e = .returned (.slice ao m c) ∧ Sl w' (.slice ao m c) B ∧ Kp [] w w' := by
  have HC := hide hC
  obtain ⟨a, m, c, rfl, -, -⟩ := hC
  obtain ⟨g0, hg0⟩ : ∃ g, g = w.heap.size := ⟨_, rfl⟩
  obtain ⟨w1, hw1⟩ : ∃ w1, w1 = w.alloc (.cells #[.int .i64 n, .slice a m c] 68) := ⟨_, rfl⟩
  have K1 : Kp [] w w1 := by rw [hw1]; exact (Kp.refl [] w).alloc _
  have G1 : w1.heap[g0]? = some (.cells #[.int .i64 n, .slice a m c] 68 (0, 0)) := by rw [hw1, hg0]; exact heap_alloc_new w _
  obtain ⟨b, hb⟩ : ∃ b, b = rgtC n r := ⟨_, rfl⟩
  have hl1 := load_whole (T := 68) G1 Tryz.underlying68 rfl Tryz.chkSize
  have HR := hide (rckright_any _ n r b hb w1 ((unhide HC).kept K1))
  rw [hw1, hg0] at hl1
  have HK1 := hide K1
  have HG1 := hide G1
  have HW1 := hide hw1
  have HG0 := hide hg0
  have HBB := hide hB
  have Hb := hide hb
  have HL := hide hL
  have HZ := hide hz
  clear hw1 K1 G1 hB hb hL hz hg0
  cases b
  · go_enter Tryz.func120, Tryz.ntmps120
    go_wp2_with fail
    rw [← unhide HW1]
    refine (unhide HR).mono ?_
    rintro ee w2 ⟨rfl, K2⟩
    have HK2 := hide ((unhide HK1).trans K2)
    clear K2 HR hl1
    go_wp2_with fail
    go_ret
    exact ⟨none, 0, 0, rfl, by rw [unhide HBB, ← unhide Hb]; exact Sl.nil _, unhide HK2⟩
  · have hq := (rgtC_iff n r).1 (unhide Hb).symm
    have hwrap : IntKind.u32.wrap n = n := by simp [IntKind.wrap, IntKind.signed, IntKind.bits]; omega
    have HQ := hide hq
    clear hq
    go_enter Tryz.func120, Tryz.ntmps120
    go_wp2_with fail
    rw [← unhide HW1]
    refine (unhide HR).mono ?_
    rintro ee w2 ⟨rfl, K2⟩
    have HK2 := hide ((unhide HK1).trans K2)
    have HG2 := hide (K2.heap (unhide HG1) (by simp))
    have hc0 : w2.cell? ⟨g0, 0, none⟩ = some (.int .i64 n) := by rw [cell_of_row w2 g0 0 _ _ _ (unhide HG2)]; rfl
    have hc1 : w2.cell? ⟨g0, 1, none⟩ = some (.slice a m c) := by rw [cell_of_row w2 g0 1 _ _ _ (unhide HG2)]; rfl
    have hgs : g0 < w2.heap.size := lt_of_block (unhide HG2)
    have hNA : Hid (∀ W, Kp [] w W → Sl W (.slice a m c) r) := fun W k => by
      obtain ⟨a', m', c', e, h1, _⟩ := (unhide HC).kept k
      simp only [Value.agg.injEq, Array.mk.injEq, List.cons.injEq, and_true, true_and] at e
      rw [e]
      exact h1
    have hsz : Hid ((nums S).length ≤ 100) := by show (nums S).length ≤ 100; rw [nums_len]; exact unhide HZ
    have HKD := hide ((unhide HK2).trans (kp_drew w2))
    obtain ⟨c3, w3, hcv, R3, K3⟩ := conv_m S w2.drew (by have := unhide HZ; omega)
    obtain ⟨m3, hm3⟩ : ∃ m, m = S.size := ⟨_, rfl⟩
    rw [← hm3] at hcv R3
    rw [show w2.drew.heap.size = w2.heap.size from rfl] at hcv R3
    rw [← unhide HG0]
    have hk0 : w3.cell? ⟨g0, 0, none⟩ = some (.int .i64 n) := K3.cell hc0 (by simp)
    have hk1 : w3.cell? ⟨g0, 1, none⟩ = some (.slice a m c) := K3.cell hc1 (by simp)
    clear K2 HR hl1 hm3
    go_wp2_with fail
    go_region_law (first
        | (refine step_callX (by rfl) (by rfl) Tryz.func49 (by kernel_rfl) (by kernel_rfl) ?_; simp only [List.map_toArray, List.map_cons, List.map_nil]; refine (refnum_m _ (nums S) n _ w3 R3 K3.size (by have : (nums S).length ≤ 100 := unhide hsz; omega)).mono ?_; rintro ee w4 ⟨a4, m4, c4, rfl, R4, S4⟩; refine ⟨_, rfl, ?_⟩; have hd1 : w4.cell? ⟨g0, 1, none⟩ = some (.slice a m c) := S4.1.cell hk1 (fun hm => by have := (R3.own g0 (by simpa using hm)).1; omega))
        | (refine step_append_m (by rfl) (.tmp 13) (.tmp 15) (by rfl) _ _ _ (by rfl) R4 _ r (by rfl) (unhide hNA w4 (((unhide HKD).trans K3).then S4.1 (fun i hi => .inr (by have := (R3.own i (by simpa using hi)).1; have := (unhide HK2).size; omega)))) (by have : (nums S).length ≤ 100 := unhide hsz; have := (unhide HQ).2; rw [List.length_append, be4_len]; omega) (Nat.le_trans K3.size S4.1.size) ?_; intro a5 m5 c5 w5 R5 S5))
    all_goals
     go_wp2_with fail
     go_ret
     have K4 : Kp [] w w4 := ((unhide HKD).trans K3).then S4.1 (fun i hi => .inr (by have := (R3.own i (by simpa using hi)).1; have := (unhide HK2).size; omega))
     have K5 : Kp [] w w5 := K4.then S5.1 (fun i hi => .inr (by have := (R4.own i (by simpa using hi)).1; have := (unhide HK2).size; omega))
     refine ⟨a5, m5, c5, rfl, ?_, K5⟩
     have := R5.sl
     rw [unhide HBB, ← unhide Hb, if_pos rfl, unhide HL, ← List.append_assoc]
     exact this
theorem letC_nums : letC = nums ⟨#[98, 114, 111, 97, 100, 115, 104, 101, 101, 116, 32, 99, 104, 101, 99, 107]⟩ := by decide
set_option maxRecDepth 100000 in
set_option maxHeartbeats 1000000 in
theorem rckbody_any (vc : Value) (n : Int) (r B : List Int) (hB : B = bodC n r) (w : World) (hC : CkV w vc n r) :
    Calls Tryz.prog 83 #[vc] w fun e w' => ∃ ao m c, e = .returned (.slice ao m c) ∧ Sl w' (.slice ao m c) B ∧ Kp [] w w' := by
  have HC := hide hC
  obtain ⟨a, m, c, rfl, -, -⟩ := hC
  obtain ⟨w1, hw1⟩ : ∃ w1, w1 = w.alloc (.cells #[.int .i64 n, .slice a m c] 68) := ⟨_, rfl⟩
  have K1 : Kp [] w w1 := by rw [hw1]; exact (Kp.refl [] w).alloc _
  have G1 : w1.heap[w.heap.size]? = some (.cells #[.int .i64 n, .slice a m c] 68 (0, 0)) := by rw [hw1]; exact heap_alloc_new w _
  have hl1 := load_whole (T := 68) G1 Tryz.underlying68 rfl Tryz.chkSize
  have HD := hide (refbody_any ⟨#[98, 114, 111, 97, 100, 115, 104, 101, 101, 116, 32, 99, 104, 101, 99, 107]⟩ letC letC_nums (by decide) _ n r B hB w1 ((unhide HC).kept K1))
  rw [hw1] at hl1
  have HK1 := hide K1
  have HW1 := hide hw1
  clear hw1 K1 G1 hB
  go_enter Tryz.func83, Tryz.ntmps83
  go_wp2_with fail
  rw [← unhide HW1]
  refine (unhide HD).mono ?_
  rintro ee w2 ⟨a2, m2, c2, rfl, S2, K2⟩
  have HK2 := hide ((unhide HK1).trans K2)
  have HS2 := hide S2
  clear K2 S2 HD hl1
  go_wp2_with fail
  go_ret
  exact ⟨a2, m2, c2, rfl, unhide HS2, unhide HK2⟩
end Go.Proofs.YtillhpgdlmeajaaGreatDoor

/-
  The contracts of the reference reader's Bytes and End.
-/
namespace Go.Proofs.YtillhpgdlmeajaaGreatDoor
open Go.RowKit
open Go.Proofs
set_option maxHeartbeats 400000 in
theorem rbyt_any (q : Nat) (v : Value) (i : Nat) (bad : Bool) (B : List Int) (most : Int) (w : World) (hR : RR w q v i bad B) (hb : B.length ≤ 140737488355328) (hB : Bs B) (hm0 : 0 ≤ most) :
    Calls Tryz.prog 64 #[.pointer (some ⟨q, 0, none⟩), .int .i64 most] w fun e w' => ∃ ao m c, e = .returned (.slice ao m c) ∧ Own w w' (.slice ao m c) (tkb bad (rest i bad B) most).1 ∧ RLeft w q v B (tkb bad (rest i bad B) most).2 w' := by
  have hv := val_two (tk bad (rest i bad B) 2).1 (tk_bs1 (rest_bs hB)) (@tk_len1 bad (rest i bad B) 2)
  obtain ⟨t, ht⟩ : ∃ t, t = tk bad (rest i bad B) 2 := ⟨_, rfl⟩
  have h2 : (tkb bad (rest i bad B) most) = if most < val t.1 then ([], true, []) else tk t.2.1 t.2.2 (val t.1) := by
    unfold tkb; rw [ht, show max most 0 = most from by omega]
  rw [← ht] at hv
  have HT := hide ht
  obtain ⟨x, hx⟩ : ∃ x, x = val t.1 := ⟨_, rfl⟩
  have hw64 : IntKind.i64.wrap x = x := by rw [hx]; simp [IntKind.wrap, IntKind.signed, IntKind.bits]; omega
  rw [← hx] at hv h2
  have HX := hide hx
  clear ht hx
  obtain ⟨hv0, hv1⟩ := hv
  by_cases hm : most < x
  · rw [if_pos hm] at h2
    rw [h2]
    have hx0 : 0 < x := by omega
    clear h2
    go_enter Tryz.func64, Tryz.ntmps64
    go_wp2_with fail
    refine (rnumb_any q v i bad B 2 _ hR hb (by omega) hB).mono ?_
    rintro e w1 ⟨rfl, hL⟩
    rw [show ((2 : Nat) : Int) = 2 from rfl, ← unhide HT, ← unhide HX]
    obtain ⟨j, bad', r1, _, k1⟩ := hL
    have hc2 := (cell_of_three r1.1).2.2
    have hf2 := free_of_two r1.1 2
    have hB2 := rr_bad r1
    go_wp2_with fail
    refine (rraw_any q v j true B x _ hB2.1 hb (by omega)).mono ?_
    have ht2 : tk true (rest j true B) x = ([], true, []) := by
      show tk true [] x = _
      unfold tk; split <;> simp
    rw [ht2]
    rintro e w3 ⟨ao, m, c, rfl, hO, hL3⟩
    go_wp2_with fail
    go_ret
    obtain ⟨j3, bad3, r3, e3, k3⟩ := hL3
    exact ⟨ao, m, c, rfl, ⟨hO.1, fun k hk => Nat.le_trans (k1.trans hB2.2).size (hO.2 k hk)⟩, j3, bad3, r3, e3, (k1.trans hB2.2).trans k3⟩
  · rw [if_neg hm] at h2
    rw [h2]
    clear h2
    go_enter Tryz.func64, Tryz.ntmps64
    go_wp2_with fail
    refine (rnumb_any q v i bad B 2 _ hR hb (by omega) hB).mono ?_
    rintro e w1 ⟨rfl, hL⟩
    rw [show ((2 : Nat) : Int) = 2 from rfl, ← unhide HT] at hL
    rw [show ((2 : Nat) : Int) = 2 from rfl, ← unhide HT, ← unhide HX]
    obtain ⟨j, bad', r1, e1, k1⟩ := hL
    go_wp2_with fail
    refine (rraw_any q v j bad' B x _ r1 hb (by omega)).mono ?_
    rintro e w3 ⟨ao, m, c, rfl, hO, hL3⟩
    go_wp2_with fail
    go_ret
    obtain ⟨j3, bad3, r3, e3, k3⟩ := hL3
    rw [show t.2.1 = bad' from by rw [e1], show t.2.2 = rest j bad' B from by rw [e1]]
    exact ⟨ao, m, c, rfl, ⟨hO.1, fun k hk => Nat.le_trans k1.size (hO.2 k hk)⟩, j3, bad3, r3, e3, k1.trans k3⟩
theorem rend_any (q : Nat) (v : Value) (i : Nat) (bad : Bool) (B : List Int) (w : World) (hR : RR w q v i bad B) :
    Calls Tryz.prog 66 #[.pointer (some ⟨q, 0, none⟩)] w fun e w' => e = .returned (.bool (!bad && (rest i bad B).isEmpty)) ∧ ∃ n, w' = w.drewN n := by
  obtain ⟨ao, c, rfl, h1, h2, h3, h4⟩ := hR.2.1
  obtain ⟨hc0, hc1, hc2⟩ := cell_of_three hR.1
  have hi := hR.2.2.2
  clear h4 h3 hR
  cases bad with
  | true =>
    go_enter Tryz.func66, Tryz.ntmps66
    go_wp2_with fail
    go_quiet (fail)
    go_wp2_with fail
    go_ret
    exact ⟨rfl, nq, rfl⟩
  | false =>
    have hE : (B.drop i).isEmpty = ((i : Int) == (B.length : Int)) := by
      rw [Bool.eq_iff_iff]; simp; omega
    have HE : Hid ((!false && (rest i false B).isEmpty) = ((i : Int) == (B.length : Int))) := hE
    rw [HE.out]
    clear hE HE
    go_enter Tryz.func66, Tryz.ntmps66
    go_wp2_with fail
    go_quiet (fail)
    go_wp2_with fail
    go_ret
    exact ⟨rfl, nq, rfl⟩
end Go.Proofs.YtillhpgdlmeajaaGreatDoor

/-
  The contracts of package ledger: Find, signNow, Publish, Last.
-/
namespace Go.Proofs.YtillhpgdlmeajaaGreatDoor
open Go.RowKit
open Go.Proofs
open Go.Proofs.YtillhpgdlmeajaaGreatDoor.umix
set_option linter.unusedVariables false
section
variable {w0 w : World} {l pd pk : Nat} {S : LS} {f : Fps}
set_option maxRecDepth 100000 in
set_option maxHeartbeats 2000000 in
theorem ufind_any (h : Lg w0 w l pd pk S f) (vx : Value) (x : List Int) (hS : Sl w vx x) (hB : Bs x) (hl : x.length ≤ 65535) (b : Bool) (hb : b = decide (x ∈ S.its)) (c : Int) (hc : c = if b then (S.its.idxOf x : Int) else 0) :
    Calls Tryz.prog 103 #[.pointer (some ⟨l, 0, none⟩), vx] w fun e w' => e = .returned (.tuple #[.int .i64 c, .bool b]) ∧ Kp [] w w' := by
  obtain ⟨j, s, q, vs, pv, hx⟩ := h
  obtain ⟨av, cv, hvs, -⟩ := hx.sd
  obtain ⟨nv, hnv⟩ : ∃ n, n = S.seed.length := ⟨_, rfl⟩
  rw [← hnv] at hvs
  subst hvs
  have HAt : Hid (∀ w', Kp [] w.drew w' → Fv 99 w' l (.func (.func 44) #[.pointer (some ⟨j, 0, none⟩)] #[]) (.pointer (some ⟨s, 0, none⟩)) (.pointer (some ⟨q, 0, none⟩)) (.slice av nv cv) pv) := fun w' k => hx.at_.kept ((kp_drew w).trans k) (by simp)
  have HSh : Hid (∀ w', Kp [] w.drew w' → Sh w' s S.its (f 4)) := fun w' k => hx.sh.kept ((kp_drew w).trans k) (by simp)
  have HCv : Hid (∀ w', Kp [] w.drew w' → (convert 22 9 vx).run Tryz.prog w' = .ok (.string (strOfNums x)) w') := fun w' k => (hS.kept ((kp_drew w).trans k) (by simp)).conv (P := Tryz.prog) 22 9 5 Tryz.underlying22 Tryz.underlying5 Tryz.underlying9
  obtain ⟨ax, cx, hvx, -⟩ := hS
  obtain ⟨nx, hnx⟩ : ∃ n, n = x.length := ⟨_, rfl⟩
  rw [← hnx] at hvx
  subst hvx
  have HB := hide hB
  have HL := hide hl
  have HBb := hide hb
  have HCc := hide hc
  clear hx hB hl hb hc hnv hnx
  go_enter Tryz.func103, Tryz.ntmps103
  go_wp2_with fail
  refine region_grow Tryz.mixed [Is (.pointer (some ⟨l, 0, none⟩)), Is (.pointer (some ⟨l, 0, none⟩)), Is (.pointer (some ⟨l, 1, none⟩)), Is (.pointer (some ⟨s, 0, none⟩)), Is (.slice ax nx cx), Is (.string (strOfNums x)), Is (.tuple #[.int .i64 c, .bool b]), Is (.int .i64 c), Is (.bool b), Is (.int .i64 c), Is (.bool b)] [[(0, none)], [(6, some 0)], [(7, some 1)], [(8, some 2)], [(1, none)], [(10, some 4)], [(9, some 3), (11, some 5)], [(12, some 6)], [(12, some 6)], [(13, some 7)], [(14, some 8)]] (by kernel_rfl) ?_ ?_ ?_
  · simp only [List.mem_cons, List.not_mem_nil, or_false]
    intro R hR
    rcases hR with rfl | rfl | rfl | rfl | rfl | rfl | rfl | rfl | rfl | rfl | rfl <;> first | exact stable_is _
  · refine steps_cons (fun a w hk hn => ?_) ?_
    · have h0 : a.eval (.tmp 0) = .pointer (some ⟨l, 0, none⟩) := hn.1
      clear hn
      refine wants_plain rfl ?_
      exact grown_move (.tmp 0) rfl h0
    refine steps_cons (fun a w hk hn => ?_) ?_
    · have h6 : a.eval (.tmp 6) = .pointer (some ⟨l, 0, none⟩) := hn.1
      clear hn
      refine wants_plain rfl ?_
      refine grown_run (v := .pointer (some ⟨l, 0, none⟩)) ?_ (Kp.refl _ _) rfl
      obtain ⟨ρ, hρ, hc, hf, hg⟩ := eval_is a
      rw [hρ] at h6 ⊢
      simp [go_sem, h6]
    refine steps_cons (fun a w hk hn => ?_) ?_
    · have h7 : a.eval (.tmp 7) = .pointer (some ⟨l, 0, none⟩) := hn.1
      clear hn
      refine wants_plain rfl ?_
      refine grown_run (v := .pointer (some ⟨l, 1, none⟩)) ?_ (Kp.refl _ _) rfl
      obtain ⟨ρ, hρ, hc, hf, hg⟩ := eval_is a
      rw [hρ] at h7 ⊢
      simp [go_sem, h7]
    refine steps_cons (fun a w hk hn => ?_) ?_
    · have h8 : a.eval (.tmp 8) = .pointer (some ⟨l, 1, none⟩) := hn.1
      clear hn
      refine wants_plain rfl ?_
      refine grown_run (v := .pointer (some ⟨s, 0, none⟩)) ?_ (Kp.refl _ _) rfl
      have hcell : w.cell? ⟨l, 1, none⟩ = some (.pointer (some ⟨s, 0, none⟩)) := by rw [cell_of_row w l 1 _ _ _ (HAt.out w hk)]; rfl
      obtain ⟨ρ, hρ, hc, hf, hg⟩ := eval_is a
      rw [hρ] at h8 ⊢
      simp [go_sem, h8, hcell]
    refine steps_cons (fun a w hk hn => ?_) ?_
    · have h1 : a.eval (.tmp 1) = .slice ax nx cx := hn.1
      clear hn
      refine wants_plain rfl ?_
      exact grown_move (.tmp 1) rfl h1
    refine steps_cons (fun a w hk hn => ?_) ?_
    · have h10 : a.eval (.tmp 10) = .slice ax nx cx := hn.1
      clear hn
      refine wants_plain rfl ?_
      refine grown_run (v := .string (strOfNums x)) ?_ (Kp.refl _ _) rfl
      obtain ⟨ρ, hρ, hc, hf, hg⟩ := eval_is a
      rw [hρ] at h10 ⊢
      simp [go_sem, h10, HCv.out w hk]
    refine steps_cons (fun a w hk hn => ?_) ?_
    · have h9 : a.eval (.tmp 9) = .pointer (some ⟨s, 0, none⟩) := hn.1
      have h11 : a.eval (.tmp 11) = .string (strOfNums x) := hn.2.1
      clear hn
      refine wants_plain rfl ?_
      refine grown_call (f := 97) rfl Tryz.func97 (by kernel_rfl) (by kernel_rfl) ?_
      simp only [List.map_toArray, List.map_cons, List.map_nil, h9, h11]
      refine (find_any (HSh.out w hk) x HB.out HL.out b HBb.out c HCc.out).mono ?_
      rintro e w' ⟨rfl, rfl⟩
      exact ⟨_, rfl, Kp.refl _ _, rfl⟩
    refine steps_cons (fun a w hk hn => ?_) ?_
    · have h12 : a.eval (.tmp 12) = .tuple #[.int .i64 c, .bool b] := hn.1
      clear hn
      refine wants_plain rfl ?_
      refine grown_run (v := .int .i64 c) ?_ (Kp.refl _ _) rfl
      obtain ⟨ρ, hρ, hc, hf, hg⟩ := eval_is a
      rw [hρ] at h12 ⊢
      simp [go_sem, h12]
    refine steps_cons (fun a w hk hn => ?_) ?_
    · have h12 : a.eval (.tmp 12) = .tuple #[.int .i64 c, .bool b] := hn.1
      clear hn
      refine wants_plain rfl ?_
      refine grown_run (v := .bool b) ?_ (Kp.refl _ _) rfl
      obtain ⟨ρ, hρ, hc, hf, hg⟩ := eval_is a
      rw [hρ] at h12 ⊢
      simp [go_sem, h12]
    refine steps_cons (fun a w hk hn => ?_) ?_
    · have h13 : a.eval (.tmp 13) = .int .i64 c := hn.1
      clear hn
      refine wants_plain rfl ?_
      exact grown_assign (.tmp 13) rfl h13
    refine steps_cons (fun a w hk hn => ?_) ?_
    · have h14 : a.eval (.tmp 14) = .bool b := hn.1
      clear hn
      refine wants_plain rfl ?_
      exact grown_assign (.tmp 14) rfl h14
    exact trivial
  intro W1 hkW1
  rintro _ rfl
  rintro _ rfl
  rintro _ rfl
  rintro _ rfl
  rintro _ rfl
  rintro _ rfl
  rintro _ rfl
  rintro _ rfl
  rintro _ rfl
  rintro _ rfl
  rintro _ rfl
  refine fin_nil ?_
  simp only [Act.put, List.set_cons_zero, List.set_cons_succ, List.setIfInBounds_toArray]
  go_wp2_with fail
  go_ret2
  exact ⟨rfl, (kp_drew w).trans hkW1⟩
theorem usign_used (h : Lg w0 w l pd pk S f) (hn : S.n = 16) : Calls Tryz.prog 77 #[.pointer (some ⟨l, 0, none⟩)] w fun e w' => e = .returned (.int .i64 23) ∧ w' = w := by
  obtain ⟨j, s, q, vs, pv, hx⟩ := h
  have hc := hx.at_.c2
  have hb := hx.bf.bx
  rw [hn] at hb
  have HT := hide (take_used hb)
  clear hx hb hn
  go_enter Tryz.func77, Tryz.ntmps77
  go_wp2_with fail
  refine HT.out.mono ?_
  rintro ee w1 ⟨rfl, hw⟩
  subst w1
  clear HT
  go_wp2_with fail
  go_ret
  exact ⟨rfl, rfl⟩
theorem ulast_none (h : Lg w0 w l pd pk S f) (hla : S.la = none) : Calls Tryz.prog 37 #[.pointer (some ⟨l, 0, none⟩)] w fun e w' => e = .returned (.tuple #[sgd0, .bool false]) ∧ Kp [] w w' := by
  obtain ⟨j, s, q, vs, pv, hx⟩ := h
  have hla2 := hx.la
  rw [hla] at hla2
  obtain rfl : pv = .pointer none := hla2
  have K1 : Kp [] w (w.alloc (.cells #[.int .i64 0, .slice none 0 0, .int .i64 0, .slice none 0 0, .slice none 0 0] 72)) := (Kp.refl [] w).alloc _
  have hc := (hx.at_.kept K1 (by simp)).c4
  have G := heap_alloc_new w (.cells #[.int .i64 0, .slice none 0 0, .int .i64 0, .slice none 0 0, .slice none 0 0] 72)
  have HK := hide K1
  clear hx hla K1
  go_enter Tryz.func37, Tryz.ntmps37
  go_wp2_with (refine wpList_store_flat rfl 72 (.tmp 2) (.tmp 9) rfl w.heap.size 0 rfl _ _ [.int .i64 0, .slice none 0 0, .int .i64 0, .slice none 0 0, .slice none 0 0] G rfl (by simp) Tryz.sgdSize (by simp [Value.oneCell']) #[.int .i64 0, .slice none 0 0, .int .i64 0, .slice none 0 0, .slice none 0 0] rfl ?_; intro w7 G7 K7)
  refine bodyPost_ret (results_flat2 rfl _ rfl G7 Tryz.underlying72 rfl Tryz.sgdSize) rfl ?_
  exact ⟨rfl, HK.out.then K7 (fun i hi => .inr (by simp at hi; omega))⟩
set_option maxRecDepth 100000 in
set_option maxHeartbeats 4000000 in
theorem ulast_some (h : Lg w0 w l pd pk S f) (a1 a2 : Nat) (hla : S.la = some (a1, a2)) : Calls Tryz.prog 37 #[.pointer (some ⟨l, 0, none⟩)] w fun e w' => ∃ v, e = .returned (.tuple #[v, .bool true]) ∧ SgU w.heap.size w' v (sgU S.seed S.its (a1, a2)) ∧ Kp [] w w' := by
  obtain ⟨j, s, q, vs, pv, hx⟩ := h
  have hla2 := hx.la
  rw [hla] at hla2
  obtain ⟨hle, ha16, tt, vr, vp, vq, rfl, hFt, hFv, hSF⟩ := hla2
  obtain ⟨ar, mr, cr, ap, np, cp, aq, nq, cq, e2, -, -⟩ := hSF.v.shape
  simp only [Value.agg.injEq, Array.mk.injEq, List.cons.injEq, and_true] at e2
  obtain ⟨-, rfl, -, rfl, rfl⟩ := e2
  obtain ⟨g0, hg⟩ : ∃ g, g = w.heap.size := ⟨_, rfl⟩
  obtain ⟨w1, hw1⟩ : ∃ w1, w1 = w.alloc (.cells #[.int .i64 0, .slice none 0 0, .int .i64 0, .slice none 0 0, .slice none 0 0] 72) := ⟨_, rfl⟩
  have K1 : Kp [] w w1 := by rw [hw1]; exact (Kp.refl [] w).alloc _
  have G0 : w1.heap[g0]? = some (.cells #[.int .i64 0, .slice none 0 0, .int .i64 0, .slice none 0 0, .slice none 0 0] 72 (0, 0)) := by rw [hw1, hg]; exact heap_alloc_new w _
  have hX := hx.on K1
  have hFv5 := hFv.kept K1 (by simp)
  have hV5 := (hSF.kept K1 (by simp)).v
  have hsm := sgU_small S.seed S.its (a1, a2) ha16
  have HK1 := hide K1
  have HGe := hide hg
  have HW1 := hide hw1
  clear hx hla hFv hSF hle hFt K1 hg hw1
  go_enter Tryz.func37, Tryz.ntmps37
  have x0 : (w.alloc (.cells #[.int .i64 0, .slice none 0 0, .int .i64 0, .slice none 0 0, .slice none 0 0] 72)).cell? ⟨tt, 0, none⟩ = some (.int .i64 (a1 : Int)) := by rw [← HW1.out]; exact hFv5.c0
  have x1 : (w.alloc (.cells #[.int .i64 0, .slice none 0 0, .int .i64 0, .slice none 0 0, .slice none 0 0] 72)).cell? ⟨tt, 1, none⟩ = some (.slice ar mr cr) := by rw [← HW1.out]; exact hFv5.c1
  have x2 : (w.alloc (.cells #[.int .i64 0, .slice none 0 0, .int .i64 0, .slice none 0 0, .slice none 0 0] 72)).cell? ⟨tt, 2, none⟩ = some (.int .i64 (a2 : Int)) := by rw [← HW1.out]; exact hFv5.c2
  have x3 : (w.alloc (.cells #[.int .i64 0, .slice none 0 0, .int .i64 0, .slice none 0 0, .slice none 0 0] 72)).cell? ⟨tt, 3, none⟩ = some (.slice ap np cp) := by rw [← HW1.out]; exact hFv5.c3
  have x4 : (w.alloc (.cells #[.int .i64 0, .slice none 0 0, .int .i64 0, .slice none 0 0, .slice none 0 0] 72)).cell? ⟨tt, 4, none⟩ = some (.slice aq nq cq) := by rw [← HW1.out]; exact hFv5.c4
  have y4 : (w.alloc (.cells #[.int .i64 0, .slice none 0 0, .int .i64 0, .slice none 0 0, .slice none 0 0] 72)).cell? ⟨l, 4, none⟩ = some (.pointer (some ⟨tt, 0, none⟩)) := by rw [← HW1.out]; exact hX.at_.c4
  have HC := hide (ucopy_any (.agg #[.int .i64 (a1 : Int), .slice ar mr cr, .int .i64 (a2 : Int), .slice ap np cp, .slice aq nq cq]) _ w1 hV5 hsm)
  have HG0 := hide G0
  have hg0 : g0 < w1.heap.size := lt_of_block G0
  have HX5 := hide hX
  clear hV5 hsm G0 hFv5 hX
  go_wp2_with fail
  rw [← HW1.out, ← HGe.out]
  refine HC.out.mono ?_
  rintro ee w5 ⟨v5, rfl, A5, K5⟩
  obtain ⟨br, kr, dr, bp, kp, dp, bq', kq, dq, rfl, -, -⟩ := A5.v.shape
  have G5 := K5.heap HG0.out (by simp)
  have HA5 := hide A5
  have HK5 := hide K5
  clear HC A5 K5 x0 x1 x2 x3 x4 y4
  go_wp2_with (refine wpList_store_flat rfl 72 (.tmp 2) (.tmp 16) rfl g0 0 rfl _ _ [.int .i64 _, .slice br kr dr, .int .i64 _, .slice bp kp dp, .slice bq' kq dq] G5 rfl (by simp) Tryz.sgdSize (by simp [Value.oneCell']) #[.int .i64 _, .slice br kr dr, .int .i64 _, .slice bp kp dp, .slice bq' kq dq] rfl ?_; intro w6 G6 K6)
  refine bodyPost_ret (results_flat2 rfl _ rfl G6 Tryz.underlying72 rfl Tryz.sgdSize) rfl ?_
  have hA6 := HA5.out.kept (S := [g0]) (by simpa using hg0) K6
  exact ⟨_, rfl, hA6.low HK1.out.size, (HK1.out.trans HK5.out).then K6 (fun i hi => .inr (by simp at hi; have := HGe.out; omega))⟩
set_option maxRecDepth 100000 in
set_option maxHeartbeats 4000000 in
theorem upub_usedN (h : Lg w0 w l pd pk S f) (hla : S.la = none) (hn : S.n = 16) : Calls Tryz.prog 33 #[.pointer (some ⟨l, 0, none⟩)] w fun e w' => e = .returned (.tuple #[sgd0, .int .i64 23]) ∧ Kp [] w w' := by
  obtain ⟨j, s, q, vs, pv, hx⟩ := h
  have hla2 := hx.la
  rw [hla] at hla2
  obtain rfl : pv = .pointer none := hla2
  obtain ⟨av, cv, hvs, -⟩ := hx.sd
  obtain ⟨nv, hnv⟩ : ∃ n, n = S.seed.length := ⟨_, rfl⟩
  rw [← hnv] at hvs
  subst hvs
  obtain ⟨g0, hg⟩ : ∃ g, g = w.heap.size := ⟨_, rfl⟩
  obtain ⟨w1, hw1⟩ : ∃ w1, w1 = w.alloc (.cells #[.int .i64 0, .slice none 0 0, .int .i64 0, .slice none 0 0, .slice none 0 0] 72) := ⟨_, rfl⟩
  have K1 : Kp [] w w1 := by rw [hw1]; exact (Kp.refl [] w).alloc _
  have G0 : w1.heap[g0]? = some (.cells #[.int .i64 0, .slice none 0 0, .int .i64 0, .slice none 0 0, .slice none 0 0] 72 (0, 0)) := by rw [hw1, hg]; exact heap_alloc_new w _
  have hX1 := hx.on K1
  have HD : Hid (∀ w', Kp [] w1.drew w' → Kp [] w1 w') := fun w' k' => (kp_drew w1).trans k'
  have HAt : Hid (∀ w', Kp [] w1.drew w' → Fv 99 w' l (.func (.func 44) #[.pointer (some ⟨j, 0, none⟩)] #[]) (.pointer (some ⟨s, 0, none⟩)) (.pointer (some ⟨q, 0, none⟩)) (.slice av nv cv) (.pointer none)) := fun w' k => hX1.at_.kept (HD.out w' k) (by simp)
  have HX1 := hide hX1
  have HK1 := hide K1
  have HGe := hide hg
  have HW1 := hide hw1
  have HG0 := hide G0
  have HN := hide hn
  clear hn
  clear hx hla K1 hg hw1 hX1 hnv G0
  go_enter Tryz.func33, Tryz.ntmps33
  go_wp2_with fail
  rw [← HW1.out, ← HGe.out]
  refine region_grow Tryz.mixed [Is (.pointer (some ⟨l, 0, none⟩)), Is (.pointer (some ⟨l, 0, none⟩)), Is (.pointer (some ⟨l, 4, none⟩)), Is (.pointer none), Is (.bool true), Is (.bool true), Is (undef), Is (undef), Is (undef), Is (undef), Is (undef), Is (undef), Is (undef), Is (undef), Is (undef), Is (undef), Is (undef), Is (.bool true)] [[(0, none)], [(5, some 0)], [(6, some 1)], [(7, some 2)], [(8, some 3)], [(9, some 4)], [(0, none), (10, some 5)], [(11, some 6), (10, some 5)], [(12, some 7), (10, some 5)], [(13, some 8), (10, some 5)], [(14, some 9), (10, some 5)], [(15, some 10), (10, some 5)], [(16, some 11), (10, some 5)], [(17, some 12), (10, some 5)], [(0, none), (10, some 5)], [(19, some 14), (10, some 5)], [(18, some 13), (20, some 15), (10, some 5)], [(10, some 5), (21, some 16)]] (by kernel_rfl) ?_ ?_ ?_
  · simp only [List.mem_cons, List.not_mem_nil, or_false]
    intro R hR
    rcases hR with rfl | rfl | rfl | rfl | rfl | rfl | rfl | rfl | rfl | rfl | rfl | rfl | rfl | rfl | rfl | rfl | rfl | rfl <;> first | exact stable_is _
  · refine steps_cons (fun a w hk hn => ?_) ?_
    · have h0 : a.eval (.tmp 0) = .pointer (some ⟨l, 0, none⟩) := hn.1
      clear hn
      refine wants_plain rfl ?_
      exact grown_move (.tmp 0) rfl h0
    refine steps_cons (fun a w hk hn => ?_) ?_
    · have h5 : a.eval (.tmp 5) = .pointer (some ⟨l, 0, none⟩) := hn.1
      clear hn
      refine wants_plain rfl ?_
      refine grown_run (v := .pointer (some ⟨l, 0, none⟩)) ?_ (Kp.refl _ _) rfl
      obtain ⟨ρ, hρ, hc, hf, hg⟩ := eval_is a
      rw [hρ] at h5 ⊢
      simp [go_sem, h5]
    refine steps_cons (fun a w hk hn => ?_) ?_
    · have h6 : a.eval (.tmp 6) = .pointer (some ⟨l, 0, none⟩) := hn.1
      clear hn
      refine wants_plain rfl ?_
      refine grown_run (v := .pointer (some ⟨l, 4, none⟩)) ?_ (Kp.refl _ _) rfl
      obtain ⟨ρ, hρ, hc, hf, hg⟩ := eval_is a
      rw [hρ] at h6 ⊢
      simp [go_sem, h6]
    refine steps_cons (fun a w hk hn => ?_) ?_
    · have h7 : a.eval (.tmp 7) = .pointer (some ⟨l, 4, none⟩) := hn.1
      clear hn
      refine wants_plain rfl ?_
      refine grown_run (v := .pointer none) ?_ (Kp.refl _ _) rfl
      have hcell : w.cell? ⟨l, 4, none⟩ = some (.pointer none) := by rw [cell_of_row w l 4 _ _ _ (HAt.out w hk)]; rfl
      obtain ⟨ρ, hρ, hc, hf, hg⟩ := eval_is a
      rw [hρ] at h7 ⊢
      simp [go_sem, h7, hcell]
    refine steps_cons (fun a w hk hn => ?_) ?_
    · have h8 : a.eval (.tmp 8) = .pointer none := hn.1
      clear hn
      refine wants_plain rfl ?_
      refine grown_run (v := .bool true) ?_ (Kp.refl _ _) rfl
      obtain ⟨ρ, hρ, hc, hf, hg⟩ := eval_is a
      rw [hρ] at h8 ⊢
      simp [go_sem, hc, h8]
    refine steps_cons (fun a w hk hn => ?_) ?_
    · have h9 : a.eval (.tmp 9) = .bool true := hn.1
      clear hn
      refine wants_plain rfl ?_
      exact grown_move (.tmp 9) rfl h9
    refine steps_cons (fun a w hk hn => ?_) ?_
    · have h0 : a.eval (.tmp 0) = .pointer (some ⟨l, 0, none⟩) := hn.1
      have h10 : a.eval (.tmp 10) = .bool true := hn.2.1
      clear hn
      exact wants_not (d := 10) rfl rfl h10 rfl
    refine steps_cons (fun a w hk hn => ?_) ?_
    · have h11 : a.eval (.tmp 11) = undef := hn.1
      have h10 : a.eval (.tmp 10) = .bool true := hn.2.1
      clear hn
      exact wants_not (d := 10) rfl rfl h10 rfl
    refine steps_cons (fun a w hk hn => ?_) ?_
    · have h12 : a.eval (.tmp 12) = undef := hn.1
      have h10 : a.eval (.tmp 10) = .bool true := hn.2.1
      clear hn
      exact wants_not (d := 10) rfl rfl h10 rfl
    refine steps_cons (fun a w hk hn => ?_) ?_
    · have h13 : a.eval (.tmp 13) = undef := hn.1
      have h10 : a.eval (.tmp 10) = .bool true := hn.2.1
      clear hn
      exact wants_not (d := 10) rfl rfl h10 rfl
    refine steps_cons (fun a w hk hn => ?_) ?_
    · have h14 : a.eval (.tmp 14) = undef := hn.1
      have h10 : a.eval (.tmp 10) = .bool true := hn.2.1
      clear hn
      exact wants_not (d := 10) rfl rfl h10 rfl
    refine steps_cons (fun a w hk hn => ?_) ?_
    · have h15 : a.eval (.tmp 15) = undef := hn.1
      have h10 : a.eval (.tmp 10) = .bool true := hn.2.1
      clear hn
      exact wants_not (d := 10) rfl rfl h10 rfl
    refine steps_cons (fun a w hk hn => ?_) ?_
    · have h16 : a.eval (.tmp 16) = undef := hn.1
      have h10 : a.eval (.tmp 10) = .bool true := hn.2.1
      clear hn
      exact wants_not (d := 10) rfl rfl h10 rfl
    refine steps_cons (fun a w hk hn => ?_) ?_
    · have h17 : a.eval (.tmp 17) = undef := hn.1
      have h10 : a.eval (.tmp 10) = .bool true := hn.2.1
      clear hn
      exact wants_not (d := 10) rfl rfl h10 rfl
    refine steps_cons (fun a w hk hn => ?_) ?_
    · have h0 : a.eval (.tmp 0) = .pointer (some ⟨l, 0, none⟩) := hn.1
      have h10 : a.eval (.tmp 10) = .bool true := hn.2.1
      clear hn
      exact wants_not (d := 10) rfl rfl h10 rfl
    refine steps_cons (fun a w hk hn => ?_) ?_
    · have h19 : a.eval (.tmp 19) = undef := hn.1
      have h10 : a.eval (.tmp 10) = .bool true := hn.2.1
      clear hn
      exact wants_not (d := 10) rfl rfl h10 rfl
    refine steps_cons (fun a w hk hn => ?_) ?_
    · have h18 : a.eval (.tmp 18) = undef := hn.1
      have h20 : a.eval (.tmp 20) = undef := hn.2.1
      have h10 : a.eval (.tmp 10) = .bool true := hn.2.2.1
      clear hn
      exact wants_not (d := 10) rfl rfl h10 rfl
    refine steps_cons (fun a w hk hn => ?_) ?_
    · have h10 : a.eval (.tmp 10) = .bool true := hn.1
      have h21 : a.eval (.tmp 21) = undef := hn.2.1
      clear hn
      refine wants_plain rfl ?_
      exact grown_pick _ _ _ true rfl h10 rfl
    exact trivial
  intro W1 hkW1
  rintro _ rfl
  rintro _ rfl
  rintro _ rfl
  rintro _ rfl
  rintro _ rfl
  rintro _ rfl
  rintro _ rfl
  rintro _ rfl
  rintro _ rfl
  rintro _ rfl
  rintro _ rfl
  rintro _ rfl
  rintro _ rfl
  rintro _ rfl
  rintro _ rfl
  rintro _ rfl
  rintro _ rfl
  rintro _ rfl
  refine fin_nil ?_
  simp only [Act.put, List.set_cons_zero, List.set_cons_succ, List.setIfInBounds_toArray]
  have K12 := HD.out W1 hkW1
  have HX2 := hide (HX1.out.on K12)
  have HG2 := hide (K12.heap HG0.out (by simp))
  have HK12 := hide (HK1.out.trans K12)
  clear K12 hkW1 HG0
  have HSn := hide (usign_used ⟨j, s, q, _, _, HX2.out⟩ HN.out)
  go_wp2_with fail
  refine HSn.out.mono ?_
  rintro ee w3 ⟨rfl, hw⟩
  subst w3
  have G3 := HG2.out
  clear HSn
  go_wp2_with (refine wpList_store_flat rfl 72 (.tmp 2) (.tmp 27) rfl g0 0 rfl _ _ [.int .i64 0, .slice none 0 0, .int .i64 0, .slice none 0 0, .slice none 0 0] G3 rfl (by simp) Tryz.sgdSize (by simp [Value.oneCell']) #[.int .i64 0, .slice none 0 0, .int .i64 0, .slice none 0 0, .slice none 0 0] rfl ?_; intro w7 G7 K7)
  refine bodyPost_ret (results_flat2 rfl _ rfl G7 Tryz.underlying72 rfl Tryz.sgdSize) rfl ?_
  exact ⟨rfl, HK12.out.then K7 (fun i hi => .inr (by simp at hi; have := HGe.out; omega))⟩
set_option maxRecDepth 100000 in
set_option maxHeartbeats 4000000 in
theorem upub_usedS (h : Lg w0 w l pd pk S f) (a1 a2 : Nat) (hla : S.la = some (a1, a2)) (ha : a1 ≠ S.its.length) (hn : S.n = 16) : Calls Tryz.prog 33 #[.pointer (some ⟨l, 0, none⟩)] w fun e w' => e = .returned (.tuple #[sgd0, .int .i64 23]) ∧ Kp [] w w' := by
  obtain ⟨j, s, q, vs, pv, hx⟩ := h
  have hla2 := hx.la
  rw [hla] at hla2
  obtain ⟨hle, ha16, tt, vr, vp, vq, rfl, hFt, hFv, hSF⟩ := hla2
  obtain ⟨ar, mr, cr, ap, np, cp, aq, nq, cq, e2, -, -⟩ := hSF.v.shape
  simp only [Value.agg.injEq, Array.mk.injEq, List.cons.injEq, and_true] at e2
  obtain ⟨-, rfl, -, rfl, rfl⟩ := e2
  obtain ⟨av, cv, hvs, -⟩ := hx.sd
  obtain ⟨nv, hnv⟩ : ∃ n, n = S.seed.length := ⟨_, rfl⟩
  rw [← hnv] at hvs
  subst hvs
  obtain ⟨g0, hg⟩ : ∃ g, g = w.heap.size := ⟨_, rfl⟩
  obtain ⟨w1, hw1⟩ : ∃ w1, w1 = w.alloc (.cells #[.int .i64 0, .slice none 0 0, .int .i64 0, .slice none 0 0, .slice none 0 0] 72) := ⟨_, rfl⟩
  have K1 : Kp [] w w1 := by rw [hw1]; exact (Kp.refl [] w).alloc _
  have G0 : w1.heap[g0]? = some (.cells #[.int .i64 0, .slice none 0 0, .int .i64 0, .slice none 0 0, .slice none 0 0] 72 (0, 0)) := by rw [hw1, hg]; exact heap_alloc_new w _
  have hX1 := hx.on K1
  have HD : Hid (∀ w', Kp [] w1.drew w' → Kp [] w1 w') := fun w' k' => (kp_drew w1).trans k'
  have HAt : Hid (∀ w', Kp [] w1.drew w' → Fv 99 w' l (.func (.func 44) #[.pointer (some ⟨j, 0, none⟩)] #[]) (.pointer (some ⟨s, 0, none⟩)) (.pointer (some ⟨q, 0, none⟩)) (.slice av nv cv) (.pointer (some ⟨tt, 0, none⟩))) := fun w' k => hX1.at_.kept (HD.out w' k) (by simp)
  have HTt : Hid (∀ w', Kp [] w1.drew w' → Fv 72 w' tt (.int .i64 (a1 : Int)) (.slice ar mr cr) (.int .i64 (a2 : Int)) (.slice ap np cp) (.slice aq nq cq)) := fun w' k => hFv.kept (K1.trans (HD.out w' k)) (by simp)
  have HLg : Hid (∀ w', Kp [] w1.drew w' → Lg w0 w' l pd pk S f) := fun w' k => ⟨j, s, q, _, _, hX1.on (HD.out w' k)⟩
  obtain ⟨il, hil⟩ : ∃ k, k = S.its.length := ⟨_, rfl⟩
  have HIl : Hid ((il : Int) = (S.its.length : Int)) := hide (by rw [hil])
  have HCmp : Hid (¬ (a1 : Int) = (il : Int)) := hide (by rw [hil]; omega)
  have HX1 := hide hX1
  have HK1 := hide K1
  have HGe := hide hg
  have HW1 := hide hw1
  have HG0 := hide G0
  have HN := hide hn
  clear hn
  clear hx hla hFv hSF hle hFt K1 hg hw1 hX1 ha hnv hil G0 ha16
  go_enter Tryz.func33, Tryz.ntmps33
  go_wp2_with fail
  rw [← HW1.out, ← HGe.out]
  refine region_grow Tryz.mixed [Is (.pointer (some ⟨l, 0, none⟩)), Is (.pointer (some ⟨l, 0, none⟩)), Is (.pointer (some ⟨l, 4, none⟩)), Is (.pointer (some ⟨tt, 0, none⟩)), Is (.bool false), Is (.bool false), Is (.pointer (some ⟨l, 0, none⟩)), Is (.pointer (some ⟨l, 0, none⟩)), Is (.pointer (some ⟨l, 4, none⟩)), Is (.pointer (some ⟨tt, 0, none⟩)), Is (.pointer (some ⟨tt, 0, none⟩)), Is (.pointer (some ⟨tt, 0, none⟩)), Is (.pointer (some ⟨tt, 0, none⟩)), Is (.int .i64 (a1 : Int)), Is (.pointer (some ⟨l, 0, none⟩)), Is (.int .i64 (il : Int)), Is (.bool true), Is (.bool true)] [[(0, none)], [(5, some 0)], [(6, some 1)], [(7, some 2)], [(8, some 3)], [(9, some 4)], [(0, none), (10, some 5)], [(11, some 6), (10, some 5)], [(12, some 7), (10, some 5)], [(13, some 8), (10, some 5)], [(14, some 9), (10, some 5)], [(15, some 10), (10, some 5)], [(16, some 11), (10, some 5)], [(17, some 12), (10, some 5)], [(0, none), (10, some 5)], [(19, some 14), (10, some 5)], [(18, some 13), (20, some 15), (10, some 5)], [(10, some 5), (21, some 16)]] (by kernel_rfl) ?_ ?_ ?_
  · simp only [List.mem_cons, List.not_mem_nil, or_false]
    intro R hR
    rcases hR with rfl | rfl | rfl | rfl | rfl | rfl | rfl | rfl | rfl | rfl | rfl | rfl | rfl | rfl | rfl | rfl | rfl | rfl <;> first | exact stable_is _
  · refine steps_cons (fun a w hk hn => ?_) ?_
    · have h0 : a.eval (.tmp 0) = .pointer (some ⟨l, 0, none⟩) := hn.1
      clear hn
      refine wants_plain rfl ?_
      exact grown_move (.tmp 0) rfl h0
    refine steps_cons (fun a w hk hn => ?_) ?_
    · have h5 : a.eval (.tmp 5) = .pointer (some ⟨l, 0, none⟩) := hn.1
      clear hn
      refine wants_plain rfl ?_
      refine grown_run (v := .pointer (some ⟨l, 0, none⟩)) ?_ (Kp.refl _ _) rfl
      obtain ⟨ρ, hρ, hc, hf, hg⟩ := eval_is a
      rw [hρ] at h5 ⊢
      simp [go_sem, h5]
    refine steps_cons (fun a w hk hn => ?_) ?_
    · have h6 : a.eval (.tmp 6) = .pointer (some ⟨l, 0, none⟩) := hn.1
      clear hn
      refine wants_plain rfl ?_
      refine grown_run (v := .pointer (some ⟨l, 4, none⟩)) ?_ (Kp.refl _ _) rfl
      obtain ⟨ρ, hρ, hc, hf, hg⟩ := eval_is a
      rw [hρ] at h6 ⊢
      simp [go_sem, h6]
    refine steps_cons (fun a w hk hn => ?_) ?_
    · have h7 : a.eval (.tmp 7) = .pointer (some ⟨l, 4, none⟩) := hn.1
      clear hn
      refine wants_plain rfl ?_
      refine grown_run (v := .pointer (some ⟨tt, 0, none⟩)) ?_ (Kp.refl _ _) rfl
      have hcell : w.cell? ⟨l, 4, none⟩ = some (.pointer (some ⟨tt, 0, none⟩)) := by rw [cell_of_row w l 4 _ _ _ (HAt.out w hk)]; rfl
      obtain ⟨ρ, hρ, hc, hf, hg⟩ := eval_is a
      rw [hρ] at h7 ⊢
      simp [go_sem, h7, hcell]
    refine steps_cons (fun a w hk hn => ?_) ?_
    · have h8 : a.eval (.tmp 8) = .pointer (some ⟨tt, 0, none⟩) := hn.1
      clear hn
      refine wants_plain rfl ?_
      refine grown_run (v := .bool false) ?_ (Kp.refl _ _) rfl
      obtain ⟨ρ, hρ, hc, hf, hg⟩ := eval_is a
      rw [hρ] at h8 ⊢
      simp [go_sem, hc, h8]
    refine steps_cons (fun a w hk hn => ?_) ?_
    · have h9 : a.eval (.tmp 9) = .bool false := hn.1
      clear hn
      refine wants_plain rfl ?_
      exact grown_move (.tmp 9) rfl h9
    refine steps_cons (fun a w hk hn => ?_) ?_
    · have h0 : a.eval (.tmp 0) = .pointer (some ⟨l, 0, none⟩) := hn.1
      have h10 : a.eval (.tmp 10) = .bool false := hn.2.1
      clear hn
      refine wants_guard (d := 10) rfl rfl h10 ?_
      exact grown_move (.tmp 0) rfl h0
    refine steps_cons (fun a w hk hn => ?_) ?_
    · have h11 : a.eval (.tmp 11) = .pointer (some ⟨l, 0, none⟩) := hn.1
      have h10 : a.eval (.tmp 10) = .bool false := hn.2.1
      clear hn
      refine wants_guard (d := 10) rfl rfl h10 ?_
      refine grown_run (v := .pointer (some ⟨l, 0, none⟩)) ?_ (Kp.refl _ _) rfl
      obtain ⟨ρ, hρ, hc, hf, hg⟩ := eval_is a
      rw [hρ] at h11 ⊢
      simp [go_sem, h11]
    refine steps_cons (fun a w hk hn => ?_) ?_
    · have h12 : a.eval (.tmp 12) = .pointer (some ⟨l, 0, none⟩) := hn.1
      have h10 : a.eval (.tmp 10) = .bool false := hn.2.1
      clear hn
      refine wants_guard (d := 10) rfl rfl h10 ?_
      refine grown_run (v := .pointer (some ⟨l, 4, none⟩)) ?_ (Kp.refl _ _) rfl
      obtain ⟨ρ, hρ, hc, hf, hg⟩ := eval_is a
      rw [hρ] at h12 ⊢
      simp [go_sem, h12]
    refine steps_cons (fun a w hk hn => ?_) ?_
    · have h13 : a.eval (.tmp 13) = .pointer (some ⟨l, 4, none⟩) := hn.1
      have h10 : a.eval (.tmp 10) = .bool false := hn.2.1
      clear hn
      refine wants_guard (d := 10) rfl rfl h10 ?_
      refine grown_run (v := .pointer (some ⟨tt, 0, none⟩)) ?_ (Kp.refl _ _) rfl
      have hcell : w.cell? ⟨l, 4, none⟩ = some (.pointer (some ⟨tt, 0, none⟩)) := by rw [cell_of_row w l 4 _ _ _ (HAt.out w hk)]; rfl
      obtain ⟨ρ, hρ, hc, hf, hg⟩ := eval_is a
      rw [hρ] at h13 ⊢
      simp [go_sem, h13, hcell]
    refine steps_cons (fun a w hk hn => ?_) ?_
    · have h14 : a.eval (.tmp 14) = .pointer (some ⟨tt, 0, none⟩) := hn.1
      have h10 : a.eval (.tmp 10) = .bool false := hn.2.1
      clear hn
      refine wants_guard (d := 10) rfl rfl h10 ?_
      refine grown_run (v := .pointer (some ⟨tt, 0, none⟩)) ?_ (Kp.refl _ _) rfl
      obtain ⟨ρ, hρ, hc, hf, hg⟩ := eval_is a
      rw [hρ] at h14 ⊢
      simp [go_sem, h14]
    refine steps_cons (fun a w hk hn => ?_) ?_
    · have h15 : a.eval (.tmp 15) = .pointer (some ⟨tt, 0, none⟩) := hn.1
      have h10 : a.eval (.tmp 10) = .bool false := hn.2.1
      clear hn
      refine wants_guard (d := 10) rfl rfl h10 ?_
      refine grown_run (v := .pointer (some ⟨tt, 0, none⟩)) ?_ (Kp.refl _ _) rfl
      obtain ⟨ρ, hρ, hc, hf, hg⟩ := eval_is a
      rw [hρ] at h15 ⊢
      simp [go_sem, h15]
    refine steps_cons (fun a w hk hn => ?_) ?_
    · have h16 : a.eval (.tmp 16) = .pointer (some ⟨tt, 0, none⟩) := hn.1
      have h10 : a.eval (.tmp 10) = .bool false := hn.2.1
      clear hn
      refine wants_guard (d := 10) rfl rfl h10 ?_
      refine grown_run (v := .pointer (some ⟨tt, 0, none⟩)) ?_ (Kp.refl _ _) rfl
      obtain ⟨ρ, hρ, hc, hf, hg⟩ := eval_is a
      rw [hρ] at h16 ⊢
      simp [go_sem, h16]
    refine steps_cons (fun a w hk hn => ?_) ?_
    · have h17 : a.eval (.tmp 17) = .pointer (some ⟨tt, 0, none⟩) := hn.1
      have h10 : a.eval (.tmp 10) = .bool false := hn.2.1
      clear hn
      refine wants_guard (d := 10) rfl rfl h10 ?_
      refine grown_run (v := .int .i64 (a1 : Int)) ?_ (Kp.refl _ _) rfl
      have hcell : w.cell? ⟨tt, 0, none⟩ = some (.int .i64 (a1 : Int)) := by rw [cell_of_row w tt 0 _ _ _ (HTt.out w hk)]; rfl
      obtain ⟨ρ, hρ, hc, hf, hg⟩ := eval_is a
      rw [hρ] at h17 ⊢
      simp [go_sem, h17, hcell]
    refine steps_cons (fun a w hk hn => ?_) ?_
    · have h0 : a.eval (.tmp 0) = .pointer (some ⟨l, 0, none⟩) := hn.1
      have h10 : a.eval (.tmp 10) = .bool false := hn.2.1
      clear hn
      refine wants_guard (d := 10) rfl rfl h10 ?_
      exact grown_move (.tmp 0) rfl h0
    refine steps_cons (fun a w hk hn => ?_) ?_
    · have h19 : a.eval (.tmp 19) = .pointer (some ⟨l, 0, none⟩) := hn.1
      have h10 : a.eval (.tmp 10) = .bool false := hn.2.1
      clear hn
      refine wants_guard (d := 10) rfl rfl h10 ?_
      refine grown_call (f := 16) rfl Tryz.func16 (by kernel_rfl) (by kernel_rfl) ?_
      simp only [List.map_toArray, List.map_cons, List.map_nil, h19]
      refine (usize_any (HLg.out w hk) (il : Int) HIl.out).mono ?_
      rintro e w' ⟨rfl, rfl⟩
      exact ⟨_, rfl, Kp.refl _ _, rfl⟩
    refine steps_cons (fun a w hk hn => ?_) ?_
    · have h18 : a.eval (.tmp 18) = .int .i64 (a1 : Int) := hn.1
      have h20 : a.eval (.tmp 20) = .int .i64 (il : Int) := hn.2.1
      have h10 : a.eval (.tmp 10) = .bool false := hn.2.2.1
      clear hn
      refine wants_guard (d := 10) rfl rfl h10 ?_
      refine grown_run (v := .bool true) ?_ (Kp.refl _ _) rfl
      obtain ⟨ρ, hρ, hc, hf, hg⟩ := eval_is a
      rw [hρ] at h18 h20 ⊢
      simp [go_sem, h18, h20, HCmp.out]
    refine steps_cons (fun a w hk hn => ?_) ?_
    · have h10 : a.eval (.tmp 10) = .bool false := hn.1
      have h21 : a.eval (.tmp 21) = .bool true := hn.2.1
      clear hn
      refine wants_plain rfl ?_
      exact grown_pick _ _ _ false rfl h10 h21
    exact trivial
  intro W1 hkW1
  rintro _ rfl
  rintro _ rfl
  rintro _ rfl
  rintro _ rfl
  rintro _ rfl
  rintro _ rfl
  rintro _ rfl
  rintro _ rfl
  rintro _ rfl
  rintro _ rfl
  rintro _ rfl
  rintro _ rfl
  rintro _ rfl
  rintro _ rfl
  rintro _ rfl
  rintro _ rfl
  rintro _ rfl
  rintro _ rfl
  refine fin_nil ?_
  simp only [Act.put, List.set_cons_zero, List.set_cons_succ, List.setIfInBounds_toArray]
  have K12 := HD.out W1 hkW1
  have HX2 := hide (HX1.out.on K12)
  have HG2 := hide (K12.heap HG0.out (by simp))
  have HK12 := hide (HK1.out.trans K12)
  clear K12 hkW1 HG0
  have HSn := hide (usign_used ⟨j, s, q, _, _, HX2.out⟩ HN.out)
  go_wp2_with fail
  refine HSn.out.mono ?_
  rintro ee w3 ⟨rfl, hw⟩
  subst w3
  have G3 := HG2.out
  clear HSn
  go_wp2_with (refine wpList_store_flat rfl 72 (.tmp 2) (.tmp 27) rfl g0 0 rfl _ _ [.int .i64 0, .slice none 0 0, .int .i64 0, .slice none 0 0, .slice none 0 0] G3 rfl (by simp) Tryz.sgdSize (by simp [Value.oneCell']) #[.int .i64 0, .slice none 0 0, .int .i64 0, .slice none 0 0, .slice none 0 0] rfl ?_; intro w7 G7 K7)
  refine bodyPost_ret (results_flat2 rfl _ rfl G7 Tryz.underlying72 rfl Tryz.sgdSize) rfl ?_
  exact ⟨rfl, HK12.out.then K7 (fun i hi => .inr (by simp at hi; have := HGe.out; omega))⟩
end
end Go.Proofs.YtillhpgdlmeajaaGreatDoor

/-
  The contracts of package ledger: gathered, Open.
-/
namespace Go.Proofs.YtillhpgdlmeajaaGreatDoor
open Go.RowKit
open Go.Proofs
set_option linter.unusedVariables false
theorem opnP_bs {b : List Int} (hB : Bs b) : ∀ r ∈ (opnP b).1, Bs r := by
  induction hl : b.length using Nat.strongRecOn generalizing b with
  | ind n ih =>
    subst hl
    rw [opnP_eq]
    split
    · intro r hr; cases hr
    · split
      · intro r hr; cases hr
      · split
        · intro r hr; cases hr
        · intro r hr
          rcases List.mem_cons.1 hr with rfl | hr
          · exact fun x hx => hB x (List.mem_of_mem_drop (List.mem_of_mem_take hx))
          · exact ih (b.drop (8 + (num1 b).toNat)).length (by rw [List.length_drop]; omega) (fun x hx => hB x (List.mem_of_mem_drop hx)) rfl r hr
theorem opnP_len (b : List Int) : lenU (opnP b).1 ≤ b.length := by
  induction hl : b.length using Nat.strongRecOn generalizing b with
  | ind n ih =>
    subst hl
    rw [opnP_eq]
    split
    · simp [lenU]
    · split
      · simp [lenU]
      · split
        · simp [lenU]
        · have := ih (b.drop (8 + (num1 b).toNat)).length (by rw [List.length_drop]; omega) _ rfl
          rw [List.length_drop] at this
          have e : lenU (((b.drop 8).take (num1 b).toNat) :: (opnP (b.drop (8 + (num1 b).toNat))).1) = ((b.drop 8).take (num1 b).toNat).length + lenU (opnP (b.drop (8 + (num1 b).toNat))).1 := by simp [lenU]
          simp only []
          rw [e, List.length_take, List.length_drop]
          omega
section
variable {w0 w : World} {pd pk n at_ : Nat} {dd dk dk' dd' : Dk} {f : Fps}
end
end Go.Proofs.YtillhpgdlmeajaaGreatDoor

/-
  The laws of ledger: fresh, on, Same, two new disks and a ledger on them; Add and Publish while power lasts.
-/
namespace Go.Proofs.YtillhpgdlmeajaaGreatDoor
open Go.RowKit
open Go.Proofs
set_option linter.unusedVariables false
section
variable {w0 w : World} {l pd pk : Nat} {S : LS} {f : Fps}
/-- no key is left. -/
theorem upub_full (h : Lg w0 w l pd pk S f) (hn : S.n = 16) (hla : ∀ a, S.la = some a → a.1 ≠ S.its.length) :
    Calls Tryz.prog 33 #[.pointer (some ⟨l, 0, none⟩)] w fun e w' => e = .returned (.tuple #[sgd0, .int .i64 23]) ∧ Kp [] w w' := by
  cases hs : S.la with
  | none => exact upub_usedN h hs hn
  | some a =>
    obtain ⟨a1, a2⟩ := a
    exact upub_usedS h a1 a2 hs (hla _ hs) hn
end
end Go.Proofs.YtillhpgdlmeajaaGreatDoor

/-
  append of bytes onto a slice that has no room: it only makes memory.
-/
namespace Go.Proofs.YtillhpgdlmeajaaGreatDoor
open Go.RowKit
/-- The value is a slice that reads as these bytes, and has no room behind them. -/
def Full (bs : List Int) : Tell := fun v w => (∃ a, v = .slice (some a) bs.length bs.length) ∧ Sl w v bs
theorem stable_full (bs : List Int) : Tell.stable (Full bs) := fun _ _ _ k h => ⟨h.1, h.2.kept k (by simp)⟩
end Go.Proofs.YtillhpgdlmeajaaGreatDoor

/-
  The contracts of the reference's Num and Bytes (numbers and texts behind what there is).
-/
namespace Go.Proofs.YtillhpgdlmeajaaGreatDoor
open Go.RowKit
open Go.Proofs
set_option maxHeartbeats 400000 in
theorem refnumM_any (v : Value) (bs : List Int) (n : Int) (base : Nat) (w : World) (h : Row w base v bs) (hbase : base ≤ w.heap.size) (hb : bs.length ≤ 100000000000) :
    Calls Tryz.prog 49 #[v, .int .u32 n] w fun e w' => ∃ ao m c, e = .returned (.slice ao m c) ∧ Row w' base (.slice ao m c) (bs ++ be4 n) ∧ RStep w v w' (.slice ao m c) := by
  obtain ⟨cs, hcs⟩ : ∃ cs, cs = be4 n := ⟨_, rfl⟩
  have hl : cs.length = 4 := by rw [hcs]; rfl
  have hsl : Sl (w.alloc (.cells #[.int .u8 (n / 16777216 % 256), .int .u8 (n / 65536 % 256), .int .u8 (n / 256 % 256), .int .u8 (n % 256)] 5)) (.slice (some ⟨w.heap.size, 0, none⟩) 4 4) cs := by
    rw [hcs]; exact Sl.block (cs := [n / 16777216 % 256, n / 65536 % 256, n / 256 % 256, n % 256]) (t := 5) (heap_alloc_new w _) (by simp [maxLen])
  rw [← hcs]
  clear hcs
  go_enter Tryz.func49, Tryz.ntmps49
  go_wp2_with (at_builtin; refine wpList_append_row rfl _ _ rfl base v bs rfl (h.kept ((Kp.refl [] w).alloc _) (by simp)) _ cs rfl hsl (by omega) (by simp; omega) ?_; intro ao m c w1 r1 s1)
  go_ret
  exact ⟨ao, m, c, rfl, r1, s1.after ((Kp.refl [] w).alloc _)⟩
set_option maxHeartbeats 400000 in
theorem refbytes_any (v : Value) (bs : List Int) (vx : Value) (cs : List Int) (base : Nat) (w : World) (h : Row w base v bs) (hbase : base ≤ w.heap.size) (hb : bs.length + cs.length ≤ 100000000000) (hS : Sl w vx cs) (hk : ∀ w1, Kp v.ownBlock.toList w w1 → Sl w1 vx cs) :
    Calls Tryz.prog 50 #[v, vx] w fun e w' => ∃ ao m c, e = .returned (.slice ao m c) ∧ Row w' base (.slice ao m c) (bs ++ be2 cs.length ++ cs) ∧ RStep w v w' (.slice ao m c) := by
  obtain ⟨ax, cx, rfl, hx1, hx2, hx3, _⟩ := hS
  have HK := hide hk
  clear hk
  obtain ⟨ds, hds⟩ : ∃ ds, ds = be2 cs.length := ⟨_, rfl⟩
  have hl : ds.length = 2 := by rw [hds]; rfl
  have hsl : Sl (w.alloc (.cells #[.int .u8 ((cs.length : Int) / 256 % 256), .int .u8 ((cs.length : Int) % 256)] 5)) (.slice (some ⟨w.heap.size, 0, none⟩) 2 2) ds := by
    rw [hds]; exact Sl.block (cs := [(cs.length : Int) / 256 % 256, (cs.length : Int) % 256]) (t := 5) (heap_alloc_new w _) (by simp [maxLen])
  rw [← hds]
  clear hds
  go_enter Tryz.func50, Tryz.ntmps50
  go_wp2_with (first | (at_builtin; refine wpList_append_row rfl (.tmp 5) (.tmp 13) rfl base v bs rfl (h.kept ((Kp.refl [] w).alloc _) (by simp)) _ ds rfl hsl (by omega) (by simp; omega) ?_; intro ao m c w1 r1 s1; have s1' := s1.after ((Kp.refl [] w).alloc _); have hsx := unhide HK _ s1'.1) | (at_builtin; refine wpList_append_row rfl (.tmp 14) (.tmp 15) rfl base _ _ rfl r1 _ cs rfl hsx (by rw [List.length_append]; omega) (by have := s1'.1.size; omega) ?_; intro ao2 m2 c2 w2 r2 s2))
  go_ret
  exact ⟨ao2, m2, c2, rfl, r2, s1'.trans s2⟩
/-- onto a slice without room: it only makes memory. -/
theorem refbytes_full (v : Value) (bs : List Int) (vx : Value) (cs : List Int) (w : World) (h : Full bs v w) (hb : bs.length + cs.length ≤ 100000000000) (hS : Sl w vx cs) :
    Calls Tryz.prog 50 #[v, vx] w fun e w' => ∃ ao m c, e = .returned (.slice ao m c) ∧ Row w' w.heap.size (.slice ao m c) (bs ++ be2 cs.length ++ cs) ∧ Kp [] w w' := by
  obtain ⟨i0, hi0, hz0, hz1, hz2⟩ := info_parts Tryz.info5
  obtain ⟨⟨ad, rfl⟩, hV⟩ := h
  have HS := hide hS
  obtain ⟨ax, cx, rfl, hx1, hx2, hx3, _⟩ := hS
  obtain ⟨ds, hds⟩ : ∃ ds, ds = be2 cs.length := ⟨_, rfl⟩
  have hl : ds.length = 2 := by rw [hds]; rfl
  obtain ⟨ob, hob⟩ : ∃ o : Obj, o = .cells #[.int .u8 ((cs.length : Int) / 256 % 256), .int .u8 ((cs.length : Int) % 256)] 5 := ⟨_, rfl⟩
  have K1 : Kp [] w (w.alloc ob) := (Kp.refl [] w).alloc ob
  have hsl : Sl (w.alloc ob) (.slice (some ⟨w.heap.size, 0, none⟩) 2 2) ds := by
    rw [hds, hob]; exact Sl.block (cs := [(cs.length : Int) / 256 % 256, (cs.length : Int) % 256]) (t := 5) (heap_alloc_new w _) (by simp [maxLen])
  have hnews : ∀ j u, (ds.map (Value.int .u8))[j]? = some u → (w.alloc ob).cell? ((⟨w.heap.size, 0, none⟩ : Addr).add j) = some u := by
    obtain ⟨_, _, e, _, _, _, h4⟩ := hsl
    injection e with e1 e2 e3
    exact h4 _ e1.symm
  have holds : ∀ b, some ad = some b → ∀ j u, (bs.map (Value.int .u8))[j]? = some u → (w.alloc ob).cell? (b.add j) = some u := by
    obtain ⟨_, _, e, _, _, _, h4⟩ := hV.kept K1 (by simp)
    injection e with e1 e2 e3
    intro b hb'
    exact h4 _ (by rw [← e1]; exact hb')
  have hz : (w.alloc ob).heap.size = w.heap.size + 1 := by simp
  rw [← hds]
  rw [hob] at K1 hnews holds hz
  have HK1 := hide K1
  have HZ := hide hz
  clear hds hob hsl hz
  go_enter Tryz.func50, Tryz.ntmps50
  go_wp2_with (first
    | (at_builtin; refine wpList_append_grows _ rfl (.tmp 5) (.tmp 13) 22 rfl 5 i0 (.int .u8 0) 1 1 Tryz.underlying22 hi0 hz0 hz1 hz2 rfl (by omega) (some ad) bs.length bs.length (bs.map (Value.int .u8)) rfl (fun h => by cases h) (by simp) holds ⟨w.heap.size, 0, none⟩ 2 2 (ds.map (Value.int .u8)) rfl (by simp; omega) hnews (by simp [Value.oneCell']) (by omega) (by unfold maxLen; omega) (by omega) ?_; intro v1 w1 o1 g1; have R1 : Row w1 w.heap.size v1 (bs ++ ds) := (by rw [unhide HZ] at o1; have := owns_rebase (base' := w.heap.size) o1 (fun k hk => by have := (o1.lt k hk).1; omega); unfold Row; rw [List.map_append, List.length_append, hl]; exact this); have K2 := (unhide HK1).grown g1 (by intro k hk; cases hk); obtain ⟨b1, m1, y1, hv1⟩ : ∃ b m y, v1 = .slice b m y := (by obtain ⟨b, y, e⟩ := R1.shape; exact ⟨b, _, y, e⟩); subst hv1; have hsx := (unhide HS).kept K2 (by simp))
    | (at_builtin; refine wpList_append_row rfl (.tmp 14) (.tmp 15) rfl w.heap.size _ _ rfl R1 _ cs rfl hsx (by rw [List.length_append]; omega) (by have := K2.size; omega) ?_; intro ao2 m2 c2 w2 r2 s2))
  go_ret
  exact ⟨ao2, m2, c2, rfl, r2, R1.step K2 s2⟩
end Go.Proofs.YtillhpgdlmeajaaGreatDoor

/-
  The contracts of the law package's helpers Hash and Manifest.
-/
namespace Go.Proofs.YtillhpgdlmeajaaGreatDoor
open Go.RowKit
open Go.Proofs
def nm0 : ByteArray := ⟨#[112, 117, 109, 112]⟩
def nm1 : ByteArray := ⟨#[118, 97, 108, 118, 101]⟩
def nm2 : ByteArray := ⟨#[97]⟩
def nm3 : ByteArray := ⟨#[103, 97, 117, 103, 101, 111, 102, 116, 104, 101, 108, 111, 110, 103, 101, 115, 116, 110, 97, 109]⟩
/-- one of the names. -/
def nmK (k : Nat) : ByteArray := if k = 0 then nm0 else if k = 1 then nm1 else if k = 2 then nm2 else nm3
def hashK (n : Int) : List Int := sha [98, wiP n 0 100000 % 256]
def mkM (a v f : Int) : Mf := ⟨nmK (wiP a 0 1000 % 4).toNat, 1 + wiP v 0 100000 % 9, hashK (f.tmod 4), [f % 256]⟩
theorem hashK_len (n : Int) : (hashK n).length = 32 := sha_len _
theorem hashK_bs (n : Int) : Bs (hashK n) := sha_bs _
theorem nm_name (k : Nat) : nameP (nums (nmK k)) = true := by
  unfold nmK
  split
  · decide +kernel
  · split
    · decide +kernel
    · split <;> decide +kernel
theorem nmK_size (k : Nat) : 1 ≤ (nmK k).size ∧ (nmK k).size ≤ 20 := by have := nameP_len (nm_name k); rwa [nums_len] at this
theorem mkM_ver (a v f : Int) : 1 ≤ (mkM a v f).v ∧ (mkM a v f).v ≤ 9 := by
  have h := wiP_ge v 0 100000 (by omega)
  show 1 ≤ 1 + wiP v 0 100000 % 9 ∧ 1 + wiP v 0 100000 % 9 ≤ 9
  omega
theorem mkM_ok (a v f : Int) : (mkM a v f).ok := by
  have h := mkM_ver a v f
  refine ⟨by omega, by omega, hashK_bs _, fun b hb => ?_⟩
  have : b = f % 256 := by simpa [mkM] using hb
  omega
theorem mkM_size (a v f : Int) : (mkM a v f).s.size ≤ 20 := (nmK_size _).2
theorem wrap_u8M (f : Int) : IntKind.u8.wrap f = f % 256 := by simp [IntKind.wrap, IntKind.signed, IntKind.bits]
theorem wrap_u32 {x : Int} (h0 : 0 ≤ x) (h1 : x ≤ 4294967295) : IntKind.u32.wrap x = x := by simp [IntKind.wrap, IntKind.signed, IntKind.bits]; omega
set_option maxRecDepth 100000 in
set_option maxHeartbeats 1000000 in
theorem khash_any (n : Int) (w : World) :
    Calls Tryz.prog 138 #[.int .i64 n] w fun e w' => ∃ ao m c, e = .returned (.slice ao m c) ∧ Row w' w.heap.size (.slice ao m c) (hashK n) ∧ Kp [] w w' := by
  have HW := hide (within_wi n 0 100000 w (by omega) (by omega) (by omega))
  obtain ⟨x, hx⟩ : ∃ x, x = wiP n 0 100000 := ⟨_, rfl⟩
  have hu := wrap_u8M x
  rw [← hx] at HW
  have HX := hide hx
  clear hx
  go_enter Tryz.func138, Tryz.ntmps138
  go_wp2_with fail
  refine (unhide HW).mono ?_
  rintro ee w1 ⟨rfl, hw⟩
  subst w1
  clear HW
  go_wp2_with fail
  obtain ⟨ob, hob⟩ : ∃ o : Obj, o = (.cells #[.int .u8 (x % 256)] 5) := ⟨_, rfl⟩
  have hP : Sl (w.alloc ob) (.slice (some ⟨w.heap.size, 0, none⟩) 1 1) [x % 256] := by
    rw [hob]; exact Sl.block (cs := [x % 256]) (t := 5) (fr := (0, 0)) (heap_alloc_new w _) (by simp [maxLen])
  have hPB : Bs [x % 256] := by
    intro b hb
    obtain rfl : b = x % 256 := by simpa using hb
    omega
  have Ka := (Kp.refl [] w).alloc ob
  have HL := lists1 hP hPB
  rw [show (w.alloc ob).heap.size = w.heap.size + 1 by simp] at HL
  have HK := hide (Ka.alloc (.cells #[.slice (some ⟨w.heap.size, 0, none⟩) 1 1] 22))
  rw [← hob]
  refine (reftagged_any 98 _ _ _ rfl _ HL (by omega) (by omega) (by simp) (by simp)).mono ?_
  rintro ee w2 ⟨ao2, m2, c2, rfl, R2, K2⟩
  have hr : sha (98 :: cat [(Value.slice (some ⟨w.heap.size, 0, none⟩) 1 1, [x % 256])]) = hashK n := by unfold hashK; rw [← unhide HX]; rfl
  rw [hr] at R2
  have HR2 := hide (row_new R2 (unhide HK))
  have HK2 := hide ((unhide HK).trans K2)
  clear HL HK hob R2 K2 Ka hP hPB hr hu
  go_wp2_with fail
  go_ret
  exact ⟨ao2, m2, c2, rfl, unhide HR2, unhide HK2⟩
/-- The value is the list of the four names. -/
def Str4 : Tell := fun v w => ∃ g, v = .slice (some ⟨g, 0, none⟩) 4 4 ∧ ∀ j, j < 4 → w.cell? ⟨g, j, none⟩ = some (.string (nmK j))
theorem stable_str4 : Tell.stable Str4 := fun _ _ _ k ⟨g, e, h⟩ => ⟨g, e, fun j hj => k.cell (h j hj) (by simp)⟩
/-- The value points to this string. -/
def PtS (S : ByteArray) : Tell := fun v w => ∃ g j, v = .pointer (some ⟨g, j, none⟩) ∧ w.cell? ⟨g, j, none⟩ = some (.string S)
theorem stable_pts (S : ByteArray) : Tell.stable (PtS S) := fun _ _ _ k ⟨g, j, e, h⟩ => ⟨g, j, e, k.cell h (by simp)⟩
section
variable {o : Oper} {a : Act} {w : World}
theorem grown_nm3 (ho : o.op = .slice 9 (.const (.string ⟨#[103, 97, 117, 103, 101, 111, 102, 116, 104, 101, 108, 111, 110, 103, 101, 115, 116, 110, 97, 109, 101]⟩)) none (some (.const (.int .i64 20))) none) : grown Tryz.prog w (Is (.string nm3)) ((execOp a.eval o).run Tryz.prog w) := by
  refine grown_run (v := .string nm3) ?_ (Kp.refl _ _) rfl
  obtain ⟨ρ, hρ, hc, _⟩ := eval_is a
  rw [hρ]
  unfold execOp
  simp only [ho]
  simp [go_sem, hc]
  decide +kernel
theorem grown_str4 (x : Operand) (ho : o.op = .buildSlice 109 4 #[(0, .const (.string nm0)), (1, .const (.string nm1)), (2, .const (.string nm2)), (3, x)]) (h : a.eval x = .string nm3) : grown Tryz.prog w Str4 ((execOp a.eval o).run Tryz.prog w) := by
  have G := heap_alloc_new w (.cells #[.string nm0, .string nm1, .string nm2, .string nm3] 9)
  refine grown_run (v := .slice (some ⟨w.heap.size, 0, none⟩) 4 4) (w' := w.alloc (.cells #[.string nm0, .string nm1, .string nm2, .string nm3] 9)) ?_ ((Kp.refl _ _).alloc _) ⟨_, rfl, fun j hj => ?_⟩
  · obtain ⟨ρ, hρ, hc, _⟩ := eval_is a
    rw [hρ] at h ⊢
    unfold execOp
    simp only [ho]
    simp [go_sem, hc, h]
  · rw [cell_of_row _ _ j _ _ _ G]
    rcases (by omega : j = 0 ∨ j = 1 ∨ j = 2 ∨ j = 3) with rfl | rfl | rfl | rfl <;> rfl
theorem grown_pts (s i : Operand) (k : Nat) (hk : k < 4) (ho : o.op = .indexAddr 109 s i) (h : Str4 (a.eval s) w) (hi : a.eval i = .int .i64 (k : Nat)) : grown Tryz.prog w (PtS (nmK k)) ((execOp a.eval o).run Tryz.prog w) := by
  obtain ⟨g, e, hc⟩ := h
  have hi2 : (k : Int) < 4 := by omega
  refine grown_run (v := .pointer (some ⟨g, k, none⟩)) ?_ (Kp.refl _ _) ⟨g, k, rfl, hc k hk⟩
  obtain ⟨ρ, hρ, _⟩ := eval_is a
  rw [hρ] at e hi ⊢
  unfold execOp
  simp only [ho]
  simp [go_sem, e, hi, hi2]
theorem grown_ldS (p : Operand) (S : ByteArray) (ho : o.op = .load 9 p) (h : PtS S (a.eval p) w) : grown Tryz.prog w (Is (.string S)) ((execOp a.eval o).run Tryz.prog w) := by
  obtain ⟨g, j, e, hc⟩ := h
  exact grown_lds p ho j S e hc
theorem grown_byte1 (x : Operand) (b : Int) (ho : o.op = .buildSlice 22 1 #[(0, x)]) (h : a.eval x = .int .u8 b) : grown Tryz.prog w (SlT [b]) ((execOp a.eval o).run Tryz.prog w) := by
  refine grown_run (v := .slice (some ⟨w.heap.size, 0, none⟩) 1 1) (w' := w.alloc (.cells #[.int .u8 b] 5)) ?_ ((Kp.refl _ _).alloc _) (Sl.block (cs := [b]) (t := 5) (fr := (0, 0)) (heap_alloc_new w _) (by simp [maxLen]))
  obtain ⟨ρ, hρ, _⟩ := eval_is a
  rw [hρ] at h ⊢
  unfold execOp
  simp only [ho]
  simp [go_sem, h]
theorem grown_man (x0 x1 x2 x3 : Operand) (ho : o.op = .build 160 #[(0, x0), (1, x1), (2, x2), (3, x3)]) (m : Mf) (h0 : a.eval x0 = .string m.s) (h1 : a.eval x1 = .int .u32 m.v) (h2 : Sl w (a.eval x2) m.f) (h3 : Sl w (a.eval x3) m.n) (hok : m.ok) : grown Tryz.prog w (MvT m) ((execOp a.eval o).run Tryz.prog w) := by
  obtain ⟨a2, c2, e2, r2⟩ := h2
  obtain ⟨a3, c3, e3, r3⟩ := h3
  refine grown_run (v := .agg #[.string m.s, .int .u32 m.v, .slice a2 m.f.length c2, .slice a3 m.n.length c3]) ?_ (Kp.refl _ _) ⟨a2, _, c2, a3, _, c3, rfl, ⟨a2, c2, rfl, r2⟩, ⟨a3, c3, rfl, r3⟩, hok⟩
  obtain ⟨ρ, hρ, _⟩ := eval_is a
  rw [hρ] at h0 h1 e2 e3 ⊢
  unfold execOp
  simp only [ho]
  simp [go_sem, h0, h1, e2, e3]
end
set_option maxRecDepth 100000 in
set_option maxHeartbeats 2000000 in
theorem kman_any (ia v f : Int) (w : World) :
    Calls Tryz.prog 105 #[.int .i64 ia, .int .i64 v, .int .i64 f] w fun e w' => ∃ x, e = .returned x ∧ MV w' x (mkM ia v f) ∧ Kp [] w w' := by
  have ha := wiP_ge ia 0 1000 (by omega)
  have hv := wiP_ge v 0 100000 (by omega)
  obtain ⟨k, hk⟩ : ∃ k : Nat, k = (wiP ia 0 1000 % 4).toNat := ⟨_, rfl⟩
  obtain ⟨r, hr⟩ : ∃ r, r = wiP v 0 100000 % 9 := ⟨_, rfl⟩
  have HKR : Hid ((wiP ia 0 1000).tmod 4 = (k : Int)) := hide (by rw [Int.tmod_eq_emod_of_nonneg ha.1]; omega)
  have HRR : Hid ((wiP v 0 100000).tmod 9 = r) := hide (by rw [Int.tmod_eq_emod_of_nonneg hv.1]; omega)
  have HK4 : Hid (k < 4) := hide (by omega)
  have HR9 : Hid (0 ≤ r ∧ r < 9) := hide (by omega)
  have HNM : Hid ((mkM ia v f).s = nmK k) := hide (by rw [hk]; rfl)
  have HV : Hid (1 + r = (mkM ia v f).v) := hide (by rw [hr]; rfl)
  have HZ := hide ((Kp.refl [] w).alloc (.cells #[.string ⟨#[]⟩, .int .u32 0, .slice none 0 0, .slice none 0 0] 160))
  have G0 := heap_alloc_new w (.cells #[.string ⟨#[]⟩, .int .u32 0, .slice none 0 0, .slice none 0 0] 160)
  have HG0 := hide G0
  clear ha hv hk hr G0
  go_enter Tryz.func105, Tryz.ntmps105
  go_wp2_with fail
  obtain ⟨g0, hg0⟩ : ∃ g, g = w.heap.size := ⟨_, rfl⟩
  obtain ⟨w0, hw0⟩ : ∃ w0, w0 = w.alloc (.cells #[.string ⟨#[]⟩, .int .u32 0, .slice none 0 0, .slice none 0 0] 160) := ⟨_, rfl⟩
  rw [← hw0] at HZ HG0 ⊢
  rw [← hg0] at HG0 ⊢
  have HGW := hide hg0
  clear hg0 hw0
  refine region_grow_tail 19 Tryz.mixed [Is (.string nm3), Str4, Is (.int .i64 ia), Is (.int .i64 (wiP ia 0 1000)), Is (.int .i64 k), PtS (nmK k), Is (.string (nmK k)), Is (.int .i64 v), Is (.int .i64 (wiP v 0 100000)), Is (.int .i64 r), Is (.int .i64 (1 + r)), Is (.int .u32 (1 + r)), Is (.int .i64 f), Is (.int .i64 (f.tmod 4)), SlT (hashK (f.tmod 4)), Is (.int .i64 f), Is (.int .u8 (f % 256)), SlT ([f % 256]), MvT (mkM ia v f)] [[], [(7, some 0)], [(0, none)], [(9, some 2)], [(10, some 3)], [(8, some 1), (11, some 4)], [(12, some 5)], [(1, none)], [(14, some 7)], [(15, some 8)], [(16, some 9)], [(17, some 10)], [(2, none)], [(19, some 12)], [(20, some 13)], [(2, none)], [(22, some 15)], [(23, some 16)], [(13, some 6), (18, some 11), (21, some 14), (24, some 17)]] (by kernel_rfl) ?_ ?_ ?_
  all_goals try simp only [List.take_succ_cons, List.take_zero, List.drop_succ_cons, List.drop_zero]
  · simp only [List.mem_cons, List.not_mem_nil, or_false]
    intro R hR
    rcases hR with rfl | rfl | rfl | rfl | rfl | rfl | rfl | rfl | rfl | rfl | rfl | rfl | rfl | rfl | rfl | rfl | rfl | rfl | rfl <;> first | exact stable_is _ | exact stable_str4 | exact stable_pts _ | exact stable_sl _ | exact stable_mv _
  · refine steps_cons (fun a w hk hn => ?_) ?_
    · clear hn
      refine wants_plain rfl ?_
      exact grown_nm3 rfl
    refine steps_cons (fun a w hk hn => ?_) ?_
    · have h7 : a.eval (.tmp 7) = .string nm3 := hn.1
      clear hn
      refine wants_plain rfl ?_
      exact grown_str4 (.tmp 7) rfl h7
    refine steps_cons (fun a w hk hn => ?_) ?_
    · have h0 : a.eval (.tmp 0) = .int .i64 ia := hn.1
      clear hn
      refine wants_plain rfl ?_
      exact grown_move (.tmp 0) rfl h0
    refine steps_cons (fun a w hk hn => ?_) ?_
    · have h9 : a.eval (.tmp 9) = .int .i64 ia := hn.1
      clear hn
      refine wants_plain rfl ?_
      refine grown_call (f := 20) rfl Tryz.func20 (by kernel_rfl) (by kernel_rfl) ?_
      simp only [List.map_toArray, List.map_cons, List.map_nil, h9]
      refine (within_wi ia 0 1000 w (by omega) (by omega) (by omega)).mono ?_
      rintro e w' ⟨rfl, rfl⟩
      exact ⟨_, rfl, Kp.refl _ _, rfl⟩
    refine steps_cons (fun a w hk hn => ?_) ?_
    · have h10 : a.eval (.tmp 10) = .int .i64 (wiP ia 0 1000) := hn.1
      clear hn
      refine wants_plain rfl ?_
      refine grown_run (v := .int .i64 k) ?_ (Kp.refl _ _) rfl
      obtain ⟨ρ, hρ, hc, hf, hg⟩ := eval_is a
      rw [hρ] at h10 ⊢
      simp [go_sem, hc, h10]
      exact unhide HKR
    refine steps_cons (fun a w hk hn => ?_) ?_
    · have h8 : (Str4) (a.eval (.tmp 8)) w := hn.1
      have h11 : a.eval (.tmp 11) = .int .i64 k := hn.2.1
      clear hn
      refine wants_plain rfl ?_
      exact grown_pts (.tmp 8) (.tmp 11) k (unhide HK4) rfl h8 h11
    refine steps_cons (fun a w hk hn => ?_) ?_
    · have h12 : (PtS (nmK k)) (a.eval (.tmp 12)) w := hn.1
      clear hn
      refine wants_plain rfl ?_
      exact grown_ldS (.tmp 12) _ rfl h12
    refine steps_cons (fun a w hk hn => ?_) ?_
    · have h1 : a.eval (.tmp 1) = .int .i64 v := hn.1
      clear hn
      refine wants_plain rfl ?_
      exact grown_move (.tmp 1) rfl h1
    refine steps_cons (fun a w hk hn => ?_) ?_
    · have h14 : a.eval (.tmp 14) = .int .i64 v := hn.1
      clear hn
      refine wants_plain rfl ?_
      refine grown_call (f := 20) rfl Tryz.func20 (by kernel_rfl) (by kernel_rfl) ?_
      simp only [List.map_toArray, List.map_cons, List.map_nil, h14]
      refine (within_wi v 0 100000 w (by omega) (by omega) (by omega)).mono ?_
      rintro e w' ⟨rfl, rfl⟩
      exact ⟨_, rfl, Kp.refl _ _, rfl⟩
    refine steps_cons (fun a w hk hn => ?_) ?_
    · have h15 : a.eval (.tmp 15) = .int .i64 (wiP v 0 100000) := hn.1
      clear hn
      refine wants_plain rfl ?_
      refine grown_run (v := .int .i64 r) ?_ (Kp.refl _ _) rfl
      obtain ⟨ρ, hρ, hc, hf, hg⟩ := eval_is a
      rw [hρ] at h15 ⊢
      simp [go_sem, hc, h15]
      exact unhide HRR
    refine steps_cons (fun a w hk hn => ?_) ?_
    · have h16 : a.eval (.tmp 16) = .int .i64 r := hn.1
      clear hn
      refine wants_plain rfl ?_
      refine grown_run (v := .int .i64 (1 + r)) ?_ (Kp.refl _ _) rfl
      have hr9 := unhide HR9
      obtain ⟨ρ, hρ, hc, hf, hg⟩ := eval_is a
      rw [hρ] at h16 ⊢
      simp [go_sem, hc, h16]
      exact wrap_at rfl (by omega) (by omega)
    refine steps_cons (fun a w hk hn => ?_) ?_
    · have h17 : a.eval (.tmp 17) = .int .i64 (1 + r) := hn.1
      clear hn
      refine wants_plain rfl ?_
      refine grown_run (v := .int .u32 (1 + r)) ?_ (Kp.refl _ _) rfl
      have hr9 := unhide HR9
      obtain ⟨ρ, hρ, hc, hf, hg⟩ := eval_is a
      rw [hρ] at h17 ⊢
      simp [go_sem, h17]
      exact wrap_u32 (by omega) (by omega)
    refine steps_cons (fun a w hk hn => ?_) ?_
    · have h2 : a.eval (.tmp 2) = .int .i64 f := hn.1
      clear hn
      refine wants_plain rfl ?_
      exact grown_move (.tmp 2) rfl h2
    refine steps_cons (fun a w hk hn => ?_) ?_
    · have h19 : a.eval (.tmp 19) = .int .i64 f := hn.1
      clear hn
      refine wants_plain rfl ?_
      refine grown_run (v := .int .i64 (f.tmod 4)) ?_ (Kp.refl _ _) rfl
      obtain ⟨ρ, hρ, hc, hf, hg⟩ := eval_is a
      rw [hρ] at h19 ⊢
      simp [go_sem, hc, h19]
    refine steps_cons (fun a w hk hn => ?_) ?_
    · have h20 : a.eval (.tmp 20) = .int .i64 (f.tmod 4) := hn.1
      clear hn
      refine wants_plain rfl ?_
      refine grown_call (f := 138) rfl Tryz.func138 (by kernel_rfl) (by kernel_rfl) ?_
      simp only [List.map_toArray, List.map_cons, List.map_nil, h20]
      refine (khash_any (f.tmod 4) w).mono ?_
      rintro e w' ⟨ao, m, c, rfl, R, K⟩
      exact ⟨_, rfl, K, R.sl⟩
    refine steps_cons (fun a w hk hn => ?_) ?_
    · have h2 : a.eval (.tmp 2) = .int .i64 f := hn.1
      clear hn
      refine wants_plain rfl ?_
      exact grown_move (.tmp 2) rfl h2
    refine steps_cons (fun a w hk hn => ?_) ?_
    · have h22 : a.eval (.tmp 22) = .int .i64 f := hn.1
      clear hn
      refine wants_plain rfl ?_
      refine grown_run (v := .int .u8 (f % 256)) ?_ (Kp.refl _ _) rfl
      obtain ⟨ρ, hρ, hc, hf, hg⟩ := eval_is a
      rw [hρ] at h22 ⊢
      simp [go_sem, h22]
      exact wrap_u8M f
    refine steps_cons (fun a w hk hn => ?_) ?_
    · have h23 : a.eval (.tmp 23) = .int .u8 (f % 256) := hn.1
      clear hn
      refine wants_plain rfl ?_
      exact grown_byte1 (.tmp 23) _ rfl h23
    refine steps_cons (fun a w hk hn => ?_) ?_
    · have h13 : a.eval (.tmp 13) = .string (nmK k) := hn.1
      have h18 : a.eval (.tmp 18) = .int .u32 (1 + r) := hn.2.1
      have h21 : Sl w (a.eval (.tmp 21)) (hashK (f.tmod 4)) := hn.2.2.1
      have h24 : Sl w (a.eval (.tmp 24)) ([f % 256]) := hn.2.2.2.1
      clear hn
      refine wants_plain rfl ?_
      exact grown_man (.tmp 13) (.tmp 18) (.tmp 21) (.tmp 24) rfl (mkM ia v f) (by rw [h13]; exact congrArg Value.string (unhide HNM).symm) (by rw [h18]; exact congrArg (fun t => Value.int .u32 t) (unhide HV)) h21 h24 (mkM_ok ia v f)
    exact trivial
  intro W1 hkW1
  rintro _ rfl
  intro v8 h8
  rintro _ rfl
  rintro _ rfl
  rintro _ rfl
  intro v12 h12
  rintro _ rfl
  rintro _ rfl
  rintro _ rfl
  rintro _ rfl
  rintro _ rfl
  rintro _ rfl
  rintro _ rfl
  rintro _ rfl
  intro v21 h21
  rintro _ rfl
  rintro _ rfl
  intro v24 h24
  intro v25 h25
  refine fin_nil ?_
  simp only [Act.put, List.set_cons_zero, List.set_cons_succ, List.setIfInBounds_toArray]
  have K1 := (kp_drew w0).trans hkW1
  have G1 := K1.heap (unhide HG0) (by simp)
  obtain ⟨af, nf, cf, an, nn, cn, e25, hF, hN, hok⟩ := h25
  subst e25
  go_wp2_with (refine wpList_store_man rfl (.tmp 6) (.tmp 25) rfl g0 rfl _ _ _ _ _ _ _ _ G1 rfl ⟨rfl, rfl, rfl, rfl⟩ ?_; intro wa Ga Ka)
  refine bodyPost_ret (results_man1 rfl _ rfl Ga) rfl ?_
  have N1 := noBy_man G1
  exact ⟨_, rfl, ⟨af, nf, cf, an, nn, cn, rfl, hF.offBy N1 Ka, hN.offBy N1 Ka, hok⟩, (((unhide HZ).trans K1)).then Ka (fun i hi => .inr (by have := unhide HGW; simp at hi; omega))⟩
end Go.Proofs.YtillhpgdlmeajaaGreatDoor

/-
  The contracts of the reference's Encode and of the law package's Item.
-/
namespace Go.Proofs.YtillhpgdlmeajaaGreatDoor
open Go.RowKit
open Go.Proofs
/-- The value is a slice of the call's own that reads so. -/
def RowB (B : Nat) (bs : List Int) : Tell := fun v w => (∃ ao m c, v = .slice ao m c) ∧ Row w B v bs
theorem stable_rowb (B : Nat) (bs : List Int) : Tell.stable (RowB B bs) := fun _ _ _ k h => ⟨h.1, h.2.kept k (by simp)⟩
theorem grown_full1 {o : Oper} {a : Act} {w : World} (b : Int) (ho : o.op = .buildSlice 22 1 #[(0, .const (.int .u8 b))]) : grown Tryz.prog w (Full [b]) ((execOp a.eval o).run Tryz.prog w) := by
  refine grown_run (v := .slice (some ⟨w.heap.size, 0, none⟩) 1 1) (w' := w.alloc (.cells #[.int .u8 b] 5)) ?_ ((Kp.refl _ _).alloc _) ⟨⟨_, rfl⟩, Sl.block (cs := [b]) (t := 5) (fr := (0, 0)) (heap_alloc_new w _) (by simp [maxLen])⟩
  obtain ⟨ρ, hρ, hc, _⟩ := eval_is a
  rw [hρ]
  unfold execOp
  simp only [ho]
  simp [go_sem, hc]
theorem grown_convS {o : Oper} {a : Act} {w : World} (x : Operand) (S : ByteArray) (hS : S.size ≤ 9223372036854775807) (ho : o.op = .convert 9 22 x) (h : a.eval x = .string S) : grown Tryz.prog w (SlT (nums S)) ((execOp a.eval o).run Tryz.prog w) := by
  obtain ⟨c, w', hr, hs, hk⟩ := conv_big S w hS
  refine grown_run (v := .slice (some ⟨w.heap.size, 0, none⟩) S.size c) (w' := w') ?_ hk hs
  unfold execOp
  simp only [ho, h, Sem.run_bind, hr, Result.andThen_ok, Sem.run_pure]
theorem step_callM {P : Program} {ops : Array Oper} {o : Oper} {a : Act} {w : World} {K : Act → World → Prop} {Q : Exit → Act → World → Prop} {E : Prop} {f : FuncId} {fn : Func} {xs : Array Operand} {ats : Array TypeId} (hgd : o.guard = none) (ho : o.op = .call { callee := .value (.func f), args := xs, argTypes := ats }) (hf : P.funcs[f]? = some fn) (hn : (fn.name == "runtime.NumGoroutine") = false) (hb : fn.body.isNone = false)
    (h : Calls P f (xs.map a.eval) w fun e w' => ∃ v, e = .returned v ∧ K (a.put o.dst v) w') : if Region.wanted o (yielded ops a.tmps) = true then Oper.wp P o a w K Q else E := by
  have hw : Region.wanted o (yielded ops a.tmps) = true := by simp [Region.wanted, hgd]
  rw [if_pos hw]
  have e : (execOp a.eval o).run P w = .ok (.enter f (xs.map a.eval)) w := by
    obtain ⟨dst, op, ty, pos, after, guard⟩ := o
    simp only at ho
    subst ho
    rw [execOp_call_go]
    have h1 : fn.name ≠ "runtime.NumGoroutine" := by simpa using hn
    have h2 : ¬ fn.body = none := by intro h2; rw [h2] at hb; cases hb
    simp [callFunc, hf, h1, h2]
  unfold Oper.wp
  rw [e]
  simp only [Oper.upon]
  refine h.mono ?_
  rintro e' w' ⟨v, rfl, hv⟩
  exact hv
set_option maxRecDepth 100000 in
set_option maxHeartbeats 4000000 in
theorem rencode_any (v : Value) (m : Mf) (w : World) (hV : MV w v m) (hsz : m.s.size ≤ 1000) (hfz : m.f.length ≤ 1000) (hnz : m.n.length ≤ 1000) :
    Calls Tryz.prog 104 #[v] w fun e w' => ∃ ao k c, e = .returned (.slice ao k c) ∧ Row w' w.heap.size (.slice ao k c) (encM m) ∧ Kp [] w w' := by
  obtain ⟨af, nf, cf, an, nn, cn, rfl, hF, hNt, hok⟩ := hV
  have hE : encM m = [77] ++ be2 (nums m.s).length ++ nums m.s ++ be4 m.v ++ m.f ++ be2 m.n.length ++ m.n := by unfold encM; simp only [List.append_assoc]
  obtain ⟨s, x, f, n⟩ := m
  simp only at hF hNt hE hsz hfz hnz ⊢
  have HE := hide hE
  have HSZ := hide hsz
  have HFZ := hide hfz
  have HNZ := hide hnz
  have HF := hide hF
  have HNt := hide hNt
  obtain ⟨g0, hg0⟩ : ∃ g, g = w.heap.size := ⟨_, rfl⟩
  obtain ⟨w0, hw0⟩ : ∃ w0, w0 = w.alloc (.cells #[.string s, .int .u32 x, .slice af nf cf, .slice an nn cn] 160) := ⟨_, rfl⟩
  have K0 : Kp [] w w0 := by rw [hw0]; exact (Kp.refl [] w).alloc _
  have G0 : w0.heap[g0]? = some (.cells #[.string s, .int .u32 x, .slice af nf cf, .slice an nn cn] 160 (0, 0)) := by rw [hw0, hg0]; exact heap_alloc_new w _
  have HK0 := hide K0
  have HG0 := hide G0
  have HST : Hid (∀ w', Kp [] w0.drew w' → w'.heap[g0]? = some (.cells #[.string s, .int .u32 x, .slice af nf cf, .slice an nn cn] 160 (0, 0))) := fun w' k' => ((kp_drew w0).trans k').heap G0 (by simp)
  have HGW := hide hg0
  have HW0 := hide hw0
  clear hF hNt hE hsz hfz hnz hok hg0 hw0 K0 G0
  go_enter Tryz.func104, Tryz.ntmps104
  go_wp2_with fail
  rw [← unhide HW0, ← unhide HGW]
  refine region_grow_tail 7 Tryz.mixed [Full [77], Is (.pointer (some ⟨g0, 0, none⟩)), Is (.string s), SlT (nums s), RowB w0.drew.heap.size ([77] ++ be2 (nums s).length ++ nums s), Is (.pointer (some ⟨g0, 1, none⟩)), Is (.int .u32 x)] [[], [(1, none)], [(5, some 1)], [(6, some 2)], [(4, some 0), (7, some 3)], [(1, none)], [(9, some 5)]] (by kernel_rfl) ?_ ?_ ?_
  all_goals try simp only [List.take_succ_cons, List.take_zero, List.drop_succ_cons, List.drop_zero]
  · simp only [List.mem_cons, List.not_mem_nil, or_false]
    intro R hR
    rcases hR with rfl | rfl | rfl | rfl | rfl | rfl | rfl <;> first | exact stable_full _ | exact stable_is _ | exact stable_sl _ | exact stable_rowb _ _
  · refine steps_cons (fun a w hk hn => ?_) ?_
    · clear hn
      refine wants_plain rfl ?_
      exact grown_full1 77 rfl
    refine steps_cons (fun a w hk hn => ?_) ?_
    · have h1 : a.eval (.tmp 1) = .pointer (some ⟨g0, 0, none⟩) := hn.1
      clear hn
      refine wants_plain rfl ?_
      exact grown_mfld (.tmp 1) 0 (by omega) rfl h1
    refine steps_cons (fun a w hk hn => ?_) ?_
    · have h5 : a.eval (.tmp 5) = .pointer (some ⟨g0, 0, none⟩) := hn.1
      clear hn
      refine wants_plain rfl ?_
      exact grown_lds (.tmp 5) rfl 0 _ h5 (cell_man (unhide HST w hk)).1
    refine steps_cons (fun a w hk hn => ?_) ?_
    · have h6 : a.eval (.tmp 6) = .string s := hn.1
      clear hn
      refine wants_plain rfl ?_
      exact grown_convS (.tmp 6) s (by have := unhide HSZ; omega) rfl h6
    refine steps_cons (fun a w hk hn => ?_) ?_
    · have h4 : (Full [77]) (a.eval (.tmp 4)) w := hn.1
      have h7 : Sl w (a.eval (.tmp 7)) (nums s) := hn.2.1
      clear hn
      refine wants_plain rfl ?_
      refine grown_call (f := 50) rfl Tryz.func50 (by kernel_rfl) (by kernel_rfl) ?_
      simp only [List.map_toArray, List.map_cons, List.map_nil]
      refine (refbytes_full _ [77] _ (nums s) w h4 (by have := unhide HSZ; rw [nums_len]; simp; omega) h7).mono ?_
      rintro e w' ⟨ao, m, c, rfl, R, K⟩
      exact ⟨_, rfl, K, ⟨ao, m, c, rfl⟩, row_new R hk⟩
    refine steps_cons (fun a w hk hn => ?_) ?_
    · have h1 : a.eval (.tmp 1) = .pointer (some ⟨g0, 0, none⟩) := hn.1
      clear hn
      refine wants_plain rfl ?_
      exact grown_mfld (.tmp 1) 1 (by omega) rfl h1
    refine steps_cons (fun a w hk hn => ?_) ?_
    · have h9 : a.eval (.tmp 9) = .pointer (some ⟨g0, 1, none⟩) := hn.1
      clear hn
      refine wants_plain rfl ?_
      exact grown_ldu (.tmp 9) rfl 1 _ h9 (cell_man (unhide HST w hk)).2.1
    exact trivial
  intro W1 hkW1
  intro v4 h4
  rintro _ rfl
  rintro _ rfl
  intro v7 h7
  intro v8 h8
  rintro _ rfl
  rintro _ rfl
  refine fin_nil ?_
  simp only [Act.put, List.set_cons_zero, List.set_cons_succ, List.setIfInBounds_toArray]
  obtain ⟨⟨a8, m8, c8, e8⟩, R8⟩ := h8
  subst e8
  obtain ⟨B, hB⟩ : ∃ B, B = w0.drew.heap.size := ⟨_, rfl⟩
  rw [← hB] at R8
  obtain ⟨L6, hL6⟩ : ∃ L, L = [77] ++ be2 (nums s).length ++ nums s := ⟨_, rfl⟩
  rw [← hL6] at R8
  have hl6 : L6.length ≤ 1003 := by rw [hL6]; simp only [List.length_append, List.length_cons, List.length_nil, be2, nums_len]; have := unhide HSZ; omega
  have hgB : g0 < B := by rw [hB]; exact (Array.getElem?_eq_some_iff.1 (unhide HG0)).1
  have K1 := (kp_drew w0).trans hkW1
  have hBW : B ≤ W1.heap.size := by rw [hB]; exact hkW1.size
  have HC := hide (refnumM_any (.slice a8 m8 c8) L6 x B W1 R8 hBW (by omega))
  have HK1 := hide ((unhide HK0).trans K1)
  have HR8 := hide R8
  have HL6 := hide hL6
  have HLL := hide hl6
  have HB0 := hide hB
  have HG1 := hide (K1.heap (unhide HG0) (by simp))
  clear h4 h7 hkW1 hL6 hl6 R8 K1 hB HST
  go_wp2_with fail
  refine (unhide HC).mono ?_
  rintro ee w2 ⟨a2, m2, c2, rfl, R2, S2⟩
  have K2 : Kp [] w w2 := (unhide HK1).then S2.1 (fun i hi => .inr (by have := (unhide HR8).own i (by simpa using hi); have := unhide HGW; omega))
  have G2 := S2.1.heap (unhide HG1) (fun hm => by have := (unhide HR8).own g0 (by simpa using hm); omega)
  obtain ⟨L7, hL7⟩ : ∃ L, L = L6 ++ be4 x := ⟨_, rfl⟩
  rw [← hL7] at R2
  have hl7 : L7.length ≤ 1007 := by rw [hL7, List.length_append]; have := unhide HLL; have : (be4 x).length = 4 := rfl; omega
  have hBW2 : B ≤ w2.heap.size := Nat.le_trans hBW S2.1.size
  have hR2 : Row w2.drew B (.slice a2 m2 c2) L7 := R2.kept (kp_drew w2) (by simp)
  have hF2 : Sl w2.drew (.slice af nf cf) f := (unhide HF).kept (K2.trans (kp_drew w2)) (by simp)
  have hNA : Hid (∀ W, Kp [] w W → Sl W (.slice an nn cn) n) := fun W k => (unhide HNt).kept k (by simp)
  have hc2 : w2.cell? ⟨g0, 2, none⟩ = some (.slice af nf cf) := (cell_man G2).2.2.1
  have hc3 : w2.cell? ⟨g0, 3, none⟩ = some (.slice an nn cn) := (cell_man G2).2.2.2
  have HK2 := hide (K2.trans (kp_drew w2))
  have HL7 := hide hL7
  have hbd : L7.length + f.length ≤ 140737488355328 := by have := unhide HFZ; omega
  have hbd2 : (L7 ++ f).length + n.length ≤ 100000000000 := by rw [List.length_append]; have := unhide HFZ; have := unhide HNZ; omega
  have hgl : w.heap.size < B := by have := unhide HGW; omega
  clear HC S2 R2 hL7 hl7 K2 G2 HG1 HR8
  go_wp2_with fail
  go_region_held3 (fun W => W.cell? ⟨g0, 2, none⟩ = some (.slice af nf cf) ∧ W.cell? ⟨g0, 3, none⟩ = some (.slice an nn cn))
    (first
      | go_keep
      | (go_split_ands
         refine ⟨?_, ?_⟩
         · exact s3.1.cell (by assumption) (fun hm => by have := hR2.own g0 (by simpa using hm); omega)
         · exact s3.1.cell (by assumption) (fun hm => by have := hR2.own g0 (by simpa using hm); omega))
      | (go_split_ands
         refine ⟨?_, ?_⟩
         · exact S4.1.cell (by assumption) (fun hm => by have := r3.own g0 (by simpa using hm); omega)
         · exact S4.1.cell (by assumption) (fun hm => by have := r3.own g0 (by simpa using hm); omega)))
    (first
      | (refine step_append_row (by rfl) (.tmp 12) (.tmp 14) (by rfl) B _ L7 (by rfl) hR2 _ f (by rfl) hF2 hbd hBW2 ?_; intro a3 m3 c3 w3 r3 s3; have K3 : Kp [] w w3 := ((unhide HK2).then s3.1 (fun i hi => .inr (by have := hR2.own i (by simpa using hi); omega))))
      | (refine step_callM (by rfl) (by rfl) Tryz.func50 (by kernel_rfl) (by kernel_rfl) ?_; simp only [List.map_toArray, List.map_cons, List.map_nil]; refine (refbytes_any (.slice a3 m3 c3) (L7 ++ f) (.slice an nn cn) n B w3 r3 (by have := s3.1.size; have e : w2.drew.heap.size = w2.heap.size := rfl; omega) hbd2 (unhide hNA w3 K3) (fun W k => unhide hNA W (K3.then k (fun i hi => .inr (by have := r3.own i (by simpa using hi); omega))))).mono ?_; rintro ee w4 ⟨a4, m4, c4, rfl, R4, S4⟩; refine ⟨_, rfl, ?_⟩))
  go_wp2_with fail
  go_ret
  have K4 : Kp [] w w4 := K3.then S4.1 (fun i hi => .inr (by have := r3.own i (by simpa using hi); omega))
  exact ⟨a4, m4, c4, rfl, by rw [unhide HE, ← unhide HL6, ← unhide HL7]; exact owns_rebase R4 (fun i hi => by have := R4.own i hi; omega), K4⟩
set_option maxRecDepth 100000 in
set_option maxHeartbeats 1000000 in
theorem kitem_any (ia iv jf : Int) (w : World) :
    Calls Tryz.prog 61 #[.int .i64 ia, .int .i64 iv, .int .i64 jf] w fun e w' => ∃ ao k c, e = .returned (.slice ao k c) ∧ Row w' w.heap.size (.slice ao k c) (encM (mkM ia iv jf)) ∧ Kp [] w w' := by
  have HM := hide (kman_any ia iv jf w)
  have h1 := mkM_size ia iv jf
  have HR := hide (fun v w1 (h : MV w1 v (mkM ia iv jf)) => rencode_any v (mkM ia iv jf) w1 h (by omega) (by show (hashK _).length ≤ 1000; rw [hashK_len]; omega) (by show [jf % 256].length ≤ 1000; simp))
  clear h1
  go_enter Tryz.func61, Tryz.ntmps61
  go_wp2_with fail
  refine (unhide HM).mono ?_
  rintro ee w1 ⟨x, rfl, V1, K1⟩
  have HC := hide (unhide HR x w1 V1)
  have HK1 := hide K1
  clear V1 K1 HM HR
  go_wp2_with fail
  refine (unhide HC).mono ?_
  rintro ee w2 ⟨a2, m2, c2, rfl, R2, K2⟩
  have HR2 := hide (row_new R2 (unhide HK1))
  have HK2 := hide ((unhide HK1).trans K2)
  clear HC R2 K2
  go_wp2_with fail
  go_ret
  exact ⟨a2, m2, c2, rfl, unhide HR2, unhide HK2⟩
end Go.Proofs.YtillhpgdlmeajaaGreatDoor

/-
  The laws of ledger: the reference's Batch, items.
-/
namespace Go.Proofs.YtillhpgdlmeajaaGreatDoor
open Go.RowKit
open Go.Proofs
set_option linter.unusedVariables false
/-- an item as it is drawn. -/
def itemX (x : Int) : List Int := encM (mkM x (x.tdiv 4) (x.tdiv 40))
theorem itemX_len (x : Int) : (itemX x).length ≤ 62 := by
  unfold itemX
  rw [encM_len, nums_len]
  have h1 := mkM_size x (x.tdiv 4) (x.tdiv 40)
  have h2 : (mkM x (x.tdiv 4) (x.tdiv 40)).f.length = 32 := hashK_len _
  have h3 : (mkM x (x.tdiv 4) (x.tdiv 40)).n.length = 1 := rfl
  omega
theorem itemX_bs (x : Int) : Bs (itemX x) := encM_bs _ (mkM_ok _ _ _)
theorem tdiv_le (x c : Int) (hc : 0 < c) : (0 ≤ x → 0 ≤ x.tdiv c ∧ x.tdiv c ≤ x) ∧ (x < 0 → x ≤ x.tdiv c ∧ x.tdiv c ≤ 0) := by
  refine ⟨fun h => ⟨Int.tdiv_nonneg h (by omega), ?_⟩, fun h => ?_⟩
  · rw [Int.tdiv_eq_ediv_of_nonneg h]; exact Int.ediv_le_self c h
  · have e : x.tdiv c = -((-x).tdiv c) := by rw [Int.neg_tdiv]; omega
    rw [e, Int.tdiv_eq_ediv_of_nonneg (by omega)]
    have h1 := Int.ediv_le_self c (show 0 ≤ -x by omega)
    have h2 := Int.ediv_nonneg (show 0 ≤ -x by omega) (show 0 ≤ c by omega)
    omega
theorem RowsQ.off {w w' : World} {base : Nat} {v : Value} {l : List (Value × List Int)} {S : List Nat} (h : RowsQ w base v l) (k : Kp S w w') (hS : ∀ i ∈ S, i < base ∨ w.heap.size ≤ i) : RowsQ w' base v l :=
  h.kept (k.less (T := S.filter (fun i => decide (i < base))) (fun i hi hl => List.mem_filter.2 ⟨hi, decide_eq_true ((hS i hi).resolve_right (by omega))⟩)) (fun i hi => of_decide_eq_true (List.mem_filter.1 hi).2)
theorem RowsQ.lists {w : World} {base : Nat} {v : Value} {l : List (Value × List Int)} (h : RowsQ w base v l) (hl : l.length ≤ 1000000) : Lists w v l := lists_big h.1 hl
theorem RowsQ.rebase {w : World} {base b : Nat} {v : Value} {l : List (Value × List Int)} (h : RowsQ w base v l) (hb : b ≤ base) : RowsQ w b v l :=
  ⟨⟨owns_rebase h.1.1 (fun i hi => Nat.le_trans hb (h.1.1.own i hi)), h.1.2⟩, fun x hx i hi => Nat.le_trans hb (h.2 x hx i hi)⟩
theorem rowsQ_nil (w : World) (base : Nat) : RowsQ w base (.slice none 0 0) [] := ⟨⟨World.ownsRow_nil _ _ _ _, by simp⟩, by simp⟩
/-- a list of one slice that lies from B on. -/
def OneO (B : Nat) (r : List Int) : Tell := fun v w => ∃ g u, v = .slice (some ⟨g, 0, none⟩) 1 1 ∧ w.cell? ⟨g, 0, none⟩ = some u ∧ RO B r u w
theorem stable_oneo (B : Nat) (r : List Int) : Tell.stable (OneO B r) := fun _ _ _ k ⟨g, u, e, h1, h2⟩ => ⟨g, u, e, k.cell h1 (by simp), stable_ro B r _ _ _ k h2⟩
theorem grown_oneo {o : Oper} {a : Act} {w : World} (x : Operand) (ho : o.op = .buildSlice 33 1 #[(0, x)]) (B : Nat) (r : List Int) (h : RO B r (a.eval x) w) : grown Tryz.prog w (OneO B r) ((execOp a.eval o).run Tryz.prog w) := by
  have h' := h
  obtain ⟨ao, m, c, e, _⟩ := h
  have k : Kp [] w (w.alloc (.cells #[.slice ao m c] 22)) := (Kp.refl [] w).alloc _
  rw [e] at h'
  refine grown_run (v := .slice (some ⟨w.heap.size, 0, none⟩) 1 1) (w' := w.alloc (.cells #[.slice ao m c] 22)) ?_ k ⟨w.heap.size, _, rfl, by rw [cell_of_row _ _ 0 _ _ _ (heap_alloc_new w _)]; rfl, stable_ro B r _ _ _ k h'⟩
  obtain ⟨ρ, hρ, _⟩ := eval_is a
  rw [hρ] at e ⊢
  unfold execOp
  simp only [ho]
  simp [go_sem, e]
theorem wpList_rowsO {base B : Nat} {w2 : World} {ops : Array Oper} {rest : List Oper} {o : Oper} {a : Act} {Q : Exit → Act → World → Prop} (hgd : o.guard = none) (s x : Operand)
    (ho : o.op = .call { callee := .builtin .append, args := #[s, x], argTypes := #[33, 33] }) (v : Value) (l : List (Value × List Int)) (hs : a.eval s = v) (hP : RowsQ w2 base v l) (hbase : base ≤ w2.heap.size) (hl : l.length ≤ 1000000)
    (bs : List Int) (hx : OneO B bs (a.eval x) w2) (hb : Bs bs) (hap : ∀ i, v.ownBlock = some i → i < B) (hbB : base ≤ B)
    (h : ∀ ao m c w' u, RowsQ w' base (.slice ao m c) (l ++ [(u, bs)]) → RStep w2 v w' (.slice ao m c) → wpList Tryz.prog ops Q rest (a.put o.dst (.slice ao m c)) w') : wpList Tryz.prog ops Q (o :: rest) a w2 := by
  obtain ⟨g, u, ex, hc, ⟨ax, mx, cx, rfl, hS, hown⟩⟩ := hx
  refine wpList_append_rowv hgd s x ho base v (l.map (·.1)) hs hP.1.1 ⟨g, 0, none⟩ 1 [.slice ax mx cx] ex ?_ ?_ ?_ hbase ?_
  · intro j y hy
    have : j = 0 ∧ y = .slice ax mx cx := by
      cases j with
      | zero => exact ⟨rfl, by simpa using hy.symm⟩
      | succ j => simp at hy
    obtain ⟨rfl, rfl⟩ := this
    rw [Addr.add_lit]; exact hc
  · simp [Value.oneCell']
  · simp; omega
  · intro ao m c w' r st
    refine h ao m c w' (.slice ax mx cx) ⟨hP.1.snocJ (x := (.slice ax mx cx, bs)) hS hb (fun i h1 h2 => by have := hown i h1; have := hap i h2; omega) r st, fun y hy => ?_⟩ st
    rcases List.mem_append.1 hy with hy | hy
    · exact hP.2 y hy
    · obtain rfl : y = (.slice ax mx cx, bs) := by simpa using hy
      exact fun i hi => Nat.le_trans hbB (hown i hi)
set_option maxRecDepth 100000 in
set_option maxHeartbeats 4000000 in
theorem uitems_any (v : Value) (xs ys : List Int) (hys : ys = xs.take 6) (w : World) (hL : Ints w v xs) :
    Calls Tryz.prog 19 #[v] w fun e w' => ∃ ao m c, e = .returned (.slice ao m c) ∧ Kp [] w w' ∧ m = ys.length ∧ ∃ l, RowsQ w' w.heap.size (.slice ao m c) l ∧ l.map (·.2) = ys.map itemX := by
  have HYs := hide hys
  clear hys
  obtain ⟨al, cl, rfl, hlm, hbd, hcell⟩ := hL
  obtain ⟨N, hN⟩ : ∃ N, N = xs.length := ⟨_, rfl⟩
  have HC : Hid (∀ i (h : i < N), ∃ (hi : i < xs.length), ∃ a, al = some a ∧ w.cell? (a.add i) = some (.int .i64 xs[i]) ∧ -9223372036854775808 ≤ xs[i] ∧ xs[i] ≤ 9223372036854775807) := fun i hi => by
    have hi2 : i < xs.length := by omega
    obtain ⟨a, e, hc⟩ := hcell i hi2
    exact ⟨hi2, a, e, hc, hbd _ (List.getElem_mem hi2)⟩
  rw [← hN] at hlm ⊢
  unfold maxLen at hlm
  have HN := hide hN
  clear hcell hbd hN
  go_enter Tryz.func19, Tryz.ntmps19
  go_wp2_with fail
  go_loopw [3, 4] (fun o i wr => ∃ k : Nat, k ≤ N ∧ k ≤ 6 ∧ i = .int .i64 k ∧ (∃ ao m c, o = .slice ao m c) ∧ Kp [] w wr ∧ ∃ l, RowsQ wr w.heap.size o l ∧ l.map (·.2) = (xs.take k).map itemX) (fun _ i _ => N - (intOf i).toNat)
  case atStart => exact ⟨0, by omega, by omega, rfl, ⟨_, _, _, rfl⟩, Kp.refl _ _, [], rowsQ_nil _ _, by simp⟩
  case round =>
    obtain ⟨k, hkN, hk6, rfl, ⟨ao, m, c, rfl⟩, K, l, P, hl⟩ := hrel
    have HK := hide K
    have HP := hide P
    have HL := hide hl
    have hll : l.length = k := by have h := congrArg List.length hl; rw [List.length_map, List.length_map, List.length_take] at h; have := HN.out; omega
    clear hl P
    by_cases hlt : k < N ∧ k < 6
    · obtain ⟨hl1, hl2⟩ := hlt
      have hl1' : (k : Int) < (N : Int) := by omega
      have hl2' : (k : Int) < 6 := by omega
      have hd1 : decide ((k : Int) < (N : Int)) = true := decide_eq_true hl1'
      have hd2 : decide ((k : Int) < 6) = true := decide_eq_true hl2'
      obtain ⟨hkx, a0, rfl, hc, hb0, hb1⟩ := HC.out k hl1
      have htk : xs.take (k + 1) = xs.take k ++ [xs[k]] := List.take_succ_eq_append_getElem hkx
      obtain ⟨x, hx⟩ : ∃ x, x = xs[k] := ⟨_, rfl⟩
      rw [← hx] at hc hb0 hb1 htk
      have HTK := hide htk
      have HIn := hide hl1'
      have HLd : Hid (∀ w', Kp [] wr.drew w' → w'.cell? (a0.add k) = some (.int .i64 x)) := fun w' k' => (K.trans ((kp_drew wr).trans k')).cell hc (by simp)
      have HQ4 : Hid (IntKind.i64.wrap (x.tdiv 4) = x.tdiv 4) := hide (by have := tdiv_le x 4 (by omega); simp [IntKind.wrap, IntKind.signed, IntKind.bits]; omega)
      have HQ40 : Hid (IntKind.i64.wrap (x.tdiv 40) = x.tdiv 40) := hide (by have := tdiv_le x 40 (by omega); simp [IntKind.wrap, IntKind.signed, IntKind.bits]; omega)
      clear hc htk hx hb0 hb1 K
      go_wp2_with fail
      refine region_grow_tail 17 Tryz.mixed [Is (.slice ao m c), Is (.slice (some a0) N cl), Is (.int .i64 (k : Int)), Is (.pointer (some (a0.add k))), Is (.int .i64 x), Is (.slice (some a0) N cl), Is (.int .i64 (k : Int)), Is (.pointer (some (a0.add k))), Is (.int .i64 x), Is (.int .i64 (x.tdiv 4)), Is (.slice (some a0) N cl), Is (.int .i64 (k : Int)), Is (.pointer (some (a0.add k))), Is (.int .i64 x), Is (.int .i64 (x.tdiv 40)), RO wr.drew.heap.size (itemX x), OneO wr.drew.heap.size (itemX x)] [[(3, none)], [(0, none)], [(4, none)], [(16, some 1), (17, some 2)], [(18, some 3)], [(0, none)], [(4, none)], [(20, some 5), (21, some 6)], [(22, some 7)], [(23, some 8)], [(0, none)], [(4, none)], [(25, some 10), (26, some 11)], [(27, some 12)], [(28, some 13)], [(19, some 4), (24, some 9), (29, some 14)], [(30, some 15)]] (by kernel_rfl) ?_ ?_ ?_
      all_goals try simp only [List.take_succ_cons, List.take_zero, List.drop_succ_cons, List.drop_zero]
      · simp only [List.mem_cons, List.not_mem_nil, or_false]
        intro R hR
        rcases hR with rfl | rfl | rfl | rfl | rfl | rfl | rfl | rfl | rfl | rfl | rfl | rfl | rfl | rfl | rfl | rfl | rfl <;> first | exact stable_is _ | exact stable_ro _ _ | exact stable_oneo _ _
      · refine steps_cons (fun a w hk hn => ?_) ?_
        · have h3 : a.eval (.tmp 3) = .slice ao m c := hn.1
          clear hn
          refine wants_plain rfl ?_
          exact grown_move (.tmp 3) rfl h3
        refine steps_cons (fun a w hk hn => ?_) ?_
        · have h0 : a.eval (.tmp 0) = .slice (some a0) N cl := hn.1
          clear hn
          refine wants_plain rfl ?_
          exact grown_move (.tmp 0) rfl h0
        refine steps_cons (fun a w hk hn => ?_) ?_
        · have h4 : a.eval (.tmp 4) = .int .i64 (k : Int) := hn.1
          clear hn
          refine wants_plain rfl ?_
          exact grown_move (.tmp 4) rfl h4
        refine steps_cons (fun a w hk hn => ?_) ?_
        · have h16 : a.eval (.tmp 16) = .slice (some a0) N cl := hn.1
          have h17 : a.eval (.tmp 17) = .int .i64 (k : Int) := hn.2.1
          clear hn
          refine wants_plain rfl ?_
          refine grown_run (v := .pointer (some (a0.add k))) ?_ (Kp.refl _ _) rfl
          obtain ⟨ρ, hρ, hc, hf, hg⟩ := eval_is a
          rw [hρ] at h16 h17 ⊢
          simp [go_sem, h16, h17, HIn.out]
        refine steps_cons (fun a w hk hn => ?_) ?_
        · have h18 : a.eval (.tmp 18) = .pointer (some (a0.add k)) := hn.1
          clear hn
          refine wants_plain rfl ?_
          refine grown_run (v := .int .i64 x) ?_ (Kp.refl _ _) rfl
          have hcell := HLd.out w hk
          obtain ⟨ρ, hρ, hc, hf, hg⟩ := eval_is a
          rw [hρ] at h18 ⊢
          simp [go_sem, h18, hcell]
        refine steps_cons (fun a w hk hn => ?_) ?_
        · have h0 : a.eval (.tmp 0) = .slice (some a0) N cl := hn.1
          clear hn
          refine wants_plain rfl ?_
          exact grown_move (.tmp 0) rfl h0
        refine steps_cons (fun a w hk hn => ?_) ?_
        · have h4 : a.eval (.tmp 4) = .int .i64 (k : Int) := hn.1
          clear hn
          refine wants_plain rfl ?_
          exact grown_move (.tmp 4) rfl h4
        refine steps_cons (fun a w hk hn => ?_) ?_
        · have h20 : a.eval (.tmp 20) = .slice (some a0) N cl := hn.1
          have h21 : a.eval (.tmp 21) = .int .i64 (k : Int) := hn.2.1
          clear hn
          refine wants_plain rfl ?_
          refine grown_run (v := .pointer (some (a0.add k))) ?_ (Kp.refl _ _) rfl
          obtain ⟨ρ, hρ, hc, hf, hg⟩ := eval_is a
          rw [hρ] at h20 h21 ⊢
          simp [go_sem, h20, h21, HIn.out]
        refine steps_cons (fun a w hk hn => ?_) ?_
        · have h22 : a.eval (.tmp 22) = .pointer (some (a0.add k)) := hn.1
          clear hn
          refine wants_plain rfl ?_
          refine grown_run (v := .int .i64 x) ?_ (Kp.refl _ _) rfl
          have hcell := HLd.out w hk
          obtain ⟨ρ, hρ, hc, hf, hg⟩ := eval_is a
          rw [hρ] at h22 ⊢
          simp [go_sem, h22, hcell]
        refine steps_cons (fun a w hk hn => ?_) ?_
        · have h23 : a.eval (.tmp 23) = .int .i64 x := hn.1
          clear hn
          refine wants_plain rfl ?_
          refine grown_run (v := .int .i64 (x.tdiv 4)) ?_ (Kp.refl _ _) rfl
          obtain ⟨ρ, hρ, hc, hf, hg⟩ := eval_is a
          rw [hρ] at h23 ⊢
          simp [go_sem, hc, h23, HQ4.out]
        refine steps_cons (fun a w hk hn => ?_) ?_
        · have h0 : a.eval (.tmp 0) = .slice (some a0) N cl := hn.1
          clear hn
          refine wants_plain rfl ?_
          exact grown_move (.tmp 0) rfl h0
        refine steps_cons (fun a w hk hn => ?_) ?_
        · have h4 : a.eval (.tmp 4) = .int .i64 (k : Int) := hn.1
          clear hn
          refine wants_plain rfl ?_
          exact grown_move (.tmp 4) rfl h4
        refine steps_cons (fun a w hk hn => ?_) ?_
        · have h25 : a.eval (.tmp 25) = .slice (some a0) N cl := hn.1
          have h26 : a.eval (.tmp 26) = .int .i64 (k : Int) := hn.2.1
          clear hn
          refine wants_plain rfl ?_
          refine grown_run (v := .pointer (some (a0.add k))) ?_ (Kp.refl _ _) rfl
          obtain ⟨ρ, hρ, hc, hf, hg⟩ := eval_is a
          rw [hρ] at h25 h26 ⊢
          simp [go_sem, h25, h26, HIn.out]
        refine steps_cons (fun a w hk hn => ?_) ?_
        · have h27 : a.eval (.tmp 27) = .pointer (some (a0.add k)) := hn.1
          clear hn
          refine wants_plain rfl ?_
          refine grown_run (v := .int .i64 x) ?_ (Kp.refl _ _) rfl
          have hcell := HLd.out w hk
          obtain ⟨ρ, hρ, hc, hf, hg⟩ := eval_is a
          rw [hρ] at h27 ⊢
          simp [go_sem, h27, hcell]
        refine steps_cons (fun a w hk hn => ?_) ?_
        · have h28 : a.eval (.tmp 28) = .int .i64 x := hn.1
          clear hn
          refine wants_plain rfl ?_
          refine grown_run (v := .int .i64 (x.tdiv 40)) ?_ (Kp.refl _ _) rfl
          obtain ⟨ρ, hρ, hc, hf, hg⟩ := eval_is a
          rw [hρ] at h28 ⊢
          simp [go_sem, hc, h28, HQ40.out]
        refine steps_cons (fun a w hk hn => ?_) ?_
        · have h19 : a.eval (.tmp 19) = .int .i64 x := hn.1
          have h24 : a.eval (.tmp 24) = .int .i64 (x.tdiv 4) := hn.2.1
          have h29 : a.eval (.tmp 29) = .int .i64 (x.tdiv 40) := hn.2.2.1
          clear hn
          refine wants_plain rfl ?_
          refine grown_call (f := 61) rfl Tryz.func61 (by kernel_rfl) (by kernel_rfl) ?_
          simp only [List.map_toArray, List.map_cons, List.map_nil, h19, h24, h29]
          refine (kitem_any x (x.tdiv 4) (x.tdiv 40) w).mono ?_
          rintro e w' ⟨ao', m', c', rfl, R, K⟩
          exact ⟨_, rfl, K, ⟨ao', m', c', rfl, R.sl, fun i hi => Nat.le_trans hk.size (R.own i hi)⟩⟩
        refine steps_cons (fun a w hk hn => ?_) ?_
        · have h30 : (RO wr.drew.heap.size (itemX x)) (a.eval (.tmp 30)) w := hn.1
          clear hn
          refine wants_plain rfl ?_
          exact grown_oneo (.tmp 30) rfl _ _ h30
        exact trivial
      intro W1 hkW1
      rintro _ rfl
      rintro _ rfl
      rintro _ rfl
      rintro _ rfl
      rintro _ rfl
      rintro _ rfl
      rintro _ rfl
      rintro _ rfl
      rintro _ rfl
      rintro _ rfl
      rintro _ rfl
      rintro _ rfl
      rintro _ rfl
      rintro _ rfl
      rintro _ rfl
      intro v30 h30
      intro v31 h31
      refine fin_nil ?_
      simp only [Act.put, List.set_cons_zero, List.set_cons_succ, List.setIfInBounds_toArray]
      have K1 := (kp_drew wr).trans hkW1
      have HP1 := hide (HP.out.kept K1 (by simp))
      have HK1 := hide (HK.out.trans K1)
      have HOn := hide h31
      have hs1 := K1.size
      clear h30 h31 hkW1 K1
      go_wp2_with (at_builtin; refine wpList_rowsO (B := wr.drew.heap.size) rfl (.tmp 15) (.tmp 31) rfl (.slice ao m c) l rfl HP1.out HK1.out.size (by omega) (itemX x) HOn.out (itemX_bs x) (fun i hi => HP.out.1.1.lt hi) HK.out.size ?_; intro a7 m7 c7 w7 u7 P7 S7)
      go_roundw
      case rel =>
        refine ⟨k + 1, by omega, by omega, by go_num, ⟨a7, m7, c7, rfl⟩, HK1.out.then S7.1 (fun i hi => .inr (HP1.out.1.1.own i (by simpa [Option.mem_toList] using hi))), _, P7, ?_⟩
        rw [HTK.out, List.map_append, List.map_append, HL.out]; rfl
      case measure => simp [intOf]; omega
    · have hmk : m = k := by have := HP.out.1.1.len; rw [List.length_map] at this; omega
      have e6 : xs.take 6 = xs.take k := by
        have := HN.out
        by_cases h : k = 6
        · rw [h]
        · rw [List.take_of_length_le (by omega), List.take_of_length_le (by omega)]
      have hlen : (xs.take 6).length = k := by rw [e6, List.length_take]; have := HN.out; omega
      have HE6 : Hid (ys = xs.take k) := hide (by rw [HYs.out]; exact e6)
      have HLen : Hid (k = ys.length) := hide (by rw [HYs.out]; exact hlen.symm)
      subst hmk
      clear K e6 hlen
      by_cases hl1 : m < N
      · have hl1' : (m : Int) < (N : Int) := by omega
        have hl2' : ¬ (m : Int) < 6 := by omega
        have hd1 : decide ((m : Int) < (N : Int)) = true := decide_eq_true hl1'
        have hd2 : decide ((m : Int) < 6) = false := decide_eq_false hl2'
        go_wp2_with fail
        go_ret
        exact ⟨ao, m, c, rfl, HK.out, HLen.out, l, HP.out, by rw [HL.out, HE6.out]⟩
      · have hl1' : ¬ (m : Int) < (N : Int) := by omega
        have hd1 : decide ((m : Int) < (N : Int)) = false := decide_eq_false hl1'
        go_wp2_with fail
        go_ret
        exact ⟨ao, m, c, rfl, HK.out, HLen.out, l, HP.out, by rw [HL.out, HE6.out]⟩
end Go.Proofs.YtillhpgdlmeajaaGreatDoor

/-
  Arguments of the laws of ledger: slices of slices of numbers; rows of slices that lie aside.
-/
namespace Go.Proofs.YtillhpgdlmeajaaGreatDoor
open Go.RowKit
open Go.Proofs
open Go.Deep Go.ChangeShapes Go.WideShapes
set_option linter.unusedVariables false
section
variable {H : Type} {enc : TypeId × Value → H} {w : World}
end
theorem RowsQ.aside {w w' : World} {base : Nat} {v : Value} {l : List (Value × List Int)} {S : List Nat} (h : RowsQ w base v l) (k : Kp S w w') (h1 : ∀ i, v.ownBlock = some i → i ∉ S) (h2 : ∀ x ∈ l, ∀ i, x.1.ownBlock = some i → i ∉ S) : RowsQ w' base v l :=
  ⟨⟨h.1.1.kept k h1, fun x hx => ⟨(h.1.2 x hx).1.kept k (h2 x hx), (h.1.2 x hx).2⟩⟩, h.2⟩
theorem RowV.at {w : World} {base m c : Nat} {ao : Option Addr} {l : List Value} (h : RowV w base (.slice ao m c) l) (i : Nat) (hi : i < l.length) : ∃ g, ao = some ⟨g, 0, none⟩ ∧ w.cell? ⟨g, i, none⟩ = some l[i] := by
  rcases h.2 with ⟨e, h0⟩ | ⟨g, cap, cur, e, _⟩
  · omega
  · injection e with e1 e2 e3
    subst e1
    have := h.cells (g := g) rfl i l[i] (by simp [List.getElem?_eq_getElem hi])
    exact ⟨g, rfl, by simpa [Addr.add_lit] using this⟩
/-- a row of slices that lies beside the blocks F. -/
structure Al (w0 w : World) (F : Nat → Prop) (v : Value) (la : List (Value × List Int)) : Prop where
  row : RowsQ w w0.heap.size v la
  own : ∀ k, v.ownBlock = some k → k < w.heap.size ∧ ¬ F k
  its : ∀ x ∈ la, ∀ k, x.1.ownBlock = some k → k < w.heap.size ∧ ¬ F k
section
variable {w0 w w' : World} {F F' : Nat → Prop} {v v' : Value} {la : List (Value × List Int)}
theorem al_nil (w0 w : World) (F : Nat → Prop) : Al w0 w F (.slice none 0 0) [] := ⟨rowsQ_nil _ _, (fun k hk => by cases hk), (fun x hx => by cases hx)⟩
theorem Al.step (h : Al w0 w F v la) (t : Stp F w w' F') : Al w0 w' F' v la := by
  obtain ⟨S, hS, k⟩ := t.kp
  exact ⟨h.row.aside k (fun i hi hm => (h.own i hi).2 (hS i hm)) (fun x hx i hi hm => (h.its x hx i hi).2 (hS i hm)), fun i hi => ⟨Nat.lt_of_lt_of_le (h.own i hi).1 k.size, t.off (h.own i hi).1 (h.own i hi).2⟩, fun x hx i hi => ⟨Nat.lt_of_lt_of_le (h.its x hx i hi).1 k.size, t.off (h.its x hx i hi).1 (h.its x hx i hi).2⟩⟩
theorem Al.on (h : Al w0 w F v la) (k : Kp [] w w') : Al w0 w' F v la := h.step (Stp.mid k)
/-- one more. -/
theorem Al.put {x : Value × List Int} (h : Al w0 w F v la) (hF : ∀ i, F i → i < w.heap.size) (r : RowsQ w' w0.heap.size v' (la ++ [x])) (s : RStep w v w' v') (hx : ∀ k, x.1.ownBlock = some k → k < w.heap.size ∧ ¬ F k) : Al w0 w' F v' (la ++ [x]) := by
  have hs := s.1.size
  refine ⟨r, fun k hk => ⟨r.1.1.lt hk, ?_⟩, fun y hy k hk => ?_⟩
  · rcases s.2 k hk with h1 | h1
    · exact (h.own k h1).2
    · exact fun e => by have := hF k e; omega
  · rcases List.mem_append.1 hy with hy | hy
    · exact ⟨by have := (h.its y hy k hk).1; omega, (h.its y hy k hk).2⟩
    · obtain rfl : y = x := by simpa using hy
      exact ⟨by have := (hx k hk).1; omega, (hx k hk).2⟩
end
/-- a row of slices whose blocks lie between lo and hi. -/
structure Xs (w : World) (lo hi : Nat) (v : Value) (l : List (Value × List Int)) : Prop where
  row : RowsQ w lo v l
  own : ∀ k, v.ownBlock = some k → k < hi
  its : ∀ x ∈ l, ∀ k, x.1.ownBlock = some k → k < hi
theorem sl_lt {w : World} {v : Value} {bs : List Int} {k : Nat} (h : Sl w v bs) (hb : bs ≠ []) (hk : v.ownBlock = some k) : k < w.heap.size := by
  obtain ⟨ao, c, rfl, _, _, _, h4⟩ := h
  have hpos : 0 < bs.length := List.length_pos_iff.2 hb
  cases ao with
  | none => cases hk
  | some a =>
    have hc := h4 a rfl 0 (.int .u8 bs[0]) (by simp [List.getElem?_eq_getElem hpos])
    have := World.block_lt_of_cell? _ _ hc
    rw [add_block] at this
    have e : a.block = k := by simpa [Value.ownBlock] using hk
    omega
theorem Xs.kept {w w' : World} {lo hi : Nat} {v : Value} {l : List (Value × List Int)} {S : List Nat} (h : Xs w lo hi v l) (k : Kp S w w') (hS : ∀ i ∈ S, i < lo ∨ hi ≤ i) : Xs w' lo hi v l :=
  ⟨h.row.aside k (fun i e hm => by have := h.own i e; have := h.row.1.1.own i e; have := hS i hm; omega) (fun x hx i e hm => by have := h.its x hx i e; have := h.row.2 x hx i e; have := hS i hm; omega), h.own, h.its⟩
/-- append of a slice that lies anywhere else. -/
theorem wpList_rowsR {base : Nat} {w2 : World} {ops : Array Oper} {rest : List Oper} {o : Oper} {a : Act} {Q : Exit → Act → World → Prop} (hgd : o.guard = none) (s x : Operand)
    (ho : o.op = .call { callee := .builtin .append, args := #[s, x], argTypes := #[33, 33] }) (v : Value) (l : List (Value × List Int)) (hs : a.eval s = v) (hP : RowsQ w2 base v l) (hbase : base ≤ w2.heap.size) (hl : l.length ≤ 1000000)
    (vx : Value) (bs : List Int) (hr : Sl w2 vx bs) (hap : ∀ i, vx.ownBlock = some i → v.ownBlock ≠ some i) (hnb : ∀ i, vx.ownBlock = some i → base ≤ i) (hb : Bs bs) (hx : a.eval x = .slice (some ⟨w2.heap.size, 0, none⟩) 1 1)
    (h : ∀ ao m c w', m = l.length + 1 → RowsQ w' base (.slice ao m c) (l ++ [(vx, bs)]) → RStep w2 v w' (.slice ao m c) → wpList Tryz.prog ops Q rest (a.put o.dst (.slice ao m c)) w') : wpList Tryz.prog ops Q (o :: rest) a (w2.alloc (.cells #[vx] 22)) := by
  have k2 : Kp [] w2 (w2.alloc (.cells #[vx] 22)) := (Kp.refl [] w2).alloc _
  have hP2 := hP.1.kept k2
  obtain ⟨ax, cx, hvx, -⟩ := id hr
  refine wpList_append_rowv hgd s x ho base v (l.map (·.1)) hs hP2.1 ⟨w2.heap.size, 0, none⟩ 1 [vx] hx ?_ ?_ ?_ ?_ ?_
  · intro j u hu
    exact World.news_of_block (heap_alloc_new w2 _) j u (by simpa using hu)
  · simp [hvx, Value.oneCell']
  · simp; omega
  · simp; omega
  · intro ao m c w' r st
    have hml := r.len
    refine h ao m c w' (by rw [hml]; simp) ⟨hP2.snocJ (x := (vx, bs)) (hr.kept k2 (by simp)) hb (fun i h1 h2 => absurd h2 (hap i h1)) r st, fun y hy => ?_⟩ ⟨(k2.mono (by simp)).trans st.1, fun k hk => (st.2 k hk).imp id (fun h => Nat.le_trans k2.size h)⟩
    · rcases List.mem_append.1 hy with hy | hy
      · exact hP.2 y hy
      · obtain rfl : y = (vx, bs) := by simpa using hy
        exact hnb
/-- where x was last found among the first of l. -/
def fdU (l : List (List Int)) (x : List Int) : Int := if x ∈ l then (l.idxOf x : Int) else -1
end Go.Proofs.YtillhpgdlmeajaaGreatDoor

/-
  The contract of the reference ledger's Find.
-/
namespace Go.Proofs.YtillhpgdlmeajaaGreatDoor
open Go.RowKit
open Go.Proofs
set_option linter.unusedVariables false
set_option maxRecDepth 100000 in
set_option maxHeartbeats 4000000 in
theorem rfind_any (p : Nat) (va : Value) (la : List (Value × List Int)) (vx : Value) (x : List Int) (r : Int) (w : World) (hc : w.cell? ⟨p, 0, none⟩ = some va) (hL : Lists w va la) (hS : Sl w vx x) (hB : Bs x) (hl : la.length ≤ 1000000) (hr : r = fdU (la.map (·.2)) x) :
    Calls Tryz.prog 65 #[.pointer (some ⟨p, 0, none⟩), vx] w fun e w' => e = .returned (.int .i64 r) ∧ Kp [] w w' := by
  have HBx := hide hB
  have HR := hide hr
  obtain ⟨ax, cx, hvx, -⟩ := id hS
  obtain ⟨nx, hnx⟩ : ∃ n, n = x.length := ⟨_, rfl⟩
  rw [← hnx] at hvx
  subst hvx
  have HSx := hide hS
  obtain ⟨aa, ca, rfl, -, hcell⟩ := hL
  have HC := hide hcell
  obtain ⟨N, hN⟩ : ∃ N, N = la.length := ⟨_, rfl⟩
  have HN := hide hN
  rw [← hN] at hc hl
  have HCp := hide hc
  clear hcell hN hB hr hS hnx hc
  go_enter Tryz.func65, Tryz.ntmps65
  go_wp2_with fail
  go_loopw [5] (fun j wr => ∃ i : Nat, i ≤ N ∧ j = .int .i64 i ∧ Hid (x ∉ (la.map (·.2)).take i) ∧ Hid (Kp [] w wr)) (fun j _ => N - (intOf j).toNat)
  case atStart => exact ⟨0, by omega, rfl, hide (by simp), hide (Kp.refl _ _)⟩
  case round =>
    obtain ⟨i, hi, rfl, HNi, HK⟩ := hrel
    have hcp := HK.out.cell HCp.out (by simp)
    by_cases hlt : i < N
    · have hi' : (i : Int) < (N : Int) := by omega
      have hdi : decide ((i : Int) < (N : Int)) = true := decide_eq_true hi'
      have hil : i < la.length := by rw [← HN.out]; exact hlt
      obtain ⟨b1, o1, rfl, hc1, hS1, hB1⟩ := HC.out i hil
      have HKd := hide (HK.out.trans (kp_drew _))
      have d0 := HKd.out.cell HCp.out (by simp)
      have d1 := HKd.out.cell hc1 (by simp)
      have v1 := (hS1.kept HKd.out (by simp)).conv (P := Tryz.prog) 22 9 5 Tryz.underlying22 Tryz.underlying5 Tryz.underlying9
      have v2 := (HSx.out.kept HKd.out (by simp)).conv (P := Tryz.prog) 22 9 5 Tryz.underlying22 Tryz.underlying5 Tryz.underlying9
      have htk : (la.map (·.2)).take (i + 1) = (la.map (·.2)).take i ++ [la[i].2] := by
        have := List.take_succ_eq_append_getElem (l := la.map (·.2)) (i := i) (by rw [List.length_map]; exact hil)
        rw [this, List.getElem_map]
      have hall : la.map (·.2) = ((la.map (·.2)).take i ++ [la[i].2]) ++ (la.map (·.2)).drop (i + 1) := by rw [← htk, List.take_append_drop]
      have hli : ((la.map (·.2)).take i).length = i := by rw [List.length_take, List.length_map]; omega
      obtain ⟨bi, hbi⟩ : ∃ x, x = la[i].2 := ⟨_, rfl⟩
      obtain ⟨vi, hvi⟩ : ∃ x, x = la[i].1 := ⟨_, rfl⟩
      rw [← hbi] at hS1 hB1 v1 htk hall
      rw [← hvi] at hS1 d1 v1
      obtain ⟨ai, ci, hvi', -⟩ := hS1
      obtain ⟨mi, hmi⟩ : ∃ n, n = bi.length := ⟨_, rfl⟩
      rw [← hmi] at hvi'
      subst hvi'
      have HTk := hide htk
      have HAl := hide hall
      have HLi := hide hli
      by_cases hxy : bi = x
      · subst hxy
        obtain ⟨S1, hS1⟩ : ∃ S, S = strOfNums bi := ⟨_, rfl⟩
        rw [← hS1] at v1 v2
        clear hS1 hbi hvi hmi htk hall hli hB1 hil hc1 hcp
        have hcp := HK.out.cell HCp.out (by simp)
        go_wp2_with fail
        refine region_read Tryz.mixed (by kernel_rfl) ?_
        repeat (first | go_big_quiet_skip | (go_big_quiet_want; go_big_quiet_op; go_big_quiet_on))
        refine wpQuiet_nil ?_
        go_wp2_with fail
        go_ret
        refine ⟨?_, HKd.out⟩
        rw [HR.out, HAl.out]
        unfold fdU
        rw [if_pos (by simp), idx_pre (by simp), idx_post HNi.out, HLi.out]
        simp
      · have hss := str_beq bi x hB1 HBx.out
        rw [decide_eq_false hxy] at hss
        have HXy := hide hxy
        obtain ⟨S1, hS1⟩ : ∃ S, S = strOfNums bi := ⟨_, rfl⟩
        obtain ⟨S2, hS2⟩ : ∃ S, S = strOfNums x := ⟨_, rfl⟩
        rw [← hS1, ← hS2] at hss
        rw [← hS1] at v1
        rw [← hS2] at v2
        clear hS1 hS2 hbi hvi hmi htk hall hli hB1 hil hc1 hxy
        go_wp2_with fail
        refine region_read Tryz.mixed (by kernel_rfl) ?_
        repeat (first | go_big_quiet_skip | (go_big_quiet_want; go_big_quiet_op; go_big_quiet_on))
        refine wpQuiet_nil ?_
        go_wp2_with fail
        go_roundw
        case rel => exact ⟨i + 1, by omega, by go_num, hide (by rw [HTk.out]; simp only [List.mem_append, List.mem_singleton, not_or]; exact ⟨HNi.out, fun e => HXy.out e.symm⟩), HKd⟩
        case measure => simp [intOf]; omega
    · obtain rfl : i = N := by omega
      have hi' : ¬ (i : Int) < (i : Int) := by omega
      have hdi : decide ((i : Int) < (i : Int)) = false := decide_eq_false hi'
      have hnm : x ∉ la.map (·.2) := by
        have := HNi.out
        rwa [List.take_of_length_le (by rw [List.length_map, HN.out]; omega)] at this
      have HNm := hide hnm
      clear hnm
      go_wp2_with fail
      go_ret
      refine ⟨?_, HK.out⟩
      rw [HR.out]
      unfold fdU
      rw [if_neg HNm.out]
      rfl
end Go.Proofs.YtillhpgdlmeajaaGreatDoor
