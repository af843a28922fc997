/-
  A string turned into bytes: it makes memory, and reads as the string's bytes; strings and the lists of their bytes.
-/
import Derived.Test.YtillhpgdlmeajaaGreatDoorKHSums
import Derived.Lib.ConvBytes
import Derived.Test.YtillhpgdlmeajaaGreatDoorKLFlat
import Derived.Deep.AppendSrc
namespace Go.Proofs.YtillhpgdlmeajaaGreatDoor
open Go.RowKit

def nums (S : ByteArray) : List Int := S.data.toList.map fun b => (b.toNat : Int)
theorem nums_len (S : ByteArray) : (nums S).length = S.size := by simp [nums]
theorem nums_bs (S : ByteArray) : Bs (nums S) := by
  intro b hb
  obtain ⟨x, _, rfl⟩ := List.mem_map.1 hb
  have := x.toNat_lt
  omega
theorem conv_big (S : ByteArray) (w : World) (hS : S.size ≤ 9223372036854775807) : ∃ c w', (convert 9 22 (.string S)).run Tryz.prog w = .ok (.slice (some ⟨w.heap.size, 0, none⟩) S.size c) w' ∧ Sl w' (.slice (some ⟨w.heap.size, 0, none⟩) S.size c) (nums S) ∧ Kp [] w w' := by
  refine ⟨_, _, Lib.run_convert_string_bytes (P := Tryz.prog) w 9 22 5 S Tryz.underlying9 Tryz.underlying22 Tryz.underlying5, ?_, ?_⟩
  · refine ⟨some ⟨w.heap.size, 0, none⟩, grownCap w S.size 0 5, by rw [nums_len], by rw [nums_len]; exact grownCap_ge _ _ _ _, grownCap_le_maxLen _ _ _ _ (by unfold maxLen; omega), (fun h => by cases h), fun a ha j u hu => ?_⟩
    cases ha
    have hj : j < S.size := by have := (List.getElem?_eq_some_iff.1 hu).1; simpa [nums] using this
    rw [Addr.add_lit, Nat.zero_add, Lib.bytesWorld_cell w 5 S j hj, ← hu]
    have hj2 : j < S.data.toList.length := by simpa using hj
    simp [nums, List.getD, List.getElem?_eq_getElem hj2]
  · refine ⟨rfl, rfl, rfl, by rw [Lib.bytesWorld_size]; omega, fun k hk _ => Lib.bytesWorld_at_old w 5 S k hk⟩
theorem conv_of_string (S : ByteArray) (w : World) (hS : S.size ≤ 1000) : ∃ c w', (convert 9 22 (.string S)).run Tryz.prog w = .ok (.slice (some ⟨w.heap.size, 0, none⟩) S.size c) w' ∧ Sl w' (.slice (some ⟨w.heap.size, 0, none⟩) S.size c) (nums S) ∧ Kp [] w w' := conv_big S w (by omega)
theorem u8_of (x : Int) (h0 : 0 ≤ x) (h1 : x ≤ 255) : (((UInt8.ofNat x.toNat).toNat : Nat) : Int) = x := by
  rw [UInt8.toNat_ofNat']
  omega
theorem nums_str (bs : List Int) (h : Bs bs) : nums (strOfNums bs) = bs := by
  unfold nums strOfNums
  simp only [List.map_map]
  conv => rhs; rw [← List.map_id bs]
  refine List.map_congr_left (fun x hx => ?_)
  have := h x hx
  simp only [Function.comp, id]
  exact u8_of x this.1 this.2
theorem str_nums (S : ByteArray) : strOfNums (nums S) = S := by
  unfold nums strOfNums
  rw [List.map_map]
  have e : (fun n : Int => UInt8.ofNat n.toNat) ∘ (fun b : UInt8 => (b.toNat : Int)) = id := by
    funext x
    simp
  rw [e, List.map_id]
theorem str_size (bs : List Int) : (strOfNums bs).size = bs.length := by
  show (List.map (fun n : Int => UInt8.ofNat n.toNat) bs).toArray.size = _
  simp
/-- two strings are one just if their bytes are. -/
theorem str_same {a b : List Int} (ha : Bs a) (hb : Bs b) (h : strOfNums a = strOfNums b) : a = b := by
  rw [← nums_str a ha, ← nums_str b hb, h]
theorem nums_inj {a b : ByteArray} (h : nums a = nums b) : a = b := by
  rw [← str_nums a, ← str_nums b, h]
end Go.Proofs.YtillhpgdlmeajaaGreatDoor

/-
  Rows of bytes told by their cells alone, so that a mark behind the last cell (a string that was turned into bytes) does not matter: append onto them.
-/
namespace Go.Proofs.YtillhpgdlmeajaaGreatDoor
open Go.RowKit

/-- a row of bytes in a block from base on; its cells may be written. -/
def RowM (w : World) (base : Nat) (v : Value) (bs : List Int) : Prop :=
  ∃ g cap, v = .slice (some ⟨g, 0, none⟩) bs.length cap ∧ base ≤ g ∧ g < w.heap.size ∧ bs.length ≤ cap ∧ cap ≤ maxLen ∧ (∀ (j : Nat) u, (bs.map (Value.int .u8))[j]? = some u → w.cell? ⟨g, j, none⟩ = some u) ∧ ∀ j, j < cap → (w.cell? ⟨g, j, none⟩).isSome = true ∧ w.frozen? ⟨g, j, none⟩ = false
theorem RowM.sl {w : World} {base : Nat} {v : Value} {bs : List Int} (h : RowM w base v bs) : Sl w v bs := by
  obtain ⟨g, cap, rfl, _, _, h1, h2, h3, _⟩ := h
  refine ⟨some ⟨g, 0, none⟩, cap, rfl, h1, h2, (fun e => by cases e), fun a ha j u hu => ?_⟩
  cases ha
  rw [Addr.add_lit, Nat.zero_add]
  exact h3 j u hu
theorem RowM.own {w : World} {base : Nat} {v : Value} {bs : List Int} (h : RowM w base v bs) : ∀ k, v.ownBlock = some k → base ≤ k ∧ k < w.heap.size := by
  obtain ⟨g, cap, rfl, h1, h2, _⟩ := h
  intro k hk
  cases hk
  exact ⟨h1, h2⟩
theorem RowM.shape {w : World} {base : Nat} {v : Value} {bs : List Int} (h : RowM w base v bs) : ∃ ao c, v = .slice ao bs.length c := by
  obtain ⟨g, cap, rfl, _⟩ := h
  exact ⟨_, _, rfl⟩
theorem RowM.kept {w w' : World} {base : Nat} {v : Value} {bs : List Int} {S : List Nat} (h : RowM w base v bs) (k : Kp S w w') (hv : ∀ i, v.ownBlock = some i → i ∉ S) : RowM w' base v bs := by
  obtain ⟨g, cap, rfl, h0, hg, h1, h2, h3, h4⟩ := h
  have e := k.block g hg (hv g rfl)
  have ec : ∀ j, w'.cell? ⟨g, j, none⟩ = w.cell? ⟨g, j, none⟩ := fun j => World.cell?_of_block (a := ⟨g, j, none⟩) e
  have ef : ∀ j, w'.frozen? ⟨g, j, none⟩ = w.frozen? ⟨g, j, none⟩ := fun j => World.frozen?_of_block (a := ⟨g, j, none⟩) e
  exact ⟨g, cap, rfl, h0, Nat.lt_of_lt_of_le hg k.size, h1, h2, fun j u hu => by rw [ec]; exact h3 j u hu, fun j hj => by rw [ec, ef]; exact h4 j hj⟩
theorem append_m (w : World) (base : Nat) (v : Value) (bs : List Int) (vx : Value) (cs : List Int) (ty : TypeId) (h : RowM w base v bs) (hS : Sl w vx cs) (hb : bs.length + cs.length ≤ 140737488355328) (hbase : base ≤ w.heap.size) :
    ∃ ao m c w', (Builtin.append_ #[22, 22] ty #[v, vx]).run Tryz.prog w = .ok (.slice ao m c) w' ∧ RowM w' base (.slice ao m c) (bs ++ cs) ∧ RStep w v w' (.slice ao m c) := by
  obtain ⟨i0, hi0, hz0, hz1, hz2⟩ := info_parts Tryz.info5
  obtain ⟨g, cap, rfl, h0, hg, h1, h2, h3, h4⟩ := h
  obtain ⟨ax, cx, rfl, x1, x2, x3, x4⟩ := hS
  have hsrc : Src Tryz.prog i0.size 22 (.slice ax cs.length cx) cs.length (cs.map (Value.int .u8)) w := by
    cases ax with
    | none =>
      have e : cs = [] := List.eq_nil_of_length_eq_zero (by have := x3 rfl; omega)
      subst e
      exact Src.ofNil w Tryz.underlying22 cx
    | some ad => exact Src.ofSlice w Tryz.underlying22 ad cs.length cx _ (by simp [hz1]) (x4 ad rfl) (by simp [Value.oneCell'])
  by_cases hfit : bs.length + cs.length ≤ cap
  · have hsome : ∀ j, j < (cs.map (Value.int .u8)).length → (w.cell? ⟨g, 0 + bs.length * i0.size + j, none⟩).isSome = true := fun j hj => by
      rw [hz1, Nat.mul_one, Nat.zero_add]; rw [List.length_map] at hj; exact (h4 _ (by omega)).1
    have hrun := run_append_room_src (P := Tryz.prog) w 22 22 ty 5 i0 Tryz.underlying22 hi0 g 0 bs.length cap _ cs.length _ hsrc hfit hsome (fun j hj => by
      rw [hz1, Nat.mul_one, Nat.zero_add]; rw [List.length_map] at hj; exact (h4 _ (by omega)).2)
    rw [hz1, Nat.mul_one, Nat.zero_add] at hrun
    simp only [hz1, Nat.mul_one, Nat.zero_add] at hsome
    have K := kp_fcells w g (cs.map (Value.int .u8)) bs.length w (Kp.refl _ _)
    refine ⟨_, _, _, _, hrun, ⟨g, cap, by rw [List.length_append], h0, Nat.lt_of_lt_of_le hg K.size, by rw [List.length_append]; exact hfit, h2, fun j u hu => ?_, fun j hj => ⟨?_, ?_⟩⟩, K, fun k hk => .inl hk⟩
    · by_cases hj : j < bs.length
      · rw [World.cell?_setCells_out g _ _ _ _ (fun _ _ => .inl hj)]
        rw [List.map_append, List.getElem?_append_left (by simpa using hj)] at hu
        exact h3 j u hu
      · rw [List.map_append, List.getElem?_append_right (by simpa using Nat.le_of_not_lt hj)] at hu
        have hj2 : j - bs.length < (cs.map (Value.int .u8)).length := by have := (List.getElem?_eq_some_iff.1 hu).1; simpa using this
        have := World.cell?_setCells_in g (cs.map (Value.int .u8)) bs.length w hsome (j - bs.length) hj2
        rw [show bs.length + (j - bs.length) = j by omega] at this
        rw [this, ← hu]
        simp only [List.length_map]
        exact (List.getElem?_eq_getElem hj2).symm
    · by_cases hin : bs.length ≤ j ∧ j < bs.length + (cs.map (Value.int .u8)).length
      · have := World.cell?_setCells_in g (cs.map (Value.int .u8)) bs.length w hsome (j - bs.length) (by omega)
        rw [show bs.length + (j - bs.length) = j by omega] at this
        rw [this]; rfl
      · rw [World.cell?_setCells_out g _ _ _ _ (fun _ _ => by show j < bs.length ∨ bs.length + (cs.map (Value.int .u8)).length ≤ j; omega)]
        exact (h4 j hj).1
    · rw [World.frozen?_setCells]; exact (h4 j hj).2
  · have hold : (Builtin.firstCells i0.size bs.length (.slice (some ⟨g, 0, none⟩) bs.length cap)).run Tryz.prog w.drew = .ok (bs.map (Value.int .u8)).toArray w.drew := by
      refine run_firstCells_some w.drew i0.size bs.length ⟨g, 0, none⟩ bs.length cap (bs.map (Value.int .u8)) (by simp [hz1]) (fun j u hu => ?_)
      rw [Addr.add_lit, Nat.zero_add]
      exact h3 j u hu
    have hrun := run_append_grow_src (P := Tryz.prog) w 22 22 ty 5 i0 (.int .u8 0) Tryz.underlying22 hi0 hz0 (some ⟨g, 0, none⟩) bs.length cap _ hold _ cs.length _ hsrc (by omega) (by omega) (growslice_fits (by omega) (by rw [hz2]; omega))
    have hge := grownCap_ge w (bs.length + cs.length) cap 5
    have hgm := grownCap_le_maxLen w (bs.length + cs.length) cap 5 (by unfold maxLen; omega)
    generalize grownCap w (bs.length + cs.length) cap 5 = gc at hrun hge hgm
    obtain ⟨C, hC⟩ : ∃ C, C = ((bs.map (Value.int .u8) ++ cs.map (Value.int .u8)).toArray ++ Builtin.zeroCells (Value.int .u8 0).cells (gc - (bs.length + cs.length))) := ⟨_, rfl⟩
    have hCs : C.size = gc := by
      rw [hC, Array.size_append, size_zeroCells]
      simp [Value.cells]
      omega
    rw [← hC] at hrun
    have e1 : ∀ j, (w.drew.alloc (.cells C 5)).cell? ⟨w.heap.size, j, none⟩ = C[j]? := fun j => World.cell?_alloc_new w.drew C 5 j
    refine ⟨_, _, _, _, hrun, ⟨w.heap.size, gc, by rw [List.length_append], hbase, by simp, by rw [List.length_append]; exact hge, hgm, fun j u hu => ?_, fun j hj => ⟨?_, World.frozen?_alloc_new w.drew C 5 j⟩⟩, ((kp_drew w).alloc _).mono (by simp), fun k hk => .inr (by cases hk; exact Nat.le_refl _)⟩
    · rw [e1, hC]
      rw [List.map_append] at hu
      have hj := (List.getElem?_eq_some_iff.1 hu).1
      rw [Array.getElem?_append_left (by simpa using hj), List.getElem?_toArray]
      exact hu
    · rw [e1, Array.getElem?_eq_getElem (by omega)]
      rfl
theorem wpList_append_m {w : World} {ops : Array Oper} {rest : List Oper} {o : Oper} {a : Act} {Q : Exit → Act → World → Prop} (hgd : o.guard = none) (s x : Operand)
    (ho : o.op = .call { callee := .builtin .append, args := #[s, x], argTypes := #[22, 22] }) (base : Nat) (v : Value) (bs : List Int) (hs : a.eval s = v) (hrow : RowM w base v bs)
    (vx : Value) (cs : List Int) (hx : a.eval x = vx) (hS : Sl w vx cs) (hb : bs.length + cs.length ≤ 140737488355328) (hbase : base ≤ w.heap.size)
    (h : ∀ ao m c w', RowM w' base (.slice ao m c) (bs ++ cs) → RStep w v w' (.slice ao m c) → wpList Tryz.prog ops Q rest (a.put o.dst (.slice ao m c)) w') : wpList Tryz.prog ops Q (o :: rest) a w := by
  obtain ⟨ao, m, c, w', hr, R, St⟩ := append_m w base v bs vx cs o.type hrow hS hb hbase
  refine wpList_plain hgd fun K hK => ?_
  unfold Oper.wp execOp
  simp only [ho, resolve, invoke, builtin, Sem.run_bind, Sem.run_pure, Result.andThen_ok, List.map_toArray, List.map_cons, List.map_nil, hs, hx, hr]
  exact hK _ _ (h ao m c w' R St)
theorem step_append_m {w : World} {ops : Array Oper} {o : Oper} {a : Act} {K : Act → World → Prop} {Q : Exit → Act → World → Prop} {E : Prop} (hgd : o.guard = none) (s x : Operand)
    (ho : o.op = .call { callee := .builtin .append, args := #[s, x], argTypes := #[22, 22] }) (base : Nat) (v : Value) (bs : List Int) (hs : a.eval s = v) (hrow : RowM w base v bs)
    (vx : Value) (cs : List Int) (hx : a.eval x = vx) (hS : Sl w vx cs) (hb : bs.length + cs.length ≤ 140737488355328) (hbase : base ≤ w.heap.size)
    (h : ∀ ao m c w', RowM w' base (.slice ao m c) (bs ++ cs) → RStep w v w' (.slice ao m c) → K (a.put o.dst (.slice ao m c)) w') : if Region.wanted o (yielded ops a.tmps) = true then Oper.wp Tryz.prog o a w K Q else E := by
  have hw : Region.wanted o (yielded ops a.tmps) = true := by simp [Region.wanted, hgd]
  rw [if_pos hw]
  obtain ⟨ao, m, c, w', hr, R, St⟩ := append_m w base v bs vx cs o.type hrow hS hb hbase
  unfold Oper.wp execOp
  simp only [ho, resolve, invoke, builtin, Sem.run_bind, Sem.run_pure, Result.andThen_ok, List.map_toArray, List.map_cons, List.map_nil, hs, hx, hr]
  exact h ao m c w' R St
/-- a string turned into bytes. -/
theorem conv_m (S : ByteArray) (w : World) (hS : S.size ≤ 1000) : ∃ c w', (convert 9 22 (.string S)).run Tryz.prog w = .ok (.slice (some ⟨w.heap.size, 0, none⟩) S.size c) w' ∧ RowM w' w.heap.size (.slice (some ⟨w.heap.size, 0, none⟩) S.size c) (nums S) ∧ Kp [] w w' := by
  refine ⟨_, _, Lib.run_convert_string_bytes (P := Tryz.prog) w 9 22 5 S Tryz.underlying9 Tryz.underlying22 Tryz.underlying5, ?_, ⟨rfl, rfl, rfl, by rw [Lib.bytesWorld_size]; omega, fun k hk _ => Lib.bytesWorld_at_old w 5 S k hk⟩⟩
  have hge := grownCap_ge w S.size 0 5
  have hgm := grownCap_le_maxLen w S.size 0 5 (by unfold maxLen; omega)
  have hsz : (Lib.bytesCells w 5 S).size = grownCap w S.size 0 5 := by
    unfold Lib.bytesCells
    simp only [Array.size_append, Array.size_map, Array.size_replicate]
    have : S.data.size = S.size := rfl
    omega
  have hblk := Lib.bytesWorld_at_new w 5 S
  refine ⟨w.heap.size, grownCap w S.size 0 5, by rw [nums_len], Nat.le_refl _, by rw [Lib.bytesWorld_size]; omega, by rw [nums_len]; exact hge, hgm, fun j u hu => ?_, fun j hj => ⟨?_, ?_⟩⟩
  · have hj : j < S.size := by have := (List.getElem?_eq_some_iff.1 hu).1; simpa [nums] using this
    rw [Lib.bytesWorld_cell w 5 S j hj, ← hu]
    have hj2 : j < S.data.toList.length := by simpa using hj
    simp [nums, List.getD, List.getElem?_eq_getElem hj2]
  · rw [cell_of_row _ _ j _ _ _ hblk, Array.getElem?_eq_getElem (by omega)]
    rfl
  · simp only [World.frozen?, hblk]
    simp
    omega
theorem step_conv_m {w : World} {ops : Array Oper} {o : Oper} {a : Act} {K : Act → World → Prop} {Q : Exit → Act → World → Prop} {E : Prop} (hgd : o.guard = none) (x : Operand) (ho : o.op = .convert 9 22 x) (S : ByteArray) (hx : a.eval x = .string S) (hS : S.size ≤ 1000)
    (h : ∀ m c w', RowM w' w.heap.size (.slice (some ⟨w.heap.size, 0, none⟩) m c) (nums S) → Kp [] w w' → K (a.put o.dst (.slice (some ⟨w.heap.size, 0, none⟩) m c)) w') : if Region.wanted o (yielded ops a.tmps) = true then Oper.wp Tryz.prog o a w K Q else E := by
  have hw : Region.wanted o (yielded ops a.tmps) = true := by simp [Region.wanted, hgd]
  rw [if_pos hw]
  obtain ⟨c, w', hr, R, Ks⟩ := conv_m S w hS
  unfold Oper.wp execOp
  simp only [ho, hx, Sem.run_bind, hr, Result.andThen_ok, Sem.run_pure]
  exact h S.size c w' R Ks
end Go.Proofs.YtillhpgdlmeajaaGreatDoor
