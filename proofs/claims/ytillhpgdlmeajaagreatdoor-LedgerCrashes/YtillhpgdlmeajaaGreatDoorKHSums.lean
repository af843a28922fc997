/-
  Rows of bytes that a call owns; append from whatever slice onto such a row.
-/
import Derived.Test.YtillhpgdlmeajaaGreatDoorKHMixs
import Derived.Maps.AppendAt
import Derived.Deep.RegionLaw
namespace Go.Proofs.YtillhpgdlmeajaaGreatDoor
open Go.RowKit

theorem Tryz.info5 : (Tryz.prog.info? 5).map (fun i => (i.zero, i.size, i.bytes)) = some (some (.int .u8 0), 1, 1) := by kernel_rfl
theorem owns_shape {w : World} {base : Nat} {e : TypeId} {v : Value} {n : Nat} {xs : List Value} (h : w.ownsRow base e 1 v n xs) : ∃ ao c, v = .slice ao n c := by
  rcases h.2 with ⟨rfl, rfl⟩ | ⟨g, cap, cur, rfl, _⟩
  · exact ⟨_, _, rfl⟩
  · exact ⟨_, _, rfl⟩


theorem Sl.block {w : World} {b : Nat} {cs : List Int} {t : TypeId} {fr : Nat × Nat} (hb : w.heap[b]? = some (.cells (cs.map (Value.int .u8)).toArray t fr)) (hm : cs.length ≤ maxLen) : Sl w (.slice (some ⟨b, 0, none⟩) cs.length cs.length) cs := by
  refine ⟨some ⟨b, 0, none⟩, cs.length, rfl, Nat.le_refl _, hm, (fun h => by cases h), fun a ha j u hu => ?_⟩
  cases ha
  exact World.news_of_block hb j u (by simpa using hu)

/-- One step of a row of bytes that the call owns. -/
def RStep (w : World) (v : Value) (w' : World) (v' : Value) : Prop :=
  Kp v.ownBlock.toList w w' ∧ ∀ k, v'.ownBlock = some k → v.ownBlock = some k ∨ w.heap.size ≤ k
theorem RStep.refl (w : World) (v : Value) : RStep w v w v := ⟨Kp.refl _ _, fun _ h => .inl h⟩
theorem RStep.trans {a b c : World} {u v x : Value} (h : RStep a u b v) (k : RStep b v c x) : RStep a u c x := by
  refine ⟨h.1.then k.1 (fun i hi => ?_), fun i hi => ?_⟩
  · simp only [Option.mem_toList] at hi ⊢
    exact h.2 i hi
  · rcases k.2 i hi with h1 | h1
    · exact h.2 i h1
    · exact .inr (Nat.le_trans h.1.size h1)
/-- The row v of the bytes bs, of the call's own from base on. -/
def Row (w : World) (base : Nat) (v : Value) (bs : List Int) : Prop := w.ownsRow base 5 1 v bs.length (bs.map (Value.int .u8))
theorem Row.shape {w : World} {base : Nat} {v : Value} {bs : List Int} (h : Row w base v bs) : ∃ ao c, v = .slice ao bs.length c := owns_shape h
theorem Row.sl {w : World} {base : Nat} {v : Value} {bs : List Int} (h : Row w base v bs) : Sl w v bs := Sl.of_owns h
theorem row_step {w w0 w1 : World} {base : Nat} {v v' : Value} {bs new : List Int} (h0 : Kp [] w w0)
    (hown : w1.ownsRow base 5 1 v' (bs.length + new.length) (bs.map (Value.int .u8) ++ new.map (Value.int .u8))) (hgrow : w0.grownBy w1 v.ownBlock) (hat : v'.ownBlock = v.ownBlock ∨ v'.ownBlock = some w0.heap.size) :
    Row w1 base v' (bs ++ new) ∧ RStep w v w1 v' := by
  refine ⟨by unfold Row; simpa using hown, (h0.mono (by simp)).grown hgrow (fun k hk => .inl (by simp [hk])), fun k hk => ?_⟩
  rcases hat with e | e
  · exact .inl (e ▸ hk)
  · rw [e] at hk; cases hk; exact .inr h0.size

theorem Row.len {w : World} {base m c : Nat} {ao : Option Addr} {bs : List Int} (h : Row w base (.slice ao m c) bs) : m = bs.length := by
  obtain ⟨_, _, e⟩ := h.shape; cases e; rfl

/-- append of bytes, whatever slice they come in, onto a row of the call's own. -/
theorem wpList_append_row {w : World} {ops : Array Oper} {rest : List Oper} {o : Oper} {a : Act} {Q : Exit → Act → World → Prop} (hgd : o.guard = none) (s x : Operand)
    (ho : o.op = .call { callee := .builtin .append, args := #[s, x], argTypes := #[22, 22] }) (base : Nat) (v : Value) (bs : List Int) (hs : a.eval s = v) (hrow : Row w base v bs)
    (vx : Value) (cs : List Int) (hx : a.eval x = vx) (hS : Sl w vx cs) (hb : bs.length + cs.length ≤ 140737488355328) (hbase : base ≤ w.heap.size)
    (h : ∀ ao m c w', Row w' base (.slice ao m c) (bs ++ cs) → RStep w v w' (.slice ao m c) → wpList Tryz.prog ops Q rest (a.put o.dst (.slice ao m c)) w') : wpList Tryz.prog ops Q (o :: rest) a w := by
  obtain ⟨i0, hi0, hz0, hz1, hz2⟩ := info_parts Tryz.info5
  obtain ⟨av, cv, rfl⟩ := hrow.shape
  obtain ⟨ax, cx, rfl, h1, h2, h3, h4⟩ := hS
  cases ax with
  | none =>
    have : cs = [] := List.eq_nil_of_length_eq_zero (by have := h3 rfl; omega)
    subst this
    obtain rfl := h3 rfl
    refine wpList_append_own_none hgd s x 22 ho base 5 i0 1 Tryz.underlying22 hi0 _ _ _ hs hrow hx ?_
    have := h av bs.length cv w
    simp only [List.append_nil] at this
    exact this hrow (RStep.refl _ _)
  | some a' =>
    refine wpList_append_own_at w hgd s x 22 ho base 5 i0 (.int .u8 0) 1 1 Tryz.underlying22 hi0 hz0 hz1 hz2 rfl (by decide) _ bs.length (bs.map (Value.int .u8)) hs hrow a' cs.length cx (cs.map (Value.int .u8)) hx (by simp) (h4 a' rfl) (by simp [Value.oneCell']) (by unfold maxLen; omega) (by omega) hbase ?_
    intro v' w1 hown1 hgrow _ hat
    have R := row_step (new := cs) (Kp.refl [] w) hown1 hgrow hat
    obtain ⟨ao', c', hv⟩ := R.1.shape
    subst hv
    exact h ao' _ c' w1 R.1 R.2
theorem Row.kept {w w' : World} {base : Nat} {v : Value} {bs : List Int} {S : List Nat} (h : Row w base v bs) (k : Kp S w w') (hv : ∀ i, v.ownBlock = some i → i ∉ S) : Row w' base v bs := k.owns h hv
theorem RStep.after {w w0 w1 : World} {v v' : Value} (h : RStep w0 v w1 v') (k : Kp [] w w0) : RStep w v w1 v' :=
  ⟨(k.mono (by simp)).trans h.1, fun i hi => (h.2 i hi).imp id (fun e => Nat.le_trans k.size e)⟩

end Go.Proofs.YtillhpgdlmeajaaGreatDoor

/-
  The contracts of the program's padded, laidDown and beginning.
-/
namespace Go.Proofs.YtillhpgdlmeajaaGreatDoor
open Go.RowKit

theorem Row.own {w : World} {base : Nat} {v : Value} {bs : List Int} (h : Row w base v bs) : ∀ k, v.ownBlock = some k → base ≤ k := by
  intro k hk
  rcases h.2 with ⟨rfl, _⟩ | ⟨g, cap, cur, rfl, hb, _⟩
  · cases hk
  · cases hk; exact hb
theorem Row.step {w w1 w2 : World} {v v' : Value} {bs : List Int} (h : Row w1 w.heap.size v bs) (k : Kp [] w w1) (s : RStep w1 v w2 v') : Kp [] w w2 :=
  k.then s.1 (fun i hi => .inr (h.own i (by simpa using hi)))
/-- One byte, in a block of its own. -/
theorem one_block (w : World) (x : Int) : Sl (w.alloc (.cells #[.int .u8 x] 5)) (.slice (some ⟨w.heap.size, 0, none⟩) 1 1) [x] :=
  Sl.block (cs := [x]) (t := 5) (heap_alloc_new w _) (by simp [maxLen])

theorem be8_take (n : Int) (j : Nat) (hj : j < 8) : (be8 n).take (j + 1) = (be8 n).take j ++ [n / 2 ^ (8 * (7 - j)) % 256] := by
  match j, hj with
  | 0, _ => rfl
  | 1, _ => rfl
  | 2, _ => rfl
  | 3, _ => rfl
  | 4, _ => rfl
  | 5, _ => rfl
  | 6, _ => rfl
  | 7, _ => simp [be8]

set_option maxRecDepth 100000 in
set_option maxHeartbeats 2000000 in
theorem padded_any (vr : Value) (rs : List Int) (N : Nat) (w : World) (hS : Sl w vr rs) (hl : rs.length < 64) (hN : N ≤ 1000000000000000) :
    Calls Tryz.prog 141 #[vr, .int .i64 N] w fun e w' => ∃ ao m c, e = .returned (.slice ao m c) ∧ Row w' w.heap.size (.slice ao m c) (pad rs N) ∧ Kp [] w w' := by
  obtain ⟨i0, hi0, hz0, hz1, hz2⟩ := info_parts Tryz.info5
  obtain ⟨ar, cr, rfl, h1, h2, h3, _⟩ := id hS
  have HSl := hide hS
  clear hS
  have hrl : (rs.length : Int) < 64 := by omega
  go_enter Tryz.func141, Tryz.ntmps141
  go_wp2_with (first
    | (at_make; refine wpList_make_own _ rfl _ _ 22 rfl w.heap.size 5 i0 (.int .u8 0) 1 Tryz.underlying22 hi0 hz0 hz1 .i64 .i64 128 128 rfl rfl rfl (by rw [hz2]; omega) (by unfold maxLen; omega) (Nat.le_refl _) ?_; intro w1 o1 g1; have K1 : Kp [] w w1 := (Kp.refl [] w).grown g1 (by intro k hk; cases hk); have R1 : Row w1 w.heap.size _ [] := o1; have HS1 := (unhide HSl).kept K1 (by simp))
    | (at_builtin; refine wpList_append_row rfl (.tmp 9) (.tmp 10) rfl w.heap.size _ [] rfl R1 _ rs rfl HS1 (by simp; omega) K1.size ?_; intro ao2 m2 c2 w2 r2 s2; have K2 := R1.step K1 s2; rw [List.nil_append] at r2)
    | (at_builtin; refine wpList_append_row rfl (.tmp 12) (.tmp 13) rfl w.heap.size _ rs rfl (r2.kept ((Kp.refl [] w2).alloc _) (by simp)) _ [128] rfl (one_block w2 128) (by simp; omega) (by have := K2.size; simp; omega) ?_; intro ao3 m3 c3 w3 r3 s3; have K3 := r2.step K2 (s3.after ((Kp.refl [] w2).alloc _))))
  clear R1 HS1 o1 g1 K1 s2 s3 r2 K2
  have hm3 := r3.len
  have hR3 : Row w3 w.heap.size (.slice ao3 m3 c3) (rs ++ [128] ++ List.replicate 0 0) := by simpa using r3
  have hR := hide hR3
  have hK3 := hide K3
  clear r3 hR3 K3 hm3
  go_loopw [5] (fun v wr => ∃ (z m c : Nat) (ao : Option Addr), z ≤ zeros rs.length ∧ v = .slice ao m c ∧ Row wr w.heap.size v (rs ++ [128] ++ List.replicate z 0) ∧ Kp [] w wr) (fun v _ => 200 - (match v with | .slice _ m _ => m | _ => 0))
  case atStart => exact ⟨0, m3, c3, ao3, by omega, rfl, unhide hR, unhide hK3⟩
  case round =>
    obtain ⟨z, m, c, ao, hz, rfl, Rr, Kr⟩ := hrel
    have hml := Rr.len
    simp only [List.length_append, List.length_replicate, List.length_cons, List.length_nil] at hml
    have hzb : zeros rs.length < 64 := by unfold zeros; omega
    by_cases hlt : z < zeros rs.length
    · have hne : ¬ ((m : Int) % 64 = 56) := by unfold zeros at hlt; omega
      have hmm : m ≤ 150 := by omega
      have HML := hide hml
      have hrb : (rs ++ [128] ++ List.replicate z (0 : Int)).length ≤ 150 := by simp; omega
      clear hml
      go_wp2_with (at_builtin; refine wpList_append_row rfl (.tmp 19) (.tmp 20) rfl w.heap.size _ _ rfl (Rr.kept ((Kp.refl [] wr).alloc _) (by simp)) _ [0] rfl (one_block wr 0) (by simp only [List.length_cons, List.length_nil]; omega) (by have := Kr.size; simp; omega) ?_; intro ao2 m2 c2 w2 r2 s2)
      have hm2 := r2.len
      simp only [List.length_append, List.length_replicate, List.length_cons, List.length_nil] at hm2
      go_roundw
      case rel =>
        refine ⟨z + 1, m2, c2, ao2, by omega, rfl, ?_, Rr.step Kr (s2.after ((Kp.refl [] wr).alloc _))⟩
        rw [List.replicate_succ', ← List.append_assoc]
        exact r2
      case measure => show 200 - m2 < 200 - m; have := unhide HML; omega
    · have hzz : z = zeros rs.length := by omega
      have he : (m : Int) % 64 = 56 := by rw [hzz] at hml; unfold zeros at hml; omega
      obtain ⟨pre, hpre⟩ : ∃ pre, pre = rs ++ [128] ++ List.replicate z 0 := ⟨_, rfl⟩
      have hpl : pre.length ≤ 128 := by rw [hpre]; simp; omega
      have hR9 : Row wr w.heap.size (.slice ao m c) (pre ++ (be8 (N * 8)).take 0) := by simpa [hpre] using Rr
      have HR9 := hide hR9
      have HK9 := hide Kr
      have HP : Hid (pre ++ (be8 (N * 8)).take 8 = pad rs N) := by
        show _ = _
        unfold pad
        rw [hpre, hzz, List.take_of_length_le (by simp [be8])]
      clear hpre Rr Kr hR9 hml hzz hlt hz hzb
      go_wp2_with fail
      obtain ⟨C, hC⟩ : ∃ C, C = (N : Int) * 8 := ⟨_, rfl⟩
      have hC0 : 0 ≤ C := by omega
      have hC1 : C ≤ 8000000000000000 := by omega
      rw [← hC] at HR9 HP
      simp only [← hC]
      clear hC he
      go_loopw [5, 7] (fun v i wr => ∃ (j m c : Nat) (ao : Option Addr), j ≤ 8 ∧ v = .slice ao m c ∧ i = .int .i64 (7 - (j : Int)) ∧ Row wr w.heap.size v (pre ++ (be8 C).take j) ∧ Kp [] w wr) (fun _ i _ => (intOf i + 1).toNat)
      case atStart => exact ⟨0, m, c, ao, by omega, rfl, rfl, unhide HR9, unhide HK9⟩
      case round =>
        obtain ⟨j, m, c, ao, hj, rfl, rfl, Rr, Kr⟩ := hrel
        by_cases hlt : j < 8
        · have hj2 : (j : Int) < 8 := by omega
          have hj3 : (j : Int) ≤ 7 := by omega
          have HT := hide (be8_take C j hlt)
          have hpj : (pre ++ (be8 C).take j).length ≤ 136 := by simp [be8]; omega
          obtain ⟨q, hq⟩ : ∃ q, q = pre ++ (be8 C).take j := ⟨_, rfl⟩
          rw [← hq] at hpj Rr
          have HQ := hide hq
          clear hq
          go_wp2_with (at_builtin; refine wpList_append_row rfl (.tmp 29) (.tmp 35) rfl w.heap.size _ _ rfl (Rr.kept ((Kp.refl [] wr).alloc _) (by simp)) _ [C / 2 ^ (8 * (7 - j)) % 256] rfl (one_block wr _) (by simp; omega) (by have := Kr.size; simp; omega) ?_; intro ao2 m2 c2 w2 r2 s2)
          go_roundw
          case rel =>
            refine ⟨j + 1, m2, c2, ao2, by omega, rfl, by go_num, ?_, Rr.step Kr (s2.after ((Kp.refl [] wr).alloc _))⟩
            rw [unhide HT, ← List.append_assoc, ← unhide HQ]
            exact r2
          case measure => simp [intOf]; omega
        · obtain rfl : j = 8 := by omega
          rw [unhide HP] at Rr
          go_wp2_with fail
          go_ret
          exact ⟨ao, m, c, rfl, Rr, Kr⟩

theorem lay8_snoc (s : List Int) (k : Nat) (hk : k < s.length) : lay8 (s.take (k + 1)) = lay8 (s.take k) ++ [s.getD k 0 / 16777216 % 256, s.getD k 0 / 65536 % 256, s.getD k 0 / 256 % 256, s.getD k 0 % 256] := by
  unfold lay8
  rw [List.take_succ_eq_append_getElem hk, List.flatMap_append]
  simp [List.getElem?_eq_getElem hk]
theorem lay8_len (s : List Int) : (lay8 s).length = 4 * s.length := by
  unfold lay8
  induction s with
  | nil => rfl
  | cons a s ih => simp only [List.flatMap_cons, List.length_append, ih, List.length_cons, List.length_nil]; omega

set_option maxRecDepth 100000 in
set_option maxHeartbeats 2000000 in
theorem laid_any (s : List Int) (w : World) (hs : s.length = 8) :
    Calls Tryz.prog 142 #[ag s] w fun e w' => ∃ ao m c, e = .returned (.slice ao m c) ∧ Row w' w.heap.size (.slice ao m c) (lay8 s) ∧ Kp [] w w' := by
  obtain ⟨i0, hi0, hz0, hz1, hz2⟩ := info_parts Tryz.info5
  have hi : (Tryz.prog.info? 188).map (·.size) = some s.length := by rw [hs]; exact Tryz.szW
  go_enter Tryz.func142, Tryz.ntmps142
  go_wp2_with (first
    | (refine wpList_box_ar (w := w) rfl 188 (.tmp 0) rfl _ rfl ?_; intro wa Aa Ka za)
    | (at_make; refine wpList_make_own _ rfl _ _ 22 rfl w.heap.size 5 i0 (.int .u8 0) 1 Tryz.underlying22 hi0 hz0 hz1 .i64 .i64 32 32 rfl rfl rfl (by rw [hz2]; omega) (by unfold maxLen; omega) (by omega) ?_; intro w1 o1 g1; have K1 : Kp [] wa w1 := (Kp.refl [] wa).grown g1 (by intro k hk; cases hk); have R1 : Row w1 w.heap.size _ [] := o1; have A1 := Aa.kept K1 (by simp))
    | (refine wpList_load_ar rfl 188 (.tmp 1) rfl w.heap.size rfl _ _ 8 103 A1 Tryz.underlying188 hi ?_))
  obtain ⟨b1, hb1⟩ : ∃ b, b = w.heap.size := ⟨_, rfl⟩
  have K2 := Ka.trans K1
  rw [za] at R1
  simp only [← hb1] at R1 ⊢
  have hR := hide R1
  have hK := hide K2
  have hbw : b1 ≤ w1.heap.size := by have := K2.size; omega
  have HB1 := hide hb1
  clear R1 K2 A1 K1 g1 o1 za Aa Ka hb1
  go_loopw [3, 8] (fun v i wr => ∃ (k m c : Nat) (ao : Option Addr), k ≤ 8 ∧ v = .slice ao m c ∧ i = .int .i64 k ∧ Row wr b1 v (lay8 (s.take k)) ∧ Kp [] w wr) (fun _ i _ => 8 - (intOf i).toNat)
  case atStart => exact ⟨0, 0, 32, some ⟨b1 + 1, 0, none⟩, by omega, rfl, rfl, unhide hR, unhide hK⟩
  case round =>
    obtain ⟨k, m, c, ao, hk, rfl, rfl, Rr, Kr⟩ := hrel
    by_cases hlt : k < 8
    · have hlt2 : (k : Int) < 8 := by omega
      have hix := fun W => indexW s k W hlt hs
      have hsn := lay8_snoc s k (by omega)
      obtain ⟨x, hx⟩ : ∃ x, x = s.getD k 0 := ⟨_, rfl⟩
      simp only [← hx] at hix hsn
      have HS := hide hsn
      have hll : (lay8 (s.take k)).length ≤ 32 := by rw [lay8_len]; simp; omega
      clear hx hsn
      go_wp2_with (at_builtin; refine wpList_append_row rfl (.tmp 11) (.tmp 23) rfl b1 _ _ rfl (Rr.kept ((Kp.refl [] wr).alloc _) (by simp)) _ [x / 16777216 % 256, x / 65536 % 256, x / 256 % 256, x % 256] rfl (Sl.block (cs := [x / 16777216 % 256, x / 65536 % 256, x / 256 % 256, x % 256]) (t := 5) (heap_alloc_new wr _) (by simp [maxLen])) (by simp only [List.length_cons, List.length_nil]; omega) (by have := Kr.size; have := unhide HB1; simp; omega) ?_; intro ao2 m2 c2 w2 r2 s2)
      go_roundw
      case rel =>
        refine ⟨k + 1, m2, c2, ao2, by omega, rfl, by go_num, ?_, ?_⟩
        · rw [unhide HS]; exact r2
        · rw [unhide HB1] at Rr
          exact Rr.step Kr (s2.after ((Kp.refl [] wr).alloc _))
      case measure => simp [intOf]; omega
    · obtain rfl : k = 8 := by omega
      rw [List.take_of_length_le (by omega)] at Rr
      go_wp2_with fail
      go_ret
      exact ⟨ao, m, c, rfl, (unhide HB1) ▸ Rr, Kr⟩

set_option maxRecDepth 100000 in
theorem beg_any (w : World) : Calls Tryz.prog 139 #[] w fun e w' => e = .returned (ag begin8) ∧ Kp [] w w' := by
  obtain ⟨i0, hi0, hz0⟩ := Tryz.zeroW
  go_enter Tryz.func139, Tryz.ntmps139
  go_wp2_with (first
    | (refine wpList_alloc_ar (w := w) rfl 188 rfl i0 _ hi0 hz0 ?_; intro w1 A1 K1 z1)
    | (refine wpList_store_ar rfl 188 (.tmp 0) (.tmp 1) rfl w.heap.size rfl _ _ begin8 A1 rfl rfl Tryz.szW ?_; intro w2 A2 K2 z2))
  refine bodyPost_ret (results_cell_row rfl _ w2 w.heap.size _ _ (0, 0) (.array 8 103) rfl A2 Tryz.underlying188 rfl Tryz.szW) rfl ?_
  exact ⟨rfl, K1.then K2 (by simp)⟩
end Go.Proofs.YtillhpgdlmeajaaGreatDoor

/-
  The contract of the program's Sum.
-/
namespace Go.Proofs.YtillhpgdlmeajaaGreatDoor
open Go.RowKit

theorem run_load_ar {w : World} {b : Nat} {t ty : TypeId} {s : List Int} {n : Nat} {e : TypeId} (hA : Ar w b t s) (hu : Tryz.prog.underlying ty = some (.array n e)) (hi : (Tryz.prog.info? ty).map (·.size) = some s.length) :
    (Instr.loadAt ty (.pointer (some ⟨b, 0, none⟩))).run Tryz.prog w = .ok (ag s) w := by
  simp only [Instr.loadAt, Instr.sureAddr, Sem.run_bind, Sem.run_pure, Result.andThen_ok, run_loadVar_row w b t ty _ (0, 0) (.array n e) hA hu rfl (by simpa using hi)]
  rfl
theorem run_store_ar {w : World} {b : Nat} {t ty : TypeId} {s0 s : List Int} (hA : Ar w b t s0) (hl : s0.length = s.length) (hi : (Tryz.prog.info? ty).map (·.size) = some s.length) :
    ∃ w', (Instr.storeAt ty (.pointer (some ⟨b, 0, none⟩)) (ag s)).run Tryz.prog w = .ok () w' ∧ Ar w' b t s ∧ Kp [b] w w' := by
  refine ⟨_, run_storeAt_mid w b 0 ty (s.map (Value.int .u32)).toArray ?_ (by simpa using hi) (all_oneCell_toArray (by simp [Value.oneCell'])), ?_, kp_setCells w b _ 0 w (Kp.refl _ _)⟩
  · intro j hj
    simp only [List.size_toArray, List.length_map] at hj
    rw [Nat.zero_add, hA.cell j (by omega)]
    exact ⟨rfl, hA.frozen j⟩
  · have := ar_setCells b t s 0 s0 w hA (by omega)
    simpa using this
theorem pad_len (rs : List Int) (N : Nat) (h : rs.length < 64) : (pad rs N).length = 64 * ((pad rs N).length / 64) ∧ (pad rs N).length ≤ 128 := by
  have : (pad rs N).length = rs.length + 1 + zeros rs.length + 8 := by simp [pad, be8]; omega
  unfold zeros at this
  omega
theorem be8_bs (n : Int) : Bs (be8 n) := by
  intro b hb
  simp only [be8, List.mem_cons, List.not_mem_nil, or_false] at hb
  rcases hb with rfl | rfl | rfl | rfl | rfl | rfl | rfl | rfl <;> omega
theorem pad_bs (rs : List Int) (N : Nat) (h : Bs rs) : Bs (pad rs N) := by
  intro b hb
  simp only [pad, List.mem_append] at hb
  rcases hb with ((hb | hb) | hb) | hb
  · exact h b hb
  · simp at hb; omega
  · have := (List.mem_replicate.1 hb).2; omega
  · exact be8_bs _ b hb

theorem Ar.cells8 {w : World} {b : Nat} {ty : TypeId} {x0 x1 x2 x3 x4 x5 x6 x7 : Int} (h : Ar w b ty [x0, x1, x2, x3, x4, x5, x6, x7]) :
    w.cell? ⟨b, 0, none⟩ = some (.int .u32 x0) ∧ w.cell? ⟨b, 1, none⟩ = some (.int .u32 x1) ∧ w.cell? ⟨b, 2, none⟩ = some (.int .u32 x2) ∧ w.cell? ⟨b, 3, none⟩ = some (.int .u32 x3) ∧ w.cell? ⟨b, 4, none⟩ = some (.int .u32 x4) ∧ w.cell? ⟨b, 5, none⟩ = some (.int .u32 x5) ∧ w.cell? ⟨b, 6, none⟩ = some (.int .u32 x6) ∧ w.cell? ⟨b, 7, none⟩ = some (.int .u32 x7) :=
  ⟨h.cell 0 (by simp), h.cell 1 (by simp), h.cell 2 (by simp), h.cell 3 (by simp), h.cell 4 (by simp), h.cell 5 (by simp), h.cell 6 (by simp), h.cell 7 (by simp)⟩
theorem Ar.frozen8 {w : World} {b : Nat} {ty : TypeId} {s : List Int} (h : Ar w b ty s) :
    w.frozen? ⟨b, 0, none⟩ = false ∧ w.frozen? ⟨b, 1, none⟩ = false ∧ w.frozen? ⟨b, 2, none⟩ = false ∧ w.frozen? ⟨b, 3, none⟩ = false ∧ w.frozen? ⟨b, 4, none⟩ = false ∧ w.frozen? ⟨b, 5, none⟩ = false ∧ w.frozen? ⟨b, 6, none⟩ = false ∧ w.frozen? ⟨b, 7, none⟩ = false :=
  ⟨h.frozen 0, h.frozen 1, h.frozen 2, h.frozen 3, h.frozen 4, h.frozen 5, h.frozen 6, h.frozen 7⟩
theorem ag_eight (x0 x1 x2 x3 x4 x5 x6 x7 : Int) : ag [x0, x1, x2, x3, x4, x5, x6, x7] = .agg #[.int .u32 x0, .int .u32 x1, .int .u32 x2, .int .u32 x3, .int .u32 x4, .int .u32 x5, .int .u32 x6, .int .u32 x7] := rfl
theorem padded_at (vr : Value) (rs : List Int) (N : Nat) (L : Int) (hL : L = (N : Int)) (w : World) (hS : Sl w vr rs) (hl : rs.length < 64) (hN : N ≤ 1000000000000000) :
    Calls Tryz.prog 141 #[vr, .int .i64 L] w fun e w' => ∃ ao m c, e = .returned (.slice ao m c) ∧ Row w' w.heap.size (.slice ao m c) (pad rs N) ∧ Kp [] w w' := by
  subst hL
  exact padded_any vr rs N w hS hl hN
theorem sha_parts (bs : List Int) (n N k : Nat) (s1 xs ys : List Int) (hN : N = bs.length) (hn : n = bs.length / 64) (h1 : s1 = blks n begin8 bs) (hx : s1 = xs) (hk : k = (pad (bs.drop (64 * n)) N).length / 64) (hy : blks k xs (pad (bs.drop (64 * n)) N) = ys) : lay8 ys = sha bs := by
  unfold sha fin8
  rw [show bs.length / 64 * 64 = 64 * n from by omega, ← hn, ← h1, hx, ← hN, ← hk, hy]
theorem blks_take (s bs : List Int) (m : Nat) : ∀ k, 64 * k ≤ m → blks k s (bs.take m) = blks k s bs
  | 0, _ => rfl
  | k + 1, h => by
    simp only [blks]
    rw [blks_take s bs m k (by omega), List.drop_take, List.take_take, Nat.min_eq_left (by omega)]

set_option maxRecDepth 100000 in
set_option maxHeartbeats 2000000 in
theorem sum_any (vb : Value) (bs : List Int) (w : World) (hS : Sl w vb bs) (hB : Bs bs) (hl : bs.length ≤ 1000000000000) (hG : Gl w) :
    Calls Tryz.prog 107 #[vb] w fun e w' => ∃ ao m c, e = .returned (.slice ao m c) ∧ Row w' w.heap.size (.slice ao m c) (sha bs) ∧ Kp [] w w' := by
  obtain ⟨i0, hi0, hz0⟩ := Tryz.zeroW
  have HB : Hid (Bs bs) := hB
  have HG : Hid (Gl w) := hG
  have hpos := hG.pos
  have HSl : Hid (Sl w vb bs) := hS
  obtain ⟨ab, cb, rfl, h1, h2, h3, _⟩ := hS
  obtain ⟨N, hN⟩ : ∃ N, N = bs.length := ⟨_, rfl⟩
  obtain ⟨n, hn⟩ : ∃ n, n = bs.length / 64 := ⟨_, rfl⟩
  have hrem : (N : Int) - (N : Int) % 64 = 64 * (n : Int) := by omega
  have hnn : 64 * n ≤ N := by omega
  have hcc : (N : Int) ≤ (cb : Int) := by omega
  rw [← hN] at h1 HSl ⊢
  have HN := hide hN
  have HNn := hide hn
  have hNl : N ≤ 1000000000000 := by omega
  clear hB hG hN hn hl
  go_enter Tryz.func107, Tryz.ntmps107
  go_wp2_with (first
    | (go_at_call 139; refine (beg_any _).mono ?_; rintro ee w1 ⟨rfl, K1⟩)
    | (refine wpList_alloc_ar (w := w1) rfl 188 rfl i0 _ hi0 hz0 ?_; intro w2 A2 K2 z2)
    | (refine wpList_store_ar rfl 188 (.tmp 3) (.tmp 5) rfl w1.heap.size rfl _ _ begin8 A2 rfl rfl Tryz.szW ?_; intro w3 A3 K3 z3))
  obtain ⟨b1, hb1⟩ : ∃ b, b = w1.heap.size := ⟨_, rfl⟩
  have hbw : w.heap.size ≤ b1 := by have := K1.size; omega
  rw [← hb1] at A2 A3 K3
  simp only [← hb1]
  have K13 : Kp [] w w3 := (K1.trans K2).then K3 (by simp; omega)
  have S3 := (unhide HSl).kept K13 (by simp)
  have T3 := hide ((S3.kept (kp_drew w3) (by simp)).take (64 * n) (by have := unhide HN; omega))
  have HG3 := hide (((unhide HG).kept K13 (by simp)).kept (kp_drew w3) (by simp))
  have AD : Ar w3.drew b1 188 begin8 := A3
  have HK13 := hide K13
  have hAD := hide AD
  have hS3 := hide S3
  clear A2 A3 K1 K2 K3 K13 z2 z3 AD S3 hb1
  have hcc2 : 64 * (n : Int) ≤ (cb : Int) := by omega
  have hcc3 : 64 * (n : Int) ≤ (N : Int) := by omega
  refine region_tail 4 Tryz.mixed (by kernel_rfl) ?_
  simp only [List.take_succ_cons, List.take_zero, List.drop_succ_cons, List.drop_zero]
  go_big_quiet_want
  refine quiet_load_ar 188 (.tmp 3) rfl b1 rfl _ begin8 8 103 (unhide hAD) Tryz.underlying188 Tryz.szW ?_
  simp only [Act.put, List.set_cons_zero, List.set_cons_succ, List.setIfInBounds_toArray]
  go_big_quiet_on
  repeat (first | go_big_quiet_skip | (go_big_quiet_want; go_big_quiet_op; go_big_quiet_on))
  refine wpQuiet_nil ?_
  have hbt : (bs.take (64 * n)).length = 64 * n := by have := unhide HN; simp; omega
  obtain ⟨s1, hs1⟩ : ∃ s1, s1 = blks n begin8 bs := ⟨_, rfl⟩
  have hs1' : blks n begin8 (bs.take (64 * n)) = s1 := by rw [blks_take _ _ _ _ (Nat.le_refl _), hs1]
  have hs18 : s1.length = 8 := by rw [hs1]; exact blks_len _ _ rfl n
  have hi1 : (Tryz.prog.info? 188).map (·.size) = some s1.length := by rw [hs18]; exact Tryz.szW
  have HS1 := hide hs1
  have HS1' := hide hs1'
  clear hs1 hs1'
  go_wp2_with (first
    | (go_at_call 140; refine (mixAll_any begin8 _ _ n _ rfl (unhide T3) hbt (by omega) ((unhide HB).take _) (unhide HG3)).mono ?_; rintro ee w4 ⟨rfl, K4⟩; rw [unhide HS1']; have A4 := (unhide hAD).kept K4 (by simp))
    | (refine wpList_store_ar rfl 188 (.tmp 3) (.tmp 16) rfl b1 rfl _ _ s1 A4 rfl (by rw [hs18]; rfl) hi1 ?_; intro w5 A5 K5 z5))
  have K15 : Kp [] w w5 := (((unhide HK13).trans (kp_drew w3)).trans K4).then K5 (by simp; omega)
  have hK := hide K15
  have hA5 := hide A5
  have S5 := hide ((unhide HSl).kept K15 (by simp))
  have HG5 := hide ((unhide HG).kept K15 (by simp))
  have hl5 := A5.lt
  clear A4 A5 K4 K5 z5 K15 T3 HG3 HK13 hAD hS3
  simp only [Act.put]
  obtain ⟨x0, x1, x2, x3, x4, x5, x6, x7, hx⟩ := eight hs18
  have A5 := unhide hA5
  rw [hx] at A5
  obtain ⟨p0, p1, p2, p3, p4, p5, p6, p7⟩ := A5.cells8
  have HX := hide hx
  have SD : Sl w5.drew (.slice ab N cb) bs := (unhide S5).kept (kp_drew w5) (by simp)
  have SDr := SD.drop (64 * n) (by have := unhide HN; omega)
  have hSD := hide SDr
  have hrl : (bs.drop (64 * n)).length < 64 := by have := unhide HN; simp; omega
  have hA5' := hide A5
  clear SD SDr A5 hx
  have hcut : cb = 64 * n ∨ ∃ a, ab = some a ∧ ¬ cb = 64 * n := by
    by_cases hc : cb = 64 * n
    · exact .inl hc
    · cases ab with
      | none => have := h3 rfl; omega
      | some a => exact .inr ⟨a, rfl, hc⟩
  rcases hcut with hc | ⟨a, rfl, hc⟩
  · rw [if_pos hc] at hSD
    obtain rfl : cb = 64 * n := hc
    obtain rfl : N = 64 * n := by omega
    rw [Nat.sub_self] at hSD
    have hpl := pad_len (bs.drop (64 * n)) (64 * n) hrl
    have hpb := hide (pad_bs (bs.drop (64 * n)) (64 * n) ((unhide HB).drop _))
    obtain ⟨k6, hk6⟩ : ∃ k, k = (pad (bs.drop (64 * n)) (64 * n)).length / 64 := ⟨_, rfl⟩
    rw [← hk6] at hpl
    have hk62 : k6 ≤ 2 := by omega
    have HPL := hide hpl
    have HK6 := hide hk6
    clear hpl hk6
    go_region_with (first
      | (go_at_call 141; refine (padded_at _ (bs.drop (64 * n)) (64 * n) _ (by omega) _ (unhide hSD) hrl (by omega)).mono ?_; rintro ee w6 ⟨ao6, m6, c6, rfl, R6, K6⟩; have A6 := (unhide hA5').kept ((kp_drew w5).trans K6) (by simp); obtain ⟨q0, q1, q2, q3, q4, q5, q6, q7⟩ := A6.cells8; have hR6 := hide R6; have hK6 := hide K6; have hA6 := hide A6; clear R6 K6 A6)
      | (go_at_call 140; refine (mixAll_any [x0, x1, x2, x3, x4, x5, x6, x7] _ _ k6 _ rfl (unhide hR6).sl (unhide HPL).1 (by omega) (unhide hpb) ((unhide HG5).kept ((kp_drew w5).trans (unhide hK6)) (by simp))).mono ?_; rintro ee w7 ⟨rfl, K7⟩; obtain ⟨y0, y1, y2, y3, y4, y5, y6, y7, hy⟩ := eight (blks_len [x0, x1, x2, x3, x4, x5, x6, x7] (pad (bs.drop (64 * n)) (64 * n)) rfl k6); rw [hy, ag_eight]; have A7 := (unhide hA6).kept K7 (by simp); obtain ⟨r0, r1, r2, r3, r4, r5, r6, r7⟩ := A7.cells8; obtain ⟨t0, t1, t2, t3, t4, t5, t6, t7⟩ := A7.frozen8; have HY := hide hy; have hA7 := hide A7; have hK7 := hide K7; clear hy A7 K7))
    all_goals have A8 : Ar _ b1 188 [y0, y1, y2, y3, y4, y5, y6, y7] := ((((((((unhide hA7).set 0 y0).set 1 y1).set 2 y2).set 3 y3).set 4 y4).set 5 y5).set 6 y6).set 7 y7
    all_goals have hfin := sha_parts bs n _ k6 s1 _ _ (unhide HN) (unhide HNn) (unhide HS1) (unhide HX) (unhide HK6) (unhide HY)
    all_goals have hrow : ∀ W9 ao m c, Row W9 w.heap.size (.slice ao m c) (lay8 [y0, y1, y2, y3, y4, y5, y6, y7]) → Row W9 w.heap.size (.slice ao m c) (sha bs) := fun _ _ _ _ h => hfin ▸ h
    all_goals have HR := hide hrow
    all_goals have HKW : Hid (Kp [b1] w5 w7) := ((((kp_drew w5).trans (unhide hK6)).trans (unhide hK7)).mono (by simp))
    all_goals have KW := (unhide hK).then ((((((((((unhide HKW).setCell (p := ⟨b1, 0, none⟩) (.inl (by simp)) (.int .u32 y0)).setCell (p := ⟨b1, 1, none⟩) (.inl (by simp)) (.int .u32 y1)).setCell (p := ⟨b1, 2, none⟩) (.inl (by simp)) (.int .u32 y2)).setCell (p := ⟨b1, 3, none⟩) (.inl (by simp)) (.int .u32 y3)).setCell (p := ⟨b1, 4, none⟩) (.inl (by simp)) (.int .u32 y4)).setCell (p := ⟨b1, 5, none⟩) (.inl (by simp)) (.int .u32 y5)).setCell (p := ⟨b1, 6, none⟩) (.inl (by simp)) (.int .u32 y6)).setCell (p := ⟨b1, 7, none⟩) (.inl (by simp)) (.int .u32 y7))) (by simp; omega)
    all_goals clear hrow hfin p0 p1 p2 p3 p4 p5 p6 p7 q0 q1 q2 q3 q4 q5 q6 q7 r0 r1 r2 r3 r4 r5 r6 r7 t0 t1 t2 t3 t4 t5 t6 t7
    all_goals (go_wp2_with (first
      | (refine wpList_load_ar rfl 188 (.tmp 3) rfl b1 rfl _ _ 8 103 A8 Tryz.underlying188 Tryz.szW ?_)
      | (go_at_call 142; refine (laid_any [y0, y1, y2, y3, y4, y5, y6, y7] _ rfl).mono ?_; rintro ee w9 ⟨ao9, m9, c9, rfl, R9, K9⟩)))
    all_goals go_ret
    all_goals exact ⟨ao9, m9, c9, rfl, unhide HR _ _ _ _ (owns_rebase R9 (fun k hk => Nat.le_trans KW.size (R9.own k hk))), KW.trans K9⟩
  · rw [if_neg hc] at hSD
    have hpl := pad_len (bs.drop (64 * n)) N hrl
    have hpb := hide (pad_bs (bs.drop (64 * n)) N ((unhide HB).drop _))
    obtain ⟨k6, hk6⟩ : ∃ k, k = (pad (bs.drop (64 * n)) N).length / 64 := ⟨_, rfl⟩
    rw [← hk6] at hpl
    have hk62 : k6 ≤ 2 := by omega
    have HPL := hide hpl
    have HK6 := hide hk6
    clear hpl hk6
    go_region_with (first
      | (go_at_call 141; refine (padded_any _ (bs.drop (64 * n)) N _ (unhide hSD) hrl (by omega)).mono ?_; rintro ee w6 ⟨ao6, m6, c6, rfl, R6, K6⟩; have A6 := (unhide hA5').kept ((kp_drew w5).trans K6) (by simp); obtain ⟨q0, q1, q2, q3, q4, q5, q6, q7⟩ := A6.cells8; have hR6 := hide R6; have hK6 := hide K6; have hA6 := hide A6; clear R6 K6 A6)
      | (go_at_call 140; refine (mixAll_any [x0, x1, x2, x3, x4, x5, x6, x7] _ _ k6 _ rfl (unhide hR6).sl (unhide HPL).1 (by omega) (unhide hpb) ((unhide HG5).kept ((kp_drew w5).trans (unhide hK6)) (by simp))).mono ?_; rintro ee w7 ⟨rfl, K7⟩; obtain ⟨y0, y1, y2, y3, y4, y5, y6, y7, hy⟩ := eight (blks_len [x0, x1, x2, x3, x4, x5, x6, x7] (pad (bs.drop (64 * n)) N) rfl k6); rw [hy, ag_eight]; have A7 := (unhide hA6).kept K7 (by simp); obtain ⟨r0, r1, r2, r3, r4, r5, r6, r7⟩ := A7.cells8; obtain ⟨t0, t1, t2, t3, t4, t5, t6, t7⟩ := A7.frozen8; have HY := hide hy; have hA7 := hide A7; have hK7 := hide K7; clear hy A7 K7))
    all_goals have A8 : Ar _ b1 188 [y0, y1, y2, y3, y4, y5, y6, y7] := ((((((((unhide hA7).set 0 y0).set 1 y1).set 2 y2).set 3 y3).set 4 y4).set 5 y5).set 6 y6).set 7 y7
    all_goals have hfin := sha_parts bs n _ k6 s1 _ _ (unhide HN) (unhide HNn) (unhide HS1) (unhide HX) (unhide HK6) (unhide HY)
    all_goals have hrow : ∀ W9 ao m c, Row W9 w.heap.size (.slice ao m c) (lay8 [y0, y1, y2, y3, y4, y5, y6, y7]) → Row W9 w.heap.size (.slice ao m c) (sha bs) := fun _ _ _ _ h => hfin ▸ h
    all_goals have HR := hide hrow
    all_goals have HKW : Hid (Kp [b1] w5 w7) := ((((kp_drew w5).trans (unhide hK6)).trans (unhide hK7)).mono (by simp))
    all_goals have KW := (unhide hK).then ((((((((((unhide HKW).setCell (p := ⟨b1, 0, none⟩) (.inl (by simp)) (.int .u32 y0)).setCell (p := ⟨b1, 1, none⟩) (.inl (by simp)) (.int .u32 y1)).setCell (p := ⟨b1, 2, none⟩) (.inl (by simp)) (.int .u32 y2)).setCell (p := ⟨b1, 3, none⟩) (.inl (by simp)) (.int .u32 y3)).setCell (p := ⟨b1, 4, none⟩) (.inl (by simp)) (.int .u32 y4)).setCell (p := ⟨b1, 5, none⟩) (.inl (by simp)) (.int .u32 y5)).setCell (p := ⟨b1, 6, none⟩) (.inl (by simp)) (.int .u32 y6)).setCell (p := ⟨b1, 7, none⟩) (.inl (by simp)) (.int .u32 y7))) (by simp; omega)
    all_goals clear hrow hfin p0 p1 p2 p3 p4 p5 p6 p7 q0 q1 q2 q3 q4 q5 q6 q7 r0 r1 r2 r3 r4 r5 r6 r7 t0 t1 t2 t3 t4 t5 t6 t7
    all_goals (go_wp2_with (first
      | (refine wpList_load_ar rfl 188 (.tmp 3) rfl b1 rfl _ _ 8 103 A8 Tryz.underlying188 Tryz.szW ?_)
      | (go_at_call 142; refine (laid_any [y0, y1, y2, y3, y4, y5, y6, y7] _ rfl).mono ?_; rintro ee w9 ⟨ao9, m9, c9, rfl, R9, K9⟩)))
    all_goals go_ret
    all_goals exact ⟨ao9, m9, c9, rfl, unhide HR _ _ _ _ (owns_rebase R9 (fun k hk => Nat.le_trans KW.size (R9.own k hk))), KW.trans K9⟩
end Go.Proofs.YtillhpgdlmeajaaGreatDoor

/-
  The contract of the program's Hex.
-/
namespace Go.Proofs.YtillhpgdlmeajaaGreatDoor
open Go.RowKit

/-- append at a step of a region that draws its order. -/
theorem step_append_row {w : World} {ops : Array Oper} {o : Oper} {a : Act} {K : Act → World → Prop} {Q : Exit → Act → World → Prop} {E : Prop} (hgd : o.guard = none) (s x : Operand)
    (ho : o.op = .call { callee := .builtin .append, args := #[s, x], argTypes := #[22, 22] }) (base : Nat) (v : Value) (bs : List Int) (hs : a.eval s = v) (hrow : Row w base v bs)
    (vx : Value) (cs : List Int) (hx : a.eval x = vx) (hS : Sl w vx cs) (hb : bs.length + cs.length ≤ 140737488355328) (hbase : base ≤ w.heap.size)
    (h : ∀ ao m c w', Row w' base (.slice ao m c) (bs ++ cs) → RStep w v w' (.slice ao m c) → K (a.put o.dst (.slice ao m c)) w') :
    if Region.wanted o (yielded ops a.tmps) = true then Oper.wp Tryz.prog o a w K Q else E := by
  have hw : Region.wanted o (yielded ops a.tmps) = true := by simp [Region.wanted, hgd]
  rw [if_pos hw]
  obtain ⟨i0, hi0, hz0, hz1, hz2⟩ := info_parts Tryz.info5
  obtain ⟨av, cv, rfl⟩ := hrow.shape
  obtain ⟨ax, cx, rfl, h1, h2, h3, h4⟩ := hS
  cases ax with
  | none =>
    have : cs = [] := List.eq_nil_of_length_eq_zero (by have := h3 rfl; omega)
    subst this
    obtain rfl := h3 rfl
    have hrun := run_append_owned_none (P := Tryz.prog) (w := w) base 22 o.type 5 i0 1 Tryz.underlying22 hi0 _ _ _ hrow
    have hK := h av bs.length cv w
    simp only [List.append_nil] at hK
    unfold Oper.wp
    simp [execOp, ho, resolve, invoke, builtin, hs, hx, hrun, Result.andThen]
    exact hK hrow (RStep.refl _ _)
  | some a' =>
    obtain ⟨v', w1, hr, hown1, hgrow, _, hat⟩ := run_append_own_at (P := Tryz.prog) w base 22 o.type 5 i0 (.int .u8 0) 1 1 Tryz.underlying22 hi0 hz0 hz1 hz2 rfl (by decide) _ bs.length (bs.map (Value.int .u8)) hrow a' cs.length cx (cs.map (Value.int .u8)) (by simp) (h4 a' rfl) (by simp [Value.oneCell']) (by unfold maxLen; omega) (by omega) hbase
    have R := row_step (new := cs) (Kp.refl [] w) hown1 hgrow hat
    obtain ⟨ao', c', hv⟩ := R.1.shape
    subst hv
    have hK := h ao' _ c' w1 R.1 R.2
    unfold Oper.wp execOp
    simp only [ho, resolve, invoke, builtin, Sem.run_bind, Sem.run_pure, Result.andThen_ok, List.map_toArray, List.map_cons, List.map_nil, hs, hx, hr]
    exact hK


def digs : ByteArray := ⟨#[48, 49, 50, 51, 52, 53, 54, 55, 56, 57, 97, 98, 99, 100, 101, 102]⟩
/-- The sign of a half byte. -/
def sg (i : Int) : Int := (digs.data.getD i.toNat 0).toNat
def hexs (bs : List Int) : List Int := bs.flatMap fun x => [sg (x / 16), sg (x % 16)]
theorem hexs_snoc (bs : List Int) (k : Nat) (hk : k < bs.length) : hexs (bs.take (k + 1)) = hexs (bs.take k) ++ [sg (bs.getD k 0 / 16), sg (bs.getD k 0 % 16)] := by
  unfold hexs
  rw [List.take_succ_eq_append_getElem hk, List.flatMap_append]
  simp [List.getElem?_eq_getElem hk]
theorem hexs_len (bs : List Int) : (hexs bs).length = 2 * bs.length := by
  unfold hexs
  induction bs with
  | nil => rfl
  | cons a s ih => simp only [List.flatMap_cons, List.length_append, ih, List.length_cons, List.length_nil]; omega
theorem sg_eq (i : Int) (h : i.toNat < digs.size) : ((digs[i.toNat]'h).toNat : Int) = sg i := by
  have e : digs.data.getD i.toNat 0 = digs[i.toNat]'h := by
    have h' : i.toNat < digs.data.size := h
    rw [Array.getD_eq_getD_getElem?, Array.getElem?_eq_getElem h']
    rfl
  unfold sg
  rw [e]
theorem and15 (x : Int) (h0 : 0 ≤ x) (h1 : x ≤ 255) : bits .and .u8 x 15 = x % 16 := by
  obtain ⟨m, rfl⟩ := Int.eq_ofNat_of_zero_le h0
  have h : ∀ m ∈ List.range 256, bits .and .u8 (m : Int) 15 = (m : Int) % 16 := by decide +kernel
  exact h m (by simp; omega)

end Go.Proofs.YtillhpgdlmeajaaGreatDoor
