/-
  The contracts of the reference's body and Body of a checkpoint.
-/
import Derived.Test.YtillhpgdlmeajaaGreatDoorKXSmalls
import Derived.Test.YtillhpgdlmeajaaGreatDoorKLMarks
import Derived.Test.YtillhpgdlmeajaaGreatDoorKSWire
import Derived.Test.YtillhpgdlmeajaaGreatDoorKLSmalls
import Derived.Deep.RegionHeld3
namespace Go.Proofs.YtillhpgdlmeajaaGreatDoor
open Go.RowKit
open Go.Proofs

set_option maxHeartbeats 400000 in
theorem refnum_m (v : Value) (bs : List Int) (n : Int) (base : Nat) (w : World) (h : RowM w base v bs) (hbase : base ≤ w.heap.size) (hb : bs.length ≤ 100000000000) :
    Calls Tryz.prog 49 #[v, .int .u32 n] w fun e w' => ∃ ao m c, e = .returned (.slice ao m c) ∧ RowM w' base (.slice ao m c) (bs ++ be4 n) ∧ RStep w v w' (.slice ao m c) := by
  obtain ⟨cs, hcs⟩ : ∃ cs, cs = be4 n := ⟨_, rfl⟩
  have hl : cs.length = 4 := by rw [hcs]; rfl
  have hsl : Sl (w.alloc (.cells #[.int .u8 (n / 16777216 % 256), .int .u8 (n / 65536 % 256), .int .u8 (n / 256 % 256), .int .u8 (n % 256)] 5)) (.slice (some ⟨w.heap.size, 0, none⟩) 4 4) cs := by
    rw [hcs]; exact Sl.block (cs := [n / 16777216 % 256, n / 65536 % 256, n / 256 % 256, n % 256]) (t := 5) (heap_alloc_new w _) (by simp [maxLen])
  rw [← hcs]
  clear hcs
  go_enter Tryz.func49, Tryz.ntmps49
  go_wp2_with (at_builtin; refine wpList_append_m rfl _ _ rfl base v bs rfl (h.kept ((Kp.refl [] w).alloc _) (by simp)) _ cs rfl hsl (by omega) (by simp; omega) ?_; intro ao m c w1 r1 s1)
  go_ret
  exact ⟨ao, m, c, rfl, r1, s1.after ((Kp.refl [] w).alloc _)⟩
theorem step_callX {P : Program} {ops : Array Oper} {o : Oper} {a : Act} {w : World} {K : Act → World → Prop} {Q : Exit → Act → World → Prop} {E : Prop} {f : FuncId} {fn : Func} {xs : Array Operand} {ats : Array TypeId} (hgd : o.guard = none) (ho : o.op = .call { callee := .value (.func f), args := xs, argTypes := ats }) (hf : P.funcs[f]? = some fn) (hn : (fn.name == "runtime.NumGoroutine") = false) (hb : fn.body.isNone = false)
    (h : Calls P f (xs.map a.eval) w fun e w' => ∃ v, e = .returned v ∧ K (a.put o.dst v) w') : if Region.wanted o (yielded ops a.tmps) = true then Oper.wp P o a w K Q else E := by
  have hw : Region.wanted o (yielded ops a.tmps) = true := by simp [Region.wanted, hgd]
  rw [if_pos hw]
  have e : (execOp a.eval o).run P w = .ok (.enter f (xs.map a.eval)) w := by
    obtain ⟨dst, op, ty, pos, after, guard⟩ := o
    simp only at ho
    subst ho
    rw [execOp_call_go]
    have h1 : fn.name ≠ "runtime.NumGoroutine" := by simpa using hn
    have h2 : ¬ fn.body = none := by intro h2; rw [h2] at hb; cases hb
    simp [callFunc, hf, h1, h2]
  unfold Oper.wp
  rw [e]
  simp only [Oper.upon]
  refine h.mono ?_
  rintro e' w' ⟨v, rfl, hv⟩
  exact hv

set_option maxRecDepth 100000 in
set_option maxHeartbeats 4000000 in
theorem refbody_any (S : ByteArray) (L : List Int) (hL : L = nums S) (hz : S.size ≤ 100) (vc : Value) (n : Int) (r B : List Int) (hB : B = if rgtC n r then L ++ (be4 n ++ r) else []) (w : World) (hC : CkV w vc n r) :
    Calls Tryz.prog 120 #[.string S, vc] w fun e w' => ∃ ao m c, e = .returned (.slice ao m c) ∧ Sl w' (.slice ao m c) B ∧ Kp [] w w' := by
  have HC := hide hC
  obtain ⟨a, m, c, rfl, -, -⟩ := hC
  obtain ⟨g0, hg0⟩ : ∃ g, g = w.heap.size := ⟨_, rfl⟩
  obtain ⟨w1, hw1⟩ : ∃ w1, w1 = w.alloc (.cells #[.int .i64 n, .slice a m c] 68) := ⟨_, rfl⟩
  have K1 : Kp [] w w1 := by rw [hw1]; exact (Kp.refl [] w).alloc _
  have G1 : w1.heap[g0]? = some (.cells #[.int .i64 n, .slice a m c] 68 (0, 0)) := by rw [hw1, hg0]; exact heap_alloc_new w _
  obtain ⟨b, hb⟩ : ∃ b, b = rgtC n r := ⟨_, rfl⟩
  have hl1 := load_whole (T := 68) G1 Tryz.underlying68 rfl Tryz.chkSize
  have HR := hide (rckright_any _ n r b hb w1 ((unhide HC).kept K1))
  rw [hw1, hg0] at hl1
  have HK1 := hide K1
  have HG1 := hide G1
  have HW1 := hide hw1
  have HG0 := hide hg0
  have HBB := hide hB
  have Hb := hide hb
  have HL := hide hL
  have HZ := hide hz
  clear hw1 K1 G1 hB hb hL hz hg0
  cases b
  · go_enter Tryz.func120, Tryz.ntmps120
    go_wp2_with fail
    rw [← unhide HW1]
    refine (unhide HR).mono ?_
    rintro ee w2 ⟨rfl, K2⟩
    have HK2 := hide ((unhide HK1).trans K2)
    clear K2 HR hl1
    go_wp2_with fail
    go_ret
    exact ⟨none, 0, 0, rfl, by rw [unhide HBB, ← unhide Hb]; exact Sl.nil _, unhide HK2⟩
  · have hq := (rgtC_iff n r).1 (unhide Hb).symm
    have hwrap : IntKind.u32.wrap n = n := by simp [IntKind.wrap, IntKind.signed, IntKind.bits]; omega
    have HQ := hide hq
    clear hq
    go_enter Tryz.func120, Tryz.ntmps120
    go_wp2_with fail
    rw [← unhide HW1]
    refine (unhide HR).mono ?_
    rintro ee w2 ⟨rfl, K2⟩
    have HK2 := hide ((unhide HK1).trans K2)
    have HG2 := hide (K2.heap (unhide HG1) (by simp))
    have hc0 : w2.cell? ⟨g0, 0, none⟩ = some (.int .i64 n) := by rw [cell_of_row w2 g0 0 _ _ _ (unhide HG2)]; rfl
    have hc1 : w2.cell? ⟨g0, 1, none⟩ = some (.slice a m c) := by rw [cell_of_row w2 g0 1 _ _ _ (unhide HG2)]; rfl
    have hgs : g0 < w2.heap.size := lt_of_block (unhide HG2)
    have hNA : Hid (∀ W, Kp [] w W → Sl W (.slice a m c) r) := fun W k => by
      obtain ⟨a', m', c', e, h1, _⟩ := (unhide HC).kept k
      simp only [Value.agg.injEq, Array.mk.injEq, List.cons.injEq, and_true, true_and] at e
      rw [e]
      exact h1
    have hsz : Hid ((nums S).length ≤ 100) := by show (nums S).length ≤ 100; rw [nums_len]; exact unhide HZ
    have HKD := hide ((unhide HK2).trans (kp_drew w2))
    obtain ⟨c3, w3, hcv, R3, K3⟩ := conv_m S w2.drew (by have := unhide HZ; omega)
    obtain ⟨m3, hm3⟩ : ∃ m, m = S.size := ⟨_, rfl⟩
    rw [← hm3] at hcv R3
    rw [show w2.drew.heap.size = w2.heap.size from rfl] at hcv R3
    rw [← unhide HG0]
    have hk0 : w3.cell? ⟨g0, 0, none⟩ = some (.int .i64 n) := K3.cell hc0 (by simp)
    have hk1 : w3.cell? ⟨g0, 1, none⟩ = some (.slice a m c) := K3.cell hc1 (by simp)
    clear K2 HR hl1 hm3
    go_wp2_with fail
    go_region_law (first
        | (refine step_callX (by rfl) (by rfl) Tryz.func49 (by kernel_rfl) (by kernel_rfl) ?_; simp only [List.map_toArray, List.map_cons, List.map_nil]; refine (refnum_m _ (nums S) n _ w3 R3 K3.size (by have : (nums S).length ≤ 100 := unhide hsz; omega)).mono ?_; rintro ee w4 ⟨a4, m4, c4, rfl, R4, S4⟩; refine ⟨_, rfl, ?_⟩; have hd1 : w4.cell? ⟨g0, 1, none⟩ = some (.slice a m c) := S4.1.cell hk1 (fun hm => by have := (R3.own g0 (by simpa using hm)).1; omega))
        | (refine step_append_m (by rfl) (.tmp 13) (.tmp 15) (by rfl) _ _ _ (by rfl) R4 _ r (by rfl) (unhide hNA w4 (((unhide HKD).trans K3).then S4.1 (fun i hi => .inr (by have := (R3.own i (by simpa using hi)).1; have := (unhide HK2).size; omega)))) (by have : (nums S).length ≤ 100 := unhide hsz; have := (unhide HQ).2; rw [List.length_append, be4_len]; omega) (Nat.le_trans K3.size S4.1.size) ?_; intro a5 m5 c5 w5 R5 S5))
    all_goals
     go_wp2_with fail
     go_ret
     have K4 : Kp [] w w4 := ((unhide HKD).trans K3).then S4.1 (fun i hi => .inr (by have := (R3.own i (by simpa using hi)).1; have := (unhide HK2).size; omega))
     have K5 : Kp [] w w5 := K4.then S5.1 (fun i hi => .inr (by have := (R4.own i (by simpa using hi)).1; have := (unhide HK2).size; omega))
     refine ⟨a5, m5, c5, rfl, ?_, K5⟩
     have := R5.sl
     rw [unhide HBB, ← unhide Hb, if_pos rfl, unhide HL, ← List.append_assoc]
     exact this

theorem letC_nums : letC = nums ⟨#[98, 114, 111, 97, 100, 115, 104, 101, 101, 116, 32, 99, 104, 101, 99, 107]⟩ := by decide
set_option maxRecDepth 100000 in
set_option maxHeartbeats 1000000 in
theorem rckbody_any (vc : Value) (n : Int) (r B : List Int) (hB : B = bodC n r) (w : World) (hC : CkV w vc n r) :
    Calls Tryz.prog 83 #[vc] w fun e w' => ∃ ao m c, e = .returned (.slice ao m c) ∧ Sl w' (.slice ao m c) B ∧ Kp [] w w' := by
  have HC := hide hC
  obtain ⟨a, m, c, rfl, -, -⟩ := hC
  obtain ⟨w1, hw1⟩ : ∃ w1, w1 = w.alloc (.cells #[.int .i64 n, .slice a m c] 68) := ⟨_, rfl⟩
  have K1 : Kp [] w w1 := by rw [hw1]; exact (Kp.refl [] w).alloc _
  have G1 : w1.heap[w.heap.size]? = some (.cells #[.int .i64 n, .slice a m c] 68 (0, 0)) := by rw [hw1]; exact heap_alloc_new w _
  have hl1 := load_whole (T := 68) G1 Tryz.underlying68 rfl Tryz.chkSize
  have HD := hide (refbody_any ⟨#[98, 114, 111, 97, 100, 115, 104, 101, 101, 116, 32, 99, 104, 101, 99, 107]⟩ letC letC_nums (by decide) _ n r B hB w1 ((unhide HC).kept K1))
  rw [hw1] at hl1
  have HK1 := hide K1
  have HW1 := hide hw1
  clear hw1 K1 G1 hB
  go_enter Tryz.func83, Tryz.ntmps83
  go_wp2_with fail
  rw [← unhide HW1]
  refine (unhide HD).mono ?_
  rintro ee w2 ⟨a2, m2, c2, rfl, S2, K2⟩
  have HK2 := hide ((unhide HK1).trans K2)
  have HS2 := hide S2
  clear K2 S2 HD hl1
  go_wp2_with fail
  go_ret
  exact ⟨a2, m2, c2, rfl, unhide HS2, unhide HK2⟩
end Go.Proofs.YtillhpgdlmeajaaGreatDoor
