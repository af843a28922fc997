/-
  The contracts of package check's write and Body.
-/
import Derived.Test.YtillhpgdlmeajaaGreatDoorKXSmalls
import Derived.Test.YtillhpgdlmeajaaGreatDoorKXSpec
import Derived.Test.YtillhpgdlmeajaaGreatDoorKXVlt
import Derived.Lib.SlBytesConst
import Derived.Test.YtillhpgdlmeajaaGreatDoorKSRefReader
import Derived.Test.YtillhpgdlmeajaaGreatDoorKSWire
import Derived.Test.YtillhpgdlmeajaaGreatDoorKXSig
import Derived.Test.YtillhpgdlmeajaaGreatDoorKSSign
namespace Go.Proofs.YtillhpgdlmeajaaGreatDoor
open Go.RowKit
open Go.Proofs

set_option maxRecDepth 100000 in
set_option maxHeartbeats 1000000 in
theorem ckwrite_any (p : Nat) (v : Value) (bs : List Int) (vc : Value) (n : Int) (r : List Int) (w : World) (hw : Wr w p v bs) (hC : CkV w vc n r) (hk : ∀ w1, Kp (p :: v.ownBlock.toList) w w1 → CkV w1 vc n r) (hr : rgtC n r = true) (hb : bs.length ≤ 1000000) :
    Calls Tryz.prog 167 #[.pointer (some ⟨p, 0, none⟩), vc] w fun e w' => e = .returned (.tuple #[]) ∧ ∃ v', Wr w' p v' (bs ++ (be4 n ++ r)) ∧ Step p w v w' v' := by
  obtain ⟨a, m, c, rfl, -, -⟩ := hC
  obtain ⟨⟨h0, h1⟩, hl⟩ := (rgtC_iff n r).1 hr
  obtain ⟨w1, hw1⟩ : ∃ w1, w1 = w.alloc (.cells #[.int .i64 n, .slice a m c] 68) := ⟨_, rfl⟩
  have K1 : Kp [] w w1 := by rw [hw1]; exact (Kp.refl [] w).alloc _
  have G1 : w1.heap[w.heap.size]? = some (.cells #[.int .i64 n, .slice a m c] 68 (0, 0)) := by rw [hw1]; exact heap_alloc_new w _
  have HN := hide (num_any p n v bs w1 (hw.kept K1 (by simp) (by simp)) (by omega))
  have hwrap : IntKind.u32.wrap n = n := by simp [IntKind.wrap, IntKind.signed, IntKind.bits]; omega
  have HP := hide hw.lt
  have HV := hide hw.vlt
  have HK := hide hk
  have HK1 := hide K1
  have HG1 := hide G1
  have HW1 := hide hw1
  have HL := hide hl
  have HBL := hide hb
  clear hw1 K1 G1 hw hk hr hl hb
  go_enter Tryz.func167, Tryz.ntmps167
  go_wp2_with fail
  rw [← unhide HW1]
  refine (unhide HN).mono ?_
  rintro ee w2 ⟨rfl, v2, W2, S2⟩
  have hni : w.heap.size ∉ p :: v.ownBlock.toList := by
    intro hm
    simp only [List.mem_cons, Option.mem_toList] at hm
    rcases hm with e | e
    · have := unhide HP; omega
    · have := unhide HV _ e; omega
  have G2 := S2.1.heap (unhide HG1) hni
  have e1 : w2.cell? ⟨w.heap.size, 1, none⟩ = some (.slice a m c) := by rw [cell_of_row w2 w.heap.size 1 _ _ _ G2]; rfl
  have K2 : Kp (p :: v.ownBlock.toList) w w2 := ((unhide HK1).mono (by simp)).trans S2.1
  have HR := hide (raw_any p v2 _ (.slice a m c) r w2 W2 (unhide HK w2 K2).sl (by have := unhide HL; have := unhide HBL; rw [List.length_append, be_length]; omega))
  have HS2 : Hid (Step p w v w2 v2) := ⟨K2, fun k hk => (S2.2 k hk).elim .inl (fun h => .inr (Nat.le_trans (unhide HK1).size h))⟩
  clear HN W2 S2 hni G2 K2
  go_wp2_with fail
  refine (unhide HR).mono ?_
  rintro ee w3 ⟨rfl, v3, W3, S3⟩
  have HW3 := hide W3
  have HS3 := hide S3
  clear W3 S3 HR
  go_wp2_with fail
  go_end0
  refine ⟨rfl, v3, ?_, (unhide HS2).trans (unhide HS3)⟩
  have := unhide HW3
  rw [be_4, List.append_assoc] at this
  exact this

set_option maxRecDepth 100000 in
set_option maxHeartbeats 1000000 in
theorem ckbody_any (vc : Value) (n : Int) (r B : List Int) (hB : B = bodC n r) (w : World) (hC : CkV w vc n r) :
    Calls Tryz.prog 148 #[vc] w fun e w' => ∃ ao m c, e = .returned (.slice ao m c) ∧ Sl w' (.slice ao m c) B ∧ Kp [] w w' := by
  have HC := hide hC
  obtain ⟨a, m, c, rfl, -, -⟩ := hC
  obtain ⟨w1, hw1⟩ : ∃ w1, w1 = w.alloc (.cells #[.int .i64 n, .slice a m c] 68) := ⟨_, rfl⟩
  have K1 : Kp [] w w1 := by rw [hw1]; exact (Kp.refl [] w).alloc _
  have G1 : w1.heap[w.heap.size]? = some (.cells #[.int .i64 n, .slice a m c] 68 (0, 0)) := by rw [hw1]; exact heap_alloc_new w _
  obtain ⟨b, hb⟩ : ∃ b, b = rgtC n r := ⟨_, rfl⟩
  have hl1 := load_whole (T := 68) G1 Tryz.underlying68 rfl Tryz.chkSize
  have HR := hide (ckright_any _ n r b hb w1 ((unhide HC).kept K1))
  rw [hw1] at hl1
  have HK1 := hide K1
  have HG1 := hide G1
  have HW1 := hide hw1
  have HBB := hide hB
  have Hb := hide hb
  clear hw1 K1 G1 hB hb
  cases b
  · go_enter Tryz.func148, Tryz.ntmps148
    go_wp2_with fail
    rw [← unhide HW1]
    refine (unhide HR).mono ?_
    rintro ee w2 ⟨rfl, K2⟩
    have HK2 := hide ((unhide HK1).trans K2)
    clear K2 HR hl1
    go_wp2_with fail
    go_ret
    exact ⟨none, 0, 0, rfl, by rw [unhide HBB, bodC_no (unhide Hb).symm]; exact Sl.nil _, unhide HK2⟩
  · go_enter Tryz.func148, Tryz.ntmps148
    go_wp2_with fail
    rw [← unhide HW1]
    refine (unhide HR).mono ?_
    rintro ee w2 ⟨rfl, K2⟩
    have HK2 := hide ((unhide HK1).trans K2)
    have HG2 := hide (K2.heap (unhide HG1) (by simp))
    clear K2 HR hl1
    go_wp2_with fail
    refine (new_abs w2).mono ?_
    rintro ee w3 ⟨p, rfl, W3, hp3, K3⟩
    obtain ⟨ol, hol⟩ : ∃ o : Array Value, o = #[.int .u8 98, .int .u8 114, .int .u8 111, .int .u8 97, .int .u8 100, .int .u8 115, .int .u8 104, .int .u8 101, .int .u8 101, .int .u8 116, .int .u8 32, .int .u8 99, .int .u8 104, .int .u8 101, .int .u8 99, .int .u8 107] := ⟨_, rfl⟩
    obtain ⟨w4, hw4⟩ : ∃ w4, w4 = w3.alloc (.cells ol 5 (16, 17)) := ⟨_, rfl⟩
    have K4 : Kp [] w3 w4 := by rw [hw4]; exact (Kp.refl [] w3).alloc _
    have S4 : Sl w4 (.slice (some ⟨w3.heap.size, 0, none⟩) 16 16) letC := by
      rw [hw4, hol]
      exact Sl.block (cs := letC) (t := 5) (fr := (16, 17)) (heap_alloc_new w3 _) (by simp [maxLen, letC])
    have HRw := hide (raw_any p _ [] (.slice (some ⟨w3.heap.size, 0, none⟩) 16 16) letC w4 (W3.kept K4 (by simp) (by simp)) S4 (by simp [letC]))
    have HW3 : Hid (Wn w2 w4 p (.slice none 0 0) []) := Wn.kept ⟨W3, K3, hp3, fun k hk => by cases hk⟩ K4
    rw [hol] at hw4
    have HW4 := hide hw4
    have kc := Lib.run_convert_bytes_const (P := Tryz.prog) w3 22 5 #[.int .u8 98, .int .u8 114, .int .u8 111, .int .u8 97, .int .u8 100, .int .u8 115, .int .u8 104, .int .u8 101, .int .u8 101, .int .u8 116, .int .u8 32, .int .u8 99, .int .u8 104, .int .u8 101, .int .u8 99, .int .u8 107] 16 16 Tryz.underlying22 Tryz.underlying5
    simp only [List.size_toArray, List.length_cons, List.length_nil, Nat.zero_add, Nat.reduceAdd] at kc
    clear W3 K3 hp3 hol K4 S4 hw4
    go_wp2_with fail
    rw [← unhide HW4]
    refine (unhide HRw).mono ?_
    rintro ee w5 ⟨rfl, v5, W5, S5⟩
    have HW5 := hide ((unhide HW3).step W5 S5)
    rw [List.nil_append] at HW5
    have G5 := (unhide HW5).2.1.heap (unhide HG2) (by simp)
    have e0 : w5.cell? ⟨w.heap.size, 0, none⟩ = some (.int .i64 n) := by rw [cell_of_row w5 w.heap.size 0 _ _ _ G5]; rfl
    have e1 : w5.cell? ⟨w.heap.size, 1, none⟩ = some (.slice a m c) := by rw [cell_of_row w5 w.heap.size 1 _ _ _ G5]; rfl
    have C5 := ((unhide HC).kept (unhide HK2)).kept (unhide HW5).2.1
    have HWr := hide (ckwrite_any p v5 letC _ n r w5 (unhide HW5).1 C5 (fun w' k' => ((unhide HC).kept (unhide HK2)).kept ((unhide HW5).kp k')) (unhide Hb).symm (by simp [letC]))
    clear W5 S5 HRw HW4 kc C5 G5
    go_wp2_with fail
    refine (unhide HWr).mono ?_
    rintro ee w6 ⟨rfl, v6, W6, S6⟩
    have HW6 := hide ((unhide HW5).step W6 S6)
    rw [← bodC_yes (unhide Hb).symm, ← unhide HBB] at HW6
    have HD := hide (done_any p v6 _ w6 (unhide HW6).1 (by rw [unhide HBB]; have := bodC_le n r; omega))
    obtain ⟨mB, hmB⟩ : ∃ k, k = B.length := ⟨_, rfl⟩
    rw [← hmB] at HD
    clear W6 S6 HWr e0 e1 hmB
    go_wp2_with fail
    refine (unhide HD).mono ?_
    rintro ee w7 ⟨a7, c7, rfl, R7, K7⟩
    have HS7 := hide (Sl.of_owns R7)
    have HK7 := hide (((unhide HK2).trans (unhide HW6).2.1).trans K7)
    clear R7 K7 HD
    go_wp2_with fail
    go_ret
    exact ⟨a7, mB, c7, rfl, unhide HS7, unhide HK7⟩
end Go.Proofs.YtillhpgdlmeajaaGreatDoor

/-
  The contract of package check's copyOf.
-/
namespace Go.Proofs.YtillhpgdlmeajaaGreatDoor
open Go.RowKit
open Go.Proofs

set_option maxRecDepth 100000 in
set_option maxHeartbeats 1000000 in
theorem ckcopy_any (vc : Value) (n : Int) (r : List Int) (w : World) (hC : CkV w vc n r) (hl : r.length ≤ 1000) :
    Calls Tryz.prog 149 #[vc] w fun e w' => ∃ a m c, e = .returned (.agg #[.int .i64 n, .slice a m c]) ∧ Own w w' (.slice a m c) r ∧ Kp [] w w' := by
  obtain ⟨a, m, c, rfl, hS, -⟩ := hC
  obtain ⟨w2, hw2⟩ : ∃ w2, w2 = (w.alloc (.cells #[.int .i64 n, .slice a m c] 68)).alloc (.cells #[.int .i64 0, .slice none 0 0] 68) := ⟨_, rfl⟩
  obtain ⟨g1, hg1⟩ : ∃ g, g = w.heap.size := ⟨_, rfl⟩
  obtain ⟨g2, hg2⟩ : ∃ g, g = w.heap.size + 1 := ⟨_, rfl⟩
  have K2 : Kp [] w w2 := by rw [hw2]; exact ((Kp.refl [] w).alloc _).alloc _
  have G1 : w2.heap[g1]? = some (.cells #[.int .i64 n, .slice a m c] 68 (0, 0)) := by rw [hw2, hg1]; exact heap_alloc2_old w _ _
  have G2 : w2.heap[g2]? = some (.cells #[.int .i64 0, .slice none 0 0] 68 (0, 0)) := by rw [hw2, hg2]; exact heap_alloc2_new w _ _
  have c0 : w2.cell? ⟨g1, 0, none⟩ = some (.int .i64 n) := by rw [cell_of_row w2 g1 0 _ _ _ G1]; rfl
  have c1 : w2.cell? ⟨g1, 1, none⟩ = some (.slice a m c) := by rw [cell_of_row w2 g1 1 _ _ _ G1]; rfl
  have hs2 : Sl w2.drew (.slice a m c) r := (hS.kept K2 (by simp)).kept (kp_drew w2) (by simp)
  have hg2lt : g2 < w2.heap.size := lt_of_block G2
  have hR0 : Row w2.drew w2.heap.size (.slice none 0 0) [] := ⟨rfl, .inl ⟨rfl, rfl⟩⟩
  have HK2 := hide K2
  have HG2 := hide G2
  have HW2 := hide hw2
  have H1 := hide hg1
  have H2 := hide hg2
  have HL := hide hl
  clear hS K2 G1 G2 hw2 hg1 hg2 hl
  go_enter Tryz.func149, Tryz.ntmps149
  go_wp2_with fail
  rw [← unhide HW2, ← unhide H2, ← unhide H1]
  go_region_law (first
    | (refine step_append_row (by rfl) (.const (.slice none 0 0)) (.tmp 6) (by rfl) w2.heap.size (.slice none 0 0) [] (by rfl) hR0 (.slice a m c) r (by rfl) hs2 (by have := unhide HL; simp; omega) (Nat.le_refl _) ?_; intro a3 m3 c3 w3 R3 S3; have K3 : Kp [] w2 w3 := (kp_drew w2).trans (S3.1.mono (by simp [Value.ownBlock])); have G3 := K3.heap (unhide HG2) (by simp); have d0 : w3.cell? ⟨g1, 0, none⟩ = some (.int .i64 n) := K3.cell c0 (by simp); have d1 : w3.cell? ⟨g1, 1, none⟩ = some (.slice a m c) := K3.cell c1 (by simp); have G4 := heap_setCell_same w3 g2 0 _ _ (.int .i64 n) G3; have f0 : w3.cell? ⟨g2, 0, none⟩ = some (.int .i64 0) := (by rw [cell_of_row w3 g2 0 _ _ _ G3]; rfl); have z0 : w3.frozen? ⟨g2, 0, none⟩ = false := frozen_of_row w3 g2 0 _ _ G3; have f1 : (w3.setCell ⟨g2, 0, none⟩ (.int .i64 n)).cell? ⟨g2, 1, none⟩ = some (.slice none 0 0) := (by rw [cell_of_row _ g2 1 _ _ _ G4]; rfl); have z1 : (w3.setCell ⟨g2, 0, none⟩ (.int .i64 n)).frozen? ⟨g2, 1, none⟩ = false := frozen_of_row _ g2 1 _ _ G4))
  all_goals
   rw [List.nil_append] at R3
   have hown := R3.own
   have G5 := heap_setCell_same (w3.setCell ⟨g2, 0, none⟩ (.int .i64 n)) g2 1 _ _ (.slice a3 m3 c3) G4
   have G6 : ((w3.setCell ⟨g2, 0, none⟩ (.int .i64 n)).setCell ⟨g2, 1, none⟩ (.slice a3 m3 c3)).heap[g2]? = some (.cells #[.int .i64 n, .slice a3 m3 c3] 68 (0, 0)) := by simpa using G5
   have K4 : Kp [g2] w3 ((w3.setCell ⟨g2, 0, none⟩ (.int .i64 n)).setCell ⟨g2, 1, none⟩ (.slice a3 m3 c3)) := (kp_fcell w3 g2 0 _).trans (kp_fcell _ g2 1 _)
   clear f0 z0 f1 z1 G5
   go_wp2_with fail
   refine bodyPost_ret (results_flat1 rfl _ rfl G6 Tryz.underlying68 rfl Tryz.chkSize) rfl ?_
   refine ⟨a3, m3, c3, rfl, ⟨R3.sl.kept K4 (fun i hi => ?_), fun k hk => ?_⟩, ((unhide HK2).trans K3).then K4 (fun i hi => .inr ?_)⟩
   · have := hown i hi; simp; omega
   · have := hown k hk; have := (unhide HK2).size; omega
   · simp at hi; have := unhide H2; omega
end Go.Proofs.YtillhpgdlmeajaaGreatDoor

/-
  The contract of package check's Sign.
-/
namespace Go.Proofs.YtillhpgdlmeajaaGreatDoor
open Go.RowKit
open Go.Proofs

/-- a checkpoint whose root lies from B on. -/
def CkO (B : Nat) (n : Int) (r : List Int) : Tell := fun v w => ∃ a m c, v = .agg #[.int .i64 n, .slice a m c] ∧ Sl w (.slice a m c) r ∧ ∀ k, (Value.slice a m c).ownBlock = some k → B ≤ k
theorem stable_cko (B : Nat) (n : Int) (r : List Int) : Tell.stable (CkO B n r) := fun _ _ _ k ⟨a, m, c, e, h1, h2⟩ => ⟨a, m, c, e, h1.kept k (by simp), h2⟩
def SgO (B : Nat) (n : Int) (r : List Int) (x y z : Value) : Tell := fun v w => ∃ a m c, v = .agg #[.int .i64 n, .slice a m c, x, y, z] ∧ Sl w (.slice a m c) r ∧ ∀ k, (Value.slice a m c).ownBlock = some k → B ≤ k
theorem stable_sgo (B : Nat) (n : Int) (r : List Int) (x y z : Value) : Tell.stable (SgO B n r x y z) := fun _ _ _ k ⟨a, m, c, e, h1, h2⟩ => ⟨a, m, c, e, h1.kept k (by simp), h2⟩
theorem grown_bsgo {o : Oper} {a : Act} {w : World} {B : Nat} {n : Int} {r : List Int} {i : Int} {ap aq : Option Addr} {np cp nq cq : Nat} (x0 x1 : Operand) (ho : o.op = .build 72 #[(0, x0), (1, x1)]) (h0 : CkO B n r (a.eval x0) w) (h1 : a.eval x1 = .agg #[.int .i64 i, .slice ap np cp, .slice aq nq cq]) :
    grown Tryz.prog w (SgO B n r (.int .i64 i) (.slice ap np cp) (.slice aq nq cq)) ((execOp a.eval o).run Tryz.prog w) := by
  obtain ⟨ar, mr, cr, e, h2, h3⟩ := h0
  refine grown_run (v := .agg #[.int .i64 n, .slice ar mr cr, .int .i64 i, .slice ap np cp, .slice aq nq cq]) ?_ (Kp.refl _ _) ⟨ar, mr, cr, rfl, h2, h3⟩
  obtain ⟨ρ, hρ, _⟩ := eval_is a
  rw [hρ] at e h1 ⊢
  unfold execOp
  simp only [ho]
  simp [go_sem, e, h1]

set_option maxRecDepth 100000 in
set_option maxHeartbeats 1000000 in
theorem cksign_no (vb : Value) (bs : List Int) (i : Int) (vc : Value) (n : Int) (r : List Int) (w : World) (hS : Sl w vb bs) (hC : CkV w vc n r) (hr : rgtC n r = false) :
    Calls Tryz.prog 116 #[vb, .int .i64 i, vc] w fun e w' => e = .returned (.tuple #[sgd0, .int .i64 12]) ∧ Kp [] w w' := by
  obtain ⟨ar, mr, cr, rfl, hSr, hBr⟩ := id hC
  have HS := hide hS
  obtain ⟨ab, cb, hvb, -⟩ := hS
  obtain ⟨nb, hnb⟩ : ∃ k, k = bs.length := ⟨_, rfl⟩
  rw [← hnb] at hvb
  subst hvb
  obtain ⟨w2, hw2⟩ : ∃ w2, w2 = (w.alloc (.cells #[.int .i64 n, .slice ar mr cr] 68)).alloc (.cells #[.int .i64 0, .slice none 0 0, .int .i64 0, .slice none 0 0, .slice none 0 0] 72) := ⟨_, rfl⟩
  obtain ⟨g1, hg1⟩ : ∃ g, g = w.heap.size := ⟨_, rfl⟩
  obtain ⟨g2, hg2⟩ : ∃ g, g = w.heap.size + 1 := ⟨_, rfl⟩
  have K2 : Kp [] w w2 := by rw [hw2]; exact ((Kp.refl [] w).alloc _).alloc _
  have G1 : w2.heap[g1]? = some (.cells #[.int .i64 n, .slice ar mr cr] 68 (0, 0)) := by rw [hw2, hg1]; exact heap_alloc2_old w _ _
  have G2 : w2.heap[g2]? = some (.cells #[.int .i64 0, .slice none 0 0, .int .i64 0, .slice none 0 0, .slice none 0 0] 72 (0, 0)) := by rw [hw2, hg2]; exact heap_alloc2_new w _ _
  have c0 : ((w.alloc (.cells #[.int .i64 n, .slice ar mr cr] 68)).alloc (.cells #[.int .i64 0, .slice none 0 0, .int .i64 0, .slice none 0 0, .slice none 0 0] 72)).cell? ⟨w.heap.size, 0, none⟩ = some (.int .i64 n) := by rw [← hw2, ← hg1, cell_of_row w2 g1 0 _ _ _ G1]; rfl
  have c1 : ((w.alloc (.cells #[.int .i64 n, .slice ar mr cr] 68)).alloc (.cells #[.int .i64 0, .slice none 0 0, .int .i64 0, .slice none 0 0, .slice none 0 0] 72)).cell? ⟨w.heap.size, 1, none⟩ = some (.slice ar mr cr) := by rw [← hw2, ← hg1, cell_of_row w2 g1 1 _ _ _ G1]; rfl
  have HCK0 : Hid (∀ w', Kp [] w w' → CkV w' (.agg #[.int .i64 n, .slice ar mr cr]) n r) := fun w' k' => hC.kept k'
  have HK2 := hide K2
  have HG1 := hide G1
  have HG2 := hide G2
  have HW2 := hide hw2
  have H1 := hide hg1
  have H2 := hide hg2
  have HBr := hide hBr
  have HR := hide (ckright_any _ n r false hr.symm w2 (hC.kept K2))
  have Hr := hide hr
  clear hSr hBr hC K2 G1 G2 hw2 hg1 hg2 hr hnb
  go_enter Tryz.func116, Tryz.ntmps116
  go_wp2_with fail
  rw [← unhide HW2, ← unhide H2, ← unhide H1]
  refine (unhide HR).mono ?_
  rintro ee w3 ⟨rfl, K3⟩
  have HK3 := hide ((unhide HK2).trans K3)
  have HG13 := hide (K3.heap (unhide HG1) (by simp))
  have G23 := K3.heap (unhide HG2) (by simp)
  clear HR c0 c1 HW2
  go_wp2_with (refine wpList_store_flat rfl 72 (.tmp 6) (.tmp 13) rfl g2 0 rfl _ _ [.int .i64 0, .slice none 0 0, .int .i64 0, .slice none 0 0, .slice none 0 0] G23 rfl (by simp) Tryz.sgdSize (by simp [Value.oneCell']) #[.int .i64 0, .slice none 0 0, .int .i64 0, .slice none 0 0, .slice none 0 0] rfl ?_; intro w4 G4 K4)
  refine bodyPost_ret (results_flat2 rfl _ rfl G4 Tryz.underlying72 rfl Tryz.sgdSize) rfl ?_
  exact ⟨rfl, (unhide HK3).then K4 (fun i hi => .inr (by simp at hi; have := unhide H2; omega))⟩

set_option maxRecDepth 100000 in
set_option maxHeartbeats 2000000 in
theorem cksign_used (vb : Value) (bs : List Int) (i : Int) (vc : Value) (n : Int) (r : List Int) (w : World) (hS : Sl w vb bs) (hl : bs.length = 32) (hi : ¬ (0 ≤ i ∧ i < 16)) (hC : CkV w vc n r) (hr : rgtC n r = true) :
    Calls Tryz.prog 116 #[vb, .int .i64 i, vc] w fun e w' => e = .returned (.tuple #[sgd0, .int .i64 23]) ∧ Kp [] w w' := by
  have HLB := hide hl
  have HI := hide hi
  clear hl hi
  obtain ⟨ar, mr, cr, rfl, hSr, hBr⟩ := id hC
  have HS := hide hS
  obtain ⟨ab, cb, hvb, -⟩ := hS
  obtain ⟨nb, hnb⟩ : ∃ k, k = bs.length := ⟨_, rfl⟩
  rw [← hnb] at hvb
  subst hvb
  obtain ⟨w2, hw2⟩ : ∃ w2, w2 = (w.alloc (.cells #[.int .i64 n, .slice ar mr cr] 68)).alloc (.cells #[.int .i64 0, .slice none 0 0, .int .i64 0, .slice none 0 0, .slice none 0 0] 72) := ⟨_, rfl⟩
  obtain ⟨g1, hg1⟩ : ∃ g, g = w.heap.size := ⟨_, rfl⟩
  obtain ⟨g2, hg2⟩ : ∃ g, g = w.heap.size + 1 := ⟨_, rfl⟩
  have K2 : Kp [] w w2 := by rw [hw2]; exact ((Kp.refl [] w).alloc _).alloc _
  have G1 : w2.heap[g1]? = some (.cells #[.int .i64 n, .slice ar mr cr] 68 (0, 0)) := by rw [hw2, hg1]; exact heap_alloc2_old w _ _
  have G2 : w2.heap[g2]? = some (.cells #[.int .i64 0, .slice none 0 0, .int .i64 0, .slice none 0 0, .slice none 0 0] 72 (0, 0)) := by rw [hw2, hg2]; exact heap_alloc2_new w _ _
  have c0 : ((w.alloc (.cells #[.int .i64 n, .slice ar mr cr] 68)).alloc (.cells #[.int .i64 0, .slice none 0 0, .int .i64 0, .slice none 0 0, .slice none 0 0] 72)).cell? ⟨w.heap.size, 0, none⟩ = some (.int .i64 n) := by rw [← hw2, ← hg1, cell_of_row w2 g1 0 _ _ _ G1]; rfl
  have c1 : ((w.alloc (.cells #[.int .i64 n, .slice ar mr cr] 68)).alloc (.cells #[.int .i64 0, .slice none 0 0, .int .i64 0, .slice none 0 0, .slice none 0 0] 72)).cell? ⟨w.heap.size, 1, none⟩ = some (.slice ar mr cr) := by rw [← hw2, ← hg1, cell_of_row w2 g1 1 _ _ _ G1]; rfl
  have HCK0 : Hid (∀ w', Kp [] w w' → CkV w' (.agg #[.int .i64 n, .slice ar mr cr]) n r) := fun w' k' => hC.kept k'
  have HK2 := hide K2
  have HG1 := hide G1
  have HG2 := hide G2
  have HW2 := hide hw2
  have H1 := hide hg1
  have H2 := hide hg2
  have HBr := hide hBr
  have HR := hide (ckright_any _ n r true hr.symm w2 (hC.kept K2))
  have Hr := hide hr
  clear hSr hBr hC K2 G1 G2 hw2 hg1 hg2 hr hnb
  go_enter Tryz.func116, Tryz.ntmps116
  go_wp2_with fail
  rw [← unhide HW2, ← unhide H2, ← unhide H1]
  refine (unhide HR).mono ?_
  rintro ee w3 ⟨rfl, K3⟩
  have HK3 := hide ((unhide HK2).trans K3)
  have HG13 := hide (K3.heap (unhide HG1) (by simp))
  have G23 := K3.heap (unhide HG2) (by simp)
  clear HR c0 c1 HW2
  have d0 : w3.cell? ⟨g1, 0, none⟩ = some (.int .i64 n) := by rw [cell_of_row w3 g1 0 _ _ _ (unhide HG13)]; rfl
  have d1 : w3.cell? ⟨g1, 1, none⟩ = some (.slice ar mr cr) := by rw [cell_of_row w3 g1 1 _ _ _ (unhide HG13)]; rfl
  have HBo := hide (ckbody_any _ n r _ rfl w3 (unhide HCK0 w3 (unhide HK3)))
  have HG23 := hide G23
  clear K3 HK2 G23
  go_wp2_with fail
  refine (unhide HBo).mono ?_
  rintro ee w4 ⟨a4, m4, c4, rfl, S4, K4⟩
  have HK4 := hide ((unhide HK3).trans K4)
  have HG24 := hide (K4.heap (unhide HG23) (by simp))
  have HSg := hide (ssign_used (.slice ab nb cb) bs i (.slice a4 m4 c4) w4 ((unhide HS).kept (unhide HK4) (by simp)) (unhide HLB) (unhide HI))
  clear HBo d0 d1 S4 K4 HG23 HK3
  go_wp2_with fail
  refine (unhide HSg).mono ?_
  rintro ee w5 ⟨rfl, K5⟩
  have HK5 := hide ((unhide HK4).trans K5)
  have G25 := K5.heap (unhide HG24) (by simp)
  have Ga := heap_alloc_new w5 (.cells #[.int .i64 0, .slice none 0 0, .slice none 0 0] 70)
  have HKa : Hid (Kp [] w5 (w5.alloc (.cells #[.int .i64 0, .slice none 0 0, .slice none 0 0] 70))) := (Kp.refl [] w5).alloc _
  clear HSg K5
  go_wp2_with (refine wpList_store_flat rfl 70 (.tmp 8) (.tmp 20) rfl w5.heap.size 0 rfl _ _ [.int .i64 0, .slice none 0 0, .slice none 0 0] Ga rfl (by simp) Tryz.sigSize (by simp [Value.oneCell']) #[.int .i64 0, .slice none 0 0, .slice none 0 0] rfl ?_; intro w6 G6 K6; refine Hid.out ?_)
  have K56 : Kp [] w5 w6 := (unhide HKa).then K6 (fun i hi => .inr (by simp at hi; omega))
  have G26 := K56.heap G25 (by simp)
  have HK6 := hide ((unhide HK5).trans K56)
  clear Ga HKa G6 K6 K56 G25
  refine hide ?_
  go_wp2_with (refine wpList_store_flat rfl 72 (.tmp 6) (.tmp 24) rfl g2 0 rfl _ _ [.int .i64 0, .slice none 0 0, .int .i64 0, .slice none 0 0, .slice none 0 0] G26 rfl (by simp) Tryz.sgdSize (by simp [Value.oneCell']) #[.int .i64 0, .slice none 0 0, .int .i64 0, .slice none 0 0, .slice none 0 0] rfl ?_; intro w7 G7 K7)
  refine bodyPost_ret (results_flat2 rfl _ rfl G7 Tryz.underlying72 rfl Tryz.sgdSize) rfl ?_
  exact ⟨rfl, (unhide HK6).then K7 (fun i hi => .inr (by simp at hi; have := unhide H2; omega))⟩

set_option maxRecDepth 100000 in
set_option maxHeartbeats 2000000 in
theorem cksign_arg (vb : Value) (bs : List Int) (i : Int) (vc : Value) (n : Int) (r : List Int) (w : World) (hS : Sl w vb bs) (hl : bs.length ≠ 32) (hC : CkV w vc n r) (hr : rgtC n r = true) :
    Calls Tryz.prog 116 #[vb, .int .i64 i, vc] w fun e w' => e = .returned (.tuple #[sgd0, .int .i64 1]) ∧ Kp [] w w' := by
  have HLB := hide hl
  clear hl
  obtain ⟨ar, mr, cr, rfl, hSr, hBr⟩ := id hC
  have HS := hide hS
  obtain ⟨ab, cb, hvb, -⟩ := hS
  obtain ⟨nb, hnb⟩ : ∃ k, k = bs.length := ⟨_, rfl⟩
  rw [← hnb] at hvb
  subst hvb
  obtain ⟨w2, hw2⟩ : ∃ w2, w2 = (w.alloc (.cells #[.int .i64 n, .slice ar mr cr] 68)).alloc (.cells #[.int .i64 0, .slice none 0 0, .int .i64 0, .slice none 0 0, .slice none 0 0] 72) := ⟨_, rfl⟩
  obtain ⟨g1, hg1⟩ : ∃ g, g = w.heap.size := ⟨_, rfl⟩
  obtain ⟨g2, hg2⟩ : ∃ g, g = w.heap.size + 1 := ⟨_, rfl⟩
  have K2 : Kp [] w w2 := by rw [hw2]; exact ((Kp.refl [] w).alloc _).alloc _
  have G1 : w2.heap[g1]? = some (.cells #[.int .i64 n, .slice ar mr cr] 68 (0, 0)) := by rw [hw2, hg1]; exact heap_alloc2_old w _ _
  have G2 : w2.heap[g2]? = some (.cells #[.int .i64 0, .slice none 0 0, .int .i64 0, .slice none 0 0, .slice none 0 0] 72 (0, 0)) := by rw [hw2, hg2]; exact heap_alloc2_new w _ _
  have c0 : ((w.alloc (.cells #[.int .i64 n, .slice ar mr cr] 68)).alloc (.cells #[.int .i64 0, .slice none 0 0, .int .i64 0, .slice none 0 0, .slice none 0 0] 72)).cell? ⟨w.heap.size, 0, none⟩ = some (.int .i64 n) := by rw [← hw2, ← hg1, cell_of_row w2 g1 0 _ _ _ G1]; rfl
  have c1 : ((w.alloc (.cells #[.int .i64 n, .slice ar mr cr] 68)).alloc (.cells #[.int .i64 0, .slice none 0 0, .int .i64 0, .slice none 0 0, .slice none 0 0] 72)).cell? ⟨w.heap.size, 1, none⟩ = some (.slice ar mr cr) := by rw [← hw2, ← hg1, cell_of_row w2 g1 1 _ _ _ G1]; rfl
  have HCK0 : Hid (∀ w', Kp [] w w' → CkV w' (.agg #[.int .i64 n, .slice ar mr cr]) n r) := fun w' k' => hC.kept k'
  have HK2 := hide K2
  have HG1 := hide G1
  have HG2 := hide G2
  have HW2 := hide hw2
  have H1 := hide hg1
  have H2 := hide hg2
  have HBr := hide hBr
  have HR := hide (ckright_any _ n r true hr.symm w2 (hC.kept K2))
  have Hr := hide hr
  clear hSr hBr hC K2 G1 G2 hw2 hg1 hg2 hr hnb
  go_enter Tryz.func116, Tryz.ntmps116
  go_wp2_with fail
  rw [← unhide HW2, ← unhide H2, ← unhide H1]
  refine (unhide HR).mono ?_
  rintro ee w3 ⟨rfl, K3⟩
  have HK3 := hide ((unhide HK2).trans K3)
  have HG13 := hide (K3.heap (unhide HG1) (by simp))
  have G23 := K3.heap (unhide HG2) (by simp)
  clear HR c0 c1 HW2
  have d0 : w3.cell? ⟨g1, 0, none⟩ = some (.int .i64 n) := by rw [cell_of_row w3 g1 0 _ _ _ (unhide HG13)]; rfl
  have d1 : w3.cell? ⟨g1, 1, none⟩ = some (.slice ar mr cr) := by rw [cell_of_row w3 g1 1 _ _ _ (unhide HG13)]; rfl
  have HBo := hide (ckbody_any _ n r _ rfl w3 (unhide HCK0 w3 (unhide HK3)))
  have HG23 := hide G23
  clear K3 HK2 G23
  go_wp2_with fail
  refine (unhide HBo).mono ?_
  rintro ee w4 ⟨a4, m4, c4, rfl, S4, K4⟩
  have HK4 := hide ((unhide HK3).trans K4)
  have HG24 := hide (K4.heap (unhide HG23) (by simp))
  have HSg := hide (ssign_arg (.slice ab nb cb) bs i (.slice a4 m4 c4) w4 ((unhide HS).kept (unhide HK4) (by simp)) (unhide HLB))
  clear HBo d0 d1 S4 K4 HG23 HK3
  go_wp2_with fail
  refine (unhide HSg).mono ?_
  rintro ee w5 ⟨rfl, K5⟩
  have HK5 := hide ((unhide HK4).trans K5)
  have G25 := K5.heap (unhide HG24) (by simp)
  have Ga := heap_alloc_new w5 (.cells #[.int .i64 0, .slice none 0 0, .slice none 0 0] 70)
  have HKa : Hid (Kp [] w5 (w5.alloc (.cells #[.int .i64 0, .slice none 0 0, .slice none 0 0] 70))) := (Kp.refl [] w5).alloc _
  clear HSg K5
  go_wp2_with (refine wpList_store_flat rfl 70 (.tmp 8) (.tmp 20) rfl w5.heap.size 0 rfl _ _ [.int .i64 0, .slice none 0 0, .slice none 0 0] Ga rfl (by simp) Tryz.sigSize (by simp [Value.oneCell']) #[.int .i64 0, .slice none 0 0, .slice none 0 0] rfl ?_; intro w6 G6 K6; refine Hid.out ?_)
  have K56 : Kp [] w5 w6 := (unhide HKa).then K6 (fun i hi => .inr (by simp at hi; omega))
  have G26 := K56.heap G25 (by simp)
  have HK6 := hide ((unhide HK5).trans K56)
  clear Ga HKa G6 K6 K56 G25
  refine hide ?_
  go_wp2_with (refine wpList_store_flat rfl 72 (.tmp 6) (.tmp 24) rfl g2 0 rfl _ _ [.int .i64 0, .slice none 0 0, .int .i64 0, .slice none 0 0, .slice none 0 0] G26 rfl (by simp) Tryz.sgdSize (by simp [Value.oneCell']) #[.int .i64 0, .slice none 0 0, .int .i64 0, .slice none 0 0, .slice none 0 0] rfl ?_; intro w7 G7 K7)
  refine bodyPost_ret (results_flat2 rfl _ rfl G7 Tryz.underlying72 rfl Tryz.sgdSize) rfl ?_
  exact ⟨rfl, (unhide HK6).then K7 (fun i hi => .inr (by simp at hi; have := unhide H2; omega))⟩

set_option maxRecDepth 100000 in
set_option maxHeartbeats 4000000 in
theorem cksign_okA (vb : Value) (bs : List Int) (i : Nat) (vc : Value) (n : Int) (r : List Int) (w : World) (hS : Sl w vb bs) (hB : Bs bs) (hl : bs.length = 32) (hi : i < 16) (hC : CkV w vc n r) (hr : rgtC n r = true) (hG : Gl w) :
    Calls Tryz.prog 116 #[vb, .int .i64 i, vc] w fun e w' => ∃ v, e = .returned (.tuple #[v, .int .i64 0]) ∧ SgA w.heap.size w' v (sgnC bs i n r) ∧ Kp [] w w' := by
  have HB := hide hB
  have HLB := hide hl
  have HI := hide hi
  have HG := hide hG
  clear hB hl hi hG
  obtain ⟨ar, mr, cr, rfl, hSr, hBr⟩ := id hC
  have HS := hide hS
  obtain ⟨ab, cb, hvb, -⟩ := hS
  obtain ⟨nb, hnb⟩ : ∃ k, k = bs.length := ⟨_, rfl⟩
  rw [← hnb] at hvb
  subst hvb
  obtain ⟨w2, hw2⟩ : ∃ w2, w2 = (w.alloc (.cells #[.int .i64 n, .slice ar mr cr] 68)).alloc (.cells #[.int .i64 0, .slice none 0 0, .int .i64 0, .slice none 0 0, .slice none 0 0] 72) := ⟨_, rfl⟩
  obtain ⟨g1, hg1⟩ : ∃ g, g = w.heap.size := ⟨_, rfl⟩
  obtain ⟨g2, hg2⟩ : ∃ g, g = w.heap.size + 1 := ⟨_, rfl⟩
  have K2 : Kp [] w w2 := by rw [hw2]; exact ((Kp.refl [] w).alloc _).alloc _
  have G1 : w2.heap[g1]? = some (.cells #[.int .i64 n, .slice ar mr cr] 68 (0, 0)) := by rw [hw2, hg1]; exact heap_alloc2_old w _ _
  have G2 : w2.heap[g2]? = some (.cells #[.int .i64 0, .slice none 0 0, .int .i64 0, .slice none 0 0, .slice none 0 0] 72 (0, 0)) := by rw [hw2, hg2]; exact heap_alloc2_new w _ _
  have c0 : ((w.alloc (.cells #[.int .i64 n, .slice ar mr cr] 68)).alloc (.cells #[.int .i64 0, .slice none 0 0, .int .i64 0, .slice none 0 0, .slice none 0 0] 72)).cell? ⟨w.heap.size, 0, none⟩ = some (.int .i64 n) := by rw [← hw2, ← hg1, cell_of_row w2 g1 0 _ _ _ G1]; rfl
  have c1 : ((w.alloc (.cells #[.int .i64 n, .slice ar mr cr] 68)).alloc (.cells #[.int .i64 0, .slice none 0 0, .int .i64 0, .slice none 0 0, .slice none 0 0] 72)).cell? ⟨w.heap.size, 1, none⟩ = some (.slice ar mr cr) := by rw [← hw2, ← hg1, cell_of_row w2 g1 1 _ _ _ G1]; rfl
  have HCK0 : Hid (∀ w', Kp [] w w' → CkV w' (.agg #[.int .i64 n, .slice ar mr cr]) n r) := fun w' k' => hC.kept k'
  have HK2 := hide K2
  have HG1 := hide G1
  have HG2 := hide G2
  have HW2 := hide hw2
  have H1 := hide hg1
  have H2 := hide hg2
  have HBr := hide hBr
  have HR := hide (ckright_any _ n r true hr.symm w2 (hC.kept K2))
  have Hr := hide hr
  clear hSr hBr hC K2 G1 G2 hw2 hg1 hg2 hr hnb
  go_enter Tryz.func116, Tryz.ntmps116
  go_wp2_with fail
  rw [← unhide HW2, ← unhide H2, ← unhide H1]
  refine (unhide HR).mono ?_
  rintro ee w3 ⟨rfl, K3⟩
  have HK3 := hide ((unhide HK2).trans K3)
  have HG13 := hide (K3.heap (unhide HG1) (by simp))
  have G23 := K3.heap (unhide HG2) (by simp)
  clear HR c0 c1 HW2
  have d0 : w3.cell? ⟨g1, 0, none⟩ = some (.int .i64 n) := by rw [cell_of_row w3 g1 0 _ _ _ (unhide HG13)]; rfl
  have d1 : w3.cell? ⟨g1, 1, none⟩ = some (.slice ar mr cr) := by rw [cell_of_row w3 g1 1 _ _ _ (unhide HG13)]; rfl
  obtain ⟨B, hBo⟩ : ∃ B, B = bodC n r := ⟨_, rfl⟩
  have HBO := hide (ckbody_any _ n r B hBo w3 (unhide HCK0 w3 (unhide HK3)))
  have HBB := hide hBo
  have HG23 := hide G23
  clear K3 HK2 G23 hBo
  go_wp2_with fail
  refine (unhide HBO).mono ?_
  rintro ee w4 ⟨a4, m4, c4, rfl, S4, K4⟩
  have HK4 := hide ((unhide HK3).trans K4)
  have HG24 := hide (K4.heap (unhide HG23) (by simp))
  have HG14 := hide (K4.heap (unhide HG13) (by simp))
  have HSg := hide (ssign_anyA (.slice ab nb cb) bs i (.slice a4 m4 c4) B (digP B) rfl w4 ((unhide HS).kept (unhide HK4) (by simp)) (unhide HB) (unhide HLB) (unhide HI) S4 (by rw [unhide HBB]; exact bodC_bs n r (unhide HBr)) (by rw [unhide HBB]; have := bodC_le n r; omega) ((unhide HG).kept (unhide HK4) (by simp)))
  have hlt4 : g2 < w4.heap.size := lt_of_block (unhide HG24)
  clear HBO d0 d1 S4 K4 HG23 HG13 HK3
  go_wp2_with fail
  refine (unhide HSg).mono ?_
  rintro ee w5 ⟨v5, rfl, V5, K5⟩
  obtain ⟨ap, np, cp, aq, nq, cq, lp, lq, rfl, -⟩ := V5.v.shape
  have HV5 := hide V5
  have HK5 := hide ((unhide HK4).trans K5)
  have HKS := hide K5
  have HG25 := hide (K5.heap (unhide HG24) (by simp))
  have HG15 := hide (K5.heap (unhide HG14) (by simp))
  have Ga := heap_alloc_new w5 (.cells #[.int .i64 0, .slice none 0 0, .slice none 0 0] 70)
  have HKa : Hid (Kp [] w5 (w5.alloc (.cells #[.int .i64 0, .slice none 0 0, .slice none 0 0] 70))) := (Kp.refl [] w5).alloc _
  clear HSg K5 V5 HG24 HG14
  go_wp2_with (refine wpList_store_flat rfl 70 (.tmp 8) (.tmp 20) rfl w5.heap.size 0 rfl _ _ [.int .i64 i, .slice ap np cp, .slice aq nq cq] Ga rfl (by simp) Tryz.sigSize (by simp [Value.oneCell']) #[.int .i64 i, .slice ap np cp, .slice aq nq cq] rfl ?_; intro w6 G6 K6; refine Hid.out ?_)
  obtain ⟨g8, hg8⟩ : ∃ g, g = w5.heap.size := ⟨_, rfl⟩
  have K56 : Kp [] w5 w6 := (unhide HKa).then K6 (fun i hi => .inr (by simp at hi; omega))
  rw [← hg8] at G6 ⊢
  have hG1 := K56.heap (unhide HG15) (by simp)
  have HG26 := hide (K56.heap (unhide HG25) (by simp))
  have HV6 := hide ((unhide HV5).kept (S := []) (by simp) K56)
  have HK6 := hide ((unhide HK5).trans K56)
  have HD : Hid (∀ w', Kp [] w6.drew w' → Kp [] w6 w') := fun w' k' => (kp_drew w6).trans k'
  have HS1 : Hid (∀ w', Kp [] w6.drew w' → w'.heap[g1]? = some (.cells #[.int .i64 n, .slice ar mr cr] 68 (0, 0))) := fun w' k' => (unhide HD w' k').heap hG1 (by simp)
  have HS8 : Hid (∀ w', Kp [] w6.drew w' → w'.heap[g8]? = some (.cells #[.int .i64 i, .slice ap np cp, .slice aq nq cq] 70 (0, 0))) := fun w' k' => (unhide HD w' k').heap G6 (by simp)
  have HCK : Hid (∀ w', Kp [] w6.drew w' → CkV w' (.agg #[.int .i64 n, .slice ar mr cr]) n r) := fun w' k' => unhide HCK0 w' ((unhide HK6).trans (unhide HD w' k'))
  have HRL : Hid (r.length ≤ 1000) := hide (by have := ((rgtC_iff n r).1 (unhide Hr)).2; omega)
  have hb6 : w4.heap.size ≤ w6.heap.size := Nat.le_trans (unhide HKS).size K56.size
  clear Ga HKa G6 K6 K56 hg8 hG1 HV5 HK5 HG15 HG25
  refine hide ?_
  go_wp2_with fail
  refine region_grow_tail 4 Tryz.mixed [Is (.agg #[.int .i64 n, .slice ar mr cr]), CkO w6.drew.heap.size n r, Is (.agg #[.int .i64 i, .slice ap np cp, .slice aq nq cq]), SgO w6.drew.heap.size n r (.int .i64 i) (.slice ap np cp) (.slice aq nq cq)] [[(5, none)], [(26, some 0)], [(8, none)], [(27, some 1), (28, some 2)]] (by kernel_rfl) ?_ ?_ ?_
  all_goals try simp only [List.take_succ_cons, List.take_zero, List.drop_succ_cons, List.drop_zero]
  · simp only [List.mem_cons, List.not_mem_nil, or_false]
    intro R hR
    rcases hR with rfl | rfl | rfl | rfl <;> first | exact stable_is _ | exact stable_cko _ _ _ | exact stable_sgo _ _ _ _ _ _
  · refine steps_cons (fun a w hk hn => ?_) ?_
    · have h5 : a.eval (.tmp 5) = .pointer (some ⟨g1, 0, none⟩) := hn.1
      clear hn
      refine wants_plain rfl ?_
      exact grown_loadf 68 (.tmp 5) rfl g1 0 h5 _ _ _ _ (unhide HS1 w hk) [.int .i64 n, .slice ar mr cr] (flat_in rfl) Tryz.underlying68 rfl Tryz.chkSize rfl
    refine steps_cons (fun a w hk hn => ?_) ?_
    · have h26 : a.eval (.tmp 26) = .agg #[.int .i64 n, .slice ar mr cr] := hn.1
      clear hn
      refine wants_plain rfl ?_
      refine grown_call (f := 149) rfl Tryz.func149 (by kernel_rfl) (by kernel_rfl) ?_
      simp only [List.map_toArray, List.map_cons, List.map_nil, h26]
      refine (ckcopy_any _ n r w (unhide HCK w hk) (unhide HRL)).mono ?_
      rintro e w' ⟨a', m', c', rfl, O, K⟩
      exact ⟨_, rfl, K, ⟨a', m', c', rfl, O.1, fun k hk' => Nat.le_trans hk.size (O.2 k hk')⟩⟩
    refine steps_cons (fun a w hk hn => ?_) ?_
    · have h8 : a.eval (.tmp 8) = .pointer (some ⟨g8, 0, none⟩) := hn.1
      clear hn
      refine wants_plain rfl ?_
      exact grown_loadf 70 (.tmp 8) rfl g8 0 h8 _ _ _ _ (unhide HS8 w hk) [.int .i64 i, .slice ap np cp, .slice aq nq cq] (flat_in rfl) Tryz.underlying70 rfl Tryz.sigSize rfl
    refine steps_cons (fun a w hk hn => ?_) ?_
    · have h27 : (CkO w6.drew.heap.size n r) (a.eval (.tmp 27)) w := hn.1
      have h28 : a.eval (.tmp 28) = .agg #[.int .i64 i, .slice ap np cp, .slice aq nq cq] := hn.2.1
      clear hn
      refine wants_plain rfl ?_
      exact grown_bsgo (.tmp 27) (.tmp 28) rfl h27 h28
    exact trivial
  intro W1 hkW1
  rintro _ rfl
  intro v27 h27
  rintro _ rfl
  intro v29 h29
  refine fin_nil ?_
  simp only [Act.put, List.set_cons_zero, List.set_cons_succ, List.setIfInBounds_toArray]
  obtain ⟨a7, m7, c7, rfl, S7, O7⟩ := h29
  have K67 := unhide HD W1 hkW1
  have G27 := K67.heap (unhide HG26) (by simp)
  have hsz7 : w6.drew.heap.size = w6.heap.size := rfl
  clear h27
  go_wp2_with (refine wpList_store_flat rfl 72 (.tmp 6) (.tmp 29) rfl g2 0 rfl _ _ [.int .i64 n, .slice a7 m7 c7, .int .i64 i, .slice ap np cp, .slice aq nq cq] G27 rfl (by simp) Tryz.sgdSize (by simp [Value.oneCell']) #[.int .i64 n, .slice a7 m7 c7, .int .i64 i, .slice ap np cp, .slice aq nq cq] rfl ?_; intro w8 G8 K8)
  refine bodyPost_ret (results_flat2 rfl _ rfl G8 Tryz.underlying72 rfl Tryz.sgdSize) rfl ?_
  have hs48 : w.heap.size ≤ w4.heap.size := (unhide HK4).size
  refine ⟨_, rfl, fun SS w9 hS9 k9 => ⟨a7, m7, c7, .slice ap np cp, .slice aq nq cq, rfl, ⟨(S7.kept K8 (fun k hk => ?_)).kept k9 (fun k hk hm => ?_), unhide HBr⟩, ?_⟩, ((unhide HK6).trans K67).then K8 (fun i hi => .inr (by simp at hi; have := unhide H2; omega))⟩
  · have := O7 k hk
    simp
    omega
  · have := O7 k hk
    have := hS9 k hm
    omega
  · have := (unhide HV6).kept (S := []) (by simp) K67
    have h8 := this ([g2] ++ SS) w9 (fun q hq => by
      rcases List.mem_append.1 hq with hq | hq
      · simp at hq; omega
      · have := hS9 q hq; omega) ((K8.mono (by simp)).trans (k9.mono (by simp; intro x hx; exact .inr hx)))
    show SigV w9 _ (i : Int) (sgnP bs i (digP (bodC n r))) (pthP bs i 4)
    rw [← unhide HBB]
    exact h8
theorem cksign_ok (vb : Value) (bs : List Int) (i : Nat) (vc : Value) (n : Int) (r : List Int) (w : World) (hS : Sl w vb bs) (hB : Bs bs) (hl : bs.length = 32) (hi : i < 16) (hC : CkV w vc n r) (hr : rgtC n r = true) (hG : Gl w) :
    Calls Tryz.prog 116 #[vb, .int .i64 i, vc] w fun e w' => ∃ v, e = .returned (.tuple #[v, .int .i64 0]) ∧ SgV w' v (sgnC bs i n r) ∧ Kp [] w w' :=
  (cksign_okA vb bs i vc n r w hS hB hl hi hC hr hG).mono (fun _ _ ⟨v, h1, h2, h3⟩ => ⟨v, h1, h2.v, h3⟩)
end Go.Proofs.YtillhpgdlmeajaaGreatDoor

/-
  The contract of package check's Put.
-/
namespace Go.Proofs.YtillhpgdlmeajaaGreatDoor
open Go.RowKit
open Go.Proofs

theorem SgV.ck {w : World} {n i : Int} {r : List Int} {ps qs : List (List Int)} {ar ap aq : Option Addr} {mr cr np cp nq cq : Nat} (h : SgV w (.agg #[.int .i64 n, .slice ar mr cr, .int .i64 i, .slice ap np cp, .slice aq nq cq]) ⟨n, r, i, ps, qs⟩) : CkV w (.agg #[.int .i64 n, .slice ar mr cr]) n r := by
  obtain ⟨a, m, c, vp, vq, e, h1, _⟩ := h
  simp only [Value.agg.injEq, Array.mk.injEq, List.cons.injEq, and_true, true_and] at e
  obtain ⟨e1, _, _⟩ := e
  exact ⟨a, m, c, by rw [e1], h1.1, h1.2⟩

end Go.Proofs.YtillhpgdlmeajaaGreatDoor

/-
  The contract of package check's Get.
-/
namespace Go.Proofs.YtillhpgdlmeajaaGreatDoor
open Go.RowKit
open Go.Proofs

/-- While a signed checkpoint is read: the reader at q, the result's place at g0, made behind it. -/
structure GtS (w : World) (g0 q : Nat) (v0 r : Value) (s : Bool × List Int) (wr : World) : Prop where
  rd : Rd wr q r s.1 s.2
  own : ∀ k, r.ownBlock = some k → v0.ownBlock = some k
  res : wr.heap[g0]? = some (.cells #[.int .i64 0, .slice none 0 0, .int .i64 0, .slice none 0 0, .slice none 0 0] 72 (0, 0))
  kp : Kp [q] w wr
  o1 : w.heap.size = g0
  o2 : q < g0
  o3 : ∀ k, v0.ownBlock = some k → k < g0
section
variable {w w1 w' : World} {g0 q : Nat} {v0 r : Value} {s s' : Bool × List Int}
theorem GtS.call (h : GtS w g0 q v0 r s w1) (L : Left w1 q r s' w') : ∃ r', GtS w g0 q v0 r' s' w' := by
  obtain ⟨⟨r', R, O⟩, K⟩ := L
  have := h.o2
  exact ⟨r', R, fun k hk => h.own k (O k hk), K.heap h.res (by simp; omega), h.kp.trans K, h.o1, h.o2, h.o3⟩
theorem GtS.kept (h : GtS w g0 q v0 r s w1) (K : Kp [] w1 w') : GtS w g0 q v0 r s w' :=
  ⟨h.rd.kept K (by simp) (by simp), h.own, K.heap h.res (by simp), h.kp.trans (K.mono (by simp)), h.o1, h.o2, h.o3⟩
theorem GtS.left (h : GtS w g0 q v0 r s w1) (K : Kp [g0] w1 w') : Left w q v0 s w' := by
  have := h.o2
  have h1 := h.o1
  exact ⟨⟨r, h.rd.kept K (by simp; omega) (fun i hi => by have := h.o3 i (h.own i hi); simp; omega), h.own⟩, h.kp.then K (fun i hi => .inr (by simp at hi; omega))⟩
end
theorem decd_no {b : List Int} {v : Value} {e : Int} {w : World} (h : Decd b v e w) (hd : decOk b = false) : v = sig0 ∧ e = 12 := by
  unfold Decd at h
  rw [hd] at h
  exact h

end Go.Proofs.YtillhpgdlmeajaaGreatDoor
