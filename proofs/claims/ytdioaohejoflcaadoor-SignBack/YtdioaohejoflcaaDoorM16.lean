/-
  The contract of the reference's Decode.
-/
import Derived.Test.YtdioaohejoflcaaDoorM15
import Derived.Test.YtdioaohejoflcaaDoorM10
import Derived.Test.YtdioaohejoflcaaDoorM14
namespace Go.Proofs.YtdioaohejoflcaaDoor
open Go.RowKit
open Go.Proofs

theorem step_call {P : Program} {ops : Array Oper} {o : Oper} {a : Act} {w : World} {K : Act → World → Prop} {Q : Exit → Act → World → Prop} {E : Prop} {f : FuncId} {fn : Func} {xs : Array Operand} {ats : Array TypeId} (hgd : o.guard = none) (ho : o.op = .call { callee := .value (.func f), args := xs, argTypes := ats }) (hf : P.funcs[f]? = some fn) (hn : (fn.name == "runtime.NumGoroutine") = false) (hb : fn.body.isNone = false)
    (h : Calls P f (xs.map a.eval) w fun e w' => ∃ v, e = .returned v ∧ K (a.put o.dst v) w') : if Region.wanted o (yielded ops a.tmps) = true then Oper.wp P o a w K Q else E := by
  have hw : Region.wanted o (yielded ops a.tmps) = true := by simp [Region.wanted, hgd]
  rw [if_pos hw]
  have e : (execOp a.eval o).run P w = .ok (.enter f (xs.map a.eval)) w := by
    obtain ⟨dst, op, ty, pos, after, guard⟩ := o
    simp only at ho
    subst ho
    rw [execOp_call_go]
    have h1 : fn.name ≠ "runtime.NumGoroutine" := by simpa using hn
    have h2 : ¬ fn.body = none := by intro h2; rw [h2] at hb; cases hb
    simp [callFunc, hf, h1, h2]
  unfold Oper.wp
  rw [e]
  simp only [Oper.upon]
  refine h.mono ?_
  rintro e' w' ⟨v, rfl, hv⟩
  exact hv

/-- what the reference's Decode answers. -/
def RDecd (b : List Int) (v : Value) (ok : Bool) (w' : World) : Prop :=
  if decOk b then SigV w' v (val (b.take 4)) (chP 64 (b.drop 4)) (chP 4 (b.drop 2052)) ∧ ok = true else v = sig0 ∧ ok = false

set_option maxRecDepth 100000 in
set_option maxHeartbeats 8000000 in
theorem refdecode_any (vb : Value) (bs : List Int) (w : World) (hS : Sl w vb bs) (hB : Bs bs) :
    Calls Tryd.prog 26 #[vb] w fun e w' => ∃ v ok, e = .returned (.tuple #[v, .bool ok]) ∧ RDecd bs v ok w' ∧ Kp [] w w' := by
  have G1 := heap_alloc_new w (.cells #[.int .i64 0, .slice none 0 0, .slice none 0 0] 33)
  have HK1 := hide ((Kp.refl [] w).alloc (.cells #[.int .i64 0, .slice none 0 0, .slice none 0 0] 33))
  by_cases hl : bs.length = 2180
  case neg =>
    have hno : decOk bs = false := by unfold decOk; simp [hl]
    have HNO := hide hno
    obtain ⟨ab, cb, rfl, _⟩ := hS
    obtain ⟨nb, hnb⟩ : ∃ n, n = bs.length := ⟨_, rfl⟩
    rw [← hnb] at hl ⊢
    have hni : ¬ (nb : Int) = 2180 := by omega
    clear hnb hl hno hB
    go_enter Tryd.func26, Tryd.ntmps26
    go_wp2_with (refine wpList_store_sig rfl (.tmp 2) (.tmp 12) rfl w.heap.size rfl _ _ _ _ _ _ G1 rfl ⟨rfl, rfl, rfl⟩ ?_; intro w4 G4 K4)
    refine bodyPost_ret (results_sig rfl _ _ w.heap.size _ _ _ (0, 0) rfl G4) rfl ?_
    exact ⟨_, _, rfl, by unfold RDecd; rw [unhide HNO]; exact ⟨rfl, rfl⟩, (unhide HK1).then K4 (by simp)⟩
  have HB := hide hB
  have HL := hide hl
  have hne : bs ≠ [] := fun e => by rw [e] at hl; simp at hl
  have hblt := hS.lt hne
  have HS := hide hS
  obtain ⟨ab, cb, hvb, _⟩ := hS
  rw [hl] at hvb
  subst hvb
  obtain ⟨w1, hw1⟩ : ∃ w1, w1 = w.alloc (.cells #[.int .i64 0, .slice none 0 0, .slice none 0 0] 33) := ⟨_, rfl⟩
  have hz1 : w1.heap.size = w.heap.size + 1 := by rw [hw1]; simp
  rw [← hw1] at G1 HK1
  obtain ⟨w2, hw2⟩ : ∃ w2, w2 = w1.alloc (.cells #[.slice ab 2180 cb, .int .i64 0, .bool false] 80) := ⟨_, rfl⟩
  have K2 : Kp [] w1 w2 := by rw [hw2]; exact (Kp.refl [] w1).alloc _
  have hz2 : w2.heap.size = w.heap.size + 2 := by rw [hw2]; simp [hz1]
  have R2 : RR w2 (w.heap.size + 1) (.slice ab 2180 cb) 0 false bs := ⟨by rw [hw2, ← hz1]; exact heap_alloc_new w1 _, (unhide HS).kept ((unhide HK1).trans K2) (by simp), fun e => by have := hblt _ e; omega, by omega⟩
  have hN := rnumb_any (w.heap.size + 1) (.slice ab 2180 cb) 0 false bs 4 w2 R2 (by omega) (by omega) hB
  have htk : tk false (rest 0 false bs) ((4 : Nat) : Int) = (bs.take 4, false, bs.drop 4) := by
    have e1 : rest 0 false bs = bs := rfl
    rw [e1]; exact tk_ok false bs 4 (by omega)
  rw [htk] at hN
  dsimp only at hN
  obtain ⟨x, hx⟩ : ∃ x, x = val (bs.take 4) := ⟨_, rfl⟩
  rw [← hx] at hN
  have hxb : 0 ≤ x ∧ x < 4294967296 := by
    have := val_bd (bs.take 4) (hB.take 4)
    rw [List.length_take, Nat.min_eq_left (by omega), ← hx] at this
    exact ⟨this.1, by simpa using this.2⟩
  have hwx : IntKind.i64.wrap x = x := wrap_at rfl (by omega) (by omega)
  have HX := hide hx
  have HXB := hide hxb
  have HN := hide hN
  have HK2 := hide ((unhide HK1).trans K2)
  have HG2 := hide (K2.heap G1 (by simp))
  have HW12 : Hid (w2 = (w.alloc (.cells #[.int .i64 0, .slice none 0 0, .slice none 0 0] 33)).alloc (.cells #[.slice ab 2180 cb, .int .i64 0, .bool false] 80)) := hide (by rw [hw2, hw1])
  have HBL0 := hide hblt
  have HZ2 := hide hz2
  clear hw1 hw2 hz1 hz2 R2 hN htk hx hxb G1 HK1 hB hl hne hblt K2
  go_enter Tryd.func26, Tryd.ntmps26
  go_wp2_with fail
  rw [← unhide HW12]
  refine (unhide HN).mono ?_
  rintro ee w3 ⟨rfl, p3, b3, R3, e3, K3⟩
  obtain ⟨q, hq⟩ : ∃ q, q = w.heap.size + 1 := ⟨_, rfl⟩
  rw [← hq] at R3 K3 ⊢
  have hb3 : b3 = false := (congrArg Prod.fst e3).symm
  subst hb3
  have hd3 : bs.drop p3 = bs.drop 4 := (congrArg Prod.snd e3).symm
  have HK3 : Hid (Kp [] w w3) := (unhide HK2).then K3 (fun i hi => .inr (by simp at hi; omega))
  have G3 : w3.heap[w.heap.size]? = some _ := K3.heap (unhide HG2) (by simp; omega)
  have hz3 : q < w3.heap.size := by have := K3.size; have := unhide HZ2; omega
  have HR3 := hide R3
  have HD3 := hide hd3
  have HQ := hide hq
  clear R3 K3 e3 hd3 HN HG2 HK2 HW12 HZ2 hq
  by_cases h16 : x < 16
  case neg =>
    have hno : decOk bs = false := by unfold decOk; rw [← unhide HX]; simp [h16]
    have HNO := hide hno
    have h16' : 16 ≤ x := by omega
    clear hno
    go_wp2_with (refine wpList_store_sig rfl (.tmp 2) (.tmp 20) rfl w.heap.size rfl _ _ _ _ _ _ G3 rfl ⟨rfl, rfl, rfl⟩ ?_; intro w4 G4 K4)
    refine bodyPost_ret (results_sig rfl _ _ w.heap.size _ _ _ (0, 0) rfl G4) rfl ?_
    exact ⟨_, _, rfl, by unfold RDecd; rw [unhide HNO]; exact ⟨rfl, rfl⟩, (unhide HK3).then K4 (by simp)⟩
  have hyes : decOk bs = true := by unfold decOk; rw [← unhide HX, unhide HL]; simp [h16]
  have HYES := hide hyes
  have h16' : ¬ 16 ≤ x := by omega
  have HG3 := hide G3
  have Ga := heap_alloc_new w3 (.cells #[.int .i64 0, .slice none 0 0, .slice none 0 0] 33)
  have HKa : Hid (Kp [] w3 (w3.alloc (.cells #[.int .i64 0, .slice none 0 0, .slice none 0 0] 33))) := (Kp.refl [] w3).alloc _
  clear G3 hyes
  go_wp2_with (refine wpList_store_sig rfl (.tmp 6) (.tmp 23) rfl w3.heap.size rfl _ _ _ _ _ _ Ga rfl ⟨rfl, rfl, rfl⟩ ?_; intro w4 G4 K4)
  obtain ⟨gs, hgs⟩ : ∃ gs, gs = w3.heap.size := ⟨_, rfl⟩
  have hs4 : gs < w4.heap.size := by rw [hgs]; exact (Array.getElem?_eq_some_iff.1 G4).1
  have hqs : q < gs := by rw [hgs]; exact hz3
  have hws : w.heap.size < q := by have := unhide HQ; omega
  have HK34 : Hid (Kp [gs] w3 w4) := by rw [hgs]; exact ((unhide HKa).mono (by simp)).trans K4
  rw [← hgs] at G4 ⊢
  have HG4 := hide G4
  have HBL : Hid (∀ i, (Value.slice ab 2180 cb).ownBlock = some i → i < w.heap.size) := hide (unhide HBL0)
  have HR4 : Hid (∃ p, RR w4 q (.slice ab 2180 cb) p false bs ∧ bs.drop p = bs.drop (4 + 32 * 0)) := ⟨p3, (unhide HR3).kept (unhide HK34) (by simp; omega) (fun i hi => by have := unhide HBL i hi; simp; omega), unhide HD3⟩
  have HA4 : Hid (AccS [q, gs] (w4.heap.size ≤ ·) w4 (chP 0 (bs.drop 4)) (.slice none 0 0) w4) := ⟨[], ⟨⟨rfl, .inl ⟨rfl, rfl⟩⟩, fun x hx => by cases hx⟩, rfl, Kp.refl _ _, fun x hx => by cases hx⟩
  have HGS := hide hgs
  clear Ga HKa G4 K4 hgs HR3 HD3 HBL0 hz3
  go_wp2_with fail
  go_loopw [7] (fun j wr => ∃ (k m cc : Nat) (ao : Option Addr), k ≤ 64 ∧ j = .int .i64 k ∧ AccS [q, gs] (w4.heap.size ≤ ·) w4 (chP k (bs.drop 4)) (.slice ao m cc) wr ∧ wr.heap[gs]? = some (.cells #[.int .i64 x, .slice ao m cc, .slice none 0 0] 33 (0, 0)) ∧ ∃ p, RR wr q (.slice ab 2180 cb) p false bs ∧ bs.drop p = bs.drop (4 + 32 * k)) (fun j _ => 64 - (intOf j).toNat)
  case atStart => exact ⟨0, 0, 0, none, by omega, rfl, unhide HA4, unhide HG4, unhide HR4⟩
  case round =>
    clear HA4 HG4 HR4
    obtain ⟨k, m, cc, ao, hk, rfl, Ar, Gr, p, Rr, hp⟩ := hrel
    have HA := hide Ar
    have HGr := hide Gr
    have HRr := hide Rr
    have HPp := hide hp
    clear Ar Gr Rr hp
    by_cases hlt : k < 64
    · have hlt2 : (k : Int) < 64 := by omega
      have hcq : wr.cell? ⟨gs, 1, none⟩ = some (.slice ao m cc) := by rw [cell_of_row wr gs 1 _ _ _ (unhide HGr)]; rfl
      obtain ⟨X, hX⟩ : ∃ X, X = ((bs.drop 4).drop (32 * k)).take 32 := ⟨_, rfl⟩
      have HE : Hid (chP (k + 1) (bs.drop 4) = chP k (bs.drop 4) ++ [X]) := by rw [hX]; exact chP_succ k _
      have HXB : Hid (Bs X) := by rw [hX]; exact (((unhide HB).drop _).drop _).take _
      have HLN : Hid ((chP k (bs.drop 4)).length ≤ 1000000) := by rw [chP_len]; show k ≤ 1000000; omega
      have hC := rraw_any q (.slice ab 2180 cb) p false bs ((32 : Nat) : Int) wr.drew ((unhide HRr).kept (kp_drew wr) (by simp) (by simp)) (by have := unhide HL; omega) (by omega)
      have htk : tk false (rest p false bs) ((32 : Nat) : Int) = (X, false, bs.drop (4 + 32 * (k + 1))) := by
        have e1 : rest p false bs = bs.drop (4 + 32 * k) := unhide HPp
        rw [e1, tk_ok _ _ 32 (by rw [List.length_drop]; have := unhide HL; omega), List.drop_drop, hX, List.drop_drop, show 4 + 32 * k + 32 = 4 + 32 * (k + 1) by omega]
      rw [htk] at hC
      dsimp only at hC
      have HC := hide hC
      clear hC htk hX
      go_wp2_with fail
      go_region_law (first
        | (refine step_call (by rfl) (by rfl) Tryd.func52 (by kernel_rfl) (by kernel_rfl) ?_; simp only [List.map_toArray, List.map_cons, List.map_nil]; refine (unhide HC).mono ?_; rintro ee wz ⟨az, mz, cz, rfl, O4, L4⟩; refine ⟨_, rfl, ?_⟩; obtain ⟨p4, b4, R4, e4, K4⟩ := L4; have kk4 := (kp_drew wr).mono (S' := [q]) (by simp) |>.trans K4; have A4 := (unhide HA).off kk4 (by simp) (fun i hi e => by subst e; omega) (by omega); have G4 : wz.heap[gs]? = some _ := kk4.heap (unhide HGr) (by simp; omega); have hca : ∀ o, (wz.alloc o).cell? ⟨gs, 1, none⟩ = some (.slice ao m cc) := (fun o => (World.cell?_alloc_lt _ _ _ (by exact (Array.getElem?_eq_some_iff.1 G4).1)).trans (by rw [cell_of_row wz gs 1 _ _ _ G4]; rfl)); have hcw : wz.cell? ⟨gs, 1, none⟩ = some (.slice ao m cc) := (by rw [cell_of_row wz gs 1 _ _ _ G4]; rfl); have HA4 := hide A4; have HG4 := hide G4; have HO4 := hide O4; have HR4 := hide R4; have HE4 := hide e4; clear A4 G4 O4 R4 e4 kk4 K4)
        | (refine step_accs (by rfl) (.tmp 29) (.tmp 32) (by rfl) (.slice ao m cc) _ (by rfl) (unhide HA4) (unhide HLN) (.slice az mz cz) X (unhide HO4).1 (unhide HXB) (fun i h1 h2 => absurd ((unhide HO4).2 i h1) (by have := (unhide HA).lt i h2; show ¬ wr.heap.size ≤ i; omega)) (fun i h1 => Nat.le_trans (unhide HA).kp.size ((unhide HO4).2 i h1)) wz.heap.size (by rfl) (by exact cell_of_one (heap_alloc_new wz _)) ((Kp.refl [] wz).alloc _) ?_; intro ay my cy wy A5 S5; have hng : ∀ i, (Value.slice ao m cc).ownBlock = some i → w4.heap.size ≤ i := (by obtain ⟨_, hR, _⟩ := unhide HA; exact hR.1.own); have G5 : wy.heap[gs]? = some _ := S5.1.heap (unhide HG4) (fun hm => by have := hng gs (by simpa using hm); omega); have hc5 : wy.cell? ⟨gs, 1, none⟩ = some (.slice ao m cc) := (by rw [cell_of_row wy gs 1 _ _ _ G5]; rfl); have hf5 : wy.frozen? ⟨gs, 1, none⟩ = false := frozen_of_row wy gs 1 _ _ G5))
      all_goals
        have k6 := setCell_kp wy gs 1 (.slice ay my cy)
        have G6 := heap_setCell_same wy gs 1 _ _ (.slice ay my cy) G5
        have A6 := A5.off k6 (by simp) (fun i hi e => by subst e; omega) (by omega)
        have hb4 : b4 = false := by have := congrArg Prod.fst (unhide HE4); exact this.symm
        have hd4 : bs.drop (4 + 32 * (k + 1)) = bs.drop p4 := by have := congrArg Prod.snd (unhide HE4); rw [hb4] at this; exact this
        have R6 : RR (wy.setCell ⟨gs, 1, none⟩ (.slice ay my cy)) q (.slice ab 2180 cb) p4 false bs := by
          rw [hb4] at HR4
          exact ((unhide HR4).kept S5.1 (fun hm => by have := hng q (by simpa using hm); omega) (fun i hi hm => by have := hng i (by simpa using hm); have := unhide HBL i hi; omega)).kept k6 (by simp; omega) (fun i hi => by have := unhide HBL i hi; simp; omega)
        have HG6 := hide G6
        have HA6 := hide A6
        have HR6 := hide R6
        have HD6 := hide hd4
        clear A5 S5 G5 G6 A6 R6 hd4 hb4 k6 hcq hca hcw hc5 hf5 HC HR4 HO4 HG4 HA4 HE4 hng
        go_wp2_with fail
        go_roundw
        case rel => exact ⟨k + 1, my, cy, ay, by omega, by go_num, by rw [unhide HE]; exact unhide HA6, unhide HG6, p4, unhide HR6, (unhide HD6).symm⟩
        case measure => simp [intOf]; omega
    · have hkn : k = 64 := by omega
      have hlt2 : ¬ (k : Int) < 64 := by omega
      rw [hkn] at HA HPp
      clear hkn
      have HL5 : Hid (∃ l, Lists wr (.slice ao m cc) l ∧ l.map (·.2) = chP 64 (bs.drop 4) ∧ (∀ i, (Value.slice ao m cc).ownBlock = some i → w4.heap.size ≤ i ∧ i < wr.heap.size) ∧ ∀ x ∈ l, ∀ i, x.1.ownBlock = some i → w4.heap.size ≤ i ∧ i < wr.heap.size) := by
        obtain ⟨l, p1, p2, p3, p4⟩ := (unhide HA).lists (by rw [chP_len]; omega)
        have h32 := chP_32 64 (bs.drop 4) (by rw [List.length_drop]; have := unhide HL; omega)
        refine ⟨l, p1, p2, fun i hi => ⟨p3 i hi, (unhide HA).lt i hi⟩, fun x hx i hi => ⟨p4 x hx i hi, ?_⟩⟩
        obtain ⟨j, hj, rfl⟩ := List.getElem_of_mem hx
        obtain ⟨_, _, _, _, p5⟩ := p1
        obtain ⟨_, _, _, _, p6, _⟩ := p5 j hj
        refine p6.lt (fun e => ?_) i hi
        have := h32 l[j].2 (by rw [← p2]; exact List.mem_map.2 ⟨_, hx, rfl⟩)
        rw [e] at this
        cases this
      obtain ⟨w5, hw5⟩ : ∃ w5, w5 = wr := ⟨_, rfl⟩
      subst hw5
      have HK5 := hide (unhide HA).kp
      have hs5 : gs < w5.heap.size := (Array.getElem?_eq_some_iff.1 (unhide HGr)).1
      obtain ⟨a5, m5, c5, e5⟩ : ∃ a5 m5 c5, (Value.slice a5 m5 c5) = .slice ao m cc := ⟨_, _, _, rfl⟩
      injection e5 with f1 f2 f3
      subst f1
      subst f2
      subst f3
      have HG6 := hide (unhide HGr)
      have HR6 : Hid (∃ p, RR w5 q (.slice ab 2180 cb) p false bs ∧ bs.drop p = bs.drop (2052 + 32 * 0)) := ⟨p, unhide HRr, unhide HPp⟩
      have HA6 : Hid (AccS [q, gs] (w5.heap.size ≤ ·) w5 (chP 0 (bs.drop 2052)) (.slice none 0 0) w5) := ⟨[], ⟨⟨rfl, .inl ⟨rfl, rfl⟩⟩, fun x hx => by cases hx⟩, rfl, Kp.refl _ _, fun x hx => by cases hx⟩
      clear HA HGr HRr HPp
      go_wp2_with fail
      go_loopw [8] (fun j wr => ∃ (k m cc : Nat) (ao : Option Addr), k ≤ 4 ∧ j = .int .i64 k ∧ AccS [q, gs] (w5.heap.size ≤ ·) w5 (chP k (bs.drop 2052)) (.slice ao m cc) wr ∧ wr.heap[gs]? = some (.cells #[.int .i64 x, .slice a5 m5 c5, .slice ao m cc] 33 (0, 0)) ∧ ∃ p, RR wr q (.slice ab 2180 cb) p false bs ∧ bs.drop p = bs.drop (2052 + 32 * k)) (fun j _ => 4 - (intOf j).toNat)
      case atStart => exact ⟨0, 0, 0, none, by omega, rfl, unhide HA6, unhide HG6, unhide HR6⟩
      case round =>
        clear HA6 HG6 HR6
        obtain ⟨k, m, cc, ao, hk, rfl, Ar, Gr, p, Rr, hp⟩ := hrel
        have HA := hide Ar
        have HGr := hide Gr
        have HRr := hide Rr
        have HPp := hide hp
        clear Ar Gr Rr hp
        by_cases hlt : k < 4
        · have hlt2 : (k : Int) < 4 := by omega
          have hcq : wr.cell? ⟨gs, 2, none⟩ = some (.slice ao m cc) := by rw [cell_of_row wr gs 2 _ _ _ (unhide HGr)]; rfl
          obtain ⟨X, hX⟩ : ∃ X, X = ((bs.drop 2052).drop (32 * k)).take 32 := ⟨_, rfl⟩
          have HE : Hid (chP (k + 1) (bs.drop 2052) = chP k (bs.drop 2052) ++ [X]) := by rw [hX]; exact chP_succ k _
          have HXB : Hid (Bs X) := by rw [hX]; exact (((unhide HB).drop _).drop _).take _
          have HLN : Hid ((chP k (bs.drop 2052)).length ≤ 1000000) := by rw [chP_len]; show k ≤ 1000000; omega
          have hC := rraw_any q (.slice ab 2180 cb) p false bs ((32 : Nat) : Int) wr.drew ((unhide HRr).kept (kp_drew wr) (by simp) (by simp)) (by have := unhide HL; omega) (by omega)
          have htk : tk false (rest p false bs) ((32 : Nat) : Int) = (X, false, bs.drop (2052 + 32 * (k + 1))) := by
            have e1 : rest p false bs = bs.drop (2052 + 32 * k) := unhide HPp
            rw [e1, tk_ok _ _ 32 (by rw [List.length_drop]; have := unhide HL; omega), List.drop_drop, hX, List.drop_drop, show 2052 + 32 * k + 32 = 2052 + 32 * (k + 1) by omega]
          rw [htk] at hC
          dsimp only at hC
          have HC := hide hC
          clear hC htk hX
          go_wp2_with fail
          go_region_law (first
            | (refine step_call (by rfl) (by rfl) Tryd.func52 (by kernel_rfl) (by kernel_rfl) ?_; simp only [List.map_toArray, List.map_cons, List.map_nil]; refine (unhide HC).mono ?_; rintro ee wz ⟨az, mz, cz, rfl, O4, L4⟩; refine ⟨_, rfl, ?_⟩; obtain ⟨p4, b4, R4, e4, K4⟩ := L4; have kk4 := (kp_drew wr).mono (S' := [q]) (by simp) |>.trans K4; have A4 := (unhide HA).off kk4 (by simp) (fun i hi e => by subst e; omega) (by omega); have G4 : wz.heap[gs]? = some _ := kk4.heap (unhide HGr) (by simp; omega); have hca : ∀ o, (wz.alloc o).cell? ⟨gs, 2, none⟩ = some (.slice ao m cc) := (fun o => (World.cell?_alloc_lt _ _ _ (by exact (Array.getElem?_eq_some_iff.1 G4).1)).trans (by rw [cell_of_row wz gs 2 _ _ _ G4]; rfl)); have hcw : wz.cell? ⟨gs, 2, none⟩ = some (.slice ao m cc) := (by rw [cell_of_row wz gs 2 _ _ _ G4]; rfl); have HA4 := hide A4; have HG4 := hide G4; have HO4 := hide O4; have HR4 := hide R4; have HE4 := hide e4; clear A4 G4 O4 R4 e4 kk4 K4)
            | (refine step_accs (by rfl) (.tmp 40) (.tmp 43) (by rfl) (.slice ao m cc) _ (by rfl) (unhide HA4) (unhide HLN) (.slice az mz cz) X (unhide HO4).1 (unhide HXB) (fun i h1 h2 => absurd ((unhide HO4).2 i h1) (by have := (unhide HA).lt i h2; show ¬ wr.heap.size ≤ i; omega)) (fun i h1 => Nat.le_trans (unhide HA).kp.size ((unhide HO4).2 i h1)) wz.heap.size (by rfl) (by exact cell_of_one (heap_alloc_new wz _)) ((Kp.refl [] wz).alloc _) ?_; intro ay my cy wy A5 S5; have hng : ∀ i, (Value.slice ao m cc).ownBlock = some i → w5.heap.size ≤ i := (by obtain ⟨_, hR, _⟩ := unhide HA; exact hR.1.own); have G5 : wy.heap[gs]? = some _ := S5.1.heap (unhide HG4) (fun hm => by have := hng gs (by simpa using hm); omega); have hc5 : wy.cell? ⟨gs, 2, none⟩ = some (.slice ao m cc) := (by rw [cell_of_row wy gs 2 _ _ _ G5]; rfl); have hf5 : wy.frozen? ⟨gs, 2, none⟩ = false := frozen_of_row wy gs 2 _ _ G5))
          all_goals
            have k6 := setCell_kp wy gs 2 (.slice ay my cy)
            have G6 := heap_setCell_same wy gs 2 _ _ (.slice ay my cy) G5
            have A6 := A5.off k6 (by simp) (fun i hi e => by subst e; omega) (by omega)
            have hb4 : b4 = false := by have := congrArg Prod.fst (unhide HE4); exact this.symm
            have hd4 : bs.drop (2052 + 32 * (k + 1)) = bs.drop p4 := by have := congrArg Prod.snd (unhide HE4); rw [hb4] at this; exact this
            have R6 : RR (wy.setCell ⟨gs, 2, none⟩ (.slice ay my cy)) q (.slice ab 2180 cb) p4 false bs := by
              rw [hb4] at HR4
              exact ((unhide HR4).kept S5.1 (fun hm => by have := hng q (by simpa using hm); omega) (fun i hi hm => by have := hng i (by simpa using hm); have := unhide HBL i hi; omega)).kept k6 (by simp; omega) (fun i hi => by have := unhide HBL i hi; simp; omega)
            have HG6 := hide G6
            have HA6 := hide A6
            have HR6 := hide R6
            have HD6 := hide hd4
            clear A5 S5 G5 G6 A6 R6 hd4 hb4 k6 hcq hca hcw hc5 hf5 HC HR4 HO4 HG4 HA4 HE4 hng
            go_wp2_with fail
            go_roundw
            case rel => exact ⟨k + 1, my, cy, ay, by omega, by go_num, by rw [unhide HE]; exact unhide HA6, unhide HG6, p4, unhide HR6, (unhide HD6).symm⟩
            case measure => simp [intOf]; omega
        · have hkn : k = 4 := by omega
          have hlt2 : ¬ (k : Int) < 4 := by omega
          rw [hkn] at HA HPp
          clear hkn
          have HK6 := hide (unhide HA).kp
          have HV : Hid (∀ w', Kp [w.heap.size] wr w' → SigV w' (.agg #[.int .i64 x, .slice a5 m5 c5, .slice ao m cc]) x (chP 64 (bs.drop 4)) (chP 4 (bs.drop 2052))) := by
            intro w' k'
            obtain ⟨lp, p1, p2, p3, p4⟩ := unhide HL5
            obtain ⟨lq, q1, q2, q3, q4⟩ := (unhide HA).lists (by rw [chP_len]; omega)
            have pr := p1.off (unhide HK6) (fun i hi => by have := p3 i hi; simp; omega) (fun y hy i hi => by have := p4 y hy i hi; simp; omega)
            refine ⟨_, _, lp, lq, rfl, pr.off k' (fun i hi => by have := p3 i hi; simp; omega) (fun y hy i hi => by have := p4 y hy i hi; simp; omega), p2, q1.off k' (fun i hi => ?_) (fun y hy i hi => ?_), q2⟩
            · have := q3 i hi; simp; omega
            · have := q4 y hy i hi; simp; omega
          have G0 : wr.heap[w.heap.size]? = some (.cells #[.int .i64 0, .slice none 0 0, .slice none 0 0] 33) := (unhide HK6).heap ((unhide HK5).heap ((unhide HK34).heap (unhide HG3) (by simp; omega)) (by simp; omega)) (by simp; omega)
          have HKr : Hid (Kp [] w wr) := (((unhide HK3).then (unhide HK34) (fun i hi => .inr (by simp at hi; omega))).then (unhide HK5) (fun i hi => .inr (by simp at hi; omega))).then (unhide HK6) (fun i hi => .inr (by simp at hi; omega))
          clear HA HRr HPp HK5 HK6 HK34 HG3
          go_wp2_with (refine wpList_load_row rfl 33 (.tmp 6) rfl gs rfl 33 _ (0, 0) _ (unhide HGr) Tryd.underlying33 rfl Tryd.sigSize ?_; refine Hid.out ?_)
          refine hide ?_
          go_wp2_with (refine wpList_store_sig rfl (.tmp 2) (.tmp 46) rfl w.heap.size rfl _ _ _ _ _ _ G0 rfl ⟨rfl, rfl, rfl⟩ ?_; intro w9 G9 K9)
          refine bodyPost_ret (results_sig rfl _ _ w.heap.size _ _ _ (0, 0) rfl G9) rfl ?_
          exact ⟨_, _, rfl, by unfold RDecd; rw [unhide HYES]; exact ⟨by rw [← unhide HX]; exact unhide HV w9 K9, rfl⟩, (unhide HKr).then K9 (by simp)⟩
end Go.Proofs.YtdioaohejoflcaaDoor

/-
  The contracts of the reference's Verify and Encode.
-/
namespace Go.Proofs.YtdioaohejoflcaaDoor
open Go.RowKit
open Go.Proofs

theorem and_one64 (n : Nat) (h : n < 16) : bits .and .i64 (n : Int) 1 = ((n % 2 : Nat) : Int) := by
  have h2 : ∀ m ∈ List.range 16, bits .and .i64 (m : Int) 1 = ((m % 2 : Nat) : Int) := by decide +kernel
  exact h2 n (by simpa using h)

set_option maxRecDepth 100000 in
set_option maxHeartbeats 2000000 in
theorem refverify_any (vpub : Value) (pub : List Int) (vm : Value) (ms : List Int) (v : Value) (i : Int) (ps qs : List (List Int)) (b : Bool) (hb : b = verP pub ms i ps qs) (w : World) (hP : Sl w vpub pub) (hPB : Bs pub) (hM : Sl w vm ms) (hMB : Bs ms) (hml : ms.length ≤ 1000) (hV : SigV w v i ps qs) (hi : -9223372036854775808 ≤ i ∧ i ≤ 9223372036854775807) :
    Calls Tryd.prog 27 #[vpub, vm, v] w fun e w' => e = .returned (.bool b) ∧ Kp [] w w' := by
  obtain ⟨c, hc⟩ : ∃ c, c = rgtP i ps qs := ⟨_, rfl⟩
  obtain ⟨ap, np, cp, aq, nq, cq, lp, lq, rfl, hLP, hp, hLQ, hq, hnp, hnq⟩ := hV.shape
  clear hnp
  obtain ⟨ob, hob⟩ : ∃ o : Obj, o = (.cells #[.int .i64 i, .slice ap np cp, .slice aq nq cq] 33) := ⟨_, rfl⟩
  have K1 : Kp [] w (w.alloc ob) := (Kp.refl [] w).alloc ob
  have HR := hide (refright_any _ i ps qs c hc (w.alloc ob) (hV.kept K1) hi)
  have HLP := hide hLP
  have HLQ := hide hLQ
  have Hp := hide hp
  have Hq := hide hq
  have HPu := hide hP
  have HPB := hide hPB
  have HM := hide hM
  have HMB := hide hMB
  have HNQ := hide hnq
  obtain ⟨au, cu, hvu, _⟩ := hP
  obtain ⟨nu, hnu⟩ : ∃ n, n = pub.length := ⟨_, rfl⟩
  rw [← hnu] at hvu
  subst hvu
  obtain ⟨am, cm, hvm, _⟩ := hM
  obtain ⟨nm, hnm⟩ : ∃ n, n = ms.length := ⟨_, rfl⟩
  rw [← hnm] at hvm
  subst hvm
  have hl1 := load_sig (w.alloc ob) w.heap.size (.int .i64 i) (.slice ap np cp) (.slice aq nq cq) (0, 0) (by rw [hob]; exact heap_alloc_new w _)
  have G1 : Hid ((w.alloc ob).heap[w.heap.size]? = some (.cells #[.int .i64 i, .slice ap np cp, .slice aq nq cq] 33 (0, 0))) := by rw [hob]; exact heap_alloc_new w _
  rw [hob] at K1 HR hl1 G1
  have HK1 := hide K1
  have HB := hide hb
  have HCC := hide hc
  clear hob K1 hLP hLQ hp hq hPB hMB hV hnu hnm hb hc hi hnq
  cases c
  · have hbf : b = false := by rw [unhide HB, verP, ← unhide HCC]; rfl
    subst hbf
    go_enter Tryd.func27, Tryd.ntmps27
    go_wp2_with fail
    refine (unhide HR).mono ?_
    rintro ee w2 ⟨rfl, K2⟩
    have HK2 := hide ((unhide HK1).trans K2)
    clear HR K2 HK1
    go_wp2_with fail
    go_ret
    exact ⟨rfl, unhide HK2⟩
  · have hrg := (rgtP_iff i ps qs).1 (unhide HCC).symm
    obtain ⟨⟨hi0, hi1⟩, ⟨hpl, hp32⟩, hql, hq32⟩ := hrg
    obtain ⟨k, rfl⟩ := Int.eq_ofNat_of_zero_le hi0
    have hk16 : k < 16 := by omega
    obtain ⟨d, hd⟩ : ∃ d, d = digP ms := ⟨_, rfl⟩
    obtain ⟨r, hr⟩ : ∃ r, r = rootP d ps := ⟨_, rfl⟩
    obtain ⟨t, ht⟩ : ∃ t, t = ledP r k qs := ⟨_, rfl⟩
    have hare : true = areP ps := by
      unfold areP
      symm
      simp only [Bool.and_eq_true, beq_iff_eq, List.all_eq_true]
      exact ⟨hpl, hp32⟩
    obtain ⟨S, hS⟩ : ∃ S, S = strOfNums t := ⟨_, rfl⟩
    obtain ⟨T, hT⟩ : ∃ T, T = strOfNums pub := ⟨_, rfl⟩
    have hrB : Bs r := by rw [hr]; exact sha_bs _
    have hrl : r.length ≤ 1000 := by rw [hr, rootP, sha_len]; omega
    have hbb : b = (S.toList == T.toList) := by
      have htB : Bs t := by rw [ht]; exact (ledP_ok r k qs hrl hrB).2
      rw [unhide HB, verP, ← unhide HCC, hS, hT, str_beq t pub htB (unhide HPB), ht, hr, hd]
      rfl
    have HRo := hide (fun w' (k' : Kp [] w w') => refroot_any _ ms (.slice ap np cp) lp d true r hd (by rw [unhide Hp]; exact hare) (by rw [unhide Hp]; exact hr) w' ((unhide HM).kept k' (by simp)) (unhide HMB) hml ((unhide HLP).kept k'))
    have HOK := hide (fun n => ledP_ok r k (qs.take n) hrl hrB)
    have HTT := hide ht
    have HQL := hide hql
    have HQ32 := hide hq32
    have hnq4 : nq = 4 := by rw [unhide HNQ]; exact hql
    subst hnq4
    have HS := hide hS
    have HT := hide hT
    clear hrB hrl hS hT hd hr ht hare HB HCC hp32 hq32 hpl hql hi0 hi1
    subst hbb
    go_enter Tryd.func27, Tryd.ntmps27
    go_wp2_with fail
    refine (unhide HR).mono ?_
    rintro ee w2 ⟨rfl, K2⟩
    have HK2 := hide ((unhide HK1).trans K2)
    have G2 := K2.heap (unhide G1) (by simp)
    have c1' : w2.cell? ⟨w.heap.size, 1, none⟩ = some (.slice ap np cp) := by rw [cell_of_row w2 w.heap.size 1 _ _ _ G2]; rfl
    have HG2 := hide G2
    clear HR K2 HK1 G1 G2
    go_wp2_with fail
    refine (unhide HRo w2 (unhide HK2)).mono ?_
    rintro ee w3 ⟨vr, rfl, hRoot, K3⟩
    obtain ⟨a3, m3, c3, rfl, R3⟩ := hRoot
    have HK3 := hide ((unhide HK2).trans K3)
    have HR3 := hide R3.sl
    have HG3 := hide (K3.heap (unhide HG2) (by simp))
    clear R3 K3 HRo HG2 HK2 c1'
    go_wp2_with fail
    go_loopw [7, 9] (fun v j wr => ∃ (n m cc : Nat) (ao : Option Addr), n ≤ 4 ∧ v = .slice ao m cc ∧ j = .int .i64 n ∧ Sl wr v (ledP r k (qs.take n)) ∧ Kp [] w wr ∧ Kp [] w3 wr) (fun _ j _ => 4 - (intOf j).toNat)
    case atStart => exact ⟨0, m3, c3, a3, by omega, rfl, rfl, unhide HR3, unhide HK3, Kp.refl _ _⟩
    case round =>
      clear HR3 HK3
      obtain ⟨n, m, cc, ao, hn, rfl, rfl, Sr, Kr, Kr3⟩ := hrel
      have HSr := hide Sr
      have HKr := hide Kr
      have HKr3 := hide Kr3
      have Gr := Kr3.heap (unhide HG3) (by simp)
      have e0 : wr.cell? ⟨w.heap.size, 0, none⟩ = some (.int .i64 k) := by rw [cell_of_row wr w.heap.size 0 _ _ _ Gr]; rfl
      have e2 : wr.cell? ⟨w.heap.size, 2, none⟩ = some (.slice aq 4 cq) := by rw [cell_of_row wr w.heap.size 2 _ _ _ Gr]; rfl
      clear Sr Kr Kr3 Gr
      by_cases hlt : n < 4
      · have hlt2 : (n : Int) < 4 := by omega
        have hnl : n < qs.length := by have := unhide HQL; omega
        obtain ⟨bq, oq, ay, ny, cy, rfl, hcy, hSy, hBy⟩ := lists_at (unhide HLQ) (unhide Hq) n hnl
        have hcw := (unhide HKr).cell hcy (by simp)
        have hE := led_take r k qs n hnl
        obtain ⟨x, hx⟩ : ∃ x, x = k / 2 ^ n := ⟨_, rfl⟩
        have hx16 : x < 16 := by rw [hx]; exact Nat.lt_of_le_of_lt (Nat.div_le_self _ _) hk16
        have hshr : (k : Int) / 2 ^ n = (x : Int) := by rw [hx, Int.natCast_ediv, Int.natCast_pow]; rfl
        have hshr2 : (k : Int) / 2 ^ ((n : Int)).toNat = (x : Int) := by rw [Int.toNat_natCast]; exact hshr
        have hand := and_one64 x hx16
        have hyl : (qs.getD n []).length ≤ 1000 := by have := unhide HQ32 _ (getD_mem hnl); omega
        have hok := unhide HOK n
        obtain ⟨tb, htb⟩ : ∃ tb, tb = x % 2 := ⟨_, rfl⟩
        have ht2 : tb < 2 := by omega
        rw [← htb] at hand
        rw [← hx, ← htb] at hE
        obtain ⟨Y, hY⟩ : ∃ Y, Y = qs.getD n [] := ⟨_, rfl⟩
        obtain ⟨X, hX⟩ : ∃ X, X = ledP r k (qs.take n) := ⟨_, rfl⟩
        rw [← hY] at hE hSy hBy hyl
        rw [← hX] at hE hok HSr
        have HSy := hide (hSy.kept (unhide HKr) (by simp))
        have HE := hide hE
        have HOk := hide hok
        have HBy := hide hBy
        clear hE hok hBy hSy hcy hx htb hY hX
        rcases (by omega : tb = 0 ∨ tb = 1) with rfl | rfl
        · rw [if_pos rfl] at HE
          obtain ⟨q, hq⟩ : ∃ q, q = nodeP X Y := ⟨_, rfl⟩
          have HL2 := hide (lists2 (unhide HSr) (unhide HOk).2 (unhide HSy) (unhide HBy))
          have HKa := hide ((Kp.refl [] wr).alloc (.cells #[.slice ao m cc, .slice ay ny cy] 24))
          have HC := hide (reftagged_any 14 _ _ q (by rw [hq, cat2]; rfl) _ (unhide HL2) (by omega) (by omega) (by simp) (by have := (unhide HOk).1; simp; omega))
          rw [← hq] at HE
          clear hq HL2
          go_wp2_with fail
          refine (unhide HC).mono ?_
          rintro ee w5 ⟨a5, m5, c5, rfl, R5, K5⟩
          have HS5 := hide R5.sl
          have HK5 := hide ((unhide HKr).trans ((unhide HKa).trans K5))
          have HK53 := hide ((unhide HKr3).trans ((unhide HKa).trans K5))
          clear R5 K5 HC HKa HSr HSy HKr HKr3 e0 e2 hcw
          go_wp2_with fail
          go_roundw
          case rel => exact ⟨n + 1, m5, c5, a5, by omega, rfl, by go_num, by rw [unhide HE]; exact unhide HS5, unhide HK5, unhide HK53⟩
          case measure => simp [intOf]; omega
        · rw [if_neg (by omega)] at HE
          obtain ⟨q, hq⟩ : ∃ q, q = nodeP Y X := ⟨_, rfl⟩
          have HL2 := hide (lists2 (unhide HSy) (unhide HBy) (unhide HSr) (unhide HOk).2)
          have HKa := hide ((Kp.refl [] wr).alloc (.cells #[.slice ay ny cy, .slice ao m cc] 24))
          have HC := hide (reftagged_any 14 _ _ q (by rw [hq, cat2]; rfl) _ (unhide HL2) (by omega) (by omega) (by simp) (by have := (unhide HOk).1; simp; omega))
          rw [← hq] at HE
          clear hq HL2
          go_wp2_with fail
          refine (unhide HC).mono ?_
          rintro ee w5 ⟨a5, m5, c5, rfl, R5, K5⟩
          have HS5 := hide R5.sl
          have HK5 := hide ((unhide HKr).trans ((unhide HKa).trans K5))
          have HK53 := hide ((unhide HKr3).trans ((unhide HKa).trans K5))
          clear R5 K5 HC HKa HSr HSy HKr HKr3 e0 e2 hcw
          go_wp2_with fail
          go_roundw
          case rel => exact ⟨n + 1, m5, c5, a5, by omega, rfl, by go_num, by rw [unhide HE]; exact unhide HS5, unhide HK5, unhide HK53⟩
          case measure => simp [intOf]; omega
      · obtain rfl : n = 4 := by omega
        have hT4 : qs.take 4 = qs := List.take_of_length_le (by have := unhide HQL; omega)
        rw [hT4, ← unhide HTT] at HSr
        have v1 := (unhide HSr).conv (P := Tryd.prog) 24 9 5 Tryd.underlying24 Tryd.underlying5 Tryd.underlying9
        have v2 := ((unhide HPu).kept (unhide HKr) (by simp)).conv (P := Tryd.prog) 24 9 5 Tryd.underlying24 Tryd.underlying5 Tryd.underlying9
        rw [← unhide HS] at v1
        rw [← unhide HT] at v2
        clear hT4 HSr e0 e2
        go_wp2_with fail
        go_ret
        exact ⟨rfl, unhide HKr⟩

theorem flat32 : ∀ (m : List (List Int)), (∀ x ∈ m, x.length = 32) → m.flatten.length = 32 * m.length := by
  intro m
  induction m with
  | nil => simp
  | cons a m ih =>
    intro hm
    rw [List.flatten_cons, List.length_append, ih (fun x hx => hm x (by simp [hx])), hm a (by simp), List.length_cons]
    omega

set_option maxRecDepth 100000 in
set_option maxHeartbeats 2000000 in
theorem refencode_any (v : Value) (i : Int) (ps qs : List (List Int)) (hr : rgtP i ps qs = true) (w : World) (hV : SigV w v i ps qs) :
    Calls Tryd.prog 42 #[v] w fun e w' => ∃ ao m c, e = .returned (.slice ao m c) ∧ Row w' w.heap.size (.slice ao m c) (encP i ps qs) ∧ Kp [] w w' := by
  obtain ⟨⟨hi0, hi1⟩, ⟨hpl, hp32⟩, hql, hq32⟩ := (rgtP_iff i ps qs).1 hr
  obtain ⟨ap, np, cp, aq, nq, cq, lp, lq, rfl, hLP, hp, hLQ, hq, hnp, hnq⟩ := hV.shape
  rw [hpl] at hnp
  rw [hql] at hnq
  subst hnp
  subst hnq
  obtain ⟨ob, hob⟩ : ∃ o : Obj, o = (.cells #[.int .i64 i, .slice ap 64 cp, .slice aq 4 cq] 33) := ⟨_, rfl⟩
  have K1 : Kp [] w (w.alloc ob) := (Kp.refl [] w).alloc ob
  have G1 : (w.alloc ob).heap[w.heap.size]? = some ob := heap_alloc_new w ob
  rw [hob] at K1 G1
  have HK1 := hide K1
  have HG1 := hide G1
  have HLP := hide hLP
  have HLQ := hide hLQ
  have Hp := hide hp
  have Hq := hide hq
  have H32 := hide hp32
  have H32q := hide hq32
  have HPL := hide hpl
  have HQL := hide hql
  have hwrap : IntKind.u32.wrap i = i := by simp [IntKind.wrap, IntKind.signed, IntKind.bits]; omega
  clear hob K1 G1 hLP hLQ hp hq hV hr hp32 hq32 hpl hql
  go_enter Tryd.func42, Tryd.ntmps42
  go_wp2_with fail
  refine (refnum_any i _).mono ?_
  rintro ee w2 ⟨a2, m2, c2, rfl, R2, K2⟩
  have HR2 : Hid (Row w2 w.heap.size (.slice a2 m2 c2) (be4 i)) := row_new R2 (unhide HK1)
  have HK2 := hide ((unhide HK1).trans K2)
  have G2 := K2.heap (unhide HG1) (by simp)
  have e1 : w2.cell? ⟨w.heap.size, 1, none⟩ = some (.slice ap 64 cp) := by rw [cell_of_row w2 w.heap.size 1 _ _ _ G2]; rfl
  have e2 : w2.cell? ⟨w.heap.size, 2, none⟩ = some (.slice aq 4 cq) := by rw [cell_of_row w2 w.heap.size 2 _ _ _ G2]; rfl
  obtain ⟨o2, ho2⟩ : ∃ o : Obj, o = (.cells #[.slice ap 64 cp, .slice aq 4 cq] 31) := ⟨_, rfl⟩
  obtain ⟨W, hW⟩ : ∃ W, W = w2.alloc o2 := ⟨_, rfl⟩
  have KW : Kp [] w2 W := by rw [hW]; exact (Kp.refl [] w2).alloc o2
  have GW : W.heap[w2.heap.size]? = some o2 := by rw [hW]; exact heap_alloc_new w2 o2
  rw [ho2] at GW
  have HWE : Hid (W = w2.alloc (.cells #[.slice ap 64 cp, .slice aq 4 cq] 31)) := by rw [hW, ho2]; exact rfl
  have HGW := hide GW
  have HRW := hide ((unhide HR2).kept KW (by simp))
  have HKW := hide ((unhide HK2).trans KW)
  have hblt : (Value.slice a2 m2 c2).ownBlock ≠ some w2.heap.size := fun e => by
    have := R2.lt e
    omega
  have HBL := hide hblt
  clear R2 K2 G2 KW GW hW ho2 HK1 HG1 HR2 HK2 hblt
  go_wp2_with fail
  rw [← unhide HWE]
  have hgz : w2.heap.size < W.heap.size := (Array.getElem?_eq_some_iff.1 (unhide HGW)).1
  obtain ⟨G, hG⟩ : ∃ G, G = w2.heap.size := ⟨_, rfl⟩
  rw [← hG] at HGW HBL hgz ⊢
  have HW2 := hide hG
  clear hG
  go_loopw [3, 17] (fun v j wr => ∃ (s m cc : Nat) (ao : Option Addr), s ≤ 2 ∧ v = .slice ao m cc ∧ j = .int .i64 s ∧ Row wr w.heap.size v (be4 i ++ (([ps, qs].take s).flatten).flatten) ∧ Kp [] w wr ∧ wr.heap[G]? = some (.cells #[.slice ap 64 cp, .slice aq 4 cq] 31) ∧ v.ownBlock ≠ some G) (fun _ j _ => 2 - (intOf j).toNat)
  case atStart => exact ⟨0, m2, c2, a2, by omega, rfl, rfl, by simpa using unhide HRW, unhide HKW, unhide HGW, unhide HBL⟩
  case round =>
    clear HRW HKW HGW HBL e1 e2 HWE
    obtain ⟨s, m, cc, ao, hs, rfl, rfl, Rr, Kr, Gr, Br⟩ := hrel
    have HRr := hide Rr
    have HKr := hide Kr
    have HGr := hide Gr
    have HBr := hide Br
    clear Rr Kr Gr Br
    obtain ⟨wo, hwo⟩ : ∃ wo, wo = wr := ⟨_, rfl⟩
    subst hwo
    rcases (by omega : s = 0 ∨ s = 1 ∨ s = 2) with rfl | rfl | rfl
    · have c0 : wo.cell? ⟨G, 0, none⟩ = some (.slice ap 64 cp) := by rw [cell_of_row wo G 0 _ _ _ (unhide HGr)]; rfl
      have HR0 : Hid (Row wo w.heap.size (.slice ao m cc) (be4 i ++ (ps.take 0).flatten)) := hide (by simpa using unhide HRr)
      clear HRr
      simp only [show ((0 : Nat) : Int) = 0 from rfl]
      go_wp2_with fail
      go_loopw [3, 6] (fun v j wi => ∃ (k m cc : Nat) (ao : Option Addr), k ≤ 64 ∧ v = .slice ao m cc ∧ j = .int .i64 k ∧ Row wi w.heap.size v (be4 i ++ (ps.take k).flatten) ∧ Kp [] w wi ∧ wi.heap[G]? = some (.cells #[.slice ap 64 cp, .slice aq 4 cq] 31) ∧ v.ownBlock ≠ some G) (fun _ j _ => 64 - (intOf j).toNat)
      case atStart => exact ⟨0, m, cc, ao, by omega, rfl, rfl, unhide HR0, unhide HKr, unhide HGr, unhide HBr⟩
      case round =>
        clear HR0 HKr HGr HBr c0
        obtain ⟨k, m4, cc4, ao4, hk, rfl, rfl, Ri, Ki, Gi, Bi⟩ := hrel
        have HRi := hide Ri
        have HKi := hide Ki
        have HGi := hide Gi
        have HBi := hide Bi
        clear Ri Ki Gi Bi
        by_cases hlt : k < 64
        · have hlt2 : (k : Int) < 64 := by omega
          have hkl : k < ps.length := by have := unhide HPL; omega
          obtain ⟨b', off, ay, ny, cy, rfl, hc, hSy, _⟩ := lists_at (unhide HLP) (unhide Hp) k hkl
          have hcw := (unhide HKi).cell hc (by simp)
          obtain ⟨Y, hY⟩ : ∃ Y, Y = ps.getD k [] := ⟨_, rfl⟩
          have HE : Hid (be4 i ++ (ps.take (k + 1)).flatten = be4 i ++ (ps.take k).flatten ++ Y) := hide (by rw [hY, List.take_succ_eq_append_getElem hkl, List.flatten_append, List.append_assoc]; simp [List.getD, hkl])
          have HYL : Hid (Y.length = 32) := by rw [hY]; exact unhide H32 _ (getD_mem hkl)
          rw [← hY] at hSy
          have HSy := hide (hSy.kept (unhide HKi) (by simp))
          have HFL : Hid ((be4 i ++ (ps.take k).flatten).length ≤ 10000) := hide (by rw [List.length_append, flat32 _ (fun x hx => unhide H32 x (List.mem_of_mem_take hx)), List.length_take, be4_len]; omega)
          clear hc hSy hY
          go_wp2_with (at_builtin; refine wpList_append_row rfl (.tmp 27) (.tmp 31) rfl w.heap.size (.slice ao4 m4 cc4) _ rfl (unhide HRi) _ Y rfl (unhide HSy) (by have := unhide HFL; have := unhide HYL; omega) (by have := (unhide HKi).size; omega) ?_; intro ao6 m6 c6 w6 R6 s6)
          go_roundw
          case rel =>
            refine ⟨k + 1, m6, c6, ao6, by omega, rfl, by go_num, by rw [unhide HE]; exact R6, (unhide HRi).step (unhide HKi) s6, s6.1.heap (unhide HGi) (fun hm => unhide HBi (by simpa using hm)), fun e => ?_⟩
            rcases s6.2 G e with h | h
            · exact unhide HBi h
            · have := (Array.getElem?_eq_some_iff.1 (unhide HGi)).1; omega
          case measure => simp [intOf]; omega
        · have hk64 : k = 64 := by omega
          have hlt2 : ¬ (k : Int) < 64 := by omega
          have HR1 : Hid (Row wr w.heap.size (.slice ao4 m4 cc4) (be4 i ++ (([ps, qs].take (0 + 1)).flatten).flatten)) := by
            refine hide ?_
            have := unhide HRi
            rw [List.take_of_length_le (by have := unhide HPL; omega)] at this
            simpa using this
          clear hk64 HRi
          go_wp2_with fail
          go_roundw
          case rel => exact ⟨0 + 1, m4, cc4, ao4, by omega, rfl, by go_num, unhide HR1, unhide HKi, unhide HGi, unhide HBi⟩
          case measure => simp [intOf]
    · have c0 : wo.cell? ⟨G, 1, none⟩ = some (.slice aq 4 cq) := by rw [cell_of_row wo G 1 _ _ _ (unhide HGr)]; rfl
      have HR0 : Hid (Row wo w.heap.size (.slice ao m cc) (be4 i ++ ps.flatten ++ (qs.take 0).flatten)) := hide (by simpa using unhide HRr)
      clear HRr
      simp only [show ((1 : Nat) : Int) = 1 from rfl]
      go_wp2_with fail
      go_loopw [3, 6] (fun v j wi => ∃ (k m cc : Nat) (ao : Option Addr), k ≤ 4 ∧ v = .slice ao m cc ∧ j = .int .i64 k ∧ Row wi w.heap.size v (be4 i ++ ps.flatten ++ (qs.take k).flatten) ∧ Kp [] w wi ∧ wi.heap[G]? = some (.cells #[.slice ap 64 cp, .slice aq 4 cq] 31) ∧ v.ownBlock ≠ some G) (fun _ j _ => 4 - (intOf j).toNat)
      case atStart => exact ⟨0, m, cc, ao, by omega, rfl, rfl, unhide HR0, unhide HKr, unhide HGr, unhide HBr⟩
      case round =>
        clear HR0 HKr HGr HBr c0
        obtain ⟨k, m4, cc4, ao4, hk, rfl, rfl, Ri, Ki, Gi, Bi⟩ := hrel
        have HRi := hide Ri
        have HKi := hide Ki
        have HGi := hide Gi
        have HBi := hide Bi
        clear Ri Ki Gi Bi
        by_cases hlt : k < 4
        · have hlt2 : (k : Int) < 4 := by omega
          have hkl : k < qs.length := by have := unhide HQL; omega
          obtain ⟨b', off, ay, ny, cy, rfl, hc, hSy, _⟩ := lists_at (unhide HLQ) (unhide Hq) k hkl
          have hcw := (unhide HKi).cell hc (by simp)
          obtain ⟨Y, hY⟩ : ∃ Y, Y = qs.getD k [] := ⟨_, rfl⟩
          have HE : Hid (be4 i ++ ps.flatten ++ (qs.take (k + 1)).flatten = be4 i ++ ps.flatten ++ (qs.take k).flatten ++ Y) := hide (by rw [hY, List.take_succ_eq_append_getElem hkl, List.flatten_append, List.append_assoc, List.append_assoc]; simp [List.getD, hkl])
          have HYL : Hid (Y.length = 32) := by rw [hY]; exact unhide H32q _ (getD_mem hkl)
          rw [← hY] at hSy
          have HSy := hide (hSy.kept (unhide HKi) (by simp))
          have HFL : Hid ((be4 i ++ ps.flatten ++ (qs.take k).flatten).length ≤ 10000) := hide (by rw [List.length_append, List.length_append, flat32 _ (fun x hx => unhide H32q x (List.mem_of_mem_take hx)), List.length_take, flat32 _ (unhide H32), be4_len]; have := unhide HPL; omega)
          clear hc hSy hY
          go_wp2_with (at_builtin; refine wpList_append_row rfl (.tmp 27) (.tmp 31) rfl w.heap.size (.slice ao4 m4 cc4) _ rfl (unhide HRi) _ Y rfl (unhide HSy) (by have := unhide HFL; have := unhide HYL; omega) (by have := (unhide HKi).size; omega) ?_; intro ao6 m6 c6 w6 R6 s6)
          go_roundw
          case rel =>
            refine ⟨k + 1, m6, c6, ao6, by omega, rfl, by go_num, by rw [unhide HE]; exact R6, (unhide HRi).step (unhide HKi) s6, s6.1.heap (unhide HGi) (fun hm => unhide HBi (by simpa using hm)), fun e => ?_⟩
            rcases s6.2 G e with h | h
            · exact unhide HBi h
            · have := (Array.getElem?_eq_some_iff.1 (unhide HGi)).1; omega
          case measure => simp [intOf]; omega
        · have hk64 : k = 4 := by omega
          have hlt2 : ¬ (k : Int) < 4 := by omega
          have HR1 : Hid (Row wr w.heap.size (.slice ao4 m4 cc4) (be4 i ++ (([ps, qs].take (1 + 1)).flatten).flatten)) := by
            refine hide ?_
            have := unhide HRi
            rw [List.take_of_length_le (by have := unhide HQL; omega)] at this
            simpa using this
          clear hk64 HRi
          go_wp2_with fail
          go_roundw
          case rel => exact ⟨1 + 1, m4, cc4, ao4, by omega, rfl, by go_num, unhide HR1, unhide HKi, unhide HGi, unhide HBi⟩
          case measure => simp [intOf]
    · have HR1 : Hid (Row wo w.heap.size (.slice ao m cc) (encP i ps qs)) := by
        refine hide ?_
        have := unhide HRr
        unfold encP
        simpa using this
      clear HRr
      go_wp2_with fail
      go_ret
      exact ⟨ao, m, cc, rfl, unhide HR1, unhide HKr⟩
end Go.Proofs.YtdioaohejoflcaaDoor

/-
  The contract of the reference's Same, of signatures that are alike.
-/
namespace Go.Proofs.YtdioaohejoflcaaDoor
open Go.RowKit
open Go.Proofs

set_option maxRecDepth 100000 in
set_option maxHeartbeats 2000000 in
theorem refsame_any (v u : Value) (i : Int) (ps qs : List (List Int)) (w : World) (hV : SigV w v i ps qs) (hU : SigV w u i ps qs) :
    Calls Tryd.prog 14 #[v, u] w fun e w' => e = .returned (.bool true) ∧ Kp [] w w' := by
  obtain ⟨ap, np, cp, aq, nq, cq, lp, lq, rfl, hP, hp, hQ, hq, hnp, hnq⟩ := hV.shape
  obtain ⟨ar, nr, cr, as', ns, cs, lr, ls, rfl, hR, hr, hS, hs, hnr, hns⟩ := hU.shape
  obtain rfl : nr = np := by omega
  obtain rfl : ns = nq := by omega
  have hb1 : nr ≤ 9223372036854775807 := by obtain ⟨_, _, e, h, _⟩ := hP; injection e with _ e2; omega
  have hb2 : ns ≤ 9223372036854775807 := by obtain ⟨_, _, e, h, _⟩ := hQ; injection e with _ e2; omega
  obtain ⟨o1, ho1⟩ : ∃ o : Obj, o = (.cells #[.int .i64 i, .slice ap nr cp, .slice aq ns cq] 33) := ⟨_, rfl⟩
  obtain ⟨o2, ho2⟩ : ∃ o : Obj, o = (.cells #[.int .i64 i, .slice ar nr cr, .slice as' ns cs] 33) := ⟨_, rfl⟩
  obtain ⟨W, hW⟩ : ∃ W, W = (w.alloc o1).alloc o2 := ⟨_, rfl⟩
  have K1 : Kp [] w W := by rw [hW]; exact ((Kp.refl [] w).alloc o1).alloc o2
  have G1 : W.heap[w.heap.size]? = some o1 := by rw [hW]; exact heap_alloc2_old w o1 o2
  have G2 : W.heap[w.heap.size + 1]? = some o2 := by rw [hW]; exact heap_alloc2_new w o1 o2
  rw [ho1] at G1
  rw [ho2] at G2
  have hWE : W = (w.alloc (.cells #[.int .i64 i, .slice ap nr cp, .slice aq ns cq] 33)).alloc (.cells #[.int .i64 i, .slice ar nr cr, .slice as' ns cs] 33) := by rw [hW, ho1, ho2]
  have HWE := hide hWE
  have HG1 := hide G1
  have HG2 := hide G2
  have HK1 := hide K1
  have HP := hide (hP.kept K1)
  have HQ := hide (hQ.kept K1)
  have HR := hide (hR.kept K1)
  have HS := hide (hS.kept K1)
  have Hxp := hide hp
  have Hxq := hide hq
  have Hxr := hide hr
  have Hxs := hide hs
  have HN1 := hide hnr
  have HN2 := hide hns
  have hb1i : (nr : Int) ≤ 9223372036854775807 := by omega
  have hb2i : (ns : Int) ≤ 9223372036854775807 := by omega
  clear hP hQ hR hS hp hq hr hs hnp hnq hnr hns hV hU ho1 ho2 hW hWE K1 G1 G2
  go_enter Tryd.func14, Tryd.ntmps14
  go_wp2_with fail
  rw [← unhide HWE]
  go_loopw [5] (fun j wr => ∃ k : Nat, k ≤ nr ∧ j = .int .i64 k ∧ Kp [] W wr) (fun j _ => nr - (intOf j).toNat)
  case atStart => exact ⟨0, by omega, rfl, Kp.refl _ _⟩
  case round =>
    obtain ⟨k, hk, rfl, Kr⟩ := hrel
    have HKr := hide Kr
    have hr1 : wr.cell? ⟨w.heap.size, 1, none⟩ = some (.slice ap nr cp) := by rw [cell_of_row wr w.heap.size 1 _ _ _ (Kr.heap (unhide HG1) (by simp))]; rfl
    have hr2 : wr.cell? ⟨w.heap.size + 1, 1, none⟩ = some (.slice ar nr cr) := by rw [cell_of_row wr (w.heap.size + 1) 1 _ _ _ (Kr.heap (unhide HG2) (by simp))]; rfl
    clear Kr
    by_cases hlt : k < nr
    · have hlt2 : (k : Int) < (nr : Int) := by omega
      obtain ⟨b1, o1, ax, nx, cx, rfl, hcx, hSx, hBx⟩ := lists_at (unhide HP) (unhide Hxp) k (by have := unhide HN1; omega)
      obtain ⟨b2, o2, ay, ny, cy, rfl, hcy, hSy, hBy⟩ := lists_at (unhide HR) (unhide Hxr) k (by have := unhide HN1; omega)
      have d0 : wr.drew.cell? ⟨w.heap.size, 1, none⟩ = some (.slice (some ⟨b1, o1, none⟩) nr cp) := (kp_drew wr).cell hr1 (by simp)
      have d0' : wr.drew.cell? ⟨w.heap.size + 1, 1, none⟩ = some (.slice (some ⟨b2, o2, none⟩) nr cr) := (kp_drew wr).cell hr2 (by simp)
      have kk := (unhide HKr).trans (kp_drew wr)
      have d1 : wr.drew.cell? ⟨b1, o1 + k, none⟩ = some (.slice ax nx cx) := kk.cell hcx (by simp)
      have d2 : wr.drew.cell? ⟨b2, o2 + k, none⟩ = some (.slice ay ny cy) := kk.cell hcy (by simp)
      have v1 := (hSx.kept kk (by simp)).conv (P := Tryd.prog) 24 9 5 Tryd.underlying24 Tryd.underlying5 Tryd.underlying9
      have v2 := (hSy.kept kk (by simp)).conv (P := Tryd.prog) 24 9 5 Tryd.underlying24 Tryd.underlying5 Tryd.underlying9
      obtain ⟨S, hSS⟩ : ∃ S, S = strOfNums (ps.getD k []) := ⟨_, rfl⟩
      rw [← hSS] at v1 v2
      have HKK := hide kk
      clear hcx hcy hSx hSy hBx hBy hSS kk
      go_wp2_with fail
      refine region_read Tryd.mixed (by kernel_rfl) ?_
      repeat (first | go_big_quiet_skip | (go_big_quiet_want; go_big_quiet_op; go_big_quiet_on))
      refine wpQuiet_nil ?_
      go_wp2_with fail
      go_roundw
      case rel => exact ⟨k + 1, by omega, by go_num, unhide HKK⟩
      case measure => simp [intOf]; omega
    · obtain rfl : k = nr := by omega
      have hlt2 : ¬ (k : Int) < (k : Int) := by omega
      have HKe := hide (unhide HKr)
      go_wp2_with fail
      go_loopw [6] (fun j wr => ∃ k : Nat, k ≤ ns ∧ j = .int .i64 k ∧ Kp [] W wr) (fun j _ => ns - (intOf j).toNat)
      case atStart => exact ⟨0, by omega, rfl, unhide HKe⟩
      case round =>
        obtain ⟨k, hk, rfl, Kr⟩ := hrel
        have HKr := hide Kr
        have hr1 : wr.cell? ⟨w.heap.size, 2, none⟩ = some (.slice aq ns cq) := by rw [cell_of_row wr w.heap.size 2 _ _ _ (Kr.heap (unhide HG1) (by simp))]; rfl
        have hr2 : wr.cell? ⟨w.heap.size + 1, 2, none⟩ = some (.slice as' ns cs) := by rw [cell_of_row wr (w.heap.size + 1) 2 _ _ _ (Kr.heap (unhide HG2) (by simp))]; rfl
        clear Kr
        by_cases hlt : k < ns
        · have hlt2 : (k : Int) < (ns : Int) := by omega
          obtain ⟨b1, o1, ax, nx, cx, rfl, hcx, hSx, hBx⟩ := lists_at (unhide HQ) (unhide Hxq) k (by have := unhide HN2; omega)
          obtain ⟨b2, o2, ay, ny, cy, rfl, hcy, hSy, hBy⟩ := lists_at (unhide HS) (unhide Hxs) k (by have := unhide HN2; omega)
          have d0 : wr.drew.cell? ⟨w.heap.size, 2, none⟩ = some (.slice (some ⟨b1, o1, none⟩) ns cq) := (kp_drew wr).cell hr1 (by simp)
          have d0' : wr.drew.cell? ⟨w.heap.size + 1, 2, none⟩ = some (.slice (some ⟨b2, o2, none⟩) ns cs) := (kp_drew wr).cell hr2 (by simp)
          have kk := (unhide HKr).trans (kp_drew wr)
          have d1 : wr.drew.cell? ⟨b1, o1 + k, none⟩ = some (.slice ax nx cx) := kk.cell hcx (by simp)
          have d2 : wr.drew.cell? ⟨b2, o2 + k, none⟩ = some (.slice ay ny cy) := kk.cell hcy (by simp)
          have v1 := (hSx.kept kk (by simp)).conv (P := Tryd.prog) 24 9 5 Tryd.underlying24 Tryd.underlying5 Tryd.underlying9
          have v2 := (hSy.kept kk (by simp)).conv (P := Tryd.prog) 24 9 5 Tryd.underlying24 Tryd.underlying5 Tryd.underlying9
          obtain ⟨S, hSS⟩ : ∃ S, S = strOfNums (qs.getD k []) := ⟨_, rfl⟩
          rw [← hSS] at v1 v2
          have HKK := hide kk
          clear hcx hcy hSx hSy hBx hBy hSS kk
          go_wp2_with fail
          refine region_read Tryd.mixed (by kernel_rfl) ?_
          repeat (first | go_big_quiet_skip | (go_big_quiet_want; go_big_quiet_op; go_big_quiet_on))
          refine wpQuiet_nil ?_
          go_wp2_with fail
          go_roundw
          case rel => exact ⟨k + 1, by omega, by go_num, unhide HKK⟩
          case measure => simp [intOf]; omega
        · obtain rfl : k = ns := by omega
          have hlt2 : ¬ (k : Int) < (k : Int) := by omega
          go_wp2_with fail
          go_ret
          exact ⟨rfl, (unhide HK1).trans (unhide HKr)⟩
end Go.Proofs.YtdioaohejoflcaaDoor

/-
  Regions that draw their order, whose operations only make memory, and mark what they made: of each operation a predicate tells what it yields, and stays true as long as cells stay; one look at each operation serves every order.
-/
namespace Go.Proofs.YtdioaohejoflcaaDoor
open Go.RowKit

/-- w' has all cells that w has. -/
structure Kc (w w' : World) : Prop where
  size : w.heap.size ≤ w'.heap.size
  cell : ∀ a v, w.cell? a = some v → w'.cell? a = some v
theorem Kc.refl (w : World) : Kc w w := ⟨Nat.le_refl _, fun _ _ h => h⟩
theorem Kp.kc {w w' : World} (h : Kp [] w w') : Kc w w' := ⟨h.size, fun _ _ hc => h.cell hc (by simp)⟩
def Tell.stableC (R : Tell) : Prop := ∀ v w w', Kc w w' → R v w → R v w'
theorem Sl.kc {w w' : World} {v : Value} {bs : List Int} (h : Sl w v bs) (k : Kc w w') : Sl w' v bs := by
  obtain ⟨ao, c, rfl, h1, h2, h3, h4⟩ := h
  exact ⟨ao, c, rfl, h1, h2, h3, fun a ha j u hu => k.cell _ _ (h4 a ha j u hu)⟩
theorem Lists.kc {w w' : World} {v : Value} {l : List (Value × List Int)} (h : Lists w v l) (k : Kc w w') : Lists w' v l := by
  obtain ⟨ao, c, rfl, h1, h2⟩ := h
  refine ⟨ao, c, rfl, h1, fun i hi => ?_⟩
  obtain ⟨b, off, e, h3, h4, h5⟩ := h2 i hi
  exact ⟨b, off, e, k.cell _ _ h3, h4.kc k, h5⟩
theorem stableC_is (c : Value) : Tell.stableC (Is c) := fun _ _ _ _ h => h
theorem stableC_sl (bs : List Int) : Tell.stableC (SlT bs) := fun _ _ _ k h => h.kc k
theorem stableC_lsm (ls : List (List Int)) : Tell.stableC (LsM ls) := fun _ _ _ k ⟨l, h, e⟩ => ⟨l, h.kc k, e⟩

def grownC (P : Program) (w0 w : World) (R : Tell) : Result Next → Prop
  | .ok (.value v) w' => (Kc w w' ∧ Kp [] w0 w') ∧ R v w'
  | .ok .skip w' => (Kc w w' ∧ Kp [] w0 w') ∧ R undef w'
  | .ok (.enter f args) w' => Calls P f args w' fun e w'' => ∃ v, e = .returned v ∧ (Kc w w'' ∧ Kp [] w0 w'') ∧ R v w''
  | _ => False

/-- What one operation must do. -/
def wantsC (P : Program) (ops : Array Oper) (o : Oper) (a : Act) (w0 w : World) (R : Tell) : Prop :=
  if Region.wanted o (yielded ops a.tmps) then grownC P w0 w R ((execOp a.eval o).run P w) else R undef w

def StepsC (P : Program) (ops : Array Oper) (a0 : Act) (w0 : World) (Rs : List Tell) : List Oper → List (List (Tmp × Option Nat)) → List Tell → Prop
  | o :: l, ks :: kss, R :: rs => (∀ a w, Kp [] w0 w → Knows a0 Rs a w ks → wantsC P ops o a w0 w R) ∧ StepsC P ops a0 w0 Rs l kss rs
  | [], [], [] => True
  | _, _, _ => False

section
variable {P : Program} {l : List Oper} {Q : Exit → Act → World → Prop} {a0 : Act} {w0 : World} {Rs : List Tell} {kss : List (List (Tmp × Option Nat))} {n i : Nat} {listed : Array Bool} {a : Act} {w w' : World} {o : Oper} {R : Tell} {v : Value}

theorem StepsC.at (ops : Array Oper) : ∀ {l : List Oper} {kss : List (List (Tmp × Option Nat))} {rs : List Tell}, StepsC P ops a0 w0 Rs l kss rs → l.length = rs.length ∧ l.length = kss.length ∧ ∀ (i : Nat) o ks R, l[i]? = some o → kss[i]? = some ks → rs[i]? = some R → ∀ a w, Kp [] w0 w → Knows a0 Rs a w ks → wantsC P ops o a w0 w R
  | [], [], [], _ => ⟨rfl, rfl, fun i o ks R h => by simp at h⟩
  | o :: l, ks :: kss, R :: rs, h => by
    obtain ⟨h1, h2, h3⟩ := StepsC.at ops h.2
    refine ⟨by simp [h1], by simp [h2], fun i o' ks' R' ho hk hR => ?_⟩
    cases i with
    | zero =>
      simp at ho hk hR
      subst ho; subst hk; subst hR
      exact h.1
    | succ i => exact h3 i o' ks' R' (by simpa using ho) (by simpa using hk) (by simpa using hR)
  | [], [], _ :: _, h => h.elim
  | [], _ :: _, [], h => h.elim
  | [], _ :: _, _ :: _, h => h.elim
  | _ :: _, [], [], h => h.elim
  | _ :: _, [], _ :: _, h => h.elim
  | _ :: _, _ :: _, [], h => h.elim

structure InvC (l : List Oper) (Rs : List Tell) (a0 : Act) (w0 : World) (listed : Array Bool) (a : Act) (w : World) : Prop where
  kp : Kp [] w0 w
  size : a.tmps.size = a0.tmps.size
  defers : a.defers = a0.defers
  ls : listed.size = l.length
  told : ∀ i d R, listed.getD i false = true → dstAt l i = some d → Rs[i]? = some R → R (a.eval (.tmp d)) w
  rest : ∀ t, (∀ i, listed.getD i false = true → dstAt l i ≠ some t) → a.eval (.tmp t) = a0.eval (.tmp t)
  closed : ∀ i o, l[i]? = some o → listed.getD i false = true → ∀ j ∈ odeps o, listed.getD j false = true

theorem knows_ofC (hinv : InvC l Rs a0 w0 listed a w) (hr : i ∈ Region.ready .any l.toArray listed) (ho : l[i]? = some o) (hlen : l.length = Rs.length) : ∀ ks : List (Tmp × Option Nat), (∀ k ∈ ks, lookOk l i o k = true) → Knows a0 Rs a w ks
  | [], _ => trivial
  | (t, some j) :: ks, h => by
    refine ⟨?_, knows_ofC hinv hr ho hlen ks (fun k hk => h k (by simp [hk]))⟩
    have h1 := h (t, some j) (by simp)
    simp only [lookOk, Bool.and_eq_true, List.contains_iff_mem, beq_iff_eq] at h1
    obtain ⟨hd, hdst⟩ := h1
    obtain ⟨e, he, hb, rfl⟩ := mem_deps.1 hd
    obtain ⟨_, o', ho', hall⟩ := mem_ready.1 hr
    have : o' = o := by have := ho'; rw [List.getElem?_toArray, ho] at this; exact (Option.some.inj this).symm
    subst this
    have hl := hall e he hb
    have hlt : e.on < Rs.length := by
      unfold dstAt at hdst
      cases hx : l[e.on]? with
      | none => simp [hx] at hdst
      | some _ => rw [← hlen]; exact (List.getElem?_eq_some_iff.1 hx).1
    rw [List.getD_eq_getElem?_getD, List.getElem?_eq_getElem hlt, Option.getD_some]
    exact hinv.told e.on t _ hl hdst (List.getElem?_eq_getElem hlt)
  | (t, none) :: ks, h => by
    refine ⟨?_, knows_ofC hinv hr ho hlen ks (fun k hk => h k (by simp [hk]))⟩
    have h1 := h (t, none) (by simp)
    simp only [lookOk, List.all_eq_true, List.mem_range, Bool.or_eq_true, beq_iff_eq, bne_iff_ne, ne_eq] at h1
    refine hinv.rest t (fun k hk hkd => ?_)
    have hnot : listed.getD i false = false := by
      have h0 := (mem_ready.1 hr).1
      rcases Nat.lt_or_ge i listed.size with h' | h'
      · simp [h'] at h0 ⊢; exact h0
      · simp [Array.getElem?_eq_none h']
    have hlt : k < l.length := by
      unfold dstAt at hkd
      cases hx : l[k]? with
      | none => simp [hx] at hkd
      | some _ => exact (List.getElem?_eq_some_iff.1 hx).1
    rcases h1 k hlt with (h2 | h2) | h2
    · subst h2; rw [hk] at hnot; cases hnot
    · exact h2 hkd
    · rw [List.getElem?_eq_getElem hlt] at h2
      simp only [Option.map_some, Option.getD_some, List.contains_iff_mem] at h2
      have := hinv.closed k _ (List.getElem?_eq_getElem hlt) hk i h2
      rw [this] at hnot; cases hnot

theorem fin_ofC (hok : regionOk l kss a0.tmps.size = true) (hlen : l.length = Rs.length) (hinv : InvC l Rs a0 w0 listed a w) (hall : ∀ i, i < l.length → listed.getD i false = true) :
    ∀ (m : List Oper) (rs : List Tell) (k : Nat) (b : Act), (∀ j, m[j]? = l[k + j]?) → (∀ j, rs[j]? = Rs[k + j]?) → b.tmps.size = a0.tmps.size → b.defers = a0.defers →
    (∀ t, (∀ j d, dstAt l (k + j) = some d → d ≠ t) → b.eval (.tmp t) = a.eval (.tmp t)) → FinR Q m rs b w → Q .normal a w
  | [], rs, k, b, hm, hrs, hbs, hbd, heq, h => by
    have hb : b = a := by
      cases b with
      | mk bt bd =>
        cases a with
        | mk at_ ad =>
          have e1 : bt.size = at_.size := hbs.trans hinv.size.symm
          have e2 : bd = ad := hbd.trans hinv.defers.symm
          subst e2
          congr 1
          refine Array.ext e1 (fun i h1 h2 => ?_)
          have := heq i (fun j d hd => by
            unfold dstAt at hd
            rw [← hm j] at hd
            simp at hd)
          simpa [Act.eval, h1, h2] using this
    subst hb
    cases rs <;> exact h
  | o :: m, [], k, b, hm, hrs, _, _, _, _ => by
    have h1 := hm 0
    have h2 := hrs 0
    simp only [List.getElem?_cons_zero, Nat.add_zero, List.getElem?_nil] at h1 h2
    have h3 : k < l.length := (List.getElem?_eq_some_iff.1 h1.symm).1
    have h4 := List.getElem?_eq_none_iff.1 h2.symm
    omega
  | o :: m, R :: rs, k, b, hm, hrs, hbs, hbd, heq, h => by
    have h1 : l[k]? = some o := by simpa using (hm 0).symm
    have h2 : Rs[k]? = some R := by simpa using (hrs 0).symm
    have h3 : k < l.length := (List.getElem?_eq_some_iff.1 h1).1
    obtain ⟨ks, d, _, hd, hdn, _, _, _⟩ := regionOk_at hok h1
    have hdk : dstAt l k = some d := by unfold dstAt; simp [h1, hd]
    have hR := hinv.told k d R (hall k h3) hdk h2
    refine fin_ofC hok hlen hinv hall m rs (k + 1) (b.put o.dst (a.eval (.tmp d))) (fun j => ?_) (fun j => ?_) ?_ ?_ ?_ (h _ hR)
    · have := hm (j + 1); simpa [Nat.add_assoc, Nat.add_comm 1 j] using this
    · have := hrs (j + 1); simpa [Nat.add_assoc, Nat.add_comm 1 j] using this
    · rw [hd]; simpa [Act.put] using hbs
    · rw [hd]; simpa [Act.put] using hbd
    · intro t ht
      rw [hd]
      by_cases htd : d = t
      · subst htd
        exact eval_put_same (by rw [hbs]; exact hdn)
      · rw [eval_put_ne htd]
        refine heq t (fun j d' hj => ?_)
        cases j with
        | zero => rw [Nat.add_zero, hdk] at hj; cases hj; exact htd
        | succ j => exact ht j d' (by rw [← hj]; congr 1; omega)

theorem inv_stepC (hok : regionOk l kss a0.tmps.size = true) (hst : ∀ R ∈ Rs, Tell.stableC R) (hinv : InvC l Rs a0 w0 listed a w) (hr : i ∈ Region.ready .any l.toArray listed) (ho : l[i]? = some o) (hR : Rs[i]? = some R)
    (hk : Kc w w' ∧ Kp [] w0 w') (hv : R v w') : InvC l Rs a0 w0 (listed.setIfInBounds i true) (a.put o.dst v) w' := by
  obtain ⟨ks, d, _, hd, hdn, _, _, _⟩ := regionOk_at hok ho
  have hdi : dstAt l i = some d := by unfold dstAt; simp [ho, hd]
  have hget : ∀ j, (listed.setIfInBounds i true).getD j false = true → j = i ∨ listed.getD j false = true := fun j hj => by
    by_cases hij : i = j
    · exact .inl hij.symm
    · rw [getD_set_ne false hij] at hj; exact .inr hj
  rw [hd]
  refine ⟨hk.2, ?_, ?_, ?_, ?_, ?_, ?_⟩
  · simpa [Act.put] using hinv.size
  · simpa [Act.put] using hinv.defers
  · simpa using hinv.ls
  · intro j dj Rj hj hdj hRj
    by_cases hji : j = i
    · subst hji
      rw [hdi] at hdj; cases hdj
      rw [hR] at hRj; cases hRj
      rw [eval_put_same (by rw [hinv.size]; exact hdn)]
      exact hv
    · have hl := (hget j hj).resolve_left hji
      have hne : d ≠ dj := fun e => hji (dst_inj hok (e ▸ hdj) hdi)
      rw [eval_put_ne hne]
      exact hst Rj (List.mem_of_getElem? hRj) _ _ _ hk.1 (hinv.told j dj Rj hl hdj hRj)
  · intro t ht
    have hlt : i < listed.size := by rw [hinv.ls]; exact (List.getElem?_eq_some_iff.1 ho).1
    have hne : d ≠ t := fun e => ht i (by simp [hlt]) (e ▸ hdi)
    rw [eval_put_ne hne]
    refine hinv.rest t (fun j hj => ht j ?_)
    exact getD_set_true hj
  · intro j oj hoj hj k hk'
    rcases hget j hj with h1 | h1
    · subst h1
      rw [ho] at hoj; cases hoj
      obtain ⟨e, he, hb, rfl⟩ := mem_deps.1 hk'
      obtain ⟨_, o', ho', hall⟩ := mem_ready.1 hr
      have : o' = o := by have := ho'; rw [List.getElem?_toArray, ho] at this; exact (Option.some.inj this).symm
      subst this
      exact getD_set_true (hall e he hb)
    · exact getD_set_true (hinv.closed j oj hoj h1 k hk')

theorem all_listedC (hok : regionOk l kss n = true) (hinv : InvC l Rs a0 w0 listed a w) (hr : Region.ready .any l.toArray listed = []) : ∀ i, i < l.length → listed.getD i false = true := by
  intro i
  induction i using Nat.strongRecOn with
  | _ i ih =>
    intro hi
    cases hc : listed.getD i false with
    | true => rfl
    | false =>
      have ho : l[i]? = some l[i] := List.getElem?_eq_getElem hi
      obtain ⟨_, _, _, _, _, hdeps, _, _⟩ := regionOk_at hok ho
      have : i ∈ Region.ready .any l.toArray listed := by
        rw [mem_ready]
        refine ⟨?_, l[i], by rw [List.getElem?_toArray]; exact ho, fun e he hb => ?_⟩
        · have hls : i < listed.size := by rw [hinv.ls]; exact hi
          simp [hls] at hc ⊢; exact hc
        · have hm : e.on ∈ odeps l[i] := mem_deps.2 ⟨e, he, hb, rfl⟩
          exact ih e.on (hdeps _ hm) (Nat.lt_trans (hdeps _ hm) hi)
      rw [hr] at this
      cases this

theorem wpAny_growC (hok : regionOk l kss a0.tmps.size = true) (hst : ∀ R ∈ Rs, Tell.stableC R) (hs : StepsC P l.toArray a0 w0 Rs l kss Rs) (hf : ∀ w', Kp [] w0 w' → FinR Q l Rs a0 w') :
    ∀ (fuel : Nat) (listed : Array Bool) (a : Act) (w : World), InvC l Rs a0 w0 listed a w → listed.toList.count false = fuel → wpAny P .any l.toArray Q fuel listed a w := by
  obtain ⟨hlen, _, hat⟩ := StepsC.at _ hs
  have hend : ∀ (listed : Array Bool) (a : Act) (w : World), InvC l Rs a0 w0 listed a w → Region.ready .any l.toArray listed = [] → Q .normal a w := fun listed a w hinv hr =>
    fin_ofC hok hlen hinv (all_listedC hok hinv hr) l Rs 0 a0 (by simp) (by simp) rfl rfl (fun t ht => (hinv.rest t (fun i _ hd => ht i t (by rw [Nat.zero_add]; exact hd) rfl)).symm) (hf w hinv.kp)
  intro fuel
  induction fuel with
  | zero =>
    intro listed a w hinv hc
    have hr : Region.ready .any l.toArray listed = [] := by
      refine List.eq_nil_iff_forall_not_mem.2 (fun j hj => ?_)
      have h0 := (mem_ready.1 hj).1
      have h1 := List.count_eq_zero.1 hc
      rcases Nat.lt_or_ge j listed.size with h' | h'
      · simp [h'] at h0
        exact h1 (by rw [← h0]; simp)
      · simp [Array.getElem?_eq_none h'] at h0
    exact ⟨hr, hend listed a w hinv hr⟩
  | succ fuel ih =>
    intro listed a w hinv hc
    refine ⟨hend listed a w hinv, fun i hi => ?_⟩
    obtain ⟨hun, o, ho', hall⟩ := mem_ready.1 hi
    have ho : l[i]? = some o := by rw [← List.getElem?_toArray]; exact ho'
    have hilt : i < l.length := (List.getElem?_eq_some_iff.1 ho).1
    obtain ⟨ks, d, hks, hd, hdn, _, hlk, _⟩ := regionOk_at hok ho
    have hR : Rs[i]? = some Rs[i] := List.getElem?_eq_getElem (by omega)
    have hw := hat i o ks Rs[i] ho hks hR a w hinv.kp (knows_ofC hinv hi ho hlen ks hlk)
    have hcnt : (listed.setIfInBounds i true).toList.count false = fuel := by
      have hls : i < listed.size := by rw [hinv.ls]; exact hilt
      have hg : listed.toList[i]'(by simpa using hls) = false := by simpa [hls] using hun
      rw [Array.toList_setIfInBounds, List.count_set (by simpa using hls), hg, hc]
      simp
    have next : ∀ v w', (Kc w w' ∧ Kp [] w0 w') → Rs[i] v w' → wpAny P .any l.toArray Q fuel (listed.setIfInBounds i true) (a.put o.dst v) w' := fun v w' hk hv =>
      ih _ _ _ (inv_stepC hok hst hinv hi ho hR hk hv) hcnt
    unfold wantsC at hw
    unfold wpOp
    simp only [ho']
    split
    · rename_i hwn
      rw [if_pos hwn] at hw
      refine .inl ?_
      unfold Oper.wp
      generalize (execOp a.eval o).run P w = r at *
      cases r with
      | ok x w' =>
        cases x <;> simp only [grownC] at hw <;> simp only [Oper.upon]
        case value v => exact next v w' hw.1 hw.2
        case skip => exact next undef w' hw.1 hw.2
        case enter f args =>
          refine hw.mono ?_
          rintro e w'' ⟨v, rfl, h1, h2⟩
          exact next v w'' h1 h2
      | halt x w' => simp only [grownC] at hw
    · rename_i hwn
      rw [if_neg hwn] at hw
      exact next undef w ⟨Kc.refl _, hinv.kp⟩ hw

/-- **One look at each operation serves every order.** -/
theorem region_growC {id : Nat} {w : World} (hm : P.follows .mixedOrders = true) (Rs : List Tell) (kss : List (List (Tmp × Option Nat))) (hok : regionOk l kss a0.tmps.size = true) (hst : ∀ R ∈ Rs, Tell.stableC R)
    (hs : StepsC P l.toArray a0 w.drew Rs l kss Rs) (hf : ∀ w', Kp [] w.drew w' → FinR Q l Rs a0 w') : (Code.region id l.toArray true).wp P Q a0 w := by
  refine wp_region_any hm ?_
  refine wpAny_growC (w0 := w.drew) hok hst hs hf _ _ _ _ ⟨Kp.refl _ _, rfl, rfl, by simp, fun i d R h => ?_, fun _ _ => rfl, fun i o _ h => ?_⟩ ?_
  · exfalso; revert h; simp only [Array.getD_eq_getD_getElem?, Array.getElem?_replicate]; split <;> simp
  · exfalso; revert h; simp only [Array.getD_eq_getD_getElem?, Array.getElem?_replicate]; split <;> simp
  · simp
end

theorem wantsC_of {P : Program} {ops : Array Oper} {o : Oper} {a : Act} {w0 w : World} {R : Tell} (hk : Kp [] w0 w) (h : wants P ops o a w R) : wantsC P ops o a w0 w R := by
  unfold wants at h
  unfold wantsC
  split
  · rename_i hw
    rw [if_pos hw] at h
    generalize (execOp a.eval o).run P w = r at *
    cases r with
    | ok x w' =>
      cases x <;> simp only [grown] at h <;> simp only [grownC]
      case value v => exact ⟨⟨h.1.kc, hk.trans h.1⟩, h.2⟩
      case skip => exact ⟨⟨h.1.kc, hk.trans h.1⟩, h.2⟩
      case enter f args =>
        refine h.mono ?_
        rintro e w'' ⟨v, rfl, h1, h2⟩
        exact ⟨v, rfl, ⟨h1.kc, hk.trans h1⟩, h2⟩
    | halt x w' => simp only [grown] at h
  · rename_i hw
    rw [if_neg hw] at h
    exact h
theorem steps_consC {P : Program} {ops : Array Oper} {a0 : Act} {w0 : World} {Rs : List Tell} {o : Oper} {l : List Oper} {ks : List (Tmp × Option Nat)} {kss : List (List (Tmp × Option Nat))} {R : Tell} {rs : List Tell}
    (h1 : ∀ a w, Kp [] w0 w → Knows a0 Rs a w ks → wantsC P ops o a w0 w R) (h2 : StepsC P ops a0 w0 Rs l kss rs) : StepsC P ops a0 w0 Rs (o :: l) (ks :: kss) (R :: rs) := ⟨h1, h2⟩

/-- A slice of a constant's bytes, new since. -/
def LitT (base : Nat) (bs : List Int) : Tell := fun v w => ∃ g c, v = .slice (some ⟨g, 0, none⟩) bs.length c ∧ base ≤ g ∧ Sl w v bs
theorem stableC_lit (base : Nat) (bs : List Int) : Tell.stableC (LitT base bs) := fun _ _ _ k ⟨g, c, h1, h2, h3⟩ => ⟨g, c, h1, h2, h3.kc k⟩
theorem freeze_kc (w : World) (p : Addr) (n : Nat) : Kc w (w.freeze p n) := by
  unfold World.freeze
  split
  · exact Kc.refl _
  · refine ⟨by simp, fun a v h => ?_⟩
    unfold World.cell? at h ⊢
    by_cases hb : p.block = a.block
    · rw [← hb] at h ⊢
      cases hx : w.heap[p.block]? with
      | none => rw [hx] at h; cases h
      | some o =>
        have hlt : p.block < w.heap.size := (Array.getElem?_eq_some_iff.1 hx).1
        have hx' : w.heap[p.block] = o := by simpa [Array.getElem?_eq_getElem hlt] using hx
        rw [hx] at h
        rw [Array.getElem?_eq_getElem (by simpa using hlt), Array.getElem_modify_self, hx']
        cases o <;> simp_all
    · rw [Array.getElem?_modify, if_neg (by simpa using hb)]
      exact h
theorem freeze_kp {w0 w : World} (hk : Kp [] w0 w) (p : Addr) (n : Nat) (hp : w0.heap.size ≤ p.block) : Kp [] w0 (w.freeze p n) := by
  unfold World.freeze
  split
  · exact hk
  · refine ⟨hk.os, hk.tape, hk.output, by simpa using hk.size, fun k hlt hn => ?_⟩
    rw [Array.getElem?_modify, if_neg (by show ¬ p.block = k; omega)]
    exact hk.block k hlt hn
theorem run_convert_lit (w : World) (a : Addr) (n c : Nat) : ∃ w', (convert 24 24 (.slice (some a) n c)).run Tryd.prog w = .ok (.slice (some a) n c) w' ∧ Kc w w' ∧ ∀ w0, Kp [] w0 w → w0.heap.size ≤ a.block → Kp [] w0 w' := by
  simp [convert, run_underlying Tryd.underlying24, run_underlying Tryd.underlying5, markStringish]
  cases h : w.shape? a.block with
  | none => exact ⟨w, by simp, Kc.refl _, fun _ k _ => k⟩
  | some x => exact ⟨w.freeze ⟨a.block, x.2, none⟩ 1, by simp, freeze_kc _ _ _, fun _ k hb => freeze_kp k _ _ hb⟩
theorem grown_lit {o : Oper} {a : Act} {w0 w : World} (hk : Kp [] w0 w) (bs : List Int) (ho : (execOp a.eval o).run Tryd.prog w = .ok (.value (.slice (some ⟨w.heap.size, 0, none⟩) bs.length bs.length)) (w.alloc (.cells (bs.map (Value.int .u8)).toArray 5))) (hm : bs.length ≤ maxLen) : grown Tryd.prog w (LitT w0.heap.size bs) ((execOp a.eval o).run Tryd.prog w) := by
  rw [ho]
  exact ⟨(Kp.refl _ _).alloc _, w.heap.size, bs.length, rfl, hk.size, Sl.block (cs := bs) (t := 5) (fr := (0, 0)) (heap_alloc_new w _) hm⟩
theorem wantsC_lit {ops : Array Oper} {o : Oper} {a : Act} {w0 w : World} (hk : Kp [] w0 w) (hw : Region.wanted o (yielded ops a.tmps) = true) (x : Operand) (ho : o.op = .convert 24 24 x) (bs : List Int) (h : LitT w0.heap.size bs (a.eval x) w) : wantsC Tryd.prog ops o a w0 w (SlT bs) := by
  obtain ⟨g, c, h1, h2, h3⟩ := h
  obtain ⟨w', hr, k1, k2⟩ := run_convert_lit w ⟨g, 0, none⟩ bs.length c
  unfold wantsC
  rw [if_pos hw]
  have e : (execOp a.eval o).run Tryd.prog w = .ok (.value (.slice (some ⟨g, 0, none⟩) bs.length c)) w' := by
    unfold execOp
    simp only [ho, h1, Sem.run_bind, hr, Result.andThen_ok, Sem.run_pure]
  rw [e]
  rw [h1] at h3
  exact ⟨⟨k1, k2 w0 hk h2⟩, h3.kc k1⟩
end Go.Proofs.YtdioaohejoflcaaDoor

/-
  The contract of the law package's known.
-/
namespace Go.Proofs.YtdioaohejoflcaaDoor
open Go.RowKit
open Go.Proofs

theorem verP_zero (pub ms : List Int) : verP pub ms 0 [] [] = false := by
  unfold verP
  have : rgtP 0 [] [] = false := by rfl
  rw [this]; rfl
theorem wants_none {P : Program} {ops : Array Oper} {o : Oper} {a : Act} {w : World} {R : Tell} {g : Nat} {b : Bool} {d : Tmp} (hg : o.guard = some (g, b)) (hd : (ops[g]?).bind (·.dst) = some d) (he : a.eval (.tmp d) = undef) (h : R undef w) : wants P ops o a w R := by
  have h2 : yielded ops a.tmps g = none := by
    unfold yielded
    rw [hd]
    simp only [Option.bind_some]
    have h1 : a.tmps[d]?.getD undef = undef := by simpa [Act.eval] using he
    cases hx : a.tmps[d]? with
    | none => rfl
    | some x =>
      rw [hx, Option.getD_some] at h1
      subst h1
      rfl
  unfold wants
  rw [if_neg (by simp [Region.wanted, hg, h2])]
  exact h
theorem grown_loadsig {o : Oper} {a : Act} {w : World} {R : Tell} (p : Operand) (ho : o.op = .load 33 p) (g : Nat) (x y z : Value) (fr : Nat × Nat) (hp : a.eval p = .pointer (some ⟨g, 0, none⟩)) (hg : w.heap[g]? = some (.cells #[x, y, z] 33 fr)) (hR : R (.agg #[x, y, z]) w) : grown Tryd.prog w R ((execOp a.eval o).run Tryd.prog w) := by
  refine grown_run ?_ (Kp.refl _ _) hR
  unfold execOp
  simp only [ho, hp, Instr.loadAt, Instr.sureAddr, Sem.run_bind, Sem.run_pure, Result.andThen_ok, load_sig w g x y z fr hg]

set_option maxRecDepth 100000 in
set_option maxHeartbeats 4000000 in
theorem sknown_any (w : World) (hG : Gl w) : Calls Tryd.prog 20 #[] w fun e w' => e = .returned (.bool true) ∧ Kp [] w w' := by
  have HG := hide hG
  clear hG
  go_enter Tryd.func20, Tryd.ntmps20
  go_wp2_with fail
  refine (seed_any 1 w (by omega)).mono ?_
  rintro ee w1 ⟨a1, m1, c1, sd, rfl, R1, hsl, hsb, K1⟩
  have HS1 := hide R1.sl
  have HK1 := hide K1
  have HSB := hide hsb
  have HSL := hide hsl
  clear R1 K1 hsb hsl
  obtain ⟨ob, hob⟩ : ∃ o : Obj, o = (.cells #[.int .u8 109] 5 (1, 2)) := ⟨_, rfl⟩
  have kc1 := Lib.run_convert_bytes_const (P := Tryd.prog) w1 24 5 #[.int .u8 109] 1 1 Tryd.underlying24 Tryd.underlying5
  rw [show (#[Value.int .u8 109].size, #[Value.int .u8 109].size + 1) = (1, 2) from rfl, ← hob] at kc1
  have HM1 : Hid (Sl (w1.alloc ob) (.slice (some ⟨w1.heap.size, 0, none⟩) 1 1) [109]) := by rw [hob]; exact sl109 w1
  have Ka : Kp [] w1 (w1.alloc ob) := (Kp.refl [] w1).alloc ob
  obtain ⟨d, hd⟩ : ∃ d, d = digP [109] := ⟨_, rfl⟩
  have HD := hide hd
  have HC1 := hide (ssign_any (.slice a1 m1 c1) sd 15 _ [109] d hd (w1.alloc ob) ((unhide HS1).kept Ka (by simp)) (unhide HSB) (unhide HSL) (by omega) (unhide HM1) bs109 (by simp) ((unhide HG).kept ((unhide HK1).trans Ka) (by simp)))
  have HKa := hide Ka
  have HOB := hide hob
  clear hd Ka hob
  go_wp2_with fail
  refine (unhide HC1).mono ?_
  rintro ee w2 ⟨v2, rfl, V2, K2⟩
  obtain ⟨ap, np, cp, aq, nq, cq, lp, lq, hv2, hLP, hp, hLQ, hq, hnp, hnq⟩ := V2.shape
  subst hv2
  have HV2 := hide V2
  have HK2 := hide ((unhide HK1).trans ((unhide HKa).trans K2))
  have HS2 := hide (((unhide HS1).kept (unhide HKa) (by simp)).kept K2 (by simp))
  have Ga := heap_alloc_new w2 (.cells #[.int .i64 0, .slice none 0 0, .slice none 0 0] 33)
  clear hLP hp hLQ hq hnp hnq V2 K2 HC1 HKa kc1 HS1 HM1 HK1
  go_wp2_with (refine wpList_store_sig rfl (.tmp 2) (.tmp 12) rfl w2.heap.size rfl _ _ _ _ _ _ Ga rfl ⟨rfl, rfl, rfl⟩ ?_; intro w3 G3 K3; refine Hid.out ?_)
  have Kb : Kp [] w2 w3 := ((Kp.refl [] w2).alloc (.cells #[.int .i64 0, .slice none 0 0, .slice none 0 0] 33)).then K3 (by simp)
  have kc2 := Lib.run_convert_bytes_const (P := Tryd.prog) w3 24 5 #[.int .u8 109] 1 1 Tryd.underlying24 Tryd.underlying5
  rw [show (#[Value.int .u8 109].size, #[Value.int .u8 109].size + 1) = (1, 2) from rfl, ← unhide HOB] at kc2
  have Kc' : Kp [] w3 (w3.alloc ob) := (Kp.refl [] w3).alloc ob
  obtain ⟨g2, hg2⟩ : ∃ g, g = w2.heap.size := ⟨_, rfl⟩
  rw [← hg2] at G3 ⊢
  have HC2 := hide (ssign_used (.slice a1 m1 c1) sd 16 (.slice (some ⟨w3.heap.size, 0, none⟩) 1 1) (w3.alloc ob) (((unhide HS2).kept Kb (by simp)).kept Kc' (by simp)) (unhide HSL) (by omega))
  have HKb := hide Kb
  have HKc := hide Kc'
  have HG3 := hide G3
  clear Ga K3 G3 hg2 Kb Kc'
  refine hide ?_
  go_wp2_with fail
  refine (unhide HC2).mono ?_
  rintro ee w4 ⟨rfl, K4⟩
  have HKd := hide ((unhide HKc).trans K4)
  have Ga := heap_alloc_new w4 (.cells #[.int .i64 0, .slice none 0 0, .slice none 0 0] 33)
  clear K4 HC2 kc2 HKc
  go_wp2_with (refine wpList_store_sig rfl (.tmp 4) (.tmp 19) rfl w4.heap.size rfl _ _ _ _ _ _ Ga rfl ⟨rfl, rfl, rfl⟩ ?_; intro w5 G5 K5)
  have Ke : Kp [] w4 w5 := ((Kp.refl [] w4).alloc (.cells #[.int .i64 0, .slice none 0 0, .slice none 0 0] 33)).then K5 (by simp)
  have K25 : Kp [] w2 w5 := ((unhide HKb).trans (unhide HKd)).trans Ke
  have K35 : Kp [] w3 w5 := (unhide HKd).trans Ke
  have HG5 : Hid (∀ w', Kp [] w5.drew w' → w'.heap[g2]? = some (.cells #[.int .i64 ((15 : Nat) : Int), .slice ap np cp, .slice aq nq cq] 33 (0, 0))) := fun w' k' => ((K35.trans (kp_drew w5)).trans k').heap (unhide HG3) (by simp)
  have HSS : Hid (∀ w', Kp [] w5.drew w' → Sl w' (.slice a1 m1 c1) sd) := fun w' k' => (unhide HS2).kept ((K25.trans (kp_drew w5)).trans k') (by simp)
  have HVV : Hid (∀ w', Kp [] w5.drew w' → SigV w' (.agg #[.int .i64 ((15 : Nat) : Int), .slice ap np cp, .slice aq nq cq]) ((15 : Nat) : Int) (sgnP sd ((15 : Nat) : Int) d) (pthP sd 15 4)) := fun w' k' => (unhide HV2).kept ((K25.trans (kp_drew w5)).trans k')
  have HGL : Hid (∀ w', Kp [] w5.drew w' → Gl w') := fun w' k' => (unhide HG).kept ((unhide HK2).trans ((K25.trans (kp_drew w5)).trans k')) (by simp)
  have HK5 := hide ((unhide HK2).trans K25)
  obtain ⟨tp, htp⟩ : ∃ t, t = topP sd := ⟨_, rfl⟩
  have HTP := hide htp
  have HTB : Hid (Bs tp) := by rw [htp]; exact (topP_ok sd).2
  have HVT : Hid (true = verP tp [109] ((15 : Nat) : Int) (sgnP sd ((15 : Nat) : Int) d) (pthP sd 15 4)) := by rw [htp, unhide HD]; exact (verP_sgn sd [109] 15 (by omega)).symm
  clear G5 K5 Ga Ke K25 K35 htp HKb HKd HG3 HV2 HS2
  go_wp2_with fail
  refine region_growC Tryd.mixed [Is (.int .i64 0), Is (.bool true), Is (.bool true), Is (.slice a1 m1 c1), SlT (tp), LitT w5.drew.heap.size [109], SlT ([109]), Is (.agg #[.int .i64 15, .slice ap np cp, .slice aq nq cq]), Is (.bool true), Is (.bool true), Is (.bool true), Is (.int .i64 23), Is (.bool true), Is (.bool true), Is (.bool true), Is (.slice a1 m1 c1), SlT (tp), LitT w5.drew.heap.size [109], SlT ([109]), Is (.agg #[.int .i64 0, .slice none 0 0, .slice none 0 0]), Is (.bool false), Is (.bool true), Is (.bool true), Is (.bool true)] [[(3, none)], [(21, some 0)], [(22, some 1)], [(1, none), (23, some 2)], [(24, some 3), (23, some 2)], [(23, some 2)], [(26, some 5), (23, some 2)], [(2, none), (23, some 2)], [(25, some 4), (27, some 6), (28, some 7), (23, some 2)], [(23, some 2), (29, some 8)], [(30, some 9)], [(5, none), (31, some 10)], [(32, some 11), (31, some 10)], [(31, some 10), (33, some 12)], [(34, some 13)], [(1, none), (35, some 14)], [(36, some 15), (35, some 14)], [(35, some 14)], [(38, some 17), (35, some 14)], [(35, some 14)], [(37, some 16), (39, some 18), (40, some 19), (35, some 14)], [(41, some 20), (35, some 14)], [(35, some 14), (42, some 21)], [(43, some 22)]] (by kernel_rfl) ?_ ?_ ?_
  · simp only [List.mem_cons, List.not_mem_nil, or_false]
    intro R hR
    rcases hR with rfl | rfl | rfl | rfl | rfl | rfl | rfl | rfl | rfl | rfl | rfl | rfl | rfl | rfl | rfl | rfl | rfl | rfl | rfl | rfl | rfl | rfl | rfl | rfl <;> first | exact stableC_is _ | exact stableC_sl _ | exact stableC_lit _ _
  · refine steps_consC (fun a w hk hn => ?_) ?_
    · have h3 : a.eval (.tmp 3) = .int .i64 0 := hn.1
      clear hn
      refine wantsC_of hk ?_
      refine wants_plain rfl ?_
      exact grown_move (.tmp 3) rfl h3
    refine steps_consC (fun a w hk hn => ?_) ?_
    · have h21 : a.eval (.tmp 21) = .int .i64 0 := hn.1
      clear hn
      refine wantsC_of hk ?_
      refine wants_plain rfl ?_
      refine grown_run (v := .bool true) ?_ (Kp.refl _ _) rfl
      obtain ⟨ρ, hρ, hc, hf, hg⟩ := eval_is a
      rw [hρ] at h21 ⊢
      simp [go_sem, hc, h21]
    refine steps_consC (fun a w hk hn => ?_) ?_
    · have h22 : a.eval (.tmp 22) = .bool true := hn.1
      clear hn
      refine wantsC_of hk ?_
      refine wants_plain rfl ?_
      exact grown_move (.tmp 22) rfl h22
    refine steps_consC (fun a w hk hn => ?_) ?_
    · have h1 : a.eval (.tmp 1) = .slice a1 m1 c1 := hn.1
      have h23 : a.eval (.tmp 23) = .bool true := hn.2.1
      clear hn
      refine wantsC_of hk ?_
      refine wants_guard (d := 23) rfl rfl h23 ?_
      exact grown_move (.tmp 1) rfl h1
    refine steps_consC (fun a w hk hn => ?_) ?_
    · have h24 : a.eval (.tmp 24) = .slice a1 m1 c1 := hn.1
      have h23 : a.eval (.tmp 23) = .bool true := hn.2.1
      clear hn
      refine wantsC_of hk ?_
      refine wants_guard (d := 23) rfl rfl h23 ?_
      refine grown_call (f := 11) rfl Tryd.func11 (by kernel_rfl) (by kernel_rfl) ?_
      simp only [List.map_toArray, List.map_cons, List.map_nil, h24]
      refine (spublic_any _ sd tp (unhide HTP) w (unhide HSS w hk) (unhide HSB) (unhide HSL) (unhide HGL w hk)).mono ?_
      rintro e w' ⟨ao, m, c, rfl, R, K⟩
      exact ⟨_, rfl, K, R⟩
    refine steps_consC (fun a w hk hn => ?_) ?_
    · have h23 : a.eval (.tmp 23) = .bool true := hn.1
      clear hn
      refine wantsC_of hk ?_
      refine wants_guard (d := 23) rfl rfl h23 ?_
      refine grown_lit hk [109] ?_ (by simp [maxLen])
      obtain ⟨ρ, hρ, hc, hf, hg⟩ := eval_is a
      rw [hρ]
      simp [go_sem, hc]
    refine steps_consC (fun a w hk hn => ?_) ?_
    · have h26 : (LitT w5.drew.heap.size [109]) (a.eval (.tmp 26)) w := hn.1
      have h23 : a.eval (.tmp 23) = .bool true := hn.2.1
      clear hn
      exact wantsC_lit hk (by rw [wanted_iff (d := 23) rfl rfl h23]; rfl) (.tmp 26) rfl [109] h26
    refine steps_consC (fun a w hk hn => ?_) ?_
    · have h2 : a.eval (.tmp 2) = .pointer (some ⟨g2, 0, none⟩) := hn.1
      have h23 : a.eval (.tmp 23) = .bool true := hn.2.1
      clear hn
      refine wantsC_of hk ?_
      refine wants_guard (d := 23) rfl rfl h23 ?_
      exact grown_loadsig (.tmp 2) rfl g2 _ _ _ _ h2 (unhide HG5 w hk) rfl
    refine steps_consC (fun a w hk hn => ?_) ?_
    · have h25 : Sl w (a.eval (.tmp 25)) (tp) := hn.1
      have h27 : Sl w (a.eval (.tmp 27)) ([109]) := hn.2.1
      have h28 : a.eval (.tmp 28) = .agg #[.int .i64 15, .slice ap np cp, .slice aq nq cq] := hn.2.2.1
      have h23 : a.eval (.tmp 23) = .bool true := hn.2.2.2.1
      clear hn
      refine wantsC_of hk ?_
      refine wants_guard (d := 23) rfl rfl h23 ?_
      refine grown_call (f := 16) rfl Tryd.func16 (by kernel_rfl) (by kernel_rfl) ?_
      simp only [List.map_toArray, List.map_cons, List.map_nil, h28]
      refine (sverify_any _ tp _ [109] _ _ _ _ true (unhide HVT) w h25 (unhide HTB) h27 bs109 (by simp) (unhide HVV w hk) (unhide HGL w hk)).mono ?_
      rintro e w' ⟨rfl, K⟩
      exact ⟨_, rfl, K, rfl⟩
    refine steps_consC (fun a w hk hn => ?_) ?_
    · have h23 : a.eval (.tmp 23) = .bool true := hn.1
      have h29 : a.eval (.tmp 29) = .bool true := hn.2.1
      clear hn
      refine wantsC_of hk ?_
      refine wants_plain rfl ?_
      exact grown_pick _ _ _ true rfl h23 h29
    refine steps_consC (fun a w hk hn => ?_) ?_
    · have h30 : a.eval (.tmp 30) = .bool true := hn.1
      clear hn
      refine wantsC_of hk ?_
      refine wants_plain rfl ?_
      exact grown_move (.tmp 30) rfl h30
    refine steps_consC (fun a w hk hn => ?_) ?_
    · have h5 : a.eval (.tmp 5) = .int .i64 23 := hn.1
      have h31 : a.eval (.tmp 31) = .bool true := hn.2.1
      clear hn
      refine wantsC_of hk ?_
      refine wants_guard (d := 31) rfl rfl h31 ?_
      exact grown_move (.tmp 5) rfl h5
    refine steps_consC (fun a w hk hn => ?_) ?_
    · have h32 : a.eval (.tmp 32) = .int .i64 23 := hn.1
      have h31 : a.eval (.tmp 31) = .bool true := hn.2.1
      clear hn
      refine wantsC_of hk ?_
      refine wants_guard (d := 31) rfl rfl h31 ?_
      refine grown_run (v := .bool true) ?_ (Kp.refl _ _) rfl
      obtain ⟨ρ, hρ, hc, hf, hg⟩ := eval_is a
      rw [hρ] at h32 ⊢
      simp [go_sem, hc, h32]
    refine steps_consC (fun a w hk hn => ?_) ?_
    · have h31 : a.eval (.tmp 31) = .bool true := hn.1
      have h33 : a.eval (.tmp 33) = .bool true := hn.2.1
      clear hn
      refine wantsC_of hk ?_
      refine wants_plain rfl ?_
      exact grown_pick _ _ _ true rfl h31 h33
    refine steps_consC (fun a w hk hn => ?_) ?_
    · have h34 : a.eval (.tmp 34) = .bool true := hn.1
      clear hn
      refine wantsC_of hk ?_
      refine wants_plain rfl ?_
      exact grown_move (.tmp 34) rfl h34
    refine steps_consC (fun a w hk hn => ?_) ?_
    · have h1 : a.eval (.tmp 1) = .slice a1 m1 c1 := hn.1
      have h35 : a.eval (.tmp 35) = .bool true := hn.2.1
      clear hn
      refine wantsC_of hk ?_
      refine wants_guard (d := 35) rfl rfl h35 ?_
      exact grown_move (.tmp 1) rfl h1
    refine steps_consC (fun a w hk hn => ?_) ?_
    · have h36 : a.eval (.tmp 36) = .slice a1 m1 c1 := hn.1
      have h35 : a.eval (.tmp 35) = .bool true := hn.2.1
      clear hn
      refine wantsC_of hk ?_
      refine wants_guard (d := 35) rfl rfl h35 ?_
      refine grown_call (f := 11) rfl Tryd.func11 (by kernel_rfl) (by kernel_rfl) ?_
      simp only [List.map_toArray, List.map_cons, List.map_nil, h36]
      refine (spublic_any _ sd tp (unhide HTP) w (unhide HSS w hk) (unhide HSB) (unhide HSL) (unhide HGL w hk)).mono ?_
      rintro e w' ⟨ao, m, c, rfl, R, K⟩
      exact ⟨_, rfl, K, R⟩
    refine steps_consC (fun a w hk hn => ?_) ?_
    · have h35 : a.eval (.tmp 35) = .bool true := hn.1
      clear hn
      refine wantsC_of hk ?_
      refine wants_guard (d := 35) rfl rfl h35 ?_
      refine grown_lit hk [109] ?_ (by simp [maxLen])
      obtain ⟨ρ, hρ, hc, hf, hg⟩ := eval_is a
      rw [hρ]
      simp [go_sem, hc]
    refine steps_consC (fun a w hk hn => ?_) ?_
    · have h38 : (LitT w5.drew.heap.size [109]) (a.eval (.tmp 38)) w := hn.1
      have h35 : a.eval (.tmp 35) = .bool true := hn.2.1
      clear hn
      exact wantsC_lit hk (by rw [wanted_iff (d := 35) rfl rfl h35]; rfl) (.tmp 38) rfl [109] h38
    refine steps_consC (fun a w hk hn => ?_) ?_
    · have h35 : a.eval (.tmp 35) = .bool true := hn.1
      clear hn
      refine wantsC_of hk ?_
      refine wants_guard (d := 35) rfl rfl h35 ?_
      refine grown_run (v := .agg #[.int .i64 0, .slice none 0 0, .slice none 0 0]) ?_ (Kp.refl _ _) rfl
      obtain ⟨ρ, hρ, hc, hf, hg⟩ := eval_is a
      rw [hρ]
      simp [go_sem]
    refine steps_consC (fun a w hk hn => ?_) ?_
    · have h37 : Sl w (a.eval (.tmp 37)) (tp) := hn.1
      have h39 : Sl w (a.eval (.tmp 39)) ([109]) := hn.2.1
      have h40 : a.eval (.tmp 40) = .agg #[.int .i64 0, .slice none 0 0, .slice none 0 0] := hn.2.2.1
      have h35 : a.eval (.tmp 35) = .bool true := hn.2.2.2.1
      clear hn
      refine wantsC_of hk ?_
      refine wants_guard (d := 35) rfl rfl h35 ?_
      refine grown_call (f := 16) rfl Tryd.func16 (by kernel_rfl) (by kernel_rfl) ?_
      simp only [List.map_toArray, List.map_cons, List.map_nil, h40]
      refine (sverify_any _ tp _ [109] _ 0 [] [] false (verP_zero _ _).symm w h37 (unhide HTB) h39 bs109 (by simp) (sig0_v w) (unhide HGL w hk)).mono ?_
      rintro e w' ⟨rfl, K⟩
      exact ⟨_, rfl, K, rfl⟩
    refine steps_consC (fun a w hk hn => ?_) ?_
    · have h41 : a.eval (.tmp 41) = .bool false := hn.1
      have h35 : a.eval (.tmp 35) = .bool true := hn.2.1
      clear hn
      refine wantsC_of hk ?_
      refine wants_guard (d := 35) rfl rfl h35 ?_
      refine grown_run (v := .bool true) ?_ (Kp.refl _ _) rfl
      obtain ⟨ρ, hρ, hc, hf, hg⟩ := eval_is a
      rw [hρ] at h41 ⊢
      simp [go_sem, h41]
    refine steps_consC (fun a w hk hn => ?_) ?_
    · have h35 : a.eval (.tmp 35) = .bool true := hn.1
      have h42 : a.eval (.tmp 42) = .bool true := hn.2.1
      clear hn
      refine wantsC_of hk ?_
      refine wants_plain rfl ?_
      exact grown_pick _ _ _ true rfl h35 h42
    refine steps_consC (fun a w hk hn => ?_) ?_
    · have h43 : a.eval (.tmp 43) = .bool true := hn.1
      clear hn
      refine wantsC_of hk ?_
      refine wants_plain rfl ?_
      exact grown_assign (.tmp 43) rfl h43
    exact trivial
  intro W1 hkW1
  rintro _ rfl
  rintro _ rfl
  rintro _ rfl
  rintro _ rfl
  intro v25 h25
  intro v26 h26
  intro v27 h27
  rintro _ rfl
  rintro _ rfl
  rintro _ rfl
  rintro _ rfl
  rintro _ rfl
  rintro _ rfl
  rintro _ rfl
  rintro _ rfl
  rintro _ rfl
  intro v37 h37
  intro v38 h38
  intro v39 h39
  rintro _ rfl
  rintro _ rfl
  rintro _ rfl
  rintro _ rfl
  rintro _ rfl
  refine fin_nil ?_
  simp only [Act.put, List.set_cons_zero, List.set_cons_succ, List.setIfInBounds_toArray]
  go_wp2_with fail
  go_ret
  exact ⟨rfl, (unhide HK5).trans ((kp_drew w5).trans hkW1)⟩
end Go.Proofs.YtdioaohejoflcaaDoor

/-
  The contract of the law package's same.
-/
namespace Go.Proofs.YtdioaohejoflcaaDoor
open Go.RowKit
open Go.Proofs

set_option maxRecDepth 100000 in
set_option maxHeartbeats 4000000 in
theorem lsame_any (vpub : Value) (pub : List Int) (vm : Value) (ms : List Int) (v : Value) (i : Int) (ps qs : List (List Int)) (w : World) (hP : Sl w vpub pub) (hPB : Bs pub) (hM : Sl w vm ms) (hMB : Bs ms) (hml : ms.length ≤ 1000) (hV : SigV w v i ps qs) (hi : -9223372036854775808 ≤ i ∧ i ≤ 9223372036854775807) (hG : Gl w) :
    Calls Tryd.prog 17 #[vpub, vm, v] w fun e w' => e = .returned (.bool true) ∧ Kp [] w w' := by
  obtain ⟨c, hc⟩ : ∃ c, c = rgtP i ps qs := ⟨_, rfl⟩
  obtain ⟨b, hb⟩ : ∃ b, b = verP pub ms i ps qs := ⟨_, rfl⟩
  obtain ⟨ap, np, cp, aq, nq, cq, lp, lq, rfl, hLP, hp, hLQ, hq, hnp, hnq⟩ := hV.shape
  clear hLP hp hLQ hq hnp hnq
  obtain ⟨ob, hob⟩ : ∃ o : Obj, o = (.cells #[.int .i64 i, .slice ap np cp, .slice aq nq cq] 33) := ⟨_, rfl⟩
  have K1 : Kp [] w (w.alloc ob) := (Kp.refl [] w).alloc ob
  have HE1 := hide (fun (h : rgtP i ps qs = true) => encode_any _ i ps qs h (w.alloc ob) (hV.kept K1))
  have HE0 := hide (fun (h : rgtP i ps qs = false) => encode_no _ i ps qs h (w.alloc ob) (hV.kept K1))
  have HR := hide (fun w' (k' : Kp [] w w') => refright_any _ i ps qs c hc w' (hV.kept k') hi)
  have hl1 := load_sig (w.alloc ob) w.heap.size (.int .i64 i) (.slice ap np cp) (.slice aq nq cq) (0, 0) (by rw [hob]; exact heap_alloc_new w _)
  have G1 : Hid ((w.alloc ob).heap[w.heap.size]? = some (.cells #[.int .i64 i, .slice ap np cp, .slice aq nq cq] 33 (0, 0))) := by rw [hob]; exact heap_alloc_new w _
  rw [hob] at K1 HE1 HE0 hl1 G1
  have HK1 := hide K1
  have HPu := hide hP
  have HPB := hide hPB
  have HM := hide hM
  have HMB := hide hMB
  have HG := hide hG
  have HVw := hide hV
  have HI := hide hi
  have HB := hide hb
  have HCC := hide hc
  obtain ⟨au, cu, hvu, _⟩ := hP
  obtain ⟨nu, hnu⟩ : ∃ n, n = pub.length := ⟨_, rfl⟩
  rw [← hnu] at hvu
  subst hvu
  obtain ⟨am, cm, hvm, _⟩ := hM
  obtain ⟨nm, hnm⟩ : ∃ n, n = ms.length := ⟨_, rfl⟩
  rw [← hnm] at hvm
  subst hvm
  clear hob K1 hPB hMB hV hG hnu hnm hb hc hi
  cases c
  · have HE := hide (unhide HE0 (unhide HCC).symm)
    clear HE0 HE1
    go_enter Tryd.func17, Tryd.ntmps17
    go_wp2_with fail
    refine (unhide HE).mono ?_
    rintro ee w2 ⟨rfl, K2⟩
    have HK2 := hide ((unhide HK1).trans K2)
    have G2 := K2.heap (unhide G1) (by simp)
    have HG2 := hide G2
    have HC2 := hide (unhide HR w2 (unhide HK2))
    clear K2 HE HK1 G1 G2 hl1 HR
    go_wp2_with (refine wpList_load_row rfl 33 (.tmp 5) rfl w.heap.size rfl 33 _ (0, 0) _ (unhide HG2) Tryd.underlying33 rfl Tryd.sigSize ?_)
    refine (unhide HC2).mono ?_
    rintro ee w3 ⟨rfl, K3⟩
    have HK3 := hide ((unhide HK2).trans K3)
    have HG3 : Hid (∀ w', Kp [] w3.drew w' → w'.heap[w.heap.size]? = some (.cells #[.int .i64 i, .slice ap np cp, .slice aq nq cq] 33 (0, 0))) := fun w' k' => (K3.trans ((kp_drew w3).trans k')).heap (unhide HG2) (by simp)
    have HVV : Hid (∀ w', Kp [] w3.drew w' → SigV w' (.agg #[.int .i64 i, .slice ap np cp, .slice aq nq cq]) i ps qs) := fun w' k' => (unhide HVw).kept ((unhide HK3).trans ((kp_drew w3).trans k'))
    have HPP : Hid (∀ w', Kp [] w3.drew w' → Sl w' (.slice au nu cu) pub) := fun w' k' => (unhide HPu).kept ((unhide HK3).trans ((kp_drew w3).trans k')) (by simp)
    have HMM : Hid (∀ w', Kp [] w3.drew w' → Sl w' (.slice am nm cm) ms) := fun w' k' => (unhide HM).kept ((unhide HK3).trans ((kp_drew w3).trans k')) (by simp)
    have HGL : Hid (∀ w', Kp [] w3.drew w' → Gl w') := fun w' k' => (unhide HG).kept ((unhide HK3).trans ((kp_drew w3).trans k')) (by simp)
    clear K3 HC2 HG2 HK2
    go_wp2_with fail
    obtain ⟨g0, hg0⟩ : ∃ g, g = w.heap.size := ⟨_, rfl⟩
    rw [← hg0] at HG3 ⊢
    clear hg0
    refine region_grow Tryd.mixed [Is (.agg #[.int .i64 i, .slice ap np cp, .slice aq nq cq]), Is (.bool false), Is (.bool false), Is (.bool false), Is (.bool false), Is (.slice au nu cu), Is (.slice am nm cm), Is (.agg #[.int .i64 i, .slice ap np cp, .slice aq nq cq]), Is (.bool b), Is (.slice au nu cu), Is (.slice am nm cm), Is (.agg #[.int .i64 i, .slice ap np cp, .slice aq nq cq]), Is (.bool b), Is (.bool false), Is (.bool false), Is (.bool false), Is (.int .i64 12), Is (.bool false), Is (.bool false), Is (.bool false), Is (.bool false)] [[(5, none)], [(17, some 0)], [(9, none)], [(18, some 1), (19, some 2)], [(20, some 3)], [(0, none), (21, some 4)], [(1, none), (21, some 4)], [(5, none), (21, some 4)], [(22, some 5), (23, some 6), (24, some 7), (21, some 4)], [(0, none), (21, some 4)], [(1, none), (21, some 4)], [(5, none), (21, some 4)], [(26, some 9), (27, some 10), (28, some 11), (21, some 4)], [(25, some 8), (29, some 12), (21, some 4)], [(21, some 4), (30, some 13)], [(31, some 14)], [(8, none), (32, some 15)], [(33, some 16), (32, some 15)], [(9, none), (32, some 15)], [(34, some 17), (35, some 18), (32, some 15)], [(32, some 15), (36, some 19)]] (by kernel_rfl) ?_ ?_ ?_
    · simp only [List.mem_cons, List.not_mem_nil, or_false]
      intro R hR
      rcases hR with rfl | rfl | rfl | rfl | rfl | rfl | rfl | rfl | rfl | rfl | rfl | rfl | rfl | rfl | rfl | rfl | rfl | rfl | rfl | rfl | rfl <;> first | exact stable_is _
    · refine steps_cons (fun a w hk hn => ?_) ?_
      · have h5 : a.eval (.tmp 5) = .pointer (some ⟨g0, 0, none⟩) := hn.1
        clear hn
        refine wants_plain rfl ?_
        exact grown_loadsig (.tmp 5) rfl _ _ _ _ _ h5 (unhide HG3 w hk) rfl
      refine steps_cons (fun a w hk hn => ?_) ?_
      · have h17 : a.eval (.tmp 17) = .agg #[.int .i64 i, .slice ap np cp, .slice aq nq cq] := hn.1
        clear hn
        refine wants_plain rfl ?_
        refine grown_call (f := 37) rfl Tryd.func37 (by kernel_rfl) (by kernel_rfl) ?_
        simp only [List.map_toArray, List.map_cons, List.map_nil, h17]
        refine (sright_any _ i ps qs false (unhide HCC) w (unhide HVV w hk)).mono ?_
        rintro e w' ⟨rfl, K⟩
        exact ⟨_, rfl, K, rfl⟩
      refine steps_cons (fun a w hk hn => ?_) ?_
      · have h9 : a.eval (.tmp 9) = .bool false := hn.1
        clear hn
        refine wants_plain rfl ?_
        exact grown_move (.tmp 9) rfl h9
      refine steps_cons (fun a w hk hn => ?_) ?_
      · have h18 : a.eval (.tmp 18) = .bool false := hn.1
        have h19 : a.eval (.tmp 19) = .bool false := hn.2.1
        clear hn
        refine wants_plain rfl ?_
        refine grown_run (v := .bool false) ?_ (Kp.refl _ _) rfl
        obtain ⟨ρ, hρ, hc, hf, hg⟩ := eval_is a
        rw [hρ] at h18 h19 ⊢
        simp [go_sem, h18, h19]
      refine steps_cons (fun a w hk hn => ?_) ?_
      · have h20 : a.eval (.tmp 20) = .bool false := hn.1
        clear hn
        refine wants_plain rfl ?_
        exact grown_move (.tmp 20) rfl h20
      refine steps_cons (fun a w hk hn => ?_) ?_
      · have h0 : a.eval (.tmp 0) = .slice au nu cu := hn.1
        have h21 : a.eval (.tmp 21) = .bool false := hn.2.1
        clear hn
        refine wants_guard (d := 21) rfl rfl h21 ?_
        exact grown_move (.tmp 0) rfl h0
      refine steps_cons (fun a w hk hn => ?_) ?_
      · have h1 : a.eval (.tmp 1) = .slice am nm cm := hn.1
        have h21 : a.eval (.tmp 21) = .bool false := hn.2.1
        clear hn
        refine wants_guard (d := 21) rfl rfl h21 ?_
        exact grown_move (.tmp 1) rfl h1
      refine steps_cons (fun a w hk hn => ?_) ?_
      · have h5 : a.eval (.tmp 5) = .pointer (some ⟨g0, 0, none⟩) := hn.1
        have h21 : a.eval (.tmp 21) = .bool false := hn.2.1
        clear hn
        refine wants_guard (d := 21) rfl rfl h21 ?_
        exact grown_loadsig (.tmp 5) rfl _ _ _ _ _ h5 (unhide HG3 w hk) rfl
      refine steps_cons (fun a w hk hn => ?_) ?_
      · have h22 : a.eval (.tmp 22) = .slice au nu cu := hn.1
        have h23 : a.eval (.tmp 23) = .slice am nm cm := hn.2.1
        have h24 : a.eval (.tmp 24) = .agg #[.int .i64 i, .slice ap np cp, .slice aq nq cq] := hn.2.2.1
        have h21 : a.eval (.tmp 21) = .bool false := hn.2.2.2.1
        clear hn
        refine wants_guard (d := 21) rfl rfl h21 ?_
        refine grown_call (f := 16) rfl Tryd.func16 (by kernel_rfl) (by kernel_rfl) ?_
        simp only [List.map_toArray, List.map_cons, List.map_nil, h22, h23, h24]
        refine (sverify_any _ pub _ ms _ i ps qs b (unhide HB) w (unhide HPP w hk) (unhide HPB) (unhide HMM w hk) (unhide HMB) hml (unhide HVV w hk) (unhide HGL w hk)).mono ?_
        rintro e w' ⟨rfl, K⟩
        exact ⟨_, rfl, K, rfl⟩
      refine steps_cons (fun a w hk hn => ?_) ?_
      · have h0 : a.eval (.tmp 0) = .slice au nu cu := hn.1
        have h21 : a.eval (.tmp 21) = .bool false := hn.2.1
        clear hn
        refine wants_guard (d := 21) rfl rfl h21 ?_
        exact grown_move (.tmp 0) rfl h0
      refine steps_cons (fun a w hk hn => ?_) ?_
      · have h1 : a.eval (.tmp 1) = .slice am nm cm := hn.1
        have h21 : a.eval (.tmp 21) = .bool false := hn.2.1
        clear hn
        refine wants_guard (d := 21) rfl rfl h21 ?_
        exact grown_move (.tmp 1) rfl h1
      refine steps_cons (fun a w hk hn => ?_) ?_
      · have h5 : a.eval (.tmp 5) = .pointer (some ⟨g0, 0, none⟩) := hn.1
        have h21 : a.eval (.tmp 21) = .bool false := hn.2.1
        clear hn
        refine wants_guard (d := 21) rfl rfl h21 ?_
        exact grown_loadsig (.tmp 5) rfl _ _ _ _ _ h5 (unhide HG3 w hk) rfl
      refine steps_cons (fun a w hk hn => ?_) ?_
      · have h26 : a.eval (.tmp 26) = .slice au nu cu := hn.1
        have h27 : a.eval (.tmp 27) = .slice am nm cm := hn.2.1
        have h28 : a.eval (.tmp 28) = .agg #[.int .i64 i, .slice ap np cp, .slice aq nq cq] := hn.2.2.1
        have h21 : a.eval (.tmp 21) = .bool false := hn.2.2.2.1
        clear hn
        refine wants_guard (d := 21) rfl rfl h21 ?_
        refine grown_call (f := 27) rfl Tryd.func27 (by kernel_rfl) (by kernel_rfl) ?_
        simp only [List.map_toArray, List.map_cons, List.map_nil, h26, h27, h28]
        refine (refverify_any _ pub _ ms _ i ps qs b (unhide HB) w (unhide HPP w hk) (unhide HPB) (unhide HMM w hk) (unhide HMB) hml (unhide HVV w hk) (unhide HI)).mono ?_
        rintro e w' ⟨rfl, K⟩
        exact ⟨_, rfl, K, rfl⟩
      refine steps_cons (fun a w hk hn => ?_) ?_
      · have h25 : a.eval (.tmp 25) = .bool b := hn.1
        have h29 : a.eval (.tmp 29) = .bool b := hn.2.1
        have h21 : a.eval (.tmp 21) = .bool false := hn.2.2.1
        clear hn
        refine wants_guard (d := 21) rfl rfl h21 ?_
        refine grown_run (v := .bool false) ?_ (Kp.refl _ _) rfl
        obtain ⟨ρ, hρ, hc, hf, hg⟩ := eval_is a
        rw [hρ] at h25 h29 ⊢
        simp [go_sem, h25, h29]
      refine steps_cons (fun a w hk hn => ?_) ?_
      · have h21 : a.eval (.tmp 21) = .bool false := hn.1
        have h30 : a.eval (.tmp 30) = .bool false := hn.2.1
        clear hn
        refine wants_plain rfl ?_
        exact grown_pick _ _ _ false rfl h21 h30
      refine steps_cons (fun a w hk hn => ?_) ?_
      · have h31 : a.eval (.tmp 31) = .bool false := hn.1
        clear hn
        refine wants_plain rfl ?_
        exact grown_move (.tmp 31) rfl h31
      refine steps_cons (fun a w hk hn => ?_) ?_
      · have h8 : a.eval (.tmp 8) = .int .i64 12 := hn.1
        have h32 : a.eval (.tmp 32) = .bool false := hn.2.1
        clear hn
        refine wants_guard (d := 32) rfl rfl h32 ?_
        exact grown_move (.tmp 8) rfl h8
      refine steps_cons (fun a w hk hn => ?_) ?_
      · have h33 : a.eval (.tmp 33) = .int .i64 12 := hn.1
        have h32 : a.eval (.tmp 32) = .bool false := hn.2.1
        clear hn
        refine wants_guard (d := 32) rfl rfl h32 ?_
        refine grown_run (v := .bool false) ?_ (Kp.refl _ _) rfl
        obtain ⟨ρ, hρ, hc, hf, hg⟩ := eval_is a
        rw [hρ] at h33 ⊢
        simp [go_sem, hc, h33]
      refine steps_cons (fun a w hk hn => ?_) ?_
      · have h9 : a.eval (.tmp 9) = .bool false := hn.1
        have h32 : a.eval (.tmp 32) = .bool false := hn.2.1
        clear hn
        refine wants_guard (d := 32) rfl rfl h32 ?_
        exact grown_move (.tmp 9) rfl h9
      refine steps_cons (fun a w hk hn => ?_) ?_
      · have h34 : a.eval (.tmp 34) = .bool false := hn.1
        have h35 : a.eval (.tmp 35) = .bool false := hn.2.1
        have h32 : a.eval (.tmp 32) = .bool false := hn.2.2.1
        clear hn
        refine wants_guard (d := 32) rfl rfl h32 ?_
        refine grown_run (v := .bool false) ?_ (Kp.refl _ _) rfl
        obtain ⟨ρ, hρ, hc, hf, hg⟩ := eval_is a
        rw [hρ] at h34 h35 ⊢
        simp [go_sem, h34, h35]
      refine steps_cons (fun a w hk hn => ?_) ?_
      · have h32 : a.eval (.tmp 32) = .bool false := hn.1
        have h36 : a.eval (.tmp 36) = .bool false := hn.2.1
        clear hn
        refine wants_plain rfl ?_
        exact grown_pick _ _ _ false rfl h32 h36
      exact trivial
    intro W1 hkW1
    rintro _ rfl
    rintro _ rfl
    rintro _ rfl
    rintro _ rfl
    rintro _ rfl
    rintro _ rfl
    rintro _ rfl
    rintro _ rfl
    rintro _ rfl
    rintro _ rfl
    rintro _ rfl
    rintro _ rfl
    rintro _ rfl
    rintro _ rfl
    rintro _ rfl
    rintro _ rfl
    rintro _ rfl
    rintro _ rfl
    rintro _ rfl
    rintro _ rfl
    rintro _ rfl
    refine fin_nil ?_
    simp only [Act.put, List.set_cons_zero, List.set_cons_succ, List.setIfInBounds_toArray]
    go_wp2_with fail
    refine region_grow Tryd.mixed [Is (.bool false), Is (.bool false), Is (undef), Is (undef), Is (undef), Is (undef), Is (undef), Is (undef), Is (.bool false), Is (.bool false), Is (.bool false), Is (.bool true), Is (.bool true), Is (.int .i64 12), Is (.bool true), Is (.bool true), Is (.bool true), Is (.slice none 0 0), Is (.int .i64 0), Is (.bool true), Is (.bool true), Is (.bool true), Is (.bool true)] [[(9, none)], [(38, some 0)], [(7, none), (39, some 1)], [(40, some 2), (39, some 1)], [(5, none), (39, some 1)], [(42, some 4), (39, some 1)], [(43, some 5), (39, some 1)], [(41, some 3), (44, some 6), (39, some 1)], [(39, some 1), (45, some 7)], [(46, some 8)], [(9, none), (47, some 9)], [(48, some 10), (47, some 9)], [(49, some 11), (47, some 9)], [(8, none), (50, some 12)], [(51, some 13), (50, some 12)], [(50, some 12), (52, some 14), (47, some 9)], [(53, some 15), (47, some 9)], [(7, none), (54, some 16)], [(55, some 17), (54, some 16)], [(56, some 18), (54, some 16)], [(54, some 16), (57, some 19), (47, some 9)], [(47, some 9), (58, some 20)], [(59, some 21)]] (by kernel_rfl) ?_ ?_ ?_
    · simp only [List.mem_cons, List.not_mem_nil, or_false]
      intro R hR
      rcases hR with rfl | rfl | rfl | rfl | rfl | rfl | rfl | rfl | rfl | rfl | rfl | rfl | rfl | rfl | rfl | rfl | rfl | rfl | rfl | rfl | rfl | rfl | rfl <;> first | exact stable_is _
    · refine steps_cons (fun a w hk hn => ?_) ?_
      · have h9 : a.eval (.tmp 9) = .bool false := hn.1
        clear hn
        refine wants_plain rfl ?_
        exact grown_move (.tmp 9) rfl h9
      refine steps_cons (fun a w hk hn => ?_) ?_
      · have h38 : a.eval (.tmp 38) = .bool false := hn.1
        clear hn
        refine wants_plain rfl ?_
        exact grown_move (.tmp 38) rfl h38
      refine steps_cons (fun a w hk hn => ?_) ?_
      · have h7 : a.eval (.tmp 7) = .slice none 0 0 := hn.1
        have h39 : a.eval (.tmp 39) = .bool false := hn.2.1
        clear hn
        exact wants_not (d := 39) rfl rfl h39 rfl
      refine steps_cons (fun a w hk hn => ?_) ?_
      · have h40 : a.eval (.tmp 40) = undef := hn.1
        have h39 : a.eval (.tmp 39) = .bool false := hn.2.1
        clear hn
        exact wants_not (d := 39) rfl rfl h39 rfl
      refine steps_cons (fun a w hk hn => ?_) ?_
      · have h5 : a.eval (.tmp 5) = .pointer (some ⟨g0, 0, none⟩) := hn.1
        have h39 : a.eval (.tmp 39) = .bool false := hn.2.1
        clear hn
        exact wants_not (d := 39) rfl rfl h39 rfl
      refine steps_cons (fun a w hk hn => ?_) ?_
      · have h42 : a.eval (.tmp 42) = undef := hn.1
        have h39 : a.eval (.tmp 39) = .bool false := hn.2.1
        clear hn
        exact wants_not (d := 39) rfl rfl h39 rfl
      refine steps_cons (fun a w hk hn => ?_) ?_
      · have h43 : a.eval (.tmp 43) = undef := hn.1
        have h39 : a.eval (.tmp 39) = .bool false := hn.2.1
        clear hn
        exact wants_not (d := 39) rfl rfl h39 rfl
      refine steps_cons (fun a w hk hn => ?_) ?_
      · have h41 : a.eval (.tmp 41) = undef := hn.1
        have h44 : a.eval (.tmp 44) = undef := hn.2.1
        have h39 : a.eval (.tmp 39) = .bool false := hn.2.2.1
        clear hn
        exact wants_not (d := 39) rfl rfl h39 rfl
      refine steps_cons (fun a w hk hn => ?_) ?_
      · have h39 : a.eval (.tmp 39) = .bool false := hn.1
        have h45 : a.eval (.tmp 45) = undef := hn.2.1
        clear hn
        refine wants_plain rfl ?_
        exact grown_pick _ _ _ false rfl h39 rfl
      refine steps_cons (fun a w hk hn => ?_) ?_
      · have h46 : a.eval (.tmp 46) = .bool false := hn.1
        clear hn
        refine wants_plain rfl ?_
        exact grown_move (.tmp 46) rfl h46
      refine steps_cons (fun a w hk hn => ?_) ?_
      · have h9 : a.eval (.tmp 9) = .bool false := hn.1
        have h47 : a.eval (.tmp 47) = .bool false := hn.2.1
        clear hn
        refine wants_guard (d := 47) rfl rfl h47 ?_
        exact grown_move (.tmp 9) rfl h9
      refine steps_cons (fun a w hk hn => ?_) ?_
      · have h48 : a.eval (.tmp 48) = .bool false := hn.1
        have h47 : a.eval (.tmp 47) = .bool false := hn.2.1
        clear hn
        refine wants_guard (d := 47) rfl rfl h47 ?_
        refine grown_run (v := .bool true) ?_ (Kp.refl _ _) rfl
        obtain ⟨ρ, hρ, hc, hf, hg⟩ := eval_is a
        rw [hρ] at h48 ⊢
        simp [go_sem, h48]
      refine steps_cons (fun a w hk hn => ?_) ?_
      · have h49 : a.eval (.tmp 49) = .bool true := hn.1
        have h47 : a.eval (.tmp 47) = .bool false := hn.2.1
        clear hn
        refine wants_guard (d := 47) rfl rfl h47 ?_
        exact grown_move (.tmp 49) rfl h49
      refine steps_cons (fun a w hk hn => ?_) ?_
      · have h8 : a.eval (.tmp 8) = .int .i64 12 := hn.1
        have h50 : a.eval (.tmp 50) = .bool true := hn.2.1
        clear hn
        refine wants_guard (d := 50) rfl rfl h50 ?_
        exact grown_move (.tmp 8) rfl h8
      refine steps_cons (fun a w hk hn => ?_) ?_
      · have h51 : a.eval (.tmp 51) = .int .i64 12 := hn.1
        have h50 : a.eval (.tmp 50) = .bool true := hn.2.1
        clear hn
        refine wants_guard (d := 50) rfl rfl h50 ?_
        refine grown_run (v := .bool true) ?_ (Kp.refl _ _) rfl
        obtain ⟨ρ, hρ, hc, hf, hg⟩ := eval_is a
        rw [hρ] at h51 ⊢
        simp [go_sem, hc, h51]
      refine steps_cons (fun a w hk hn => ?_) ?_
      · have h50 : a.eval (.tmp 50) = .bool true := hn.1
        have h52 : a.eval (.tmp 52) = .bool true := hn.2.1
        have h47 : a.eval (.tmp 47) = .bool false := hn.2.2.1
        clear hn
        refine wants_guard (d := 47) rfl rfl h47 ?_
        exact grown_pick _ _ _ true rfl h50 h52
      refine steps_cons (fun a w hk hn => ?_) ?_
      · have h53 : a.eval (.tmp 53) = .bool true := hn.1
        have h47 : a.eval (.tmp 47) = .bool false := hn.2.1
        clear hn
        refine wants_guard (d := 47) rfl rfl h47 ?_
        exact grown_move (.tmp 53) rfl h53
      refine steps_cons (fun a w hk hn => ?_) ?_
      · have h7 : a.eval (.tmp 7) = .slice none 0 0 := hn.1
        have h54 : a.eval (.tmp 54) = .bool true := hn.2.1
        clear hn
        refine wants_guard (d := 54) rfl rfl h54 ?_
        exact grown_move (.tmp 7) rfl h7
      refine steps_cons (fun a w hk hn => ?_) ?_
      · have h55 : a.eval (.tmp 55) = .slice none 0 0 := hn.1
        have h54 : a.eval (.tmp 54) = .bool true := hn.2.1
        clear hn
        refine wants_guard (d := 54) rfl rfl h54 ?_
        refine grown_run (v := .int .i64 0) ?_ (Kp.refl _ _) rfl
        obtain ⟨ρ, hρ, hc, hf, hg⟩ := eval_is a
        rw [hρ] at h55 ⊢
        simp [go_sem, h55]
      refine steps_cons (fun a w hk hn => ?_) ?_
      · have h56 : a.eval (.tmp 56) = .int .i64 0 := hn.1
        have h54 : a.eval (.tmp 54) = .bool true := hn.2.1
        clear hn
        refine wants_guard (d := 54) rfl rfl h54 ?_
        refine grown_run (v := .bool true) ?_ (Kp.refl _ _) rfl
        obtain ⟨ρ, hρ, hc, hf, hg⟩ := eval_is a
        rw [hρ] at h56 ⊢
        simp [go_sem, hc, h56]
      refine steps_cons (fun a w hk hn => ?_) ?_
      · have h54 : a.eval (.tmp 54) = .bool true := hn.1
        have h57 : a.eval (.tmp 57) = .bool true := hn.2.1
        have h47 : a.eval (.tmp 47) = .bool false := hn.2.2.1
        clear hn
        refine wants_guard (d := 47) rfl rfl h47 ?_
        exact grown_pick _ _ _ true rfl h54 h57
      refine steps_cons (fun a w hk hn => ?_) ?_
      · have h47 : a.eval (.tmp 47) = .bool false := hn.1
        have h58 : a.eval (.tmp 58) = .bool true := hn.2.1
        clear hn
        refine wants_plain rfl ?_
        exact grown_pick _ _ _ false rfl h47 h58
      refine steps_cons (fun a w hk hn => ?_) ?_
      · have h59 : a.eval (.tmp 59) = .bool true := hn.1
        clear hn
        refine wants_plain rfl ?_
        exact grown_assign (.tmp 59) rfl h59
      exact trivial
    intro W2 hkW2
    rintro _ rfl
    rintro _ rfl
    rintro _ rfl
    rintro _ rfl
    rintro _ rfl
    rintro _ rfl
    rintro _ rfl
    rintro _ rfl
    rintro _ rfl
    rintro _ rfl
    rintro _ rfl
    rintro _ rfl
    rintro _ rfl
    rintro _ rfl
    rintro _ rfl
    rintro _ rfl
    rintro _ rfl
    rintro _ rfl
    rintro _ rfl
    rintro _ rfl
    rintro _ rfl
    rintro _ rfl
    rintro _ rfl
    refine fin_nil ?_
    simp only [Act.put, List.set_cons_zero, List.set_cons_succ, List.setIfInBounds_toArray]
    go_wp2_with fail
    go_ret
    exact ⟨rfl, ((unhide HK3).trans ((kp_drew w3).trans hkW1)).trans ((kp_drew W1).trans hkW2)⟩
  · have HRT : Hid (rgtP i ps qs = true) := hide (unhide HCC).symm
    have HE := hide (unhide HE1 (unhide HRT))
    clear HE0 HE1
    go_enter Tryd.func17, Tryd.ntmps17
    go_wp2_with fail
    refine (unhide HE).mono ?_
    rintro ee w2 ⟨a2, m2, c2, rfl, R2, K2⟩
    have HK2 := hide ((unhide HK1).trans K2)
    have G2 := K2.heap (unhide G1) (by simp)
    have HG2 := hide G2
    have HC2 := hide (unhide HR w2 (unhide HK2))
    obtain ⟨en, hen⟩ : ∃ e, e = encP i ps qs := ⟨_, rfl⟩
    rw [← hen] at R2
    have HS2 := hide R2.sl
    have HEN := hide hen
    clear K2 HE HK1 G1 G2 hl1 HR R2 hen
    go_wp2_with (refine wpList_load_row rfl 33 (.tmp 5) rfl w.heap.size rfl 33 _ (0, 0) _ (unhide HG2) Tryd.underlying33 rfl Tryd.sigSize ?_)
    refine (unhide HC2).mono ?_
    rintro ee w3 ⟨rfl, K3⟩
    have HK3 := hide ((unhide HK2).trans K3)
    have HG3 : Hid (∀ w', Kp [] w3.drew w' → w'.heap[w.heap.size]? = some (.cells #[.int .i64 i, .slice ap np cp, .slice aq nq cq] 33 (0, 0))) := fun w' k' => (K3.trans ((kp_drew w3).trans k')).heap (unhide HG2) (by simp)
    have HVV : Hid (∀ w', Kp [] w3.drew w' → SigV w' (.agg #[.int .i64 i, .slice ap np cp, .slice aq nq cq]) i ps qs) := fun w' k' => (unhide HVw).kept ((unhide HK3).trans ((kp_drew w3).trans k'))
    have HPP : Hid (∀ w', Kp [] w3.drew w' → Sl w' (.slice au nu cu) pub) := fun w' k' => (unhide HPu).kept ((unhide HK3).trans ((kp_drew w3).trans k')) (by simp)
    have HMM : Hid (∀ w', Kp [] w3.drew w' → Sl w' (.slice am nm cm) ms) := fun w' k' => (unhide HM).kept ((unhide HK3).trans ((kp_drew w3).trans k')) (by simp)
    have HGL : Hid (∀ w', Kp [] w3.drew w' → Gl w') := fun w' k' => (unhide HG).kept ((unhide HK3).trans ((kp_drew w3).trans k')) (by simp)
    have HSB : Hid (∀ w', Kp [] w3.drew w' → Sl w' (.slice a2 m2 c2) en) := fun w' k' => (unhide HS2).kept (K3.trans ((kp_drew w3).trans k')) (by simp)
    obtain ⟨SE, hSE⟩ : ∃ S, S = strOfNums en := ⟨_, rfl⟩
    have HSE := hide hSE
    clear K3 HC2 HG2 HK2 HS2 hSE
    go_wp2_with fail
    obtain ⟨g0, hg0⟩ : ∃ g, g = w.heap.size := ⟨_, rfl⟩
    rw [← hg0] at HG3 ⊢
    clear hg0
    refine region_grow Tryd.mixed [Is (.agg #[.int .i64 i, .slice ap np cp, .slice aq nq cq]), Is (.bool true), Is (.bool true), Is (.bool false), Is (.bool false), Is (.slice au nu cu), Is (.slice am nm cm), Is (.agg #[.int .i64 i, .slice ap np cp, .slice aq nq cq]), Is (.bool b), Is (.slice au nu cu), Is (.slice am nm cm), Is (.agg #[.int .i64 i, .slice ap np cp, .slice aq nq cq]), Is (.bool b), Is (.bool false), Is (.bool false), Is (.bool false), Is (.int .i64 0), Is (.bool true), Is (.bool true), Is (.bool false), Is (.bool false)] [[(5, none)], [(17, some 0)], [(9, none)], [(18, some 1), (19, some 2)], [(20, some 3)], [(0, none), (21, some 4)], [(1, none), (21, some 4)], [(5, none), (21, some 4)], [(22, some 5), (23, some 6), (24, some 7), (21, some 4)], [(0, none), (21, some 4)], [(1, none), (21, some 4)], [(5, none), (21, some 4)], [(26, some 9), (27, some 10), (28, some 11), (21, some 4)], [(25, some 8), (29, some 12), (21, some 4)], [(21, some 4), (30, some 13)], [(31, some 14)], [(8, none), (32, some 15)], [(33, some 16), (32, some 15)], [(9, none), (32, some 15)], [(34, some 17), (35, some 18), (32, some 15)], [(32, some 15), (36, some 19)]] (by kernel_rfl) ?_ ?_ ?_
    · simp only [List.mem_cons, List.not_mem_nil, or_false]
      intro R hR
      rcases hR with rfl | rfl | rfl | rfl | rfl | rfl | rfl | rfl | rfl | rfl | rfl | rfl | rfl | rfl | rfl | rfl | rfl | rfl | rfl | rfl | rfl <;> first | exact stable_is _
    · refine steps_cons (fun a w hk hn => ?_) ?_
      · have h5 : a.eval (.tmp 5) = .pointer (some ⟨g0, 0, none⟩) := hn.1
        clear hn
        refine wants_plain rfl ?_
        exact grown_loadsig (.tmp 5) rfl _ _ _ _ _ h5 (unhide HG3 w hk) rfl
      refine steps_cons (fun a w hk hn => ?_) ?_
      · have h17 : a.eval (.tmp 17) = .agg #[.int .i64 i, .slice ap np cp, .slice aq nq cq] := hn.1
        clear hn
        refine wants_plain rfl ?_
        refine grown_call (f := 37) rfl Tryd.func37 (by kernel_rfl) (by kernel_rfl) ?_
        simp only [List.map_toArray, List.map_cons, List.map_nil, h17]
        refine (sright_any _ i ps qs true (unhide HCC) w (unhide HVV w hk)).mono ?_
        rintro e w' ⟨rfl, K⟩
        exact ⟨_, rfl, K, rfl⟩
      refine steps_cons (fun a w hk hn => ?_) ?_
      · have h9 : a.eval (.tmp 9) = .bool true := hn.1
        clear hn
        refine wants_plain rfl ?_
        exact grown_move (.tmp 9) rfl h9
      refine steps_cons (fun a w hk hn => ?_) ?_
      · have h18 : a.eval (.tmp 18) = .bool true := hn.1
        have h19 : a.eval (.tmp 19) = .bool true := hn.2.1
        clear hn
        refine wants_plain rfl ?_
        refine grown_run (v := .bool false) ?_ (Kp.refl _ _) rfl
        obtain ⟨ρ, hρ, hc, hf, hg⟩ := eval_is a
        rw [hρ] at h18 h19 ⊢
        simp [go_sem, h18, h19]
      refine steps_cons (fun a w hk hn => ?_) ?_
      · have h20 : a.eval (.tmp 20) = .bool false := hn.1
        clear hn
        refine wants_plain rfl ?_
        exact grown_move (.tmp 20) rfl h20
      refine steps_cons (fun a w hk hn => ?_) ?_
      · have h0 : a.eval (.tmp 0) = .slice au nu cu := hn.1
        have h21 : a.eval (.tmp 21) = .bool false := hn.2.1
        clear hn
        refine wants_guard (d := 21) rfl rfl h21 ?_
        exact grown_move (.tmp 0) rfl h0
      refine steps_cons (fun a w hk hn => ?_) ?_
      · have h1 : a.eval (.tmp 1) = .slice am nm cm := hn.1
        have h21 : a.eval (.tmp 21) = .bool false := hn.2.1
        clear hn
        refine wants_guard (d := 21) rfl rfl h21 ?_
        exact grown_move (.tmp 1) rfl h1
      refine steps_cons (fun a w hk hn => ?_) ?_
      · have h5 : a.eval (.tmp 5) = .pointer (some ⟨g0, 0, none⟩) := hn.1
        have h21 : a.eval (.tmp 21) = .bool false := hn.2.1
        clear hn
        refine wants_guard (d := 21) rfl rfl h21 ?_
        exact grown_loadsig (.tmp 5) rfl _ _ _ _ _ h5 (unhide HG3 w hk) rfl
      refine steps_cons (fun a w hk hn => ?_) ?_
      · have h22 : a.eval (.tmp 22) = .slice au nu cu := hn.1
        have h23 : a.eval (.tmp 23) = .slice am nm cm := hn.2.1
        have h24 : a.eval (.tmp 24) = .agg #[.int .i64 i, .slice ap np cp, .slice aq nq cq] := hn.2.2.1
        have h21 : a.eval (.tmp 21) = .bool false := hn.2.2.2.1
        clear hn
        refine wants_guard (d := 21) rfl rfl h21 ?_
        refine grown_call (f := 16) rfl Tryd.func16 (by kernel_rfl) (by kernel_rfl) ?_
        simp only [List.map_toArray, List.map_cons, List.map_nil, h22, h23, h24]
        refine (sverify_any _ pub _ ms _ i ps qs b (unhide HB) w (unhide HPP w hk) (unhide HPB) (unhide HMM w hk) (unhide HMB) hml (unhide HVV w hk) (unhide HGL w hk)).mono ?_
        rintro e w' ⟨rfl, K⟩
        exact ⟨_, rfl, K, rfl⟩
      refine steps_cons (fun a w hk hn => ?_) ?_
      · have h0 : a.eval (.tmp 0) = .slice au nu cu := hn.1
        have h21 : a.eval (.tmp 21) = .bool false := hn.2.1
        clear hn
        refine wants_guard (d := 21) rfl rfl h21 ?_
        exact grown_move (.tmp 0) rfl h0
      refine steps_cons (fun a w hk hn => ?_) ?_
      · have h1 : a.eval (.tmp 1) = .slice am nm cm := hn.1
        have h21 : a.eval (.tmp 21) = .bool false := hn.2.1
        clear hn
        refine wants_guard (d := 21) rfl rfl h21 ?_
        exact grown_move (.tmp 1) rfl h1
      refine steps_cons (fun a w hk hn => ?_) ?_
      · have h5 : a.eval (.tmp 5) = .pointer (some ⟨g0, 0, none⟩) := hn.1
        have h21 : a.eval (.tmp 21) = .bool false := hn.2.1
        clear hn
        refine wants_guard (d := 21) rfl rfl h21 ?_
        exact grown_loadsig (.tmp 5) rfl _ _ _ _ _ h5 (unhide HG3 w hk) rfl
      refine steps_cons (fun a w hk hn => ?_) ?_
      · have h26 : a.eval (.tmp 26) = .slice au nu cu := hn.1
        have h27 : a.eval (.tmp 27) = .slice am nm cm := hn.2.1
        have h28 : a.eval (.tmp 28) = .agg #[.int .i64 i, .slice ap np cp, .slice aq nq cq] := hn.2.2.1
        have h21 : a.eval (.tmp 21) = .bool false := hn.2.2.2.1
        clear hn
        refine wants_guard (d := 21) rfl rfl h21 ?_
        refine grown_call (f := 27) rfl Tryd.func27 (by kernel_rfl) (by kernel_rfl) ?_
        simp only [List.map_toArray, List.map_cons, List.map_nil, h26, h27, h28]
        refine (refverify_any _ pub _ ms _ i ps qs b (unhide HB) w (unhide HPP w hk) (unhide HPB) (unhide HMM w hk) (unhide HMB) hml (unhide HVV w hk) (unhide HI)).mono ?_
        rintro e w' ⟨rfl, K⟩
        exact ⟨_, rfl, K, rfl⟩
      refine steps_cons (fun a w hk hn => ?_) ?_
      · have h25 : a.eval (.tmp 25) = .bool b := hn.1
        have h29 : a.eval (.tmp 29) = .bool b := hn.2.1
        have h21 : a.eval (.tmp 21) = .bool false := hn.2.2.1
        clear hn
        refine wants_guard (d := 21) rfl rfl h21 ?_
        refine grown_run (v := .bool false) ?_ (Kp.refl _ _) rfl
        obtain ⟨ρ, hρ, hc, hf, hg⟩ := eval_is a
        rw [hρ] at h25 h29 ⊢
        simp [go_sem, h25, h29]
      refine steps_cons (fun a w hk hn => ?_) ?_
      · have h21 : a.eval (.tmp 21) = .bool false := hn.1
        have h30 : a.eval (.tmp 30) = .bool false := hn.2.1
        clear hn
        refine wants_plain rfl ?_
        exact grown_pick _ _ _ false rfl h21 h30
      refine steps_cons (fun a w hk hn => ?_) ?_
      · have h31 : a.eval (.tmp 31) = .bool false := hn.1
        clear hn
        refine wants_plain rfl ?_
        exact grown_move (.tmp 31) rfl h31
      refine steps_cons (fun a w hk hn => ?_) ?_
      · have h8 : a.eval (.tmp 8) = .int .i64 0 := hn.1
        have h32 : a.eval (.tmp 32) = .bool false := hn.2.1
        clear hn
        refine wants_guard (d := 32) rfl rfl h32 ?_
        exact grown_move (.tmp 8) rfl h8
      refine steps_cons (fun a w hk hn => ?_) ?_
      · have h33 : a.eval (.tmp 33) = .int .i64 0 := hn.1
        have h32 : a.eval (.tmp 32) = .bool false := hn.2.1
        clear hn
        refine wants_guard (d := 32) rfl rfl h32 ?_
        refine grown_run (v := .bool true) ?_ (Kp.refl _ _) rfl
        obtain ⟨ρ, hρ, hc, hf, hg⟩ := eval_is a
        rw [hρ] at h33 ⊢
        simp [go_sem, hc, h33]
      refine steps_cons (fun a w hk hn => ?_) ?_
      · have h9 : a.eval (.tmp 9) = .bool true := hn.1
        have h32 : a.eval (.tmp 32) = .bool false := hn.2.1
        clear hn
        refine wants_guard (d := 32) rfl rfl h32 ?_
        exact grown_move (.tmp 9) rfl h9
      refine steps_cons (fun a w hk hn => ?_) ?_
      · have h34 : a.eval (.tmp 34) = .bool true := hn.1
        have h35 : a.eval (.tmp 35) = .bool true := hn.2.1
        have h32 : a.eval (.tmp 32) = .bool false := hn.2.2.1
        clear hn
        refine wants_guard (d := 32) rfl rfl h32 ?_
        refine grown_run (v := .bool false) ?_ (Kp.refl _ _) rfl
        obtain ⟨ρ, hρ, hc, hf, hg⟩ := eval_is a
        rw [hρ] at h34 h35 ⊢
        simp [go_sem, h34, h35]
      refine steps_cons (fun a w hk hn => ?_) ?_
      · have h32 : a.eval (.tmp 32) = .bool false := hn.1
        have h36 : a.eval (.tmp 36) = .bool false := hn.2.1
        clear hn
        refine wants_plain rfl ?_
        exact grown_pick _ _ _ false rfl h32 h36
      exact trivial
    intro W1 hkW1
    rintro _ rfl
    rintro _ rfl
    rintro _ rfl
    rintro _ rfl
    rintro _ rfl
    rintro _ rfl
    rintro _ rfl
    rintro _ rfl
    rintro _ rfl
    rintro _ rfl
    rintro _ rfl
    rintro _ rfl
    rintro _ rfl
    rintro _ rfl
    rintro _ rfl
    rintro _ rfl
    rintro _ rfl
    rintro _ rfl
    rintro _ rfl
    rintro _ rfl
    rintro _ rfl
    refine fin_nil ?_
    simp only [Act.put, List.set_cons_zero, List.set_cons_succ, List.setIfInBounds_toArray]
    have HSW : ∀ w', Kp [] W1.drew w' → Sl w' (.slice a2 m2 c2) en := fun w' k' => unhide HSB w' (hkW1.trans ((kp_drew W1).trans k'))
    have HGW : Hid (∀ w', Kp [] W1.drew w' → w'.heap[g0]? = some (.cells #[.int .i64 i, .slice ap np cp, .slice aq nq cq] 33 (0, 0))) := fun w' k' => unhide HG3 w' (hkW1.trans ((kp_drew W1).trans k'))
    have HVW : Hid (∀ w', Kp [] W1.drew w' → SigV w' (.agg #[.int .i64 i, .slice ap np cp, .slice aq nq cq]) i ps qs) := fun w' k' => unhide HVV w' (hkW1.trans ((kp_drew W1).trans k'))
    go_wp2_with fail
    refine region_grow Tryd.mixed [Is (.bool true), Is (.bool true), Is (.slice a2 m2 c2), Is (.string SE), Is (.agg #[.int .i64 i, .slice ap np cp, .slice aq nq cq]), SlT (en), Is (.string SE), Is (.bool true), Is (.bool true), Is (.bool true), Is (undef), Is (undef), Is (undef), Is (undef), Is (undef), Is (undef), Is (undef), Is (undef), Is (undef), Is (undef), Is (undef), Is (.bool true), Is (.bool true)] [[(9, none)], [(38, some 0)], [(7, none), (39, some 1)], [(40, some 2), (39, some 1)], [(5, none), (39, some 1)], [(42, some 4), (39, some 1)], [(43, some 5), (39, some 1)], [(41, some 3), (44, some 6), (39, some 1)], [(39, some 1), (45, some 7)], [(46, some 8)], [(9, none), (47, some 9)], [(48, some 10), (47, some 9)], [(49, some 11), (47, some 9)], [(8, none), (50, some 12)], [(51, some 13), (50, some 12)], [(50, some 12), (52, some 14), (47, some 9)], [(53, some 15), (47, some 9)], [(7, none), (54, some 16)], [(55, some 17), (54, some 16)], [(56, some 18), (54, some 16)], [(54, some 16), (57, some 19), (47, some 9)], [(47, some 9), (58, some 20)], [(59, some 21)]] (by kernel_rfl) ?_ ?_ ?_
    · simp only [List.mem_cons, List.not_mem_nil, or_false]
      intro R hR
      rcases hR with rfl | rfl | rfl | rfl | rfl | rfl | rfl | rfl | rfl | rfl | rfl | rfl | rfl | rfl | rfl | rfl | rfl | rfl | rfl | rfl | rfl | rfl | rfl <;> first | exact stable_is _ | exact stable_sl _
    · refine steps_cons (fun a w hk hn => ?_) ?_
      · have h9 : a.eval (.tmp 9) = .bool true := hn.1
        clear hn
        refine wants_plain rfl ?_
        exact grown_move (.tmp 9) rfl h9
      refine steps_cons (fun a w hk hn => ?_) ?_
      · have h38 : a.eval (.tmp 38) = .bool true := hn.1
        clear hn
        refine wants_plain rfl ?_
        exact grown_move (.tmp 38) rfl h38
      refine steps_cons (fun a w hk hn => ?_) ?_
      · have h7 : a.eval (.tmp 7) = .slice a2 m2 c2 := hn.1
        have h39 : a.eval (.tmp 39) = .bool true := hn.2.1
        clear hn
        refine wants_guard (d := 39) rfl rfl h39 ?_
        exact grown_move (.tmp 7) rfl h7
      refine steps_cons (fun a w hk hn => ?_) ?_
      · have h40 : a.eval (.tmp 40) = .slice a2 m2 c2 := hn.1
        have h39 : a.eval (.tmp 39) = .bool true := hn.2.1
        clear hn
        refine wants_guard (d := 39) rfl rfl h39 ?_
        exact grown_conv (.tmp 40) _ _ 5 (en) rfl (by rw [h40]; exact HSW w hk) Tryd.underlying24 Tryd.underlying5 Tryd.underlying9 (congrArg Value.string (unhide HSE).symm)
      refine steps_cons (fun a w hk hn => ?_) ?_
      · have h5 : a.eval (.tmp 5) = .pointer (some ⟨g0, 0, none⟩) := hn.1
        have h39 : a.eval (.tmp 39) = .bool true := hn.2.1
        clear hn
        refine wants_guard (d := 39) rfl rfl h39 ?_
        exact grown_loadsig (.tmp 5) rfl _ _ _ _ _ h5 (unhide HGW w hk) rfl
      refine steps_cons (fun a w hk hn => ?_) ?_
      · have h42 : a.eval (.tmp 42) = .agg #[.int .i64 i, .slice ap np cp, .slice aq nq cq] := hn.1
        have h39 : a.eval (.tmp 39) = .bool true := hn.2.1
        clear hn
        refine wants_guard (d := 39) rfl rfl h39 ?_
        refine grown_call (f := 42) rfl Tryd.func42 (by kernel_rfl) (by kernel_rfl) ?_
        simp only [List.map_toArray, List.map_cons, List.map_nil, h42]
        refine (refencode_any _ i ps qs (unhide HRT) w (unhide HVW w hk)).mono ?_
        rintro e w' ⟨ao, m, c, rfl, R, K⟩
        rw [← unhide HEN] at R
        exact ⟨_, rfl, K, R.sl⟩
      refine steps_cons (fun a w hk hn => ?_) ?_
      · have h43 : Sl w (a.eval (.tmp 43)) (en) := hn.1
        have h39 : a.eval (.tmp 39) = .bool true := hn.2.1
        clear hn
        refine wants_guard (d := 39) rfl rfl h39 ?_
        exact grown_conv (.tmp 43) _ _ 5 _ rfl h43 Tryd.underlying24 Tryd.underlying5 Tryd.underlying9 (congrArg Value.string (unhide HSE).symm)
      refine steps_cons (fun a w hk hn => ?_) ?_
      · have h41 : a.eval (.tmp 41) = .string SE := hn.1
        have h44 : a.eval (.tmp 44) = .string SE := hn.2.1
        have h39 : a.eval (.tmp 39) = .bool true := hn.2.2.1
        clear hn
        refine wants_guard (d := 39) rfl rfl h39 ?_
        refine grown_run (v := .bool true) ?_ (Kp.refl _ _) rfl
        obtain ⟨ρ, hρ, hc, hf, hg⟩ := eval_is a
        rw [hρ] at h41 h44 ⊢
        simp [go_sem, h41, h44]
      refine steps_cons (fun a w hk hn => ?_) ?_
      · have h39 : a.eval (.tmp 39) = .bool true := hn.1
        have h45 : a.eval (.tmp 45) = .bool true := hn.2.1
        clear hn
        refine wants_plain rfl ?_
        exact grown_pick _ _ _ true rfl h39 h45
      refine steps_cons (fun a w hk hn => ?_) ?_
      · have h46 : a.eval (.tmp 46) = .bool true := hn.1
        clear hn
        refine wants_plain rfl ?_
        exact grown_move (.tmp 46) rfl h46
      refine steps_cons (fun a w hk hn => ?_) ?_
      · have h9 : a.eval (.tmp 9) = .bool true := hn.1
        have h47 : a.eval (.tmp 47) = .bool true := hn.2.1
        clear hn
        exact wants_not (d := 47) rfl rfl h47 rfl
      refine steps_cons (fun a w hk hn => ?_) ?_
      · have h48 : a.eval (.tmp 48) = undef := hn.1
        have h47 : a.eval (.tmp 47) = .bool true := hn.2.1
        clear hn
        exact wants_not (d := 47) rfl rfl h47 rfl
      refine steps_cons (fun a w hk hn => ?_) ?_
      · have h49 : a.eval (.tmp 49) = undef := hn.1
        have h47 : a.eval (.tmp 47) = .bool true := hn.2.1
        clear hn
        exact wants_not (d := 47) rfl rfl h47 rfl
      refine steps_cons (fun a w hk hn => ?_) ?_
      · have h8 : a.eval (.tmp 8) = .int .i64 0 := hn.1
        have h50 : a.eval (.tmp 50) = undef := hn.2.1
        clear hn
        exact wants_none (d := 50) rfl rfl h50 rfl
      refine steps_cons (fun a w hk hn => ?_) ?_
      · have h51 : a.eval (.tmp 51) = undef := hn.1
        have h50 : a.eval (.tmp 50) = undef := hn.2.1
        clear hn
        exact wants_none (d := 50) rfl rfl h50 rfl
      refine steps_cons (fun a w hk hn => ?_) ?_
      · have h50 : a.eval (.tmp 50) = undef := hn.1
        have h52 : a.eval (.tmp 52) = undef := hn.2.1
        have h47 : a.eval (.tmp 47) = .bool true := hn.2.2.1
        clear hn
        exact wants_not (d := 47) rfl rfl h47 rfl
      refine steps_cons (fun a w hk hn => ?_) ?_
      · have h53 : a.eval (.tmp 53) = undef := hn.1
        have h47 : a.eval (.tmp 47) = .bool true := hn.2.1
        clear hn
        exact wants_not (d := 47) rfl rfl h47 rfl
      refine steps_cons (fun a w hk hn => ?_) ?_
      · have h7 : a.eval (.tmp 7) = .slice a2 m2 c2 := hn.1
        have h54 : a.eval (.tmp 54) = undef := hn.2.1
        clear hn
        exact wants_none (d := 54) rfl rfl h54 rfl
      refine steps_cons (fun a w hk hn => ?_) ?_
      · have h55 : a.eval (.tmp 55) = undef := hn.1
        have h54 : a.eval (.tmp 54) = undef := hn.2.1
        clear hn
        exact wants_none (d := 54) rfl rfl h54 rfl
      refine steps_cons (fun a w hk hn => ?_) ?_
      · have h56 : a.eval (.tmp 56) = undef := hn.1
        have h54 : a.eval (.tmp 54) = undef := hn.2.1
        clear hn
        exact wants_none (d := 54) rfl rfl h54 rfl
      refine steps_cons (fun a w hk hn => ?_) ?_
      · have h54 : a.eval (.tmp 54) = undef := hn.1
        have h57 : a.eval (.tmp 57) = undef := hn.2.1
        have h47 : a.eval (.tmp 47) = .bool true := hn.2.2.1
        clear hn
        exact wants_not (d := 47) rfl rfl h47 rfl
      refine steps_cons (fun a w hk hn => ?_) ?_
      · have h47 : a.eval (.tmp 47) = .bool true := hn.1
        have h58 : a.eval (.tmp 58) = undef := hn.2.1
        clear hn
        refine wants_plain rfl ?_
        exact grown_pick _ _ _ true rfl h47 rfl
      refine steps_cons (fun a w hk hn => ?_) ?_
      · have h59 : a.eval (.tmp 59) = .bool true := hn.1
        clear hn
        refine wants_plain rfl ?_
        exact grown_assign (.tmp 59) rfl h59
      exact trivial
    intro W2 hkW2
    rintro _ rfl
    rintro _ rfl
    rintro _ rfl
    rintro _ rfl
    rintro _ rfl
    intro v43 h43
    rintro _ rfl
    rintro _ rfl
    rintro _ rfl
    rintro _ rfl
    rintro _ rfl
    rintro _ rfl
    rintro _ rfl
    rintro _ rfl
    rintro _ rfl
    rintro _ rfl
    rintro _ rfl
    rintro _ rfl
    rintro _ rfl
    rintro _ rfl
    rintro _ rfl
    rintro _ rfl
    rintro _ rfl
    refine fin_nil ?_
    simp only [Act.put, List.set_cons_zero, List.set_cons_succ, List.setIfInBounds_toArray]
    go_wp2_with fail
    go_ret
    exact ⟨rfl, ((unhide HK3).trans ((kp_drew w3).trans hkW1)).trans ((kp_drew W1).trans hkW2)⟩
end Go.Proofs.YtdioaohejoflcaaDoor
