/-
  The contract of the reference's Decode.
-/
import Derived.Test.YtdjofooggofpkaaGreatDoorKSOwner
import Derived.Test.YtdjofooggofpkaaGreatDoorKSRefReader
namespace Go.Proofs.YtdjofooggofpkaaGreatDoor
open Go.RowKit
open Go.Proofs

theorem step_call {P : Program} {ops : Array Oper} {o : Oper} {a : Act} {w : World} {K : Act → World → Prop} {Q : Exit → Act → World → Prop} {E : Prop} {f : FuncId} {fn : Func} {xs : Array Operand} {ats : Array TypeId} (hgd : o.guard = none) (ho : o.op = .call { callee := .value (.func f), args := xs, argTypes := ats }) (hf : P.funcs[f]? = some fn) (hn : (fn.name == "runtime.NumGoroutine") = false) (hb : fn.body.isNone = false)
    (h : Calls P f (xs.map a.eval) w fun e w' => ∃ v, e = .returned v ∧ K (a.put o.dst v) w') : if Region.wanted o (yielded ops a.tmps) = true then Oper.wp P o a w K Q else E := by
  have hw : Region.wanted o (yielded ops a.tmps) = true := by simp [Region.wanted, hgd]
  rw [if_pos hw]
  have e : (execOp a.eval o).run P w = .ok (.enter f (xs.map a.eval)) w := by
    obtain ⟨dst, op, ty, pos, after, guard⟩ := o
    simp only at ho
    subst ho
    rw [execOp_call_go]
    have h1 : fn.name ≠ "runtime.NumGoroutine" := by simpa using hn
    have h2 : ¬ fn.body = none := by intro h2; rw [h2] at hb; cases hb
    simp [callFunc, hf, h1, h2]
  unfold Oper.wp
  rw [e]
  simp only [Oper.upon]
  refine h.mono ?_
  rintro e' w' ⟨v, rfl, hv⟩
  exact hv

/-- what the reference's Decode answers. -/
def RDecd (b : List Int) (v : Value) (ok : Bool) (w' : World) : Prop :=
  if decOk b then SigV w' v (val (b.take 4)) (chP 64 (b.drop 4)) (chP 4 (b.drop 2052)) ∧ ok = true else v = sig0 ∧ ok = false

set_option maxRecDepth 100000 in
set_option maxHeartbeats 8000000 in
theorem refdecode_any (vb : Value) (bs : List Int) (w : World) (hS : Sl w vb bs) (hB : Bs bs) :
    Calls Tryz.prog 18 #[vb] w fun e w' => ∃ v ok, e = .returned (.tuple #[v, .bool ok]) ∧ RDecd bs v ok w' ∧ Kp [] w w' := by
  have G1 := heap_alloc_new w (.cells #[.int .i64 0, .slice none 0 0, .slice none 0 0] 24)
  have HK1 := hide ((Kp.refl [] w).alloc (.cells #[.int .i64 0, .slice none 0 0, .slice none 0 0] 24))
  by_cases hl : bs.length = 2180
  case neg =>
    have hno : decOk bs = false := by unfold decOk; simp [hl]
    have HNO := hide hno
    obtain ⟨ab, cb, rfl, _⟩ := hS
    obtain ⟨nb, hnb⟩ : ∃ n, n = bs.length := ⟨_, rfl⟩
    rw [← hnb] at hl ⊢
    have hni : ¬ (nb : Int) = 2180 := by omega
    clear hnb hl hno hB
    go_enter Tryz.func18, Tryz.ntmps18
    go_wp2_with (refine wpList_store_sig rfl (.tmp 2) (.tmp 12) rfl w.heap.size rfl _ _ _ _ _ _ G1 rfl ⟨rfl, rfl, rfl⟩ ?_; intro w4 G4 K4)
    refine bodyPost_ret (results_sig rfl _ _ w.heap.size _ _ _ (0, 0) rfl G4) rfl ?_
    exact ⟨_, _, rfl, by unfold RDecd; rw [unhide HNO]; exact ⟨rfl, rfl⟩, (unhide HK1).then K4 (by simp)⟩
  have HB := hide hB
  have HL := hide hl
  have hne : bs ≠ [] := fun e => by rw [e] at hl; simp at hl
  have hblt := hS.lt hne
  have HS := hide hS
  obtain ⟨ab, cb, hvb, _⟩ := hS
  rw [hl] at hvb
  subst hvb
  obtain ⟨w1, hw1⟩ : ∃ w1, w1 = w.alloc (.cells #[.int .i64 0, .slice none 0 0, .slice none 0 0] 24) := ⟨_, rfl⟩
  have hz1 : w1.heap.size = w.heap.size + 1 := by rw [hw1]; simp
  rw [← hw1] at G1 HK1
  obtain ⟨w2, hw2⟩ : ∃ w2, w2 = w1.alloc (.cells #[.slice ab 2180 cb, .int .i64 0, .bool false] 47) := ⟨_, rfl⟩
  have K2 : Kp [] w1 w2 := by rw [hw2]; exact (Kp.refl [] w1).alloc _
  have hz2 : w2.heap.size = w.heap.size + 2 := by rw [hw2]; simp [hz1]
  have R2 : RR w2 (w.heap.size + 1) (.slice ab 2180 cb) 0 false bs := ⟨by rw [hw2, ← hz1]; exact heap_alloc_new w1 _, (unhide HS).kept ((unhide HK1).trans K2) (by simp), fun e => by have := hblt _ e; omega, by omega⟩
  have hN := rnumb_any (w.heap.size + 1) (.slice ab 2180 cb) 0 false bs 4 w2 R2 (by omega) (by omega) hB
  have htk : tk false (rest 0 false bs) ((4 : Nat) : Int) = (bs.take 4, false, bs.drop 4) := by
    have e1 : rest 0 false bs = bs := rfl
    rw [e1]; exact tk_ok false bs 4 (by omega)
  rw [htk] at hN
  dsimp only at hN
  obtain ⟨x, hx⟩ : ∃ x, x = val (bs.take 4) := ⟨_, rfl⟩
  rw [← hx] at hN
  have hxb : 0 ≤ x ∧ x < 4294967296 := by
    have := val_bd (bs.take 4) (hB.take 4)
    rw [List.length_take, Nat.min_eq_left (by omega), ← hx] at this
    exact ⟨this.1, by simpa using this.2⟩
  have hwx : IntKind.i64.wrap x = x := wrap_at rfl (by omega) (by omega)
  have HX := hide hx
  have HXB := hide hxb
  have HN := hide hN
  have HK2 := hide ((unhide HK1).trans K2)
  have HG2 := hide (K2.heap G1 (by simp))
  have HW12 : Hid (w2 = (w.alloc (.cells #[.int .i64 0, .slice none 0 0, .slice none 0 0] 24)).alloc (.cells #[.slice ab 2180 cb, .int .i64 0, .bool false] 47)) := hide (by rw [hw2, hw1])
  have HBL0 := hide hblt
  have HZ2 := hide hz2
  clear hw1 hw2 hz1 hz2 R2 hN htk hx hxb G1 HK1 hB hl hne hblt K2
  go_enter Tryz.func18, Tryz.ntmps18
  go_wp2_with fail
  rw [← unhide HW12]
  refine (unhide HN).mono ?_
  rintro ee w3 ⟨rfl, p3, b3, R3, e3, K3⟩
  obtain ⟨q, hq⟩ : ∃ q, q = w.heap.size + 1 := ⟨_, rfl⟩
  rw [← hq] at R3 K3 ⊢
  have hb3 : b3 = false := (congrArg Prod.fst e3).symm
  subst hb3
  have hd3 : bs.drop p3 = bs.drop 4 := (congrArg Prod.snd e3).symm
  have HK3 : Hid (Kp [] w w3) := (unhide HK2).then K3 (fun i hi => .inr (by simp at hi; omega))
  have G3 : w3.heap[w.heap.size]? = some _ := K3.heap (unhide HG2) (by simp; omega)
  have hz3 : q < w3.heap.size := by have := K3.size; have := unhide HZ2; omega
  have HR3 := hide R3
  have HD3 := hide hd3
  have HQ := hide hq
  clear R3 K3 e3 hd3 HN HG2 HK2 HW12 HZ2 hq
  by_cases h16 : x < 16
  case neg =>
    have hno : decOk bs = false := by unfold decOk; rw [← unhide HX]; simp [h16]
    have HNO := hide hno
    have h16' : 16 ≤ x := by omega
    clear hno
    go_wp2_with (refine wpList_store_sig rfl (.tmp 2) (.tmp 20) rfl w.heap.size rfl _ _ _ _ _ _ G3 rfl ⟨rfl, rfl, rfl⟩ ?_; intro w4 G4 K4)
    refine bodyPost_ret (results_sig rfl _ _ w.heap.size _ _ _ (0, 0) rfl G4) rfl ?_
    exact ⟨_, _, rfl, by unfold RDecd; rw [unhide HNO]; exact ⟨rfl, rfl⟩, (unhide HK3).then K4 (by simp)⟩
  have hyes : decOk bs = true := by unfold decOk; rw [← unhide HX, unhide HL]; simp [h16]
  have HYES := hide hyes
  have h16' : ¬ 16 ≤ x := by omega
  have HG3 := hide G3
  have Ga := heap_alloc_new w3 (.cells #[.int .i64 0, .slice none 0 0, .slice none 0 0] 24)
  have HKa : Hid (Kp [] w3 (w3.alloc (.cells #[.int .i64 0, .slice none 0 0, .slice none 0 0] 24))) := (Kp.refl [] w3).alloc _
  clear G3 hyes
  go_wp2_with (refine wpList_store_sig rfl (.tmp 6) (.tmp 23) rfl w3.heap.size rfl _ _ _ _ _ _ Ga rfl ⟨rfl, rfl, rfl⟩ ?_; intro w4 G4 K4)
  obtain ⟨gs, hgs⟩ : ∃ gs, gs = w3.heap.size := ⟨_, rfl⟩
  have hs4 : gs < w4.heap.size := by rw [hgs]; exact (Array.getElem?_eq_some_iff.1 G4).1
  have hqs : q < gs := by rw [hgs]; exact hz3
  have hws : w.heap.size < q := by have := unhide HQ; omega
  have HK34 : Hid (Kp [gs] w3 w4) := by rw [hgs]; exact ((unhide HKa).mono (by simp)).trans K4
  rw [← hgs] at G4 ⊢
  have HG4 := hide G4
  have HBL : Hid (∀ i, (Value.slice ab 2180 cb).ownBlock = some i → i < w.heap.size) := hide (unhide HBL0)
  have HR4 : Hid (∃ p, RR w4 q (.slice ab 2180 cb) p false bs ∧ bs.drop p = bs.drop (4 + 32 * 0)) := ⟨p3, (unhide HR3).kept (unhide HK34) (by simp; omega) (fun i hi => by have := unhide HBL i hi; simp; omega), unhide HD3⟩
  have HA4 : Hid (AccS [q, gs] (w4.heap.size ≤ ·) w4 (chP 0 (bs.drop 4)) (.slice none 0 0) w4) := ⟨[], ⟨⟨rfl, .inl ⟨rfl, rfl⟩⟩, fun x hx => by cases hx⟩, rfl, Kp.refl _ _, fun x hx => by cases hx⟩
  have HGS := hide hgs
  clear Ga HKa G4 K4 hgs HR3 HD3 HBL0 hz3
  go_wp2_with fail
  go_loopw [7] (fun j wr => ∃ (k m cc : Nat) (ao : Option Addr), k ≤ 64 ∧ j = .int .i64 k ∧ AccS [q, gs] (w4.heap.size ≤ ·) w4 (chP k (bs.drop 4)) (.slice ao m cc) wr ∧ wr.heap[gs]? = some (.cells #[.int .i64 x, .slice ao m cc, .slice none 0 0] 24 (0, 0)) ∧ ∃ p, RR wr q (.slice ab 2180 cb) p false bs ∧ bs.drop p = bs.drop (4 + 32 * k)) (fun j _ => 64 - (intOf j).toNat)
  case atStart => exact ⟨0, 0, 0, none, by omega, rfl, unhide HA4, unhide HG4, unhide HR4⟩
  case round =>
    clear HA4 HG4 HR4
    obtain ⟨k, m, cc, ao, hk, rfl, Ar, Gr, p, Rr, hp⟩ := hrel
    have HA := hide Ar
    have HGr := hide Gr
    have HRr := hide Rr
    have HPp := hide hp
    clear Ar Gr Rr hp
    by_cases hlt : k < 64
    · have hlt2 : (k : Int) < 64 := by omega
      have hcq : wr.cell? ⟨gs, 1, none⟩ = some (.slice ao m cc) := by rw [cell_of_row wr gs 1 _ _ _ (unhide HGr)]; rfl
      obtain ⟨X, hX⟩ : ∃ X, X = ((bs.drop 4).drop (32 * k)).take 32 := ⟨_, rfl⟩
      have HE : Hid (chP (k + 1) (bs.drop 4) = chP k (bs.drop 4) ++ [X]) := by rw [hX]; exact chP_succ k _
      have HXB : Hid (Bs X) := by rw [hX]; exact (((unhide HB).drop _).drop _).take _
      have HLN : Hid ((chP k (bs.drop 4)).length ≤ 1000000) := by rw [chP_len]; show k ≤ 1000000; omega
      have hC := rraw_any q (.slice ab 2180 cb) p false bs ((32 : Nat) : Int) wr.drew ((unhide HRr).kept (kp_drew wr) (by simp) (by simp)) (by have := unhide HL; omega) (by omega)
      have htk : tk false (rest p false bs) ((32 : Nat) : Int) = (X, false, bs.drop (4 + 32 * (k + 1))) := by
        have e1 : rest p false bs = bs.drop (4 + 32 * k) := unhide HPp
        rw [e1, tk_ok _ _ 32 (by rw [List.length_drop]; have := unhide HL; omega), List.drop_drop, hX, List.drop_drop, show 4 + 32 * k + 32 = 4 + 32 * (k + 1) by omega]
      rw [htk] at hC
      dsimp only at hC
      have HC := hide hC
      clear hC htk hX
      go_wp2_with fail
      go_region_law (first
        | (refine step_call (by rfl) (by rfl) Tryz.func19 (by kernel_rfl) (by kernel_rfl) ?_; simp only [List.map_toArray, List.map_cons, List.map_nil]; refine (unhide HC).mono ?_; rintro ee wz ⟨az, mz, cz, rfl, O4, L4⟩; refine ⟨_, rfl, ?_⟩; obtain ⟨p4, b4, R4, e4, K4⟩ := L4; have kk4 := (kp_drew wr).mono (S' := [q]) (by simp) |>.trans K4; have A4 := (unhide HA).off kk4 (by simp) (fun i hi e => by subst e; omega) (by omega); have G4 : wz.heap[gs]? = some _ := kk4.heap (unhide HGr) (by simp; omega); have hca : ∀ o, (wz.alloc o).cell? ⟨gs, 1, none⟩ = some (.slice ao m cc) := (fun o => (World.cell?_alloc_lt _ _ _ (by exact (Array.getElem?_eq_some_iff.1 G4).1)).trans (by rw [cell_of_row wz gs 1 _ _ _ G4]; rfl)); have hcw : wz.cell? ⟨gs, 1, none⟩ = some (.slice ao m cc) := (by rw [cell_of_row wz gs 1 _ _ _ G4]; rfl); have HA4 := hide A4; have HG4 := hide G4; have HO4 := hide O4; have HR4 := hide R4; have HE4 := hide e4; clear A4 G4 O4 R4 e4 kk4 K4)
        | (refine step_accs (by rfl) (.tmp 29) (.tmp 32) (by rfl) (.slice ao m cc) _ (by rfl) (unhide HA4) (unhide HLN) (.slice az mz cz) X (unhide HO4).1 (unhide HXB) (fun i h1 h2 => absurd ((unhide HO4).2 i h1) (by have := (unhide HA).lt i h2; show ¬ wr.heap.size ≤ i; omega)) (fun i h1 => Nat.le_trans (unhide HA).kp.size ((unhide HO4).2 i h1)) wz.heap.size (by rfl) (by exact cell_of_one (heap_alloc_new wz _)) ((Kp.refl [] wz).alloc _) ?_; intro ay my cy wy A5 S5; have hng : ∀ i, (Value.slice ao m cc).ownBlock = some i → w4.heap.size ≤ i := (by obtain ⟨_, hR, _⟩ := unhide HA; exact hR.1.own); have G5 : wy.heap[gs]? = some _ := S5.1.heap (unhide HG4) (fun hm => by have := hng gs (by simpa using hm); omega); have hc5 : wy.cell? ⟨gs, 1, none⟩ = some (.slice ao m cc) := (by rw [cell_of_row wy gs 1 _ _ _ G5]; rfl); have hf5 : wy.frozen? ⟨gs, 1, none⟩ = false := frozen_of_row wy gs 1 _ _ G5))
      all_goals
        have k6 := setCell_kp wy gs 1 (.slice ay my cy)
        have G6 := heap_setCell_same wy gs 1 _ _ (.slice ay my cy) G5
        have A6 := A5.off k6 (by simp) (fun i hi e => by subst e; omega) (by omega)
        have hb4 : b4 = false := by have := congrArg Prod.fst (unhide HE4); exact this.symm
        have hd4 : bs.drop (4 + 32 * (k + 1)) = bs.drop p4 := by have := congrArg Prod.snd (unhide HE4); rw [hb4] at this; exact this
        have R6 : RR (wy.setCell ⟨gs, 1, none⟩ (.slice ay my cy)) q (.slice ab 2180 cb) p4 false bs := by
          rw [hb4] at HR4
          exact ((unhide HR4).kept S5.1 (fun hm => by have := hng q (by simpa using hm); omega) (fun i hi hm => by have := hng i (by simpa using hm); have := unhide HBL i hi; omega)).kept k6 (by simp; omega) (fun i hi => by have := unhide HBL i hi; simp; omega)
        have HG6 := hide G6
        have HA6 := hide A6
        have HR6 := hide R6
        have HD6 := hide hd4
        clear A5 S5 G5 G6 A6 R6 hd4 hb4 k6 hcq hca hcw hc5 hf5 HC HR4 HO4 HG4 HA4 HE4 hng
        go_wp2_with fail
        go_roundw
        case rel => exact ⟨k + 1, my, cy, ay, by omega, by go_num, by rw [unhide HE]; exact unhide HA6, unhide HG6, p4, unhide HR6, (unhide HD6).symm⟩
        case measure => simp [intOf]; omega
    · have hkn : k = 64 := by omega
      have hlt2 : ¬ (k : Int) < 64 := by omega
      rw [hkn] at HA HPp
      clear hkn
      have HL5 : Hid (∃ l, Lists wr (.slice ao m cc) l ∧ l.map (·.2) = chP 64 (bs.drop 4) ∧ (∀ i, (Value.slice ao m cc).ownBlock = some i → w4.heap.size ≤ i ∧ i < wr.heap.size) ∧ ∀ x ∈ l, ∀ i, x.1.ownBlock = some i → w4.heap.size ≤ i ∧ i < wr.heap.size) := by
        obtain ⟨l, p1, p2, p3, p4⟩ := (unhide HA).lists (by rw [chP_len]; omega)
        have h32 := chP_32 64 (bs.drop 4) (by rw [List.length_drop]; have := unhide HL; omega)
        refine ⟨l, p1, p2, fun i hi => ⟨p3 i hi, (unhide HA).lt i hi⟩, fun x hx i hi => ⟨p4 x hx i hi, ?_⟩⟩
        obtain ⟨j, hj, rfl⟩ := List.getElem_of_mem hx
        obtain ⟨_, _, _, _, p5⟩ := p1
        obtain ⟨_, _, _, _, p6, _⟩ := p5 j hj
        refine p6.lt (fun e => ?_) i hi
        have := h32 l[j].2 (by rw [← p2]; exact List.mem_map.2 ⟨_, hx, rfl⟩)
        rw [e] at this
        cases this
      obtain ⟨w5, hw5⟩ : ∃ w5, w5 = wr := ⟨_, rfl⟩
      subst hw5
      have HK5 := hide (unhide HA).kp
      have hs5 : gs < w5.heap.size := (Array.getElem?_eq_some_iff.1 (unhide HGr)).1
      obtain ⟨a5, m5, c5, e5⟩ : ∃ a5 m5 c5, (Value.slice a5 m5 c5) = .slice ao m cc := ⟨_, _, _, rfl⟩
      injection e5 with f1 f2 f3
      subst f1
      subst f2
      subst f3
      have HG6 := hide (unhide HGr)
      have HR6 : Hid (∃ p, RR w5 q (.slice ab 2180 cb) p false bs ∧ bs.drop p = bs.drop (2052 + 32 * 0)) := ⟨p, unhide HRr, unhide HPp⟩
      have HA6 : Hid (AccS [q, gs] (w5.heap.size ≤ ·) w5 (chP 0 (bs.drop 2052)) (.slice none 0 0) w5) := ⟨[], ⟨⟨rfl, .inl ⟨rfl, rfl⟩⟩, fun x hx => by cases hx⟩, rfl, Kp.refl _ _, fun x hx => by cases hx⟩
      clear HA HGr HRr HPp
      go_wp2_with fail
      go_loopw [8] (fun j wr => ∃ (k m cc : Nat) (ao : Option Addr), k ≤ 4 ∧ j = .int .i64 k ∧ AccS [q, gs] (w5.heap.size ≤ ·) w5 (chP k (bs.drop 2052)) (.slice ao m cc) wr ∧ wr.heap[gs]? = some (.cells #[.int .i64 x, .slice a5 m5 c5, .slice ao m cc] 24 (0, 0)) ∧ ∃ p, RR wr q (.slice ab 2180 cb) p false bs ∧ bs.drop p = bs.drop (2052 + 32 * k)) (fun j _ => 4 - (intOf j).toNat)
      case atStart => exact ⟨0, 0, 0, none, by omega, rfl, unhide HA6, unhide HG6, unhide HR6⟩
      case round =>
        clear HA6 HG6 HR6
        obtain ⟨k, m, cc, ao, hk, rfl, Ar, Gr, p, Rr, hp⟩ := hrel
        have HA := hide Ar
        have HGr := hide Gr
        have HRr := hide Rr
        have HPp := hide hp
        clear Ar Gr Rr hp
        by_cases hlt : k < 4
        · have hlt2 : (k : Int) < 4 := by omega
          have hcq : wr.cell? ⟨gs, 2, none⟩ = some (.slice ao m cc) := by rw [cell_of_row wr gs 2 _ _ _ (unhide HGr)]; rfl
          obtain ⟨X, hX⟩ : ∃ X, X = ((bs.drop 2052).drop (32 * k)).take 32 := ⟨_, rfl⟩
          have HE : Hid (chP (k + 1) (bs.drop 2052) = chP k (bs.drop 2052) ++ [X]) := by rw [hX]; exact chP_succ k _
          have HXB : Hid (Bs X) := by rw [hX]; exact (((unhide HB).drop _).drop _).take _
          have HLN : Hid ((chP k (bs.drop 2052)).length ≤ 1000000) := by rw [chP_len]; show k ≤ 1000000; omega
          have hC := rraw_any q (.slice ab 2180 cb) p false bs ((32 : Nat) : Int) wr.drew ((unhide HRr).kept (kp_drew wr) (by simp) (by simp)) (by have := unhide HL; omega) (by omega)
          have htk : tk false (rest p false bs) ((32 : Nat) : Int) = (X, false, bs.drop (2052 + 32 * (k + 1))) := by
            have e1 : rest p false bs = bs.drop (2052 + 32 * k) := unhide HPp
            rw [e1, tk_ok _ _ 32 (by rw [List.length_drop]; have := unhide HL; omega), List.drop_drop, hX, List.drop_drop, show 2052 + 32 * k + 32 = 2052 + 32 * (k + 1) by omega]
          rw [htk] at hC
          dsimp only at hC
          have HC := hide hC
          clear hC htk hX
          go_wp2_with fail
          go_region_law (first
            | (refine step_call (by rfl) (by rfl) Tryz.func19 (by kernel_rfl) (by kernel_rfl) ?_; simp only [List.map_toArray, List.map_cons, List.map_nil]; refine (unhide HC).mono ?_; rintro ee wz ⟨az, mz, cz, rfl, O4, L4⟩; refine ⟨_, rfl, ?_⟩; obtain ⟨p4, b4, R4, e4, K4⟩ := L4; have kk4 := (kp_drew wr).mono (S' := [q]) (by simp) |>.trans K4; have A4 := (unhide HA).off kk4 (by simp) (fun i hi e => by subst e; omega) (by omega); have G4 : wz.heap[gs]? = some _ := kk4.heap (unhide HGr) (by simp; omega); have hca : ∀ o, (wz.alloc o).cell? ⟨gs, 2, none⟩ = some (.slice ao m cc) := (fun o => (World.cell?_alloc_lt _ _ _ (by exact (Array.getElem?_eq_some_iff.1 G4).1)).trans (by rw [cell_of_row wz gs 2 _ _ _ G4]; rfl)); have hcw : wz.cell? ⟨gs, 2, none⟩ = some (.slice ao m cc) := (by rw [cell_of_row wz gs 2 _ _ _ G4]; rfl); have HA4 := hide A4; have HG4 := hide G4; have HO4 := hide O4; have HR4 := hide R4; have HE4 := hide e4; clear A4 G4 O4 R4 e4 kk4 K4)
            | (refine step_accs (by rfl) (.tmp 40) (.tmp 43) (by rfl) (.slice ao m cc) _ (by rfl) (unhide HA4) (unhide HLN) (.slice az mz cz) X (unhide HO4).1 (unhide HXB) (fun i h1 h2 => absurd ((unhide HO4).2 i h1) (by have := (unhide HA).lt i h2; show ¬ wr.heap.size ≤ i; omega)) (fun i h1 => Nat.le_trans (unhide HA).kp.size ((unhide HO4).2 i h1)) wz.heap.size (by rfl) (by exact cell_of_one (heap_alloc_new wz _)) ((Kp.refl [] wz).alloc _) ?_; intro ay my cy wy A5 S5; have hng : ∀ i, (Value.slice ao m cc).ownBlock = some i → w5.heap.size ≤ i := (by obtain ⟨_, hR, _⟩ := unhide HA; exact hR.1.own); have G5 : wy.heap[gs]? = some _ := S5.1.heap (unhide HG4) (fun hm => by have := hng gs (by simpa using hm); omega); have hc5 : wy.cell? ⟨gs, 2, none⟩ = some (.slice ao m cc) := (by rw [cell_of_row wy gs 2 _ _ _ G5]; rfl); have hf5 : wy.frozen? ⟨gs, 2, none⟩ = false := frozen_of_row wy gs 2 _ _ G5))
          all_goals
            have k6 := setCell_kp wy gs 2 (.slice ay my cy)
            have G6 := heap_setCell_same wy gs 2 _ _ (.slice ay my cy) G5
            have A6 := A5.off k6 (by simp) (fun i hi e => by subst e; omega) (by omega)
            have hb4 : b4 = false := by have := congrArg Prod.fst (unhide HE4); exact this.symm
            have hd4 : bs.drop (2052 + 32 * (k + 1)) = bs.drop p4 := by have := congrArg Prod.snd (unhide HE4); rw [hb4] at this; exact this
            have R6 : RR (wy.setCell ⟨gs, 2, none⟩ (.slice ay my cy)) q (.slice ab 2180 cb) p4 false bs := by
              rw [hb4] at HR4
              exact ((unhide HR4).kept S5.1 (fun hm => by have := hng q (by simpa using hm); omega) (fun i hi hm => by have := hng i (by simpa using hm); have := unhide HBL i hi; omega)).kept k6 (by simp; omega) (fun i hi => by have := unhide HBL i hi; simp; omega)
            have HG6 := hide G6
            have HA6 := hide A6
            have HR6 := hide R6
            have HD6 := hide hd4
            clear A5 S5 G5 G6 A6 R6 hd4 hb4 k6 hcq hca hcw hc5 hf5 HC HR4 HO4 HG4 HA4 HE4 hng
            go_wp2_with fail
            go_roundw
            case rel => exact ⟨k + 1, my, cy, ay, by omega, by go_num, by rw [unhide HE]; exact unhide HA6, unhide HG6, p4, unhide HR6, (unhide HD6).symm⟩
            case measure => simp [intOf]; omega
        · have hkn : k = 4 := by omega
          have hlt2 : ¬ (k : Int) < 4 := by omega
          rw [hkn] at HA HPp
          clear hkn
          have HK6 := hide (unhide HA).kp
          have HV : Hid (∀ w', Kp [w.heap.size] wr w' → SigV w' (.agg #[.int .i64 x, .slice a5 m5 c5, .slice ao m cc]) x (chP 64 (bs.drop 4)) (chP 4 (bs.drop 2052))) := by
            intro w' k'
            obtain ⟨lp, p1, p2, p3, p4⟩ := unhide HL5
            obtain ⟨lq, q1, q2, q3, q4⟩ := (unhide HA).lists (by rw [chP_len]; omega)
            have pr := p1.off (unhide HK6) (fun i hi => by have := p3 i hi; simp; omega) (fun y hy i hi => by have := p4 y hy i hi; simp; omega)
            refine ⟨_, _, lp, lq, rfl, pr.off k' (fun i hi => by have := p3 i hi; simp; omega) (fun y hy i hi => by have := p4 y hy i hi; simp; omega), p2, q1.off k' (fun i hi => ?_) (fun y hy i hi => ?_), q2⟩
            · have := q3 i hi; simp; omega
            · have := q4 y hy i hi; simp; omega
          have G0 : wr.heap[w.heap.size]? = some (.cells #[.int .i64 0, .slice none 0 0, .slice none 0 0] 24) := (unhide HK6).heap ((unhide HK5).heap ((unhide HK34).heap (unhide HG3) (by simp; omega)) (by simp; omega)) (by simp; omega)
          have HKr : Hid (Kp [] w wr) := (((unhide HK3).then (unhide HK34) (fun i hi => .inr (by simp at hi; omega))).then (unhide HK5) (fun i hi => .inr (by simp at hi; omega))).then (unhide HK6) (fun i hi => .inr (by simp at hi; omega))
          clear HA HRr HPp HK5 HK6 HK34 HG3
          go_wp2_with (refine wpList_load_row rfl 24 (.tmp 6) rfl gs rfl 24 _ (0, 0) _ (unhide HGr) Tryz.underlying24 rfl Tryz.sigSize ?_; refine Hid.out ?_)
          refine hide ?_
          go_wp2_with (refine wpList_store_sig rfl (.tmp 2) (.tmp 46) rfl w.heap.size rfl _ _ _ _ _ _ G0 rfl ⟨rfl, rfl, rfl⟩ ?_; intro w9 G9 K9)
          refine bodyPost_ret (results_sig rfl _ _ w.heap.size _ _ _ (0, 0) rfl G9) rfl ?_
          exact ⟨_, _, rfl, by unfold RDecd; rw [unhide HYES]; exact ⟨by rw [← unhide HX]; exact unhide HV w9 K9, rfl⟩, (unhide HKr).then K9 (by simp)⟩
end Go.Proofs.YtdjofooggofpkaaGreatDoor
