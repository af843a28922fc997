/-
  The contracts of package sign's writeHashes and Encode.
-/
import Derived.Test.YtdjofooggofpkaaGreatDoorKSSign
import Derived.Test.YtdjofooggofpkaaGreatDoorKLSmalls
namespace Go.Proofs.YtdjofooggofpkaaGreatDoor
open Go.RowKit
open Go.Proofs

set_option maxRecDepth 100000 in
set_option maxHeartbeats 1000000 in
theorem writes_any (p : Nat) (v : Value) (bs : List Int) (vl : Value) (l : List (Value × List Int)) (ls : List (List Int)) (hls : l.map (·.2) = ls) (w0 w : World) (hw : Wn w0 w p v bs) (hL : Lists w0 vl l) (hm : ∀ x ∈ ls, x.length = 32) (hn : ls.length ≤ 100) (hb : bs.length ≤ 100000) :
    Calls Tryz.prog 48 #[.pointer (some ⟨p, 0, none⟩), vl] w fun e w' => e = .returned (.tuple #[]) ∧ ∃ v', Wn w0 w' p v' (bs ++ ls.flatten) := by
  have HL := hide hL
  have HLS := hide hls
  have HM := hide hm
  have hlen : l.length = ls.length := by rw [← hls]; simp
  obtain ⟨al, cl, hvl, _⟩ := hL
  rw [hlen] at hvl
  subst hvl
  obtain ⟨N, hN⟩ : ∃ N, N = ls.length := ⟨_, rfl⟩
  have HN := hide hN
  rw [← hN] at hn HL ⊢
  have hni : (N : Int) ≤ 100 := by omega
  have HW := hide hw
  clear hls hm hlen hN hw
  go_enter Tryz.func48, Tryz.ntmps48
  go_wp2_with fail
  go_loopw [8] (fun j wr => ∃ k : Nat, k ≤ N ∧ j = .int .i64 k ∧ ∃ v', Wn w0 wr p v' (bs ++ (ls.take k).flatten)) (fun j _ => N - (intOf j).toNat)
  case atStart => exact ⟨0, by omega, rfl, v, by simpa using unhide HW⟩
  case round =>
    clear HW
    obtain ⟨k, hk, rfl, v', hw'⟩ := hrel
    have HW := hide hw'
    clear hw'
    by_cases hlt : k < N
    · have hlt2 : (k : Int) < (N : Int) := by omega
      have hkl : k < ls.length := by have := unhide HN; omega
      obtain ⟨b, off, ay, ny, cy, rfl, hc, hSy, hBy⟩ := lists_at (unhide HL) (unhide HLS) k hkl
      have hyl : (ls.getD k []).length = 32 := unhide HM _ (getD_mem hkl)
      have hE : (ls.take (k + 1)).flatten = (ls.take k).flatten ++ ls.getD k [] := by rw [List.take_succ_eq_append_getElem hkl, List.flatten_append]; simp [List.getD, hkl]
      have hfl : (ls.take k).flatten.length ≤ 32 * 100 := by
        have : ∀ (m : List (List Int)), (∀ x ∈ m, x.length = 32) → m.flatten.length = 32 * m.length := by
          intro m
          induction m with
          | nil => simp
          | cons a m ih =>
            intro hm
            rw [List.flatten_cons, List.length_append, ih (fun x hx => hm x (by simp [hx])), hm a (by simp), List.length_cons]
            omega
        rw [this _ (fun x hx => unhide HM x (List.mem_of_mem_take hx)), List.length_take]
        have := unhide HN
        omega
      have hcw := (unhide HW).2.1.cell hc (by simp)
      have HC := hide (raw_any p v' _ (.slice ay ny cy) (ls.getD k []) wr (unhide HW).1 (hSy.kept (unhide HW).2.1 (by simp)) (by rw [List.length_append]; omega))
      have HE := hide hE
      clear hc hSy hBy hyl hE hfl
      go_wp2_with fail
      refine (unhide HC).mono ?_
      rintro ee w2 ⟨rfl, v2, W2, S2⟩
      have HW2 := hide ((unhide HW).step W2 S2)
      clear W2 S2 HC HW hcw
      go_wp2_with fail
      go_roundw
      case rel => exact ⟨k + 1, by omega, by go_num, v2, by rw [unhide HE, ← List.append_assoc]; exact unhide HW2⟩
      case measure => simp [intOf]; omega
    · obtain rfl : k = N := by omega
      have hT : ls.take k = ls := List.take_of_length_le (by have := unhide HN; omega)
      rw [hT] at HW
      have hlt2 : ¬ (k : Int) < (k : Int) := by omega
      clear hT HL
      go_wp2_with fail
      go_end0
      exact ⟨rfl, v', unhide HW⟩

set_option maxRecDepth 100000 in
set_option maxHeartbeats 2000000 in
theorem encode_any (v : Value) (i : Int) (ps qs : List (List Int)) (hr : rgtP i ps qs = true) (w : World) (hV : SigV w v i ps qs) :
    Calls Tryz.prog 26 #[v] w fun e w' => ∃ ao m c, e = .returned (.tuple #[.slice ao m c, .int .i64 0]) ∧ Row w' w.heap.size (.slice ao m c) (encP i ps qs) ∧ Kp [] w w' := by
  obtain ⟨⟨hi0, hi1⟩, ⟨hpl, hp32⟩, hql, hq32⟩ := (rgtP_iff i ps qs).1 hr
  obtain ⟨ap, np, cp, aq, nq, cq, lp, lq, rfl, hLP, hp, hLQ, hq, hnp, hnq⟩ := hV.shape
  clear hnp hnq
  obtain ⟨ob, hob⟩ : ∃ o : Obj, o = (.cells #[.int .i64 i, .slice ap np cp, .slice aq nq cq] 24) := ⟨_, rfl⟩
  have K1 : Kp [] w (w.alloc ob) := (Kp.refl [] w).alloc ob
  have HR := hide (sright_any _ i ps qs true hr.symm (w.alloc ob) (hV.kept K1))
  have HLP := hide hLP
  have HLQ := hide hLQ
  have Hp := hide hp
  have Hq := hide hq
  have H32 := hide hp32
  have H32q := hide hq32
  have hl1 := load_sig (w.alloc ob) w.heap.size (.int .i64 i) (.slice ap np cp) (.slice aq nq cq) (0, 0) (by rw [hob]; exact heap_alloc_new w _)
  have G1 : Hid ((w.alloc ob).heap[w.heap.size]? = some (.cells #[.int .i64 i, .slice ap np cp, .slice aq nq cq] 24 (0, 0))) := by rw [hob]; exact heap_alloc_new w _
  rw [hob] at K1 HR hl1 G1
  have HK1 := hide K1
  have hwrap : IntKind.u32.wrap i = i := by simp [IntKind.wrap, IntKind.signed, IntKind.bits]; omega
  have hpl' : Hid (ps.length ≤ 100) := hide (by omega)
  have hql' : Hid (qs.length ≤ 100) := hide (by omega)
  have hfp : Hid (ps.flatten.length ≤ 90000) := by
    show ps.flatten.length ≤ 90000
    have := cat_len lp 32 (fun x hx => by have := hp32 x.2 (by rw [← hp]; exact List.mem_map.2 ⟨x, hx, rfl⟩); omega)
    rw [cat_map hp] at this
    have e : lp.length = 64 := by rw [← hpl, ← hp]; simp
    omega
  have hfq : Hid (qs.flatten.length ≤ 90000) := by
    show qs.flatten.length ≤ 90000
    have := cat_len lq 32 (fun x hx => by have := hq32 x.2 (by rw [← hq]; exact List.mem_map.2 ⟨x, hx, rfl⟩); omega)
    rw [cat_map hq] at this
    have e : lq.length = 4 := by rw [← hql, ← hq]; simp
    omega
  clear hob K1 hLP hLQ hp hq hV hr hp32 hq32 hpl hql
  go_enter Tryz.func26, Tryz.ntmps26
  go_wp2_with fail
  refine (unhide HR).mono ?_
  rintro ee w2 ⟨rfl, K2⟩
  have HK2 := hide ((unhide HK1).trans K2)
  have HG2 := hide (K2.heap (unhide G1) (by simp))
  clear HR K2 HK1 G1
  go_wp2_with fail
  refine (new_abs w2).mono ?_
  rintro ee w3 ⟨p, rfl, W3, hp3, K3⟩
  have HW3 : Hid (Wn w2 w3 p (.slice none 0 0) []) := ⟨W3, K3, hp3, fun k hk => by cases hk⟩
  have e0 : w3.cell? ⟨w.heap.size, 0, none⟩ = some (.int .i64 i) := by rw [cell_of_row w3 w.heap.size 0 _ _ _ (K3.heap (unhide HG2) (by simp))]; rfl
  clear W3 hp3 K3
  go_wp2_with fail
  refine (num_any p i _ [] w3 (unhide HW3).1 (by simp)).mono ?_
  rintro ee w4 ⟨rfl, v4, W4, S4⟩
  have HW4 := hide ((unhide HW3).step W4 S4)
  rw [List.nil_append, be_4] at HW4
  have e1 : w4.cell? ⟨w.heap.size, 1, none⟩ = some (.slice ap np cp) := by rw [cell_of_row w4 w.heap.size 1 _ _ _ ((unhide HW4).2.1.heap (unhide HG2) (by simp))]; rfl
  clear W4 S4 HW3 e0
  go_wp2_with fail
  refine (writes_any p v4 (be4 i) _ lp ps (unhide Hp) w2 w4 (unhide HW4) ((unhide HLP).kept (unhide HK2)) (unhide H32) (unhide hpl') (by rw [be4_len]; omega)).mono ?_
  rintro ee w5 ⟨rfl, v5, W5⟩
  have HW5 := hide W5
  have e2 : w5.cell? ⟨w.heap.size, 2, none⟩ = some (.slice aq nq cq) := by rw [cell_of_row w5 w.heap.size 2 _ _ _ (W5.2.1.heap (unhide HG2) (by simp))]; rfl
  clear W5 HW4 e1
  go_wp2_with fail
  refine (writes_any p v5 (be4 i ++ ps.flatten) _ lq qs (unhide Hq) w2 w5 (unhide HW5) ((unhide HLQ).kept (unhide HK2)) (unhide H32q) (unhide hql') (by have := unhide hfp; rw [List.length_append, be4_len]; omega)).mono ?_
  rintro ee w6 ⟨rfl, v6, W6⟩
  have HW6 := hide W6
  have HD := hide (done_any p v6 _ w6 W6.1 (by have := unhide hfp; have := unhide hfq; rw [List.length_append, List.length_append, be4_len]; omega))
  clear W6 HW5 e2
  go_wp2_with fail
  refine (unhide HD).mono ?_
  rintro ee w7 ⟨a7, c7, rfl, R7, K7⟩
  have HR7 : Hid (Row w7 w6.heap.size (.slice a7 (be4 i ++ ps.flatten ++ qs.flatten).length c7) (be4 i ++ ps.flatten ++ qs.flatten)) := R7
  have HK6 := hide ((unhide HK2).trans (unhide HW6).2.1)
  have HK7 := hide ((unhide HK6).trans K7)
  have HE : Hid (encP i ps qs = be4 i ++ ps.flatten ++ qs.flatten) := by rw [encP, List.append_assoc]; exact rfl
  obtain ⟨m7, hm7⟩ : ∃ m, m = (be4 i ++ ps.flatten ++ qs.flatten).length := ⟨_, rfl⟩
  rw [← hm7] at HR7 ⊢
  clear R7 K7 HD HW6 hm7
  go_wp2_with fail
  go_ret2
  exact ⟨a7, m7, c7, rfl, by rw [unhide HE]; exact row_new (unhide HR7) (unhide HK6), unhide HK7⟩

set_option maxRecDepth 100000 in
set_option maxHeartbeats 1000000 in
theorem encode_no (v : Value) (i : Int) (ps qs : List (List Int)) (hr : rgtP i ps qs = false) (w : World) (hV : SigV w v i ps qs) :
    Calls Tryz.prog 26 #[v] w fun e w' => e = .returned (.tuple #[.slice none 0 0, .int .i64 12]) ∧ Kp [] w w' := by
  obtain ⟨ap, np, cp, aq, nq, cq, lp, lq, rfl, hLP, hp, hLQ, hq, hnp, hnq⟩ := hV.shape
  clear hnp hnq hLP hp hLQ hq
  obtain ⟨ob, hob⟩ : ∃ o : Obj, o = (.cells #[.int .i64 i, .slice ap np cp, .slice aq nq cq] 24) := ⟨_, rfl⟩
  have K1 : Kp [] w (w.alloc ob) := (Kp.refl [] w).alloc ob
  have HR := hide (sright_any _ i ps qs false hr.symm (w.alloc ob) (hV.kept K1))
  have hl1 := load_sig (w.alloc ob) w.heap.size (.int .i64 i) (.slice ap np cp) (.slice aq nq cq) (0, 0) (by rw [hob]; exact heap_alloc_new w _)
  rw [hob] at K1 HR hl1
  have HK1 := hide K1
  clear hob K1 hV hr
  go_enter Tryz.func26, Tryz.ntmps26
  go_wp2_with fail
  refine (unhide HR).mono ?_
  rintro ee w2 ⟨rfl, K2⟩
  have HK2 := hide ((unhide HK1).trans K2)
  clear HR K2 HK1
  go_wp2_with fail
  go_ret2
  exact ⟨rfl, unhide HK2⟩
end Go.Proofs.YtdjofooggofpkaaGreatDoor

/-
  The contracts of package sign's readHashes and Decode.
-/
namespace Go.Proofs.YtdjofooggofpkaaGreatDoor
open Go.RowKit
open Go.Proofs

theorem chP_succ (n : Nat) (b : List Int) : chP (n + 1) b = chP n b ++ [(b.drop (32 * n)).take 32] := by simp [chP, List.range_succ]
theorem chP_len (n : Nat) (b : List Int) : (chP n b).length = n := by simp [chP]
theorem chP_32 (n : Nat) (b : List Int) (h : 32 * n ≤ b.length) : ∀ x ∈ chP n b, x.length = 32 := by
  intro x hx
  obtain ⟨i, hi, rfl⟩ := List.mem_map.1 hx
  have : i < n := by simpa using hi
  rw [List.length_take, List.length_drop]
  omega
/-- a block that is no part of it changes. -/
theorem AccS.off {S : List Nat} {F : Nat → Prop} {w wr w2 : World} {ls : List (List Int)} {v : Value} {q : Nat} (h : AccS S F w ls v wr) (k : Kp [q] wr w2) (hq : q ∈ S) (hF : ∀ i, F i → i ≠ q) (hlt : q < w.heap.size) : AccS S F w ls v w2 := by
  obtain ⟨l, ⟨h1, h1'⟩, h2, h3, h4⟩ := h
  refine ⟨l, ⟨h1.kept k (fun i hi => ?_), fun x hx => ⟨(h1' x hx).1.kept k (fun i hi => by simpa using hF i (h4 x hx i hi)), (h1' x hx).2⟩⟩, h2, h3.trans (k.mono (by simpa using hq)), h4⟩
  have := h1.own i hi
  simp; omega

set_option maxRecDepth 100000 in
set_option maxHeartbeats 2000000 in
theorem reads_any (q : Nat) (v : Value) (bs : List Int) (n : Nat) (w : World) (hR : Rd w q v false bs) (hv : ∀ k, v.ownBlock = some k → k < w.heap.size) (hB : Bs bs) (hn : 32 * n ≤ bs.length) (hn1 : n ≤ 100) (hb : bs.length ≤ 100000) :
    Calls Tryz.prog 52 #[.pointer (some ⟨q, 0, none⟩), .int .i64 n] w fun e w' => ∃ ao m c, e = .returned (.slice ao m c) ∧ AccS [q] (w.heap.size ≤ ·) w (chP n bs) (.slice ao m c) w' ∧ ∃ v2, Rd w' q v2 false (bs.drop (32 * n)) ∧ ∀ k, v2.ownBlock = some k → v.ownBlock = some k := by
  obtain ⟨i0, hi0, hz0, hz1, hz2⟩ := info_parts Tryz.infoSl
  have hqlt : q < w.heap.size := lt_of_block hR.1
  have HR := hide hR
  have HV := hide hv
  have HB := hide hB
  have hni : (n : Int) ≤ 100 := by omega
  clear hR hv hB
  go_enter Tryz.func52, Tryz.ntmps52
  go_wp2_with (at_make; refine wpList_make_own _ rfl _ _ 22 rfl w.heap.size 27 i0 (.slice none 0 0) 1 Tryz.underlying22 hi0 hz0 hz1 .i64 .i64 _ n rfl rfl (by omega) (by rw [hz2]; omega) (by unfold maxLen; omega) (Nat.le_refl _) ?_; intro w1 o1 g1; have K1 : Kp [] w w1 := (Kp.refl [] w).grown g1 (by intro k hk; cases hk); have R1 : RowV w1 w.heap.size _ [] := o1)
  have A1 : Hid (AccS [q] (w.heap.size ≤ ·) w (chP 0 bs) (.slice (some ⟨w.heap.size, 0, none⟩) 0 n) w1) := ⟨[], ⟨R1, fun x hx => by cases hx⟩, rfl, K1.mono (by simp), fun x hx => by cases hx⟩
  have HR1 : Hid (∃ v2, Rd w1 q v2 false (bs.drop (32 * 0)) ∧ ∀ k, v2.ownBlock = some k → v.ownBlock = some k) := ⟨v, by simpa using (unhide HR).kept K1 (by simp) (by simp), fun _ h => h⟩
  clear o1 g1 R1 K1
  go_loopw [5, 9] (fun l j wr => ∃ (k m cc : Nat) (ao : Option Addr), k ≤ n ∧ l = .slice ao m cc ∧ j = .int .i64 k ∧ AccS [q] (w.heap.size ≤ ·) w (chP k bs) l wr ∧ ∃ v2, Rd wr q v2 false (bs.drop (32 * k)) ∧ ∀ k, v2.ownBlock = some k → v.ownBlock = some k) (fun _ j _ => n - (intOf j).toNat)
  case atStart => exact ⟨0, 0, n, some ⟨w.heap.size, 0, none⟩, by omega, rfl, rfl, unhide A1, unhide HR1⟩
  case round =>
    clear A1 HR1
    obtain ⟨k, m, cc, ao, hk, rfl, rfl, Ar, v2, R2, hv2⟩ := hrel
    have HA := hide Ar
    have HR2 := hide R2
    have HV2 := hide hv2
    clear Ar R2 hv2
    by_cases hlt : k < n
    · have hlt2 : (k : Int) < (n : Int) := by omega
      have htk : tk false (bs.drop (32 * k)) ((32 : Nat) : Int) = ((bs.drop (32 * k)).take 32, false, bs.drop (32 * (k + 1))) := by
        rw [tk_ok _ _ 32 (by rw [List.length_drop]; omega), List.drop_drop]
        rw [show 32 * k + 32 = 32 * (k + 1) by omega]
      have hC := raw_ok q v2 false (bs.drop (32 * k)) ((32 : Nat) : Int) wr (unhide HR2) (by rw [List.length_drop]; omega)
      rw [htk] at hC
      obtain ⟨X, hX⟩ : ∃ X, X = (bs.drop (32 * k)).take 32 := ⟨_, rfl⟩
      have HE : Hid (chP (k + 1) bs = chP k bs ++ [X]) := by rw [hX]; exact chP_succ k bs
      have HXB : Hid (Bs X) := by rw [hX]; exact ((unhide HB).drop _).take _
      have hXl : X.length = 32 := by rw [hX, List.length_take, List.length_drop]; omega
      have HLN : Hid ((chP k bs).length ≤ 1000000) := by rw [chP_len]; show k ≤ 1000000; omega
      rw [← hX] at hC
      dsimp only at hC
      rw [hXl] at hC
      have HC := hide hC
      clear hC htk hX hXl
      go_wp2_with fail
      refine (unhide HC).mono ?_
      rintro ee w3 ⟨a3, c3, rfl, ⟨S3, O3⟩, ⟨v3, R3, hv3⟩, K3⟩
      have HA3 := hide ((unhide HA).off K3 (by simp) (fun i hi e => by subst e; omega) hqlt)
      have HS3 := hide S3
      have HAP : Hid (∀ i, (Value.slice a3 32 c3).ownBlock = some i → (Value.slice ao m cc).ownBlock = some i → X = []) := fun i h1 h2 => by
        have := O3 i h1
        have := (unhide HA).lt i h2
        omega
      have HF : Hid (∀ i, (Value.slice a3 32 c3).ownBlock = some i → w.heap.size ≤ i) := fun i h1 => Nat.le_trans (unhide HA).kp.size (O3 i h1)
      have HR3 := hide R3
      have HV3 : Hid (∀ i, v3.ownBlock = some i → v.ownBlock = some i) := fun i h1 => unhide HV2 i (hv3 i h1)
      clear S3 O3 R3 hv3 K3 HC HA HR2 HV2
      go_wp2_with (at_builtin; refine wpList_accs rfl (.tmp 11) (.tmp 14) rfl (.slice ao m cc) _ rfl (unhide HA3) (unhide HLN) _ X (unhide HS3) (unhide HXB) (unhide HAP) (unhide HF) rfl ?_; intro ao5 m5 c5 w5 A5 S5)
      have HA5 := hide A5
      have HR5 : Hid (Rd w5 q v3 false (bs.drop (32 * (k + 1)))) := by
        have hown : ∀ i, (Value.slice ao m cc).ownBlock = some i → w.heap.size ≤ i := by obtain ⟨_, h1, _⟩ := unhide HA3; exact h1.1.own
        refine (unhide HR3).kept S5.1 (fun hm => ?_) (fun i hi hm => ?_)
        · have := hown q (by simpa using hm); omega
        · have := hown i (by simpa using hm)
          have := unhide HV i (unhide HV3 i hi)
          omega
      clear A5 S5 HA3 HR3 HS3 HAP HF
      go_roundw
      case rel => exact ⟨k + 1, m5, c5, ao5, by omega, rfl, by go_num, by have e := unhide HE; rw [← e] at HA5; exact unhide HA5, v3, unhide HR5, unhide HV3⟩
      case measure => simp [intOf]; omega
    · obtain rfl : k = n := by omega
      have hlt2 : ¬ (k : Int) < (k : Int) := by omega
      go_wp2_with fail
      go_ret
      exact ⟨ao, m, cc, rfl, unhide HA, v2, unhide HR2, unhide HV2⟩

theorem Lists.old {w w' : World} {v : Value} {l : List (Value × List Int)} {S : List Nat} (h : Lists w v l) (k : Kp S w w') (hS : ∀ q ∈ S, w.heap.size ≤ q) : Lists w' v l := by
  obtain ⟨ao, c, rfl, h1, h2⟩ := h
  refine ⟨ao, c, rfl, h1, fun i hi => ?_⟩
  obtain ⟨b, off, e, h3, h4, h5⟩ := h2 i hi
  subst e
  have hb := World.block_lt_of_cell? _ _ h3
  exact ⟨b, off, rfl, k.cell h3 (fun hm => by have := hS _ hm; simp at this hb; omega), h4.old k (fun i _ hlt hm => by have := hS _ hm; omega), h5⟩
theorem SigV.old {w w' : World} {v : Value} {i : Int} {ps qs : List (List Int)} {S : List Nat} (h : SigV w v i ps qs) (k : Kp S w w') (hS : ∀ q ∈ S, w.heap.size ≤ q) : SigV w' v i ps qs := by
  obtain ⟨vp, vq, lp, lq, e, h1, h2, h3, h4⟩ := h
  exact ⟨vp, vq, lp, lq, e, h1.old k hS, h2, h3.old k hS, h4⟩
theorem setCell_kp (w : World) (g j : Nat) (u : Value) : Kp [g] w (w.setCell ⟨g, j, none⟩ u) := (Kp.refl [g] w).setCell (p := ⟨g, j, none⟩) (.inl (by simp)) _

/-- a signature that is nothing. -/
def sig0 : Value := .agg #[.int .i64 0, .slice none 0 0, .slice none 0 0]
theorem sig0_v (w : World) : SigV w sig0 0 [] [] := ⟨_, _, [], [], rfl, lists_nil _ _ _, rfl, lists_nil _ _ _, rfl⟩

set_option maxRecDepth 100000 in
set_option maxHeartbeats 4000000 in
theorem decode_long (vb : Value) (bs : List Int) (w : World) (hS : Sl w vb bs) (hl : bs.length ≠ 2180) :
    Calls Tryz.prog 33 #[vb] w fun e w' => e = .returned (.tuple #[sig0, .int .i64 12]) ∧ Kp [] w w' := by
  obtain ⟨ab, cb, rfl, _⟩ := hS
  obtain ⟨nb, hnb⟩ : ∃ n, n = bs.length := ⟨_, rfl⟩
  rw [← hnb] at hl ⊢
  have hni : ¬ (nb : Int) = 2180 := by omega
  have G1 := heap_alloc_new w (.cells #[.int .i64 0, .slice none 0 0, .slice none 0 0] 24)
  have HK1 := hide ((Kp.refl [] w).alloc (.cells #[.int .i64 0, .slice none 0 0, .slice none 0 0] 24))
  clear hnb hl
  go_enter Tryz.func33, Tryz.ntmps33
  go_wp2_with (refine wpList_store_sig rfl (.tmp 2) (.tmp 9) rfl w.heap.size rfl _ _ _ _ _ _ G1 rfl ⟨rfl, rfl, rfl⟩ ?_; intro w4 G4 K4)
  refine bodyPost_ret (results_sig rfl _ _ w.heap.size _ _ _ (0, 0) rfl G4) rfl ?_
  exact ⟨rfl, (unhide HK1).then K4 (by simp)⟩

/-- what Decode answers. -/
def Decd (b : List Int) (v : Value) (e : Int) (w' : World) : Prop :=
  if decOk b then SigV w' v (val (b.take 4)) (chP 64 (b.drop 4)) (chP 4 (b.drop 2052)) ∧ e = 0 else v = sig0 ∧ e = 12

set_option maxRecDepth 100000 in
set_option maxHeartbeats 4000000 in
theorem decode_any (vb : Value) (bs : List Int) (w : World) (hS : Sl w vb bs) (hB : Bs bs) :
    Calls Tryz.prog 33 #[vb] w fun e w' => ∃ v x, e = .returned (.tuple #[v, .int .i64 x]) ∧ Decd bs v x w' ∧ Kp [] w w' := by
  by_cases hl : bs.length = 2180
  · have HB := hide hB
    have HL := hide hl
    obtain ⟨ob, hob⟩ : ∃ o : Obj, o = (.cells #[.int .i64 0, .slice none 0 0, .slice none 0 0] 24) := ⟨_, rfl⟩
    have K1 : Kp [] w (w.alloc ob) := (Kp.refl [] w).alloc ob
    have HRd := hide (read_any vb bs (w.alloc ob) (hS.kept K1 (by simp)) (by omega))
    have G1 : Hid ((w.alloc ob).heap[w.heap.size]? = some ob) := heap_alloc_new w ob
    rw [hob] at K1 HRd G1
    have HK1 := hide K1
    obtain ⟨ab, cb, hvb, _⟩ := hS
    rw [hl] at hvb
    subst hvb
    clear hob K1 hB hl
    go_enter Tryz.func33, Tryz.ntmps33
    go_wp2_with fail
    refine (unhide HRd).mono ?_
    rintro ee w2 ⟨q, v2, rfl, hq2, R2, hv2, K2⟩
    have HK2 := hide ((unhide HK1).trans K2)
    have HG2 := hide (K2.heap (unhide G1) (by simp))
    have HKa : Hid (Kp [] w2 (w2.alloc (.cells #[.int .i64 0, .slice none 0 0, .slice none 0 0] 24))) := (Kp.refl [] w2).alloc _
    have HR2 := hide (R2.kept (unhide HKa) (by simp) (by simp))
    have hqlt : q < w2.heap.size := lt_of_block R2.1
    have HV2 := hide hv2
    have hqw : w.heap.size < q := by have e : (w.alloc ob).heap.size = w.heap.size + 1 := by simp
                                     have e' : ∀ o : Obj, (w.alloc o).heap.size = w.heap.size + 1 := fun o => by simp
                                     rw [e'] at hq2; omega
    have HGa : Hid ((w2.alloc (.cells #[.int .i64 0, .slice none 0 0, .slice none 0 0] 24)).heap[w2.heap.size]? = some (.cells #[.int .i64 0, .slice none 0 0, .slice none 0 0] 24)) := heap_alloc_new w2 _
    have hRn := rnum_any q v2 false bs _ (unhide HR2) (unhide HB)
    rw [show tk false bs 4 = (bs.take 4, false, bs.drop 4) from tk_ok false bs 4 (by have := unhide HL; omega)] at hRn
    obtain ⟨x, hx⟩ : ∃ x, x = val (bs.take 4) := ⟨_, rfl⟩
    dsimp only at hRn
    rw [← hx] at hRn
    have hxb : 0 ≤ x ∧ x < 4294967296 := by
      have := val_bd (bs.take 4) ((unhide HB).take 4)
      rw [List.length_take, Nat.min_eq_left (by have := unhide HL; omega), ← hx] at this
      exact ⟨this.1, by simpa using this.2⟩
    have hwx : IntKind.i64.wrap x = x := wrap_at rfl (by omega) (by omega)
    have HX := hide hx
    have HXB := hide hxb
    have HRn := hide hRn
    clear hx hxb hRn
    clear HRd R2 hv2 K2 HK1 G1 hq2
    go_wp2_with fail
    refine (unhide HRn).mono ?_
    rintro ee w3 ⟨rfl, ⟨v3, R3, hv3⟩, K3⟩
    obtain ⟨g1, hg1⟩ : ∃ g, g = w2.heap.size := ⟨_, rfl⟩
    rw [← hg1] at HGa hqlt HV2 ⊢
    have hza : Hid (∀ o : Obj, (w2.alloc o).heap.size = g1 + 1) := fun o => by rw [hg1]; simp
    have G3 : w3.heap[g1]? = some (.cells #[.int .i64 0, .slice none 0 0, .slice none 0 0] 24) := K3.heap (unhide HGa) (by simp; omega)
    have hc3 : w3.cell? ⟨g1, 0, none⟩ = some (.int .i64 0) := by rw [cell_of_row w3 g1 0 _ _ _ G3]; rfl
    have hf3 : w3.frozen? ⟨g1, 0, none⟩ = false := frozen_of_row w3 g1 0 _ _ G3
    have HK3 : Hid (Kp [] w w3) := ((unhide HK2).trans (unhide HKa)).then K3 (fun i hi => .inr (by simp at hi; omega))
    have k4 := setCell_kp w3 g1 0 (.int .i64 x)
    have g4 := heap_setCell_same w3 g1 0 _ _ (.int .i64 x) G3
    have hv3' : ∀ k, v3.ownBlock = some k → k < g1 := fun k hk => (unhide HV2 k (hv3 k hk)).2
    have R4 := R3.kept k4 (by simp; omega) (fun i hi => by have := hv3' i hi; simp; omega)
    have hsz3 : g1 + 1 ≤ w3.heap.size := by have := K3.size; rw [unhide hza] at this; exact this
    have hsz4 : w3.heap.size ≤ (w3.setCell ⟨g1, 0, none⟩ (.int .i64 x)).heap.size := k4.size
    have HC4 := hide (reads_any q v3 (bs.drop 4) 64 _ R4 (fun k hk => by have := hv3' k hk; omega) ((unhide HB).drop 4) (by rw [List.length_drop]; have := unhide HL; omega) (by omega) (by rw [List.length_drop]; have := unhide HL; omega))
    have HK4 : Hid (Kp [] w (w3.setCell ⟨g1, 0, none⟩ (.int .i64 x))) := (unhide HK3).then k4 (fun i hi => .inr (by simp at hi; subst hi; have := (unhide HK2).size; omega))
    have HG4 := hide g4
    have HV3 := hide hv3'
    have HQ4 : Hid (Kp [q, g1] w2 (w3.setCell ⟨g1, 0, none⟩ (.int .i64 x))) := (((unhide HKa).mono (by simp)).trans (K3.mono (by simp))).trans (k4.mono (by simp))
    have HGW : Hid (w.heap.size < g1) := hide (by omega)
    clear G3 k4 g4 hv3' R4 R3 hv3 K3 HRn HR2 HGa HKa HK3 HV2 hg1
    go_wp2_with fail
    refine (unhide HC4).mono ?_
    rintro ee w5 ⟨a5, m5, c5, rfl, A5, v5, R5, hv5⟩
    have hA5 := A5.kp
    have HG5 : w5.heap[g1]? = some _ := hA5.heap (unhide HG4) (by simp; omega)
    have hc5 : w5.cell? ⟨g1, 1, none⟩ = some (.slice none 0 0) := by rw [cell_of_row w5 g1 1 _ _ _ HG5]; rfl
    have hf5 : w5.frozen? ⟨g1, 1, none⟩ = false := frozen_of_row w5 g1 1 _ _ HG5
    have k6 := setCell_kp w5 g1 1 (.slice a5 m5 c5)
    have g6 := heap_setCell_same w5 g1 1 _ _ (.slice a5 m5 c5) HG5
    have HL5 : Hid (∃ l, Lists w5 (.slice a5 m5 c5) l ∧ l.map (·.2) = chP 64 (bs.drop 4) ∧ (∀ q, (Value.slice a5 m5 c5).ownBlock = some q → g1 + 1 ≤ q) ∧ ∀ x ∈ l, ∀ q, x.1.ownBlock = some q → g1 + 1 ≤ q) := by
      obtain ⟨l, h1, h2, h3, h4⟩ := A5.lists (by rw [chP_len]; omega)
      exact ⟨l, h1, h2, fun q hq => by have := h3 q hq; omega, fun x hx q hq => by have := h4 x hx q hq; omega⟩
    have hv5' : ∀ k, v5.ownBlock = some k → k < g1 := fun k hk => unhide HV3 k (hv5 k hk)
    have hsz5 : g1 + 1 ≤ w5.heap.size := by have := hA5.size; omega
    have R6 := R5.kept k6 (by simp; omega) (fun i hi => by have := hv5' i hi; simp; omega)
    have hsz6 := k6.size
    rw [List.drop_drop] at R6
    have HC6 := hide (reads_any q v5 (bs.drop (4 + 32 * 64)) 4 _ R6 (fun k hk => by have := hv5' k hk; omega) ((unhide HB).drop _) (by rw [List.length_drop]; have := unhide HL; omega) (by omega) (by rw [List.length_drop]; have := unhide HL; omega))
    have HK5 : Hid (Kp [] w w5) := (unhide HK4).then hA5 (fun i hi => .inr (by simp at hi; omega))
    have HK6 : Hid (Kp [] w (w5.setCell ⟨g1, 1, none⟩ (.slice a5 m5 c5))) := (unhide HK5).then k6 (fun i hi => .inr (by simp at hi; subst hi; have := unhide HGW; omega))
    have HK56 := hide k6
    have HQ6 : Hid (Kp [q, g1] w2 (w5.setCell ⟨g1, 1, none⟩ (.slice a5 m5 c5))) := ((unhide HQ4).trans (hA5.mono (by simp))).trans (k6.mono (by simp))
    have HG6 := hide g6
    clear HG5 k6 g6 hv5' R6 R5 hv5 A5 hA5 HC4 HG4 HV3 HK4 HK5 hc3 hf3 hsz3 hsz4
    go_wp2_with fail
    refine (unhide HC6).mono ?_
    rintro ee w7 ⟨a7, m7, c7, rfl, A7, -⟩
    have hA7 := A7.kp
    have HG7 : w7.heap[g1]? = some _ := hA7.heap (unhide HG6) (by simp; omega)
    have hc7 : w7.cell? ⟨g1, 2, none⟩ = some (.slice none 0 0) := by rw [cell_of_row w7 g1 2 _ _ _ HG7]; rfl
    have hf7 : w7.frozen? ⟨g1, 2, none⟩ = false := frozen_of_row w7 g1 2 _ _ HG7
    have k8 := setCell_kp w7 g1 2 (.slice a7 m7 c7)
    have g8 := heap_setCell_same w7 g1 2 _ _ (.slice a7 m7 c7) HG7
    have HK7 : Hid (Kp [] w w7) := (unhide HK6).then hA7 (fun i hi => .inr (by simp at hi; omega))
    have HK8 : Hid (Kp [] w (w7.setCell ⟨g1, 2, none⟩ (.slice a7 m7 c7))) := (unhide HK7).then k8 (fun i hi => .inr (by simp at hi; subst hi; have := unhide HGW; omega))
    have HV8 : Hid (SigV (w7.setCell ⟨g1, 2, none⟩ (.slice a7 m7 c7)) (.agg #[.int .i64 x, .slice a5 m5 c5, .slice a7 m7 c7]) x (chP 64 (bs.drop 4)) (chP 4 (bs.drop 2052)) ∧ ∀ w9, Kp [w.heap.size] (w7.setCell ⟨g1, 2, none⟩ (.slice a7 m7 c7)) w9 → SigV w9 (.agg #[.int .i64 x, .slice a5 m5 c5, .slice a7 m7 c7]) x (chP 64 (bs.drop 4)) (chP 4 (bs.drop 2052))) := by
      obtain ⟨lp, h1, h2, h3, h4⟩ := unhide HL5
      obtain ⟨lq, g1', g2, g3, g4⟩ := A7.lists (by rw [chP_len]; omega)
      have p6 := h1.off (unhide HK56) (fun q hq => by have := h3 q hq; simp; omega) (fun y hy q hq => by have := h4 y hy q hq; simp; omega)
      have p7 := p6.off hA7 (fun i hq => by have := h3 i hq; simp; omega) (fun y hy i hq => by have := h4 y hy i hq; simp; omega)
      have p8 := p7.off k8 (fun q hq => by have := h3 q hq; simp; omega) (fun y hy q hq => by have := h4 y hy q hq; simp; omega)
      have q8 := g1'.off k8 (fun q hq => by have := g3 q hq; simp; omega) (fun y hy q hq => by have := g4 y hy q hq; simp; omega)
      refine ⟨⟨_, _, lp, lq, rfl, p8, h2, q8, g2⟩, fun w9 k9 => ⟨_, _, lp, lq, rfl, p8.off k9 (fun q hq => ?_) (fun y hy q hq => ?_), h2, q8.off k9 (fun q hq => ?_) (fun y hy q hq => ?_), g2⟩⟩
      · have := h3 q hq; have := unhide HGW; simp; omega
      · have := h4 y hy q hq; have := unhide HGW; simp; omega
      · have := g3 q hq; have := unhide HGW; simp; omega
      · have := g4 y hy q hq; have := unhide HGW; simp; omega
    obtain ⟨r, hr⟩ : ∃ r, r = rgtP x (chP 64 (bs.drop 4)) (chP 4 (bs.drop 2052)) := ⟨_, rfl⟩
    have hrd : r = decOk bs := by
      have hxb := unhide HXB
      by_cases h16 : x < 16
      · have e1 : rgtP x (chP 64 (bs.drop 4)) (chP 4 (bs.drop 2052)) = true := (rgtP_iff _ _ _).2 ⟨⟨hxb.1, h16⟩, ⟨chP_len _ _, chP_32 _ _ (by rw [List.length_drop]; have := unhide HL; omega)⟩, chP_len _ _, chP_32 _ _ (by rw [List.length_drop]; have := unhide HL; omega)⟩
        have e2 : decOk bs = true := by unfold decOk; rw [← unhide HX, unhide HL]; simp [h16]
        rw [hr, e1, e2]
      · have e1 : rgtP x (chP 64 (bs.drop 4)) (chP 4 (bs.drop 2052)) = false := by
          cases h : rgtP x (chP 64 (bs.drop 4)) (chP 4 (bs.drop 2052)) with
          | false => rfl
          | true => exact absurd ((rgtP_iff _ _ _).1 h).1.2 h16
        have e2 : decOk bs = false := by unfold decOk; rw [← unhide HX]; simp [h16]
        rw [hr, e1, e2]
    have HRi := hide (sright_any _ x _ _ r hr _ (unhide HV8).1)
    have HG8 := hide g8
    have HRD := hide hrd
    have HG0 : Hid ((w7.setCell ⟨g1, 2, none⟩ (.slice a7 m7 c7)).heap[w.heap.size]? = some (.cells #[.int .i64 0, .slice none 0 0, .slice none 0 0] 24)) := (((unhide HQ6).trans (hA7.mono (by simp))).trans (k8.mono (by simp))).heap (unhide HG2) (by have := unhide HGW; simp; omega)
    clear HG7 k8 g8 A7 hA7 HC6 HG6 HK6 HK7 HL5 HK56 hc5 hf5 hsz5 hsz6 hr hrd HQ4 HQ6
    go_wp2_with (refine wpList_load_row rfl 24 (.tmp 5) rfl g1 rfl 24 _ (0, 0) _ (unhide HG8) Tryz.underlying24 rfl Tryz.sigSize ?_)
    refine (unhide HRi).mono ?_
    rintro ee w9 ⟨rfl, K9⟩
    have HK9 := hide ((unhide HK8).trans K9)
    have G0 := K9.heap (unhide HG0) (by simp)
    have G9 := K9.heap (unhide HG8) (by simp)
    have HV9 : Hid (∀ w', Kp [w.heap.size] w9 w' → SigV w' (.agg #[.int .i64 x, .slice a5 m5 c5, .slice a7 m7 c7]) x (chP 64 (bs.drop 4)) (chP 4 (bs.drop 2052))) := fun w' k' => (unhide HV8).2 w' ((K9.mono (by simp)).trans k')
    clear HRi K9 HG8 HG0 HK8 HV8 hc7 hf7
    have HG9 := hide G9
    clear G9
    cases r
    · go_wp2_with (refine wpList_store_sig rfl (.tmp 2) (.tmp 25) rfl w.heap.size rfl _ _ _ _ _ _ G0 rfl ⟨rfl, rfl, rfl⟩ ?_; intro w4 G4 K4)
      refine bodyPost_ret (results_sig rfl _ _ w.heap.size _ _ _ (0, 0) rfl G4) rfl ?_
      exact ⟨_, _, rfl, by unfold Decd; rw [← unhide HRD]; exact ⟨rfl, rfl⟩, (unhide HK9).then K4 (by simp)⟩
    · go_wp2_with (refine wpList_load_row rfl 24 (.tmp 5) rfl g1 rfl 24 _ (0, 0) _ (unhide HG9) Tryz.underlying24 rfl Tryz.sigSize ?_; refine Hid.out ?_)
      refine hide ?_
      go_wp2_with (refine wpList_store_sig rfl (.tmp 2) (.tmp 26) rfl w.heap.size rfl _ _ _ _ _ _ G0 rfl ⟨rfl, rfl, rfl⟩ ?_; intro w4 G4 K4)
      refine bodyPost_ret (results_sig rfl _ _ w.heap.size _ _ _ (0, 0) rfl G4) rfl ?_
      exact ⟨_, _, rfl, by unfold Decd; rw [← unhide HRD]; exact ⟨by rw [← unhide HX]; exact unhide HV9 w4 K4, rfl⟩, (unhide HK9).then K4 (by simp)⟩
  · have hno : decOk bs = false := by unfold decOk; simp [hl]
    refine (decode_long vb bs w hS hl).mono ?_
    rintro e w' ⟨rfl, K⟩
    exact ⟨_, _, rfl, by unfold Decd; rw [hno]; exact ⟨rfl, rfl⟩, K⟩
end Go.Proofs.YtdjofooggofpkaaGreatDoor
