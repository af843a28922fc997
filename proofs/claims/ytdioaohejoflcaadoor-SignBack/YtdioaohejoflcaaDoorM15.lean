/-
  The contracts of package sign's writeHashes and Encode.
-/
import Derived.Test.YtdioaohejoflcaaDoorM14
import Derived.Test.YtdioaohejoflcaaDoorM10
namespace Go.Proofs.YtdioaohejoflcaaDoor
open Go.RowKit
open Go.Proofs

/-- a writer that is new since w0. -/
def Wn (w0 w : World) (p : Nat) (v : Value) (bs : List Int) : Prop := Wr w p v bs ∧ Kp [] w0 w ∧ w0.heap.size ≤ p ∧ ∀ k, v.ownBlock = some k → w0.heap.size ≤ k
theorem Wn.step {w0 w w' : World} {p : Nat} {v v' : Value} {bs cs : List Int} (h : Wn w0 w p v bs) (k : Wr w' p v' cs) (s : Step p w v w' v') : Wn w0 w' p v' cs := by
  obtain ⟨h1, h2, h3, h4⟩ := h
  refine ⟨k, h2.then s.1 (fun i hi => ?_), h3, fun i hi => ?_⟩
  · simp only [List.mem_cons, Option.mem_toList] at hi
    rcases hi with rfl | hi
    · exact .inr h3
    · exact .inr (h4 i hi)
  · rcases s.2 i hi with h5 | h5
    · exact h4 i h5
    · exact Nat.le_trans h2.size h5

set_option maxRecDepth 100000 in
set_option maxHeartbeats 1000000 in
theorem writes_any (p : Nat) (v : Value) (bs : List Int) (vl : Value) (l : List (Value × List Int)) (ls : List (List Int)) (hls : l.map (·.2) = ls) (w0 w : World) (hw : Wn w0 w p v bs) (hL : Lists w0 vl l) (hm : ∀ x ∈ ls, x.length = 32) (hn : ls.length ≤ 100) (hb : bs.length ≤ 100000) :
    Calls Tryd.prog 48 #[.pointer (some ⟨p, 0, none⟩), vl] w fun e w' => e = .returned (.tuple #[]) ∧ ∃ v', Wn w0 w' p v' (bs ++ ls.flatten) := by
  have HL := hide hL
  have HLS := hide hls
  have HM := hide hm
  have hlen : l.length = ls.length := by rw [← hls]; simp
  obtain ⟨al, cl, hvl, _⟩ := hL
  rw [hlen] at hvl
  subst hvl
  obtain ⟨N, hN⟩ : ∃ N, N = ls.length := ⟨_, rfl⟩
  have HN := hide hN
  rw [← hN] at hn HL ⊢
  have hni : (N : Int) ≤ 100 := by omega
  have HW := hide hw
  clear hls hm hlen hN hw
  go_enter Tryd.func48, Tryd.ntmps48
  go_wp2_with fail
  go_loopw [8] (fun j wr => ∃ k : Nat, k ≤ N ∧ j = .int .i64 k ∧ ∃ v', Wn w0 wr p v' (bs ++ (ls.take k).flatten)) (fun j _ => N - (intOf j).toNat)
  case atStart => exact ⟨0, by omega, rfl, v, by simpa using unhide HW⟩
  case round =>
    clear HW
    obtain ⟨k, hk, rfl, v', hw'⟩ := hrel
    have HW := hide hw'
    clear hw'
    by_cases hlt : k < N
    · have hlt2 : (k : Int) < (N : Int) := by omega
      have hkl : k < ls.length := by have := unhide HN; omega
      obtain ⟨b, off, ay, ny, cy, rfl, hc, hSy, hBy⟩ := lists_at (unhide HL) (unhide HLS) k hkl
      have hyl : (ls.getD k []).length = 32 := unhide HM _ (getD_mem hkl)
      have hE : (ls.take (k + 1)).flatten = (ls.take k).flatten ++ ls.getD k [] := by rw [List.take_succ_eq_append_getElem hkl, List.flatten_append]; simp [List.getD, hkl]
      have hfl : (ls.take k).flatten.length ≤ 32 * 100 := by
        have : ∀ (m : List (List Int)), (∀ x ∈ m, x.length = 32) → m.flatten.length = 32 * m.length := by
          intro m
          induction m with
          | nil => simp
          | cons a m ih =>
            intro hm
            rw [List.flatten_cons, List.length_append, ih (fun x hx => hm x (by simp [hx])), hm a (by simp), List.length_cons]
            omega
        rw [this _ (fun x hx => unhide HM x (List.mem_of_mem_take hx)), List.length_take]
        have := unhide HN
        omega
      have hcw := (unhide HW).2.1.cell hc (by simp)
      have HC := hide (raw_any p v' _ (.slice ay ny cy) (ls.getD k []) wr (unhide HW).1 (hSy.kept (unhide HW).2.1 (by simp)) (by rw [List.length_append]; omega))
      have HE := hide hE
      clear hc hSy hBy hyl hE hfl
      go_wp2_with fail
      refine (unhide HC).mono ?_
      rintro ee w2 ⟨rfl, v2, W2, S2⟩
      have HW2 := hide ((unhide HW).step W2 S2)
      clear W2 S2 HC HW hcw
      go_wp2_with fail
      go_roundw
      case rel => exact ⟨k + 1, by omega, by go_num, v2, by rw [unhide HE, ← List.append_assoc]; exact unhide HW2⟩
      case measure => simp [intOf]; omega
    · obtain rfl : k = N := by omega
      have hT : ls.take k = ls := List.take_of_length_le (by have := unhide HN; omega)
      rw [hT] at HW
      have hlt2 : ¬ (k : Int) < (k : Int) := by omega
      clear hT HL
      go_wp2_with fail
      go_end0
      exact ⟨rfl, v', unhide HW⟩

theorem be4_len (n : Int) : (be4 n).length = 4 := rfl
theorem be_4 (n : Int) : be n 4 0 = be4 n := by simp [be, byteAt, List.range_succ, be4]

set_option maxRecDepth 100000 in
set_option maxHeartbeats 2000000 in
theorem encode_any (v : Value) (i : Int) (ps qs : List (List Int)) (hr : rgtP i ps qs = true) (w : World) (hV : SigV w v i ps qs) :
    Calls Tryd.prog 24 #[v] w fun e w' => ∃ ao m c, e = .returned (.tuple #[.slice ao m c, .int .i64 0]) ∧ Row w' w.heap.size (.slice ao m c) (encP i ps qs) ∧ Kp [] w w' := by
  obtain ⟨⟨hi0, hi1⟩, ⟨hpl, hp32⟩, hql, hq32⟩ := (rgtP_iff i ps qs).1 hr
  obtain ⟨ap, np, cp, aq, nq, cq, lp, lq, rfl, hLP, hp, hLQ, hq, hnp, hnq⟩ := hV.shape
  clear hnp hnq
  obtain ⟨ob, hob⟩ : ∃ o : Obj, o = (.cells #[.int .i64 i, .slice ap np cp, .slice aq nq cq] 33) := ⟨_, rfl⟩
  have K1 : Kp [] w (w.alloc ob) := (Kp.refl [] w).alloc ob
  have HR := hide (sright_any _ i ps qs true hr.symm (w.alloc ob) (hV.kept K1))
  have HLP := hide hLP
  have HLQ := hide hLQ
  have Hp := hide hp
  have Hq := hide hq
  have H32 := hide hp32
  have H32q := hide hq32
  have hl1 := load_sig (w.alloc ob) w.heap.size (.int .i64 i) (.slice ap np cp) (.slice aq nq cq) (0, 0) (by rw [hob]; exact heap_alloc_new w _)
  have G1 : Hid ((w.alloc ob).heap[w.heap.size]? = some (.cells #[.int .i64 i, .slice ap np cp, .slice aq nq cq] 33 (0, 0))) := by rw [hob]; exact heap_alloc_new w _
  rw [hob] at K1 HR hl1 G1
  have HK1 := hide K1
  have hwrap : IntKind.u32.wrap i = i := by simp [IntKind.wrap, IntKind.signed, IntKind.bits]; omega
  have hpl' : Hid (ps.length ≤ 100) := hide (by omega)
  have hql' : Hid (qs.length ≤ 100) := hide (by omega)
  have hfp : Hid (ps.flatten.length ≤ 90000) := by
    show ps.flatten.length ≤ 90000
    have := cat_len lp 32 (fun x hx => by have := hp32 x.2 (by rw [← hp]; exact List.mem_map.2 ⟨x, hx, rfl⟩); omega)
    rw [cat_map hp] at this
    have e : lp.length = 64 := by rw [← hpl, ← hp]; simp
    omega
  have hfq : Hid (qs.flatten.length ≤ 90000) := by
    show qs.flatten.length ≤ 90000
    have := cat_len lq 32 (fun x hx => by have := hq32 x.2 (by rw [← hq]; exact List.mem_map.2 ⟨x, hx, rfl⟩); omega)
    rw [cat_map hq] at this
    have e : lq.length = 4 := by rw [← hql, ← hq]; simp
    omega
  clear hob K1 hLP hLQ hp hq hV hr hp32 hq32 hpl hql
  go_enter Tryd.func24, Tryd.ntmps24
  go_wp2_with fail
  refine (unhide HR).mono ?_
  rintro ee w2 ⟨rfl, K2⟩
  have HK2 := hide ((unhide HK1).trans K2)
  have HG2 := hide (K2.heap (unhide G1) (by simp))
  clear HR K2 HK1 G1
  go_wp2_with fail
  refine (new_abs w2).mono ?_
  rintro ee w3 ⟨p, rfl, W3, hp3, K3⟩
  have HW3 : Hid (Wn w2 w3 p (.slice none 0 0) []) := ⟨W3, K3, hp3, fun k hk => by cases hk⟩
  have e0 : w3.cell? ⟨w.heap.size, 0, none⟩ = some (.int .i64 i) := by rw [cell_of_row w3 w.heap.size 0 _ _ _ (K3.heap (unhide HG2) (by simp))]; rfl
  clear W3 hp3 K3
  go_wp2_with fail
  refine (num_any p i _ [] w3 (unhide HW3).1 (by simp)).mono ?_
  rintro ee w4 ⟨rfl, v4, W4, S4⟩
  have HW4 := hide ((unhide HW3).step W4 S4)
  rw [List.nil_append, be_4] at HW4
  have e1 : w4.cell? ⟨w.heap.size, 1, none⟩ = some (.slice ap np cp) := by rw [cell_of_row w4 w.heap.size 1 _ _ _ ((unhide HW4).2.1.heap (unhide HG2) (by simp))]; rfl
  clear W4 S4 HW3 e0
  go_wp2_with fail
  refine (writes_any p v4 (be4 i) _ lp ps (unhide Hp) w2 w4 (unhide HW4) ((unhide HLP).kept (unhide HK2)) (unhide H32) (unhide hpl') (by rw [be4_len]; omega)).mono ?_
  rintro ee w5 ⟨rfl, v5, W5⟩
  have HW5 := hide W5
  have e2 : w5.cell? ⟨w.heap.size, 2, none⟩ = some (.slice aq nq cq) := by rw [cell_of_row w5 w.heap.size 2 _ _ _ (W5.2.1.heap (unhide HG2) (by simp))]; rfl
  clear W5 HW4 e1
  go_wp2_with fail
  refine (writes_any p v5 (be4 i ++ ps.flatten) _ lq qs (unhide Hq) w2 w5 (unhide HW5) ((unhide HLQ).kept (unhide HK2)) (unhide H32q) (unhide hql') (by have := unhide hfp; rw [List.length_append, be4_len]; omega)).mono ?_
  rintro ee w6 ⟨rfl, v6, W6⟩
  have HW6 := hide W6
  have HD := hide (done_any p v6 _ w6 W6.1 (by have := unhide hfp; have := unhide hfq; rw [List.length_append, List.length_append, be4_len]; omega))
  clear W6 HW5 e2
  go_wp2_with fail
  refine (unhide HD).mono ?_
  rintro ee w7 ⟨a7, c7, rfl, R7, K7⟩
  have HR7 : Hid (Row w7 w6.heap.size (.slice a7 (be4 i ++ ps.flatten ++ qs.flatten).length c7) (be4 i ++ ps.flatten ++ qs.flatten)) := R7
  have HK6 := hide ((unhide HK2).trans (unhide HW6).2.1)
  have HK7 := hide ((unhide HK6).trans K7)
  have HE : Hid (encP i ps qs = be4 i ++ ps.flatten ++ qs.flatten) := by rw [encP, List.append_assoc]; exact rfl
  obtain ⟨m7, hm7⟩ : ∃ m, m = (be4 i ++ ps.flatten ++ qs.flatten).length := ⟨_, rfl⟩
  rw [← hm7] at HR7 ⊢
  clear R7 K7 HD HW6 hm7
  go_wp2_with fail
  go_ret2
  exact ⟨a7, m7, c7, rfl, by rw [unhide HE]; exact row_new (unhide HR7) (unhide HK6), unhide HK7⟩

set_option maxRecDepth 100000 in
set_option maxHeartbeats 1000000 in
theorem encode_no (v : Value) (i : Int) (ps qs : List (List Int)) (hr : rgtP i ps qs = false) (w : World) (hV : SigV w v i ps qs) :
    Calls Tryd.prog 24 #[v] w fun e w' => e = .returned (.tuple #[.slice none 0 0, .int .i64 12]) ∧ Kp [] w w' := by
  obtain ⟨ap, np, cp, aq, nq, cq, lp, lq, rfl, hLP, hp, hLQ, hq, hnp, hnq⟩ := hV.shape
  clear hnp hnq hLP hp hLQ hq
  obtain ⟨ob, hob⟩ : ∃ o : Obj, o = (.cells #[.int .i64 i, .slice ap np cp, .slice aq nq cq] 33) := ⟨_, rfl⟩
  have K1 : Kp [] w (w.alloc ob) := (Kp.refl [] w).alloc ob
  have HR := hide (sright_any _ i ps qs false hr.symm (w.alloc ob) (hV.kept K1))
  have hl1 := load_sig (w.alloc ob) w.heap.size (.int .i64 i) (.slice ap np cp) (.slice aq nq cq) (0, 0) (by rw [hob]; exact heap_alloc_new w _)
  rw [hob] at K1 HR hl1
  have HK1 := hide K1
  clear hob K1 hV hr
  go_enter Tryd.func24, Tryd.ntmps24
  go_wp2_with fail
  refine (unhide HR).mono ?_
  rintro ee w2 ⟨rfl, K2⟩
  have HK2 := hide ((unhide HK1).trans K2)
  clear HR K2 HK1
  go_wp2_with fail
  go_ret2
  exact ⟨rfl, unhide HK2⟩
end Go.Proofs.YtdioaohejoflcaaDoor

/-
  The contracts of package sign's readHashes and Decode.
-/
namespace Go.Proofs.YtdioaohejoflcaaDoor
open Go.RowKit
open Go.Proofs

theorem chP_succ (n : Nat) (b : List Int) : chP (n + 1) b = chP n b ++ [(b.drop (32 * n)).take 32] := by simp [chP, List.range_succ]
theorem chP_len (n : Nat) (b : List Int) : (chP n b).length = n := by simp [chP]
theorem chP_32 (n : Nat) (b : List Int) (h : 32 * n ≤ b.length) : ∀ x ∈ chP n b, x.length = 32 := by
  intro x hx
  obtain ⟨i, hi, rfl⟩ := List.mem_map.1 hx
  have : i < n := by simpa using hi
  rw [List.length_take, List.length_drop]
  omega
/-- a block that is no part of it changes. -/
theorem AccS.off {S : List Nat} {F : Nat → Prop} {w wr w2 : World} {ls : List (List Int)} {v : Value} {q : Nat} (h : AccS S F w ls v wr) (k : Kp [q] wr w2) (hq : q ∈ S) (hF : ∀ i, F i → i ≠ q) (hlt : q < w.heap.size) : AccS S F w ls v w2 := by
  obtain ⟨l, ⟨h1, h1'⟩, h2, h3, h4⟩ := h
  refine ⟨l, ⟨h1.kept k (fun i hi => ?_), fun x hx => ⟨(h1' x hx).1.kept k (fun i hi => by simpa using hF i (h4 x hx i hi)), (h1' x hx).2⟩⟩, h2, h3.trans (k.mono (by simpa using hq)), h4⟩
  have := h1.own i hi
  simp; omega

set_option maxRecDepth 100000 in
set_option maxHeartbeats 2000000 in
theorem reads_any (q : Nat) (v : Value) (bs : List Int) (n : Nat) (w : World) (hR : Rd w q v false bs) (hv : ∀ k, v.ownBlock = some k → k < w.heap.size) (hB : Bs bs) (hn : 32 * n ≤ bs.length) (hn1 : n ≤ 100) (hb : bs.length ≤ 100000) :
    Calls Tryd.prog 45 #[.pointer (some ⟨q, 0, none⟩), .int .i64 n] w fun e w' => ∃ ao m c, e = .returned (.slice ao m c) ∧ AccS [q] (w.heap.size ≤ ·) w (chP n bs) (.slice ao m c) w' ∧ ∃ v2, Rd w' q v2 false (bs.drop (32 * n)) ∧ ∀ k, v2.ownBlock = some k → v.ownBlock = some k := by
  obtain ⟨i0, hi0, hz0, hz1, hz2⟩ := info_parts Tryd.infoSl
  have hqlt : q < w.heap.size := lt_of_block hR.1
  have HR := hide hR
  have HV := hide hv
  have HB := hide hB
  have hni : (n : Int) ≤ 100 := by omega
  clear hR hv hB
  go_enter Tryd.func45, Tryd.ntmps45
  go_wp2_with (at_make; refine wpList_make_own _ rfl _ _ 31 rfl w.heap.size 24 i0 (.slice none 0 0) 1 Tryd.underlying31 hi0 hz0 hz1 .i64 .i64 _ n rfl rfl (by omega) (by rw [hz2]; omega) (by unfold maxLen; omega) (Nat.le_refl _) ?_; intro w1 o1 g1; have K1 : Kp [] w w1 := (Kp.refl [] w).grown g1 (by intro k hk; cases hk); have R1 : RowV w1 w.heap.size _ [] := o1)
  have A1 : Hid (AccS [q] (w.heap.size ≤ ·) w (chP 0 bs) (.slice (some ⟨w.heap.size, 0, none⟩) 0 n) w1) := ⟨[], ⟨R1, fun x hx => by cases hx⟩, rfl, K1.mono (by simp), fun x hx => by cases hx⟩
  have HR1 : Hid (∃ v2, Rd w1 q v2 false (bs.drop (32 * 0)) ∧ ∀ k, v2.ownBlock = some k → v.ownBlock = some k) := ⟨v, by simpa using (unhide HR).kept K1 (by simp) (by simp), fun _ h => h⟩
  clear o1 g1 R1 K1
  go_loopw [5, 9] (fun l j wr => ∃ (k m cc : Nat) (ao : Option Addr), k ≤ n ∧ l = .slice ao m cc ∧ j = .int .i64 k ∧ AccS [q] (w.heap.size ≤ ·) w (chP k bs) l wr ∧ ∃ v2, Rd wr q v2 false (bs.drop (32 * k)) ∧ ∀ k, v2.ownBlock = some k → v.ownBlock = some k) (fun _ j _ => n - (intOf j).toNat)
  case atStart => exact ⟨0, 0, n, some ⟨w.heap.size, 0, none⟩, by omega, rfl, rfl, unhide A1, unhide HR1⟩
  case round =>
    clear A1 HR1
    obtain ⟨k, m, cc, ao, hk, rfl, rfl, Ar, v2, R2, hv2⟩ := hrel
    have HA := hide Ar
    have HR2 := hide R2
    have HV2 := hide hv2
    clear Ar R2 hv2
    by_cases hlt : k < n
    · have hlt2 : (k : Int) < (n : Int) := by omega
      have htk : tk false (bs.drop (32 * k)) ((32 : Nat) : Int) = ((bs.drop (32 * k)).take 32, false, bs.drop (32 * (k + 1))) := by
        rw [tk_ok _ _ 32 (by rw [List.length_drop]; omega), List.drop_drop]
        rw [show 32 * k + 32 = 32 * (k + 1) by omega]
      have hC := raw_ok q v2 false (bs.drop (32 * k)) ((32 : Nat) : Int) wr (unhide HR2) (by rw [List.length_drop]; omega)
      rw [htk] at hC
      obtain ⟨X, hX⟩ : ∃ X, X = (bs.drop (32 * k)).take 32 := ⟨_, rfl⟩
      have HE : Hid (chP (k + 1) bs = chP k bs ++ [X]) := by rw [hX]; exact chP_succ k bs
      have HXB : Hid (Bs X) := by rw [hX]; exact ((unhide HB).drop _).take _
      have hXl : X.length = 32 := by rw [hX, List.length_take, List.length_drop]; omega
      have HLN : Hid ((chP k bs).length ≤ 1000000) := by rw [chP_len]; show k ≤ 1000000; omega
      rw [← hX] at hC
      dsimp only at hC
      rw [hXl] at hC
      have HC := hide hC
      clear hC htk hX hXl
      go_wp2_with fail
      refine (unhide HC).mono ?_
      rintro ee w3 ⟨a3, c3, rfl, ⟨S3, O3⟩, ⟨v3, R3, hv3⟩, K3⟩
      have HA3 := hide ((unhide HA).off K3 (by simp) (fun i hi e => by subst e; omega) hqlt)
      have HS3 := hide S3
      have HAP : Hid (∀ i, (Value.slice a3 32 c3).ownBlock = some i → (Value.slice ao m cc).ownBlock = some i → X = []) := fun i h1 h2 => by
        have := O3 i h1
        have := (unhide HA).lt i h2
        omega
      have HF : Hid (∀ i, (Value.slice a3 32 c3).ownBlock = some i → w.heap.size ≤ i) := fun i h1 => Nat.le_trans (unhide HA).kp.size (O3 i h1)
      have HR3 := hide R3
      have HV3 : Hid (∀ i, v3.ownBlock = some i → v.ownBlock = some i) := fun i h1 => unhide HV2 i (hv3 i h1)
      clear S3 O3 R3 hv3 K3 HC HA HR2 HV2
      go_wp2_with (at_builtin; refine wpList_accs rfl (.tmp 11) (.tmp 14) rfl (.slice ao m cc) _ rfl (unhide HA3) (unhide HLN) _ X (unhide HS3) (unhide HXB) (unhide HAP) (unhide HF) rfl ?_; intro ao5 m5 c5 w5 A5 S5)
      have HA5 := hide A5
      have HR5 : Hid (Rd w5 q v3 false (bs.drop (32 * (k + 1)))) := by
        have hown : ∀ i, (Value.slice ao m cc).ownBlock = some i → w.heap.size ≤ i := by obtain ⟨_, h1, _⟩ := unhide HA3; exact h1.1.own
        refine (unhide HR3).kept S5.1 (fun hm => ?_) (fun i hi hm => ?_)
        · have := hown q (by simpa using hm); omega
        · have := hown i (by simpa using hm)
          have := unhide HV i (unhide HV3 i hi)
          omega
      clear A5 S5 HA3 HR3 HS3 HAP HF
      go_roundw
      case rel => exact ⟨k + 1, m5, c5, ao5, by omega, rfl, by go_num, by have e := unhide HE; rw [← e] at HA5; exact unhide HA5, v3, unhide HR5, unhide HV3⟩
      case measure => simp [intOf]; omega
    · obtain rfl : k = n := by omega
      have hlt2 : ¬ (k : Int) < (k : Int) := by omega
      go_wp2_with fail
      go_ret
      exact ⟨ao, m, cc, rfl, unhide HA, v2, unhide HR2, unhide HV2⟩

theorem Lists.old {w w' : World} {v : Value} {l : List (Value × List Int)} {S : List Nat} (h : Lists w v l) (k : Kp S w w') (hS : ∀ q ∈ S, w.heap.size ≤ q) : Lists w' v l := by
  obtain ⟨ao, c, rfl, h1, h2⟩ := h
  refine ⟨ao, c, rfl, h1, fun i hi => ?_⟩
  obtain ⟨b, off, e, h3, h4, h5⟩ := h2 i hi
  subst e
  have hb := World.block_lt_of_cell? _ _ h3
  exact ⟨b, off, rfl, k.cell h3 (fun hm => by have := hS _ hm; simp at this hb; omega), h4.old k (fun i _ hlt hm => by have := hS _ hm; omega), h5⟩
theorem SigV.old {w w' : World} {v : Value} {i : Int} {ps qs : List (List Int)} {S : List Nat} (h : SigV w v i ps qs) (k : Kp S w w') (hS : ∀ q ∈ S, w.heap.size ≤ q) : SigV w' v i ps qs := by
  obtain ⟨vp, vq, lp, lq, e, h1, h2, h3, h4⟩ := h
  exact ⟨vp, vq, lp, lq, e, h1.old k hS, h2, h3.old k hS, h4⟩
theorem setCell_kp (w : World) (g j : Nat) (u : Value) : Kp [g] w (w.setCell ⟨g, j, none⟩ u) := (Kp.refl [g] w).setCell (p := ⟨g, j, none⟩) (.inl (by simp)) _

/-- a signature that is nothing. -/
def sig0 : Value := .agg #[.int .i64 0, .slice none 0 0, .slice none 0 0]
theorem sig0_v (w : World) : SigV w sig0 0 [] [] := ⟨_, _, [], [], rfl, lists_nil _ _ _, rfl, lists_nil _ _ _, rfl⟩

set_option maxRecDepth 100000 in
set_option maxHeartbeats 4000000 in
theorem decode_long (vb : Value) (bs : List Int) (w : World) (hS : Sl w vb bs) (hl : bs.length ≠ 2180) :
    Calls Tryd.prog 19 #[vb] w fun e w' => e = .returned (.tuple #[sig0, .int .i64 12]) ∧ Kp [] w w' := by
  obtain ⟨ab, cb, rfl, _⟩ := hS
  obtain ⟨nb, hnb⟩ : ∃ n, n = bs.length := ⟨_, rfl⟩
  rw [← hnb] at hl ⊢
  have hni : ¬ (nb : Int) = 2180 := by omega
  have G1 := heap_alloc_new w (.cells #[.int .i64 0, .slice none 0 0, .slice none 0 0] 33)
  have HK1 := hide ((Kp.refl [] w).alloc (.cells #[.int .i64 0, .slice none 0 0, .slice none 0 0] 33))
  clear hnb hl
  go_enter Tryd.func19, Tryd.ntmps19
  go_wp2_with (refine wpList_store_sig rfl (.tmp 2) (.tmp 9) rfl w.heap.size rfl _ _ _ _ _ _ G1 rfl ⟨rfl, rfl, rfl⟩ ?_; intro w4 G4 K4)
  refine bodyPost_ret (results_sig rfl _ _ w.heap.size _ _ _ (0, 0) rfl G4) rfl ?_
  exact ⟨rfl, (unhide HK1).then K4 (by simp)⟩

/-- what Decode answers. -/
def Decd (b : List Int) (v : Value) (e : Int) (w' : World) : Prop :=
  if decOk b then SigV w' v (val (b.take 4)) (chP 64 (b.drop 4)) (chP 4 (b.drop 2052)) ∧ e = 0 else v = sig0 ∧ e = 12

set_option maxRecDepth 100000 in
set_option maxHeartbeats 4000000 in
theorem decode_any (vb : Value) (bs : List Int) (w : World) (hS : Sl w vb bs) (hB : Bs bs) :
    Calls Tryd.prog 19 #[vb] w fun e w' => ∃ v x, e = .returned (.tuple #[v, .int .i64 x]) ∧ Decd bs v x w' ∧ Kp [] w w' := by
  by_cases hl : bs.length = 2180
  · have HB := hide hB
    have HL := hide hl
    obtain ⟨ob, hob⟩ : ∃ o : Obj, o = (.cells #[.int .i64 0, .slice none 0 0, .slice none 0 0] 33) := ⟨_, rfl⟩
    have K1 : Kp [] w (w.alloc ob) := (Kp.refl [] w).alloc ob
    have HRd := hide (read_any vb bs (w.alloc ob) (hS.kept K1 (by simp)) (by omega))
    have G1 : Hid ((w.alloc ob).heap[w.heap.size]? = some ob) := heap_alloc_new w ob
    rw [hob] at K1 HRd G1
    have HK1 := hide K1
    obtain ⟨ab, cb, hvb, _⟩ := hS
    rw [hl] at hvb
    subst hvb
    clear hob K1 hB hl
    go_enter Tryd.func19, Tryd.ntmps19
    go_wp2_with fail
    refine (unhide HRd).mono ?_
    rintro ee w2 ⟨q, v2, rfl, hq2, R2, hv2, K2⟩
    have HK2 := hide ((unhide HK1).trans K2)
    have HG2 := hide (K2.heap (unhide G1) (by simp))
    have HKa : Hid (Kp [] w2 (w2.alloc (.cells #[.int .i64 0, .slice none 0 0, .slice none 0 0] 33))) := (Kp.refl [] w2).alloc _
    have HR2 := hide (R2.kept (unhide HKa) (by simp) (by simp))
    have hqlt : q < w2.heap.size := lt_of_block R2.1
    have HV2 := hide hv2
    have hqw : w.heap.size < q := by have e : (w.alloc ob).heap.size = w.heap.size + 1 := by simp
                                     have e' : ∀ o : Obj, (w.alloc o).heap.size = w.heap.size + 1 := fun o => by simp
                                     rw [e'] at hq2; omega
    have HGa : Hid ((w2.alloc (.cells #[.int .i64 0, .slice none 0 0, .slice none 0 0] 33)).heap[w2.heap.size]? = some (.cells #[.int .i64 0, .slice none 0 0, .slice none 0 0] 33)) := heap_alloc_new w2 _
    have hRn := rnum_any q v2 false bs _ (unhide HR2) (unhide HB)
    rw [show tk false bs 4 = (bs.take 4, false, bs.drop 4) from tk_ok false bs 4 (by have := unhide HL; omega)] at hRn
    obtain ⟨x, hx⟩ : ∃ x, x = val (bs.take 4) := ⟨_, rfl⟩
    dsimp only at hRn
    rw [← hx] at hRn
    have hxb : 0 ≤ x ∧ x < 4294967296 := by
      have := val_bd (bs.take 4) ((unhide HB).take 4)
      rw [List.length_take, Nat.min_eq_left (by have := unhide HL; omega), ← hx] at this
      exact ⟨this.1, by simpa using this.2⟩
    have hwx : IntKind.i64.wrap x = x := wrap_at rfl (by omega) (by omega)
    have HX := hide hx
    have HXB := hide hxb
    have HRn := hide hRn
    clear hx hxb hRn
    clear HRd R2 hv2 K2 HK1 G1 hq2
    go_wp2_with fail
    refine (unhide HRn).mono ?_
    rintro ee w3 ⟨rfl, ⟨v3, R3, hv3⟩, K3⟩
    obtain ⟨g1, hg1⟩ : ∃ g, g = w2.heap.size := ⟨_, rfl⟩
    rw [← hg1] at HGa hqlt HV2 ⊢
    have hza : Hid (∀ o : Obj, (w2.alloc o).heap.size = g1 + 1) := fun o => by rw [hg1]; simp
    have G3 : w3.heap[g1]? = some (.cells #[.int .i64 0, .slice none 0 0, .slice none 0 0] 33) := K3.heap (unhide HGa) (by simp; omega)
    have hc3 : w3.cell? ⟨g1, 0, none⟩ = some (.int .i64 0) := by rw [cell_of_row w3 g1 0 _ _ _ G3]; rfl
    have hf3 : w3.frozen? ⟨g1, 0, none⟩ = false := frozen_of_row w3 g1 0 _ _ G3
    have HK3 : Hid (Kp [] w w3) := ((unhide HK2).trans (unhide HKa)).then K3 (fun i hi => .inr (by simp at hi; omega))
    have k4 := setCell_kp w3 g1 0 (.int .i64 x)
    have g4 := heap_setCell_same w3 g1 0 _ _ (.int .i64 x) G3
    have hv3' : ∀ k, v3.ownBlock = some k → k < g1 := fun k hk => (unhide HV2 k (hv3 k hk)).2
    have R4 := R3.kept k4 (by simp; omega) (fun i hi => by have := hv3' i hi; simp; omega)
    have hsz3 : g1 + 1 ≤ w3.heap.size := by have := K3.size; rw [unhide hza] at this; exact this
    have hsz4 : w3.heap.size ≤ (w3.setCell ⟨g1, 0, none⟩ (.int .i64 x)).heap.size := k4.size
    have HC4 := hide (reads_any q v3 (bs.drop 4) 64 _ R4 (fun k hk => by have := hv3' k hk; omega) ((unhide HB).drop 4) (by rw [List.length_drop]; have := unhide HL; omega) (by omega) (by rw [List.length_drop]; have := unhide HL; omega))
    have HK4 : Hid (Kp [] w (w3.setCell ⟨g1, 0, none⟩ (.int .i64 x))) := (unhide HK3).then k4 (fun i hi => .inr (by simp at hi; subst hi; have := (unhide HK2).size; omega))
    have HG4 := hide g4
    have HV3 := hide hv3'
    have HQ4 : Hid (Kp [q, g1] w2 (w3.setCell ⟨g1, 0, none⟩ (.int .i64 x))) := (((unhide HKa).mono (by simp)).trans (K3.mono (by simp))).trans (k4.mono (by simp))
    have HGW : Hid (w.heap.size < g1) := hide (by omega)
    clear G3 k4 g4 hv3' R4 R3 hv3 K3 HRn HR2 HGa HKa HK3 HV2 hg1
    go_wp2_with fail
    refine (unhide HC4).mono ?_
    rintro ee w5 ⟨a5, m5, c5, rfl, A5, v5, R5, hv5⟩
    have hA5 := A5.kp
    have HG5 : w5.heap[g1]? = some _ := hA5.heap (unhide HG4) (by simp; omega)
    have hc5 : w5.cell? ⟨g1, 1, none⟩ = some (.slice none 0 0) := by rw [cell_of_row w5 g1 1 _ _ _ HG5]; rfl
    have hf5 : w5.frozen? ⟨g1, 1, none⟩ = false := frozen_of_row w5 g1 1 _ _ HG5
    have k6 := setCell_kp w5 g1 1 (.slice a5 m5 c5)
    have g6 := heap_setCell_same w5 g1 1 _ _ (.slice a5 m5 c5) HG5
    have HL5 : Hid (∃ l, Lists w5 (.slice a5 m5 c5) l ∧ l.map (·.2) = chP 64 (bs.drop 4) ∧ (∀ q, (Value.slice a5 m5 c5).ownBlock = some q → g1 + 1 ≤ q) ∧ ∀ x ∈ l, ∀ q, x.1.ownBlock = some q → g1 + 1 ≤ q) := by
      obtain ⟨l, h1, h2, h3, h4⟩ := A5.lists (by rw [chP_len]; omega)
      exact ⟨l, h1, h2, fun q hq => by have := h3 q hq; omega, fun x hx q hq => by have := h4 x hx q hq; omega⟩
    have hv5' : ∀ k, v5.ownBlock = some k → k < g1 := fun k hk => unhide HV3 k (hv5 k hk)
    have hsz5 : g1 + 1 ≤ w5.heap.size := by have := hA5.size; omega
    have R6 := R5.kept k6 (by simp; omega) (fun i hi => by have := hv5' i hi; simp; omega)
    have hsz6 := k6.size
    rw [List.drop_drop] at R6
    have HC6 := hide (reads_any q v5 (bs.drop (4 + 32 * 64)) 4 _ R6 (fun k hk => by have := hv5' k hk; omega) ((unhide HB).drop _) (by rw [List.length_drop]; have := unhide HL; omega) (by omega) (by rw [List.length_drop]; have := unhide HL; omega))
    have HK5 : Hid (Kp [] w w5) := (unhide HK4).then hA5 (fun i hi => .inr (by simp at hi; omega))
    have HK6 : Hid (Kp [] w (w5.setCell ⟨g1, 1, none⟩ (.slice a5 m5 c5))) := (unhide HK5).then k6 (fun i hi => .inr (by simp at hi; subst hi; have := unhide HGW; omega))
    have HK56 := hide k6
    have HQ6 : Hid (Kp [q, g1] w2 (w5.setCell ⟨g1, 1, none⟩ (.slice a5 m5 c5))) := ((unhide HQ4).trans (hA5.mono (by simp))).trans (k6.mono (by simp))
    have HG6 := hide g6
    clear HG5 k6 g6 hv5' R6 R5 hv5 A5 hA5 HC4 HG4 HV3 HK4 HK5 hc3 hf3 hsz3 hsz4
    go_wp2_with fail
    refine (unhide HC6).mono ?_
    rintro ee w7 ⟨a7, m7, c7, rfl, A7, -⟩
    have hA7 := A7.kp
    have HG7 : w7.heap[g1]? = some _ := hA7.heap (unhide HG6) (by simp; omega)
    have hc7 : w7.cell? ⟨g1, 2, none⟩ = some (.slice none 0 0) := by rw [cell_of_row w7 g1 2 _ _ _ HG7]; rfl
    have hf7 : w7.frozen? ⟨g1, 2, none⟩ = false := frozen_of_row w7 g1 2 _ _ HG7
    have k8 := setCell_kp w7 g1 2 (.slice a7 m7 c7)
    have g8 := heap_setCell_same w7 g1 2 _ _ (.slice a7 m7 c7) HG7
    have HK7 : Hid (Kp [] w w7) := (unhide HK6).then hA7 (fun i hi => .inr (by simp at hi; omega))
    have HK8 : Hid (Kp [] w (w7.setCell ⟨g1, 2, none⟩ (.slice a7 m7 c7))) := (unhide HK7).then k8 (fun i hi => .inr (by simp at hi; subst hi; have := unhide HGW; omega))
    have HV8 : Hid (SigV (w7.setCell ⟨g1, 2, none⟩ (.slice a7 m7 c7)) (.agg #[.int .i64 x, .slice a5 m5 c5, .slice a7 m7 c7]) x (chP 64 (bs.drop 4)) (chP 4 (bs.drop 2052)) ∧ ∀ w9, Kp [w.heap.size] (w7.setCell ⟨g1, 2, none⟩ (.slice a7 m7 c7)) w9 → SigV w9 (.agg #[.int .i64 x, .slice a5 m5 c5, .slice a7 m7 c7]) x (chP 64 (bs.drop 4)) (chP 4 (bs.drop 2052))) := by
      obtain ⟨lp, h1, h2, h3, h4⟩ := unhide HL5
      obtain ⟨lq, g1', g2, g3, g4⟩ := A7.lists (by rw [chP_len]; omega)
      have p6 := h1.off (unhide HK56) (fun q hq => by have := h3 q hq; simp; omega) (fun y hy q hq => by have := h4 y hy q hq; simp; omega)
      have p7 := p6.off hA7 (fun i hq => by have := h3 i hq; simp; omega) (fun y hy i hq => by have := h4 y hy i hq; simp; omega)
      have p8 := p7.off k8 (fun q hq => by have := h3 q hq; simp; omega) (fun y hy q hq => by have := h4 y hy q hq; simp; omega)
      have q8 := g1'.off k8 (fun q hq => by have := g3 q hq; simp; omega) (fun y hy q hq => by have := g4 y hy q hq; simp; omega)
      refine ⟨⟨_, _, lp, lq, rfl, p8, h2, q8, g2⟩, fun w9 k9 => ⟨_, _, lp, lq, rfl, p8.off k9 (fun q hq => ?_) (fun y hy q hq => ?_), h2, q8.off k9 (fun q hq => ?_) (fun y hy q hq => ?_), g2⟩⟩
      · have := h3 q hq; have := unhide HGW; simp; omega
      · have := h4 y hy q hq; have := unhide HGW; simp; omega
      · have := g3 q hq; have := unhide HGW; simp; omega
      · have := g4 y hy q hq; have := unhide HGW; simp; omega
    obtain ⟨r, hr⟩ : ∃ r, r = rgtP x (chP 64 (bs.drop 4)) (chP 4 (bs.drop 2052)) := ⟨_, rfl⟩
    have hrd : r = decOk bs := by
      have hxb := unhide HXB
      by_cases h16 : x < 16
      · have e1 : rgtP x (chP 64 (bs.drop 4)) (chP 4 (bs.drop 2052)) = true := (rgtP_iff _ _ _).2 ⟨⟨hxb.1, h16⟩, ⟨chP_len _ _, chP_32 _ _ (by rw [List.length_drop]; have := unhide HL; omega)⟩, chP_len _ _, chP_32 _ _ (by rw [List.length_drop]; have := unhide HL; omega)⟩
        have e2 : decOk bs = true := by unfold decOk; rw [← unhide HX, unhide HL]; simp [h16]
        rw [hr, e1, e2]
      · have e1 : rgtP x (chP 64 (bs.drop 4)) (chP 4 (bs.drop 2052)) = false := by
          cases h : rgtP x (chP 64 (bs.drop 4)) (chP 4 (bs.drop 2052)) with
          | false => rfl
          | true => exact absurd ((rgtP_iff _ _ _).1 h).1.2 h16
        have e2 : decOk bs = false := by unfold decOk; rw [← unhide HX]; simp [h16]
        rw [hr, e1, e2]
    have HRi := hide (sright_any _ x _ _ r hr _ (unhide HV8).1)
    have HG8 := hide g8
    have HRD := hide hrd
    have HG0 : Hid ((w7.setCell ⟨g1, 2, none⟩ (.slice a7 m7 c7)).heap[w.heap.size]? = some (.cells #[.int .i64 0, .slice none 0 0, .slice none 0 0] 33)) := (((unhide HQ6).trans (hA7.mono (by simp))).trans (k8.mono (by simp))).heap (unhide HG2) (by have := unhide HGW; simp; omega)
    clear HG7 k8 g8 A7 hA7 HC6 HG6 HK6 HK7 HL5 HK56 hc5 hf5 hsz5 hsz6 hr hrd HQ4 HQ6
    go_wp2_with (refine wpList_load_row rfl 33 (.tmp 5) rfl g1 rfl 33 _ (0, 0) _ (unhide HG8) Tryd.underlying33 rfl Tryd.sigSize ?_)
    refine (unhide HRi).mono ?_
    rintro ee w9 ⟨rfl, K9⟩
    have HK9 := hide ((unhide HK8).trans K9)
    have G0 := K9.heap (unhide HG0) (by simp)
    have G9 := K9.heap (unhide HG8) (by simp)
    have HV9 : Hid (∀ w', Kp [w.heap.size] w9 w' → SigV w' (.agg #[.int .i64 x, .slice a5 m5 c5, .slice a7 m7 c7]) x (chP 64 (bs.drop 4)) (chP 4 (bs.drop 2052))) := fun w' k' => (unhide HV8).2 w' ((K9.mono (by simp)).trans k')
    clear HRi K9 HG8 HG0 HK8 HV8 hc7 hf7
    have HG9 := hide G9
    clear G9
    cases r
    · go_wp2_with (refine wpList_store_sig rfl (.tmp 2) (.tmp 25) rfl w.heap.size rfl _ _ _ _ _ _ G0 rfl ⟨rfl, rfl, rfl⟩ ?_; intro w4 G4 K4)
      refine bodyPost_ret (results_sig rfl _ _ w.heap.size _ _ _ (0, 0) rfl G4) rfl ?_
      exact ⟨_, _, rfl, by unfold Decd; rw [← unhide HRD]; exact ⟨rfl, rfl⟩, (unhide HK9).then K4 (by simp)⟩
    · go_wp2_with (refine wpList_load_row rfl 33 (.tmp 5) rfl g1 rfl 33 _ (0, 0) _ (unhide HG9) Tryd.underlying33 rfl Tryd.sigSize ?_; refine Hid.out ?_)
      refine hide ?_
      go_wp2_with (refine wpList_store_sig rfl (.tmp 2) (.tmp 26) rfl w.heap.size rfl _ _ _ _ _ _ G0 rfl ⟨rfl, rfl, rfl⟩ ?_; intro w4 G4 K4)
      refine bodyPost_ret (results_sig rfl _ _ w.heap.size _ _ _ (0, 0) rfl G4) rfl ?_
      exact ⟨_, _, rfl, by unfold Decd; rw [← unhide HRD]; exact ⟨by rw [← unhide HX]; exact unhide HV9 w4 K4, rfl⟩, (unhide HK9).then K4 (by simp)⟩
  · have hno : decOk bs = false := by unfold decOk; simp [hl]
    refine (decode_long vb bs w hS hl).mono ?_
    rintro e w' ⟨rfl, K⟩
    exact ⟨_, _, rfl, by unfold Decd; rw [hno]; exact ⟨rfl, rfl⟩, K⟩
end Go.Proofs.YtdioaohejoflcaaDoor

/-
  The contracts of package sign's sameLists and Same.
-/
namespace Go.Proofs.YtdioaohejoflcaaDoor
open Go.RowKit
open Go.Proofs

theorem take_step {l m : List (List Int)} {k : Nat} (h : l.take k = m.take k) (h1 : k < l.length) (h2 : k < m.length) (e : l.getD k [] = m.getD k []) : l.take (k + 1) = m.take (k + 1) := by
  rw [List.take_succ_eq_append_getElem h1, List.take_succ_eq_append_getElem h2, h]
  simp [List.getD, h1, h2] at e
  rw [e]

set_option maxRecDepth 100000 in
set_option maxHeartbeats 2000000 in
theorem sameLists_any (va vb : Value) (la lb : List (Value × List Int)) (xs ys : List (List Int)) (hxs : la.map (·.2) = xs) (hys : lb.map (·.2) = ys) (c : Bool) (hc : c = decide (xs = ys)) (w : World) (hA : Lists w va la) (hB : Lists w vb lb) :
    Calls Tryd.prog 50 #[va, vb] w fun e w' => e = .returned (.bool c) ∧ Kp [] w w' := by
  have HA := hide hA
  have HB := hide hB
  have HXS := hide hxs
  have HYS := hide hys
  have HC := hide hc
  have hN1 : xs.length ≤ 9223372036854775807 := by obtain ⟨_, _, _, h, _⟩ := hA; rw [← hxs, List.length_map]; exact h
  have hlx : la.length = xs.length := by rw [← hxs]; simp
  have hly : lb.length = ys.length := by rw [← hys]; simp
  obtain ⟨aa, ca, hva, _⟩ := hA
  obtain ⟨ab, cb, hvb, _⟩ := hB
  rw [hlx] at hva
  rw [hly] at hvb
  subst hva
  subst hvb
  obtain ⟨N, hN⟩ : ∃ N, N = xs.length := ⟨_, rfl⟩
  obtain ⟨M, hM⟩ : ∃ M, M = ys.length := ⟨_, rfl⟩
  rw [← hN] at HA hN1 ⊢
  rw [← hM] at HB ⊢
  have HN := hide hN
  have HM := hide hM
  clear hxs hys hlx hly hN hM hc
  by_cases hMN : M = N
  · subst hMN
    have hni : (M : Int) ≤ 9223372036854775807 := by omega
    go_enter Tryd.func50, Tryd.ntmps50
    go_wp2_with fail
    go_loopw [13] (fun j wr => ∃ k : Nat, k ≤ M ∧ j = .int .i64 k ∧ xs.take k = ys.take k ∧ Kp [] w wr) (fun j _ => M - (intOf j).toNat)
    case atStart => exact ⟨0, by omega, rfl, rfl, Kp.refl _ _⟩
    case round =>
      obtain ⟨k, hk, rfl, ht, Kr⟩ := hrel
      have HT := hide ht
      have HKr := hide Kr
      clear ht Kr
      by_cases hlt : k < M
      · have hlt2 : (k : Int) < (M : Int) := by omega
        obtain ⟨b1, o1, ax, nx, cx, rfl, hcx, hSx, hBx⟩ := lists_at (unhide HA) (unhide HXS) k (by have := unhide HN; omega)
        obtain ⟨b2, o2, ay, ny, cy, rfl, hcy, hSy, hBy⟩ := lists_at (unhide HB) (unhide HYS) k (by have := unhide HM; omega)
        have CX : ∀ w', Kp [] wr.drew w' → w'.cell? ⟨b1, o1 + k, none⟩ = some (.slice ax nx cx) := fun w' k' => (((unhide HKr).trans (kp_drew wr)).trans k').cell hcx (by simp)
        have CY : ∀ w', Kp [] wr.drew w' → w'.cell? ⟨b2, o2 + k, none⟩ = some (.slice ay ny cy) := fun w' k' => (((unhide HKr).trans (kp_drew wr)).trans k').cell hcy (by simp)
        obtain ⟨X, hX⟩ : ∃ X, X = xs.getD k [] := ⟨_, rfl⟩
        obtain ⟨Y, hY⟩ : ∃ Y, Y = ys.getD k [] := ⟨_, rfl⟩
        rw [← hX] at hSx hBx
        rw [← hY] at hSy hBy
        have SX : ∀ w', Kp [] wr.drew w' → Sl w' (.slice ax nx cx) X := fun w' k' => hSx.kept (((unhide HKr).trans (kp_drew wr)).trans k') (by simp)
        have SY : ∀ w', Kp [] wr.drew w' → Sl w' (.slice ay ny cy) Y := fun w' k' => hSy.kept (((unhide HKr).trans (kp_drew wr)).trans k') (by simp)
        obtain ⟨S, hS⟩ : ∃ S, S = strOfNums X := ⟨_, rfl⟩
        obtain ⟨T, hT⟩ : ∃ T, T = strOfNums Y := ⟨_, rfl⟩
        obtain ⟨bb, hbb⟩ : ∃ b, b = (S.toList == T.toList) := ⟨_, rfl⟩
        have HBB : Hid (bb = decide (X = Y)) := by rw [hbb, hS, hT]; exact str_beq X Y hBx hBy
        have HCX := hide CX
        have HCY := hide CY
        have HSX := hide SX
        have HSY := hide SY
        have HX := hide hX
        have HY := hide hY
        have HS := hide hS
        have HT' := hide hT
        have HB1 := hide hbb
        clear hcx hcy hSx hSy hBx hBy CX CY SX SY hX hY hS hT hbb
        go_wp2_with fail
        refine region_grow Tryd.mixed [Is (.slice (some ⟨b1, o1, none⟩) M ca), Is (.int .i64 k), Is (.pointer (some ⟨b1, o1 + k, none⟩)), Is (.slice ax nx cx), Is (.slice (some ⟨b2, o2, none⟩) M cb), Is (.int .i64 k), Is (.pointer (some ⟨b2, o2 + k, none⟩)), Is (.slice ay ny cy), Is (.bool bb), Is (.bool (!bb))] [[(0, none)], [(5, none)], [(16, some 0), (17, some 1)], [(18, some 2)], [(1, none)], [(5, none)], [(20, some 4), (21, some 5)], [(22, some 6)], [(19, some 3), (23, some 7)], [(24, some 8)]] (by kernel_rfl) ?_ ?_ ?_
        · simp only [List.mem_cons, List.not_mem_nil, or_false]
          intro R hR
          rcases hR with rfl | rfl | rfl | rfl | rfl | rfl | rfl | rfl | rfl | rfl <;> first | exact stable_is _
        · refine steps_cons (fun a w hk hn => ?_) ?_
          · have h0 : a.eval (.tmp 0) = .slice (some ⟨b1, o1, none⟩) M ca := hn.1
            clear hn
            refine wants_plain rfl ?_
            exact grown_move (.tmp 0) rfl h0
          refine steps_cons (fun a w hk hn => ?_) ?_
          · have h5 : a.eval (.tmp 5) = .int .i64 k := hn.1
            clear hn
            refine wants_plain rfl ?_
            exact grown_move (.tmp 5) rfl h5
          refine steps_cons (fun a w hk hn => ?_) ?_
          · have h16 : a.eval (.tmp 16) = .slice (some ⟨b1, o1, none⟩) M ca := hn.1
            have h17 : a.eval (.tmp 17) = .int .i64 k := hn.2.1
            clear hn
            refine wants_plain rfl ?_
            refine grown_run (v := .pointer (some ⟨b1, o1 + k, none⟩)) ?_ (Kp.refl _ _) rfl
            obtain ⟨ρ, hρ, hc, hf, hg⟩ := eval_is a
            rw [hρ] at h16 h17 ⊢
            simp [go_sem, h16, h17, hlt2]
          refine steps_cons (fun a w hk hn => ?_) ?_
          · have h18 : a.eval (.tmp 18) = .pointer (some ⟨b1, o1 + k, none⟩) := hn.1
            clear hn
            refine wants_plain rfl ?_
            refine grown_run (v := .slice ax nx cx) ?_ (Kp.refl _ _) rfl
            have hcell := unhide HCX w hk
            obtain ⟨ρ, hρ, hc, hf, hg⟩ := eval_is a
            rw [hρ] at h18 ⊢
            simp [go_sem, h18, hcell]
          refine steps_cons (fun a w hk hn => ?_) ?_
          · have h1 : a.eval (.tmp 1) = .slice (some ⟨b2, o2, none⟩) M cb := hn.1
            clear hn
            refine wants_plain rfl ?_
            exact grown_move (.tmp 1) rfl h1
          refine steps_cons (fun a w hk hn => ?_) ?_
          · have h5 : a.eval (.tmp 5) = .int .i64 k := hn.1
            clear hn
            refine wants_plain rfl ?_
            exact grown_move (.tmp 5) rfl h5
          refine steps_cons (fun a w hk hn => ?_) ?_
          · have h20 : a.eval (.tmp 20) = .slice (some ⟨b2, o2, none⟩) M cb := hn.1
            have h21 : a.eval (.tmp 21) = .int .i64 k := hn.2.1
            clear hn
            refine wants_plain rfl ?_
            refine grown_run (v := .pointer (some ⟨b2, o2 + k, none⟩)) ?_ (Kp.refl _ _) rfl
            obtain ⟨ρ, hρ, hc, hf, hg⟩ := eval_is a
            rw [hρ] at h20 h21 ⊢
            simp [go_sem, h20, h21, hlt2]
          refine steps_cons (fun a w hk hn => ?_) ?_
          · have h22 : a.eval (.tmp 22) = .pointer (some ⟨b2, o2 + k, none⟩) := hn.1
            clear hn
            refine wants_plain rfl ?_
            refine grown_run (v := .slice ay ny cy) ?_ (Kp.refl _ _) rfl
            have hcell := unhide HCY w hk
            obtain ⟨ρ, hρ, hc, hf, hg⟩ := eval_is a
            rw [hρ] at h22 ⊢
            simp [go_sem, h22, hcell]
          refine steps_cons (fun a w hk hn => ?_) ?_
          · have h19 : a.eval (.tmp 19) = .slice ax nx cx := hn.1
            have h23 : a.eval (.tmp 23) = .slice ay ny cy := hn.2.1
            clear hn
            refine wants_plain rfl ?_
            refine grown_call (f := 39) rfl Tryd.func39 (by kernel_rfl) (by kernel_rfl) ?_
            simp only [List.map_toArray, List.map_cons, List.map_nil, h19, h23]
            refine (samehash_any _ _ X Y S T (unhide HS) (unhide HT') w (unhide HSX w hk) (unhide HSY w hk)).mono ?_
            rintro e w' ⟨rfl, hw⟩
            subst w'
            exact ⟨_, rfl, Kp.refl _ _, congrArg Value.bool (unhide HB1).symm⟩
          refine steps_cons (fun a w hk hn => ?_) ?_
          · have h24 : a.eval (.tmp 24) = .bool bb := hn.1
            clear hn
            refine wants_plain rfl ?_
            refine grown_run (v := .bool (!bb)) ?_ (Kp.refl _ _) rfl
            obtain ⟨ρ, hρ, hc, hf, hg⟩ := eval_is a
            rw [hρ] at h24 ⊢
            simp [go_sem, h24]
          exact trivial
        intro W1 hkW1
        rintro _ rfl
        rintro _ rfl
        rintro _ rfl
        rintro _ rfl
        rintro _ rfl
        rintro _ rfl
        rintro _ rfl
        rintro _ rfl
        rintro _ rfl
        rintro _ rfl
        refine fin_nil ?_
        simp only [Act.put, List.set_cons_zero, List.set_cons_succ, List.setIfInBounds_toArray]
        cases bb
        · have hne : c = false := by
            rw [unhide HC]
            refine decide_eq_false (fun e => ?_)
            have h1 := unhide HBB
            rw [unhide HX, unhide HY, e] at h1
            simp at h1
          subst hne
          go_wp2_with fail
          go_ret
          exact ⟨rfl, ((unhide HKr).trans (kp_drew wr)).trans hkW1⟩
        · have HE : Hid (xs.take (k + 1) = ys.take (k + 1)) := take_step (unhide HT) (by have := unhide HN; omega) (by have := unhide HM; omega) (by
            have h1 := unhide HBB
            rw [← unhide HX, ← unhide HY]
            exact of_decide_eq_true h1.symm)
          go_wp2_with fail
          go_roundw
          case rel => exact ⟨k + 1, by omega, by go_num, unhide HE, ((unhide HKr).trans (kp_drew wr)).trans hkW1⟩
          case measure => simp [intOf]; omega
      · obtain rfl : k = M := by omega
        have hlt2 : ¬ (k : Int) < (k : Int) := by omega
        have hcc : c = true := by
          rw [unhide HC]
          have h1 := unhide HT
          rw [List.take_of_length_le (by have := unhide HN; omega), List.take_of_length_le (by have := unhide HM; omega)] at h1
          exact decide_eq_true h1
        subst hcc
        go_wp2_with fail
        go_ret
        exact ⟨rfl, unhide HKr⟩
  · have hne : ¬ (N : Int) = (M : Int) := by omega
    have hcc : c = false := by
      rw [unhide HC]
      refine decide_eq_false (fun e => hMN ?_)
      rw [unhide HN, unhide HM, e]
    subst hcc
    go_enter Tryd.func50, Tryd.ntmps50
    go_wp2_with fail
    go_ret
    exact ⟨rfl, Kp.refl _ _⟩

set_option maxRecDepth 100000 in
set_option maxHeartbeats 2000000 in
theorem ssame_any (v u : Value) (i j : Int) (ps qs rs ts : List (List Int)) (c : Bool) (hc : c = decide (i = j ∧ ps = rs ∧ qs = ts)) (w : World) (hV : SigV w v i ps qs) (hU : SigV w u j rs ts) :
    Calls Tryd.prog 25 #[v, u] w fun e w' => e = .returned (.bool c) ∧ Kp [] w w' := by
  obtain ⟨ap, np, cp, aq, nq, cq, lp, lq, rfl, hP, hp, hQ, hq, hnp, hnq⟩ := hV.shape
  obtain ⟨ar, nr, cr, as', ns, cs, lr, ls, rfl, hR, hr, hS, hs, hnr, hns⟩ := hU.shape
  clear hnp hnq hnr hns hV hU
  obtain ⟨o1, ho1⟩ : ∃ o : Obj, o = (.cells #[.int .i64 i, .slice ap np cp, .slice aq nq cq] 33) := ⟨_, rfl⟩
  obtain ⟨o2, ho2⟩ : ∃ o : Obj, o = (.cells #[.int .i64 j, .slice ar nr cr, .slice as' ns cs] 33) := ⟨_, rfl⟩
  have K1 : Kp [] w ((w.alloc o1).alloc o2) := ((Kp.refl [] w).alloc o1).alloc o2
  have G1 : ((w.alloc o1).alloc o2).heap[w.heap.size]? = some o1 := heap_alloc2_old w o1 o2
  have G2 : ((w.alloc o1).alloc o2).heap[w.heap.size + 1]? = some o2 := heap_alloc2_new w o1 o2
  obtain ⟨c1, h1⟩ : ∃ c, c = decide (ps = rs) := ⟨_, rfl⟩
  obtain ⟨c2, h2⟩ : ∃ c, c = decide (qs = ts) := ⟨_, rfl⟩
  have H1 := hide (sameLists_any _ _ lp lr ps rs hp hr c1 h1 _ (hP.kept K1) (hR.kept K1))
  have H2 := hide (fun w' (k' : Kp [] ((w.alloc o1).alloc o2) w') => sameLists_any _ _ lq ls qs ts hq hs c2 h2 w' (hQ.kept (K1.trans k')) (hS.kept (K1.trans k')))
  have hcc : c = (decide (i = j) && (c1 && c2)) := by rw [hc, h1, h2, Bool.decide_and, Bool.decide_and]
  rw [ho1] at G1 H1 H2 K1
  rw [ho2] at G2 H1 H2 K1 G1
  rw [ho1] at G2
  have HG1 := hide G1
  have HG2 := hide G2
  have HK1 := hide K1
  clear hc h1 h2 hP hQ hR hS hp hq hr hs ho1 ho2 G1 G2 K1
  by_cases hij : i = j
  · subst hij
    simp only [decide_true, Bool.true_and] at hcc
    cases c1
    · obtain rfl : c = false := hcc
      clear H2 HG1 HG2
      go_enter Tryd.func25, Tryd.ntmps25
      go_wp2_with fail
      refine (unhide H1).mono ?_
      rintro ee w2 ⟨rfl, K2⟩
      have HK2 := hide ((unhide HK1).trans K2)
      clear H1 K2
      go_wp2_with fail
      go_ret
      exact ⟨rfl, unhide HK2⟩
    · simp only [Bool.true_and] at hcc
      subst hcc
      go_enter Tryd.func25, Tryd.ntmps25
      go_wp2_with fail
      refine (unhide H1).mono ?_
      rintro ee w2 ⟨rfl, K2⟩
      have HK2 := hide ((unhide HK1).trans K2)
      have HC2 := hide (unhide H2 w2 K2)
      have e1 : w2.cell? ⟨w.heap.size, 2, none⟩ = some (.slice aq nq cq) := by rw [cell_of_row w2 w.heap.size 2 _ _ _ (K2.heap (unhide HG1) (by simp))]; rfl
      have e2 : w2.cell? ⟨w.heap.size + 1, 2, none⟩ = some (.slice as' ns cs) := by rw [cell_of_row w2 (w.heap.size + 1) 2 _ _ _ (K2.heap (unhide HG2) (by simp))]; rfl
      clear H1 H2 K2 HG1 HG2 HK1
      go_wp2_with fail
      refine (unhide HC2).mono ?_
      rintro ee w3 ⟨rfl, K3⟩
      have HK3 := hide ((unhide HK2).trans K3)
      clear HC2 K3 HK2
      go_wp2_with fail
      go_ret
      exact ⟨rfl, unhide HK3⟩
  · have hij2 : (i == j) = false := beq_eq_false_iff_ne.2 hij
    simp only [hij, decide_false, Bool.false_and] at hcc
    subst hcc
    clear H1 H2 HG1 HG2
    go_enter Tryd.func25, Tryd.ntmps25
    go_wp2_with fail
    go_ret
    exact ⟨rfl, unhide HK1⟩
end Go.Proofs.YtdioaohejoflcaaDoor

/-
  The contracts of the reference's Secret, Shown, Public and Sign.
-/
namespace Go.Proofs.YtdioaohejoflcaaDoor
open Go.RowKit

theorem lists3 {w : World} {v u t : Value} {bs cs ds : List Int} (h : Sl w v bs) (hB : Bs bs) (k : Sl w u cs) (hC : Bs cs) (j : Sl w t ds) (hD : Bs ds) : Lists (w.alloc (.cells #[v, u, t] 24)) (.slice (some ⟨w.heap.size, 0, none⟩) 3 3) [(v, bs), (u, cs), (t, ds)] :=
  lists_of_block (l := [(v, bs), (u, cs), (t, ds)]) (t := 24) (fr := (0, 0)) (heap_alloc_new w _) (by simp) (fun x hx => by
    rcases (by simpa using hx : x = (v, bs) ∨ x = (u, cs) ∨ x = (t, ds)) with rfl | rfl | rfl
    · exact ⟨h.kept ((Kp.refl [] w).alloc _) (by simp), hB⟩
    · exact ⟨k.kept ((Kp.refl [] w).alloc _) (by simp), hC⟩
    · exact ⟨j.kept ((Kp.refl [] w).alloc _) (by simp), hD⟩)
theorem cat3 (v u t : Value) (bs cs ds : List Int) : cat [(v, bs), (u, cs), (t, ds)] = bs ++ (cs ++ ds) := by simp [cat]
theorem row_nil (w : World) (base : Nat) : Row w base (.slice none 0 0) [] := ⟨rfl, .inl ⟨rfl, rfl⟩⟩

set_option maxHeartbeats 400000 in
theorem refnum_any (n : Int) (w : World) :
    Calls Tryd.prog 70 #[.slice none 0 0, .int .u32 n] w fun e w' => ∃ ao m c, e = .returned (.slice ao m c) ∧ Row w' w.heap.size (.slice ao m c) (be4 n) ∧ Kp [] w w' := by
  obtain ⟨cs, hcs⟩ : ∃ cs, cs = be4 n := ⟨_, rfl⟩
  have hl : cs.length = 4 := by rw [hcs]; rfl
  have hsl : Sl (w.alloc (.cells #[.int .u8 (n / 16777216 % 256), .int .u8 (n / 65536 % 256), .int .u8 (n / 256 % 256), .int .u8 (n % 256)] 5)) (.slice (some ⟨w.heap.size, 0, none⟩) 4 4) cs := by
    rw [hcs]; exact Sl.block (cs := be4 n) (t := 5) (heap_alloc_new w _) (by simp [be4, maxLen])
  rw [← hcs]
  clear hcs
  go_enter Tryd.func70, Tryd.ntmps70
  go_wp2_with (at_builtin; refine wpList_append_row rfl _ _ rfl w.heap.size (.slice none 0 0) [] rfl (row_nil _ _) _ cs rfl hsl (by simp; omega) (by simp) ?_; intro ao m c w1 r1 s1)
  go_ret
  exact ⟨ao, m, c, rfl, r1, ((Kp.refl [] w).alloc _).then s1.1 (by simp [Value.ownBlock])⟩

set_option maxRecDepth 100000 in
set_option maxHeartbeats 1000000 in
theorem refsecret_any (vb : Value) (bs : List Int) (key bit side : Int) (r : List Int) (hr : r = secP bs key bit side) (w : World) (hS : Sl w vb bs) (hB : Bs bs) (hl : bs.length ≤ 1000) :
    Calls Tryd.prog 63 #[vb, .int .i64 key, .int .i64 bit, .int .i64 side] w fun e w' => ∃ ao m c, e = .returned (.slice ao m c) ∧ Row w' w.heap.size (.slice ao m c) r ∧ Kp [] w w' := by
  have HB := hide hB
  have HS := hide hS
  have hbe : be4 (key % 4294967296) = be4 key := by
    unfold be4
    congr 1
    · omega
    · congr 1
      · omega
      · congr 1
        · omega
        · congr 1; omega
  have HBE := hide hbe
  have HR := hide hr
  obtain ⟨ab, cb, hvb, _⟩ := hS
  obtain ⟨nb, hnb⟩ : ∃ n, n = bs.length := ⟨_, rfl⟩
  rw [← hnb] at hvb
  subst hvb
  clear hr hnb hB hbe
  go_enter Tryd.func63, Tryd.ntmps63
  go_wp2_with fail
  refine (refnum_any _ _).mono ?_
  rintro ee w1 ⟨a1, m1, c1, rfl, R1, K1⟩
  rw [unhide HBE] at R1
  have HR1 := hide R1
  have HK1 := hide K1
  clear HBE R1 K1
  go_wp2_with fail
  obtain ⟨ob, hob⟩ : ∃ o : Obj, o = (.cells #[.int .u8 (bit % 256), .int .u8 (side % 256)] 5) := ⟨_, rfl⟩
  have hP : Sl (w1.alloc ob) (.slice (some ⟨w1.heap.size, 0, none⟩) 2 2) [bit % 256, side % 256] := by
    rw [hob]; exact Sl.block (cs := [bit % 256, side % 256]) (t := 5) (fr := (0, 0)) (heap_alloc_new w1 _) (by simp [maxLen])
  have hPB : Bs [bit % 256, side % 256] := by
    intro b hb
    simp only [List.mem_cons, List.not_mem_nil, or_false] at hb
    rcases hb with rfl | rfl <;> omega
  have Ka := (Kp.refl [] w1).alloc ob
  have HL := lists3 (((unhide HS).kept (unhide HK1) (by simp)).kept Ka (by simp)) (unhide HB) ((unhide HR1).sl.kept Ka (by simp)) (be4_bs key) hP hPB
  rw [show (w1.alloc ob).heap.size = w1.heap.size + 1 by simp] at HL
  have HK := hide ((unhide HK1).trans (Ka.alloc (.cells #[.slice ab nb cb, .slice a1 m1 c1, .slice (some ⟨w1.heap.size, 0, none⟩) 2 2] 24)))
  rw [← hob]
  refine (reftagged_any 10 _ _ r (by rw [unhide HR, cat3]; rfl) _ HL (by omega) (by omega) (by simp) ?_).mono ?_
  · intro x hx
    rcases (by simpa using hx : x = (Value.slice ab nb cb, bs) ∨ x = (Value.slice a1 m1 c1, be4 key) ∨ x = (Value.slice (some ⟨w1.heap.size, 0, none⟩) 2 2, [bit % 256, side % 256])) with rfl | rfl | rfl
    · simp; omega
    · simp [be4]
    · simp
  rintro ee w2 ⟨ao2, m2, c2, rfl, R2, K2⟩
  have HR2 := hide (row_new R2 (unhide HK))
  have HK2 := hide ((unhide HK).trans K2)
  clear HL HK HR hob R2 K2 Ka hP hPB
  go_wp2_with fail
  go_ret
  exact ⟨ao2, m2, c2, rfl, unhide HR2, unhide HK2⟩

set_option maxRecDepth 100000 in
set_option maxHeartbeats 1000000 in
theorem refshown_any (vb : Value) (bs : List Int) (key bit side : Int) (r : List Int) (hr : r = shnP bs key bit side) (w : World) (hS : Sl w vb bs) (hB : Bs bs) (hl : bs.length ≤ 1000) :
    Calls Tryd.prog 54 #[vb, .int .i64 key, .int .i64 bit, .int .i64 side] w fun e w' => ∃ ao m c, e = .returned (.slice ao m c) ∧ Row w' w.heap.size (.slice ao m c) r ∧ Kp [] w w' := by
  obtain ⟨q, hq⟩ : ∃ q, q = secP bs key bit side := ⟨_, rfl⟩
  have HC := hide (refsecret_any vb bs key bit side q hq w hS hB hl)
  have HQL : Hid (q.length = 32) := by rw [hq]; exact secP_len _ _ _ _
  have HQB : Hid (Bs q) := by rw [hq]; exact sha_bs _
  have HR : Hid (r = sha (11 :: q)) := by rw [hr, hq]; rfl
  obtain ⟨ab, cb, hvb, _⟩ := hS
  obtain ⟨nb, hnb⟩ : ∃ n, n = bs.length := ⟨_, rfl⟩
  rw [← hnb] at hvb
  subst hvb
  clear hr hnb hB hq
  go_enter Tryd.func54, Tryd.ntmps54
  go_wp2_with fail
  refine (unhide HC).mono ?_
  rintro ee w1 ⟨a1, m1, c1, rfl, R1, K1⟩
  have HL := hide (lists1 R1.sl (unhide HQB))
  have HK := hide (K1.trans ((Kp.refl [] w1).alloc (.cells #[.slice a1 m1 c1] 24)))
  clear HC R1 K1
  go_wp2_with fail
  refine (reftagged_any 11 _ _ r (by rw [unhide HR, cat1]) _ (unhide HL) (by omega) (by omega) (by simp) (by have := unhide HQL; simp; omega)).mono ?_
  rintro ee w2 ⟨ao2, m2, c2, rfl, R2, K2⟩
  have HR2 := hide (row_new R2 (unhide HK))
  have HK2 := hide ((unhide HK).trans K2)
  clear HL HK HR R2 K2
  go_wp2_with fail
  go_ret
  exact ⟨ao2, m2, c2, rfl, unhide HR2, unhide HK2⟩
end Go.Proofs.YtdioaohejoflcaaDoor

/-
  The contract of the reference's Public.
-/
namespace Go.Proofs.YtdioaohejoflcaaDoor
open Go.RowKit

theorem flat_two (bs : List Int) (key : Int) (k : Nat) : (ptsP bs key noneC (2 * (k + 1))).flatten = (ptsP bs key noneC (2 * k)).flatten ++ shnP bs key (k : Nat) 0 ++ shnP bs key (k : Nat) 1 := by
  rw [show 2 * (k + 1) = 2 * k + 1 + 1 by omega, ptsP_succ, ptsP_succ, List.flatten_append, List.flatten_append]
  have e0 := ptP_at bs key noneC k 0 (by omega)
  have e1 := ptP_at bs key noneC k 1 (by omega)
  rw [Nat.add_zero] at e0
  rw [e0, e1]
  simp [noneC]
theorem flat_len (bs : List Int) (key : Int) (c : Nat → Nat → Bool) (n : Nat) : (ptsP bs key c n).flatten.length = 32 * n := by
  induction n with
  | zero => rfl
  | succ n ih => rw [ptsP_succ, List.flatten_append, List.length_append, ih]; simp [ptP_len]; omega

set_option maxRecDepth 100000 in
set_option maxHeartbeats 1000000 in
theorem refpublic_any (vb : Value) (bs : List Int) (key : Int) (r : List Int) (hr : r = pubP bs key) (w : World) (hS : Sl w vb bs) (hB : Bs bs) (hl : bs.length ≤ 1000) :
    Calls Tryd.prog 28 #[vb, .int .i64 key] w fun e w' => ∃ ao m c, e = .returned (.slice ao m c) ∧ Row w' w.heap.size (.slice ao m c) r ∧ Kp [] w w' := by
  have HR := hide hr
  have HS := hide hS
  have HB := hide hB
  obtain ⟨ab, cb, hvb, _⟩ := hS
  obtain ⟨nb, hnb⟩ : ∃ n, n = bs.length := ⟨_, rfl⟩
  rw [← hnb] at hvb
  subst hvb
  clear hr hnb hB
  go_enter Tryd.func28, Tryd.ntmps28
  go_wp2_with fail
  go_loopw [5, 6] (fun v i wr => ∃ (k m c : Nat) (ao : Option Addr), k ≤ 32 ∧ v = .slice ao m c ∧ i = .int .i64 k ∧ Row wr w.heap.size v (ptsP bs key noneC (2 * k)).flatten ∧ Kp [] w wr) (fun _ i _ => 32 - (intOf i).toNat)
  case atStart => exact ⟨0, 0, 0, none, by omega, rfl, rfl, row_nil _ _, Kp.refl _ _⟩
  case round =>
    obtain ⟨k, m, c, ao, hk, rfl, rfl, Rr, Kr⟩ := hrel
    have HRr := hide Rr
    have HKr := hide Kr
    clear Rr Kr
    by_cases hlt : k < 32
    · have hlt2 : (k : Int) < 32 := by omega
      obtain ⟨fl, hfl⟩ : ∃ fl, fl = (ptsP bs key noneC (2 * k)).flatten := ⟨_, rfl⟩
      obtain ⟨r0, hr0⟩ : ∃ r, r = shnP bs key (k : Nat) 0 := ⟨_, rfl⟩
      obtain ⟨r1, hr1⟩ : ∃ r, r = shnP bs key (k : Nat) 1 := ⟨_, rfl⟩
      have HE : Hid ((ptsP bs key noneC (2 * (k + 1))).flatten = fl ++ r0 ++ r1) := by rw [hfl, hr0, hr1]; exact flat_two bs key k
      have hfll : fl.length ≤ 2048 := by rw [hfl, flat_len]; omega
      have hr0l : r0.length = 32 := by rw [hr0]; exact shnP_len _ _ _ _
      have hr1l : r1.length = 32 := by rw [hr1]; exact shnP_len _ _ _ _
      rw [← hfl] at HRr
      have HR0 := hide hr0
      have HR1 := hide hr1
      clear hfl hr0 hr1
      go_wp2_with fail
      refine (refshown_any _ bs key (k : Nat) 0 r0 (unhide HR0) wr ((unhide HS).kept (unhide HKr) (by simp)) (unhide HB) hl).mono ?_
      rintro ee w2 ⟨a2, m2, c2, rfl, R2, K2⟩
      have HR2 := hide R2
      have HK2 := hide K2
      clear R2 K2
      go_wp2_with (at_builtin; refine wpList_append_row rfl (.tmp 11) (.tmp 15) rfl w.heap.size _ fl rfl ((unhide HRr).kept (unhide HK2) (by simp)) _ r0 rfl (unhide HR2).sl (by omega) (by have := (unhide HKr).size; have := (unhide HK2).size; omega) ?_; intro ao3 m3 c3 w3 R3 s3)
      have HK3 := hide ((unhide HRr).step (unhide HKr) (s3.after (unhide HK2)))
      have HR3 := hide R3
      clear R3 s3 HR2 HK2 HRr HKr
      refine (refshown_any _ bs key (k : Nat) 1 r1 (unhide HR1) w3 ((unhide HS).kept (unhide HK3) (by simp)) (unhide HB) hl).mono ?_
      rintro ee w4 ⟨a4, m4, c4, rfl, R4, K4⟩
      have HR4 := hide R4
      have HK4 := hide K4
      clear R4 K4
      go_wp2_with (at_builtin; refine wpList_append_row rfl (.tmp 16) (.tmp 20) rfl w.heap.size _ (fl ++ r0) rfl ((unhide HR3).kept (unhide HK4) (by simp)) _ r1 rfl (unhide HR4).sl (by rw [List.length_append]; omega) (by have := (unhide HK3).size; have := (unhide HK4).size; omega) ?_; intro ao5 m5 c5 w5 R5 s5)
      go_roundw
      case rel => exact ⟨k + 1, m5, c5, ao5, by omega, rfl, by go_num, by rw [unhide HE]; exact R5, (unhide HR3).step (unhide HK3) (s5.after (unhide HK4))⟩
      case measure => simp [intOf]; omega
    · obtain rfl : k = 32 := by omega
      obtain ⟨fl, hfl⟩ : ∃ fl, fl = (ptsP bs key noneC 64).flatten := ⟨_, rfl⟩
      have hfll : fl.length ≤ 2048 := by rw [hfl, flat_len]; omega
      have hFB : Hid (Bs fl) := by
        rw [hfl]
        intro b hb
        obtain ⟨x, hx, hb⟩ := List.mem_flatten.1 hb
        unfold ptsP at hx
        obtain ⟨i, _, rfl⟩ := List.mem_map.1 hx
        exact ptP_bs _ _ _ _ b hb
      have hrr : Hid (Row wr w.heap.size (.slice ao m c) fl) := by rw [hfl]; exact unhide HRr
      have HR2 : Hid (r = sha (12 :: fl)) := by rw [unhide HR, hfl]; rfl
      have HL := hide (lists1 (unhide hrr).sl (unhide hFB))
      have HK := hide ((unhide HKr).trans ((Kp.refl [] wr).alloc (.cells #[.slice ao m c] 24)))
      clear hfl HRr HKr HR hrr
      go_wp2_with fail
      refine (reftagged_any 12 _ _ r (by rw [unhide HR2, cat1]) _ (unhide HL) (by omega) (by omega) (by simp) (by simp; omega)).mono ?_
      rintro ee w2 ⟨ao2, m2, c2, rfl, R2, K2⟩
      have HR3 := hide (row_new R2 (unhide HK))
      have HK2 := hide ((unhide HK).trans K2)
      clear HL HK HR2 R2 K2
      go_wp2_with fail
      go_ret
      exact ⟨ao2, m2, c2, rfl, unhide HR3, unhide HK2⟩
end Go.Proofs.YtdioaohejoflcaaDoor

/-
  The contract of the reference's Sign.
-/
namespace Go.Proofs.YtdioaohejoflcaaDoor
open Go.RowKit

theorem acc_nil (w : World) : Acc w [] (.slice none 0 0) w := ⟨[], ⟨⟨rfl, .inl ⟨rfl, rfl⟩⟩, fun x hx => by cases hx⟩, rfl, Kp.refl _ _⟩

set_option maxRecDepth 100000 in
set_option maxHeartbeats 2000000 in
theorem refsign_any (vb : Value) (bs : List Int) (key : Int) (vm : Value) (ms : List Int) (d : Int) (hd : d = digP ms) (w : World) (hS : Sl w vb bs) (hB : Bs bs) (hl : bs.length ≤ 1000) (hM : Sl w vm ms) (hMB : Bs ms) (hml : ms.length ≤ 1000) :
    Calls Tryd.prog 36 #[vb, .int .i64 key, vm] w fun e w' => ∃ ao m c, e = .returned (.slice ao m c) ∧ Acc w (sgnP bs key d) (.slice ao m c) w' := by
  have h0 : 0 ≤ d := by rw [hd]; exact (digP_bd ms).1
  have HD := hide (refdigest_any vm ms d hd w hM hMB (by omega))
  have HS := hide hS
  have HB := hide hB
  obtain ⟨ab, cb, hvb, _⟩ := hS
  obtain ⟨nb, hnb⟩ : ∃ n, n = bs.length := ⟨_, rfl⟩
  rw [← hnb] at hvb
  subst hvb
  obtain ⟨am, cm, hvm, _⟩ := hM
  obtain ⟨nm, hnm⟩ : ∃ n, n = ms.length := ⟨_, rfl⟩
  rw [← hnm] at hvm
  subst hvm
  clear hB hnb hnm hMB hd
  go_enter Tryd.func36, Tryd.ntmps36
  go_wp2_with fail
  refine (unhide HD).mono ?_
  rintro ee w2 ⟨rfl, K2⟩
  have A2 : Hid (Acc w [] (.slice none 0 0) w2) := (acc_nil w).mid K2
  clear HD K2
  go_wp2_with fail
  go_loopw [8, 9] (fun v i wr => ∃ (k m cc : Nat) (ao : Option Addr), k ≤ 32 ∧ v = .slice ao m cc ∧ i = .int .i64 k ∧ Acc w (ptsP bs key (digC d) (2 * k)) v wr) (fun _ i _ => 32 - (intOf i).toNat)
  case atStart => exact ⟨0, 0, 0, none, by omega, rfl, rfl, unhide A2⟩
  case round =>
    obtain ⟨k, m, cc, ao, hk, rfl, rfl, Ar⟩ := hrel
    clear A2
    have HA := hide Ar
    clear Ar
    by_cases hlt : k < 32
    · have hlt2 : (k : Int) < 32 := by omega
      have hj1 : (k : Int) ≤ 31 := by omega
      have hj2 : (31 - (k : Int)).toNat = 31 - k := by omega
      have hd0 : 0 ≤ d / 2 ^ (31 - k) := Int.ediv_nonneg h0 (Int.le_of_lt (Int.pow_pos (by omega)))
      have ha := and_one _ hd0
      rw [← sd_val] at ha
      obtain ⟨t, ht⟩ : ∃ t, t = sdP d k := ⟨_, rfl⟩
      rw [← ht] at ha
      have hC0 : Hid (digC d k 0 = (t == 0)) := by rw [ht]; rfl
      have hC1 : Hid (digC d k 1 = (t == 1)) := by rw [ht]; rfl
      have htl : t < 2 := by rw [ht]; exact sdP_lt d k
      clear ht hd0
      obtain ⟨wo, hwo⟩ : ∃ wo, wo = wr := ⟨_, rfl⟩
      subst hwo
      go_wp2_with fail
      go_loopw [8, 10] (fun v i wi => ∃ (s m cc : Nat) (ao : Option Addr), s ≤ 2 ∧ v = .slice ao m cc ∧ i = .int .i64 s ∧ Acc w (ptsP bs key (digC d) (2 * k + s)) v wi) (fun _ i _ => 2 - (intOf i).toNat)
      case atStart => exact ⟨0, m, cc, ao, by omega, rfl, rfl, unhide HA⟩
      case round =>
        clear HA
        obtain ⟨s, m2, cc2, ao2, hs, rfl, rfl, Ai⟩ := hrel
        have HI := hide Ai
        clear Ai
        obtain ⟨wi, hwi⟩ : ∃ wi, wi = wr := ⟨_, rfl⟩
        subst hwi
        rcases (by omega : s = 0 ∨ s = 1 ∨ s = 2) with rfl | rfl | rfl
        · rcases (by omega : t = 0 ∨ t = 1) with rfl | rfl
          · have hr0 := ptP_at bs key (digC d) k 0 (by omega)
            rw [show digC d k 0 = true from unhide hC0] at hr0
            obtain ⟨r, hr⟩ : ∃ r, r = ptP bs key (digC d) (2 * k + 0) := ⟨_, rfl⟩
            have HRB : Hid (Bs r) := by rw [hr]; exact ptP_bs _ _ _ _
            have HE : Hid (ptsP bs key (digC d) (2 * k + 0 + 1) = ptsP bs key (digC d) (2 * k + 0) ++ [r]) := by rw [hr]; exact ptsP_succ _ _ _ _
            have HLN : Hid ((ptsP bs key (digC d) (2 * k + 0)).length ≤ 1000000) := by rw [ptsP_len]; show 2 * k + 0 ≤ 1000000; omega
            rw [← hr] at hr0
            have HC := hide (refsecret_any (.slice ab nb cb) bs key k 0 r hr0 wi ((unhide HS).kept (unhide HI).kp (by simp)) (unhide HB) hl)
            clear hr hr0
            go_wp2_with fail
            refine (unhide HC).mono ?_
            rintro ee w4 ⟨a4, m4, c4, rfl, R4, K4⟩
            have HR4 := hide R4
            have HK4 := hide K4
            clear R4 K4 HC
            go_wp2_with (at_builtin; refine wpList_acc rfl (.tmp 30) (.tmp 36) rfl _ _ rfl (unhide HI) (unhide HLN) _ r (unhide HK4) (unhide HR4) (unhide HRB) rfl ?_; intro ao5 m5 c5 w5 A5)
            go_roundw
            case rel => exact ⟨0 + 1, m5, c5, ao5, by omega, rfl, by go_num, by have e := unhide HE; rw [← e] at A5; exact A5⟩
            case measure => simp [intOf]
          · have hr0 := ptP_at bs key (digC d) k 0 (by omega)
            rw [show digC d k 0 = false from unhide hC0] at hr0
            obtain ⟨r, hr⟩ : ∃ r, r = ptP bs key (digC d) (2 * k + 0) := ⟨_, rfl⟩
            have HRB : Hid (Bs r) := by rw [hr]; exact ptP_bs _ _ _ _
            have HE : Hid (ptsP bs key (digC d) (2 * k + 0 + 1) = ptsP bs key (digC d) (2 * k + 0) ++ [r]) := by rw [hr]; exact ptsP_succ _ _ _ _
            have HLN : Hid ((ptsP bs key (digC d) (2 * k + 0)).length ≤ 1000000) := by rw [ptsP_len]; show 2 * k + 0 ≤ 1000000; omega
            rw [← hr] at hr0
            have HC := hide (refshown_any (.slice ab nb cb) bs key k 0 r hr0 wi ((unhide HS).kept (unhide HI).kp (by simp)) (unhide HB) hl)
            clear hr hr0
            go_wp2_with fail
            refine (unhide HC).mono ?_
            rintro ee w4 ⟨a4, m4, c4, rfl, R4, K4⟩
            have HR4 := hide R4
            have HK4 := hide K4
            clear R4 K4 HC
            go_wp2_with (at_builtin; refine wpList_acc rfl (.tmp 38) (.tmp 44) rfl _ _ rfl (unhide HI) (unhide HLN) _ r (unhide HK4) (unhide HR4) (unhide HRB) rfl ?_; intro ao5 m5 c5 w5 A5)
            go_roundw
            case rel => exact ⟨0 + 1, m5, c5, ao5, by omega, rfl, by go_num, by have e := unhide HE; rw [← e] at A5; exact A5⟩
            case measure => simp [intOf]
        · rcases (by omega : t = 0 ∨ t = 1) with rfl | rfl
          · have hr0 := ptP_at bs key (digC d) k 1 (by omega)
            rw [show digC d k 1 = false from unhide hC1] at hr0
            obtain ⟨r, hr⟩ : ∃ r, r = ptP bs key (digC d) (2 * k + 1) := ⟨_, rfl⟩
            have HRB : Hid (Bs r) := by rw [hr]; exact ptP_bs _ _ _ _
            have HE : Hid (ptsP bs key (digC d) (2 * k + 1 + 1) = ptsP bs key (digC d) (2 * k + 1) ++ [r]) := by rw [hr]; exact ptsP_succ _ _ _ _
            have HLN : Hid ((ptsP bs key (digC d) (2 * k + 1)).length ≤ 1000000) := by rw [ptsP_len]; show 2 * k + 1 ≤ 1000000; omega
            rw [← hr] at hr0
            have HC := hide (refshown_any (.slice ab nb cb) bs key k 1 r hr0 wi ((unhide HS).kept (unhide HI).kp (by simp)) (unhide HB) hl)
            clear hr hr0
            go_wp2_with fail
            refine (unhide HC).mono ?_
            rintro ee w4 ⟨a4, m4, c4, rfl, R4, K4⟩
            have HR4 := hide R4
            have HK4 := hide K4
            clear R4 K4 HC
            go_wp2_with (at_builtin; refine wpList_acc rfl (.tmp 38) (.tmp 44) rfl _ _ rfl (unhide HI) (unhide HLN) _ r (unhide HK4) (unhide HR4) (unhide HRB) rfl ?_; intro ao5 m5 c5 w5 A5)
            go_roundw
            case rel => exact ⟨1 + 1, m5, c5, ao5, by omega, rfl, by go_num, by have e := unhide HE; rw [← e] at A5; exact A5⟩
            case measure => simp [intOf]
          · have hr0 := ptP_at bs key (digC d) k 1 (by omega)
            rw [show digC d k 1 = true from unhide hC1] at hr0
            obtain ⟨r, hr⟩ : ∃ r, r = ptP bs key (digC d) (2 * k + 1) := ⟨_, rfl⟩
            have HRB : Hid (Bs r) := by rw [hr]; exact ptP_bs _ _ _ _
            have HE : Hid (ptsP bs key (digC d) (2 * k + 1 + 1) = ptsP bs key (digC d) (2 * k + 1) ++ [r]) := by rw [hr]; exact ptsP_succ _ _ _ _
            have HLN : Hid ((ptsP bs key (digC d) (2 * k + 1)).length ≤ 1000000) := by rw [ptsP_len]; show 2 * k + 1 ≤ 1000000; omega
            rw [← hr] at hr0
            have HC := hide (refsecret_any (.slice ab nb cb) bs key k 1 r hr0 wi ((unhide HS).kept (unhide HI).kp (by simp)) (unhide HB) hl)
            clear hr hr0
            go_wp2_with fail
            refine (unhide HC).mono ?_
            rintro ee w4 ⟨a4, m4, c4, rfl, R4, K4⟩
            have HR4 := hide R4
            have HK4 := hide K4
            clear R4 K4 HC
            go_wp2_with (at_builtin; refine wpList_acc rfl (.tmp 30) (.tmp 36) rfl _ _ rfl (unhide HI) (unhide HLN) _ r (unhide HK4) (unhide HR4) (unhide HRB) rfl ?_; intro ao5 m5 c5 w5 A5)
            go_roundw
            case rel => exact ⟨1 + 1, m5, c5, ao5, by omega, rfl, by go_num, by have e := unhide HE; rw [← e] at A5; exact A5⟩
            case measure => simp [intOf]
        · go_wp2_with fail
          go_roundw
          case rel => exact ⟨k + 1, m2, cc2, ao2, by omega, rfl, by go_num, unhide HI⟩
          case measure => simp [intOf]; omega
    · obtain rfl : k = 32 := by omega
      go_wp2_with fail
      go_ret
      exact ⟨ao, m, cc, rfl, unhide HA⟩
end Go.Proofs.YtdioaohejoflcaaDoor

/-
  The contract of the reference's Root.
-/
namespace Go.Proofs.YtdioaohejoflcaaDoor
open Go.RowKit

theorem rts_take (d : Int) (ls : List (List Int)) (k : Nat) (h : k < ls.length) : ((rtsP d ls).take (k + 1)).flatten = ((rtsP d ls).take k).flatten ++ rtP d k ls[k] := by
  rw [List.take_succ_eq_append_getElem (by rw [rtsP_len]; exact h), List.flatten_append]
  simp [rtsP]
theorem rts_take_len (d : Int) (ls : List (List Int)) (k : Nat) (hl : ls.length = 64) (hg : ∀ i (h : i < ls.length), i < k → ls[i].length = 32) (hk : k ≤ 64) : ((rtsP d ls).take k).flatten.length ≤ 32 * k := by
  induction k with
  | zero => simp
  | succ k ih =>
    rw [rts_take d ls k (by omega), List.length_append]
    have h1 := ih (fun i h h' => hg i h (by omega)) (by omega)
    have h2 : (rtP d k (ls[k]'(by omega))).length = 32 := by
      unfold rtP
      split
      · exact sha_len _
      · exact hg k (by omega) (by omega)
    omega
theorem rtP_bs {d : Int} {i : Nat} {x : List Int} (h : Bs x) : Bs (rtP d i x) := by
  unfold rtP; split
  · exact sha_bs _
  · exact h

set_option maxRecDepth 100000 in
set_option maxHeartbeats 2000000 in
theorem refroot_any (vm : Value) (ms : List Int) (vl : Value) (l : List (Value × List Int)) (d : Int) (b : Bool) (r : List Int) (hd : d = digP ms) (hb : b = areP (l.map (·.2))) (hr : r = rootP d (l.map (·.2))) (w : World) (hM : Sl w vm ms) (hMB : Bs ms) (hml : ms.length ≤ 1000) (hL : Lists w vl l) :
    Calls Tryd.prog 53 #[vm, vl] w fun e w' => ∃ v, e = .returned (.tuple #[v, .bool b]) ∧ Rooted b r w.heap.size v w' ∧ Kp [] w w' := by
  have h0 : 0 ≤ d := by rw [hd]; exact (digP_bd ms).1
  have HD := hide (refdigest_any vm ms d hd w hM hMB (by omega))
  have hBl := hL.bs
  obtain ⟨al, cl, hvl, hll, hcell⟩ := hL
  subst hvl
  obtain ⟨am, cm, hvm, hj⟩ := hM
  clear hj
  obtain ⟨nm, hnm⟩ : ∃ n, n = ms.length := ⟨_, rfl⟩
  rw [← hnm] at hvm
  subst hvm
  clear hMB hd hnm
  obtain ⟨ls, hls⟩ : ∃ ls, ls = l.map (·.2) := ⟨_, rfl⟩
  rw [← hls] at hb hr
  have HR := hide hr
  have HBb := hide hb
  have HBl : Hid (∀ x ∈ ls, Bs x) := by rw [hls]; intro x hx; obtain ⟨y, hy, rfl⟩ := List.mem_map.1 hx; exact hBl y hy
  have HC : Hid (∀ i (h : i < ls.length), ∃ b off v, al = some ⟨b, off, none⟩ ∧ w.cell? ⟨b, off + i, none⟩ = some v ∧ Sl w v ls[i]) := by
    intro i hi
    have hil : i < l.length := by rw [hls] at hi; simpa using hi
    obtain ⟨b', o', e, h1, h2, _⟩ := hcell i hil
    refine ⟨b', o', l[i].1, e, h1, ?_⟩
    have : ls[i] = l[i].2 := by
      have h1 : ls[i]? = (l.map (·.2))[i]? := by rw [hls]
      rw [List.getElem?_eq_getElem hi, List.getElem?_map, List.getElem?_eq_getElem hil] at h1
      exact Option.some.inj h1
    rw [this]; exact h2
  have hlen : l.length = ls.length := by rw [hls]; simp
  rw [hlen] at hll ⊢
  clear hr hb hBl hcell hls hlen
  by_cases h64 : ls.length = 64
  · have H64 := hide h64
    rw [h64]
    clear h64 hll
    go_enter Tryd.func53, Tryd.ntmps53
    go_wp2_with fail
    refine (unhide HD).mono ?_
    rintro ee w2 ⟨rfl, K2⟩
    have HK2 := hide K2
    clear HD K2
    go_wp2_with fail
    go_loopw [7, 8] (fun v i wr => ∃ (k m c : Nat) (ao : Option Addr), k ≤ 64 ∧ v = .slice ao m c ∧ i = .int .i64 k ∧ Row wr w.heap.size v ((rtsP d ls).take k).flatten ∧ (∀ i (h : i < ls.length), i < k → ls[i].length = 32) ∧ Kp [] w wr) (fun _ i _ => 64 - (intOf i).toNat)
    case atStart => exact ⟨0, 0, 0, none, by omega, rfl, rfl, row_nil _ _, (fun i h h' => by omega), unhide HK2⟩
    case round =>
      obtain ⟨k, m, c, ao, hk, rfl, rfl, Rr, hgood, Kr⟩ := hrel
      have HRr := hide Rr
      have HGo := hide hgood
      have HKr := hide Kr
      clear Rr hgood Kr HK2
      by_cases hlt : k < 64
      · have hlt2 : (k : Int) < 64 := by omega
        have hkl : k < ls.length := by have := unhide H64; omega
        obtain ⟨b', o', v, rfl, hc, hS⟩ := unhide HC k hkl
        have hcw := (unhide HKr).cell hc (by simp)
        have hSw := hS.kept (unhide HKr) (by simp)
        have HE := hide (rts_take d ls k hkl)
        have hfl := rts_take_len d ls k (unhide H64) (unhide HGo) hk
        have hBx := unhide HBl ls[k] (List.getElem_mem hkl)
        obtain ⟨fl, hfle⟩ : ∃ fl, fl = ((rtsP d ls).take k).flatten := ⟨_, rfl⟩
        rw [← hfle] at HE hfl HRr
        obtain ⟨x, hx⟩ : ∃ x, x = ls[k] := ⟨_, rfl⟩
        have HX := hide hx
        rw [← hx] at HE hS hSw hBx
        have HSw := hide hSw
        obtain ⟨ax, cx, hxv, hj⟩ := hS
        clear hj
        subst hxv
        clear hc HC hfle hx hSw
        by_cases h32 : x.length = 32
        · rw [h32] at hcw HSw
          have HG2 : Hid (∀ i (h : i < ls.length), i < k + 1 → ls[i].length = 32) := by
            intro i hi hik
            rcases Nat.lt_or_ge i k with h | h
            · exact unhide HGo i hi h
            · obtain rfl : i = k := by omega
              rw [← unhide HX]; exact h32
          obtain ⟨j, hj⟩ : ∃ j, j = k / 2 := ⟨_, rfl⟩
          have hji : (k : Int) / 2 = (j : Int) := by omega
          have hjt : Int.tdiv (k : Int) 2 = (j : Int) := by rw [Int.tdiv_eq_ediv_of_nonneg (by omega)]; omega
          have hj31 : (j : Int) ≤ 31 := by omega
          have hj2 : (31 - (j : Int)).toNat = 31 - j := by omega
          have hd0 : 0 ≤ d / 2 ^ (31 - j) := Int.ediv_nonneg h0 (Int.le_of_lt (Int.pow_pos (by omega)))
          have ha := and_one _ hd0
          rw [← sd_val] at ha
          obtain ⟨t, ht⟩ : ∃ t, t = sdP d j := ⟨_, rfl⟩
          rw [← ht] at ha
          have ht1 : (t : Int) ≤ 1 := by have := sdP_lt d j; rw [← ht] at this; omega
          obtain ⟨s, hs⟩ : ∃ s, s = k % 2 := ⟨_, rfl⟩
          have hsi : (k : Int) % 2 = (s : Int) := by omega
          have hst : Int.tmod (k : Int) 2 = (s : Int) := by rw [Int.tmod_eq_emod_of_nonneg (by omega)]; omega
          have hrt : rtP d k x = if t = s then sha (11 :: x) else x := by
            unfold rtP digC
            rw [← hj, ← hs, ← ht]
            by_cases h : t = s <;> simp [h]
          rw [hrt] at HE
          clear hrt hj hs ht hd0
          by_cases hts : t = s
          · subst hts
            rw [if_pos rfl] at HE
            have HL := hide (lists1 (unhide HSw) hBx)
            have HK := hide ((Kp.refl [] wr).alloc (.cells #[.slice ax 32 cx] 24))
            obtain ⟨q, hq⟩ : ∃ q, q = sha (11 :: x) := ⟨_, rfl⟩
            have hql : q.length = 32 := by rw [hq]; exact sha_len _
            rw [← hq] at HE
            have HQ := hide hq
            clear hq
            go_wp2_with fail
            refine (reftagged_any 11 _ _ q (by rw [unhide HQ, cat1]) _ (unhide HL) (by omega) (by omega) (by simp) (by simp; omega)).mono ?_
            rintro ee w5 ⟨a5, m5, c5, rfl, R5, K5⟩
            have HS5 := hide R5.sl
            have HK5 := hide ((unhide HK).trans K5)
            clear R5 K5 HL HK
            go_wp2_with (at_builtin; refine wpList_append_row rfl (.tmp 45) (.tmp 46) rfl w.heap.size _ fl rfl ((unhide HRr).kept (unhide HK5) (by simp)) _ q rfl (unhide HS5) (by omega) (by have := (unhide HKr).size; have := (unhide HK5).size; omega) ?_; intro ao6 m6 c6 w6 R6 s6)
            go_roundw
            case rel => exact ⟨k + 1, m6, c6, ao6, by omega, rfl, by go_num, by rw [unhide HE]; exact R6, unhide HG2, (unhide HRr).step (unhide HKr) (s6.after (unhide HK5))⟩
            case measure => simp [intOf]; omega
          · rw [if_neg hts] at HE
            have htsi : ((t : Int) == (s : Int)) = false := beq_eq_false_iff_ne.2 (by omega)
            go_wp2_with (at_builtin; refine wpList_append_row rfl (.tmp 45) (.tmp 46) rfl w.heap.size _ fl rfl (unhide HRr) _ x rfl (unhide HSw) (by omega) (by have := (unhide HKr).size; omega) ?_; intro ao6 m6 c6 w6 R6 s6)
            go_roundw
            case rel => exact ⟨k + 1, m6, c6, ao6, by omega, rfl, by go_num, by rw [unhide HE]; exact R6, unhide HG2, (unhide HRr).step (unhide HKr) s6⟩
            case measure => simp [intOf]; omega
        · have hbad := areP_bad (ls := ls) k hkl (by rw [← unhide HX]; exact h32)
          have hbf : b = false := (unhide HBb).trans hbad
          have h32i : ¬ (x.length : Int) = 32 := by omega
          clear hbad
          go_wp2_with fail
          go_ret2
          exact ⟨_, by rw [hbf]; rfl, by rw [hbf]; rfl, unhide HKr⟩
      · obtain rfl : k = 64 := by omega
        have hgd := areP_good (ls := ls) (unhide H64) (fun i hi => unhide HGo i hi (by have := unhide H64; omega))
        have hbt : b = true := (unhide HBb).trans hgd
        have hfl := rts_take_len d ls 64 (unhide H64) (unhide HGo) (by omega)
        have htk : (rtsP d ls).take 64 = rtsP d ls := List.take_of_length_le (by rw [rtsP_len]; have := unhide H64; omega)
        rw [htk] at HRr hfl
        obtain ⟨fl, hfle⟩ : ∃ fl, fl = (rtsP d ls).flatten := ⟨_, rfl⟩
        have hFB : Bs fl := by
          rw [hfle]
          intro y hy
          obtain ⟨z, hz, hy⟩ := List.mem_flatten.1 hy
          obtain ⟨i, hi, rfl⟩ := List.getElem_of_mem hz
          have hi2 : i < ls.length := by rw [rtsP_len] at hi; exact hi
          have : (rtsP d ls)[i] = rtP d i ls[i] := by simp [rtsP]
          rw [this] at hy
          exact rtP_bs (unhide HBl _ (List.getElem_mem hi2)) y hy
        have HR2 : Hid (r = sha (12 :: fl)) := by rw [unhide HR, hfle]; rfl
        rw [← hfle] at HRr hfl
        have HL := hide (lists1 (unhide HRr).sl hFB)
        have HK := hide ((unhide HKr).trans ((Kp.refl [] wr).alloc (.cells #[.slice ao m c] 24)))
        clear hfle hFB htk hgd HC HRr HKr HR
        subst hbt
        go_wp2_with fail
        refine (reftagged_any 12 _ _ r (by rw [unhide HR2, cat1]) _ (unhide HL) (by omega) (by omega) (by simp) (by simp; omega)).mono ?_
        rintro ee w6 ⟨a6, m6, c6, rfl, R6, K6⟩
        have HR6 := hide (row_new R6 (unhide HK))
        have HK6 := hide ((unhide HK).trans K6)
        clear HL HK R6 K6
        go_wp2_with fail
        go_ret2
        exact ⟨_, rfl, ⟨a6, m6, c6, rfl, unhide HR6⟩, unhide HK6⟩
  · have hbad := areP_short (ls := ls) h64
    have hbf : b = false := (unhide HBb).trans hbad
    subst hbf
    have hni : ¬ (ls.length : Int) = 64 := by omega
    clear HC hbad
    go_enter Tryd.func53, Tryd.ntmps53
    go_wp2_with fail
    go_ret2
    exact ⟨_, rfl, rfl, Kp.refl _ _⟩
end Go.Proofs.YtdioaohejoflcaaDoor

/-
  The reference's owners: their contracts New, Public, Sign.
-/
namespace Go.Proofs.YtdioaohejoflcaaDoor
open Go.RowKit
open Go.Proofs

theorem Tryd.infoLs : (Tryd.prog.info? 31).map (fun i => (i.zero, i.size, i.bytes)) = some (some (.slice none 0 0), 1, 24) := by kernel_rfl
/-- a row of the call's own of slices of slices. -/
def RowL (w : World) (base : Nat) (v : Value) (xs : List Value) : Prop := w.ownsRow base 31 1 v xs.length xs
theorem RowL.shape {w : World} {base : Nat} {v : Value} {xs : List Value} (h : RowL w base v xs) : ∃ ao c, v = .slice ao xs.length c := owns_shape h
theorem RowL.own {w : World} {base : Nat} {v : Value} {xs : List Value} (h : RowL w base v xs) : ∀ k, v.ownBlock = some k → base ≤ k ∧ k < w.heap.size := by
  intro k hk
  rcases h.2 with ⟨rfl, _⟩ | ⟨g, cap, cur, rfl, hb, hg, _⟩
  · cases hk
  · cases hk; exact ⟨hb, (Array.getElem?_eq_some_iff.1 hg).1⟩
theorem RowL.kept {w w' : World} {base : Nat} {v : Value} {xs : List Value} {S : List Nat} (h : RowL w base v xs) (k : Kp S w w') (hv : ∀ i, v.ownBlock = some i → i ∉ S) : RowL w' base v xs := k.owns h hv
theorem RowL.at {w : World} {base : Nat} {v : Value} {xs : List Value} (h : RowL w base v xs) (h0 : 0 < xs.length) : ∃ g c, v = .slice (some ⟨g, 0, none⟩) xs.length c ∧ ∀ i (hi : i < xs.length), w.cell? ⟨g, i, none⟩ = some xs[i] := by
  rcases h.2 with ⟨h', h1⟩ | ⟨g, cap, cur, h', hb, hg, _⟩
  · omega
  · subst h'
    have h1 : w.ownsRow base 31 1 (.slice (some ⟨g, 0, none⟩) xs.length cap) xs.length xs := h
    exact ⟨g, cap, rfl, fun i hi => by rw [h1.cellAt i (by omega)]; simp [List.getElem?_eq_getElem hi]⟩
theorem wpList_append_rowl {w : World} {ops : Array Oper} {rest : List Oper} {o : Oper} {a : Act} {Q : Exit → Act → World → Prop} (hgd : o.guard = none) (s x : Operand)
    (ho : o.op = .call { callee := .builtin .append, args := #[s, x], argTypes := #[27, 27] }) (base : Nat) (v : Value) (xs : List Value) (hs : a.eval s = v) (hrow : RowL w base v xs)
    (ad : Addr) (c : Nat) (ys : List Value) (hx : a.eval x = .slice (some ad) ys.length c) (hy : ∀ j u, ys[j]? = some u → w.cell? (ad.add j) = some u) (h1 : ∀ u ∈ ys, u.oneCell' = true) (hb : xs.length + ys.length ≤ 1000000000) (hbase : base ≤ w.heap.size)
    (h : ∀ ao m c w', RowL w' base (.slice ao m c) (xs ++ ys) → RStep w v w' (.slice ao m c) → wpList Tryd.prog ops Q rest (a.put o.dst (.slice ao m c)) w') : wpList Tryd.prog ops Q (o :: rest) a w := by
  obtain ⟨i0, hi0, hz0, hz1, hz2⟩ := info_parts Tryd.infoLs
  obtain ⟨av, cv, rfl⟩ := hrow.shape
  refine wpList_append_own_at w hgd s x 27 ho base 31 i0 (.slice none 0 0) 1 24 Tryd.underlying27 hi0 hz0 hz1 hz2 rfl (by decide) _ xs.length xs hs hrow ad ys.length c ys hx (by simp) hy h1 (by unfold maxLen; omega) (by omega) hbase ?_
  intro v' w1 hown hgrow _ hat
  have R : RowL w1 base v' (xs ++ ys) := by unfold RowL; rw [List.length_append]; exact hown
  obtain ⟨ao', c', hv⟩ := R.shape
  subst hv
  refine h ao' _ c' w1 R ⟨(Kp.refl _ w).grown hgrow (fun k hk => .inl (by simp [hk])), fun k hk => ?_⟩
  rcases hat with e | e
  · exact .inl (e ▸ hk)
  · rw [e] at hk; cases hk; exact .inr (Nat.le_refl _)

theorem grown_build2 {o : Oper} {a : Act} {w : World} (x y : Operand) (ho : o.op = .buildSlice 31 2 #[(0, x), (1, y)]) (bs cs : List Int) (h : Sl w (a.eval x) bs) (hB : Bs bs) (k : Sl w (a.eval y) cs) (hC : Bs cs) : grown Tryd.prog w (LsM [bs, cs]) ((execOp a.eval o).run Tryd.prog w) := by
  have h2 := lists2 h hB k hC
  obtain ⟨ao, c, e, _⟩ := h
  obtain ⟨ao', c', e', _⟩ := k
  refine grown_run (v := .slice (some ⟨w.heap.size, 0, none⟩) 2 2) (w' := w.alloc (.cells #[a.eval x, a.eval y] 24)) ?_ ((Kp.refl _ _).alloc _) ⟨_, h2, rfl⟩
  obtain ⟨ρ, hρ, hc, hf, hg⟩ := eval_is a
  rw [hρ] at e e' ⊢
  unfold execOp
  simp only [ho]
  simp [go_sem, e, e']
/-- a level of nodes that lies apart from the block g and from pv. -/
def Lo (g : Nat) (pv : Value) (w : World) (x : Value) (ls : List (List Int)) : Prop :=
  ∃ ao n c l, x = .slice ao n c ∧ Lists w x l ∧ l.map (·.2) = ls ∧ ∀ q, (x.ownBlock = some q ∨ ∃ y ∈ l, y.1.ownBlock = some q) → q < w.heap.size ∧ q ≠ g ∧ pv.ownBlock ≠ some q
theorem Lo.kept {g : Nat} {pv x : Value} {w w' : World} {ls : List (List Int)} (h : Lo g pv w x ls) (k : Kp [] w w') : Lo g pv w' x ls := by
  obtain ⟨ao, n, c, l, e, h1, h2, h3⟩ := h
  exact ⟨ao, n, c, l, e, h1.kept k, h2, fun q hq => ⟨Nat.lt_of_lt_of_le (h3 q hq).1 k.size, (h3 q hq).2⟩⟩
theorem Lo.step {g : Nat} {pv pv' x : Value} {w w' : World} {ls : List (List Int)} (h : Lo g pv w x ls) (s : RStep w pv w' pv') : Lo g pv' w' x ls := by
  obtain ⟨ao, n, c, l, e, h1, h2, h3⟩ := h
  refine ⟨ao, n, c, l, e, h1.off s.1 (fun q hq hm => (h3 q (.inl hq)).2.2 (by simpa using hm)) (fun y hy q hq hm => (h3 q (.inr ⟨y, hy, hq⟩)).2.2 (by simpa using hm)), h2, fun q hq => ⟨Nat.lt_of_lt_of_le (h3 q hq).1 s.1.size, (h3 q hq).2.1, fun e' => ?_⟩⟩
  rcases s.2 q e' with h5 | h5
  · exact (h3 q hq).2.2 h5
  · have := (h3 q hq).1; omega
theorem Lo.store {g : Nat} {pv x : Value} {w w' : World} {ls : List (List Int)} (h : Lo g pv w x ls) (k : Kp [g] w w') : Lo g pv w' x ls := by
  obtain ⟨ao, n, c, l, e, h1, h2, h3⟩ := h
  exact ⟨ao, n, c, l, e, h1.off k (fun q hq hm => (h3 q (.inl hq)).2.1 (by simpa using hm)) (fun y hy q hq hm => (h3 q (.inr ⟨y, hy, hq⟩)).2.1 (by simpa using hm)), h2, fun q hq => ⟨Nat.lt_of_lt_of_le (h3 q hq).1 k.size, (h3 q hq).2⟩⟩
theorem Lo.of_acc {g : Nat} {pv : Value} {w1 w2 : World} {ao : Option Addr} {n c : Nat} {ls : List (List Int)} (h : Acc w1 ls (.slice ao n c) w2) (hl : ls.length ≤ 1000) (hg : g < w1.heap.size) (hp : ∀ q, pv.ownBlock = some q → q < w1.heap.size) : Lo g pv w2 (.slice ao n c) ls := by
  obtain ⟨l, h1, h2, h3⟩ := h
  refine ⟨ao, n, c, l, rfl, h1.lists (by rw [← List.length_map (f := (·.2)), h2]; exact hl), h2, fun q hq => ?_⟩
  have hq2 : w1.heap.size ≤ q ∧ q < w2.heap.size := by
    rcases hq with hq | ⟨y, hy, hq⟩
    · exact ⟨h1.1.own q hq, h1.1.lt hq⟩
    · exact ⟨(h1.2 y hy).1.own q hq, (h1.2 y hy).1.lt hq⟩
  exact ⟨hq2.2, by omega, fun e => by have := hp q e; omega⟩
theorem Lo.lists {g : Nat} {pv x : Value} {w : World} {ls : List (List Int)} (h : Lo g pv w x ls) : ∃ l, Lists w x l ∧ l.map (·.2) = ls := by
  obtain ⟨_, _, _, l, _, h1, h2, _⟩ := h
  exact ⟨l, h1, h2⟩

/-- an owner at block g, its first n levels. -/
def Ow (w : World) (base g : Nat) (bs : List Int) (n : Nat) : Prop :=
  ∃ sa sn sc lv xs, w.heap[g]? = some (.cells #[.slice sa sn sc, lv] 29 (0, 0)) ∧ (Sl w (.slice sa sn sc) bs ∧ ∀ q, (Value.slice sa sn sc).ownBlock = some q → q ≠ g ∧ lv.ownBlock ≠ some q) ∧ RowL w base lv xs ∧ g < base ∧ xs.length = n ∧ ∀ h (hh : h < xs.length), Lo g lv w xs[h] (lvP bs h)
theorem Ow.kept {w w' : World} {base g n : Nat} {bs : List Int} (h : Ow w base g bs n) (k : Kp [] w w') : Ow w' base g bs n := by
  obtain ⟨sa, sn, sc, lv, xs, h1, h2, h3, h4, h5, h6⟩ := h
  exact ⟨sa, sn, sc, lv, xs, k.heap h1 (by simp), ⟨h2.1.kept k (by simp), h2.2⟩, h3.kept k (by simp), h4, h5, fun h hh => (h6 h hh).kept k⟩
theorem ow_push {wr w5 : World} {base g n : Nat} {bs : List Int} {sa : Option Addr} {sn sc : Nat} {lv lv' x : Value} {xs : List Value} (h1 : wr.heap[g]? = some (.cells #[.slice sa sn sc, lv] 29 (0, 0))) (hne : bs ≠ []) (h2 : Sl wr (.slice sa sn sc) bs ∧ ∀ q, (Value.slice sa sn sc).ownBlock = some q → q ≠ g ∧ lv.ownBlock ≠ some q) (h3 : RowL wr base lv xs) (h4 : g < base) (h5 : xs.length = n) (h6 : ∀ h (hh : h < xs.length), Lo g lv wr xs[h] (lvP bs h))
    (hx : Lo g lv wr x (lvP bs n)) (r : RowL w5 base lv' (xs ++ [x])) (s : RStep wr lv w5 lv') : Ow (w5.setCell ⟨g, 1, none⟩ lv') base g bs (n + 1) := by
  have k := setCell_kp w5 g 1 lv'
  have hgl : ∀ q, lv'.ownBlock = some q → q ≠ g := fun q hq e => by have := (r.own q hq).1; omega
  have hg5 : w5.heap[g]? = some (.cells #[.slice sa sn sc, lv] 29 (0, 0)) := s.1.heap h1 (fun hm => by have := (h3.own g (by simpa using hm)).1; omega)
  have hs5 : Sl w5 (.slice sa sn sc) bs := h2.1.kept s.1 (fun q hq hm => (h2.2 q hq).2 (by simpa using hm))
  have hsq : ∀ q, (Value.slice sa sn sc).ownBlock = some q → q ≠ g ∧ lv'.ownBlock ≠ some q := fun q hq => ⟨(h2.2 q hq).1, fun e => by
    rcases s.2 q e with h | h
    · exact (h2.2 q hq).2 h
    · have := h2.1.lt hne q hq; omega⟩
  refine ⟨sa, sn, sc, lv', xs ++ [x], ?_, ⟨hs5.kept k (fun q hq => by simpa using (hsq q hq).1), hsq⟩, r.kept k (fun q hq => by simpa using hgl q hq), h4, by simp [h5], fun h hh => ?_⟩
  · have := heap_setCell_same w5 g 1 _ _ lv' hg5
    simpa using this
  · rw [List.length_append, List.length_cons, List.length_nil] at hh
    by_cases hlt : h < xs.length
    · rw [List.getElem_append_left hlt]
      exact ((h6 h hlt).step s).store k
    · obtain rfl : h = n := by omega
      rw [List.getElem_append_right (by omega)]
      simp only [h5, Nat.sub_self, List.getElem_cons_zero]
      exact (hx.step s).store k
/-- how many a slice has. -/
def lenOf : Value → Nat | .slice _ n _ => n | _ => 0

set_option maxRecDepth 100000 in
set_option maxHeartbeats 4000000 in
theorem new_own (vb : Value) (bs : List Int) (w : World) (hS : Sl w vb bs) (hB : Bs bs) (hl : bs.length = 32) :
    Calls Tryd.prog 9 #[vb] w fun e w' => ∃ g base, e = .returned (.pointer (some ⟨g, 0, none⟩)) ∧ Ow w' base g bs 5 ∧ Kp [] w w' := by
  have HS := hide hS
  have HB := hide hB
  have hne : bs ≠ [] := fun e => by rw [e] at hl; simp at hl
  have HLT := hide (hS.lt hne)
  obtain ⟨ab, cb, hvb, _⟩ := hS
  obtain ⟨nb, hnb⟩ : ∃ n, n = bs.length := ⟨_, rfl⟩
  rw [← hnb] at hvb
  subst hvb
  have HNE := hide hne
  have HL32 := hide hl
  clear hB hnb hl hne
  obtain ⟨ob, hob⟩ : ∃ o : Obj, o = (.cells #[.slice ab nb cb, .slice none 0 0] 29) := ⟨_, rfl⟩
  have K1 : Kp [] w (w.alloc ob) := (Kp.refl [] w).alloc ob
  have HG1 : Hid ((w.alloc ob).heap[w.heap.size]? = some ob) := heap_alloc_new w ob
  have HSZ : Hid ((w.alloc ob).heap.size = w.heap.size + 1) := by show _ = _; simp
  rw [hob] at K1 HG1 HSZ
  have HK1 := hide K1
  obtain ⟨w1, hw1⟩ : ∃ w1, w1 = w.alloc (.cells #[.slice ab nb cb, .slice none 0 0] 29) := ⟨_, rfl⟩
  have HW1 := hide hw1
  rw [← hw1] at HK1 HG1 HSZ
  clear K1 hob hw1
  go_enter Tryd.func9, Tryd.ntmps9
  go_wp2_with fail
  go_loopw [4, 5] (fun v i wr => ∃ (k m cc : Nat) (ao : Option Addr), k ≤ 16 ∧ v = .slice ao m cc ∧ i = .int .i64 k ∧ Acc w1 (lvsP bs k) v wr) (fun _ i _ => 16 - (intOf i).toNat)
  case atStart => exact ⟨0, 0, 0, none, by omega, rfl, rfl, by rw [unhide HW1]; exact acc_nil _⟩
  case round =>
    obtain ⟨k, m, cc, ao, hk, rfl, rfl, Ar⟩ := hrel
    have HA := hide Ar
    have HKr := hide ((unhide HK1).trans Ar.kp)
    clear Ar
    by_cases hlt : k < 16
    · have hlt2 : (k : Int) < 16 := by omega
      obtain ⟨r, hr⟩ : ∃ r, r = pubP bs (k : Nat) := ⟨_, rfl⟩
      have HRB : Hid (Bs r) := by rw [hr]; exact pubP_bs _ _
      have HE : Hid (lvsP bs (k + 1) = lvsP bs k ++ [r]) := by rw [hr]; exact lvsP_succ _ _
      have HLN : Hid ((lvsP bs k).length ≤ 1000000) := by rw [lvsP_len]; show k ≤ 1000000; omega
      have HC := hide (refpublic_any (.slice ab nb cb) bs (k : Nat) r hr wr ((unhide HS).kept (unhide HKr) (by simp)) (unhide HB) (by have := unhide HL32; omega))
      clear hr
      go_wp2_with fail
      refine (unhide HC).mono ?_
      rintro ee w4 ⟨a4, m4, c4, rfl, R4, K4⟩
      have HR4 := hide R4
      have HK4 := hide K4
      clear R4 K4 HC
      go_wp2_with (at_builtin; refine wpList_acc rfl (.tmp 15) (.tmp 19) rfl _ _ rfl (unhide HA) (unhide HLN) _ r (unhide HK4) (unhide HR4) (unhide HRB) rfl ?_; intro ao5 m5 c5 w5 A5)
      go_roundw
      case rel => exact ⟨k + 1, m5, c5, ao5, by omega, rfl, by go_num, by have e := unhide HE; rw [← e] at A5; exact A5⟩
      case measure => simp [intOf]; omega
    · obtain rfl : k = 16 := by omega
      have HLo : Hid (Lo w.heap.size (.slice none 0 0) wr (.slice ao m cc) (lvP bs 0)) := Lo.of_acc (unhide HA) (by have := lv_le bs 0; omega) (by have := unhide HSZ; omega) (fun q hq => by cases hq)
      have HGr := hide ((unhide HA).kp.heap (unhide HG1) (by simp))
      have hm16 : m = 16 := by rw [(unhide HA).cap, lvsP_len]
      subst hm16
      have hc1 : wr.cell? ⟨w.heap.size, 1, none⟩ = some (.slice none 0 0) := by rw [cell_of_row wr w.heap.size 1 _ _ _ (unhide HGr)]; rfl
      have HSr := hide ((unhide HS).kept (unhide HKr) (by simp))
      have hbr : w.heap.size + 1 ≤ wr.heap.size := by have := (unhide HA).kp.size; have := unhide HSZ; omega
      clear HA HG1 HSZ HK1 HW1
      go_wp2_with (at_builtin; refine wpList_append_rowl rfl (.tmp 25) (.tmp 27) rfl (w.heap.size + 1) (.slice none 0 0) [] rfl ⟨rfl, .inl ⟨rfl, rfl⟩⟩ ⟨wr.heap.size, 0, none⟩ 1 [.slice ao 16 cc] rfl (fun j u hu => World.news_of_block (heap_alloc_new wr _) j u (by simpa using hu)) (by simp [Value.oneCell']) (by simp) (by simp; omega) ?_; intro ao5 m5 c5 w5 R5 S5; refine Hid.out ?_)
      have S5' := S5.after ((Kp.refl [] wr).alloc (.cells #[.slice ao 16 cc] 31))
      have G5 : w5.heap[w.heap.size]? = some _ := S5'.1.heap (unhide HGr) (by simp [Value.ownBlock])
      have hc5 : w5.cell? ⟨w.heap.size, 1, none⟩ = some (.slice none 0 0) := by rw [cell_of_row w5 w.heap.size 1 _ _ _ G5]; rfl
      have hf5 : w5.frozen? ⟨w.heap.size, 1, none⟩ = false := frozen_of_row w5 w.heap.size 1 _ _ G5
      have HO : Hid (Ow (w5.setCell ⟨w.heap.size, 1, none⟩ (.slice ao5 m5 c5)) (w.heap.size + 1) w.heap.size bs 1) := ow_push (n := 0) (xs := []) (unhide HGr) (unhide HNE) ⟨unhide HSr, fun q hq => ⟨fun e => by have := unhide HLT q hq; omega, by simp [Value.ownBlock]⟩⟩ ⟨rfl, .inl ⟨rfl, rfl⟩⟩ (by omega) rfl (fun h hh => by cases hh) (unhide HLo) R5 S5'
      have HK6 : Hid (Kp [] w (w5.setCell ⟨w.heap.size, 1, none⟩ (.slice ao5 m5 c5))) := ((unhide HKr).then S5'.1 (fun i hi => by simp [Value.ownBlock] at hi)).setCell (p := ⟨w.heap.size, 1, none⟩) (.inr (by simp)) _
      have HL6 : Hid (∃ l, Lists (w5.setCell ⟨w.heap.size, 1, none⟩ (.slice ao5 m5 c5)) (.slice ao 16 cc) l ∧ l.map (·.2) = lvP bs 0) := (((unhide HLo).step S5').store (setCell_kp _ _ _ _)).lists
      clear R5 S5 S5' G5 HLo HGr HSr HKr hbr
      refine hide ?_
      go_wp2_with fail
      go_loopw [4] (fun v wr => ∃ (h n cc : Nat) (ao : Option Addr), h ≤ 4 ∧ v = .slice ao n cc ∧ n = 16 / 2 ^ h ∧ Ow wr (w.heap.size + 1) w.heap.size bs (h + 1) ∧ (∃ l, Lists wr v l ∧ l.map (·.2) = lvP bs h) ∧ Kp [] w wr) (fun v _ => lenOf v)
      case atStart => exact ⟨0, 16, cc, ao, by omega, rfl, by decide, unhide HO, unhide HL6, unhide HK6⟩
      case round =>
        clear HO HL6 HK6 hc5 hf5 hc1
        obtain ⟨h, n, c3, a3, hh, rfl, hn, Or, ⟨l, hL, hle⟩, Kr⟩ := hrel
        have HO := hide Or
        have HL := hide hL
        have HLE := hide hle
        have HKr := hide Kr
        have HNN := hide hn
        clear Or hL hle Kr
        by_cases hlt : h < 4
        · obtain ⟨M, hM⟩ : ∃ M, M = n / 2 := ⟨_, rfl⟩
          have hnM : n = 2 * M ∧ 1 ≤ M ∧ M ≤ 8 ∧ M = 16 / 2 ^ (h + 1) := by
            rw [hM, hn]
            rcases (by omega : h = 0 ∨ h = 1 ∨ h = 2 ∨ h = 3) with rfl | rfl | rfl | rfl <;> decide
          have HNM := hide hnM
          have hn1 : (1 : Int) < (n : Int) := by omega
          have hni : (n : Int) ≤ 16 := by omega
          have hln : (lvP bs h).length = n := by rw [lvP_len]; exact hn.symm
          have HLN0 := hide hln
          obtain ⟨ls, hls⟩ : ∃ ls, ls = lvP bs h := ⟨_, rfl⟩
          have HLS := hide hls
          have HML : Hid (∀ x ∈ ls, x.length ≤ 1000) := fun x hx => by rw [hls] at hx; rw [(lvP_all bs h x hx).1]; omega
          rw [← hls] at HLE HLN0
          clear hn hM hnM hln hls
          obtain ⟨wo, hwo⟩ : ∃ wo, wo = wr := ⟨_, rfl⟩
          subst hwo
          go_wp2_with fail
          go_loopw [6, 7] (fun v i wi => ∃ (k m cc : Nat) (ao : Option Addr), k ≤ M ∧ v = .slice ao m cc ∧ i = .int .i64 ((2 * k : Nat) : Int) ∧ Acc wo ((abvP ls).take k) v wi) (fun _ i _ => 2 * M - (intOf i).toNat)
          case atStart => exact ⟨0, 0, 0, none, by omega, rfl, rfl, acc_nil _⟩
          case round =>
            obtain ⟨k, m, cc, ao, hk, rfl, rfl, Ar⟩ := hrel
            obtain ⟨wi, hwi⟩ : ∃ wi, wi = wr := ⟨_, rfl⟩
            subst hwi
            have HA := hide Ar
            clear Ar
            obtain ⟨j, hj⟩ : ∃ j, j = 2 * k := ⟨_, rfl⟩
            rw [← hj]
            by_cases hlt' : k < M
            · have hlt2 : (j : Int) < (n : Int) := by have := unhide HNM; omega
              have hlt3 : (j : Int) + 1 < (n : Int) := by have := unhide HNM; omega
              have hwr : IntKind.i64.wrap ((j : Int) + 1) = (j : Int) + 1 := wrap_at rfl (by omega) (by omega)
              obtain ⟨b, off, ax, nx, cx, rfl, hcx, hSx, hBx⟩ := lists_at (unhide HL) (unhide HLE) j (by have := unhide HLN0; omega)
              obtain ⟨b', off', ay, ny, cy, e, hcy, hSy, hBy⟩ := lists_at (unhide HL) (unhide HLE) (j + 1) (by have := unhide HLN0; omega)
              injection e with e
              injection e with e1 e2
              subst e1
              subst e2
              have hxl : (ls.getD j []).length ≤ 1000 := unhide HML _ (getD_mem (by have := unhide HLN0; omega))
              have hyl : (ls.getD (j + 1) []).length ≤ 1000 := unhide HML _ (getD_mem (by have := unhide HLN0; omega))
              obtain ⟨r, hr⟩ : ∃ r, r = nodeP (ls.getD j []) (ls.getD (j + 1) []) := ⟨_, rfl⟩
              have HRB : Hid (Bs r) := by rw [hr]; exact nodeP_bs _ _
              have HE : Hid ((abvP ls).take (k + 1) = (abvP ls).take k ++ [r]) := by rw [hr, hj]; exact abv_take ls k (by have := unhide HLN0; have := unhide HNM; omega)
              have HLN : Hid (((abvP ls).take k).length ≤ 1000000) := by rw [List.length_take]; show min k _ ≤ 1000000; omega
              obtain ⟨X, hX⟩ : ∃ X, X = ls.getD j [] := ⟨_, rfl⟩
              obtain ⟨Y, hY⟩ : ∃ Y, Y = ls.getD (j + 1) [] := ⟨_, rfl⟩
              rw [← hX] at hSx hBx hxl hr
              rw [← hY] at hSy hBy hyl hr
              have HKi := hide (unhide HA).kp
              have HCX : Hid (∀ w', Kp [] wi.drew w' → w'.cell? ⟨b, off + j, none⟩ = some (.slice ax nx cx)) := fun w' k' => (((unhide HKi).trans (kp_drew wi)).trans k').cell hcx (by simp)
              have HCY : Hid (∀ w', Kp [] wi.drew w' → w'.cell? ⟨b, off + (j + 1), none⟩ = some (.slice ay ny cy)) := fun w' k' => (((unhide HKi).trans (kp_drew wi)).trans k').cell hcy (by simp)
              have HSX : Hid (∀ w', Kp [] wi.drew w' → Sl w' (.slice ax nx cx) X) := fun w' k' => hSx.kept (((unhide HKi).trans (kp_drew wi)).trans k') (by simp)
              have HSY : Hid (∀ w', Kp [] wi.drew w' → Sl w' (.slice ay ny cy) Y) := fun w' k' => hSy.kept (((unhide HKi).trans (kp_drew wi)).trans k') (by simp)
              have HR : Hid (r = sha (14 :: [X, Y].flatten)) := hide (by rw [hr, nodeP]; simp)
              have HBX := hide hBx
              have HBY := hide hBy
              have HJ : Hid ((j : Int) = 2 * (k : Int)) := hide (by omega)
              have HJN := hide hj
              clear hX hY hcx hcy hSx hSy hBx hBy hr hj
              go_wp2_with fail
              refine region_grow_tail 13 Tryd.mixed [Is (.slice ao m cc), Is (.slice (some ⟨b, off, none⟩) n c3), Is (.int .i64 j), Is (.pointer (some ⟨b, off + j, none⟩)), Is (.slice ax nx cx), Is (.slice (some ⟨b, off, none⟩) n c3), Is (.int .i64 j), Is (.int .i64 (j + 1)), Is (.pointer (some ⟨b, off + (j + 1), none⟩)), Is (.slice ay ny cy), LsM [X, Y], RowT wi.heap.size r, One wi.heap.size r] [[(6, none)], [(4, none)], [(7, none)], [(41, some 1), (42, some 2)], [(43, some 3)], [(4, none)], [(7, none)], [(46, some 6)], [(45, some 5), (47, some 7)], [(48, some 8)], [(44, some 4), (49, some 9)], [(50, some 10)], [(51, some 11)]] (by kernel_rfl) ?_ ?_ ?_
              all_goals try simp only [List.take_succ_cons, List.take_zero, List.drop_succ_cons, List.drop_zero]
              · simp only [List.mem_cons, List.not_mem_nil, or_false]
                intro R hR
                rcases hR with rfl | rfl | rfl | rfl | rfl | rfl | rfl | rfl | rfl | rfl | rfl | rfl | rfl <;> first | exact stable_is _ | exact stable_lsm _ | exact stable_row _ _ | exact stable_one _ _
              · refine steps_cons (fun a w hk hn => ?_) ?_
                · have h6 : a.eval (.tmp 6) = .slice ao m cc := hn.1
                  clear hn
                  refine wants_plain rfl ?_
                  exact grown_move (.tmp 6) rfl h6
                refine steps_cons (fun a w hk hn => ?_) ?_
                · have h4 : a.eval (.tmp 4) = .slice (some ⟨b, off, none⟩) n c3 := hn.1
                  clear hn
                  refine wants_plain rfl ?_
                  exact grown_move (.tmp 4) rfl h4
                refine steps_cons (fun a w hk hn => ?_) ?_
                · have h7 : a.eval (.tmp 7) = .int .i64 j := hn.1
                  clear hn
                  refine wants_plain rfl ?_
                  exact grown_move (.tmp 7) rfl h7
                refine steps_cons (fun a w hk hn => ?_) ?_
                · have h41 : a.eval (.tmp 41) = .slice (some ⟨b, off, none⟩) n c3 := hn.1
                  have h42 : a.eval (.tmp 42) = .int .i64 j := hn.2.1
                  clear hn
                  refine wants_plain rfl ?_
                  refine grown_run (v := .pointer (some ⟨b, off + j, none⟩)) ?_ (Kp.refl _ _) rfl
                  obtain ⟨ρ, hρ, hc, hf, hg⟩ := eval_is a
                  rw [hρ] at h41 h42 ⊢
                  simp [go_sem, h41, h42, hlt2]
                refine steps_cons (fun a w hk hn => ?_) ?_
                · have h43 : a.eval (.tmp 43) = .pointer (some ⟨b, off + j, none⟩) := hn.1
                  clear hn
                  refine wants_plain rfl ?_
                  refine grown_run (v := .slice ax nx cx) ?_ (Kp.refl _ _) rfl
                  have hcell := unhide HCX w hk
                  obtain ⟨ρ, hρ, hc, hf, hg⟩ := eval_is a
                  rw [hρ] at h43 ⊢
                  simp [go_sem, h43, hcell]
                refine steps_cons (fun a w hk hn => ?_) ?_
                · have h4 : a.eval (.tmp 4) = .slice (some ⟨b, off, none⟩) n c3 := hn.1
                  clear hn
                  refine wants_plain rfl ?_
                  exact grown_move (.tmp 4) rfl h4
                refine steps_cons (fun a w hk hn => ?_) ?_
                · have h7 : a.eval (.tmp 7) = .int .i64 j := hn.1
                  clear hn
                  refine wants_plain rfl ?_
                  exact grown_move (.tmp 7) rfl h7
                refine steps_cons (fun a w hk hn => ?_) ?_
                · have h46 : a.eval (.tmp 46) = .int .i64 j := hn.1
                  clear hn
                  refine wants_plain rfl ?_
                  refine grown_run (v := .int .i64 (j + 1)) ?_ (Kp.refl _ _) rfl
                  obtain ⟨ρ, hρ, hc, hf, hg⟩ := eval_is a
                  rw [hρ] at h46 ⊢
                  simp [go_sem, hc, h46, hwr]
                refine steps_cons (fun a w hk hn => ?_) ?_
                · have h45 : a.eval (.tmp 45) = .slice (some ⟨b, off, none⟩) n c3 := hn.1
                  have h47 : a.eval (.tmp 47) = .int .i64 (j + 1) := hn.2.1
                  clear hn
                  refine wants_plain rfl ?_
                  refine grown_run (v := .pointer (some ⟨b, off + (j + 1), none⟩)) ?_ (Kp.refl _ _) rfl
                  obtain ⟨ρ, hρ, hc, hf, hg⟩ := eval_is a
                  rw [hρ] at h45 h47 ⊢
                  simp [go_sem, h45, h47, hlt3]
                  intro h; omega
                refine steps_cons (fun a w hk hn => ?_) ?_
                · have h48 : a.eval (.tmp 48) = .pointer (some ⟨b, off + (j + 1), none⟩) := hn.1
                  clear hn
                  refine wants_plain rfl ?_
                  refine grown_run (v := .slice ay ny cy) ?_ (Kp.refl _ _) rfl
                  have hcell := unhide HCY w hk
                  obtain ⟨ρ, hρ, hc, hf, hg⟩ := eval_is a
                  rw [hρ] at h48 ⊢
                  simp [go_sem, h48, hcell]
                refine steps_cons (fun a w hk hn => ?_) ?_
                · have h44 : a.eval (.tmp 44) = .slice ax nx cx := hn.1
                  have h49 : a.eval (.tmp 49) = .slice ay ny cy := hn.2.1
                  clear hn
                  refine wants_plain rfl ?_
                  exact grown_build2 (.tmp 44) (.tmp 49) rfl X Y (by rw [h44]; exact unhide HSX w hk) (unhide HBX) (by rw [h49]; exact unhide HSY w hk) (unhide HBY)
                refine steps_cons (fun a w hk hn => ?_) ?_
                · have h50 : (LsM [X, Y]) (a.eval (.tmp 50)) w := hn.1
                  clear hn
                  refine wants_plain rfl ?_
                  refine grown_call (f := 29) rfl Tryd.func29 (by kernel_rfl) (by kernel_rfl) ?_
                  simp only [List.map_toArray, List.map_cons, List.map_nil]
                  refine (reftagged_lsm r (unhide HR) h50 (by omega) (by omega) (by simp) (by simp; omega)).mono ?_
                  rintro e w' ⟨ao, m, c, rfl, R, K⟩
                  exact ⟨_, rfl, K, owns_rebase R (fun i hi => Nat.le_trans hk.size (R.own i hi))⟩
                refine steps_cons (fun a w hk hn => ?_) ?_
                · have h51 : (RowT wi.heap.size r) (a.eval (.tmp 51)) w := hn.1
                  clear hn
                  refine wants_plain rfl ?_
                  exact grown_one (.tmp 51) rfl wi.heap.size r h51
                exact trivial
              intro W1 hkW1
              rintro _ rfl
              rintro _ rfl
              rintro _ rfl
              rintro _ rfl
              rintro _ rfl
              rintro _ rfl
              rintro _ rfl
              rintro _ rfl
              rintro _ rfl
              rintro _ rfl
              intro v50 h50
              intro v51 h51
              intro v52 h52
              refine fin_nil ?_
              simp only [Act.put, List.set_cons_zero, List.set_cons_succ, List.setIfInBounds_toArray]
              go_wp2_with (at_builtin; refine wpList_accg rfl (.tmp 40) (.tmp 52) rfl _ _ rfl (unhide HA) (unhide HLN) r ((kp_drew wi).trans hkW1) v52 rfl h52 (unhide HRB) ?_; intro ao5 m5 c5 w5 A5)
              go_roundw
              case rel => exact ⟨k + 1, m5, c5, ao5, by omega, rfl, by have := unhide HJ; go_num, by have e := unhide HE; rw [← e] at A5; exact A5⟩
              case measure => simp [intOf]; have := unhide HJN; omega
            · obtain rfl : k = M := by omega
              have hlt2 : ¬ (j : Int) < (n : Int) := by have := unhide HNM; omega
              have HT : Hid ((abvP ls).take k = abvP ls) := List.take_of_length_le (by rw [abvP_len]; have := unhide HLN0; have := unhide HNM; omega)
              rw [unhide HT] at HA
              have hmk : m = k := by rw [(unhide HA).cap, abvP_len]; have := unhide HLN0; have := unhide HNM; omega
              subst hmk
              obtain ⟨sa, sn, sc, lv, xs, o1, o2, o3, o4, o5, o6⟩ := (unhide HO).kept (unhide HA).kp
              have oe : lvP bs (h + 1) = abvP ls := by rw [unhide HLS]; rfl
              have hgo : w.heap.size < wo.heap.size := by
                obtain ⟨_, _, _, _, _, p1, _⟩ := unhide HO
                exact (Array.getElem?_eq_some_iff.1 p1).1
              have hpv : ∀ q, lv.ownBlock = some q → q < wo.heap.size := by
                obtain ⟨_, _, _, lv0, xs0, p1, _, p3, _⟩ := unhide HO
                have e := (unhide HA).kp.heap p1 (by simp)
                rw [o1] at e
                have e' : lv = lv0 := by injection e with e; injection e with e; simp at e; exact e.2
                subst e'
                exact fun q hq => (p3.own q hq).2
              have HLo : Hid (Lo w.heap.size lv wi (.slice ao m cc) (lvP bs (h + 1))) := by rw [oe]; exact Lo.of_acc (unhide HA) (by rw [abvP_len]; have := unhide HLN0; omega) hgo hpv
              have hc1 : wi.cell? ⟨w.heap.size, 1, none⟩ = some lv := by rw [cell_of_row wi w.heap.size 1 _ _ _ o1]; rfl
              obtain ⟨la, lc, hlv⟩ := o3.shape
              have hKi := (unhide HKr).trans (unhide HA).kp
              have hbi : w.heap.size + 1 ≤ wi.heap.size := by have := (unhide HA).kp.size; omega
              have H1 := hide o1
              have H2 := hide o2
              have H3 := hide o3
              have H5 := hide o5
              have H6 := hide o6
              have HKI := hide hKi
              have HLV := hide hlv
              have hxl : xs.length ≤ 10 := by rw [o5]; omega
              have HXL := hide hxl
              obtain ⟨N, hN⟩ : ∃ N, N = xs.length := ⟨_, rfl⟩
              rw [← hN] at hlv
              subst hlv
              clear o1 o2 o3 o5 o6 hKi hpv hgo oe hxl hN HT HO HL HLE HLN0 HML HA hj
              go_wp2_with (at_builtin; refine wpList_append_rowl rfl (.tmp 59) (.tmp 61) rfl (w.heap.size + 1) (.slice la N lc) xs rfl ((unhide H3).kept ((Kp.refl [] wi).alloc _) (by simp)) ⟨wi.heap.size, 0, none⟩ 1 [.slice ao m cc] rfl (fun j u hu => World.news_of_block (heap_alloc_new wi _) j u (by simpa using hu)) (by simp [Value.oneCell']) (by have := unhide HXL; simp; omega) (by simp; omega) ?_; intro ao5 m5 c5 w5 R5 S5; refine Hid.out ?_)
              have S5' := S5.after ((Kp.refl [] wi).alloc (.cells #[.slice ao m cc] 31))
              have hng : ∀ q, (Value.slice la N lc).ownBlock = some q → q ≠ w.heap.size := fun q hq => by have := ((unhide H3).own q hq).1; omega
              have G5 : w5.heap[w.heap.size]? = some _ := S5'.1.heap (unhide H1) (fun hm => hng _ (by simpa using hm) rfl)
              have hc5 : w5.cell? ⟨w.heap.size, 1, none⟩ = some (.slice la N lc) := by rw [cell_of_row w5 w.heap.size 1 _ _ _ G5]; rfl
              have hf5 : w5.frozen? ⟨w.heap.size, 1, none⟩ = false := frozen_of_row w5 w.heap.size 1 _ _ G5
              have HO6 : Hid (Ow (w5.setCell ⟨w.heap.size, 1, none⟩ (.slice ao5 m5 c5)) (w.heap.size + 1) w.heap.size bs (h + 1 + 1)) := ow_push (unhide H1) (unhide HNE) (unhide H2) (unhide H3) (by omega) (unhide H5) (unhide H6) (unhide HLo) R5 S5'
              have HK6 : Hid (Kp [] w (w5.setCell ⟨w.heap.size, 1, none⟩ (.slice ao5 m5 c5))) := ((unhide HKI).then S5'.1 (fun i hi => .inr (by have := ((unhide H3).own i (by simpa using hi)).1; omega))).setCell (p := ⟨w.heap.size, 1, none⟩) (.inr (by simp)) _
              have HL6 : Hid (∃ l, Lists (w5.setCell ⟨w.heap.size, 1, none⟩ (.slice ao5 m5 c5)) (.slice ao m cc) l ∧ l.map (·.2) = lvP bs (h + 1)) := (((unhide HLo).step S5').store (setCell_kp _ _ _ _)).lists
              clear R5 S5 S5' G5 HLo H1 H2 H3 H5 H6 hng hc1
              refine hide ?_
              go_wp2_with fail
              go_roundw
              case rel => exact ⟨h + 1, m, cc, ao, by omega, rfl, (unhide HNM).2.2.2, unhide HO6, unhide HL6, unhide HK6⟩
              case measure => simp [lenOf]; have := unhide HNM; omega
        · obtain rfl : h = 4 := by omega
          have hn1 : n = 1 := hn
          subst hn1
          clear HL HLE
          go_wp2_with fail
          go_ret
          exact ⟨_, _, rfl, unhide HO, unhide HKr⟩
end Go.Proofs.YtdioaohejoflcaaDoor

/-
  The contracts of the reference's owner's Public, and of its Right.
-/
namespace Go.Proofs.YtdioaohejoflcaaDoor
open Go.RowKit
open Go.Proofs

theorem Ow.open {w : World} {base g : Nat} {bs : List Int} (h : Ow w base g bs 5) : ∃ sa sn sc gl c, w.cell? ⟨g, 0, none⟩ = some (.slice sa sn sc) ∧ w.cell? ⟨g, 1, none⟩ = some (.slice (some ⟨gl, 0, none⟩) 5 c) ∧ Sl w (.slice sa sn sc) bs ∧ (∀ h, h < 5 → ∃ al nl cl l, w.cell? ⟨gl, h, none⟩ = some (.slice al nl cl) ∧ Lists w (.slice al nl cl) l ∧ l.map (·.2) = lvP bs h) := by
  obtain ⟨sa, sn, sc, lv, xs, h1, h2, h3, _, h5, h6⟩ := h
  obtain ⟨gl, c, e, hc⟩ := h3.at (by omega)
  rw [h5] at e
  subst e
  refine ⟨sa, sn, sc, gl, c, by rw [cell_of_row w g 0 _ _ _ h1]; rfl, by rw [cell_of_row w g 1 _ _ _ h1]; rfl, h2.1, fun h hh => ?_⟩
  have hx := hc h (by omega)
  obtain ⟨ao, n, c', l, e, k1, k2, _⟩ := h6 h (by omega)
  rw [e] at hx k1
  exact ⟨ao, n, c', l, hx, k1, k2⟩

theorem own_public (g base : Nat) (bs r : List Int) (hr : r = topP bs) (w : World) (hO : Ow w base g bs 5) :
    Calls Tryd.prog 12 #[.pointer (some ⟨g, 0, none⟩)] w fun e w' => ∃ ao m c, e = .returned (.slice ao m c) ∧ Sl w (.slice ao m c) r ∧ w' = w := by
  obtain ⟨sa, sn, sc, gl, c, h0, h1, _, h2⟩ := hO.open
  obtain ⟨al, nl, cl, l, h3, h4, h5⟩ := h2 4 (by omega)
  obtain ⟨b, off, ay, ny, cy, rfl, hc, hS, _⟩ := lists_at h4 h5 0 (by rw [lvP_len]; decide)
  have hn : nl = 1 := by
    obtain ⟨ao', c', e, _⟩ := h4
    injection e with _ e2
    rw [e2, ← List.length_map (f := (·.2)), h5, lvP_len]
  subst hn
  have HS : Hid (Sl w (.slice ay ny cy) r) := by rw [hr]; exact hS
  rw [Nat.add_zero] at hc
  clear h2 h4 h5 hS hO hr h0
  go_enter Tryd.func12, Tryd.ntmps12
  go_wp2_with fail
  go_ret
  exact ⟨ay, ny, cy, rfl, unhide HS, rfl⟩

set_option maxRecDepth 100000 in
set_option maxHeartbeats 2000000 in
theorem refright_any (v : Value) (i : Int) (ps qs : List (List Int)) (b : Bool) (hb : b = rgtP i ps qs) (w : World) (hV : SigV w v i ps qs) (hi : -9223372036854775808 ≤ i ∧ i ≤ 9223372036854775807) :
    Calls Tryd.prog 41 #[v] w fun e w' => e = .returned (.bool b) ∧ Kp [] w w' := by
  obtain ⟨ap, np, cp, aq, nq, cq, lp, lq, rfl, hP, hp, hQ, hq, hnp, hnq⟩ := hV.shape
  obtain ⟨ob, hob⟩ : ∃ o : Obj, o = (.cells #[.int .i64 i, .slice ap np cp, .slice aq nq cq] 33) := ⟨_, rfl⟩
  have K1 : Kp [] w (w.alloc ob) := (Kp.refl [] w).alloc ob
  rw [hob] at K1
  have HK1 := hide K1
  have HBb := hide hb
  have hfalse : ¬ ((0 ≤ i ∧ i < 16) ∧ np = 64 ∧ nq = 4) → b = false := fun h => by
    rw [hb]
    cases hr : rgtP i ps qs with
    | false => rfl
    | true =>
      have := (rgtP_iff i ps qs).1 hr
      exact absurd ⟨this.1, by rw [hnp]; exact this.2.1.1, by rw [hnq]; exact this.2.2.1⟩ h
  have hnpi : (np : Int) = 64 ↔ np = 64 := by omega
  have hnqi : (nq : Int) = 4 ↔ nq = 4 := by omega
  clear hob K1 hV hb
  by_cases h0 : i < 0
  · obtain rfl : b = false := hfalse (by omega)
    clear hP hQ hp hq hnp hnq
    go_enter Tryd.func41, Tryd.ntmps41
    go_wp2_with fail
    go_ret
    exact ⟨rfl, unhide HK1⟩
  · by_cases h16 : 16 ≤ i
    · obtain rfl : b = false := hfalse (by omega)
      clear hP hQ hp hq hnp hnq
      go_enter Tryd.func41, Tryd.ntmps41
      go_wp2_with fail
      go_ret
      exact ⟨rfl, unhide HK1⟩
    · by_cases hn1 : np = 64
      · by_cases hn2 : nq = 4
        · subst hn1
          subst hn2
          obtain ⟨o1, ho1⟩ : ∃ o : Obj, o = (.cells #[.int .i64 i, .slice ap 64 cp, .slice aq 4 cq] 33) := ⟨_, rfl⟩
          obtain ⟨o2, ho2⟩ : ∃ o : Obj, o = (.cells #[.slice ap 64 cp, .slice aq 4 cq] 31) := ⟨_, rfl⟩
          obtain ⟨W, hW⟩ : ∃ W, W = (w.alloc o1).alloc o2 := ⟨_, rfl⟩
          have KW : Kp [] w W := by rw [hW]; exact ((Kp.refl [] w).alloc o1).alloc o2
          have GW : W.heap[w.heap.size + 1]? = some o2 := by rw [hW]; exact heap_alloc2_new w o1 o2
          rw [ho2] at GW
          have c0 : W.cell? ⟨w.heap.size + 1, 0, none⟩ = some (.slice ap 64 cp) := by rw [cell_of_row W (w.heap.size + 1) 0 _ _ _ GW]; rfl
          have c1 : W.cell? ⟨w.heap.size + 1, 1, none⟩ = some (.slice aq 4 cq) := by rw [cell_of_row W (w.heap.size + 1) 1 _ _ _ GW]; rfl
          have HWE : Hid (W = (w.alloc (.cells #[.int .i64 i, .slice ap 64 cp, .slice aq 4 cq] 33)).alloc (.cells #[.slice ap 64 cp, .slice aq 4 cq] 31)) := by rw [hW, ho1, ho2]; exact rfl
          have HP := hide (hP.kept KW)
          have HQ := hide (hQ.kept KW)
          have Hp := hide hp
          have Hq := hide hq
          have HNp := hide hnp
          have HNq := hide hnq
          have HKW := hide KW
          have hbad : ∀ x, (x ∈ ps ∨ x ∈ qs) → x.length ≠ 32 → b = false := fun x hx hne => by
            rw [unhide HBb]
            cases hr : rgtP i ps qs with
            | false => rfl
            | true =>
              have := (rgtP_iff i ps qs).1 hr
              rcases hx with hx | hx
              · exact absurd (this.2.1.2 x hx) hne
              · exact absurd (this.2.2.2 x hx) hne
          have HBAD := hide hbad
          clear hP hQ hp hq hnp hnq ho1 ho2 hW KW GW hbad hfalse
          go_enter Tryd.func41, Tryd.ntmps41
          go_wp2_with fail
          rw [← unhide HWE]
          go_loopw [32] (fun j wr => ∃ s : Nat, s ≤ 2 ∧ j = .int .i64 s ∧ (1 ≤ s → ∀ x ∈ ps, x.length = 32) ∧ (2 ≤ s → ∀ x ∈ qs, x.length = 32) ∧ wr = W) (fun j _ => 2 - (intOf j).toNat)
          case atStart => exact ⟨0, by omega, rfl, by omega, by omega, rfl⟩
          case round =>
            obtain ⟨s, hs, rfl, g1, g2, hw⟩ := hrel
            subst hw
            have H1 := hide g1
            have H2 := hide g2
            clear g1 g2
            rcases (by omega : s = 0 ∨ s = 1 ∨ s = 2) with rfl | rfl | rfl
            · go_wp2_with fail
              go_loopw [5] (fun j wi => ∃ k : Nat, k ≤ 64 ∧ j = .int .i64 k ∧ (∀ x ∈ ps.take k, x.length = 32) ∧ wi = wr) (fun j _ => 64 - (intOf j).toNat)
              case atStart => exact ⟨0, by omega, rfl, by simp, rfl⟩
              case round =>
                obtain ⟨k, hk, rfl, hg, hw⟩ := hrel
                subst hw
                have HGd := hide hg
                clear hg
                by_cases hlt : k < 64
                · have hlt2 : (k : Int) < 64 := by omega
                  have hkl : k < ps.length := by have := unhide HNp; omega
                  obtain ⟨b', off, ay, ny, cy, rfl, hc, hSy, _⟩ := lists_at (unhide HP) (unhide Hp) k hkl
                  have hnl : ny = (ps.getD k []).length := by obtain ⟨_, _, e, _⟩ := hSy; injection e
                  by_cases h32 : ny = 32
                  · subst h32
                    have HG2 : Hid (∀ x ∈ ps.take (k + 1), x.length = 32) := fun x hx => by
                      rw [List.take_succ_eq_append_getElem hkl] at hx
                      rcases List.mem_append.1 hx with h | h
                      · exact unhide HGd x h
                      · obtain rfl : x = ps[k] := by simpa using h
                        have : ps.getD k [] = ps[k] := by simp [List.getD, hkl]
                        rw [← this]; exact hnl.symm
                    clear hSy hnl
                    go_wp2_with fail
                    go_roundw
                    case rel => exact ⟨k + 1, by omega, by go_num, unhide HG2, by trivial⟩
                    case measure => simp [intOf]; omega
                  · have hbf : b = false := unhide HBAD (ps.getD k []) (.inl (getD_mem hkl)) (by rw [← hnl]; exact h32)
                    have hni : ¬ (ny : Int) = 32 := by omega
                    subst hbf
                    clear hSy hnl
                    go_wp2_with fail
                    go_ret
                    exact ⟨rfl, unhide HKW⟩
                · have hk64 : k = 64 := by omega
                  have HA1 : Hid (∀ x ∈ ps, x.length = 32) := by
                    have := unhide HGd
                    rw [List.take_of_length_le (by have := unhide HNp; omega)] at this
                    exact this
                  have hlt2 : ¬ (k : Int) < 64 := by omega
                  clear hk64
                  go_wp2_with fail
                  go_roundw
                  case rel => exact ⟨0 + 1, by omega, by go_num, fun _ => unhide HA1, by omega, by trivial⟩
                  case measure => simp [intOf]
            · go_wp2_with fail
              go_loopw [5] (fun j wi => ∃ k : Nat, k ≤ 4 ∧ j = .int .i64 k ∧ (∀ x ∈ qs.take k, x.length = 32) ∧ wi = wr) (fun j _ => 4 - (intOf j).toNat)
              case atStart => exact ⟨0, by omega, rfl, by simp, rfl⟩
              case round =>
                obtain ⟨k, hk, rfl, hg, hw⟩ := hrel
                subst hw
                have HGd := hide hg
                clear hg
                by_cases hlt : k < 4
                · have hlt2 : (k : Int) < 4 := by omega
                  have hkl : k < qs.length := by have := unhide HNq; omega
                  obtain ⟨b', off, ay, ny, cy, rfl, hc, hSy, _⟩ := lists_at (unhide HQ) (unhide Hq) k hkl
                  have hnl : ny = (qs.getD k []).length := by obtain ⟨_, _, e, _⟩ := hSy; injection e
                  by_cases h32 : ny = 32
                  · subst h32
                    have HG2 : Hid (∀ x ∈ qs.take (k + 1), x.length = 32) := fun x hx => by
                      rw [List.take_succ_eq_append_getElem hkl] at hx
                      rcases List.mem_append.1 hx with h | h
                      · exact unhide HGd x h
                      · obtain rfl : x = qs[k] := by simpa using h
                        have : qs.getD k [] = qs[k] := by simp [List.getD, hkl]
                        rw [← this]; exact hnl.symm
                    clear hSy hnl
                    go_wp2_with fail
                    go_roundw
                    case rel => exact ⟨k + 1, by omega, by go_num, unhide HG2, by trivial⟩
                    case measure => simp [intOf]; omega
                  · have hbf : b = false := unhide HBAD (qs.getD k []) (.inr (getD_mem hkl)) (by rw [← hnl]; exact h32)
                    have hni : ¬ (ny : Int) = 32 := by omega
                    subst hbf
                    clear hSy hnl
                    go_wp2_with fail
                    go_ret
                    exact ⟨rfl, unhide HKW⟩
                · have hk64 : k = 4 := by omega
                  have HA1 : Hid (∀ x ∈ qs, x.length = 32) := by
                    have := unhide HGd
                    rw [List.take_of_length_le (by have := unhide HNq; omega)] at this
                    exact this
                  have hlt2 : ¬ (k : Int) < 4 := by omega
                  clear hk64
                  go_wp2_with fail
                  go_roundw
                  case rel => exact ⟨1 + 1, by omega, by go_num, fun _ => unhide H1 (by omega), fun _ => unhide HA1, by trivial⟩
                  case measure => simp [intOf]
            · have hbt : b = true := by
                rw [unhide HBb]
                exact (rgtP_iff i ps qs).2 ⟨by omega, ⟨(unhide HNp).symm, unhide H1 (by omega)⟩, (unhide HNq).symm, unhide H2 (by omega)⟩
              subst hbt
              go_wp2_with fail
              go_ret
              exact ⟨rfl, unhide HKW⟩
        · obtain rfl : b = false := hfalse (by omega)
          subst hn1
          have hni : ¬ (nq : Int) = 4 := by omega
          clear hP hQ hp hq hnp hnq
          go_enter Tryd.func41, Tryd.ntmps41
          go_wp2_with fail
          go_ret
          exact ⟨rfl, unhide HK1⟩
      · obtain rfl : b = false := hfalse (by omega)
        have hni : ¬ (np : Int) = 64 := by omega
        clear hP hQ hp hq hnp hnq
        go_enter Tryd.func41, Tryd.ntmps41
        go_wp2_with fail
        go_ret
        exact ⟨rfl, unhide HK1⟩
end Go.Proofs.YtdioaohejoflcaaDoor

/-
  The contract of the reference's owner's Sign.
-/
namespace Go.Proofs.YtdioaohejoflcaaDoor
open Go.RowKit
open Go.Proofs

/-- one more slice, that lies wherever it lies, behind them, at a step of a region that draws its order. -/
theorem step_accs {S : List Nat} {F : Nat → Prop} {w wr w3 : World} {ops : Array Oper} {o : Oper} {a : Act} {K : Act → World → Prop} {Q : Exit → Act → World → Prop} {E : Prop} (hgd : o.guard = none) (s x : Operand)
    (ho : o.op = .call { callee := .builtin .append, args := #[s, x], argTypes := #[31, 31] }) (v : Value) (ls : List (List Int)) (hs : a.eval s = v) (hA : AccS S F w ls v wr) (hl : ls.length ≤ 1000000)
    (vx : Value) (bs : List Int) (hS : Sl wr vx bs) (hB : Bs bs) (hap : ∀ q, vx.ownBlock = some q → v.ownBlock = some q → bs = []) (hF : ∀ q, vx.ownBlock = some q → F q) (g : Nat) (hx : a.eval x = .slice (some ⟨g, 0, none⟩) 1 1) (hc : w3.cell? ⟨g, 0, none⟩ = some vx) (k : Kp [] wr w3)
    (h : ∀ ao m c w', AccS S F w (ls ++ [bs]) (.slice ao m c) w' → RStep wr v w' (.slice ao m c) → K (a.put o.dst (.slice ao m c)) w') :
    if Region.wanted o (yielded ops a.tmps) = true then Oper.wp Tryd.prog o a w3 K Q else E := by
  have hw : Region.wanted o (yielded ops a.tmps) = true := by simp [Region.wanted, hgd]
  rw [if_pos hw]
  obtain ⟨i0, hi0, hz0, hz1, hz2⟩ := info_parts Tryd.infoSl
  obtain ⟨l, hP, hl2, hK, hF4⟩ := hA
  have hP2 := hP.kept k
  obtain ⟨ax, cx, hvx, _⟩ := id hS
  obtain ⟨av, cv, hv⟩ := hP2.1.shape
  have hll : l.length = ls.length := by rw [← hl2]; simp
  have hbase : w.heap.size ≤ w3.heap.size := Nat.le_trans hK.size k.size
  obtain ⟨ys, hys⟩ : ∃ ys, ys = l.map (·.1) := ⟨_, rfl⟩
  have hP2r : RowV w3 w.heap.size v ys := by rw [hys]; exact hP2.1
  have hyl : ys.length ≤ 1000000 := by rw [hys, List.length_map]; omega
  obtain ⟨v', w1, hr, hown1, hgrow, _, hat⟩ := run_append_own_at (P := Tryd.prog) w3 w.heap.size 31 o.type 24 i0 (.slice none 0 0) 1 24 Tryd.underlying31 hi0 hz0 hz1 hz2 rfl (by decide) v ys.length ys hP2r ⟨g, 0, none⟩ 1 1 [vx] (by simp) (fun j u hu => by
    have hj : j = 0 := by have := (List.getElem?_eq_some_iff.1 hu).1; simpa using this
    subst hj
    simp at hu
    subst hu
    exact hc) (by simp [hvx, Value.oneCell']) (by unfold maxLen; omega) (by omega) hbase
  have R : RowV w1 w.heap.size v' (ys ++ [vx]) := by unfold RowV; rw [List.length_append]; exact hown1
  rw [hys] at R
  obtain ⟨ao', c', hv'⟩ := R.shape
  subst hv'
  have st : RStep w3 v w1 (.slice ao' (l.map (·.1) ++ [vx]).length c') := ⟨(Kp.refl _ w3).grown hgrow (fun k hk => .inl (by simp [hk])), fun k hk => by
    rcases hat with e | e
    · exact .inl (e ▸ hk)
    · rw [e] at hk; cases hk; exact .inr (Nat.le_refl _)⟩
  have hKK := h ao' _ c' w1 ⟨l ++ [(vx, bs)], hP2.snoc (hS.kept k (by simp)) hB hap R st, by simp [hl2], (hK.trans (k.mono (by simp))).then st.1 (fun i hi => .inr (hP.1.own i (by simpa using hi))), fun y hy => by
    rcases List.mem_append.1 hy with hy | hy
    · exact hF4 y hy
    · obtain rfl : y = (vx, bs) := by simpa using hy
      exact hF⟩ (st.after k)
  unfold Oper.wp execOp
  simp only [ho, resolve, invoke, builtin, Sem.run_bind, Sem.run_pure, Result.andThen_ok, List.map_toArray, List.map_cons, List.map_nil, hs, hx, hr]
  exact hKK
theorem Ow.lv {w : World} {base g : Nat} {bs : List Int} (hO : Ow w base g bs 5) : ∃ sa sn sc gl c, w.cell? ⟨g, 0, none⟩ = some (.slice sa sn sc) ∧ w.cell? ⟨g, 1, none⟩ = some (.slice (some ⟨gl, 0, none⟩) 5 c) ∧ Sl w (.slice sa sn sc) bs ∧ ∀ h, h < 5 → ∀ j, j < (lvP bs h).length → ∃ b off nl cl ax nx cx, w.cell? ⟨gl, h, none⟩ = some (.slice (some ⟨b, off, none⟩) nl cl) ∧ nl = (lvP bs h).length ∧ w.cell? ⟨b, off + j, none⟩ = some (.slice ax nx cx) ∧ Sl w (.slice ax nx cx) ((lvP bs h).getD j []) ∧ Bs ((lvP bs h).getD j []) ∧ ∀ q, (Value.slice ax nx cx).ownBlock = some q → q < w.heap.size := by
  obtain ⟨sa, sn, sc, gl, c, h0, h1, h2, h3⟩ := hO.open
  refine ⟨sa, sn, sc, gl, c, h0, h1, h2, fun h hh j hj => ?_⟩
  obtain ⟨al, nl, cl, l, k1, k2, k3⟩ := h3 h hh
  obtain ⟨b, off, ay, ny, cy, rfl, hc, hS, hB⟩ := lists_at k2 k3 j hj
  have hn : nl = (lvP bs h).length := by
    obtain ⟨ao', c', e, _⟩ := k2
    injection e with _ e2
    rw [e2, ← List.length_map (f := (·.2)), k3]
  refine ⟨b, off, nl, cl, ay, ny, cy, k1, hn, hc, hS, hB, hS.lt (fun e => ?_)⟩
  have := (lvP_all bs h _ (getD_mem hj)).1
  rw [e] at this
  cases this

set_option maxRecDepth 100000 in
set_option maxHeartbeats 4000000 in
theorem own_sign (g base : Nat) (bs : List Int) (i : Nat) (vm : Value) (ms : List Int) (d : Int) (hd : d = digP ms) (w : World) (hO : Ow w base g bs 5) (hB : Bs bs) (hl : bs.length = 32) (hi : i < 16) (hM : Sl w vm ms) (hMB : Bs ms) (hml : ms.length ≤ 1000) :
    Calls Tryd.prog 15 #[.pointer (some ⟨g, 0, none⟩), .int .i64 i, vm] w fun e w' => ∃ v, e = .returned v ∧ SigV w' v i (sgnP bs i d) (pthP bs i 4) ∧ Kp [] w w' := by
  obtain ⟨sa, sn, sc, gl, lc, h0, h1, hS, hLv⟩ := hO.lv
  obtain ⟨ob, hob⟩ : ∃ o : Obj, o = (.cells #[.int .i64 0, .slice none 0 0, .slice none 0 0] 33) := ⟨_, rfl⟩
  have K1 : Kp [] w (w.alloc ob) := (Kp.refl [] w).alloc ob
  have HC := hide (refsign_any (.slice sa sn sc) bs i vm ms d hd (w.alloc ob) (hS.kept K1 (by simp)) hB (by omega) (hM.kept K1 (by simp)) hMB hml)
  have hc0 : (w.alloc ob).cell? ⟨g, 0, none⟩ = some (.slice sa sn sc) := K1.cell h0 (by simp)
  have G1 : Hid ((w.alloc ob).heap[w.heap.size]? = some ob) := heap_alloc_new w ob
  rw [hob] at K1 HC hc0 G1
  have HK1 := hide K1
  have HLV := hide hLv
  have H1 := hide h1
  obtain ⟨am, cm, hvm, _⟩ := hM
  obtain ⟨nm, hnm⟩ : ∃ n, n = ms.length := ⟨_, rfl⟩
  rw [← hnm] at hvm
  subst hvm
  clear hob K1 hO hB hMB hd hnm h0 h1 hS hLv
  go_enter Tryd.func15, Tryd.ntmps15
  go_wp2_with fail
  refine (unhide HC).mono ?_
  rintro ee w2 ⟨a2, m2, c2, rfl, A2⟩
  have HK2 := hide ((unhide HK1).trans A2.kp)
  have HG2 := hide (A2.kp.heap (unhide G1) (by simp))
  have HL2 : Hid (∃ l, Lists w2 (.slice a2 m2 c2) l ∧ l.map (·.2) = sgnP bs i d ∧ (∀ q, (Value.slice a2 m2 c2).ownBlock = some q → w.heap.size < q ∧ q < w2.heap.size) ∧ ∀ x ∈ l, ∀ q, x.1.ownBlock = some q → w.heap.size < q ∧ q < w2.heap.size) := by
    obtain ⟨l, k1, k2, _⟩ := A2
    have hz : ∀ o : Obj, (w.alloc o).heap.size = w.heap.size + 1 := fun o => by simp
    refine ⟨l, k1.lists (by rw [← List.length_map (f := (·.2)), k2, sgnP, ptsP_len]; omega), k2, fun q hq => ?_, fun x hx q hq => ?_⟩
    · have := k1.1.own q hq; have := k1.1.lt hq; rw [hz] at *; omega
    · have := (k1.2 x hx).1.own q hq; have := (k1.2 x hx).1.lt hq; rw [hz] at *; omega
  have Ga := heap_alloc_new w2 (.cells #[.int .i64 0, .slice none 0 0, .slice none 0 0] 33)
  have HKa : Hid (Kp [] w2 (w2.alloc (.cells #[.int .i64 0, .slice none 0 0, .slice none 0 0] 33))) := (Kp.refl [] w2).alloc _
  clear HC A2 HK1 G1 hc0
  go_wp2_with (refine wpList_store_sig rfl (.tmp 7) (.tmp 17) rfl w2.heap.size rfl _ _ _ _ _ _ Ga rfl ⟨rfl, rfl, rfl⟩ ?_; intro w3 G3 K3)
  obtain ⟨gs, hgs⟩ : ∃ gs, gs = w2.heap.size := ⟨_, rfl⟩
  have hz2 : ∀ o : Obj, (w2.alloc o).heap.size = w2.heap.size + 1 := fun o => by simp
  have hs3 : gs < w3.heap.size := by rw [hgs]; exact (Array.getElem?_eq_some_iff.1 G3).1
  have hws : w.heap.size < gs := by rw [hgs]; exact (Array.getElem?_eq_some_iff.1 (unhide HG2)).1
  have HK3 : Hid (Kp [] w w3) := ((unhide HK2).trans (unhide HKa)).then K3 (fun i hi => .inr (by simp at hi; omega))
  have HQ3 : Hid (Kp [gs] w2 w3) := by rw [hgs]; exact ((unhide HKa).mono (by simp)).trans K3
  rw [← hgs] at G3 ⊢
  have HG3 := hide G3
  have A3 : Hid (AccS [gs] (· < w.heap.size) w3 (pthP bs i 0) (.slice none 0 0) w3) := ⟨[], ⟨⟨rfl, .inl ⟨rfl, rfl⟩⟩, fun x hx => by cases hx⟩, rfl, Kp.refl _ _, fun x hx => by cases hx⟩
  have HGS := hide hgs
  clear Ga HKa G3 K3 hz2 hgs
  go_wp2_with fail
  go_loopw [8] (fun j wr => ∃ (h m cc : Nat) (ao : Option Addr), h ≤ 4 ∧ j = .int .i64 h ∧ AccS [gs] (· < w.heap.size) w3 (pthP bs i h) (.slice ao m cc) wr ∧ wr.heap[gs]? = some (.cells #[.int .i64 i, .slice a2 m2 c2, .slice ao m cc] 33 (0, 0))) (fun j _ => 4 - (intOf j).toNat)
  case atStart => exact ⟨0, 0, 0, none, by omega, rfl, unhide A3, unhide HG3⟩
  case round =>
    clear A3 HG3
    obtain ⟨h, m, cc, ao, hh, rfl, Ar, Gr⟩ := hrel
    have HA := hide Ar
    have HGr := hide Gr
    have HKr : Hid (Kp [] w wr) := (unhide HK3).then Ar.kp (fun i hi => .inr (by simp at hi; omega))
    clear Ar Gr
    by_cases hlt : h < 4
    · have hlt2 : (h : Int) < 4 := by omega
      have hx16 : i / 2 ^ h < 16 := Nat.lt_of_le_of_lt (Nat.div_le_self _ _) hi
      have hsl : sibP (i / 2 ^ h) < (lvP bs h).length := by rw [lvP_len]; exact sib_lv hi hlt
      have hxor := sib_xor _ hx16
      have hE := pthP_succ bs i h
      obtain ⟨b, off, nl, cl, ax, nx, cx, k1, k2, k3, k4, k5, k6⟩ := unhide HLV h (by omega) _ hsl
      have hshr : (i : Int) / 2 ^ h = ((i / 2 ^ h : Nat) : Int) := by rw [Int.natCast_ediv, Int.natCast_pow]; rfl
      rw [← k2] at hsl
      obtain ⟨x, hx⟩ : ∃ x, x = i / 2 ^ h := ⟨_, rfl⟩
      obtain ⟨s, hs⟩ : ∃ s, s = sibP x := ⟨_, rfl⟩
      rw [← hx] at hxor hsl hE k3 k4 k5 hshr hx16
      rw [← hs] at hxor hsl hE k3 k4 k5
      have hsi : (s : Int) < (nl : Int) := by omega
      obtain ⟨X, hX⟩ : ∃ X, X = (lvP bs h).getD s [] := ⟨_, rfl⟩
      rw [← hX] at hE k4 k5
      have HE := hide hE
      have HLN : Hid ((pthP bs i h).length ≤ 1000000) := by rw [pthP_len]; show h ≤ 1000000; omega
      have hc1 : wr.cell? ⟨g, 1, none⟩ = some (.slice (some ⟨gl, 0, none⟩) 5 lc) := (unhide HKr).cell (unhide H1) (by simp)
      have hc2 : wr.cell? ⟨gl, h, none⟩ = some (.slice (some ⟨b, off, none⟩) nl cl) := (unhide HKr).cell k1 (by simp)
      have hc3 : wr.cell? ⟨b, off + s, none⟩ = some (.slice ax nx cx) := (unhide HKr).cell k3 (by simp)
      have hc4 : wr.cell? ⟨gs, 2, none⟩ = some (.slice ao m cc) := by rw [cell_of_row wr gs 2 _ _ _ (unhide HGr)]; rfl
      have hlt5 : (h : Int) < 5 := by omega
      have hw64 : IntKind.u64.wrap (h : Int) = (h : Int) := by simp [IntKind.wrap, IntKind.signed, IntKind.bits]; omega
      have hmin : min h 64 = h := by omega
      have hgr : gs < wr.heap.size := (Array.getElem?_eq_some_iff.1 (unhide HGr)).1
      have hca : ∀ o, (wr.alloc o).cell? ⟨gs, 2, none⟩ = some (.slice ao m cc) := fun o => (World.cell?_alloc_lt _ _ _ (by exact hgr)).trans hc4
      have HSx := hide (k4.kept (unhide HKr) (by simp))
      have HBx := hide k5
      have HFx := hide k6
      have HAP : Hid (∀ q, (Value.slice ax nx cx).ownBlock = some q → (Value.slice ao m cc).ownBlock = some q → X = []) := fun q h1 h2 => by
        obtain ⟨_, hR, _⟩ := unhide HA
        have := hR.1.own q h2
        have := k6 q h1
        have := (unhide HK3).size
        omega
      clear hE k1 k2 k3 k4 k5 k6 hX hs hx
      go_wp2_with fail
      go_region_law ((refine step_accs (by rfl) (.tmp 23) (.tmp 38) (by rfl) (.slice ao m cc) _ (by rfl) (unhide HA) (unhide HLN) (.slice ax nx cx) X (unhide HSx) (unhide HBx) (unhide HAP) (unhide HFx) wr.heap.size (by rfl) (by exact cell_of_one (heap_alloc_new wr _)) (((Kp.refl [] wr).alloc _).drew) ?_; intro ao5 m5 c5 w5 A5 S5; have G5 : w5.heap[gs]? = some (.cells #[.int .i64 i, .slice a2 m2 c2, .slice ao m cc] 33 (0, 0)) := (S5.1.heap (unhide HGr) (fun hm => (by obtain ⟨_, hR, _⟩ := unhide HA; have := hR.1.own gs (by simpa using hm); omega))); have hc5 : w5.cell? ⟨gs, 2, none⟩ = some (.slice ao m cc) := (by rw [cell_of_row w5 gs 2 _ _ _ G5]; rfl); have hf5 : w5.frozen? ⟨gs, 2, none⟩ = false := frozen_of_row w5 gs 2 _ _ G5))
      all_goals
        have G6 : (w5.setCell ⟨gs, 2, none⟩ (.slice ao5 m5 c5)).heap[gs]? = some (.cells #[.int .i64 i, .slice a2 m2 c2, .slice ao5 m5 c5] 33 (0, 0)) := by
          have := heap_setCell_same w5 gs 2 _ _ (.slice ao5 m5 c5) G5
          simpa using this
        have A6 := A5.off (setCell_kp w5 gs 2 (.slice ao5 m5 c5)) (by simp) (fun i hi e => by subst e; omega) hs3
        have HG6 := hide G6
        have HA6 := hide A6
        clear A5 S5 G5 G6 A6 hc1 hc2 hc3 hc4 hca hc5 hf5 hw64 hmin HSx HAP
        go_wp2_with fail
        go_roundw
        case rel => exact ⟨h + 1, m5, c5, ao5, by omega, by go_num, by rw [unhide HE]; exact unhide HA6, unhide HG6⟩
        case measure => simp [intOf]; omega
    · obtain rfl : h = 4 := by omega
      have HV : Hid (∀ w', Kp [w.heap.size] wr w' → SigV w' (.agg #[.int .i64 i, .slice a2 m2 c2, .slice ao m cc]) i (sgnP bs i d) (pthP bs i 4)) := by
        intro w' k'
        obtain ⟨lp, p1, p2, p3, p4⟩ := unhide HL2
        obtain ⟨lq, q1, q2, q3, q4⟩ := (unhide HA).lists (by rw [pthP_len]; omega)
        have hg := unhide HGS
        have pr := (p1.off (unhide HQ3) (fun q hq => by have := p3 q hq; simp; omega) (fun y hy q hq => by have := p4 y hy q hq; simp; omega)).off (unhide HA).kp (fun q hq => by have := p3 q hq; simp; omega) (fun y hy q hq => by have := p4 y hy q hq; simp; omega)
        refine ⟨_, _, lp, lq, rfl, pr.off k' (fun q hq => by have := p3 q hq; simp; omega) (fun y hy q hq => by have := p4 y hy q hq; simp; omega), p2, q1.off k' (fun q hq => ?_) (fun y hy q hq => ?_), q2⟩
        · have := q3 q hq; have := (unhide HK3).size; simp; omega
        · have := q4 y hy q hq; simp; omega
      have G0 : wr.heap[w.heap.size]? = some (.cells #[.int .i64 0, .slice none 0 0, .slice none 0 0] 33) := (unhide HA).kp.heap ((unhide HQ3).heap (unhide HG2) (by simp; omega)) (by simp; omega)
      clear HLV H1 HA
      go_wp2_with (refine wpList_load_row rfl 33 (.tmp 7) rfl gs rfl 33 _ (0, 0) _ (unhide HGr) Tryd.underlying33 rfl Tryd.sigSize ?_; refine Hid.out ?_)
      refine hide ?_
      go_wp2_with (refine wpList_store_sig rfl (.tmp 6) (.tmp 41) rfl w.heap.size rfl _ _ _ _ _ _ G0 rfl ⟨rfl, rfl, rfl⟩ ?_; intro w4 G4 K4)
      refine bodyPost_ret (results_sig1 rfl _ _ w.heap.size _ _ _ (0, 0) rfl G4) rfl ?_
      exact ⟨_, rfl, unhide HV w4 K4, (unhide HKr).then K4 (by simp)⟩
end Go.Proofs.YtdioaohejoflcaaDoor
