/-
  The contracts of package wire's Byte and Bytes of a writer and of a reader, and End, over this seat's program.
-/
import Derived.Test.YtioflclfgkcpfaaDoorKLMan
import Derived.Test.YtioflclfgkcpfaaDoorKLSmalls
import Derived.Test.YtioflclfgkcpfaaDoorKMSpecs
namespace Go.Proofs.YtioflclfgkcpfaaDoor
open Go.RowKit
open Go.Proofs

theorem be_two (n : Int) : be n 2 0 = [n / 256 % 256, n % 256] := by simp [be, byteAt, List.range_succ]
theorem bytes_ok (p : Nat) (v : Value) (bs : List Int) (vb : Value) (cs : List Int) (w : World) (hw : Wr w p v bs) (hs : Sl w vb cs) (hk : ∀ w1, Kp (p :: v.ownBlock.toList) w w1 → Sl w1 vb cs) (hb : bs.length + cs.length ≤ 100000000000000) (hl : cs.length ≤ 65535) :
    Calls Tryd.prog 27 #[.pointer (some ⟨p, 0, none⟩), vb] w fun e w' => e = .returned (.bool true) ∧ ∃ v', Wr w' p v' (bs ++ be cs.length 2 0 ++ cs) ∧ Step p w v w' v' := by
  obtain ⟨ao, c, rfl, h1, h2, h3, h4⟩ := hs
  have hw32 : IntKind.u32.wrap (cs.length : Int) = cs.length := by simp [IntKind.wrap, IntKind.signed, IntKind.bits]; omega
  have hle : (cs.length : Int) ≤ 65535 := by omega
  clear h4 h3 h2
  go_enter Tryd.func27, Tryd.ntmps27
  go_wp2_with (go_at_call 47; refine (number_any p cs.length 2 v bs _ hw (by omega) (by omega)).mono ?_; rintro e w1 ⟨rfl, v1, k1, k2⟩)
  go_wp2_with (go_at_call 29; refine (raw_any p v1 _ _ cs _ k1 (hk _ k2.1) (by rw [List.length_append, be_length]; omega)).mono ?_; rintro e w2 ⟨rfl, v2, k3, k4⟩)
  go_ret
  exact ⟨rfl, v2, k3, k2.trans k4⟩
theorem val_two (cs : List Int) (h : Bs cs) (hl : cs.length ≤ 2) : 0 ≤ val cs ∧ val cs ≤ 65535 := by
  have h1 := val_bd cs h
  have : cs.length = 0 ∨ cs.length = 1 ∨ cs.length = 2 := by omega
  rcases this with e | e | e <;> rw [e] at h1 <;> omega
theorem rbytes_any (q : Nat) (v : Value) (bad : Bool) (bs : List Int) (most : Int) (w : World) (hR : Rd w q v bad bs) (hB : Bs bs) (hb : bs.length ≤ 140737488355328) :
    Calls Tryd.prog 37 #[.pointer (some ⟨q, 0, none⟩), .int .i64 most] w fun e w' => ∃ ao c, e = .returned (.slice ao (tkb bad bs most).1.length c) ∧ Own w w' (.slice ao (tkb bad bs most).1.length c) (tkb bad bs most).1 ∧ Left w q v (tkb bad bs most).2 w' := by
  have hv := val_two (tk bad bs 2).1 (tk_bs1 hB) (@tk_len1 bad bs 2)
  have hl2 : (tk bad bs 2).2.2.length ≤ 140737488355328 := by have := @tk_len bad bs 2; omega
  obtain ⟨t, ht⟩ : ∃ t, t = tk bad bs 2 := ⟨_, rfl⟩
  have hw64 : IntKind.i64.wrap (val t.1) = val t.1 := by rw [ht]; simp [IntKind.wrap, IntKind.signed, IntKind.bits]; omega
  rw [← ht] at hv hl2
  have HT : Hid (t = tk bad bs 2) := ht
  have h2 : (tkb bad bs most) = if max most 0 < val t.1 then ([], true, []) else tk t.2.1 t.2.2 (val t.1) := by unfold tkb; rw [ht]
  clear ht
  obtain ⟨x, hx⟩ : ∃ x, x = val t.1 := ⟨_, rfl⟩
  rw [← hx] at hv hw64 h2
  have HX : Hid (x = val t.1) := hx
  clear hx
  obtain ⟨hv0, hv1⟩ := hv
  by_cases hm : max most 0 < x
  · rw [if_pos hm] at h2
    rw [h2]
    have hm2 : ¬ x ≤ max most 0 := by omega
    clear h2
    go_enter Tryd.func37, Tryd.ntmps37
    go_wp2_with fail
    refine (rnumber_any q v bad bs 2 _ hR (by omega) (by omega) hB).mono ?_
    rintro e w1 ⟨rfl, hL⟩
    rw [show ((2 : Nat) : Int) = 2 from rfl, ← HT.out] at hL
    rw [show ((2 : Nat) : Int) = 2 from rfl, ← HT.out, ← HX.out]
    go_wp2_with fail
    all_goals
      obtain ⟨⟨v1, r1, o1⟩, k1⟩ := hL
      refine (spoil_any q v1 _ _ _ r1).mono ?_
      rintro e w2 ⟨rfl, r2, k2⟩
      go_wp2_with fail
      refine (raw_ok q _ true [] x _ r2 (by simp)).mono ?_
      rw [tk_no true [] x (.inr (by simp; omega))]
      rintro e w3 ⟨ao, c, rfl, hO, hL3⟩
      go_wp2_with fail
      go_ret
      exact ⟨ao, c, rfl, ⟨hO.1, fun k hk => Nat.le_trans (k1.trans k2).size (hO.2 k hk)⟩, ⟨⟨_, hL3.1.choose_spec.1, fun k hk => (by have := hL3.1.choose_spec.2 k hk; cases this)⟩, (k1.trans k2).trans hL3.2⟩⟩
  · rw [if_neg hm] at h2
    rw [h2]
    clear h2
    go_enter Tryd.func37, Tryd.ntmps37
    go_wp2_with fail
    refine (rnumber_any q v bad bs 2 _ hR (by omega) (by omega) hB).mono ?_
    rintro e w1 ⟨rfl, hL⟩
    rw [show ((2 : Nat) : Int) = 2 from rfl, ← HT.out] at hL
    rw [show ((2 : Nat) : Int) = 2 from rfl, ← HT.out, ← HX.out]
    go_wp2_with fail
    all_goals
      obtain ⟨⟨v1, r1, o1⟩, k1⟩ := hL
      refine (raw_ok q v1 _ _ x _ r1 hl2).mono ?_
      rintro e w3 ⟨ao, c, rfl, hO, hL3⟩
      go_wp2_with fail
      go_ret
      exact ⟨ao, c, rfl, ⟨hO.1, fun k hk => Nat.le_trans k1.size (hO.2 k hk)⟩, ⟨⟨_, hL3.1.choose_spec.1, fun k hk => o1 k (hL3.1.choose_spec.2 k hk)⟩, k1.trans hL3.2⟩⟩
theorem wbyte_any (p : Nat) (n : Int) (v : Value) (bs : List Int) (w : World) (hw : Wr w p v bs) (hb : bs.length ≤ 100000000000000) (h0 : 0 ≤ n) (h1 : n ≤ 255) :
    Calls Tryd.prog 26 #[.pointer (some ⟨p, 0, none⟩), .int .u8 n] w fun e w' => e = .returned (.tuple #[]) ∧ ∃ v', Wr w' p v' (bs ++ [n]) ∧ Step p w v w' v' := by
  have hw32 : IntKind.u32.wrap n = n := by simp [IntKind.wrap, IntKind.signed, IntKind.bits]; omega
  have hbe : be n 1 0 = [n] := by simp [be, byteAt]; omega
  go_enter Tryd.func26, Tryd.ntmps26
  go_wp2_with (go_at_call 47; refine (number_any p n 1 v bs _ hw (by omega) hb).mono ?_; rintro e w' ⟨rfl, v', h1, h2⟩)
  go_end0
  rw [hbe] at h1
  exact ⟨rfl, v', h1, h2⟩
theorem rbyte_any (q : Nat) (v : Value) (bad : Bool) (bs : List Int) (w : World) (hR : Rd w q v bad bs) (hB : Bs bs) :
    Calls Tryd.prog 36 #[.pointer (some ⟨q, 0, none⟩)] w fun e w' => e = .returned (.int .u8 (val (tk bad bs 1).1)) ∧ Left w q v (tk bad bs 1).2 w' := by
  have hv := val_one (tk bad bs 1).1 (tk_bs1 hB) (@tk_len1 bad bs 1)
  go_enter Tryd.func36, Tryd.ntmps36
  go_wp2_with (go_at_call 49; refine (rnumber_any q v bad bs 1 _ hR (by omega) (by omega) hB).mono ?_; rintro e w1 ⟨rfl, h1⟩)
  go_ret
  exact ⟨rfl, h1⟩
theorem end_any (q : Nat) (v : Value) (bad : Bool) (bs : List Int) (w : World) (h : Rd w q v bad bs) :
    Calls Tryd.prog 40 #[.pointer (some ⟨q, 0, none⟩)] w fun e w' => e = .returned (.bool (!bad && bs.isEmpty)) ∧ w' = w := by
  obtain ⟨ao, c, rfl, h1, h2, h3, h4⟩ := h.2.1
  have hc0 := (cell_of_two h.1).1
  have hc1 := (cell_of_two h.1).2
  clear h4 h3 h
  cases bad with
  | true =>
    go_enter Tryd.func40, Tryd.ntmps40
    go_wp2
    go_ret
    exact ⟨rfl, rfl⟩
  | false =>
    cases bs with
    | nil =>
      go_enter Tryd.func40, Tryd.ntmps40
      go_wp2
      go_ret
      exact ⟨rfl, rfl⟩
    | cons b bs =>
      have hl : (((bs.length : Int) + 1) == 0) = false := by rw [beq_eq_false_iff_ne]; omega
      go_enter Tryd.func40, Tryd.ntmps40
      go_wp2
      go_ret
      exact ⟨rfl, rfl⟩
end Go.Proofs.YtioflclfgkcpfaaDoor

/-
  The contracts of package manifest's isName and Right.
-/
namespace Go.Proofs.YtioflclfgkcpfaaDoor
open Go.RowKit
open Go.Proofs

theorem lowP_bad {ns : List Int} (k : Nat) (h : k < ns.length) (hb : ns[k] < 97 ∨ 122 < ns[k]) : nameP ns = false := by
  have : lowP ns = false := by
    unfold lowP
    rw [List.all_eq_false]
    refine ⟨ns[k], List.getElem_mem h, ?_⟩
    simp only [Bool.and_eq_true, decide_eq_true_eq]
    omega
  unfold nameP
  rw [this, Bool.and_false]
theorem lowP_good {ns : List Int} (h1 : 1 ≤ ns.length) (h2 : ns.length ≤ 20) (hb : ∀ i (h : i < ns.length), 97 ≤ ns[i] ∧ ns[i] ≤ 122) : nameP ns = true := by
  unfold nameP lowP
  simp only [Bool.and_eq_true, decide_eq_true_eq, List.all_eq_true]
  refine ⟨⟨h1, h2⟩, fun x hx => ?_⟩
  obtain ⟨i, hi, rfl⟩ := List.getElem_of_mem hx
  exact hb i hi
theorem nameP_long {ns : List Int} (h : ns.length < 1 ∨ 20 < ns.length) : nameP ns = false := by
  unfold nameP
  cases hc : decide (1 ≤ ns.length) && decide (ns.length ≤ 20)
  · rw [Bool.false_and]
  · simp only [Bool.and_eq_true, decide_eq_true_eq] at hc; omega

set_option maxRecDepth 100000 in
set_option maxHeartbeats 1000000 in
theorem isName_any (S : ByteArray) (b : Bool) (hb : b = nameP (nums S)) (w : World) :
    Calls Tryd.prog 32 #[.string S] w fun e w' => e = .returned (.bool b) ∧ Kp [] w w' := by
  by_cases hN : 1 ≤ S.size ∧ S.size ≤ 20
  · obtain ⟨c, w1, hcv, S1, K1⟩ := conv_of_string S w (by omega)
    obtain ⟨hN1, hN2⟩ := hN
    have hlt1 : ¬ (S.size : Int) < 1 := by omega
    have hgt1 : ¬ (20 : Int) < (S.size : Int) := by omega
    obtain ⟨bk, off, e1, e2, hcell⟩ := S1.at2 (by omega)
    injection e1 with e1
    injection e1 with ea eb ec
    subst ea
    subst eb
    have hl : (nums S).length = S.size := nums_len S
    have HB := hide hb
    have HC := hide hcell
    have HL := hide hl
    have HBS := hide (nums_bs S)
    have HK := hide K1
    clear hb hcell hl S1 e2 K1
    go_enter Tryd.func32, Tryd.ntmps32
    go_wp2_with fail
    go_loopw [4, 16] (fun _ i wr => ∃ k : Nat, k ≤ S.size ∧ i = .int .i64 k ∧ (∀ i (h : i < (nums S).length), i < k → 97 ≤ (nums S)[i] ∧ (nums S)[i] ≤ 122) ∧ wr = w1) (fun _ i _ => S.size - (intOf i).toNat)
    case atStart => exact ⟨0, by omega, rfl, (fun i h h' => by omega), rfl⟩
    case round =>
      obtain ⟨k, hk, rfl, hgood, hw⟩ := hrel
      subst wr
      have HGood := hide hgood
      clear hgood
      by_cases hlt : k < S.size
      · have hlt2 : (k : Int) < (S.size : Int) := by omega
        have hkl : k < (nums S).length := by have := unhide HL; omega
        have hc := unhide HC k hkl
        rw [Nat.zero_add] at hc
        obtain ⟨x, hx⟩ : ∃ x, x = (nums S)[k] := ⟨_, rfl⟩
        have hx0 := unhide HBS _ (List.getElem_mem hkl)
        have HX := hide hx
        rw [← hx] at hc hx0
        obtain ⟨hx0, hx1⟩ := hx0
        clear hx
        by_cases h1 : x < 97
        · have hbad := hide (lowP_bad k hkl (.inl (by rw [← unhide HX]; exact h1)))
          have hd : decide (x < 97) = true := decide_eq_true h1
          go_wp2_with fail
          go_ret
          exact ⟨by rw [unhide HB, unhide hbad]; rfl, unhide HK⟩
        · have hd : decide (x < 97) = false := decide_eq_false h1
          by_cases h2 : 122 < x
          · have hbad := hide (lowP_bad k hkl (.inr (by rw [← unhide HX]; exact h2)))
            have hd2 : decide (122 < x) = true := decide_eq_true h2
            go_wp2_with fail
            go_ret
            exact ⟨by rw [unhide HB, unhide hbad]; rfl, unhide HK⟩
          · have hd2 : decide (122 < x) = false := decide_eq_false h2
            go_wp2_with fail
            go_roundw
            case rel =>
              refine ⟨k + 1, by omega, by go_num, fun i hi hik => ?_, by trivial⟩
              rcases Nat.lt_or_ge i k with h | h
              · exact unhide HGood i hi h
              · obtain rfl : i = k := by omega
                rw [← unhide HX]; omega
            case measure => simp [intOf]; omega
      · obtain rfl : k = S.size := by omega
        have hgd := hide (lowP_good (ns := nums S) (by have := unhide HL; omega) (by have := unhide HL; omega) (fun i hi => unhide HGood i hi (by have := unhide HL; omega)))
        have hlt2 : ¬ (S.size : Int) < (S.size : Int) := by omega
        go_wp2_with fail
        go_ret
        exact ⟨by rw [unhide HB, unhide hgd]; rfl, unhide HK⟩
  · have hbad : nameP (nums S) = false := nameP_long (by rw [nums_len]; omega)
    rw [hbad] at hb
    subst hb
    by_cases h1 : S.size < 1
    · have h1' : (S.size : Int) < 1 := by omega
      go_enter Tryd.func32, Tryd.ntmps32
      go_wp2_with fail
      go_ret
      exact ⟨rfl, Kp.refl _ _⟩
    · have h1' : ¬ (S.size : Int) < 1 := by omega
      have h2' : (20 : Int) < (S.size : Int) := by omega
      go_enter Tryd.func32, Tryd.ntmps32
      go_wp2_with fail
      go_ret
      exact ⟨rfl, Kp.refl _ _⟩

set_option maxRecDepth 100000 in
set_option maxHeartbeats 1000000 in
theorem mright_any (v : Value) (m : Mf) (b : Bool) (hb : b = rgtM m) (w : World) (hV : MV w v m) :
    Calls Tryd.prog 16 #[v] w fun e w' => e = .returned (.bool b) ∧ Kp [] w w' := by
  obtain ⟨af, nf, cf, an, nn, cn, rfl, hF, hNt, hok⟩ := hV
  have hnf := sl_nlen hF
  have hnn := sl_nlen hNt
  obtain ⟨s, x, f, n⟩ := m
  simp only at hF hNt hnf hnn ⊢
  obtain ⟨bn, hbn⟩ : ∃ bn, bn = nameP (nums s) := ⟨_, rfl⟩
  have hb2 : b = (bn && decide (0 < x) && decide (nf = 32) && decide (nn ≤ 64)) := by rw [hb, hbn, hnf, hnn]; rfl
  have hx0 : 0 ≤ x := hok.v0
  obtain ⟨ob, hob⟩ : ∃ o : Obj, o = (.cells #[.string s, .int .u32 x, .slice af nf cf, .slice an nn cn] 25) := ⟨_, rfl⟩
  have K1 : Kp [] w (w.alloc ob) := (Kp.refl [] w).alloc ob
  have HI := hide (isName_any s bn hbn (w.alloc ob))
  have G1 : Hid ((w.alloc ob).heap[w.heap.size]? = some (.cells #[.string s, .int .u32 x, .slice af nf cf, .slice an nn cn] 25 (0, 0))) := by rw [hob]; exact heap_alloc_new w _
  rw [hob] at K1 HI G1
  have HK1 := hide K1
  have HB := hide hb2
  have hcf : (cf : Int) ≤ 9223372036854775807 := by obtain ⟨_, _, e, h1, h2, _⟩ := hF; injection e with _ _ e3; unfold maxLen at h2; omega
  have hfc : (nf : Int) ≤ 9223372036854775807 := by obtain ⟨_, _, e, h1, h2, _⟩ := hF; injection e with _ e2 e3; unfold maxLen at h2; omega
  have hnc : (nn : Int) ≤ 9223372036854775807 := by obtain ⟨_, _, e, h1, h2, _⟩ := hNt; injection e with _ e2 e3; unfold maxLen at h2; omega
  clear hob K1 hb hb2 hbn hF hNt hok hnf hnn
  cases bn
  · have HE : Hid (b = false) := hide (by rw [unhide HB]; rfl)
    clear HB
    go_enter Tryd.func16, Tryd.ntmps16
    go_wp2_with fail
    refine (unhide HI).mono ?_
    rintro ee w2 ⟨rfl, K2⟩
    have HK2 := hide ((unhide HK1).trans K2)
    obtain ⟨-, e1, e2, e3⟩ := cell_man (K2.heap (unhide G1) (by simp))
    clear HI K2 HK1 G1
    go_wp2_with fail
    go_ret
    exact ⟨by rw [unhide HE]; rfl, unhide HK2⟩
  · by_cases h1 : 0 < x
    · by_cases h2 : nf = 32
      · have h2i : (nf : Int) = 32 := by omega
        by_cases h3 : nn ≤ 64
        · have h3i : (nn : Int) ≤ 64 := by omega
          have HE : Hid (b = true) := hide (by rw [unhide HB]; simp [h1, h2, h3])
          clear HB
          subst h2
          go_enter Tryd.func16, Tryd.ntmps16
          go_wp2_with fail
          refine (unhide HI).mono ?_
          rintro ee w2 ⟨rfl, K2⟩
          have HK2 := hide ((unhide HK1).trans K2)
          obtain ⟨-, e1, e2, e3⟩ := cell_man (K2.heap (unhide G1) (by simp))
          clear HI K2 HK1 G1
          go_wp2_with fail
          go_ret
          exact ⟨by rw [unhide HE]; rfl, unhide HK2⟩
        · have h3i : (64 : Int) < (nn : Int) := by omega
          have HE : Hid (b = false) := hide (by rw [unhide HB]; simp [h3])
          clear HB
          subst h2
          go_enter Tryd.func16, Tryd.ntmps16
          go_wp2_with fail
          refine (unhide HI).mono ?_
          rintro ee w2 ⟨rfl, K2⟩
          have HK2 := hide ((unhide HK1).trans K2)
          obtain ⟨-, e1, e2, e3⟩ := cell_man (K2.heap (unhide G1) (by simp))
          clear HI K2 HK1 G1
          go_wp2_with fail
          go_ret
          exact ⟨by rw [unhide HE]; exact congrArg (fun t => Ending.returned (Value.bool t)) (decide_eq_false (by omega)), unhide HK2⟩
      · have h2i : ¬ (nf : Int) = 32 := by omega
        have HE : Hid (b = false) := hide (by rw [unhide HB]; simp [h2])
        clear HB
        go_enter Tryd.func16, Tryd.ntmps16
        go_wp2_with fail
        refine (unhide HI).mono ?_
        rintro ee w2 ⟨rfl, K2⟩
        have HK2 := hide ((unhide HK1).trans K2)
        obtain ⟨-, e1, e2, e3⟩ := cell_man (K2.heap (unhide G1) (by simp))
        clear HI K2 HK1 G1
        go_wp2_with fail
        go_ret
        exact ⟨by rw [unhide HE]; rfl, unhide HK2⟩
    · obtain rfl : x = 0 := by omega
      have HE : Hid (b = false) := hide (by rw [unhide HB]; rfl)
      clear HB
      go_enter Tryd.func16, Tryd.ntmps16
      go_wp2_with fail
      refine (unhide HI).mono ?_
      rintro ee w2 ⟨rfl, K2⟩
      have HK2 := hide ((unhide HK1).trans K2)
      obtain ⟨-, e1, e2, e3⟩ := cell_man (K2.heap (unhide G1) (by simp))
      clear HI K2 HK1 G1
      go_wp2_with fail
      go_ret
      exact ⟨by rw [unhide HE]; rfl, unhide HK2⟩
end Go.Proofs.YtioflclfgkcpfaaDoor

/-
  The contract of package manifest's Encode.
-/
namespace Go.Proofs.YtioflclfgkcpfaaDoor
open Go.RowKit
open Go.Proofs

theorem be_2 (n : Int) : be n 2 0 = be2 n := be_two n

set_option maxRecDepth 100000 in
set_option maxHeartbeats 2000000 in
theorem mencode_ok (v : Value) (m : Mf) (hr : rgtM m = true) (w : World) (hV : MV w v m) :
    Calls Tryd.prog 14 #[v] w fun e w' => ∃ ao k c, e = .returned (.tuple #[.slice ao k c, .int .i64 0]) ∧ Row w' w.heap.size (.slice ao k c) (encM m) ∧ Kp [] w w' := by
  have hV0 := hV
  obtain ⟨af, nf, cf, an, nn, cn, rfl, hF, hNt, hok⟩ := hV
  obtain ⟨hnm, hv0, hfl, hnl⟩ := (rgtM_iff m).1 hr
  have hnl2 := nameP_len hnm
  rw [nums_len] at hnl2
  obtain ⟨ob, hob⟩ : ∃ o : Obj, o = (.cells #[.string m.s, .int .u32 m.v, .slice af nf cf, .slice an nn cn] 25) := ⟨_, rfl⟩
  have K1 : Kp [] w (w.alloc ob) := (Kp.refl [] w).alloc ob
  have HR := hide (mright_any _ m true hr.symm (w.alloc ob) (hV0.kept K1))
  have G1 : (w.alloc ob).heap[w.heap.size]? = some (.cells #[.string m.s, .int .u32 m.v, .slice af nf cf, .slice an nn cn] 25 (0, 0)) := by rw [hob]; exact heap_alloc_new w _
  have hl1 := load_man G1
  have HG1 := hide G1
  rw [hob] at K1 HR hl1 HG1
  have HK1 := hide K1
  have HF := hide hF
  have HNt := hide hNt
  have hE : encM m = [77] ++ (be2 (nums m.s).length ++ nums m.s) ++ be4 m.v ++ m.f ++ (be2 m.n.length ++ m.n) := rfl
  obtain ⟨s, x, f, n⟩ := m
  simp only at hF hNt hfl hnl hnl2 hv0 hE HF HNt HG1 hl1 HR ⊢
  have HE := hide hE
  have HSL := hide hnl2
  have HFL := hide hfl
  have HNL := hide hnl
  have HNS := hide (nums_len s)
  clear hob K1 G1 hF hNt hV0 hr hnm hok hv0 hE hnl2 hfl hnl
  go_enter Tryd.func14, Tryd.ntmps14
  go_wp2_with fail
  refine (unhide HR).mono ?_
  rintro ee w2 ⟨rfl, K2⟩
  have HK2 := hide ((unhide HK1).trans K2)
  have HG2 := hide (K2.heap (unhide HG1) (by simp))
  clear HR K2 HK1 HG1 hl1
  go_wp2_with fail
  refine (new_abs w2).mono ?_
  rintro ee w3 ⟨p, rfl, W3, hp3, K3⟩
  have HW3 : Hid (Wn w2 w3 p (.slice none 0 0) []) := ⟨W3, K3, hp3, fun k hk => by cases hk⟩
  clear W3 hp3 K3
  go_wp2_with fail
  refine (wbyte_any p 77 _ [] w3 (unhide HW3).1 (by simp) (by omega) (by omega)).mono ?_
  rintro ee w4 ⟨rfl, v4, W4, S4⟩
  have HW4 := hide ((unhide HW3).step W4 S4)
  rw [List.nil_append] at HW4
  have e0 : w4.cell? ⟨w.heap.size, 0, none⟩ = some (.string s) := (cell_man ((unhide HW4).2.1.heap (unhide HG2) (by simp))).1
  obtain ⟨c5, w5, hcv, S5, K5⟩ := conv_of_string s w4 (by have := unhide HSL; omega)
  have HW5 := hide ((unhide HW4).kept K5)
  have HB5 := hide (bytes_ok p v4 [77] (.slice (some ⟨w4.heap.size, 0, none⟩) s.size c5) (nums s) w5 (unhide HW5).1 S5 (fun w1 k1 => S5.kept k1 (fun i hi hm => by
    have e : w4.heap.size = i := by simpa [Value.ownBlock] using hi
    simp only [List.mem_cons, Option.mem_toList] at hm
    rcases hm with hm | hm
    · have := (unhide HW4).1.lt; omega
    · have := ((unhide HW4).1.2.lt i hm).2; omega)) (by have := unhide HSL; rw [nums_len]; simp; omega) (by have := unhide HSL; rw [nums_len]; omega))
  clear W4 S4 HW3 HW4 S5 K5
  go_wp2_with fail
  refine (unhide HB5).mono ?_
  rintro ee w6 ⟨rfl, v6, W6, S6⟩
  have HW6 := hide ((unhide HW5).step W6 S6)
  rw [be_2, List.append_assoc] at HW6
  obtain ⟨L6, hL6⟩ : ∃ L, L = [77] ++ (be2 (nums s).length ++ nums s) := ⟨_, rfl⟩
  rw [← hL6] at HW6
  have hl6 : L6.length ≤ 23 := by rw [hL6]; simp only [List.length_append, List.length_cons, List.length_nil, be2, nums_len]; have := unhide HSL; omega
  have HE6 := hide hL6
  have e1 : w6.cell? ⟨w.heap.size, 1, none⟩ = some (.int .u32 x) := (cell_man ((unhide HW6).2.1.heap (unhide HG2) (by simp))).2.1
  have HC := hide (num_any p x v6 L6 w6 (unhide HW6).1 (by omega))
  have HLL := hide hl6
  clear W6 S6 HW5 HB5 e0 hcv hL6 hl6
  go_wp2_with fail
  refine (unhide HC).mono ?_
  rintro ee w7 ⟨rfl, v7, W7, S7⟩
  have HW7 := hide ((unhide HW6).step W7 S7)
  rw [be_4] at HW7
  have e2 : w7.cell? ⟨w.heap.size, 2, none⟩ = some (.slice af nf cf) := (cell_man ((unhide HW7).2.1.heap (unhide HG2) (by simp))).2.2.1
  have hl7 : (L6 ++ be4 x).length ≤ 27 := by rw [List.length_append]; have := unhide HLL; have : (be4 x).length = 4 := rfl; omega
  have HCr := hide (raw_any p v7 (L6 ++ be4 x) (.slice af nf cf) f w7 (unhide HW7).1 ((unhide HF).kept ((unhide HK2).trans (unhide HW7).2.1) (by simp)) (by have := unhide HFL; omega))
  have HL7 := hide hl7
  clear W7 S7 HW6 e1 HC hl7
  go_wp2_with fail
  refine (unhide HCr).mono ?_
  rintro ee w8 ⟨rfl, v8, W8, S8⟩
  have HW8 := hide ((unhide HW7).step W8 S8)
  have e3 : w8.cell? ⟨w.heap.size, 3, none⟩ = some (.slice an nn cn) := (cell_man ((unhide HW8).2.1.heap (unhide HG2) (by simp))).2.2.2
  have HCb := hide (bytes_ok p v8 (L6 ++ be4 x ++ f) (.slice an nn cn) n w8 (unhide HW8).1 ((unhide HNt).kept ((unhide HK2).trans (unhide HW8).2.1) (by simp)) (fun w1 k1 => (unhide HNt).kept ((unhide HK2).trans ((unhide HW8).kp k1)) (by simp)) (by rw [List.length_append]; have := unhide HL7; have := unhide HFL; have := unhide HNL; omega) (by have := unhide HNL; omega))
  clear W8 S8 HW7 e2 HCr
  go_wp2_with fail
  refine (unhide HCb).mono ?_
  rintro ee w9 ⟨rfl, v9, W9, S9⟩
  have HW9 := hide ((unhide HW8).step W9 S9)
  have hEE : L6 ++ be4 x ++ f ++ be n.length 2 0 ++ n = encM ⟨s, x, f, n⟩ := by rw [unhide HE, unhide HE6, be_2]; simp only [List.append_assoc]
  rw [hEE] at HW9
  have hlen : (encM ⟨s, x, f, n⟩).length ≤ 200 := by rw [encM_len]; simp only [nums_len]; have := unhide HFL; have := unhide HNL; have := unhide HSL; omega
  have HD := hide (done_any p v9 _ w9 (unhide HW9).1 (by omega))
  obtain ⟨EE, hEEq⟩ : ∃ E, E = encM ⟨s, x, f, n⟩ := ⟨_, rfl⟩
  obtain ⟨m7, hm7⟩ : ∃ m, m = EE.length := ⟨_, rfl⟩
  rw [← hEEq] at HD HW9
  have HQ := hide hEEq
  rw [← hm7] at HD
  have HM7 := hide hm7
  clear W9 S9 HW8 e3 HCb hEE hlen HE HE6 hEEq hm7
  go_wp2_with fail
  refine (unhide HD).mono ?_
  rintro ee wa ⟨aa, ca, rfl, Ra, Ka⟩
  have HRa : Hid (Row wa w9.heap.size (.slice aa m7 ca) EE) := by have := Ra; rw [unhide HM7] at this ⊢; exact this
  have HK9 := hide ((unhide HK2).trans (unhide HW9).2.1)
  have HKa := hide ((unhide HK9).trans Ka)
  clear Ra Ka HD HW9
  go_wp2_with fail
  go_ret2
  exact ⟨aa, m7, ca, rfl, by rw [← unhide HQ]; exact row_new (unhide HRa) (unhide HK9), unhide HKa⟩

set_option maxRecDepth 100000 in
set_option maxHeartbeats 1000000 in
theorem mencode_no (v : Value) (m : Mf) (hr : rgtM m = false) (w : World) (hV : MV w v m) :
    Calls Tryd.prog 14 #[v] w fun e w' => e = .returned (.tuple #[.slice none 0 0, .int .i64 12]) ∧ Kp [] w w' := by
  have hV0 := hV
  obtain ⟨af, nf, cf, an, nn, cn, rfl, hF, hNt, hok⟩ := hV
  obtain ⟨ob, hob⟩ : ∃ o : Obj, o = (.cells #[.string m.s, .int .u32 m.v, .slice af nf cf, .slice an nn cn] 25) := ⟨_, rfl⟩
  have K1 : Kp [] w (w.alloc ob) := (Kp.refl [] w).alloc ob
  have HR := hide (mright_any _ m false hr.symm (w.alloc ob) (hV0.kept K1))
  have hl1 : (loadVar 25 ⟨w.heap.size, 0, none⟩).run Tryd.prog (w.alloc ob) = .ok (.agg #[.string m.s, .int .u32 m.v, .slice af nf cf, .slice an nn cn]) (w.alloc ob) := load_man (fr := (0, 0)) (by rw [hob]; exact heap_alloc_new w _)
  rw [hob] at K1 HR hl1
  have HK1 := hide K1
  obtain ⟨s, x, f, n⟩ := m
  clear hob K1 hF hNt hV0 hr hok
  go_enter Tryd.func14, Tryd.ntmps14
  go_wp2_with fail
  refine (unhide HR).mono ?_
  rintro ee w2 ⟨rfl, K2⟩
  have HK2 := hide ((unhide HK1).trans K2)
  clear HR K2 HK1
  go_wp2_with fail
  go_ret2
  exact ⟨rfl, unhide HK2⟩
/-- what Encode tells: the bytes, or none. -/
def encA (m : Mf) : List Int := if rgtM m then encM m else []
theorem mencode_any (v : Value) (m : Mf) (w : World) (hV : MV w v m) :
    Calls Tryd.prog 14 #[v] w fun e w' => ∃ ao k c, e = .returned (.tuple #[.slice ao k c, .int .i64 (errOf (rgtM m))]) ∧ Sl w' (.slice ao k c) (encA m) ∧ (∀ i, (Value.slice ao k c).ownBlock = some i → w.heap.size ≤ i) ∧ Kp [] w w' := by
  unfold encA
  cases hr : rgtM m
  · refine (mencode_no v m hr w hV).mono ?_
    rintro e w' ⟨rfl, K⟩
    exact ⟨none, 0, 0, rfl, Sl.nil _, (fun i hi => by cases hi), K⟩
  · refine (mencode_ok v m hr w hV).mono ?_
    rintro e w' ⟨ao, k, c, rfl, R, K⟩
    exact ⟨ao, k, c, rfl, R.sl, R.own, K⟩
end Go.Proofs.YtioflclfgkcpfaaDoor

/-
  The contract of package manifest's Decode.
-/
namespace Go.Proofs.YtioflclfgkcpfaaDoor
open Go.RowKit
open Go.Proofs

/-- While a manifest is read: the reader at q, what is read of it at g1, the result's place at g0. -/
structure DcS (w0 : World) (g0 q g1 : Nat) (r : Value) (s : Bool × List Int) (x y z u : Value) (w : World) : Prop where
  rd : Rd w q r s.1 s.2
  own : ∀ k, r.ownBlock = some k → k < g1
  cell : w.heap[g1]? = some (.cells #[x, y, z, u] 25 (0, 0))
  res : w.heap[g0]? = some (.cells #[.string ⟨#[]⟩, .int .u32 0, .slice none 0 0, .slice none 0 0] 25 (0, 0))
  kp : Kp [] w0 w
  o1 : w0.heap.size ≤ g0
  o2 : g0 < q
  o3 : q < g1
section
variable {w0 w w' : World} {g0 q g1 : Nat} {r : Value} {s s' : Bool × List Int} {x y z u : Value}
theorem DcS.lt (h : DcS w0 g0 q g1 r s x y z u w) : g1 < w.heap.size := lt_of_block h.cell
theorem DcS.call (h : DcS w0 g0 q g1 r s x y z u w) (L : Left w q r s' w') : ∃ r', DcS w0 g0 q g1 r' s' x y z u w' := by
  obtain ⟨⟨r', R, O⟩, K⟩ := L
  have := h.o1
  have := h.o2
  have := h.o3
  exact ⟨r', R, fun k hk => h.own k (O k hk), K.heap h.cell (by simp; omega), K.heap h.res (by simp; omega), h.kp.then K (fun i hi => .inr (by simp at hi; omega)), h.o1, h.o2, h.o3⟩
theorem DcS.kept (h : DcS w0 g0 q g1 r s x y z u w) (K : Kp [] w w') : DcS w0 g0 q g1 r s x y z u w' :=
  ⟨h.rd.kept K (by simp) (by simp), h.own, K.heap h.cell (by simp), K.heap h.res (by simp), h.kp.trans K, h.o1, h.o2, h.o3⟩
theorem DcS.put (h : DcS w0 g0 q g1 r s x y z u w) (j : Nat) (v x' y' z' u' : Value) (hg : (w.setCell ⟨g1, j, none⟩ v).heap[g1]? = some (.cells #[x', y', z', u'] 25 (0, 0))) : DcS w0 g0 q g1 r s x' y' z' u' (w.setCell ⟨g1, j, none⟩ v) := by
  have K := setCell_kpm w g1 j v
  have := h.o1
  have := h.o2
  have := h.o3
  exact ⟨h.rd.kept K (by simp; omega) (fun i hi => by have := h.own i hi; simp; omega), h.own, hg, K.heap h.res (by simp; omega), h.kp.then K (fun i hi => .inr (by simp at hi; omega)), h.o1, h.o2, h.o3⟩
theorem DcS.put0 (h : DcS w0 g0 q g1 r s x y z u w) (v : Value) : DcS w0 g0 q g1 r s v y z u (w.setCell ⟨g1, 0, none⟩ v) := h.put 0 v _ _ _ _ (by simpa using heap_setCell_same w g1 0 _ _ v h.cell)
theorem DcS.put1 (h : DcS w0 g0 q g1 r s x y z u w) (v : Value) : DcS w0 g0 q g1 r s x v z u (w.setCell ⟨g1, 1, none⟩ v) := h.put 1 v _ _ _ _ (by simpa using heap_setCell_same w g1 1 _ _ v h.cell)
theorem DcS.put2 (h : DcS w0 g0 q g1 r s x y z u w) (v : Value) : DcS w0 g0 q g1 r s x y v u (w.setCell ⟨g1, 2, none⟩ v) := h.put 2 v _ _ _ _ (by simpa using heap_setCell_same w g1 2 _ _ v h.cell)
theorem DcS.put3 (h : DcS w0 g0 q g1 r s x y z u w) (v : Value) : DcS w0 g0 q g1 r s x y z v (w.setCell ⟨g1, 3, none⟩ v) := h.put 3 v _ _ _ _ (by simpa using heap_setCell_same w g1 3 _ _ v h.cell)
/-- a slice of the call's own that reads so, and does as long as only what was there changes. -/
def Far (g : Nat) (v : Value) (bs : List Int) (w : World) : Prop := Sl w v bs ∧ ∀ k, v.ownBlock = some k → g < k
theorem Far.kept {g : Nat} {v : Value} {bs : List Int} {S : List Nat} (h : Far g v bs w) (K : Kp S w w') (hS : ∀ i ∈ S, i ≤ g) : Far g v bs w' :=
  ⟨h.1.kept K (fun i hi hm => by have := hS i hm; have := h.2 i hi; omega), h.2⟩
end
theorem tkb_len1 {bad : Bool} {bs : List Int} {n : Int} : (tkb bad bs n).1.length ≤ bs.length := by have := @tkb_len bad bs n; omega
theorem ds_len (B : List Int) : (d1 B).2.2.length ≤ B.length ∧ (d2 B).2.2.length ≤ B.length ∧ (d3 B).2.2.length ≤ B.length ∧ (d4 B).2.2.length ≤ B.length := by
  have h1 := @tk_len false B 1
  have h2 := @tkb_len (d1 B).2.1 (d1 B).2.2 20
  have h3 := @tk_len (d2 B).2.1 (d2 B).2.2 4
  have h4 := @tk_len (d3 B).2.1 (d3 B).2.2 32
  rw [← d1_eq] at h1
  rw [← d2_eq] at h2
  rw [← d3_eq] at h3
  rw [← d4_eq] at h4
  refine ⟨by omega, by omega, by omega, by omega⟩

set_option maxRecDepth 100000 in
set_option maxHeartbeats 4000000 in
theorem mdecode_any (vb : Value) (B : List Int) (w : World) (hS : Sl w vb B) (hB : Bs B) (hl : B.length ≤ 140737488355328) :
    Calls Tryd.prog 18 #[vb] w fun e w' => ∃ v, e = .returned (.tuple #[v, .int .i64 (errOf (okM B))]) ∧ MV w' v (ansM B) ∧ Kp [] w w' := by
  obtain ⟨ob, hob⟩ : ∃ o : Obj, o = (.cells #[.string ⟨#[]⟩, .int .u32 0, .slice none 0 0, .slice none 0 0] 25) := ⟨_, rfl⟩
  have K1 : Kp [] w (w.alloc ob) := (Kp.refl [] w).alloc ob
  have HRd := hide (read_any vb B (w.alloc ob) (hS.kept K1 (by simp)) hl)
  have G1 : Hid ((w.alloc ob).heap[w.heap.size]? = some ob) := heap_alloc_new w ob
  have hz1 : Hid ((w.alloc ob).heap.size = w.heap.size + 1) := hide (by simp)
  rw [hob] at K1 HRd G1 hz1
  have HK1 := hide K1
  obtain ⟨ab, cb, hvb, _⟩ := hS
  obtain ⟨nb, hnb⟩ : ∃ n, n = B.length := ⟨_, rfl⟩
  rw [← hnb] at hvb
  subst hvb
  have HB := hide hB
  have HLN := hide hl
  have HBS := hide (ds_bs hB)
  have HDL := hide (ds_len B)
  clear hob K1 hB hl hnb
  go_enter Tryd.func18, Tryd.ntmps18
  go_wp2_with fail
  refine (unhide HRd).mono ?_
  rintro ee w2 ⟨q, v2, rfl, hq2, R2, hv2, K2⟩
  have HR2 := hide R2
  have HV2 := hide hv2
  have HQ2 := hide hq2
  have HK2 := hide K2
  have hRn := rbyte_any q v2 false B w2 R2 (unhide HB)
  rw [show tk false B 1 = d1 B from (d1_eq B).symm] at hRn
  obtain ⟨t, ht⟩ : ∃ t, t = val (d1 B).1 := ⟨_, rfl⟩
  rw [← ht] at hRn
  have HT := hide ht
  have HRn := hide hRn
  clear R2 hv2 hq2 K2 HRd hRn ht
  go_wp2_with fail
  refine (unhide HRn).mono ?_
  rintro ee w3 ⟨rfl, L3⟩
  have HL3 := hide L3
  obtain ⟨w4, hw4⟩ : ∃ w4, w4 = w3.alloc (.cells #[.string ⟨#[]⟩, .int .u32 0, .slice none 0 0, .slice none 0 0] 25) := ⟨_, rfl⟩
  obtain ⟨g1, hg1⟩ : ∃ g, g = w3.heap.size := ⟨_, rfl⟩
  obtain ⟨g0, hg0⟩ : ∃ g, g = w.heap.size := ⟨_, rfl⟩
  have HD4 : Hid (∃ r, DcS w g0 q g1 r (d1 B).2 (.string ⟨#[]⟩) (.int .u32 0) (.slice none 0 0) (.slice none 0 0) w4) := by
    obtain ⟨⟨r3, R3, O3⟩, K3⟩ := L3
    have K4 : Kp [] w3 w4 := by rw [hw4]; exact (Kp.refl [] w3).alloc _
    have hq := unhide HQ2
    have hz := unhide hz1
    rw [hz] at hq
    have hqlt : q < w2.heap.size := lt_of_block (unhide HR2).1
    have hs3 := K3.size
    refine ⟨r3, R3.kept K4 (by simp) (by simp), fun k hk => ?_, ?_, ?_, ?_, by omega, by omega, by omega⟩
    · have := (unhide HV2 k (O3 k hk)).2; omega
    · rw [hw4, hg1]; exact heap_alloc_new w3 _
    · refine K4.heap (K3.heap ((unhide HK2).heap (k := g0) ?_ (by simp)) (by simp; omega)) (by simp)
      rw [hg0]; exact unhide G1
    · exact (((unhide HK1).trans (unhide HK2)).then K3 (fun i hi => .inr (by simp at hi; omega))).trans K4
  have HG0 := hide hg0
  have HW4 := hide hw4
  have HG1' := hide hg1
  clear HRn HR2 HV2 HQ2 HK2 HK1 G1 hz1 L3 HL3 hw4 hg1 hg0
  go_wp2_with fail
  rw [← unhide HW4, ← unhide HG1', ← unhide HG0]
  obtain ⟨r4, D4⟩ := unhide HD4
  have HDD := hide D4
  have hC := rbytes_any q r4 (d1 B).2.1 (d1 B).2.2 20 w4 D4.rd (unhide HBS).1 (by have := (unhide HDL).1; have := unhide HLN; omega)
  rw [← d2_eq] at hC
  have HC := hide hC
  clear HD4 D4 hC HW4 HG1' HG0
  refine (unhide HC).mono ?_
  rintro ee w5 ⟨a5, c5, rfl, O5, L5⟩
  obtain ⟨r5, D5⟩ := (unhide HDD).call L5
  obtain ⟨m5, hm5⟩ : ∃ m, m = (d2 B).1.length := ⟨_, rfl⟩
  rw [← hm5] at O5 ⊢
  have hcv := O5.1.conv (P := Tryd.prog) 23 9 5 Tryd.underlying23 Tryd.underlying5 Tryd.underlying9
  obtain ⟨S5, hS5⟩ : ∃ S, S = strOfNums (d2 B).1 := ⟨_, rfl⟩
  rw [← hS5] at hcv
  have HS5 := hide hS5
  have hc5 : w5.cell? ⟨g1, 0, none⟩ = some (.string ⟨#[]⟩) := (cell_man D5.cell).1
  have hf5 : w5.frozen? ⟨g1, 0, none⟩ = false := frozen_of_row w5 g1 0 _ _ D5.cell
  have HD5 := hide (D5.put0 (.string S5))
  have hC := rnum_any q r5 (d2 B).2.1 (d2 B).2.2 _ (unhide HD5).rd (unhide HBS).2.1
  rw [← d3_eq] at hC
  obtain ⟨x, hx⟩ : ∃ x, x = val (d3 B).1 := ⟨_, rfl⟩
  rw [← hx] at hC
  have HX := hide hx
  have HCn := hide hC
  clear HC HDD O5 L5 D5 hC hm5 hS5 hx
  go_wp2_with fail
  refine (unhide HCn).mono ?_
  rintro ee w6 ⟨rfl, L6⟩
  obtain ⟨r6, D6⟩ := (unhide HD5).call L6
  have hc6 : w6.cell? ⟨g1, 1, none⟩ = some (.int .u32 0) := (cell_man D6.cell).2.1
  have hf6 : w6.frozen? ⟨g1, 1, none⟩ = false := frozen_of_row w6 g1 1 _ _ D6.cell
  have HD6 := hide (D6.put1 (.int .u32 x))
  have hC := raw_ok q r6 (d3 B).2.1 (d3 B).2.2 32 _ (unhide HD6).rd (by have := (unhide HDL).2.2.1; have := unhide HLN; omega)
  rw [← d4_eq] at hC
  have HCr := hide hC
  clear HCn HD5 L6 D6 hC hcv hc5 hf5
  go_wp2_with fail
  refine (unhide HCr).mono ?_
  rintro ee w7 ⟨a7, c7, rfl, O7, L7⟩
  obtain ⟨r7, D7⟩ := (unhide HD6).call L7
  obtain ⟨m7, hm7⟩ : ∃ m, m = (d4 B).1.length := ⟨_, rfl⟩
  rw [← hm7] at O7 ⊢
  have hc7 : w7.cell? ⟨g1, 2, none⟩ = some (.slice none 0 0) := (cell_man D7.cell).2.2.1
  have hf7 : w7.frozen? ⟨g1, 2, none⟩ = false := frozen_of_row w7 g1 2 _ _ D7.cell
  have hlt6 := (unhide HD6).lt
  have F7 : Far g1 (.slice a7 m7 c7) (d4 B).1 w7 := ⟨O7.1, fun k hk => by have := O7.2 k hk; omega⟩
  have HF7 := hide (F7.kept (setCell_kpm w7 g1 2 (.slice a7 m7 c7)) (by simp))
  have HD7 := hide (D7.put2 (.slice a7 m7 c7))
  have hC := rbytes_any q r7 (d4 B).2.1 (d4 B).2.2 64 _ (unhide HD7).rd (unhide HBS).2.2.2.1 (by have := (unhide HDL).2.2.2; have := unhide HLN; omega)
  rw [← d5_eq] at hC
  have HCb := hide hC
  clear HCr HD6 L7 D7 hC O7 hm7 hlt6 F7 hc6 hf6
  go_wp2_with fail
  refine (unhide HCb).mono ?_
  rintro ee w8 ⟨a8, c8, rfl, O8, L8⟩
  obtain ⟨r8, D8⟩ := (unhide HD7).call L8
  obtain ⟨m8, hm8⟩ : ∃ m, m = (d5 B).1.length := ⟨_, rfl⟩
  rw [← hm8] at O8 ⊢
  have hc8 : w8.cell? ⟨g1, 3, none⟩ = some (.slice none 0 0) := (cell_man D8.cell).2.2.2
  have hf8 : w8.frozen? ⟨g1, 3, none⟩ = false := frozen_of_row w8 g1 3 _ _ D8.cell
  have hlt7 := (unhide HD7).lt
  have hqg := D8.o3
  have F8 : Far g1 (.slice a8 m8 c8) (d5 B).1 w8 := ⟨O8.1, fun k hk => by have := O8.2 k hk; omega⟩
  have HF8 := hide (F8.kept (setCell_kpm w8 g1 3 (.slice a8 m8 c8)) (by simp))
  have HF78 := hide (((unhide HF7).kept L8.2 (by simp; omega)).kept (setCell_kpm w8 g1 3 (.slice a8 m8 c8)) (by simp))
  have HD8 := hide (D8.put3 (.slice a8 m8 c8))
  obtain ⟨W, hW⟩ : ∃ W, W = w8.setCell ⟨g1, 3, none⟩ (.slice a8 m8 c8) := ⟨_, rfl⟩
  have HWW := hide hW
  rw [← hW] at HF8 HF78 HD8
  have HMV : Hid (MV W (.agg #[.string S5, .int .u32 x, .slice a7 m7 c7, .slice a8 m8 c8]) (decM B)) := by
    refine ⟨a7, m7, c7, a8, m8, c8, ?_, ?_, ?_, decM_ok (unhide HB)⟩
    · rw [decM_s, decM_v, unhide HS5, unhide HX]
    · rw [decM_f]; exact (unhide HF78).1
    · rw [decM_n]; exact (unhide HF8).1
  have HEnd := hide (end_any q r8 (d5 B).2.1 (d5 B).2.2 W (unhide HD8).rd)
  have HRgt := hide (fun b hb => mright_any _ (decM B) b hb W (unhide HMV))
  clear HCb HD7 L8 D8 O8 hm8 hlt7 F8 hc7 hf7 HF7 hW hqg
  obtain ⟨eb, heb⟩ : ∃ b, b = (!(d5 B).2.1 && (d5 B).2.2.isEmpty) := ⟨_, rfl⟩
  obtain ⟨rb, hrb⟩ : ∃ b, b = rgtM (decM B) := ⟨_, rfl⟩
  have hok : okM B = (decide (t = 77) && eb && rb) := by rw [heb, hrb, unhide HT]; rfl
  rw [← heb] at HEnd
  have HR1 := hide (unhide HRgt rb hrb)
  obtain ⟨z0, z1, z2, z3⟩ := cell_man (unhide HD8).cell
  have HOK := hide hok
  clear HRgt heb hrb hok
  by_cases h77 : t = 77
  · subst h77
    cases eb
    · have hno : okM B = false := by rw [unhide HOK]; rfl
      have HNO := hide hno
      clear hno HOK
      go_wp2_with fail
      rw [← unhide HWW]
      refine (unhide HEnd).mono ?_
      rintro ee w9 ⟨rfl, hw9⟩
      subst w9
      have G0 := (unhide HD8).res
      have HKW := hide (unhide HD8).kp
      have ho1 := (unhide HD8).o1
      clear HEnd HR1 z0 z1 z2 z3 HD8 hc8 hf8
      go_wp2_with (refine wpList_store_man rfl (.tmp 2) (.tmp 37) rfl g0 rfl _ _ _ _ _ _ _ _ G0 rfl ⟨rfl, rfl, rfl, rfl⟩ ?_; intro wa Ga Ka)
      refine bodyPost_ret (results_man rfl _ rfl Ga) rfl ?_
      exact ⟨_, by rw [unhide HNO]; rfl, by rw [ansM_no (unhide HNO)]; exact man0_v _, (unhide HKW).then Ka (fun i hi => .inr (by simp at hi; omega))⟩
    · cases rb
      · have hno : okM B = false := by rw [unhide HOK]; rfl
        have HNO := hide hno
        clear hno HOK
        go_wp2_with fail
        rw [← unhide HWW]
        refine (unhide HEnd).mono ?_
        rintro ee w9 ⟨rfl, hw9⟩
        subst w9
        clear HEnd
        go_wp2_with fail
        refine (unhide HR1).mono ?_
        rintro ee w9 ⟨rfl, K9⟩
        have D9 := (unhide HD8).kept K9
        have G0 := D9.res
        have HKW := hide D9.kp
        have ho1 := D9.o1
        clear HR1 z0 z1 z2 z3 HD8 hc8 hf8 K9 D9
        go_wp2_with (refine wpList_store_man rfl (.tmp 2) (.tmp 37) rfl g0 rfl _ _ _ _ _ _ _ _ G0 rfl ⟨rfl, rfl, rfl, rfl⟩ ?_; intro wa Ga Ka)
        refine bodyPost_ret (results_man rfl _ rfl Ga) rfl ?_
        exact ⟨_, by rw [unhide HNO]; rfl, by rw [ansM_no (unhide HNO)]; exact man0_v _, (unhide HKW).then Ka (fun i hi => .inr (by simp at hi; omega))⟩
      · have hyes : okM B = true := by rw [unhide HOK]; rfl
        have HYES := hide hyes
        clear hyes HOK
        go_wp2_with fail
        rw [← unhide HWW]
        refine (unhide HEnd).mono ?_
        rintro ee w9 ⟨rfl, hw9⟩
        subst w9
        clear HEnd
        go_wp2_with fail
        refine (unhide HR1).mono ?_
        rintro ee w9 ⟨rfl, K9⟩
        have D9 := (unhide HD8).kept K9
        have G0 := D9.res
        have HG9 := hide D9.cell
        have HKW := hide D9.kp
        have ho1 := D9.o1
        have HN0 := hide (noBy_man G0)
        have HM9 := hide ((unhide HMV).kept K9)
        clear HR1 z0 z1 z2 z3 HD8 hc8 hf8 K9 D9
        go_wp2_with (refine wpList_load_row rfl 25 (.tmp 6) rfl g1 rfl 25 _ (0, 0) _ (unhide HG9) Tryd.underlying25 rfl Tryd.manSize ?_; refine Hid.out ?_)
        refine hide ?_
        go_wp2_with (refine wpList_store_man rfl (.tmp 2) (.tmp 38) rfl g0 rfl _ _ _ _ _ _ _ _ G0 rfl ⟨rfl, rfl, rfl, rfl⟩ ?_; intro wa Ga Ka)
        refine bodyPost_ret (results_man rfl _ rfl Ga) rfl ?_
        exact ⟨_, by rw [unhide HYES]; rfl, by rw [ansM_yes (unhide HYES)]; exact (unhide HM9).offBy (unhide HN0) Ka, (unhide HKW).then Ka (fun i hi => .inr (by simp at hi; omega))⟩
  · have hno : okM B = false := by rw [unhide HOK, decide_eq_false h77]; rfl
    have HNO := hide hno
    have h77' : (t == 77) = false := beq_eq_false_iff_ne.2 h77
    have G0 := (unhide HD8).res
    have HKW := hide (unhide HD8).kp
    have ho1 := (unhide HD8).o1
    rw [unhide HWW] at G0
    clear hno HOK HEnd HR1 z0 z1 z2 z3 HD8
    go_wp2_with (refine wpList_store_man rfl (.tmp 2) (.tmp 37) rfl g0 rfl _ _ _ _ _ _ _ _ G0 rfl ⟨rfl, rfl, rfl, rfl⟩ ?_; intro wa Ga Ka)
    refine bodyPost_ret (results_man rfl _ rfl Ga) rfl ?_
    rw [← unhide HWW] at Ka
    exact ⟨_, by rw [unhide HNO]; rfl, by rw [ansM_no (unhide HNO)]; exact man0_v _, (unhide HKW).then Ka (fun i hi => .inr (by simp at hi; omega))⟩
end Go.Proofs.YtioflclfgkcpfaaDoor
