/-
  The contracts of package journal: laid, read.
-/
import Derived.Test.YtillhpgdlmeajaaGreatDoorKJMem
namespace Go.Proofs.YtillhpgdlmeajaaGreatDoor
open Go.RowKit
open Go.Proofs

theorem raw_row (q : Nat) (v : Value) (bad : Bool) (bs : List Int) (m : Nat) (w : World) (hR : Rd w q v bad bs) (hb : bs.length ≤ 140737488355328) (hm : m ≤ bs.length) :
    Calls Tryz.prog 127 #[.pointer (some ⟨q, 0, none⟩), .int .i64 m] w fun e w' => ∃ ao c, e = .returned (.slice ao m c) ∧ Row w' w.heap.size (.slice ao m c) (bs.take m) ∧ Left w q v (bad, bs.drop m) w' := by
  have hl : (bs.take m).length = m := by simp; omega
  obtain ⟨cs, hcs⟩ : ∃ cs, cs = bs.take m := ⟨_, rfl⟩
  rw [← hcs] at hl ⊢
  have HC : Hid (cs = bs.take m) := hcs
  clear hcs
  subst hl
  go_enter Tryz.func127, Tryz.ntmps127
  go_wp2_with fail
  refine (take_ok q v bad bs cs.length _ hR hm).mono ?_
  rintro e w1 ⟨ao, c, rfl, hT⟩
  have hS : Sl w1 (.slice ao cs.length c) cs := by have := hT.1; rwa [← HC.out] at this
  have hL := hT.left
  clear hT
  go_wp2_with fail
  refine (copy_any _ cs _ hS (by omega)).mono ?_
  rintro e w2 ⟨ao2, c2, rfl, h1, h2⟩
  go_wp2_with fail
  go_ret
  refine ⟨ao2, c2, rfl, owns_rebase h1 (fun k hk => Nat.le_trans hL.2.size (h1.lt k hk).1), ?_⟩
  obtain ⟨⟨v2, r2, o2⟩, k2⟩ := hL
  exact ⟨⟨v2, r2.kept h2 (by simp) (by simp), o2⟩, k2.trans (h2.mono (by simp))⟩
theorem not32 (n : Int) (h0 : 0 ≤ n) (h1 : n ≤ 4294967295) : bits .xor .u32 IntKind.u32.max n = 4294967295 - n := by
  obtain ⟨m, rfl⟩ := Int.eq_ofNat_of_zero_le h0
  have e : BitVec.ofInt 32 IntKind.u32.max = BitVec.allOnes 32 := by decide
  have h2 : (BitVec.ofInt 32 (m : Int)).toNat = m := by
    rw [BitVec.ofInt_natCast, BitVec.toNat_ofNat]; exact Nat.mod_eq_of_lt (by omega)
  show IntKind.u32.wrap ((BitVec.ofInt 32 IntKind.u32.max ^^^ BitVec.ofInt 32 (m : Int)).toNat : Int) = _
  rw [e, BitVec.allOnes_xor, BitVec.toNat_not, h2]
  simp [IntKind.wrap, IntKind.signed, IntKind.bits]
  omega
theorem uns32 : ¬ IntKind.u32.signed = true := by decide
set_option maxRecDepth 100000 in
set_option maxHeartbeats 2000000 in
theorem jlaid_any (v : Value) (r : List Int) (w : World) (hS : Sl w v r) (hl : r.length ≤ 65535) :
    Calls Tryz.prog 131 #[v] w fun e w' => ∃ ao m c, e = .returned (.slice ao m c) ∧ Row w' w.heap.size (.slice ao m c) (recP r) ∧ Kp [] w w' := by
  have HS := hide (fun w' (k : Kp [] w w') => hS.kept k (by simp))
  have hrec : recP r = bq r.length ++ bq (4294967295 - r.length) ++ r := rfl
  have HR := hide hrec
  have HL := hide hl
  obtain ⟨ar, cr, rfl, -⟩ := hS
  obtain ⟨n, hn⟩ : ∃ n, n = r.length := ⟨_, rfl⟩
  have hn32 : IntKind.u32.wrap (n : Int) = n := by simp [IntKind.wrap, IntKind.signed, IntKind.bits]; omega
  have hnl : (n : Int) ≤ 65535 := by omega
  have hus := uns32
  have hx := not32 n (by omega) (by omega)
  rw [← hn] at HS HR HL ⊢
  have HN := hide hn
  clear hn hl hrec
  go_enter Tryz.func131, Tryz.ntmps131
  go_wp2_with fail
  refine (new_abs w).mono ?_
  rintro ee w1 ⟨p, rfl, W1, hp1, K1⟩
  have HW : Hid (Wn w w1 p (.slice none 0 0) []) := ⟨W1, K1, hp1, fun k hk => by cases hk⟩
  clear W1 hp1 K1
  go_wp2_with fail
  refine (num_any p n (.slice none 0 0) [] w1 HW.out.1 (by simp)).mono ?_
  rintro ee w2 ⟨rfl, v2, W2, S2⟩
  rw [List.nil_append, be_bq] at W2
  have HW2 := hide (HW.out.step W2 S2)
  clear W2 S2
  go_wp2_with fail
  refine (num_any p _ v2 _ w2 HW2.out.1 (by rw [bq_len]; omega)).mono ?_
  rintro ee w3 ⟨rfl, v3, W3, S3⟩
  rw [be_bq] at W3
  have HW3 := hide (HW2.out.step W3 S3)
  clear W3 S3
  go_wp2_with fail
  refine (raw_any p v3 _ _ r w3 HW3.out.1 (HS.out w3 HW3.out.2.1) (by have := HL.out; have := HN.out; rw [List.length_append, bq_len, bq_len]; omega)).mono ?_
  rintro ee w4 ⟨rfl, v4, W4, S4⟩
  rw [← HR.out] at W4
  have HW4 := hide (HW3.out.step W4 S4)
  clear W4 S4
  have HD := hide (done_any p v4 _ w4 HW4.out.1 (by have := HL.out; have := HN.out; rw [recP_len]; omega))
  obtain ⟨m, hm⟩ : ∃ m, m = (recP r).length := ⟨_, rfl⟩
  rw [← hm] at HD
  have HM := hide hm
  clear hm
  go_wp2_with fail
  refine HD.out.mono ?_
  rintro ee w5 ⟨a5, c5, rfl, R5, K5⟩
  have HR5 : Hid (Row w5 w.heap.size (.slice a5 m c5) (recP r)) := row_new (w0 := w4) (by unfold Row; rw [← HM.out]; exact R5) HW4.out.2.1
  have HK5 := hide (HW4.out.2.1.trans K5)
  clear R5 K5 HD
  go_wp2_with fail
  go_ret
  exact ⟨a5, m, c5, rfl, HR5.out, HK5.out⟩
/-- what of the bytes b read tells. -/
theorem read_step_facts (b : List Int) (at_ : Nat) (out : List (List Int)) (h : opnP b = (out ++ (opnP (b.drop at_)).1, at_ + (opnP (b.drop at_)).2.1, (opnP (b.drop at_)).2.2)) : out.length * 8 ≤ b.length := by
  have := opnP_count b
  rw [h] at this
  simp only [List.length_append] at this
  omega
set_option maxRecDepth 100000 in
set_option maxHeartbeats 4000000 in
theorem read_jr (v : Value) (b : List Int) (w : World) (hS : Sl w v b) (hB : Bs b) (hl : b.length ≤ 1048576) :
    Calls Tryz.prog 86 #[v] w fun e w' => Kp [] w w' ∧ ((opnP b).2.2 = true ∧ (∃ ao m c l, e = .returned (.tuple #[.slice ao m c, .int .i64 (opnP b).2.1, .int .i64 0]) ∧ Parts w' w.heap.size (.slice ao m c) l ∧ l.map (·.2) = (opnP b).1) ∨ (opnP b).2.2 = false ∧ e = .returned (.tuple #[.slice none 0 0, .int .i64 0, .int .i64 14])) := by
  have HRd := hide (read_any v b w hS (by omega))
  have HB := hide hB
  obtain ⟨ab, cb, rfl, -⟩ := hS
  obtain ⟨n, hn⟩ : ∃ n, n = b.length := ⟨_, rfl⟩
  rw [← hn] at HRd hl ⊢
  have HN := hide hn
  have hln : (n : Int) ≤ 1048576 := by omega
  have hus := uns32
  clear hn hB hl
  go_enter Tryz.func86, Tryz.ntmps86
  go_wp2_with fail
  refine HRd.out.mono ?_
  rintro ee w1 ⟨q, v1, rfl, hq, R1, hv1, K1⟩
  have HQ := hide hq
  have HK1 := hide K1
  have hq1 := lt_of_block R1.1
  have HI : Hid (∃ (at_ : Nat) (l : List (Value × List Int)) (rv : Value), at_ ≤ n ∧ (Value.int .i64 0) = .int .i64 at_ ∧ (∃ ao c, (Value.slice none 0 0) = .slice ao l.length c) ∧ Rd w1 q rv false (b.drop at_) ∧ (∀ k, rv.ownBlock = some k → k < w1.heap.size) ∧ Parts w1 w1.heap.size (.slice none 0 0) l ∧ Kp [q] w1 w1 ∧ opnP b = (l.map (·.2) ++ (opnP (b.drop at_)).1, at_ + (opnP (b.drop at_)).2.1, (opnP (b.drop at_)).2.2)) := by
    refine ⟨0, [], v1, by omega, rfl, ⟨_, _, rfl⟩, by simpa using R1, fun k hk => (hv1 k hk).2, ⟨World.ownsRow_nil _ _ _ _, by simp⟩, Kp.refl _ _, by simp⟩
  clear HRd hq R1 hv1 K1
  go_wp2_with fail
  go_loopw [5, 6] (fun o s wr => ∃ (at_ : Nat) (l : List (Value × List Int)) (rv : Value), at_ ≤ n ∧ s = .int .i64 at_ ∧ (∃ ao c, o = .slice ao l.length c) ∧ Rd wr q rv false (b.drop at_) ∧ (∀ k, rv.ownBlock = some k → k < w1.heap.size) ∧ Parts wr w1.heap.size o l ∧ Kp [q] w1 wr ∧ opnP b = (l.map (·.2) ++ (opnP (b.drop at_)).1, at_ + (opnP (b.drop at_)).2.1, (opnP (b.drop at_)).2.2)) (fun _ s _ => n - (intOf s).toNat)
  case atStart => exact HI.out
  case round =>
    obtain ⟨at_, l, rv, hat, rfl, ⟨ao, c, rfl⟩, R, hrv, hP, hK, hO⟩ := hrel
    have HO := hide hO
    clear hO HI
    obtain ⟨x, hx⟩ : ∃ x, x = b.drop at_ := ⟨_, rfl⟩
    rw [← hx] at R HO
    have hBx : Bs x := by rw [hx]; exact HB.out.drop _
    have hxl : x.length + at_ = n := by rw [hx, List.length_drop]; have := HN.out; omega
    have HX := hide hx
    have HR := hide R
    have HP := hide hP
    have HK := hide hK
    have HV := hide hrv
    have HBx := hide hBx
    clear hx R hP hK hrv hBx
    obtain ⟨k, hk⟩ : ∃ k, k = x.length := ⟨_, rfl⟩
    have HLf := hide (left_any q rv false x wr HR.out)
    rw [← hk] at HLf hxl
    have HKl := hide hk
    clear hk
    by_cases h8 : k < 8
    · have h8' : (k : Int) < 8 := by omega
      go_wp2_with fail
      refine HLf.out.mono ?_
      rintro ee w2 ⟨rfl, hw2⟩
      subst w2
      clear HLf
      go_wp2_with fail
      go_ret3
      have e := opnP_short (b := x) (by have := HKl.out; omega)
      have eb := HO.out
      rw [e] at eb
      refine ⟨HK1.out.then HK.out (fun i hi => .inr (by have := HQ.out; simp at hi; omega)), .inl ⟨by rw [eb], ao, _, c, l, by rw [eb]; rfl, HP.out.rebase HK1.out, by rw [eb]; simp⟩⟩
    · have h8' : ¬ (k : Int) < 8 := by omega
      have h8'' : (8 : Int) ≤ k := by omega
      go_wp2_with fail
      refine HLf.out.mono ?_
      rintro ee w2 ⟨rfl, hw2⟩
      subst w2
      clear HLf
      have HN1 := hide (rnum_ok q rv false x wr HR.out (by have := HKl.out; omega) HBx.out)
      obtain ⟨a, ha⟩ : ∃ a, a = num1 x := ⟨_, rfl⟩
      have ha' : val (x.take 4) = a := ha.symm
      rw [ha'] at HN1
      have hab : 0 ≤ a ∧ a ≤ 4294967295 := by
        have h1 := val_bd (x.take 4) (HBx.out.takes 4)
        have h2 : (x.take 4).length = 4 := by have := HKl.out; simp; omega
        rw [h2, ha'] at h1
        omega
      obtain ⟨m, rfl⟩ := Int.eq_ofNat_of_zero_le hab.1
      have hx32 := not32 m hab.1 hab.2
      have hw64 : IntKind.i64.wrap (m : Int) = m := by simp [IntKind.wrap, IntKind.signed, IntKind.bits]; omega
      have HA := hide ha
      have HM := hide hab
      clear ha ha' hab
      go_wp2_with fail
      refine HN1.out.mono ?_
      rintro ee w3 ⟨rfl, r3, T3⟩
      obtain ⟨⟨v3, R3, o3⟩, K3⟩ := T3.left
      have HR3 := hide R3
      have HO3 := hide (fun i hi => HV.out i (o3 i hi))
      have HK3 := hide K3
      clear T3 R3 o3 K3 HN1
      have HN2 := hide (rnum_ok q v3 false (x.drop 4) w3 HR3.out (by have := HKl.out; simp; omega) (HBx.out.drop 4))
      obtain ⟨t, ht⟩ : ∃ t, t = num2 x := ⟨_, rfl⟩
      have ht' : val ((x.drop 4).take 4) = t := ht.symm
      rw [ht'] at HN2
      have HT := hide ht
      clear ht ht'
      go_wp2_with fail
      refine HN2.out.mono ?_
      rintro ee w4 ⟨rfl, r4, T4⟩
      obtain ⟨⟨v4, R4, o4⟩, K4⟩ := T4.left
      rw [List.drop_drop] at R4
      have HR4 : Hid (Rd w4 q v4 false (x.drop 8)) := R4
      have HO4 := hide (fun i hi => HO3.out i (o4 i hi))
      have HK4 := hide (HK3.out.trans K4)
      clear T4 R4 o4 K4 HN2 HR3 HO3 HK3
      by_cases hbad : t = 4294967295 - (m : Int) ∧ m ≤ 65535
      · obtain ⟨rfl, hm⟩ := hbad
        have hm' : ¬ (65535 : Int) < m := by omega
        have hm'' : (m : Int) ≤ 65535 := by omega
        have HL4 := hide (left_any q v4 false (x.drop 8) w4 HR4.out)
        obtain ⟨k2, hk2⟩ : ∃ k2, k2 = (x.drop 8).length := ⟨_, rfl⟩
        rw [← hk2] at HL4
        have hk28 : k2 + 8 = k := by rw [hk2, List.length_drop]; have := HKl.out; omega
        have HK2 := hide hk2
        clear hk2
        go_wp2_with fail
        refine HL4.out.mono ?_
        rintro ee w5 ⟨rfl, hw5⟩
        subst w5
        clear HL4
        by_cases htn : k2 < m
        · have htn' : (k2 : Int) < m := by omega
          go_wp2_with fail
          go_ret3
          have e := opnP_torn (b := x) (by have := HKl.out; omega) (by rw [← HT.out, ← HA.out]) (by rw [← HA.out]; omega) (by rw [← HA.out]; have := HKl.out; omega)
          have eb := HO.out
          rw [e] at eb
          refine ⟨HK1.out.then (HK.out.trans HK4.out) (fun i hi => .inr (by have := HQ.out; simp at hi; omega)), .inl ⟨by rw [eb], ao, _, c, l, by rw [eb]; rfl, (HP.out.keptS HK4.out (by simpa using hq1)).rebase HK1.out, by rw [eb]; simp⟩⟩
        · have htn' : ¬ (k2 : Int) < m := by omega
          have HRw := hide (raw_row q v4 false (x.drop 8) m w4 HR4.out (by have := HK2.out; omega) (by have := HK2.out; omega))
          go_wp2_with fail
          refine HRw.out.mono ?_
          rintro ee w5 ⟨a5, c5, rfl, R5, L5⟩
          obtain ⟨⟨v5, D5, o5⟩, K5⟩ := L5
          rw [List.drop_drop] at D5
          have HP4 := hide (HP.out.keptS HK4.out (by simpa using hq1))
          have HR5 := hide R5
          have HD5 : Hid (Rd w5 q v5 false (x.drop (8 + m))) := D5
          have HO5 := hide (fun i hi => HO4.out i (o5 i hi))
          have HK5 := hide K5
          have hsz : w1.heap.size ≤ w4.heap.size := (HK.out.trans HK4.out).size
          have hll : l.length ≤ 1000000 := by
            have h1 := opnP_count b
            rw [HO.out] at h1
            simp only [List.length_append, List.length_map] at h1
            have := HN.out
            omega
          have hbx : Bs ((x.drop 8).take m) := (HBx.out.drop 8).takes m
          clear R5 D5 o5 K5 HRw
          go_wp2_with (at_builtin; refine wpList_parts (base := w1.heap.size) (wr := w4) rfl (.tmp 32) (.tmp 37) rfl (.slice ao l.length c) l rfl HP4.out hsz hll (.slice a5 m c5) _ [q] HK5.out (by simpa using hq1) HR5.out hbx rfl ?_; intro a6 m6 c6 w6 P6 K6)
          have hq6 : ∀ i ∈ (Value.slice ao l.length c).ownBlock.toList, w1.heap.size ≤ i := fun i hi => HP4.out.1.own i (by simpa [Option.mem_toList] using hi)
          have HD6 := hide (HD5.out.kept K6 (fun hm => by have := hq6 q hm; omega) (fun i hi hm => by have := hq6 i hm; have := HO5.out i hi; omega))
          have HL6 := hide (left_any q v5 false (x.drop (8 + m)) w6 HD6.out)
          obtain ⟨k3, hk3⟩ : ∃ k3, k3 = (x.drop (8 + m)).length := ⟨_, rfl⟩
          rw [← hk3] at HL6
          have hk38 : k3 + (8 + m) = k := by rw [hk3, List.length_drop]; have := HKl.out; omega
          have hm6 : m6 = l.length + 1 := by have := P6.1.len; simpa using this
          subst hm6
          have HP6 := hide P6
          have HK6 : Hid (Kp [q] w1 w6) := (HK.out.trans (HK4.out.trans HK5.out)).then K6 (fun i hi => .inr (hq6 i hi))
          have hwn : IntKind.i64.wrap ((n : Int) - (k3 : Int)) = (n : Int) - (k3 : Int) := by simp [IntKind.wrap, IntKind.signed, IntKind.bits]; omega
          clear hk3 P6 K6 hq6 HD5 HK5
          go_wp2_with fail
          refine HL6.out.mono ?_
          rintro ee w7 ⟨rfl, hw7⟩
          subst w7
          clear HL6
          go_wp2_with fail
          go_roundw
          case rel =>
            have e : b.drop (at_ + (8 + m)) = x.drop (8 + m) := by rw [HX.out, List.drop_drop]
            have hst := opnP_step b at_ (l.map (·.2)) (by rw [← HX.out]; exact HO.out) (by rw [← HX.out]; have := HKl.out; omega) (by rw [← HX.out, ← HT.out, ← HA.out]) (by rw [← HX.out, ← HA.out]; omega) (by rw [← HX.out, ← HA.out]; have := HKl.out; omega)
            rw [← HX.out, ← HA.out, Int.toNat_natCast] at hst
            refine ⟨at_ + (8 + m), _, v5, by omega, ?_, ⟨a6, c6, ?_⟩, by rw [e]; exact HD6.out, HO5.out, HP6.out, HK6.out, ?_⟩
            · congr 1; omega
            · simp
            · rw [hst]; simp
          case measure =>
            simp [intOf]; omega
      · by_cases hb1 : t = 4294967295 - (m : Int)
        · have hm' : (65535 : Int) < m := by
            have : ¬ m ≤ 65535 := fun h => hbad ⟨hb1, h⟩
            omega
          have HBD : Hid (opnP x = ([], 0, false)) := opnP_bad (by have := HKl.out; omega) (.inr (by rw [← HA.out]; exact hm'))
          subst hb1
          clear hbad
          go_wp2_with fail
          go_ret3
          have eb := HO.out
          rw [HBD.out] at eb
          exact ⟨HK1.out.then (HK.out.trans HK4.out) (fun i hi => .inr (by have := HQ.out; simp at hi; omega)), .inr ⟨by rw [eb], rfl⟩⟩
        · have HBD : Hid (opnP x = ([], 0, false)) := opnP_bad (by have := HKl.out; omega) (.inl (by rw [← HA.out, ← HT.out]; exact hb1))
          clear hbad
          go_wp2_with fail
          go_ret3
          have eb := HO.out
          rw [HBD.out] at eb
          exact ⟨HK1.out.then (HK.out.trans HK4.out) (fun i hi => .inr (by have := HQ.out; simp at hi; omega)), .inr ⟨by rw [eb], rfl⟩⟩
end Go.Proofs.YtillhpgdlmeajaaGreatDoor
