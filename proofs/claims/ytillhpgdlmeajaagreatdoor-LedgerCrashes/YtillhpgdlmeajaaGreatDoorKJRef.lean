/-
  The reference's Record and Open; the law's lay.
-/
import Derived.Test.YtillhpgdlmeajaaGreatDoorKJProg
namespace Go.Proofs.YtillhpgdlmeajaaGreatDoor
open Go.RowKit
open Go.Proofs

set_option maxHeartbeats 400000 in
theorem jnum_any (v : Value) (bs : List Int) (n : Int) (base : Nat) (w : World) (h : Row w base v bs) (hbase : base ≤ w.heap.size) (hb : bs.length ≤ 100000000000) :
    Calls Tryz.prog 49 #[v, .int .u32 n] w fun e w' => ∃ ao m c, e = .returned (.slice ao m c) ∧ Row w' base (.slice ao m c) (bs ++ bq n) ∧ RStep w v w' (.slice ao m c) := by
  obtain ⟨cs, hcs⟩ : ∃ cs, cs = bq n := ⟨_, rfl⟩
  have hl : cs.length = 4 := by rw [hcs]; rfl
  have hsl : Sl (w.alloc (.cells #[.int .u8 (n / 16777216 % 256), .int .u8 (n / 65536 % 256), .int .u8 (n / 256 % 256), .int .u8 (n % 256)] 5)) (.slice (some ⟨w.heap.size, 0, none⟩) 4 4) cs := by
    rw [hcs]; exact Sl.block (cs := [n / 16777216 % 256, n / 65536 % 256, n / 256 % 256, n % 256]) (t := 5) (heap_alloc_new w _) (by simp [maxLen])
  rw [← hcs]
  clear hcs
  go_enter Tryz.func49, Tryz.ntmps49
  go_wp2_with (at_builtin; refine wpList_append_row rfl _ _ rfl base v bs rfl (h.kept ((Kp.refl [] w).alloc _) (by simp)) _ cs rfl hsl (by omega) (by simp; omega) ?_; intro ao m c w1 r1 s1)
  go_ret
  exact ⟨ao, m, c, rfl, r1, s1.after ((Kp.refl [] w).alloc _)⟩
/-- a step of a row that is new since w: nothing old is changed. -/
theorem RStep.kpn {w w1 w2 : World} {v v' : Value} {bs : List Int} (s : RStep w1 v w2 v') (k : Kp [] w w1) (r : Row w1 w.heap.size v bs) : Kp [] w w2 :=
  k.then s.1 (fun i hi => .inr (r.own i (by simpa [Option.mem_toList] using hi)))
set_option maxRecDepth 100000 in
set_option maxHeartbeats 2000000 in
theorem record_any (v : Value) (r : List Int) (w : World) (hS : Sl w v r) (hl : r.length ≤ 65535) :
    Calls Tryz.prog 13 #[v] w fun e w' => ∃ ao m c, e = .returned (.slice ao m c) ∧ Row w' w.heap.size (.slice ao m c) (recP r) ∧ Kp [] w w' := by
  have HS := hide (fun w' (k : Kp [] w w') => hS.kept k (by simp))
  have HR : Hid (recP r = [] ++ bq r.length ++ bq (4294967295 - r.length) ++ r) := by unfold recP; exact hide (by simp)
  have HL := hide hl
  obtain ⟨ar, cr, rfl, -⟩ := hS
  obtain ⟨n, hn⟩ : ∃ n, n = r.length := ⟨_, rfl⟩
  have hn32 : IntKind.u32.wrap (n : Int) = n := by simp [IntKind.wrap, IntKind.signed, IntKind.bits]; omega
  have hnl : (n : Int) ≤ 65535 := by omega
  have hus := uns32
  have hx := not32 n (by omega) (by omega)
  rw [← hn] at HS HR HL ⊢
  have HN := hide hn
  clear hn hl
  have H1 := hide (jnum_any (.slice none 0 0) [] n w.heap.size w ⟨rfl, .inl ⟨rfl, rfl⟩⟩ (Nat.le_refl _) (by simp))
  have R0 : Row w w.heap.size (.slice none 0 0) [] := ⟨rfl, .inl ⟨rfl, rfl⟩⟩
  have HR0 := hide R0
  clear R0
  go_enter Tryz.func13, Tryz.ntmps13
  go_wp2_with fail
  refine H1.out.mono ?_
  rintro ee w1 ⟨a1, m1, c1, rfl, R1, S1⟩
  have HK1 := hide (S1.kpn (Kp.refl [] w) HR0.out)
  have H2 := hide (jnum_any _ _ (4294967295 - (n : Int)) w.heap.size w1 R1 HK1.out.size (by simp [bq_len]))
  have HR1 := hide R1
  clear R1 S1 H1
  go_wp2_with fail
  refine H2.out.mono ?_
  rintro ee w2 ⟨a2, m2, c2, rfl, R2, S2⟩
  have HK2 := hide (S2.kpn HK1.out HR1.out)
  have HR2 := hide R2
  have hsx := HS.out w2 HK2.out
  have hlr : r.length ≤ 65535 := by have := HN.out; have := HL.out; omega
  clear R2 S2 H2
  go_wp2_with (at_builtin; refine wpList_append_row rfl (.tmp 11) (.tmp 12) rfl w.heap.size _ _ rfl HR2.out _ r rfl hsx (by simp [bq_len]; omega) HK2.out.size ?_; intro a3 m3 c3 w3 R3 S3)
  go_ret
  rw [HR.out]
  exact ⟨a3, m3, c3, rfl, R3, S3.kpn HK2.out HR2.out⟩
/-- one more slice, wherever it lies but in the row itself. -/
theorem RowS.snocJ {w1 w2 : World} {base : Nat} {v v' : Value} {l : List (Value × List Int)} {x : Value × List Int} (h : RowS w1 base v l) (hx : Sl w1 x.1 x.2) (hB : Bs x.2) (ha : ∀ k, x.1.ownBlock = some k → v.ownBlock = some k → x.2 = [])
    (r : RowV w2 base v' (l.map (·.1) ++ [x.1])) (s : RStep w1 v w2 v') : RowS w2 base v' (l ++ [x]) := by
  have one : ∀ y : Value × List Int, Sl w1 y.1 y.2 → (∀ k, y.1.ownBlock = some k → v.ownBlock = some k → y.2 = []) → Sl w2 y.1 y.2 ∧ ∀ k, y.1.ownBlock = some k → v'.ownBlock = some k → y.2 = [] := by
    intro y hy hay
    refine ⟨hy.apart s.1 (fun i hi hm => hay i hi (by simpa [Option.mem_toList] using hm)), fun k hk hv => ?_⟩
    rcases s.2 k hv with h1 | h1
    · exact hay k hk h1
    · by_cases hb : y.2 = []
      · exact hb
      · obtain ⟨ao', c', e, h1', _, h3, h4⟩ := hy
        cases ao' with
        | none => exact List.eq_nil_of_length_eq_zero (by have := h3 rfl; omega)
        | some a =>
          have hpos : 0 < y.2.length := List.length_pos_iff.2 hb
          have hc := h4 a rfl 0 (.int .u8 y.2[0]) (by simp [List.getElem?_eq_getElem hpos])
          have hlt := World.block_lt_of_cell? _ _ hc
          rw [add_block] at hlt
          rw [e] at hk
          have : a.block = k := by simpa [Value.ownBlock] using hk
          omega
  refine ⟨by rw [List.map_append]; exact r, fun y hy => ?_⟩
  rcases List.mem_append.1 hy with hy | hy
  · obtain ⟨h1, h2, h3⟩ := h.2 y hy
    exact ⟨(one y h1 h3).1, h2, (one y h1 h3).2⟩
  · obtain rfl : y = x := by simpa using hy
    exact ⟨(one y hx ha).1, hB, (one y hx ha).2⟩
theorem wpList_rows {base : Nat} {wr w2 : World} {ops : Array Oper} {rest : List Oper} {o : Oper} {a : Act} {Q : Exit → Act → World → Prop} (hgd : o.guard = none) (s x : Operand)
    (ho : o.op = .call { callee := .builtin .append, args := #[s, x], argTypes := #[33, 33] }) (v : Value) (l : List (Value × List Int)) (hs : a.eval s = v) (hP : RowS wr base v l) (hbase : base ≤ wr.heap.size) (hl : l.length ≤ 1000000)
    (vx : Value) (bs : List Int) (k : Kp [] wr w2) (hr : Sl w2 vx bs) (hnew : ∀ i, vx.ownBlock = some i → wr.heap.size ≤ i) (hb : Bs bs) (hx : a.eval x = .slice (some ⟨w2.heap.size, 0, none⟩) 1 1)
    (h : ∀ ao m c w', RowS w' base (.slice ao m c) (l ++ [(vx, bs)]) → Kp v.ownBlock.toList w2 w' → wpList Tryz.prog ops Q rest (a.put o.dst (.slice ao m c)) w') : wpList Tryz.prog ops Q (o :: rest) a (w2.alloc (.cells #[vx] 22)) := by
  have k2 : Kp [] w2 (w2.alloc (.cells #[vx] 22)) := (Kp.refl [] w2).alloc _
  have hP2 := (hP.kept k).kept k2
  have hr0 := hr
  obtain ⟨ax, cx, hvx, -⟩ := hr0
  refine wpList_append_rowv hgd s x ho base v (l.map (·.1)) hs hP2.1 ⟨w2.heap.size, 0, none⟩ 1 [vx] hx ?_ ?_ ?_ ?_ ?_
  · intro j u hu
    exact World.news_of_block (heap_alloc_new w2 _) j u (by simpa using hu)
  · simp [hvx, Value.oneCell']
  · simp; omega
  · have := k.size
    simp; omega
  · intro ao m c w' r st
    refine h ao m c w' (hP2.snocJ (x := (vx, bs)) (hr.kept k2 (by simp)) hb (fun i h1 h2 => by have := hP.1.lt h2; have := hnew i h1; omega) r st) ?_
    exact (k2.mono (by simp)).trans st.1
set_option maxRecDepth 100000 in
set_option maxHeartbeats 4000000 in
theorem refopen_any (v : Value) (b : List Int) (w : World) (hS : Sl w v b) (hB : Bs b) (hl : b.length ≤ 1048576) :
    Calls Tryz.prog 62 #[v] w fun e w' => ∃ ao m c l, e = .returned (.tuple #[.slice ao m c, .int .i64 (opnP b).2.1, .bool (opnP b).2.2]) ∧ RowS w' w.heap.size (.slice ao m c) l ∧ l.map (·.2) = (opnP b).1 ∧ m = (opnP b).1.length ∧ Kp [] w w' := by
  have HS := hide (fun w' (k : Kp [] w w') => hS.kept k (by simp))
  have HB := hide hB
  obtain ⟨ab, cb, rfl, hcb, hmx, hab, -⟩ := hS
  obtain ⟨n, hn⟩ : ∃ n, n = b.length := ⟨_, rfl⟩
  rw [← hn] at HS hl hcb ⊢
  have HN := hide hn
  have hln : (n : Int) ≤ 1048576 := by omega
  have hus := uns32
  have HAb := hide hab
  have HMx := hide hmx
  clear hn hB hl hab hmx
  go_enter Tryz.func62, Tryz.ntmps62
  go_wp2_with fail
  go_loopw [5, 6] (fun o s wr => ∃ (at_ : Nat) (l : List (Value × List Int)), at_ ≤ n ∧ s = .int .i64 at_ ∧ (∃ ao c, o = .slice ao l.length c) ∧ RowS wr w.heap.size o l ∧ Kp [] w wr ∧ opnP b = (l.map (·.2) ++ (opnP (b.drop at_)).1, at_ + (opnP (b.drop at_)).2.1, (opnP (b.drop at_)).2.2)) (fun _ s _ => n - (intOf s).toNat)
  case atStart => exact ⟨0, [], by omega, rfl, ⟨_, _, rfl⟩, ⟨World.ownsRow_nil _ _ _ _, by simp⟩, Kp.refl _ _, by simp⟩
  case round =>
    obtain ⟨at_, l, hat, rfl, ⟨ao, c, rfl⟩, hP, hK, hO⟩ := hrel
    have HO := hide hO
    have HP := hide hP
    have HK := hide hK
    have hrun : ∀ W, (Instr.sliceAt 22 (.slice ab n cb) (some (.int .i64 at_)) none none).run Tryz.prog W = .ok (.slice (if cb = at_ then ab else ab.map (·.add at_)) (n - at_) (cb - at_)) W := fun W => run_from ab n cb at_ W hat hcb HAb.out
    obtain ⟨X, hX⟩ : ∃ X, X = if cb = at_ then ab else ab.map (·.add at_) := ⟨_, rfl⟩
    obtain ⟨k, hk⟩ : ∃ k, k = n - at_ := ⟨_, rfl⟩
    obtain ⟨cx, hcx⟩ : ∃ k, k = cb - at_ := ⟨_, rfl⟩
    obtain ⟨x, hx⟩ : ∃ x, x = b.drop at_ := ⟨_, rfl⟩
    rw [← hX, ← hk, ← hcx] at hrun
    have hSx : Sl wr (.slice X k cx) x := by
      have := (HS.out wr HK.out).drop at_ (by have := HN.out; omega)
      rw [← hX, ← hk, ← hcx, ← hx] at this
      exact this
    have hkx : k = x.length := by rw [hx, List.length_drop, hk, HN.out]
    have HX := hide hx
    have HKx := hide hkx
    have hkn : k + at_ = n := by omega
    have HBx : Hid (Bs x) := by rw [hx]; exact HB.out.drop _
    have HSx := hide hSx
    rw [← hx] at HO
    clear hx hkx hX hk hcx hO hP hK hSx
    by_cases h8 : k < 8
    · have h8' : (k : Int) < 8 := by omega
      go_wp2_with fail
      go_ret3
      have e := opnP_short (b := x) (by have := HKx.out; omega)
      have eb := HO.out
      rw [e] at eb
      exact ⟨ao, _, c, l, by rw [eb]; rfl, HP.out, by rw [eb]; simp, by rw [eb]; simp, HK.out⟩
    · have h8' : ¬ (k : Int) < 8 := by omega
      obtain ⟨q, hq⟩ : ∃ q, q = wr.heap.size := ⟨_, rfl⟩
      obtain ⟨w1, hw1⟩ : ∃ w1, w1 = wr.alloc (.cells #[.slice X k cx, .int .i64 0, .bool false] 125) := ⟨_, rfl⟩
      have K1 : Kp [] wr w1 := by rw [hw1]; exact (Kp.refl [] wr).alloc _
      have hS1 := HSx.out.kept K1 (by simp)
      have hrr : RR w1 q (.slice X k cx) 0 false x := by
        refine ⟨by rw [hw1, hq]; exact heap_alloc_new wr _, hS1, fun e => ?_, Nat.zero_le _⟩
        by_cases hx0 : x = []
        · have := HKx.out; rw [hx0] at this; simp at this; omega
        · obtain ⟨b', off, rfl, -, hcl⟩ := HSx.out.at2 (by omega)
          have hpos : 0 < x.length := List.length_pos_iff.2 hx0
          have := World.block_lt_of_cell? _ _ (hcl 0 hpos)
          have e' : b' = q := by simpa [Value.ownBlock] using e
          simp at this
          omega
      have HK1 := hide K1
      have HQ := hide hq
      have HW1 := hide hw1
      have hxk : x.length = k := HKx.out.symm
      have HN1 := hide (rnumb_any q _ 0 false x 4 w1 hrr (by omega) (by omega) HBx.out)
      have et : tk false (rest 0 false x) (4 : Nat) = (x.take 4, false, x.drop 4) := by
        show tk false (x.drop 0) (4 : Nat) = _
        rw [List.drop_zero, tk_ok false x 4 (by omega)]
      rw [et] at HN1
      obtain ⟨a, ha⟩ : ∃ a, a = num1 x := ⟨_, rfl⟩
      have ha' : val (x.take 4) = a := ha.symm
      simp only [ha'] at HN1
      have hab : 0 ≤ a ∧ a ≤ 4294967295 := by
        have h1 := val_bd (x.take 4) (HBx.out.takes 4)
        have h2 : (x.take 4).length = 4 := by simp; omega
        rw [h2, ha'] at h1
        omega
      obtain ⟨m, rfl⟩ := Int.eq_ofNat_of_zero_le hab.1
      have hx32 := not32 m hab.1 hab.2
      have hw64 : IntKind.i64.wrap (m : Int) = m := by simp [IntKind.wrap, IntKind.signed, IntKind.bits]; omega
      have HA := hide ha
      have HM := hide hab
      have hk8 : IntKind.u32.wrap ((k : Int) - 8) = (k : Int) - 8 := by simp [IntKind.wrap, IntKind.signed, IntKind.bits]; omega
      have hk8' : IntKind.i64.wrap ((k : Int) - 8) = (k : Int) - 8 := by simp [IntKind.wrap, IntKind.signed, IntKind.bits]; omega
      clear ha ha' hab et hrr hS1 K1 hq hw1 hxk
      go_wp2_with fail
      rw [← HW1.out, ← HQ.out]
      refine HN1.out.mono ?_
      rintro ee w2 ⟨rfl, i2, bad2, R2, e2, K2⟩
      have e2a : bad2 = false := (congrArg Prod.fst e2).symm
      subst e2a
      have e2b : rest i2 false x = x.drop 4 := (congrArg Prod.snd e2).symm
      have hxk : x.length = k := HKx.out.symm
      have HN2 := hide (rnumb_any q _ i2 false x 4 w2 R2 (by omega) (by omega) HBx.out)
      have et : tk false (rest i2 false x) (4 : Nat) = ((x.drop 4).take 4, false, x.drop 8) := by
        rw [e2b, tk_ok false _ 4 (by simp; omega), List.drop_drop]
      rw [et] at HN2
      obtain ⟨t, ht⟩ : ∃ t, t = num2 x := ⟨_, rfl⟩
      have ht' : val ((x.drop 4).take 4) = t := ht.symm
      simp only [ht'] at HN2
      have HT := hide ht
      have HK2 := hide K2
      clear ht ht' et e2 e2b R2 K2 HN1 hxk
      go_wp2_with fail
      refine HN2.out.mono ?_
      rintro ee w3 ⟨rfl, i3, bad3, R3, e3, K3⟩
      have e3a : bad3 = false := (congrArg Prod.fst e3).symm
      subst e3a
      have e3b : rest i3 false x = x.drop 8 := (congrArg Prod.snd e3).symm
      have HR3 := hide R3
      have HE3 := hide e3b
      have HK3 : Hid (Kp [] wr w3) := HK1.out.then (HK2.out.trans K3) (fun i hi => .inr (by simp at hi; have := HQ.out; omega))
      clear R3 e3 e3b K3 HN2
      by_cases hbad : t = 4294967295 - (m : Int) ∧ m ≤ 65535
      · obtain ⟨rfl, hm⟩ := hbad
        have hm' : ¬ (65535 : Int) < m := by omega
        have hm'' : (m : Int) ≤ 65535 := by omega
        by_cases htn : k - 8 < m
        · have htn' : (k : Int) - 8 < m := by omega
          go_wp2_with fail
          go_ret3
          have e := opnP_torn (b := x) (by have := HKx.out; omega) (by rw [← HT.out, ← HA.out]) (by rw [← HA.out]; omega) (by rw [← HA.out]; have := HKx.out; omega)
          have eb := HO.out
          rw [e] at eb
          exact ⟨ao, _, c, l, by rw [eb]; rfl, HP.out.kept HK3.out, by rw [eb]; simp, by rw [eb]; simp, HK.out.trans HK3.out⟩
        · have htn' : ¬ (k : Int) - 8 < m := by omega
          have HRw := hide (rraw_any q _ i3 false x m w3 HR3.out (by have := HKx.out; omega) (by omega))
          have et : tk false (rest i3 false x) (m : Int) = ((x.drop 8).take m, false, x.drop (8 + m)) := by
            rw [HE3.out, tk_ok false _ m (by have := HKx.out; simp; omega), List.drop_drop]
          rw [et] at HRw
          clear et
          go_wp2_with fail
          refine HRw.out.mono ?_
          rintro ee w4 ⟨a4, m4, c4, rfl, ⟨S4, o4⟩, i4, b4, -, -, K4⟩
          have HS4 := hide S4
          have HK4 : Hid (Kp [] wr w4) := HK3.out.then K4 (fun i hi => .inr (by simp at hi; have := HQ.out; omega))
          have ho4 : ∀ i, (Value.slice a4 m4 c4).ownBlock = some i → wr.heap.size ≤ i := fun i hi => Nat.le_trans HK3.out.size (o4 i hi)
          have hll : l.length ≤ 1000000 := by
            have h1 := opnP_count b
            rw [HO.out] at h1
            simp only [List.length_append, List.length_map] at h1
            have := HN.out
            omega
          have hbx : Bs ((x.drop 8).take m) := (HBx.out.drop 8).takes m
          have hwa : IntKind.i64.wrap ((at_ : Int) + 8) = (at_ : Int) + 8 := by simp [IntKind.wrap, IntKind.signed, IntKind.bits]; omega
          have hwb : IntKind.i64.wrap ((at_ : Int) + 8 + (m : Int)) = (at_ : Int) + 8 + (m : Int) := by simp [IntKind.wrap, IntKind.signed, IntKind.bits]; omega
          clear S4 o4 K4 HRw
          go_wp2_with (at_builtin; refine wpList_rows (base := w.heap.size) (wr := wr) rfl (.tmp 44) (.tmp 49) rfl (.slice ao l.length c) l rfl HP.out HK.out.size hll (.slice a4 m4 c4) _ HK4.out HS4.out ho4 hbx rfl ?_; intro a6 m6 c6 w6 P6 K6)
          have hq6 : ∀ i ∈ (Value.slice ao l.length c).ownBlock.toList, w.heap.size ≤ i := fun i hi => HP.out.1.own i (by simpa [Option.mem_toList] using hi)
          have hm6 : m6 = l.length + 1 := by have := P6.1.len; simpa using this
          subst hm6
          have HP6 := hide P6
          have HK6 : Hid (Kp [] w w6) := (HK.out.trans HK4.out).then K6 (fun i hi => .inr (hq6 i hi))
          clear P6 K6 hq6 HS4 ho4 hbx
          go_wp2_with fail
          go_roundw
          case rel =>
            have hst := opnP_step b at_ (l.map (·.2)) (by rw [← HX.out]; exact HO.out) (by rw [← HX.out]; have := HKx.out; omega) (by rw [← HX.out, ← HT.out, ← HA.out]) (by rw [← HX.out, ← HA.out]; omega) (by rw [← HX.out, ← HA.out]; have := HKx.out; omega)
            rw [← HX.out, ← HA.out, Int.toNat_natCast] at hst
            refine ⟨at_ + (8 + m), _, by omega, ?_, ⟨a6, c6, ?_⟩, HP6.out, HK6.out, ?_⟩
            · congr 1; omega
            · simp
            · rw [hst]; simp
          case measure =>
            simp [intOf]; omega
      · by_cases hb1 : t = 4294967295 - (m : Int)
        · have hm' : (65535 : Int) < m := by
            have : ¬ m ≤ 65535 := fun h => hbad ⟨hb1, h⟩
            omega
          have HBD : Hid (opnP x = ([], 0, false)) := opnP_bad (by have := HKx.out; omega) (.inr (by rw [← HA.out]; exact hm'))
          subst hb1
          clear hbad
          go_wp2_with fail
          go_ret3
          have eb := HO.out
          rw [HBD.out] at eb
          exact ⟨ao, _, c, l, by rw [eb]; rfl, HP.out.kept HK3.out, by rw [eb]; simp, by rw [eb]; simp, HK.out.trans HK3.out⟩
        · have HBD : Hid (opnP x = ([], 0, false)) := opnP_bad (by have := HKx.out; omega) (.inl (by rw [← HA.out, ← HT.out]; exact hb1))
          clear hbad
          go_wp2_with fail
          go_ret3
          have eb := HO.out
          rw [HBD.out] at eb
          exact ⟨ao, _, c, l, by rw [eb]; rfl, HP.out.kept HK3.out, by rw [eb]; simp, by rw [eb]; simp, HK.out.trans HK3.out⟩
end Go.Proofs.YtillhpgdlmeajaaGreatDoor
