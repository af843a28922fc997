/-
  The contract of package ledger's unlaid: what a record is read as.
-/
import Derived.Test.YtillhpgdlmeajaaGreatDoorKURow
import Derived.Test.YtillhpgdlmeajaaGreatDoorKJRef
namespace Go.Proofs.YtillhpgdlmeajaaGreatDoor
open Go.RowKit
open Go.Proofs
set_option linter.unusedVariables false

/-- such a row whose slices lie from base on. -/
def RowsQ (w : World) (base : Nat) (v : Value) (l : List (Value × List Int)) : Prop := RowS w base v l ∧ ∀ x ∈ l, ∀ k, x.1.ownBlock = some k → base ≤ k
theorem RowsQ.kept {w w' : World} {base : Nat} {v : Value} {l : List (Value × List Int)} {S : List Nat} (h : RowsQ w base v l) (k : Kp S w w') (hS : ∀ i ∈ S, i < base) : RowsQ w' base v l :=
  ⟨⟨h.1.1.kept k (fun i hi hm => by have := h.1.1.own i hi; have := hS i hm; omega), fun x hx => ⟨(h.1.2 x hx).1.kept k (fun i hi hm => by have := h.2 x hx i hi; have := hS i hm; omega), (h.1.2 x hx).2⟩⟩, h.2⟩
theorem wpList_rowsQ {base : Nat} {w2 : World} {ops : Array Oper} {rest : List Oper} {o : Oper} {a : Act} {Q : Exit → Act → World → Prop} (hgd : o.guard = none) (s x : Operand)
    (ho : o.op = .call { callee := .builtin .append, args := #[s, x], argTypes := #[33, 33] }) (v : Value) (l : List (Value × List Int)) (hs : a.eval s = v) (hP : RowsQ w2 base v l) (hbase : base ≤ w2.heap.size) (hl : l.length ≤ 1000000)
    (vx : Value) (bs : List Int) (hr : Sl w2 vx bs) (hap : ∀ i, vx.ownBlock = some i → v.ownBlock ≠ some i) (hnb : ∀ i, vx.ownBlock = some i → base ≤ i) (hb : Bs bs) (hx : a.eval x = .slice (some ⟨w2.heap.size, 0, none⟩) 1 1)
    (h : ∀ ao m c w', RowsQ w' base (.slice ao m c) (l ++ [(vx, bs)]) → Kp v.ownBlock.toList w2 w' → wpList Tryz.prog ops Q rest (a.put o.dst (.slice ao m c)) w') : wpList Tryz.prog ops Q (o :: rest) a (w2.alloc (.cells #[vx] 22)) := by
  have k2 : Kp [] w2 (w2.alloc (.cells #[vx] 22)) := (Kp.refl [] w2).alloc _
  have hP2 := hP.1.kept k2
  obtain ⟨ax, cx, hvx, -⟩ := id hr
  refine wpList_append_rowv hgd s x ho base v (l.map (·.1)) hs hP2.1 ⟨w2.heap.size, 0, none⟩ 1 [vx] hx ?_ ?_ ?_ ?_ ?_
  · intro j u hu
    exact World.news_of_block (heap_alloc_new w2 _) j u (by simpa using hu)
  · simp [hvx, Value.oneCell']
  · simp; omega
  · simp; omega
  · intro ao m c w' r st
    refine h ao m c w' ⟨hP2.snocJ (x := (vx, bs)) (hr.kept k2 (by simp)) hb (fun i h1 h2 => absurd h2 (hap i h1)) r st, fun y hy => ?_⟩ ?_
    · rcases List.mem_append.1 hy with hy | hy
      · exact hP.2 y hy
      · obtain rfl : y = (vx, bs) := by simpa using hy
        exact hnb
    · exact (k2.mono (by simp)).trans st.1
theorem ubad_any (q : Nat) (v : Value) (bad : Bool) (bs : List Int) (w : World) (h : Rd w q v bad bs) :
    Calls Tryz.prog 128 #[.pointer (some ⟨q, 0, none⟩)] w fun e w' => e = .returned (.bool bad) ∧ w' = w := by
  have hc1 := (cell_of_two h.1).2
  clear h
  go_enter Tryz.func128, Tryz.ntmps128
  go_wp2
  go_ret
  exact ⟨rfl, rfl⟩
theorem itsU_count : ∀ (n : Nat) (b : List Int) (xs : List (List Int)), itsU n b = some xs → xs.length = n
  | 0, b, xs, h => by
    unfold itsU at h
    split at h
    · cases h; rfl
    · cases h
  | n + 1, b, xs, h => by
    unfold itsU at h
    split at h
    · cases h
    · cases h2 : itsU n (tkb false b 65535).2.2 with
      | none => rw [h2] at h; cases h
      | some ys =>
        rw [h2] at h
        simp only [Option.map_some, Option.some.injEq] at h
        rw [← h, List.length_cons, itsU_count n _ ys h2]
theorem val_u32 (cs : List Int) (h : Bs cs) (hl : cs.length ≤ 4) : 0 ≤ val cs ∧ val cs ≤ 4294967295 := by
  have h1 := val_bd cs h
  have : cs.length = 0 ∨ cs.length = 1 ∨ cs.length = 2 ∨ cs.length = 3 ∨ cs.length = 4 := by omega
  rcases this with e | e | e | e | e <;> rw [e] at h1 <;> omega
theorem tkb_less {b : List Int} (h : (tkb false b 65535).2.1 = false) : (tkb false b 65535).2.2.length + 2 ≤ b.length := by
  obtain ⟨h1, h2, h3, h4⟩ := tkb_bad h
  rw [h4]
  have := @tk_len false (b.drop 2) (val (b.take 2))
  rw [List.length_drop] at this
  omega
theorem itsU_step {k : Nat} {b b' x : List Int} {xs : List (List Int)} (h : tkb false b 65535 = (x, false, b')) : (itsU (k + 1) b).map (xs ++ ·) = (itsU k b').map ((xs ++ [x]) ++ ·) := by
  rw [itsU, h]
  simp only [Bool.false_eq_true, if_false]
  cases itsU k b' <;> simp
/-- the end of the loop. -/
theorem unl_end {n0 k : Nat} {b0 b r : List Int} {bad0 bad : Bool} {xs : List (List Int)} (hU : unlU r = if bad0 then none else if n0 = 0 then none else itsU n0 b0) (hk : xs.length + k = n0) (hx : k = 0 ∨ bad = true) (h1 : bad = true → k = 0 ∧ n0 = 0 ∨ itsU n0 b0 = none) (h2 : bad = false → bad0 = false ∧ itsU n0 b0 = (itsU k b).map (xs ++ ·)) :
    (decide (0 < xs.length) && (!bad && b.isEmpty)) = (unlU r).isSome ∧ ∀ ys, unlU r = some ys → xs = ys := by
  cases bad with
  | true =>
    have e : unlU r = none := by
      rw [hU]
      split
      · rfl
      · split
        · rfl
        · rcases h1 rfl with h | h
          · omega
          · exact h
    rw [e]
    exact ⟨by simp, fun ys h => by cases h⟩
  | false =>
    obtain ⟨h3, h4⟩ := h2 rfl
    have hk0 : k = 0 := hx.resolve_right (by simp)
    subst hk0
    rw [h3] at hU
    simp only [Bool.false_eq_true, if_false] at hU
    rw [hU, h4]
    unfold itsU
    cases xs with
    | nil => simp at hk; subst hk; simp
    | cons y ys =>
      have : n0 ≠ 0 := by simp at hk; omega
      rw [if_neg this]
      cases b with
      | nil => simp
      | cons c cs => simp
set_option maxRecDepth 100000 in
set_option maxHeartbeats 4000000 in
theorem unlaid_any (v : Value) (r : List Int) (w : World) (hS : Sl w v r) (hB : Bs r) (hl : r.length ≤ 1000000) (ok : Bool) (hok0 : ok = (unlU r).isSome) :
    Calls Tryz.prog 90 #[v] w fun e w' => ∃ ao m c, e = .returned (.tuple #[.slice ao m c, .bool ok]) ∧ Kp [] w w' ∧ ∀ xs, unlU r = some xs → ∃ l, RowsQ w' w.heap.size (.slice ao m c) l ∧ l.map (·.2) = xs := by
  have HRd := hide (read_any v r w hS (by omega))
  have HOk0 := hide hok0
  clear hok0
  have HB := hide hB
  have HL := hide hl
  obtain ⟨ab, cb, rfl, -⟩ := hS
  obtain ⟨nr, hnr⟩ : ∃ n, n = r.length := ⟨_, rfl⟩
  rw [← hnr] at HRd ⊢
  have HNr := hide hnr
  clear hB hl hnr
  go_enter Tryz.func90, Tryz.ntmps90
  go_wp2_with fail
  refine HRd.out.mono ?_
  rintro ee w1 ⟨q, v1, rfl, hq, R1, hv1, K1⟩
  have HNm := hide (rnum_any q v1 false r w1 R1 HB.out)
  have HQ := hide hq
  have HK1 := hide K1
  have hq1 := lt_of_block R1.1
  have HV1 := hide hv1
  clear HRd hq R1 hv1 K1
  obtain ⟨n0, hn0⟩ : ∃ n : Nat, (val (tk false r 4).1) = (n : Int) ∧ n ≤ 4294967295 := by
    have h0 := val_u32 (tk false r 4).1 (tk_bs1 HB.out) (@tk_len1 false r 4)
    exact ⟨(val (tk false r 4).1).toNat, by omega, by omega⟩
  rw [hn0.1] at HNm
  have HN0 := hide hn0.1
  have hn32 := hn0.2
  clear hn0
  go_wp2_with fail
  refine HNm.out.mono ?_
  rintro ee w2 ⟨rfl, ⟨v2, R2, o2⟩, K2⟩
  obtain ⟨bad0, b0, hb0⟩ : ∃ bad b, (tk false r 4).2 = (bad, b) := ⟨_, _, rfl⟩
  rw [hb0] at R2
  simp only at R2
  have HBd : Hid (Bs b0) := hide (by have := @tk_bs2 false r 4 HB.out; rw [hb0] at this; exact this)
  have HBL : Hid (b0.length ≤ 1000000) := hide (by have := @tk_len false r 4; rw [hb0] at this; simp only at this; have := HL.out; omega)
  have HU : Hid (unlU r = if bad0 then none else if n0 = 0 then none else itsU n0 b0) := by
    refine hide ?_
    have hv := HN0.out
    unfold unlU
    by_cases h4 : r.length < 4
    · rw [if_pos h4]
      rw [tk_no false r 4 (.inr (by omega))] at hb0
      injection hb0 with e1 e2
      rw [← e1]; rfl
    · rw [if_neg h4]
      have e := tk_ok false r 4 (by omega)
      rw [show ((4 : Nat) : Int) = 4 from rfl] at e
      rw [e] at hb0 hv
      injection hb0 with e1 e2
      simp only at hv
      rw [← e1, ← e2, hv]
      simp
  have HB0 : Hid (bad0 = true → n0 = 0) := by
    refine hide (fun hb => ?_)
    by_cases h4 : r.length < 4
    · have hv := HN0.out
      rw [tk_no false r 4 (.inr (by omega))] at hv
      have : val [] = 0 := rfl
      simp only at hv
      omega
    · have e := tk_ok false r 4 (by omega)
      rw [show ((4 : Nat) : Int) = 4 from rfl] at e
      rw [e] at hb0
      injection hb0 with e1 e2
      rw [hb] at e1; cases e1
  have HI : Hid (∃ (k : Nat) (bad : Bool) (b : List Int) (l : List (Value × List Int)) (rv : Value), k ≤ n0 ∧ (Value.int .u32 (n0 : Int)) = .int .u32 k ∧ (∃ ao m c, (Value.slice none 0 0) = .slice ao m c) ∧ l.length + k = n0 ∧ Rd w2 q rv bad b ∧ (∀ i, rv.ownBlock = some i → i < w1.heap.size) ∧ Bs b ∧ b.length ≤ 1000000 ∧ RowsQ w2 w1.heap.size (.slice none 0 0) l ∧ Kp [q] w1 w2 ∧ l.length ≤ 1000000 ∧ (bad = false → l.length * 2 + b.length ≤ 1000004) ∧ (bad = true → k = 0 ∧ n0 = 0 ∨ itsU n0 b0 = none) ∧ (bad = false → bad0 = false ∧ itsU n0 b0 = (itsU k b).map (l.map (·.2) ++ ·))) := by
    refine hide ⟨n0, bad0, b0, [], v2, Nat.le_refl _, rfl, ⟨_, _, _, rfl⟩, by simp, R2, fun i hi => (HV1.out i (o2 i hi)).2, HBd.out, HBL.out, ⟨⟨World.ownsRow_nil _ _ _ _, by simp⟩, by simp⟩, K2, by simp, fun _ => by have := HBL.out; simp; omega, fun hb => .inl ⟨HB0.out hb, HB0.out hb⟩, fun hb => ⟨hb, by simp⟩⟩
  clear HNm R2 o2 K2 hb0
  go_wp2_with fail
  go_loopw [5, 6] (fun o s wr => ∃ (k : Nat) (bad : Bool) (b : List Int) (l : List (Value × List Int)) (rv : Value), k ≤ n0 ∧ s = .int .u32 k ∧ (∃ ao m c, o = .slice ao m c) ∧ l.length + k = n0 ∧ Rd wr q rv bad b ∧ (∀ i, rv.ownBlock = some i → i < w1.heap.size) ∧ Bs b ∧ b.length ≤ 1000000 ∧ RowsQ wr w1.heap.size o l ∧ Kp [q] w1 wr ∧ l.length ≤ 1000000 ∧ (bad = false → l.length * 2 + b.length ≤ 1000004) ∧ (bad = true → k = 0 ∧ n0 = 0 ∨ itsU n0 b0 = none) ∧ (bad = false → bad0 = false ∧ itsU n0 b0 = (itsU k b).map (l.map (·.2) ++ ·))) (fun _ s _ => (intOf s).toNat)
  case atStart => exact HI.out
  case round =>
    obtain ⟨k, bad, b, l, rv, hkn, rfl, ⟨ao, m, c, rfl⟩, hlk, R, hrv, hBb, hbl, P, K, hll, hl2, h1, h2⟩ := hrel
    have HR := hide R
    have HRv := hide hrv
    have HBb := hide hBb
    have Hbl := hide hbl
    have HP := hide P
    have HK := hide K
    have HB1 := hide h1
    have HB2 := hide h2
    have HLk := hide hlk
    have Hl2 := hide hl2
    have HKw : Hid (Kp [] w wr) := HK1.out.then K (fun i hi => .inr (by simp at hi; subst hi; exact HQ.out))
    have HPw : Hid (RowsQ wr w.heap.size (.slice ao m c) l) := by
      have hs := HK1.out.size
      exact hide ⟨⟨owns_rebase P.1.1 (fun i hi => Nat.le_trans hs (P.1.1.own i hi)), P.1.2⟩, fun x hx i hi => Nat.le_trans hs (P.2 x hx i hi)⟩
    clear HI R hrv hBb hbl P K h1 h2 hlk hl2
    by_cases hk0 : k = 0
    · have hk' : ¬ (0 : Int) < (k : Int) := by omega
      have hdk : decide ((0 : Int) < (k : Int)) = false := decide_eq_false hk'
      obtain ⟨hok, hxs⟩ := unl_end (xs := l.map (·.2)) HU.out (by rw [List.length_map]; exact HLk.out) (.inl hk0) HB1.out HB2.out
      rw [List.length_map] at hok
      have HOk := hide hok
      have HXs := hide hxs
      obtain ⟨ml, hml⟩ : ∃ m, m = l.length := ⟨_, rfl⟩
      have hmm : m = ml := by rw [hml]; have := HP.out.1.1.len; simpa using this
      subst hmm
      rw [← hml] at HOk
      clear hok hxs
      by_cases hpos : 0 < m
      · have hpos' : (0 : Int) < (m : Int) := by omega
        have hd : decide ((0 : Int) < (m : Int)) = true := decide_eq_true hpos'
        have HEnd := hide (end_any q rv bad b wr HR.out)
        obtain ⟨eb, heb⟩ : ∃ x, x = (!bad && b.isEmpty) := ⟨_, rfl⟩
        rw [← heb] at HEnd
        have HEB := hide heb
        clear hml heb
        go_wp2_with fail
        refine HEnd.out.mono ?_
        rintro ee w3 ⟨rfl, hw⟩
        subst w3
        clear HEnd
        go_wp2_with fail
        have heo : eb = ok := by rw [HOk0.out, ← HOk.out, HEB.out]; simp [hpos]
        subst heo
        go_ret2
        exact ⟨ao, m, c, rfl, HKw.out, fun xs hxs => ⟨l, HPw.out, HXs.out xs hxs⟩⟩
      · have hpos' : ¬ (0 : Int) < (m : Int) := by omega
        have hd : decide ((0 : Int) < (m : Int)) = false := decide_eq_false hpos'
        clear hml
        go_wp2_with fail
        have heo : ok = false := by rw [HOk0.out, ← HOk.out]; simp [hpos]
        subst heo
        go_ret2
        exact ⟨ao, m, c, rfl, HKw.out, fun xs hxs => ⟨l, HPw.out, HXs.out xs hxs⟩⟩
    · have hk' : (0 : Int) < (k : Int) := by omega
      have hdk : decide ((0 : Int) < (k : Int)) = true := decide_eq_true hk'
      have HBad := hide (ubad_any q rv bad b wr HR.out)
      by_cases hbt : bad = true
      · subst hbt
        obtain ⟨hok, hxs⟩ := unl_end (xs := l.map (·.2)) HU.out (by rw [List.length_map]; exact HLk.out) (.inr rfl) HB1.out HB2.out
        rw [List.length_map] at hok
        have HOk := hide hok
        have HXs := hide hxs
        obtain ⟨ml, hml⟩ : ∃ m, m = l.length := ⟨_, rfl⟩
        have hmm : m = ml := by rw [hml]; have := HP.out.1.1.len; simpa using this
        subst hmm
        rw [← hml] at HOk
        clear hok hxs
        by_cases hpos : 0 < m
        · have hpos' : (0 : Int) < (m : Int) := by omega
          have hd : decide ((0 : Int) < (m : Int)) = true := decide_eq_true hpos'
          have HEnd := hide (end_any q rv true b wr HR.out)
          obtain ⟨eb, heb⟩ : ∃ x, x = (!true && b.isEmpty) := ⟨_, rfl⟩
          rw [← heb] at HEnd
          have HEB := hide heb
          clear hml heb
          go_wp2_with fail
          refine HBad.out.mono ?_
          rintro ee w3 ⟨rfl, hw⟩
          subst w3
          clear HBad
          go_wp2_with fail
          refine HEnd.out.mono ?_
          rintro ee w3 ⟨rfl, hw⟩
          subst w3
          clear HEnd
          go_wp2_with fail
          have heo : eb = ok := by rw [HOk0.out, ← HOk.out, HEB.out]; simp [hpos]
          subst heo
          go_ret2
          exact ⟨ao, m, c, rfl, HKw.out, fun xs hxs => ⟨l, HPw.out, HXs.out xs hxs⟩⟩
        · have hpos' : ¬ (0 : Int) < (m : Int) := by omega
          have hd : decide ((0 : Int) < (m : Int)) = false := decide_eq_false hpos'
          clear hml
          go_wp2_with fail
          refine HBad.out.mono ?_
          rintro ee w3 ⟨rfl, hw⟩
          subst w3
          clear HBad
          go_wp2_with fail
          have heo : ok = false := by rw [HOk0.out, ← HOk.out]; simp [hpos]
          subst heo
          go_ret2
          exact ⟨ao, m, c, rfl, HKw.out, fun xs hxs => ⟨l, HPw.out, HXs.out xs hxs⟩⟩
      · obtain rfl : bad = false := by simpa using hbt
        have HBy := hide (rbytes_any q rv false b 65535 wr HR.out HBb.out (by have := Hbl.out; omega))
        obtain ⟨x, bad', b', ht⟩ : ∃ x bad' b', tkb false b 65535 = (x, bad', b') := ⟨_, _, _, rfl⟩
        rw [ht] at HBy
        simp only at HBy
        have HTk := hide ht
        have hw32 : IntKind.u32.wrap ((k : Int) - 1) = (k : Int) - 1 := by simp [IntKind.wrap, IntKind.signed, IntKind.bits]; omega
        clear ht hbt
        go_wp2_with fail
        refine HBad.out.mono ?_
        rintro ee w3 ⟨rfl, hw⟩
        subst w3
        clear HBad
        go_wp2_with fail
        refine HBy.out.mono ?_
        rintro ee w3 ⟨a3, c3, rfl, ⟨S3, o3⟩, ⟨v3, R3, ov3⟩, K3⟩
        obtain ⟨nx, hnx⟩ : ∃ n, n = x.length := ⟨_, rfl⟩
        rw [← hnx] at S3 o3 ⊢
        have HS3 := hide S3
        have Ho3 := hide o3
        have HR3 := hide R3
        have Hov3 := hide ov3
        have HK3 := hide K3
        have HP3 : Hid (RowsQ w3 w1.heap.size (.slice ao m c) l) := HP.out.kept K3 (by simpa using hq1)
        have hszr := HK.out.size
        have hszr3 := K3.size
        have HBx : Hid (Bs x) := hide (by have := @tkb_bs1 false b 65535 HBb.out; rw [HTk.out] at this; exact this)
        have hll2 : l.length ≤ 500002 := by have := Hl2.out (by first | rfl | trivial); omega
        clear HBy S3 o3 R3 ov3 K3 hnx
        go_wp2_with (at_builtin; refine wpList_rowsQ rfl (.tmp 20) (.tmp 23) rfl (.slice ao m c) l rfl HP3.out (by omega) (by omega) _ x HS3.out (fun i hi e => by have := Ho3.out i hi; have := HP.out.1.1.lt e; omega) (fun i hi => by have := Ho3.out i hi; omega) HBx.out rfl ?_; intro a7 m7 c7 w7 P7 K7)
        go_roundw
        case rel =>
          have hne : ∀ i, (Value.slice ao m c).ownBlock = some i → w1.heap.size ≤ i := HP.out.1.1.own
          have hR7 : Rd w7 q v3 bad' b' := HR3.out.kept K7 (fun hm => by have := hne q (by simpa [Option.mem_toList] using hm); omega) (fun i hi hm => by have h1 := HRv.out i (Hov3.out i hi); have := hne i (by simpa [Option.mem_toList] using hm); omega)
          refine ⟨k - 1, bad', b', l ++ [(_, x)], v3, by omega, ?_, ⟨a7, m7, c7, rfl⟩, ?_, hR7, fun i hi => HRv.out i (Hov3.out i hi), ?_, ?_, P7, (HK.out.trans HK3.out).then K7 (fun i hi => .inr (hne i (by simpa [Option.mem_toList] using hi))), ?_, ?_, ?_, ?_⟩
          · congr 1; omega
          · rw [List.length_append]; have := HLk.out; simp; omega
          · have := @tkb_bs2 false b 65535 HBb.out; rw [HTk.out] at this; exact this
          · have := @tkb_len false b 65535; rw [HTk.out] at this; simp only at this; have := Hbl.out; omega
          · rw [List.length_append]; simp; omega
          · intro hb
            rw [List.length_append]
            simp only [List.length_cons, List.length_nil]
            have h3 := tkb_less (b := b) (by rw [HTk.out]; exact hb)
            rw [HTk.out] at h3
            simp only at h3
            have h4 := Hl2.out (by first | rfl | trivial)
            omega
          · intro hb
            refine .inr ?_
            obtain ⟨e1, e2⟩ := HB2.out (by first | rfl | trivial)
            rw [e2, show k = (k - 1) + 1 by omega]
            unfold itsU
            rw [HTk.out, hb]
            rfl
          · intro hb
            obtain ⟨e1, e2⟩ := HB2.out (by first | rfl | trivial)
            refine ⟨e1, ?_⟩
            have hk1 : k = (k - 1) + 1 := by omega
            rw [e2]
            have ht := HTk.out
            rw [hb] at ht
            have := itsU_step (k := k - 1) (xs := l.map (·.2)) ht
            rw [← hk1] at this
            rw [this, List.map_append]
            rfl
        case measure => simp [intOf]; omega
end Go.Proofs.YtillhpgdlmeajaaGreatDoor
