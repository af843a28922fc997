/-
  The laws of ledger: the reference's Batch, items.
-/
import Derived.Test.YtillhpgdlmeajaaGreatDoorQOLedgerCrashes7
import Derived.Test.YtillhpgdlmeajaaGreatDoorQC25
import Derived.Test.YtillhpgdlmeajaaGreatDoorQOLedgerCrashes9
namespace Go.Proofs.YtillhpgdlmeajaaGreatDoor
open Go.RowKit
open Go.Proofs
set_option linter.unusedVariables false
/-- an item as it is drawn. -/
def itemX (x : Int) : List Int := encM (mkM x (x.tdiv 4) (x.tdiv 40))
theorem itemX_len (x : Int) : (itemX x).length ≤ 62 := by
  unfold itemX
  rw [encM_len, nums_len]
  have h1 := mkM_size x (x.tdiv 4) (x.tdiv 40)
  have h2 : (mkM x (x.tdiv 4) (x.tdiv 40)).f.length = 32 := hashK_len _
  have h3 : (mkM x (x.tdiv 4) (x.tdiv 40)).n.length = 1 := rfl
  omega
theorem itemX_bs (x : Int) : Bs (itemX x) := encM_bs _ (mkM_ok _ _ _)
theorem tdiv_le (x c : Int) (hc : 0 < c) : (0 ≤ x → 0 ≤ x.tdiv c ∧ x.tdiv c ≤ x) ∧ (x < 0 → x ≤ x.tdiv c ∧ x.tdiv c ≤ 0) := by
  refine ⟨fun h => ⟨Int.tdiv_nonneg h (by omega), ?_⟩, fun h => ?_⟩
  · rw [Int.tdiv_eq_ediv_of_nonneg h]; exact Int.ediv_le_self c h
  · have e : x.tdiv c = -((-x).tdiv c) := by rw [Int.neg_tdiv]; omega
    rw [e, Int.tdiv_eq_ediv_of_nonneg (by omega)]
    have h1 := Int.ediv_le_self c (show 0 ≤ -x by omega)
    have h2 := Int.ediv_nonneg (show 0 ≤ -x by omega) (show 0 ≤ c by omega)
    omega
theorem RowsQ.off {w w' : World} {base : Nat} {v : Value} {l : List (Value × List Int)} {S : List Nat} (h : RowsQ w base v l) (k : Kp S w w') (hS : ∀ i ∈ S, i < base ∨ w.heap.size ≤ i) : RowsQ w' base v l :=
  h.kept (k.less (T := S.filter (fun i => decide (i < base))) (fun i hi hl => List.mem_filter.2 ⟨hi, decide_eq_true ((hS i hi).resolve_right (by omega))⟩)) (fun i hi => of_decide_eq_true (List.mem_filter.1 hi).2)
theorem RowsQ.lists {w : World} {base : Nat} {v : Value} {l : List (Value × List Int)} (h : RowsQ w base v l) (hl : l.length ≤ 1000000) : Lists w v l := lists_big h.1 hl
theorem RowsQ.rebase {w : World} {base b : Nat} {v : Value} {l : List (Value × List Int)} (h : RowsQ w base v l) (hb : b ≤ base) : RowsQ w b v l :=
  ⟨⟨owns_rebase h.1.1 (fun i hi => Nat.le_trans hb (h.1.1.own i hi)), h.1.2⟩, fun x hx i hi => Nat.le_trans hb (h.2 x hx i hi)⟩
theorem rowsQ_nil (w : World) (base : Nat) : RowsQ w base (.slice none 0 0) [] := ⟨⟨World.ownsRow_nil _ _ _ _, by simp⟩, by simp⟩
/-- a list of one slice that lies from B on. -/
def OneO (B : Nat) (r : List Int) : Tell := fun v w => ∃ g u, v = .slice (some ⟨g, 0, none⟩) 1 1 ∧ w.cell? ⟨g, 0, none⟩ = some u ∧ RO B r u w
theorem stable_oneo (B : Nat) (r : List Int) : Tell.stable (OneO B r) := fun _ _ _ k ⟨g, u, e, h1, h2⟩ => ⟨g, u, e, k.cell h1 (by simp), stable_ro B r _ _ _ k h2⟩
theorem grown_oneo {o : Oper} {a : Act} {w : World} (x : Operand) (ho : o.op = .buildSlice 33 1 #[(0, x)]) (B : Nat) (r : List Int) (h : RO B r (a.eval x) w) : grown Tryz.prog w (OneO B r) ((execOp a.eval o).run Tryz.prog w) := by
  have h' := h
  obtain ⟨ao, m, c, e, _⟩ := h
  have k : Kp [] w (w.alloc (.cells #[.slice ao m c] 22)) := (Kp.refl [] w).alloc _
  rw [e] at h'
  refine grown_run (v := .slice (some ⟨w.heap.size, 0, none⟩) 1 1) (w' := w.alloc (.cells #[.slice ao m c] 22)) ?_ k ⟨w.heap.size, _, rfl, by rw [cell_of_row _ _ 0 _ _ _ (heap_alloc_new w _)]; rfl, stable_ro B r _ _ _ k h'⟩
  obtain ⟨ρ, hρ, _⟩ := eval_is a
  rw [hρ] at e ⊢
  unfold execOp
  simp only [ho]
  simp [go_sem, e]
theorem wpList_rowsO {base B : Nat} {w2 : World} {ops : Array Oper} {rest : List Oper} {o : Oper} {a : Act} {Q : Exit → Act → World → Prop} (hgd : o.guard = none) (s x : Operand)
    (ho : o.op = .call { callee := .builtin .append, args := #[s, x], argTypes := #[33, 33] }) (v : Value) (l : List (Value × List Int)) (hs : a.eval s = v) (hP : RowsQ w2 base v l) (hbase : base ≤ w2.heap.size) (hl : l.length ≤ 1000000)
    (bs : List Int) (hx : OneO B bs (a.eval x) w2) (hb : Bs bs) (hap : ∀ i, v.ownBlock = some i → i < B) (hbB : base ≤ B)
    (h : ∀ ao m c w' u, RowsQ w' base (.slice ao m c) (l ++ [(u, bs)]) → RStep w2 v w' (.slice ao m c) → wpList Tryz.prog ops Q rest (a.put o.dst (.slice ao m c)) w') : wpList Tryz.prog ops Q (o :: rest) a w2 := by
  obtain ⟨g, u, ex, hc, ⟨ax, mx, cx, rfl, hS, hown⟩⟩ := hx
  refine wpList_append_rowv hgd s x ho base v (l.map (·.1)) hs hP.1.1 ⟨g, 0, none⟩ 1 [.slice ax mx cx] ex ?_ ?_ ?_ hbase ?_
  · intro j y hy
    have : j = 0 ∧ y = .slice ax mx cx := by
      cases j with
      | zero => exact ⟨rfl, by simpa using hy.symm⟩
      | succ j => simp at hy
    obtain ⟨rfl, rfl⟩ := this
    rw [Addr.add_lit]; exact hc
  · simp [Value.oneCell']
  · simp; omega
  · intro ao m c w' r st
    refine h ao m c w' (.slice ax mx cx) ⟨hP.1.snocJ (x := (.slice ax mx cx, bs)) hS hb (fun i h1 h2 => by have := hown i h1; have := hap i h2; omega) r st, fun y hy => ?_⟩ st
    rcases List.mem_append.1 hy with hy | hy
    · exact hP.2 y hy
    · obtain rfl : y = (.slice ax mx cx, bs) := by simpa using hy
      exact fun i hi => Nat.le_trans hbB (hown i hi)
set_option maxRecDepth 100000 in
set_option maxHeartbeats 4000000 in
theorem uitems_any (v : Value) (xs ys : List Int) (hys : ys = xs.take 6) (w : World) (hL : Ints w v xs) :
    Calls Tryz.prog 19 #[v] w fun e w' => ∃ ao m c, e = .returned (.slice ao m c) ∧ Kp [] w w' ∧ m = ys.length ∧ ∃ l, RowsQ w' w.heap.size (.slice ao m c) l ∧ l.map (·.2) = ys.map itemX := by
  have HYs := hide hys
  clear hys
  obtain ⟨al, cl, rfl, hlm, hbd, hcell⟩ := hL
  obtain ⟨N, hN⟩ : ∃ N, N = xs.length := ⟨_, rfl⟩
  have HC : Hid (∀ i (h : i < N), ∃ (hi : i < xs.length), ∃ a, al = some a ∧ w.cell? (a.add i) = some (.int .i64 xs[i]) ∧ -9223372036854775808 ≤ xs[i] ∧ xs[i] ≤ 9223372036854775807) := fun i hi => by
    have hi2 : i < xs.length := by omega
    obtain ⟨a, e, hc⟩ := hcell i hi2
    exact ⟨hi2, a, e, hc, hbd _ (List.getElem_mem hi2)⟩
  rw [← hN] at hlm ⊢
  unfold maxLen at hlm
  have HN := hide hN
  clear hcell hbd hN
  go_enter Tryz.func19, Tryz.ntmps19
  go_wp2_with fail
  go_loopw [3, 4] (fun o i wr => ∃ k : Nat, k ≤ N ∧ k ≤ 6 ∧ i = .int .i64 k ∧ (∃ ao m c, o = .slice ao m c) ∧ Kp [] w wr ∧ ∃ l, RowsQ wr w.heap.size o l ∧ l.map (·.2) = (xs.take k).map itemX) (fun _ i _ => N - (intOf i).toNat)
  case atStart => exact ⟨0, by omega, by omega, rfl, ⟨_, _, _, rfl⟩, Kp.refl _ _, [], rowsQ_nil _ _, by simp⟩
  case round =>
    obtain ⟨k, hkN, hk6, rfl, ⟨ao, m, c, rfl⟩, K, l, P, hl⟩ := hrel
    have HK := hide K
    have HP := hide P
    have HL := hide hl
    have hll : l.length = k := by have h := congrArg List.length hl; rw [List.length_map, List.length_map, List.length_take] at h; have := HN.out; omega
    clear hl P
    by_cases hlt : k < N ∧ k < 6
    · obtain ⟨hl1, hl2⟩ := hlt
      have hl1' : (k : Int) < (N : Int) := by omega
      have hl2' : (k : Int) < 6 := by omega
      have hd1 : decide ((k : Int) < (N : Int)) = true := decide_eq_true hl1'
      have hd2 : decide ((k : Int) < 6) = true := decide_eq_true hl2'
      obtain ⟨hkx, a0, rfl, hc, hb0, hb1⟩ := HC.out k hl1
      have htk : xs.take (k + 1) = xs.take k ++ [xs[k]] := List.take_succ_eq_append_getElem hkx
      obtain ⟨x, hx⟩ : ∃ x, x = xs[k] := ⟨_, rfl⟩
      rw [← hx] at hc hb0 hb1 htk
      have HTK := hide htk
      have HIn := hide hl1'
      have HLd : Hid (∀ w', Kp [] wr.drew w' → w'.cell? (a0.add k) = some (.int .i64 x)) := fun w' k' => (K.trans ((kp_drew wr).trans k')).cell hc (by simp)
      have HQ4 : Hid (IntKind.i64.wrap (x.tdiv 4) = x.tdiv 4) := hide (by have := tdiv_le x 4 (by omega); simp [IntKind.wrap, IntKind.signed, IntKind.bits]; omega)
      have HQ40 : Hid (IntKind.i64.wrap (x.tdiv 40) = x.tdiv 40) := hide (by have := tdiv_le x 40 (by omega); simp [IntKind.wrap, IntKind.signed, IntKind.bits]; omega)
      clear hc htk hx hb0 hb1 K
      go_wp2_with fail
      refine region_grow_tail 17 Tryz.mixed [Is (.slice ao m c), Is (.slice (some a0) N cl), Is (.int .i64 (k : Int)), Is (.pointer (some (a0.add k))), Is (.int .i64 x), Is (.slice (some a0) N cl), Is (.int .i64 (k : Int)), Is (.pointer (some (a0.add k))), Is (.int .i64 x), Is (.int .i64 (x.tdiv 4)), Is (.slice (some a0) N cl), Is (.int .i64 (k : Int)), Is (.pointer (some (a0.add k))), Is (.int .i64 x), Is (.int .i64 (x.tdiv 40)), RO wr.drew.heap.size (itemX x), OneO wr.drew.heap.size (itemX x)] [[(3, none)], [(0, none)], [(4, none)], [(16, some 1), (17, some 2)], [(18, some 3)], [(0, none)], [(4, none)], [(20, some 5), (21, some 6)], [(22, some 7)], [(23, some 8)], [(0, none)], [(4, none)], [(25, some 10), (26, some 11)], [(27, some 12)], [(28, some 13)], [(19, some 4), (24, some 9), (29, some 14)], [(30, some 15)]] (by kernel_rfl) ?_ ?_ ?_
      all_goals try simp only [List.take_succ_cons, List.take_zero, List.drop_succ_cons, List.drop_zero]
      · simp only [List.mem_cons, List.not_mem_nil, or_false]
        intro R hR
        rcases hR with rfl | rfl | rfl | rfl | rfl | rfl | rfl | rfl | rfl | rfl | rfl | rfl | rfl | rfl | rfl | rfl | rfl <;> first | exact stable_is _ | exact stable_ro _ _ | exact stable_oneo _ _
      · refine steps_cons (fun a w hk hn => ?_) ?_
        · have h3 : a.eval (.tmp 3) = .slice ao m c := hn.1
          clear hn
          refine wants_plain rfl ?_
          exact grown_move (.tmp 3) rfl h3
        refine steps_cons (fun a w hk hn => ?_) ?_
        · have h0 : a.eval (.tmp 0) = .slice (some a0) N cl := hn.1
          clear hn
          refine wants_plain rfl ?_
          exact grown_move (.tmp 0) rfl h0
        refine steps_cons (fun a w hk hn => ?_) ?_
        · have h4 : a.eval (.tmp 4) = .int .i64 (k : Int) := hn.1
          clear hn
          refine wants_plain rfl ?_
          exact grown_move (.tmp 4) rfl h4
        refine steps_cons (fun a w hk hn => ?_) ?_
        · have h16 : a.eval (.tmp 16) = .slice (some a0) N cl := hn.1
          have h17 : a.eval (.tmp 17) = .int .i64 (k : Int) := hn.2.1
          clear hn
          refine wants_plain rfl ?_
          refine grown_run (v := .pointer (some (a0.add k))) ?_ (Kp.refl _ _) rfl
          obtain ⟨ρ, hρ, hc, hf, hg⟩ := eval_is a
          rw [hρ] at h16 h17 ⊢
          simp [go_sem, h16, h17, HIn.out]
        refine steps_cons (fun a w hk hn => ?_) ?_
        · have h18 : a.eval (.tmp 18) = .pointer (some (a0.add k)) := hn.1
          clear hn
          refine wants_plain rfl ?_
          refine grown_run (v := .int .i64 x) ?_ (Kp.refl _ _) rfl
          have hcell := HLd.out w hk
          obtain ⟨ρ, hρ, hc, hf, hg⟩ := eval_is a
          rw [hρ] at h18 ⊢
          simp [go_sem, h18, hcell]
        refine steps_cons (fun a w hk hn => ?_) ?_
        · have h0 : a.eval (.tmp 0) = .slice (some a0) N cl := hn.1
          clear hn
          refine wants_plain rfl ?_
          exact grown_move (.tmp 0) rfl h0
        refine steps_cons (fun a w hk hn => ?_) ?_
        · have h4 : a.eval (.tmp 4) = .int .i64 (k : Int) := hn.1
          clear hn
          refine wants_plain rfl ?_
          exact grown_move (.tmp 4) rfl h4
        refine steps_cons (fun a w hk hn => ?_) ?_
        · have h20 : a.eval (.tmp 20) = .slice (some a0) N cl := hn.1
          have h21 : a.eval (.tmp 21) = .int .i64 (k : Int) := hn.2.1
          clear hn
          refine wants_plain rfl ?_
          refine grown_run (v := .pointer (some (a0.add k))) ?_ (Kp.refl _ _) rfl
          obtain ⟨ρ, hρ, hc, hf, hg⟩ := eval_is a
          rw [hρ] at h20 h21 ⊢
          simp [go_sem, h20, h21, HIn.out]
        refine steps_cons (fun a w hk hn => ?_) ?_
        · have h22 : a.eval (.tmp 22) = .pointer (some (a0.add k)) := hn.1
          clear hn
          refine wants_plain rfl ?_
          refine grown_run (v := .int .i64 x) ?_ (Kp.refl _ _) rfl
          have hcell := HLd.out w hk
          obtain ⟨ρ, hρ, hc, hf, hg⟩ := eval_is a
          rw [hρ] at h22 ⊢
          simp [go_sem, h22, hcell]
        refine steps_cons (fun a w hk hn => ?_) ?_
        · have h23 : a.eval (.tmp 23) = .int .i64 x := hn.1
          clear hn
          refine wants_plain rfl ?_
          refine grown_run (v := .int .i64 (x.tdiv 4)) ?_ (Kp.refl _ _) rfl
          obtain ⟨ρ, hρ, hc, hf, hg⟩ := eval_is a
          rw [hρ] at h23 ⊢
          simp [go_sem, hc, h23, HQ4.out]
        refine steps_cons (fun a w hk hn => ?_) ?_
        · have h0 : a.eval (.tmp 0) = .slice (some a0) N cl := hn.1
          clear hn
          refine wants_plain rfl ?_
          exact grown_move (.tmp 0) rfl h0
        refine steps_cons (fun a w hk hn => ?_) ?_
        · have h4 : a.eval (.tmp 4) = .int .i64 (k : Int) := hn.1
          clear hn
          refine wants_plain rfl ?_
          exact grown_move (.tmp 4) rfl h4
        refine steps_cons (fun a w hk hn => ?_) ?_
        · have h25 : a.eval (.tmp 25) = .slice (some a0) N cl := hn.1
          have h26 : a.eval (.tmp 26) = .int .i64 (k : Int) := hn.2.1
          clear hn
          refine wants_plain rfl ?_
          refine grown_run (v := .pointer (some (a0.add k))) ?_ (Kp.refl _ _) rfl
          obtain ⟨ρ, hρ, hc, hf, hg⟩ := eval_is a
          rw [hρ] at h25 h26 ⊢
          simp [go_sem, h25, h26, HIn.out]
        refine steps_cons (fun a w hk hn => ?_) ?_
        · have h27 : a.eval (.tmp 27) = .pointer (some (a0.add k)) := hn.1
          clear hn
          refine wants_plain rfl ?_
          refine grown_run (v := .int .i64 x) ?_ (Kp.refl _ _) rfl
          have hcell := HLd.out w hk
          obtain ⟨ρ, hρ, hc, hf, hg⟩ := eval_is a
          rw [hρ] at h27 ⊢
          simp [go_sem, h27, hcell]
        refine steps_cons (fun a w hk hn => ?_) ?_
        · have h28 : a.eval (.tmp 28) = .int .i64 x := hn.1
          clear hn
          refine wants_plain rfl ?_
          refine grown_run (v := .int .i64 (x.tdiv 40)) ?_ (Kp.refl _ _) rfl
          obtain ⟨ρ, hρ, hc, hf, hg⟩ := eval_is a
          rw [hρ] at h28 ⊢
          simp [go_sem, hc, h28, HQ40.out]
        refine steps_cons (fun a w hk hn => ?_) ?_
        · have h19 : a.eval (.tmp 19) = .int .i64 x := hn.1
          have h24 : a.eval (.tmp 24) = .int .i64 (x.tdiv 4) := hn.2.1
          have h29 : a.eval (.tmp 29) = .int .i64 (x.tdiv 40) := hn.2.2.1
          clear hn
          refine wants_plain rfl ?_
          refine grown_call (f := 61) rfl Tryz.func61 (by kernel_rfl) (by kernel_rfl) ?_
          simp only [List.map_toArray, List.map_cons, List.map_nil, h19, h24, h29]
          refine (kitem_any x (x.tdiv 4) (x.tdiv 40) w).mono ?_
          rintro e w' ⟨ao', m', c', rfl, R, K⟩
          exact ⟨_, rfl, K, ⟨ao', m', c', rfl, R.sl, fun i hi => Nat.le_trans hk.size (R.own i hi)⟩⟩
        refine steps_cons (fun a w hk hn => ?_) ?_
        · have h30 : (RO wr.drew.heap.size (itemX x)) (a.eval (.tmp 30)) w := hn.1
          clear hn
          refine wants_plain rfl ?_
          exact grown_oneo (.tmp 30) rfl _ _ h30
        exact trivial
      intro W1 hkW1
      rintro _ rfl
      rintro _ rfl
      rintro _ rfl
      rintro _ rfl
      rintro _ rfl
      rintro _ rfl
      rintro _ rfl
      rintro _ rfl
      rintro _ rfl
      rintro _ rfl
      rintro _ rfl
      rintro _ rfl
      rintro _ rfl
      rintro _ rfl
      rintro _ rfl
      intro v30 h30
      intro v31 h31
      refine fin_nil ?_
      simp only [Act.put, List.set_cons_zero, List.set_cons_succ, List.setIfInBounds_toArray]
      have K1 := (kp_drew wr).trans hkW1
      have HP1 := hide (HP.out.kept K1 (by simp))
      have HK1 := hide (HK.out.trans K1)
      have HOn := hide h31
      have hs1 := K1.size
      clear h30 h31 hkW1 K1
      go_wp2_with (at_builtin; refine wpList_rowsO (B := wr.drew.heap.size) rfl (.tmp 15) (.tmp 31) rfl (.slice ao m c) l rfl HP1.out HK1.out.size (by omega) (itemX x) HOn.out (itemX_bs x) (fun i hi => HP.out.1.1.lt hi) HK.out.size ?_; intro a7 m7 c7 w7 u7 P7 S7)
      go_roundw
      case rel =>
        refine ⟨k + 1, by omega, by omega, by go_num, ⟨a7, m7, c7, rfl⟩, HK1.out.then S7.1 (fun i hi => .inr (HP1.out.1.1.own i (by simpa [Option.mem_toList] using hi))), _, P7, ?_⟩
        rw [HTK.out, List.map_append, List.map_append, HL.out]; rfl
      case measure => simp [intOf]; omega
    · have hmk : m = k := by have := HP.out.1.1.len; rw [List.length_map] at this; omega
      have e6 : xs.take 6 = xs.take k := by
        have := HN.out
        by_cases h : k = 6
        · rw [h]
        · rw [List.take_of_length_le (by omega), List.take_of_length_le (by omega)]
      have hlen : (xs.take 6).length = k := by rw [e6, List.length_take]; have := HN.out; omega
      have HE6 : Hid (ys = xs.take k) := hide (by rw [HYs.out]; exact e6)
      have HLen : Hid (k = ys.length) := hide (by rw [HYs.out]; exact hlen.symm)
      subst hmk
      clear K e6 hlen
      by_cases hl1 : m < N
      · have hl1' : (m : Int) < (N : Int) := by omega
        have hl2' : ¬ (m : Int) < 6 := by omega
        have hd1 : decide ((m : Int) < (N : Int)) = true := decide_eq_true hl1'
        have hd2 : decide ((m : Int) < 6) = false := decide_eq_false hl2'
        go_wp2_with fail
        go_ret
        exact ⟨ao, m, c, rfl, HK.out, HLen.out, l, HP.out, by rw [HL.out, HE6.out]⟩
      · have hl1' : ¬ (m : Int) < (N : Int) := by omega
        have hd1 : decide ((m : Int) < (N : Int)) = false := decide_eq_false hl1'
        go_wp2_with fail
        go_ret
        exact ⟨ao, m, c, rfl, HK.out, HLen.out, l, HP.out, by rw [HL.out, HE6.out]⟩
end Go.Proofs.YtillhpgdlmeajaaGreatDoor

/-
  A ledger's disks, asked while it is open; two disks whatever they are.
-/
namespace Go.Proofs.YtillhpgdlmeajaaGreatDoor
open Go.RowKit
open Go.Proofs
set_option linter.unusedVariables false
section
variable {w0 w : World} {l pd pk : Nat} {S : LS} {f : Fps}
theorem uarmD_any (h : Lg w0 w l pd pk S f) (x : Int) (hx0 : x ≤ 9223372036854775807) (d' : Dk) (he : S.dd.armed (max x 0) = d') : Calls Tryz.prog 31 #[.pointer (some ⟨pd, 0, none⟩), .int .i64 x] w fun e w' => e = .returned (.tuple #[]) ∧ ∃ f', Lg w0 w' l pd pk { S with dd := d' } f' ∧ LSt w f w' f' := by
  obtain ⟨j, s, q, vs, pv, hx⟩ := h
  obtain ⟨v, m, h1, hJ, h3, h4⟩ := hx.jx
  refine (nw_arm hJ.nw x hx0 he).mono ?_
  rintro e w' ⟨rfl, N, T⟩
  obtain ⟨F', J', T'⟩ := Jx.stepD ⟨m, h1, hJ, h3, h4⟩ N T
  exact ⟨rfl, f.upd 5 F', ⟨j, s, q, vs, pv, hx.stepJ T' J'⟩, T'.one⟩
theorem uarmK_any (h : Lg w0 w l pd pk S f) (x : Int) (hx0 : x ≤ 9223372036854775807) (d' : Dk) (he : S.dk.armed (max x 0) = d') : Calls Tryz.prog 31 #[.pointer (some ⟨pk, 0, none⟩), .int .i64 x] w fun e w' => e = .returned (.tuple #[]) ∧ ∃ f', Lg w0 w' l pd pk { S with dk := d' } f' ∧ LSt w f w' f' := by
  obtain ⟨j, s, q, vs, pv, hx⟩ := h
  obtain ⟨v, jk, m, h1, hJ, h3, h4, h5, h6, h7⟩ := hx.bf
  refine (nw_arm hJ.nw x hx0 he).mono ?_
  rintro e w' ⟨rfl, N, T⟩
  obtain ⟨F', B', T'⟩ := Bf.stepD ⟨jk, m, h1, hJ, h3, h4, h5, h6, h7⟩ N T
  exact ⟨rfl, f.upd 6 F', ⟨j, s, q, vs, pv, hx.stepB T' B' hx.nk⟩, T'.one⟩
/-- both disks, when the ledger is left. -/
structure Ds (w0 w : World) (pd pk : Nat) (dd dk : Dk) (f : Fps) : Prop where
  ok : f.Ok w0 w
  d : Dx w0 w pd dd (f 5)
  k : Dx w0 w pk dk (f 6)
theorem Lg.ds (h : Lg w0 w l pd pk S f) : Ds w0 w pd pk S.dd S.dk f := by
  obtain ⟨j, s, q, vs, pv, hx⟩ := h
  exact ⟨hx.ok, hx.jx.dx, hx.bf.dx⟩
theorem Ds.on {w' : World} {dd dk : Dk} (h : Ds w0 w pd pk dd dk f) (k : Kp [] w w') : Ds w0 w' pd pk dd dk f := ⟨h.ok.on k, h.d.kept k (h.ok.kp.trans k) (by simp), h.k.kept k (h.ok.kp.trans k) (by simp)⟩
theorem ds_crashD {dd dk d' : Dk} (h : Ds w0 w pd pk dd dk f) (x : Int) (he : dd.crash x = d') : Calls Tryz.prog 34 #[.pointer (some ⟨pd, 0, none⟩), .int .i64 x] w fun e w' => e = .returned (.tuple #[]) ∧ ∃ f', Ds w0 w' pd pk d' dk f' ∧ Stp f.tot w w' f'.tot := by
  obtain ⟨v, N, hv⟩ := h.d
  refine (nw_crash N x he).mono ?_
  rintro e w' ⟨rfl, v', N', T⟩
  obtain ⟨F', D', T', hF⟩ := Dx.stepD hv N' T
  have o := h.ok.upd T'
  obtain ⟨U, hU, k⟩ := T'.kp
  refine ⟨rfl, f.upd 5 F', ⟨o, by rw [upd_eq]; exact D', ?_⟩, T'.one⟩
  rw [upd_ne (by decide)]
  exact h.k.kept k o.kp (h.ok.apart (a := 5) (b := 6) (by decide) hU)
theorem ds_crashK {dd dk d' : Dk} (h : Ds w0 w pd pk dd dk f) (x : Int) (he : dk.crash x = d') : Calls Tryz.prog 34 #[.pointer (some ⟨pk, 0, none⟩), .int .i64 x] w fun e w' => e = .returned (.tuple #[]) ∧ ∃ f', Ds w0 w' pd pk dd d' f' ∧ Stp f.tot w w' f'.tot := by
  obtain ⟨v, N, hv⟩ := h.k
  refine (nw_crash N x he).mono ?_
  rintro e w' ⟨rfl, v', N', T⟩
  obtain ⟨F', D', T', hF⟩ := Dx.stepD hv N' T
  have o := h.ok.upd T'
  obtain ⟨U, hU, k⟩ := T'.kp
  refine ⟨rfl, f.upd 6 F', ⟨o, ?_, by rw [upd_eq]; exact D'⟩, T'.one⟩
  rw [upd_ne (by decide)]
  exact h.d.kept k o.kp (h.ok.apart (a := 6) (b := 5) (by decide) hU)
end
theorem RowI.at {w : World} {base m c : Nat} {ao : Option Addr} {l : List Int} (h : RowI w base (.slice ao m c) l) (i : Nat) (hi : i < l.length) : ∃ g, ao = some ⟨g, 0, none⟩ ∧ w.cell? ⟨g, i, none⟩ = some (.int .i64 l[i]) := by
  rcases h.2 with ⟨e, h0⟩ | ⟨g, cap, cur, e, _⟩
  · omega
  · injection e with e1 e2 e3
    subst e1
    have := h.cells (g := g) rfl i (.int .i64 l[i]) (by simp [List.getElem?_eq_getElem hi])
    exact ⟨g, rfl, by simpa [Addr.add_lit] using this⟩
end Go.Proofs.YtillhpgdlmeajaaGreatDoor

/-
  Arguments of the laws of ledger: slices of slices of numbers; rows of slices that lie aside.
-/
namespace Go.Proofs.YtillhpgdlmeajaaGreatDoor
open Go.RowKit
open Go.Proofs
open Go.Deep Go.ChangeShapes Go.WideShapes
set_option linter.unusedVariables false
/-- a slice of slices of numbers. -/
def Intss (w : World) (v : Value) (l : List (Value × List Int)) : Prop :=
  ∃ ao c, v = .slice ao l.length c ∧ l.length ≤ 9223372036854775807 ∧ ∀ i (h : i < l.length), ∃ b off, ao = some ⟨b, off, none⟩ ∧ w.cell? ⟨b, off + i, none⟩ = some l[i].1 ∧ Ints w l[i].1 l[i].2
section
variable {H : Type} {enc : TypeId × Value → H} {w : World}
theorem intss_of_trod {v : Value} {fuel : Nat} {x : DataW H × List MemPlace} (h : DataW.trod enc Tryz.prog w 0 (fun _ => true) true fuel 42 [v] = some x) : ∃ l, Intss w v l := by
  rcases open_slice1 Tryz.underlying42 (by kernel_rfl) h with ⟨hcs, _⟩ | ⟨a, len, cap, m, n, V, D, Pl, hcs, _, hl, hm, hmm, _, hx⟩
  · simp only [List.cons.injEq, and_true] at hcs
    subst hcs
    exact ⟨[], none, 0, rfl, by simp, fun i hi => by cases hi⟩
  · simp only [List.cons.injEq, and_true] at hcs
    subst hcs
    simp only [if_true] at hmm
    subst hmm
    have key : ∀ i, i < len → ∃ d : Value × List Int, w.cell? (a.add i) = some d.1 ∧ Ints w d.1 d.2 := fun i hi => by
      obtain ⟨h1, h2⟩ := hx i (by omega)
      obtain ⟨bs, hs⟩ := ints_of_trod h2
      exact ⟨(V i, bs), h1, hs⟩
    have inst : Inhabited (Value × List Int) := ⟨(.slice none 0 0, [])⟩
    obtain ⟨F, hF⟩ := @choose_lt (Value × List Int) inst len (fun i d => w.cell? (a.add i) = some d.1 ∧ Ints w d.1 d.2) key
    have hlen : ((List.range len).map F).length = len := by simp
    refine ⟨(List.range len).map F, some a, m, by rw [hlen], by unfold maxLen at hm; omega, fun i hi => ?_⟩
    rw [hlen] at hi
    have s0 := (hF 0 (by omega)).1
    obtain ⟨hA, hS⟩ := hF i hi
    obtain ⟨b, off, spot⟩ := a
    have hspot : ((⟨b, off, spot⟩ : Addr).add 0).spot = none := World.cell?_spot s0
    have hspot' : spot = none := by rw [Addr.add_zero'] at hspot; exact hspot
    subst hspot'
    rw [Addr.add_lit] at hA
    exact ⟨b, off, rfl, by simpa using hA, by simpa using hS⟩
end
theorem RowsQ.aside {w w' : World} {base : Nat} {v : Value} {l : List (Value × List Int)} {S : List Nat} (h : RowsQ w base v l) (k : Kp S w w') (h1 : ∀ i, v.ownBlock = some i → i ∉ S) (h2 : ∀ x ∈ l, ∀ i, x.1.ownBlock = some i → i ∉ S) : RowsQ w' base v l :=
  ⟨⟨h.1.1.kept k h1, fun x hx => ⟨(h.1.2 x hx).1.kept k (h2 x hx), (h.1.2 x hx).2⟩⟩, h.2⟩
theorem RowV.at {w : World} {base m c : Nat} {ao : Option Addr} {l : List Value} (h : RowV w base (.slice ao m c) l) (i : Nat) (hi : i < l.length) : ∃ g, ao = some ⟨g, 0, none⟩ ∧ w.cell? ⟨g, i, none⟩ = some l[i] := by
  rcases h.2 with ⟨e, h0⟩ | ⟨g, cap, cur, e, _⟩
  · omega
  · injection e with e1 e2 e3
    subst e1
    have := h.cells (g := g) rfl i l[i] (by simp [List.getElem?_eq_getElem hi])
    exact ⟨g, rfl, by simpa [Addr.add_lit] using this⟩
/-- a row of slices that lies beside the blocks F. -/
structure Al (w0 w : World) (F : Nat → Prop) (v : Value) (la : List (Value × List Int)) : Prop where
  row : RowsQ w w0.heap.size v la
  own : ∀ k, v.ownBlock = some k → k < w.heap.size ∧ ¬ F k
  its : ∀ x ∈ la, ∀ k, x.1.ownBlock = some k → k < w.heap.size ∧ ¬ F k
section
variable {w0 w w' : World} {F F' : Nat → Prop} {v v' : Value} {la : List (Value × List Int)}
theorem al_nil (w0 w : World) (F : Nat → Prop) : Al w0 w F (.slice none 0 0) [] := ⟨rowsQ_nil _ _, (fun k hk => by cases hk), (fun x hx => by cases hx)⟩
theorem Al.step (h : Al w0 w F v la) (t : Stp F w w' F') : Al w0 w' F' v la := by
  obtain ⟨S, hS, k⟩ := t.kp
  exact ⟨h.row.aside k (fun i hi hm => (h.own i hi).2 (hS i hm)) (fun x hx i hi hm => (h.its x hx i hi).2 (hS i hm)), fun i hi => ⟨Nat.lt_of_lt_of_le (h.own i hi).1 k.size, t.off (h.own i hi).1 (h.own i hi).2⟩, fun x hx i hi => ⟨Nat.lt_of_lt_of_le (h.its x hx i hi).1 k.size, t.off (h.its x hx i hi).1 (h.its x hx i hi).2⟩⟩
theorem Al.on (h : Al w0 w F v la) (k : Kp [] w w') : Al w0 w' F v la := h.step (Stp.mid k)
/-- one more. -/
theorem Al.put {x : Value × List Int} (h : Al w0 w F v la) (hF : ∀ i, F i → i < w.heap.size) (r : RowsQ w' w0.heap.size v' (la ++ [x])) (s : RStep w v w' v') (hx : ∀ k, x.1.ownBlock = some k → k < w.heap.size ∧ ¬ F k) : Al w0 w' F v' (la ++ [x]) := by
  have hs := s.1.size
  refine ⟨r, fun k hk => ⟨r.1.1.lt hk, ?_⟩, fun y hy k hk => ?_⟩
  · rcases s.2 k hk with h1 | h1
    · exact (h.own k h1).2
    · exact fun e => by have := hF k e; omega
  · rcases List.mem_append.1 hy with hy | hy
    · exact ⟨by have := (h.its y hy k hk).1; omega, (h.its y hy k hk).2⟩
    · obtain rfl : y = x := by simpa using hy
      exact ⟨by have := (hx k hk).1; omega, (hx k hk).2⟩
end
/-- a row of slices whose blocks lie between lo and hi. -/
structure Xs (w : World) (lo hi : Nat) (v : Value) (l : List (Value × List Int)) : Prop where
  row : RowsQ w lo v l
  own : ∀ k, v.ownBlock = some k → k < hi
  its : ∀ x ∈ l, ∀ k, x.1.ownBlock = some k → k < hi
theorem sl_lt {w : World} {v : Value} {bs : List Int} {k : Nat} (h : Sl w v bs) (hb : bs ≠ []) (hk : v.ownBlock = some k) : k < w.heap.size := by
  obtain ⟨ao, c, rfl, _, _, _, h4⟩ := h
  have hpos : 0 < bs.length := List.length_pos_iff.2 hb
  cases ao with
  | none => cases hk
  | some a =>
    have hc := h4 a rfl 0 (.int .u8 bs[0]) (by simp [List.getElem?_eq_getElem hpos])
    have := World.block_lt_of_cell? _ _ hc
    rw [add_block] at this
    have e : a.block = k := by simpa [Value.ownBlock] using hk
    omega
theorem Xs.kept {w w' : World} {lo hi : Nat} {v : Value} {l : List (Value × List Int)} {S : List Nat} (h : Xs w lo hi v l) (k : Kp S w w') (hS : ∀ i ∈ S, i < lo ∨ hi ≤ i) : Xs w' lo hi v l :=
  ⟨h.row.aside k (fun i e hm => by have := h.own i e; have := h.row.1.1.own i e; have := hS i hm; omega) (fun x hx i e hm => by have := h.its x hx i e; have := h.row.2 x hx i e; have := hS i hm; omega), h.own, h.its⟩
/-- where x was last found among the first of l. -/
def fdU (l : List (List Int)) (x : List Int) : Int := if x ∈ l then (l.idxOf x : Int) else -1
end Go.Proofs.YtillhpgdlmeajaaGreatDoor

/-
  The contract of the reference ledger's Find.
-/
namespace Go.Proofs.YtillhpgdlmeajaaGreatDoor
open Go.RowKit
open Go.Proofs
set_option linter.unusedVariables false
set_option maxRecDepth 100000 in
set_option maxHeartbeats 4000000 in
theorem rfind_any (p : Nat) (va : Value) (la : List (Value × List Int)) (vx : Value) (x : List Int) (r : Int) (w : World) (hc : w.cell? ⟨p, 0, none⟩ = some va) (hL : Lists w va la) (hS : Sl w vx x) (hB : Bs x) (hl : la.length ≤ 1000000) (hr : r = fdU (la.map (·.2)) x) :
    Calls Tryz.prog 65 #[.pointer (some ⟨p, 0, none⟩), vx] w fun e w' => e = .returned (.int .i64 r) ∧ Kp [] w w' := by
  have HBx := hide hB
  have HR := hide hr
  obtain ⟨ax, cx, hvx, -⟩ := id hS
  obtain ⟨nx, hnx⟩ : ∃ n, n = x.length := ⟨_, rfl⟩
  rw [← hnx] at hvx
  subst hvx
  have HSx := hide hS
  obtain ⟨aa, ca, rfl, -, hcell⟩ := hL
  have HC := hide hcell
  obtain ⟨N, hN⟩ : ∃ N, N = la.length := ⟨_, rfl⟩
  have HN := hide hN
  rw [← hN] at hc hl
  have HCp := hide hc
  clear hcell hN hB hr hS hnx hc
  go_enter Tryz.func65, Tryz.ntmps65
  go_wp2_with fail
  go_loopw [5] (fun j wr => ∃ i : Nat, i ≤ N ∧ j = .int .i64 i ∧ Hid (x ∉ (la.map (·.2)).take i) ∧ Hid (Kp [] w wr)) (fun j _ => N - (intOf j).toNat)
  case atStart => exact ⟨0, by omega, rfl, hide (by simp), hide (Kp.refl _ _)⟩
  case round =>
    obtain ⟨i, hi, rfl, HNi, HK⟩ := hrel
    have hcp := HK.out.cell HCp.out (by simp)
    by_cases hlt : i < N
    · have hi' : (i : Int) < (N : Int) := by omega
      have hdi : decide ((i : Int) < (N : Int)) = true := decide_eq_true hi'
      have hil : i < la.length := by rw [← HN.out]; exact hlt
      obtain ⟨b1, o1, rfl, hc1, hS1, hB1⟩ := HC.out i hil
      have HKd := hide (HK.out.trans (kp_drew _))
      have d0 := HKd.out.cell HCp.out (by simp)
      have d1 := HKd.out.cell hc1 (by simp)
      have v1 := (hS1.kept HKd.out (by simp)).conv (P := Tryz.prog) 22 9 5 Tryz.underlying22 Tryz.underlying5 Tryz.underlying9
      have v2 := (HSx.out.kept HKd.out (by simp)).conv (P := Tryz.prog) 22 9 5 Tryz.underlying22 Tryz.underlying5 Tryz.underlying9
      have htk : (la.map (·.2)).take (i + 1) = (la.map (·.2)).take i ++ [la[i].2] := by
        have := List.take_succ_eq_append_getElem (l := la.map (·.2)) (i := i) (by rw [List.length_map]; exact hil)
        rw [this, List.getElem_map]
      have hall : la.map (·.2) = ((la.map (·.2)).take i ++ [la[i].2]) ++ (la.map (·.2)).drop (i + 1) := by rw [← htk, List.take_append_drop]
      have hli : ((la.map (·.2)).take i).length = i := by rw [List.length_take, List.length_map]; omega
      obtain ⟨bi, hbi⟩ : ∃ x, x = la[i].2 := ⟨_, rfl⟩
      obtain ⟨vi, hvi⟩ : ∃ x, x = la[i].1 := ⟨_, rfl⟩
      rw [← hbi] at hS1 hB1 v1 htk hall
      rw [← hvi] at hS1 d1 v1
      obtain ⟨ai, ci, hvi', -⟩ := hS1
      obtain ⟨mi, hmi⟩ : ∃ n, n = bi.length := ⟨_, rfl⟩
      rw [← hmi] at hvi'
      subst hvi'
      have HTk := hide htk
      have HAl := hide hall
      have HLi := hide hli
      by_cases hxy : bi = x
      · subst hxy
        obtain ⟨S1, hS1⟩ : ∃ S, S = strOfNums bi := ⟨_, rfl⟩
        rw [← hS1] at v1 v2
        clear hS1 hbi hvi hmi htk hall hli hB1 hil hc1 hcp
        have hcp := HK.out.cell HCp.out (by simp)
        go_wp2_with fail
        refine region_read Tryz.mixed (by kernel_rfl) ?_
        repeat (first | go_big_quiet_skip | (go_big_quiet_want; go_big_quiet_op; go_big_quiet_on))
        refine wpQuiet_nil ?_
        go_wp2_with fail
        go_ret
        refine ⟨?_, HKd.out⟩
        rw [HR.out, HAl.out]
        unfold fdU
        rw [if_pos (by simp), idx_pre (by simp), idx_post HNi.out, HLi.out]
        simp
      · have hss := str_beq bi x hB1 HBx.out
        rw [decide_eq_false hxy] at hss
        have HXy := hide hxy
        obtain ⟨S1, hS1⟩ : ∃ S, S = strOfNums bi := ⟨_, rfl⟩
        obtain ⟨S2, hS2⟩ : ∃ S, S = strOfNums x := ⟨_, rfl⟩
        rw [← hS1, ← hS2] at hss
        rw [← hS1] at v1
        rw [← hS2] at v2
        clear hS1 hS2 hbi hvi hmi htk hall hli hB1 hil hc1 hxy
        go_wp2_with fail
        refine region_read Tryz.mixed (by kernel_rfl) ?_
        repeat (first | go_big_quiet_skip | (go_big_quiet_want; go_big_quiet_op; go_big_quiet_on))
        refine wpQuiet_nil ?_
        go_wp2_with fail
        go_roundw
        case rel => exact ⟨i + 1, by omega, by go_num, hide (by rw [HTk.out]; simp only [List.mem_append, List.mem_singleton, not_or]; exact ⟨HNi.out, fun e => HXy.out e.symm⟩), HKd⟩
        case measure => simp [intOf]; omega
    · obtain rfl : i = N := by omega
      have hi' : ¬ (i : Int) < (i : Int) := by omega
      have hdi : decide ((i : Int) < (i : Int)) = false := decide_eq_false hi'
      have hnm : x ∉ la.map (·.2) := by
        have := HNi.out
        rwa [List.take_of_length_le (by rw [List.length_map, HN.out]; omega)] at this
      have HNm := hide hnm
      clear hnm
      go_wp2_with fail
      go_ret
      refine ⟨?_, HK.out⟩
      rw [HR.out]
      unfold fdU
      rw [if_neg HNm.out]
      rfl
end Go.Proofs.YtillhpgdlmeajaaGreatDoor

/-
  The contract of the reference ledger's Read.
-/
namespace Go.Proofs.YtillhpgdlmeajaaGreatDoor
open Go.RowKit
open Go.Proofs
set_option linter.unusedVariables false
theorem opnP_cnt (b : List Int) : (opnP b).1.length * 8 ≤ b.length := by
  induction hl : b.length using Nat.strongRecOn generalizing b with
  | ind n ih =>
    subst hl
    rw [opnP_eq]
    split
    · simp
    · split
      · simp
      · split
        · simp
        · have := ih (b.drop (8 + (num1 b).toNat)).length (by rw [List.length_drop]; omega) _ rfl
          rw [List.length_drop] at this
          simp only [List.length_cons]
          omega
/-- what is written elsewhere, or where an empty one lies, makes no odds. -/
theorem RowsQ.apart {w w' : World} {base : Nat} {v : Value} {l : List (Value × List Int)} {S : List Nat} (h : RowsQ w base v l) (k : Kp S w w') (h1 : ∀ i, v.ownBlock = some i → i ∉ S) (h2 : ∀ x ∈ l, ∀ i, x.1.ownBlock = some i → i ∈ S → x.2 = []) : RowsQ w' base v l :=
  ⟨⟨h.1.1.kept k h1, fun x hx => ⟨(h.1.2 x hx).1.apart k (h2 x hx), (h.1.2 x hx).2⟩⟩, h.2⟩
/-- a reference ledger that has items alone. -/
def RLi (w : World) (p : Nat) (vi : Value) : Prop := w.heap[p]? = some (.cells #[vi, .pointer none, .int .i64 0, .int .i64 0, .slice none 0 0, .int .i64 0, .slice none 0 0, .slice none 0 0, .bool false] 74 (0, 0))
theorem RLi.c0 {w : World} {p : Nat} {vi : Value} (h : RLi w p vi) : w.cell? ⟨p, 0, none⟩ = some vi := by rw [cell_of_row w p 0 _ _ _ h]; rfl
theorem RLi.f {w : World} {p : Nat} {vi : Value} (h : RLi w p vi) (i : Nat) : w.frozen? ⟨p, i, none⟩ = false := frozen_of_row w p i _ _ h
theorem RLi.set {w : World} {p : Nat} {vi : Value} (h : RLi w p vi) (u : Value) : RLi (w.setCell ⟨p, 0, none⟩ u) p u := by
  unfold RLi
  simpa using heap_setCell_same w p 0 _ _ u h
theorem RLi.kept {w w' : World} {p : Nat} {vi : Value} {S : List Nat} (h : RLi w p vi) (k : Kp S w w') (hp : p ∉ S) : RLi w' p vi := k.heap h hp
end Go.Proofs.YtillhpgdlmeajaaGreatDoor

/-
  Ledgers whose power may go: Add, Publish, what a crash leaves.
-/
namespace Go.Proofs.YtillhpgdlmeajaaGreatDoor
open Go.RowKit
open Go.Proofs
set_option linter.unusedVariables false
/-- records rs stand on the disk, power goes at the a-th call. -/
def upL (rs : List (List Int)) (a : Int) : Dk := ⟨layP rs, (layP rs).length, 1048576, a, false⟩
/-- power went while r was added. -/
def dnL (rs : List (List Int)) (r : List Int) : Dk := ⟨layP (rs ++ [r]), (layP rs).length, 1048576, 0, true⟩
theorem upL_arm (a : Int) (h : 0 ≤ a) : (dkOn []).armed (max a 0) = upL [] a := by
  unfold Dk.armed
  rw [if_neg (by show ¬ false = true; decide)]
  show (⟨[], 0, 1048576, max a 0, false⟩ : Dk) = _
  rw [show max a 0 = a by omega]
  rfl
theorem ld_add (rs : List (List Int)) (r : List Int) (a : Int) (ha : 0 ≤ a) (hfit : (layP rs).length + (recP r).length ≤ 1048576) : ∃ er d', (upL rs a).add (recP r) = (er, d') ∧ ((er = true ∧ ∃ a', 0 ≤ a' ∧ d' = upL (rs ++ [r]) a') ∨ (er = false ∧ d' = dnL rs r)) := by
  have hf : (((upL rs a).bs.length + (recP r).length : Nat) : Int) ≤ (upL rs a).lim := by
    show (((layP rs).length + (recP r).length : Nat) : Int) ≤ 1048576
    omega
  by_cases h0 : a = 0
  · subst h0
    refine ⟨true, upL (rs ++ [r]) 0, ?_, .inl ⟨rfl, 0, Int.le_refl 0, rfl⟩⟩
    rw [Dk.add_up (d := upL rs 0) rfl (Int.le_refl 0) (recP r) hf]
    show (true, (⟨layP rs ++ recP r, (layP rs ++ recP r).length, 1048576, 0, false⟩ : Dk)) = _
    rw [← layP_snoc]
    rfl
  · by_cases h1 : a = 1
    · subst h1
      refine ⟨false, dnL rs r, ?_, .inr ⟨rfl, rfl⟩⟩
      unfold Dk.add
      rw [Dk.app_at (d := upL rs 1) rfl rfl (recP r) hf, if_neg (by simp)]
      show (false, (⟨layP rs ++ recP r, (layP rs).length, 1048576, 0, true⟩ : Dk)) = _
      rw [← layP_snoc]
      rfl
    · have hc : (upL rs a).cal = (true, false, upL rs (a - 1)) := by
        unfold Dk.cal
        rw [if_neg (by show ¬ false = true; decide), if_pos (by show 0 < a; omega), if_neg (by show ¬ a = 1; omega)]
        rfl
      have happ : (upL rs a).app (recP r) = (true, ⟨layP (rs ++ [r]), (layP rs).length, 1048576, a - 1, false⟩) := by
        unfold Dk.app
        rw [hc, if_neg (by simp; omega)]
        show (true, (⟨layP rs ++ recP r, (layP rs).length, 1048576, a - 1, false⟩ : Dk)) = _
        rw [← layP_snoc]
      by_cases h2 : a = 2
      · subst h2
        refine ⟨false, dnL rs r, ?_, .inr ⟨rfl, rfl⟩⟩
        unfold Dk.add
        rw [happ, if_pos rfl]
        rfl
      · refine ⟨true, upL (rs ++ [r]) (a - 2), ?_, .inl ⟨rfl, a - 2, by omega, rfl⟩⟩
        unfold Dk.add
        rw [happ, if_pos rfl]
        have hc2 : (⟨layP (rs ++ [r]), (layP rs).length, 1048576, a - 1, false⟩ : Dk).cal = (true, false, ⟨layP (rs ++ [r]), (layP rs).length, 1048576, a - 1 - 1, false⟩) := by
          unfold Dk.cal
          rw [if_neg (by show ¬ false = true; decide), if_pos (by show 0 < a - 1; omega), if_neg (by show ¬ a - 1 = 1; omega)]
        show Dk.sync _ = _
        unfold Dk.sync
        rw [hc2, if_pos rfl]
        show (true, (⟨layP (rs ++ [r]), (layP (rs ++ [r])).length, 1048576, a - 1 - 1, false⟩ : Dk)) = _
        rw [show a - 1 - 1 = a - 2 by omega]
        rfl
/-- the items its stand on the disk; und is the batch that was under way when power went. -/
structure Ld (d : Dk) (its und : List (List Int)) (B : Nat) : Prop where
  ex : ∃ rs, gatU [] rs = some its ∧ (∀ r ∈ rs, Bs r ∧ r.length ≤ 65535) ∧ (layP rs).length ≤ B ∧ ((und = [] ∧ ∃ a, 0 ≤ a ∧ d = upL rs a) ∨ (und ≠ [] ∧ d = dnL rs (batU und)))
  nd : (its ++ und).Nodup
  ub : ∀ x ∈ und, Bs x ∧ x.length ≤ 65535
  us : (batU und).length ≤ 65535
  few : (its ++ und).length ≤ 256
theorem Ld.more {d : Dk} {its und : List (List Int)} {B B' : Nat} (h : Ld d its und B) (hb : B ≤ B') : Ld d its und B' := by
  obtain ⟨rs, h1, h2, h3, h4⟩ := h.ex
  exact ⟨⟨rs, h1, h2, by omega, h4⟩, h.nd, h.ub, h.us, h.few⟩
section
variable {w0 w : World} {l pd pk : Nat} {S : LS} {f : Fps}
/-- what Add did. -/
def AddC (w0 w w' : World) (l pd pk : Nat) (S : LS) (f : Fps) (xs und : List (List Int)) (B : Nat) (en : Int) : Prop :=
  ∃ S' f' und', Lg w0 w' l pd pk S' f' ∧ LSt w f w' f' ∧ Ld S'.dd S'.its und' B ∧ S'.n = S.n ∧ S'.seed = S.seed ∧ S'.la = S.la ∧ S'.dk = S.dk ∧ S'.mb = S.mb ∧ S'.mj ≤ S.mj + 1 ∧
    ((en = 0 ∧ S'.its = allU S.its xs ∧ und' = und) ∨ (en = 13 ∧ newU S.its xs ≠ [] ∧ S'.its = S.its ∧ ((und = [] ∧ und' = newU S.its xs) ∨ (und ≠ [] ∧ und' = und))))
theorem uadd_cr (h : Lg w0 w l pd pk S f) (und : List (List Int)) (B m : Nat) (hd : Ld S.dd S.its und B) (hmj : S.mj ≤ 1000) (vi : Value) (li : List (Value × List Int)) (xs : List (List Int)) (hxs : li.map (·.2) = xs) (hL : Lists w vi li) (hl : ∀ x ∈ xs, x.length ≤ m) (hm : m ≤ 65535) (hn : xs.length ≤ 1000) (h256 : (allU S.its xs).length ≤ 256) (hb : 4 + xs.length * (2 + m) ≤ 65535) (hB : B + (12 + xs.length * (2 + m)) ≤ 1048576) :
    Calls Tryz.prog 15 #[.pointer (some ⟨l, 0, none⟩), vi] w fun e w' => ∃ vr en, e = .returned (.tuple #[vr, .int .i64 en]) ∧ AddC w0 w w' l pd pk S f xs und (B + (12 + xs.length * (2 + m))) en := by
  have hxB : ∀ x ∈ xs, Bs x := fun x hx => by
    obtain ⟨y, hy, rfl⟩ := List.mem_map.1 (hxs ▸ hx)
    exact hL.bs y hy
  by_cases h0 : newU S.its xs = []
  · refine (uadd_none h vi li xs hxs hL (fun x hx => by have := hl x hx; omega) hn h0).mono ?_
    rintro e w' ⟨vr, rfl, R, K⟩
    refine ⟨vr, 0, rfl, S, f, und, h.on K, Stp.mid K, hd.more (by omega), rfl, rfl, rfl, rfl, rfl, by omega, .inl ⟨rfl, ?_, rfl⟩⟩
    rw [allU_new, h0, List.append_nil]
  · have hnl := newU_le S.its xs
    have hnx : ∀ x ∈ newU S.its xs, Bs x ∧ x.length ≤ m := fun x hx => by have := (newU_mem h.nd hx).1; exact ⟨hxB x this, hl x this⟩
    have hlen := batU_len (newU S.its xs) m (fun x hx => (hnx x hx).2)
    have hmul : (newU S.its xs).length * (2 + m) ≤ xs.length * (2 + m) := Nat.mul_le_mul_right _ hnl
    obtain ⟨rs, hg, hrB, hrl, hst⟩ := hd.ex
    rcases hst with ⟨hu, a, ha, hdd⟩ | ⟨hu, hdd⟩
    · subst hu
      obtain ⟨er, d', hadd, hcs⟩ := ld_add rs (batU (newU S.its xs)) a ha (by rw [recP_len]; omega)
      rw [← hdd] at hadd
      refine (uadd_any h vi li xs hxs hL (fun x hx => by have := hl x hx; omega) hn h256 h0 hmj (by omega) er d' hadd).mono ?_
      rintro e w' ⟨vr, en, rfl, hen, -, f', L, T, -⟩
      rcases hcs with ⟨rfl, a', ha', rfl⟩ | ⟨rfl, rfl⟩
      · have hbat : ∀ r ∈ rs ++ [batU (newU S.its xs)], Bs r ∧ r.length ≤ 65535 := fun r hr => by
          rcases List.mem_append.1 hr with hr | hr
          · exact hrB r hr
          · obtain rfl : r = batU (newU S.its xs) := by simpa using hr
            exact ⟨batU_bs (fun x hx => (hnx x hx).1), by omega⟩
        have hnd2 : (S.its ++ newU S.its xs).Nodup := by rw [← allU_new]; exact allU_nodup h.nd
        refine ⟨vr, en, rfl, _, f', [], L, T, ⟨⟨rs ++ [batU (newU S.its xs)], ?_, hbat, ?_, .inl ⟨rfl, a', ha', rfl⟩⟩, ?_, (fun x hx => by cases hx), by simp [batU, bq_len], ?_⟩, rfl, rfl, rfl, rfl, rfl, Nat.le_refl _, .inl ⟨by rw [hen]; rfl, rfl, rfl⟩⟩
        · show gatU [] _ = some (allU S.its xs)
          rw [allU_new]
          exact gatU_add hg hnd2 h0 (fun x hx => by have := (hnx x hx).2; omega) (by omega)
        · rw [layP_snoc, List.length_append, recP_len]; omega
        · show (allU S.its xs ++ []).Nodup
          rw [List.append_nil]; exact allU_nodup h.nd
        · show (allU S.its xs ++ []).length ≤ 256
          rw [List.append_nil]; exact h256
      · have hnd2 : (S.its ++ newU S.its xs).Nodup := by rw [← allU_new]; exact allU_nodup h.nd
        refine ⟨vr, en, rfl, _, f', newU S.its xs, L, T, ⟨⟨rs, hg, hrB, by omega, .inr ⟨h0, rfl⟩⟩, hnd2, fun x hx => ⟨(hnx x hx).1, by have := (hnx x hx).2; omega⟩, by omega, ?_⟩, rfl, rfl, rfl, rfl, rfl, Nat.le_refl _, .inr ⟨by rw [hen]; rfl, h0, rfl, .inl ⟨rfl, rfl⟩⟩⟩
        show (S.its ++ newU S.its xs).length ≤ 256
        rw [← allU_new]; exact h256
    · have hadd : S.dd.add (recP (batU (newU S.its xs))) = (false, S.dd) := Dk.add_down (by rw [hdd]; rfl) _
      refine (uadd_any h vi li xs hxs hL (fun x hx => by have := hl x hx; omega) hn h256 h0 hmj (by omega) false S.dd hadd).mono ?_
      rintro e w' ⟨vr, en, rfl, hen, -, f', L, T, -⟩
      exact ⟨vr, en, rfl, _, f', und, L, T, ⟨⟨rs, hg, hrB, by omega, .inr ⟨hu, hdd⟩⟩, hd.nd, hd.ub, hd.us, hd.few⟩, rfl, rfl, rfl, rfl, rfl, Nat.le_refl _, .inr ⟨by rw [hen]; rfl, h0, rfl, .inr ⟨hu, rfl⟩⟩⟩
/-- the key that was told last; -1. -/
def UsedI (S : LS) (u : Int) : Prop := (S.la = none ∧ u = -1) ∨ ∃ a, S.la = some a ∧ u = (a.2 : Int) ∧ a.2 < S.n
/-- what Publish did. -/
def PubC (w0 w w' : World) (l pd pk : Nat) (S : LS) (f : Fps) (u i en : Int) : Prop :=
  ∃ S' f', Lg w0 w' l pd pk S' f' ∧ LSt w f w' f' ∧ Stn S'.dk S'.n ∧ S'.its = S.its ∧ S'.dd = S.dd ∧ S'.seed = S.seed ∧ S'.mj = S.mj ∧ S'.mb ≤ S.mb + 1 ∧ ((en = 0 ∧ u ≤ i ∧ UsedI S' i) ∨ ((en = 13 ∨ en = 23) ∧ UsedI S' u))
theorem upub_cr (h : Lg w0 w l pd pk S f) (hG : Gl w0) (hst : Stn S.dk S.n) (hmb : S.mb ≤ 1000) (u : Int) (hu : UsedI S u) :
    Calls Tryz.prog 33 #[.pointer (some ⟨l, 0, none⟩)] w fun e w' => ∃ (n i en : Int) (ar : Option Addr) (mr cr : Nat) (ap : Option Addr) (np cp : Nat) (aq : Option Addr) (nq cq : Nat), e = .returned (.tuple #[.agg #[.int .i64 n, .slice ar mr cr, .int .i64 i, .slice ap np cp, .slice aq nq cq], .int .i64 en]) ∧ PubC w0 w w' l pd pk S f u i en := by
  have hnk := h.nk
  have old : ∀ {e : Ending} {w' : World}, (e = .returned (.tuple #[sgd0, .int .i64 23]) ∧ Kp [] w w') → ∃ (n i en : Int) (ar : Option Addr) (mr cr : Nat) (ap : Option Addr) (np cp : Nat) (aq : Option Addr) (nq cq : Nat), e = .returned (.tuple #[.agg #[.int .i64 n, .slice ar mr cr, .int .i64 i, .slice ap np cp, .slice aq nq cq], .int .i64 en]) ∧ PubC w0 w w' l pd pk S f u i en := by
    rintro e w' ⟨rfl, K⟩
    exact ⟨0, 0, 23, none, 0, 0, none, 0, 0, none, 0, 0, rfl, S, f, h.on K, Stp.mid K, hst, rfl, rfl, rfl, rfl, by omega, .inr ⟨.inr rfl, hu⟩⟩
  have new : ∀ (hn : S.n < 16) (hlt : u < S.n) {er : Bool} {dk' : Dk} (hs2 : Stn dk' (if er then S.n + 1 else S.n)) {e : Ending} {w' : World}, (∃ v en, e = .returned (.tuple #[v, .int .i64 en]) ∧ en = (if er = true then 0 else 13) ∧ ∃ f', Lg w0 w' l pd pk { S with dk := dk', mb := S.mb + 1, n := if er = true then S.n + 1 else S.n, la := if er = true then some (S.its.length, S.n) else S.la } f' ∧ LSt w f w' f' ∧ ∃ b, (∀ i, f'.tot i → i < b) ∧ w.heap.size ≤ b ∧ b ≤ w'.heap.size ∧ (if er = true then SgU b w' v (sgU S.seed S.its (S.its.length, S.n)) else v = sgd0)) → ∃ (n i en : Int) (ar : Option Addr) (mr cr : Nat) (ap : Option Addr) (np cp : Nat) (aq : Option Addr) (nq cq : Nat), e = .returned (.tuple #[.agg #[.int .i64 n, .slice ar mr cr, .int .i64 i, .slice ap np cp, .slice aq nq cq], .int .i64 en]) ∧ PubC w0 w w' l pd pk S f u i en := by
    rintro hn hlt er dk' hs2 e w' ⟨v, en, rfl, rfl, f', L, T, b, -, -, -, A⟩
    cases er
    · obtain rfl : v = sgd0 := A
      exact ⟨0, 0, 13, none, 0, 0, none, 0, 0, none, 0, 0, rfl, _, f', L, T, hs2, rfl, rfl, rfl, rfl, Nat.le_refl _, .inr ⟨.inl rfl, hu⟩⟩
    · simp only [if_true] at A
      obtain ⟨ar, mr, cr, ap, np, cp, aq, nq, cq, rfl, -, -⟩ := A.v.shape
      exact ⟨_, _, 0, ar, mr, cr, ap, np, cp, aq, nq, cq, rfl, _, f', L, T, hs2, rfl, rfl, rfl, rfl, Nat.le_refl _, .inl ⟨rfl, Int.le_of_lt hlt, .inr ⟨(S.its.length, S.n), rfl, rfl, Nat.lt_succ_self _⟩⟩⟩
  have hlt : u < S.n := by
    rcases hu with ⟨-, rfl⟩ | ⟨a, -, rfl, h2⟩ <;> omega
  cases hs : S.la with
  | none =>
    by_cases h16 : S.n = 16
    · exact (upub_usedN h hs h16).mono (fun _ _ x => old x)
    · obtain ⟨er, d', hadd, hs2⟩ := stn_take hst (by omega)
      exact (upub_anyN h hG hs (by omega) hmb er d' hadd).mono (fun _ _ x => new (by omega) hlt hs2 x)
  | some a =>
    obtain ⟨a1, a2⟩ := a
    by_cases ha : a1 = S.its.length
    · refine (upublish_old h a1 a2 hs ha).mono ?_
      rintro e w' ⟨v, rfl, A, K⟩
      obtain ⟨ar, mr, cr, ap, np, cp, aq, nq, cq, rfl, -, -⟩ := A.v.shape
      refine ⟨_, _, 0, ar, mr, cr, ap, np, cp, aq, nq, cq, rfl, S, f, h.on K, Stp.mid K, hst, rfl, rfl, rfl, rfl, by omega, .inl ⟨rfl, ?_, ?_⟩⟩
      · show u ≤ (a2 : Int)
        rcases hu with ⟨h1, -⟩ | ⟨a, h1, rfl, h2⟩
        · rw [hs] at h1; cases h1
        · rw [hs] at h1; injection h1 with h1; rw [← h1]; exact Int.le_refl _
      · rcases hu with ⟨h1, -⟩ | ⟨a, h1, h3, h2⟩
        · rw [hs] at h1; cases h1
        · rw [hs] at h1; injection h1 with h1
          refine .inr ⟨(a1, a2), hs, rfl, ?_⟩
          rw [← h1] at h2; exact h2
    · by_cases h16 : S.n = 16
      · exact (upub_usedS h a1 a2 hs ha h16).mono (fun _ _ x => old x)
      · obtain ⟨er, d', hadd, hs2⟩ := stn_take hst (by omega)
        exact (upub_anyS h hG a1 a2 hs ha (by omega) hmb er d' hadd).mono (fun _ _ x => new (by omega) hlt hs2 x)
end
/-- what a crash leaves of a ledger's disk. -/
theorem ld_crash {d : Dk} {its und : List (List Int)} {B : Nat} (h : Ld d its und B) (keep : Int) : ∃ rs at_ its', (d.crash keep).down = false ∧ (d.crash keep).arm = 0 ∧ opnP (d.crash keep).bs = (rs, at_, true) ∧ gatU [] rs = some its' ∧ (its' = its ∨ its' = its ++ und) ∧ its'.length ≤ 256 ∧ (∀ r ∈ rs, Bs r) ∧ rs.length ≤ (d.crash keep).bs.length ∧ lenU rs ≤ (d.crash keep).bs.length ∧ (d.crash keep).bs.length ≤ B + (8 + 65535) := by
  obtain ⟨rs, hg, hrB, hrl, hst⟩ := h.ex
  have hsh : ∀ r ∈ rs, r.length ≤ 65535 := fun r hr => (hrB r hr).2
  have hfew := h.few
  have key : ∀ (Bl : List (List Int)), (∀ r ∈ Bl, Bs r ∧ r.length ≤ 65535) → (layP Bl).length ≤ 8 + 65535 → Bl.length ≤ 1 → (∀ its', gatU [] (rs ++ Bl) = some its' → its' = its ∨ its' = its ++ und) → (∃ its', gatU [] (rs ++ Bl) = some its') → d.crash keep = (⟨layP (rs ++ Bl), (layP rs).length, 1048576, 0, false⟩ : Dk).crash keep → ∃ rs at_ its', (d.crash keep).down = false ∧ (d.crash keep).arm = 0 ∧ opnP (d.crash keep).bs = (rs, at_, true) ∧ gatU [] rs = some its' ∧ (its' = its ∨ its' = its ++ und) ∧ its'.length ≤ 256 ∧ (∀ r ∈ rs, Bs r) ∧ rs.length ≤ (d.crash keep).bs.length ∧ lenU rs ≤ (d.crash keep).bs.length ∧ (d.crash keep).bs.length ≤ B + (8 + 65535) := by
    intro Bl hB hBl hB1 hg2 hg3 hc
    obtain ⟨q, jj, h1, h2, h3, h4, h5, h6⟩ := crash_lay rs Bl keep hsh (fun r hr => (hB r hr).2)
    have hbs : (d.crash keep).bs = (layP (rs ++ Bl)).take q := by rw [hc, h2]
    have hlen : ((layP (rs ++ Bl)).take q).length ≤ B + (8 + 65535) := by
      have : (layP (rs ++ Bl)).length = (layP rs).length + (layP Bl).length := by rw [layP_append, List.length_append]
      rw [List.length_take]
      omega
    have hcnt := opnP_len ((layP (rs ++ Bl)).take q)
    rw [h5] at hcnt
    have hits : ∃ its', gatU [] ((rs ++ Bl).take jj) = some its' ∧ (its' = its ∨ its' = its ++ und) := by
      by_cases hj : jj = rs.length
      · rw [hj, List.take_left' rfl]
        exact ⟨its, hg, .inl rfl⟩
      · have : jj = (rs ++ Bl).length := by rw [List.length_append]; omega
        rw [this, List.take_length]
        obtain ⟨i2, hi2⟩ := hg3
        exact ⟨i2, hi2, hg2 i2 hi2⟩
    obtain ⟨i2, hi2, hor⟩ := hits
    refine ⟨_, _, i2, by rw [hc, h2], by rw [hc, h2], by rw [hbs]; exact h5, hi2, hor, ?_, ?_, ?_, ?_, by rw [hbs]; exact hlen⟩
    · rcases hor with rfl | rfl
      · rw [List.length_append] at hfew; omega
      · exact hfew
    · intro r hr
      rcases List.mem_append.1 (List.mem_of_mem_take hr) with hr | hr
      · exact (hrB r hr).1
      · exact (hB r hr).1
    · rw [hbs]
      have h8 := opnP_cnt ((layP (rs ++ Bl)).take q)
      rw [h5] at h8
      simp only at h8
      omega
    · rw [hbs]; exact hcnt
  rcases hst with ⟨rfl, a, ha, rfl⟩ | ⟨hu, rfl⟩
  · refine key [] (by simp) (by simp [layP]) (by simp) (fun i2 h2 => ?_) ⟨its, by rw [List.append_nil]; exact hg⟩ (by rw [List.append_nil]; rfl)
    rw [List.append_nil, hg] at h2
    injection h2 with h2
    exact .inl h2.symm
  · have hadd := gatU_add hg h.nd hu (fun x hx => (h.ub x hx).2) (by have := h.few; rw [List.length_append] at this; omega)
    refine key [batU und] (fun r hr => ?_) (by simp only [layP, List.map_cons, List.map_nil, List.flatten_cons, List.flatten_nil, List.append_nil, recP_len]; have := h.us; omega) (by simp) (fun i2 h2 => ?_) ⟨_, hadd⟩ rfl
    · obtain rfl : r = batU und := by simpa using hr
      exact ⟨batU_bs (fun x hx => (h.ub x hx).1), h.us⟩
    · rw [hadd] at h2
      injection h2 with h2
      exact .inr h2.symm
end Go.Proofs.YtillhpgdlmeajaaGreatDoor

/-
  The contract of the reference ledger's Plan.
-/
namespace Go.Proofs.YtillhpgdlmeajaaGreatDoor
open Go.RowKit
open Go.Proofs
set_option linter.unusedVariables false
/-- one more slice behind a row of slices, at a step of a region that draws its order. -/
theorem step_rowv {w3 : World} {ops : Array Oper} {o : Oper} {a : Act} {K : Act → World → Prop} {Q : Exit → Act → World → Prop} {E : Prop} (hgd : o.guard = none) (s x : Operand)
    (ho : o.op = .call { callee := .builtin .append, args := #[s, x], argTypes := #[33, 33] }) (base : Nat) (v : Value) (ys : List Value) (hs : a.eval s = v) (hR : RowV w3 base v ys) (hl : ys.length ≤ 1000000)
    (vx : Value) (hvx : vx.oneCell' = true) (g : Nat) (hx : a.eval x = .slice (some ⟨g, 0, none⟩) 1 1) (hc : w3.cell? ⟨g, 0, none⟩ = some vx) (hbase : base ≤ w3.heap.size)
    (h : ∀ ao m c w', m = ys.length + 1 → RowV w' base (.slice ao m c) (ys ++ [vx]) → RStep w3 v w' (.slice ao m c) → K (a.put o.dst (.slice ao m c)) w') :
    if Region.wanted o (yielded ops a.tmps) = true then Oper.wp Tryz.prog o a w3 K Q else E := by
  have hw : Region.wanted o (yielded ops a.tmps) = true := by simp [Region.wanted, hgd]
  rw [if_pos hw]
  obtain ⟨i0, hi0, hz0, hz1, hz2⟩ := info_parts Tryz.infoSl
  obtain ⟨av, cv, hv⟩ := hR.shape
  obtain ⟨v', w1, hr, hown1, hgrow, _, hat⟩ := run_append_own_at (P := Tryz.prog) w3 base 33 o.type 22 i0 (.slice none 0 0) 1 24 Tryz.underlying33 hi0 hz0 hz1 hz2 rfl (by decide) v ys.length ys hR ⟨g, 0, none⟩ 1 1 [vx] (by simp) (fun j u hu => by
    have hj : j = 0 := by have := (List.getElem?_eq_some_iff.1 hu).1; simpa using this
    subst hj
    simp at hu
    subst hu
    exact hc) (by simp [hvx]) (by unfold maxLen; omega) (by omega) hbase
  have R : RowV w1 base v' (ys ++ [vx]) := by unfold RowV; rw [List.length_append]; exact hown1
  obtain ⟨ao', c', hv'⟩ := R.shape
  subst hv'
  have st : RStep w3 v w1 (.slice ao' (ys ++ [vx]).length c') := ⟨(Kp.refl _ w3).grown hgrow (fun k hk => .inl (by simp [hk])), fun k hk => by
    rcases hat with e | e
    · exact .inl (e ▸ hk)
    · rw [e] at hk; cases hk; exact .inr (Nat.le_refl _)⟩
  have hKK := h ao' _ c' w1 (by simp) R st
  unfold Oper.wp execOp
  simp only [ho, resolve, invoke, builtin, Sem.run_bind, Sem.run_pure, Result.andThen_ok, List.map_toArray, List.map_cons, List.map_nil, hs, hx, hr]
  exact hKK
/-- one more slice behind a row of slices. -/
theorem wpList_rowv1 {base : Nat} {w2 : World} {ops : Array Oper} {rest : List Oper} {o : Oper} {a : Act} {Q : Exit → Act → World → Prop} (hgd : o.guard = none) (s x : Operand)
    (ho : o.op = .call { callee := .builtin .append, args := #[s, x], argTypes := #[33, 33] }) (v : Value) (ys : List Value) (hs : a.eval s = v) (hP : RowV w2 base v ys) (hbase : base ≤ w2.heap.size) (hl : ys.length ≤ 1000000)
    (vx : Value) (hvx : vx.oneCell' = true) (hx : a.eval x = .slice (some ⟨w2.heap.size, 0, none⟩) 1 1)
    (h : ∀ ao m c w', m = ys.length + 1 → RowV w' base (.slice ao m c) (ys ++ [vx]) → RStep w2 v w' (.slice ao m c) → wpList Tryz.prog ops Q rest (a.put o.dst (.slice ao m c)) w') : wpList Tryz.prog ops Q (o :: rest) a (w2.alloc (.cells #[vx] 22)) := by
  have k2 : Kp [] w2 (w2.alloc (.cells #[vx] 22)) := (Kp.refl [] w2).alloc _
  refine wpList_append_rowv hgd s x ho base v ys hs (hP.kept k2 (by simp)) ⟨w2.heap.size, 0, none⟩ 1 [vx] hx ?_ ?_ ?_ ?_ ?_
  · intro j u hu
    exact World.news_of_block (heap_alloc_new w2 _) j u (by simpa using hu)
  · simp [hvx]
  · simp; omega
  · simp; omega
  · intro ao m c w' r st
    exact h ao m c w' (by rw [r.len]; simp) r (st.after k2)
/-- two rows that share no block. -/
def Two (v u : Value) : Prop := ∀ j, v.ownBlock = some j → u.ownBlock ≠ some j
theorem Two.symm {v u : Value} (h : Two v u) : Two u v := fun j h1 h2 => h j h2 h1
theorem Two.step {w w' : World} {v v' u : Value} (h : Two v u) (s : RStep w v w' v') (hu : ∀ j, u.ownBlock = some j → j < w.heap.size) : Two v' u := fun j h1 h2 => by
  rcases s.2 j h1 with h3 | h3
  · exact h j h3 h2
  · have := hu j h2; omega
theorem Two.nil (u : Value) : Two (.slice none 0 0) u := fun j h => by cases h
/-- rows of slices that lay in the world w already. -/
theorem rowS_old {w w' : World} {v : Value} {l : List (Value × List Int)} (hr : RowV w' w.heap.size v (l.map (·.1))) (k : Kp [] w w') (hl : ∀ x ∈ l, Sl w x.1 x.2 ∧ Bs x.2) : RowS w' w.heap.size v l :=
  ⟨hr, fun x hx => ⟨(hl x hx).1.kept k (by simp), (hl x hx).2, fun j h1 h2 => by
    by_cases hb : x.2 = []
    · exact hb
    · have := sl_lt (hl x hx).1 hb h1
      have := hr.own j h2
      omega⟩⟩
/-- all of l are among lx. -/
def Amid (l lx : List (Value × List Int)) : Prop := ∀ y ∈ l, y ∈ lx
/-- Plan behind its first k items: all of them at p2, numbers vn, new ones vf. -/
def PlI (w : World) (p2 : Nat) (la lx : List (Value × List Int)) (its xs : List (List Int)) (k : Nat) (vn vf : Value) (wr : World) : Prop :=
  ∃ (vi : Value) (lA lf : List (Value × List Int)), RLi wr p2 vi ∧ RowV wr w.heap.size vi (lA.map (·.1)) ∧ lA.map (·.2) = allU its (xs.take k) ∧ (∀ y ∈ lA, y ∈ la ∨ y ∈ lx) ∧ RowV wr w.heap.size vf (lf.map (·.1)) ∧ lf.map (·.2) = newU its (xs.take k) ∧ (∀ y ∈ lf, y ∈ lx) ∧ RowI wr w.heap.size vn (nsU its (xs.take k)) ∧ Two vi vf ∧ Two vi vn ∧ Two vf vn ∧ (∀ j, vi.ownBlock = some j → j ≠ p2) ∧ (∀ j, vf.ownBlock = some j → j ≠ p2) ∧ (∀ j, vn.ownBlock = some j → j ≠ p2) ∧ w.heap.size ≤ p2 ∧ p2 < wr.heap.size ∧ Kp [] w wr
set_option maxRecDepth 100000 in
set_option maxHeartbeats 8000000 in
/-- p a ledger whose items read as its; what is told are the items' own slices. -/
theorem rplan_any (p : Nat) (va : Value) (la : List (Value × List Int)) (vx : Value) (lx : List (Value × List Int)) (its xs : List (List Int)) (w : World) (hc : w.cell? ⟨p, 0, none⟩ = some va) (hL : Lc w va la) (hla : la.map (·.2) = its) (hX : Lists w vx lx) (hlx : lx.map (·.2) = xs) (hn : la.length ≤ 10000) (hm : lx.length ≤ 1000) (hnd : its.Nodup) :
    Calls Tryz.prog 32 #[.pointer (some ⟨p, 0, none⟩), vx] w fun e w' => ∃ a1 m1 c1 a2 m2 c2, e = .returned (.tuple #[.slice a1 m1 c1, .slice a2 m2 c2]) ∧ RowI w' w.heap.size (.slice a1 m1 c1) (nsU its xs) ∧ (∃ lf, RowS w' w.heap.size (.slice a2 m2 c2) lf ∧ lf.map (·.2) = newU its xs ∧ Amid lf lx) ∧ Kp [] w w' := by
  have hLs : ∀ y ∈ la, Sl w y.1 y.2 ∧ Bs y.2 := fun y hy => by
    obtain ⟨i, hi, e⟩ := List.mem_iff_getElem.1 hy
    obtain ⟨ao, c, -, -, hcell⟩ := hL.1
    obtain ⟨b, off, -, -, h1, h2⟩ := hcell i hi
    rw [← e]
    exact ⟨h1, h2⟩
  have hXs : ∀ y ∈ lx, Sl w y.1 y.2 ∧ Bs y.2 := fun y hy => by
    obtain ⟨i, hi, e⟩ := List.mem_iff_getElem.1 hy
    obtain ⟨ao, c, -, -, hcell⟩ := hX
    obtain ⟨b, off, -, -, h1, h2⟩ := hcell i hi
    rw [← e]
    exact ⟨h1, h2⟩
  have HAll : Hid (∀ y, y ∈ la ∨ y ∈ lx → Sl w y.1 y.2 ∧ Bs y.2) := hide (fun y hy => hy.elim (hLs y) (hXs y))
  have HXx := hide hX
  have HLa := hide hla
  have HLx := hide hlx
  have HNd := hide hnd
  obtain ⟨av, cv, hva, h1, h2, h3⟩ := hL.shape
  obtain ⟨nv, hnv⟩ : ∃ n, n = la.length := ⟨_, rfl⟩
  rw [← hnv] at hva hn
  subst hva
  have HLs := hide hL.1
  have H3 := hide h3
  have HNv := hide hnv
  obtain ⟨ax, cx, hvx, -, hcellx⟩ := hX
  have HCx := hide hcellx
  obtain ⟨nx, hnx⟩ : ∃ n, n = lx.length := ⟨_, rfl⟩
  rw [← hnx] at hvx hm
  subst hvx
  have HNx := hide hnx
  have hrow0 : RowV (w.alloc (.cells #[] 22)) w.heap.size (.slice (some ⟨w.heap.size, 0, none⟩) 0 0) [] := World.ownsRow_made w #[] 0 (Nat.le_refl _) (by simp [maxLen]) rfl
  have HRow0 := hide hrow0
  have HK0 : Hid (Kp [] w (w.alloc (.cells #[] 22))) := hide ((Kp.refl [] _).alloc _)
  have hc0 := HK0.out.cell hc (by simp)
  clear hL hla hlx hnd hLs hXs h1 h2 h3 hnv hcellx hnx hrow0 hc
  go_enter Tryz.func32, Tryz.ntmps32
  go_wp2_with (
    at_builtin
    refine wpList_append_list rfl (.tmp 11) (.tmp 15) rfl w.heap.size _ [] rfl HRow0.out av nv cv la rfl (HLs.out.kept HK0.out) H3.out (by rw [← HNv.out]; simp; omega) HK0.out.size ?_
    intro a1 m1 c1 w1 R1 S1
    refine Hid.out ?_)
  rw [List.nil_append] at R1
  have S1' : RStep (w.alloc (.cells #[] 22)) (.slice (some ⟨w.heap.size, 0, none⟩) 0 0) w1 (.slice a1 m1 c1) := S1
  have HK1 : Hid (Kp [] w w1) := hide (HK0.out.then S1'.1 (fun i hi => .inr (by
    have h1 : i = w.heap.size := by simpa [Value.ownBlock] using hi
    omega)))
  have HR1 := hide R1
  obtain ⟨p2, hp2⟩ : ∃ p, p = w1.heap.size := ⟨_, rfl⟩
  obtain ⟨w2, hw2⟩ : ∃ y, y = w1.alloc (.cells #[.slice a1 m1 c1, .pointer none, .int .i64 0, .int .i64 0, .slice none 0 0, .int .i64 0, .slice none 0 0, .slice none 0 0, .bool false] 74) := ⟨_, rfl⟩
  have K2 : Kp [] w1 w2 := by rw [hw2]; exact (Kp.refl [] _).alloc _
  have HPl : Hid (PlI w p2 la lx its xs 0 (.slice none 0 0) (.slice none 0 0) w2) := hide (by
    have hs1 := HK1.out.size
    have hs2 : w2.heap.size = p2 + 1 := by rw [hw2, hp2]; simp
    refine ⟨.slice a1 m1 c1, la, [], by rw [hw2, hp2]; exact heap_alloc_new w1 _, HR1.out.kept K2 (by simp), ?_, fun y hy => .inl hy, World.ownsRow_nil _ _ _ _, ?_, (fun y hy => by cases hy), World.ownsRow_nil _ _ _ _, (Two.nil _).symm, (Two.nil _).symm, Two.nil _, fun j hj e => ?_, (fun j hj => by cases hj), (fun j hj => by cases hj), by omega, by omega, HK1.out.trans K2⟩
    · rw [List.take_zero, allU_nil, HLa.out]
    · rw [List.take_zero, newU_nil]; rfl
    · have := HR1.out.lt hj; omega)
  have HW2 := hide hw2
  have HP2 := hide hp2
  clear R1 S1 S1' hc0 hw2 hp2 K2 HK0 HRow0
  refine hide ?_
  go_wp2_with fail
  rw [← HW2.out, ← HP2.out]
  go_loopw [7, 8, 9] (fun vn vf i wr => ∃ k : Nat, k ≤ nx ∧ i = .int .i64 k ∧ ∃ an mn cn af mf cf, vn = .slice an mn cn ∧ vf = .slice af mf cf ∧ PlI w p2 la lx its xs k (.slice an mn cn) (.slice af mf cf) wr) (fun _ _ i _ => nx - (intOf i).toNat)
  case atStart => exact ⟨0, by omega, rfl, none, 0, 0, none, 0, 0, rfl, rfl, HPl.out⟩
  case round =>
    clear HPl
    obtain ⟨k, hk, rfl, an, mn, cn, af, mf, cf, rfl, rfl, vi, lA, lf, hP, hRA, hAm, hAo, hRF, hFm, hFo, hRN, t1, t2, t3, hi2, hf2, hn2, hpw, hpr, hK⟩ := hrel
    obtain ⟨ai, ci, hvi⟩ := hRA.shape
    obtain ⟨mi, hmi⟩ : ∃ n, n = (lA.map (·.1)).length := ⟨_, rfl⟩
    rw [← hmi] at hvi
    subst hvi
    have HP := hide hP
    have HRA := hide hRA
    have HAm := hide hAm
    have HAo := hide hAo
    have HRF := hide hRF
    have HFm := hide hFm
    have HFo := hide hFo
    have HRN := hide hRN
    have HT1 := hide t1
    have HT2 := hide t2
    have HT3 := hide t3
    have HI2 := hide hi2
    have HF2 := hide hf2
    have HN2 := hide hn2
    have HPw := hide hpw
    have HPr := hide hpr
    have HK := hide hK
    have HMi := hide hmi
    have hlAl : lA.length ≤ 11000 := by
      have h1 := congrArg List.length hAm
      have h2 := allU_le its (xs.take k)
      have h3 : its.length = nv := by rw [← HLa.out, List.length_map, HNv.out]
      rw [List.length_map] at h1
      rw [List.length_take] at h2
      have h4 : xs.length = nx := by rw [← HLx.out, List.length_map, HNx.out]
      omega
    clear hP hRA hAm hAo hRF hFm hFo hRN t1 t2 t3 hi2 hf2 hn2 hpw hpr hK hmi
    by_cases hlt : k < nx
    · have hlt' : (k : Int) < (nx : Int) := by omega
      have hkl : k < lx.length := by rw [← HNx.out]; exact hlt
      obtain ⟨bx, ox, rfl, hcx, hSx, hBx⟩ := HCx.out k hkl
      have hcw := HK.out.cell hcx (by simp)
      have hSw := hSx.kept HK.out (by simp)
      have HKpl := HK
      have hmem : lx[k] ∈ lx := List.getElem_mem hkl
      have hxk : k < xs.length := by rw [← HLx.out, List.length_map]; exact hkl
      have h2k : lx[k].2 = xs[k] := by
        have h1 : (lx.map (·.2))[k]? = xs[k]? := by rw [HLx.out]
        rw [List.getElem?_map, List.getElem?_eq_getElem hkl, List.getElem?_eq_getElem hxk] at h1
        exact Option.some.inj h1
      have htk : xs.take (k + 1) = xs.take k ++ [lx[k].2] := by rw [h2k]; exact List.take_succ_eq_append_getElem hxk
      obtain ⟨e, he⟩ : ∃ e, e = lx[k] := ⟨_, rfl⟩
      rw [← he] at hcx hSx hBx hcw hSw hmem htk
      obtain ⟨ve, be⟩ := e
      simp only at hcx hSx hBx hcw hSw htk
      obtain ⟨ae, ce, hve, -⟩ := id hSw
      obtain ⟨me, hme⟩ : ∃ n, n = be.length := ⟨_, rfl⟩
      rw [← hme] at hve
      subst hve
      have HCw := hide hcx
      have HTk := hide htk
      have HMem := hide hmem
      have HSx := hide hSx
      have HBx := hide hBx
      have RA := rowS_old HRA.out HK.out (fun y hy => HAll.out y (HAo.out y hy))
      obtain ⟨r, hr⟩ : ∃ r, r = fdU (lA.map (·.2)) be := ⟨_, rfl⟩
      have HFd := hide (rfind_any p2 (.slice ai mi ci) lA (.slice ae me ce) be r wr HP.out.c0 (lists_big RA (by omega)) hSw hBx (by omega) hr)
      rw [HAm.out] at hr
      have HR := hide hr
      clear hcx hSx hBx hmem htk he hme RA hr h2k hxk
      by_cases hin : be ∈ allU its (xs.take k)
      · have hr0 : ¬ r < 0 := by rw [HR.out]; unfold fdU; rw [if_pos hin]; omega
        have hdr : decide (r < 0) = false := decide_eq_false hr0
        have HIn := hide hin
        clear hin
        go_wp2_with fail
        refine HFd.out.mono ?_
        rintro ee w3 ⟨rfl, K3⟩
        have HK3 := hide K3
        have HRN3 := hide (HRN.out.kept K3 (by simp))
        clear HFd K3
        have hnl : (nsU its (xs.take k)).length ≤ 1000 := by rw [nsU_len, List.length_take]; omega
        go_wp2_with (at_builtin; refine wpList_append_rowi rfl (.tmp 58) (.tmp 60) rfl w.heap.size (.slice an mn cn) _ rfl HRN3.out r rfl (by omega) (HK.out.trans HK3.out).size ?_; intro a4 m4 c4 w4 R4 S4)
        go_roundw
        case rel =>
          have hown : ∀ j ∈ (Value.slice an mn cn).ownBlock.toList, (Value.slice an mn cn).ownBlock = some j := fun j hj => by simpa [Option.mem_toList] using hj
          have hs3 := HK3.out.size
          have hs4 := S4.1.size
          refine ⟨k + 1, by omega, by go_num, a4, m4, c4, af, mf, cf, rfl, rfl, .slice ai mi ci, lA, lf, (HP.out.kept HK3.out (by simp)).kept S4.1 (fun hm => HN2.out p2 (hown p2 hm) rfl), (HRA.out.kept HK3.out (by simp)).kept S4.1 (fun j hj hm => HT2.out j hj (hown j hm)), ?_, HAo.out, (HRF.out.kept HK3.out (by simp)).kept S4.1 (fun j hj hm => HT3.out j hj (hown j hm)), ?_, HFo.out, ?_, HT1.out, ?_, ?_, HI2.out, HF2.out, ?_, HPw.out, by have := HPr.out; omega, (HK.out.trans HK3.out).then S4.1 (fun j hj => .inr (HRN.out.lt (hown j hj)).1)⟩
          · rw [HTk.out, allU_snoc, insU_old HIn.out]; exact HAm.out
          · rw [HTk.out, newU_snoc, if_pos HIn.out]; exact HFm.out
          · have e : nsU its (xs.take (k + 1)) = nsU its (xs.take k) ++ [r] := by
              rw [HTk.out, nsU_snoc, HR.out]
              unfold fdU
              rw [if_pos HIn.out]
            rw [e]
            exact R4
          · exact (HT2.out.symm.step S4 (fun j hj => by have := HRA.out.lt hj; omega)).symm
          · exact (HT3.out.symm.step S4 (fun j hj => by have := HRF.out.lt hj; omega)).symm
          · intro j hj e
            rcases S4.2 j hj with h1 | h1
            · exact HN2.out j h1 e
            · have := HPr.out; omega
        case measure => simp [intOf]; omega
      · have hr0 : r = -1 := by rw [HR.out]; unfold fdU; rw [if_neg hin]
        have HIn := hide hin
        subst hr0
        clear hin
        go_wp2_with fail
        refine HFd.out.mono ?_
        rintro ee w3 ⟨rfl, K3⟩
        have HK3 := hide K3
        have HP3 := hide (HP.out.kept K3 (by simp))
        have hc3 := HP3.out.c0
        have hci3 := K3.cell hcw (by simp)
        have hca3 : ∀ o, (w3.alloc o).cell? ⟨p2, 0, none⟩ = some (.slice ai mi ci) := fun o => (World.cell?_alloc_lt _ _ _ (by have := HPr.out; have := HK3.out.size; show p2 < _; omega)).trans hc3
        have hcia : ∀ o, (w3.alloc o).cell? ⟨bx, ox + k, none⟩ = some (.slice ae me ce) := fun o => (World.cell?_alloc_lt _ _ _ (World.block_lt_of_cell? _ _ hci3)).trans hci3
        have HRA3 := hide (HRA.out.kept K3 (by simp))
        have HRF3 := hide (HRF.out.kept K3 (by simp))
        have HRN3 := hide (HRN.out.kept K3 (by simp))
        have HCx3 := hide hci3
        have HHd : Hid (w.heap.size ≤ w3.heap.size) := hide (HK.out.trans HK3.out).size
        have hlAm : (lA.map (·.1)).length ≤ 1000000 := by rw [List.length_map]; omega
        clear HFd K3 hcw
        go_wp2_with fail
        go_region_law ((refine step_rowv (by rfl) (.tmp 42) (.tmp 47) (by rfl) w.heap.size (.slice ai mi ci) (lA.map (·.1)) (by rfl) (HRA3.out.kept (((Kp.refl [] w3).alloc _).drew) (by simp)) hlAm (.slice ae me ce) rfl w3.heap.size (by rfl) (by exact cell_of_one (heap_alloc_new w3 _)) (Nat.le_trans HHd.out (((Kp.refl [] w3).alloc _).drew).size) ?_; intro a5 m5 c5 w5 hm5 R5 S5; have P5 : RLi w5 p2 (.slice ai mi ci) := (HP3.out.kept (((Kp.refl [] w3).alloc _).drew) (by simp)).kept S5.1 (fun hm => HI2.out p2 (by simpa [Option.mem_toList] using hm) rfl); have hc5 := P5.c0; have hf5 := P5.f 0))
        all_goals
          have st := S5.after (((Kp.refl [] w3).alloc (.cells #[.slice ae me ce] 22)).drew)
          obtain ⟨m6, hm6⟩ : ∃ m, m = lA.length + 1 := ⟨_, rfl⟩
          have hmm : m5 = m6 := by rw [hm6, hm5, List.length_map]
          rw [← hm6]
          subst hmm
          obtain ⟨w6, hw6⟩ : ∃ y, y = w5.setCell ⟨p2, 0, none⟩ (.slice a5 m5 c5) := ⟨_, rfl⟩
          rw [← hw6]
          have hown : ∀ j ∈ (Value.slice ai mi ci).ownBlock.toList, (Value.slice ai mi ci).ownBlock = some j := fun j hj => by simpa [Option.mem_toList] using hj
          have P6 : RLi w6 p2 (.slice a5 m5 c5) := by rw [hw6]; exact P5.set _
          have k6 : Kp [p2] w5 w6 := by rw [hw6]; exact kp_set w5 p2 0 _
          have hs3 := HK3.out.size
          have hs5 := st.1.size
          have hpr := HPr.out
          have K6 : Kp [] w w6 := ((HK.out.trans HK3.out).then st.1 (fun j hj => .inr (HRA.out.own j (hown j hj)))).then k6 (fun j hj => .inr (by simp at hj; have := HPw.out; omega))
          have o5 : ∀ j, (Value.slice a5 m5 c5).ownBlock = some j → j ≠ p2 := fun j hj e => by
            rcases st.2 j hj with h1 | h1
            · exact HI2.out j h1 e
            · omega
          have RA6 : RowV w6 w.heap.size (.slice a5 m5 c5) (lA.map (·.1) ++ [.slice ae me ce]) := R5.kept k6 (fun j hj hm => by simp at hm; exact o5 j hj hm)
          have RF6 : RowV w6 w.heap.size (.slice af mf cf) (lf.map (·.1)) := (HRF3.out.kept st.1 (fun j hj hm => HT1.out.symm j hj (hown j hm))).kept k6 (fun j hj hm => by simp at hm; exact HF2.out j hj hm)
          have RN6 : RowI w6 w.heap.size (.slice an mn cn) (nsU its (xs.take k)) := (HRN3.out.kept st.1 (fun j hj hm => HT2.out.symm j hj (hown j hm))).kept k6 (fun j hj hm => by simp at hm; exact HN2.out j hj hm)
          have T1 : Two (.slice a5 m5 c5) (.slice af mf cf) := HT1.out.step st (fun j hj => HRF3.out.lt hj)
          have T2 : Two (.slice a5 m5 c5) (.slice an mn cn) := HT2.out.step st (fun j hj => (HRN3.out.lt hj).2)
          have hci6 := K6.cell HCw.out (by simp)
          have hsz6 : w6.heap.size = w5.heap.size := by rw [hw6]; simp [World.setCell]
          have HP6 := hide P6
          have HK6 := hide K6
          have HO5 := hide o5
          have HRA6 := hide RA6
          have HRF6 := hide RF6
          have HRN6 := hide RN6
          have HU1 := hide T1
          have HU2 := hide T2
          have HM6 : Hid (m5 = lA.length + 1) := hide hm6
          have HS6 : Hid (p2 < w6.heap.size) := hide (by omega)
          have hlfl : (lf.map (·.1)).length ≤ 1000000 := by
            have h1 := congrArg List.length HFm.out
            rw [List.length_map] at h1
            have h2 := newU_le its (xs.take k)
            rw [List.length_take] at h2
            rw [List.length_map]
            omega
          clear R5 S5 st P5 P6 k6 K6 o5 RA6 RF6 RN6 T1 T2 hc5 hf5 hc3 hci3 hca3 hcia hsz6 hm5 hm6 hw6 hown
          go_wp2_with (
            at_builtin
            refine wpList_rowv1 rfl (.tmp 51) (.tmp 56) rfl (.slice af mf cf) (lf.map (·.1)) rfl HRF6.out HK6.out.size hlfl (.slice ae me ce) rfl rfl ?_
            intro a7 m7 c7 w7 hm7 R7 S7
            clear hm7
            refine Hid.out ?_)
          have hown : ∀ j ∈ (Value.slice af mf cf).ownBlock.toList, (Value.slice af mf cf).ownBlock = some j := fun j hj => by simpa [Option.mem_toList] using hj
          have hs7 := S7.1.size
          have HP7 := hide (HP6.out.kept S7.1 (fun hm => HF2.out p2 (hown p2 hm) rfl))
          have HRA7 := hide (HRA6.out.kept S7.1 (fun j hj hm => HU1.out j hj (hown j hm)))
          have HRN7 := hide (HRN6.out.kept S7.1 (fun j hj hm => HT3.out.symm j hj (hown j hm)))
          have HK7 := hide (HK6.out.then S7.1 (fun j hj => .inr (HRF6.out.own j (hown j hj))))
          have HV1 : Hid (Two (.slice a5 m5 c5) (.slice a7 m7 c7)) := hide ((HU1.out.symm.step S7 (fun j hj => HRA6.out.lt hj)).symm)
          have HV3 : Hid (Two (.slice a7 m7 c7) (.slice an mn cn)) := hide (HT3.out.step S7 (fun j hj => (HRN6.out.lt hj).2))
          have HO7 : Hid (∀ j, (Value.slice a7 m7 c7).ownBlock = some j → j ≠ p2) := hide (fun j hj e => by
            rcases S7.2 j hj with h1 | h1
            · exact HF2.out j h1 e
            · have := HS6.out; omega)
          have HR7 := hide R7
          have HS7 : Hid (p2 < w7.heap.size) := hide (by have := HS6.out; omega)
          have hnl : (nsU its (xs.take k)).length ≤ 1000 := by rw [nsU_len, List.length_take]; omega
          clear R7 S7 hown hci6
          refine hide ?_
          go_wp2_with (at_builtin; refine wpList_append_rowi rfl (.tmp 58) (.tmp 60) rfl w.heap.size (.slice an mn cn) _ rfl HRN7.out (mi : Int) rfl (by omega) HK7.out.size ?_; intro a8 m8 c8 w8 R8 S8)
          go_roundw
          case rel =>
            have hown : ∀ j ∈ (Value.slice an mn cn).ownBlock.toList, (Value.slice an mn cn).ownBlock = some j := fun j hj => by simpa [Option.mem_toList] using hj
            have hs8 := S8.1.size
            refine ⟨k + 1, by omega, by go_num, a8, m8, c8, a7, m7, c7, rfl, rfl, .slice a5 m5 c5, lA ++ [(.slice ae me ce, be)], lf ++ [(.slice ae me ce, be)], HP7.out.kept S8.1 (fun hm => HN2.out p2 (hown p2 hm) rfl), ?_, ?_, fun y hy => ?_, ?_, ?_, fun y hy => ?_, ?_, HV1.out, ?_, ?_, HO5.out, HO7.out, ?_, HPw.out, by have := HS7.out; omega, HK7.out.then S8.1 (fun j hj => .inr (HRN.out.lt (hown j hj)).1)⟩
            · rw [List.map_append]; exact HRA7.out.kept S8.1 (fun j hj hm => HU2.out j hj (hown j hm))
            · rw [HTk.out, allU_snoc, insU_new HIn.out, List.map_append, HAm.out]; rfl
            · rcases List.mem_append.1 hy with hy | hy
              · exact HAo.out y hy
              · obtain rfl : y = (.slice ae me ce, be) := by simpa using hy
                exact .inr HMem.out
            · rw [List.map_append]; exact HR7.out.kept S8.1 (fun j hj hm => HV3.out j hj (hown j hm))
            · rw [HTk.out, newU_snoc, if_neg HIn.out, List.map_append, HFm.out]; rfl
            · rcases List.mem_append.1 hy with hy | hy
              · exact HFo.out y hy
              · obtain rfl : y = (.slice ae me ce, be) := by simpa using hy
                exact HMem.out
            · have e : nsU its (xs.take (k + 1)) = nsU its (xs.take k) ++ [(mi : Int)] := by
                rw [HTk.out, nsU_snoc, idx_none HIn.out, ← HAm.out, HMi.out, List.length_map, List.length_map]
              rw [e]
              exact R8
            · exact (HU2.out.symm.step S8 (fun j hj => HRA7.out.lt hj)).symm
            · exact (HV3.out.symm.step S8 (fun j hj => HR7.out.lt hj)).symm
            · intro j hj e
              rcases S8.2 j hj with h1 | h1
              · exact HN2.out j h1 e
              · have := HS7.out; omega
          case measure => simp [intOf]; omega
    · obtain rfl : k = nx := by omega
      have hlt' : ¬ (k : Int) < (k : Int) := by omega
      have e : xs.take k = xs := List.take_of_length_le (by rw [← HLx.out, List.length_map, HNx.out]; omega)
      rw [e] at HFm HRN
      clear e
      go_wp2_with fail
      go_ret2
      exact ⟨an, mn, cn, af, mf, cf, rfl, HRN.out, ⟨lf, rowS_old HRF.out HK.out (fun y hy => HAll.out y (.inr (HFo.out y hy))), HFm.out, HFo.out⟩, HK.out⟩
end Go.Proofs.YtillhpgdlmeajaaGreatDoor
