/-
  The laws of ledger: the reference's Batch, items.
-/
import Derived.Test.YtillhpgdlmeajaaGreatDoorKUKnown
import Derived.Test.YtillhpgdlmeajaaGreatDoorKMKeeps
namespace Go.Proofs.YtillhpgdlmeajaaGreatDoor
open Go.RowKit
open Go.Proofs
set_option linter.unusedVariables false

/-- an item as it is drawn. -/
def itemX (x : Int) : List Int := encM (mkM x (x.tdiv 4) (x.tdiv 40))
theorem itemX_len (x : Int) : (itemX x).length ≤ 62 := by
  unfold itemX
  rw [encM_len, nums_len]
  have h1 := mkM_size x (x.tdiv 4) (x.tdiv 40)
  have h2 : (mkM x (x.tdiv 4) (x.tdiv 40)).f.length = 32 := hashK_len _
  have h3 : (mkM x (x.tdiv 4) (x.tdiv 40)).n.length = 1 := rfl
  omega
theorem itemX_bs (x : Int) : Bs (itemX x) := encM_bs _ (mkM_ok _ _ _)
theorem tdiv_le (x c : Int) (hc : 0 < c) : (0 ≤ x → 0 ≤ x.tdiv c ∧ x.tdiv c ≤ x) ∧ (x < 0 → x ≤ x.tdiv c ∧ x.tdiv c ≤ 0) := by
  refine ⟨fun h => ⟨Int.tdiv_nonneg h (by omega), ?_⟩, fun h => ?_⟩
  · rw [Int.tdiv_eq_ediv_of_nonneg h]; exact Int.ediv_le_self c h
  · have e : x.tdiv c = -((-x).tdiv c) := by rw [Int.neg_tdiv]; omega
    rw [e, Int.tdiv_eq_ediv_of_nonneg (by omega)]
    have h1 := Int.ediv_le_self c (show 0 ≤ -x by omega)
    have h2 := Int.ediv_nonneg (show 0 ≤ -x by omega) (show 0 ≤ c by omega)
    omega
theorem RowsQ.off {w w' : World} {base : Nat} {v : Value} {l : List (Value × List Int)} {S : List Nat} (h : RowsQ w base v l) (k : Kp S w w') (hS : ∀ i ∈ S, i < base ∨ w.heap.size ≤ i) : RowsQ w' base v l :=
  h.kept (k.less (T := S.filter (fun i => decide (i < base))) (fun i hi hl => List.mem_filter.2 ⟨hi, decide_eq_true ((hS i hi).resolve_right (by omega))⟩)) (fun i hi => of_decide_eq_true (List.mem_filter.1 hi).2)
theorem RowsQ.lists {w : World} {base : Nat} {v : Value} {l : List (Value × List Int)} (h : RowsQ w base v l) (hl : l.length ≤ 1000000) : Lists w v l := lists_big h.1 hl
theorem RowsQ.rebase {w : World} {base b : Nat} {v : Value} {l : List (Value × List Int)} (h : RowsQ w base v l) (hb : b ≤ base) : RowsQ w b v l :=
  ⟨⟨owns_rebase h.1.1 (fun i hi => Nat.le_trans hb (h.1.1.own i hi)), h.1.2⟩, fun x hx i hi => Nat.le_trans hb (h.2 x hx i hi)⟩
theorem rowsQ_nil (w : World) (base : Nat) : RowsQ w base (.slice none 0 0) [] := ⟨⟨World.ownsRow_nil _ _ _ _, by simp⟩, by simp⟩
/-- a list of one slice that lies from B on. -/
def OneO (B : Nat) (r : List Int) : Tell := fun v w => ∃ g u, v = .slice (some ⟨g, 0, none⟩) 1 1 ∧ w.cell? ⟨g, 0, none⟩ = some u ∧ RO B r u w
theorem stable_oneo (B : Nat) (r : List Int) : Tell.stable (OneO B r) := fun _ _ _ k ⟨g, u, e, h1, h2⟩ => ⟨g, u, e, k.cell h1 (by simp), stable_ro B r _ _ _ k h2⟩
theorem grown_oneo {o : Oper} {a : Act} {w : World} (x : Operand) (ho : o.op = .buildSlice 33 1 #[(0, x)]) (B : Nat) (r : List Int) (h : RO B r (a.eval x) w) : grown Tryz.prog w (OneO B r) ((execOp a.eval o).run Tryz.prog w) := by
  have h' := h
  obtain ⟨ao, m, c, e, _⟩ := h
  have k : Kp [] w (w.alloc (.cells #[.slice ao m c] 22)) := (Kp.refl [] w).alloc _
  rw [e] at h'
  refine grown_run (v := .slice (some ⟨w.heap.size, 0, none⟩) 1 1) (w' := w.alloc (.cells #[.slice ao m c] 22)) ?_ k ⟨w.heap.size, _, rfl, by rw [cell_of_row _ _ 0 _ _ _ (heap_alloc_new w _)]; rfl, stable_ro B r _ _ _ k h'⟩
  obtain ⟨ρ, hρ, _⟩ := eval_is a
  rw [hρ] at e ⊢
  unfold execOp
  simp only [ho]
  simp [go_sem, e]
theorem wpList_rowsO {base B : Nat} {w2 : World} {ops : Array Oper} {rest : List Oper} {o : Oper} {a : Act} {Q : Exit → Act → World → Prop} (hgd : o.guard = none) (s x : Operand)
    (ho : o.op = .call { callee := .builtin .append, args := #[s, x], argTypes := #[33, 33] }) (v : Value) (l : List (Value × List Int)) (hs : a.eval s = v) (hP : RowsQ w2 base v l) (hbase : base ≤ w2.heap.size) (hl : l.length ≤ 1000000)
    (bs : List Int) (hx : OneO B bs (a.eval x) w2) (hb : Bs bs) (hap : ∀ i, v.ownBlock = some i → i < B) (hbB : base ≤ B)
    (h : ∀ ao m c w' u, RowsQ w' base (.slice ao m c) (l ++ [(u, bs)]) → RStep w2 v w' (.slice ao m c) → wpList Tryz.prog ops Q rest (a.put o.dst (.slice ao m c)) w') : wpList Tryz.prog ops Q (o :: rest) a w2 := by
  obtain ⟨g, u, ex, hc, ⟨ax, mx, cx, rfl, hS, hown⟩⟩ := hx
  refine wpList_append_rowv hgd s x ho base v (l.map (·.1)) hs hP.1.1 ⟨g, 0, none⟩ 1 [.slice ax mx cx] ex ?_ ?_ ?_ hbase ?_
  · intro j y hy
    have : j = 0 ∧ y = .slice ax mx cx := by
      cases j with
      | zero => exact ⟨rfl, by simpa using hy.symm⟩
      | succ j => simp at hy
    obtain ⟨rfl, rfl⟩ := this
    rw [Addr.add_lit]; exact hc
  · simp [Value.oneCell']
  · simp; omega
  · intro ao m c w' r st
    refine h ao m c w' (.slice ax mx cx) ⟨hP.1.snocJ (x := (.slice ax mx cx, bs)) hS hb (fun i h1 h2 => by have := hown i h1; have := hap i h2; omega) r st, fun y hy => ?_⟩ st
    rcases List.mem_append.1 hy with hy | hy
    · exact hP.2 y hy
    · obtain rfl : y = (.slice ax mx cx, bs) := by simpa using hy
      exact fun i hi => Nat.le_trans hbB (hown i hi)
set_option maxRecDepth 100000 in
set_option maxHeartbeats 4000000 in
theorem uitems_any (v : Value) (xs ys : List Int) (hys : ys = xs.take 6) (w : World) (hL : Ints w v xs) :
    Calls Tryz.prog 19 #[v] w fun e w' => ∃ ao m c, e = .returned (.slice ao m c) ∧ Kp [] w w' ∧ m = ys.length ∧ ∃ l, RowsQ w' w.heap.size (.slice ao m c) l ∧ l.map (·.2) = ys.map itemX := by
  have HYs := hide hys
  clear hys
  obtain ⟨al, cl, rfl, hlm, hbd, hcell⟩ := hL
  obtain ⟨N, hN⟩ : ∃ N, N = xs.length := ⟨_, rfl⟩
  have HC : Hid (∀ i (h : i < N), ∃ (hi : i < xs.length), ∃ a, al = some a ∧ w.cell? (a.add i) = some (.int .i64 xs[i]) ∧ -9223372036854775808 ≤ xs[i] ∧ xs[i] ≤ 9223372036854775807) := fun i hi => by
    have hi2 : i < xs.length := by omega
    obtain ⟨a, e, hc⟩ := hcell i hi2
    exact ⟨hi2, a, e, hc, hbd _ (List.getElem_mem hi2)⟩
  rw [← hN] at hlm ⊢
  unfold maxLen at hlm
  have HN := hide hN
  clear hcell hbd hN
  go_enter Tryz.func19, Tryz.ntmps19
  go_wp2_with fail
  go_loopw [3, 4] (fun o i wr => ∃ k : Nat, k ≤ N ∧ k ≤ 6 ∧ i = .int .i64 k ∧ (∃ ao m c, o = .slice ao m c) ∧ Kp [] w wr ∧ ∃ l, RowsQ wr w.heap.size o l ∧ l.map (·.2) = (xs.take k).map itemX) (fun _ i _ => N - (intOf i).toNat)
  case atStart => exact ⟨0, by omega, by omega, rfl, ⟨_, _, _, rfl⟩, Kp.refl _ _, [], rowsQ_nil _ _, by simp⟩
  case round =>
    obtain ⟨k, hkN, hk6, rfl, ⟨ao, m, c, rfl⟩, K, l, P, hl⟩ := hrel
    have HK := hide K
    have HP := hide P
    have HL := hide hl
    have hll : l.length = k := by have h := congrArg List.length hl; rw [List.length_map, List.length_map, List.length_take] at h; have := HN.out; omega
    clear hl P
    by_cases hlt : k < N ∧ k < 6
    · obtain ⟨hl1, hl2⟩ := hlt
      have hl1' : (k : Int) < (N : Int) := by omega
      have hl2' : (k : Int) < 6 := by omega
      have hd1 : decide ((k : Int) < (N : Int)) = true := decide_eq_true hl1'
      have hd2 : decide ((k : Int) < 6) = true := decide_eq_true hl2'
      obtain ⟨hkx, a0, rfl, hc, hb0, hb1⟩ := HC.out k hl1
      have htk : xs.take (k + 1) = xs.take k ++ [xs[k]] := List.take_succ_eq_append_getElem hkx
      obtain ⟨x, hx⟩ : ∃ x, x = xs[k] := ⟨_, rfl⟩
      rw [← hx] at hc hb0 hb1 htk
      have HTK := hide htk
      have HIn := hide hl1'
      have HLd : Hid (∀ w', Kp [] wr.drew w' → w'.cell? (a0.add k) = some (.int .i64 x)) := fun w' k' => (K.trans ((kp_drew wr).trans k')).cell hc (by simp)
      have HQ4 : Hid (IntKind.i64.wrap (x.tdiv 4) = x.tdiv 4) := hide (by have := tdiv_le x 4 (by omega); simp [IntKind.wrap, IntKind.signed, IntKind.bits]; omega)
      have HQ40 : Hid (IntKind.i64.wrap (x.tdiv 40) = x.tdiv 40) := hide (by have := tdiv_le x 40 (by omega); simp [IntKind.wrap, IntKind.signed, IntKind.bits]; omega)
      clear hc htk hx hb0 hb1 K
      go_wp2_with fail
      refine region_grow_tail 17 Tryz.mixed [Is (.slice ao m c), Is (.slice (some a0) N cl), Is (.int .i64 (k : Int)), Is (.pointer (some (a0.add k))), Is (.int .i64 x), Is (.slice (some a0) N cl), Is (.int .i64 (k : Int)), Is (.pointer (some (a0.add k))), Is (.int .i64 x), Is (.int .i64 (x.tdiv 4)), Is (.slice (some a0) N cl), Is (.int .i64 (k : Int)), Is (.pointer (some (a0.add k))), Is (.int .i64 x), Is (.int .i64 (x.tdiv 40)), RO wr.drew.heap.size (itemX x), OneO wr.drew.heap.size (itemX x)] [[(3, none)], [(0, none)], [(4, none)], [(16, some 1), (17, some 2)], [(18, some 3)], [(0, none)], [(4, none)], [(20, some 5), (21, some 6)], [(22, some 7)], [(23, some 8)], [(0, none)], [(4, none)], [(25, some 10), (26, some 11)], [(27, some 12)], [(28, some 13)], [(19, some 4), (24, some 9), (29, some 14)], [(30, some 15)]] (by kernel_rfl) ?_ ?_ ?_
      all_goals try simp only [List.take_succ_cons, List.take_zero, List.drop_succ_cons, List.drop_zero]
      · simp only [List.mem_cons, List.not_mem_nil, or_false]
        intro R hR
        rcases hR with rfl | rfl | rfl | rfl | rfl | rfl | rfl | rfl | rfl | rfl | rfl | rfl | rfl | rfl | rfl | rfl | rfl <;> first | exact stable_is _ | exact stable_ro _ _ | exact stable_oneo _ _
      · refine steps_cons (fun a w hk hn => ?_) ?_
        · have h3 : a.eval (.tmp 3) = .slice ao m c := hn.1
          clear hn
          refine wants_plain rfl ?_
          exact grown_move (.tmp 3) rfl h3
        refine steps_cons (fun a w hk hn => ?_) ?_
        · have h0 : a.eval (.tmp 0) = .slice (some a0) N cl := hn.1
          clear hn
          refine wants_plain rfl ?_
          exact grown_move (.tmp 0) rfl h0
        refine steps_cons (fun a w hk hn => ?_) ?_
        · have h4 : a.eval (.tmp 4) = .int .i64 (k : Int) := hn.1
          clear hn
          refine wants_plain rfl ?_
          exact grown_move (.tmp 4) rfl h4
        refine steps_cons (fun a w hk hn => ?_) ?_
        · have h16 : a.eval (.tmp 16) = .slice (some a0) N cl := hn.1
          have h17 : a.eval (.tmp 17) = .int .i64 (k : Int) := hn.2.1
          clear hn
          refine wants_plain rfl ?_
          refine grown_run (v := .pointer (some (a0.add k))) ?_ (Kp.refl _ _) rfl
          obtain ⟨ρ, hρ, hc, hf, hg⟩ := eval_is a
          rw [hρ] at h16 h17 ⊢
          simp [go_sem, h16, h17, HIn.out]
        refine steps_cons (fun a w hk hn => ?_) ?_
        · have h18 : a.eval (.tmp 18) = .pointer (some (a0.add k)) := hn.1
          clear hn
          refine wants_plain rfl ?_
          refine grown_run (v := .int .i64 x) ?_ (Kp.refl _ _) rfl
          have hcell := HLd.out w hk
          obtain ⟨ρ, hρ, hc, hf, hg⟩ := eval_is a
          rw [hρ] at h18 ⊢
          simp [go_sem, h18, hcell]
        refine steps_cons (fun a w hk hn => ?_) ?_
        · have h0 : a.eval (.tmp 0) = .slice (some a0) N cl := hn.1
          clear hn
          refine wants_plain rfl ?_
          exact grown_move (.tmp 0) rfl h0
        refine steps_cons (fun a w hk hn => ?_) ?_
        · have h4 : a.eval (.tmp 4) = .int .i64 (k : Int) := hn.1
          clear hn
          refine wants_plain rfl ?_
          exact grown_move (.tmp 4) rfl h4
        refine steps_cons (fun a w hk hn => ?_) ?_
        · have h20 : a.eval (.tmp 20) = .slice (some a0) N cl := hn.1
          have h21 : a.eval (.tmp 21) = .int .i64 (k : Int) := hn.2.1
          clear hn
          refine wants_plain rfl ?_
          refine grown_run (v := .pointer (some (a0.add k))) ?_ (Kp.refl _ _) rfl
          obtain ⟨ρ, hρ, hc, hf, hg⟩ := eval_is a
          rw [hρ] at h20 h21 ⊢
          simp [go_sem, h20, h21, HIn.out]
        refine steps_cons (fun a w hk hn => ?_) ?_
        · have h22 : a.eval (.tmp 22) = .pointer (some (a0.add k)) := hn.1
          clear hn
          refine wants_plain rfl ?_
          refine grown_run (v := .int .i64 x) ?_ (Kp.refl _ _) rfl
          have hcell := HLd.out w hk
          obtain ⟨ρ, hρ, hc, hf, hg⟩ := eval_is a
          rw [hρ] at h22 ⊢
          simp [go_sem, h22, hcell]
        refine steps_cons (fun a w hk hn => ?_) ?_
        · have h23 : a.eval (.tmp 23) = .int .i64 x := hn.1
          clear hn
          refine wants_plain rfl ?_
          refine grown_run (v := .int .i64 (x.tdiv 4)) ?_ (Kp.refl _ _) rfl
          obtain ⟨ρ, hρ, hc, hf, hg⟩ := eval_is a
          rw [hρ] at h23 ⊢
          simp [go_sem, hc, h23, HQ4.out]
        refine steps_cons (fun a w hk hn => ?_) ?_
        · have h0 : a.eval (.tmp 0) = .slice (some a0) N cl := hn.1
          clear hn
          refine wants_plain rfl ?_
          exact grown_move (.tmp 0) rfl h0
        refine steps_cons (fun a w hk hn => ?_) ?_
        · have h4 : a.eval (.tmp 4) = .int .i64 (k : Int) := hn.1
          clear hn
          refine wants_plain rfl ?_
          exact grown_move (.tmp 4) rfl h4
        refine steps_cons (fun a w hk hn => ?_) ?_
        · have h25 : a.eval (.tmp 25) = .slice (some a0) N cl := hn.1
          have h26 : a.eval (.tmp 26) = .int .i64 (k : Int) := hn.2.1
          clear hn
          refine wants_plain rfl ?_
          refine grown_run (v := .pointer (some (a0.add k))) ?_ (Kp.refl _ _) rfl
          obtain ⟨ρ, hρ, hc, hf, hg⟩ := eval_is a
          rw [hρ] at h25 h26 ⊢
          simp [go_sem, h25, h26, HIn.out]
        refine steps_cons (fun a w hk hn => ?_) ?_
        · have h27 : a.eval (.tmp 27) = .pointer (some (a0.add k)) := hn.1
          clear hn
          refine wants_plain rfl ?_
          refine grown_run (v := .int .i64 x) ?_ (Kp.refl _ _) rfl
          have hcell := HLd.out w hk
          obtain ⟨ρ, hρ, hc, hf, hg⟩ := eval_is a
          rw [hρ] at h27 ⊢
          simp [go_sem, h27, hcell]
        refine steps_cons (fun a w hk hn => ?_) ?_
        · have h28 : a.eval (.tmp 28) = .int .i64 x := hn.1
          clear hn
          refine wants_plain rfl ?_
          refine grown_run (v := .int .i64 (x.tdiv 40)) ?_ (Kp.refl _ _) rfl
          obtain ⟨ρ, hρ, hc, hf, hg⟩ := eval_is a
          rw [hρ] at h28 ⊢
          simp [go_sem, hc, h28, HQ40.out]
        refine steps_cons (fun a w hk hn => ?_) ?_
        · have h19 : a.eval (.tmp 19) = .int .i64 x := hn.1
          have h24 : a.eval (.tmp 24) = .int .i64 (x.tdiv 4) := hn.2.1
          have h29 : a.eval (.tmp 29) = .int .i64 (x.tdiv 40) := hn.2.2.1
          clear hn
          refine wants_plain rfl ?_
          refine grown_call (f := 61) rfl Tryz.func61 (by kernel_rfl) (by kernel_rfl) ?_
          simp only [List.map_toArray, List.map_cons, List.map_nil, h19, h24, h29]
          refine (kitem_any x (x.tdiv 4) (x.tdiv 40) w).mono ?_
          rintro e w' ⟨ao', m', c', rfl, R, K⟩
          exact ⟨_, rfl, K, ⟨ao', m', c', rfl, R.sl, fun i hi => Nat.le_trans hk.size (R.own i hi)⟩⟩
        refine steps_cons (fun a w hk hn => ?_) ?_
        · have h30 : (RO wr.drew.heap.size (itemX x)) (a.eval (.tmp 30)) w := hn.1
          clear hn
          refine wants_plain rfl ?_
          exact grown_oneo (.tmp 30) rfl _ _ h30
        exact trivial
      intro W1 hkW1
      rintro _ rfl
      rintro _ rfl
      rintro _ rfl
      rintro _ rfl
      rintro _ rfl
      rintro _ rfl
      rintro _ rfl
      rintro _ rfl
      rintro _ rfl
      rintro _ rfl
      rintro _ rfl
      rintro _ rfl
      rintro _ rfl
      rintro _ rfl
      rintro _ rfl
      intro v30 h30
      intro v31 h31
      refine fin_nil ?_
      simp only [Act.put, List.set_cons_zero, List.set_cons_succ, List.setIfInBounds_toArray]
      have K1 := (kp_drew wr).trans hkW1
      have HP1 := hide (HP.out.kept K1 (by simp))
      have HK1 := hide (HK.out.trans K1)
      have HOn := hide h31
      have hs1 := K1.size
      clear h30 h31 hkW1 K1
      go_wp2_with (at_builtin; refine wpList_rowsO (B := wr.drew.heap.size) rfl (.tmp 15) (.tmp 31) rfl (.slice ao m c) l rfl HP1.out HK1.out.size (by omega) (itemX x) HOn.out (itemX_bs x) (fun i hi => HP.out.1.1.lt hi) HK.out.size ?_; intro a7 m7 c7 w7 u7 P7 S7)
      go_roundw
      case rel =>
        refine ⟨k + 1, by omega, by omega, by go_num, ⟨a7, m7, c7, rfl⟩, HK1.out.then S7.1 (fun i hi => .inr (HP1.out.1.1.own i (by simpa [Option.mem_toList] using hi))), _, P7, ?_⟩
        rw [HTK.out, List.map_append, List.map_append, HL.out]; rfl
      case measure => simp [intOf]; omega
    · have hmk : m = k := by have := HP.out.1.1.len; rw [List.length_map] at this; omega
      have e6 : xs.take 6 = xs.take k := by
        have := HN.out
        by_cases h : k = 6
        · rw [h]
        · rw [List.take_of_length_le (by omega), List.take_of_length_le (by omega)]
      have hlen : (xs.take 6).length = k := by rw [e6, List.length_take]; have := HN.out; omega
      have HE6 : Hid (ys = xs.take k) := hide (by rw [HYs.out]; exact e6)
      have HLen : Hid (k = ys.length) := hide (by rw [HYs.out]; exact hlen.symm)
      subst hmk
      clear K e6 hlen
      by_cases hl1 : m < N
      · have hl1' : (m : Int) < (N : Int) := by omega
        have hl2' : ¬ (m : Int) < 6 := by omega
        have hd1 : decide ((m : Int) < (N : Int)) = true := decide_eq_true hl1'
        have hd2 : decide ((m : Int) < 6) = false := decide_eq_false hl2'
        go_wp2_with fail
        go_ret
        exact ⟨ao, m, c, rfl, HK.out, HLen.out, l, HP.out, by rw [HL.out, HE6.out]⟩
      · have hl1' : ¬ (m : Int) < (N : Int) := by omega
        have hd1 : decide ((m : Int) < (N : Int)) = false := decide_eq_false hl1'
        go_wp2_with fail
        go_ret
        exact ⟨ao, m, c, rfl, HK.out, HLen.out, l, HP.out, by rw [HL.out, HE6.out]⟩
set_option maxRecDepth 100000 in
set_option maxHeartbeats 4000000 in
theorem ubatch_any (v : Value) (l : List (Value × List Int)) (w : World) (hL : Lists w v l) (hs : ∀ x ∈ l, x.2.length ≤ 65535) (hn : l.length ≤ 1000) :
    Calls Tryz.prog 14 #[v] w fun e w' => ∃ ao m c, e = .returned (.slice ao m c) ∧ Row w' w.heap.size (.slice ao m c) (batU (l.map (·.2))) ∧ Kp [] w w' := by
  obtain ⟨al, cl, rfl, -, hcell⟩ := hL
  have HC := hide hcell
  have HS := hide hs
  obtain ⟨N, hN⟩ : ∃ N, N = l.length := ⟨_, rfl⟩
  have hn32 : IntKind.u32.wrap (N : Int) = N := by simp [IntKind.wrap, IntKind.signed, IntKind.bits]; omega
  rw [← hN] at hn ⊢
  have HN := hide hN
  have HNum := hide (jnum_any (.slice none 0 0) [] (N : Int) w.heap.size w (World.ownsRow_nil _ _ _ _) (Nat.le_refl _) (by simp))
  clear hcell hs hN
  go_enter Tryz.func14, Tryz.ntmps14
  go_wp2_with fail
  refine HNum.out.mono ?_
  rintro ee w1 ⟨a1, m1, c1, rfl, R1, S1⟩
  rw [List.nil_append] at R1
  have HR1 := hide R1
  have HK1 : Hid (Kp [] w w1) := S1.1.mono (by simp [Value.ownBlock])
  clear HNum R1 S1
  go_wp2_with fail
  go_loopw [3, 4] (fun o i wr => ∃ k : Nat, k ≤ N ∧ i = .int .i64 k ∧ ∃ ao m c, o = .slice ao m c ∧ Row wr w.heap.size o (bq N ++ (((l.take k).map (·.2)).map itmU).flatten) ∧ Kp [] w wr) (fun _ i _ => N - (intOf i).toNat)
  case atStart => exact ⟨0, by omega, rfl, a1, m1, c1, rfl, by simpa using HR1.out, HK1.out⟩
  case round =>
    obtain ⟨k, hk, rfl, ao, m, c, rfl, R, K⟩ := hrel
    have HR := hide R
    have HK := hide K
    clear HR1 HK1
    by_cases hlt : k < N
    · have hlt' : (k : Int) < (N : Int) := by omega
      have hkl : k < l.length := by have := HN.out; omega
      obtain ⟨b, off, rfl, hc, hS, hB⟩ := HC.out k hkl
      have hcw := K.cell hc (by simp)
      have hlen := HS.out l[k] (List.getElem_mem hkl)
      have he : (((l.take (k + 1)).map (·.2)).map itmU).flatten = (((l.take k).map (·.2)).map itmU).flatten ++ itmU l[k].2 := by
        rw [List.take_succ_eq_append_getElem hkl, List.map_append, List.map_append]; simp
      have hll : ((((l.take k).map (·.2)).map itmU).flatten).length ≤ 100000000 := by
        have h1 := flatU_len ((l.take k).map (·.2)) 65535 (fun r hr => by
          obtain ⟨x, hx, rfl⟩ := List.mem_map.1 hr
          exact HS.out x (List.mem_of_mem_take hx))
        rw [List.length_map, List.length_take] at h1
        have : min k l.length * (2 + 65535) ≤ 1000 * (2 + 65535) := Nat.mul_le_mul_right _ (by omega)
        omega
      obtain ⟨x, hx⟩ : ∃ x, x = l[k] := ⟨_, rfl⟩
      rw [← hx] at hc hS hB hcw hlen he
      have hown := fun i hi => R.own i hi
      have HBy := hide (refbytes_any (.slice ao m c) _ x.1 x.2 w.heap.size wr R K.size (by rw [List.length_append, bq_len]; omega) (hS.kept K (by simp)) (fun w1 k1 => hS.kept (K.then k1 (fun i hi => .inr (hown i (by simpa [Option.mem_toList] using hi)))) (by simp)))
      obtain ⟨ax, cx, hxs, -⟩ := id hS
      obtain ⟨nx, hnx⟩ : ∃ n, n = x.2.length := ⟨_, rfl⟩
      rw [← hnx] at hxs
      rw [hxs] at hcw HBy
      have HE := hide he
      clear hc hS hB he hx hlen R K hxs hnx hll hown
      go_wp2_with fail
      refine HBy.out.mono ?_
      rintro ee w2 ⟨a2, m2, c2, rfl, R2, S2⟩
      have HR2 := hide R2
      have HK2 := hide (S2.kpn HK.out HR.out)
      clear HBy R2 S2 hcw
      go_wp2_with fail
      go_roundw
      case rel => exact ⟨k + 1, by omega, by go_num, a2, m2, c2, rfl, by have := HR2.out; rw [HE.out]; show Row w2 w.heap.size (.slice a2 m2 c2) (bq N ++ ((((l.take k).map (·.2)).map itmU).flatten ++ (be2 x.2.length ++ x.2))); simpa only [List.append_assoc] using this, HK2.out⟩
      case measure => simp [intOf]; omega
    · have hkn : k = N := by omega
      have hnlt : ¬ (k : Int) < (N : Int) := by omega
      have HRn : Hid (Row wr w.heap.size (.slice ao m c) (batU (l.map (·.2)))) := by
        have := HR.out
        rw [List.take_of_length_le (by have := HN.out; omega)] at this
        unfold batU
        rw [List.length_map, ← HN.out]
        exact this
      clear R K hkn HR
      go_wp2_with fail
      go_ret
      exact ⟨ao, m, c, rfl, HRn.out, HK.out⟩
end Go.Proofs.YtillhpgdlmeajaaGreatDoor
