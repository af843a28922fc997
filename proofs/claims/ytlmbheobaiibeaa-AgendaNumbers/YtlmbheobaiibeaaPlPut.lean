/-
  The statements' own put.
-/
import Derived.Test.YtlmbheobaiibeaaPlRows
import Derived.Deep.RegionLaw
namespace Go.Proofs.Ytlmbheobaiibeaa
open Go.RowKit Go.Sort Go.Lib

section
variable {w : World} {ao : Option Addr} {n c : Nat} {l : List (Int × Int)}
theorem RefE.at (h : RefE w (.slice ao n c) l) (i : Nat) (hi : i < l.length) : ∃ b off, ao = some ⟨b, off, none⟩ ∧ w.cell? ⟨b, off + i * 2, none⟩ = some (.int .i64 (l.getD i (0, 0)).1) ∧ w.cell? ⟨b, off + i * 2 + 1, none⟩ = some (.int .i64 (l.getD i (0, 0)).2) := by
  obtain ⟨ao', c', he, h1, h2, h3, h4⟩ := h
  injection he with e1 e2 e3
  subst e1 e3
  cases ao with
  | none => have := h3 rfl; omega
  | some a =>
    obtain ⟨b, off, spot⟩ := a
    obtain ⟨hs, hc⟩ := h4 _ rfl
    simp only at hs
    subst hs
    have g0 := flat2_get l i 0 (by omega) hi
    have g1 := flat2_get l i 1 (by omega) hi
    refine ⟨b, off, rfl, ?_, ?_⟩
    · have := hc (i * 2 + 0) _ g0
      rw [Addr.add_lit] at this
      simpa [hi] using this
    · have := hc (i * 2 + 1) _ g1
      rw [Addr.add_lit] at this
      simpa [hi, Nat.add_assoc] using this
theorem flat2_take (l : List (Int × Int)) (k : Nat) : flat2 (l.take k) = (flat2 l).take (k * 2) := by
  induction l generalizing k with
  | nil => simp [flat2]
  | cons e l ih =>
    cases k with
    | zero => simp [flat2]
    | succ k =>
      have := ih k
      unfold flat2 at *
      rw [List.take_succ_cons, List.flatMap_cons, List.flatMap_cons, this, show (k + 1) * 2 = k * 2 + 2 by omega]
      simp [cells2]
theorem flat2_drop (l : List (Int × Int)) (k : Nat) : flat2 (l.drop k) = (flat2 l).drop (k * 2) := by
  induction l generalizing k with
  | nil => simp [flat2]
  | cons e l ih =>
    cases k with
    | zero => simp [flat2]
    | succ k =>
      have := ih k
      unfold flat2 at *
      rw [List.drop_succ_cons, List.flatMap_cons, this, show (k + 1) * 2 = k * 2 + 2 by omega]
      simp [cells2]
theorem RefE.len (h : RefE w (.slice ao n c) l) : n = l.length ∧ n ≤ c ∧ (ao = none → c = 0) := by
  obtain ⟨ao', c', he, h1, h2, h3, h4⟩ := h
  injection he with e1 e2 e3
  subst e1 e2 e3
  exact ⟨rfl, h1, h3⟩
theorem RefE.take (h : RefE w (.slice ao n c) l) (k : Nat) (hk : k ≤ n) : RefE w (.slice ao k c) (l.take k) := by
  obtain ⟨ao', c', he, h1, h2, h3, h4⟩ := h
  injection he with e1 e2 e3
  subst e1 e2 e3
  refine ⟨ao, c, by rw [List.length_take]; congr 1; omega, by rw [List.length_take]; omega, h2, h3, fun a ha => ⟨(h4 a ha).1, fun j u hu => (h4 a ha).2 j u ?_⟩⟩
  rw [flat2_take, List.getElem?_take] at hu
  split at hu
  · exact hu
  · cases hu
theorem RefE.drop (h : RefE w (.slice ao n c) l) (k : Nat) (hk : k ≤ n) : RefE w (.slice (if c = k then ao else ao.map (·.add (k * 2))) (n - k) (c - k)) (l.drop k) := by
  obtain ⟨ao', c', he, h1, h2, h3, h4⟩ := h
  injection he with e1 e2 e3
  subst e1 e2 e3
  refine ⟨_, c - k, by rw [List.length_drop], by rw [List.length_drop]; omega, by omega, ?_, ?_⟩
  · intro ha
    split at ha
    · omega
    · cases ao with
      | none => have := h3 rfl; omega
      | some a => simp at ha
  · intro a ha
    split at ha
    · refine ⟨(h4 a ha).1, fun j u hu => ?_⟩
      rw [List.drop_eq_nil_of_le (by omega)] at hu
      simp [flat2] at hu
    · cases ao with
      | none => simp at ha
      | some a' =>
        simp at ha
        subst ha
        obtain ⟨b, off, spot⟩ := a'
        obtain ⟨hs, hc⟩ := h4 _ rfl
        simp only at hs
        subst hs
        refine ⟨by rw [Addr.add_lit], fun j u hu => ?_⟩
        rw [flat2_drop, List.getElem?_drop] at hu
        have := hc _ _ hu
        rw [Addr.add_lit] at this
        rw [Addr.add_lit, Addr.add_lit]
        rw [Nat.add_assoc]
        exact this
theorem run_head (k : Nat) (w : World) (h1 : k ≤ n) (h2 : n ≤ c) (h3 : ao = none → c = 0) : (Instr.sliceAt 42 (.slice ao n c) none (some (.int .i64 k)) none).run Try.prog w = .ok (.slice ao k c) w := by
  have e3 : (k : Int) ≤ (c : Int) := by omega
  cases ao with
  | none =>
    have := h3 rfl
    subst this
    obtain rfl : k = 0 := by omega
    simp [go_sem]
  | some a => simp [go_sem, e3]
theorem run_rest (k : Nat) (w : World) (h1 : k ≤ n) (h2 : n ≤ c) (h3 : ao = none → c = 0) : (Instr.sliceAt 42 (.slice ao n c) (some (.int .i64 k)) none none).run Try.prog w = .ok (.slice (if c = k then ao else ao.map (·.add (k * 2))) (n - k) (c - k)) w := by
  have e2 : (k : Int) ≤ (n : Int) := by omega
  by_cases hc : c = k
  · rw [if_pos hc]
    subst hc
    simp [go_sem, e2]
  · rw [if_neg hc]
    cases ao with
    | none => have := h3 rfl; omega
    | some a => simp [go_sem, e2, hc]
end

theorem box2_cells (w : World) (x y : Int) : (w.alloc (.cells #[.int .i64 x, .int .i64 y] 45)).cell? ⟨w.heap.size, 0, none⟩ = some (.int .i64 x) ∧ (w.alloc (.cells #[.int .i64 x, .int .i64 y] 45)).cell? ⟨w.heap.size, 1, none⟩ = some (.int .i64 y) := by
  refine ⟨?_, ?_⟩ <;> (rw [World.cell?_alloc_at _ _ _ _ rfl]; rfl)

/-- A row of the call's own, new since w. -/
def Mk (w w1 : World) (v : Value) (l : List (Int × Int)) : Prop := RowE w1 v l ∧ Kp [] w w1 ∧ ∀ i, v.ownBlock = some i → w.heap.size ≤ i
section
variable {w w0 w1 w2 : World} {v v2 : Value} {l l2 l' : List (Int × Int)}
theorem Mk.made (w : World) : Mk w (w.alloc (.cells #[] 45)) (.slice (some ⟨w.heap.size, 0, none⟩) 0 0) [] :=
  ⟨World.ownsRow_made w #[] 0 (Nat.zero_le _) (by simp [maxLen]) (by simp), (Kp.refl [] w).alloc _, fun i hi => by simp [Value.ownBlock] at hi; omega⟩
theorem Mk.drew (h : Mk w w1 v l) : Mk w w1.drew v l := ⟨World.ownsRow.drew h.1, h.2.1.drew, h.2.2⟩
theorem Mk.alloc (h : Mk w w1 v l) (o : Obj) : Mk w (w1.alloc o) v l := ⟨h.1.kept ((Kp.refl [] w1).alloc o) (fun _ _ => by simp), h.2.1.alloc o, h.2.2⟩
theorem Mk.base (h : Mk w w1 v l) (k : Kp [] w0 w) : Mk w0 w1 v l := ⟨h.1, k.trans h.2.1, fun i hi => Nat.le_trans k.size (h.2.2 i hi)⟩
theorem Mk.none (w : World) : Mk w w (.slice none 0 0) [] := ⟨⟨rfl, .inl ⟨rfl, rfl⟩⟩, Kp.refl _ _, fun i hi => by cases hi⟩
theorem Mk.step (h : Mk w w1 v l) (r : RowE w2 v2 l2) (s : RSt w1 v w2 v2) : Mk w w2 v2 l2 :=
  ⟨r, h.2.1.then s.1 (fun i hi => .inr (h.2.2 i (by simpa using hi))), fun i hi => by rcases s.2 i hi with e | e; exact h.2.2 i e; exact Nat.le_trans h.2.1.size e⟩
theorem lit_ref (w : World) (x y : Int) : RefE (w.alloc (.cells #[.int .i64 x, .int .i64 y] 45)) (.slice (some ⟨w.heap.size, 0, none⟩) 1 1) [(x, y)] := by
  refine ⟨_, 1, rfl, Nat.le_refl _, by simp [maxLen], (fun h => by cases h), fun a ha => ?_⟩
  cases ha
  refine ⟨rfl, fun j u hj => ?_⟩
  obtain ⟨g0, g1⟩ := box2_cells w x y
  rw [Addr.add_lit, Nat.zero_add]
  match j, hj with
  | 0, hj => simp [flat2, cells2] at hj; rw [← hj]; exact g0
  | 1, hj => simp [flat2, cells2] at hj; rw [← hj]; exact g1
  | j + 2, hj => simp [flat2, cells2] at hj
theorem lit_kept {b g : Nat} (h : RefE w0 (.slice (some ⟨b, 0, none⟩) 1 1) l) (k : Kp (Value.slice (some ⟨g, 0, none⟩) 0 0).ownBlock.toList w0 w1) (hne : b ≠ g) : RefE w1 (.slice (some ⟨b, 0, none⟩) 1 1) l :=
  h.kept k (fun i hi => by cases hi; simpa [Value.ownBlock] using hne)
theorem step_mk {ops : Array Oper} {o : Oper} {a : Act} {K : Act → World → Prop} {Q : Exit → Act → World → Prop} {E : Prop} (hgd : o.guard = none) (s x : Operand)
    (ho : o.op = .call { callee := .builtin .append, args := #[s, x], argTypes := #[42, 42] }) (v : Value) (l : List (Int × Int)) (hs : a.eval s = v) (hr : Mk w0 w v l) (vx : Value) (l' : List (Int × Int)) (hx : a.eval x = vx) (hS : RefE w vx l') (hb : l.length + l'.length ≤ 1000000)
    (h : ∀ ao m c w', Mk w0 w' (.slice ao m c) (l ++ l') → Kp v.ownBlock.toList w w' → K (a.put o.dst (.slice ao m c)) w') :
    if Region.wanted o (yielded ops a.tmps) = true then Oper.wp Try.prog o a w K Q else E :=
  step_app hgd s x ho v l hs hr.1 vx l' hx hS hb fun ao m c w' r st => h ao m c w' (hr.step r st) st.1
end

set_option maxHeartbeats 4000000 in
set_option maxRecDepth 100000 in
theorem put_any (vm : Value) (l : List (Int × Int)) (t x : Int) (w : World) (h : RefE w vm l) (hl : l.length ≤ 1000) :
    Calls Try.prog 20 #[vm, .agg #[.int .i64 t, .int .i64 x]] w fun e w' => ∃ v', e = .returned v' ∧ RowE w' v' (l.take (plc l t l.length) ++ [(t, x)] ++ l.drop (plc l t l.length)) ∧ Kp [] w w' ∧ ∀ i, v'.ownBlock = some i → w.heap.size ≤ i := by
  obtain ⟨ao, c, rfl, h1, h2, h3, h4⟩ := id h
  obtain ⟨n, hn⟩ : ∃ n, n = l.length := ⟨_, rfl⟩
  rw [← hn] at h1 h hl ⊢
  have K0 : Kp [] w (w.alloc (.cells #[.int .i64 t, .int .i64 x] 45)) := (Kp.refl [] w).alloc _
  have R0 := hide (h.keptN K0)
  obtain ⟨b0, b1⟩ := box2_cells w t x
  have HN := hide hn
  have H3 := hide h3
  clear h h2 h3 h4 hn
  go_enter Try.func20, Try.ntmps20
  go_wp2_with fail
  obtain ⟨W, hW⟩ : ∃ W, W = w.alloc (.cells #[.int .i64 t, .int .i64 x] 45) := ⟨_, rfl⟩
  obtain ⟨B, hB⟩ : ∃ B, B = w.heap.size := ⟨_, rfl⟩
  have hBW : B < W.heap.size := by rw [hW, hB]; simp
  rw [← hW] at K0 R0 b0 b1 ⊢
  rw [← hB] at b0 b1 ⊢
  have HBB := hide hB
  clear hW hB
  go_loopg [5] n (fun kx s5 wr => ∃ k : Nat, s5 = .int .i64 k ∧ k ≤ n ∧ k ≤ kx ∧ Hid (Kp [] W wr) ∧ Hid (plc l t k = plc l t n))
  case atStart => exact ⟨n, rfl, Nat.le_refl _, Nat.le_refl _, Kp.refl _ _, rfl⟩
  case round =>
    obtain ⟨k, rfl, hk, hkx, HK, HP⟩ := hrel
    have c0 := HK.out.cell b0 (by simp)
    have c1 := HK.out.cell b1 (by simp)
    by_cases hk0 : 0 < k
    · have hkz : (0 : Int) < (k : Int) := by omega
      obtain ⟨j, rfl⟩ : ∃ j, k = j + 1 := ⟨k - 1, by omega⟩
      obtain ⟨bb, off, rfl, d0, d1⟩ := (R0.out.keptN HK.out).at j (by rw [← HN.out]; omega)
      obtain ⟨y, hy⟩ : ∃ y, y = (l.getD j (0, 0)).1 := ⟨_, rfl⟩
      rw [← hy] at d0
      have HY := hide hy
      have hjn : (j : Int) < (n : Int) := by omega
      have hj1 : (((j + 1 : Nat) : Int) - 1) = (j : Int) := by omega
      clear hy d1
      by_cases hlt : t < y
      · have ht : decide (t < y) = true := decide_eq_true hlt
        go_wp2_with fail
        refine region_read Try.mixed (by kernel_rfl) ?_
        repeat (first | go_big_quiet_skip | (go_big_quiet_want; go_big_quiet_op; go_big_quiet_on))
        refine wpQuiet_nil ?_
        go_wp2_with fail
        go_roundg j
        case measure => omega
        case rel => exact ⟨j, by first | rfl | go_num, by omega, Nat.le_refl _, HK.out.drew, by show _ = _; rw [← HP.out, plc, if_pos (by rw [← HY.out]; exact hlt)]⟩
      · have ht : decide (t < y) = false := decide_eq_false hlt
        have HPK : Hid (plc l t n = j + 1) := by show _ = _; rw [← HP.out, plc, if_neg (by rw [← HY.out]; exact hlt)]
        go_wp2_with fail
        refine region_read Try.mixed (by kernel_rfl) ?_
        repeat (first | go_big_quiet_skip | (go_big_quiet_want; go_big_quiet_op; go_big_quiet_on))
        refine wpQuiet_nil ?_
        go_wp2_with fail
        obtain ⟨k, hk2⟩ : ∃ k, k = j + 1 := ⟨_, rfl⟩
        rw [← hk2] at HPK
        rw [show ((j : Int) + 1) = ((k : Nat) : Int) by omega]
        have hkn : k ≤ n := by omega
        clear hk2 hj1 hjn hkz hk0 HP d0 HY ht hlt hk hkx
        have RK := (R0.out.keptN HK.out).take k hkn
        have RD := (R0.out.keptN HK.out).drop k hkn
        have run1 := fun w => run_head (ao := some ⟨bb, off, none⟩) (n := n) (c := c) k w hkn h1 (fun h => by cases h)
        have run2 := fun w => run_rest (ao := some ⟨bb, off, none⟩) (n := n) (c := c) k w hkn h1 (fun h => by cases h)
        obtain ⟨V1, hV1⟩ : ∃ V1, V1 = Value.slice (some ⟨bb, off, none⟩) k c := ⟨_, rfl⟩
        obtain ⟨V2, hV2⟩ : ∃ V2, V2 = Value.slice (if c = k then some ⟨bb, off, none⟩ else ((some ⟨bb, off, none⟩) : Option Addr).map (·.add (k * 2))) (n - k) (c - k) := ⟨_, rfl⟩
        rw [← hV1] at RK run1
        rw [← hV2] at RD run2
        have HRK := hide RK
        have HRD := hide RD
        clear RK RD hV1 hV2
        have hlk : (l.take k).length ≤ 1000 := by simp; omega
        have hld : (l.drop k).length ≤ 1000 := by have := HN.out; simp; omega
        have FIN : Hid (∀ w3 v, RowE w3 v (l.take k ++ [(t, x)] ++ l.drop k) → RowE w3 v (l.take (plc l t n) ++ [(t, x)] ++ l.drop (plc l t n))) := fun w3 v r => by rw [HPK.out]; exact r
        have KW := hide (K0.trans HK.out)
        have hsz : B ≤ wr.heap.size := by have := HK.out.size; omega
        have MKA := hide (Mk.made wr)
        have KWA := hide ((Kp.refl [] wr).alloc (.cells #[] 45))
        have MKB := hide (((Mk.made (wr.alloc (.cells #[.int .i64 t, .int .i64 x] 45))).base ((Kp.refl [] wr).alloc _)))
        have LB0 := hide (lit_ref wr t x)
        have LB1 := hide (lit_ref (wr.alloc (.cells #[] 45)) t x)
        have hse : (wr.alloc (.cells #[] 45)).heap.size = wr.heap.size + 1 := by simp
        have hsf : (wr.alloc (.cells #[.int .i64 t, .int .i64 x] 45)).heap.size = wr.heap.size + 1 := by simp
        rw [hsf] at MKB
        rw [hse] at LB1
        clear hse hsf
        have ca0 := KWA.out.cell c0 (by simp)
        have ca1 := KWA.out.cell c1 (by simp)
        go_region_law (first
          | (refine step_mk (w0 := wr) (by rfl) (.tmp 23) (.tmp 26) (by rfl) _ [] (by rfl) (by exact MKA.out.drew.drew) V1 (l.take k) (by rfl) (by exact HRK.out.keptN KWA.out.drew.drew) (by simp; omega) ?_
             intro ao1 m1 q1 w1 M1 k1
             rw [List.nil_append] at M1
             have e0 := M1.2.1.cell c0 (by simp)
             have e1 := M1.2.1.cell c1 (by simp)
             have LIT := hide (lit_ref w1 t x)
             replace M1 := hide (M1.alloc (.cells #[.int .i64 t, .int .i64 x] 45))
             clear k1)
          | (refine step_mk (w0 := wr) (by rfl) (.tmp 23) (.tmp 26) (by rfl) _ [] (by rfl) (by exact (MKA.out.alloc _).drew.drew) V1 (l.take k) (by rfl) (by exact HRK.out.keptN (KWA.out.alloc _).drew.drew) (by simp; omega) ?_
             intro ao1 m1 q1 w1 M1 k1
             rw [List.nil_append] at M1
             have LIT := hide (lit_kept (LB1.out.keptN (Kp.refl [] _).drew.drew) k1 (by omega))
             replace M1 := hide M1
             clear k1)
          | (refine step_mk (w0 := wr) (by rfl) (.tmp 23) (.tmp 26) (by rfl) _ [] (by rfl) (by exact MKB.out.drew.drew) V1 (l.take k) (by rfl) (by exact HRK.out.keptN (((Kp.refl [] wr).alloc _).alloc _).drew.drew) (by simp; omega) ?_
             intro ao1 m1 q1 w1 M1 k1
             rw [List.nil_append] at M1
             have LIT := hide (lit_kept (LB0.out.keptN (((Kp.refl [] _).alloc _).drew.drew)) k1 (by omega))
             replace M1 := hide M1
             clear k1)
          | (refine step_mk (w0 := wr) (by rfl) (.tmp 27) (.tmp 29) (by rfl) _ (l.take k) (by rfl) (by exact M1.out) _ [(t, x)] (by rfl) (by exact LIT.out) (by simp; omega) ?_
             intro ao2 m2 q2 w2 M2 k2
             clear k2
             replace M2 := hide M2)
          | (refine step_mk (w0 := wr) (by rfl) (.tmp 30) (.tmp 33) (by rfl) _ (l.take k ++ [(t, x)]) (by rfl) (by exact M2.out) V2 (l.drop k) (by rfl) (by exact HRD.out.keptN M2.out.2.1) (by have := HN.out; simp; omega) ?_
             intro ao3 m3 q3 w3 M3 k3
             clear k3
             replace M3 := hide M3))
        all_goals
          go_wp2_with fail
          go_ret
          exact ⟨_, rfl, FIN.out _ _ M3.out.1, KW.out.trans M3.out.2.1, fun i hi => Nat.le_trans KW.out.size (M3.out.2.2 i hi)⟩
    · have hkz : ¬ (0 : Int) < (k : Int) := by omega
      have hdz : decide ((0 : Int) < (k : Int)) = false := decide_eq_false hkz
      have HPK : Hid (plc l t n = k) := by
        obtain rfl : k = 0 := by omega
        exact HP.out.symm
      go_wp2_with fail
      refine region_read Try.mixed (by kernel_rfl) ?_
      repeat (first | go_big_quiet_skip | (go_big_quiet_want; go_big_quiet_op; go_big_quiet_on))
      refine wpQuiet_nil ?_
      go_wp2_with fail
      have hkn : k ≤ n := hk
      have RK := (R0.out.keptN HK.out).take k hkn
      have RD := (R0.out.keptN HK.out).drop k hkn
      have run1 := fun w => run_head (ao := ao) (n := n) (c := c) k w hkn h1 H3.out
      have run2 := fun w => run_rest (ao := ao) (n := n) (c := c) k w hkn h1 H3.out
      obtain ⟨V1, hV1⟩ : ∃ V1, V1 = Value.slice (ao) k c := ⟨_, rfl⟩
      obtain ⟨V2, hV2⟩ : ∃ V2, V2 = Value.slice (if c = k then ao else ((ao) : Option Addr).map (·.add (k * 2))) (n - k) (c - k) := ⟨_, rfl⟩
      rw [← hV1] at RK run1
      rw [← hV2] at RD run2
      have HRK := hide RK
      have HRD := hide RD
      clear RK RD hV1 hV2
      have hlk : (l.take k).length ≤ 1000 := by simp; omega
      have hld : (l.drop k).length ≤ 1000 := by have := HN.out; simp; omega
      have FIN : Hid (∀ w3 v, RowE w3 v (l.take k ++ [(t, x)] ++ l.drop k) → RowE w3 v (l.take (plc l t n) ++ [(t, x)] ++ l.drop (plc l t n))) := fun w3 v r => by rw [HPK.out]; exact r
      have KW := hide (K0.trans HK.out)
      have hsz : B ≤ wr.heap.size := by have := HK.out.size; omega
      have MKA := hide (Mk.made wr)
      have KWA := hide ((Kp.refl [] wr).alloc (.cells #[] 45))
      have MKB := hide (((Mk.made (wr.alloc (.cells #[.int .i64 t, .int .i64 x] 45))).base ((Kp.refl [] wr).alloc _)))
      have LB0 := hide (lit_ref wr t x)
      have LB1 := hide (lit_ref (wr.alloc (.cells #[] 45)) t x)
      have hse : (wr.alloc (.cells #[] 45)).heap.size = wr.heap.size + 1 := by simp
      have hsf : (wr.alloc (.cells #[.int .i64 t, .int .i64 x] 45)).heap.size = wr.heap.size + 1 := by simp
      rw [hsf] at MKB
      rw [hse] at LB1
      clear hse hsf
      have ca0 := KWA.out.cell c0 (by simp)
      have ca1 := KWA.out.cell c1 (by simp)
      go_region_law (first
        | (refine step_mk (w0 := wr) (by rfl) (.tmp 23) (.tmp 26) (by rfl) _ [] (by rfl) (by exact MKA.out.drew.drew) V1 (l.take k) (by rfl) (by exact HRK.out.keptN KWA.out.drew.drew) (by simp; omega) ?_
           intro ao1 m1 q1 w1 M1 k1
           rw [List.nil_append] at M1
           have e0 := M1.2.1.cell c0 (by simp)
           have e1 := M1.2.1.cell c1 (by simp)
           have LIT := hide (lit_ref w1 t x)
           replace M1 := hide (M1.alloc (.cells #[.int .i64 t, .int .i64 x] 45))
           clear k1)
        | (refine step_mk (w0 := wr) (by rfl) (.tmp 23) (.tmp 26) (by rfl) _ [] (by rfl) (by exact (MKA.out.alloc _).drew.drew) V1 (l.take k) (by rfl) (by exact HRK.out.keptN (KWA.out.alloc _).drew.drew) (by simp; omega) ?_
           intro ao1 m1 q1 w1 M1 k1
           rw [List.nil_append] at M1
           have LIT := hide (lit_kept (LB1.out.keptN (Kp.refl [] _).drew.drew) k1 (by omega))
           replace M1 := hide M1
           clear k1)
        | (refine step_mk (w0 := wr) (by rfl) (.tmp 23) (.tmp 26) (by rfl) _ [] (by rfl) (by exact MKB.out.drew.drew) V1 (l.take k) (by rfl) (by exact HRK.out.keptN (((Kp.refl [] wr).alloc _).alloc _).drew.drew) (by simp; omega) ?_
           intro ao1 m1 q1 w1 M1 k1
           rw [List.nil_append] at M1
           have LIT := hide (lit_kept (LB0.out.keptN (((Kp.refl [] _).alloc _).drew.drew)) k1 (by omega))
           replace M1 := hide M1
           clear k1)
        | (refine step_mk (w0 := wr) (by rfl) (.tmp 27) (.tmp 29) (by rfl) _ (l.take k) (by rfl) (by exact M1.out) _ [(t, x)] (by rfl) (by exact LIT.out) (by simp; omega) ?_
           intro ao2 m2 q2 w2 M2 k2
           clear k2
           replace M2 := hide M2)
        | (refine step_mk (w0 := wr) (by rfl) (.tmp 30) (.tmp 33) (by rfl) _ (l.take k ++ [(t, x)]) (by rfl) (by exact M2.out) V2 (l.drop k) (by rfl) (by exact HRD.out.keptN M2.out.2.1) (by have := HN.out; simp; omega) ?_
           intro ao3 m3 q3 w3 M3 k3
           clear k3
           replace M3 := hide M3))
      all_goals
        go_wp2_with fail
        go_ret
        exact ⟨_, rfl, FIN.out _ _ M3.out.1, KW.out.trans M3.out.2.1, fun i hi => Nat.le_trans KW.out.size (M3.out.2.2 i hi)⟩
end Go.Proofs.Ytlmbheobaiibeaa
