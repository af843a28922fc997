/-
  The contract of the reference ledger's Read.
-/
import Derived.Deep.RegionHeld3
import Derived.Test.YtillhpgdlmeajaaGreatDoorQB1
import Derived.Test.YtillhpgdlmeajaaGreatDoorQB3
import Derived.Test.YtillhpgdlmeajaaGreatDoorQB2
import Derived.Test.YtillhpgdlmeajaaGreatDoorQLedgerOpens1
import Derived.Test.YtillhpgdlmeajaaGreatDoorQB4
import Derived.Test.YtillhpgdlmeajaaGreatDoorQB5
import Derived.Test.YtillhpgdlmeajaaGreatDoorQB6
import Derived.Test.YtillhpgdlmeajaaGreatDoorQB7
namespace Go.Proofs.YtillhpgdlmeajaaGreatDoor
open Go.RowKit
open Go.Proofs
set_option linter.unusedVariables false
theorem red_of {rs m : List (List Int)} {k : Nat} (h : gatU [] (rs.take k) = some m) (hm : 256 < m.length) : redU rs = none := by
  unfold redU
  have e : gatU [] rs = (gatU [] (rs.take k)).bind (fun x => gatU x (rs.drop k)) := by rw [← gatU_append, List.take_append_drop]
  rw [e, h]
  simp only [Option.bind_some]
  cases hg : gatU m (rs.drop k) with
  | none => rfl
  | some z =>
    obtain ⟨t, ht⟩ := gatU_pre hg
    simp only
    rw [if_neg]
    rw [ht, List.length_append]
    omega
theorem red_none_at {rs its : List (List Int)} {k : Nat} (hk : k < rs.length) (hg : gatU [] (rs.take k) = some its) (hu : unlU rs[k] = none) : redU rs = none := by
  unfold redU
  have : gatU [] (rs.take (k + 1)) = none := by rw [gatU_succ hk hg, hu]
  rw [gatU_none this]
theorem red_big {rs its xs : List (List Int)} {k : Nat} (hk : k < rs.length) (hg : gatU [] (rs.take k) = some its) (hu : unlU rs[k] = some xs) (hx : 256 < xs.length) : redU rs = none := by
  by_cases hn : (its ++ xs).Nodup
  · refine red_of (k := k + 1) (m := its ++ xs) ?_ (by rw [List.length_append]; omega)
    rw [gatU_succ hk hg, hu]
    simp only
    rw [if_pos hn]
  · unfold redU
    have : gatU [] (rs.take (k + 1)) = none := by
      rw [gatU_succ hk hg, hu]
      simp only
      rw [if_neg hn]
    rw [gatU_none this]
theorem red_dup {rs its ys : List (List Int)} {x : List Int} {k : Nat} (hk : k < rs.length) (hg : gatU [] (rs.take k) = some its) {o : Option (List (List Int))} (hu : unlU rs[k] = o.map ((ys ++ [x]) ++ ·)) (hx : x ∈ its ++ ys) : redU rs = none := by
  cases o with
  | none => exact red_none_at hk hg hu
  | some zs =>
    unfold redU
    have : gatU [] (rs.take (k + 1)) = none := by
      rw [gatU_succ hk hg, hu]
      simp only [Option.map_some]
      rw [if_neg]
      intro hn
      have e : its ++ (ys ++ [x] ++ zs) = (its ++ ys) ++ ([x] ++ zs) := by simp
      rw [e] at hn
      exact (List.nodup_append.1 hn).2.2 x hx x (by simp) rfl
    rw [gatU_none this]
theorem itsU_go {n : Nat} {b : List Int} (hb : (tkb false b 65535).2.1 = false) : itsU (n + 1) b = (itsU n (tkb false b 65535).2.2).map ((tkb false b 65535).1 :: ·) := by
  conv => lhs; unfold itsU
  rw [hb]
  rfl
theorem itsU_bad {n : Nat} {b : List Int} (hb : (tkb false b 65535).2.1 = true) : itsU (n + 1) b = none := by
  unfold itsU
  rw [hb]
  rfl
theorem itsU_len : ∀ (n : Nat) (b : List Int) (xs : List (List Int)), itsU n b = some xs → xs.length = n := by
  intro n
  induction n with
  | zero =>
    intro b xs h
    unfold itsU at h
    split at h
    · injection h with h; rw [← h]; rfl
    · cases h
  | succ n ih =>
    intro b xs h
    unfold itsU at h
    split at h
    · cases h
    · obtain ⟨ys, h1, h2⟩ := Option.map_eq_some_iff.1 h
      rw [← h2, List.length_cons, ih _ _ h1]
theorem unlU_at {x : List Int} (h4 : 4 ≤ x.length) (n : Nat) (hn : (val (x.take 4)).toNat = n) (h0 : n ≠ 0) : unlU x = itsU n (x.drop 4) := by
  unfold unlU
  rw [if_neg (by omega), hn, if_neg h0]
theorem unlU_zero {x : List Int} (h : (val (x.take 4)).toNat = 0) : unlU x = none := by
  unfold unlU
  rw [h]
  simp
theorem unlU_short {x : List Int} (h : x.length < 4) : unlU x = none := by
  unfold unlU
  rw [if_pos h]
theorem opnP_cnt (b : List Int) : (opnP b).1.length * 8 ≤ b.length := by
  induction hl : b.length using Nat.strongRecOn generalizing b with
  | ind n ih =>
    subst hl
    rw [opnP_eq]
    split
    · simp
    · split
      · simp
      · split
        · simp
        · have := ih (b.drop (8 + (num1 b).toNat)).length (by rw [List.length_drop]; omega) _ rfl
          rw [List.length_drop] at this
          simp only [List.length_cons]
          omega
/-- what is written elsewhere, or where an empty one lies, makes no odds. -/
theorem RowsQ.apart {w w' : World} {base : Nat} {v : Value} {l : List (Value × List Int)} {S : List Nat} (h : RowsQ w base v l) (k : Kp S w w') (h1 : ∀ i, v.ownBlock = some i → i ∉ S) (h2 : ∀ x ∈ l, ∀ i, x.1.ownBlock = some i → i ∈ S → x.2 = []) : RowsQ w' base v l :=
  ⟨⟨h.1.1.kept k h1, fun x hx => ⟨(h.1.2 x hx).1.apart k (h2 x hx), (h.1.2 x hx).2⟩⟩, h.2⟩
/-- a reference ledger that has items alone. -/
def RLi (w : World) (p : Nat) (vi : Value) : Prop := w.heap[p]? = some (.cells #[vi, .pointer none, .int .i64 0, .int .i64 0, .slice none 0 0, .int .i64 0, .slice none 0 0, .slice none 0 0, .bool false] 74 (0, 0))
theorem RLi.c0 {w : World} {p : Nat} {vi : Value} (h : RLi w p vi) : w.cell? ⟨p, 0, none⟩ = some vi := by rw [cell_of_row w p 0 _ _ _ h]; rfl
theorem RLi.f {w : World} {p : Nat} {vi : Value} (h : RLi w p vi) (i : Nat) : w.frozen? ⟨p, i, none⟩ = false := frozen_of_row w p i _ _ h
theorem RLi.set {w : World} {p : Nat} {vi : Value} (h : RLi w p vi) (u : Value) : RLi (w.setCell ⟨p, 0, none⟩ u) p u := by
  unfold RLi
  simpa using heap_setCell_same w p 0 _ _ u h
theorem RLi.kept {w w' : World} {p : Nat} {vi : Value} {S : List Nat} (h : RLi w p vi) (k : Kp S w w') (hp : p ∉ S) : RLi w' p vi := k.heap h hp
set_option maxHeartbeats 1000000 in
/-- nothing is read of no bytes. -/
theorem rraw_empty (q : Nat) (ao : Option Addr) (c : Nat) (w : World) (h : w.heap[q]? = some (.cells #[.slice ao 0 c, .int .i64 0, .bool false] 125 (0, 0))) :
    Calls Tryz.prog 106 #[.pointer (some ⟨q, 0, none⟩), .int .i64 4] w fun e w' => e = .returned (.slice none 0 0) ∧ w'.heap[q]? = some (.cells #[.slice ao 0 c, .int .i64 0, .bool true] 125 (0, 0)) ∧ Kp [q] w w' := by
  obtain ⟨hc0, hc1, hc2⟩ := cell_of_three h
  have hf := frozen_of_row w q 2 _ _ h
  have HB : Hid ((w.setCell ⟨q, 2, none⟩ (.bool true)).heap[q]? = some (.cells #[.slice ao 0 c, .int .i64 0, .bool true] 125 (0, 0)) ∧ Kp [q] w (w.setCell ⟨q, 2, none⟩ (.bool true))) := hide ⟨three_setCell2 h, kp_set w q 2 _⟩
  clear h
  go_enter Tryz.func106, Tryz.ntmps106
  go_wp2_with fail
  go_quiet (fail)
  go_wp2_with fail
  go_ret
  exact ⟨rfl, HB.out.1, HB.out.2.trans ((kp_drewN _ _).mono (by simp))⟩
set_option maxHeartbeats 1000000 in
theorem rnumb_empty (q : Nat) (ao : Option Addr) (c : Nat) (w : World) (h : w.heap[q]? = some (.cells #[.slice ao 0 c, .int .i64 0, .bool false] 125 (0, 0))) :
    Calls Tryz.prog 63 #[.pointer (some ⟨q, 0, none⟩), .int .i64 4] w fun e w' => e = .returned (.int .u32 0) ∧ w'.heap[q]? = some (.cells #[.slice ao 0 c, .int .i64 0, .bool true] 125 (0, 0)) ∧ Kp [q] w w' := by
  have HR := hide (rraw_empty q ao c w h)
  clear h
  go_enter Tryz.func63, Tryz.ntmps63
  go_wp2_with fail
  refine HR.out.mono ?_
  rintro e w1 ⟨rfl, h1, K1⟩
  have H1 := hide h1
  have HK1 := hide K1
  clear HR h1 K1
  go_wp2_with fail
  go_loop [5, 12] (fun x j => x = .int .u32 0 ∧ j = .int .i64 0) (fun _ _ => 0)
  case atStart => exact ⟨rfl, rfl⟩
  case round =>
    obtain ⟨rfl, rfl⟩ := hrel
    go_wp2
    go_ret
    exact ⟨rfl, H1.out, HK1.out⟩
/-- the reader at q has told t of the record's n items. -/
def RdI (p q : Nat) (w1 : World) (vx : Value) (x : List Int) (its : List (List Int)) (n t : Nat) (vi : Value) (wq : World) : Prop :=
  ∃ (ys : List (List Int)) (l : List (Value × List Int)) (i : Nat), RLi wq p vi ∧ RowsQ wq (p + 1) vi l ∧ l.map (·.2) = its ++ ys ∧ ys.length = t ∧ (its ++ ys).Nodup ∧ RR wq q vx i false x ∧ unlU x = (itsU (n - t) (rest i false x)).map (ys ++ ·) ∧ (∀ j, vi.ownBlock = some j → j ≠ q) ∧ (∀ y ∈ l, ∀ j, y.1.ownBlock = some j → y.2 ≠ [] → j ≠ q) ∧ Kp [] w1 wq ∧ q < wq.heap.size
set_option maxRecDepth 100000 in
set_option maxHeartbeats 8000000 in
theorem rread_any (v : Value) (b : List Int) (w : World) (hS : Sl w v b) (hB : Bs b) (hl : b.length ≤ 100000) (ok : Bool) (hok : ok = ((opnP b).2.2 && (redU (opnP b).1).isSome)) :
    Calls Tryz.prog 22 #[v] w fun e w' => ∃ ao m c, e = .returned (.tuple #[.slice ao m c, .bool ok]) ∧ Kp [] w w' ∧ ∀ its, ok = true → redU (opnP b).1 = some its → m = its.length ∧ ∃ l, RowsQ w' w.heap.size (.slice ao m c) l ∧ l.map (·.2) = its := by
  have HOp := hide (refopen_any v b w hS hB (by omega))
  have HBs := hide (opnP_bs hB)
  have HLn := hide (Nat.le_trans (opnP_len b) hl)
  have hcnt : (opnP b).1.length ≤ 100000 := by have := opnP_cnt b; omega
  obtain ⟨rs, hrs⟩ : ∃ rs, rs = (opnP b).1 := ⟨_, rfl⟩
  obtain ⟨at_, hat⟩ : ∃ x, x = (opnP b).2.1 := ⟨_, rfl⟩
  obtain ⟨k0, hk0⟩ : ∃ x, x = (opnP b).2.2 := ⟨_, rfl⟩
  rw [← hrs, ← hat, ← hk0] at HOp
  rw [← hrs] at HBs HLn hcnt ⊢
  rw [← hrs, ← hk0] at hok
  have HOk := hide hok
  obtain ⟨av, cv, hv, -⟩ := hS
  obtain ⟨nv, hnv⟩ : ∃ n, n = b.length := ⟨_, rfl⟩
  rw [← hnv] at hv
  subst hv
  clear hB hl hrs hat hk0 hok hnv
  go_enter Tryz.func22, Tryz.ntmps22
  go_wp2_with fail
  refine HOp.out.mono ?_
  rintro ee w1 ⟨ar, mr, cr, lr, rfl, R1, hlr, hmr, K1⟩
  have HR1 := hide R1
  have HLr := hide hlr
  have HMr := hide hmr
  have HK1 := hide K1
  clear HOp R1 hlr hmr K1
  cases k0 with
  | false =>
    have hokf : ok = false := by rw [HOk.out]; rfl
    subst hokf
    go_wp2_with fail
    go_ret2
    exact ⟨none, 0, 0, rfl, HK1.out, fun its h => by cases h⟩
  | true =>
    have HOk2 : Hid (ok = (redU rs).isSome) := hide (by rw [HOk.out]; simp)
    clear HOk
    obtain ⟨p, hp⟩ : ∃ p, p = w1.heap.size := ⟨_, rfl⟩
    obtain ⟨wp, hwp⟩ : ∃ y, y = w1.alloc (.cells #[.slice none 0 0, .pointer none, .int .i64 0, .int .i64 0, .slice none 0 0, .int .i64 0, .slice none 0 0, .slice none 0 0, .bool false] 74) := ⟨_, rfl⟩
    have hwps : wp.heap.size = p + 1 := by rw [hwp, hp]; simp
    have HPp : Hid (RLi wp p (.slice none 0 0)) := hide (by rw [hwp, hp]; exact heap_alloc_new w1 _)
    have HKp : Hid (Kp [] w1 wp) := hide (by rw [hwp]; exact (Kp.refl [] w1).alloc _)
    have HP0 : Hid (p = w1.heap.size) := hide hp
    have HWp := hide hwp
    have HWs := hide hwps
    obtain ⟨N, hN⟩ : ∃ N, N = lr.length := ⟨_, rfl⟩
    have HNl := hide hN
    have hmN : mr = N := by rw [HMr.out, ← HLr.out, List.length_map, hN]
    subst hmN
    have HNr : Hid (rs.length = mr) := hide HMr.out.symm
    have hm5 : mr ≤ 100000 := by rw [HMr.out]; exact hcnt
    clear hN hp hwp hwps hcnt
    go_wp2_with fail
    rw [← HWp.out, ← HP0.out]
    go_loopw [8] (fun i wr => ∃ k : Nat, k ≤ mr ∧ i = .int .i64 k ∧ ∃ its l ai mi ci, gatU [] (rs.take k) = some its ∧ RLi wr p (.slice ai mi ci) ∧ RowsQ wr (p + 1) (.slice ai mi ci) l ∧ l.map (·.2) = its ∧ its.length * 2 ≤ lenU (rs.take k) ∧ p < wr.heap.size ∧ Kp [] w1 wr) (fun i _ => mr - (intOf i).toNat)
    case atStart => exact ⟨0, by omega, rfl, [], [], none, 0, 0, rfl, HPp.out, rowsQ_nil _ _, rfl, by simp, by rw [HWs.out]; omega, HKp.out⟩
    case round =>
      obtain ⟨k, hk, rfl, its, l, ai, mi, ci, hg, hP, hR, hli, hil, hps, hK⟩ := hrel
      have HG := hide hg
      have HP := hide hP
      have HR := hide hR
      have HLi := hide hli
      have HIl := hide hil
      have HPs := hide hps
      have HK := hide hK
      clear HPp HKp hg hP hR hli hil hps hK
      by_cases hlt : k < mr
      · have hlt' : (k : Int) < (mr : Int) := by omega
        have hkr : k < rs.length := by rw [HNr.out]; exact hlt
        have hkl : k < lr.length := by rw [← HNl.out]; exact hlt
        have hrl : Lists w1 (.slice ar mr cr) lr := lists_big HR1.out (by rw [← HNl.out]; omega)
        obtain ⟨a0, c0, e0, -, hc0⟩ := hrl
        obtain ⟨b1, o1, e1, hcx, hSx, hBx⟩ := hc0 k hkl
        injection e0 with e2 e3 e4
        rw [← e2] at e1
        subst e1
        clear e3
        have ey : lr[k].2 = rs[k] := by simp [← HLr.out]
        rw [ey] at hSx hBx
        have hcw := HK.out.cell hcx (by simp)
        have hSw := hSx.kept HK.out (by simp)
        have hsucc := lenU_succ hkr
        have hltk := lenU_take rs (k + 1)
        have HnoA : Hid (unlU rs[k] = none → redU rs = none) := hide (red_none_at hkr HG.out)
        have HnoB : Hid (∀ xs, unlU rs[k] = some xs → 256 < xs.length → redU rs = none) := hide (fun xs h1 h2 => red_big hkr HG.out h1 h2)
        have HnoC : Hid (∀ ys x o, unlU rs[k] = Option.map ((ys ++ [x]) ++ ·) o → x ∈ its ++ ys → redU rs = none) := hide (fun ys x o h1 h2 => red_dup hkr HG.out h1 h2)
        have HSucc := hide (gatU_succ hkr HG.out)
        obtain ⟨x, hx⟩ : ∃ x, x = rs[k] := ⟨_, rfl⟩
        rw [← hx] at hSx hBx hSw hsucc HnoA HnoB HnoC HSucc
        have hxl : x.length ≤ 100000 := by have := HLn.out; omega
        have HLs := hide hsucc
        have HLt := hide hltk
        have HBx := hide hBx
        obtain ⟨ax, cx, hvx, -⟩ := id hSw
        obtain ⟨nx, hnx⟩ : ∃ n, n = x.length := ⟨_, rfl⟩
        rw [← hnx] at hvx
        rw [hvx] at hcw hSw hSx
        have HNx := hide hnx
        have HSo := hide hSx
        obtain ⟨q, hq⟩ : ∃ q, q = wr.heap.size := ⟨_, rfl⟩
        obtain ⟨w5, hw5⟩ : ∃ y, y = wr.alloc (.cells #[.slice ax nx cx, .int .i64 0, .bool false] 125) := ⟨_, rfl⟩
        have K5 : Kp [] wr w5 := by rw [hw5]; exact (Kp.refl [] wr).alloc _
        have hq5 : w5.heap[q]? = some (.cells #[.slice ax nx cx, .int .i64 0, .bool false] 125 (0, 0)) := by rw [hw5, hq]; exact heap_alloc_new wr _
        have HK5 := hide K5
        have HQ := hide hq
        have HW5 := hide hw5
        have HKq : Hid (∀ w', Kp [q] w5 w' → Kp [] w1 w') := hide (fun w' k => (HK.out.trans HK5.out).then k (fun i hi => .inr (by simp at hi; have := HK.out.size; have := HQ.out; omega)))
        by_cases h4 : x.length < 4
        · have hred := HnoA.out (unlU_short h4)
          have hokf : ok = false := by rw [HOk2.out, hred]; rfl
          subst hokf
          by_cases hx0 : x = []
          · have hn0 : nx = 0 := by rw [hnx, hx0]; rfl
            subst hn0
            have HN1 := hide (rnumb_empty q ax cx w5 hq5)
            clear hx hnx hsucc hltk hBx hSw hSx hvx hcx hc0 e2 e4 hq hw5 K5 ey hq5 h4 hx0 hred
            go_wp2_with fail
            rw [← HW5.out, ← HQ.out]
            refine HN1.out.mono ?_
            rintro ee w6 ⟨rfl, h6, K6⟩
            obtain ⟨d0, d1, d2⟩ := cell_of_three h6
            have HK6 := hide (HKq.out w6 K6)
            clear HN1 h6 K6
            go_wp2_with fail
            go_ret2
            exact ⟨none, 0, 0, rfl, HK1.out.trans HK6.out, fun its h => by cases h⟩
          · have hrr : RR w5 q (.slice ax nx cx) 0 false x := ⟨hq5, hSw.kept K5 (by simp), fun e => by have := sl_lt hSw hx0 e; omega, Nat.zero_le _⟩
            have HN1 := hide (rnumb_any q _ 0 false x 4 w5 hrr (by omega) (by omega) hBx)
            have hr0 : rest 0 false x = x := by show x.drop 0 = x; exact List.drop_zero
            rw [hr0, tk_no false x (4 : Nat) (.inr (by omega))] at HN1
            clear hx hnx hsucc hltk hBx hSw hSx hvx hcx hc0 e2 e4 hq hw5 K5 ey hq5 h4 hx0 hred hrr hr0
            go_wp2_with fail
            rw [← HW5.out, ← HQ.out]
            refine HN1.out.mono ?_
            rintro ee w6 ⟨rfl, i6, bad6, R6, e6, K6⟩
            have e6a : bad6 = true := (congrArg Prod.fst e6).symm
            subst e6a
            obtain ⟨d0, d1, d2⟩ := cell_of_three R6.1
            have HK6 := hide (HKq.out w6 K6)
            clear HN1 R6 K6 e6
            go_wp2_with fail
            go_ret2
            exact ⟨none, 0, 0, rfl, HK1.out.trans HK6.out, fun its h => by cases h⟩
        · have hx0 : x ≠ [] := fun e => h4 (by rw [e]; simp)
          have hrr : RR w5 q (.slice ax nx cx) 0 false x := ⟨hq5, hSw.kept K5 (by simp), fun e => by have := sl_lt hSw hx0 e; omega, Nat.zero_le _⟩
          have HN1 := hide (rnumb_any q _ 0 false x 4 w5 hrr (by omega) (by omega) hBx)
          have hr0 : rest 0 false x = x := by show x.drop 0 = x; exact List.drop_zero
          rw [hr0, tk_ok false x 4 (by omega)] at HN1
          obtain ⟨nI, hnI⟩ : ∃ n : Int, n = val (x.take 4) := ⟨_, rfl⟩
          have hnb := val_bd (x.take 4) (hBx.take 4)
          have hn4 : (x.take 4).length = 4 := by simp; omega
          rw [hn4, ← hnI] at hnb
          simp only [← hnI] at HN1
          obtain ⟨n, rfl⟩ := Int.eq_ofNat_of_zero_le hnb.1
          have hnle : n ≤ 4294967295 := by have := hnb.2; omega
          have hw64 : IntKind.i64.wrap (n : Int) = n := by simp [IntKind.wrap, IntKind.signed, IntKind.bits]; omega
          have hnN : (val (x.take 4)).toNat = n := by rw [← hnI]; rfl
          have HNn := hide hnN
          have H4 := hide h4
          have HX0 := hide hx0
          clear hnI hnb hn4 hr0 hrr hnN
          clear hx hsucc hltk hq hw5 K5 ey hq5 h4 hcx hc0 e2 e4 hnx hvx hBx hSw
          go_wp2_with fail
          rw [← HW5.out, ← HQ.out]
          refine HN1.out.mono ?_
          rintro ee w6 ⟨rfl, i6, bad6, R6, e6, K6⟩
          have e6a : bad6 = false := (congrArg Prod.fst e6).symm
          subst e6a
          have HE6 : Hid (rest i6 false x = x.drop 4) := hide ((congrArg Prod.snd e6).symm)
          obtain ⟨d0, d1, d2⟩ := cell_of_three R6.1
          have HK6 := hide (HKq.out w6 K6)
          have HKr6 : Hid (Kp [q] wr w6) := hide ((HK5.out.mono (by simp)).trans K6)
          have HR6 := hide R6
          clear HN1 R6 K6 e6
          by_cases hn1 : (n : Int) < 1
          · have hred := HnoA.out (unlU_zero (by rw [HNn.out]; omega))
            have hokf : ok = false := by rw [HOk2.out, hred]; rfl
            subst hokf
            have hd1 : decide ((n : Int) < 1) = true := decide_eq_true hn1
            clear hred
            go_wp2_with fail
            go_ret2
            exact ⟨none, 0, 0, rfl, HK1.out.trans HK6.out, fun its h => by cases h⟩
          · have hd1 : decide ((n : Int) < 1) = false := decide_eq_false hn1
            have hUn : unlU x = itsU n (x.drop 4) := unlU_at (by have := H4.out; omega) n HNn.out (by omega)
            by_cases hn2 : (256 : Int) < n
            · have hred : redU rs = none := by
                cases hu : unlU x with
                | none => exact HnoA.out hu
                | some xs => exact HnoB.out xs hu (by rw [hUn] at hu; rw [itsU_len _ _ _ hu]; omega)
              have hokf : ok = false := by rw [HOk2.out, hred]; rfl
              subst hokf
              have hd2 : decide ((256 : Int) < n) = true := decide_eq_true hn2
              clear hred hUn
              go_wp2_with fail
              go_ret2
              exact ⟨none, 0, 0, rfl, HK1.out.trans HK6.out, fun its h => by cases h⟩
            · have hd2 : decide ((256 : Int) < n) = false := decide_eq_false hn2
              have HUn := hide hUn
              have hn256 : n ≤ 256 := by omega
              have HQp : Hid (p < q) := hide (by rw [HQ.out]; exact HPs.out)
              have HP6 := hide (HP.out.kept HKr6.out (by have := HQp.out; simp; omega))
              have HI0 : Hid (RdI p q w1 (.slice ax nx cx) x its n 0 (.slice ai mi ci) w6) := hide (by
                refine ⟨[], l, i6, HP6.out, HR.out.apart HKr6.out (fun i hi hm => ?_) (fun y hy i hi hm => ?_), by rw [HLi.out]; simp, rfl, ?_, HR6.out, ?_, fun j hj e => ?_, fun y hy j hj hne e => ?_, HK6.out, ?_⟩
                · have := HR.out.1.1.lt hi; have := HQ.out; simp at hm; omega
                · by_cases hy0 : y.2 = []
                  · exact hy0
                  · have := sl_lt (HR.out.1.2 y hy).1 hy0 hi; have := HQ.out; simp at hm; omega
                · rw [List.append_nil]; exact gatU_nodup (l := []) (by simp) HG.out
                · rw [HE6.out, HUn.out]; simp
                · have := HR.out.1.1.lt hj; have := HQ.out; omega
                · have := sl_lt (HR.out.1.2 y hy).1 hne hj; have := HQ.out; omega
                · have := HKr6.out.size; have := lt_of_block HR6.out.1; omega)
              have hnl : its.length ≤ 50000 := by have := HIl.out; have := HLn.out; have := lenU_take rs k; omega
              clear hUn HR6 HE6 HKr6 HP6 HP HR HLi
              go_wp2_with fail
              go_loopw [11] (fun s wq => ∃ t : Nat, t ≤ n ∧ s = .int .i64 t ∧ ∃ a m c, RdI p q w1 (.slice ax nx cx) x its n t (.slice a m c) wq) (fun s _ => n - (intOf s).toNat)
              case atStart => exact ⟨0, by omega, rfl, ai, mi, ci, HI0.out⟩
              case round =>
                clear HI0
                obtain ⟨t, ht, rfl, ai, mi, ci, ys, l, i, hP, hR, hly, hyl, hnd, hRR, hun, hro, heo, hK, hqs⟩ := hrel
                have HP := hide hP
                have HR := hide hR
                have HLy := hide hly
                have HYl := hide hyl
                have HNd := hide hnd
                have HRR := hide hRR
                have HUn2 := hide hun
                have HRo := hide hro
                have HEo := hide heo
                have HKw := hide hK
                have HQs := hide hqs
                have hll : l.length ≤ 60000 := by
                  have h1 := congrArg List.length hly
                  rw [List.length_map, List.length_append] at h1
                  omega
                have hRR0 := hRR
                clear hP hR hly hyl hnd hun hro heo hK hqs
                by_cases htn : t < n
                · have htn' : (t : Int) < (n : Int) := by omega
                  obtain ⟨m, hm⟩ : ∃ m, n - t = m + 1 := ⟨n - t - 1, by omega⟩
                  rw [hm] at HUn2
                  have HRb := hide (rbyt_any q (.slice ax nx cx) i false x 65535 wr hRR0 (by omega) HBx.out (by omega))
                  obtain ⟨T, hT⟩ : ∃ T, T = tkb false (rest i false x) 65535 := ⟨_, rfl⟩
                  have hstep := fun (hb : T.2.1 = false) => itsU_go (n := m) (b := rest i false x) (by rw [← hT]; exact hb)
                  have hbad := fun (hb : T.2.1 = true) => itsU_bad (n := m) (b := rest i false x) (by rw [← hT]; exact hb)
                  have hBT : Bs T.1 := by rw [hT]; exact tkb_bs1 (rest_bs HBx.out)
                  have hlT : T.1.length ≤ 65535 := by
                    rw [hT]; exact tkbU_short false _ 65535 (rest_bs HBx.out)
                  rw [← hT] at HRb
                  rw [← hT] at hstep
                  obtain ⟨y, s1, s2⟩ := T
                  simp only at HRb hstep hbad hBT hlT
                  have HSt := hide hstep
                  have HBd := hide hbad
                  have HBT := hide hBT
                  clear hT hstep hbad hBT hRR0 hRR
                  go_wp2_with fail
                  refine HRb.out.mono ?_
                  rintro ee w8 ⟨ay, my, cy, rfl, hO, i8, bad8, R8, e8, K8⟩
                  injection e8 with e81 e82
                  subst e81 e82
                  obtain ⟨d0, d1, d2⟩ := cell_of_three R8.1
                  have HR8 := hide R8
                  have HO8 := hide hO
                  have HK8 := hide K8
                  have HKq8 : Hid (Kp [] w1 w8) := hide (HKw.out.then K8 (fun j hj => .inr (by simp at hj; have := HQp.out; have := HP0.out; omega)))
                  have HP8 := hide (HP.out.kept K8 (by have := HQp.out; simp; omega))
                  have HRw8 := hide (HR.out.apart K8 (fun j hj hm => by simp at hm; exact HRo.out j hj hm) (fun y hy j hj hm => by
                    by_cases hy0 : y.2 = []
                    · exact hy0
                    · simp at hm; exact absurd hm (HEo.out y hy j hj hy0)))
                  clear HRb R8 hO K8
                  cases s1 with
                  | true =>
                    have hred := HnoA.out (by rw [HUn2.out, HBd.out rfl]; rfl)
                    have hokf : ok = false := by rw [HOk2.out, hred]; rfl
                    subst hokf
                    clear hred
                    go_wp2_with fail
                    go_ret2
                    exact ⟨none, 0, 0, rfl, HK1.out.trans HKq8.out, fun its h => by cases h⟩
                  | false =>
                    have HSx := HO8.out.1
                    obtain ⟨r, hr⟩ : ∃ r, r = fdU (l.map (·.2)) y := ⟨_, rfl⟩
                    have HFd := hide (rfind_any p (.slice ai mi ci) l (.slice ay my cy) y r w8 HP8.out.c0 (HRw8.out.lists (by omega)) HSx HBT.out (by omega) hr)
                    have hun3 : unlU x = (itsU m (rest i8 false x)).map ((ys ++ [y]) ++ ·) := by
                      rw [HUn2.out, HSt.out rfl, Option.map_map]
                      congr 1
                      funext z
                      simp
                    have HU3 := hide hun3
                    rw [HLy.out] at hr
                    clear hun3 HSx
                    by_cases hin : y ∈ its ++ ys
                    · have hr0 : 0 ≤ r := by rw [hr]; unfold fdU; rw [if_pos hin]; omega
                      have hred := HnoC.out ys y _ HU3.out hin
                      have hokf : ok = false := by rw [HOk2.out, hred]; rfl
                      subst hokf
                      have hdr : decide (0 ≤ r) = true := decide_eq_true hr0
                      clear hred hr hin
                      go_wp2_with fail
                      refine HFd.out.mono ?_
                      rintro ee w9 ⟨rfl, K9⟩
                      have HK9 := hide (HKq8.out.trans K9)
                      clear HFd K9
                      go_wp2_with fail
                      go_ret2
                      exact ⟨none, 0, 0, rfl, HK1.out.trans HK9.out, fun its h => by cases h⟩
                    · have hr0 : r = -1 := by rw [hr]; unfold fdU; rw [if_neg hin]
                      have HIn := hide hin
                      subst hr0
                      clear hr hin
                      go_wp2_with fail
                      refine HFd.out.mono ?_
                      rintro ee w9 ⟨rfl, K9⟩
                      have HP9 := hide (HP8.out.kept K9 (by simp))
                      have hc9 := HP9.out.c0
                      have HRw9 := hide (HRw8.out.apart K9 (by simp) (by simp))
                      have HR9 := hide (HR8.out.kept K9 (by simp) (by simp))
                      have HS9 := hide (HO8.out.1.kept K9 (by simp))
                      have HK9 := hide (HKq8.out.trans K9)
                      have HKw9 := hide (HK8.out.trans (K9.mono (by simp)))
                      clear HFd K9
                      go_wp2_with (
                        at_builtin
                        refine wpList_rowsR rfl (.tmp 71) (.tmp 73) rfl (.slice ai mi ci) l rfl HRw9.out (by have := HKw9.out.size; have := HQs.out; have := HQp.out; omega) (by omega) (.slice ay my cy) y HS9.out (fun j h1 h2 => by have := HO8.out.2 j h1; have := HR.out.1.1.lt h2; omega) (fun j h1 => by have := HO8.out.2 j h1; have := HQs.out; have := HQp.out; omega) HBT.out rfl ?_
                        intro a7 m7 c7 w7 hm7 P7 S7
                        have HP7 := hide (HP9.out.kept S7.1 (fun hm => by
                          have h1 : (Value.slice ai mi ci).ownBlock = some p := by simpa [Option.mem_toList] using hm
                          have := HR.out.1.1.own p h1
                          omega))
                        have hc7 := HP7.out.c0
                        have hf7 := HP7.out.f 0
                        have HPw7 := hide P7
                        have HS7 := hide S7
                        have HM7 := hide hm7
                        clear P7 S7 hc9 hm7)
                      go_roundw
                      case rel =>
                        have hpo : ∀ j ∈ (Value.slice ai mi ci).ownBlock.toList, p < j ∧ j ≠ q := fun j hj => by
                          have h1 : (Value.slice ai mi ci).ownBlock = some j := by simpa [Option.mem_toList] using hj
                          exact ⟨HR.out.1.1.own j h1, HRo.out j h1⟩
                        have hxo : ∀ j, (Value.slice ax nx cx).ownBlock = some j → j < p := fun j hj => by
                          have := sl_lt HSo.out HX0.out hj; have := HP0.out; omega
                        have k9 : Kp [p] w7 (w7.setCell ⟨p, 0, none⟩ (.slice a7 m7 c7)) := kp_set w7 p 0 _
                        have hs7 := HS7.out.1.size
                        refine ⟨t + 1, by omega, by go_num, a7, m7, c7, ys ++ [y], l ++ [(.slice ay my cy, y)], i8, HP7.out.set _, HPw7.out.kept k9 (by simp), ?_, by rw [List.length_append, HYl.out]; rfl, ?_, ?_, ?_, ?_, ?_, ?_, ?_⟩
                        · rw [List.map_append, HLy.out, List.append_assoc]; rfl
                        · rw [← List.append_assoc, List.nodup_append]
                          refine ⟨HNd.out, by simp, fun u hu z hz e => ?_⟩
                          simp at hz
                          subst hz
                          subst e
                          exact HIn.out hu
                        · refine (HR9.out.kept HS7.out.1 (fun hm => (hpo q hm).2 rfl) (fun j hj hm => by have := hxo j hj; have := (hpo j hm).1; omega)).kept k9 (by have := HQp.out; simp; omega) (fun j hj hm => by simp at hm; have := hxo j hj; omega)
                        · rw [show n - (t + 1) = m by omega]
                          exact HU3.out
                        · intro j hj e
                          rcases HS7.out.2 j hj with h1 | h1
                          · exact HRo.out j h1 e
                          · have := HKw9.out.size; have := HQs.out; omega
                        · intro z hz j hj hne e
                          rcases List.mem_append.1 hz with hz | hz
                          · exact HEo.out z hz j hj hne e
                          · obtain rfl : z = (.slice ay my cy, y) := by simpa using hz
                            have := HO8.out.2 j hj; have := HQs.out; omega
                        · refine ((HK9.out.then HS7.out.1 (fun j hj => .inr (by have := (hpo j hj).1; have := HP0.out; omega)))).then k9 (fun j hj => .inr (by simp at hj; have := HP0.out; omega))
                        · have h1 : (w7.setCell ⟨p, 0, none⟩ (.slice a7 m7 c7)).heap.size = w7.heap.size := by simp [World.setCell]
                          rw [h1]
                          have := HKw9.out.size; have := HQs.out; omega
                      case measure => simp [intOf]; omega
                · obtain rfl : t = n := by omega
                  have htn' : ¬ (t : Int) < (t : Int) := by omega
                  have HEn := hide (rend_any q (.slice ax nx cx) i false x wr hRR0)
                  obtain ⟨R, hR⟩ : ∃ R, R = rest i false x := ⟨_, rfl⟩
                  rw [← hR, Nat.sub_self] at HUn2
                  rw [← hR] at HEn
                  clear hR hRR0 hRR HRR
                  by_cases hRe : R = []
                  · have hun4 : unlU x = some ys := by
                      rw [HUn2.out, hRe]
                      simp [itsU]
                    have hbs := unlU_bs HBx.out hun4
                    have hg2 : gatU [] (rs.take (k + 1)) = some (its ++ ys) := by
                      rw [HSucc.out, hun4]
                      simp only
                      rw [if_pos HNd.out]
                    have HG2 := hide hg2
                    have HY2 := hide hbs.2
                    have he : (!false && R.isEmpty) = true := by rw [hRe]; rfl
                    rw [he] at HEn
                    clear hun4 hbs hg2 he hRe
                    go_wp2_with fail
                    refine HEn.out.mono ?_
                    rintro ee w9 ⟨rfl, nd, hw9⟩
                    subst w9
                    clear HEn
                    go_wp2_with fail
                    go_roundw
                    case rel =>
                      refine ⟨k + 1, by omega, by go_num, its ++ ys, l, ai, mi, ci, HG2.out, HP.out.kept (kp_drewN _ _) (by simp), HR.out.kept (kp_drewN _ _) (by simp), HLy.out, ?_, ?_, HKw.out.trans (kp_drewN _ _)⟩
                      · rw [List.length_append, HLs.out]; have := HIl.out; have := HY2.out; omega
                      · have := HQp.out; have := HQs.out; show p < wr.heap.size; omega
                    case measure => simp [intOf]; omega
                  · have hun4 : unlU x = none := by
                      rw [HUn2.out]
                      simp [itsU, hRe]
                    have hred := HnoA.out hun4
                    have hokf : ok = false := by rw [HOk2.out, hred]; rfl
                    subst hokf
                    have he : (!false && R.isEmpty) = false := by cases R with | nil => exact absurd rfl hRe | cons _ _ => rfl
                    rw [he] at HEn
                    clear hun4 hred he hRe
                    go_wp2_with fail
                    refine HEn.out.mono ?_
                    rintro ee w9 ⟨rfl, nd, hw9⟩
                    subst w9
                    have HK9 := hide (HKw.out.trans (kp_drewN wr nd))
                    clear HEn
                    go_wp2_with fail
                    go_ret2
                    exact ⟨none, 0, 0, rfl, HK1.out.trans HK9.out, fun its h => by cases h⟩
      · obtain rfl : k = mr := by omega
        have hlt' : ¬ (k : Int) < (k : Int) := by omega
        have hmi : mi = its.length := by have h1 := HR.out.1.1.len; rw [List.length_map] at h1; rw [h1, ← HLi.out, List.length_map]
        have hr : redU rs = if mi ≤ 256 then some its else none := by
          unfold redU
          have e : rs.take k = rs := List.take_of_length_le (by rw [HNr.out]; omega)
          have hg := HG.out
          rw [e] at hg
          rw [hg, hmi]
        have hokd : ok = decide ((mi : Int) ≤ 256) := by
          rw [HOk2.out, hr]
          by_cases h : mi ≤ 256
          · rw [if_pos h, decide_eq_true (by omega)]; rfl
          · rw [if_neg h, decide_eq_false (by omega)]; rfl
        have HRr := hide hr
        have HOkd := hide hokd
        have HMi := hide hmi
        have hc := (HP.out.kept (kp_drew wr) (by simp)).c0
        clear hr hokd hmi
        go_wp2_with fail
        refine region_read Tryz.mixed (by kernel_rfl) ?_
        repeat (first | go_big_quiet_skip | (go_big_quiet_want; go_big_quiet_op; go_big_quiet_on))
        refine wpQuiet_nil ?_
        go_wp2_with fail
        go_ret2
        refine ⟨ai, mi, ci, by rw [HOkd.out]; rfl, HK1.out.trans (HK.out.trans (kp_drew wr)), fun its2 ho h2 => ?_⟩
        rw [HRr.out] at h2
        split at h2
        · injection h2 with h2
          subst h2
          exact ⟨HMi.out, l, (HR.out.kept (kp_drew wr) (by simp)).rebase (by have := HK1.out.size; have := HP0.out; omega), HLi.out⟩
        · cases h2
end Go.Proofs.YtillhpgdlmeajaaGreatDoor

/-
  What an operation yields that is looked for only where a test is true.
-/
namespace Go.Proofs.YtillhpgdlmeajaaGreatDoor
open Go.RowKit
theorem wants_none {P : Program} {ops : Array Oper} {o : Oper} {a : Act} {w : World} {R : Tell} {g : Nat} {b : Bool} {d : Tmp} (hg : o.guard = some (g, b)) (hd : (ops[g]?).bind (·.dst) = some d) (he : a.eval (.tmp d) = undef) (h : R undef w) : wants P ops o a w R := by
  have h2 : yielded ops a.tmps g = none := by
    unfold yielded
    rw [hd]
    simp only [Option.bind_some]
    have h1 : a.tmps[d]?.getD undef = undef := by simpa [Act.eval] using he
    cases hx : a.tmps[d]? with
    | none => rfl
    | some x =>
      rw [hx, Option.getD_some] at h1
      subst h1
      rfl
  unfold wants
  rw [if_neg (by simp [Region.wanted, hg, h2])]
  exact h
end Go.Proofs.YtillhpgdlmeajaaGreatDoor

/-
  The contract of the reference's Split.
-/
namespace Go.Proofs.YtillhpgdlmeajaaGreatDoor
open Go.RowKit
set_option maxHeartbeats 1000000 in
set_option maxRecDepth 100000 in
theorem rsplit_any (n : Int) (k : Nat) (w : World) (hk : k = tsplP n.toNat) (hn : -9223372036854775808 ≤ n ∧ n ≤ 9223372036854775807) :
    Calls Tryz.prog 70 #[.int .i64 n] w fun e w' => e = .returned (.int .i64 k) ∧ w' = w := by
  by_cases h2 : n < 2
  · rw [tsplP_small (by omega)] at hk
    subst hk
    go_enter Tryz.func70, Tryz.ntmps70
    go_wp2_with fail
    go_ret
    exact ⟨rfl, rfl⟩
  · have HK := hide hk
    clear hk
    go_enter Tryz.func70, Tryz.ntmps70
    go_wp2_with fail
    go_loopw [3] (fun v wr => ∃ (j q : Nat), q = 2 ^ j ∧ (q : Int) < n ∧ v = .int .i64 q ∧ wr = w) (fun v _ => n.toNat - (intOf v).toNat)
    case atStart => exact ⟨0, 1, rfl, by omega, rfl, rfl⟩
    case round =>
      obtain ⟨j, q, hq, hqn, rfl, hw⟩ := hrel
      subst wr
      have hq1 : 1 ≤ q := by rw [hq]; exact Nat.one_le_two_pow
      have HQ := hide hq
      clear hq
      by_cases hc : (q : Int) < n - q
      · go_wp2_with fail
        go_roundw
        case rel => exact ⟨j + 1, 2 * q, by rw [Nat.pow_succ, ← unhide HQ]; omega, by omega, by go_num, trivial⟩
        case measure => simp [intOf]; omega
      · go_wp2_with fail
        go_ret
        refine ⟨?_, rfl⟩
        have e : tsplP n.toNat = q := by rw [unhide HQ]; exact tsplP_of (by rw [← unhide HQ]; omega) (by rw [← unhide HQ]; omega)
        rw [unhide HK, e]
        rfl
end Go.Proofs.YtillhpgdlmeajaaGreatDoor

/-
  The contracts of the reference's Root and Leaves.
-/
namespace Go.Proofs.YtillhpgdlmeajaaGreatDoor
open Go.RowKit
open Go.Proofs
/-- u is the one slice of the list v. -/
def AtOne (v u : Value) (w : World) : Prop := ∃ b off c, v = .slice (some ⟨b, off, none⟩) 1 c ∧ w.cell? ⟨b, off, none⟩ = some u
set_option maxRecDepth 100000 in
set_option maxHeartbeats 2000000 in
theorem rroot_row (n : Nat) : ∀ (v : Value) (ls : List (List Int)) (r : List Int) (w : World), r = trootP ls → ls.length = n → n ≤ 100000 → LcM ls v w → (∀ x ∈ ls, x.length ≤ 1000) →
    Calls Tryz.prog 24 #[v] w fun e w' => ∃ ao m c, e = .returned (.slice ao m c) ∧ (Row w' w.heap.size (.slice ao m c) r ∨ AtOne v (.slice ao m c) w) ∧ Sl w' (.slice ao m c) r ∧ Kp [] w w' := by
  induction n using Nat.strongRecOn with
  | ind n ih =>
    intro v ls r w hr hlen hn hL hm
    have hbs := hL.bs
    obtain ⟨ao, c, e, h1, h2, h3⟩ := hL.shape
    rw [hlen] at e h1
    subst e
    rcases (by omega : n = 0 ∨ n = 1 ∨ 2 ≤ n) with rfl | rfl | h2n
    · have e : ls = [] := List.eq_nil_of_length_eq_zero hlen
      rw [e, trootP_nil] at hr
      have HC := hide (refsum_at (.slice none 0 0) [] r hr w (Sl.nil w) (fun b hb => by cases hb) (by simp))
      clear hbs hm hL hr e ih h1 h3 hlen
      go_enter Tryz.func24, Tryz.ntmps24
      go_wp2_with fail
      refine (unhide HC).mono ?_
      rintro ee w2 ⟨ao2, m2, c2, rfl, R2, K2⟩
      have HR2 := hide R2
      have HK2 := hide K2
      clear R2 K2 HC
      go_wp2_with fail
      go_ret
      exact ⟨ao2, m2, c2, rfl, .inl (unhide HR2), (unhide HR2).sl, unhide HK2⟩
    · obtain ⟨x, rfl⟩ : ∃ x, ls = [x] := by
        match ls, hlen with
        | [x], _ => exact ⟨x, rfl⟩
      rw [trootP_one] at hr
      subst hr
      obtain ⟨-, b, off, u, rfl, hc, hS, -⟩ := hL.at 0 r rfl
      have HS := hide hS
      obtain ⟨ax, cx, hux, _⟩ := hS
      obtain ⟨nx, hnx⟩ : ∃ nx, nx = r.length := ⟨_, rfl⟩
      rw [← hnx] at hux
      subst hux
      rw [Nat.add_zero] at hc
      have HAT : Hid (AtOne (.slice (some ⟨b, off, none⟩) 1 c) (.slice ax nx cx) w) := ⟨b, off, c, rfl, hc⟩
      clear hbs hm hL ih h1 h3 hlen hnx
      go_enter Tryz.func24, Tryz.ntmps24
      go_wp2_with fail
      go_ret
      exact ⟨_, _, _, rfl, .inr (unhide HAT), unhide HS, Kp.refl _ _⟩
    · obtain ⟨k, hk⟩ : ∃ k, k = tsplP n := ⟨_, rfl⟩
      have hk1 : 1 ≤ k := by rw [hk]; exact tsplP_pos h2n
      have hk2 : k < n := by rw [hk]; exact tsplP_lt h2n
      rw [trootP_more (by omega), hlen, ← hk] at hr
      obtain ⟨ra, hra⟩ : ∃ r, r = trootP (ls.take k) := ⟨_, rfl⟩
      obtain ⟨rb, hrb⟩ : ∃ r, r = trootP (ls.drop k) := ⟨_, rfl⟩
      rw [← hra, ← hrb] at hr
      have HR := hide hr
      have HA := hide (fun v w hL => ih k hk2 v (ls.take k) ra w hra (by simp; omega) (by omega) hL (fun x hx => hm x (List.mem_of_mem_take hx)))
      have HB := hide (fun v w hL => ih (n - k) (by omega) v (ls.drop k) rb w hrb (by simp; omega) (by omega) hL (fun x hx => hm x (List.mem_of_mem_drop hx)))
      have HAb : Hid (Bs ra) := by rw [hra]; exact trootP_bs _ (fun x hx => hbs x (List.mem_of_mem_take hx))
      have HBb : Hid (Bs rb) := by rw [hrb]; exact trootP_bs _ (fun x hx => hbs x (List.mem_of_mem_drop hx))
      have hal : ra.length ≤ 1000 := by rw [hra]; exact trootP_le 1000 (by omega) _ (fun x hx => hm x (List.mem_of_mem_take hx))
      have hbl : rb.length ≤ 1000 := by rw [hrb]; exact trootP_le 1000 (by omega) _ (fun x hx => hm x (List.mem_of_mem_drop hx))
      have HC := hide (rsplit_any n k w (by rw [Int.toNat_natCast]; exact hk) (by omega))
      have HKL : Hid (k ≤ ls.length) := hide (by omega)
      have HLL : Hid (∀ w', Kp [] w.drew w' → LcM ls (.slice ao n c) w') := fun w' k' => hL.kept ((kp_drew w).trans k')
      have hn0 : ¬ (n : Int) = 0 := by omega
      have hn1 : ¬ (n : Int) = 1 := by omega
      clear hbs hm hL ih h1 h3 hlen hr hra hrb hk
      go_enter Tryz.func24, Tryz.ntmps24
      go_wp2_with fail
      refine (unhide HC).mono ?_
      rintro ee w2 ⟨rfl, hw⟩
      subst w2
      clear HC hn0 hn1
      go_wp2_with fail
      obtain ⟨B, hB⟩ : ∃ B, B = w.heap.size := ⟨_, rfl⟩
      have HBW : Hid (∀ w', Kp [] w.drew w' → B ≤ w'.heap.size) := fun w' k' => by rw [hB]; exact k'.size
      have HBB := hide hB
      clear hB
      refine region_grow Tryz.mixed [Is (.slice ao n c), Is (.int .i64 k), LcM ((ls).take k), SlT (ra), Is (.slice ao n c), Is (.int .i64 k), LcM ((ls).drop k), SlT (rb), RwT B r, RwT B r] [[(0, none)], [(3, none)], [(17, some 0), (18, some 1)], [(19, some 2)], [(0, none)], [(3, none)], [(21, some 4), (22, some 5)], [(23, some 6)], [(20, some 3), (24, some 7)], [(25, some 8)]] (by kernel_rfl) ?_ ?_ ?_
      · simp only [List.mem_cons, List.not_mem_nil, or_false]
        intro R hR
        rcases hR with rfl | rfl | rfl | rfl | rfl | rfl | rfl | rfl | rfl | rfl <;> first | exact stable_is _ | exact stable_lcm _ | exact stable_sl _ | exact stable_rw _ _
      · refine steps_cons (fun a w hk hn => ?_) ?_
        · have h0 : a.eval (.tmp 0) = .slice ao n c := hn.1
          clear hn
          refine wants_plain rfl ?_
          exact grown_move (.tmp 0) rfl h0
        refine steps_cons (fun a w hk hn => ?_) ?_
        · have h3 : a.eval (.tmp 3) = .int .i64 k := hn.1
          clear hn
          refine wants_plain rfl ?_
          exact grown_move (.tmp 3) rfl h3
        refine steps_cons (fun a w hk hn => ?_) ?_
        · have h17 : a.eval (.tmp 17) = .slice ao n c := hn.1
          have h18 : a.eval (.tmp 18) = .int .i64 k := hn.2.1
          clear hn
          refine wants_plain rfl ?_
          exact grown_lhead (.tmp 17) (.tmp 18) (ls) k rfl (by rw [h17]; exact unhide HLL w hk) h18 (unhide HKL)
        refine steps_cons (fun a w hk hn => ?_) ?_
        · have h19 : (LcM ((ls).take k)) (a.eval (.tmp 19)) w := hn.1
          clear hn
          refine wants_plain rfl ?_
          refine grown_call (f := 24) rfl Tryz.func24 (by kernel_rfl) (by kernel_rfl) ?_
          simp only [List.map_toArray, List.map_cons, List.map_nil]
          refine (unhide HA _ w h19).mono ?_
          rintro e w' ⟨ao, m, c, rfl, -, R, K⟩
          exact ⟨_, rfl, K, R⟩
        refine steps_cons (fun a w hk hn => ?_) ?_
        · have h0 : a.eval (.tmp 0) = .slice ao n c := hn.1
          clear hn
          refine wants_plain rfl ?_
          exact grown_move (.tmp 0) rfl h0
        refine steps_cons (fun a w hk hn => ?_) ?_
        · have h3 : a.eval (.tmp 3) = .int .i64 k := hn.1
          clear hn
          refine wants_plain rfl ?_
          exact grown_move (.tmp 3) rfl h3
        refine steps_cons (fun a w hk hn => ?_) ?_
        · have h21 : a.eval (.tmp 21) = .slice ao n c := hn.1
          have h22 : a.eval (.tmp 22) = .int .i64 k := hn.2.1
          clear hn
          refine wants_plain rfl ?_
          exact grown_lfrom (.tmp 21) (.tmp 22) (ls) k rfl (by rw [h21]; exact unhide HLL w hk) h22 (unhide HKL)
        refine steps_cons (fun a w hk hn => ?_) ?_
        · have h23 : (LcM ((ls).drop k)) (a.eval (.tmp 23)) w := hn.1
          clear hn
          refine wants_plain rfl ?_
          refine grown_call (f := 24) rfl Tryz.func24 (by kernel_rfl) (by kernel_rfl) ?_
          simp only [List.map_toArray, List.map_cons, List.map_nil]
          refine (unhide HB _ w h23).mono ?_
          rintro e w' ⟨ao, m, c, rfl, -, R, K⟩
          exact ⟨_, rfl, K, R⟩
        refine steps_cons (fun a w hk hn => ?_) ?_
        · have h20 : Sl w (a.eval (.tmp 20)) (ra) := hn.1
          have h24 : Sl w (a.eval (.tmp 24)) (rb) := hn.2.1
          clear hn
          refine wants_plain rfl ?_
          refine grown_call (f := 71) rfl Tryz.func71 (by kernel_rfl) (by kernel_rfl) ?_
          simp only [List.map_toArray, List.map_cons, List.map_nil]
          refine (rnode_any _ _ ra rb r (unhide HR) w h20 (unhide HAb) (by omega) h24 (unhide HBb) (by omega)).mono ?_
          rintro e w' ⟨ao, m, c, rfl, R, K⟩
          exact ⟨_, rfl, K, ⟨ao, m, c, rfl, owns_rebase R (fun i hi => Nat.le_trans (unhide HBW w hk) (Row.own R i hi))⟩⟩
        refine steps_cons (fun a w hk hn => ?_) ?_
        · have h25 : (RwT B r) (a.eval (.tmp 25)) w := hn.1
          clear hn
          refine wants_plain rfl ?_
          exact grown_assign (.tmp 25) rfl h25
        exact trivial
      intro W1 hkW1
      rintro _ rfl
      rintro _ rfl
      intro v19 h19
      intro v20 h20
      rintro _ rfl
      rintro _ rfl
      intro v23 h23
      intro v24 h24
      intro v25 h25
      intro v2 h2
      refine fin_nil ?_
      simp only [Act.put, List.set_cons_zero, List.set_cons_succ, List.setIfInBounds_toArray]
      obtain ⟨ao2, m2, c2, rfl, R2⟩ := h2
      rw [unhide HBB] at R2
      have HR2 := hide R2
      have HK2 := hide ((kp_drew w).trans hkW1)
      clear R2 h25 h24 h23 h20 h19 hkW1
      go_wp2_with fail
      go_ret
      exact ⟨ao2, m2, c2, rfl, .inl (unhide HR2), (unhide HR2).sl, unhide HK2⟩
theorem rroot_any (n : Nat) (v : Value) (ls : List (List Int)) (r : List Int) (w : World) (hr : r = trootP ls) (hl : ls.length = n) (hn : n ≤ 100000) (hL : LcM ls v w) (hm : ∀ x ∈ ls, x.length ≤ 1000) :
    Calls Tryz.prog 24 #[v] w fun e w' => ∃ ao m c, e = .returned (.slice ao m c) ∧ Sl w' (.slice ao m c) r ∧ Kp [] w w' := by
  refine (rroot_row n v ls r w hr hl hn hL hm).mono ?_
  rintro e w' ⟨ao, m, c, rfl, -, R, K⟩
  exact ⟨ao, m, c, rfl, R, K⟩
end Go.Proofs.YtillhpgdlmeajaaGreatDoor

/-
  The contract of the reference's Leaves, of longer items.
-/
namespace Go.Proofs.YtillhpgdlmeajaaGreatDoor
open Go.RowKit
open Go.Proofs
set_option maxRecDepth 100000 in
set_option maxHeartbeats 2000000 in
theorem rleaves_big (vl : Value) (ls : List (List Int)) (w : World) (hL : LcM ls vl w) (hn : ls.length ≤ 1000) (hm : ∀ x ∈ ls, x.length ≤ 65535) :
    Calls Tryz.prog 25 #[vl] w fun e w' => ∃ ao m c, e = .returned (.slice ao m c) ∧ Acc w (ls.map tleafP) (.slice ao m c) w' := by
  have HL := hide hL
  have HM := hide hm
  obtain ⟨al, cl, e, h1, h2, h3⟩ := hL.shape
  obtain ⟨N, hN⟩ : ∃ N, N = ls.length := ⟨_, rfl⟩
  rw [← hN] at e hn
  subst e
  have HN := hide hN
  have hnn : (N : Int) ≤ 1000 := by omega
  clear hL hm hN h1 h2 h3
  go_enter Tryz.func25, Tryz.ntmps25
  go_wp2_with fail
  go_loopw [3, 4] (fun v i wr => ∃ (k m cc : Nat) (ao : Option Addr), k ≤ N ∧ v = .slice ao m cc ∧ i = .int .i64 k ∧ Acc w ((ls.take k).map tleafP) v wr) (fun _ i _ => N - (intOf i).toNat)
  case atStart => exact ⟨0, 0, 0, none, by omega, rfl, rfl, [], ⟨World.ownsRow_nil _ _ _ _, fun x hx => by cases hx⟩, rfl, Kp.refl _ _⟩
  case round =>
    obtain ⟨k, m, cc, ao, hk, rfl, rfl, Ar⟩ := hrel
    have HA := hide Ar
    clear Ar
    by_cases hlt : k < N
    · have hlt2 : (k : Int) < (N : Int) := by omega
      have hkl : k < ls.length := by have := unhide HN; omega
      have HE : Hid ((ls.take (k + 1)).map tleafP = (ls.take k).map tleafP ++ [tleafP ls[k]]) := hide (by rw [List.take_succ_eq_append_getElem hkl, List.map_append]; rfl)
      have hx := List.getElem?_eq_getElem hkl
      have hml := unhide HM ls[k] (List.getElem_mem hkl)
      have HLN : Hid (((ls.take k).map tleafP).length ≤ 1000000) := hide (by simp; omega)
      obtain ⟨x, hxx⟩ : ∃ x, x = ls[k] := ⟨_, rfl⟩
      rw [← hxx] at HE hx hml
      obtain ⟨-, b, off, u, rfl, hc, hS, hB⟩ := (unhide HL).at k x hx
      have Kr := (unhide HA).kp
      have hcw := Kr.cell hc (by simp)
      have hSw := hS.kept Kr (by simp)
      obtain ⟨ax, cx, hux, _⟩ := hS
      obtain ⟨nx, hnx⟩ : ∃ nx, nx = x.length := ⟨_, rfl⟩
      rw [← hnx] at hux
      subst hux
      obtain ⟨r, hr⟩ : ∃ r, r = tleafP x := ⟨_, rfl⟩
      rw [← hr] at HE
      have HRB : Hid (Bs r) := by rw [hr]; exact sha_bs _
      have HC := hide (rleaf_any _ x r hr wr hSw hB (by omega))
      clear hx hxx hkl hc hSw hB hnx hr Kr
      go_wp2_with fail
      refine (unhide HC).mono ?_
      rintro ee w4 ⟨a4, m4, c4, rfl, R4, K4⟩
      have HR4 := hide R4
      have HK4 := hide K4
      clear R4 K4 HC hcw
      go_wp2_with (at_builtin; refine wpList_acc rfl (.tmp 11) (.tmp 17) rfl _ _ rfl (unhide HA) (unhide HLN) _ r (unhide HK4) (unhide HR4) (unhide HRB) rfl ?_; intro ao5 m5 c5 w5 A5)
      go_roundw
      case rel => exact ⟨k + 1, m5, c5, ao5, by omega, rfl, by go_num, by have e := unhide HE; rw [e]; exact A5⟩
      case measure => simp [intOf]; omega
    · obtain rfl : k = N := by omega
      have e : (ls.take k).map tleafP = ls.map tleafP := by rw [unhide HN, List.take_length]
      rw [e] at HA
      clear e
      go_wp2_with fail
      go_ret
      exact ⟨ao, m, cc, rfl, unhide HA⟩
end Go.Proofs.YtillhpgdlmeajaaGreatDoor
