/-
  The contract of the reference ledger's Read.
-/
import Derived.Test.YtillhpgdlmeajaaGreatDoorQB1
import Derived.Test.YtillhpgdlmeajaaGreatDoorQB3
import Derived.Test.YtillhpgdlmeajaaGreatDoorQLedgerPlays1
import Derived.Test.YtillhpgdlmeajaaGreatDoorQB2
import Derived.Test.YtillhpgdlmeajaaGreatDoorQB4
import Derived.Test.YtillhpgdlmeajaaGreatDoorQB5
import Derived.Test.YtillhpgdlmeajaaGreatDoorQLedgerPlays2
import Derived.Test.YtillhpgdlmeajaaGreatDoorQB6
import Derived.Test.YtillhpgdlmeajaaGreatDoorQB7
import Derived.BigQuiet
namespace Go.Proofs.YtillhpgdlmeajaaGreatDoor
open Go.RowKit
open Go.Proofs
set_option linter.unusedVariables false
theorem red_of {rs m : List (List Int)} {k : Nat} (h : gatU [] (rs.take k) = some m) (hm : 256 < m.length) : redU rs = none := by
  unfold redU
  have e : gatU [] rs = (gatU [] (rs.take k)).bind (fun x => gatU x (rs.drop k)) := by rw [← gatU_append, List.take_append_drop]
  rw [e, h]
  simp only [Option.bind_some]
  cases hg : gatU m (rs.drop k) with
  | none => rfl
  | some z =>
    obtain ⟨t, ht⟩ := gatU_pre hg
    simp only
    rw [if_neg]
    rw [ht, List.length_append]
    omega
theorem red_none_at {rs its : List (List Int)} {k : Nat} (hk : k < rs.length) (hg : gatU [] (rs.take k) = some its) (hu : unlU rs[k] = none) : redU rs = none := by
  unfold redU
  have : gatU [] (rs.take (k + 1)) = none := by rw [gatU_succ hk hg, hu]
  rw [gatU_none this]
theorem red_big {rs its xs : List (List Int)} {k : Nat} (hk : k < rs.length) (hg : gatU [] (rs.take k) = some its) (hu : unlU rs[k] = some xs) (hx : 256 < xs.length) : redU rs = none := by
  by_cases hn : (its ++ xs).Nodup
  · refine red_of (k := k + 1) (m := its ++ xs) ?_ (by rw [List.length_append]; omega)
    rw [gatU_succ hk hg, hu]
    simp only
    rw [if_pos hn]
  · unfold redU
    have : gatU [] (rs.take (k + 1)) = none := by
      rw [gatU_succ hk hg, hu]
      simp only
      rw [if_neg hn]
    rw [gatU_none this]
theorem red_dup {rs its ys : List (List Int)} {x : List Int} {k : Nat} (hk : k < rs.length) (hg : gatU [] (rs.take k) = some its) {o : Option (List (List Int))} (hu : unlU rs[k] = o.map ((ys ++ [x]) ++ ·)) (hx : x ∈ its ++ ys) : redU rs = none := by
  cases o with
  | none => exact red_none_at hk hg hu
  | some zs =>
    unfold redU
    have : gatU [] (rs.take (k + 1)) = none := by
      rw [gatU_succ hk hg, hu]
      simp only [Option.map_some]
      rw [if_neg]
      intro hn
      have e : its ++ (ys ++ [x] ++ zs) = (its ++ ys) ++ ([x] ++ zs) := by simp
      rw [e] at hn
      exact (List.nodup_append.1 hn).2.2 x hx x (by simp) rfl
    rw [gatU_none this]
theorem itsU_go {n : Nat} {b : List Int} (hb : (tkb false b 65535).2.1 = false) : itsU (n + 1) b = (itsU n (tkb false b 65535).2.2).map ((tkb false b 65535).1 :: ·) := by
  conv => lhs; unfold itsU
  rw [hb]
  rfl
theorem itsU_bad {n : Nat} {b : List Int} (hb : (tkb false b 65535).2.1 = true) : itsU (n + 1) b = none := by
  unfold itsU
  rw [hb]
  rfl
theorem itsU_len : ∀ (n : Nat) (b : List Int) (xs : List (List Int)), itsU n b = some xs → xs.length = n := by
  intro n
  induction n with
  | zero =>
    intro b xs h
    unfold itsU at h
    split at h
    · injection h with h; rw [← h]; rfl
    · cases h
  | succ n ih =>
    intro b xs h
    unfold itsU at h
    split at h
    · cases h
    · obtain ⟨ys, h1, h2⟩ := Option.map_eq_some_iff.1 h
      rw [← h2, List.length_cons, ih _ _ h1]
theorem unlU_at {x : List Int} (h4 : 4 ≤ x.length) (n : Nat) (hn : (val (x.take 4)).toNat = n) (h0 : n ≠ 0) : unlU x = itsU n (x.drop 4) := by
  unfold unlU
  rw [if_neg (by omega), hn, if_neg h0]
theorem unlU_zero {x : List Int} (h : (val (x.take 4)).toNat = 0) : unlU x = none := by
  unfold unlU
  rw [h]
  simp
theorem unlU_short {x : List Int} (h : x.length < 4) : unlU x = none := by
  unfold unlU
  rw [if_pos h]
theorem opnP_cnt (b : List Int) : (opnP b).1.length * 8 ≤ b.length := by
  induction hl : b.length using Nat.strongRecOn generalizing b with
  | ind n ih =>
    subst hl
    rw [opnP_eq]
    split
    · simp
    · split
      · simp
      · split
        · simp
        · have := ih (b.drop (8 + (num1 b).toNat)).length (by rw [List.length_drop]; omega) _ rfl
          rw [List.length_drop] at this
          simp only [List.length_cons]
          omega
/-- what is written elsewhere, or where an empty one lies, makes no odds. -/
theorem RowsQ.apart {w w' : World} {base : Nat} {v : Value} {l : List (Value × List Int)} {S : List Nat} (h : RowsQ w base v l) (k : Kp S w w') (h1 : ∀ i, v.ownBlock = some i → i ∉ S) (h2 : ∀ x ∈ l, ∀ i, x.1.ownBlock = some i → i ∈ S → x.2 = []) : RowsQ w' base v l :=
  ⟨⟨h.1.1.kept k h1, fun x hx => ⟨(h.1.2 x hx).1.apart k (h2 x hx), (h.1.2 x hx).2⟩⟩, h.2⟩
/-- a reference ledger that has items alone. -/
def RLi (w : World) (p : Nat) (vi : Value) : Prop := w.heap[p]? = some (.cells #[vi, .pointer none, .int .i64 0, .int .i64 0, .slice none 0 0, .int .i64 0, .slice none 0 0, .slice none 0 0, .bool false] 74 (0, 0))
theorem RLi.c0 {w : World} {p : Nat} {vi : Value} (h : RLi w p vi) : w.cell? ⟨p, 0, none⟩ = some vi := by rw [cell_of_row w p 0 _ _ _ h]; rfl
theorem RLi.f {w : World} {p : Nat} {vi : Value} (h : RLi w p vi) (i : Nat) : w.frozen? ⟨p, i, none⟩ = false := frozen_of_row w p i _ _ h
theorem RLi.set {w : World} {p : Nat} {vi : Value} (h : RLi w p vi) (u : Value) : RLi (w.setCell ⟨p, 0, none⟩ u) p u := by
  unfold RLi
  simpa using heap_setCell_same w p 0 _ _ u h
theorem RLi.kept {w w' : World} {p : Nat} {vi : Value} {S : List Nat} (h : RLi w p vi) (k : Kp S w w') (hp : p ∉ S) : RLi w' p vi := k.heap h hp
set_option maxHeartbeats 1000000 in
/-- nothing is read of no bytes. -/
theorem rraw_empty (q : Nat) (ao : Option Addr) (c : Nat) (w : World) (h : w.heap[q]? = some (.cells #[.slice ao 0 c, .int .i64 0, .bool false] 125 (0, 0))) :
    Calls Tryz.prog 106 #[.pointer (some ⟨q, 0, none⟩), .int .i64 4] w fun e w' => e = .returned (.slice none 0 0) ∧ w'.heap[q]? = some (.cells #[.slice ao 0 c, .int .i64 0, .bool true] 125 (0, 0)) ∧ Kp [q] w w' := by
  obtain ⟨hc0, hc1, hc2⟩ := cell_of_three h
  have hf := frozen_of_row w q 2 _ _ h
  have HB : Hid ((w.setCell ⟨q, 2, none⟩ (.bool true)).heap[q]? = some (.cells #[.slice ao 0 c, .int .i64 0, .bool true] 125 (0, 0)) ∧ Kp [q] w (w.setCell ⟨q, 2, none⟩ (.bool true))) := hide ⟨three_setCell2 h, kp_set w q 2 _⟩
  clear h
  go_enter Tryz.func106, Tryz.ntmps106
  go_wp2_with fail
  go_quiet (fail)
  go_wp2_with fail
  go_ret
  exact ⟨rfl, HB.out.1, HB.out.2.trans ((kp_drewN _ _).mono (by simp))⟩
set_option maxHeartbeats 1000000 in
theorem rnumb_empty (q : Nat) (ao : Option Addr) (c : Nat) (w : World) (h : w.heap[q]? = some (.cells #[.slice ao 0 c, .int .i64 0, .bool false] 125 (0, 0))) :
    Calls Tryz.prog 63 #[.pointer (some ⟨q, 0, none⟩), .int .i64 4] w fun e w' => e = .returned (.int .u32 0) ∧ w'.heap[q]? = some (.cells #[.slice ao 0 c, .int .i64 0, .bool true] 125 (0, 0)) ∧ Kp [q] w w' := by
  have HR := hide (rraw_empty q ao c w h)
  clear h
  go_enter Tryz.func63, Tryz.ntmps63
  go_wp2_with fail
  refine HR.out.mono ?_
  rintro e w1 ⟨rfl, h1, K1⟩
  have H1 := hide h1
  have HK1 := hide K1
  clear HR h1 K1
  go_wp2_with fail
  go_loop [5, 12] (fun x j => x = .int .u32 0 ∧ j = .int .i64 0) (fun _ _ => 0)
  case atStart => exact ⟨rfl, rfl⟩
  case round =>
    obtain ⟨rfl, rfl⟩ := hrel
    go_wp2
    go_ret
    exact ⟨rfl, H1.out, HK1.out⟩
/-- the reader at q has told t of the record's n items. -/
def RdI (p q : Nat) (w1 : World) (vx : Value) (x : List Int) (its : List (List Int)) (n t : Nat) (vi : Value) (wq : World) : Prop :=
  ∃ (ys : List (List Int)) (l : List (Value × List Int)) (i : Nat), RLi wq p vi ∧ RowsQ wq (p + 1) vi l ∧ l.map (·.2) = its ++ ys ∧ ys.length = t ∧ (its ++ ys).Nodup ∧ RR wq q vx i false x ∧ unlU x = (itsU (n - t) (rest i false x)).map (ys ++ ·) ∧ (∀ j, vi.ownBlock = some j → j ≠ q) ∧ (∀ y ∈ l, ∀ j, y.1.ownBlock = some j → y.2 ≠ [] → j ≠ q) ∧ Kp [] w1 wq ∧ q < wq.heap.size
set_option maxRecDepth 100000 in
set_option maxHeartbeats 8000000 in
theorem rread_any (v : Value) (b : List Int) (w : World) (hS : Sl w v b) (hB : Bs b) (hl : b.length ≤ 100000) (ok : Bool) (hok : ok = ((opnP b).2.2 && (redU (opnP b).1).isSome)) :
    Calls Tryz.prog 22 #[v] w fun e w' => ∃ ao m c, e = .returned (.tuple #[.slice ao m c, .bool ok]) ∧ Kp [] w w' ∧ ∀ its, ok = true → redU (opnP b).1 = some its → m = its.length ∧ ∃ l, RowsQ w' w.heap.size (.slice ao m c) l ∧ l.map (·.2) = its := by
  have HOp := hide (refopen_any v b w hS hB (by omega))
  have HBs := hide (opnP_bs hB)
  have HLn := hide (Nat.le_trans (opnP_len b) hl)
  have hcnt : (opnP b).1.length ≤ 100000 := by have := opnP_cnt b; omega
  obtain ⟨rs, hrs⟩ : ∃ rs, rs = (opnP b).1 := ⟨_, rfl⟩
  obtain ⟨at_, hat⟩ : ∃ x, x = (opnP b).2.1 := ⟨_, rfl⟩
  obtain ⟨k0, hk0⟩ : ∃ x, x = (opnP b).2.2 := ⟨_, rfl⟩
  rw [← hrs, ← hat, ← hk0] at HOp
  rw [← hrs] at HBs HLn hcnt ⊢
  rw [← hrs, ← hk0] at hok
  have HOk := hide hok
  obtain ⟨av, cv, hv, -⟩ := hS
  obtain ⟨nv, hnv⟩ : ∃ n, n = b.length := ⟨_, rfl⟩
  rw [← hnv] at hv
  subst hv
  clear hB hl hrs hat hk0 hok hnv
  go_enter Tryz.func22, Tryz.ntmps22
  go_wp2_with fail
  refine HOp.out.mono ?_
  rintro ee w1 ⟨ar, mr, cr, lr, rfl, R1, hlr, hmr, K1⟩
  have HR1 := hide R1
  have HLr := hide hlr
  have HMr := hide hmr
  have HK1 := hide K1
  clear HOp R1 hlr hmr K1
  cases k0 with
  | false =>
    have hokf : ok = false := by rw [HOk.out]; rfl
    subst hokf
    go_wp2_with fail
    go_ret2
    exact ⟨none, 0, 0, rfl, HK1.out, fun its h => by cases h⟩
  | true =>
    have HOk2 : Hid (ok = (redU rs).isSome) := hide (by rw [HOk.out]; simp)
    clear HOk
    obtain ⟨p, hp⟩ : ∃ p, p = w1.heap.size := ⟨_, rfl⟩
    obtain ⟨wp, hwp⟩ : ∃ y, y = w1.alloc (.cells #[.slice none 0 0, .pointer none, .int .i64 0, .int .i64 0, .slice none 0 0, .int .i64 0, .slice none 0 0, .slice none 0 0, .bool false] 74) := ⟨_, rfl⟩
    have hwps : wp.heap.size = p + 1 := by rw [hwp, hp]; simp
    have HPp : Hid (RLi wp p (.slice none 0 0)) := hide (by rw [hwp, hp]; exact heap_alloc_new w1 _)
    have HKp : Hid (Kp [] w1 wp) := hide (by rw [hwp]; exact (Kp.refl [] w1).alloc _)
    have HP0 : Hid (p = w1.heap.size) := hide hp
    have HWp := hide hwp
    have HWs := hide hwps
    obtain ⟨N, hN⟩ : ∃ N, N = lr.length := ⟨_, rfl⟩
    have HNl := hide hN
    have hmN : mr = N := by rw [HMr.out, ← HLr.out, List.length_map, hN]
    subst hmN
    have HNr : Hid (rs.length = mr) := hide HMr.out.symm
    have hm5 : mr ≤ 100000 := by rw [HMr.out]; exact hcnt
    clear hN hp hwp hwps hcnt
    go_wp2_with fail
    rw [← HWp.out, ← HP0.out]
    go_loopw [8] (fun i wr => ∃ k : Nat, k ≤ mr ∧ i = .int .i64 k ∧ ∃ its l ai mi ci, gatU [] (rs.take k) = some its ∧ RLi wr p (.slice ai mi ci) ∧ RowsQ wr (p + 1) (.slice ai mi ci) l ∧ l.map (·.2) = its ∧ its.length * 2 ≤ lenU (rs.take k) ∧ p < wr.heap.size ∧ Kp [] w1 wr) (fun i _ => mr - (intOf i).toNat)
    case atStart => exact ⟨0, by omega, rfl, [], [], none, 0, 0, rfl, HPp.out, rowsQ_nil _ _, rfl, by simp, by rw [HWs.out]; omega, HKp.out⟩
    case round =>
      obtain ⟨k, hk, rfl, its, l, ai, mi, ci, hg, hP, hR, hli, hil, hps, hK⟩ := hrel
      have HG := hide hg
      have HP := hide hP
      have HR := hide hR
      have HLi := hide hli
      have HIl := hide hil
      have HPs := hide hps
      have HK := hide hK
      clear HPp HKp hg hP hR hli hil hps hK
      by_cases hlt : k < mr
      · have hlt' : (k : Int) < (mr : Int) := by omega
        have hkr : k < rs.length := by rw [HNr.out]; exact hlt
        have hkl : k < lr.length := by rw [← HNl.out]; exact hlt
        have hrl : Lists w1 (.slice ar mr cr) lr := lists_big HR1.out (by rw [← HNl.out]; omega)
        obtain ⟨a0, c0, e0, -, hc0⟩ := hrl
        obtain ⟨b1, o1, e1, hcx, hSx, hBx⟩ := hc0 k hkl
        injection e0 with e2 e3 e4
        rw [← e2] at e1
        subst e1
        clear e3
        have ey : lr[k].2 = rs[k] := by simp [← HLr.out]
        rw [ey] at hSx hBx
        have hcw := HK.out.cell hcx (by simp)
        have hSw := hSx.kept HK.out (by simp)
        have hsucc := lenU_succ hkr
        have hltk := lenU_take rs (k + 1)
        have HnoA : Hid (unlU rs[k] = none → redU rs = none) := hide (red_none_at hkr HG.out)
        have HnoB : Hid (∀ xs, unlU rs[k] = some xs → 256 < xs.length → redU rs = none) := hide (fun xs h1 h2 => red_big hkr HG.out h1 h2)
        have HnoC : Hid (∀ ys x o, unlU rs[k] = Option.map ((ys ++ [x]) ++ ·) o → x ∈ its ++ ys → redU rs = none) := hide (fun ys x o h1 h2 => red_dup hkr HG.out h1 h2)
        have HSucc := hide (gatU_succ hkr HG.out)
        obtain ⟨x, hx⟩ : ∃ x, x = rs[k] := ⟨_, rfl⟩
        rw [← hx] at hSx hBx hSw hsucc HnoA HnoB HnoC HSucc
        have hxl : x.length ≤ 100000 := by have := HLn.out; omega
        have HLs := hide hsucc
        have HLt := hide hltk
        have HBx := hide hBx
        obtain ⟨ax, cx, hvx, -⟩ := id hSw
        obtain ⟨nx, hnx⟩ : ∃ n, n = x.length := ⟨_, rfl⟩
        rw [← hnx] at hvx
        rw [hvx] at hcw hSw hSx
        have HNx := hide hnx
        have HSo := hide hSx
        obtain ⟨q, hq⟩ : ∃ q, q = wr.heap.size := ⟨_, rfl⟩
        obtain ⟨w5, hw5⟩ : ∃ y, y = wr.alloc (.cells #[.slice ax nx cx, .int .i64 0, .bool false] 125) := ⟨_, rfl⟩
        have K5 : Kp [] wr w5 := by rw [hw5]; exact (Kp.refl [] wr).alloc _
        have hq5 : w5.heap[q]? = some (.cells #[.slice ax nx cx, .int .i64 0, .bool false] 125 (0, 0)) := by rw [hw5, hq]; exact heap_alloc_new wr _
        have HK5 := hide K5
        have HQ := hide hq
        have HW5 := hide hw5
        have HKq : Hid (∀ w', Kp [q] w5 w' → Kp [] w1 w') := hide (fun w' k => (HK.out.trans HK5.out).then k (fun i hi => .inr (by simp at hi; have := HK.out.size; have := HQ.out; omega)))
        by_cases h4 : x.length < 4
        · have hred := HnoA.out (unlU_short h4)
          have hokf : ok = false := by rw [HOk2.out, hred]; rfl
          subst hokf
          by_cases hx0 : x = []
          · have hn0 : nx = 0 := by rw [hnx, hx0]; rfl
            subst hn0
            have HN1 := hide (rnumb_empty q ax cx w5 hq5)
            clear hx hnx hsucc hltk hBx hSw hSx hvx hcx hc0 e2 e4 hq hw5 K5 ey hq5 h4 hx0 hred
            go_wp2_with fail
            rw [← HW5.out, ← HQ.out]
            refine HN1.out.mono ?_
            rintro ee w6 ⟨rfl, h6, K6⟩
            obtain ⟨d0, d1, d2⟩ := cell_of_three h6
            have HK6 := hide (HKq.out w6 K6)
            clear HN1 h6 K6
            go_wp2_with fail
            go_ret2
            exact ⟨none, 0, 0, rfl, HK1.out.trans HK6.out, fun its h => by cases h⟩
          · have hrr : RR w5 q (.slice ax nx cx) 0 false x := ⟨hq5, hSw.kept K5 (by simp), fun e => by have := sl_lt hSw hx0 e; omega, Nat.zero_le _⟩
            have HN1 := hide (rnumb_any q _ 0 false x 4 w5 hrr (by omega) (by omega) hBx)
            have hr0 : rest 0 false x = x := by show x.drop 0 = x; exact List.drop_zero
            rw [hr0, tk_no false x (4 : Nat) (.inr (by omega))] at HN1
            clear hx hnx hsucc hltk hBx hSw hSx hvx hcx hc0 e2 e4 hq hw5 K5 ey hq5 h4 hx0 hred hrr hr0
            go_wp2_with fail
            rw [← HW5.out, ← HQ.out]
            refine HN1.out.mono ?_
            rintro ee w6 ⟨rfl, i6, bad6, R6, e6, K6⟩
            have e6a : bad6 = true := (congrArg Prod.fst e6).symm
            subst e6a
            obtain ⟨d0, d1, d2⟩ := cell_of_three R6.1
            have HK6 := hide (HKq.out w6 K6)
            clear HN1 R6 K6 e6
            go_wp2_with fail
            go_ret2
            exact ⟨none, 0, 0, rfl, HK1.out.trans HK6.out, fun its h => by cases h⟩
        · have hx0 : x ≠ [] := fun e => h4 (by rw [e]; simp)
          have hrr : RR w5 q (.slice ax nx cx) 0 false x := ⟨hq5, hSw.kept K5 (by simp), fun e => by have := sl_lt hSw hx0 e; omega, Nat.zero_le _⟩
          have HN1 := hide (rnumb_any q _ 0 false x 4 w5 hrr (by omega) (by omega) hBx)
          have hr0 : rest 0 false x = x := by show x.drop 0 = x; exact List.drop_zero
          rw [hr0, tk_ok false x 4 (by omega)] at HN1
          obtain ⟨nI, hnI⟩ : ∃ n : Int, n = val (x.take 4) := ⟨_, rfl⟩
          have hnb := val_bd (x.take 4) (hBx.take 4)
          have hn4 : (x.take 4).length = 4 := by simp; omega
          rw [hn4, ← hnI] at hnb
          simp only [← hnI] at HN1
          obtain ⟨n, rfl⟩ := Int.eq_ofNat_of_zero_le hnb.1
          have hnle : n ≤ 4294967295 := by have := hnb.2; omega
          have hw64 : IntKind.i64.wrap (n : Int) = n := by simp [IntKind.wrap, IntKind.signed, IntKind.bits]; omega
          have hnN : (val (x.take 4)).toNat = n := by rw [← hnI]; rfl
          have HNn := hide hnN
          have H4 := hide h4
          have HX0 := hide hx0
          clear hnI hnb hn4 hr0 hrr hnN
          clear hx hsucc hltk hq hw5 K5 ey hq5 h4 hcx hc0 e2 e4 hnx hvx hBx hSw
          go_wp2_with fail
          rw [← HW5.out, ← HQ.out]
          refine HN1.out.mono ?_
          rintro ee w6 ⟨rfl, i6, bad6, R6, e6, K6⟩
          have e6a : bad6 = false := (congrArg Prod.fst e6).symm
          subst e6a
          have HE6 : Hid (rest i6 false x = x.drop 4) := hide ((congrArg Prod.snd e6).symm)
          obtain ⟨d0, d1, d2⟩ := cell_of_three R6.1
          have HK6 := hide (HKq.out w6 K6)
          have HKr6 : Hid (Kp [q] wr w6) := hide ((HK5.out.mono (by simp)).trans K6)
          have HR6 := hide R6
          clear HN1 R6 K6 e6
          by_cases hn1 : (n : Int) < 1
          · have hred := HnoA.out (unlU_zero (by rw [HNn.out]; omega))
            have hokf : ok = false := by rw [HOk2.out, hred]; rfl
            subst hokf
            have hd1 : decide ((n : Int) < 1) = true := decide_eq_true hn1
            clear hred
            go_wp2_with fail
            go_ret2
            exact ⟨none, 0, 0, rfl, HK1.out.trans HK6.out, fun its h => by cases h⟩
          · have hd1 : decide ((n : Int) < 1) = false := decide_eq_false hn1
            have hUn : unlU x = itsU n (x.drop 4) := unlU_at (by have := H4.out; omega) n HNn.out (by omega)
            by_cases hn2 : (256 : Int) < n
            · have hred : redU rs = none := by
                cases hu : unlU x with
                | none => exact HnoA.out hu
                | some xs => exact HnoB.out xs hu (by rw [hUn] at hu; rw [itsU_len _ _ _ hu]; omega)
              have hokf : ok = false := by rw [HOk2.out, hred]; rfl
              subst hokf
              have hd2 : decide ((256 : Int) < n) = true := decide_eq_true hn2
              clear hred hUn
              go_wp2_with fail
              go_ret2
              exact ⟨none, 0, 0, rfl, HK1.out.trans HK6.out, fun its h => by cases h⟩
            · have hd2 : decide ((256 : Int) < n) = false := decide_eq_false hn2
              have HUn := hide hUn
              have hn256 : n ≤ 256 := by omega
              have HQp : Hid (p < q) := hide (by rw [HQ.out]; exact HPs.out)
              have HP6 := hide (HP.out.kept HKr6.out (by have := HQp.out; simp; omega))
              have HI0 : Hid (RdI p q w1 (.slice ax nx cx) x its n 0 (.slice ai mi ci) w6) := hide (by
                refine ⟨[], l, i6, HP6.out, HR.out.apart HKr6.out (fun i hi hm => ?_) (fun y hy i hi hm => ?_), by rw [HLi.out]; simp, rfl, ?_, HR6.out, ?_, fun j hj e => ?_, fun y hy j hj hne e => ?_, HK6.out, ?_⟩
                · have := HR.out.1.1.lt hi; have := HQ.out; simp at hm; omega
                · by_cases hy0 : y.2 = []
                  · exact hy0
                  · have := sl_lt (HR.out.1.2 y hy).1 hy0 hi; have := HQ.out; simp at hm; omega
                · rw [List.append_nil]; exact gatU_nodup (l := []) (by simp) HG.out
                · rw [HE6.out, HUn.out]; simp
                · have := HR.out.1.1.lt hj; have := HQ.out; omega
                · have := sl_lt (HR.out.1.2 y hy).1 hne hj; have := HQ.out; omega
                · have := HKr6.out.size; have := lt_of_block HR6.out.1; omega)
              have hnl : its.length ≤ 50000 := by have := HIl.out; have := HLn.out; have := lenU_take rs k; omega
              clear hUn HR6 HE6 HKr6 HP6 HP HR HLi
              go_wp2_with fail
              go_loopw [11] (fun s wq => ∃ t : Nat, t ≤ n ∧ s = .int .i64 t ∧ ∃ a m c, RdI p q w1 (.slice ax nx cx) x its n t (.slice a m c) wq) (fun s _ => n - (intOf s).toNat)
              case atStart => exact ⟨0, by omega, rfl, ai, mi, ci, HI0.out⟩
              case round =>
                clear HI0
                obtain ⟨t, ht, rfl, ai, mi, ci, ys, l, i, hP, hR, hly, hyl, hnd, hRR, hun, hro, heo, hK, hqs⟩ := hrel
                have HP := hide hP
                have HR := hide hR
                have HLy := hide hly
                have HYl := hide hyl
                have HNd := hide hnd
                have HRR := hide hRR
                have HUn2 := hide hun
                have HRo := hide hro
                have HEo := hide heo
                have HKw := hide hK
                have HQs := hide hqs
                have hll : l.length ≤ 60000 := by
                  have h1 := congrArg List.length hly
                  rw [List.length_map, List.length_append] at h1
                  omega
                have hRR0 := hRR
                clear hP hR hly hyl hnd hun hro heo hK hqs
                by_cases htn : t < n
                · have htn' : (t : Int) < (n : Int) := by omega
                  obtain ⟨m, hm⟩ : ∃ m, n - t = m + 1 := ⟨n - t - 1, by omega⟩
                  rw [hm] at HUn2
                  have HRb := hide (rbyt_any q (.slice ax nx cx) i false x 65535 wr hRR0 (by omega) HBx.out (by omega))
                  obtain ⟨T, hT⟩ : ∃ T, T = tkb false (rest i false x) 65535 := ⟨_, rfl⟩
                  have hstep := fun (hb : T.2.1 = false) => itsU_go (n := m) (b := rest i false x) (by rw [← hT]; exact hb)
                  have hbad := fun (hb : T.2.1 = true) => itsU_bad (n := m) (b := rest i false x) (by rw [← hT]; exact hb)
                  have hBT : Bs T.1 := by rw [hT]; exact tkb_bs1 (rest_bs HBx.out)
                  have hlT : T.1.length ≤ 65535 := by
                    rw [hT]; exact tkbU_short false _ 65535 (rest_bs HBx.out)
                  rw [← hT] at HRb
                  rw [← hT] at hstep
                  obtain ⟨y, s1, s2⟩ := T
                  simp only at HRb hstep hbad hBT hlT
                  have HSt := hide hstep
                  have HBd := hide hbad
                  have HBT := hide hBT
                  clear hT hstep hbad hBT hRR0 hRR
                  go_wp2_with fail
                  refine HRb.out.mono ?_
                  rintro ee w8 ⟨ay, my, cy, rfl, hO, i8, bad8, R8, e8, K8⟩
                  injection e8 with e81 e82
                  subst e81 e82
                  obtain ⟨d0, d1, d2⟩ := cell_of_three R8.1
                  have HR8 := hide R8
                  have HO8 := hide hO
                  have HK8 := hide K8
                  have HKq8 : Hid (Kp [] w1 w8) := hide (HKw.out.then K8 (fun j hj => .inr (by simp at hj; have := HQp.out; have := HP0.out; omega)))
                  have HP8 := hide (HP.out.kept K8 (by have := HQp.out; simp; omega))
                  have HRw8 := hide (HR.out.apart K8 (fun j hj hm => by simp at hm; exact HRo.out j hj hm) (fun y hy j hj hm => by
                    by_cases hy0 : y.2 = []
                    · exact hy0
                    · simp at hm; exact absurd hm (HEo.out y hy j hj hy0)))
                  clear HRb R8 hO K8
                  cases s1 with
                  | true =>
                    have hred := HnoA.out (by rw [HUn2.out, HBd.out rfl]; rfl)
                    have hokf : ok = false := by rw [HOk2.out, hred]; rfl
                    subst hokf
                    clear hred
                    go_wp2_with fail
                    go_ret2
                    exact ⟨none, 0, 0, rfl, HK1.out.trans HKq8.out, fun its h => by cases h⟩
                  | false =>
                    have HSx := HO8.out.1
                    obtain ⟨r, hr⟩ : ∃ r, r = fdU (l.map (·.2)) y := ⟨_, rfl⟩
                    have HFd := hide (rfind_any p (.slice ai mi ci) l (.slice ay my cy) y r w8 HP8.out.c0 (HRw8.out.lists (by omega)) HSx HBT.out (by omega) hr)
                    have hun3 : unlU x = (itsU m (rest i8 false x)).map ((ys ++ [y]) ++ ·) := by
                      rw [HUn2.out, HSt.out rfl, Option.map_map]
                      congr 1
                      funext z
                      simp
                    have HU3 := hide hun3
                    rw [HLy.out] at hr
                    clear hun3 HSx
                    by_cases hin : y ∈ its ++ ys
                    · have hr0 : 0 ≤ r := by rw [hr]; unfold fdU; rw [if_pos hin]; omega
                      have hred := HnoC.out ys y _ HU3.out hin
                      have hokf : ok = false := by rw [HOk2.out, hred]; rfl
                      subst hokf
                      have hdr : decide (0 ≤ r) = true := decide_eq_true hr0
                      clear hred hr hin
                      go_wp2_with fail
                      refine HFd.out.mono ?_
                      rintro ee w9 ⟨rfl, K9⟩
                      have HK9 := hide (HKq8.out.trans K9)
                      clear HFd K9
                      go_wp2_with fail
                      go_ret2
                      exact ⟨none, 0, 0, rfl, HK1.out.trans HK9.out, fun its h => by cases h⟩
                    · have hr0 : r = -1 := by rw [hr]; unfold fdU; rw [if_neg hin]
                      have HIn := hide hin
                      subst hr0
                      clear hr hin
                      go_wp2_with fail
                      refine HFd.out.mono ?_
                      rintro ee w9 ⟨rfl, K9⟩
                      have HP9 := hide (HP8.out.kept K9 (by simp))
                      have hc9 := HP9.out.c0
                      have HRw9 := hide (HRw8.out.apart K9 (by simp) (by simp))
                      have HR9 := hide (HR8.out.kept K9 (by simp) (by simp))
                      have HS9 := hide (HO8.out.1.kept K9 (by simp))
                      have HK9 := hide (HKq8.out.trans K9)
                      have HKw9 := hide (HK8.out.trans (K9.mono (by simp)))
                      clear HFd K9
                      go_wp2_with (
                        at_builtin
                        refine wpList_rowsR rfl (.tmp 71) (.tmp 73) rfl (.slice ai mi ci) l rfl HRw9.out (by have := HKw9.out.size; have := HQs.out; have := HQp.out; omega) (by omega) (.slice ay my cy) y HS9.out (fun j h1 h2 => by have := HO8.out.2 j h1; have := HR.out.1.1.lt h2; omega) (fun j h1 => by have := HO8.out.2 j h1; have := HQs.out; have := HQp.out; omega) HBT.out rfl ?_
                        intro a7 m7 c7 w7 hm7 P7 S7
                        have HP7 := hide (HP9.out.kept S7.1 (fun hm => by
                          have h1 : (Value.slice ai mi ci).ownBlock = some p := by simpa [Option.mem_toList] using hm
                          have := HR.out.1.1.own p h1
                          omega))
                        have hc7 := HP7.out.c0
                        have hf7 := HP7.out.f 0
                        have HPw7 := hide P7
                        have HS7 := hide S7
                        have HM7 := hide hm7
                        clear P7 S7 hc9 hm7)
                      go_roundw
                      case rel =>
                        have hpo : ∀ j ∈ (Value.slice ai mi ci).ownBlock.toList, p < j ∧ j ≠ q := fun j hj => by
                          have h1 : (Value.slice ai mi ci).ownBlock = some j := by simpa [Option.mem_toList] using hj
                          exact ⟨HR.out.1.1.own j h1, HRo.out j h1⟩
                        have hxo : ∀ j, (Value.slice ax nx cx).ownBlock = some j → j < p := fun j hj => by
                          have := sl_lt HSo.out HX0.out hj; have := HP0.out; omega
                        have k9 : Kp [p] w7 (w7.setCell ⟨p, 0, none⟩ (.slice a7 m7 c7)) := kp_set w7 p 0 _
                        have hs7 := HS7.out.1.size
                        refine ⟨t + 1, by omega, by go_num, a7, m7, c7, ys ++ [y], l ++ [(.slice ay my cy, y)], i8, HP7.out.set _, HPw7.out.kept k9 (by simp), ?_, by rw [List.length_append, HYl.out]; rfl, ?_, ?_, ?_, ?_, ?_, ?_, ?_⟩
                        · rw [List.map_append, HLy.out, List.append_assoc]; rfl
                        · rw [← List.append_assoc, List.nodup_append]
                          refine ⟨HNd.out, by simp, fun u hu z hz e => ?_⟩
                          simp at hz
                          subst hz
                          subst e
                          exact HIn.out hu
                        · refine (HR9.out.kept HS7.out.1 (fun hm => (hpo q hm).2 rfl) (fun j hj hm => by have := hxo j hj; have := (hpo j hm).1; omega)).kept k9 (by have := HQp.out; simp; omega) (fun j hj hm => by simp at hm; have := hxo j hj; omega)
                        · rw [show n - (t + 1) = m by omega]
                          exact HU3.out
                        · intro j hj e
                          rcases HS7.out.2 j hj with h1 | h1
                          · exact HRo.out j h1 e
                          · have := HKw9.out.size; have := HQs.out; omega
                        · intro z hz j hj hne e
                          rcases List.mem_append.1 hz with hz | hz
                          · exact HEo.out z hz j hj hne e
                          · obtain rfl : z = (.slice ay my cy, y) := by simpa using hz
                            have := HO8.out.2 j hj; have := HQs.out; omega
                        · refine ((HK9.out.then HS7.out.1 (fun j hj => .inr (by have := (hpo j hj).1; have := HP0.out; omega)))).then k9 (fun j hj => .inr (by simp at hj; have := HP0.out; omega))
                        · have h1 : (w7.setCell ⟨p, 0, none⟩ (.slice a7 m7 c7)).heap.size = w7.heap.size := by simp [World.setCell]
                          rw [h1]
                          have := HKw9.out.size; have := HQs.out; omega
                      case measure => simp [intOf]; omega
                · obtain rfl : t = n := by omega
                  have htn' : ¬ (t : Int) < (t : Int) := by omega
                  have HEn := hide (rend_any q (.slice ax nx cx) i false x wr hRR0)
                  obtain ⟨R, hR⟩ : ∃ R, R = rest i false x := ⟨_, rfl⟩
                  rw [← hR, Nat.sub_self] at HUn2
                  rw [← hR] at HEn
                  clear hR hRR0 hRR HRR
                  by_cases hRe : R = []
                  · have hun4 : unlU x = some ys := by
                      rw [HUn2.out, hRe]
                      simp [itsU]
                    have hbs := unlU_bs HBx.out hun4
                    have hg2 : gatU [] (rs.take (k + 1)) = some (its ++ ys) := by
                      rw [HSucc.out, hun4]
                      simp only
                      rw [if_pos HNd.out]
                    have HG2 := hide hg2
                    have HY2 := hide hbs.2
                    have he : (!false && R.isEmpty) = true := by rw [hRe]; rfl
                    rw [he] at HEn
                    clear hun4 hbs hg2 he hRe
                    go_wp2_with fail
                    refine HEn.out.mono ?_
                    rintro ee w9 ⟨rfl, nd, hw9⟩
                    subst w9
                    clear HEn
                    go_wp2_with fail
                    go_roundw
                    case rel =>
                      refine ⟨k + 1, by omega, by go_num, its ++ ys, l, ai, mi, ci, HG2.out, HP.out.kept (kp_drewN _ _) (by simp), HR.out.kept (kp_drewN _ _) (by simp), HLy.out, ?_, ?_, HKw.out.trans (kp_drewN _ _)⟩
                      · rw [List.length_append, HLs.out]; have := HIl.out; have := HY2.out; omega
                      · have := HQp.out; have := HQs.out; show p < wr.heap.size; omega
                    case measure => simp [intOf]; omega
                  · have hun4 : unlU x = none := by
                      rw [HUn2.out]
                      simp [itsU, hRe]
                    have hred := HnoA.out hun4
                    have hokf : ok = false := by rw [HOk2.out, hred]; rfl
                    subst hokf
                    have he : (!false && R.isEmpty) = false := by cases R with | nil => exact absurd rfl hRe | cons _ _ => rfl
                    rw [he] at HEn
                    clear hun4 hred he hRe
                    go_wp2_with fail
                    refine HEn.out.mono ?_
                    rintro ee w9 ⟨rfl, nd, hw9⟩
                    subst w9
                    have HK9 := hide (HKw.out.trans (kp_drewN wr nd))
                    clear HEn
                    go_wp2_with fail
                    go_ret2
                    exact ⟨none, 0, 0, rfl, HK1.out.trans HK9.out, fun its h => by cases h⟩
      · obtain rfl : k = mr := by omega
        have hlt' : ¬ (k : Int) < (k : Int) := by omega
        have hmi : mi = its.length := by have h1 := HR.out.1.1.len; rw [List.length_map] at h1; rw [h1, ← HLi.out, List.length_map]
        have hr : redU rs = if mi ≤ 256 then some its else none := by
          unfold redU
          have e : rs.take k = rs := List.take_of_length_le (by rw [HNr.out]; omega)
          have hg := HG.out
          rw [e] at hg
          rw [hg, hmi]
        have hokd : ok = decide ((mi : Int) ≤ 256) := by
          rw [HOk2.out, hr]
          by_cases h : mi ≤ 256
          · rw [if_pos h, decide_eq_true (by omega)]; rfl
          · rw [if_neg h, decide_eq_false (by omega)]; rfl
        have HRr := hide hr
        have HOkd := hide hokd
        have HMi := hide hmi
        have hc := (HP.out.kept (kp_drew wr) (by simp)).c0
        clear hr hokd hmi
        go_wp2_with fail
        refine region_read Tryz.mixed (by kernel_rfl) ?_
        repeat (first | go_big_quiet_skip | (go_big_quiet_want; go_big_quiet_op; go_big_quiet_on))
        refine wpQuiet_nil ?_
        go_wp2_with fail
        go_ret2
        refine ⟨ai, mi, ci, by rw [HOkd.out]; rfl, HK1.out.trans (HK.out.trans (kp_drew wr)), fun its2 ho h2 => ?_⟩
        rw [HRr.out] at h2
        split at h2
        · injection h2 with h2
          subst h2
          exact ⟨HMi.out, l, (HR.out.kept (kp_drew wr) (by simp)).rebase (by have := HK1.out.size; have := HP0.out; omega), HLi.out⟩
        · cases h2
end Go.Proofs.YtillhpgdlmeajaaGreatDoor

/-
  The contract of the reference's Split.
-/
namespace Go.Proofs.YtillhpgdlmeajaaGreatDoor
open Go.RowKit
set_option maxHeartbeats 1000000 in
set_option maxRecDepth 100000 in
theorem rsplit_any (n : Int) (k : Nat) (w : World) (hk : k = tsplP n.toNat) (hn : -9223372036854775808 ≤ n ∧ n ≤ 9223372036854775807) :
    Calls Tryz.prog 70 #[.int .i64 n] w fun e w' => e = .returned (.int .i64 k) ∧ w' = w := by
  by_cases h2 : n < 2
  · rw [tsplP_small (by omega)] at hk
    subst hk
    go_enter Tryz.func70, Tryz.ntmps70
    go_wp2_with fail
    go_ret
    exact ⟨rfl, rfl⟩
  · have HK := hide hk
    clear hk
    go_enter Tryz.func70, Tryz.ntmps70
    go_wp2_with fail
    go_loopw [3] (fun v wr => ∃ (j q : Nat), q = 2 ^ j ∧ (q : Int) < n ∧ v = .int .i64 q ∧ wr = w) (fun v _ => n.toNat - (intOf v).toNat)
    case atStart => exact ⟨0, 1, rfl, by omega, rfl, rfl⟩
    case round =>
      obtain ⟨j, q, hq, hqn, rfl, hw⟩ := hrel
      subst wr
      have hq1 : 1 ≤ q := by rw [hq]; exact Nat.one_le_two_pow
      have HQ := hide hq
      clear hq
      by_cases hc : (q : Int) < n - q
      · go_wp2_with fail
        go_roundw
        case rel => exact ⟨j + 1, 2 * q, by rw [Nat.pow_succ, ← unhide HQ]; omega, by omega, by go_num, trivial⟩
        case measure => simp [intOf]; omega
      · go_wp2_with fail
        go_ret
        refine ⟨?_, rfl⟩
        have e : tsplP n.toNat = q := by rw [unhide HQ]; exact tsplP_of (by rw [← unhide HQ]; omega) (by rw [← unhide HQ]; omega)
        rw [unhide HK, e]
        rfl
end Go.Proofs.YtillhpgdlmeajaaGreatDoor

/-
  The contracts of the reference's Root and Leaves.
-/
namespace Go.Proofs.YtillhpgdlmeajaaGreatDoor
open Go.RowKit
open Go.Proofs
/-- u is the one slice of the list v. -/
def AtOne (v u : Value) (w : World) : Prop := ∃ b off c, v = .slice (some ⟨b, off, none⟩) 1 c ∧ w.cell? ⟨b, off, none⟩ = some u
set_option maxRecDepth 100000 in
set_option maxHeartbeats 2000000 in
theorem rroot_row (n : Nat) : ∀ (v : Value) (ls : List (List Int)) (r : List Int) (w : World), r = trootP ls → ls.length = n → n ≤ 100000 → LcM ls v w → (∀ x ∈ ls, x.length ≤ 1000) →
    Calls Tryz.prog 24 #[v] w fun e w' => ∃ ao m c, e = .returned (.slice ao m c) ∧ (Row w' w.heap.size (.slice ao m c) r ∨ AtOne v (.slice ao m c) w) ∧ Sl w' (.slice ao m c) r ∧ Kp [] w w' := by
  induction n using Nat.strongRecOn with
  | ind n ih =>
    intro v ls r w hr hlen hn hL hm
    have hbs := hL.bs
    obtain ⟨ao, c, e, h1, h2, h3⟩ := hL.shape
    rw [hlen] at e h1
    subst e
    rcases (by omega : n = 0 ∨ n = 1 ∨ 2 ≤ n) with rfl | rfl | h2n
    · have e : ls = [] := List.eq_nil_of_length_eq_zero hlen
      rw [e, trootP_nil] at hr
      have HC := hide (refsum_at (.slice none 0 0) [] r hr w (Sl.nil w) (fun b hb => by cases hb) (by simp))
      clear hbs hm hL hr e ih h1 h3 hlen
      go_enter Tryz.func24, Tryz.ntmps24
      go_wp2_with fail
      refine (unhide HC).mono ?_
      rintro ee w2 ⟨ao2, m2, c2, rfl, R2, K2⟩
      have HR2 := hide R2
      have HK2 := hide K2
      clear R2 K2 HC
      go_wp2_with fail
      go_ret
      exact ⟨ao2, m2, c2, rfl, .inl (unhide HR2), (unhide HR2).sl, unhide HK2⟩
    · obtain ⟨x, rfl⟩ : ∃ x, ls = [x] := by
        match ls, hlen with
        | [x], _ => exact ⟨x, rfl⟩
      rw [trootP_one] at hr
      subst hr
      obtain ⟨-, b, off, u, rfl, hc, hS, -⟩ := hL.at 0 r rfl
      have HS := hide hS
      obtain ⟨ax, cx, hux, _⟩ := hS
      obtain ⟨nx, hnx⟩ : ∃ nx, nx = r.length := ⟨_, rfl⟩
      rw [← hnx] at hux
      subst hux
      rw [Nat.add_zero] at hc
      have HAT : Hid (AtOne (.slice (some ⟨b, off, none⟩) 1 c) (.slice ax nx cx) w) := ⟨b, off, c, rfl, hc⟩
      clear hbs hm hL ih h1 h3 hlen hnx
      go_enter Tryz.func24, Tryz.ntmps24
      go_wp2_with fail
      go_ret
      exact ⟨_, _, _, rfl, .inr (unhide HAT), unhide HS, Kp.refl _ _⟩
    · obtain ⟨k, hk⟩ : ∃ k, k = tsplP n := ⟨_, rfl⟩
      have hk1 : 1 ≤ k := by rw [hk]; exact tsplP_pos h2n
      have hk2 : k < n := by rw [hk]; exact tsplP_lt h2n
      rw [trootP_more (by omega), hlen, ← hk] at hr
      obtain ⟨ra, hra⟩ : ∃ r, r = trootP (ls.take k) := ⟨_, rfl⟩
      obtain ⟨rb, hrb⟩ : ∃ r, r = trootP (ls.drop k) := ⟨_, rfl⟩
      rw [← hra, ← hrb] at hr
      have HR := hide hr
      have HA := hide (fun v w hL => ih k hk2 v (ls.take k) ra w hra (by simp; omega) (by omega) hL (fun x hx => hm x (List.mem_of_mem_take hx)))
      have HB := hide (fun v w hL => ih (n - k) (by omega) v (ls.drop k) rb w hrb (by simp; omega) (by omega) hL (fun x hx => hm x (List.mem_of_mem_drop hx)))
      have HAb : Hid (Bs ra) := by rw [hra]; exact trootP_bs _ (fun x hx => hbs x (List.mem_of_mem_take hx))
      have HBb : Hid (Bs rb) := by rw [hrb]; exact trootP_bs _ (fun x hx => hbs x (List.mem_of_mem_drop hx))
      have hal : ra.length ≤ 1000 := by rw [hra]; exact trootP_le 1000 (by omega) _ (fun x hx => hm x (List.mem_of_mem_take hx))
      have hbl : rb.length ≤ 1000 := by rw [hrb]; exact trootP_le 1000 (by omega) _ (fun x hx => hm x (List.mem_of_mem_drop hx))
      have HC := hide (rsplit_any n k w (by rw [Int.toNat_natCast]; exact hk) (by omega))
      have HKL : Hid (k ≤ ls.length) := hide (by omega)
      have HLL : Hid (∀ w', Kp [] w.drew w' → LcM ls (.slice ao n c) w') := fun w' k' => hL.kept ((kp_drew w).trans k')
      have hn0 : ¬ (n : Int) = 0 := by omega
      have hn1 : ¬ (n : Int) = 1 := by omega
      clear hbs hm hL ih h1 h3 hlen hr hra hrb hk
      go_enter Tryz.func24, Tryz.ntmps24
      go_wp2_with fail
      refine (unhide HC).mono ?_
      rintro ee w2 ⟨rfl, hw⟩
      subst w2
      clear HC hn0 hn1
      go_wp2_with fail
      obtain ⟨B, hB⟩ : ∃ B, B = w.heap.size := ⟨_, rfl⟩
      have HBW : Hid (∀ w', Kp [] w.drew w' → B ≤ w'.heap.size) := fun w' k' => by rw [hB]; exact k'.size
      have HBB := hide hB
      clear hB
      refine region_grow Tryz.mixed [Is (.slice ao n c), Is (.int .i64 k), LcM ((ls).take k), SlT (ra), Is (.slice ao n c), Is (.int .i64 k), LcM ((ls).drop k), SlT (rb), RwT B r, RwT B r] [[(0, none)], [(3, none)], [(17, some 0), (18, some 1)], [(19, some 2)], [(0, none)], [(3, none)], [(21, some 4), (22, some 5)], [(23, some 6)], [(20, some 3), (24, some 7)], [(25, some 8)]] (by kernel_rfl) ?_ ?_ ?_
      · simp only [List.mem_cons, List.not_mem_nil, or_false]
        intro R hR
        rcases hR with rfl | rfl | rfl | rfl | rfl | rfl | rfl | rfl | rfl | rfl <;> first | exact stable_is _ | exact stable_lcm _ | exact stable_sl _ | exact stable_rw _ _
      · refine steps_cons (fun a w hk hn => ?_) ?_
        · have h0 : a.eval (.tmp 0) = .slice ao n c := hn.1
          clear hn
          refine wants_plain rfl ?_
          exact grown_move (.tmp 0) rfl h0
        refine steps_cons (fun a w hk hn => ?_) ?_
        · have h3 : a.eval (.tmp 3) = .int .i64 k := hn.1
          clear hn
          refine wants_plain rfl ?_
          exact grown_move (.tmp 3) rfl h3
        refine steps_cons (fun a w hk hn => ?_) ?_
        · have h17 : a.eval (.tmp 17) = .slice ao n c := hn.1
          have h18 : a.eval (.tmp 18) = .int .i64 k := hn.2.1
          clear hn
          refine wants_plain rfl ?_
          exact grown_lhead (.tmp 17) (.tmp 18) (ls) k rfl (by rw [h17]; exact unhide HLL w hk) h18 (unhide HKL)
        refine steps_cons (fun a w hk hn => ?_) ?_
        · have h19 : (LcM ((ls).take k)) (a.eval (.tmp 19)) w := hn.1
          clear hn
          refine wants_plain rfl ?_
          refine grown_call (f := 24) rfl Tryz.func24 (by kernel_rfl) (by kernel_rfl) ?_
          simp only [List.map_toArray, List.map_cons, List.map_nil]
          refine (unhide HA _ w h19).mono ?_
          rintro e w' ⟨ao, m, c, rfl, -, R, K⟩
          exact ⟨_, rfl, K, R⟩
        refine steps_cons (fun a w hk hn => ?_) ?_
        · have h0 : a.eval (.tmp 0) = .slice ao n c := hn.1
          clear hn
          refine wants_plain rfl ?_
          exact grown_move (.tmp 0) rfl h0
        refine steps_cons (fun a w hk hn => ?_) ?_
        · have h3 : a.eval (.tmp 3) = .int .i64 k := hn.1
          clear hn
          refine wants_plain rfl ?_
          exact grown_move (.tmp 3) rfl h3
        refine steps_cons (fun a w hk hn => ?_) ?_
        · have h21 : a.eval (.tmp 21) = .slice ao n c := hn.1
          have h22 : a.eval (.tmp 22) = .int .i64 k := hn.2.1
          clear hn
          refine wants_plain rfl ?_
          exact grown_lfrom (.tmp 21) (.tmp 22) (ls) k rfl (by rw [h21]; exact unhide HLL w hk) h22 (unhide HKL)
        refine steps_cons (fun a w hk hn => ?_) ?_
        · have h23 : (LcM ((ls).drop k)) (a.eval (.tmp 23)) w := hn.1
          clear hn
          refine wants_plain rfl ?_
          refine grown_call (f := 24) rfl Tryz.func24 (by kernel_rfl) (by kernel_rfl) ?_
          simp only [List.map_toArray, List.map_cons, List.map_nil]
          refine (unhide HB _ w h23).mono ?_
          rintro e w' ⟨ao, m, c, rfl, -, R, K⟩
          exact ⟨_, rfl, K, R⟩
        refine steps_cons (fun a w hk hn => ?_) ?_
        · have h20 : Sl w (a.eval (.tmp 20)) (ra) := hn.1
          have h24 : Sl w (a.eval (.tmp 24)) (rb) := hn.2.1
          clear hn
          refine wants_plain rfl ?_
          refine grown_call (f := 71) rfl Tryz.func71 (by kernel_rfl) (by kernel_rfl) ?_
          simp only [List.map_toArray, List.map_cons, List.map_nil]
          refine (rnode_any _ _ ra rb r (unhide HR) w h20 (unhide HAb) (by omega) h24 (unhide HBb) (by omega)).mono ?_
          rintro e w' ⟨ao, m, c, rfl, R, K⟩
          exact ⟨_, rfl, K, ⟨ao, m, c, rfl, owns_rebase R (fun i hi => Nat.le_trans (unhide HBW w hk) (Row.own R i hi))⟩⟩
        refine steps_cons (fun a w hk hn => ?_) ?_
        · have h25 : (RwT B r) (a.eval (.tmp 25)) w := hn.1
          clear hn
          refine wants_plain rfl ?_
          exact grown_assign (.tmp 25) rfl h25
        exact trivial
      intro W1 hkW1
      rintro _ rfl
      rintro _ rfl
      intro v19 h19
      intro v20 h20
      rintro _ rfl
      rintro _ rfl
      intro v23 h23
      intro v24 h24
      intro v25 h25
      intro v2 h2
      refine fin_nil ?_
      simp only [Act.put, List.set_cons_zero, List.set_cons_succ, List.setIfInBounds_toArray]
      obtain ⟨ao2, m2, c2, rfl, R2⟩ := h2
      rw [unhide HBB] at R2
      have HR2 := hide R2
      have HK2 := hide ((kp_drew w).trans hkW1)
      clear R2 h25 h24 h23 h20 h19 hkW1
      go_wp2_with fail
      go_ret
      exact ⟨ao2, m2, c2, rfl, .inl (unhide HR2), (unhide HR2).sl, unhide HK2⟩
end Go.Proofs.YtillhpgdlmeajaaGreatDoor

/-
  The contract of the reference's Leaves, of longer items.
-/
namespace Go.Proofs.YtillhpgdlmeajaaGreatDoor
open Go.RowKit
open Go.Proofs
set_option maxRecDepth 100000 in
set_option maxHeartbeats 2000000 in
theorem rleaves_big (vl : Value) (ls : List (List Int)) (w : World) (hL : LcM ls vl w) (hn : ls.length ≤ 1000) (hm : ∀ x ∈ ls, x.length ≤ 65535) :
    Calls Tryz.prog 25 #[vl] w fun e w' => ∃ ao m c, e = .returned (.slice ao m c) ∧ Acc w (ls.map tleafP) (.slice ao m c) w' := by
  have HL := hide hL
  have HM := hide hm
  obtain ⟨al, cl, e, h1, h2, h3⟩ := hL.shape
  obtain ⟨N, hN⟩ : ∃ N, N = ls.length := ⟨_, rfl⟩
  rw [← hN] at e hn
  subst e
  have HN := hide hN
  have hnn : (N : Int) ≤ 1000 := by omega
  clear hL hm hN h1 h2 h3
  go_enter Tryz.func25, Tryz.ntmps25
  go_wp2_with fail
  go_loopw [3, 4] (fun v i wr => ∃ (k m cc : Nat) (ao : Option Addr), k ≤ N ∧ v = .slice ao m cc ∧ i = .int .i64 k ∧ Acc w ((ls.take k).map tleafP) v wr) (fun _ i _ => N - (intOf i).toNat)
  case atStart => exact ⟨0, 0, 0, none, by omega, rfl, rfl, [], ⟨World.ownsRow_nil _ _ _ _, fun x hx => by cases hx⟩, rfl, Kp.refl _ _⟩
  case round =>
    obtain ⟨k, m, cc, ao, hk, rfl, rfl, Ar⟩ := hrel
    have HA := hide Ar
    clear Ar
    by_cases hlt : k < N
    · have hlt2 : (k : Int) < (N : Int) := by omega
      have hkl : k < ls.length := by have := unhide HN; omega
      have HE : Hid ((ls.take (k + 1)).map tleafP = (ls.take k).map tleafP ++ [tleafP ls[k]]) := hide (by rw [List.take_succ_eq_append_getElem hkl, List.map_append]; rfl)
      have hx := List.getElem?_eq_getElem hkl
      have hml := unhide HM ls[k] (List.getElem_mem hkl)
      have HLN : Hid (((ls.take k).map tleafP).length ≤ 1000000) := hide (by simp; omega)
      obtain ⟨x, hxx⟩ : ∃ x, x = ls[k] := ⟨_, rfl⟩
      rw [← hxx] at HE hx hml
      obtain ⟨-, b, off, u, rfl, hc, hS, hB⟩ := (unhide HL).at k x hx
      have Kr := (unhide HA).kp
      have hcw := Kr.cell hc (by simp)
      have hSw := hS.kept Kr (by simp)
      obtain ⟨ax, cx, hux, _⟩ := hS
      obtain ⟨nx, hnx⟩ : ∃ nx, nx = x.length := ⟨_, rfl⟩
      rw [← hnx] at hux
      subst hux
      obtain ⟨r, hr⟩ : ∃ r, r = tleafP x := ⟨_, rfl⟩
      rw [← hr] at HE
      have HRB : Hid (Bs r) := by rw [hr]; exact sha_bs _
      have HC := hide (rleaf_any _ x r hr wr hSw hB (by omega))
      clear hx hxx hkl hc hSw hB hnx hr Kr
      go_wp2_with fail
      refine (unhide HC).mono ?_
      rintro ee w4 ⟨a4, m4, c4, rfl, R4, K4⟩
      have HR4 := hide R4
      have HK4 := hide K4
      clear R4 K4 HC hcw
      go_wp2_with (at_builtin; refine wpList_acc rfl (.tmp 11) (.tmp 17) rfl _ _ rfl (unhide HA) (unhide HLN) _ r (unhide HK4) (unhide HR4) (unhide HRB) rfl ?_; intro ao5 m5 c5 w5 A5)
      go_roundw
      case rel => exact ⟨k + 1, m5, c5, ao5, by omega, rfl, by go_num, by have e := unhide HE; rw [e]; exact A5⟩
      case measure => simp [intOf]; omega
    · obtain rfl : k = N := by omega
      have e : (ls.take k).map tleafP = ls.map tleafP := by rw [unhide HN, List.take_length]
      rw [e] at HA
      clear e
      go_wp2_with fail
      go_ret
      exact ⟨ao, m, cc, rfl, unhide HA⟩
end Go.Proofs.YtillhpgdlmeajaaGreatDoor

/-
  The reference's ledger: what it is, New, Root.
-/
namespace Go.Proofs.YtillhpgdlmeajaaGreatDoor
open Go.RowKit
open Go.Proofs
set_option linter.unusedVariables false
/-- the blocks that are not the items' row's: the ledger's, and the reference's own. -/
def FP (F : Nat → Prop) (p : Nat) : Nat → Prop := fun j => F j ∨ j = p
def FG (F : Nat → Prop) (p : Nat) (v : Value) : Nat → Prop := fun j => F j ∨ j = p ∨ v.ownBlock = some j
section
variable {w w' w0 : World} {F F' : Nat → Prop} {p : Nat} {v v' : Value}
theorem stp_fp (T : Stp F w w' F') : Stp (FP F p) w w' (FP F' p) := by
  obtain ⟨⟨U, hU, k⟩, h2⟩ := T
  exact ⟨⟨U, fun i hi => .inl (hU i hi), k⟩, fun i hi => hi.elim (fun h => (h2 i h).imp .inl id) (fun h => .inl (.inr h))⟩
theorem stp_fg (T : Stp F w w' F') : Stp (FG F p v) w w' (FG F' p v) := by
  obtain ⟨⟨U, hU, k⟩, h2⟩ := T
  exact ⟨⟨U, fun i hi => .inl (hU i hi), k⟩, fun i hi => hi.elim (fun h => (h2 i h).imp .inl id) (fun h => .inl (.inr h))⟩
theorem stp_fpp (k : Kp [p] w w') : Stp (FP F p) w w' (FP F p) := ⟨⟨[p], fun i hi => .inr (by simpa using hi), k⟩, fun i hi => .inl hi⟩
theorem stp_fgp (k : Kp [p] w w') : Stp (FG F p v) w w' (FG F p v) := ⟨⟨[p], fun i hi => .inr (.inl (by simpa using hi)), k⟩, fun i hi => .inl hi⟩
theorem stp_fgr (s : RStep w v w' v') (hlt : ∀ j, v'.ownBlock = some j → j < w'.heap.size) : Stp (FG F p v) w w' (FG F p v') := by
  refine ⟨⟨v.ownBlock.toList, fun i hi => .inr (.inr (by simpa [Option.mem_toList] using hi)), s.1⟩, fun i hi => ?_⟩
  rcases hi with h | h | h
  · exact .inl (.inl h)
  · exact .inl (.inr (.inl h))
  · rcases s.2 i h with h1 | h1
    · exact .inl (.inr (.inr h1))
    · exact .inr ⟨h1, hlt i h⟩
end
/-- the reference's ledger at block p: its items' row, next key, what was published last. -/
structure Rg (w0 w : World) (F : Nat → Prop) (p : Nat) (vi : Value) (seed : List Int) (its : List (List Int)) (n : Nat) (la : Option (Nat × Nat)) (og base : Nat) (sz ix : Int) (ar : Option Addr) (mr cr : Nat) (ap : Option Addr) (np cp : Nat) (aq : Option Addr) (nq cq : Nat) (lA : List (Value × List Int)) : Prop where
  hp : w.heap[p]? = some (.cells #[vi, .pointer (some ⟨og, 0, none⟩), .int .i64 n, .int .i64 sz, .slice ar mr cr, .int .i64 ix, .slice ap np cp, .slice aq nq cq, .bool la.isSome] 74 (0, 0))
  la : ∀ a, la = some a → sz = a.1 ∧ Kt w (FG F p vi) (fun w2 => SgV w2 (.agg #[.int .i64 sz, .slice ar mr cr, .int .i64 ix, .slice ap np cp, .slice aq nq cq]) (sgU seed its a))
  ow : OwN (FG F p vi) w base og seed 5
  al : Al w0 w (FP F p) vi lA
  it : lA.map (·.2) = its
  lo : w0.heap.size ≤ p
  lt : p < w.heap.size
  nf : ¬ F p
def Rf (w0 w : World) (F : Nat → Prop) (p : Nat) (vi : Value) (seed : List Int) (its : List (List Int)) (n : Nat) (la : Option (Nat × Nat)) : Prop :=
  ∃ og base sz ix ar mr cr ap np cp aq nq cq lA, Rg w0 w F p vi seed its n la og base sz ix ar mr cr ap np cp aq nq cq lA
theorem Rg.step {w0 w w' : World} {F F' : Nat → Prop} {p : Nat} {vi : Value} {seed : List Int} {its : List (List Int)} {n : Nat} {la : Option (Nat × Nat)} {og base : Nat} {sz ix : Int} {ar : Option Addr} {mr cr : Nat} {ap : Option Addr} {np cp : Nat} {aq : Option Addr} {nq cq : Nat} {lA : List (Value × List Int)} (h : Rg w0 w F p vi seed its n la og base sz ix ar mr cr ap np cp aq nq cq lA) (T : Stp F w w' F') : Rg w0 w' F' p vi seed its n la og base sz ix ar mr cr ap np cp aq nq cq lA :=
  ⟨T.heap h.hp h.nf, fun a ha => ⟨(h.la a ha).1, (h.la a ha).2.step (stp_fg T)⟩, h.ow.step (stp_fg T), h.al.step (stp_fp T), h.it, h.lo, Nat.lt_of_lt_of_le h.lt T.size, T.off h.lt h.nf⟩
theorem Rf.step {w0 w w' : World} {F F' : Nat → Prop} {p : Nat} {vi : Value} {seed : List Int} {its : List (List Int)} {n : Nat} {la : Option (Nat × Nat)} (h : Rf w0 w F p vi seed its n la) (T : Stp F w w' F') : Rf w0 w' F' p vi seed its n la := by
  obtain ⟨og, base, sz, ix, ar, mr, cr, ap, np, cp, aq, nq, cq, lA, h⟩ := h
  exact ⟨og, base, sz, ix, ar, mr, cr, ap, np, cp, aq, nq, cq, lA, h.step T⟩
/-- the blocks that may change were there. -/
theorem Rg.fg {w0 w : World} {F : Nat → Prop} {p : Nat} {vi : Value} {seed : List Int} {its : List (List Int)} {n : Nat} {la : Option (Nat × Nat)} {og base : Nat} {sz ix : Int} {ar : Option Addr} {mr cr : Nat} {ap : Option Addr} {np cp : Nat} {aq : Option Addr} {nq cq : Nat} {lA : List (Value × List Int)} (h : Rg w0 w F p vi seed its n la og base sz ix ar mr cr ap np cp aq nq cq lA) (hF : ∀ j, F j → j < w.heap.size) : ∀ j, FG F p vi j → j < w.heap.size := fun j hj => by
  rcases hj with e | e | e
  · exact hF j e
  · rw [e]; exact h.lt
  · exact (h.al.own j e).1
set_option maxRecDepth 100000 in
set_option maxHeartbeats 2000000 in
/-- the root of all items: fresh, or a fresh leaf. -/
theorem r15root_any (p : Nat) (va : Value) (its : List (List Int)) (r : List Int) (w : World) (hr : r = rtU its) (hc : w.cell? ⟨p, 0, none⟩ = some va) (hL : LcM its va w) (hn : its.length ≤ 1000) (hm : ∀ x ∈ its, x.length ≤ 65535) :
    Calls Tryz.prog 100 #[.pointer (some ⟨p, 0, none⟩)] w fun e w' => ∃ ao m c, e = .returned (.slice ao m c) ∧ Sl w' (.slice ao m c) r ∧ (∀ q, (Value.slice ao m c).ownBlock = some q → w.heap.size ≤ q) ∧ Kp [] w w' := by
  have HLs := hide (rleaves_big va its w hL hn hm)
  have HN := hide hn
  have HR := hide hr
  clear hL hn hm hr
  go_enter Tryz.func100, Tryz.ntmps100
  go_wp2_with fail
  refine HLs.out.mono ?_
  rintro ee w1 ⟨a1, m1, c1, rfl, A⟩
  have HA := hide A
  have HRt := hide (rroot_row its.length (.slice a1 m1 c1) (its.map tleafP) r w1 HR.out (by simp) (by have := HN.out; omega) (A.lcm (by rw [List.length_map]; exact HN.out)) (fun x hx => by
    obtain ⟨y, -, rfl⟩ := List.mem_map.1 hx
    have := sha_len (0 :: y)
    unfold tleafP; omega))
  clear HLs A
  go_wp2_with fail
  refine HRt.out.mono ?_
  rintro ee w2 ⟨a2, m2, c2, rfl, hor, S2, K2⟩
  have HS2 := hide S2
  have HK2 := hide (HA.out.kp.trans K2)
  have HOr : Hid (∀ q, (Value.slice a2 m2 c2).ownBlock = some q → w.heap.size ≤ q) := hide (fun q hq => by
    rcases hor with hr | ⟨b, off, c, e, hcell⟩
    · exact Nat.le_trans HA.out.kp.size (hr.own q hq)
    · obtain ⟨l, hP, hl, -⟩ := HA.out
      injection e with e1 e2 e3
      subst e1
      have hl1 : m1 = (l.map (·.1)).length := hP.1.len
      have h0 : 0 < l.length := by rw [List.length_map] at hl1; omega
      obtain ⟨g, eg, hcg⟩ := RowV.at hP.1 0 (by rw [List.length_map]; exact h0)
      injection eg with eg
      injection eg with eg1 eg2
      subst eg1 eg2
      rw [hcell] at hcg
      injection hcg with hcg
      rw [List.getElem_map] at hcg
      exact (hP.2 l[0] (List.getElem_mem h0)).1.own q (by rw [← hcg]; exact hq))
  clear HRt hor S2 K2
  go_wp2_with fail
  go_ret
  exact ⟨a2, m2, c2, rfl, HS2.out, HOr.out, HK2.out⟩
set_option maxRecDepth 100000 in
set_option maxHeartbeats 2000000 in
/-- a new one. -/
theorem r15new_any (w0 : World) (F : Nat → Prop) (b : Nat) (vs : Value) (seed : List Int) (w : World) (hS : Sl w vs seed) (hB : Bs seed) (hl : seed.length = 32) (hs : ∀ q, vs.ownBlock = some q → b ≤ q) (hF : ∀ q, F q → q < b) (hb : b ≤ w.heap.size) (h0 : w0.heap.size ≤ b) :
    Calls Tryz.prog 56 #[vs] w fun e w' => ∃ p, e = .returned (.pointer (some ⟨p, 0, none⟩)) ∧ Rf w0 w' F p (.slice none 0 0) seed [] 0 none ∧ Kp [] w w' := by
  have HN := hide (new_ownS vs seed w hS hB hl)
  have HSs := hide hs
  have HF := hide hF
  have HB := hide hb
  have HL := hide hl
  have H0 := hide h0
  clear hS hB hl hs hF hb h0
  go_enter Tryz.func56, Tryz.ntmps56
  go_wp2_with fail
  refine HN.out.mono ?_
  rintro ee w1 ⟨og, base, rfl, ⟨sa, sn, sc, rfl, O⟩, K, hg⟩
  obtain ⟨w2, hw2⟩ : ∃ y, y = w1.alloc (.cells #[.slice none 0 0, .pointer (some ⟨og, 0, none⟩), .int .i64 0, .int .i64 0, .slice none 0 0, .int .i64 0, .slice none 0 0, .slice none 0 0, .bool false] 74) := ⟨_, rfl⟩
  have HK2 : Hid (Kp [] w1 w2) := hide (by rw [hw2]; exact (Kp.refl [] _).alloc _)
  have HR : Hid (Rf w0 w2 F w1.heap.size (.slice none 0 0) seed [] 0 none) := hide (by
    have hs2 : w2.heap.size = w1.heap.size + 1 := by rw [hw2]; simp
    have hsz := K.size
    have hb := HB.out
    have hne : seed ≠ [] := fun e => by have := HL.out; rw [e] at this; cases this
    have hFo : ∀ j, F j → j < b := HF.out
    have O1 : OwN F w1 base og seed 5 := O.toN hne (b := b) (by omega) HSs.out hFo
    have T : Stp F w1 w2 (FG F w1.heap.size (.slice none 0 0)) := ⟨⟨[], by simp, HK2.out⟩, fun i hi => by
      rcases hi with h | h | h
      · exact .inl h
      · exact .inr (by omega)
      · cases h⟩
    refine ⟨og, base, 0, 0, none, 0, 0, none, 0, 0, none, 0, 0, [], ⟨by rw [hw2]; exact heap_alloc_new w1 _, (fun a ha => by cases ha), O1.step T, al_nil _ _ _, rfl, ?_, by omega, fun e => by have := hFo _ e; omega⟩⟩
    have := H0.out; omega)
  have HK := hide (K.trans HK2.out)
  have HW := hide hw2
  clear HN O K hg hw2
  go_wp2_with fail
  go_ret
  rw [← HW.out]
  exact ⟨_, rfl, HR.out, HK.out⟩
end Go.Proofs.YtillhpgdlmeajaaGreatDoor

/-
  The reference's ledger: Publish.
-/
namespace Go.Proofs.YtillhpgdlmeajaaGreatDoor
open Go.RowKit
open Go.Deep
open Go.Proofs
open Go.Proofs.YtillhpgdlmeajaaGreatDoor.umix
set_option linter.unusedVariables false
/-- a new checkpoint's block, from s0 on. -/
def NwCk (s0 : Nat) : Tell := fun v w => ∃ g, v = .pointer (some ⟨g, 0, none⟩) ∧ w.heap[g]? = some (.cells #[.int .i64 0, .slice none 0 0] 68) ∧ s0 ≤ g
theorem stable_nwck (s0 : Nat) : Tell.stable (NwCk s0) := fun _ _ _ k ⟨g, e, h1, h2⟩ => ⟨g, e, k.heap h1 (by simp), h2⟩
theorem grown_nwck {o : Oper} {a : Act} {w : World} (s0 : Nat) (hs : s0 ≤ w.heap.size) (ho : o.op = .alloc 68) : grown Tryz.prog w (NwCk s0) ((execOp a.eval o).run Tryz.prog w) := by
  refine grown_run (v := .pointer (some ⟨w.heap.size, 0, none⟩)) (w' := w.alloc (.cells #[.int .i64 0, .slice none 0 0] 68)) ?_ ((Kp.refl [] w).alloc _) ⟨_, rfl, heap_alloc_new w _, hs⟩
  unfold execOp
  simp only [ho]
  simp [go_sem]
/-- these bytes, from block b on. -/
def RtK (b : Nat) (r : List Int) : Tell := fun v w => (∃ a m c, v = .slice a m c) ∧ Sl w v r ∧ ∀ q, v.ownBlock = some q → b ≤ q
theorem stable_rtk (b : Nat) (r : List Int) : Tell.stable (RtK b r) := fun _ _ _ k ⟨e, h1, h2⟩ => ⟨e, h1.kept k (by simp), h2⟩
/-- a checkpoint whose root lies from b on. -/
def CkK (b : Nat) (n : Int) (r : List Int) : Tell := fun v w => ∃ a m c, v = .agg #[.int .i64 n, .slice a m c] ∧ Sl w (.slice a m c) r ∧ ∀ q, (Value.slice a m c).ownBlock = some q → b ≤ q
theorem stable_ckk (b : Nat) (n : Int) (r : List Int) : Tell.stable (CkK b n r) := fun _ _ _ k ⟨a, m, c, e, h1, h2⟩ => ⟨a, m, c, e, h1.kept k (by simp), h2⟩
theorem grown_ckk {o : Oper} {a : Act} {w : World} {b : Nat} {n : Int} {r : List Int} (x0 x1 : Operand) (ho : o.op = .build 68 #[(0, x0), (1, x1)]) (h0 : a.eval x0 = .int .i64 n) (h1 : RtK b r (a.eval x1) w) : grown Tryz.prog w (CkK b n r) ((execOp a.eval o).run Tryz.prog w) := by
  obtain ⟨⟨ar, m, c, e⟩, h2, h3⟩ := h1
  rw [e] at h2 h3
  refine grown_run (v := .agg #[.int .i64 n, .slice ar m c]) ?_ (Kp.refl _ _) ⟨ar, m, c, rfl, h2, h3⟩
  obtain ⟨ρ, hρ, _⟩ := eval_is a
  rw [hρ] at e h0 ⊢
  unfold execOp
  simp only [ho]
  simp [go_sem, e, h0]
/-- a signature that stays so, whatever becomes of F. -/
def SiK (F : Nat → Prop) (i : Int) (ps qs : List (List Int)) : Tell := fun v w => Kt w F (fun w2 => SigV w2 v i ps qs)
/-- a signed checkpoint of these, whose signature stays so. -/
def SgK (F : Nat → Prop) (n : Int) (ar : Option Addr) (mr cr : Nat) (i : Int) (ps qs : List (List Int)) : Tell := fun v w => ∃ ap np cp aq nq cq, v = .agg #[.int .i64 n, .slice ar mr cr, .int .i64 i, .slice ap np cp, .slice aq nq cq] ∧ Kt w F (fun w2 => SigV w2 (.agg #[.int .i64 i, .slice ap np cp, .slice aq nq cq]) i ps qs)
theorem grown_sgk {o : Oper} {a : Act} {w : World} {F : Nat → Prop} {n : Int} {ar : Option Addr} {mr cr : Nat} {i : Int} {ps qs : List (List Int)} (x0 x1 : Operand) (ho : o.op = .build 72 #[(0, x0), (1, x1)]) (h0 : a.eval x0 = .agg #[.int .i64 n, .slice ar mr cr]) (h1 : SiK F i ps qs (a.eval x1) w) : grown Tryz.prog w (SgK F n ar mr cr i ps qs) ((execOp a.eval o).run Tryz.prog w) := by
  obtain ⟨ap, np, cp, aq, nq, cq, lp, lq, e, -⟩ := (Kt.get h1).shape
  have h2 : Kt w F (fun w2 => SigV w2 (a.eval x1) i ps qs) := h1
  rw [e] at h2
  refine grown_run (v := .agg #[.int .i64 n, .slice ar mr cr, .int .i64 i, .slice ap np cp, .slice aq nq cq]) ?_ (Kp.refl _ _) ⟨ap, np, cp, aq, nq, cq, rfl, h2⟩
  obtain ⟨ρ, hρ, _⟩ := eval_is a
  rw [hρ] at e h0 ⊢
  unfold execOp
  simp only [ho]
  simp [go_sem, e, h0]
/-- nothing was changed, or block p, which holds no bytes. -/
def KPn (p : Nat) (w w' : World) : Prop := Kp [] w w' ∨ (NoBy w [p] ∧ Kp [p] w w')
theorem stp_one {F : Nat → Prop} {p : Nat} {w w' : World} (h : F p) (k : Kp [p] w w') : Stp F w w' F := ⟨⟨[p], (fun i hi => by have e : i = p := (by simpa using hi); rw [e]; exact h), k⟩, fun i hi => .inl hi⟩
theorem stableP_is {p : Nat} (c : Value) : Tell.stableG (KPn p) (Is c) := fun _ _ _ _ h => h
theorem stableP_any {p : Nat} : Tell.stableG (KPn p) AnyT := fun _ _ _ _ h => h
theorem stableP_sl {p : Nat} (bs : List Int) : Tell.stableG (KPn p) (SlT bs) := fun v w w' k h => by
  have h0 : Sl w v bs := h
  rcases k with k | ⟨hs, k⟩
  · exact h0.kept k (by simp)
  · obtain ⟨ao, c, rfl, -⟩ := id h0
    exact Sl.offBy h0 hs k
theorem kpn_kt {p : Nat} {w w' : World} {F : Nat → Prop} {P : World → Prop} (hF : F p) (k : KPn p w w') (h : Kt w F P) : Kt w' F P := by
  rcases k with k | ⟨-, k⟩
  · exact h.on k
  · exact h.step (stp_one hF k)
theorem stableP_sik {p : Nat} {F : Nat → Prop} (hF : F p) (i : Int) (ps qs : List (List Int)) : Tell.stableG (KPn p) (SiK F i ps qs) := fun _ _ _ k h => kpn_kt hF k h
theorem stableP_sgk {p : Nat} {F : Nat → Prop} (hF : F p) (n : Int) (ar : Option Addr) (mr cr : Nat) (i : Int) (ps qs : List (List Int)) : Tell.stableG (KPn p) (SgK F n ar mr cr i ps qs) := fun _ _ _ k ⟨ap, np, cp, aq, nq, cq, e, h⟩ => ⟨ap, np, cp, aq, nq, cq, e, kpn_kt hF k h⟩
/-- what was stored so far. -/
def GP (w0 : World) (p : Nat) (vi : Value) (og n : Nat) (listed : Array Bool) (a : Act) (w : World) : Prop :=
  Kp [p] w0 w ∧ ∃ (sz ix : Int) (ar : Option Addr) (mr cr : Nat) (ap : Option Addr) (np cp : Nat) (aq : Option Addr) (nq cq : Nat) (b : Bool), w.heap[p]? = some (.cells #[vi, .pointer (some ⟨og, 0, none⟩), .int .i64 (n : Int), .int .i64 sz, .slice ar mr cr, .int .i64 ix, .slice ap np cp, .slice aq nq cq, .bool b] 74 (0, 0)) ∧ (∀ t, vi ≠ .int .u8 t) ∧ (listed.getD 17 false = true → a.eval (.tmp 55) = .agg #[.int .i64 sz, .slice ar mr cr, .int .i64 ix, .slice ap np cp, .slice aq nq cq]) ∧ (listed.getD 20 false = true → b = true)
section
variable {w0 w w' : World} {p og n : Nat} {vi : Value} {listed : Array Bool} {a : Act}
theorem GP.c1 (h : GP w0 p vi og n listed a w) : w.cell? ⟨p, 1, none⟩ = some (.pointer (some ⟨og, 0, none⟩)) := by
  obtain ⟨-, sz, ix, ar, mr, cr, ap, np, cp, aq, nq, cq, b, hp, -⟩ := h
  rw [cell_of_row w p 1 _ _ _ hp]; rfl
theorem GP.c2 (h : GP w0 p vi og n listed a w) : w.cell? ⟨p, 2, none⟩ = some (.int .i64 (n : Int)) := by
  obtain ⟨-, sz, ix, ar, mr, cr, ap, np, cp, aq, nq, cq, b, hp, -⟩ := h
  rw [cell_of_row w p 2 _ _ _ hp]; rfl
theorem GP.free (h : GP w0 p vi og n listed a w) (k' : Nat) (hk : k' ≠ 17) (hk2 : k' ≠ 20) (d : Tmp) (hd : d = 55 → listed.getD 17 false = false) (v : Value) (K : Kp [] w w') : GP w0 p vi og n (listed.setIfInBounds k' true) (a.put (some d) v) w' := by
  obtain ⟨k, sz, ix, ar, mr, cr, ap, np, cp, aq, nq, cq, b, hp, hv, h1, h2⟩ := h
  refine ⟨k.trans (K.mono (by simp)), sz, ix, ar, mr, cr, ap, np, cp, aq, nq, cq, b, K.heap hp (by simp), hv, fun hl => ?_, fun hl => ?_⟩
  · rw [getD_set_neM hk] at hl
    have hne : d ≠ 55 := fun e => by rw [hd e] at hl; cases hl
    rw [eval_put_ne hne]; exact h1 hl
  · rw [getD_set_neM hk2] at hl; exact h2 hl
theorem gp_noby {sz ix : Int} {ar : Option Addr} {mr cr : Nat} {ap : Option Addr} {np cp : Nat} {aq : Option Addr} {nq cq : Nat} {b : Bool} (hp : w.heap[p]? = some (.cells #[vi, .pointer (some ⟨og, 0, none⟩), .int .i64 (n : Int), .int .i64 sz, .slice ar mr cr, .int .i64 ix, .slice ap np cp, .slice aq nq cq, .bool b] 74 (0, 0))) (hv : ∀ t, vi ≠ .int .u8 t) : NoBy w [p] := fun g hg => by
  obtain rfl : g = p := by simpa using hg
  refine ⟨_, _, _, hp, fun x hx y e => ?_⟩
  subst e
  simp at hx
  exact hv y hx.symm
theorem GP.st1 {ops : Array Oper} {o : Oper} {F : Nat → Prop} {m : Int} {br : Option Addr} {kr dr : Nat} {i : Int} {ps qs : List (List Int)} (h : GP w0 p vi og n listed a w) (hsz : 17 < listed.size) (hg : o.guard = none) (ho : o.op = .store 72 (.tmp 57) (.tmp 55)) (hd : o.dst = none) (hp57 : a.eval (.tmp 57) = .pointer (some ⟨p, 3, none⟩)) (hu : SgK F m br kr dr i ps qs (a.eval (.tmp 55)) w) : wantsG (KPn p) (GP w0 p vi og n (listed.setIfInBounds 17 true)) Tryz.prog ops o a w AnyT := by
  obtain ⟨k, sz, ix, ar, mr, cr, ap, np, cp, aq, nq, cq, b, hp, hv, h1, h2⟩ := h
  obtain ⟨bp, mp, dp, bq, mq, dq, e2, -⟩ := hu
  have hno := gp_noby hp hv
  have K := kp_fcells w p [.int .i64 m, .slice br kr dr, .int .i64 i, .slice bp mp dp, .slice bq mq dq] 3 w (Kp.refl _ _)
  have G' := heap_fcells p _ [.int .i64 m, .slice br kr dr, .int .i64 i, .slice bp mp dp, .slice bq mq dq] 3 w _ hp
  have hrun := run_storeAt_mid (P := Tryz.prog) w p 3 72 #[.int .i64 m, .slice br kr dr, .int .i64 i, .slice bp mp dp, .slice bq mq dq] (fun j hj => by
    rw [cell_of_row w p (3 + j) _ _ _ hp]
    refine ⟨?_, frozen_of_row w p (3 + j) _ _ hp⟩
    have hj5 : j < 5 := by simpa using hj
    rcases (by omega : j = 0 ∨ j = 1 ∨ j = 2 ∨ j = 3 ∨ j = 4) with rfl | rfl | rfl | rfl | rfl <;> rfl) Tryz.sgdSize (by simp [Value.oneCell'])
  refine wantsG_skipM (w' := w.setCells p 3 [.int .i64 m, .slice br kr dr, .int .i64 i, .slice bp mp dp, .slice bq mq dq]) hg ?_ ⟨⟨.inr ⟨hno, K⟩, k.trans K, m, i, br, kr, dr, bp, mp, dp, bq, mq, dq, b, G', hv, fun _ => by rw [hd]; exact e2, fun hl => ?_⟩, trivial⟩
  · unfold execOp
    simp only [ho, hp57, e2, Sem.run_bind, hrun, Result.andThen_ok, Sem.run_pure]
    exact .inl trivial
  · rw [getD_set_neM (by decide)] at hl; exact h2 hl
theorem GP.st2 {ops : Array Oper} {o : Oper} (h : GP w0 p vi og n listed a w) (hsz : 20 < listed.size) (hg : o.guard = none) (ho : o.op = .store 4 (.tmp 59) (.const (.bool true))) (hd : o.dst = none) (hp59 : a.eval (.tmp 59) = .pointer (some ⟨p, 8, none⟩)) : wantsG (KPn p) (GP w0 p vi og n (listed.setIfInBounds 20 true)) Tryz.prog ops o a w AnyT := by
  obtain ⟨k, sz, ix, ar, mr, cr, ap, np, cp, aq, nq, cq, b, hp, hv, h1, h2⟩ := h
  have hno := gp_noby hp hv
  have hc : w.cell? ⟨p, 8, none⟩ = some (.bool b) := by rw [cell_of_row w p 8 _ _ _ hp]; rfl
  have hf : w.frozen? ⟨p, 8, none⟩ = false := frozen_of_row w p 8 _ _ hp
  have G' : (w.setCell ⟨p, 8, none⟩ (.bool true)).heap[p]? = some (.cells #[vi, .pointer (some ⟨og, 0, none⟩), .int .i64 (n : Int), .int .i64 sz, .slice ar mr cr, .int .i64 ix, .slice ap np cp, .slice aq nq cq, .bool true] 74 (0, 0)) := by
    have := heap_setCell_same w p 8 _ _ (.bool true) hp
    simpa using this
  refine wantsG_skipM (w' := w.setCell ⟨p, 8, none⟩ (.bool true)) hg ?_ ⟨⟨.inr ⟨hno, kp_set w p 8 _⟩, k.trans (kp_set w p 8 _), sz, ix, ar, mr, cr, ap, np, cp, aq, nq, cq, true, G', hv, fun hl => ?_, fun _ => rfl⟩, trivial⟩
  · obtain ⟨ρ, hρ, hcc, _⟩ := eval_is a
    rw [hρ] at hp59 ⊢
    unfold execOp
    simp only [ho]
    simp [go_sem, hp59, hc, hf, hcc]
  · rw [getD_set_neM (by decide)] at hl; rw [hd]; exact h1 hl
end
section
variable {w0 w : World} {F : Nat → Prop} {p : Nat} {vi : Value} {seed : List Int} {its : List (List Int)} {n : Nat}
set_option maxRecDepth 100000 in
set_option maxHeartbeats 4000000 in
/-- what was published last is published again. -/
theorem r15pub_old (a1 a2 : Nat) (h : Rf w0 w F p vi seed its n (some (a1, a2))) (hF : ∀ j, F j → j < w.heap.size) (hl : its.length ≤ 1000) (ha : a1 = its.length) :
    Calls Tryz.prog 57 #[.pointer (some ⟨p, 0, none⟩)] w fun e w' => ∃ v, e = .returned (.tuple #[v, .bool true]) ∧ SgV w' v (sgU seed its (a1, a2)) ∧ Kp [] w w' := by
  obtain ⟨og, base, sz, ix, ar, mr, cr, ap, np, cp, aq, nq, cq, lA, R⟩ := h
  obtain ⟨hsz, hKt⟩ := R.la (a1, a2) rfl
  obtain ⟨ai, ci, hvi⟩ := R.al.row.1.1.shape
  obtain ⟨mi, hmi⟩ : ∃ m, m = (lA.map (·.1)).length := ⟨_, rfl⟩
  rw [← hmi] at hvi
  subst hvi
  have hmi2 : mi = its.length := by rw [hmi, ← R.it, List.length_map, List.length_map]
  obtain rfl : a1 = mi := by omega
  simp only at hsz
  subst hsz
  have K1 : Kp [] w (w.alloc (.cells #[.int .i64 0, .slice none 0 0, .int .i64 0, .slice none 0 0, .slice none 0 0] 72)).drew := ((Kp.refl [] w).alloc _).drew
  obtain ⟨g2, hg2⟩ : ∃ g, g = w.heap.size := ⟨_, rfl⟩
  have G : (w.alloc (.cells #[.int .i64 0, .slice none 0 0, .int .i64 0, .slice none 0 0, .slice none 0 0] 72)).drew.heap[g2]? = some (.cells #[.int .i64 0, .slice none 0 0, .int .i64 0, .slice none 0 0, .slice none 0 0] 72 (0, 0)) := by rw [hg2]; exact heap_alloc_new w _
  have P1 := K1.heap R.hp (by simp)
  have x8 : (w.alloc (.cells #[.int .i64 0, .slice none 0 0, .int .i64 0, .slice none 0 0, .slice none 0 0] 72)).drew.cell? ⟨p, 8, none⟩ = some (.bool true) := by rw [cell_of_row _ p 8 _ _ _ P1]; rfl
  have x3 : (w.alloc (.cells #[.int .i64 0, .slice none 0 0, .int .i64 0, .slice none 0 0, .slice none 0 0] 72)).drew.cell? ⟨p, 3, none⟩ = some (.int .i64 (a1 : Int)) := by rw [cell_of_row _ p 3 _ _ _ P1]; rfl
  have x0 : (w.alloc (.cells #[.int .i64 0, .slice none 0 0, .int .i64 0, .slice none 0 0, .slice none 0 0] 72)).drew.cell? ⟨p, 0, none⟩ = some (.slice ai a1 ci) := by rw [cell_of_row _ p 0 _ _ _ P1]; rfl
  have HK1 := hide K1
  have HP1 := hide P1
  have HG := hide G
  have HGg := hide hg2
  have HS := hide hKt
  clear R hKt hmi hmi2 K1 P1 G hg2 ha
  go_enter Tryz.func57, Tryz.ntmps57
  go_wp2_with fail
  refine region_read Tryz.mixed (by kernel_rfl) ?_
  repeat (first | go_big_quiet_skip | (go_big_quiet_want; go_big_quiet_op; go_big_quiet_on))
  refine wpQuiet_nil ?_
  rw [← HGg.out]
  go_wp2_with (first
    | (refine wpList_load_flat rfl 72 (.tmp 25) rfl p 3 rfl _ 74 (0, 0) _ HP1.out [.int .i64 (a1 : Int), .slice ar mr cr, .int .i64 ix, .slice ap np cp, .slice aq nq cq] (flat_in rfl) Tryz.underlying72 rfl Tryz.sgdSize ?_)
    | (refine wpList_store_flat rfl 72 (.tmp 2) (.tmp 26) rfl g2 0 rfl _ _ [.int .i64 (a1 : Int), .slice ar mr cr, .int .i64 ix, .slice ap np cp, .slice aq nq cq] HG.out rfl (by simp) Tryz.sgdSize (by simp [Value.oneCell']) #[.int .i64 (a1 : Int), .slice ar mr cr, .int .i64 ix, .slice ap np cp, .slice aq nq cq] rfl ?_; intro w7 G7 K7))
  refine bodyPost_ret (results_flat2 rfl _ rfl G7 Tryz.underlying72 rfl Tryz.sgdSize) rfl ?_
  have K : Kp [] w w7 := HK1.out.then K7 (fun i hi => .inr (by simp at hi; have := HGg.out; omega))
  exact ⟨_, rfl, HS.out [] w7 (by simp) K, K⟩
set_option maxRecDepth 100000 in
set_option maxHeartbeats 400000 in
/-- no key is left. -/
theorem r15pub_usedN (h : Rf w0 w F p vi seed its n none) (hn : n = 16) :
    Calls Tryz.prog 57 #[.pointer (some ⟨p, 0, none⟩)] w fun e w' => e = .returned (.tuple #[sgd0, .bool false]) ∧ Kp [] w w' := by
  have hge : decide ((16 : Int) ≤ (n : Int)) = true := decide_eq_true (by omega)
  obtain ⟨og, base, sz, ix, ar, mr, cr, ap, np, cp, aq, nq, cq, lA, R⟩ := h
  obtain ⟨ai, ci, hvi⟩ := R.al.row.1.1.shape
  obtain ⟨mi, hmi⟩ : ∃ m, m = (lA.map (·.1)).length := ⟨_, rfl⟩
  rw [← hmi] at hvi
  subst hvi
  have hmi2 : mi = its.length := by rw [hmi, ← R.it, List.length_map, List.length_map]
  obtain ⟨wa, hwa⟩ : ∃ y, y = (w.alloc (.cells #[.int .i64 0, .slice none 0 0, .int .i64 0, .slice none 0 0, .slice none 0 0] 72)).drew := ⟨_, rfl⟩
  have K1 : Kp [] w wa := by rw [hwa]; exact ((Kp.refl [] w).alloc _).drew
  obtain ⟨g2, hg2⟩ : ∃ g, g = w.heap.size := ⟨_, rfl⟩
  have G : wa.heap[g2]? = some (.cells #[.int .i64 0, .slice none 0 0, .int .i64 0, .slice none 0 0, .slice none 0 0] 72 (0, 0)) := by rw [hwa, hg2]; exact heap_alloc_new w _
  have P1 := K1.heap R.hp (by simp)
  have x8 : wa.cell? ⟨p, 8, none⟩ = some (.bool false) := by rw [cell_of_row _ p 8 _ _ _ P1]; rfl
  have x2 : wa.cell? ⟨p, 2, none⟩ = some (.int .i64 (n : Int)) := by rw [cell_of_row _ p 2 _ _ _ P1]; rfl
  have HRg := hide R
  have HK1 := hide K1
  have HP1 := hide P1
  have HG := hide G
  have HGg := hide hg2
  have HWa := hide hwa
  have HMi := hide hmi2
  have HGa := hide G
  rw [hwa] at HGa
  rw [hwa] at x8 x2
  clear R hmi hmi2 K1 P1 G hg2 hwa
  go_enter Tryz.func57, Tryz.ntmps57
  go_wp2_with fail
  refine region_read Tryz.mixed (by kernel_rfl) ?_
  repeat (first | go_big_quiet_skip | (go_big_quiet_want; go_big_quiet_op; go_big_quiet_on))
  refine wpQuiet_nil ?_
  rw [← HGg.out]
  go_wp2_with (refine wpList_store_flat rfl 72 (.tmp 2) (.tmp 32) rfl g2 0 rfl _ _ [.int .i64 0, .slice none 0 0, .int .i64 0, .slice none 0 0, .slice none 0 0] HGa.out rfl (by simp) Tryz.sgdSize (by simp [Value.oneCell']) #[.int .i64 0, .slice none 0 0, .int .i64 0, .slice none 0 0, .slice none 0 0] rfl ?_; intro w7 G7 K7)
  refine bodyPost_ret (results_flat2 rfl _ rfl G7 Tryz.underlying72 rfl Tryz.sgdSize) rfl ?_
  exact ⟨rfl, HK1.out.then (by rw [HWa.out]; exact K7) (fun i hi => .inr (by simp at hi; have := HGg.out; omega))⟩
set_option maxRecDepth 100000 in
set_option maxHeartbeats 400000 in
/-- no key is left. -/
theorem r15pub_usedS (a1 a2 : Nat) (h : Rf w0 w F p vi seed its n (some (a1, a2))) (hn : n = 16) (hne : a1 ≠ its.length) :
    Calls Tryz.prog 57 #[.pointer (some ⟨p, 0, none⟩)] w fun e w' => e = .returned (.tuple #[sgd0, .bool false]) ∧ Kp [] w w' := by
  have hge : decide ((16 : Int) ≤ (n : Int)) = true := decide_eq_true (by omega)
  obtain ⟨og, base, sz, ix, ar, mr, cr, ap, np, cp, aq, nq, cq, lA, R⟩ := h
  obtain ⟨ai, ci, hvi⟩ := R.al.row.1.1.shape
  obtain ⟨mi, hmi⟩ : ∃ m, m = (lA.map (·.1)).length := ⟨_, rfl⟩
  rw [← hmi] at hvi
  subst hvi
  have hmi2 : mi = its.length := by rw [hmi, ← R.it, List.length_map, List.length_map]
  obtain ⟨hsz, -⟩ := R.la (a1, a2) rfl
  simp only at hsz
  subst hsz
  have hne2 : ((a1 : Int) == (mi : Int)) = false := by simp; omega
  obtain ⟨wa, hwa⟩ : ∃ y, y = (w.alloc (.cells #[.int .i64 0, .slice none 0 0, .int .i64 0, .slice none 0 0, .slice none 0 0] 72)).drew := ⟨_, rfl⟩
  have K1 : Kp [] w wa := by rw [hwa]; exact ((Kp.refl [] w).alloc _).drew
  obtain ⟨g2, hg2⟩ : ∃ g, g = w.heap.size := ⟨_, rfl⟩
  have G : wa.heap[g2]? = some (.cells #[.int .i64 0, .slice none 0 0, .int .i64 0, .slice none 0 0, .slice none 0 0] 72 (0, 0)) := by rw [hwa, hg2]; exact heap_alloc_new w _
  have P1 := K1.heap R.hp (by simp)
  have x8 : wa.cell? ⟨p, 8, none⟩ = some (.bool true) := by rw [cell_of_row _ p 8 _ _ _ P1]; rfl
  have x3 : wa.cell? ⟨p, 3, none⟩ = some (.int .i64 (a1 : Int)) := by rw [cell_of_row _ p 3 _ _ _ P1]; rfl
  have x0 : wa.cell? ⟨p, 0, none⟩ = some (.slice ai mi ci) := by rw [cell_of_row _ p 0 _ _ _ P1]; rfl
  have x2 : wa.cell? ⟨p, 2, none⟩ = some (.int .i64 (n : Int)) := by rw [cell_of_row _ p 2 _ _ _ P1]; rfl
  have HRg := hide R
  have HK1 := hide K1
  have HP1 := hide P1
  have HG := hide G
  have HGg := hide hg2
  have HWa := hide hwa
  have HMi := hide hmi2
  have HGa := hide G
  rw [hwa] at HGa
  rw [hwa] at x8 x2 x3 x0
  clear R hmi hmi2 K1 P1 G hg2 hwa
  go_enter Tryz.func57, Tryz.ntmps57
  go_wp2_with fail
  refine region_read Tryz.mixed (by kernel_rfl) ?_
  repeat (first | go_big_quiet_skip | (go_big_quiet_want; go_big_quiet_op; go_big_quiet_on))
  refine wpQuiet_nil ?_
  rw [← HGg.out]
  go_wp2_with (refine wpList_store_flat rfl 72 (.tmp 2) (.tmp 32) rfl g2 0 rfl _ _ [.int .i64 0, .slice none 0 0, .int .i64 0, .slice none 0 0, .slice none 0 0] HGa.out rfl (by simp) Tryz.sgdSize (by simp [Value.oneCell']) #[.int .i64 0, .slice none 0 0, .int .i64 0, .slice none 0 0, .slice none 0 0] rfl ?_; intro w7 G7 K7)
  refine bodyPost_ret (results_flat2 rfl _ rfl G7 Tryz.underlying72 rfl Tryz.sgdSize) rfl ?_
  exact ⟨rfl, HK1.out.then (by rw [HWa.out]; exact K7) (fun i hi => .inr (by simp at hi; have := HGg.out; omega))⟩
set_option maxRecDepth 100000 in
set_option maxHeartbeats 8000000 in
/-- a new checkpoint is signed. -/
theorem r15pub_newN (h : Rf w0 w F p vi seed its n none) (hF : ∀ j, F j → j < w.heap.size) (hl : its.length ≤ 256) (hm : ∀ x ∈ its, x.length ≤ 65535) (hsB : Bs seed) (hsl : seed.length = 32) (hn : n < 16) :
    Calls Tryz.prog 57 #[.pointer (some ⟨p, 0, none⟩)] w fun e w' => ∃ v, e = .returned (.tuple #[v, .bool true]) ∧ SgV w' v (sgU seed its (its.length, n)) ∧ Rf w0 w' F p vi seed its (n + 1) (some (its.length, n)) ∧ Kp [p] w w' := by
  have hge : decide ((16 : Int) ≤ (n : Int)) = false := decide_eq_false (by omega)
  obtain ⟨og, base, sz, ix, ar, mr, cr, ap, np, cp, aq, nq, cq, lA, R⟩ := h
  obtain ⟨ai, ci, hvi⟩ := R.al.row.1.1.shape
  obtain ⟨mi, hmi⟩ : ∃ m, m = (lA.map (·.1)).length := ⟨_, rfl⟩
  rw [← hmi] at hvi
  subst hvi
  have hmi2 : mi = its.length := by rw [hmi, ← R.it, List.length_map, List.length_map]
  obtain ⟨wa, hwa⟩ : ∃ y, y = (w.alloc (.cells #[.int .i64 0, .slice none 0 0, .int .i64 0, .slice none 0 0, .slice none 0 0] 72)).drew := ⟨_, rfl⟩
  have K1 : Kp [] w wa := by rw [hwa]; exact ((Kp.refl [] w).alloc _).drew
  obtain ⟨g2, hg2⟩ : ∃ g, g = w.heap.size := ⟨_, rfl⟩
  have G : wa.heap[g2]? = some (.cells #[.int .i64 0, .slice none 0 0, .int .i64 0, .slice none 0 0, .slice none 0 0] 72 (0, 0)) := by rw [hwa, hg2]; exact heap_alloc_new w _
  have P1 := K1.heap R.hp (by simp)
  have x8 : wa.cell? ⟨p, 8, none⟩ = some (.bool false) := by rw [cell_of_row _ p 8 _ _ _ P1]; rfl
  have x2 : wa.cell? ⟨p, 2, none⟩ = some (.int .i64 (n : Int)) := by rw [cell_of_row _ p 2 _ _ _ P1]; rfl
  have HRg := hide R
  have HK1 := hide K1
  have HP1 := hide P1
  have HG := hide G
  have HGg := hide hg2
  have HWa := hide hwa
  have HMi := hide hmi2
  have HGa := hide G
  rw [hwa] at HGa
  rw [hwa] at x8 x2
  clear R hmi hmi2 K1 P1 G hg2 hwa
  go_enter Tryz.func57, Tryz.ntmps57
  go_wp2_with fail
  refine region_read Tryz.mixed (by kernel_rfl) ?_
  repeat (first | go_big_quiet_skip | (go_big_quiet_want; go_big_quiet_op; go_big_quiet_on))
  refine wpQuiet_nil ?_
  rw [← HGg.out]
  rw [← HWa.out] at x8 x2 ⊢
  have HHF := hide hF
  have HLn : Hid (its.length ≤ 1000) := hide (by omega)
  have HLm := hide hm
  have HSB := hide hsB
  have HSL := hide hsl
  have HN := hide hn
  have hmi256 : mi ≤ 256 := by rw [HMi.out]; exact hl
  obtain ⟨r, hr⟩ : ∃ r, r = rtU its := ⟨_, rfl⟩
  obtain ⟨B, hB⟩ : ∃ B, B = bodC (mi : Int) r := ⟨_, rfl⟩
  obtain ⟨d, hd⟩ : ∃ d, d = digP B := ⟨_, rfl⟩
  obtain ⟨ps, hps⟩ : ∃ q, q = sgnP seed n d := ⟨_, rfl⟩
  obtain ⟨qs, hqs⟩ : ∃ q, q = pthP seed n 4 := ⟨_, rfl⟩
  obtain ⟨FX, hFX⟩ : ∃ f : Nat → Prop, f = fun j => FG F p (.slice ai mi ci) j ∨ j = g2 := ⟨_, rfl⟩
  have HR := hide hr
  have HB := hide hB
  have HD := hide hd
  have HPs := hide hps
  have HQs := hide hqs
  have HFX := hide hFX
  have HBr : Hid (Bs r) := hide (by rw [hr]; exact rtU_bs _)
  have hrl : r.length = 32 := by rw [hr]; exact rtU_len _
  have HBB : Hid (Bs B) := hide (by rw [hB]; exact bodC_bs _ _ HBr.out)
  have HBl : Hid (B.length ≤ 1000) := hide (by rw [hB, bodC_len ((rgtC_iff _ _).2 ⟨by omega, hrl⟩)]; omega)
  have HC0 : Hid (∀ w', Kp [] wa.drew w' → w'.cell? ⟨p, 0, none⟩ = some (.slice ai mi ci)) := hide (fun w' k => by rw [cell_of_row w' p 0 _ _ _ (((kp_drew wa).trans k).heap HP1.out (by simp))]; rfl)
  have HLc : Hid (∀ w', Kp [] wa.drew w' → LcM its (.slice ai mi ci) w') := hide (fun w' k => by
    have A := HRg.out.al.on (HK1.out.trans ((kp_drew wa).trans k))
    exact ⟨lA, lc_of_owns A.row.1.1 (A.row.lists (by rw [← List.length_map (f := (·.2)), HRg.out.it]; omega)), HRg.out.it⟩)
  clear hF hl hm hsB hsl hr hB hd hps hqs hFX hn x8
  go_wp2_with fail
  refine region_grow_tail 9 Tryz.mixed [Is (.pointer (some ⟨p, 0, none⟩)), Is (.pointer (some ⟨p, 0, none⟩)), Is (.pointer (some ⟨p, 0, none⟩)), Is (.slice ai mi ci), Is (.int .i64 mi), Is (.pointer (some ⟨p, 0, none⟩)), RtK wa.drew.heap.size r, CkK wa.drew.heap.size mi r, NwCk wa.drew.heap.size] [[(0, none)], [(33, some 0)], [(34, some 1)], [(35, some 2)], [(36, some 3)], [(0, none)], [(38, some 5)], [(37, some 4), (39, some 6)], []] (by kernel_rfl) ?_ ?_ ?_
  all_goals try simp only [List.take_succ_cons, List.take_zero, List.drop_succ_cons, List.drop_zero]
  · simp only [List.mem_cons, List.not_mem_nil, or_false]
    intro R hR
    rcases hR with rfl | rfl | rfl | rfl | rfl | rfl | rfl | rfl | rfl <;> first | exact stable_is _ | exact stable_rtk _ _ | exact stable_ckk _ _ _ | exact stable_nwck _
  · refine steps_cons (fun a w hk hn => ?_) ?_
    · have h0 : a.eval (.tmp 0) = .pointer (some ⟨p, 0, none⟩) := hn.1
      clear hn
      refine wants_plain rfl ?_
      exact grown_move (.tmp 0) rfl h0
    refine steps_cons (fun a w hk hn => ?_) ?_
    · have h33 : a.eval (.tmp 33) = .pointer (some ⟨p, 0, none⟩) := hn.1
      clear hn
      refine wants_plain rfl ?_
      refine grown_run (v := .pointer (some ⟨p, 0, none⟩)) ?_ (Kp.refl _ _) rfl
      obtain ⟨ρ, hρ, hc, hf, hg⟩ := eval_is a
      rw [hρ] at h33 ⊢
      simp [go_sem, h33]
    refine steps_cons (fun a w hk hn => ?_) ?_
    · have h34 : a.eval (.tmp 34) = .pointer (some ⟨p, 0, none⟩) := hn.1
      clear hn
      refine wants_plain rfl ?_
      refine grown_run (v := .pointer (some ⟨p, 0, none⟩)) ?_ (Kp.refl _ _) rfl
      obtain ⟨ρ, hρ, hc, hf, hg⟩ := eval_is a
      rw [hρ] at h34 ⊢
      simp [go_sem, h34]
    refine steps_cons (fun a w hk hn => ?_) ?_
    · have h35 : a.eval (.tmp 35) = .pointer (some ⟨p, 0, none⟩) := hn.1
      clear hn
      refine wants_plain rfl ?_
      refine grown_run (v := .slice ai mi ci) ?_ (Kp.refl _ _) rfl
      have hcell := HC0.out w hk
      obtain ⟨ρ, hρ, hc, hf, hg⟩ := eval_is a
      rw [hρ] at h35 ⊢
      simp [go_sem, h35, hcell]
    refine steps_cons (fun a w hk hn => ?_) ?_
    · have h36 : a.eval (.tmp 36) = .slice ai mi ci := hn.1
      clear hn
      refine wants_plain rfl ?_
      refine grown_run (v := .int .i64 mi) ?_ (Kp.refl _ _) rfl
      obtain ⟨ρ, hρ, hc, hf, hg⟩ := eval_is a
      rw [hρ] at h36 ⊢
      simp [go_sem, h36]
    refine steps_cons (fun a w hk hn => ?_) ?_
    · have h0 : a.eval (.tmp 0) = .pointer (some ⟨p, 0, none⟩) := hn.1
      clear hn
      refine wants_plain rfl ?_
      exact grown_move (.tmp 0) rfl h0
    refine steps_cons (fun a w hk hn => ?_) ?_
    · have h38 : a.eval (.tmp 38) = .pointer (some ⟨p, 0, none⟩) := hn.1
      clear hn
      refine wants_plain rfl ?_
      refine grown_call (f := 100) rfl Tryz.func100 (by kernel_rfl) (by kernel_rfl) ?_
      simp only [List.map_toArray, List.map_cons, List.map_nil, h38]
      refine (r15root_any p _ its r w HR.out (HC0.out w hk) (HLc.out w hk) HLn.out HLm.out).mono ?_
      rintro e w' ⟨ao, m, c, rfl, R, h, K⟩
      exact ⟨_, rfl, K, ⟨_, _, _, rfl⟩, R, fun q hq => Nat.le_trans hk.size (h q hq)⟩
    refine steps_cons (fun a w hk hn => ?_) ?_
    · have h37 : a.eval (.tmp 37) = .int .i64 mi := hn.1
      have h39 : (RtK wa.drew.heap.size r) (a.eval (.tmp 39)) w := hn.2.1
      clear hn
      refine wants_plain rfl ?_
      exact grown_ckk (.tmp 37) (.tmp 39) rfl h37 h39
    refine steps_cons (fun a w hk hn => ?_) ?_
    · clear hn
      refine wants_plain rfl ?_
      exact grown_nwck _ hk.size rfl
    exact trivial
  intro W1 hkW1
  rintro _ rfl
  rintro _ rfl
  rintro _ rfl
  rintro _ rfl
  rintro _ rfl
  rintro _ rfl
  intro v39 h39
  intro v40 h40
  intro v4 h4
  refine fin_nil ?_
  simp only [Act.put, List.set_cons_zero, List.set_cons_succ, List.setIfInBounds_toArray]
  obtain ⟨a5, m5, c5, rfl, hS5, hO5⟩ := h40
  obtain ⟨g4, rfl, G4, hg4⟩ := h4
  have HCk0 : Hid (CkV W1 (.agg #[.int .i64 (mi : Int), .slice a5 m5 c5]) (mi : Int) r) := hide ⟨a5, m5, c5, rfl, hS5, HBr.out⟩
  have HG4z := hide G4
  have HKa := hide (HK1.out.trans ((kp_drew wa).trans hkW1))
  have HS5 := hide hS5
  have HO5 := hide hO5
  have Hg4 : Hid (wa.heap.size ≤ g4) := hide hg4
  clear h39 hS5 hO5 G4 hg4 x2
  go_wp2_with (refine wpList_store_flat rfl 68 (.tmp 4) (.tmp 40) rfl g4 0 rfl #[.int .i64 0, .slice none 0 0] 68 [.int .i64 (mi : Int), .slice a5 m5 c5] HG4z.out rfl (by simp) Tryz.chkSize (by simp [Value.oneCell']) #[.int .i64 (mi : Int), .slice a5 m5 c5] rfl ?_; intro w4 G4 K4; refine Hid.out ?_)
  have hwas := HK1.out.size
  have HK4 : Hid (Kp [] w w4) := hide (HKa.out.then K4 (fun i hi => .inr (by simp at hi; have := Hg4.out; omega)))
  have HK14 : Hid (Kp [] wa w4) := hide (((kp_drew wa).trans hkW1).then K4 (fun i hi => .inr (by simp at hi; have := Hg4.out; omega)))
  have HS4 : Hid (Sl w4 (.slice a5 m5 c5) r) := hide (Sl.offBy HS5.out (fun g hg => by obtain rfl : g = g4 := (by simpa using hg); exact ⟨_, _, _, HG4z.out, fun x hx y e => by subst e; simp at hx⟩) K4)
  have hpl : p < w.heap.size := HRg.out.lt
  have hp4 : p < g4 := by have := Hg4.out; omega
  have HFXp : Hid (FX p) := hide (by rw [HFX.out]; exact .inl (.inr (.inl rfl)))
  have hg2w : g2 < wa.heap.size := lt_of_block HG.out
  have hg2e : g2 = w.heap.size := HGg.out
  have hw4 := HK14.out.size
  have HG4 : Hid (∀ w', Kp [p] w4.drew w' → w'.heap[g4]? = some (.cells #[.int .i64 (mi : Int), .slice a5 m5 c5] 68 (0, 0))) := hide (fun w' k => k.heap ((kp_drew w4).heap G4 (by simp)) (by simp; omega))
  have HCk : Hid (∀ w', Kp [p] w4.drew w' → CkV w' (.agg #[.int .i64 (mi : Int), .slice a5 m5 c5]) (mi : Int) r) := hide (fun w' k => ⟨a5, m5, c5, rfl, (HS4.out.kept (kp_drew w4) (by simp)).kept k (fun q hq hm => by have h1 := HO5.out q hq; simp at hm; have e : wa.drew.heap.size = wa.heap.size := rfl; omega), HBr.out⟩)
  have HFx : Hid (∀ w', Kp [p] w4.drew w' → ∀ j, FX j → j < w'.heap.size) := hide (fun w' k j hj => by
    rw [HFX.out] at hj
    have hs := k.size
    have e : w4.drew.heap.size = w4.heap.size := rfl
    rcases hj with hj | hj
    · exact Nat.lt_of_lt_of_le (HRg.out.fg HHF.out j hj) (Nat.le_trans (HK4.out.trans (kp_drew w4)).size k.size)
    · omega)
  have HOw : Hid (∀ w', Kp [p] w4.drew w' → OwN FX w' base og seed 5) := hide (fun w' k => by
    have h1 : OwN FX w4.drew base og seed 5 := by
      rw [HFX.out]
      refine HRg.out.ow.step ⟨⟨[], by simp, HK4.out.trans (kp_drew w4)⟩, fun i hi => hi.imp id (fun e => ?_)⟩
      have e2 : w4.drew.heap.size = w4.heap.size := rfl
      omega
    exact h1.step (stp_one HFXp.out k))
  have HP4 := hide ((HK4.out.trans (kp_drew w4)).heap HRg.out.hp (by simp))
  clear G4 K4 HG4z HS5 hkW1 HCk0 hg2e
  refine hide ?_
  go_wp2_with fail
  refine region_growL (K := KPn p) (G := GP w4.drew p (.slice ai mi ci) og n) Tryz.mixed [Is (.pointer (some ⟨p, 0, none⟩)), Is (.pointer (some ⟨p, 0, none⟩)), Is (.agg #[.int .i64 mi, .slice a5 m5 c5]), Is (.pointer (some ⟨p, 0, none⟩)), Is (.pointer (some ⟨p, 0, none⟩)), Is (.pointer (some ⟨p, 1, none⟩)), Is (.pointer (some ⟨og, 0, none⟩)), Is (.pointer (some ⟨p, 0, none⟩)), Is (.pointer (some ⟨p, 0, none⟩)), Is (.pointer (some ⟨p, 2, none⟩)), Is (.int .i64 n), Is (.agg #[.int .i64 mi, .slice a5 m5 c5]), SlT (B), SiK FX n ps qs, SgK FX mi a5 m5 c5 n ps qs, Is (.pointer (some ⟨p, 0, none⟩)), Is (.pointer (some ⟨p, 3, none⟩)), AnyT, Is (.pointer (some ⟨p, 0, none⟩)), Is (.pointer (some ⟨p, 8, none⟩)), AnyT] [[(0, none)], [(0, none)], [(4, none)], [(0, none)], [(44, some 3)], [(45, some 4)], [(46, some 5)], [(0, none)], [(48, some 7)], [(49, some 8)], [(50, some 9)], [(4, none)], [(52, some 11)], [(47, some 6), (51, some 10), (53, some 12)], [(43, some 2), (54, some 13)], [(41, some 0)], [(56, some 15)], [(57, some 16), (55, some 14)], [(42, some 1)], [(58, some 18)], [(59, some 19)]] (by kernel_rfl) ?_ ?_ ?_ ?_ ?_
  · intro k R hR hd w'
    have hk : k < 21 := by have := (List.getElem?_eq_some_iff.1 hR).1; simpa using this
    rcases (by omega : k = 0 ∨ k = 1 ∨ k = 2 ∨ k = 3 ∨ k = 4 ∨ k = 5 ∨ k = 6 ∨ k = 7 ∨ k = 8 ∨ k = 9 ∨ k = 10 ∨ k = 11 ∨ k = 12 ∨ k = 13 ∨ k = 14 ∨ k = 15 ∨ k = 16 ∨ k = 17 ∨ k = 18 ∨ k = 19 ∨ k = 20) with rfl | rfl | rfl | rfl | rfl | rfl | rfl | rfl | rfl | rfl | rfl | rfl | rfl | rfl | rfl | rfl | rfl | rfl | rfl | rfl | rfl <;> first | (cases hR; exact trivial) | cases hd
  · simp only [List.mem_cons, List.not_mem_nil, or_false]
    intro R hR
    rcases hR with rfl | rfl | rfl | rfl | rfl | rfl | rfl | rfl | rfl | rfl | rfl | rfl | rfl | rfl | rfl | rfl | rfl | rfl | rfl | rfl | rfl <;> first | exact stableP_is _ | exact stableP_sl _ | exact stableP_any | exact stableP_sik HFXp.out _ _ _ | exact stableP_sgk HFXp.out _ _ _ _ _ _ _
  · exact ⟨Kp.refl _ _, _, _, _, _, _, _, _, _, _, _, _, _, HP4.out, (fun t e => by cases e), (fun h => by simp at h), (fun h => by simp at h)⟩
  · refine steps_consL (fun listed a w hnot hdep hcl hsz hg hn => ?_) ?_
    · have h0 : a.eval (.tmp 0) = .pointer (some ⟨p, 0, none⟩) := hn.1
      clear hn
      have hk := hg.1
      refine wantsG_of1M (fun _ k => .inl k) (fun v w' k => hg.free 0 (by decide) (by decide) 41 (fun h => absurd h (by decide)) v k) ?_
      refine wants_plain rfl ?_
      exact grown_move (.tmp 0) rfl h0
    refine steps_consL (fun listed a w hnot hdep hcl hsz hg hn => ?_) ?_
    · have h0 : a.eval (.tmp 0) = .pointer (some ⟨p, 0, none⟩) := hn.1
      clear hn
      have hk := hg.1
      refine wantsG_of1M (fun _ k => .inl k) (fun v w' k => hg.free 1 (by decide) (by decide) 42 (fun h => absurd h (by decide)) v k) ?_
      refine wants_plain rfl ?_
      exact grown_move (.tmp 0) rfl h0
    refine steps_consL (fun listed a w hnot hdep hcl hsz hg hn => ?_) ?_
    · have h4 : a.eval (.tmp 4) = .pointer (some ⟨g4, 0, none⟩) := hn.1
      clear hn
      have hk := hg.1
      refine wantsG_of1M (fun _ k => .inl k) (fun v w' k => hg.free 2 (by decide) (by decide) 43 (fun h => absurd h (by decide)) v k) ?_
      refine wants_plain rfl ?_
      exact grown_loadf 68 (.tmp 4) rfl g4 0 h4 _ _ _ _ (HG4.out w hk) [.int .i64 mi, .slice a5 m5 c5] (flat_in rfl) Tryz.underlying68 rfl Tryz.chkSize rfl
    refine steps_consL (fun listed a w hnot hdep hcl hsz hg hn => ?_) ?_
    · have h0 : a.eval (.tmp 0) = .pointer (some ⟨p, 0, none⟩) := hn.1
      clear hn
      have hk := hg.1
      refine wantsG_of1M (fun _ k => .inl k) (fun v w' k => hg.free 3 (by decide) (by decide) 44 (fun h => absurd h (by decide)) v k) ?_
      refine wants_plain rfl ?_
      exact grown_move (.tmp 0) rfl h0
    refine steps_consL (fun listed a w hnot hdep hcl hsz hg hn => ?_) ?_
    · have h44 : a.eval (.tmp 44) = .pointer (some ⟨p, 0, none⟩) := hn.1
      clear hn
      have hk := hg.1
      refine wantsG_of1M (fun _ k => .inl k) (fun v w' k => hg.free 4 (by decide) (by decide) 45 (fun h => absurd h (by decide)) v k) ?_
      refine wants_plain rfl ?_
      refine grown_run (v := .pointer (some ⟨p, 0, none⟩)) ?_ (Kp.refl _ _) rfl
      obtain ⟨ρ, hρ, hc, hf, hg⟩ := eval_is a
      rw [hρ] at h44 ⊢
      simp [go_sem, h44]
    refine steps_consL (fun listed a w hnot hdep hcl hsz hg hn => ?_) ?_
    · have h45 : a.eval (.tmp 45) = .pointer (some ⟨p, 0, none⟩) := hn.1
      clear hn
      have hk := hg.1
      refine wantsG_of1M (fun _ k => .inl k) (fun v w' k => hg.free 5 (by decide) (by decide) 46 (fun h => absurd h (by decide)) v k) ?_
      refine wants_plain rfl ?_
      refine grown_run (v := .pointer (some ⟨p, 1, none⟩)) ?_ (Kp.refl _ _) rfl
      obtain ⟨ρ, hρ, hc, hf, hg⟩ := eval_is a
      rw [hρ] at h45 ⊢
      simp [go_sem, h45]
    refine steps_consL (fun listed a w hnot hdep hcl hsz hg hn => ?_) ?_
    · have h46 : a.eval (.tmp 46) = .pointer (some ⟨p, 1, none⟩) := hn.1
      clear hn
      have hk := hg.1
      refine wantsG_of1M (fun _ k => .inl k) (fun v w' k => hg.free 6 (by decide) (by decide) 47 (fun h => absurd h (by decide)) v k) ?_
      refine wants_plain rfl ?_
      refine grown_run (v := .pointer (some ⟨og, 0, none⟩)) ?_ (Kp.refl _ _) rfl
      have hcell := hg.c1
      obtain ⟨ρ, hρ, hc, hf, hgg⟩ := eval_is a
      rw [hρ] at h46 ⊢
      simp [go_sem, h46, hcell]
    refine steps_consL (fun listed a w hnot hdep hcl hsz hg hn => ?_) ?_
    · have h0 : a.eval (.tmp 0) = .pointer (some ⟨p, 0, none⟩) := hn.1
      clear hn
      have hk := hg.1
      refine wantsG_of1M (fun _ k => .inl k) (fun v w' k => hg.free 7 (by decide) (by decide) 48 (fun h => absurd h (by decide)) v k) ?_
      refine wants_plain rfl ?_
      exact grown_move (.tmp 0) rfl h0
    refine steps_consL (fun listed a w hnot hdep hcl hsz hg hn => ?_) ?_
    · have h48 : a.eval (.tmp 48) = .pointer (some ⟨p, 0, none⟩) := hn.1
      clear hn
      have hk := hg.1
      refine wantsG_of1M (fun _ k => .inl k) (fun v w' k => hg.free 8 (by decide) (by decide) 49 (fun h => absurd h (by decide)) v k) ?_
      refine wants_plain rfl ?_
      refine grown_run (v := .pointer (some ⟨p, 0, none⟩)) ?_ (Kp.refl _ _) rfl
      obtain ⟨ρ, hρ, hc, hf, hg⟩ := eval_is a
      rw [hρ] at h48 ⊢
      simp [go_sem, h48]
    refine steps_consL (fun listed a w hnot hdep hcl hsz hg hn => ?_) ?_
    · have h49 : a.eval (.tmp 49) = .pointer (some ⟨p, 0, none⟩) := hn.1
      clear hn
      have hk := hg.1
      refine wantsG_of1M (fun _ k => .inl k) (fun v w' k => hg.free 9 (by decide) (by decide) 50 (fun h => absurd h (by decide)) v k) ?_
      refine wants_plain rfl ?_
      refine grown_run (v := .pointer (some ⟨p, 2, none⟩)) ?_ (Kp.refl _ _) rfl
      obtain ⟨ρ, hρ, hc, hf, hg⟩ := eval_is a
      rw [hρ] at h49 ⊢
      simp [go_sem, h49]
    refine steps_consL (fun listed a w hnot hdep hcl hsz hg hn => ?_) ?_
    · have h50 : a.eval (.tmp 50) = .pointer (some ⟨p, 2, none⟩) := hn.1
      clear hn
      have hk := hg.1
      refine wantsG_of1M (fun _ k => .inl k) (fun v w' k => hg.free 10 (by decide) (by decide) 51 (fun h => absurd h (by decide)) v k) ?_
      refine wants_plain rfl ?_
      refine grown_run (v := .int .i64 n) ?_ (Kp.refl _ _) rfl
      have hcell := hg.c2
      obtain ⟨ρ, hρ, hc, hf, hgg⟩ := eval_is a
      rw [hρ] at h50 ⊢
      simp [go_sem, h50, hcell]
    refine steps_consL (fun listed a w hnot hdep hcl hsz hg hn => ?_) ?_
    · have h4 : a.eval (.tmp 4) = .pointer (some ⟨g4, 0, none⟩) := hn.1
      clear hn
      have hk := hg.1
      refine wantsG_of1M (fun _ k => .inl k) (fun v w' k => hg.free 11 (by decide) (by decide) 52 (fun h => absurd h (by decide)) v k) ?_
      refine wants_plain rfl ?_
      exact grown_loadf 68 (.tmp 4) rfl g4 0 h4 _ _ _ _ (HG4.out w hk) [.int .i64 mi, .slice a5 m5 c5] (flat_in rfl) Tryz.underlying68 rfl Tryz.chkSize rfl
    refine steps_consL (fun listed a w hnot hdep hcl hsz hg hn => ?_) ?_
    · have h52 : a.eval (.tmp 52) = .agg #[.int .i64 mi, .slice a5 m5 c5] := hn.1
      clear hn
      have hk := hg.1
      refine wantsG_of1M (fun _ k => .inl k) (fun v w' k => hg.free 12 (by decide) (by decide) 53 (fun h => absurd h (by decide)) v k) ?_
      refine wants_plain rfl ?_
      refine grown_call (f := 83) rfl Tryz.func83 (by kernel_rfl) (by kernel_rfl) ?_
      simp only [List.map_toArray, List.map_cons, List.map_nil, h52]
      refine (rckbody_any _ (mi : Int) r B HB.out w (HCk.out w hk)).mono ?_
      rintro e w' ⟨ao, m, c, rfl, R, K⟩
      exact ⟨_, rfl, K, R⟩
    refine steps_consL (fun listed a w hnot hdep hcl hsz hg hn => ?_) ?_
    · have h47 : a.eval (.tmp 47) = .pointer (some ⟨og, 0, none⟩) := hn.1
      have h51 : a.eval (.tmp 51) = .int .i64 n := hn.2.1
      have h53 : Sl w (a.eval (.tmp 53)) (B) := hn.2.2.1
      clear hn
      have hk := hg.1
      refine wantsG_of1M (fun _ k => .inl k) (fun v w' k => hg.free 13 (by decide) (by decide) 54 (fun h => absurd h (by decide)) v k) ?_
      refine wants_plain rfl ?_
      refine grown_call (f := 101) rfl Tryz.func101 (by kernel_rfl) (by kernel_rfl) ?_
      simp only [List.map_toArray, List.map_cons, List.map_nil, h47, h51]
      refine (own_signK FX og base seed n _ B d HD.out w (HFx.out w hk) (HOw.out w hk) HSB.out HSL.out HN.out h53 HBB.out HBl.out).mono ?_
      rintro e w' ⟨v, rfl, V, K⟩
      rw [← HPs.out, ← HQs.out] at V
      exact ⟨_, rfl, K, V⟩
    refine steps_consL (fun listed a w hnot hdep hcl hsz hg hn => ?_) ?_
    · have h43 : a.eval (.tmp 43) = .agg #[.int .i64 mi, .slice a5 m5 c5] := hn.1
      have h54 : (SiK FX n ps qs) (a.eval (.tmp 54)) w := hn.2.1
      clear hn
      have hk := hg.1
      refine wantsG_of1M (fun _ k => .inl k) (fun v w' k => hg.free 14 (by decide) (by decide) 55 (fun _ => lstM hcl 17 14 rfl (by decide) hnot) v k) ?_
      refine wants_plain rfl ?_
      exact grown_sgk (.tmp 43) (.tmp 54) rfl h43 h54
    refine steps_consL (fun listed a w hnot hdep hcl hsz hg hn => ?_) ?_
    · have h41 : a.eval (.tmp 41) = .pointer (some ⟨p, 0, none⟩) := hn.1
      clear hn
      have hk := hg.1
      refine wantsG_of1M (fun _ k => .inl k) (fun v w' k => hg.free 15 (by decide) (by decide) 56 (fun h => absurd h (by decide)) v k) ?_
      refine wants_plain rfl ?_
      refine grown_run (v := .pointer (some ⟨p, 0, none⟩)) ?_ (Kp.refl _ _) rfl
      obtain ⟨ρ, hρ, hc, hf, hg⟩ := eval_is a
      rw [hρ] at h41 ⊢
      simp [go_sem, h41]
    refine steps_consL (fun listed a w hnot hdep hcl hsz hg hn => ?_) ?_
    · have h56 : a.eval (.tmp 56) = .pointer (some ⟨p, 0, none⟩) := hn.1
      clear hn
      have hk := hg.1
      refine wantsG_of1M (fun _ k => .inl k) (fun v w' k => hg.free 16 (by decide) (by decide) 57 (fun h => absurd h (by decide)) v k) ?_
      refine wants_plain rfl ?_
      refine grown_run (v := .pointer (some ⟨p, 3, none⟩)) ?_ (Kp.refl _ _) rfl
      obtain ⟨ρ, hρ, hc, hf, hg⟩ := eval_is a
      rw [hρ] at h56 ⊢
      simp [go_sem, h56]
    refine steps_consL (fun listed a w hnot hdep hcl hsz hg hn => ?_) ?_
    · have h57 : a.eval (.tmp 57) = .pointer (some ⟨p, 3, none⟩) := hn.1
      have h55 : (SgK FX mi a5 m5 c5 n ps qs) (a.eval (.tmp 55)) w := hn.2.1
      clear hn
      exact hg.st1 hsz rfl rfl rfl h57 h55
    refine steps_consL (fun listed a w hnot hdep hcl hsz hg hn => ?_) ?_
    · have h42 : a.eval (.tmp 42) = .pointer (some ⟨p, 0, none⟩) := hn.1
      clear hn
      have hk := hg.1
      refine wantsG_of1M (fun _ k => .inl k) (fun v w' k => hg.free 18 (by decide) (by decide) 58 (fun h => absurd h (by decide)) v k) ?_
      refine wants_plain rfl ?_
      refine grown_run (v := .pointer (some ⟨p, 0, none⟩)) ?_ (Kp.refl _ _) rfl
      obtain ⟨ρ, hρ, hc, hf, hg⟩ := eval_is a
      rw [hρ] at h42 ⊢
      simp [go_sem, h42]
    refine steps_consL (fun listed a w hnot hdep hcl hsz hg hn => ?_) ?_
    · have h58 : a.eval (.tmp 58) = .pointer (some ⟨p, 0, none⟩) := hn.1
      clear hn
      have hk := hg.1
      refine wantsG_of1M (fun _ k => .inl k) (fun v w' k => hg.free 19 (by decide) (by decide) 59 (fun h => absurd h (by decide)) v k) ?_
      refine wants_plain rfl ?_
      refine grown_run (v := .pointer (some ⟨p, 8, none⟩)) ?_ (Kp.refl _ _) rfl
      obtain ⟨ρ, hρ, hc, hf, hg⟩ := eval_is a
      rw [hρ] at h58 ⊢
      simp [go_sem, h58]
    refine steps_consL (fun listed a w hnot hdep hcl hsz hg hn => ?_) ?_
    · have h59 : a.eval (.tmp 59) = .pointer (some ⟨p, 8, none⟩) := hn.1
      clear hn
      exact hg.st2 hsz rfl rfl rfl h59
    exact trivial
  intro W1
  rintro _ rfl
  rintro _ rfl
  rintro _ rfl
  rintro _ rfl
  rintro _ rfl
  rintro _ rfl
  rintro _ rfl
  rintro _ rfl
  rintro _ rfl
  rintro _ rfl
  rintro _ rfl
  rintro _ rfl
  intro v53 h53
  intro v54 h54
  intro v55 h55
  rintro _ rfl
  rintro _ rfl
  intro _ _
  rintro _ rfl
  rintro _ rfl
  intro _ _
  refine fin_nil ?_
  intro listed hall hgg
  simp only [Act.put, List.set_cons_zero, List.set_cons_succ, List.setIfInBounds_toArray] at hgg ⊢
  obtain ⟨kP, sz6, ix6, ar6, mr6, cr6, ap6, np6, cp6, aq6, nq6, cq6, b6, hp6, -, h1, h2⟩ := hgg
  obtain ⟨bp, mp, dp, bq, mq, dq, rfl, hKt⟩ := h55
  have e1 := h1 (hall 17 (by decide))
  have e2 := h2 (hall 20 (by decide))
  have e3 : Value.agg #[.int .i64 (mi : Int), .slice a5 m5 c5, .int .i64 (n : Int), .slice bp mp dp, .slice bq mq dq] = .agg #[.int .i64 sz6, .slice ar6 mr6 cr6, .int .i64 ix6, .slice ap6 np6 cp6, .slice aq6 nq6 cq6] := e1
  simp only [Value.agg.injEq, Array.mk.injEq, List.cons.injEq, and_true] at e3
  obtain ⟨q1, q2, q3, q4, q5⟩ := e3
  rw [← q1, ← q2, ← q3, ← q4, ← q5, e2] at hp6
  obtain ⟨n1, hn1⟩ : ∃ m, m = n + 1 := ⟨_, rfl⟩
  have hwr : IntKind.i64.wrap ((n : Int) + 1) = (n1 : Int) := by have := HN.out; rw [hn1]; simp [IntKind.wrap, IntKind.signed, IntKind.bits]; omega
  have hc2 : W1.cell? ⟨p, 2, none⟩ = some (.int .i64 (n : Int)) := by rw [cell_of_row W1 p 2 _ _ _ hp6]; rfl
  have hf2 : W1.frozen? ⟨p, 2, none⟩ = false := frozen_of_row W1 p 2 _ _ hp6
  have HP6 : Hid ((W1.setCell ⟨p, 2, none⟩ (.int .i64 (n1 : Int))).heap[p]? = some (.cells #[.slice ai mi ci, .pointer (some ⟨og, 0, none⟩), .int .i64 (n1 : Int), .int .i64 (mi : Int), .slice a5 m5 c5, .int .i64 (n : Int), .slice bp mp dp, .slice bq mq dq, .bool true] 74 (0, 0))) := hide (by
    have := heap_setCell_same W1 p 2 _ _ (.int .i64 (n1 : Int)) hp6
    simpa using this)
  have k6 := kp_set W1 p 2 (.int .i64 (n1 : Int))
  have HG6 : Hid ((W1.setCell ⟨p, 2, none⟩ (.int .i64 (n1 : Int))).heap[g2]? = some (.cells #[.int .i64 0, .slice none 0 0, .int .i64 0, .slice none 0 0, .slice none 0 0] 72 (0, 0))) := hide (((kP.trans k6).heap ((HK14.out.trans (kp_drew w4)).heap HG.out (by simp)) (by have := HGg.out; simp; omega)))
  have HKP := hide (kP.trans k6)
  have HKt := hide (Kt.step hKt (stp_one HFXp.out k6))
  have HN1 := hide hn1
  clear hall h1 h2 e1 e2 q1 q2 q3 q4 q5 h53 h54 hp6 kP k6 hKt hn1 HCk HG4 HFx HOw HP4 HC0 HLc
  go_wp2_with (first
    | (refine wpList_load_flat rfl 72 (.tmp 69) rfl p 3 rfl _ 74 (0, 0) _ HP6.out [.int .i64 (mi : Int), .slice a5 m5 c5, .int .i64 (n : Int), .slice bp mp dp, .slice bq mq dq] (flat_in rfl) Tryz.underlying72 rfl Tryz.sgdSize ?_)
    | (refine wpList_store_flat rfl 72 (.tmp 2) (.tmp 70) rfl g2 0 rfl _ _ [.int .i64 (mi : Int), .slice a5 m5 c5, .int .i64 (n : Int), .slice bp mp dp, .slice bq mq dq] HG6.out rfl (by simp) Tryz.sgdSize (by simp [Value.oneCell']) #[.int .i64 (mi : Int), .slice a5 m5 c5, .int .i64 (n : Int), .slice bp mp dp, .slice bq mq dq] rfl ?_; intro w7 G7 K7))
  refine bodyPost_ret (results_flat2 rfl _ rfl G7 Tryz.underlying72 rfl Tryz.sgdSize) rfl ?_
  have hg2e : g2 = w.heap.size := HGg.out
  have hFg : FX g2 := by rw [HFX.out]; exact .inr rfl
  have hKt7 := HKt.out.step (stp_one hFg K7)
  have hsg : sgU seed its (its.length, n) = ⟨(mi : Int), r, (n : Int), ps, qs⟩ := by
    unfold sgU sgnC
    simp only [List.take_length]
    rw [HPs.out, HQs.out, HD.out, HB.out, HR.out, HMi.out]
  have hw4d : w4.drew.heap.size = w4.heap.size := rfl
  have hK47 : Kp [p, g2] w4.drew w7 := (HKP.out.mono (by simp)).trans (K7.mono (by simp))
  have hKw7 : Kp [p] w w7 := ((HK4.out.trans (kp_drew w4)).mono (by simp)).then hK47 (fun i hi => by
    rcases List.mem_cons.1 hi with e | e
    · exact .inl (by simp [e])
    · exact .inr (by simp at e; omega))
  have hS7 : Kt w7 FX (fun w2 => Sl w2 (.slice a5 m5 c5) r) := fun U w2 hU kU => by
    have hno : ∀ q, (Value.slice a5 m5 c5).ownBlock = some q → q ≠ p ∧ q ≠ g2 ∧ ¬ FX q := fun q hq => by
      have h3 := HO5.out q hq
      have e : wa.drew.heap.size = wa.heap.size := rfl
      refine ⟨by omega, by omega, fun hx => ?_⟩
      rw [HFX.out] at hx
      rcases hx with hx | hx
      · have := HRg.out.fg HHF.out q hx; omega
      · omega
    have s4 := HS4.out.kept (kp_drew w4) (by simp)
    have s7 := s4.kept hK47 (fun q hq hm => by have := hno q hq; simp at hm; rcases hm with e | e; exact this.1 e; exact this.2.1 e)
    exact s7.kept kU (fun q hq hm => (hno q hq).2.2 (hU q hm))
  have hKS : Kt w7 FX (fun w2 => SgV w2 (.agg #[.int .i64 (mi : Int), .slice a5 m5 c5, .int .i64 (n : Int), .slice bp mp dp, .slice bq mq dq]) (sgU seed its (its.length, n))) := fun U w2 hU kU => by
    rw [hsg]
    exact ⟨a5, m5, c5, _, _, rfl, ⟨hS7 U w2 hU kU, HBr.out⟩, hKt7 U w2 hU kU⟩
  refine ⟨_, rfl, hKS.get, ⟨og, base, (mi : Int), (n : Int), a5, m5, c5, bp, mp, dp, bq, mq, dq, lA, ⟨?_, fun a ha => ?_, HRg.out.ow.step (stp_fgp hKw7), HRg.out.al.step (stp_fpp hKw7), HRg.out.it, HRg.out.lo, Nat.lt_of_lt_of_le HRg.out.lt hKw7.size, HRg.out.nf⟩⟩, hKw7⟩
  · have := K7.heap HP6.out (by simp; omega)
    rw [HN1.out] at this
    exact this
  · obtain rfl := Option.some.inj ha
    refine ⟨by rw [HMi.out], fun U w2 hU kU => hKS U w2 (fun i hi => by rw [HFX.out]; exact .inl (hU i hi)) kU⟩
set_option maxRecDepth 100000 in
set_option maxHeartbeats 8000000 in
/-- a new checkpoint is signed. -/
theorem r15pub_newS (a1 a2 : Nat) (h : Rf w0 w F p vi seed its n (some (a1, a2))) (hF : ∀ j, F j → j < w.heap.size) (hl : its.length ≤ 256) (hm : ∀ x ∈ its, x.length ≤ 65535) (hsB : Bs seed) (hsl : seed.length = 32) (hn : n < 16) (hne : a1 ≠ its.length) :
    Calls Tryz.prog 57 #[.pointer (some ⟨p, 0, none⟩)] w fun e w' => ∃ v, e = .returned (.tuple #[v, .bool true]) ∧ SgV w' v (sgU seed its (its.length, n)) ∧ Rf w0 w' F p vi seed its (n + 1) (some (its.length, n)) ∧ Kp [p] w w' := by
  have hge : decide ((16 : Int) ≤ (n : Int)) = false := decide_eq_false (by omega)
  obtain ⟨og, base, sz, ix, ar, mr, cr, ap, np, cp, aq, nq, cq, lA, R⟩ := h
  obtain ⟨ai, ci, hvi⟩ := R.al.row.1.1.shape
  obtain ⟨mi, hmi⟩ : ∃ m, m = (lA.map (·.1)).length := ⟨_, rfl⟩
  rw [← hmi] at hvi
  subst hvi
  have hmi2 : mi = its.length := by rw [hmi, ← R.it, List.length_map, List.length_map]
  obtain ⟨hsz, -⟩ := R.la (a1, a2) rfl
  simp only at hsz
  subst hsz
  have hne2 : ((a1 : Int) == (mi : Int)) = false := by simp; omega
  obtain ⟨wa, hwa⟩ : ∃ y, y = (w.alloc (.cells #[.int .i64 0, .slice none 0 0, .int .i64 0, .slice none 0 0, .slice none 0 0] 72)).drew := ⟨_, rfl⟩
  have K1 : Kp [] w wa := by rw [hwa]; exact ((Kp.refl [] w).alloc _).drew
  obtain ⟨g2, hg2⟩ : ∃ g, g = w.heap.size := ⟨_, rfl⟩
  have G : wa.heap[g2]? = some (.cells #[.int .i64 0, .slice none 0 0, .int .i64 0, .slice none 0 0, .slice none 0 0] 72 (0, 0)) := by rw [hwa, hg2]; exact heap_alloc_new w _
  have P1 := K1.heap R.hp (by simp)
  have x8 : wa.cell? ⟨p, 8, none⟩ = some (.bool true) := by rw [cell_of_row _ p 8 _ _ _ P1]; rfl
  have x3 : wa.cell? ⟨p, 3, none⟩ = some (.int .i64 (a1 : Int)) := by rw [cell_of_row _ p 3 _ _ _ P1]; rfl
  have x0 : wa.cell? ⟨p, 0, none⟩ = some (.slice ai mi ci) := by rw [cell_of_row _ p 0 _ _ _ P1]; rfl
  have x2 : wa.cell? ⟨p, 2, none⟩ = some (.int .i64 (n : Int)) := by rw [cell_of_row _ p 2 _ _ _ P1]; rfl
  have HRg := hide R
  have HK1 := hide K1
  have HP1 := hide P1
  have HG := hide G
  have HGg := hide hg2
  have HWa := hide hwa
  have HMi := hide hmi2
  have HGa := hide G
  rw [hwa] at HGa
  rw [hwa] at x8 x2 x3 x0
  clear R hmi hmi2 K1 P1 G hg2 hwa
  go_enter Tryz.func57, Tryz.ntmps57
  go_wp2_with fail
  refine region_read Tryz.mixed (by kernel_rfl) ?_
  repeat (first | go_big_quiet_skip | (go_big_quiet_want; go_big_quiet_op; go_big_quiet_on))
  refine wpQuiet_nil ?_
  rw [← HGg.out]
  rw [← HWa.out] at x8 x2 x3 x0 ⊢
  have HHF := hide hF
  have HLn : Hid (its.length ≤ 1000) := hide (by omega)
  have HLm := hide hm
  have HSB := hide hsB
  have HSL := hide hsl
  have HN := hide hn
  have hmi256 : mi ≤ 256 := by rw [HMi.out]; exact hl
  obtain ⟨r, hr⟩ : ∃ r, r = rtU its := ⟨_, rfl⟩
  obtain ⟨B, hB⟩ : ∃ B, B = bodC (mi : Int) r := ⟨_, rfl⟩
  obtain ⟨d, hd⟩ : ∃ d, d = digP B := ⟨_, rfl⟩
  obtain ⟨ps, hps⟩ : ∃ q, q = sgnP seed n d := ⟨_, rfl⟩
  obtain ⟨qs, hqs⟩ : ∃ q, q = pthP seed n 4 := ⟨_, rfl⟩
  obtain ⟨FX, hFX⟩ : ∃ f : Nat → Prop, f = fun j => FG F p (.slice ai mi ci) j ∨ j = g2 := ⟨_, rfl⟩
  have HR := hide hr
  have HB := hide hB
  have HD := hide hd
  have HPs := hide hps
  have HQs := hide hqs
  have HFX := hide hFX
  have HBr : Hid (Bs r) := hide (by rw [hr]; exact rtU_bs _)
  have hrl : r.length = 32 := by rw [hr]; exact rtU_len _
  have HBB : Hid (Bs B) := hide (by rw [hB]; exact bodC_bs _ _ HBr.out)
  have HBl : Hid (B.length ≤ 1000) := hide (by rw [hB, bodC_len ((rgtC_iff _ _).2 ⟨by omega, hrl⟩)]; omega)
  have HC0 : Hid (∀ w', Kp [] wa.drew w' → w'.cell? ⟨p, 0, none⟩ = some (.slice ai mi ci)) := hide (fun w' k => by rw [cell_of_row w' p 0 _ _ _ (((kp_drew wa).trans k).heap HP1.out (by simp))]; rfl)
  have HLc : Hid (∀ w', Kp [] wa.drew w' → LcM its (.slice ai mi ci) w') := hide (fun w' k => by
    have A := HRg.out.al.on (HK1.out.trans ((kp_drew wa).trans k))
    exact ⟨lA, lc_of_owns A.row.1.1 (A.row.lists (by rw [← List.length_map (f := (·.2)), HRg.out.it]; omega)), HRg.out.it⟩)
  clear hF hl hm hsB hsl hr hB hd hps hqs hFX hn x8
  go_wp2_with fail
  refine region_grow_tail 9 Tryz.mixed [Is (.pointer (some ⟨p, 0, none⟩)), Is (.pointer (some ⟨p, 0, none⟩)), Is (.pointer (some ⟨p, 0, none⟩)), Is (.slice ai mi ci), Is (.int .i64 mi), Is (.pointer (some ⟨p, 0, none⟩)), RtK wa.drew.heap.size r, CkK wa.drew.heap.size mi r, NwCk wa.drew.heap.size] [[(0, none)], [(33, some 0)], [(34, some 1)], [(35, some 2)], [(36, some 3)], [(0, none)], [(38, some 5)], [(37, some 4), (39, some 6)], []] (by kernel_rfl) ?_ ?_ ?_
  all_goals try simp only [List.take_succ_cons, List.take_zero, List.drop_succ_cons, List.drop_zero]
  · simp only [List.mem_cons, List.not_mem_nil, or_false]
    intro R hR
    rcases hR with rfl | rfl | rfl | rfl | rfl | rfl | rfl | rfl | rfl <;> first | exact stable_is _ | exact stable_rtk _ _ | exact stable_ckk _ _ _ | exact stable_nwck _
  · refine steps_cons (fun a w hk hn => ?_) ?_
    · have h0 : a.eval (.tmp 0) = .pointer (some ⟨p, 0, none⟩) := hn.1
      clear hn
      refine wants_plain rfl ?_
      exact grown_move (.tmp 0) rfl h0
    refine steps_cons (fun a w hk hn => ?_) ?_
    · have h33 : a.eval (.tmp 33) = .pointer (some ⟨p, 0, none⟩) := hn.1
      clear hn
      refine wants_plain rfl ?_
      refine grown_run (v := .pointer (some ⟨p, 0, none⟩)) ?_ (Kp.refl _ _) rfl
      obtain ⟨ρ, hρ, hc, hf, hg⟩ := eval_is a
      rw [hρ] at h33 ⊢
      simp [go_sem, h33]
    refine steps_cons (fun a w hk hn => ?_) ?_
    · have h34 : a.eval (.tmp 34) = .pointer (some ⟨p, 0, none⟩) := hn.1
      clear hn
      refine wants_plain rfl ?_
      refine grown_run (v := .pointer (some ⟨p, 0, none⟩)) ?_ (Kp.refl _ _) rfl
      obtain ⟨ρ, hρ, hc, hf, hg⟩ := eval_is a
      rw [hρ] at h34 ⊢
      simp [go_sem, h34]
    refine steps_cons (fun a w hk hn => ?_) ?_
    · have h35 : a.eval (.tmp 35) = .pointer (some ⟨p, 0, none⟩) := hn.1
      clear hn
      refine wants_plain rfl ?_
      refine grown_run (v := .slice ai mi ci) ?_ (Kp.refl _ _) rfl
      have hcell := HC0.out w hk
      obtain ⟨ρ, hρ, hc, hf, hg⟩ := eval_is a
      rw [hρ] at h35 ⊢
      simp [go_sem, h35, hcell]
    refine steps_cons (fun a w hk hn => ?_) ?_
    · have h36 : a.eval (.tmp 36) = .slice ai mi ci := hn.1
      clear hn
      refine wants_plain rfl ?_
      refine grown_run (v := .int .i64 mi) ?_ (Kp.refl _ _) rfl
      obtain ⟨ρ, hρ, hc, hf, hg⟩ := eval_is a
      rw [hρ] at h36 ⊢
      simp [go_sem, h36]
    refine steps_cons (fun a w hk hn => ?_) ?_
    · have h0 : a.eval (.tmp 0) = .pointer (some ⟨p, 0, none⟩) := hn.1
      clear hn
      refine wants_plain rfl ?_
      exact grown_move (.tmp 0) rfl h0
    refine steps_cons (fun a w hk hn => ?_) ?_
    · have h38 : a.eval (.tmp 38) = .pointer (some ⟨p, 0, none⟩) := hn.1
      clear hn
      refine wants_plain rfl ?_
      refine grown_call (f := 100) rfl Tryz.func100 (by kernel_rfl) (by kernel_rfl) ?_
      simp only [List.map_toArray, List.map_cons, List.map_nil, h38]
      refine (r15root_any p _ its r w HR.out (HC0.out w hk) (HLc.out w hk) HLn.out HLm.out).mono ?_
      rintro e w' ⟨ao, m, c, rfl, R, h, K⟩
      exact ⟨_, rfl, K, ⟨_, _, _, rfl⟩, R, fun q hq => Nat.le_trans hk.size (h q hq)⟩
    refine steps_cons (fun a w hk hn => ?_) ?_
    · have h37 : a.eval (.tmp 37) = .int .i64 mi := hn.1
      have h39 : (RtK wa.drew.heap.size r) (a.eval (.tmp 39)) w := hn.2.1
      clear hn
      refine wants_plain rfl ?_
      exact grown_ckk (.tmp 37) (.tmp 39) rfl h37 h39
    refine steps_cons (fun a w hk hn => ?_) ?_
    · clear hn
      refine wants_plain rfl ?_
      exact grown_nwck _ hk.size rfl
    exact trivial
  intro W1 hkW1
  rintro _ rfl
  rintro _ rfl
  rintro _ rfl
  rintro _ rfl
  rintro _ rfl
  rintro _ rfl
  intro v39 h39
  intro v40 h40
  intro v4 h4
  refine fin_nil ?_
  simp only [Act.put, List.set_cons_zero, List.set_cons_succ, List.setIfInBounds_toArray]
  obtain ⟨a5, m5, c5, rfl, hS5, hO5⟩ := h40
  obtain ⟨g4, rfl, G4, hg4⟩ := h4
  have HCk0 : Hid (CkV W1 (.agg #[.int .i64 (mi : Int), .slice a5 m5 c5]) (mi : Int) r) := hide ⟨a5, m5, c5, rfl, hS5, HBr.out⟩
  have HG4z := hide G4
  have HKa := hide (HK1.out.trans ((kp_drew wa).trans hkW1))
  have HS5 := hide hS5
  have HO5 := hide hO5
  have Hg4 : Hid (wa.heap.size ≤ g4) := hide hg4
  clear h39 hS5 hO5 G4 hg4 x2 x3 x0
  go_wp2_with (refine wpList_store_flat rfl 68 (.tmp 4) (.tmp 40) rfl g4 0 rfl #[.int .i64 0, .slice none 0 0] 68 [.int .i64 (mi : Int), .slice a5 m5 c5] HG4z.out rfl (by simp) Tryz.chkSize (by simp [Value.oneCell']) #[.int .i64 (mi : Int), .slice a5 m5 c5] rfl ?_; intro w4 G4 K4; refine Hid.out ?_)
  have hwas := HK1.out.size
  have HK4 : Hid (Kp [] w w4) := hide (HKa.out.then K4 (fun i hi => .inr (by simp at hi; have := Hg4.out; omega)))
  have HK14 : Hid (Kp [] wa w4) := hide (((kp_drew wa).trans hkW1).then K4 (fun i hi => .inr (by simp at hi; have := Hg4.out; omega)))
  have HS4 : Hid (Sl w4 (.slice a5 m5 c5) r) := hide (Sl.offBy HS5.out (fun g hg => by obtain rfl : g = g4 := (by simpa using hg); exact ⟨_, _, _, HG4z.out, fun x hx y e => by subst e; simp at hx⟩) K4)
  have hpl : p < w.heap.size := HRg.out.lt
  have hp4 : p < g4 := by have := Hg4.out; omega
  have HFXp : Hid (FX p) := hide (by rw [HFX.out]; exact .inl (.inr (.inl rfl)))
  have hg2w : g2 < wa.heap.size := lt_of_block HG.out
  have hg2e : g2 = w.heap.size := HGg.out
  have hw4 := HK14.out.size
  have HG4 : Hid (∀ w', Kp [p] w4.drew w' → w'.heap[g4]? = some (.cells #[.int .i64 (mi : Int), .slice a5 m5 c5] 68 (0, 0))) := hide (fun w' k => k.heap ((kp_drew w4).heap G4 (by simp)) (by simp; omega))
  have HCk : Hid (∀ w', Kp [p] w4.drew w' → CkV w' (.agg #[.int .i64 (mi : Int), .slice a5 m5 c5]) (mi : Int) r) := hide (fun w' k => ⟨a5, m5, c5, rfl, (HS4.out.kept (kp_drew w4) (by simp)).kept k (fun q hq hm => by have h1 := HO5.out q hq; simp at hm; have e : wa.drew.heap.size = wa.heap.size := rfl; omega), HBr.out⟩)
  have HFx : Hid (∀ w', Kp [p] w4.drew w' → ∀ j, FX j → j < w'.heap.size) := hide (fun w' k j hj => by
    rw [HFX.out] at hj
    have hs := k.size
    have e : w4.drew.heap.size = w4.heap.size := rfl
    rcases hj with hj | hj
    · exact Nat.lt_of_lt_of_le (HRg.out.fg HHF.out j hj) (Nat.le_trans (HK4.out.trans (kp_drew w4)).size k.size)
    · omega)
  have HOw : Hid (∀ w', Kp [p] w4.drew w' → OwN FX w' base og seed 5) := hide (fun w' k => by
    have h1 : OwN FX w4.drew base og seed 5 := by
      rw [HFX.out]
      refine HRg.out.ow.step ⟨⟨[], by simp, HK4.out.trans (kp_drew w4)⟩, fun i hi => hi.imp id (fun e => ?_)⟩
      have e2 : w4.drew.heap.size = w4.heap.size := rfl
      omega
    exact h1.step (stp_one HFXp.out k))
  have HP4 := hide ((HK4.out.trans (kp_drew w4)).heap HRg.out.hp (by simp))
  clear G4 K4 HG4z HS5 hkW1 HCk0 hg2e
  refine hide ?_
  go_wp2_with fail
  refine region_growL (K := KPn p) (G := GP w4.drew p (.slice ai mi ci) og n) Tryz.mixed [Is (.pointer (some ⟨p, 0, none⟩)), Is (.pointer (some ⟨p, 0, none⟩)), Is (.agg #[.int .i64 mi, .slice a5 m5 c5]), Is (.pointer (some ⟨p, 0, none⟩)), Is (.pointer (some ⟨p, 0, none⟩)), Is (.pointer (some ⟨p, 1, none⟩)), Is (.pointer (some ⟨og, 0, none⟩)), Is (.pointer (some ⟨p, 0, none⟩)), Is (.pointer (some ⟨p, 0, none⟩)), Is (.pointer (some ⟨p, 2, none⟩)), Is (.int .i64 n), Is (.agg #[.int .i64 mi, .slice a5 m5 c5]), SlT (B), SiK FX n ps qs, SgK FX mi a5 m5 c5 n ps qs, Is (.pointer (some ⟨p, 0, none⟩)), Is (.pointer (some ⟨p, 3, none⟩)), AnyT, Is (.pointer (some ⟨p, 0, none⟩)), Is (.pointer (some ⟨p, 8, none⟩)), AnyT] [[(0, none)], [(0, none)], [(4, none)], [(0, none)], [(44, some 3)], [(45, some 4)], [(46, some 5)], [(0, none)], [(48, some 7)], [(49, some 8)], [(50, some 9)], [(4, none)], [(52, some 11)], [(47, some 6), (51, some 10), (53, some 12)], [(43, some 2), (54, some 13)], [(41, some 0)], [(56, some 15)], [(57, some 16), (55, some 14)], [(42, some 1)], [(58, some 18)], [(59, some 19)]] (by kernel_rfl) ?_ ?_ ?_ ?_ ?_
  · intro k R hR hd w'
    have hk : k < 21 := by have := (List.getElem?_eq_some_iff.1 hR).1; simpa using this
    rcases (by omega : k = 0 ∨ k = 1 ∨ k = 2 ∨ k = 3 ∨ k = 4 ∨ k = 5 ∨ k = 6 ∨ k = 7 ∨ k = 8 ∨ k = 9 ∨ k = 10 ∨ k = 11 ∨ k = 12 ∨ k = 13 ∨ k = 14 ∨ k = 15 ∨ k = 16 ∨ k = 17 ∨ k = 18 ∨ k = 19 ∨ k = 20) with rfl | rfl | rfl | rfl | rfl | rfl | rfl | rfl | rfl | rfl | rfl | rfl | rfl | rfl | rfl | rfl | rfl | rfl | rfl | rfl | rfl <;> first | (cases hR; exact trivial) | cases hd
  · simp only [List.mem_cons, List.not_mem_nil, or_false]
    intro R hR
    rcases hR with rfl | rfl | rfl | rfl | rfl | rfl | rfl | rfl | rfl | rfl | rfl | rfl | rfl | rfl | rfl | rfl | rfl | rfl | rfl | rfl | rfl <;> first | exact stableP_is _ | exact stableP_sl _ | exact stableP_any | exact stableP_sik HFXp.out _ _ _ | exact stableP_sgk HFXp.out _ _ _ _ _ _ _
  · exact ⟨Kp.refl _ _, _, _, _, _, _, _, _, _, _, _, _, _, HP4.out, (fun t e => by cases e), (fun h => by simp at h), (fun h => by simp at h)⟩
  · refine steps_consL (fun listed a w hnot hdep hcl hsz hg hn => ?_) ?_
    · have h0 : a.eval (.tmp 0) = .pointer (some ⟨p, 0, none⟩) := hn.1
      clear hn
      have hk := hg.1
      refine wantsG_of1M (fun _ k => .inl k) (fun v w' k => hg.free 0 (by decide) (by decide) 41 (fun h => absurd h (by decide)) v k) ?_
      refine wants_plain rfl ?_
      exact grown_move (.tmp 0) rfl h0
    refine steps_consL (fun listed a w hnot hdep hcl hsz hg hn => ?_) ?_
    · have h0 : a.eval (.tmp 0) = .pointer (some ⟨p, 0, none⟩) := hn.1
      clear hn
      have hk := hg.1
      refine wantsG_of1M (fun _ k => .inl k) (fun v w' k => hg.free 1 (by decide) (by decide) 42 (fun h => absurd h (by decide)) v k) ?_
      refine wants_plain rfl ?_
      exact grown_move (.tmp 0) rfl h0
    refine steps_consL (fun listed a w hnot hdep hcl hsz hg hn => ?_) ?_
    · have h4 : a.eval (.tmp 4) = .pointer (some ⟨g4, 0, none⟩) := hn.1
      clear hn
      have hk := hg.1
      refine wantsG_of1M (fun _ k => .inl k) (fun v w' k => hg.free 2 (by decide) (by decide) 43 (fun h => absurd h (by decide)) v k) ?_
      refine wants_plain rfl ?_
      exact grown_loadf 68 (.tmp 4) rfl g4 0 h4 _ _ _ _ (HG4.out w hk) [.int .i64 mi, .slice a5 m5 c5] (flat_in rfl) Tryz.underlying68 rfl Tryz.chkSize rfl
    refine steps_consL (fun listed a w hnot hdep hcl hsz hg hn => ?_) ?_
    · have h0 : a.eval (.tmp 0) = .pointer (some ⟨p, 0, none⟩) := hn.1
      clear hn
      have hk := hg.1
      refine wantsG_of1M (fun _ k => .inl k) (fun v w' k => hg.free 3 (by decide) (by decide) 44 (fun h => absurd h (by decide)) v k) ?_
      refine wants_plain rfl ?_
      exact grown_move (.tmp 0) rfl h0
    refine steps_consL (fun listed a w hnot hdep hcl hsz hg hn => ?_) ?_
    · have h44 : a.eval (.tmp 44) = .pointer (some ⟨p, 0, none⟩) := hn.1
      clear hn
      have hk := hg.1
      refine wantsG_of1M (fun _ k => .inl k) (fun v w' k => hg.free 4 (by decide) (by decide) 45 (fun h => absurd h (by decide)) v k) ?_
      refine wants_plain rfl ?_
      refine grown_run (v := .pointer (some ⟨p, 0, none⟩)) ?_ (Kp.refl _ _) rfl
      obtain ⟨ρ, hρ, hc, hf, hg⟩ := eval_is a
      rw [hρ] at h44 ⊢
      simp [go_sem, h44]
    refine steps_consL (fun listed a w hnot hdep hcl hsz hg hn => ?_) ?_
    · have h45 : a.eval (.tmp 45) = .pointer (some ⟨p, 0, none⟩) := hn.1
      clear hn
      have hk := hg.1
      refine wantsG_of1M (fun _ k => .inl k) (fun v w' k => hg.free 5 (by decide) (by decide) 46 (fun h => absurd h (by decide)) v k) ?_
      refine wants_plain rfl ?_
      refine grown_run (v := .pointer (some ⟨p, 1, none⟩)) ?_ (Kp.refl _ _) rfl
      obtain ⟨ρ, hρ, hc, hf, hg⟩ := eval_is a
      rw [hρ] at h45 ⊢
      simp [go_sem, h45]
    refine steps_consL (fun listed a w hnot hdep hcl hsz hg hn => ?_) ?_
    · have h46 : a.eval (.tmp 46) = .pointer (some ⟨p, 1, none⟩) := hn.1
      clear hn
      have hk := hg.1
      refine wantsG_of1M (fun _ k => .inl k) (fun v w' k => hg.free 6 (by decide) (by decide) 47 (fun h => absurd h (by decide)) v k) ?_
      refine wants_plain rfl ?_
      refine grown_run (v := .pointer (some ⟨og, 0, none⟩)) ?_ (Kp.refl _ _) rfl
      have hcell := hg.c1
      obtain ⟨ρ, hρ, hc, hf, hgg⟩ := eval_is a
      rw [hρ] at h46 ⊢
      simp [go_sem, h46, hcell]
    refine steps_consL (fun listed a w hnot hdep hcl hsz hg hn => ?_) ?_
    · have h0 : a.eval (.tmp 0) = .pointer (some ⟨p, 0, none⟩) := hn.1
      clear hn
      have hk := hg.1
      refine wantsG_of1M (fun _ k => .inl k) (fun v w' k => hg.free 7 (by decide) (by decide) 48 (fun h => absurd h (by decide)) v k) ?_
      refine wants_plain rfl ?_
      exact grown_move (.tmp 0) rfl h0
    refine steps_consL (fun listed a w hnot hdep hcl hsz hg hn => ?_) ?_
    · have h48 : a.eval (.tmp 48) = .pointer (some ⟨p, 0, none⟩) := hn.1
      clear hn
      have hk := hg.1
      refine wantsG_of1M (fun _ k => .inl k) (fun v w' k => hg.free 8 (by decide) (by decide) 49 (fun h => absurd h (by decide)) v k) ?_
      refine wants_plain rfl ?_
      refine grown_run (v := .pointer (some ⟨p, 0, none⟩)) ?_ (Kp.refl _ _) rfl
      obtain ⟨ρ, hρ, hc, hf, hg⟩ := eval_is a
      rw [hρ] at h48 ⊢
      simp [go_sem, h48]
    refine steps_consL (fun listed a w hnot hdep hcl hsz hg hn => ?_) ?_
    · have h49 : a.eval (.tmp 49) = .pointer (some ⟨p, 0, none⟩) := hn.1
      clear hn
      have hk := hg.1
      refine wantsG_of1M (fun _ k => .inl k) (fun v w' k => hg.free 9 (by decide) (by decide) 50 (fun h => absurd h (by decide)) v k) ?_
      refine wants_plain rfl ?_
      refine grown_run (v := .pointer (some ⟨p, 2, none⟩)) ?_ (Kp.refl _ _) rfl
      obtain ⟨ρ, hρ, hc, hf, hg⟩ := eval_is a
      rw [hρ] at h49 ⊢
      simp [go_sem, h49]
    refine steps_consL (fun listed a w hnot hdep hcl hsz hg hn => ?_) ?_
    · have h50 : a.eval (.tmp 50) = .pointer (some ⟨p, 2, none⟩) := hn.1
      clear hn
      have hk := hg.1
      refine wantsG_of1M (fun _ k => .inl k) (fun v w' k => hg.free 10 (by decide) (by decide) 51 (fun h => absurd h (by decide)) v k) ?_
      refine wants_plain rfl ?_
      refine grown_run (v := .int .i64 n) ?_ (Kp.refl _ _) rfl
      have hcell := hg.c2
      obtain ⟨ρ, hρ, hc, hf, hgg⟩ := eval_is a
      rw [hρ] at h50 ⊢
      simp [go_sem, h50, hcell]
    refine steps_consL (fun listed a w hnot hdep hcl hsz hg hn => ?_) ?_
    · have h4 : a.eval (.tmp 4) = .pointer (some ⟨g4, 0, none⟩) := hn.1
      clear hn
      have hk := hg.1
      refine wantsG_of1M (fun _ k => .inl k) (fun v w' k => hg.free 11 (by decide) (by decide) 52 (fun h => absurd h (by decide)) v k) ?_
      refine wants_plain rfl ?_
      exact grown_loadf 68 (.tmp 4) rfl g4 0 h4 _ _ _ _ (HG4.out w hk) [.int .i64 mi, .slice a5 m5 c5] (flat_in rfl) Tryz.underlying68 rfl Tryz.chkSize rfl
    refine steps_consL (fun listed a w hnot hdep hcl hsz hg hn => ?_) ?_
    · have h52 : a.eval (.tmp 52) = .agg #[.int .i64 mi, .slice a5 m5 c5] := hn.1
      clear hn
      have hk := hg.1
      refine wantsG_of1M (fun _ k => .inl k) (fun v w' k => hg.free 12 (by decide) (by decide) 53 (fun h => absurd h (by decide)) v k) ?_
      refine wants_plain rfl ?_
      refine grown_call (f := 83) rfl Tryz.func83 (by kernel_rfl) (by kernel_rfl) ?_
      simp only [List.map_toArray, List.map_cons, List.map_nil, h52]
      refine (rckbody_any _ (mi : Int) r B HB.out w (HCk.out w hk)).mono ?_
      rintro e w' ⟨ao, m, c, rfl, R, K⟩
      exact ⟨_, rfl, K, R⟩
    refine steps_consL (fun listed a w hnot hdep hcl hsz hg hn => ?_) ?_
    · have h47 : a.eval (.tmp 47) = .pointer (some ⟨og, 0, none⟩) := hn.1
      have h51 : a.eval (.tmp 51) = .int .i64 n := hn.2.1
      have h53 : Sl w (a.eval (.tmp 53)) (B) := hn.2.2.1
      clear hn
      have hk := hg.1
      refine wantsG_of1M (fun _ k => .inl k) (fun v w' k => hg.free 13 (by decide) (by decide) 54 (fun h => absurd h (by decide)) v k) ?_
      refine wants_plain rfl ?_
      refine grown_call (f := 101) rfl Tryz.func101 (by kernel_rfl) (by kernel_rfl) ?_
      simp only [List.map_toArray, List.map_cons, List.map_nil, h47, h51]
      refine (own_signK FX og base seed n _ B d HD.out w (HFx.out w hk) (HOw.out w hk) HSB.out HSL.out HN.out h53 HBB.out HBl.out).mono ?_
      rintro e w' ⟨v, rfl, V, K⟩
      rw [← HPs.out, ← HQs.out] at V
      exact ⟨_, rfl, K, V⟩
    refine steps_consL (fun listed a w hnot hdep hcl hsz hg hn => ?_) ?_
    · have h43 : a.eval (.tmp 43) = .agg #[.int .i64 mi, .slice a5 m5 c5] := hn.1
      have h54 : (SiK FX n ps qs) (a.eval (.tmp 54)) w := hn.2.1
      clear hn
      have hk := hg.1
      refine wantsG_of1M (fun _ k => .inl k) (fun v w' k => hg.free 14 (by decide) (by decide) 55 (fun _ => lstM hcl 17 14 rfl (by decide) hnot) v k) ?_
      refine wants_plain rfl ?_
      exact grown_sgk (.tmp 43) (.tmp 54) rfl h43 h54
    refine steps_consL (fun listed a w hnot hdep hcl hsz hg hn => ?_) ?_
    · have h41 : a.eval (.tmp 41) = .pointer (some ⟨p, 0, none⟩) := hn.1
      clear hn
      have hk := hg.1
      refine wantsG_of1M (fun _ k => .inl k) (fun v w' k => hg.free 15 (by decide) (by decide) 56 (fun h => absurd h (by decide)) v k) ?_
      refine wants_plain rfl ?_
      refine grown_run (v := .pointer (some ⟨p, 0, none⟩)) ?_ (Kp.refl _ _) rfl
      obtain ⟨ρ, hρ, hc, hf, hg⟩ := eval_is a
      rw [hρ] at h41 ⊢
      simp [go_sem, h41]
    refine steps_consL (fun listed a w hnot hdep hcl hsz hg hn => ?_) ?_
    · have h56 : a.eval (.tmp 56) = .pointer (some ⟨p, 0, none⟩) := hn.1
      clear hn
      have hk := hg.1
      refine wantsG_of1M (fun _ k => .inl k) (fun v w' k => hg.free 16 (by decide) (by decide) 57 (fun h => absurd h (by decide)) v k) ?_
      refine wants_plain rfl ?_
      refine grown_run (v := .pointer (some ⟨p, 3, none⟩)) ?_ (Kp.refl _ _) rfl
      obtain ⟨ρ, hρ, hc, hf, hg⟩ := eval_is a
      rw [hρ] at h56 ⊢
      simp [go_sem, h56]
    refine steps_consL (fun listed a w hnot hdep hcl hsz hg hn => ?_) ?_
    · have h57 : a.eval (.tmp 57) = .pointer (some ⟨p, 3, none⟩) := hn.1
      have h55 : (SgK FX mi a5 m5 c5 n ps qs) (a.eval (.tmp 55)) w := hn.2.1
      clear hn
      exact hg.st1 hsz rfl rfl rfl h57 h55
    refine steps_consL (fun listed a w hnot hdep hcl hsz hg hn => ?_) ?_
    · have h42 : a.eval (.tmp 42) = .pointer (some ⟨p, 0, none⟩) := hn.1
      clear hn
      have hk := hg.1
      refine wantsG_of1M (fun _ k => .inl k) (fun v w' k => hg.free 18 (by decide) (by decide) 58 (fun h => absurd h (by decide)) v k) ?_
      refine wants_plain rfl ?_
      refine grown_run (v := .pointer (some ⟨p, 0, none⟩)) ?_ (Kp.refl _ _) rfl
      obtain ⟨ρ, hρ, hc, hf, hg⟩ := eval_is a
      rw [hρ] at h42 ⊢
      simp [go_sem, h42]
    refine steps_consL (fun listed a w hnot hdep hcl hsz hg hn => ?_) ?_
    · have h58 : a.eval (.tmp 58) = .pointer (some ⟨p, 0, none⟩) := hn.1
      clear hn
      have hk := hg.1
      refine wantsG_of1M (fun _ k => .inl k) (fun v w' k => hg.free 19 (by decide) (by decide) 59 (fun h => absurd h (by decide)) v k) ?_
      refine wants_plain rfl ?_
      refine grown_run (v := .pointer (some ⟨p, 8, none⟩)) ?_ (Kp.refl _ _) rfl
      obtain ⟨ρ, hρ, hc, hf, hg⟩ := eval_is a
      rw [hρ] at h58 ⊢
      simp [go_sem, h58]
    refine steps_consL (fun listed a w hnot hdep hcl hsz hg hn => ?_) ?_
    · have h59 : a.eval (.tmp 59) = .pointer (some ⟨p, 8, none⟩) := hn.1
      clear hn
      exact hg.st2 hsz rfl rfl rfl h59
    exact trivial
  intro W1
  rintro _ rfl
  rintro _ rfl
  rintro _ rfl
  rintro _ rfl
  rintro _ rfl
  rintro _ rfl
  rintro _ rfl
  rintro _ rfl
  rintro _ rfl
  rintro _ rfl
  rintro _ rfl
  rintro _ rfl
  intro v53 h53
  intro v54 h54
  intro v55 h55
  rintro _ rfl
  rintro _ rfl
  intro _ _
  rintro _ rfl
  rintro _ rfl
  intro _ _
  refine fin_nil ?_
  intro listed hall hgg
  simp only [Act.put, List.set_cons_zero, List.set_cons_succ, List.setIfInBounds_toArray] at hgg ⊢
  obtain ⟨kP, sz6, ix6, ar6, mr6, cr6, ap6, np6, cp6, aq6, nq6, cq6, b6, hp6, -, h1, h2⟩ := hgg
  obtain ⟨bp, mp, dp, bq, mq, dq, rfl, hKt⟩ := h55
  have e1 := h1 (hall 17 (by decide))
  have e2 := h2 (hall 20 (by decide))
  have e3 : Value.agg #[.int .i64 (mi : Int), .slice a5 m5 c5, .int .i64 (n : Int), .slice bp mp dp, .slice bq mq dq] = .agg #[.int .i64 sz6, .slice ar6 mr6 cr6, .int .i64 ix6, .slice ap6 np6 cp6, .slice aq6 nq6 cq6] := e1
  simp only [Value.agg.injEq, Array.mk.injEq, List.cons.injEq, and_true] at e3
  obtain ⟨q1, q2, q3, q4, q5⟩ := e3
  rw [← q1, ← q2, ← q3, ← q4, ← q5, e2] at hp6
  obtain ⟨n1, hn1⟩ : ∃ m, m = n + 1 := ⟨_, rfl⟩
  have hwr : IntKind.i64.wrap ((n : Int) + 1) = (n1 : Int) := by have := HN.out; rw [hn1]; simp [IntKind.wrap, IntKind.signed, IntKind.bits]; omega
  have hc2 : W1.cell? ⟨p, 2, none⟩ = some (.int .i64 (n : Int)) := by rw [cell_of_row W1 p 2 _ _ _ hp6]; rfl
  have hf2 : W1.frozen? ⟨p, 2, none⟩ = false := frozen_of_row W1 p 2 _ _ hp6
  have HP6 : Hid ((W1.setCell ⟨p, 2, none⟩ (.int .i64 (n1 : Int))).heap[p]? = some (.cells #[.slice ai mi ci, .pointer (some ⟨og, 0, none⟩), .int .i64 (n1 : Int), .int .i64 (mi : Int), .slice a5 m5 c5, .int .i64 (n : Int), .slice bp mp dp, .slice bq mq dq, .bool true] 74 (0, 0))) := hide (by
    have := heap_setCell_same W1 p 2 _ _ (.int .i64 (n1 : Int)) hp6
    simpa using this)
  have k6 := kp_set W1 p 2 (.int .i64 (n1 : Int))
  have HG6 : Hid ((W1.setCell ⟨p, 2, none⟩ (.int .i64 (n1 : Int))).heap[g2]? = some (.cells #[.int .i64 0, .slice none 0 0, .int .i64 0, .slice none 0 0, .slice none 0 0] 72 (0, 0))) := hide (((kP.trans k6).heap ((HK14.out.trans (kp_drew w4)).heap HG.out (by simp)) (by have := HGg.out; simp; omega)))
  have HKP := hide (kP.trans k6)
  have HKt := hide (Kt.step hKt (stp_one HFXp.out k6))
  have HN1 := hide hn1
  clear hall h1 h2 e1 e2 q1 q2 q3 q4 q5 h53 h54 hp6 kP k6 hKt hn1 HCk HG4 HFx HOw HP4 HC0 HLc
  go_wp2_with (first
    | (refine wpList_load_flat rfl 72 (.tmp 69) rfl p 3 rfl _ 74 (0, 0) _ HP6.out [.int .i64 (mi : Int), .slice a5 m5 c5, .int .i64 (n : Int), .slice bp mp dp, .slice bq mq dq] (flat_in rfl) Tryz.underlying72 rfl Tryz.sgdSize ?_)
    | (refine wpList_store_flat rfl 72 (.tmp 2) (.tmp 70) rfl g2 0 rfl _ _ [.int .i64 (mi : Int), .slice a5 m5 c5, .int .i64 (n : Int), .slice bp mp dp, .slice bq mq dq] HG6.out rfl (by simp) Tryz.sgdSize (by simp [Value.oneCell']) #[.int .i64 (mi : Int), .slice a5 m5 c5, .int .i64 (n : Int), .slice bp mp dp, .slice bq mq dq] rfl ?_; intro w7 G7 K7))
  refine bodyPost_ret (results_flat2 rfl _ rfl G7 Tryz.underlying72 rfl Tryz.sgdSize) rfl ?_
  have hg2e : g2 = w.heap.size := HGg.out
  have hFg : FX g2 := by rw [HFX.out]; exact .inr rfl
  have hKt7 := HKt.out.step (stp_one hFg K7)
  have hsg : sgU seed its (its.length, n) = ⟨(mi : Int), r, (n : Int), ps, qs⟩ := by
    unfold sgU sgnC
    simp only [List.take_length]
    rw [HPs.out, HQs.out, HD.out, HB.out, HR.out, HMi.out]
  have hw4d : w4.drew.heap.size = w4.heap.size := rfl
  have hK47 : Kp [p, g2] w4.drew w7 := (HKP.out.mono (by simp)).trans (K7.mono (by simp))
  have hKw7 : Kp [p] w w7 := ((HK4.out.trans (kp_drew w4)).mono (by simp)).then hK47 (fun i hi => by
    rcases List.mem_cons.1 hi with e | e
    · exact .inl (by simp [e])
    · exact .inr (by simp at e; omega))
  have hS7 : Kt w7 FX (fun w2 => Sl w2 (.slice a5 m5 c5) r) := fun U w2 hU kU => by
    have hno : ∀ q, (Value.slice a5 m5 c5).ownBlock = some q → q ≠ p ∧ q ≠ g2 ∧ ¬ FX q := fun q hq => by
      have h3 := HO5.out q hq
      have e : wa.drew.heap.size = wa.heap.size := rfl
      refine ⟨by omega, by omega, fun hx => ?_⟩
      rw [HFX.out] at hx
      rcases hx with hx | hx
      · have := HRg.out.fg HHF.out q hx; omega
      · omega
    have s4 := HS4.out.kept (kp_drew w4) (by simp)
    have s7 := s4.kept hK47 (fun q hq hm => by have := hno q hq; simp at hm; rcases hm with e | e; exact this.1 e; exact this.2.1 e)
    exact s7.kept kU (fun q hq hm => (hno q hq).2.2 (hU q hm))
  have hKS : Kt w7 FX (fun w2 => SgV w2 (.agg #[.int .i64 (mi : Int), .slice a5 m5 c5, .int .i64 (n : Int), .slice bp mp dp, .slice bq mq dq]) (sgU seed its (its.length, n))) := fun U w2 hU kU => by
    rw [hsg]
    exact ⟨a5, m5, c5, _, _, rfl, ⟨hS7 U w2 hU kU, HBr.out⟩, hKt7 U w2 hU kU⟩
  refine ⟨_, rfl, hKS.get, ⟨og, base, (mi : Int), (n : Int), a5, m5, c5, bp, mp, dp, bq, mq, dq, lA, ⟨?_, fun a ha => ?_, HRg.out.ow.step (stp_fgp hKw7), HRg.out.al.step (stp_fpp hKw7), HRg.out.it, HRg.out.lo, Nat.lt_of_lt_of_le HRg.out.lt hKw7.size, HRg.out.nf⟩⟩, hKw7⟩
  · have := K7.heap HP6.out (by simp; omega)
    rw [HN1.out] at this
    exact this
  · obtain rfl := Option.some.inj ha
    refine ⟨by rw [HMi.out], fun U w2 hU kU => hKS U w2 (fun i hi => by rw [HFX.out]; exact .inl (hU i hi)) kU⟩
end
end Go.Proofs.YtillhpgdlmeajaaGreatDoor

/-
  A ledger's disks, asked while it is open; two disks whatever they are.
-/
namespace Go.Proofs.YtillhpgdlmeajaaGreatDoor
open Go.RowKit
open Go.Proofs
set_option linter.unusedVariables false
section
variable {w0 w : World} {l pd pk : Nat} {S : LS} {f : Fps}
/-- both disks, when the ledger is left. -/
structure Ds (w0 w : World) (pd pk : Nat) (dd dk : Dk) (f : Fps) : Prop where
  ok : f.Ok w0 w
  d : Dx w0 w pd dd (f 5)
  k : Dx w0 w pk dk (f 6)
theorem Lg.ds (h : Lg w0 w l pd pk S f) : Ds w0 w pd pk S.dd S.dk f := by
  obtain ⟨j, s, q, vs, pv, hx⟩ := h
  exact ⟨hx.ok, hx.jx.dx, hx.bf.dx⟩
theorem Ds.on {w' : World} {dd dk : Dk} (h : Ds w0 w pd pk dd dk f) (k : Kp [] w w') : Ds w0 w' pd pk dd dk f := ⟨h.ok.on k, h.d.kept k (h.ok.kp.trans k) (by simp), h.k.kept k (h.ok.kp.trans k) (by simp)⟩
theorem ds_crashD {dd dk d' : Dk} (h : Ds w0 w pd pk dd dk f) (x : Int) (he : dd.crash x = d') : Calls Tryz.prog 34 #[.pointer (some ⟨pd, 0, none⟩), .int .i64 x] w fun e w' => e = .returned (.tuple #[]) ∧ ∃ f', Ds w0 w' pd pk d' dk f' ∧ Stp f.tot w w' f'.tot := by
  obtain ⟨v, N, hv⟩ := h.d
  refine (nw_crash N x he).mono ?_
  rintro e w' ⟨rfl, v', N', T⟩
  obtain ⟨F', D', T', hF⟩ := Dx.stepD hv N' T
  have o := h.ok.upd T'
  obtain ⟨U, hU, k⟩ := T'.kp
  refine ⟨rfl, f.upd 5 F', ⟨o, by rw [upd_eq]; exact D', ?_⟩, T'.one⟩
  rw [upd_ne (by decide)]
  exact h.k.kept k o.kp (h.ok.apart (a := 5) (b := 6) (by decide) hU)
theorem ds_crashK {dd dk d' : Dk} (h : Ds w0 w pd pk dd dk f) (x : Int) (he : dk.crash x = d') : Calls Tryz.prog 34 #[.pointer (some ⟨pk, 0, none⟩), .int .i64 x] w fun e w' => e = .returned (.tuple #[]) ∧ ∃ f', Ds w0 w' pd pk dd d' f' ∧ Stp f.tot w w' f'.tot := by
  obtain ⟨v, N, hv⟩ := h.k
  refine (nw_crash N x he).mono ?_
  rintro e w' ⟨rfl, v', N', T⟩
  obtain ⟨F', D', T', hF⟩ := Dx.stepD hv N' T
  have o := h.ok.upd T'
  obtain ⟨U, hU, k⟩ := T'.kp
  refine ⟨rfl, f.upd 6 F', ⟨o, ?_, by rw [upd_eq]; exact D'⟩, T'.one⟩
  rw [upd_ne (by decide)]
  exact h.d.kept k o.kp (h.ok.apart (a := 6) (b := 5) (by decide) hU)
end
theorem RowI.at {w : World} {base m c : Nat} {ao : Option Addr} {l : List Int} (h : RowI w base (.slice ao m c) l) (i : Nat) (hi : i < l.length) : ∃ g, ao = some ⟨g, 0, none⟩ ∧ w.cell? ⟨g, i, none⟩ = some (.int .i64 l[i]) := by
  rcases h.2 with ⟨e, h0⟩ | ⟨g, cap, cur, e, _⟩
  · omega
  · injection e with e1 e2 e3
    subst e1
    have := h.cells (g := g) rfl i (.int .i64 l[i]) (by simp [List.getElem?_eq_getElem hi])
    exact ⟨g, rfl, by simpa [Addr.add_lit] using this⟩
end Go.Proofs.YtillhpgdlmeajaaGreatDoor

/-
  The contracts of Same of two checkpoints: package check's, and the reference's.
-/
namespace Go.Proofs.YtillhpgdlmeajaaGreatDoor
open Go.RowKit
open Go.Proofs
set_option maxRecDepth 100000 in
set_option maxHeartbeats 1000000 in
theorem rcksame_any (v1 v2 : Value) (n m : Int) (r t : List Int) (b : Bool) (hb : b = decide (n = m ∧ r = t)) (w : World) (hV1 : CkV w v1 n r) (hV2 : CkV w v2 m t) :
    Calls Tryz.prog 58 #[v1, v2] w fun e w' => e = .returned (.bool b) ∧ Kp [] w w' := by
  obtain ⟨af, nf, cf, rfl, hF, hB1⟩ := hV1
  obtain ⟨bf, kf, ef, rfl, hF2, hB2⟩ := hV2
  obtain ⟨o1, ho1⟩ : ∃ o : Obj, o = (.cells #[.int .i64 n, .slice af nf cf] 68) := ⟨_, rfl⟩
  obtain ⟨o2, ho2⟩ : ∃ o : Obj, o = (.cells #[.int .i64 m, .slice bf kf ef] 68) := ⟨_, rfl⟩
  have K1 : Kp [] w ((w.alloc o1).alloc o2) := ((Kp.refl [] w).alloc o1).alloc o2
  have q1 := (hF.kept K1 (by simp)).conv (P := Tryz.prog) 22 9 5 Tryz.underlying22 Tryz.underlying5 Tryz.underlying9
  have q2 := (hF2.kept K1 (by simp)).conv (P := Tryz.prog) 22 9 5 Tryz.underlying22 Tryz.underlying5 Tryz.underlying9
  obtain ⟨S1, hS1⟩ : ∃ S, S = strOfNums r := ⟨_, rfl⟩
  obtain ⟨S2, hS2⟩ : ∃ S, S = strOfNums t := ⟨_, rfl⟩
  have HSS : Hid ((S1.toList == S2.toList) = decide (r = t)) := by rw [hS1, hS2]; exact str_beq r t hB1 hB2
  rw [← hS1] at q1
  rw [← hS2] at q2
  rw [ho1, ho2] at q1 q2 K1
  have HK := hide K1
  have HB := hide hb
  clear hb hF hF2 hB1 hB2 ho1 ho2 K1 hS1 hS2
  by_cases c1 : n = m
  · subst c1
    go_enter Tryz.func58, Tryz.ntmps58
    go_wp2_with fail
    go_ret
    exact ⟨by rw [unhide HB, unhide HSS]; simp, unhide HK⟩
  · have c2 : (n == m) = false := beq_eq_false_iff_ne.2 c1
    go_enter Tryz.func58, Tryz.ntmps58
    go_wp2_with fail
    go_ret
    exact ⟨by rw [unhide HB]; simp [c1], unhide HK⟩
end Go.Proofs.YtillhpgdlmeajaaGreatDoor
