/-
  The contract of the reference reader's Bytes, and of the law package's helper 'reads', over this seat's program: whatever the bytes and the asks, it answers true.
-/
import Derived.Test.YthpekclkclpbpaaRefReader
import Derived.Deep.RegionWith
import Derived.Deep.DeepCutAuto
namespace Go.Proofs.Ythpekclkclpbpaa
open Go.RowKit

theorem RLeft.trans {a b c : World} {q : Nat} {v : Value} {B : List Int} {s t : Bool × List Int} (h : RLeft a q v B s b) (k : ∀ i bad, RR b q v i bad B → s = (bad, rest i bad B) → RLeft b q v B t c) : RLeft a q v B t c := by
  obtain ⟨i, bad, h1, h2, h3⟩ := h
  obtain ⟨j, bad', k1, k2, k3⟩ := k i bad h1 h2
  exact ⟨j, bad', k1, k2, h3.trans k3⟩

set_option maxHeartbeats 400000 in
theorem rbyt_any (q : Nat) (v : Value) (i : Nat) (bad : Bool) (B : List Int) (most : Int) (w : World) (hR : RR w q v i bad B) (hb : B.length ≤ 140737488355328) (hB : Bs B) (hm0 : 0 ≤ most) :
    Calls Try.prog 38 #[.pointer (some ⟨q, 0, none⟩), .int .i64 most] w fun e w' => ∃ ao m c, e = .returned (.slice ao m c) ∧ Own w w' (.slice ao m c) (tkb bad (rest i bad B) most).1 ∧ RLeft w q v B (tkb bad (rest i bad B) most).2 w' := by
  have hv := val_two (tk bad (rest i bad B) 2).1 (tk_bs1 (rest_bs hB)) (@tk_len1 bad (rest i bad B) 2)
  obtain ⟨t, ht⟩ : ∃ t, t = tk bad (rest i bad B) 2 := ⟨_, rfl⟩
  have h2 : (tkb bad (rest i bad B) most) = if most < val t.1 then ([], true, []) else tk t.2.1 t.2.2 (val t.1) := by
    unfold tkb; rw [ht, show max most 0 = most from by omega]
  rw [← ht] at hv
  have HT := hide ht
  obtain ⟨x, hx⟩ : ∃ x, x = val t.1 := ⟨_, rfl⟩
  have hw64 : IntKind.i64.wrap x = x := by rw [hx]; simp [IntKind.wrap, IntKind.signed, IntKind.bits]; omega
  rw [← hx] at hv h2
  have HX := hide hx
  clear ht hx
  obtain ⟨hv0, hv1⟩ := hv
  by_cases hm : most < x
  · rw [if_pos hm] at h2
    rw [h2]
    have hx0 : 0 < x := by omega
    clear h2
    go_enter Try.func38, Try.ntmps38
    go_wp2_with fail
    refine (rnumb_any q v i bad B 2 _ hR hb (by omega) hB).mono ?_
    rintro e w1 ⟨rfl, hL⟩
    rw [show ((2 : Nat) : Int) = 2 from rfl, ← unhide HT, ← unhide HX]
    obtain ⟨j, bad', r1, _, k1⟩ := hL
    have hc2 := (cell_of_three r1.1).2.2
    have hf2 := free_of_two r1.1 2
    have hB2 := rr_bad r1
    go_wp2_with fail
    refine (rraw_any q v j true B x _ hB2.1 hb (by omega)).mono ?_
    have ht2 : tk true (rest j true B) x = ([], true, []) := by
      show tk true [] x = _
      unfold tk; split <;> simp
    rw [ht2]
    rintro e w3 ⟨ao, m, c, rfl, hO, hL3⟩
    go_wp2_with fail
    go_ret
    obtain ⟨j3, bad3, r3, e3, k3⟩ := hL3
    exact ⟨ao, m, c, rfl, ⟨hO.1, fun k hk => Nat.le_trans (k1.trans hB2.2).size (hO.2 k hk)⟩, j3, bad3, r3, e3, (k1.trans hB2.2).trans k3⟩
  · rw [if_neg hm] at h2
    rw [h2]
    clear h2
    go_enter Try.func38, Try.ntmps38
    go_wp2_with fail
    refine (rnumb_any q v i bad B 2 _ hR hb (by omega) hB).mono ?_
    rintro e w1 ⟨rfl, hL⟩
    rw [show ((2 : Nat) : Int) = 2 from rfl, ← unhide HT] at hL
    rw [show ((2 : Nat) : Int) = 2 from rfl, ← unhide HT, ← unhide HX]
    obtain ⟨j, bad', r1, e1, k1⟩ := hL
    go_wp2_with fail
    refine (rraw_any q v j bad' B x _ r1 hb (by omega)).mono ?_
    rintro e w3 ⟨ao, m, c, rfl, hO, hL3⟩
    go_wp2_with fail
    go_ret
    obtain ⟨j3, bad3, r3, e3, k3⟩ := hL3
    rw [show t.2.1 = bad' from by rw [e1], show t.2.2 = rest j bad' B from by rw [e1]]
    exact ⟨ao, m, c, rfl, ⟨hO.1, fun k hk => Nat.le_trans k1.size (hO.2 k hk)⟩, j3, bad3, r3, e3, k1.trans k3⟩

theorem tkb_max (bad : Bool) (bs : List Int) (most : Int) : tkb bad bs (max most 0) = tkb bad bs most := by
  unfold tkb; rw [show max (max most 0) 0 = max most 0 from by omega]

/-- a reader and a reference reader, apart from one another, in the same state. -/
structure Two (w : World) (q p : Nat) (v vb : Value) (i : Nat) (bad : Bool) (B : List Int) : Prop where
  rd : Rd w q v bad (rest i bad B)
  rr : RR w p vb i bad B
  ne : q ≠ p
  n1 : v.ownBlock ≠ some p
  n2 : vb.ownBlock ≠ some q
/-- between the two calls: the reader has gone on to s. -/
def Mid (w0 : World) (q p : Nat) (vb : Value) (i : Nat) (bad : Bool) (B : List Int) (s : Bool × List Int) (w : World) : Prop :=
  (∃ v, Rd w q v s.1 s.2 ∧ v.ownBlock ≠ some p) ∧ RR w p vb i bad B ∧ q ≠ p ∧ vb.ownBlock ≠ some q ∧ Kp [] w0 w
def Fin2 (w0 : World) (q p : Nat) (vb : Value) (B : List Int) (w : World) : Prop := ∃ v i bad, Two w q p v vb i bad B ∧ Kp [] w0 w
theorem Two.mid {w0 w W w1 : World} {q p : Nat} {v vb : Value} {i : Nat} {bad : Bool} {B : List Int} {s : Bool × List Int} (h : Two w q p v vb i bad B) (k : Kp [] w0 w) (hq : w0.heap.size ≤ q) (kW : Kp [] w W) (hL : Left W q v s w1) : Mid w0 q p vb i bad B s w1 := by
  obtain ⟨⟨v2, r2, o2⟩, k2⟩ := hL
  refine ⟨⟨v2, r2, fun e => h.n1 (o2 p e)⟩, (h.rr.kept kW (by simp) (by simp)).kept k2 (by simpa using Ne.symm h.ne) (fun j hj hm => by simp only [List.mem_singleton] at hm; subst hm; exact h.n2 hj), h.ne, h.n2, (k.trans kW).then k2 (fun j hj => by simp only [List.mem_singleton] at hj; subst hj; exact .inr hq)⟩
theorem Mid.fin {w0 w w1 : World} {q p : Nat} {vb : Value} {i : Nat} {bad : Bool} {B : List Int} {s : Bool × List Int} (h : Mid w0 q p vb i bad B s w) (hp : w0.heap.size ≤ p) (hL : RLeft w p vb B s w1) : Fin2 w0 q p vb B w1 := by
  obtain ⟨⟨v, r, o⟩, _, hne, hn2, k⟩ := h
  obtain ⟨j, bad', r1, e1, k1⟩ := hL
  subst e1
  exact ⟨v, j, bad', ⟨r.kept k1 (by simpa using hne) (fun i hi hm => by simp only [List.mem_singleton] at hm; subst hm; exact o hi), r1, hne, o, hn2⟩, k.then k1 (fun j hj => by simp only [List.mem_singleton] at hj; subst hj; exact .inr hp)⟩

set_option maxRecDepth 100000 in
set_option maxHeartbeats 8000000 in
theorem reads_any (v : Value) (B : List Int) (vl : Value) (l : List AskD) (w : World) (hS : Sl w v B) (hB : Bs B) (hb : B.length ≤ 140737488355328) (hv : ∀ k, v.ownBlock = some k → k < w.heap.size) (hl : Asks w vl l) :
    Calls Try.prog 14 #[v, vl] w fun e w' => e = .returned (.bool true) ∧ Kp [] w w' := by
  obtain ⟨al, cl, rfl, hll, hask⟩ := hl
  obtain ⟨av, mv, cv, rfl⟩ : ∃ a m c, v = .slice a m c := by obtain ⟨a, c, e, _⟩ := hS; exact ⟨_, _, _, e⟩
  go_enter Try.func14, Try.ntmps14
  go_wp2_with fail
  refine (read_any _ B _ hS hb).mono ?_
  rintro e w1 ⟨q, v1, rfl, hq, r1, o1, k1⟩
  have T0 : Two (w1.alloc (.cells #[.slice av mv cv, .int .i64 0, .bool false] 65)) q w1.heap.size v1 (.slice av mv cv) 0 false B := by
    have ka : Kp [] w1 (w1.alloc (.cells #[.slice av mv cv, .int .i64 0, .bool false] 65)) := (Kp.refl [] w1).alloc _
    have hql := lt_of_block r1.1
    have hkl := k1.size
    refine ⟨by show Rd _ q v1 false (B.drop 0); rw [List.drop_zero]; exact r1.kept ka (by simp) (by simp), ⟨heap_alloc_new w1 _, (hS.kept k1 (by simp)).kept ka (by simp), fun e => by have := hv _ e; omega, by omega⟩, by omega, fun e => ?_, fun e => by have := hv _ e; omega⟩
    exact absurd (o1 _ e).2 (by omega)
  have K0 : Kp [] w (w1.alloc (.cells #[.slice av mv cv, .int .i64 0, .bool false] 65)) := k1.alloc _
  have hp : w.heap.size ≤ w1.heap.size := k1.size
  clear r1 o1 k1 hS hv
  go_wp2_with fail
  go_loopw [7] (fun j wr => ∃ k : Nat, k ≤ 40 ∧ k ≤ l.length ∧ j = .int .i64 k ∧ ∃ v' i bad, Two wr q w1.heap.size v' (.slice av mv cv) i bad B ∧ Kp [] w wr) (fun j _ => 40 - (intOf j).toNat)
  case atStart => exact ⟨0, by omega, by omega, rfl, v1, 0, false, T0, K0⟩
  case round =>
    obtain ⟨k, hk1, hk2, rfl, v', i, bad, hT, hK⟩ := hrel
    clear T0 K0
    by_cases hlt : k < l.length ∧ k < 40
    · obtain ⟨hlt1, hlt2⟩ := hlt
      have hlt3 : (k : Int) < (l.length : Int) := by omega
      obtain ⟨bl, off, rfl, hA⟩ := hask k hlt1
      obtain ⟨x, hx⟩ : ∃ x, x = l[k] := ⟨_, rfl⟩
      rw [← hx] at hA
      obtain ⟨q0, q1, _, _, _, _, _, qm⟩ := hA
      have d0 := hK.cell q0 (by simp)
      have HQ1 := hide q1
      have hBr : Bs (rest i bad B) := rest_bs hB
      have hlr : (rest i bad B).length ≤ 140737488355328 := by unfold rest; split <;> simp; omega
      clear hx q0 q1 hask
      by_cases e1 : x.kind = 1
      · have t1 : (x.kind == 1) = true := beq_iff_eq.2 e1
        have hvv := val_one (tk bad (rest i bad B) 1).1 (tk_bs1 hBr) (@tk_len1 bad (rest i bad B) 1)
        have hv2 := val_bd (tk bad (rest i bad B) 1).1 (tk_bs1 hBr)
        have hv3 : val (tk bad (rest i bad B) 1).1 ≤ 255 := by
          have := @tk_len1 bad (rest i bad B) 1
          have h2 : (tk bad (rest i bad B) 1).1.length = 0 ∨ (tk bad (rest i bad B) 1).1.length = 1 := by simp only [Int.natCast_one] at this; omega
          rcases h2 with e | e <;> rw [e] at hv2 <;> omega
        obtain ⟨z, hz⟩ : ∃ z, z = val (tk bad (rest i bad B) 1).1 := ⟨_, rfl⟩
        rw [← hz] at hv2 hv3
        have hw32 : IntKind.u32.wrap z = z := by simp [IntKind.wrap, IntKind.signed, IntKind.bits]; omega
        have HZ := hide hz
        have D1 : Hid (∀ W, Kp [] wr W → Calls Try.prog 20 #[.pointer (some ⟨q, 0, none⟩)] W fun e w' => e = .returned (.int .u8 z) ∧ Mid w q w1.heap.size (.slice av mv cv) i bad B (tk bad (rest i bad B) 1).2 w') := fun W hW => (rbyte_any q v' bad _ W (hT.rd.kept hW (by simp) (by simp)) hBr).mono fun e w' ⟨h1, h2⟩ => ⟨by rw [h1, ← unhide HZ], hT.mid hK hq hW h2⟩
        have D2 : Hid (∀ W, Mid w q w1.heap.size (.slice av mv cv) i bad B (tk bad (rest i bad B) 1).2 W → Calls Try.prog 37 #[.pointer (some ⟨w1.heap.size, 0, none⟩), .int .i64 1] W fun e w' => e = .returned (.int .u32 z) ∧ Fin2 w q w1.heap.size (.slice av mv cv) B w') := fun W hW => (rnumb_any w1.heap.size _ i bad B 1 W hW.2.1 hb (by omega) hB).mono fun e w' ⟨h1, h2⟩ => ⟨by rw [h1, unhide HZ]; rfl, hW.fin hp h2⟩
        clear hz
        go_wp2_with fail
        refine (unhide D1 _ (Kp.refl [] _)).mono ?_
        rintro e w5 ⟨rfl, M5⟩
        go_wp2_with fail
        refine (unhide D2 _ M5).mono ?_
        rintro e w9 ⟨rfl, F9⟩
        obtain ⟨v9, i9, b9, T9, K9⟩ := F9
        have hcb9 := (cell_of_three T9.rr.1).2.2
        clear hT hK
        go_wp2_with fail
        go_quiet (first
          | (go_at_call 24; exact Calls.quiet_of_same (bad_any q _ _ _ _ (T9.rd.kept (kp_drewN w9 _) (by simp) (by simp))))
          | (go_at_call 25; exact Calls.quiet_of_same (end_any q _ _ _ _ (T9.rd.kept (kp_drewN w9 _) (by simp) (by simp))))
          | (go_at_call 26; exact Calls.quiet_of_same (left_any q _ _ _ _ (T9.rd.kept (kp_drewN w9 _) (by simp) (by simp))))
          | (go_at_call 40; exact Calls.quiet_of (rend_any w1.heap.size _ _ _ _ _ (T9.rr.kept (kp_drewN w9 _) (by simp) (by simp))))
          | (go_at_call 41; exact Calls.quiet_of (rleft_any w1.heap.size _ _ _ _ _ (T9.rr.kept (kp_drewN w9 _) (by simp) (by simp)))))
        go_wp2_with fail
        go_roundw
        case rel => exact ⟨k + 1, by omega, by omega, by go_num, v9, i9, b9, ⟨T9.rd.kept (kp_drewN w9 _) (by simp) (by simp), T9.rr.kept (kp_drewN w9 _) (by simp) (by simp), T9.ne, T9.n1, T9.n2⟩, K9.trans (kp_drewN w9 _)⟩
        case measure => simp [intOf]; omega
      · by_cases e2 : x.kind = 2
        · have t1 : (x.kind == 1) = false := beq_eq_false_iff_ne.2 e1
          have t2 : (x.kind == 2) = true := beq_iff_eq.2 e2
          obtain ⟨z, hz⟩ : ∃ z, z = val (tk bad (rest i bad B) 4).1 := ⟨_, rfl⟩
          have HZ := hide hz
          have D1 : Hid (∀ W, Kp [] wr W → Calls Try.prog 21 #[.pointer (some ⟨q, 0, none⟩)] W fun e w' => e = .returned (.int .u32 z) ∧ Mid w q w1.heap.size (.slice av mv cv) i bad B (tk bad (rest i bad B) 4).2 w') := fun W hW => (rnum_any q v' bad _ W (hT.rd.kept hW (by simp) (by simp)) hBr).mono fun e w' ⟨h1, h2⟩ => ⟨by rw [h1, ← unhide HZ], hT.mid hK hq hW h2⟩
          have D2 : Hid (∀ W, Mid w q w1.heap.size (.slice av mv cv) i bad B (tk bad (rest i bad B) 4).2 W → Calls Try.prog 37 #[.pointer (some ⟨w1.heap.size, 0, none⟩), .int .i64 4] W fun e w' => e = .returned (.int .u32 z) ∧ Fin2 w q w1.heap.size (.slice av mv cv) B w') := fun W hW => (rnumb_any w1.heap.size _ i bad B 4 W hW.2.1 hb (by omega) hB).mono fun e w' ⟨h1, h2⟩ => ⟨by rw [h1, unhide HZ]; rfl, hW.fin hp h2⟩
          clear hz
          go_wp2_with fail
          refine (unhide D1 _ (Kp.refl [] _)).mono ?_
          rintro e w5 ⟨rfl, M5⟩
          go_wp2_with fail
          refine (unhide D2 _ M5).mono ?_
          rintro e w9 ⟨rfl, F9⟩
          obtain ⟨v9, i9, b9, T9, K9⟩ := F9
          have hcb9 := (cell_of_three T9.rr.1).2.2
          clear hT hK
          go_wp2_with fail
          go_quiet (first
            | (go_at_call 24; exact Calls.quiet_of_same (bad_any q _ _ _ _ (T9.rd.kept (kp_drewN w9 _) (by simp) (by simp))))
            | (go_at_call 25; exact Calls.quiet_of_same (end_any q _ _ _ _ (T9.rd.kept (kp_drewN w9 _) (by simp) (by simp))))
            | (go_at_call 26; exact Calls.quiet_of_same (left_any q _ _ _ _ (T9.rd.kept (kp_drewN w9 _) (by simp) (by simp))))
            | (go_at_call 40; exact Calls.quiet_of (rend_any w1.heap.size _ _ _ _ _ (T9.rr.kept (kp_drewN w9 _) (by simp) (by simp))))
            | (go_at_call 41; exact Calls.quiet_of (rleft_any w1.heap.size _ _ _ _ _ (T9.rr.kept (kp_drewN w9 _) (by simp) (by simp)))))
          go_wp2_with fail
          go_roundw
          case rel => exact ⟨k + 1, by omega, by omega, by go_num, v9, i9, b9, ⟨T9.rd.kept (kp_drewN w9 _) (by simp) (by simp), T9.rr.kept (kp_drewN w9 _) (by simp) (by simp), T9.ne, T9.n1, T9.n2⟩, K9.trans (kp_drewN w9 _)⟩
          case measure => simp [intOf]; omega
        · by_cases e3 : x.kind = 3
          · have t1 : (x.kind == 1) = false := beq_eq_false_iff_ne.2 e1
            have t2 : (x.kind == 2) = false := beq_eq_false_iff_ne.2 e2
            have t3 : (x.kind == 3) = true := beq_iff_eq.2 e3
            by_cases hneg : x.most < 0
            · obtain ⟨X, hX⟩ : ∃ X, X = (tkb bad (rest i bad B) x.most).1 := ⟨_, rfl⟩
              have HX := hide hX
              have c1 : ∀ W ao m c, Sl W (.slice ao m c) X → (convert 25 9 (.slice ao m c)).run Try.prog W = .ok (.string (strOfNums X)) W := fun W ao m c h => h.conv 25 9 5 Try.underlying25 Try.underlying5 Try.underlying9
              have hpw : w1.heap.size < wr.heap.size := lt_of_block hT.rr.1
              have D1 : Hid (∀ W, Kp [] wr W → Calls Try.prog 22 #[.pointer (some ⟨q, 0, none⟩), .int .i64 x.most] W fun e w' => ∃ ao m c, e = .returned (.slice ao m c) ∧ Sl w' (.slice ao m c) X ∧ (∀ k, (Value.slice ao m c).ownBlock = some k → k ∉ [w1.heap.size]) ∧ Mid w q w1.heap.size (.slice av mv cv) i bad B (tkb bad (rest i bad B) x.most).2 w' ∧ w'.cell? ⟨bl, off + k * 4 + 1, none⟩ = some (.int .i64 x.most)) := fun W hW => (rbytes_any q v' bad _ x.most W (hT.rd.kept hW (by simp) (by simp)) hBr hlr).mono fun e w' ⟨ao, c, h1, h2, h3⟩ => by
                have M := hT.mid hK hq hW h3
                refine ⟨ao, _, c, h1, by rw [unhide HX]; exact h2.1, fun k hk hm => ?_, M, M.2.2.2.2.cell (unhide HQ1) (by simp)⟩
                have := h2.2 k hk
                have := hW.size
                simp only [List.mem_singleton] at hm
                omega
              have D2 : Hid (∀ W, Mid w q w1.heap.size (.slice av mv cv) i bad B (tkb bad (rest i bad B) x.most).2 W → Calls Try.prog 38 #[.pointer (some ⟨w1.heap.size, 0, none⟩), .int .i64 0] W fun e w' => ∃ ao m c, e = .returned (.slice ao m c) ∧ Sl w' (.slice ao m c) X ∧ Fin2 w q w1.heap.size (.slice av mv cv) B w' ∧ Kp [w1.heap.size] W w' ∧ w'.cell? ⟨bl, off + k * 4 + 1, none⟩ = some (.int .i64 x.most)) := fun W hW => (rbyt_any w1.heap.size _ i bad B 0 W hW.2.1 hb hB (by omega)).mono fun e w' ⟨ao, m, c, h1, h2, h3⟩ => by
                have em : tkb bad (rest i bad B) 0 = tkb bad (rest i bad B) x.most := by rw [← tkb_max bad (rest i bad B) x.most, show max x.most 0 = 0 from by omega]
                rw [em] at h2 h3
                have F := hW.fin hp h3
                obtain ⟨_, _, _, _, k3⟩ := h3
                refine ⟨ao, m, c, h1, by rw [unhide HX]; exact h2.1, F, k3, ?_⟩
                obtain ⟨_, _, _, _, kF⟩ := F
                exact kF.cell (unhide HQ1) (by simp)
              have dr := hK.drew.cell (unhide HQ1) (by simp)
              have d1 := hK.cell (unhide HQ1) (by simp)
              clear hX
              go_wp2_with fail
              go_region_with (first
                | (go_at_call 22; refine (unhide D1 _ ?_).mono ?_; (first | exact (Kp.refl [] _).drew | exact Kp.refl [] _); rintro e w5 ⟨a5, m5, c5, rfl, z5, o5, M5, d5⟩)
                | (go_at_call 38; refine (unhide D2 _ ?_).mono ?_; exact M5; rintro e w9 ⟨a9, m9, c9, rfl, z9, F9, k9, d9⟩; have z5b := Sl.kept z5 k9 o5))
              all_goals
                obtain ⟨v9, i9, b9, T9, K9⟩ := F9
                have hcb9 := (cell_of_three T9.rr.1).2.2
                clear hT hK
                go_wp2_with fail
                go_quiet (first
                  | (go_at_call 24; exact Calls.quiet_of_same (bad_any q _ _ _ _ (T9.rd.kept (kp_drewN w9 _) (by simp) (by simp))))
                  | (go_at_call 25; exact Calls.quiet_of_same (end_any q _ _ _ _ (T9.rd.kept (kp_drewN w9 _) (by simp) (by simp))))
                  | (go_at_call 26; exact Calls.quiet_of_same (left_any q _ _ _ _ (T9.rd.kept (kp_drewN w9 _) (by simp) (by simp))))
                  | (go_at_call 40; exact Calls.quiet_of (rend_any w1.heap.size _ _ _ _ _ (T9.rr.kept (kp_drewN w9 _) (by simp) (by simp))))
                  | (go_at_call 41; exact Calls.quiet_of (rleft_any w1.heap.size _ _ _ _ _ (T9.rr.kept (kp_drewN w9 _) (by simp) (by simp)))))
                go_wp2_with fail
                go_roundw
                case rel => exact ⟨k + 1, by omega, by omega, by go_num, v9, i9, b9, ⟨T9.rd.kept (kp_drewN w9 _) (by simp) (by simp), T9.rr.kept (kp_drewN w9 _) (by simp) (by simp), T9.ne, T9.n1, T9.n2⟩, K9.trans (kp_drewN w9 _)⟩
                case measure => simp [intOf]; omega
            · obtain ⟨X, hX⟩ : ∃ X, X = (tkb bad (rest i bad B) x.most).1 := ⟨_, rfl⟩
              have HX := hide hX
              have c1 : ∀ W ao m c, Sl W (.slice ao m c) X → (convert 25 9 (.slice ao m c)).run Try.prog W = .ok (.string (strOfNums X)) W := fun W ao m c h => h.conv 25 9 5 Try.underlying25 Try.underlying5 Try.underlying9
              have hpw : w1.heap.size < wr.heap.size := lt_of_block hT.rr.1
              have D1 : Hid (∀ W, Kp [] wr W → Calls Try.prog 22 #[.pointer (some ⟨q, 0, none⟩), .int .i64 x.most] W fun e w' => ∃ ao m c, e = .returned (.slice ao m c) ∧ Sl w' (.slice ao m c) X ∧ (∀ k, (Value.slice ao m c).ownBlock = some k → k ∉ [w1.heap.size]) ∧ Mid w q w1.heap.size (.slice av mv cv) i bad B (tkb bad (rest i bad B) x.most).2 w' ∧ w'.cell? ⟨bl, off + k * 4 + 1, none⟩ = some (.int .i64 x.most)) := fun W hW => (rbytes_any q v' bad _ x.most W (hT.rd.kept hW (by simp) (by simp)) hBr hlr).mono fun e w' ⟨ao, c, h1, h2, h3⟩ => by
                have M := hT.mid hK hq hW h3
                refine ⟨ao, _, c, h1, by rw [unhide HX]; exact h2.1, fun k hk hm => ?_, M, M.2.2.2.2.cell (unhide HQ1) (by simp)⟩
                have := h2.2 k hk
                have := hW.size
                simp only [List.mem_singleton] at hm
                omega
              have D2 : Hid (∀ W, Mid w q w1.heap.size (.slice av mv cv) i bad B (tkb bad (rest i bad B) x.most).2 W → Calls Try.prog 38 #[.pointer (some ⟨w1.heap.size, 0, none⟩), .int .i64 x.most] W fun e w' => ∃ ao m c, e = .returned (.slice ao m c) ∧ Sl w' (.slice ao m c) X ∧ Fin2 w q w1.heap.size (.slice av mv cv) B w' ∧ Kp [w1.heap.size] W w' ∧ w'.cell? ⟨bl, off + k * 4 + 1, none⟩ = some (.int .i64 x.most)) := fun W hW => (rbyt_any w1.heap.size _ i bad B x.most W hW.2.1 hb hB (by omega)).mono fun e w' ⟨ao, m, c, h1, h2, h3⟩ => by
                have F := hW.fin hp h3
                obtain ⟨_, _, _, _, k3⟩ := h3
                refine ⟨ao, m, c, h1, by rw [unhide HX]; exact h2.1, F, k3, ?_⟩
                obtain ⟨_, _, _, _, kF⟩ := F
                exact kF.cell (unhide HQ1) (by simp)
              have dr := hK.drew.cell (unhide HQ1) (by simp)
              have d1 := hK.cell (unhide HQ1) (by simp)
              clear hX
              go_wp2_with fail
              go_region_with (first
                | (go_at_call 22; refine (unhide D1 _ ?_).mono ?_; (first | exact (Kp.refl [] _).drew | exact Kp.refl [] _); rintro e w5 ⟨a5, m5, c5, rfl, z5, o5, M5, d5⟩)
                | (go_at_call 38; refine (unhide D2 _ ?_).mono ?_; exact M5; rintro e w9 ⟨a9, m9, c9, rfl, z9, F9, k9, d9⟩; have z5b := Sl.kept z5 k9 o5))
              all_goals
                obtain ⟨v9, i9, b9, T9, K9⟩ := F9
                have hcb9 := (cell_of_three T9.rr.1).2.2
                clear hT hK
                go_wp2_with fail
                go_quiet (first
                  | (go_at_call 24; exact Calls.quiet_of_same (bad_any q _ _ _ _ (T9.rd.kept (kp_drewN w9 _) (by simp) (by simp))))
                  | (go_at_call 25; exact Calls.quiet_of_same (end_any q _ _ _ _ (T9.rd.kept (kp_drewN w9 _) (by simp) (by simp))))
                  | (go_at_call 26; exact Calls.quiet_of_same (left_any q _ _ _ _ (T9.rd.kept (kp_drewN w9 _) (by simp) (by simp))))
                  | (go_at_call 40; exact Calls.quiet_of (rend_any w1.heap.size _ _ _ _ _ (T9.rr.kept (kp_drewN w9 _) (by simp) (by simp))))
                  | (go_at_call 41; exact Calls.quiet_of (rleft_any w1.heap.size _ _ _ _ _ (T9.rr.kept (kp_drewN w9 _) (by simp) (by simp)))))
                go_wp2_with fail
                go_roundw
                case rel => exact ⟨k + 1, by omega, by omega, by go_num, v9, i9, b9, ⟨T9.rd.kept (kp_drewN w9 _) (by simp) (by simp), T9.rr.kept (kp_drewN w9 _) (by simp) (by simp), T9.ne, T9.n1, T9.n2⟩, K9.trans (kp_drewN w9 _)⟩
                case measure => simp [intOf]; omega
          · have t1 : (x.kind == 1) = false := beq_eq_false_iff_ne.2 e1
            have t2 : (x.kind == 2) = false := beq_eq_false_iff_ne.2 e2
            have t3 : (x.kind == 3) = false := beq_eq_false_iff_ne.2 e3
            obtain ⟨X, hX⟩ : ∃ X, X = (tk bad (rest i bad B) x.most).1 := ⟨_, rfl⟩
            have HX := hide hX
            have c1 : ∀ W ao m c, Sl W (.slice ao m c) X → (convert 25 9 (.slice ao m c)).run Try.prog W = .ok (.string (strOfNums X)) W := fun W ao m c h => h.conv 25 9 5 Try.underlying25 Try.underlying5 Try.underlying9
            have hpw : w1.heap.size < wr.heap.size := lt_of_block hT.rr.1
            have D1 : Hid (∀ W, Kp [] wr W → Calls Try.prog 23 #[.pointer (some ⟨q, 0, none⟩), .int .i64 x.most] W fun e w' => ∃ ao m c, e = .returned (.slice ao m c) ∧ Sl w' (.slice ao m c) X ∧ (∀ k, (Value.slice ao m c).ownBlock = some k → k ∉ [w1.heap.size]) ∧ Mid w q w1.heap.size (.slice av mv cv) i bad B (tk bad (rest i bad B) x.most).2 w' ∧ w'.cell? ⟨bl, off + k * 4 + 1, none⟩ = some (.int .i64 x.most)) := fun W hW => (raw_ok q v' bad _ x.most W (hT.rd.kept hW (by simp) (by simp)) hlr).mono fun e w' ⟨ao, c, h1, h2, h3⟩ => by
              have M := hT.mid hK hq hW h3
              refine ⟨ao, _, c, h1, by rw [unhide HX]; exact h2.1, fun k hk hm => ?_, M, M.2.2.2.2.cell (unhide HQ1) (by simp)⟩
              have := h2.2 k hk
              have := hW.size
              simp only [List.mem_singleton] at hm
              omega
            have D2 : Hid (∀ W, Mid w q w1.heap.size (.slice av mv cv) i bad B (tk bad (rest i bad B) x.most).2 W → Calls Try.prog 39 #[.pointer (some ⟨w1.heap.size, 0, none⟩), .int .i64 x.most] W fun e w' => ∃ ao m c, e = .returned (.slice ao m c) ∧ Sl w' (.slice ao m c) X ∧ Fin2 w q w1.heap.size (.slice av mv cv) B w' ∧ Kp [w1.heap.size] W w' ∧ w'.cell? ⟨bl, off + k * 4 + 1, none⟩ = some (.int .i64 x.most)) := fun W hW => (rraw_any w1.heap.size _ i bad B x.most W hW.2.1 hb qm).mono fun e w' ⟨ao, m, c, h1, h2, h3⟩ => by
              have F := hW.fin hp h3
              obtain ⟨_, _, _, _, k3⟩ := h3
              refine ⟨ao, m, c, h1, by rw [unhide HX]; exact h2.1, F, k3, ?_⟩
              obtain ⟨_, _, _, _, kF⟩ := F
              exact kF.cell (unhide HQ1) (by simp)
            have dr := hK.drew.cell (unhide HQ1) (by simp)
            have d1 := hK.cell (unhide HQ1) (by simp)
            clear hX
            go_wp2_with fail
            go_region_with (first
              | (go_at_call 23; refine (unhide D1 _ ?_).mono ?_; (first | exact (Kp.refl [] _).drew | exact Kp.refl [] _); rintro e w5 ⟨a5, m5, c5, rfl, z5, o5, M5, d5⟩)
              | (go_at_call 39; refine (unhide D2 _ ?_).mono ?_; exact M5; rintro e w9 ⟨a9, m9, c9, rfl, z9, F9, k9, d9⟩; have z5b := Sl.kept z5 k9 o5))
            all_goals
              obtain ⟨v9, i9, b9, T9, K9⟩ := F9
              have hcb9 := (cell_of_three T9.rr.1).2.2
              clear hT hK
              go_wp2_with fail
              go_quiet (first
                | (go_at_call 24; exact Calls.quiet_of_same (bad_any q _ _ _ _ (T9.rd.kept (kp_drewN w9 _) (by simp) (by simp))))
                | (go_at_call 25; exact Calls.quiet_of_same (end_any q _ _ _ _ (T9.rd.kept (kp_drewN w9 _) (by simp) (by simp))))
                | (go_at_call 26; exact Calls.quiet_of_same (left_any q _ _ _ _ (T9.rd.kept (kp_drewN w9 _) (by simp) (by simp))))
                | (go_at_call 40; exact Calls.quiet_of (rend_any w1.heap.size _ _ _ _ _ (T9.rr.kept (kp_drewN w9 _) (by simp) (by simp))))
                | (go_at_call 41; exact Calls.quiet_of (rleft_any w1.heap.size _ _ _ _ _ (T9.rr.kept (kp_drewN w9 _) (by simp) (by simp)))))
              go_wp2_with fail
              go_roundw
              case rel => exact ⟨k + 1, by omega, by omega, by go_num, v9, i9, b9, ⟨T9.rd.kept (kp_drewN w9 _) (by simp) (by simp), T9.rr.kept (kp_drewN w9 _) (by simp) (by simp), T9.ne, T9.n1, T9.n2⟩, K9.trans (kp_drewN w9 _)⟩
              case measure => simp [intOf]; omega
    · clear hask
      go_wp2_with fail
      all_goals
        go_ret
        exact ⟨rfl, hK⟩
end Go.Proofs.Ythpekclkclpbpaa
