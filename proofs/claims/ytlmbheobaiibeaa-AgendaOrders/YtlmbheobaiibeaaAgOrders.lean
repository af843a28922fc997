/-
  AgendaOrders: what is taken comes by rising times, of one time in the order in which it was added, and all of it comes.
-/
import Derived.Test.YtlmbheobaiibeaaAgB
namespace Go.Proofs.Ytlmbheobaiibeaa
open Go.RowKit Go.Sort Go.Lib

/-- An entry of AgendaOrders: its thing is its number, its time the row's. -/
def EnO (ts : List Int) (k : Nat) (e : En) : Prop := e.num = e.what ∧ 0 ≤ e.what ∧ e.what < (k : Int) ∧ e.at_ = wi (ts.getD e.what.toNat 0) 0 1000
theorem EnO.mono {ts : List Int} {k k' : Nat} {e : En} (h : EnO ts k e) (hk : k ≤ k') : EnO ts k' e := ⟨h.1, h.2.1, by have := h.2.2.1; omega, h.2.2.2⟩
theorem ltE_iff (x y : En) : ltE x y = true ↔ x.at_ < y.at_ ∨ (x.at_ = y.at_ ∧ x.num < y.num) := by
  unfold ltE
  split <;> simp <;> omega
theorem IntsA.at {w : World} {v : Value} {l : List Int} (h : IntsA w v l) : ∃ ao c, v = .slice ao l.length c ∧ ∀ i, i < l.length → ∃ a, ao = some a ∧ w.cell? (a.add i) = some (.int .i64 (l.getD i 0)) := by
  obtain ⟨ao, c, rfl, _, h2⟩ := h
  refine ⟨ao, c, rfl, fun i hi => ?_⟩
  obtain ⟨a, e, hc⟩ := h2 i hi
  refine ⟨a, e, ?_⟩
  rw [hc]
  simp [hi]

set_option maxHeartbeats 4000000 in
set_option maxRecDepth 100000 in
theorem orders_walk (vt : Value) (ts : List Int) (w : World) (ht : IntsA w vt ts) (hlen : ts.length ≤ 9223372036854775807) :
    Calls Try.prog 5 #[vt] w fun e w' => e = .returned (.bool true) ∧ Kp [] w w' := by
  have hN := new_ag w
  obtain ⟨ao, c, rfl, hcell⟩ := ht.at
  obtain ⟨n0, hn0⟩ : ∃ n0, n0 = ts.length := ⟨_, rfl⟩
  obtain ⟨n, hn⟩ : ∃ n, n = min n0 100 := ⟨_, rfl⟩
  have hn1 : n ≤ n0 := by omega
  have hn2 : n ≤ 100 := by omega
  have CELL : Hid (∀ w', Kp [] w w' → ∀ i : Nat, i < n → ∃ a, ao = some a ∧ w'.cell? (a.add i) = some (.int .i64 (ts.getD i 0))) := fun w' k i hi => by
    obtain ⟨a, e, hc⟩ := hcell i (by omega)
    exact ⟨a, e, k.cell hc (by simp)⟩
  rw [← hn0] at hlen ⊢
  clear hcell ht hn0
  have HN := hide hn
  go_enter Try.func5, Try.ntmps5
  go_upto_if 22 with (go_at_call 11; refine hN.mono ?_; rintro e w1 ⟨p, rfl, A1, hp, k1⟩; clear hN)
  go_cut [4] from 21 (fun s4 wc => s4 = .int .i64 (n : Nat) ∧ wc = w1)
  case first =>
    by_cases hb : n0 ≤ 100
    · have hbz : (n0 : Int) ≤ 100 := by omega
      have hnn : n = n0 := by omega
      clear hn
      go_wp2_with fail
      go_meet
      case rel => exact ⟨by rw [hnn], rfl⟩
    · have hbz : ¬ (n0 : Int) ≤ 100 := by omega
      have hnn : n = 100 := by omega
      clear hn
      go_wp2_with fail
      go_meet
      case rel => exact ⟨by rw [hnn]; rfl, rfl⟩
  case rest =>
    obtain ⟨rfl, rfl⟩ := hcut
    clear hn
    go_wp2_with fail
    have INV : Hid (∃ (v : Value) (m : List En), Ag wc p v m 0 ∧ Fr w p v ∧ Kp [] w wc ∧ m.length = 0 ∧ ∀ e ∈ m, EnO ts 0 e) := ⟨_, _, A1, fr_new hp, k1, rfl, by simp⟩
    clear A1 hp k1
    go_loopg [5] n (fun kx s5 wr => ∃ i : Nat, s5 = .int .i64 i ∧ i ≤ n ∧ n - i ≤ kx ∧ Hid (∃ (v : Value) (m : List En), Ag wr p v m i ∧ Fr w p v ∧ Kp [] w wr ∧ m.length = i ∧ ∀ e ∈ m, EnO ts i e))
    case atStart => exact ⟨0, rfl, Nat.zero_le _, by omega, INV⟩
    case round =>
      clear INV
      obtain ⟨i, rfl, hi, hkx, HI⟩ := hrel
      obtain ⟨v, m, A2, F2, k2, hl2, P2⟩ := HI.out
      clear HI
      by_cases hin : i < n
      · have hiz : (i : Int) < (n : Int) := by omega
        obtain ⟨a, rfl, hc⟩ := CELL.out wr k2 i hin
        obtain ⟨x, hx⟩ : ∃ x, x = ts.getD i 0 := ⟨_, rfl⟩
        rw [← hx] at hc
        have HX := hide hx
        have HP := hide P2
        have hin0 : (i : Int) < (n0 : Int) := by omega
        clear hx P2
        have hwt := fun w => within_any x 0 1000 w (by omega) (by omega) (by omega)
        obtain ⟨t, htt⟩ : ∃ t, t = wi x 0 1000 := ⟨_, rfl⟩
        rw [← htt] at hwt
        have HT := hide htt
        clear htt
        have hadd := add_ag p v m i t i wr A2 (by omega)
        go_wp2_with (first
          | (go_at_call 13; refine (hwt _).mono ?_; rintro e w' ⟨rfl, hw⟩; subst w'; clear hwt)
          | (go_at_call 12; refine hadd.mono ?_; rintro e w2 ⟨rfl, v', A3, T3⟩; clear hadd))
        go_roundg (n - (i + 1))
        case measure => omega
        case rel =>
          obtain ⟨K3, F3⟩ := Ste.fresh k2 F2 T3
          refine ⟨i + 1, by go_num, by omega, Nat.le_refl _, v', _, A3, F3, K3, ?_, fun e he => ?_⟩
          · rw [(insE_perm m _).length_eq]; simp [hl2]
          · rcases List.mem_cons.1 ((insE_perm m _).mem_iff.1 he) with rfl | h1
            · refine ⟨rfl, by simp, by push_cast; omega, ?_⟩
              show t = wi (ts.getD (i : Int).toNat 0) 0 1000
              rw [HT.out, HX.out, Int.toNat_natCast]
            · exact (HP.out e h1).mono (by omega)
      · have hiz : ¬ (i : Int) < (n : Int) := by omega
        have hii : i = n := by omega
        have INV2 : Hid (∃ (v : Value) (m : List En), Ag wr p v m n ∧ Fr w p v ∧ Kp [] w wr ∧ m.length = n - 0 ∧ (∀ e ∈ m, EnO ts n e) ∧ ∀ e ∈ m, (-1 : Int) < e.at_ ∨ ((-1 : Int) = e.at_ ∧ (-1 : Int) < e.num)) := by
          subst hii
          refine ⟨v, m, A2, F2, k2, by omega, P2, fun e he => .inl ?_⟩
          have := (P2 e he).2.2.2
          have h2 := wi_ge (ts.getD e.what.toNat 0) 0 1000 (by omega)
          omega
        clear hii A2 F2 k2 hl2 P2 hkx
        go_wp2_with fail
        go_loopg [6, 7, 8] n (fun kx s6 s7 s8 wr => ∃ (i : Nat) (la wh : Int), s6 = .int .i64 la ∧ s7 = .int .i64 wh ∧ s8 = .int .i64 i ∧ i ≤ n ∧ n - i ≤ kx ∧ Hid (∃ (v : Value) (m : List En), Ag wr p v m n ∧ Fr w p v ∧ Kp [] w wr ∧ m.length = n - i ∧ (∀ e ∈ m, EnO ts n e) ∧ ∀ e ∈ m, la < e.at_ ∨ (la = e.at_ ∧ wh < e.num)))
        case atStart => exact ⟨0, -1, -1, rfl, rfl, rfl, Nat.zero_le _, by omega, INV2⟩
        case round =>
          clear INV2 hiz hi
          obtain ⟨i, la, wh, rfl, rfl, rfl, hi, hkx, HI⟩ := hrel
          obtain ⟨v, m, A2, F2, k2, hl2, P2, L2⟩ := HI.out
          clear HI
          by_cases hin : i < n
          · have hiz : (i : Int) < (n : Int) := by omega
            cases m with
            | nil => exfalso; simp at hl2; omega
            | cons x l =>
              obtain ⟨x1, x2, x3, x4⟩ := P2 x (by simp)
              have xw := wi_ge (ts.getD x.what.toNat 0) 0 1000 (by omega)
              rw [← x4] at xw
              have xl := L2 x (by simp)
              obtain ⟨j, hj⟩ : ∃ j : Nat, x.what = (j : Int) := ⟨x.what.toNat, by omega⟩
              have hjn : j < n := by omega
              have hnx := next_ag p v (x :: l) n wr A2
              simp only [List.headD_cons, List.isEmpty_cons, Bool.not_false, hj] at hnx
              have DUE : Hid (∀ w', Kp [] wr w' → Calls Try.prog 15 #[.pointer (some ⟨p, 0, none⟩), .int .i64 1000] w' fun e w'' => e = .returned (.tuple #[.int .i64 (j : Int), .bool true]) ∧ ∃ v', Ag w'' p v' l n ∧ Ste p w' v w'' v') := fun w' kk => by
                have := due_ag p v (x :: l) n 1000 w' (A2.keptN kk) (by omega)
                simpa [dueP, hj, show x.at_ ≤ 1000 from xw.2] using this
              have REST : Hid ((∀ e ∈ l, EnO ts n e) ∧ ∀ e ∈ l, x.at_ < e.at_ ∨ (x.at_ = e.at_ ∧ (j : Int) < e.num)) := by
                refine ⟨fun e he => P2 e (by simp [he]), fun e he => ?_⟩
                have h1 := (List.pairwise_cons.1 A2.srt).1 e he
                rw [ltE_iff, x1, hj] at h1
                exact h1
              have hll : l.length = n - (i + 1) := by simp at hl2; omega
              obtain ⟨xa, hxa⟩ : ∃ xa, xa = x.at_ := ⟨_, rfl⟩
              have hwt : ∀ w, Calls Try.prog 13 #[.int .i64 (ts.getD j 0), .int .i64 0, .int .i64 1000] w fun e w' => e = .returned (.int .i64 xa) ∧ w' = w := fun w => by
                have := within_any (ts.getD j 0) 0 1000 w (by omega) (by omega) (by omega)
                rw [hj, Int.toNat_natCast] at x4
                rw [hxa, x4]
                exact this
              have t1 : ¬ xa < la := by omega
              have t2 : ((xa == la) = true ∧ ¬ (j : Int) ≤ wh) ∨ (xa == la) = false := by
                by_cases h : xa = la
                · left; refine ⟨by simpa using h, ?_⟩; omega
                · right; simpa using h
              rw [← hxa] at hnx REST
              obtain ⟨y, hy⟩ : ∃ y, y = ts.getD j 0 := ⟨_, rfl⟩
              rw [← hy] at hwt
              have HY := hide hy
              have hjz : ¬ (n : Int) ≤ (j : Int) := by omega
              have hj0 : (j : Int) < (n0 : Int) := by omega
              have F2' := hide F2
              have K2' := hide k2
              have GO : Hid (∀ w2 v', Ste p wr v w2 v' → Kp [] w w2 ∧ Fr w p v') := fun w2 v' t => Ste.fresh k2 F2 t
              clear A2 P2 L2 x1 x2 x3 x4 xw xl hxa hy hl2 F2 k2 hj
              rcases t2 with ⟨t2, t3⟩ | t2
              · go_wp2_with (first
                  | (go_at_call 14; refine hnx.mono ?_; rintro e w1 ⟨rfl, k1⟩; clear hnx; have hdu := DUE.out w1 k1)
                  | (go_at_call 15; refine hdu.mono ?_; rintro e w2 ⟨rfl, v', A3, T3'⟩; clear hdu; have T3 := Ste.trans ⟨k1.mono (by simp), fun _ e => .inl e⟩ T3'; obtain ⟨K3, F3⟩ := GO.out w2 v' T3; obtain ⟨a, rfl, hc⟩ := CELL.out w2 K3 j hjn; rw [← HY.out] at hc)
                  | (go_at_call 13; refine (hwt _).mono ?_; rintro e w' ⟨rfl, hw⟩; subst w'; clear hwt))
                go_roundg (n - (i + 1))
                case measure => omega
                case rel => exact ⟨i + 1, xa, j, rfl, rfl, by go_num, by omega, Nat.le_refl _, v', l, A3, F3, K3, hll, REST.out⟩
              · go_wp2_with (first
                  | (go_at_call 14; refine hnx.mono ?_; rintro e w1 ⟨rfl, k1⟩; clear hnx; have hdu := DUE.out w1 k1)
                  | (go_at_call 15; refine hdu.mono ?_; rintro e w2 ⟨rfl, v', A3, T3'⟩; clear hdu; have T3 := Ste.trans ⟨k1.mono (by simp), fun _ e => .inl e⟩ T3'; obtain ⟨K3, F3⟩ := GO.out w2 v' T3; obtain ⟨a, rfl, hc⟩ := CELL.out w2 K3 j hjn; rw [← HY.out] at hc)
                  | (go_at_call 13; refine (hwt _).mono ?_; rintro e w' ⟨rfl, hw⟩; subst w'; clear hwt))
                go_roundg (n - (i + 1))
                case measure => omega
                case rel => exact ⟨i + 1, xa, j, rfl, rfl, by go_num, by omega, Nat.le_refl _, v', l, A3, F3, K3, hll, REST.out⟩
          · have hiz : ¬ (i : Int) < (n : Int) := by omega
            have hm : m = [] := List.eq_nil_of_length_eq_zero (by omega)
            subst hm
            have hdu := due_ag p v [] n 1000 wr A2 (by omega)
            simp only [dueP, List.isEmpty_nil, Bool.not_true, Bool.false_and, Bool.false_eq_true, if_false] at hdu
            clear P2 L2 hl2
            go_wp2_with (first
              | (go_at_call 15; refine hdu.mono ?_; rintro e w2 ⟨rfl, v', A3, T3⟩; clear hdu; have hln := len_ag p v' [] n w2 A3; obtain ⟨K3, F3⟩ := Ste.fresh k2 F2 T3; have hkn := known_any w2)
              | (go_at_call 16; refine hln.mono ?_; rintro e w' ⟨rfl, hw⟩; subst w'; clear hln)
              | (go_at_call 10; refine hkn.mono ?_; rintro e w3 ⟨rfl, k3⟩; clear hkn))
            go_ret
            exact ⟨rfl, K3.trans k3⟩
end Go.Proofs.Ytlmbheobaiibeaa
