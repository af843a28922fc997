/-
  The contracts of the reference's Include, sub and Grow.
-/
import Derived.Test.YtillhpgdlmeajaaGreatDoorQB1
import Derived.Test.YtillhpgdlmeajaaGreatDoorQLedgerProves1
import Derived.Test.YtillhpgdlmeajaaGreatDoorQB2
import Derived.Test.YtillhpgdlmeajaaGreatDoorQB5
namespace Go.Proofs.YtillhpgdlmeajaaGreatDoor
open Go.RowKit
open Go.Proofs
theorem ap_root {w0 w w' : World} {ao : Option Addr} {m c : Nat} {v : Value} {ls : List (List Int)} {r : List Int} (hr : r = trootP ls) (h0 : L0 w0 ls v w) (k : Kp [] w0 w) (hor : Row w' w.heap.size (.slice ao m c) r ∨ AtOne v (.slice ao m c) w) : Ap w0.heap.size w' (.slice ao m c) r := by
  rcases hor with h | ⟨b, off, c1, rfl, hc⟩
  · exact ap_row h
  · have h0' : LcM ls (.slice (some ⟨b, off, none⟩) 1 c1) w0 := h0
    obtain ⟨_, _, e, _⟩ := h0'.shape
    injection e with _ e2 _
    match ls, e2, h0', hr with
    | [x], _, h0', hr =>
      obtain ⟨-, b', off', u, e7, hcu, hSu, -⟩ := h0'.at 0 x rfl
      cases e7
      have hcw := k.cell hcu (by simp)
      rw [Nat.add_zero, hc] at hcw
      cases hcw
      rw [hr, trootP_one]
      exact ap_old hSu (Nat.le_refl _)
set_option maxRecDepth 100000 in
set_option maxHeartbeats 2000000 in
theorem rinc_any (n : Nat) : ∀ (v : Value) (ls : List (List Int)) (i : Nat) (r : List (List Int)) (w : World), r = incP ls i → ls.length = n → i < n → n ≤ 100000 → LcM ls v w → (∀ x ∈ ls, x.length ≤ 1000) →
    Calls Tryz.prog 28 #[v, .int .i64 i] w fun e w' => ∃ ao m c, e = .returned (.slice ao m c) ∧ AccR w r (.slice ao m c) w' := by
  induction n using Nat.strongRecOn with
  | ind n ih =>
    intro v ls i r w hr hlen hin hn hL hm
    have hbs := hL.bs
    have hLw := hL
    obtain ⟨ao, c, e, h1, h2, h3⟩ := hL.shape
    rw [hlen] at e h1
    subst e
    by_cases h2n : 2 ≤ n
    · have hsmi : ¬ (n : Int) < 2 := by omega
      obtain ⟨k, hk⟩ : ∃ k, k = tsplP n := ⟨_, rfl⟩
      have hk1 : 1 ≤ k := by rw [hk]; exact tsplP_pos h2n
      have hk2 : k < n := by rw [hk]; exact tsplP_lt h2n
      have hkl : k = tsplP ls.length := by rw [hlen]; exact hk
      have HC := hide (rsplit_any n k w (by rw [Int.toNat_natCast]; exact hk) (by omega))
      have HKL : Hid (k ≤ ls.length) := hide (by omega)
      have HLL : Hid (∀ w', Kp [] w.drew w' → LcM ls (.slice ao n c) w') := fun w' k' => hL.kept ((kp_drew w).trans k')
      obtain ⟨B, hB⟩ : ∃ B, B = w.heap.size := ⟨_, rfl⟩
      have HBW : Hid (∀ w', Kp [] w.drew w' → B ≤ w'.heap.size) := fun w' k' => by rw [hB]; exact k'.size
      have HBB := hide hB
      clear hB
      by_cases hik : i < k
      · have hci : (i : Int) < (k : Int) := by omega
        obtain ⟨pa, hpa⟩ : ∃ p, p = incP (ls.take k) i := ⟨_, rfl⟩
        obtain ⟨rb, hrb⟩ : ∃ r, r = trootP (ls.drop k) := ⟨_, rfl⟩
        have HE : Hid (r = pa ++ [rb]) := hide (by rw [hr, incP_left (by omega) hkl hik, hpa, hrb])
        have hpl : pa.length ≤ 1000000 := by rw [hpa, incP_len k _ i (by simp; omega)]; have := cntP_le 17 k i (by omega); omega
        have HA := hide (fun v w hL => ih k (by omega) v (ls.take k) i pa w hpa (by simp; omega) (by omega) (by omega) hL (fun x hx => hm x (List.mem_of_mem_take hx)))
        have HB := hide (fun v w hL => rroot_row (n - k) v (ls.drop k) rb w hrb (by simp; omega) (by omega) hL (fun x hx => hm x (List.mem_of_mem_drop hx)))
        have HBb : Hid (Bs rb) := by rw [hrb]; exact trootP_bs _ (fun x hx => hbs x (List.mem_of_mem_drop hx))
        have HRB := hide hrb
        obtain ⟨w0, hw0⟩ : ∃ w0, w0 = w := ⟨_, rfl⟩
        have HL0 : Hid (LcM ls (.slice ao n c) w0) := by rw [hw0]; exact hLw
        have HKw : Hid (∀ w', Kp [] w.drew w' → Kp [] w0 w') := fun w' k' => by rw [hw0]; exact (kp_drew w).trans k'
        rw [← hw0] at HBB
        have HW0 := hide hw0
        clear hw0
        clear hbs hm hL hLw ih h1 h3 hlen hr hpa hrb hk hkl h2n hik
        go_enter Tryz.func28, Tryz.ntmps28
        go_wp2_with fail
        refine (unhide HC).mono ?_
        rintro ee w2 ⟨rfl, hw⟩
        subst w2
        clear HC hsmi
        go_wp2_with fail
        refine region_grow_tail 10 Tryz.mixed [Is (.slice ao n c), Is (.int .i64 k), L0 w0 (ls.take k), Is (.int .i64 i), ARt B pa, Is (.slice ao n c), Is (.int .i64 k), L0 w0 (ls.drop k), RtT B rb, OneT B rb] [[(0, none)], [(5, none)], [(15, some 0), (16, some 1)], [(1, none)], [(17, some 2), (18, some 3)], [(0, none)], [(5, none)], [(20, some 5), (21, some 6)], [(22, some 7)], [(23, some 8)]] (by kernel_rfl) ?_ ?_ ?_
        all_goals try simp only [List.take_succ_cons, List.take_zero, List.drop_succ_cons, List.drop_zero]
        · simp only [List.mem_cons, List.not_mem_nil, or_false]
          intro R hR
          rcases hR with rfl | rfl | rfl | rfl | rfl | rfl | rfl | rfl | rfl | rfl <;> first | exact stable_is _ | exact stable_l0 _ _ | exact stable_ar _ _ | exact stable_rt _ _ | exact stable_onet _ _
        · refine steps_cons (fun a w hk hn => ?_) ?_
          · have h0 : a.eval (.tmp 0) = .slice ao n c := hn.1
            clear hn
            refine wants_plain rfl ?_
            exact grown_move (.tmp 0) rfl h0
          refine steps_cons (fun a w hk hn => ?_) ?_
          · have h5 : a.eval (.tmp 5) = .int .i64 k := hn.1
            clear hn
            refine wants_plain rfl ?_
            exact grown_move (.tmp 5) rfl h5
          refine steps_cons (fun a w hk hn => ?_) ?_
          · have h15 : a.eval (.tmp 15) = .slice ao n c := hn.1
            have h16 : a.eval (.tmp 16) = .int .i64 k := hn.2.1
            clear hn
            refine wants_plain rfl ?_
            exact grown_lhead0 (.tmp 15) (.tmp 16) ls k rfl (by rw [h15]; exact unhide HL0) h16 (unhide HKL)
          refine steps_cons (fun a w hk hn => ?_) ?_
          · have h1 : a.eval (.tmp 1) = .int .i64 i := hn.1
            clear hn
            refine wants_plain rfl ?_
            exact grown_move (.tmp 1) rfl h1
          refine steps_cons (fun a w hk hn => ?_) ?_
          · have h17 : (L0 w0 (ls.take k)) (a.eval (.tmp 17)) w := hn.1
            have h18 : a.eval (.tmp 18) = .int .i64 i := hn.2.1
            clear hn
            refine wants_plain rfl ?_
            refine grown_call (f := 28) rfl Tryz.func28 (by kernel_rfl) (by kernel_rfl) ?_
            simp only [List.map_toArray, List.map_cons, List.map_nil, h18]
            refine (unhide HA _ w (h17.kept (unhide HKw w hk))).mono ?_
            rintro e w' ⟨ao, m, c, rfl, A⟩
            exact ⟨_, rfl, A.kp, A.ar (unhide HBW w hk)⟩
          refine steps_cons (fun a w hk hn => ?_) ?_
          · have h0 : a.eval (.tmp 0) = .slice ao n c := hn.1
            clear hn
            refine wants_plain rfl ?_
            exact grown_move (.tmp 0) rfl h0
          refine steps_cons (fun a w hk hn => ?_) ?_
          · have h5 : a.eval (.tmp 5) = .int .i64 k := hn.1
            clear hn
            refine wants_plain rfl ?_
            exact grown_move (.tmp 5) rfl h5
          refine steps_cons (fun a w hk hn => ?_) ?_
          · have h20 : a.eval (.tmp 20) = .slice ao n c := hn.1
            have h21 : a.eval (.tmp 21) = .int .i64 k := hn.2.1
            clear hn
            refine wants_plain rfl ?_
            exact grown_lfrom0 (.tmp 20) (.tmp 21) ls k rfl (by rw [h20]; exact unhide HL0) h21 (unhide HKL)
          refine steps_cons (fun a w hk hn => ?_) ?_
          · have h22 : (L0 w0 (ls.drop k)) (a.eval (.tmp 22)) w := hn.1
            clear hn
            refine wants_plain rfl ?_
            refine grown_call (f := 24) rfl Tryz.func24 (by kernel_rfl) (by kernel_rfl) ?_
            simp only [List.map_toArray, List.map_cons, List.map_nil]
            refine (unhide HB _ w (h22.kept (unhide HKw w hk))).mono ?_
            rintro e w' ⟨ao, m, c, rfl, hor, S, K⟩
            exact ⟨_, rfl, K, ⟨ao, m, c, rfl, S, by rw [unhide HBB]; exact ap_root (unhide HRB) h22 (unhide HKw w hk) hor⟩⟩
          refine steps_cons (fun a w hk hn => ?_) ?_
          · have h23 : (RtT B rb) (a.eval (.tmp 23)) w := hn.1
            clear hn
            refine wants_plain rfl ?_
            exact grown_onet (.tmp 23) rfl B rb h23
          exact trivial
        intro W1 hkW1
        rintro _ rfl
        rintro _ rfl
        intro v17 h17
        rintro _ rfl
        intro v19 h19
        rintro _ rfl
        rintro _ rfl
        intro v22 h22
        intro v23 h23
        intro v24 h24
        refine fin_nil ?_
        simp only [Act.put, List.set_cons_zero, List.set_cons_succ, List.setIfInBounds_toArray]
        rw [unhide HBB, unhide HW0] at h19 h24
        have HH1 := hide h19
        have HH2 := hide h24
        have HKW := hide ((kp_drew w).trans hkW1)
        clear hkW1 h19 h24 h23 h17 h22
        go_wp2_with (at_builtin; refine wpList_accp (w := w) rfl (.tmp 19) (.tmp 24) rfl v19 v24 rfl rfl pa (unhide HH1) hpl rb (unhide HH2) (unhide HBb) (unhide HKW) ?_; intro ao5 m5 c5 w5 A5)
        go_ret
        exact ⟨ao5, m5, c5, rfl, by rw [unhide HE]; exact A5⟩
      · have hci : ¬ (i : Int) < (k : Int) := by omega
        obtain ⟨q, hq⟩ : ∃ q, q + k = i := ⟨i - k, by omega⟩
        obtain ⟨pa, hpa⟩ : ∃ p, p = incP (ls.drop k) q := ⟨_, rfl⟩
        obtain ⟨rb, hrb⟩ : ∃ r, r = trootP (ls.take k) := ⟨_, rfl⟩
        have HE : Hid (r = pa ++ [rb]) := hide (by rw [hr, incP_right (by omega) hkl hik, show i - k = q by omega, hpa, hrb])
        have hpl : pa.length ≤ 1000000 := by rw [hpa, incP_len (n - k) _ q (by simp; omega)]; have := cntP_le 17 (n - k) q (by omega); omega
        have HA := hide (fun v w hL => ih (n - k) (by omega) v (ls.drop k) q pa w hpa (by simp; omega) (by omega) (by omega) hL (fun x hx => hm x (List.mem_of_mem_drop hx)))
        have HB := hide (fun v w hL => rroot_row k v (ls.take k) rb w hrb (by simp; omega) (by omega) hL (fun x hx => hm x (List.mem_of_mem_take hx)))
        have HBb : Hid (Bs rb) := by rw [hrb]; exact trootP_bs _ (fun x hx => hbs x (List.mem_of_mem_take hx))
        have HRB := hide hrb
        obtain ⟨w0, hw0⟩ : ∃ w0, w0 = w := ⟨_, rfl⟩
        have HL0 : Hid (LcM ls (.slice ao n c) w0) := by rw [hw0]; exact hLw
        have HKw : Hid (∀ w', Kp [] w.drew w' → Kp [] w0 w') := fun w' k' => by rw [hw0]; exact (kp_drew w).trans k'
        rw [← hw0] at HBB
        have HW0 := hide hw0
        clear hw0
        clear hbs hm hL hLw ih h1 h3 hlen hr hpa hrb hk hkl h2n hik
        go_enter Tryz.func28, Tryz.ntmps28
        go_wp2_with fail
        refine (unhide HC).mono ?_
        rintro ee w2 ⟨rfl, hw⟩
        subst w2
        clear HC hsmi
        go_wp2_with fail
        refine region_grow_tail 12 Tryz.mixed [Is (.slice ao n c), Is (.int .i64 k), L0 w0 (ls.drop k), Is (.int .i64 i), Is (.int .i64 k), Is (.int .i64 q), ARt B pa, Is (.slice ao n c), Is (.int .i64 k), L0 w0 (ls.take k), RtT B rb, OneT B rb] [[(0, none)], [(5, none)], [(26, some 0), (27, some 1)], [(1, none)], [(5, none)], [(29, some 3), (30, some 4)], [(28, some 2), (31, some 5)], [(0, none)], [(5, none)], [(33, some 7), (34, some 8)], [(35, some 9)], [(36, some 10)]] (by kernel_rfl) ?_ ?_ ?_
        all_goals try simp only [List.take_succ_cons, List.take_zero, List.drop_succ_cons, List.drop_zero]
        · simp only [List.mem_cons, List.not_mem_nil, or_false]
          intro R hR
          rcases hR with rfl | rfl | rfl | rfl | rfl | rfl | rfl | rfl | rfl | rfl | rfl | rfl <;> first | exact stable_is _ | exact stable_l0 _ _ | exact stable_ar _ _ | exact stable_rt _ _ | exact stable_onet _ _
        · refine steps_cons (fun a w hk hn => ?_) ?_
          · have h0 : a.eval (.tmp 0) = .slice ao n c := hn.1
            clear hn
            refine wants_plain rfl ?_
            exact grown_move (.tmp 0) rfl h0
          refine steps_cons (fun a w hk hn => ?_) ?_
          · have h5 : a.eval (.tmp 5) = .int .i64 k := hn.1
            clear hn
            refine wants_plain rfl ?_
            exact grown_move (.tmp 5) rfl h5
          refine steps_cons (fun a w hk hn => ?_) ?_
          · have h26 : a.eval (.tmp 26) = .slice ao n c := hn.1
            have h27 : a.eval (.tmp 27) = .int .i64 k := hn.2.1
            clear hn
            refine wants_plain rfl ?_
            exact grown_lfrom0 (.tmp 26) (.tmp 27) ls k rfl (by rw [h26]; exact unhide HL0) h27 (unhide HKL)
          refine steps_cons (fun a w hk hn => ?_) ?_
          · have h1 : a.eval (.tmp 1) = .int .i64 i := hn.1
            clear hn
            refine wants_plain rfl ?_
            exact grown_move (.tmp 1) rfl h1
          refine steps_cons (fun a w hk hn => ?_) ?_
          · have h5 : a.eval (.tmp 5) = .int .i64 k := hn.1
            clear hn
            refine wants_plain rfl ?_
            exact grown_move (.tmp 5) rfl h5
          refine steps_cons (fun a w hk hn => ?_) ?_
          · have h29 : a.eval (.tmp 29) = .int .i64 i := hn.1
            have h30 : a.eval (.tmp 30) = .int .i64 k := hn.2.1
            clear hn
            refine wants_plain rfl ?_
            refine grown_run (v := .int .i64 q) ?_ (Kp.refl _ _) rfl
            obtain ⟨ρ, hρ, hc, hf, hg⟩ := eval_is a
            rw [hρ] at h29 h30 ⊢
            simp [go_sem, h29, h30]
            exact wrap_at (by omega) (by omega) (by omega)
          refine steps_cons (fun a w hk hn => ?_) ?_
          · have h28 : (L0 w0 (ls.drop k)) (a.eval (.tmp 28)) w := hn.1
            have h31 : a.eval (.tmp 31) = .int .i64 q := hn.2.1
            clear hn
            refine wants_plain rfl ?_
            refine grown_call (f := 28) rfl Tryz.func28 (by kernel_rfl) (by kernel_rfl) ?_
            simp only [List.map_toArray, List.map_cons, List.map_nil, h31]
            refine (unhide HA _ w (h28.kept (unhide HKw w hk))).mono ?_
            rintro e w' ⟨ao, m, c, rfl, A⟩
            exact ⟨_, rfl, A.kp, A.ar (unhide HBW w hk)⟩
          refine steps_cons (fun a w hk hn => ?_) ?_
          · have h0 : a.eval (.tmp 0) = .slice ao n c := hn.1
            clear hn
            refine wants_plain rfl ?_
            exact grown_move (.tmp 0) rfl h0
          refine steps_cons (fun a w hk hn => ?_) ?_
          · have h5 : a.eval (.tmp 5) = .int .i64 k := hn.1
            clear hn
            refine wants_plain rfl ?_
            exact grown_move (.tmp 5) rfl h5
          refine steps_cons (fun a w hk hn => ?_) ?_
          · have h33 : a.eval (.tmp 33) = .slice ao n c := hn.1
            have h34 : a.eval (.tmp 34) = .int .i64 k := hn.2.1
            clear hn
            refine wants_plain rfl ?_
            exact grown_lhead0 (.tmp 33) (.tmp 34) ls k rfl (by rw [h33]; exact unhide HL0) h34 (unhide HKL)
          refine steps_cons (fun a w hk hn => ?_) ?_
          · have h35 : (L0 w0 (ls.take k)) (a.eval (.tmp 35)) w := hn.1
            clear hn
            refine wants_plain rfl ?_
            refine grown_call (f := 24) rfl Tryz.func24 (by kernel_rfl) (by kernel_rfl) ?_
            simp only [List.map_toArray, List.map_cons, List.map_nil]
            refine (unhide HB _ w (h35.kept (unhide HKw w hk))).mono ?_
            rintro e w' ⟨ao, m, c, rfl, hor, S, K⟩
            exact ⟨_, rfl, K, ⟨ao, m, c, rfl, S, by rw [unhide HBB]; exact ap_root (unhide HRB) h35 (unhide HKw w hk) hor⟩⟩
          refine steps_cons (fun a w hk hn => ?_) ?_
          · have h36 : (RtT B rb) (a.eval (.tmp 36)) w := hn.1
            clear hn
            refine wants_plain rfl ?_
            exact grown_onet (.tmp 36) rfl B rb h36
          exact trivial
        intro W1 hkW1
        rintro _ rfl
        rintro _ rfl
        intro v28 h28
        rintro _ rfl
        rintro _ rfl
        rintro _ rfl
        intro v32 h32
        rintro _ rfl
        rintro _ rfl
        intro v35 h35
        intro v36 h36
        intro v37 h37
        refine fin_nil ?_
        simp only [Act.put, List.set_cons_zero, List.set_cons_succ, List.setIfInBounds_toArray]
        rw [unhide HBB, unhide HW0] at h32 h37
        have HH1 := hide h32
        have HH2 := hide h37
        have HKW := hide ((kp_drew w).trans hkW1)
        clear hkW1 h32 h37 h36 h28 h35
        go_wp2_with (at_builtin; refine wpList_accp (w := w) rfl (.tmp 32) (.tmp 37) rfl v32 v37 rfl rfl pa (unhide HH1) hpl rb (unhide HH2) (unhide HBb) (unhide HKW) ?_; intro ao5 m5 c5 w5 A5)
        go_ret
        exact ⟨ao5, m5, c5, rfl, by rw [unhide HE]; exact A5⟩
    · obtain rfl : n = 1 := by omega
      obtain rfl : r = [] := by rw [hr, incP_small (by omega)]
      clear hbs hm hL hLw ih h1 h3 hlen hr
      go_enter Tryz.func28, Tryz.ntmps28
      go_wp2_with fail
      go_ret
      exact ⟨none, 0, 0, rfl, AccR.nil w⟩
set_option maxRecDepth 100000 in
set_option maxHeartbeats 2000000 in
theorem rsub_any (n : Nat) : ∀ (v : Value) (ls : List (List Int)) (m : Nat) (b : Bool) (r : List (List Int)) (w : World), r = subP m ls b → ls.length = n → 1 ≤ m → m ≤ n → n ≤ 100000 → LcM ls v w → (∀ x ∈ ls, x.length ≤ 1000) →
    Calls Tryz.prog 76 #[.int .i64 m, v, .bool b] w fun e w' => ∃ ao m c, e = .returned (.slice ao m c) ∧ AccR w r (.slice ao m c) w' := by
  induction n using Nat.strongRecOn with
  | ind n ih =>
    intro v ls m b r w hr hlen h1m hin hn hL hm
    have hbs := hL.bs
    have hLw := hL
    obtain ⟨ao, c, e, h1, h2, h3⟩ := hL.shape
    rw [hlen] at e h1
    subst e
    by_cases hsm : m = n
    · subst hsm
      rw [subP_same hlen.symm] at hr
      cases b with
      | true =>
        obtain rfl : r = [] := hr
        clear hbs hm hL hLw ih h1 h3 hlen
        go_enter Tryz.func76, Tryz.ntmps76
        go_wp2_with fail
        go_ret
        exact ⟨none, 0, 0, rfl, AccR.nil w⟩
      | false =>
        obtain ⟨ra, hra⟩ : ∃ r, r = trootP ls := ⟨_, rfl⟩
        have HRE : Hid (r = [ra]) := by rw [hra]; exact hr
        have HRB : Hid (Bs ra) := by rw [hra]; exact trootP_bs _ hbs
        have HC := hide (rroot_any m _ ls ra w hra hlen hn hL hm)
        clear hbs hm hL hLw ih h1 h3 hlen hra hr
        go_enter Tryz.func76, Tryz.ntmps76
        go_wp2_with fail
        refine (unhide HC).mono ?_
        rintro ee w2 ⟨a2, m2, c2, rfl, R2, K2⟩
        have HA := hide (accr_one K2 R2 (unhide HRB))
        clear R2 K2 HC
        go_wp2_with fail
        go_ret
        exact ⟨_, _, _, rfl, by rw [unhide HRE]; exact unhide HA⟩
    · have hsmi : ¬ (m : Int) = (n : Int) := by omega
      have h2n : 2 ≤ n := by omega
      obtain ⟨k, hk⟩ : ∃ k, k = tsplP n := ⟨_, rfl⟩
      have hk1 : 1 ≤ k := by rw [hk]; exact tsplP_pos h2n
      have hk2 : k < n := by rw [hk]; exact tsplP_lt h2n
      have hkl : k = tsplP ls.length := by rw [hlen]; exact hk
      have HC := hide (rsplit_any n k w (by rw [Int.toNat_natCast]; exact hk) (by omega))
      have HKL : Hid (k ≤ ls.length) := hide (by omega)
      have HLL : Hid (∀ w', Kp [] w.drew w' → LcM ls (.slice ao n c) w') := fun w' k' => hL.kept ((kp_drew w).trans k')
      obtain ⟨B, hB⟩ : ∃ B, B = w.heap.size := ⟨_, rfl⟩
      have HBW : Hid (∀ w', Kp [] w.drew w' → B ≤ w'.heap.size) := fun w' k' => by rw [hB]; exact k'.size
      have HBB := hide hB
      clear hB
      by_cases hik : m ≤ k
      · have hci : (m : Int) ≤ (k : Int) := by omega
        obtain ⟨pa, hpa⟩ : ∃ p, p = subP m (ls.take k) b := ⟨_, rfl⟩
        obtain ⟨rb, hrb⟩ : ∃ r, r = trootP (ls.drop k) := ⟨_, rfl⟩
        have HE : Hid (r = pa ++ [rb]) := hide (by rw [hr, subP_left h1m (by omega) hkl hik, hpa, hrb])
        have hpl : pa.length ≤ 1000000 := by rw [hpa, subP_len k m _ b (by simp; omega) (by omega) (by omega)]; have := lenP_le 17 m k b (by omega) (by omega) (by omega); omega
        have HA := hide (fun v w hL => ih k (by omega) v (ls.take k) m b pa w hpa (by simp; omega) (by omega) (by omega) (by omega) hL (fun x hx => hm x (List.mem_of_mem_take hx)))
        have HB := hide (fun v w hL => rroot_row (n - k) v (ls.drop k) rb w hrb (by simp; omega) (by omega) hL (fun x hx => hm x (List.mem_of_mem_drop hx)))
        have HBb : Hid (Bs rb) := by rw [hrb]; exact trootP_bs _ (fun x hx => hbs x (List.mem_of_mem_drop hx))
        have HRB := hide hrb
        obtain ⟨w0, hw0⟩ : ∃ w0, w0 = w := ⟨_, rfl⟩
        have HL0 : Hid (LcM ls (.slice ao n c) w0) := by rw [hw0]; exact hLw
        have HKw : Hid (∀ w', Kp [] w.drew w' → Kp [] w0 w') := fun w' k' => by rw [hw0]; exact (kp_drew w).trans k'
        rw [← hw0] at HBB
        have HW0 := hide hw0
        clear hw0
        clear hbs hm hL hLw ih h1 h3 hlen hr hpa hrb hk hkl h2n hik h1m hsm
        go_enter Tryz.func76, Tryz.ntmps76
        go_wp2_with fail
        refine (unhide HC).mono ?_
        rintro ee w2 ⟨rfl, hw⟩
        subst w2
        clear HC hsmi
        go_wp2_with fail
        refine region_grow_tail 11 Tryz.mixed [Is (.int .i64 m), Is (.slice ao n c), Is (.int .i64 k), L0 w0 (ls.take k), Is (.bool b), ARt B pa, Is (.slice ao n c), Is (.int .i64 k), L0 w0 (ls.drop k), RtT B rb, OneT B rb] [[(0, none)], [(1, none)], [(7, none)], [(23, some 1), (24, some 2)], [(2, none)], [(22, some 0), (25, some 3), (26, some 4)], [(1, none)], [(7, none)], [(28, some 6), (29, some 7)], [(30, some 8)], [(31, some 9)]] (by kernel_rfl) ?_ ?_ ?_
        all_goals try simp only [List.take_succ_cons, List.take_zero, List.drop_succ_cons, List.drop_zero]
        · simp only [List.mem_cons, List.not_mem_nil, or_false]
          intro R hR
          rcases hR with rfl | rfl | rfl | rfl | rfl | rfl | rfl | rfl | rfl | rfl | rfl <;> first | exact stable_is _ | exact stable_l0 _ _ | exact stable_ar _ _ | exact stable_rt _ _ | exact stable_onet _ _
        · refine steps_cons (fun a w hk hn => ?_) ?_
          · have h0 : a.eval (.tmp 0) = .int .i64 m := hn.1
            clear hn
            refine wants_plain rfl ?_
            exact grown_move (.tmp 0) rfl h0
          refine steps_cons (fun a w hk hn => ?_) ?_
          · have h1 : a.eval (.tmp 1) = .slice ao n c := hn.1
            clear hn
            refine wants_plain rfl ?_
            exact grown_move (.tmp 1) rfl h1
          refine steps_cons (fun a w hk hn => ?_) ?_
          · have h7 : a.eval (.tmp 7) = .int .i64 k := hn.1
            clear hn
            refine wants_plain rfl ?_
            exact grown_move (.tmp 7) rfl h7
          refine steps_cons (fun a w hk hn => ?_) ?_
          · have h23 : a.eval (.tmp 23) = .slice ao n c := hn.1
            have h24 : a.eval (.tmp 24) = .int .i64 k := hn.2.1
            clear hn
            refine wants_plain rfl ?_
            exact grown_lhead0 (.tmp 23) (.tmp 24) ls k rfl (by rw [h23]; exact unhide HL0) h24 (unhide HKL)
          refine steps_cons (fun a w hk hn => ?_) ?_
          · have h2 : a.eval (.tmp 2) = .bool b := hn.1
            clear hn
            refine wants_plain rfl ?_
            exact grown_move (.tmp 2) rfl h2
          refine steps_cons (fun a w hk hn => ?_) ?_
          · have h22 : a.eval (.tmp 22) = .int .i64 m := hn.1
            have h25 : (L0 w0 (ls.take k)) (a.eval (.tmp 25)) w := hn.2.1
            have h26 : a.eval (.tmp 26) = .bool b := hn.2.2.1
            clear hn
            refine wants_plain rfl ?_
            refine grown_call (f := 76) rfl Tryz.func76 (by kernel_rfl) (by kernel_rfl) ?_
            simp only [List.map_toArray, List.map_cons, List.map_nil, h22, h26]
            refine (unhide HA _ w (h25.kept (unhide HKw w hk))).mono ?_
            rintro e w' ⟨ao, m, c, rfl, A⟩
            exact ⟨_, rfl, A.kp, A.ar (unhide HBW w hk)⟩
          refine steps_cons (fun a w hk hn => ?_) ?_
          · have h1 : a.eval (.tmp 1) = .slice ao n c := hn.1
            clear hn
            refine wants_plain rfl ?_
            exact grown_move (.tmp 1) rfl h1
          refine steps_cons (fun a w hk hn => ?_) ?_
          · have h7 : a.eval (.tmp 7) = .int .i64 k := hn.1
            clear hn
            refine wants_plain rfl ?_
            exact grown_move (.tmp 7) rfl h7
          refine steps_cons (fun a w hk hn => ?_) ?_
          · have h28 : a.eval (.tmp 28) = .slice ao n c := hn.1
            have h29 : a.eval (.tmp 29) = .int .i64 k := hn.2.1
            clear hn
            refine wants_plain rfl ?_
            exact grown_lfrom0 (.tmp 28) (.tmp 29) ls k rfl (by rw [h28]; exact unhide HL0) h29 (unhide HKL)
          refine steps_cons (fun a w hk hn => ?_) ?_
          · have h30 : (L0 w0 (ls.drop k)) (a.eval (.tmp 30)) w := hn.1
            clear hn
            refine wants_plain rfl ?_
            refine grown_call (f := 24) rfl Tryz.func24 (by kernel_rfl) (by kernel_rfl) ?_
            simp only [List.map_toArray, List.map_cons, List.map_nil]
            refine (unhide HB _ w (h30.kept (unhide HKw w hk))).mono ?_
            rintro e w' ⟨ao, m, c, rfl, hor, S, K⟩
            exact ⟨_, rfl, K, ⟨ao, m, c, rfl, S, by rw [unhide HBB]; exact ap_root (unhide HRB) h30 (unhide HKw w hk) hor⟩⟩
          refine steps_cons (fun a w hk hn => ?_) ?_
          · have h31 : (RtT B rb) (a.eval (.tmp 31)) w := hn.1
            clear hn
            refine wants_plain rfl ?_
            exact grown_onet (.tmp 31) rfl B rb h31
          exact trivial
        intro W1 hkW1
        rintro _ rfl
        rintro _ rfl
        rintro _ rfl
        intro v25 h25
        rintro _ rfl
        intro v27 h27
        rintro _ rfl
        rintro _ rfl
        intro v30 h30
        intro v31 h31
        intro v32 h32
        refine fin_nil ?_
        simp only [Act.put, List.set_cons_zero, List.set_cons_succ, List.setIfInBounds_toArray]
        rw [unhide HBB, unhide HW0] at h27 h32
        have HH1 := hide h27
        have HH2 := hide h32
        have HKW := hide ((kp_drew w).trans hkW1)
        clear hkW1 h27 h32 h31 h25 h30
        go_wp2_with (at_builtin; refine wpList_accp (w := w) rfl (.tmp 27) (.tmp 32) rfl v27 v32 rfl rfl pa (unhide HH1) hpl rb (unhide HH2) (unhide HBb) (unhide HKW) ?_; intro ao5 m5 c5 w5 A5)
        go_ret
        exact ⟨ao5, m5, c5, rfl, by rw [unhide HE]; exact A5⟩
      · have hci : ¬ (m : Int) ≤ (k : Int) := by omega
        obtain ⟨q, hq⟩ : ∃ q, q + k = m := ⟨m - k, by omega⟩
        obtain ⟨pa, hpa⟩ : ∃ p, p = subP q (ls.drop k) false := ⟨_, rfl⟩
        obtain ⟨rb, hrb⟩ : ∃ r, r = trootP (ls.take k) := ⟨_, rfl⟩
        have HE : Hid (r = pa ++ [rb]) := hide (by rw [hr, subP_right h1m (by omega) hkl hik, show m - k = q by omega, hpa, hrb])
        have hpl : pa.length ≤ 1000000 := by rw [hpa, subP_len (n - k) q _ false (by simp; omega) (by omega) (by omega)]; have := lenP_le 17 q (n - k) false (by omega) (by omega) (by omega); omega
        have HA := hide (fun v w hL => ih (n - k) (by omega) v (ls.drop k) q false pa w hpa (by simp; omega) (by omega) (by omega) (by omega) hL (fun x hx => hm x (List.mem_of_mem_drop hx)))
        have HB := hide (fun v w hL => rroot_row k v (ls.take k) rb w hrb (by simp; omega) (by omega) hL (fun x hx => hm x (List.mem_of_mem_take hx)))
        have HBb : Hid (Bs rb) := by rw [hrb]; exact trootP_bs _ (fun x hx => hbs x (List.mem_of_mem_take hx))
        have HRB := hide hrb
        obtain ⟨w0, hw0⟩ : ∃ w0, w0 = w := ⟨_, rfl⟩
        have HL0 : Hid (LcM ls (.slice ao n c) w0) := by rw [hw0]; exact hLw
        have HKw : Hid (∀ w', Kp [] w.drew w' → Kp [] w0 w') := fun w' k' => by rw [hw0]; exact (kp_drew w).trans k'
        rw [← hw0] at HBB
        have HW0 := hide hw0
        clear hw0
        clear hbs hm hL hLw ih h1 h3 hlen hr hpa hrb hk hkl h2n hik h1m hsm
        go_enter Tryz.func76, Tryz.ntmps76
        go_wp2_with fail
        refine (unhide HC).mono ?_
        rintro ee w2 ⟨rfl, hw⟩
        subst w2
        clear HC hsmi
        go_wp2_with fail
        refine region_grow_tail 12 Tryz.mixed [Is (.int .i64 m), Is (.int .i64 k), Is (.int .i64 q), Is (.slice ao n c), Is (.int .i64 k), L0 w0 (ls.drop k), ARt B pa, Is (.slice ao n c), Is (.int .i64 k), L0 w0 (ls.take k), RtT B rb, OneT B rb] [[(0, none)], [(7, none)], [(34, some 0), (35, some 1)], [(1, none)], [(7, none)], [(37, some 3), (38, some 4)], [(36, some 2), (39, some 5)], [(1, none)], [(7, none)], [(41, some 7), (42, some 8)], [(43, some 9)], [(44, some 10)]] (by kernel_rfl) ?_ ?_ ?_
        all_goals try simp only [List.take_succ_cons, List.take_zero, List.drop_succ_cons, List.drop_zero]
        · simp only [List.mem_cons, List.not_mem_nil, or_false]
          intro R hR
          rcases hR with rfl | rfl | rfl | rfl | rfl | rfl | rfl | rfl | rfl | rfl | rfl | rfl <;> first | exact stable_is _ | exact stable_l0 _ _ | exact stable_ar _ _ | exact stable_rt _ _ | exact stable_onet _ _
        · refine steps_cons (fun a w hk hn => ?_) ?_
          · have h0 : a.eval (.tmp 0) = .int .i64 m := hn.1
            clear hn
            refine wants_plain rfl ?_
            exact grown_move (.tmp 0) rfl h0
          refine steps_cons (fun a w hk hn => ?_) ?_
          · have h7 : a.eval (.tmp 7) = .int .i64 k := hn.1
            clear hn
            refine wants_plain rfl ?_
            exact grown_move (.tmp 7) rfl h7
          refine steps_cons (fun a w hk hn => ?_) ?_
          · have h34 : a.eval (.tmp 34) = .int .i64 m := hn.1
            have h35 : a.eval (.tmp 35) = .int .i64 k := hn.2.1
            clear hn
            refine wants_plain rfl ?_
            refine grown_run (v := .int .i64 q) ?_ (Kp.refl _ _) rfl
            obtain ⟨ρ, hρ, hc, hf, hg⟩ := eval_is a
            rw [hρ] at h34 h35 ⊢
            simp [go_sem, h34, h35]
            exact wrap_at (by omega) (by omega) (by omega)
          refine steps_cons (fun a w hk hn => ?_) ?_
          · have h1 : a.eval (.tmp 1) = .slice ao n c := hn.1
            clear hn
            refine wants_plain rfl ?_
            exact grown_move (.tmp 1) rfl h1
          refine steps_cons (fun a w hk hn => ?_) ?_
          · have h7 : a.eval (.tmp 7) = .int .i64 k := hn.1
            clear hn
            refine wants_plain rfl ?_
            exact grown_move (.tmp 7) rfl h7
          refine steps_cons (fun a w hk hn => ?_) ?_
          · have h37 : a.eval (.tmp 37) = .slice ao n c := hn.1
            have h38 : a.eval (.tmp 38) = .int .i64 k := hn.2.1
            clear hn
            refine wants_plain rfl ?_
            exact grown_lfrom0 (.tmp 37) (.tmp 38) ls k rfl (by rw [h37]; exact unhide HL0) h38 (unhide HKL)
          refine steps_cons (fun a w hk hn => ?_) ?_
          · have h36 : a.eval (.tmp 36) = .int .i64 q := hn.1
            have h39 : (L0 w0 (ls.drop k)) (a.eval (.tmp 39)) w := hn.2.1
            clear hn
            refine wants_plain rfl ?_
            refine grown_call (f := 76) rfl Tryz.func76 (by kernel_rfl) (by kernel_rfl) ?_
            simp only [List.map_toArray, List.map_cons, List.map_nil, h36]
            refine (unhide HA _ w (h39.kept (unhide HKw w hk))).mono ?_
            rintro e w' ⟨ao, m, c, rfl, A⟩
            exact ⟨_, rfl, A.kp, A.ar (unhide HBW w hk)⟩
          refine steps_cons (fun a w hk hn => ?_) ?_
          · have h1 : a.eval (.tmp 1) = .slice ao n c := hn.1
            clear hn
            refine wants_plain rfl ?_
            exact grown_move (.tmp 1) rfl h1
          refine steps_cons (fun a w hk hn => ?_) ?_
          · have h7 : a.eval (.tmp 7) = .int .i64 k := hn.1
            clear hn
            refine wants_plain rfl ?_
            exact grown_move (.tmp 7) rfl h7
          refine steps_cons (fun a w hk hn => ?_) ?_
          · have h41 : a.eval (.tmp 41) = .slice ao n c := hn.1
            have h42 : a.eval (.tmp 42) = .int .i64 k := hn.2.1
            clear hn
            refine wants_plain rfl ?_
            exact grown_lhead0 (.tmp 41) (.tmp 42) ls k rfl (by rw [h41]; exact unhide HL0) h42 (unhide HKL)
          refine steps_cons (fun a w hk hn => ?_) ?_
          · have h43 : (L0 w0 (ls.take k)) (a.eval (.tmp 43)) w := hn.1
            clear hn
            refine wants_plain rfl ?_
            refine grown_call (f := 24) rfl Tryz.func24 (by kernel_rfl) (by kernel_rfl) ?_
            simp only [List.map_toArray, List.map_cons, List.map_nil]
            refine (unhide HB _ w (h43.kept (unhide HKw w hk))).mono ?_
            rintro e w' ⟨ao, m, c, rfl, hor, S, K⟩
            exact ⟨_, rfl, K, ⟨ao, m, c, rfl, S, by rw [unhide HBB]; exact ap_root (unhide HRB) h43 (unhide HKw w hk) hor⟩⟩
          refine steps_cons (fun a w hk hn => ?_) ?_
          · have h44 : (RtT B rb) (a.eval (.tmp 44)) w := hn.1
            clear hn
            refine wants_plain rfl ?_
            exact grown_onet (.tmp 44) rfl B rb h44
          exact trivial
        intro W1 hkW1
        rintro _ rfl
        rintro _ rfl
        rintro _ rfl
        rintro _ rfl
        rintro _ rfl
        intro v39 h39
        intro v40 h40
        rintro _ rfl
        rintro _ rfl
        intro v43 h43
        intro v44 h44
        intro v45 h45
        refine fin_nil ?_
        simp only [Act.put, List.set_cons_zero, List.set_cons_succ, List.setIfInBounds_toArray]
        rw [unhide HBB, unhide HW0] at h40 h45
        have HH1 := hide h40
        have HH2 := hide h45
        have HKW := hide ((kp_drew w).trans hkW1)
        clear hkW1 h40 h45 h44 h39 h43
        go_wp2_with (at_builtin; refine wpList_accp (w := w) rfl (.tmp 40) (.tmp 45) rfl v40 v45 rfl rfl pa (unhide HH1) hpl rb (unhide HH2) (unhide HBb) (unhide HKW) ?_; intro ao5 m5 c5 w5 A5)
        go_ret
        exact ⟨ao5, m5, c5, rfl, by rw [unhide HE]; exact A5⟩
end Go.Proofs.YtillhpgdlmeajaaGreatDoor

/-
  The contract of the reference's Grow.
-/
namespace Go.Proofs.YtillhpgdlmeajaaGreatDoor
open Go.RowKit
open Go.Proofs
set_option maxRecDepth 100000 in
set_option maxHeartbeats 1000000 in
theorem rgrow_any (v : Value) (ls : List (List Int)) (m : Nat) (r : List (List Int)) (w : World) (hr : r = growP m ls) (hm : m ≤ ls.length) (hn : ls.length ≤ 1000) (hL : LcM ls v w) (hl : ∀ x ∈ ls, x.length ≤ 1000) :
    Calls Tryz.prog 30 #[v, .int .i64 m] w fun e w' => ∃ ao m c, e = .returned (.slice ao m c) ∧ AccR w r (.slice ao m c) w' := by
  have HL := hide hL
  obtain ⟨ao, c, e, -⟩ := hL.shape
  obtain ⟨N, hN⟩ : ∃ N, N = ls.length := ⟨_, rfl⟩
  rw [← hN] at e hm hn
  subst e
  by_cases h0 : m = 0
  · subst h0
    rw [growP_zero] at hr
    subst hr
    clear hL hl hN
    go_enter Tryz.func30, Tryz.ntmps30
    go_wp2_with fail
    go_ret
    exact ⟨none, 0, 0, rfl, AccR.nil w⟩
  · have h0i : ¬ (m : Int) = 0 := by omega
    by_cases h1 : m = N
    · subst h1
      rw [hN, growP_all] at hr
      subst hr
      clear hL hl hN
      go_enter Tryz.func30, Tryz.ntmps30
      go_wp2_with fail
      go_ret
      exact ⟨none, 0, 0, rfl, AccR.nil w⟩
    · have h1i : ¬ (m : Int) = (N : Int) := by omega
      have b0 : ((m : Int) == 0) = false := beq_eq_false_iff_ne.2 h0i
      have b1 : ((m : Int) == (N : Int)) = false := beq_eq_false_iff_ne.2 h1i
      have HC := hide (rsub_any N (.slice ao N c) ls m true r w (by rw [hr, growP_pos (by omega)]) hN.symm (by omega) hm (by omega) hL hl)
      clear hL hl hN hr
      go_enter Tryz.func30, Tryz.ntmps30
      go_wp2_with fail
      refine (unhide HC).mono ?_
      rintro ee w2 ⟨a2, m2, c2, rfl, A2⟩
      have HA := hide A2
      clear A2 HC
      go_wp2_with fail
      go_ret
      exact ⟨a2, m2, c2, rfl, unhide HA⟩
end Go.Proofs.YtillhpgdlmeajaaGreatDoor

/-
  What an operation yields that is looked for only where a test is true.
-/
namespace Go.Proofs.YtillhpgdlmeajaaGreatDoor
open Go.RowKit
theorem wants_none {P : Program} {ops : Array Oper} {o : Oper} {a : Act} {w : World} {R : Tell} {g : Nat} {b : Bool} {d : Tmp} (hg : o.guard = some (g, b)) (hd : (ops[g]?).bind (·.dst) = some d) (he : a.eval (.tmp d) = undef) (h : R undef w) : wants P ops o a w R := by
  have h2 : yielded ops a.tmps g = none := by
    unfold yielded
    rw [hd]
    simp only [Option.bind_some]
    have h1 : a.tmps[d]?.getD undef = undef := by simpa [Act.eval] using he
    cases hx : a.tmps[d]? with
    | none => rfl
    | some x =>
      rw [hx, Option.getD_some] at h1
      subst h1
      rfl
  unfold wants
  rw [if_neg (by simp [Region.wanted, hg, h2])]
  exact h
end Go.Proofs.YtillhpgdlmeajaaGreatDoor
