/-
  The contracts of the program's auditPath and growthPath.
-/
import Derived.Test.YtillhpgdlmeajaaGreatDoorKLOnes
import Derived.Test.YtillhpgdlmeajaaGreatDoorKPSpecs
import Derived.Test.YtillhpgdlmeajaaGreatDoorKTRoot
namespace Go.Proofs.YtillhpgdlmeajaaGreatDoor
open Go.RowKit
open Go.Proofs

set_option maxRecDepth 100000 in
set_option maxHeartbeats 2000000 in
theorem apath_any (n : Nat) : ∀ (v : Value) (ls : List (List Int)) (i : Nat) (r : List (List Int)) (w : World), r = incP ls i → ls.length = n → i < n → n ≤ 100000 → LcM ls v w → (∀ x ∈ ls, x.length ≤ 1000) → Gl w →
    Calls Tryz.prog 113 #[v, .int .i64 i] w fun e w' => ∃ ao m c, e = .returned (.slice ao m c) ∧ AccR w r (.slice ao m c) w' := by
  induction n using Nat.strongRecOn with
  | ind n ih =>
    intro v ls i r w hr hlen hin hn hL hm hG
    have hbs := hL.bs
    have hLw := hL
    obtain ⟨ao, c, e, h1, h2, h3⟩ := hL.shape
    rw [hlen] at e h1
    subst e
    by_cases h2n : 2 ≤ n
    · have hsmi : ¬ (n : Int) = 1 := by omega
      obtain ⟨k, hk⟩ : ∃ k, k = tsplP n := ⟨_, rfl⟩
      have hk1 : 1 ≤ k := by rw [hk]; exact tsplP_pos h2n
      have hk2 : k < n := by rw [hk]; exact tsplP_lt h2n
      have hkl : k = tsplP ls.length := by rw [hlen]; exact hk
      have HC := hide (tsplit_any n k w (by rw [Int.toNat_natCast]; exact hk) (by omega))
      have HKL : Hid (k ≤ ls.length) := hide (by omega)
      have HLL : Hid (∀ w', Kp [] w.drew w' → LcM ls (.slice ao n c) w') := fun w' k' => hL.kept ((kp_drew w).trans k')
      have HGL : Hid (∀ w', Kp [] w.drew w' → Gl w') := fun w' k' => hG.kept ((kp_drew w).trans k') (by simp)
      obtain ⟨B, hB⟩ : ∃ B, B = w.heap.size := ⟨_, rfl⟩
      have HBW : Hid (∀ w', Kp [] w.drew w' → B ≤ w'.heap.size) := fun w' k' => by rw [hB]; exact k'.size
      have HBB := hide hB
      clear hB
      by_cases hik : i < k
      · have hci : (i : Int) < (k : Int) := by omega
        obtain ⟨pa, hpa⟩ : ∃ p, p = incP (ls.take k) i := ⟨_, rfl⟩
        obtain ⟨rb, hrb⟩ : ∃ r, r = trootP (ls.drop k) := ⟨_, rfl⟩
        have HE : Hid (r = pa ++ [rb]) := hide (by rw [hr, incP_left (by omega) hkl hik, hpa, hrb])
        have hpl : pa.length ≤ 1000000 := by rw [hpa, incP_len k _ i (by simp; omega)]; have := cntP_le 17 k i (by omega); omega
        have HA := hide (fun v w hL hG => ih k (by omega) v (ls.take k) i pa w hpa (by simp; omega) (by omega) (by omega) hL (fun x hx => hm x (List.mem_of_mem_take hx)) hG)
        have HB := hide (fun v w hL hG => troot_any (n - k) v (ls.drop k) rb w hrb (by simp; omega) (by omega) hL (fun x hx => hm x (List.mem_of_mem_drop hx)) hG)
        have HBb : Hid (Bs rb) := by rw [hrb]; exact trootP_bs _ (fun x hx => hbs x (List.mem_of_mem_drop hx))
        clear hbs hm hG hL hLw ih h1 h3 hlen hr hpa hrb hk hkl h2n hik
        go_enter Tryz.func113, Tryz.ntmps113
        go_wp2_with fail
        refine (unhide HC).mono ?_
        rintro ee w2 ⟨rfl, hw⟩
        subst w2
        clear HC hsmi
        go_wp2_with fail
        refine region_grow_tail 10 Tryz.mixed [Is (.slice ao n c), Is (.int .i64 k), LcM ((ls).take k), Is (.int .i64 i), ARt B pa, Is (.slice ao n c), Is (.int .i64 k), LcM ((ls).drop k), RtT B rb, OneT B rb] [[(0, none)], [(5, none)], [(15, some 0), (16, some 1)], [(1, none)], [(17, some 2), (18, some 3)], [(0, none)], [(5, none)], [(20, some 5), (21, some 6)], [(22, some 7)], [(23, some 8)]] (by kernel_rfl) ?_ ?_ ?_
        all_goals try simp only [List.take_succ_cons, List.take_zero, List.drop_succ_cons, List.drop_zero]
        · simp only [List.mem_cons, List.not_mem_nil, or_false]
          intro R hR
          rcases hR with rfl | rfl | rfl | rfl | rfl | rfl | rfl | rfl | rfl | rfl <;> first | exact stable_is _ | exact stable_lcm _ | exact stable_ar _ _ | exact stable_rt _ _ | exact stable_onet _ _
        · refine steps_cons (fun a w hk hn => ?_) ?_
          · have h0 : a.eval (.tmp 0) = .slice ao n c := hn.1
            clear hn
            refine wants_plain rfl ?_
            exact grown_move (.tmp 0) rfl h0
          refine steps_cons (fun a w hk hn => ?_) ?_
          · have h5 : a.eval (.tmp 5) = .int .i64 k := hn.1
            clear hn
            refine wants_plain rfl ?_
            exact grown_move (.tmp 5) rfl h5
          refine steps_cons (fun a w hk hn => ?_) ?_
          · have h15 : a.eval (.tmp 15) = .slice ao n c := hn.1
            have h16 : a.eval (.tmp 16) = .int .i64 k := hn.2.1
            clear hn
            refine wants_plain rfl ?_
            exact grown_lhead (.tmp 15) (.tmp 16) (ls) k rfl (by rw [h15]; exact unhide HLL w hk) h16 (unhide HKL)
          refine steps_cons (fun a w hk hn => ?_) ?_
          · have h1 : a.eval (.tmp 1) = .int .i64 i := hn.1
            clear hn
            refine wants_plain rfl ?_
            exact grown_move (.tmp 1) rfl h1
          refine steps_cons (fun a w hk hn => ?_) ?_
          · have h17 : (LcM ((ls).take k)) (a.eval (.tmp 17)) w := hn.1
            have h18 : a.eval (.tmp 18) = .int .i64 i := hn.2.1
            clear hn
            refine wants_plain rfl ?_
            refine grown_call (f := 113) rfl Tryz.func113 (by kernel_rfl) (by kernel_rfl) ?_
            simp only [List.map_toArray, List.map_cons, List.map_nil, h18]
            refine (unhide HA _ w h17 (unhide HGL w hk)).mono ?_
            rintro e w' ⟨ao, m, c, rfl, A⟩
            exact ⟨_, rfl, A.kp, A.ar (unhide HBW w hk)⟩
          refine steps_cons (fun a w hk hn => ?_) ?_
          · have h0 : a.eval (.tmp 0) = .slice ao n c := hn.1
            clear hn
            refine wants_plain rfl ?_
            exact grown_move (.tmp 0) rfl h0
          refine steps_cons (fun a w hk hn => ?_) ?_
          · have h5 : a.eval (.tmp 5) = .int .i64 k := hn.1
            clear hn
            refine wants_plain rfl ?_
            exact grown_move (.tmp 5) rfl h5
          refine steps_cons (fun a w hk hn => ?_) ?_
          · have h20 : a.eval (.tmp 20) = .slice ao n c := hn.1
            have h21 : a.eval (.tmp 21) = .int .i64 k := hn.2.1
            clear hn
            refine wants_plain rfl ?_
            exact grown_lfrom (.tmp 20) (.tmp 21) (ls) k rfl (by rw [h20]; exact unhide HLL w hk) h21 (unhide HKL)
          refine steps_cons (fun a w hk hn => ?_) ?_
          · have h22 : (LcM ((ls).drop k)) (a.eval (.tmp 22)) w := hn.1
            clear hn
            refine wants_plain rfl ?_
            refine grown_call (f := 67) rfl Tryz.func67 (by kernel_rfl) (by kernel_rfl) ?_
            simp only [List.map_toArray, List.map_cons, List.map_nil]
            refine (unhide HB _ w h22 (unhide HGL w hk)).mono ?_
            rintro e w' ⟨ao, m, c, rfl, R, K⟩
            exact ⟨_, rfl, K, ⟨ao, m, c, rfl, R.sl, ap_row R⟩⟩
          refine steps_cons (fun a w hk hn => ?_) ?_
          · have h23 : (RtT B rb) (a.eval (.tmp 23)) w := hn.1
            clear hn
            refine wants_plain rfl ?_
            exact grown_onet (.tmp 23) rfl B rb h23
          exact trivial
        intro W1 hkW1
        rintro _ rfl
        rintro _ rfl
        intro v17 h17
        rintro _ rfl
        intro v19 h19
        rintro _ rfl
        rintro _ rfl
        intro v22 h22
        intro v23 h23
        intro v24 h24
        refine fin_nil ?_
        simp only [Act.put, List.set_cons_zero, List.set_cons_succ, List.setIfInBounds_toArray]
        rw [unhide HBB] at h19 h24
        have HH1 := hide h19
        have HH2 := hide h24
        have HKW := hide ((kp_drew w).trans hkW1)
        clear hkW1 h19 h24 h23 h17 h22
        go_wp2_with (at_builtin; refine wpList_accp (w := w) rfl (.tmp 19) (.tmp 24) rfl v19 v24 rfl rfl pa (unhide HH1) hpl rb (unhide HH2) (unhide HBb) (unhide HKW) ?_; intro ao5 m5 c5 w5 A5)
        go_ret
        exact ⟨ao5, m5, c5, rfl, by rw [unhide HE]; exact A5⟩
      · have hci : ¬ (i : Int) < (k : Int) := by omega
        obtain ⟨q, hq⟩ : ∃ q, q + k = i := ⟨i - k, by omega⟩
        obtain ⟨pa, hpa⟩ : ∃ p, p = incP (ls.drop k) q := ⟨_, rfl⟩
        obtain ⟨rb, hrb⟩ : ∃ r, r = trootP (ls.take k) := ⟨_, rfl⟩
        have HE : Hid (r = pa ++ [rb]) := hide (by rw [hr, incP_right (by omega) hkl hik, show i - k = q by omega, hpa, hrb])
        have hpl : pa.length ≤ 1000000 := by rw [hpa, incP_len (n - k) _ q (by simp; omega)]; have := cntP_le 17 (n - k) q (by omega); omega
        have HA := hide (fun v w hL hG => ih (n - k) (by omega) v (ls.drop k) q pa w hpa (by simp; omega) (by omega) (by omega) hL (fun x hx => hm x (List.mem_of_mem_drop hx)) hG)
        have HB := hide (fun v w hL hG => troot_any k v (ls.take k) rb w hrb (by simp; omega) (by omega) hL (fun x hx => hm x (List.mem_of_mem_take hx)) hG)
        have HBb : Hid (Bs rb) := by rw [hrb]; exact trootP_bs _ (fun x hx => hbs x (List.mem_of_mem_take hx))
        clear hbs hm hG hL hLw ih h1 h3 hlen hr hpa hrb hk hkl h2n hik
        go_enter Tryz.func113, Tryz.ntmps113
        go_wp2_with fail
        refine (unhide HC).mono ?_
        rintro ee w2 ⟨rfl, hw⟩
        subst w2
        clear HC hsmi
        go_wp2_with fail
        refine region_grow_tail 12 Tryz.mixed [Is (.slice ao n c), Is (.int .i64 k), LcM ((ls).drop k), Is (.int .i64 i), Is (.int .i64 k), Is (.int .i64 q), ARt B pa, Is (.slice ao n c), Is (.int .i64 k), LcM ((ls).take k), RtT B rb, OneT B rb] [[(0, none)], [(5, none)], [(26, some 0), (27, some 1)], [(1, none)], [(5, none)], [(29, some 3), (30, some 4)], [(28, some 2), (31, some 5)], [(0, none)], [(5, none)], [(33, some 7), (34, some 8)], [(35, some 9)], [(36, some 10)]] (by kernel_rfl) ?_ ?_ ?_
        all_goals try simp only [List.take_succ_cons, List.take_zero, List.drop_succ_cons, List.drop_zero]
        · simp only [List.mem_cons, List.not_mem_nil, or_false]
          intro R hR
          rcases hR with rfl | rfl | rfl | rfl | rfl | rfl | rfl | rfl | rfl | rfl | rfl | rfl <;> first | exact stable_is _ | exact stable_lcm _ | exact stable_ar _ _ | exact stable_rt _ _ | exact stable_onet _ _
        · refine steps_cons (fun a w hk hn => ?_) ?_
          · have h0 : a.eval (.tmp 0) = .slice ao n c := hn.1
            clear hn
            refine wants_plain rfl ?_
            exact grown_move (.tmp 0) rfl h0
          refine steps_cons (fun a w hk hn => ?_) ?_
          · have h5 : a.eval (.tmp 5) = .int .i64 k := hn.1
            clear hn
            refine wants_plain rfl ?_
            exact grown_move (.tmp 5) rfl h5
          refine steps_cons (fun a w hk hn => ?_) ?_
          · have h26 : a.eval (.tmp 26) = .slice ao n c := hn.1
            have h27 : a.eval (.tmp 27) = .int .i64 k := hn.2.1
            clear hn
            refine wants_plain rfl ?_
            exact grown_lfrom (.tmp 26) (.tmp 27) (ls) k rfl (by rw [h26]; exact unhide HLL w hk) h27 (unhide HKL)
          refine steps_cons (fun a w hk hn => ?_) ?_
          · have h1 : a.eval (.tmp 1) = .int .i64 i := hn.1
            clear hn
            refine wants_plain rfl ?_
            exact grown_move (.tmp 1) rfl h1
          refine steps_cons (fun a w hk hn => ?_) ?_
          · have h5 : a.eval (.tmp 5) = .int .i64 k := hn.1
            clear hn
            refine wants_plain rfl ?_
            exact grown_move (.tmp 5) rfl h5
          refine steps_cons (fun a w hk hn => ?_) ?_
          · have h29 : a.eval (.tmp 29) = .int .i64 i := hn.1
            have h30 : a.eval (.tmp 30) = .int .i64 k := hn.2.1
            clear hn
            refine wants_plain rfl ?_
            refine grown_run (v := .int .i64 q) ?_ (Kp.refl _ _) rfl
            obtain ⟨ρ, hρ, hc, hf, hg⟩ := eval_is a
            rw [hρ] at h29 h30 ⊢
            simp [go_sem, h29, h30]
            exact wrap_at (by omega) (by omega) (by omega)
          refine steps_cons (fun a w hk hn => ?_) ?_
          · have h28 : (LcM ((ls).drop k)) (a.eval (.tmp 28)) w := hn.1
            have h31 : a.eval (.tmp 31) = .int .i64 q := hn.2.1
            clear hn
            refine wants_plain rfl ?_
            refine grown_call (f := 113) rfl Tryz.func113 (by kernel_rfl) (by kernel_rfl) ?_
            simp only [List.map_toArray, List.map_cons, List.map_nil, h31]
            refine (unhide HA _ w h28 (unhide HGL w hk)).mono ?_
            rintro e w' ⟨ao, m, c, rfl, A⟩
            exact ⟨_, rfl, A.kp, A.ar (unhide HBW w hk)⟩
          refine steps_cons (fun a w hk hn => ?_) ?_
          · have h0 : a.eval (.tmp 0) = .slice ao n c := hn.1
            clear hn
            refine wants_plain rfl ?_
            exact grown_move (.tmp 0) rfl h0
          refine steps_cons (fun a w hk hn => ?_) ?_
          · have h5 : a.eval (.tmp 5) = .int .i64 k := hn.1
            clear hn
            refine wants_plain rfl ?_
            exact grown_move (.tmp 5) rfl h5
          refine steps_cons (fun a w hk hn => ?_) ?_
          · have h33 : a.eval (.tmp 33) = .slice ao n c := hn.1
            have h34 : a.eval (.tmp 34) = .int .i64 k := hn.2.1
            clear hn
            refine wants_plain rfl ?_
            exact grown_lhead (.tmp 33) (.tmp 34) (ls) k rfl (by rw [h33]; exact unhide HLL w hk) h34 (unhide HKL)
          refine steps_cons (fun a w hk hn => ?_) ?_
          · have h35 : (LcM ((ls).take k)) (a.eval (.tmp 35)) w := hn.1
            clear hn
            refine wants_plain rfl ?_
            refine grown_call (f := 67) rfl Tryz.func67 (by kernel_rfl) (by kernel_rfl) ?_
            simp only [List.map_toArray, List.map_cons, List.map_nil]
            refine (unhide HB _ w h35 (unhide HGL w hk)).mono ?_
            rintro e w' ⟨ao, m, c, rfl, R, K⟩
            exact ⟨_, rfl, K, ⟨ao, m, c, rfl, R.sl, ap_row R⟩⟩
          refine steps_cons (fun a w hk hn => ?_) ?_
          · have h36 : (RtT B rb) (a.eval (.tmp 36)) w := hn.1
            clear hn
            refine wants_plain rfl ?_
            exact grown_onet (.tmp 36) rfl B rb h36
          exact trivial
        intro W1 hkW1
        rintro _ rfl
        rintro _ rfl
        intro v28 h28
        rintro _ rfl
        rintro _ rfl
        rintro _ rfl
        intro v32 h32
        rintro _ rfl
        rintro _ rfl
        intro v35 h35
        intro v36 h36
        intro v37 h37
        refine fin_nil ?_
        simp only [Act.put, List.set_cons_zero, List.set_cons_succ, List.setIfInBounds_toArray]
        rw [unhide HBB] at h32 h37
        have HH1 := hide h32
        have HH2 := hide h37
        have HKW := hide ((kp_drew w).trans hkW1)
        clear hkW1 h32 h37 h36 h28 h35
        go_wp2_with (at_builtin; refine wpList_accp (w := w) rfl (.tmp 32) (.tmp 37) rfl v32 v37 rfl rfl pa (unhide HH1) hpl rb (unhide HH2) (unhide HBb) (unhide HKW) ?_; intro ao5 m5 c5 w5 A5)
        go_ret
        exact ⟨ao5, m5, c5, rfl, by rw [unhide HE]; exact A5⟩
    · obtain rfl : n = 1 := by omega
      obtain rfl : r = [] := by rw [hr, incP_small (by omega)]
      clear hbs hm hG hL hLw ih h1 h3 hlen hr
      go_enter Tryz.func113, Tryz.ntmps113
      go_wp2_with fail
      go_ret
      exact ⟨none, 0, 0, rfl, AccR.nil w⟩
set_option maxRecDepth 100000 in
set_option maxHeartbeats 2000000 in
theorem gpath_any (n : Nat) : ∀ (v : Value) (ls : List (List Int)) (m : Nat) (b : Bool) (r : List (List Int)) (w : World), r = subP m ls b → ls.length = n → 1 ≤ m → m ≤ n → n ≤ 100000 → LcM ls v w → (∀ x ∈ ls, x.length ≤ 1000) → Gl w →
    Calls Tryz.prog 114 #[v, .int .i64 m, .bool b] w fun e w' => ∃ ao m c, e = .returned (.slice ao m c) ∧ AccR w r (.slice ao m c) w' := by
  induction n using Nat.strongRecOn with
  | ind n ih =>
    intro v ls m b r w hr hlen h1m hin hn hL hm hG
    have hbs := hL.bs
    have hLw := hL
    obtain ⟨ao, c, e, h1, h2, h3⟩ := hL.shape
    rw [hlen] at e h1
    subst e
    by_cases hsm : m = n
    · subst hsm
      rw [subP_same hlen.symm] at hr
      cases b with
      | true =>
        obtain rfl : r = [] := hr
        clear hbs hm hG hL hLw ih h1 h3 hlen
        go_enter Tryz.func114, Tryz.ntmps114
        go_wp2_with fail
        go_ret
        exact ⟨none, 0, 0, rfl, AccR.nil w⟩
      | false =>
        obtain ⟨ra, hra⟩ : ∃ r, r = trootP ls := ⟨_, rfl⟩
        have HRE : Hid (r = [ra]) := by rw [hra]; exact hr
        have HRB : Hid (Bs ra) := by rw [hra]; exact trootP_bs _ hbs
        have HC := hide (troot_any m _ ls ra w hra hlen hn hL hm hG)
        clear hbs hm hG hL hLw ih h1 h3 hlen hra hr
        go_enter Tryz.func114, Tryz.ntmps114
        go_wp2_with fail
        refine (unhide HC).mono ?_
        rintro ee w2 ⟨a2, m2, c2, rfl, R2, K2⟩
        have HA := hide (accr_one K2 R2.sl (unhide HRB))
        clear R2 K2 HC
        go_wp2_with fail
        go_ret
        exact ⟨_, _, _, rfl, by rw [unhide HRE]; exact unhide HA⟩
    · have hsmi : ¬ (m : Int) = (n : Int) := by omega
      have h2n : 2 ≤ n := by omega
      obtain ⟨k, hk⟩ : ∃ k, k = tsplP n := ⟨_, rfl⟩
      have hk1 : 1 ≤ k := by rw [hk]; exact tsplP_pos h2n
      have hk2 : k < n := by rw [hk]; exact tsplP_lt h2n
      have hkl : k = tsplP ls.length := by rw [hlen]; exact hk
      have HC := hide (tsplit_any n k w (by rw [Int.toNat_natCast]; exact hk) (by omega))
      have HKL : Hid (k ≤ ls.length) := hide (by omega)
      have HLL : Hid (∀ w', Kp [] w.drew w' → LcM ls (.slice ao n c) w') := fun w' k' => hL.kept ((kp_drew w).trans k')
      have HGL : Hid (∀ w', Kp [] w.drew w' → Gl w') := fun w' k' => hG.kept ((kp_drew w).trans k') (by simp)
      obtain ⟨B, hB⟩ : ∃ B, B = w.heap.size := ⟨_, rfl⟩
      have HBW : Hid (∀ w', Kp [] w.drew w' → B ≤ w'.heap.size) := fun w' k' => by rw [hB]; exact k'.size
      have HBB := hide hB
      clear hB
      by_cases hik : m ≤ k
      · have hci : (m : Int) ≤ (k : Int) := by omega
        obtain ⟨pa, hpa⟩ : ∃ p, p = subP m (ls.take k) b := ⟨_, rfl⟩
        obtain ⟨rb, hrb⟩ : ∃ r, r = trootP (ls.drop k) := ⟨_, rfl⟩
        have HE : Hid (r = pa ++ [rb]) := hide (by rw [hr, subP_left h1m (by omega) hkl hik, hpa, hrb])
        have hpl : pa.length ≤ 1000000 := by rw [hpa, subP_len k m _ b (by simp; omega) (by omega) (by omega)]; have := lenP_le 17 m k b (by omega) (by omega) (by omega); omega
        have HA := hide (fun v w hL hG => ih k (by omega) v (ls.take k) m b pa w hpa (by simp; omega) (by omega) (by omega) (by omega) hL (fun x hx => hm x (List.mem_of_mem_take hx)) hG)
        have HB := hide (fun v w hL hG => troot_any (n - k) v (ls.drop k) rb w hrb (by simp; omega) (by omega) hL (fun x hx => hm x (List.mem_of_mem_drop hx)) hG)
        have HBb : Hid (Bs rb) := by rw [hrb]; exact trootP_bs _ (fun x hx => hbs x (List.mem_of_mem_drop hx))
        clear hbs hm hG hL hLw ih h1 h3 hlen hr hpa hrb hk hkl h2n hik h1m hsm
        go_enter Tryz.func114, Tryz.ntmps114
        go_wp2_with fail
        refine (unhide HC).mono ?_
        rintro ee w2 ⟨rfl, hw⟩
        subst w2
        clear HC hsmi
        go_wp2_with fail
        refine region_grow_tail 11 Tryz.mixed [Is (.slice ao n c), Is (.int .i64 k), LcM ((ls).take k), Is (.int .i64 m), Is (.bool b), ARt B pa, Is (.slice ao n c), Is (.int .i64 k), LcM ((ls).drop k), RtT B rb, OneT B rb] [[(0, none)], [(7, none)], [(22, some 0), (23, some 1)], [(1, none)], [(2, none)], [(24, some 2), (25, some 3), (26, some 4)], [(0, none)], [(7, none)], [(28, some 6), (29, some 7)], [(30, some 8)], [(31, some 9)]] (by kernel_rfl) ?_ ?_ ?_
        all_goals try simp only [List.take_succ_cons, List.take_zero, List.drop_succ_cons, List.drop_zero]
        · simp only [List.mem_cons, List.not_mem_nil, or_false]
          intro R hR
          rcases hR with rfl | rfl | rfl | rfl | rfl | rfl | rfl | rfl | rfl | rfl | rfl <;> first | exact stable_is _ | exact stable_lcm _ | exact stable_ar _ _ | exact stable_rt _ _ | exact stable_onet _ _
        · refine steps_cons (fun a w hk hn => ?_) ?_
          · have h0 : a.eval (.tmp 0) = .slice ao n c := hn.1
            clear hn
            refine wants_plain rfl ?_
            exact grown_move (.tmp 0) rfl h0
          refine steps_cons (fun a w hk hn => ?_) ?_
          · have h7 : a.eval (.tmp 7) = .int .i64 k := hn.1
            clear hn
            refine wants_plain rfl ?_
            exact grown_move (.tmp 7) rfl h7
          refine steps_cons (fun a w hk hn => ?_) ?_
          · have h22 : a.eval (.tmp 22) = .slice ao n c := hn.1
            have h23 : a.eval (.tmp 23) = .int .i64 k := hn.2.1
            clear hn
            refine wants_plain rfl ?_
            exact grown_lhead (.tmp 22) (.tmp 23) (ls) k rfl (by rw [h22]; exact unhide HLL w hk) h23 (unhide HKL)
          refine steps_cons (fun a w hk hn => ?_) ?_
          · have h1 : a.eval (.tmp 1) = .int .i64 m := hn.1
            clear hn
            refine wants_plain rfl ?_
            exact grown_move (.tmp 1) rfl h1
          refine steps_cons (fun a w hk hn => ?_) ?_
          · have h2 : a.eval (.tmp 2) = .bool b := hn.1
            clear hn
            refine wants_plain rfl ?_
            exact grown_move (.tmp 2) rfl h2
          refine steps_cons (fun a w hk hn => ?_) ?_
          · have h24 : (LcM ((ls).take k)) (a.eval (.tmp 24)) w := hn.1
            have h25 : a.eval (.tmp 25) = .int .i64 m := hn.2.1
            have h26 : a.eval (.tmp 26) = .bool b := hn.2.2.1
            clear hn
            refine wants_plain rfl ?_
            refine grown_call (f := 114) rfl Tryz.func114 (by kernel_rfl) (by kernel_rfl) ?_
            simp only [List.map_toArray, List.map_cons, List.map_nil, h25, h26]
            refine (unhide HA _ w h24 (unhide HGL w hk)).mono ?_
            rintro e w' ⟨ao, m, c, rfl, A⟩
            exact ⟨_, rfl, A.kp, A.ar (unhide HBW w hk)⟩
          refine steps_cons (fun a w hk hn => ?_) ?_
          · have h0 : a.eval (.tmp 0) = .slice ao n c := hn.1
            clear hn
            refine wants_plain rfl ?_
            exact grown_move (.tmp 0) rfl h0
          refine steps_cons (fun a w hk hn => ?_) ?_
          · have h7 : a.eval (.tmp 7) = .int .i64 k := hn.1
            clear hn
            refine wants_plain rfl ?_
            exact grown_move (.tmp 7) rfl h7
          refine steps_cons (fun a w hk hn => ?_) ?_
          · have h28 : a.eval (.tmp 28) = .slice ao n c := hn.1
            have h29 : a.eval (.tmp 29) = .int .i64 k := hn.2.1
            clear hn
            refine wants_plain rfl ?_
            exact grown_lfrom (.tmp 28) (.tmp 29) (ls) k rfl (by rw [h28]; exact unhide HLL w hk) h29 (unhide HKL)
          refine steps_cons (fun a w hk hn => ?_) ?_
          · have h30 : (LcM ((ls).drop k)) (a.eval (.tmp 30)) w := hn.1
            clear hn
            refine wants_plain rfl ?_
            refine grown_call (f := 67) rfl Tryz.func67 (by kernel_rfl) (by kernel_rfl) ?_
            simp only [List.map_toArray, List.map_cons, List.map_nil]
            refine (unhide HB _ w h30 (unhide HGL w hk)).mono ?_
            rintro e w' ⟨ao, m, c, rfl, R, K⟩
            exact ⟨_, rfl, K, ⟨ao, m, c, rfl, R.sl, ap_row R⟩⟩
          refine steps_cons (fun a w hk hn => ?_) ?_
          · have h31 : (RtT B rb) (a.eval (.tmp 31)) w := hn.1
            clear hn
            refine wants_plain rfl ?_
            exact grown_onet (.tmp 31) rfl B rb h31
          exact trivial
        intro W1 hkW1
        rintro _ rfl
        rintro _ rfl
        intro v24 h24
        rintro _ rfl
        rintro _ rfl
        intro v27 h27
        rintro _ rfl
        rintro _ rfl
        intro v30 h30
        intro v31 h31
        intro v32 h32
        refine fin_nil ?_
        simp only [Act.put, List.set_cons_zero, List.set_cons_succ, List.setIfInBounds_toArray]
        rw [unhide HBB] at h27 h32
        have HH1 := hide h27
        have HH2 := hide h32
        have HKW := hide ((kp_drew w).trans hkW1)
        clear hkW1 h27 h32 h31 h24 h30
        go_wp2_with (at_builtin; refine wpList_accp (w := w) rfl (.tmp 27) (.tmp 32) rfl v27 v32 rfl rfl pa (unhide HH1) hpl rb (unhide HH2) (unhide HBb) (unhide HKW) ?_; intro ao5 m5 c5 w5 A5)
        go_ret
        exact ⟨ao5, m5, c5, rfl, by rw [unhide HE]; exact A5⟩
      · have hci : ¬ (m : Int) ≤ (k : Int) := by omega
        obtain ⟨q, hq⟩ : ∃ q, q + k = m := ⟨m - k, by omega⟩
        obtain ⟨pa, hpa⟩ : ∃ p, p = subP q (ls.drop k) false := ⟨_, rfl⟩
        obtain ⟨rb, hrb⟩ : ∃ r, r = trootP (ls.take k) := ⟨_, rfl⟩
        have HE : Hid (r = pa ++ [rb]) := hide (by rw [hr, subP_right h1m (by omega) hkl hik, show m - k = q by omega, hpa, hrb])
        have hpl : pa.length ≤ 1000000 := by rw [hpa, subP_len (n - k) q _ false (by simp; omega) (by omega) (by omega)]; have := lenP_le 17 q (n - k) false (by omega) (by omega) (by omega); omega
        have HA := hide (fun v w hL hG => ih (n - k) (by omega) v (ls.drop k) q false pa w hpa (by simp; omega) (by omega) (by omega) (by omega) hL (fun x hx => hm x (List.mem_of_mem_drop hx)) hG)
        have HB := hide (fun v w hL hG => troot_any k v (ls.take k) rb w hrb (by simp; omega) (by omega) hL (fun x hx => hm x (List.mem_of_mem_take hx)) hG)
        have HBb : Hid (Bs rb) := by rw [hrb]; exact trootP_bs _ (fun x hx => hbs x (List.mem_of_mem_take hx))
        clear hbs hm hG hL hLw ih h1 h3 hlen hr hpa hrb hk hkl h2n hik h1m hsm
        go_enter Tryz.func114, Tryz.ntmps114
        go_wp2_with fail
        refine (unhide HC).mono ?_
        rintro ee w2 ⟨rfl, hw⟩
        subst w2
        clear HC hsmi
        go_wp2_with fail
        refine region_grow_tail 12 Tryz.mixed [Is (.slice ao n c), Is (.int .i64 k), LcM ((ls).drop k), Is (.int .i64 m), Is (.int .i64 k), Is (.int .i64 q), ARt B pa, Is (.slice ao n c), Is (.int .i64 k), LcM ((ls).take k), RtT B rb, OneT B rb] [[(0, none)], [(7, none)], [(34, some 0), (35, some 1)], [(1, none)], [(7, none)], [(37, some 3), (38, some 4)], [(36, some 2), (39, some 5)], [(0, none)], [(7, none)], [(41, some 7), (42, some 8)], [(43, some 9)], [(44, some 10)]] (by kernel_rfl) ?_ ?_ ?_
        all_goals try simp only [List.take_succ_cons, List.take_zero, List.drop_succ_cons, List.drop_zero]
        · simp only [List.mem_cons, List.not_mem_nil, or_false]
          intro R hR
          rcases hR with rfl | rfl | rfl | rfl | rfl | rfl | rfl | rfl | rfl | rfl | rfl | rfl <;> first | exact stable_is _ | exact stable_lcm _ | exact stable_ar _ _ | exact stable_rt _ _ | exact stable_onet _ _
        · refine steps_cons (fun a w hk hn => ?_) ?_
          · have h0 : a.eval (.tmp 0) = .slice ao n c := hn.1
            clear hn
            refine wants_plain rfl ?_
            exact grown_move (.tmp 0) rfl h0
          refine steps_cons (fun a w hk hn => ?_) ?_
          · have h7 : a.eval (.tmp 7) = .int .i64 k := hn.1
            clear hn
            refine wants_plain rfl ?_
            exact grown_move (.tmp 7) rfl h7
          refine steps_cons (fun a w hk hn => ?_) ?_
          · have h34 : a.eval (.tmp 34) = .slice ao n c := hn.1
            have h35 : a.eval (.tmp 35) = .int .i64 k := hn.2.1
            clear hn
            refine wants_plain rfl ?_
            exact grown_lfrom (.tmp 34) (.tmp 35) (ls) k rfl (by rw [h34]; exact unhide HLL w hk) h35 (unhide HKL)
          refine steps_cons (fun a w hk hn => ?_) ?_
          · have h1 : a.eval (.tmp 1) = .int .i64 m := hn.1
            clear hn
            refine wants_plain rfl ?_
            exact grown_move (.tmp 1) rfl h1
          refine steps_cons (fun a w hk hn => ?_) ?_
          · have h7 : a.eval (.tmp 7) = .int .i64 k := hn.1
            clear hn
            refine wants_plain rfl ?_
            exact grown_move (.tmp 7) rfl h7
          refine steps_cons (fun a w hk hn => ?_) ?_
          · have h37 : a.eval (.tmp 37) = .int .i64 m := hn.1
            have h38 : a.eval (.tmp 38) = .int .i64 k := hn.2.1
            clear hn
            refine wants_plain rfl ?_
            refine grown_run (v := .int .i64 q) ?_ (Kp.refl _ _) rfl
            obtain ⟨ρ, hρ, hc, hf, hg⟩ := eval_is a
            rw [hρ] at h37 h38 ⊢
            simp [go_sem, h37, h38]
            exact wrap_at (by omega) (by omega) (by omega)
          refine steps_cons (fun a w hk hn => ?_) ?_
          · have h36 : (LcM ((ls).drop k)) (a.eval (.tmp 36)) w := hn.1
            have h39 : a.eval (.tmp 39) = .int .i64 q := hn.2.1
            clear hn
            refine wants_plain rfl ?_
            refine grown_call (f := 114) rfl Tryz.func114 (by kernel_rfl) (by kernel_rfl) ?_
            simp only [List.map_toArray, List.map_cons, List.map_nil, h39]
            refine (unhide HA _ w h36 (unhide HGL w hk)).mono ?_
            rintro e w' ⟨ao, m, c, rfl, A⟩
            exact ⟨_, rfl, A.kp, A.ar (unhide HBW w hk)⟩
          refine steps_cons (fun a w hk hn => ?_) ?_
          · have h0 : a.eval (.tmp 0) = .slice ao n c := hn.1
            clear hn
            refine wants_plain rfl ?_
            exact grown_move (.tmp 0) rfl h0
          refine steps_cons (fun a w hk hn => ?_) ?_
          · have h7 : a.eval (.tmp 7) = .int .i64 k := hn.1
            clear hn
            refine wants_plain rfl ?_
            exact grown_move (.tmp 7) rfl h7
          refine steps_cons (fun a w hk hn => ?_) ?_
          · have h41 : a.eval (.tmp 41) = .slice ao n c := hn.1
            have h42 : a.eval (.tmp 42) = .int .i64 k := hn.2.1
            clear hn
            refine wants_plain rfl ?_
            exact grown_lhead (.tmp 41) (.tmp 42) (ls) k rfl (by rw [h41]; exact unhide HLL w hk) h42 (unhide HKL)
          refine steps_cons (fun a w hk hn => ?_) ?_
          · have h43 : (LcM ((ls).take k)) (a.eval (.tmp 43)) w := hn.1
            clear hn
            refine wants_plain rfl ?_
            refine grown_call (f := 67) rfl Tryz.func67 (by kernel_rfl) (by kernel_rfl) ?_
            simp only [List.map_toArray, List.map_cons, List.map_nil]
            refine (unhide HB _ w h43 (unhide HGL w hk)).mono ?_
            rintro e w' ⟨ao, m, c, rfl, R, K⟩
            exact ⟨_, rfl, K, ⟨ao, m, c, rfl, R.sl, ap_row R⟩⟩
          refine steps_cons (fun a w hk hn => ?_) ?_
          · have h44 : (RtT B rb) (a.eval (.tmp 44)) w := hn.1
            clear hn
            refine wants_plain rfl ?_
            exact grown_onet (.tmp 44) rfl B rb h44
          exact trivial
        intro W1 hkW1
        rintro _ rfl
        rintro _ rfl
        intro v36 h36
        rintro _ rfl
        rintro _ rfl
        rintro _ rfl
        intro v40 h40
        rintro _ rfl
        rintro _ rfl
        intro v43 h43
        intro v44 h44
        intro v45 h45
        refine fin_nil ?_
        simp only [Act.put, List.set_cons_zero, List.set_cons_succ, List.setIfInBounds_toArray]
        rw [unhide HBB] at h40 h45
        have HH1 := hide h40
        have HH2 := hide h45
        have HKW := hide ((kp_drew w).trans hkW1)
        clear hkW1 h40 h45 h44 h36 h43
        go_wp2_with (at_builtin; refine wpList_accp (w := w) rfl (.tmp 40) (.tmp 45) rfl v40 v45 rfl rfl pa (unhide HH1) hpl rb (unhide HH2) (unhide HBb) (unhide HKW) ?_; intro ao5 m5 c5 w5 A5)
        go_ret
        exact ⟨ao5, m5, c5, rfl, by rw [unhide HE]; exact A5⟩
end Go.Proofs.YtillhpgdlmeajaaGreatDoor
