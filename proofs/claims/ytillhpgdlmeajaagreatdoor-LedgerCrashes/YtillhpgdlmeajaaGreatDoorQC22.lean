/-
  The contracts of the program's Root and Range.
-/
import Derived.Test.YtillhpgdlmeajaaGreatDoorQC15
import Derived.Test.YtillhpgdlmeajaaGreatDoorQC21
namespace Go.Proofs.YtillhpgdlmeajaaGreatDoor
open Go.RowKit
open Go.Proofs
set_option maxRecDepth 100000 in
set_option maxHeartbeats 2000000 in
theorem troot_any (n : Nat) : ∀ (v : Value) (ls : List (List Int)) (r : List Int) (w : World), r = trootP ls → ls.length = n → n ≤ 100000 → LcM ls v w → (∀ x ∈ ls, x.length ≤ 1000) → Gl w →
    Calls Tryz.prog 67 #[v] w fun e w' => ∃ ao m c, e = .returned (.slice ao m c) ∧ Row w' w.heap.size (.slice ao m c) r ∧ Kp [] w w' := by
  induction n using Nat.strongRecOn with
  | ind n ih =>
    intro v ls r w hr hlen hn hL hm hG
    have hbs := hL.bs
    obtain ⟨ao, c, e, h1, h2, h3⟩ := hL.shape
    rw [hlen] at e h1
    subst e
    rcases (by omega : n = 0 ∨ n = 1 ∨ 2 ≤ n) with rfl | rfl | h2n
    · have e : ls = [] := List.eq_nil_of_length_eq_zero hlen
      rw [e, trootP_nil] at hr
      have HC := hide (sum_at (.slice none 0 0) [] r hr w (Sl.nil w) (fun b hb => by cases hb) (by simp) hG)
      clear hbs hm hG hL hr e ih h1 h3 hlen
      go_enter Tryz.func67, Tryz.ntmps67
      go_wp2_with fail
      refine (unhide HC).mono ?_
      rintro ee w2 ⟨ao2, m2, c2, rfl, R2, K2⟩
      have HR2 := hide R2
      have HK2 := hide K2
      clear R2 K2 HC
      go_wp2_with fail
      go_ret
      exact ⟨ao2, m2, c2, rfl, unhide HR2, unhide HK2⟩
    · obtain ⟨x, rfl⟩ : ∃ x, ls = [x] := by
        match ls, hlen with
        | [x], _ => exact ⟨x, rfl⟩
      rw [trootP_one] at hr
      subst hr
      obtain ⟨-, b, off, u, rfl, hc, hS, -⟩ := hL.at 0 r rfl
      have hl := hm r (by simp)
      have ob := (Kp.refl [] w).alloc (.cells #[] 5)
      have HK := hide ob
      have hcw := ob.cell hc (by simp)
      have hSw := hS.kept ob (by simp)
      obtain ⟨ax, cx, hux, _⟩ := hS
      obtain ⟨nx, hnx⟩ : ∃ nx, nx = r.length := ⟨_, rfl⟩
      rw [← hnx] at hux
      subst hux
      have HSw := hide hSw
      have hR0 : Hid (Row (w.alloc (.cells #[] 5)) w.heap.size (.slice (some ⟨w.heap.size, 0, none⟩) 0 0) []) := row_of_block (bs := []) (Nat.le_refl _) (heap_alloc_new w _) rfl (by simp [maxLen])
      rw [Nat.add_zero] at hc hcw
      clear hbs hm hG hL ih h1 h3 hlen hSw ob hnx
      go_enter Tryz.func67, Tryz.ntmps67
      go_wp2_with (at_builtin; refine wpList_append_row rfl (.tmp 11) (.tmp 14) rfl w.heap.size _ _ rfl (unhide hR0) _ r rfl (unhide HSw) (by simp; omega) (by simp) ?_; intro ao2 m2 c2 w2 r2 s2)
      go_ret
      exact ⟨ao2, m2, c2, rfl, by simpa using r2, (unhide hR0).step (unhide HK) s2⟩
    · obtain ⟨k, hk⟩ : ∃ k, k = tsplP n := ⟨_, rfl⟩
      have hk1 : 1 ≤ k := by rw [hk]; exact tsplP_pos h2n
      have hk2 : k < n := by rw [hk]; exact tsplP_lt h2n
      rw [trootP_more (by omega), hlen, ← hk] at hr
      obtain ⟨ra, hra⟩ : ∃ r, r = trootP (ls.take k) := ⟨_, rfl⟩
      obtain ⟨rb, hrb⟩ : ∃ r, r = trootP (ls.drop k) := ⟨_, rfl⟩
      rw [← hra, ← hrb] at hr
      have HR := hide hr
      have HA := hide (fun v w hL hG => ih k hk2 v (ls.take k) ra w hra (by simp; omega) (by omega) hL (fun x hx => hm x (List.mem_of_mem_take hx)) hG)
      have HB := hide (fun v w hL hG => ih (n - k) (by omega) v (ls.drop k) rb w hrb (by simp; omega) (by omega) hL (fun x hx => hm x (List.mem_of_mem_drop hx)) hG)
      have HAb : Hid (Bs ra) := by rw [hra]; exact trootP_bs _ (fun x hx => hbs x (List.mem_of_mem_take hx))
      have HBb : Hid (Bs rb) := by rw [hrb]; exact trootP_bs _ (fun x hx => hbs x (List.mem_of_mem_drop hx))
      have hal : ra.length ≤ 1000 := by rw [hra]; exact trootP_le 1000 (by omega) _ (fun x hx => hm x (List.mem_of_mem_take hx))
      have hbl : rb.length ≤ 1000 := by rw [hrb]; exact trootP_le 1000 (by omega) _ (fun x hx => hm x (List.mem_of_mem_drop hx))
      have HC := hide (tsplit_any n k w (by rw [Int.toNat_natCast]; exact hk) (by omega))
      have HKL : Hid (k ≤ ls.length) := hide (by omega)
      have HLL : Hid (∀ w', Kp [] w.drew w' → LcM ls (.slice ao n c) w') := fun w' k' => hL.kept ((kp_drew w).trans k')
      have HGL : Hid (∀ w', Kp [] w.drew w' → Gl w') := fun w' k' => hG.kept ((kp_drew w).trans k') (by simp)
      have hn0 : ¬ (n : Int) = 0 := by omega
      have hn1 : ¬ (n : Int) = 1 := by omega
      clear hbs hm hG hL ih h1 h3 hlen hr hra hrb hk
      go_enter Tryz.func67, Tryz.ntmps67
      go_wp2_with fail
      refine (unhide HC).mono ?_
      rintro ee w2 ⟨rfl, hw⟩
      subst w2
      clear HC hn0 hn1
      go_wp2_with fail
      obtain ⟨B, hB⟩ : ∃ B, B = w.heap.size := ⟨_, rfl⟩
      have HBW : Hid (∀ w', Kp [] w.drew w' → B ≤ w'.heap.size) := fun w' k' => by rw [hB]; exact k'.size
      have HBB := hide hB
      clear hB
      refine region_grow Tryz.mixed [Is (.slice ao n c), Is (.int .i64 k), LcM ((ls).take k), SlT (ra), Is (.slice ao n c), Is (.int .i64 k), LcM ((ls).drop k), SlT (rb), RwT B r, RwT B r] [[(0, none)], [(3, none)], [(19, some 0), (20, some 1)], [(21, some 2)], [(0, none)], [(3, none)], [(23, some 4), (24, some 5)], [(25, some 6)], [(22, some 3), (26, some 7)], [(27, some 8)]] (by kernel_rfl) ?_ ?_ ?_
      · simp only [List.mem_cons, List.not_mem_nil, or_false]
        intro R hR
        rcases hR with rfl | rfl | rfl | rfl | rfl | rfl | rfl | rfl | rfl | rfl <;> first | exact stable_is _ | exact stable_lcm _ | exact stable_sl _ | exact stable_rw _ _
      · refine steps_cons (fun a w hk hn => ?_) ?_
        · have h0 : a.eval (.tmp 0) = .slice ao n c := hn.1
          clear hn
          refine wants_plain rfl ?_
          exact grown_move (.tmp 0) rfl h0
        refine steps_cons (fun a w hk hn => ?_) ?_
        · have h3 : a.eval (.tmp 3) = .int .i64 k := hn.1
          clear hn
          refine wants_plain rfl ?_
          exact grown_move (.tmp 3) rfl h3
        refine steps_cons (fun a w hk hn => ?_) ?_
        · have h19 : a.eval (.tmp 19) = .slice ao n c := hn.1
          have h20 : a.eval (.tmp 20) = .int .i64 k := hn.2.1
          clear hn
          refine wants_plain rfl ?_
          exact grown_lhead (.tmp 19) (.tmp 20) (ls) k rfl (by rw [h19]; exact unhide HLL w hk) h20 (unhide HKL)
        refine steps_cons (fun a w hk hn => ?_) ?_
        · have h21 : (LcM ((ls).take k)) (a.eval (.tmp 21)) w := hn.1
          clear hn
          refine wants_plain rfl ?_
          refine grown_call (f := 67) rfl Tryz.func67 (by kernel_rfl) (by kernel_rfl) ?_
          simp only [List.map_toArray, List.map_cons, List.map_nil]
          refine (unhide HA _ w h21 (unhide HGL w hk)).mono ?_
          rintro e w' ⟨ao, m, c, rfl, R, K⟩
          exact ⟨_, rfl, K, R.sl⟩
        refine steps_cons (fun a w hk hn => ?_) ?_
        · have h0 : a.eval (.tmp 0) = .slice ao n c := hn.1
          clear hn
          refine wants_plain rfl ?_
          exact grown_move (.tmp 0) rfl h0
        refine steps_cons (fun a w hk hn => ?_) ?_
        · have h3 : a.eval (.tmp 3) = .int .i64 k := hn.1
          clear hn
          refine wants_plain rfl ?_
          exact grown_move (.tmp 3) rfl h3
        refine steps_cons (fun a w hk hn => ?_) ?_
        · have h23 : a.eval (.tmp 23) = .slice ao n c := hn.1
          have h24 : a.eval (.tmp 24) = .int .i64 k := hn.2.1
          clear hn
          refine wants_plain rfl ?_
          exact grown_lfrom (.tmp 23) (.tmp 24) (ls) k rfl (by rw [h23]; exact unhide HLL w hk) h24 (unhide HKL)
        refine steps_cons (fun a w hk hn => ?_) ?_
        · have h25 : (LcM ((ls).drop k)) (a.eval (.tmp 25)) w := hn.1
          clear hn
          refine wants_plain rfl ?_
          refine grown_call (f := 67) rfl Tryz.func67 (by kernel_rfl) (by kernel_rfl) ?_
          simp only [List.map_toArray, List.map_cons, List.map_nil]
          refine (unhide HB _ w h25 (unhide HGL w hk)).mono ?_
          rintro e w' ⟨ao, m, c, rfl, R, K⟩
          exact ⟨_, rfl, K, R.sl⟩
        refine steps_cons (fun a w hk hn => ?_) ?_
        · have h22 : Sl w (a.eval (.tmp 22)) (ra) := hn.1
          have h26 : Sl w (a.eval (.tmp 26)) (rb) := hn.2.1
          clear hn
          refine wants_plain rfl ?_
          refine grown_call (f := 109) rfl Tryz.func109 (by kernel_rfl) (by kernel_rfl) ?_
          simp only [List.map_toArray, List.map_cons, List.map_nil]
          refine (tnode_any _ _ ra rb r (unhide HR) w h22 (unhide HAb) (by omega) h26 (unhide HBb) (by omega) (unhide HGL w hk)).mono ?_
          rintro e w' ⟨ao, m, c, rfl, R, K⟩
          exact ⟨_, rfl, K, ⟨ao, m, c, rfl, owns_rebase R (fun i hi => Nat.le_trans (unhide HBW w hk) (Row.own R i hi))⟩⟩
        refine steps_cons (fun a w hk hn => ?_) ?_
        · have h27 : (RwT B r) (a.eval (.tmp 27)) w := hn.1
          clear hn
          refine wants_plain rfl ?_
          exact grown_assign (.tmp 27) rfl h27
        exact trivial
      intro W1 hkW1
      rintro _ rfl
      rintro _ rfl
      intro v21 h21
      intro v22 h22
      rintro _ rfl
      rintro _ rfl
      intro v25 h25
      intro v26 h26
      intro v27 h27
      intro v2 h2
      refine fin_nil ?_
      simp only [Act.put, List.set_cons_zero, List.set_cons_succ, List.setIfInBounds_toArray]
      obtain ⟨ao2, m2, c2, rfl, R2⟩ := h2
      rw [unhide HBB] at R2
      have HR2 := hide R2
      have HK2 := hide ((kp_drew w).trans hkW1)
      clear R2 h27 h26 h25 h22 h21 hkW1
      go_wp2_with fail
      go_ret
      exact ⟨ao2, m2, c2, rfl, unhide HR2, unhide HK2⟩
end Go.Proofs.YtillhpgdlmeajaaGreatDoor
