/-
  The contracts of the reference's Root and Leaves.
-/
import Derived.Test.YtillhpgdlmeajaaGreatDoorKTLcs
import Derived.Test.YtillhpgdlmeajaaGreatDoorKTNode
import Derived.Test.YtillhpgdlmeajaaGreatDoorKTSplits
namespace Go.Proofs.YtillhpgdlmeajaaGreatDoor
open Go.RowKit
open Go.Proofs

/-- u is the one slice of the list v. -/
def AtOne (v u : Value) (w : World) : Prop := ∃ b off c, v = .slice (some ⟨b, off, none⟩) 1 c ∧ w.cell? ⟨b, off, none⟩ = some u
set_option maxRecDepth 100000 in
set_option maxHeartbeats 2000000 in
theorem rroot_row (n : Nat) : ∀ (v : Value) (ls : List (List Int)) (r : List Int) (w : World), r = trootP ls → ls.length = n → n ≤ 100000 → LcM ls v w → (∀ x ∈ ls, x.length ≤ 1000) →
    Calls Tryz.prog 24 #[v] w fun e w' => ∃ ao m c, e = .returned (.slice ao m c) ∧ (Row w' w.heap.size (.slice ao m c) r ∨ AtOne v (.slice ao m c) w) ∧ Sl w' (.slice ao m c) r ∧ Kp [] w w' := by
  induction n using Nat.strongRecOn with
  | ind n ih =>
    intro v ls r w hr hlen hn hL hm
    have hbs := hL.bs
    obtain ⟨ao, c, e, h1, h2, h3⟩ := hL.shape
    rw [hlen] at e h1
    subst e
    rcases (by omega : n = 0 ∨ n = 1 ∨ 2 ≤ n) with rfl | rfl | h2n
    · have e : ls = [] := List.eq_nil_of_length_eq_zero hlen
      rw [e, trootP_nil] at hr
      have HC := hide (refsum_at (.slice none 0 0) [] r hr w (Sl.nil w) (fun b hb => by cases hb) (by simp))
      clear hbs hm hL hr e ih h1 h3 hlen
      go_enter Tryz.func24, Tryz.ntmps24
      go_wp2_with fail
      refine (unhide HC).mono ?_
      rintro ee w2 ⟨ao2, m2, c2, rfl, R2, K2⟩
      have HR2 := hide R2
      have HK2 := hide K2
      clear R2 K2 HC
      go_wp2_with fail
      go_ret
      exact ⟨ao2, m2, c2, rfl, .inl (unhide HR2), (unhide HR2).sl, unhide HK2⟩
    · obtain ⟨x, rfl⟩ : ∃ x, ls = [x] := by
        match ls, hlen with
        | [x], _ => exact ⟨x, rfl⟩
      rw [trootP_one] at hr
      subst hr
      obtain ⟨-, b, off, u, rfl, hc, hS, -⟩ := hL.at 0 r rfl
      have HS := hide hS
      obtain ⟨ax, cx, hux, _⟩ := hS
      obtain ⟨nx, hnx⟩ : ∃ nx, nx = r.length := ⟨_, rfl⟩
      rw [← hnx] at hux
      subst hux
      rw [Nat.add_zero] at hc
      have HAT : Hid (AtOne (.slice (some ⟨b, off, none⟩) 1 c) (.slice ax nx cx) w) := ⟨b, off, c, rfl, hc⟩
      clear hbs hm hL ih h1 h3 hlen hnx
      go_enter Tryz.func24, Tryz.ntmps24
      go_wp2_with fail
      go_ret
      exact ⟨_, _, _, rfl, .inr (unhide HAT), unhide HS, Kp.refl _ _⟩
    · obtain ⟨k, hk⟩ : ∃ k, k = tsplP n := ⟨_, rfl⟩
      have hk1 : 1 ≤ k := by rw [hk]; exact tsplP_pos h2n
      have hk2 : k < n := by rw [hk]; exact tsplP_lt h2n
      rw [trootP_more (by omega), hlen, ← hk] at hr
      obtain ⟨ra, hra⟩ : ∃ r, r = trootP (ls.take k) := ⟨_, rfl⟩
      obtain ⟨rb, hrb⟩ : ∃ r, r = trootP (ls.drop k) := ⟨_, rfl⟩
      rw [← hra, ← hrb] at hr
      have HR := hide hr
      have HA := hide (fun v w hL => ih k hk2 v (ls.take k) ra w hra (by simp; omega) (by omega) hL (fun x hx => hm x (List.mem_of_mem_take hx)))
      have HB := hide (fun v w hL => ih (n - k) (by omega) v (ls.drop k) rb w hrb (by simp; omega) (by omega) hL (fun x hx => hm x (List.mem_of_mem_drop hx)))
      have HAb : Hid (Bs ra) := by rw [hra]; exact trootP_bs _ (fun x hx => hbs x (List.mem_of_mem_take hx))
      have HBb : Hid (Bs rb) := by rw [hrb]; exact trootP_bs _ (fun x hx => hbs x (List.mem_of_mem_drop hx))
      have hal : ra.length ≤ 1000 := by rw [hra]; exact trootP_le 1000 (by omega) _ (fun x hx => hm x (List.mem_of_mem_take hx))
      have hbl : rb.length ≤ 1000 := by rw [hrb]; exact trootP_le 1000 (by omega) _ (fun x hx => hm x (List.mem_of_mem_drop hx))
      have HC := hide (rsplit_any n k w (by rw [Int.toNat_natCast]; exact hk) (by omega))
      have HKL : Hid (k ≤ ls.length) := hide (by omega)
      have HLL : Hid (∀ w', Kp [] w.drew w' → LcM ls (.slice ao n c) w') := fun w' k' => hL.kept ((kp_drew w).trans k')
      have hn0 : ¬ (n : Int) = 0 := by omega
      have hn1 : ¬ (n : Int) = 1 := by omega
      clear hbs hm hL ih h1 h3 hlen hr hra hrb hk
      go_enter Tryz.func24, Tryz.ntmps24
      go_wp2_with fail
      refine (unhide HC).mono ?_
      rintro ee w2 ⟨rfl, hw⟩
      subst w2
      clear HC hn0 hn1
      go_wp2_with fail
      obtain ⟨B, hB⟩ : ∃ B, B = w.heap.size := ⟨_, rfl⟩
      have HBW : Hid (∀ w', Kp [] w.drew w' → B ≤ w'.heap.size) := fun w' k' => by rw [hB]; exact k'.size
      have HBB := hide hB
      clear hB
      refine region_grow Tryz.mixed [Is (.slice ao n c), Is (.int .i64 k), LcM ((ls).take k), SlT (ra), Is (.slice ao n c), Is (.int .i64 k), LcM ((ls).drop k), SlT (rb), RwT B r, RwT B r] [[(0, none)], [(3, none)], [(17, some 0), (18, some 1)], [(19, some 2)], [(0, none)], [(3, none)], [(21, some 4), (22, some 5)], [(23, some 6)], [(20, some 3), (24, some 7)], [(25, some 8)]] (by kernel_rfl) ?_ ?_ ?_
      · simp only [List.mem_cons, List.not_mem_nil, or_false]
        intro R hR
        rcases hR with rfl | rfl | rfl | rfl | rfl | rfl | rfl | rfl | rfl | rfl <;> first | exact stable_is _ | exact stable_lcm _ | exact stable_sl _ | exact stable_rw _ _
      · refine steps_cons (fun a w hk hn => ?_) ?_
        · have h0 : a.eval (.tmp 0) = .slice ao n c := hn.1
          clear hn
          refine wants_plain rfl ?_
          exact grown_move (.tmp 0) rfl h0
        refine steps_cons (fun a w hk hn => ?_) ?_
        · have h3 : a.eval (.tmp 3) = .int .i64 k := hn.1
          clear hn
          refine wants_plain rfl ?_
          exact grown_move (.tmp 3) rfl h3
        refine steps_cons (fun a w hk hn => ?_) ?_
        · have h17 : a.eval (.tmp 17) = .slice ao n c := hn.1
          have h18 : a.eval (.tmp 18) = .int .i64 k := hn.2.1
          clear hn
          refine wants_plain rfl ?_
          exact grown_lhead (.tmp 17) (.tmp 18) (ls) k rfl (by rw [h17]; exact unhide HLL w hk) h18 (unhide HKL)
        refine steps_cons (fun a w hk hn => ?_) ?_
        · have h19 : (LcM ((ls).take k)) (a.eval (.tmp 19)) w := hn.1
          clear hn
          refine wants_plain rfl ?_
          refine grown_call (f := 24) rfl Tryz.func24 (by kernel_rfl) (by kernel_rfl) ?_
          simp only [List.map_toArray, List.map_cons, List.map_nil]
          refine (unhide HA _ w h19).mono ?_
          rintro e w' ⟨ao, m, c, rfl, -, R, K⟩
          exact ⟨_, rfl, K, R⟩
        refine steps_cons (fun a w hk hn => ?_) ?_
        · have h0 : a.eval (.tmp 0) = .slice ao n c := hn.1
          clear hn
          refine wants_plain rfl ?_
          exact grown_move (.tmp 0) rfl h0
        refine steps_cons (fun a w hk hn => ?_) ?_
        · have h3 : a.eval (.tmp 3) = .int .i64 k := hn.1
          clear hn
          refine wants_plain rfl ?_
          exact grown_move (.tmp 3) rfl h3
        refine steps_cons (fun a w hk hn => ?_) ?_
        · have h21 : a.eval (.tmp 21) = .slice ao n c := hn.1
          have h22 : a.eval (.tmp 22) = .int .i64 k := hn.2.1
          clear hn
          refine wants_plain rfl ?_
          exact grown_lfrom (.tmp 21) (.tmp 22) (ls) k rfl (by rw [h21]; exact unhide HLL w hk) h22 (unhide HKL)
        refine steps_cons (fun a w hk hn => ?_) ?_
        · have h23 : (LcM ((ls).drop k)) (a.eval (.tmp 23)) w := hn.1
          clear hn
          refine wants_plain rfl ?_
          refine grown_call (f := 24) rfl Tryz.func24 (by kernel_rfl) (by kernel_rfl) ?_
          simp only [List.map_toArray, List.map_cons, List.map_nil]
          refine (unhide HB _ w h23).mono ?_
          rintro e w' ⟨ao, m, c, rfl, -, R, K⟩
          exact ⟨_, rfl, K, R⟩
        refine steps_cons (fun a w hk hn => ?_) ?_
        · have h20 : Sl w (a.eval (.tmp 20)) (ra) := hn.1
          have h24 : Sl w (a.eval (.tmp 24)) (rb) := hn.2.1
          clear hn
          refine wants_plain rfl ?_
          refine grown_call (f := 71) rfl Tryz.func71 (by kernel_rfl) (by kernel_rfl) ?_
          simp only [List.map_toArray, List.map_cons, List.map_nil]
          refine (rnode_any _ _ ra rb r (unhide HR) w h20 (unhide HAb) (by omega) h24 (unhide HBb) (by omega)).mono ?_
          rintro e w' ⟨ao, m, c, rfl, R, K⟩
          exact ⟨_, rfl, K, ⟨ao, m, c, rfl, owns_rebase R (fun i hi => Nat.le_trans (unhide HBW w hk) (Row.own R i hi))⟩⟩
        refine steps_cons (fun a w hk hn => ?_) ?_
        · have h25 : (RwT B r) (a.eval (.tmp 25)) w := hn.1
          clear hn
          refine wants_plain rfl ?_
          exact grown_assign (.tmp 25) rfl h25
        exact trivial
      intro W1 hkW1
      rintro _ rfl
      rintro _ rfl
      intro v19 h19
      intro v20 h20
      rintro _ rfl
      rintro _ rfl
      intro v23 h23
      intro v24 h24
      intro v25 h25
      intro v2 h2
      refine fin_nil ?_
      simp only [Act.put, List.set_cons_zero, List.set_cons_succ, List.setIfInBounds_toArray]
      obtain ⟨ao2, m2, c2, rfl, R2⟩ := h2
      rw [unhide HBB] at R2
      have HR2 := hide R2
      have HK2 := hide ((kp_drew w).trans hkW1)
      clear R2 h25 h24 h23 h20 h19 hkW1
      go_wp2_with fail
      go_ret
      exact ⟨ao2, m2, c2, rfl, .inl (unhide HR2), (unhide HR2).sl, unhide HK2⟩
theorem rroot_any (n : Nat) (v : Value) (ls : List (List Int)) (r : List Int) (w : World) (hr : r = trootP ls) (hl : ls.length = n) (hn : n ≤ 100000) (hL : LcM ls v w) (hm : ∀ x ∈ ls, x.length ≤ 1000) :
    Calls Tryz.prog 24 #[v] w fun e w' => ∃ ao m c, e = .returned (.slice ao m c) ∧ Sl w' (.slice ao m c) r ∧ Kp [] w w' := by
  refine (rroot_row n v ls r w hr hl hn hL hm).mono ?_
  rintro e w' ⟨ao, m, c, rfl, -, R, K⟩
  exact ⟨ao, m, c, rfl, R, K⟩

set_option maxRecDepth 100000 in
set_option maxHeartbeats 2000000 in
theorem rleaves_any (vl : Value) (ls : List (List Int)) (w : World) (hL : LcM ls vl w) (hn : ls.length ≤ 1000) (hm : ∀ x ∈ ls, x.length ≤ 1000) :
    Calls Tryz.prog 25 #[vl] w fun e w' => ∃ ao m c, e = .returned (.slice ao m c) ∧ Acc w (ls.map tleafP) (.slice ao m c) w' := by
  have HL := hide hL
  have HM := hide hm
  obtain ⟨al, cl, e, h1, h2, h3⟩ := hL.shape
  obtain ⟨N, hN⟩ : ∃ N, N = ls.length := ⟨_, rfl⟩
  rw [← hN] at e hn
  subst e
  have HN := hide hN
  have hnn : (N : Int) ≤ 1000 := by omega
  clear hL hm hN h1 h2 h3
  go_enter Tryz.func25, Tryz.ntmps25
  go_wp2_with fail
  go_loopw [3, 4] (fun v i wr => ∃ (k m cc : Nat) (ao : Option Addr), k ≤ N ∧ v = .slice ao m cc ∧ i = .int .i64 k ∧ Acc w ((ls.take k).map tleafP) v wr) (fun _ i _ => N - (intOf i).toNat)
  case atStart => exact ⟨0, 0, 0, none, by omega, rfl, rfl, [], ⟨World.ownsRow_nil _ _ _ _, fun x hx => by cases hx⟩, rfl, Kp.refl _ _⟩
  case round =>
    obtain ⟨k, m, cc, ao, hk, rfl, rfl, Ar⟩ := hrel
    have HA := hide Ar
    clear Ar
    by_cases hlt : k < N
    · have hlt2 : (k : Int) < (N : Int) := by omega
      have hkl : k < ls.length := by have := unhide HN; omega
      have HE : Hid ((ls.take (k + 1)).map tleafP = (ls.take k).map tleafP ++ [tleafP ls[k]]) := hide (by rw [List.take_succ_eq_append_getElem hkl, List.map_append]; rfl)
      have hx := List.getElem?_eq_getElem hkl
      have hml := unhide HM ls[k] (List.getElem_mem hkl)
      have HLN : Hid (((ls.take k).map tleafP).length ≤ 1000000) := hide (by simp; omega)
      obtain ⟨x, hxx⟩ : ∃ x, x = ls[k] := ⟨_, rfl⟩
      rw [← hxx] at HE hx hml
      obtain ⟨-, b, off, u, rfl, hc, hS, hB⟩ := (unhide HL).at k x hx
      have Kr := (unhide HA).kp
      have hcw := Kr.cell hc (by simp)
      have hSw := hS.kept Kr (by simp)
      obtain ⟨ax, cx, hux, _⟩ := hS
      obtain ⟨nx, hnx⟩ : ∃ nx, nx = x.length := ⟨_, rfl⟩
      rw [← hnx] at hux
      subst hux
      obtain ⟨r, hr⟩ : ∃ r, r = tleafP x := ⟨_, rfl⟩
      rw [← hr] at HE
      have HRB : Hid (Bs r) := by rw [hr]; exact sha_bs _
      have HC := hide (rleaf_any _ x r hr wr hSw hB (by omega))
      clear hx hxx hkl hc hSw hB hnx hr Kr
      go_wp2_with fail
      refine (unhide HC).mono ?_
      rintro ee w4 ⟨a4, m4, c4, rfl, R4, K4⟩
      have HR4 := hide R4
      have HK4 := hide K4
      clear R4 K4 HC hcw
      go_wp2_with (at_builtin; refine wpList_acc rfl (.tmp 11) (.tmp 17) rfl _ _ rfl (unhide HA) (unhide HLN) _ r (unhide HK4) (unhide HR4) (unhide HRB) rfl ?_; intro ao5 m5 c5 w5 A5)
      go_roundw
      case rel => exact ⟨k + 1, m5, c5, ao5, by omega, rfl, by go_num, by have e := unhide HE; rw [e]; exact A5⟩
      case measure => simp [intOf]; omega
    · obtain rfl : k = N := by omega
      have e : (ls.take k).map tleafP = ls.map tleafP := by rw [unhide HN, List.take_length]
      rw [e] at HA
      clear e
      go_wp2_with fail
      go_ret
      exact ⟨ao, m, cc, rfl, unhide HA⟩
end Go.Proofs.YtillhpgdlmeajaaGreatDoor
