/-
  What a path leads to: the contracts of the program's withoutLast, auditRoot, growthRoots, and of bytes.Clone.
-/
import Derived.Test.YtphhofgjnlfjmaaDoorKPSpecs
import Derived.Test.YtphhofgjnlfjmaaDoorKTGrow
import Derived.Test.YtphhofgjnlfjmaaDoorKTNode
import Derived.Test.YtphhofgjnlfjmaaDoorKTSplits
import Derived.Test.YtphhofgjnlfjmaaDoorKPLeds
import Derived.Test.YtphhofgjnlfjmaaDoorKPCount
namespace Go.Proofs.YtphhofgjnlfjmaaDoor
open Go.RowKit
open Go.Proofs

set_option maxRecDepth 100000 in
set_option maxHeartbeats 1000000 in
theorem wlast_any (v : Value) (ps : List (List Int)) (w : World) (hL : LcM ps v w) (hp : 0 < ps.length) :
    Calls Tryd.prog 60 #[v] w fun e w' => ∃ a1 m1 c1 a2 m2 c2, e = .returned (.tuple #[.slice a1 m1 c1, .slice a2 m2 c2]) ∧ LcM (initP ps) (.slice a1 m1 c1) w' ∧ Sl w' (.slice a2 m2 c2) (lastP ps) ∧ Kp [] w w' := by
  obtain ⟨ao, c, e, h1, h2, h3⟩ := hL.shape
  obtain ⟨q, hq⟩ : ∃ q, ps.length = q + 1 := ⟨ps.length - 1, by omega⟩
  rw [hq] at e h1
  subst e
  have HQ : Hid (q ≤ ps.length) := hide (by omega)
  have HI : Hid (ps.take q = initP ps) := hide (by unfold initP; rw [hq]; rfl)
  have HX : Hid (ps[q]? = some (lastP ps)) := hide (by have := lastP_at hp; rw [hq] at this; exact this)
  have HLL : Hid (∀ w', Kp [] w.drew w' → LcM ps (.slice ao (q + 1) c) w') := fun w' k' => hL.kept ((kp_drew w).trans k')
  clear hL h3 hq hp
  go_enter Tryd.func60, Tryd.ntmps60
  go_wp2_with fail
  refine region_grow Tryd.mixed [Is (.slice ao (q + 1) c), Is (.int .i64 q), LcM ((ps).take q), Is (.slice ao (q + 1) c), Is (.int .i64 q), PtT (lastP ps), SlT (lastP ps), LcM ((ps).take q), SlT (lastP ps)] [[(0, none)], [(4, none)], [(8, some 0), (9, some 1)], [(0, none)], [(4, none)], [(11, some 3), (12, some 4)], [(13, some 5)], [(10, some 2)], [(14, some 6)]] (by kernel_rfl) ?_ ?_ ?_
  · simp only [List.mem_cons, List.not_mem_nil, or_false]
    intro R hR
    rcases hR with rfl | rfl | rfl | rfl | rfl | rfl | rfl | rfl | rfl <;> first | exact stable_is _ | exact stable_lcm _ | exact stable_pt _ | exact stable_sl _
  · refine steps_cons (fun a w hk hn => ?_) ?_
    · have h0 : a.eval (.tmp 0) = .slice ao (q + 1) c := hn.1
      clear hn
      refine wants_plain rfl ?_
      exact grown_move (.tmp 0) rfl h0
    refine steps_cons (fun a w hk hn => ?_) ?_
    · have h4 : a.eval (.tmp 4) = .int .i64 q := hn.1
      clear hn
      refine wants_plain rfl ?_
      exact grown_move (.tmp 4) rfl h4
    refine steps_cons (fun a w hk hn => ?_) ?_
    · have h8 : a.eval (.tmp 8) = .slice ao (q + 1) c := hn.1
      have h9 : a.eval (.tmp 9) = .int .i64 q := hn.2.1
      clear hn
      refine wants_plain rfl ?_
      exact grown_lhead (.tmp 8) (.tmp 9) (ps) q rfl (by rw [h8]; exact unhide HLL w hk) h9 (unhide HQ)
    refine steps_cons (fun a w hk hn => ?_) ?_
    · have h0 : a.eval (.tmp 0) = .slice ao (q + 1) c := hn.1
      clear hn
      refine wants_plain rfl ?_
      exact grown_move (.tmp 0) rfl h0
    refine steps_cons (fun a w hk hn => ?_) ?_
    · have h4 : a.eval (.tmp 4) = .int .i64 q := hn.1
      clear hn
      refine wants_plain rfl ?_
      exact grown_move (.tmp 4) rfl h4
    refine steps_cons (fun a w hk hn => ?_) ?_
    · have h11 : a.eval (.tmp 11) = .slice ao (q + 1) c := hn.1
      have h12 : a.eval (.tmp 12) = .int .i64 q := hn.2.1
      clear hn
      refine wants_plain rfl ?_
      exact grown_lindex (.tmp 11) (.tmp 12) (ps) q (lastP ps) rfl (by rw [h11]; exact unhide HLL w hk) h12 (unhide HX)
    refine steps_cons (fun a w hk hn => ?_) ?_
    · have h13 : (PtT (lastP ps)) (a.eval (.tmp 13)) w := hn.1
      clear hn
      refine wants_plain rfl ?_
      exact grown_lload (.tmp 13) _ rfl h13
    refine steps_cons (fun a w hk hn => ?_) ?_
    · have h10 : (LcM ((ps).take q)) (a.eval (.tmp 10)) w := hn.1
      clear hn
      refine wants_plain rfl ?_
      exact grown_assign (.tmp 10) rfl h10
    refine steps_cons (fun a w hk hn => ?_) ?_
    · have h14 : Sl w (a.eval (.tmp 14)) (lastP ps) := hn.1
      clear hn
      refine wants_plain rfl ?_
      exact grown_assign (.tmp 14) rfl h14
    exact trivial
  intro W1 hkW1
  rintro _ rfl
  rintro _ rfl
  intro v10 h10
  rintro _ rfl
  rintro _ rfl
  intro v13 h13
  intro v14 h14
  intro v2 h2
  intro v3 h3
  refine fin_nil ?_
  simp only [Act.put, List.set_cons_zero, List.set_cons_succ, List.setIfInBounds_toArray]
  rw [unhide HI] at h2
  have H2 := hide h2
  have H3 := hide h3
  have HK := hide ((kp_drew w).trans hkW1)
  obtain ⟨a1, c1, e1, -⟩ := h2.shape
  obtain ⟨a2, c2, e2, -⟩ := h3
  subst e1
  subst e2
  clear h2 h10 h13 h14 hkW1
  go_wp2_with fail
  go_ret2
  exact ⟨a1, _, c1, a2, _, c2, rfl, unhide H2, unhide H3, unhide HK⟩

set_option maxRecDepth 100000 in
set_option maxHeartbeats 1000000 in
theorem clone_any (v : Value) (bs : List Int) (w : World) (hS : Sl w v bs) (hl : bs.length = 32) :
    Calls Tryd.prog 55 #[v] w fun e w' => ∃ ao m c, e = .returned (.slice ao m c) ∧ Row w' w.heap.size (.slice ao m c) bs ∧ Kp [] w w' := by
  have ob := (Kp.refl [] w).alloc (.cells #[] 5)
  have HK := hide ob
  have HSw := hide (hS.kept ob (by simp))
  have HL := hide hl
  obtain ⟨ax, cx, rfl, h1, h2, h3, -⟩ := hS
  obtain ⟨nx, hnx⟩ : ∃ nx, nx = bs.length := ⟨_, rfl⟩
  cases ax with
  | none => have := h3 rfl; omega
  | some ad =>
    rw [← hnx] at HSw ⊢
    have hR0 : Hid (Row (w.alloc (.cells #[] 5)) w.heap.size (.slice (some ⟨w.heap.size, 0, none⟩) 0 0) []) := row_of_block (bs := []) (Nat.le_refl _) (heap_alloc_new w _) rfl (by simp [maxLen])
    have heq : ∀ w, (binOp .eql 30 (.slice (some ad) nx cx) (.slice none 0 0)).run Tryd.prog w = .ok (.bool false) w := fun _ => rfl
    clear ob hl hnx h1 h2 h3
    go_enter Tryd.func55, Tryd.ntmps55
    go_wp2_with (at_builtin; refine wpList_append_row rfl (.tmp 5) (.tmp 6) rfl w.heap.size _ _ rfl (unhide hR0) _ bs rfl (unhide HSw) (by have := unhide HL; simp; omega) (by simp) ?_; intro ao2 m2 c2 w2 r2 s2)
    go_ret
    exact ⟨ao2, m2, c2, rfl, by simpa using r2, (unhide hR0).step (unhide HK) s2⟩

theorem both32 (bs : List Int) : Bs (sha bs) ∧ (sha bs).length = 32 := ⟨sha_bs bs, sha_len bs⟩
set_option maxRecDepth 100000 in
set_option maxHeartbeats 2000000 in
theorem aroot_any (n : Nat) : ∀ (v vx : Value) (ps : List (List Int)) (x : List Int) (i : Nat) (r : List Int) (w : World), r = leadP n i ps x → i < n → n ≤ 9223372036854775807 → ps.length = cntP n i → LcM ps v w → (∀ y ∈ ps, y.length = 32) → Sl w vx x → Bs x → x.length = 32 → Gl w →
    Calls Tryd.prog 44 #[v, vx, .int .i64 i, .int .i64 n] w fun e w' => ∃ ao m c, e = .returned (.slice ao m c) ∧ Row w' w.heap.size (.slice ao m c) r ∧ Kp [] w w' := by
  induction n using Nat.strongRecOn with
  | ind n ih =>
    intro v vx ps x i r w hr hin hn hpc hL hm hS hB hxl hG
    by_cases h2n : 2 ≤ n
    · have hsmi : ¬ (n : Int) = 1 := by omega
      obtain ⟨k, hk⟩ : ∃ k, k = tsplP n := ⟨_, rfl⟩
      have hk1 : 1 ≤ k := by rw [hk]; exact tsplP_pos h2n
      have hk2 : k < n := by rw [hk]; exact tsplP_lt h2n
      have HC := hide (tsplit_any n k w (by rw [Int.toNat_natCast]; exact hk) (by omega))
      have hpl : 0 < ps.length := by rw [hpc, cntP_more h2n]; split <;> omega
      have HW := hide (wlast_any v ps w hL hpl)
      have hyl : (lastP ps).length = 32 := hm _ (lastP_mem hpl)
      have HYB : Hid (Bs (lastP ps)) := hL.bs _ (lastP_mem hpl)
      obtain ⟨y, hy⟩ : ∃ y, y = lastP ps := ⟨_, rfl⟩
      obtain ⟨qs, hqs⟩ : ∃ qs, qs = initP ps := ⟨_, rfl⟩
      have hql : qs.length = ps.length - 1 := by rw [hqs, initP_len]
      have hqm : ∀ z ∈ qs, z.length = 32 := fun z hz => hm z (initP_mem (by rw [← hqs]; exact hz))
      rw [← hy] at hyl HYB HW
      rw [← hqs] at HW
      have HS := hide hS
      have HL := hide hL
      have HG := hide hG
      by_cases hik : i < k
      · have hci : (i : Int) < (k : Int) := by omega
        obtain ⟨ra, hra⟩ : ∃ r, r = leadP k i qs x := ⟨_, rfl⟩
        have HR : Hid (r = tnodeP ra y) := hide (by rw [hr, leadP_left h2n hk hik, hra, hqs, hy])
        have hrl := leadP_all (fun z => Bs z ∧ z.length = 32) both32 k i qs x ⟨hB, hxl⟩
        rw [← hra] at hrl
        have HRB := hide hrl.1
        have hral := hrl.2
        have hqc : qs.length = cntP k i := by rw [hql, hpc, cntP_left h2n (by rw [← hk]; exact hik), ← hk]; rfl
        have hA := fun v w hL hS hG => ih k (by omega) v vx qs x i ra w hra (by omega) (by omega) hqc hL hqm hS hB hxl hG
        have HA := hide hA
        obtain ⟨avx, cvx, hvx, -⟩ := hS
        rw [hxl] at hvx
        subst hvx
        obtain ⟨av, cv, hv, -⟩ := hL.shape
        obtain ⟨nv, hnv⟩ : ∃ nv, nv = ps.length := ⟨_, rfl⟩
        rw [← hnv] at hv
        subst hv
        clear hnv
        clear hA hra hrl hqc hr hk hik hpl hy hqs hql hqm hpc hm hB hxl hL ih h2n hG
        go_enter Tryd.func44, Tryd.ntmps44
        go_wp2_with fail
        refine (unhide HC).mono ?_
        rintro ee w1 ⟨rfl, hw⟩
        subst w1
        clear HC
        go_wp2_with fail
        refine (unhide HW).mono ?_
        rintro ee w2 ⟨a1, m1, c1, a2, m2, c2, rfl, hLq, hSy, K2⟩
        have HLQ := hide hLq
        have HSY := hide hSy
        have HK2 := hide K2
        clear hLq hSy K2 HW
        go_wp2_with fail
        refine (unhide HA _ w2 (unhide HLQ) ((unhide HS).kept (unhide HK2) (by simp)) ((unhide HG).kept (unhide HK2) (by simp))).mono ?_
        rintro ee w3 ⟨a3, m3, c3, rfl, R3, K3⟩
        have HR3 := hide R3
        have HK3 := hide ((unhide HK2).trans K3)
        have HSY3 := hide ((unhide HSY).kept K3 (by simp))
        clear R3 K3 HA
        have HN := hide (tnode_any _ _ ra y r (unhide HR) w3 (unhide HR3).sl (unhide HRB) (by omega) (unhide HSY3) (unhide HYB) (by omega) ((unhide HG).kept (unhide HK3) (by simp)))
        go_wp2_with fail
        refine (unhide HN).mono ?_
        rintro ee w4 ⟨a4, m4, c4, rfl, R4, K4⟩
        have HR4 := hide R4
        have HK4 := hide K4
        clear R4 K4 HN
        go_wp2_with fail
        go_ret
        exact ⟨a4, m4, c4, rfl, row_new (unhide HR4) (unhide HK3), (unhide HK3).trans (unhide HK4)⟩
      · have hci : ¬ (i : Int) < (k : Int) := by omega
        obtain ⟨ra, hra⟩ : ∃ r, r = leadP (n - k) (i - k) qs x := ⟨_, rfl⟩
        have HR : Hid (r = tnodeP y ra) := hide (by rw [hr, leadP_right h2n hk hik, hra, hqs, hy])
        have hrl := leadP_all (fun z => Bs z ∧ z.length = 32) both32 (n - k) (i - k) qs x ⟨hB, hxl⟩
        rw [← hra] at hrl
        have HRB := hide hrl.1
        have hral := hrl.2
        have hqc : qs.length = cntP (n - k) (i - k) := by rw [hql, hpc, cntP_right h2n (by rw [← hk]; exact hik), ← hk]; rfl
        have hA := fun v w hL hS hG => ih (n - k) (by omega) v vx qs x (i - k) ra w hra (by omega) (by omega) hqc hL hqm hS hB hxl hG
        rw [show ((i - k : Nat) : Int) = (i : Int) - (k : Int) by omega, show ((n - k : Nat) : Int) = (n : Int) - (k : Int) by omega] at hA
        have HA := hide hA
        obtain ⟨avx, cvx, hvx, -⟩ := hS
        rw [hxl] at hvx
        subst hvx
        obtain ⟨av, cv, hv, -⟩ := hL.shape
        obtain ⟨nv, hnv⟩ : ∃ nv, nv = ps.length := ⟨_, rfl⟩
        rw [← hnv] at hv
        subst hv
        clear hnv
        clear hA hra hrl hqc hr hk hik hpl hy hqs hql hqm hpc hm hB hxl hL ih h2n hG
        go_enter Tryd.func44, Tryd.ntmps44
        go_wp2_with fail
        refine (unhide HC).mono ?_
        rintro ee w1 ⟨rfl, hw⟩
        subst w1
        clear HC
        go_wp2_with fail
        refine (unhide HW).mono ?_
        rintro ee w2 ⟨a1, m1, c1, a2, m2, c2, rfl, hLq, hSy, K2⟩
        have HLQ := hide hLq
        have HSY := hide hSy
        have HK2 := hide K2
        clear hLq hSy K2 HW
        go_wp2_with fail
        refine (unhide HA _ w2 (unhide HLQ) ((unhide HS).kept (unhide HK2) (by simp)) ((unhide HG).kept (unhide HK2) (by simp))).mono ?_
        rintro ee w3 ⟨a3, m3, c3, rfl, R3, K3⟩
        have HR3 := hide R3
        have HK3 := hide ((unhide HK2).trans K3)
        have HSY3 := hide ((unhide HSY).kept K3 (by simp))
        clear R3 K3 HA
        have HN := hide (tnode_any _ _ y ra r (unhide HR) w3 (unhide HSY3) (unhide HYB) (by omega) (unhide HR3).sl (unhide HRB) (by omega) ((unhide HG).kept (unhide HK3) (by simp)))
        go_wp2_with fail
        refine (unhide HN).mono ?_
        rintro ee w4 ⟨a4, m4, c4, rfl, R4, K4⟩
        have HR4 := hide R4
        have HK4 := hide K4
        clear R4 K4 HN
        go_wp2_with fail
        go_ret
        exact ⟨a4, m4, c4, rfl, row_new (unhide HR4) (unhide HK3), (unhide HK3).trans (unhide HK4)⟩
    · obtain rfl : n = 1 := by omega
      rw [leadP_small (by omega)] at hr
      subst hr
      have HC := hide (clone_any vx r w hS hxl)
      obtain ⟨avx, cvx, hvx, -⟩ := hS
      rw [hxl] at hvx
      subst hvx
      clear hm hL hB hpc ih h2n hG
      go_enter Tryd.func44, Tryd.ntmps44
      go_wp2_with fail
      refine (unhide HC).mono ?_
      rintro ee w2 ⟨a2, m2, c2, rfl, R2, K2⟩
      have HR2 := hide R2
      have HK2 := hide K2
      clear R2 K2 HC
      go_wp2_with fail
      go_ret
      exact ⟨a2, m2, c2, rfl, unhide HR2, unhide HK2⟩
set_option maxRecDepth 100000 in
set_option maxHeartbeats 4000000 in
theorem groots_any (n : Nat) : ∀ (v vx : Value) (ps : List (List Int)) (x : List Int) (m : Nat) (b : Bool) (r1 r2 : List Int) (w : World), r1 = (ldsP m n b ps x).1 → r2 = (ldsP m n b ps x).2 → 1 ≤ m → m ≤ n → n ≤ 9223372036854775807 → ps.length = lenP m n b → LcM ps v w → (∀ y ∈ ps, y.length = 32) → Sl w vx x → Bs x → x.length = 32 → Gl w →
    Calls Tryd.prog 54 #[v, vx, .int .i64 m, .int .i64 n, .bool b] w fun e w' => ∃ a1 m1 c1 a2 m2 c2, e = .returned (.tuple #[.slice a1 m1 c1, .slice a2 m2 c2]) ∧ Sl w' (.slice a1 m1 c1) r1 ∧ Sl w' (.slice a2 m2 c2) r2 ∧ Kp [] w w' := by
  induction n using Nat.strongRecOn with
  | ind n ih =>
    intro v vx ps x m b r1 r2 w hr1 hr2 h1m hin hn hpc hL hm hS hB hxl hG
    have HS := hide hS
    by_cases hsm : m = n
    · subst hsm
      cases b with
      | true =>
        rw [ldsP_old] at hr1 hr2
        subst hr1
        subst hr2
        obtain ⟨avx, cvx, hvx, -⟩ := hS
        obtain ⟨nvx, hnv⟩ : ∃ nv, nv = r2.length := ⟨_, rfl⟩
        rw [← hnv] at hvx
        subst hvx
        clear hm hL hB hpc ih hxl hnv hG
        go_enter Tryd.func54, Tryd.ntmps54
        go_wp2_with fail
        go_ret2
        exact ⟨_, _, _, _, _, _, rfl, unhide HS, unhide HS, Kp.refl _ _⟩
      | false =>
        rw [ldsP_new] at hr1 hr2
        rw [lenP_same] at hpc
        have hpc1 : ps.length = 1 := hpc
        obtain ⟨y, hy⟩ : ∃ y, y = ps.getD 0 [] := ⟨_, rfl⟩
        have HX : Hid (ps[0]? = some y) := hide (by rw [hy]; match ps, hpc1 with | [z], _ => rfl)
        rw [← hy] at hr1 hr2
        rw [hr1, hr2]
        clear hr1 hr2
        have HLL : Hid (∀ w', Kp [] w.drew w' → LcM ps v w') := fun w' k' => hL.kept ((kp_drew w).trans k')
        obtain ⟨av, cv, hv, -⟩ := hL.shape
        rw [hpc1] at hv
        subst hv
        clear hm hL hB hpc ih hxl hpc1 hy hG
        go_enter Tryd.func54, Tryd.ntmps54
        go_wp2_with fail
        refine region_grow Tryd.mixed [Is (.slice av 1 cv), PtT (y), SlT (y), Is (.slice av 1 cv), PtT (y), SlT (y), SlT (y), SlT (y)] [[(0, none)], [(21, some 0)], [(22, some 1)], [(0, none)], [(24, some 3)], [(25, some 4)], [(23, some 2)], [(26, some 5)]] (by kernel_rfl) ?_ ?_ ?_
        · simp only [List.mem_cons, List.not_mem_nil, or_false]
          intro R hR
          rcases hR with rfl | rfl | rfl | rfl | rfl | rfl | rfl | rfl <;> first | exact stable_is _ | exact stable_pt _ | exact stable_sl _
        · refine steps_cons (fun a w hk hn => ?_) ?_
          · have h0 : a.eval (.tmp 0) = .slice av 1 cv := hn.1
            clear hn
            refine wants_plain rfl ?_
            exact grown_move (.tmp 0) rfl h0
          refine steps_cons (fun a w hk hn => ?_) ?_
          · have h21 : a.eval (.tmp 21) = .slice av 1 cv := hn.1
            clear hn
            refine wants_plain rfl ?_
            exact grown_lindex (.tmp 21) _ (ps) 0 (y) rfl (by rw [h21]; exact unhide HLL w hk) rfl (unhide HX)
          refine steps_cons (fun a w hk hn => ?_) ?_
          · have h22 : (PtT (y)) (a.eval (.tmp 22)) w := hn.1
            clear hn
            refine wants_plain rfl ?_
            exact grown_lload (.tmp 22) _ rfl h22
          refine steps_cons (fun a w hk hn => ?_) ?_
          · have h0 : a.eval (.tmp 0) = .slice av 1 cv := hn.1
            clear hn
            refine wants_plain rfl ?_
            exact grown_move (.tmp 0) rfl h0
          refine steps_cons (fun a w hk hn => ?_) ?_
          · have h24 : a.eval (.tmp 24) = .slice av 1 cv := hn.1
            clear hn
            refine wants_plain rfl ?_
            exact grown_lindex (.tmp 24) _ (ps) 0 (y) rfl (by rw [h24]; exact unhide HLL w hk) rfl (unhide HX)
          refine steps_cons (fun a w hk hn => ?_) ?_
          · have h25 : (PtT (y)) (a.eval (.tmp 25)) w := hn.1
            clear hn
            refine wants_plain rfl ?_
            exact grown_lload (.tmp 25) _ rfl h25
          refine steps_cons (fun a w hk hn => ?_) ?_
          · have h23 : Sl w (a.eval (.tmp 23)) (y) := hn.1
            clear hn
            refine wants_plain rfl ?_
            exact grown_assign (.tmp 23) rfl h23
          refine steps_cons (fun a w hk hn => ?_) ?_
          · have h26 : Sl w (a.eval (.tmp 26)) (y) := hn.1
            clear hn
            refine wants_plain rfl ?_
            exact grown_assign (.tmp 26) rfl h26
          exact trivial
        intro W1 hkW1
        rintro _ rfl
        intro v22 h22
        intro v23 h23
        rintro _ rfl
        intro v25 h25
        intro v26 h26
        intro v10 h10
        intro v11 h11
        refine fin_nil ?_
        simp only [Act.put, List.set_cons_zero, List.set_cons_succ, List.setIfInBounds_toArray]
        have H10 := hide h10
        have H11 := hide h11
        have HK := hide ((kp_drew w).trans hkW1)
        obtain ⟨a1, c1, e1, -⟩ := h10
        obtain ⟨a2, c2, e2, -⟩ := h11
        subst e1
        subst e2
        clear hkW1 h22 h23 h25 h26
        go_wp2_with fail
        go_ret2
        exact ⟨a1, _, c1, a2, _, c2, rfl, unhide H10, unhide H11, unhide HK⟩
    · have hsmi : ¬ (m : Int) = (n : Int) := by omega
      have h2n : 2 ≤ n := by omega
      have hmn : m < n := by omega
      obtain ⟨k, hk⟩ : ∃ k, k = tsplP n := ⟨_, rfl⟩
      have hk1 : 1 ≤ k := by rw [hk]; exact tsplP_pos h2n
      have hk2 : k < n := by rw [hk]; exact tsplP_lt h2n
      have HC := hide (tsplit_any n k w (by rw [Int.toNat_natCast]; exact hk) (by omega))
      have hpl : 0 < ps.length := by
        rw [hpc]
        by_cases h : m ≤ k
        · rw [lenP_left h1m hmn hk h]; omega
        · rw [lenP_right h1m hmn hk h]; omega
      have HW := hide (wlast_any v ps w hL hpl)
      have hyl : (lastP ps).length = 32 := hm _ (lastP_mem hpl)
      have HYB : Hid (Bs (lastP ps)) := hL.bs _ (lastP_mem hpl)
      obtain ⟨y, hy⟩ : ∃ y, y = lastP ps := ⟨_, rfl⟩
      obtain ⟨qs, hqs⟩ : ∃ qs, qs = initP ps := ⟨_, rfl⟩
      have hql : qs.length = ps.length - 1 := by rw [hqs, initP_len]
      have hqm : ∀ z ∈ qs, z.length = 32 := fun z hz => hm z (initP_mem (by rw [← hqs]; exact hz))
      have hqb : ∀ z ∈ qs, Bs z := fun z hz => hL.bs z (initP_mem (by rw [← hqs]; exact hz))
      rw [← hy] at hyl HYB HW
      rw [← hqs] at HW
      have HG := hide hG
      have HL := hide hL
      by_cases hik : m ≤ k
      · have hci : (m : Int) ≤ (k : Int) := by omega
        obtain ⟨ra, hra⟩ : ∃ r, r = (ldsP m k b qs x).1 := ⟨_, rfl⟩
        obtain ⟨rb, hrb⟩ : ∃ r, r = (ldsP m k b qs x).2 := ⟨_, rfl⟩
        rw [ldsP_left h1m hmn hk hik, ← hqs, ← hy] at hr1 hr2
        dsimp only at hr1 hr2
        rw [← hra] at hr1
        rw [← hrb] at hr2
        have HR1 := hide hr1
        have HR2 := hide hr2
        have hqc : qs.length = lenP m k b := by rw [hql, hpc, lenP_left h1m hmn hk hik]; rfl
        have hall := ldsP_all (fun z => Bs z ∧ z.length = 32) both32 k m b qs x (by omega) (by omega) hqc (fun z hz => ⟨hqb z hz, hqm z hz⟩) ⟨hB, hxl⟩
        rw [← hra, ← hrb] at hall
        have HRA := hide hall.1
        have HRB := hide hall.2
        have hA := fun v w hL hS hG => ih k (by omega) v vx qs x m b ra rb w hra hrb (by omega) (by omega) (by omega) hqc hL hqm hS hB hxl hG
        have HA := hide hA
        obtain ⟨avx, cvx, hvx, -⟩ := hS
        rw [hxl] at hvx
        subst hvx
        obtain ⟨av, cv, hv, -⟩ := hL.shape
        obtain ⟨nv, hnv⟩ : ∃ nv, nv = ps.length := ⟨_, rfl⟩
        rw [← hnv] at hv
        subst hv
        clear hnv
        clear hA hra hrb hall hqc hr1 hr2 hk hik hpl hy hqs hql hqm hqb hpc hm hB hxl hL ih h2n hsm hmn hG
        go_enter Tryd.func54, Tryd.ntmps54
        go_wp2_with fail
        refine (unhide HC).mono ?_
        rintro ee w1 ⟨rfl, hw⟩
        subst w1
        clear HC
        go_wp2_with fail
        refine (unhide HW).mono ?_
        rintro ee w2 ⟨a1, m1, c1, a2, m2, c2, rfl, hLq, hSy, K2⟩
        have HLQ := hide hLq
        have HSY := hide hSy
        have HK2 := hide K2
        clear hLq hSy K2 HW
        go_wp2_with fail
        refine (unhide HA _ w2 (unhide HLQ) ((unhide HS).kept (unhide HK2) (by simp)) ((unhide HG).kept (unhide HK2) (by simp))).mono ?_
        rintro ee w3 ⟨a3, m3, c3, a4, m4, c4, rfl, S3, S4, K3⟩
        have HK3 := hide ((unhide HK2).trans K3)
        have HS3 := hide S3
        have HS4 := hide S4
        have HSY3 := hide ((unhide HSY).kept K3 (by simp))
        clear S3 S4 K3 HA
        have HN := hide (tnode_any _ _ rb y r2 (unhide HR2) w3 (unhide HS4) (unhide HRB).1 (by rw [(unhide HRB).2]; omega) (unhide HSY3) (unhide HYB) (by omega) ((unhide HG).kept (unhide HK3) (by simp)))
        go_wp2_with fail
        refine (unhide HN).mono ?_
        rintro ee w4 ⟨a5, m5, c5, rfl, R5, K5⟩
        have HR5 := hide R5
        have HK5 := hide K5
        clear R5 K5 HN
        go_wp2_with fail
        go_ret2
        exact ⟨a3, m3, c3, a5, m5, c5, rfl, by rw [unhide HR1]; exact (unhide HS3).kept (unhide HK5) (by simp), (unhide HR5).sl, (unhide HK3).trans (unhide HK5)⟩
      · have hci : ¬ (m : Int) ≤ (k : Int) := by omega
        obtain ⟨ra, hra⟩ : ∃ r, r = (ldsP (m - k) (n - k) false qs x).1 := ⟨_, rfl⟩
        obtain ⟨rb, hrb⟩ : ∃ r, r = (ldsP (m - k) (n - k) false qs x).2 := ⟨_, rfl⟩
        rw [ldsP_right h1m hmn hk hik, ← hqs, ← hy] at hr1 hr2
        dsimp only at hr1 hr2
        rw [← hra] at hr1
        rw [← hrb] at hr2
        have HR1 := hide hr1
        have HR2 := hide hr2
        have hqc : qs.length = lenP (m - k) (n - k) false := by rw [hql, hpc, lenP_right h1m hmn hk hik]; rfl
        have hall := ldsP_all (fun z => Bs z ∧ z.length = 32) both32 (n - k) (m - k) false qs x (by omega) (by omega) hqc (fun z hz => ⟨hqb z hz, hqm z hz⟩) ⟨hB, hxl⟩
        rw [← hra, ← hrb] at hall
        have HRA := hide hall.1
        have HRB := hide hall.2
        have hA := fun v w hL hS hG => ih (n - k) (by omega) v vx qs x (m - k) false ra rb w hra hrb (by omega) (by omega) (by omega) hqc hL hqm hS hB hxl hG
        rw [show ((m - k : Nat) : Int) = (m : Int) - (k : Int) by omega, show ((n - k : Nat) : Int) = (n : Int) - (k : Int) by omega] at hA
        have HA := hide hA
        obtain ⟨avx, cvx, hvx, -⟩ := hS
        rw [hxl] at hvx
        subst hvx
        obtain ⟨av, cv, hv, -⟩ := hL.shape
        obtain ⟨nv, hnv⟩ : ∃ nv, nv = ps.length := ⟨_, rfl⟩
        rw [← hnv] at hv
        subst hv
        clear hnv
        clear hA hra hrb hall hqc hr1 hr2 hk hik hpl hy hqs hql hqm hqb hpc hm hB hxl hL ih h2n hsm hmn hG
        go_enter Tryd.func54, Tryd.ntmps54
        go_wp2_with fail
        refine (unhide HC).mono ?_
        rintro ee w1 ⟨rfl, hw⟩
        subst w1
        clear HC
        go_wp2_with fail
        refine (unhide HW).mono ?_
        rintro ee w2 ⟨a1, m1, c1, a2, m2, c2, rfl, hLq, hSy, K2⟩
        have HLQ := hide hLq
        have HSY := hide hSy
        have HK2 := hide K2
        clear hLq hSy K2 HW
        go_wp2_with fail
        refine (unhide HA _ w2 (unhide HLQ) ((unhide HS).kept (unhide HK2) (by simp)) ((unhide HG).kept (unhide HK2) (by simp))).mono ?_
        rintro ee w3 ⟨a3, m3, c3, a4, m4, c4, rfl, S3, S4, K3⟩
        have HK3 := hide ((unhide HK2).trans K3)
        have HS3 := hide S3
        have HS4 := hide S4
        have HSY3 := hide ((unhide HSY).kept K3 (by simp))
        clear S3 S4 K3 HA
        have HN := hide (tnode_any _ _ y ra r1 (unhide HR1) w3 (unhide HSY3) (unhide HYB) (by omega) (unhide HS3) (unhide HRA).1 (by rw [(unhide HRA).2]; omega) ((unhide HG).kept (unhide HK3) (by simp)))
        go_wp2_with fail
        refine (unhide HN).mono ?_
        rintro ee w4 ⟨a5, m5, c5, rfl, R5, K5⟩
        have HR5 := hide R5
        have HK5 := hide ((unhide HK3).trans K5)
        have HSY5 := hide ((unhide HSY3).kept K5 (by simp))
        have HS45 := hide ((unhide HS4).kept K5 (by simp))
        clear R5 K5 HN
        have HN := hide (tnode_any _ _ y rb r2 (unhide HR2) w4 (unhide HSY5) (unhide HYB) (by omega) (unhide HS45) (unhide HRB).1 (by rw [(unhide HRB).2]; omega) ((unhide HG).kept (unhide HK5) (by simp)))
        go_wp2_with fail
        refine (unhide HN).mono ?_
        rintro ee w5 ⟨a6, m6, c6, rfl, R6, K6⟩
        have HR6 := hide R6
        have HK6 := hide K6
        clear R6 K6 HN
        go_wp2_with fail
        go_ret2
        exact ⟨a5, m5, c5, a6, m6, c6, rfl, (unhide HR5).sl.kept (unhide HK6) (by simp), (unhide HR6).sl, (unhide HK5).trans (unhide HK6)⟩
end Go.Proofs.YtphhofgjnlfjmaaDoor

/-
  The contracts of the program's Lead and Leads.
-/
namespace Go.Proofs.YtphhofgjnlfjmaaDoor
open Go.RowKit
open Go.Proofs

set_option maxRecDepth 100000 in
set_option maxHeartbeats 4000000 in
theorem lead_any (v vx : Value) (i n : Int) (ps : List (List Int)) (x : List Int) (w : World) (hV : TV w v i n ps) (hS : Sl w vx x) (hB : Bs x) (hn : n ≤ 9223372036854775807) (hG : Gl w) :
    Calls Tryd.prog 24 #[v, vx] w fun e w' => ∃ ao m c, e = .returned (.tuple #[.slice ao m c, .bool (ledOk i n ps x)]) ∧ Sl w' (.slice ao m c) (ledR i n ps x) ∧ Kp [] w w' := by
  obtain ⟨ao, c, e, hL⟩ := hV.shape
  subst e
  obtain ⟨N, hN⟩ : ∃ N, N = ps.length := ⟨_, rfl⟩
  rw [← hN] at hL ⊢
  obtain ⟨ob, hob⟩ : ∃ o : Obj, o = (.cells #[.int .i64 i, .int .i64 n, .slice ao N c] 32) := ⟨_, rfl⟩
  have K1 : Kp [] w (w.alloc ob) := (Kp.refl [] w).alloc ob
  have HK1 := hide K1
  have HST : Hid (∀ w', Kp [] (w.alloc ob) w' → w'.heap[w.heap.size]? = some (.cells #[.int .i64 i, .int .i64 n, .slice ao N c] 32 (0, 0))) := fun w' k => k.heap (by rw [hob]; exact heap_alloc_new w _) (by simp)
  have HLL : Hid (∀ w', Kp [] (w.alloc ob) w' → LcM ps (.slice ao N c) w') := fun w' k => hL.kept (K1.trans k)
  have HSL : Hid (∀ w', Kp [] (w.alloc ob) w' → Sl w' vx x) := fun w' k => hS.kept (K1.trans k) (by simp)
  have HGL : Hid (∀ w', Kp [] (w.alloc ob) w' → Gl w') := fun w' k => hG.kept (K1.trans k) (by simp)
  have HBX := hide hB
  have HNN := hide hN
  have HPB := hide hL.bs
  obtain ⟨ax, cx, hvx, -⟩ := hS
  obtain ⟨nx, hnx⟩ : ∃ nx, nx = x.length := ⟨_, rfl⟩
  rw [← hnx] at hvx
  subst hvx
  have HNX := hide hnx
  clear hV hL hB hN hnx hG K1
  by_cases hr : rightP ps = true
  · by_cases hx : nx = 32
    · subst hx
      by_cases h0 : i < 0
      · have HOK : Hid (ledOk i n ps x = false) := ledOk_not (fun h => by have := h.2.2.1.1; omega)
        rw [unhide HOK]
        have hR := pright_any _ ps (w.alloc ob) (unhide HLL _ (Kp.refl _ _))
        rw [hr] at hR
        have HR := hide hR
        clear hR
        have hI := isHash_any _ x (w.alloc ob) (unhide HSL _ (Kp.refl _ _))
        rw [show (x.length == 32) = true by rw [← unhide HNX]; simp] at hI
        have HI := hide hI
        clear hI
        obtain ⟨w1, hw1⟩ : ∃ w1, w1 = w.alloc ob := ⟨_, rfl⟩
        obtain ⟨g0, hg0⟩ : ∃ g0, g0 = w.heap.size := ⟨_, rfl⟩
        rw [← hw1] at HK1 HST HLL HSL HGL HR HI
        rw [← hg0] at HST
        rw [hob] at hw1
        obtain ⟨z0, z1, z2⟩ := cell_tri (unhide HST w1 (Kp.refl _ _))
        have HDR : Hid (∀ w', Kp [] w1.drew w' → Kp [] w1 w') := fun w' k => (kp_drew w1).trans k
        clear hr hob
        go_enter Tryd.func24, Tryd.ntmps24
        go_wp2_with fail
        rw [← hw1, ← hg0]
        clear hw1 hg0
        refine (unhide HR).mono ?_
        rintro ee w2 ⟨rfl, hw⟩
        subst w2
        clear HR
        go_wp2_with fail
        refine (unhide HI).mono ?_
        rintro ee w2 ⟨rfl, hw⟩
        subst w2
        clear HI
        go_wp2_with fail
        go_ret2
        exact ⟨none, 0, 0, rfl, by rw [ledR_no (unhide HOK)]; exact Sl.nil _, (unhide HK1)⟩
      · obtain ⟨p, rfl⟩ := Int.eq_ofNat_of_zero_le (Int.not_lt.1 h0)
        clear h0
        by_cases h1 : n ≤ (p : Int)
        · have HOK : Hid (ledOk p n ps x = false) := ledOk_not (fun h => by have := h.2.2.1.2; omega)
          rw [unhide HOK]
          have hR := pright_any _ ps (w.alloc ob) (unhide HLL _ (Kp.refl _ _))
          rw [hr] at hR
          have HR := hide hR
          clear hR
          have hI := isHash_any _ x (w.alloc ob) (unhide HSL _ (Kp.refl _ _))
          rw [show (x.length == 32) = true by rw [← unhide HNX]; simp] at hI
          have HI := hide hI
          clear hI
          obtain ⟨w1, hw1⟩ : ∃ w1, w1 = w.alloc ob := ⟨_, rfl⟩
          obtain ⟨g0, hg0⟩ : ∃ g0, g0 = w.heap.size := ⟨_, rfl⟩
          rw [← hw1] at HK1 HST HLL HSL HGL HR HI
          rw [← hg0] at HST
          rw [hob] at hw1
          obtain ⟨z0, z1, z2⟩ := cell_tri (unhide HST w1 (Kp.refl _ _))
          have HDR : Hid (∀ w', Kp [] w1.drew w' → Kp [] w1 w') := fun w' k => (kp_drew w1).trans k
          clear hr hob
          go_enter Tryd.func24, Tryd.ntmps24
          go_wp2_with fail
          rw [← hw1, ← hg0]
          clear hw1 hg0
          refine (unhide HR).mono ?_
          rintro ee w2 ⟨rfl, hw⟩
          subst w2
          clear HR
          go_wp2_with fail
          refine (unhide HI).mono ?_
          rintro ee w2 ⟨rfl, hw⟩
          subst w2
          clear HI
          go_wp2_with fail
          go_ret2
          exact ⟨none, 0, 0, rfl, by rw [ledR_no (unhide HOK)]; exact Sl.nil _, (unhide HK1)⟩
        · obtain ⟨q, rfl⟩ : ∃ q : Nat, n = q := ⟨n.toNat, by omega⟩
          have hpq : p < q := by omega
          clear h1
          by_cases hcnt : N = cntP q p
          · have HOK : Hid (ledOk p q ps x = true) := ledOk_iff.2 ⟨hr, (unhide HNX).symm, ⟨by omega, by omega⟩, by rw [← unhide HNN]; exact hcnt⟩
            rw [unhide HOK]
            have hR := pright_any _ ps (w.alloc ob) (unhide HLL _ (Kp.refl _ _))
            rw [hr] at hR
            have HR := hide hR
            clear hR
            have hI := isHash_any _ x (w.alloc ob) (unhide HSL _ (Kp.refl _ _))
            rw [show (x.length == 32) = true by rw [← unhide HNX]; simp] at hI
            have HI := hide hI
            clear hI
            obtain ⟨cn, hcn⟩ : ∃ cn, cn = cntP q p := ⟨_, rfl⟩
            have HCN := hide hcn
            obtain rfl : N = cn := by rw [hcn]; exact hcnt
            clear hcn hcnt
            obtain ⟨r, hr1⟩ : ∃ r, r = leadP q p ps x := ⟨_, rfl⟩
            have HR1 := hide hr1
            have HRV : Hid (ledR p q ps x = r) := by rw [ledR_ok (unhide HOK), hr1]; rfl
            clear hr1
            have HPM : Hid (∀ y ∈ ps, y.length = 32) := (rightP_iff.1 hr).2
            obtain ⟨w1, hw1⟩ : ∃ w1, w1 = w.alloc ob := ⟨_, rfl⟩
            obtain ⟨g0, hg0⟩ : ∃ g0, g0 = w.heap.size := ⟨_, rfl⟩
            rw [← hw1] at HK1 HST HLL HSL HGL HR HI
            rw [← hg0] at HST
            rw [hob] at hw1
            obtain ⟨z0, z1, z2⟩ := cell_tri (unhide HST w1 (Kp.refl _ _))
            have HDR : Hid (∀ w', Kp [] w1.drew w' → Kp [] w1 w') := fun w' k => (kp_drew w1).trans k
            clear hr hob
            go_enter Tryd.func24, Tryd.ntmps24
            go_wp2_with fail
            rw [← hw1, ← hg0]
            clear hw1 hg0
            refine (unhide HR).mono ?_
            rintro ee w2 ⟨rfl, hw⟩
            subst w2
            clear HR
            go_wp2_with fail
            refine (unhide HI).mono ?_
            rintro ee w2 ⟨rfl, hw⟩
            subst w2
            clear HI
            go_wp2_with fail
            refine region_grow Tryd.mixed [Is (.pointer (some ⟨g0, 2, none⟩)), Is (.slice ao N c), Is (.int .i64 N), Is (.pointer (some ⟨g0, 0, none⟩)), Is (.int .i64 p), Is (.pointer (some ⟨g0, 1, none⟩)), Is (.int .i64 q), Is (.int .i64 N), Is (.bool false)] [[(2, none)], [(27, some 0)], [(28, some 1)], [(2, none)], [(30, some 3)], [(2, none)], [(32, some 5)], [(31, some 4), (33, some 6)], [(29, some 2), (34, some 7)]] (by kernel_rfl) ?_ ?_ ?_
            · simp only [List.mem_cons, List.not_mem_nil, or_false]
              intro R hR
              rcases hR with rfl | rfl | rfl | rfl | rfl | rfl | rfl | rfl | rfl <;> first | exact stable_is _
            · refine steps_cons (fun a w hk hn => ?_) ?_
              · have h2 : a.eval (.tmp 2) = .pointer (some ⟨g0, 0, none⟩) := hn.1
                clear hn
                refine wants_plain rfl ?_
                exact grown_fld2 triP (.tmp 2) rfl h2
              refine steps_cons (fun a w hk hn => ?_) ?_
              · have h27 : a.eval (.tmp 27) = .pointer (some ⟨g0, 2, none⟩) := hn.1
                clear hn
                refine wants_plain rfl ?_
                exact grown_ldl (.tmp 27) rfl 2 _ _ _ h27 (cell_tri ((fun w'' k => unhide HST w'' (unhide HDR w'' k)) w hk)).2.2
              refine steps_cons (fun a w hk hn => ?_) ?_
              · have h28 : a.eval (.tmp 28) = .slice ao N c := hn.1
                clear hn
                refine wants_plain rfl ?_
                refine grown_run (v := .int .i64 N) ?_ (Kp.refl _ _) rfl
                obtain ⟨ρ, hρ, hc, hf, hg⟩ := eval_is a
                rw [hρ] at h28 ⊢
                simp [go_sem, h28]
              refine steps_cons (fun a w hk hn => ?_) ?_
              · have h2 : a.eval (.tmp 2) = .pointer (some ⟨g0, 0, none⟩) := hn.1
                clear hn
                refine wants_plain rfl ?_
                exact grown_fld0 triP (.tmp 2) rfl h2
              refine steps_cons (fun a w hk hn => ?_) ?_
              · have h30 : a.eval (.tmp 30) = .pointer (some ⟨g0, 0, none⟩) := hn.1
                clear hn
                refine wants_plain rfl ?_
                exact grown_ldi (.tmp 30) rfl 0 _ h30 (cell_tri ((fun w'' k => unhide HST w'' (unhide HDR w'' k)) w hk)).1
              refine steps_cons (fun a w hk hn => ?_) ?_
              · have h2 : a.eval (.tmp 2) = .pointer (some ⟨g0, 0, none⟩) := hn.1
                clear hn
                refine wants_plain rfl ?_
                exact grown_fld1 triP (.tmp 2) rfl h2
              refine steps_cons (fun a w hk hn => ?_) ?_
              · have h32 : a.eval (.tmp 32) = .pointer (some ⟨g0, 1, none⟩) := hn.1
                clear hn
                refine wants_plain rfl ?_
                exact grown_ldi (.tmp 32) rfl 1 _ h32 (cell_tri ((fun w'' k => unhide HST w'' (unhide HDR w'' k)) w hk)).2.1
              refine steps_cons (fun a w hk hn => ?_) ?_
              · have h31 : a.eval (.tmp 31) = .int .i64 p := hn.1
                have h33 : a.eval (.tmp 33) = .int .i64 q := hn.2.1
                clear hn
                refine wants_plain rfl ?_
                refine grown_call (f := 43) rfl Tryd.func43 (by kernel_rfl) (by kernel_rfl) ?_
                simp only [List.map_toArray, List.map_cons, List.map_nil, h31, h33]
                refine (acount_any q p N w (unhide HCN) (by omega) (by omega)).mono ?_
                rintro e w' ⟨rfl, rfl⟩
                exact ⟨_, rfl, Kp.refl _ _, rfl⟩
              refine steps_cons (fun a w hk hn => ?_) ?_
              · have h29 : a.eval (.tmp 29) = .int .i64 N := hn.1
                have h34 : a.eval (.tmp 34) = .int .i64 N := hn.2.1
                clear hn
                refine wants_plain rfl ?_
                refine grown_run (v := .bool false) ?_ (Kp.refl _ _) rfl
                obtain ⟨ρ, hρ, hc, hf, hg⟩ := eval_is a
                rw [hρ] at h29 h34 ⊢
                simp [go_sem, h29, h34]
              exact trivial
            intro W1 hkW1
            rintro _ rfl
            rintro _ rfl
            rintro _ rfl
            rintro _ rfl
            rintro _ rfl
            rintro _ rfl
            rintro _ rfl
            rintro _ rfl
            rintro _ rfl
            refine fin_nil ?_
            simp only [Act.put, List.set_cons_zero, List.set_cons_succ, List.setIfInBounds_toArray]
            have HKW := hide (unhide HDR W1 hkW1)
            clear hkW1 z0 z1 z2
            obtain ⟨z0, z1, z2⟩ := cell_tri (unhide HST W1 (unhide HKW))
            have HC := hide (aroot_any q (.slice ao N c) (.slice ax 32 cx) ps x p r W1 (unhide HR1) (by omega) (by omega) (by rw [← unhide HNN]; exact unhide HCN) (unhide HLL W1 (unhide HKW)) (unhide HPM) (unhide HSL W1 (unhide HKW)) (unhide HBX) (by rw [← unhide HNX]) (unhide HGL W1 (unhide HKW)))
            go_wp2_with fail
            refine (unhide HC).mono ?_
            rintro ee w3 ⟨a3, m3, c3, rfl, S3, K3⟩
            have HS3 := hide S3
            have HK3 := hide (((unhide HK1).trans (unhide HKW)).trans K3)
            clear S3 K3 HC z0 z1 z2
            go_wp2_with fail
            go_ret2
            exact ⟨a3, m3, c3, rfl, by rw [unhide HRV]; exact (unhide HS3).sl, unhide HK3⟩
          · have HOK : Hid (ledOk p q ps x = false) := ledOk_not (fun h => hcnt (by rw [unhide HNN]; exact h.2.2.2))
            rw [unhide HOK]
            have hR := pright_any _ ps (w.alloc ob) (unhide HLL _ (Kp.refl _ _))
            rw [hr] at hR
            have HR := hide hR
            clear hR
            have hI := isHash_any _ x (w.alloc ob) (unhide HSL _ (Kp.refl _ _))
            rw [show (x.length == 32) = true by rw [← unhide HNX]; simp] at hI
            have HI := hide hI
            clear hI
            obtain ⟨cn, hcn⟩ : ∃ cn, cn = cntP q p := ⟨_, rfl⟩
            have HCN := hide hcn
            have hne : ¬ (N : Int) = (cn : Int) := by rw [hcn]; omega
            clear hcn hcnt
            obtain ⟨w1, hw1⟩ : ∃ w1, w1 = w.alloc ob := ⟨_, rfl⟩
            obtain ⟨g0, hg0⟩ : ∃ g0, g0 = w.heap.size := ⟨_, rfl⟩
            rw [← hw1] at HK1 HST HLL HSL HGL HR HI
            rw [← hg0] at HST
            rw [hob] at hw1
            obtain ⟨z0, z1, z2⟩ := cell_tri (unhide HST w1 (Kp.refl _ _))
            have HDR : Hid (∀ w', Kp [] w1.drew w' → Kp [] w1 w') := fun w' k => (kp_drew w1).trans k
            clear hr hob
            go_enter Tryd.func24, Tryd.ntmps24
            go_wp2_with fail
            rw [← hw1, ← hg0]
            clear hw1 hg0
            refine (unhide HR).mono ?_
            rintro ee w2 ⟨rfl, hw⟩
            subst w2
            clear HR
            go_wp2_with fail
            refine (unhide HI).mono ?_
            rintro ee w2 ⟨rfl, hw⟩
            subst w2
            clear HI
            go_wp2_with fail
            refine region_grow Tryd.mixed [Is (.pointer (some ⟨g0, 2, none⟩)), Is (.slice ao N c), Is (.int .i64 N), Is (.pointer (some ⟨g0, 0, none⟩)), Is (.int .i64 p), Is (.pointer (some ⟨g0, 1, none⟩)), Is (.int .i64 q), Is (.int .i64 cn), Is (.bool true)] [[(2, none)], [(27, some 0)], [(28, some 1)], [(2, none)], [(30, some 3)], [(2, none)], [(32, some 5)], [(31, some 4), (33, some 6)], [(29, some 2), (34, some 7)]] (by kernel_rfl) ?_ ?_ ?_
            · simp only [List.mem_cons, List.not_mem_nil, or_false]
              intro R hR
              rcases hR with rfl | rfl | rfl | rfl | rfl | rfl | rfl | rfl | rfl <;> first | exact stable_is _
            · refine steps_cons (fun a w hk hn => ?_) ?_
              · have h2 : a.eval (.tmp 2) = .pointer (some ⟨g0, 0, none⟩) := hn.1
                clear hn
                refine wants_plain rfl ?_
                exact grown_fld2 triP (.tmp 2) rfl h2
              refine steps_cons (fun a w hk hn => ?_) ?_
              · have h27 : a.eval (.tmp 27) = .pointer (some ⟨g0, 2, none⟩) := hn.1
                clear hn
                refine wants_plain rfl ?_
                exact grown_ldl (.tmp 27) rfl 2 _ _ _ h27 (cell_tri ((fun w'' k => unhide HST w'' (unhide HDR w'' k)) w hk)).2.2
              refine steps_cons (fun a w hk hn => ?_) ?_
              · have h28 : a.eval (.tmp 28) = .slice ao N c := hn.1
                clear hn
                refine wants_plain rfl ?_
                refine grown_run (v := .int .i64 N) ?_ (Kp.refl _ _) rfl
                obtain ⟨ρ, hρ, hc, hf, hg⟩ := eval_is a
                rw [hρ] at h28 ⊢
                simp [go_sem, h28]
              refine steps_cons (fun a w hk hn => ?_) ?_
              · have h2 : a.eval (.tmp 2) = .pointer (some ⟨g0, 0, none⟩) := hn.1
                clear hn
                refine wants_plain rfl ?_
                exact grown_fld0 triP (.tmp 2) rfl h2
              refine steps_cons (fun a w hk hn => ?_) ?_
              · have h30 : a.eval (.tmp 30) = .pointer (some ⟨g0, 0, none⟩) := hn.1
                clear hn
                refine wants_plain rfl ?_
                exact grown_ldi (.tmp 30) rfl 0 _ h30 (cell_tri ((fun w'' k => unhide HST w'' (unhide HDR w'' k)) w hk)).1
              refine steps_cons (fun a w hk hn => ?_) ?_
              · have h2 : a.eval (.tmp 2) = .pointer (some ⟨g0, 0, none⟩) := hn.1
                clear hn
                refine wants_plain rfl ?_
                exact grown_fld1 triP (.tmp 2) rfl h2
              refine steps_cons (fun a w hk hn => ?_) ?_
              · have h32 : a.eval (.tmp 32) = .pointer (some ⟨g0, 1, none⟩) := hn.1
                clear hn
                refine wants_plain rfl ?_
                exact grown_ldi (.tmp 32) rfl 1 _ h32 (cell_tri ((fun w'' k => unhide HST w'' (unhide HDR w'' k)) w hk)).2.1
              refine steps_cons (fun a w hk hn => ?_) ?_
              · have h31 : a.eval (.tmp 31) = .int .i64 p := hn.1
                have h33 : a.eval (.tmp 33) = .int .i64 q := hn.2.1
                clear hn
                refine wants_plain rfl ?_
                refine grown_call (f := 43) rfl Tryd.func43 (by kernel_rfl) (by kernel_rfl) ?_
                simp only [List.map_toArray, List.map_cons, List.map_nil, h31, h33]
                refine (acount_any q p cn w (unhide HCN) (by omega) (by omega)).mono ?_
                rintro e w' ⟨rfl, rfl⟩
                exact ⟨_, rfl, Kp.refl _ _, rfl⟩
              refine steps_cons (fun a w hk hn => ?_) ?_
              · have h29 : a.eval (.tmp 29) = .int .i64 N := hn.1
                have h34 : a.eval (.tmp 34) = .int .i64 cn := hn.2.1
                clear hn
                refine wants_plain rfl ?_
                refine grown_run (v := .bool true) ?_ (Kp.refl _ _) rfl
                obtain ⟨ρ, hρ, hc, hf, hg⟩ := eval_is a
                rw [hρ] at h29 h34 ⊢
                simp [go_sem, h29, h34, hne]
              exact trivial
            intro W1 hkW1
            rintro _ rfl
            rintro _ rfl
            rintro _ rfl
            rintro _ rfl
            rintro _ rfl
            rintro _ rfl
            rintro _ rfl
            rintro _ rfl
            rintro _ rfl
            refine fin_nil ?_
            simp only [Act.put, List.set_cons_zero, List.set_cons_succ, List.setIfInBounds_toArray]
            have HKW := hide (unhide HDR W1 hkW1)
            clear hkW1 z0 z1 z2
            go_wp2_with fail
            go_ret2
            exact ⟨none, 0, 0, rfl, by rw [ledR_no (unhide HOK)]; exact Sl.nil _, ((unhide HK1).trans (unhide HKW))⟩
    · have HOK : Hid (ledOk i n ps x = false) := ledOk_not (fun h => hx (by rw [unhide HNX]; exact h.2.1))
      rw [unhide HOK]
      have hx2 : ¬ (nx : Int) = 32 := by omega
      have hR := pright_any _ ps (w.alloc ob) (unhide HLL _ (Kp.refl _ _))
      rw [hr] at hR
      have HR := hide hR
      clear hR
      have hI := isHash_any _ x (w.alloc ob) (unhide HSL _ (Kp.refl _ _))
      rw [show (x.length == 32) = false by rw [← unhide HNX]; simp [hx]] at hI
      have HI := hide hI
      clear hI
      obtain ⟨w1, hw1⟩ : ∃ w1, w1 = w.alloc ob := ⟨_, rfl⟩
      obtain ⟨g0, hg0⟩ : ∃ g0, g0 = w.heap.size := ⟨_, rfl⟩
      rw [← hw1] at HK1 HST HLL HSL HGL HR HI
      rw [← hg0] at HST
      rw [hob] at hw1
      obtain ⟨z0, z1, z2⟩ := cell_tri (unhide HST w1 (Kp.refl _ _))
      have HDR : Hid (∀ w', Kp [] w1.drew w' → Kp [] w1 w') := fun w' k => (kp_drew w1).trans k
      clear hr hob hx
      go_enter Tryd.func24, Tryd.ntmps24
      go_wp2_with fail
      rw [← hw1, ← hg0]
      clear hw1 hg0
      refine (unhide HR).mono ?_
      rintro ee w2 ⟨rfl, hw⟩
      subst w2
      clear HR
      go_wp2_with fail
      refine (unhide HI).mono ?_
      rintro ee w2 ⟨rfl, hw⟩
      subst w2
      clear HI
      go_wp2_with fail
      go_ret2
      exact ⟨none, 0, 0, rfl, by rw [ledR_no (unhide HOK)]; exact Sl.nil _, (unhide HK1)⟩
  · have hr := Bool.eq_false_iff.2 hr
    have HOK : Hid (ledOk i n ps x = false) := ledOk_not (fun h => by rw [hr] at h; cases h.1)
    rw [unhide HOK]
    have hR := pright_any _ ps (w.alloc ob) (unhide HLL _ (Kp.refl _ _))
    rw [hr] at hR
    have HR := hide hR
    clear hR
    obtain ⟨w1, hw1⟩ : ∃ w1, w1 = w.alloc ob := ⟨_, rfl⟩
    obtain ⟨g0, hg0⟩ : ∃ g0, g0 = w.heap.size := ⟨_, rfl⟩
    rw [← hw1] at HK1 HST HLL HSL HGL HR
    rw [← hg0] at HST
    rw [hob] at hw1
    obtain ⟨z0, z1, z2⟩ := cell_tri (unhide HST w1 (Kp.refl _ _))
    have HDR : Hid (∀ w', Kp [] w1.drew w' → Kp [] w1 w') := fun w' k => (kp_drew w1).trans k
    clear hr hob
    go_enter Tryd.func24, Tryd.ntmps24
    go_wp2_with fail
    rw [← hw1, ← hg0]
    clear hw1 hg0
    refine (unhide HR).mono ?_
    rintro ee w2 ⟨rfl, hw⟩
    subst w2
    clear HR
    go_wp2_with fail
    go_ret2
    exact ⟨none, 0, 0, rfl, by rw [ledR_no (unhide HOK)]; exact Sl.nil _, (unhide HK1)⟩
set_option maxRecDepth 100000 in
set_option maxHeartbeats 4000000 in
theorem leads_any (v vx : Value) (i n : Int) (ps : List (List Int)) (x : List Int) (w : World) (hV : TV w v i n ps) (hS : Sl w vx x) (hB : Bs x) (hn : n ≤ 9223372036854775807) (hG : Gl w) :
    Calls Tryd.prog 38 #[v, vx] w fun e w' => ∃ a1 m1 c1 a2 m2 c2, e = .returned (.tuple #[.slice a1 m1 c1, .slice a2 m2 c2, .bool (ldsOk i n ps x)]) ∧ Sl w' (.slice a1 m1 c1) (ldsR1 i n ps x) ∧ Sl w' (.slice a2 m2 c2) (ldsR2 i n ps x) ∧ Kp [] w w' := by
  obtain ⟨ao, c, e, hL⟩ := hV.shape
  subst e
  obtain ⟨N, hN⟩ : ∃ N, N = ps.length := ⟨_, rfl⟩
  rw [← hN] at hL ⊢
  obtain ⟨ob, hob⟩ : ∃ o : Obj, o = (.cells #[.int .i64 i, .int .i64 n, .slice ao N c] 39) := ⟨_, rfl⟩
  have K1 : Kp [] w (w.alloc ob) := (Kp.refl [] w).alloc ob
  have HK1 := hide K1
  have HST : Hid (∀ w', Kp [] (w.alloc ob) w' → w'.heap[w.heap.size]? = some (.cells #[.int .i64 i, .int .i64 n, .slice ao N c] 39 (0, 0))) := fun w' k => k.heap (by rw [hob]; exact heap_alloc_new w _) (by simp)
  have HLL : Hid (∀ w', Kp [] (w.alloc ob) w' → LcM ps (.slice ao N c) w') := fun w' k => hL.kept (K1.trans k)
  have HSL : Hid (∀ w', Kp [] (w.alloc ob) w' → Sl w' vx x) := fun w' k => hS.kept (K1.trans k) (by simp)
  have HGL : Hid (∀ w', Kp [] (w.alloc ob) w' → Gl w') := fun w' k => hG.kept (K1.trans k) (by simp)
  have HBX := hide hB
  have HNN := hide hN
  have HPB := hide hL.bs
  obtain ⟨ax, cx, hvx, -⟩ := hS
  obtain ⟨nx, hnx⟩ : ∃ nx, nx = x.length := ⟨_, rfl⟩
  rw [← hnx] at hvx
  subst hvx
  have HNX := hide hnx
  clear hV hL hB hN hnx hG K1
  by_cases hr : rightP ps = true
  · by_cases h0 : i ≤ 0
    · have HOK : Hid (ldsOk i n ps x = false) := ldsOk_not (fun h => by have := h.2.2.1.1; omega)
      rw [unhide HOK]
      have hR := pright_any _ ps (w.alloc ob) (unhide HLL _ (Kp.refl _ _))
      rw [hr] at hR
      have HR := hide hR
      clear hR
      obtain ⟨w1, hw1⟩ : ∃ w1, w1 = w.alloc ob := ⟨_, rfl⟩
      obtain ⟨g0, hg0⟩ : ∃ g0, g0 = w.heap.size := ⟨_, rfl⟩
      rw [← hw1] at HK1 HST HLL HSL HGL HR
      rw [← hg0] at HST
      rw [hob] at hw1
      obtain ⟨z0, z1, z2⟩ := cell_tri (unhide HST w1 (Kp.refl _ _))
      have HDR : Hid (∀ w', Kp [] w1.drew w' → Kp [] w1 w') := fun w' k => (kp_drew w1).trans k
      clear hr hob
      go_enter Tryd.func38, Tryd.ntmps38
      go_wp2_with fail
      rw [← hw1, ← hg0]
      clear hw1 hg0
      refine (unhide HR).mono ?_
      rintro ee w2 ⟨rfl, hw⟩
      subst w2
      clear HR
      go_wp2_with fail
      go_ret3
      exact ⟨none, 0, 0, none, 0, 0, rfl, by rw [(ldsR_no (unhide HOK)).1]; exact Sl.nil _, by rw [(ldsR_no (unhide HOK)).2]; exact Sl.nil _, (unhide HK1)⟩
    · obtain ⟨p, rfl⟩ : ∃ p : Nat, i = p := ⟨i.toNat, by omega⟩
      have h0p : 0 < p := by omega
      have h0q : ¬ p = 0 := by omega
      clear h0
      by_cases h1 : n ≤ (p : Int)
      · have HOK : Hid (ldsOk p n ps x = false) := ldsOk_not (fun h => by have := h.2.2.1.2; omega)
        rw [unhide HOK]
        have hR := pright_any _ ps (w.alloc ob) (unhide HLL _ (Kp.refl _ _))
        rw [hr] at hR
        have HR := hide hR
        clear hR
        obtain ⟨w1, hw1⟩ : ∃ w1, w1 = w.alloc ob := ⟨_, rfl⟩
        obtain ⟨g0, hg0⟩ : ∃ g0, g0 = w.heap.size := ⟨_, rfl⟩
        rw [← hw1] at HK1 HST HLL HSL HGL HR
        rw [← hg0] at HST
        rw [hob] at hw1
        obtain ⟨z0, z1, z2⟩ := cell_tri (unhide HST w1 (Kp.refl _ _))
        have HDR : Hid (∀ w', Kp [] w1.drew w' → Kp [] w1 w') := fun w' k => (kp_drew w1).trans k
        clear hr hob
        go_enter Tryd.func38, Tryd.ntmps38
        go_wp2_with fail
        rw [← hw1, ← hg0]
        clear hw1 hg0
        refine (unhide HR).mono ?_
        rintro ee w2 ⟨rfl, hw⟩
        subst w2
        clear HR
        go_wp2_with fail
        go_ret3
        exact ⟨none, 0, 0, none, 0, 0, rfl, by rw [(ldsR_no (unhide HOK)).1]; exact Sl.nil _, by rw [(ldsR_no (unhide HOK)).2]; exact Sl.nil _, (unhide HK1)⟩
      · obtain ⟨q, rfl⟩ : ∃ q : Nat, n = q := ⟨n.toNat, by omega⟩
        have hpq : p < q := by omega
        clear h1
        by_cases hx : nx = 32
        · subst hx
          by_cases hcnt : N = lenP p q true
          · have HOK : Hid (ldsOk p q ps x = true) := ldsOk_iff.2 ⟨hr, (unhide HNX).symm, ⟨by omega, by omega⟩, by rw [← unhide HNN]; exact hcnt⟩
            rw [unhide HOK]
            have hR := pright_any _ ps (w.alloc ob) (unhide HLL _ (Kp.refl _ _))
            rw [hr] at hR
            have HR := hide hR
            clear hR
            have hI := isHash_any _ x (w.alloc ob) (unhide HSL _ (Kp.refl _ _))
            rw [show (x.length == 32) = true by rw [← unhide HNX]; simp] at hI
            have HI := hide hI
            clear hI
            obtain ⟨cn, hcn⟩ : ∃ cn, cn = lenP p q true := ⟨_, rfl⟩
            have HCN := hide hcn
            obtain rfl : N = cn := by rw [hcn]; exact hcnt
            clear hcn hcnt
            obtain ⟨r1, hr1⟩ : ∃ r, r = (ldsP p q true ps x).1 := ⟨_, rfl⟩
            obtain ⟨r2, hr2⟩ : ∃ r, r = (ldsP p q true ps x).2 := ⟨_, rfl⟩
            have HR1 := hide hr1
            have HR2 := hide hr2
            have HRV : Hid (ldsR1 p q ps x = r1 ∧ ldsR2 p q ps x = r2) := by rw [(ldsR_ok (unhide HOK)).1, (ldsR_ok (unhide HOK)).2, hr1, hr2]; exact ⟨rfl, rfl⟩
            have hall := ldsP_all (fun z => z.length = 32) sha_len q p true ps x (by omega) (by omega) (by rw [← unhide HNN, unhide HCN]) (fun z hz => (rightP_iff.1 hr).2 z hz) (by rw [← unhide HNX])
            rw [← hr1, ← hr2] at hall
            have HAL := hide hall.1
            clear hr1 hr2 hall
            have HPM : Hid (∀ y ∈ ps, y.length = 32) := (rightP_iff.1 hr).2
            obtain ⟨w1, hw1⟩ : ∃ w1, w1 = w.alloc ob := ⟨_, rfl⟩
            obtain ⟨g0, hg0⟩ : ∃ g0, g0 = w.heap.size := ⟨_, rfl⟩
            rw [← hw1] at HK1 HST HLL HSL HGL HR HI
            rw [← hg0] at HST
            rw [hob] at hw1
            obtain ⟨z0, z1, z2⟩ := cell_tri (unhide HST w1 (Kp.refl _ _))
            have HDR : Hid (∀ w', Kp [] w1.drew w' → Kp [] w1 w') := fun w' k => (kp_drew w1).trans k
            clear hr hob
            go_enter Tryd.func38, Tryd.ntmps38
            go_wp2_with fail
            rw [← hw1, ← hg0]
            clear hw1 hg0
            refine (unhide HR).mono ?_
            rintro ee w2 ⟨rfl, hw⟩
            subst w2
            clear HR
            go_wp2_with fail
            refine (unhide HI).mono ?_
            rintro ee w2 ⟨rfl, hw⟩
            subst w2
            clear HI
            go_wp2_with fail
            refine region_grow Tryd.mixed [Is (.pointer (some ⟨g0, 2, none⟩)), Is (.slice ao N c), Is (.int .i64 N), Is (.pointer (some ⟨g0, 0, none⟩)), Is (.int .i64 p), Is (.pointer (some ⟨g0, 1, none⟩)), Is (.int .i64 q), Is (.int .i64 N), Is (.bool false)] [[(2, none)], [(30, some 0)], [(31, some 1)], [(2, none)], [(33, some 3)], [(2, none)], [(35, some 5)], [(34, some 4), (36, some 6)], [(32, some 2), (37, some 7)]] (by kernel_rfl) ?_ ?_ ?_
            · simp only [List.mem_cons, List.not_mem_nil, or_false]
              intro R hR
              rcases hR with rfl | rfl | rfl | rfl | rfl | rfl | rfl | rfl | rfl <;> first | exact stable_is _
            · refine steps_cons (fun a w hk hn => ?_) ?_
              · have h2 : a.eval (.tmp 2) = .pointer (some ⟨g0, 0, none⟩) := hn.1
                clear hn
                refine wants_plain rfl ?_
                exact grown_fld2 triG (.tmp 2) rfl h2
              refine steps_cons (fun a w hk hn => ?_) ?_
              · have h30 : a.eval (.tmp 30) = .pointer (some ⟨g0, 2, none⟩) := hn.1
                clear hn
                refine wants_plain rfl ?_
                exact grown_ldl (.tmp 30) rfl 2 _ _ _ h30 (cell_tri ((fun w'' k => unhide HST w'' (unhide HDR w'' k)) w hk)).2.2
              refine steps_cons (fun a w hk hn => ?_) ?_
              · have h31 : a.eval (.tmp 31) = .slice ao N c := hn.1
                clear hn
                refine wants_plain rfl ?_
                refine grown_run (v := .int .i64 N) ?_ (Kp.refl _ _) rfl
                obtain ⟨ρ, hρ, hc, hf, hg⟩ := eval_is a
                rw [hρ] at h31 ⊢
                simp [go_sem, h31]
              refine steps_cons (fun a w hk hn => ?_) ?_
              · have h2 : a.eval (.tmp 2) = .pointer (some ⟨g0, 0, none⟩) := hn.1
                clear hn
                refine wants_plain rfl ?_
                exact grown_fld0 triG (.tmp 2) rfl h2
              refine steps_cons (fun a w hk hn => ?_) ?_
              · have h33 : a.eval (.tmp 33) = .pointer (some ⟨g0, 0, none⟩) := hn.1
                clear hn
                refine wants_plain rfl ?_
                exact grown_ldi (.tmp 33) rfl 0 _ h33 (cell_tri ((fun w'' k => unhide HST w'' (unhide HDR w'' k)) w hk)).1
              refine steps_cons (fun a w hk hn => ?_) ?_
              · have h2 : a.eval (.tmp 2) = .pointer (some ⟨g0, 0, none⟩) := hn.1
                clear hn
                refine wants_plain rfl ?_
                exact grown_fld1 triG (.tmp 2) rfl h2
              refine steps_cons (fun a w hk hn => ?_) ?_
              · have h35 : a.eval (.tmp 35) = .pointer (some ⟨g0, 1, none⟩) := hn.1
                clear hn
                refine wants_plain rfl ?_
                exact grown_ldi (.tmp 35) rfl 1 _ h35 (cell_tri ((fun w'' k => unhide HST w'' (unhide HDR w'' k)) w hk)).2.1
              refine steps_cons (fun a w hk hn => ?_) ?_
              · have h34 : a.eval (.tmp 34) = .int .i64 p := hn.1
                have h36 : a.eval (.tmp 36) = .int .i64 q := hn.2.1
                clear hn
                refine wants_plain rfl ?_
                refine grown_call (f := 53) rfl Tryd.func53 (by kernel_rfl) (by kernel_rfl) ?_
                simp only [List.map_toArray, List.map_cons, List.map_nil, h34, h36]
                refine (gcount_any q p N true w (unhide HCN) (by omega) (by omega) (by omega)).mono ?_
                rintro e w' ⟨rfl, rfl⟩
                exact ⟨_, rfl, Kp.refl _ _, rfl⟩
              refine steps_cons (fun a w hk hn => ?_) ?_
              · have h32 : a.eval (.tmp 32) = .int .i64 N := hn.1
                have h37 : a.eval (.tmp 37) = .int .i64 N := hn.2.1
                clear hn
                refine wants_plain rfl ?_
                refine grown_run (v := .bool false) ?_ (Kp.refl _ _) rfl
                obtain ⟨ρ, hρ, hc, hf, hg⟩ := eval_is a
                rw [hρ] at h32 h37 ⊢
                simp [go_sem, h32, h37]
              exact trivial
            intro W1 hkW1
            rintro _ rfl
            rintro _ rfl
            rintro _ rfl
            rintro _ rfl
            rintro _ rfl
            rintro _ rfl
            rintro _ rfl
            rintro _ rfl
            rintro _ rfl
            refine fin_nil ?_
            simp only [Act.put, List.set_cons_zero, List.set_cons_succ, List.setIfInBounds_toArray]
            have HKW := hide (unhide HDR W1 hkW1)
            clear hkW1 z0 z1 z2
            obtain ⟨z0, z1, z2⟩ := cell_tri (unhide HST W1 (unhide HKW))
            have HC := hide (groots_any q (.slice ao N c) (.slice ax 32 cx) ps x p true r1 r2 W1 (unhide HR1) (unhide HR2) (by omega) (by omega) (by omega) (by rw [← unhide HNN]; exact unhide HCN) (unhide HLL W1 (unhide HKW)) (unhide HPM) (unhide HSL W1 (unhide HKW)) (unhide HBX) (by rw [← unhide HNX]) (unhide HGL W1 (unhide HKW)))
            go_wp2_with fail
            refine (unhide HC).mono ?_
            rintro ee w3 ⟨a3, m3, c3, a4, m4, c4, rfl, S3, S4, K3⟩
            have HS3 := hide S3
            have HS4 := hide S4
            have HK3 := hide (((unhide HK1).trans (unhide HKW)).trans K3)
            clear S3 S4 K3 HC z0 z1 z2
            have HCL := hide (clone_any _ r1 w3 (unhide HS3) (unhide HAL))
            go_wp2_with fail
            refine (unhide HCL).mono ?_
            rintro ee w5 ⟨a5, m5, c5, rfl, R5, K5⟩
            have HR5 := hide R5
            have HK5 := hide K5
            clear R5 K5 HCL
            go_wp2_with fail
            go_ret3
            exact ⟨a5, m5, c5, a4, m4, c4, rfl, by rw [(unhide HRV).1]; exact (unhide HR5).sl, by rw [(unhide HRV).2]; exact (unhide HS4).kept (unhide HK5) (by simp), (unhide HK3).trans (unhide HK5)⟩
          · have HOK : Hid (ldsOk p q ps x = false) := ldsOk_not (fun h => hcnt (by rw [unhide HNN]; exact h.2.2.2))
            rw [unhide HOK]
            have hR := pright_any _ ps (w.alloc ob) (unhide HLL _ (Kp.refl _ _))
            rw [hr] at hR
            have HR := hide hR
            clear hR
            have hI := isHash_any _ x (w.alloc ob) (unhide HSL _ (Kp.refl _ _))
            rw [show (x.length == 32) = true by rw [← unhide HNX]; simp] at hI
            have HI := hide hI
            clear hI
            obtain ⟨cn, hcn⟩ : ∃ cn, cn = lenP p q true := ⟨_, rfl⟩
            have HCN := hide hcn
            have hne : ¬ (N : Int) = (cn : Int) := by rw [hcn]; omega
            clear hcn hcnt
            obtain ⟨w1, hw1⟩ : ∃ w1, w1 = w.alloc ob := ⟨_, rfl⟩
            obtain ⟨g0, hg0⟩ : ∃ g0, g0 = w.heap.size := ⟨_, rfl⟩
            rw [← hw1] at HK1 HST HLL HSL HGL HR HI
            rw [← hg0] at HST
            rw [hob] at hw1
            obtain ⟨z0, z1, z2⟩ := cell_tri (unhide HST w1 (Kp.refl _ _))
            have HDR : Hid (∀ w', Kp [] w1.drew w' → Kp [] w1 w') := fun w' k => (kp_drew w1).trans k
            clear hr hob
            go_enter Tryd.func38, Tryd.ntmps38
            go_wp2_with fail
            rw [← hw1, ← hg0]
            clear hw1 hg0
            refine (unhide HR).mono ?_
            rintro ee w2 ⟨rfl, hw⟩
            subst w2
            clear HR
            go_wp2_with fail
            refine (unhide HI).mono ?_
            rintro ee w2 ⟨rfl, hw⟩
            subst w2
            clear HI
            go_wp2_with fail
            refine region_grow Tryd.mixed [Is (.pointer (some ⟨g0, 2, none⟩)), Is (.slice ao N c), Is (.int .i64 N), Is (.pointer (some ⟨g0, 0, none⟩)), Is (.int .i64 p), Is (.pointer (some ⟨g0, 1, none⟩)), Is (.int .i64 q), Is (.int .i64 cn), Is (.bool true)] [[(2, none)], [(30, some 0)], [(31, some 1)], [(2, none)], [(33, some 3)], [(2, none)], [(35, some 5)], [(34, some 4), (36, some 6)], [(32, some 2), (37, some 7)]] (by kernel_rfl) ?_ ?_ ?_
            · simp only [List.mem_cons, List.not_mem_nil, or_false]
              intro R hR
              rcases hR with rfl | rfl | rfl | rfl | rfl | rfl | rfl | rfl | rfl <;> first | exact stable_is _
            · refine steps_cons (fun a w hk hn => ?_) ?_
              · have h2 : a.eval (.tmp 2) = .pointer (some ⟨g0, 0, none⟩) := hn.1
                clear hn
                refine wants_plain rfl ?_
                exact grown_fld2 triG (.tmp 2) rfl h2
              refine steps_cons (fun a w hk hn => ?_) ?_
              · have h30 : a.eval (.tmp 30) = .pointer (some ⟨g0, 2, none⟩) := hn.1
                clear hn
                refine wants_plain rfl ?_
                exact grown_ldl (.tmp 30) rfl 2 _ _ _ h30 (cell_tri ((fun w'' k => unhide HST w'' (unhide HDR w'' k)) w hk)).2.2
              refine steps_cons (fun a w hk hn => ?_) ?_
              · have h31 : a.eval (.tmp 31) = .slice ao N c := hn.1
                clear hn
                refine wants_plain rfl ?_
                refine grown_run (v := .int .i64 N) ?_ (Kp.refl _ _) rfl
                obtain ⟨ρ, hρ, hc, hf, hg⟩ := eval_is a
                rw [hρ] at h31 ⊢
                simp [go_sem, h31]
              refine steps_cons (fun a w hk hn => ?_) ?_
              · have h2 : a.eval (.tmp 2) = .pointer (some ⟨g0, 0, none⟩) := hn.1
                clear hn
                refine wants_plain rfl ?_
                exact grown_fld0 triG (.tmp 2) rfl h2
              refine steps_cons (fun a w hk hn => ?_) ?_
              · have h33 : a.eval (.tmp 33) = .pointer (some ⟨g0, 0, none⟩) := hn.1
                clear hn
                refine wants_plain rfl ?_
                exact grown_ldi (.tmp 33) rfl 0 _ h33 (cell_tri ((fun w'' k => unhide HST w'' (unhide HDR w'' k)) w hk)).1
              refine steps_cons (fun a w hk hn => ?_) ?_
              · have h2 : a.eval (.tmp 2) = .pointer (some ⟨g0, 0, none⟩) := hn.1
                clear hn
                refine wants_plain rfl ?_
                exact grown_fld1 triG (.tmp 2) rfl h2
              refine steps_cons (fun a w hk hn => ?_) ?_
              · have h35 : a.eval (.tmp 35) = .pointer (some ⟨g0, 1, none⟩) := hn.1
                clear hn
                refine wants_plain rfl ?_
                exact grown_ldi (.tmp 35) rfl 1 _ h35 (cell_tri ((fun w'' k => unhide HST w'' (unhide HDR w'' k)) w hk)).2.1
              refine steps_cons (fun a w hk hn => ?_) ?_
              · have h34 : a.eval (.tmp 34) = .int .i64 p := hn.1
                have h36 : a.eval (.tmp 36) = .int .i64 q := hn.2.1
                clear hn
                refine wants_plain rfl ?_
                refine grown_call (f := 53) rfl Tryd.func53 (by kernel_rfl) (by kernel_rfl) ?_
                simp only [List.map_toArray, List.map_cons, List.map_nil, h34, h36]
                refine (gcount_any q p cn true w (unhide HCN) (by omega) (by omega) (by omega)).mono ?_
                rintro e w' ⟨rfl, rfl⟩
                exact ⟨_, rfl, Kp.refl _ _, rfl⟩
              refine steps_cons (fun a w hk hn => ?_) ?_
              · have h32 : a.eval (.tmp 32) = .int .i64 N := hn.1
                have h37 : a.eval (.tmp 37) = .int .i64 cn := hn.2.1
                clear hn
                refine wants_plain rfl ?_
                refine grown_run (v := .bool true) ?_ (Kp.refl _ _) rfl
                obtain ⟨ρ, hρ, hc, hf, hg⟩ := eval_is a
                rw [hρ] at h32 h37 ⊢
                simp [go_sem, h32, h37, hne]
              exact trivial
            intro W1 hkW1
            rintro _ rfl
            rintro _ rfl
            rintro _ rfl
            rintro _ rfl
            rintro _ rfl
            rintro _ rfl
            rintro _ rfl
            rintro _ rfl
            rintro _ rfl
            refine fin_nil ?_
            simp only [Act.put, List.set_cons_zero, List.set_cons_succ, List.setIfInBounds_toArray]
            have HKW := hide (unhide HDR W1 hkW1)
            clear hkW1 z0 z1 z2
            go_wp2_with fail
            go_ret3
            exact ⟨none, 0, 0, none, 0, 0, rfl, by rw [(ldsR_no (unhide HOK)).1]; exact Sl.nil _, by rw [(ldsR_no (unhide HOK)).2]; exact Sl.nil _, ((unhide HK1).trans (unhide HKW))⟩
        · have HOK : Hid (ldsOk p q ps x = false) := ldsOk_not (fun h => hx (by rw [unhide HNX]; exact h.2.1))
          rw [unhide HOK]
          have hx2 : ¬ (nx : Int) = 32 := by omega
          have hR := pright_any _ ps (w.alloc ob) (unhide HLL _ (Kp.refl _ _))
          rw [hr] at hR
          have HR := hide hR
          clear hR
          have hI := isHash_any _ x (w.alloc ob) (unhide HSL _ (Kp.refl _ _))
          rw [show (x.length == 32) = false by rw [← unhide HNX]; simp [hx]] at hI
          have HI := hide hI
          clear hI
          obtain ⟨w1, hw1⟩ : ∃ w1, w1 = w.alloc ob := ⟨_, rfl⟩
          obtain ⟨g0, hg0⟩ : ∃ g0, g0 = w.heap.size := ⟨_, rfl⟩
          rw [← hw1] at HK1 HST HLL HSL HGL HR HI
          rw [← hg0] at HST
          rw [hob] at hw1
          obtain ⟨z0, z1, z2⟩ := cell_tri (unhide HST w1 (Kp.refl _ _))
          have HDR : Hid (∀ w', Kp [] w1.drew w' → Kp [] w1 w') := fun w' k => (kp_drew w1).trans k
          clear hr hob hx
          go_enter Tryd.func38, Tryd.ntmps38
          go_wp2_with fail
          rw [← hw1, ← hg0]
          clear hw1 hg0
          refine (unhide HR).mono ?_
          rintro ee w2 ⟨rfl, hw⟩
          subst w2
          clear HR
          go_wp2_with fail
          refine (unhide HI).mono ?_
          rintro ee w2 ⟨rfl, hw⟩
          subst w2
          clear HI
          go_wp2_with fail
          go_ret3
          exact ⟨none, 0, 0, none, 0, 0, rfl, by rw [(ldsR_no (unhide HOK)).1]; exact Sl.nil _, by rw [(ldsR_no (unhide HOK)).2]; exact Sl.nil _, (unhide HK1)⟩
  · have hr := Bool.eq_false_iff.2 hr
    have HOK : Hid (ldsOk i n ps x = false) := ldsOk_not (fun h => by rw [hr] at h; cases h.1)
    rw [unhide HOK]
    have hR := pright_any _ ps (w.alloc ob) (unhide HLL _ (Kp.refl _ _))
    rw [hr] at hR
    have HR := hide hR
    clear hR
    obtain ⟨w1, hw1⟩ : ∃ w1, w1 = w.alloc ob := ⟨_, rfl⟩
    obtain ⟨g0, hg0⟩ : ∃ g0, g0 = w.heap.size := ⟨_, rfl⟩
    rw [← hw1] at HK1 HST HLL HSL HGL HR
    rw [← hg0] at HST
    rw [hob] at hw1
    obtain ⟨z0, z1, z2⟩ := cell_tri (unhide HST w1 (Kp.refl _ _))
    have HDR : Hid (∀ w', Kp [] w1.drew w' → Kp [] w1 w') := fun w' k => (kp_drew w1).trans k
    clear hr hob
    go_enter Tryd.func38, Tryd.ntmps38
    go_wp2_with fail
    rw [← hw1, ← hg0]
    clear hw1 hg0
    refine (unhide HR).mono ?_
    rintro ee w2 ⟨rfl, hw⟩
    subst w2
    clear HR
    go_wp2_with fail
    go_ret3
    exact ⟨none, 0, 0, none, 0, 0, rfl, by rw [(ldsR_no (unhide HOK)).1]; exact Sl.nil _, by rw [(ldsR_no (unhide HOK)).2]; exact Sl.nil _, (unhide HK1)⟩
end Go.Proofs.YtphhofgjnlfjmaaDoor

/-
  The contracts of the program's Check and CheckGrow.
-/
namespace Go.Proofs.YtphhofgjnlfjmaaDoor
open Go.RowKit
open Go.Proofs

set_option maxRecDepth 100000 in
set_option maxHeartbeats 4000000 in
theorem check_any (v vx vr : Value) (i n : Int) (ps : List (List Int)) (x rt : List Int) (w : World) (hV : TV w v i n ps) (hS : Sl w vx x) (hB : Bs x) (hT : Sl w vr rt) (hn : n ≤ 9223372036854775807) (hG : Gl w) :
    Calls Tryd.prog 25 #[v, vx, vr] w fun e w' => e = .returned (.bool (chkP i n ps x rt)) ∧ Kp [] w w' := by
  obtain ⟨ao, c, e, hL⟩ := hV.shape
  subst e
  obtain ⟨N, hN⟩ : ∃ N, N = ps.length := ⟨_, rfl⟩
  rw [← hN] at hL hV ⊢
  obtain ⟨ob, hob⟩ : ∃ o : Obj, o = (.cells #[.int .i64 i, .int .i64 n, .slice ao N c] 32) := ⟨_, rfl⟩
  have K1 : Kp [] w (w.alloc ob) := (Kp.refl [] w).alloc ob
  obtain ⟨w1, hw1⟩ : ∃ w1, w1 = w.alloc ob := ⟨_, rfl⟩
  obtain ⟨g0, hg0⟩ : ∃ g0, g0 = w.heap.size := ⟨_, rfl⟩
  rw [← hw1] at K1
  have HK1 := hide K1
  have hst : w1.heap[g0]? = some (.cells #[.int .i64 i, .int .i64 n, .slice ao N c] 32 (0, 0)) := by rw [hw1, hg0, hob]; exact heap_alloc_new w _
  have HST : Hid (∀ w', Kp [] w1 w' → w'.heap[g0]? = some (.cells #[.int .i64 i, .int .i64 n, .slice ao N c] 32 (0, 0))) := fun w' k => k.heap hst (by simp)
  obtain ⟨z0, z1, z2⟩ := cell_tri hst
  have HV : Hid (TV w1 (.agg #[.int .i64 i, .int .i64 n, .slice ao N c]) i n ps) := hV.kept K1
  have HSL : Hid (∀ w', Kp [] w1 w' → Sl w' vx x) := fun w' k => hS.kept (K1.trans k) (by simp)
  have HTL : Hid (∀ w', Kp [] w1 w' → Sl w' vr rt) := fun w' k => hT.kept (K1.trans k) (by simp)
  have HLL : Hid (∀ w', Kp [] w1 w' → LcM ps (.slice ao N c) w') := fun w' k => hL.kept (K1.trans k)
  have HDR : Hid (∀ w', Kp [] w1.drew w' → Kp [] w1 w') := fun w' k => (kp_drew w1).trans k
  have HBX := hide hB
  have HNN := hide hN
  obtain ⟨SX, hSX⟩ : ∃ S, S = strOfNums x := ⟨_, rfl⟩
  obtain ⟨SR, hSR⟩ : ∃ S, S = strOfNums rt := ⟨_, rfl⟩
  have HSX := hide hSX
  have HSR := hide hSR
  rw [hob] at hw1
  have HGL : Hid (∀ w', Kp [] w1 w' → Gl w') := fun w' k => hG.kept (K1.trans k) (by simp)
  obtain ⟨ax, cx, hvx, -⟩ := hS
  obtain ⟨nx, hnx⟩ : ∃ nx, nx = x.length := ⟨_, rfl⟩
  rw [← hnx] at hvx
  subst hvx
  obtain ⟨ar, cr, hvr, -⟩ := hT
  obtain ⟨nr, hnr⟩ : ∃ nr, nr = rt.length := ⟨_, rfl⟩
  rw [← hnr] at hvr
  subst hvr
  have HNX := hide hnx
  have HNR := hide hnr
  clear hV hL hB hN hnx hnr K1 hob hst hSX hSR hG
  have HC := hide (lead_any _ (.slice ax nx cx) i n ps x w1 (unhide HV) (unhide HSL w1 (Kp.refl _ _)) (unhide HBX) hn (unhide HGL w1 (Kp.refl _ _)))
  obtain ⟨b, hb⟩ : ∃ b, b = ledOk i n ps x := ⟨_, rfl⟩
  obtain ⟨r, hr⟩ : ∃ r, r = ledR i n ps x := ⟨_, rfl⟩
  obtain ⟨SS, hSS⟩ : ∃ S, S = strOfNums r := ⟨_, rfl⟩
  have HSS := hide hSS
  have HP : Hid (chkP i n ps x rt = (b && (SS.toList == SR.toList))) := hide (by rw [hSS, unhide HSR, hb, hr]; rfl)
  rw [unhide HP]
  rw [← hb, ← hr] at HC
  clear hb hr hSS
  go_enter Tryd.func25, Tryd.ntmps25
  go_wp2_with fail
  rw [← hw1, ← hg0]
  clear hw1 hg0
  refine (unhide HC).mono ?_
  rintro ee w3 ⟨a3, m3, c3, rfl, S3, K3⟩
  have HS3 := hide S3
  have HK3 := hide K3
  clear S3 K3 HC z0 z1 z2
  cases b with
  | false =>
    go_wp2_with fail
    go_ret
    exact ⟨rfl, (unhide HK1).trans (unhide HK3)⟩
  | true =>
    have HE := hide (samehash_any _ _ r rt SS SR (unhide HSS) (unhide HSR) w3 (unhide HS3) (unhide HTL w3 (unhide HK3)))
    go_wp2_with fail
    refine (unhide HE).mono ?_
    rintro ee w4 ⟨rfl, hw⟩
    subst w4
    clear HE
    go_wp2_with fail
    go_ret
    exact ⟨rfl, (unhide HK1).trans (unhide HK3)⟩
set_option maxRecDepth 100000 in
set_option maxHeartbeats 4000000 in
theorem cgrow_any (v vx vr : Value) (i n : Int) (ps : List (List Int)) (x rt : List Int) (w : World) (hV : TV w v i n ps) (hS : Sl w vx x) (hB : Bs x) (hT : Sl w vr rt) (hn : n ≤ 9223372036854775807) (hG : Gl w) :
    Calls Tryd.prog 27 #[v, vx, vr] w fun e w' => e = .returned (.bool (cgrP i n ps x rt)) ∧ Kp [] w w' := by
  obtain ⟨ao, c, e, hL⟩ := hV.shape
  subst e
  obtain ⟨N, hN⟩ : ∃ N, N = ps.length := ⟨_, rfl⟩
  rw [← hN] at hL hV ⊢
  obtain ⟨ob, hob⟩ : ∃ o : Obj, o = (.cells #[.int .i64 i, .int .i64 n, .slice ao N c] 39) := ⟨_, rfl⟩
  have K1 : Kp [] w (w.alloc ob) := (Kp.refl [] w).alloc ob
  obtain ⟨w1, hw1⟩ : ∃ w1, w1 = w.alloc ob := ⟨_, rfl⟩
  obtain ⟨g0, hg0⟩ : ∃ g0, g0 = w.heap.size := ⟨_, rfl⟩
  rw [← hw1] at K1
  have HK1 := hide K1
  have hst : w1.heap[g0]? = some (.cells #[.int .i64 i, .int .i64 n, .slice ao N c] 39 (0, 0)) := by rw [hw1, hg0, hob]; exact heap_alloc_new w _
  have HST : Hid (∀ w', Kp [] w1 w' → w'.heap[g0]? = some (.cells #[.int .i64 i, .int .i64 n, .slice ao N c] 39 (0, 0))) := fun w' k => k.heap hst (by simp)
  obtain ⟨z0, z1, z2⟩ := cell_tri hst
  have HV : Hid (TV w1 (.agg #[.int .i64 i, .int .i64 n, .slice ao N c]) i n ps) := hV.kept K1
  have HSL : Hid (∀ w', Kp [] w1 w' → Sl w' vx x) := fun w' k => hS.kept (K1.trans k) (by simp)
  have HTL : Hid (∀ w', Kp [] w1 w' → Sl w' vr rt) := fun w' k => hT.kept (K1.trans k) (by simp)
  have HLL : Hid (∀ w', Kp [] w1 w' → LcM ps (.slice ao N c) w') := fun w' k => hL.kept (K1.trans k)
  have HDR : Hid (∀ w', Kp [] w1.drew w' → Kp [] w1 w') := fun w' k => (kp_drew w1).trans k
  have HBX := hide hB
  have HNN := hide hN
  obtain ⟨SX, hSX⟩ : ∃ S, S = strOfNums x := ⟨_, rfl⟩
  obtain ⟨SR, hSR⟩ : ∃ S, S = strOfNums rt := ⟨_, rfl⟩
  have HSX := hide hSX
  have HSR := hide hSR
  rw [hob] at hw1
  have HGL : Hid (∀ w', Kp [] w1 w' → Gl w') := fun w' k => hG.kept (K1.trans k) (by simp)
  obtain ⟨ax, cx, hvx, -⟩ := hS
  obtain ⟨nx, hnx⟩ : ∃ nx, nx = x.length := ⟨_, rfl⟩
  rw [← hnx] at hvx
  subst hvx
  obtain ⟨ar, cr, hvr, -⟩ := hT
  obtain ⟨nr, hnr⟩ : ∃ nr, nr = rt.length := ⟨_, rfl⟩
  rw [← hnr] at hvr
  subst hvr
  have HNX := hide hnx
  have HNR := hide hnr
  clear hV hL hB hN hnx hnr K1 hob hst hSX hSR hG
  by_cases h0 : i < 0
  · rw [cgrP_no (.inl h0)]
    go_enter Tryd.func27, Tryd.ntmps27
    go_wp2_with fail
    rw [← hw1, ← hg0]
    clear hw1 hg0
    go_ret
    exact ⟨rfl, (unhide HK1)⟩
  · by_cases h1 : n < i
    · rw [cgrP_no (.inr h1)]
      go_enter Tryd.func27, Tryd.ntmps27
      go_wp2_with fail
      rw [← hw1, ← hg0]
      clear hw1 hg0
      go_ret
      exact ⟨rfl, (unhide HK1)⟩
    · by_cases h2 : i = n
      · subst h2
        rw [cgrP_same (by omega), ← unhide HNN, ← unhide HNX]
        by_cases hN0 : N = 0
        · subst hN0
          by_cases hx : nx = 32
          · subst hx
            have HP : Hid ((((0 : Nat) == 0) && (((32 : Nat) == 32) && eqP x rt)) = (SX.toList == SR.toList)) := hide (by rw [unhide HSX, unhide HSR]; rfl)
            rw [unhide HP]
            have hI := isHash_any _ x w1 (unhide HSL w1 (Kp.refl _ _))
            rw [← unhide HNX] at hI
            have HI := hide hI
            have HE := hide (samehash_any _ _ x rt SX SR (unhide HSX) (unhide HSR) w1 (unhide HSL w1 (Kp.refl _ _)) (unhide HTL w1 (Kp.refl _ _)))
            clear hI
            go_enter Tryd.func27, Tryd.ntmps27
            go_wp2_with fail
            rw [← hw1, ← hg0]
            clear hw1 hg0
            refine (unhide HI).mono ?_
            rintro ee w9 ⟨rfl, hw⟩
            subst w9
            clear HI
            go_wp2_with fail
            refine (unhide HE).mono ?_
            rintro ee w9 ⟨rfl, hw⟩
            subst w9
            clear HE
            go_wp2_with fail
            go_ret
            exact ⟨rfl, (unhide HK1)⟩
          · have hxi : ¬ (nx : Int) = 32 := by omega
            rw [show (nx == 32) = false by simp [hx]]
            simp only [Bool.false_and, Bool.and_false]
            have hI := isHash_any _ x w1 (unhide HSL w1 (Kp.refl _ _))
            rw [← unhide HNX, show (nx == 32) = false by simp [hx]] at hI
            have HI := hide hI
            clear hI
            go_enter Tryd.func27, Tryd.ntmps27
            go_wp2_with fail
            rw [← hw1, ← hg0]
            clear hw1 hg0
            refine (unhide HI).mono ?_
            rintro ee w9 ⟨rfl, hw⟩
            subst w9
            clear HI
            go_wp2_with fail
            go_ret
            exact ⟨rfl, (unhide HK1)⟩
        · have hNi : ¬ (N : Int) = 0 := by omega
          rw [show (N == 0) = false by simp [hN0]]
          simp only [Bool.false_and]
          go_enter Tryd.func27, Tryd.ntmps27
          go_wp2_with fail
          rw [← hw1, ← hg0]
          clear hw1 hg0
          go_ret
          exact ⟨rfl, (unhide HK1)⟩
      · by_cases h3 : i = 0
        · subst h3
          have h0n : 0 < n := by omega
          have h0m : ¬ (0 : Int) = n := by omega
          rw [cgrP_zero h0n, ← unhide HNN, ← unhide HNR]
          clear h0 h1 h2
          obtain ⟨r0, hr0⟩ : ∃ r, r = sha [] := ⟨_, rfl⟩
          obtain ⟨S0, hS0⟩ : ∃ S, S = strOfNums r0 := ⟨_, rfl⟩
          have HR0 := hide hr0
          have HS0 := hide hS0
          obtain ⟨E, hE⟩ : ∃ E, E = (SX.toList == S0.toList) := ⟨_, rfl⟩
          have HP : Hid (eqP x (sha []) = E) := hide (by rw [hE, unhide HSX, hS0, hr0]; rfl)
          rw [unhide HP]
          have HE := hide hE
          clear hr0 hS0 hE
          by_cases hN0 : N = 0
          · subst hN0
            have HSM := hide (sum_at (.slice none 0 0) [] r0 (unhide HR0) w1 (Sl.nil w1) (fun b hb => by cases hb) (by simp) (unhide HGL w1 (Kp.refl _ _)))
            go_enter Tryd.func27, Tryd.ntmps27
            go_wp2_with fail
            rw [← hw1, ← hg0]
            clear hw1 hg0
            refine (unhide HSM).mono ?_
            rintro ee w3 ⟨a3, m3, c3, rfl, R3, K3⟩
            have HK3 := hide K3
            have hEE := samehash_any _ _ x r0 SX S0 (unhide HSX) (unhide HS0) w3 (unhide HSL w3 K3) R3.sl
            rw [← unhide HE] at hEE
            have HEE := hide hEE
            have HI := hide (isHash_any _ rt w3 (unhide HTL w3 K3))
            rw [← unhide HNR] at HI
            clear R3 K3 HSM hEE z0 z1 z2
            go_wp2_with fail
            refine (unhide HEE).mono ?_
            rintro ee w9 ⟨rfl, hw⟩
            subst w9
            clear HEE
            cases E with
            | false =>
              go_wp2_with fail
              go_ret
              exact ⟨by rw [show (((0 : Nat) == 0) && ((nr == 32) && false)) = false by simp]; rfl, (unhide HK1).trans (unhide HK3)⟩
            | true =>
              go_wp2_with fail
              refine (unhide HI).mono ?_
              rintro ee w9 ⟨rfl, hw⟩
              subst w9
              clear HI
              go_wp2_with fail
              go_ret
              exact ⟨by rw [show (((0 : Nat) == 0) && ((nr == 32) && true)) = (nr == 32) by simp]; rfl, (unhide HK1).trans (unhide HK3)⟩
          · have hNi : ¬ (N : Int) = 0 := by omega
            rw [show (N == 0) = false by simp [hN0]]
            simp only [Bool.false_and]
            go_enter Tryd.func27, Tryd.ntmps27
            go_wp2_with fail
            rw [← hw1, ← hg0]
            clear hw1 hg0
            go_ret
            exact ⟨rfl, (unhide HK1)⟩
        · rw [cgrP_more (by omega) (by omega)]
          have HC := hide (leads_any _ (.slice ax nx cx) i n ps x w1 (unhide HV) (unhide HSL w1 (Kp.refl _ _)) (unhide HBX) hn (unhide HGL w1 (Kp.refl _ _)))
          obtain ⟨b, hb⟩ : ∃ b, b = ldsOk i n ps x := ⟨_, rfl⟩
          obtain ⟨r1, hr1⟩ : ∃ r, r = ldsR1 i n ps x := ⟨_, rfl⟩
          obtain ⟨r2, hr2⟩ : ∃ r, r = ldsR2 i n ps x := ⟨_, rfl⟩
          obtain ⟨S1, hS1⟩ : ∃ S, S = strOfNums r1 := ⟨_, rfl⟩
          obtain ⟨S2, hS2⟩ : ∃ S, S = strOfNums r2 := ⟨_, rfl⟩
          have HS1 := hide hS1
          have HS2 := hide hS2
          have HP : Hid ((ldsOk i n ps x && (eqP (ldsR1 i n ps x) x && eqP (ldsR2 i n ps x) rt)) = (b && ((S1.toList == SX.toList) && (S2.toList == SR.toList)))) := hide (by rw [hS1, hS2, unhide HSX, unhide HSR, hb, hr1, hr2]; rfl)
          rw [unhide HP]
          rw [← hb, ← hr1, ← hr2] at HC
          obtain ⟨E, hE⟩ : ∃ E, E = (S1.toList == SX.toList) := ⟨_, rfl⟩
          rw [← hE]
          have HE := hide hE
          clear hb hr1 hr2 hS1 hS2 hE
          have hin0 : ¬ i = n := h2
          go_enter Tryd.func27, Tryd.ntmps27
          go_wp2_with fail
          rw [← hw1, ← hg0]
          clear hw1 hg0
          refine (unhide HC).mono ?_
          rintro ee w3 ⟨a3, m3, c3, a4, m4, c4, rfl, S3, S4, K3⟩
          have HS3 := hide S3
          have HS4 := hide S4
          have HK3 := hide K3
          clear S3 S4 K3 HC z0 z1 z2
          cases b with
          | false =>
            go_wp2_with fail
            go_ret
            exact ⟨rfl, (unhide HK1).trans (unhide HK3)⟩
          | true =>
            have hE1 := samehash_any _ _ r1 x S1 SX (unhide HS1) (unhide HSX) w3 (unhide HS3) (unhide HSL w3 (unhide HK3))
            rw [← unhide HE] at hE1
            have HE1 := hide hE1
            have HE2 := hide (samehash_any _ _ r2 rt S2 SR (unhide HS2) (unhide HSR) w3 (unhide HS4) (unhide HTL w3 (unhide HK3)))
            clear hE1
            go_wp2_with fail
            refine (unhide HE1).mono ?_
            rintro ee w9 ⟨rfl, hw⟩
            subst w9
            clear HE1
            cases E with
            | false =>
              go_wp2_with fail
              go_ret
              exact ⟨rfl, (unhide HK1).trans (unhide HK3)⟩
            | true =>
              go_wp2_with fail
              refine (unhide HE2).mono ?_
              rintro ee w9 ⟨rfl, hw⟩
              subst w9
              clear HE2
              go_wp2_with fail
              go_ret
              exact ⟨rfl, (unhide HK1).trans (unhide HK3)⟩
end Go.Proofs.YtphhofgjnlfjmaaDoor
