/-
  What a path leads to: the contracts of the reference's lead and leads.
-/
import Derived.Test.YtphhofgjnlfjmaaDoorKPSpecs
import Derived.Test.YtphhofgjnlfjmaaDoorKTGrow
import Derived.Test.YtphhofgjnlfjmaaDoorKTNode
import Derived.Test.YtphhofgjnlfjmaaDoorKTSplits
import Derived.Test.YtphhofgjnlfjmaaDoorKPLeds
import Derived.Test.YtphhofgjnlfjmaaDoorKPCount
namespace Go.Proofs.YtphhofgjnlfjmaaDoor
open Go.RowKit
open Go.Proofs

theorem both32r (bs : List Int) : Bs (sha bs) ∧ (sha bs).length = 32 := ⟨sha_bs bs, sha_len bs⟩
set_option maxRecDepth 100000 in
set_option maxHeartbeats 2000000 in
theorem rlead_any (n : Nat) : ∀ (v vx : Value) (ps : List (List Int)) (x : List Int) (i : Nat) (r : List Int) (w : World), r = leadP n i ps x → i < n → n ≤ 9223372036854775807 → ps.length = cntP n i → LcM ps v w → (∀ y ∈ ps, y.length = 32) → Sl w vx x → Bs x → x.length = 32 →
    Calls Tryd.prog 50 #[.int .i64 n, .int .i64 i, v, vx] w fun e w' => ∃ ao m c, e = .returned (.slice ao m c) ∧ Sl w' (.slice ao m c) r ∧ Kp [] w w' := by
  induction n using Nat.strongRecOn with
  | ind n ih =>
    intro v vx ps x i r w hr hin hn hpc hL hm hS hB hxl
    by_cases h2n : 2 ≤ n
    · have hsmi : ¬ (n : Int) < 2 := by omega
      obtain ⟨k, hk⟩ : ∃ k, k = tsplP n := ⟨_, rfl⟩
      have hk1 : 1 ≤ k := by rw [hk]; exact tsplP_pos h2n
      have hk2 : k < n := by rw [hk]; exact tsplP_lt h2n
      have HC := hide (rsplit_any n k w (by rw [Int.toNat_natCast]; exact hk) (by omega))
      have hpl : 0 < ps.length := by rw [hpc, cntP_more h2n]; split <;> omega
      have hyl : (lastP ps).length = 32 := hm _ (lastP_mem hpl)
      have HYB : Hid (Bs (lastP ps)) := hL.bs _ (lastP_mem hpl)
      obtain ⟨y, hy⟩ : ∃ y, y = lastP ps := ⟨_, rfl⟩
      obtain ⟨qs, hqs⟩ : ∃ qs, qs = initP ps := ⟨_, rfl⟩
      have hql : qs.length = ps.length - 1 := by rw [hqs, initP_len]
      have hqm : ∀ z ∈ qs, z.length = 32 := fun z hz => hm z (initP_mem (by rw [← hqs]; exact hz))
      obtain ⟨q, hq⟩ : ∃ q, ps.length = q + 1 := ⟨ps.length - 1, by omega⟩
      obtain ⟨ao, c, e, h1, h2, h3⟩ := hL.shape
      rw [hq] at e h1
      subst e
      have hx : ps[q]? = some (lastP ps) := by have := lastP_at hpl; rw [hq] at this; exact this
      have HQL : Hid (LcM qs (.slice ao q c) w) := by
        have := hL.take q (by omega)
        rw [show ps.take q = qs by rw [hqs]; unfold initP; rw [hq]; rfl] at this
        exact this
      obtain ⟨-, b, off, u, rfl, hcu, hSu, -⟩ := hL.at q _ hx
      have hrun := fun W => run_lhead (some ⟨b, off, none⟩) (q + 1) c q W (by omega)
      rw [← hy] at hyl HYB hSu
      have HSY := hide hSu
      obtain ⟨a2, c2, hu, -⟩ := hSu
      rw [hyl] at hu
      subst hu
      have hqi : (q : Int) ≤ 64 := by have := cntP_le 63 n i (by omega); omega
      clear h2
      have HS := hide hS
      have HL := hide hL
      by_cases hik : i < k
      · have hci : (i : Int) < (k : Int) := by omega
        obtain ⟨ra, hra⟩ : ∃ r, r = leadP k i qs x := ⟨_, rfl⟩
        have HR : Hid (r = tnodeP ra y) := hide (by rw [hr, leadP_left h2n hk hik, hra, hqs, hy])
        have hrl := leadP_all (fun z => Bs z ∧ z.length = 32) both32r k i qs x ⟨hB, hxl⟩
        rw [← hra] at hrl
        have HRB := hide hrl.1
        have hral := hrl.2
        have hqc : qs.length = cntP k i := by rw [hql, hpc, cntP_left h2n (by rw [← hk]; exact hik), ← hk]; rfl
        have hA := fun v w hL hS => ih k (by omega) v vx qs x i ra w hra (by omega) (by omega) hqc hL hqm hS hB hxl
        have HA := hide hA
        obtain ⟨avx, cvx, hvx, -⟩ := hS
        rw [hxl] at hvx
        subst hvx
        clear hA hra hrl hqc hr hk hik hpl hy hqs hql hqm hpc hm hB hxl hL ih h2n hq h1 h3 hx
        go_enter Tryd.func50, Tryd.ntmps50
        go_wp2_with fail
        refine (unhide HC).mono ?_
        rintro ee w1 ⟨rfl, hw⟩
        subst w1
        clear HC
        go_wp2_with fail
        refine (unhide HA _ w (unhide HQL) (unhide HS)).mono ?_
        rintro ee w3 ⟨a3, m3, c3, rfl, R3, K3⟩
        have HR3 := hide R3
        have HK3 := hide K3
        have HSY3 := hide ((unhide HSY).kept K3 (by simp))
        clear R3 K3 HA
        have HN := hide (rnode_any _ _ ra y r (unhide HR) w3 (unhide HR3) (unhide HRB) (by omega) (unhide HSY3) (unhide HYB) (by omega))
        go_wp2_with fail
        refine (unhide HN).mono ?_
        rintro ee w4 ⟨a4, m4, c4, rfl, R4, K4⟩
        have HR4 := hide R4
        have HK4 := hide K4
        clear R4 K4 HN
        go_wp2_with fail
        go_ret
        exact ⟨a4, m4, c4, rfl, (unhide HR4).sl, (unhide HK3).trans (unhide HK4)⟩
      · have hci : ¬ (i : Int) < (k : Int) := by omega
        obtain ⟨ra, hra⟩ : ∃ r, r = leadP (n - k) (i - k) qs x := ⟨_, rfl⟩
        have HR : Hid (r = tnodeP y ra) := hide (by rw [hr, leadP_right h2n hk hik, hra, hqs, hy])
        have hrl := leadP_all (fun z => Bs z ∧ z.length = 32) both32r (n - k) (i - k) qs x ⟨hB, hxl⟩
        rw [← hra] at hrl
        have HRB := hide hrl.1
        have hral := hrl.2
        have hqc : qs.length = cntP (n - k) (i - k) := by rw [hql, hpc, cntP_right h2n (by rw [← hk]; exact hik), ← hk]; rfl
        have hA := fun v w hL hS => ih (n - k) (by omega) v vx qs x (i - k) ra w hra (by omega) (by omega) hqc hL hqm hS hB hxl
        rw [show ((i - k : Nat) : Int) = (i : Int) - (k : Int) by omega, show ((n - k : Nat) : Int) = (n : Int) - (k : Int) by omega] at hA
        have HA := hide hA
        obtain ⟨avx, cvx, hvx, -⟩ := hS
        rw [hxl] at hvx
        subst hvx
        clear hA hra hrl hqc hr hk hik hpl hy hqs hql hqm hpc hm hB hxl hL ih h2n hq h1 h3 hx
        go_enter Tryd.func50, Tryd.ntmps50
        go_wp2_with fail
        refine (unhide HC).mono ?_
        rintro ee w1 ⟨rfl, hw⟩
        subst w1
        clear HC
        go_wp2_with fail
        refine (unhide HA _ w (unhide HQL) (unhide HS)).mono ?_
        rintro ee w3 ⟨a3, m3, c3, rfl, R3, K3⟩
        have HR3 := hide R3
        have HK3 := hide K3
        have HSY3 := hide ((unhide HSY).kept K3 (by simp))
        clear R3 K3 HA
        have HN := hide (rnode_any _ _ y ra r (unhide HR) w3 (unhide HSY3) (unhide HYB) (by omega) (unhide HR3) (unhide HRB) (by omega))
        go_wp2_with fail
        refine (unhide HN).mono ?_
        rintro ee w4 ⟨a4, m4, c4, rfl, R4, K4⟩
        have HR4 := hide R4
        have HK4 := hide K4
        clear R4 K4 HN
        go_wp2_with fail
        go_ret
        exact ⟨a4, m4, c4, rfl, (unhide HR4).sl, (unhide HK3).trans (unhide HK4)⟩
    · obtain rfl : n = 1 := by omega
      rw [leadP_small (by omega)] at hr
      subst hr
      have HS := hide hS
      obtain ⟨avx, cvx, hvx, -⟩ := hS
      rw [hxl] at hvx
      subst hvx
      clear hm hL hB hpc ih h2n
      go_enter Tryd.func50, Tryd.ntmps50
      go_wp2_with fail
      go_ret
      exact ⟨_, _, _, rfl, unhide HS, Kp.refl _ _⟩
set_option maxRecDepth 100000 in
set_option maxHeartbeats 4000000 in
theorem rleads_any (n : Nat) : ∀ (v vx : Value) (ps : List (List Int)) (x : List Int) (m : Nat) (b : Bool) (r1 r2 : List Int) (w : World), r1 = (ldsP m n b ps x).1 → r2 = (ldsP m n b ps x).2 → 1 ≤ m → m ≤ n → n ≤ 9223372036854775807 → ps.length = lenP m n b → LcM ps v w → (∀ y ∈ ps, y.length = 32) → Sl w vx x → Bs x → x.length = 32 →
    Calls Tryd.prog 57 #[.int .i64 m, .int .i64 n, .bool b, v, vx] w fun e w' => ∃ a1 m1 c1 a2 m2 c2, e = .returned (.tuple #[.slice a1 m1 c1, .slice a2 m2 c2]) ∧ Sl w' (.slice a1 m1 c1) r1 ∧ Sl w' (.slice a2 m2 c2) r2 ∧ Kp [] w w' := by
  induction n using Nat.strongRecOn with
  | ind n ih =>
    intro v vx ps x m b r1 r2 w hr1 hr2 h1m hin hn hpc hL hm hS hB hxl
    have HS := hide hS
    by_cases hsm : m = n
    · subst hsm
      cases b with
      | true =>
        rw [ldsP_old] at hr1 hr2
        subst hr1
        subst hr2
        obtain ⟨avx, cvx, hvx, -⟩ := hS
        obtain ⟨nvx, hnv⟩ : ∃ nv, nv = r2.length := ⟨_, rfl⟩
        rw [← hnv] at hvx
        subst hvx
        clear hm hL hB hpc ih hxl hnv
        go_enter Tryd.func57, Tryd.ntmps57
        go_wp2_with fail
        go_ret2
        exact ⟨_, _, _, _, _, _, rfl, unhide HS, unhide HS, Kp.refl _ _⟩
      | false =>
        rw [ldsP_new] at hr1 hr2
        rw [lenP_same] at hpc
        have hpc1 : ps.length = 1 := hpc
        obtain ⟨y, hy⟩ : ∃ y, y = ps.getD 0 [] := ⟨_, rfl⟩
        have HX : Hid (ps[0]? = some y) := hide (by rw [hy]; match ps, hpc1 with | [z], _ => rfl)
        rw [← hy] at hr1 hr2
        rw [hr1, hr2]
        clear hr1 hr2
        have HLL : Hid (∀ w', Kp [] w.drew w' → LcM ps v w') := fun w' k' => hL.kept ((kp_drew w).trans k')
        obtain ⟨av, cv, hv, -⟩ := hL.shape
        rw [hpc1] at hv
        subst hv
        clear hm hL hB hpc ih hxl hpc1 hy
        go_enter Tryd.func57, Tryd.ntmps57
        go_wp2_with fail
        refine region_grow Tryd.mixed [Is (.slice av 1 cv), PtT (y), SlT (y), Is (.slice av 1 cv), PtT (y), SlT (y), SlT (y), SlT (y)] [[(3, none)], [(24, some 0)], [(25, some 1)], [(3, none)], [(27, some 3)], [(28, some 4)], [(26, some 2)], [(29, some 5)]] (by kernel_rfl) ?_ ?_ ?_
        · simp only [List.mem_cons, List.not_mem_nil, or_false]
          intro R hR
          rcases hR with rfl | rfl | rfl | rfl | rfl | rfl | rfl | rfl <;> first | exact stable_is _ | exact stable_pt _ | exact stable_sl _
        · refine steps_cons (fun a w hk hn => ?_) ?_
          · have h3 : a.eval (.tmp 3) = .slice av 1 cv := hn.1
            clear hn
            refine wants_plain rfl ?_
            exact grown_move (.tmp 3) rfl h3
          refine steps_cons (fun a w hk hn => ?_) ?_
          · have h24 : a.eval (.tmp 24) = .slice av 1 cv := hn.1
            clear hn
            refine wants_plain rfl ?_
            exact grown_lindex (.tmp 24) _ (ps) 0 (y) rfl (by rw [h24]; exact unhide HLL w hk) rfl (unhide HX)
          refine steps_cons (fun a w hk hn => ?_) ?_
          · have h25 : (PtT (y)) (a.eval (.tmp 25)) w := hn.1
            clear hn
            refine wants_plain rfl ?_
            exact grown_lload (.tmp 25) _ rfl h25
          refine steps_cons (fun a w hk hn => ?_) ?_
          · have h3 : a.eval (.tmp 3) = .slice av 1 cv := hn.1
            clear hn
            refine wants_plain rfl ?_
            exact grown_move (.tmp 3) rfl h3
          refine steps_cons (fun a w hk hn => ?_) ?_
          · have h27 : a.eval (.tmp 27) = .slice av 1 cv := hn.1
            clear hn
            refine wants_plain rfl ?_
            exact grown_lindex (.tmp 27) _ (ps) 0 (y) rfl (by rw [h27]; exact unhide HLL w hk) rfl (unhide HX)
          refine steps_cons (fun a w hk hn => ?_) ?_
          · have h28 : (PtT (y)) (a.eval (.tmp 28)) w := hn.1
            clear hn
            refine wants_plain rfl ?_
            exact grown_lload (.tmp 28) _ rfl h28
          refine steps_cons (fun a w hk hn => ?_) ?_
          · have h26 : Sl w (a.eval (.tmp 26)) (y) := hn.1
            clear hn
            refine wants_plain rfl ?_
            exact grown_assign (.tmp 26) rfl h26
          refine steps_cons (fun a w hk hn => ?_) ?_
          · have h29 : Sl w (a.eval (.tmp 29)) (y) := hn.1
            clear hn
            refine wants_plain rfl ?_
            exact grown_assign (.tmp 29) rfl h29
          exact trivial
        intro W1 hkW1
        rintro _ rfl
        intro v25 h25
        intro v26 h26
        rintro _ rfl
        intro v28 h28
        intro v29 h29
        intro v10 h10
        intro v11 h11
        refine fin_nil ?_
        simp only [Act.put, List.set_cons_zero, List.set_cons_succ, List.setIfInBounds_toArray]
        have H10 := hide h10
        have H11 := hide h11
        have HK := hide ((kp_drew w).trans hkW1)
        obtain ⟨a1, c1, e1, -⟩ := h10
        obtain ⟨a2, c2, e2, -⟩ := h11
        subst e1
        subst e2
        clear hkW1 h25 h26 h28 h29
        go_wp2_with fail
        go_ret2
        exact ⟨a1, _, c1, a2, _, c2, rfl, unhide H10, unhide H11, unhide HK⟩
    · have hsmi : ¬ (m : Int) = (n : Int) := by omega
      have h2n : 2 ≤ n := by omega
      have hmn : m < n := by omega
      obtain ⟨k, hk⟩ : ∃ k, k = tsplP n := ⟨_, rfl⟩
      have hk1 : 1 ≤ k := by rw [hk]; exact tsplP_pos h2n
      have hk2 : k < n := by rw [hk]; exact tsplP_lt h2n
      have HC := hide (rsplit_any n k w (by rw [Int.toNat_natCast]; exact hk) (by omega))
      have hpl : 0 < ps.length := by
        rw [hpc]
        by_cases h : m ≤ k
        · rw [lenP_left h1m hmn hk h]; omega
        · rw [lenP_right h1m hmn hk h]; omega
      have hyl : (lastP ps).length = 32 := hm _ (lastP_mem hpl)
      have HYB : Hid (Bs (lastP ps)) := hL.bs _ (lastP_mem hpl)
      obtain ⟨y, hy⟩ : ∃ y, y = lastP ps := ⟨_, rfl⟩
      obtain ⟨qs, hqs⟩ : ∃ qs, qs = initP ps := ⟨_, rfl⟩
      have hql : qs.length = ps.length - 1 := by rw [hqs, initP_len]
      have hqm : ∀ z ∈ qs, z.length = 32 := fun z hz => hm z (initP_mem (by rw [← hqs]; exact hz))
      have hqb : ∀ z ∈ qs, Bs z := fun z hz => hL.bs z (initP_mem (by rw [← hqs]; exact hz))
      obtain ⟨q, hq⟩ : ∃ q, ps.length = q + 1 := ⟨ps.length - 1, by omega⟩
      obtain ⟨ao, c, e, h1, h2, h3⟩ := hL.shape
      rw [hq] at e h1
      subst e
      have hx : ps[q]? = some (lastP ps) := by have := lastP_at hpl; rw [hq] at this; exact this
      have HQL : Hid (LcM qs (.slice ao q c) w) := by
        have := hL.take q (by omega)
        rw [show ps.take q = qs by rw [hqs]; unfold initP; rw [hq]; rfl] at this
        exact this
      obtain ⟨-, bk, off, u, rfl, hcu, hSu, -⟩ := hL.at q _ hx
      have hrun := fun W => run_lhead (some ⟨bk, off, none⟩) (q + 1) c q W (by omega)
      rw [← hy] at hyl HYB hSu
      have HSY := hide hSu
      obtain ⟨ay, cy, hu, -⟩ := hSu
      rw [hyl] at hu
      subst hu
      have hqi : (q : Int) ≤ 64 := by have := lenP_le 63 m n b h1m hin (by omega); omega
      clear h2
      have HL := hide hL
      by_cases hik : m ≤ k
      · have hci : (m : Int) ≤ (k : Int) := by omega
        obtain ⟨ra, hra⟩ : ∃ r, r = (ldsP m k b qs x).1 := ⟨_, rfl⟩
        obtain ⟨rb, hrb⟩ : ∃ r, r = (ldsP m k b qs x).2 := ⟨_, rfl⟩
        rw [ldsP_left h1m hmn hk hik, ← hqs, ← hy] at hr1 hr2
        dsimp only at hr1 hr2
        rw [← hra] at hr1
        rw [← hrb] at hr2
        have HR1 := hide hr1
        have HR2 := hide hr2
        have hqc : qs.length = lenP m k b := by rw [hql, hpc, lenP_left h1m hmn hk hik]; rfl
        have hall := ldsP_all (fun z => Bs z ∧ z.length = 32) both32r k m b qs x (by omega) (by omega) hqc (fun z hz => ⟨hqb z hz, hqm z hz⟩) ⟨hB, hxl⟩
        rw [← hra, ← hrb] at hall
        have HRA := hide hall.1
        have HRB := hide hall.2
        have hA := fun v w hL hS => ih k (by omega) v vx qs x m b ra rb w hra hrb (by omega) (by omega) (by omega) hqc hL hqm hS hB hxl
        have HA := hide hA
        obtain ⟨avx, cvx, hvx, -⟩ := hS
        rw [hxl] at hvx
        subst hvx
        clear hA hra hrb hall hqc hr1 hr2 hk hik hpl hy hqs hql hqm hqb hpc hm hB hxl hL ih h2n hsm hmn hq h1 h3 hx
        go_enter Tryd.func57, Tryd.ntmps57
        go_wp2_with fail
        refine (unhide HC).mono ?_
        rintro ee w1 ⟨rfl, hw⟩
        subst w1
        clear HC
        go_wp2_with fail
        refine (unhide HA _ w (unhide HQL) (unhide HS)).mono ?_
        rintro ee w3 ⟨a3, m3, c3, a4, m4, c4, rfl, S3, S4, K3⟩
        have HK3 := hide K3
        have HS3 := hide S3
        have HS4 := hide S4
        have HSY3 := hide ((unhide HSY).kept K3 (by simp))
        clear S3 S4 K3 HA
        have HN := hide (rnode_any _ _ rb y r2 (unhide HR2) w3 (unhide HS4) (unhide HRB).1 (by rw [(unhide HRB).2]; omega) (unhide HSY3) (unhide HYB) (by omega))
        go_wp2_with fail
        refine (unhide HN).mono ?_
        rintro ee w4 ⟨a5, m5, c5, rfl, R5, K5⟩
        have HR5 := hide R5
        have HK5 := hide K5
        clear R5 K5 HN
        go_wp2_with fail
        go_ret2
        exact ⟨a3, m3, c3, a5, m5, c5, rfl, by rw [unhide HR1]; exact (unhide HS3).kept (unhide HK5) (by simp), (unhide HR5).sl, (unhide HK3).trans (unhide HK5)⟩
      · have hci : ¬ (m : Int) ≤ (k : Int) := by omega
        obtain ⟨ra, hra⟩ : ∃ r, r = (ldsP (m - k) (n - k) false qs x).1 := ⟨_, rfl⟩
        obtain ⟨rb, hrb⟩ : ∃ r, r = (ldsP (m - k) (n - k) false qs x).2 := ⟨_, rfl⟩
        rw [ldsP_right h1m hmn hk hik, ← hqs, ← hy] at hr1 hr2
        dsimp only at hr1 hr2
        rw [← hra] at hr1
        rw [← hrb] at hr2
        have HR1 := hide hr1
        have HR2 := hide hr2
        have hqc : qs.length = lenP (m - k) (n - k) false := by rw [hql, hpc, lenP_right h1m hmn hk hik]; rfl
        have hall := ldsP_all (fun z => Bs z ∧ z.length = 32) both32r (n - k) (m - k) false qs x (by omega) (by omega) hqc (fun z hz => ⟨hqb z hz, hqm z hz⟩) ⟨hB, hxl⟩
        rw [← hra, ← hrb] at hall
        have HRA := hide hall.1
        have HRB := hide hall.2
        have hA := fun v w hL hS => ih (n - k) (by omega) v vx qs x (m - k) false ra rb w hra hrb (by omega) (by omega) (by omega) hqc hL hqm hS hB hxl
        rw [show ((m - k : Nat) : Int) = (m : Int) - (k : Int) by omega, show ((n - k : Nat) : Int) = (n : Int) - (k : Int) by omega] at hA
        have HA := hide hA
        obtain ⟨avx, cvx, hvx, -⟩ := hS
        rw [hxl] at hvx
        subst hvx
        clear hA hra hrb hall hqc hr1 hr2 hk hik hpl hy hqs hql hqm hqb hpc hm hB hxl hL ih h2n hsm hmn hq h1 h3 hx
        go_enter Tryd.func57, Tryd.ntmps57
        go_wp2_with fail
        refine (unhide HC).mono ?_
        rintro ee w1 ⟨rfl, hw⟩
        subst w1
        clear HC
        go_wp2_with fail
        refine (unhide HA _ w (unhide HQL) (unhide HS)).mono ?_
        rintro ee w3 ⟨a3, m3, c3, a4, m4, c4, rfl, S3, S4, K3⟩
        have HK3 := hide K3
        have HS3 := hide S3
        have HS4 := hide S4
        have HSY3 := hide ((unhide HSY).kept K3 (by simp))
        clear S3 S4 K3 HA
        have HN := hide (rnode_any _ _ y ra r1 (unhide HR1) w3 (unhide HSY3) (unhide HYB) (by omega) (unhide HS3) (unhide HRA).1 (by rw [(unhide HRA).2]; omega))
        go_wp2_with fail
        refine (unhide HN).mono ?_
        rintro ee w4 ⟨a5, m5, c5, rfl, R5, K5⟩
        have HR5 := hide R5
        have HK5 := hide ((unhide HK3).trans K5)
        have HSY5 := hide ((unhide HSY3).kept K5 (by simp))
        have HS45 := hide ((unhide HS4).kept K5 (by simp))
        clear R5 K5 HN
        have HN := hide (rnode_any _ _ y rb r2 (unhide HR2) w4 (unhide HSY5) (unhide HYB) (by omega) (unhide HS45) (unhide HRB).1 (by rw [(unhide HRB).2]; omega))
        go_wp2_with fail
        refine (unhide HN).mono ?_
        rintro ee w5 ⟨a6, m6, c6, rfl, R6, K6⟩
        have HR6 := hide R6
        have HK6 := hide K6
        clear R6 K6 HN
        go_wp2_with fail
        go_ret2
        exact ⟨a5, m5, c5, a6, m6, c6, rfl, (unhide HR5).sl.kept (unhide HK6) (by simp), (unhide HR6).sl, (unhide HK5).trans (unhide HK6)⟩
end Go.Proofs.YtphhofgjnlfjmaaDoor

/-
  The contracts of the reference's Lead and Leads.
-/
namespace Go.Proofs.YtphhofgjnlfjmaaDoor
open Go.RowKit
open Go.Proofs

set_option maxRecDepth 100000 in
set_option maxHeartbeats 4000000 in
theorem rflead_any (v vx : Value) (i n : Int) (ps : List (List Int)) (x : List Int) (w : World) (hV : TV w v i n ps) (hS : Sl w vx x) (hB : Bs x) (hn : n ≤ 9223372036854775807) :
    Calls Tryd.prog 31 #[v, vx] w fun e w' => ∃ ao m c, e = .returned (.tuple #[.slice ao m c, .bool (ledOk i n ps x)]) ∧ Sl w' (.slice ao m c) (ledR i n ps x) ∧ Kp [] w w' := by
  obtain ⟨ao, c, e, hL⟩ := hV.shape
  subst e
  obtain ⟨N, hN⟩ : ∃ N, N = ps.length := ⟨_, rfl⟩
  rw [← hN] at hL ⊢
  obtain ⟨ob, hob⟩ : ∃ o : Obj, o = (.cells #[.int .i64 i, .int .i64 n, .slice ao N c] 32) := ⟨_, rfl⟩
  have K1 : Kp [] w (w.alloc ob) := (Kp.refl [] w).alloc ob
  have HK1 := hide K1
  have HST : Hid (∀ w', Kp [] (w.alloc ob) w' → w'.heap[w.heap.size]? = some (.cells #[.int .i64 i, .int .i64 n, .slice ao N c] 32 (0, 0))) := fun w' k => k.heap (by rw [hob]; exact heap_alloc_new w _) (by simp)
  have HLL : Hid (∀ w', Kp [] (w.alloc ob) w' → LcM ps (.slice ao N c) w') := fun w' k => hL.kept (K1.trans k)
  have HSL : Hid (∀ w', Kp [] (w.alloc ob) w' → Sl w' vx x) := fun w' k => hS.kept (K1.trans k) (by simp)
  have HBX := hide hB
  have HNN := hide hN
  have HPB := hide hL.bs
  obtain ⟨ax, cx, hvx, -⟩ := hS
  obtain ⟨nx, hnx⟩ : ∃ nx, nx = x.length := ⟨_, rfl⟩
  rw [← hnx] at hvx
  subst hvx
  have HNX := hide hnx
  clear hV hL hB hN hnx K1
  by_cases hr : rightP ps = true
  · by_cases hx : nx = 32
    · subst hx
      by_cases h0 : i < 0
      · have HOK : Hid (ledOk i n ps x = false) := ledOk_not (fun h => by have := h.2.2.1.1; omega)
        rw [unhide HOK]
        have HRR : Hid (∀ w', LcM ps (.slice ao N c) w' → Calls Tryd.prog 34 #[.slice ao N c] w' fun e w'' => e = .returned (.bool true) ∧ w'' = w') := fun w' h => by have := prright_any _ ps w' h; rw [hr] at this; exact this
        obtain ⟨w1, hw1⟩ : ∃ w1, w1 = w.alloc ob := ⟨_, rfl⟩
        obtain ⟨g0, hg0⟩ : ∃ g0, g0 = w.heap.size := ⟨_, rfl⟩
        rw [← hw1] at HK1 HST HLL HSL
        rw [← hg0] at HST
        rw [hob] at hw1
        obtain ⟨z0, z1, z2⟩ := cell_tri (unhide HST w1 (Kp.refl _ _))
        have HDR : Hid (∀ w', Kp [] w1.drew w' → Kp [] w1 w') := fun w' k => (kp_drew w1).trans k
        clear hr hob
        go_enter Tryd.func31, Tryd.ntmps31
        go_wp2_with fail
        rw [← hw1, ← hg0]
        clear hw1 hg0
        refine region_grow Tryd.mixed [Is (.pointer (some ⟨g0, 2, none⟩)), Is (.slice ao N c), Is (.bool true), Is (.bool false), Is (.bool false), Is (.slice ax 32 cx), Is (.int .i64 32), Is (.bool false), Is (.bool false), Is (.bool false), Is (.pointer (some ⟨g0, 0, none⟩)), Is (.int .i64 i), Is (.bool true), Is (.bool true), Is (.bool true), Is (undef), Is (undef), Is (undef), Is (undef), Is (undef), Is (.bool true), Is (.bool true), Is (undef), Is (undef), Is (undef), Is (undef), Is (undef), Is (undef), Is (undef), Is (undef), Is (undef), Is (.bool true)] [[(2, none)], [(6, some 0)], [(7, some 1)], [(8, some 2)], [(9, some 3)], [(1, none), (10, some 4)], [(11, some 5), (10, some 4)], [(12, some 6), (10, some 4)], [(10, some 4), (13, some 7)], [(14, some 8)], [(2, none), (15, some 9)], [(16, some 10), (15, some 9)], [(17, some 11), (15, some 9)], [(15, some 9), (18, some 12)], [(19, some 13)], [(2, none), (20, some 14)], [(21, some 15), (20, some 14)], [(2, none), (20, some 14)], [(23, some 17), (20, some 14)], [(22, some 16), (24, some 18), (20, some 14)], [(20, some 14), (25, some 19)], [(26, some 20)], [(2, none), (27, some 21)], [(28, some 22), (27, some 21)], [(29, some 23), (27, some 21)], [(2, none), (27, some 21)], [(31, some 25), (27, some 21)], [(2, none), (27, some 21)], [(33, some 27), (27, some 21)], [(32, some 26), (34, some 28), (27, some 21)], [(30, some 24), (35, some 29), (27, some 21)], [(27, some 21), (36, some 30)]] (by kernel_rfl) ?_ ?_ ?_
        · simp only [List.mem_cons, List.not_mem_nil, or_false]
          intro R hR
          rcases hR with rfl | rfl | rfl | rfl | rfl | rfl | rfl | rfl | rfl | rfl | rfl | rfl | rfl | rfl | rfl | rfl | rfl | rfl | rfl | rfl | rfl | rfl | rfl | rfl | rfl | rfl | rfl | rfl | rfl | rfl | rfl | rfl <;> first | exact stable_is _
        · refine steps_cons (fun a w hk hn => ?_) ?_
          · have h2 : a.eval (.tmp 2) = .pointer (some ⟨g0, 0, none⟩) := hn.1
            clear hn
            refine wants_plain rfl ?_
            exact grown_fld2 triP (.tmp 2) rfl h2
          refine steps_cons (fun a w hk hn => ?_) ?_
          · have h6 : a.eval (.tmp 6) = .pointer (some ⟨g0, 2, none⟩) := hn.1
            clear hn
            refine wants_plain rfl ?_
            exact grown_ldl (.tmp 6) rfl 2 _ _ _ h6 (cell_tri ((fun w'' k => unhide HST w'' (unhide HDR w'' k)) w hk)).2.2
          refine steps_cons (fun a w hk hn => ?_) ?_
          · have h7 : a.eval (.tmp 7) = .slice ao N c := hn.1
            clear hn
            refine wants_plain rfl ?_
            refine grown_call (f := 34) rfl Tryd.func34 (by kernel_rfl) (by kernel_rfl) ?_
            simp only [List.map_toArray, List.map_cons, List.map_nil, h7]
            refine (unhide HRR w (unhide HLL w (unhide HDR w hk))).mono ?_
            rintro e w' ⟨rfl, rfl⟩
            exact ⟨_, rfl, Kp.refl _ _, rfl⟩
          refine steps_cons (fun a w hk hn => ?_) ?_
          · have h8 : a.eval (.tmp 8) = .bool true := hn.1
            clear hn
            refine wants_plain rfl ?_
            refine grown_run (v := .bool false) ?_ (Kp.refl _ _) rfl
            obtain ⟨ρ, hρ, hc, hf, hg⟩ := eval_is a
            rw [hρ] at h8 ⊢
            simp [go_sem, h8]
          refine steps_cons (fun a w hk hn => ?_) ?_
          · have h9 : a.eval (.tmp 9) = .bool false := hn.1
            clear hn
            refine wants_plain rfl ?_
            exact grown_move (.tmp 9) rfl h9
          refine steps_cons (fun a w hk hn => ?_) ?_
          · have h1 : a.eval (.tmp 1) = .slice ax 32 cx := hn.1
            have h10 : a.eval (.tmp 10) = .bool false := hn.2.1
            clear hn
            refine wants_guard (d := 10) rfl rfl h10 ?_
            exact grown_move (.tmp 1) rfl h1
          refine steps_cons (fun a w hk hn => ?_) ?_
          · have h11 : a.eval (.tmp 11) = .slice ax 32 cx := hn.1
            have h10 : a.eval (.tmp 10) = .bool false := hn.2.1
            clear hn
            refine wants_guard (d := 10) rfl rfl h10 ?_
            refine grown_run (v := .int .i64 32) ?_ (Kp.refl _ _) rfl
            obtain ⟨ρ, hρ, hc, hf, hg⟩ := eval_is a
            rw [hρ] at h11 ⊢
            simp [go_sem, h11]
          refine steps_cons (fun a w hk hn => ?_) ?_
          · have h12 : a.eval (.tmp 12) = .int .i64 32 := hn.1
            have h10 : a.eval (.tmp 10) = .bool false := hn.2.1
            clear hn
            refine wants_guard (d := 10) rfl rfl h10 ?_
            refine grown_run (v := .bool false) ?_ (Kp.refl _ _) rfl
            obtain ⟨ρ, hρ, hc, hf, hg⟩ := eval_is a
            rw [hρ] at h12 ⊢
            simp [go_sem, hc, h12]
          refine steps_cons (fun a w hk hn => ?_) ?_
          · have h10 : a.eval (.tmp 10) = .bool false := hn.1
            have h13 : a.eval (.tmp 13) = .bool false := hn.2.1
            clear hn
            refine wants_plain rfl ?_
            exact grown_pick _ _ _ false rfl h10 h13
          refine steps_cons (fun a w hk hn => ?_) ?_
          · have h14 : a.eval (.tmp 14) = .bool false := hn.1
            clear hn
            refine wants_plain rfl ?_
            exact grown_move (.tmp 14) rfl h14
          refine steps_cons (fun a w hk hn => ?_) ?_
          · have h2 : a.eval (.tmp 2) = .pointer (some ⟨g0, 0, none⟩) := hn.1
            have h15 : a.eval (.tmp 15) = .bool false := hn.2.1
            clear hn
            refine wants_guard (d := 15) rfl rfl h15 ?_
            exact grown_fld0 triP (.tmp 2) rfl h2
          refine steps_cons (fun a w hk hn => ?_) ?_
          · have h16 : a.eval (.tmp 16) = .pointer (some ⟨g0, 0, none⟩) := hn.1
            have h15 : a.eval (.tmp 15) = .bool false := hn.2.1
            clear hn
            refine wants_guard (d := 15) rfl rfl h15 ?_
            exact grown_ldi (.tmp 16) rfl 0 _ h16 (cell_tri ((fun w'' k => unhide HST w'' (unhide HDR w'' k)) w hk)).1
          refine steps_cons (fun a w hk hn => ?_) ?_
          · have h17 : a.eval (.tmp 17) = .int .i64 i := hn.1
            have h15 : a.eval (.tmp 15) = .bool false := hn.2.1
            clear hn
            refine wants_guard (d := 15) rfl rfl h15 ?_
            refine grown_run (v := .bool true) ?_ (Kp.refl _ _) rfl
            obtain ⟨ρ, hρ, hc, hf, hg⟩ := eval_is a
            rw [hρ] at h17 ⊢
            simp [go_sem, hc, h17, h0]
          refine steps_cons (fun a w hk hn => ?_) ?_
          · have h15 : a.eval (.tmp 15) = .bool false := hn.1
            have h18 : a.eval (.tmp 18) = .bool true := hn.2.1
            clear hn
            refine wants_plain rfl ?_
            exact grown_pick _ _ _ false rfl h15 h18
          refine steps_cons (fun a w hk hn => ?_) ?_
          · have h19 : a.eval (.tmp 19) = .bool true := hn.1
            clear hn
            refine wants_plain rfl ?_
            exact grown_move (.tmp 19) rfl h19
          refine steps_cons (fun a w hk hn => ?_) ?_
          · have h2 : a.eval (.tmp 2) = .pointer (some ⟨g0, 0, none⟩) := hn.1
            have h20 : a.eval (.tmp 20) = .bool true := hn.2.1
            clear hn
            exact wants_not (d := 20) rfl rfl h20 rfl
          refine steps_cons (fun a w hk hn => ?_) ?_
          · have h21 : a.eval (.tmp 21) = undef := hn.1
            have h20 : a.eval (.tmp 20) = .bool true := hn.2.1
            clear hn
            exact wants_not (d := 20) rfl rfl h20 rfl
          refine steps_cons (fun a w hk hn => ?_) ?_
          · have h2 : a.eval (.tmp 2) = .pointer (some ⟨g0, 0, none⟩) := hn.1
            have h20 : a.eval (.tmp 20) = .bool true := hn.2.1
            clear hn
            exact wants_not (d := 20) rfl rfl h20 rfl
          refine steps_cons (fun a w hk hn => ?_) ?_
          · have h23 : a.eval (.tmp 23) = undef := hn.1
            have h20 : a.eval (.tmp 20) = .bool true := hn.2.1
            clear hn
            exact wants_not (d := 20) rfl rfl h20 rfl
          refine steps_cons (fun a w hk hn => ?_) ?_
          · have h22 : a.eval (.tmp 22) = undef := hn.1
            have h24 : a.eval (.tmp 24) = undef := hn.2.1
            have h20 : a.eval (.tmp 20) = .bool true := hn.2.2.1
            clear hn
            exact wants_not (d := 20) rfl rfl h20 rfl
          refine steps_cons (fun a w hk hn => ?_) ?_
          · have h20 : a.eval (.tmp 20) = .bool true := hn.1
            have h25 : a.eval (.tmp 25) = undef := hn.2.1
            clear hn
            refine wants_plain rfl ?_
            exact grown_pick _ _ _ true rfl h20 rfl
          refine steps_cons (fun a w hk hn => ?_) ?_
          · have h26 : a.eval (.tmp 26) = .bool true := hn.1
            clear hn
            refine wants_plain rfl ?_
            exact grown_move (.tmp 26) rfl h26
          refine steps_cons (fun a w hk hn => ?_) ?_
          · have h2 : a.eval (.tmp 2) = .pointer (some ⟨g0, 0, none⟩) := hn.1
            have h27 : a.eval (.tmp 27) = .bool true := hn.2.1
            clear hn
            exact wants_not (d := 27) rfl rfl h27 rfl
          refine steps_cons (fun a w hk hn => ?_) ?_
          · have h28 : a.eval (.tmp 28) = undef := hn.1
            have h27 : a.eval (.tmp 27) = .bool true := hn.2.1
            clear hn
            exact wants_not (d := 27) rfl rfl h27 rfl
          refine steps_cons (fun a w hk hn => ?_) ?_
          · have h29 : a.eval (.tmp 29) = undef := hn.1
            have h27 : a.eval (.tmp 27) = .bool true := hn.2.1
            clear hn
            exact wants_not (d := 27) rfl rfl h27 rfl
          refine steps_cons (fun a w hk hn => ?_) ?_
          · have h2 : a.eval (.tmp 2) = .pointer (some ⟨g0, 0, none⟩) := hn.1
            have h27 : a.eval (.tmp 27) = .bool true := hn.2.1
            clear hn
            exact wants_not (d := 27) rfl rfl h27 rfl
          refine steps_cons (fun a w hk hn => ?_) ?_
          · have h31 : a.eval (.tmp 31) = undef := hn.1
            have h27 : a.eval (.tmp 27) = .bool true := hn.2.1
            clear hn
            exact wants_not (d := 27) rfl rfl h27 rfl
          refine steps_cons (fun a w hk hn => ?_) ?_
          · have h2 : a.eval (.tmp 2) = .pointer (some ⟨g0, 0, none⟩) := hn.1
            have h27 : a.eval (.tmp 27) = .bool true := hn.2.1
            clear hn
            exact wants_not (d := 27) rfl rfl h27 rfl
          refine steps_cons (fun a w hk hn => ?_) ?_
          · have h33 : a.eval (.tmp 33) = undef := hn.1
            have h27 : a.eval (.tmp 27) = .bool true := hn.2.1
            clear hn
            exact wants_not (d := 27) rfl rfl h27 rfl
          refine steps_cons (fun a w hk hn => ?_) ?_
          · have h32 : a.eval (.tmp 32) = undef := hn.1
            have h34 : a.eval (.tmp 34) = undef := hn.2.1
            have h27 : a.eval (.tmp 27) = .bool true := hn.2.2.1
            clear hn
            exact wants_not (d := 27) rfl rfl h27 rfl
          refine steps_cons (fun a w hk hn => ?_) ?_
          · have h30 : a.eval (.tmp 30) = undef := hn.1
            have h35 : a.eval (.tmp 35) = undef := hn.2.1
            have h27 : a.eval (.tmp 27) = .bool true := hn.2.2.1
            clear hn
            exact wants_not (d := 27) rfl rfl h27 rfl
          refine steps_cons (fun a w hk hn => ?_) ?_
          · have h27 : a.eval (.tmp 27) = .bool true := hn.1
            have h36 : a.eval (.tmp 36) = undef := hn.2.1
            clear hn
            refine wants_plain rfl ?_
            exact grown_pick _ _ _ true rfl h27 rfl
          exact trivial
        intro W1 hkW1
        rintro _ rfl
        rintro _ rfl
        rintro _ rfl
        rintro _ rfl
        rintro _ rfl
        rintro _ rfl
        rintro _ rfl
        rintro _ rfl
        rintro _ rfl
        rintro _ rfl
        rintro _ rfl
        rintro _ rfl
        rintro _ rfl
        rintro _ rfl
        rintro _ rfl
        rintro _ rfl
        rintro _ rfl
        rintro _ rfl
        rintro _ rfl
        rintro _ rfl
        rintro _ rfl
        rintro _ rfl
        rintro _ rfl
        rintro _ rfl
        rintro _ rfl
        rintro _ rfl
        rintro _ rfl
        rintro _ rfl
        rintro _ rfl
        rintro _ rfl
        rintro _ rfl
        rintro _ rfl
        refine fin_nil ?_
        simp only [Act.put, List.set_cons_zero, List.set_cons_succ, List.setIfInBounds_toArray]
        have HKW := hide (unhide HDR W1 hkW1)
        clear hkW1 z0 z1 z2
        go_wp2_with fail
        go_ret2
        exact ⟨none, 0, 0, rfl, by rw [ledR_no (unhide HOK)]; exact Sl.nil _, ((unhide HK1).trans (unhide HKW))⟩
      · obtain ⟨p, rfl⟩ := Int.eq_ofNat_of_zero_le (Int.not_lt.1 h0)
        clear h0
        by_cases h1 : n ≤ (p : Int)
        · have HOK : Hid (ledOk p n ps x = false) := ledOk_not (fun h => by have := h.2.2.1.2; omega)
          rw [unhide HOK]
          have HRR : Hid (∀ w', LcM ps (.slice ao N c) w' → Calls Tryd.prog 34 #[.slice ao N c] w' fun e w'' => e = .returned (.bool true) ∧ w'' = w') := fun w' h => by have := prright_any _ ps w' h; rw [hr] at this; exact this
          obtain ⟨w1, hw1⟩ : ∃ w1, w1 = w.alloc ob := ⟨_, rfl⟩
          obtain ⟨g0, hg0⟩ : ∃ g0, g0 = w.heap.size := ⟨_, rfl⟩
          rw [← hw1] at HK1 HST HLL HSL
          rw [← hg0] at HST
          rw [hob] at hw1
          obtain ⟨z0, z1, z2⟩ := cell_tri (unhide HST w1 (Kp.refl _ _))
          have HDR : Hid (∀ w', Kp [] w1.drew w' → Kp [] w1 w') := fun w' k => (kp_drew w1).trans k
          clear hr hob
          go_enter Tryd.func31, Tryd.ntmps31
          go_wp2_with fail
          rw [← hw1, ← hg0]
          clear hw1 hg0
          refine region_grow Tryd.mixed [Is (.pointer (some ⟨g0, 2, none⟩)), Is (.slice ao N c), Is (.bool true), Is (.bool false), Is (.bool false), Is (.slice ax 32 cx), Is (.int .i64 32), Is (.bool false), Is (.bool false), Is (.bool false), Is (.pointer (some ⟨g0, 0, none⟩)), Is (.int .i64 p), Is (.bool false), Is (.bool false), Is (.bool false), Is (.pointer (some ⟨g0, 0, none⟩)), Is (.int .i64 p), Is (.pointer (some ⟨g0, 1, none⟩)), Is (.int .i64 n), Is (.bool true), Is (.bool true), Is (.bool true), Is (undef), Is (undef), Is (undef), Is (undef), Is (undef), Is (undef), Is (undef), Is (undef), Is (undef), Is (.bool true)] [[(2, none)], [(6, some 0)], [(7, some 1)], [(8, some 2)], [(9, some 3)], [(1, none), (10, some 4)], [(11, some 5), (10, some 4)], [(12, some 6), (10, some 4)], [(10, some 4), (13, some 7)], [(14, some 8)], [(2, none), (15, some 9)], [(16, some 10), (15, some 9)], [(17, some 11), (15, some 9)], [(15, some 9), (18, some 12)], [(19, some 13)], [(2, none), (20, some 14)], [(21, some 15), (20, some 14)], [(2, none), (20, some 14)], [(23, some 17), (20, some 14)], [(22, some 16), (24, some 18), (20, some 14)], [(20, some 14), (25, some 19)], [(26, some 20)], [(2, none), (27, some 21)], [(28, some 22), (27, some 21)], [(29, some 23), (27, some 21)], [(2, none), (27, some 21)], [(31, some 25), (27, some 21)], [(2, none), (27, some 21)], [(33, some 27), (27, some 21)], [(32, some 26), (34, some 28), (27, some 21)], [(30, some 24), (35, some 29), (27, some 21)], [(27, some 21), (36, some 30)]] (by kernel_rfl) ?_ ?_ ?_
          · simp only [List.mem_cons, List.not_mem_nil, or_false]
            intro R hR
            rcases hR with rfl | rfl | rfl | rfl | rfl | rfl | rfl | rfl | rfl | rfl | rfl | rfl | rfl | rfl | rfl | rfl | rfl | rfl | rfl | rfl | rfl | rfl | rfl | rfl | rfl | rfl | rfl | rfl | rfl | rfl | rfl | rfl <;> first | exact stable_is _
          · refine steps_cons (fun a w hk hn => ?_) ?_
            · have h2 : a.eval (.tmp 2) = .pointer (some ⟨g0, 0, none⟩) := hn.1
              clear hn
              refine wants_plain rfl ?_
              exact grown_fld2 triP (.tmp 2) rfl h2
            refine steps_cons (fun a w hk hn => ?_) ?_
            · have h6 : a.eval (.tmp 6) = .pointer (some ⟨g0, 2, none⟩) := hn.1
              clear hn
              refine wants_plain rfl ?_
              exact grown_ldl (.tmp 6) rfl 2 _ _ _ h6 (cell_tri ((fun w'' k => unhide HST w'' (unhide HDR w'' k)) w hk)).2.2
            refine steps_cons (fun a w hk hn => ?_) ?_
            · have h7 : a.eval (.tmp 7) = .slice ao N c := hn.1
              clear hn
              refine wants_plain rfl ?_
              refine grown_call (f := 34) rfl Tryd.func34 (by kernel_rfl) (by kernel_rfl) ?_
              simp only [List.map_toArray, List.map_cons, List.map_nil, h7]
              refine (unhide HRR w (unhide HLL w (unhide HDR w hk))).mono ?_
              rintro e w' ⟨rfl, rfl⟩
              exact ⟨_, rfl, Kp.refl _ _, rfl⟩
            refine steps_cons (fun a w hk hn => ?_) ?_
            · have h8 : a.eval (.tmp 8) = .bool true := hn.1
              clear hn
              refine wants_plain rfl ?_
              refine grown_run (v := .bool false) ?_ (Kp.refl _ _) rfl
              obtain ⟨ρ, hρ, hc, hf, hg⟩ := eval_is a
              rw [hρ] at h8 ⊢
              simp [go_sem, h8]
            refine steps_cons (fun a w hk hn => ?_) ?_
            · have h9 : a.eval (.tmp 9) = .bool false := hn.1
              clear hn
              refine wants_plain rfl ?_
              exact grown_move (.tmp 9) rfl h9
            refine steps_cons (fun a w hk hn => ?_) ?_
            · have h1 : a.eval (.tmp 1) = .slice ax 32 cx := hn.1
              have h10 : a.eval (.tmp 10) = .bool false := hn.2.1
              clear hn
              refine wants_guard (d := 10) rfl rfl h10 ?_
              exact grown_move (.tmp 1) rfl h1
            refine steps_cons (fun a w hk hn => ?_) ?_
            · have h11 : a.eval (.tmp 11) = .slice ax 32 cx := hn.1
              have h10 : a.eval (.tmp 10) = .bool false := hn.2.1
              clear hn
              refine wants_guard (d := 10) rfl rfl h10 ?_
              refine grown_run (v := .int .i64 32) ?_ (Kp.refl _ _) rfl
              obtain ⟨ρ, hρ, hc, hf, hg⟩ := eval_is a
              rw [hρ] at h11 ⊢
              simp [go_sem, h11]
            refine steps_cons (fun a w hk hn => ?_) ?_
            · have h12 : a.eval (.tmp 12) = .int .i64 32 := hn.1
              have h10 : a.eval (.tmp 10) = .bool false := hn.2.1
              clear hn
              refine wants_guard (d := 10) rfl rfl h10 ?_
              refine grown_run (v := .bool false) ?_ (Kp.refl _ _) rfl
              obtain ⟨ρ, hρ, hc, hf, hg⟩ := eval_is a
              rw [hρ] at h12 ⊢
              simp [go_sem, hc, h12]
            refine steps_cons (fun a w hk hn => ?_) ?_
            · have h10 : a.eval (.tmp 10) = .bool false := hn.1
              have h13 : a.eval (.tmp 13) = .bool false := hn.2.1
              clear hn
              refine wants_plain rfl ?_
              exact grown_pick _ _ _ false rfl h10 h13
            refine steps_cons (fun a w hk hn => ?_) ?_
            · have h14 : a.eval (.tmp 14) = .bool false := hn.1
              clear hn
              refine wants_plain rfl ?_
              exact grown_move (.tmp 14) rfl h14
            refine steps_cons (fun a w hk hn => ?_) ?_
            · have h2 : a.eval (.tmp 2) = .pointer (some ⟨g0, 0, none⟩) := hn.1
              have h15 : a.eval (.tmp 15) = .bool false := hn.2.1
              clear hn
              refine wants_guard (d := 15) rfl rfl h15 ?_
              exact grown_fld0 triP (.tmp 2) rfl h2
            refine steps_cons (fun a w hk hn => ?_) ?_
            · have h16 : a.eval (.tmp 16) = .pointer (some ⟨g0, 0, none⟩) := hn.1
              have h15 : a.eval (.tmp 15) = .bool false := hn.2.1
              clear hn
              refine wants_guard (d := 15) rfl rfl h15 ?_
              exact grown_ldi (.tmp 16) rfl 0 _ h16 (cell_tri ((fun w'' k => unhide HST w'' (unhide HDR w'' k)) w hk)).1
            refine steps_cons (fun a w hk hn => ?_) ?_
            · have h17 : a.eval (.tmp 17) = .int .i64 p := hn.1
              have h15 : a.eval (.tmp 15) = .bool false := hn.2.1
              clear hn
              refine wants_guard (d := 15) rfl rfl h15 ?_
              refine grown_run (v := .bool false) ?_ (Kp.refl _ _) rfl
              obtain ⟨ρ, hρ, hc, hf, hg⟩ := eval_is a
              rw [hρ] at h17 ⊢
              simp [go_sem, hc, h17]
            refine steps_cons (fun a w hk hn => ?_) ?_
            · have h15 : a.eval (.tmp 15) = .bool false := hn.1
              have h18 : a.eval (.tmp 18) = .bool false := hn.2.1
              clear hn
              refine wants_plain rfl ?_
              exact grown_pick _ _ _ false rfl h15 h18
            refine steps_cons (fun a w hk hn => ?_) ?_
            · have h19 : a.eval (.tmp 19) = .bool false := hn.1
              clear hn
              refine wants_plain rfl ?_
              exact grown_move (.tmp 19) rfl h19
            refine steps_cons (fun a w hk hn => ?_) ?_
            · have h2 : a.eval (.tmp 2) = .pointer (some ⟨g0, 0, none⟩) := hn.1
              have h20 : a.eval (.tmp 20) = .bool false := hn.2.1
              clear hn
              refine wants_guard (d := 20) rfl rfl h20 ?_
              exact grown_fld0 triP (.tmp 2) rfl h2
            refine steps_cons (fun a w hk hn => ?_) ?_
            · have h21 : a.eval (.tmp 21) = .pointer (some ⟨g0, 0, none⟩) := hn.1
              have h20 : a.eval (.tmp 20) = .bool false := hn.2.1
              clear hn
              refine wants_guard (d := 20) rfl rfl h20 ?_
              exact grown_ldi (.tmp 21) rfl 0 _ h21 (cell_tri ((fun w'' k => unhide HST w'' (unhide HDR w'' k)) w hk)).1
            refine steps_cons (fun a w hk hn => ?_) ?_
            · have h2 : a.eval (.tmp 2) = .pointer (some ⟨g0, 0, none⟩) := hn.1
              have h20 : a.eval (.tmp 20) = .bool false := hn.2.1
              clear hn
              refine wants_guard (d := 20) rfl rfl h20 ?_
              exact grown_fld1 triP (.tmp 2) rfl h2
            refine steps_cons (fun a w hk hn => ?_) ?_
            · have h23 : a.eval (.tmp 23) = .pointer (some ⟨g0, 1, none⟩) := hn.1
              have h20 : a.eval (.tmp 20) = .bool false := hn.2.1
              clear hn
              refine wants_guard (d := 20) rfl rfl h20 ?_
              exact grown_ldi (.tmp 23) rfl 1 _ h23 (cell_tri ((fun w'' k => unhide HST w'' (unhide HDR w'' k)) w hk)).2.1
            refine steps_cons (fun a w hk hn => ?_) ?_
            · have h22 : a.eval (.tmp 22) = .int .i64 p := hn.1
              have h24 : a.eval (.tmp 24) = .int .i64 n := hn.2.1
              have h20 : a.eval (.tmp 20) = .bool false := hn.2.2.1
              clear hn
              refine wants_guard (d := 20) rfl rfl h20 ?_
              refine grown_run (v := .bool true) ?_ (Kp.refl _ _) rfl
              obtain ⟨ρ, hρ, hc, hf, hg⟩ := eval_is a
              rw [hρ] at h22 h24 ⊢
              simp [go_sem, h22, h24, h1]
            refine steps_cons (fun a w hk hn => ?_) ?_
            · have h20 : a.eval (.tmp 20) = .bool false := hn.1
              have h25 : a.eval (.tmp 25) = .bool true := hn.2.1
              clear hn
              refine wants_plain rfl ?_
              exact grown_pick _ _ _ false rfl h20 h25
            refine steps_cons (fun a w hk hn => ?_) ?_
            · have h26 : a.eval (.tmp 26) = .bool true := hn.1
              clear hn
              refine wants_plain rfl ?_
              exact grown_move (.tmp 26) rfl h26
            refine steps_cons (fun a w hk hn => ?_) ?_
            · have h2 : a.eval (.tmp 2) = .pointer (some ⟨g0, 0, none⟩) := hn.1
              have h27 : a.eval (.tmp 27) = .bool true := hn.2.1
              clear hn
              exact wants_not (d := 27) rfl rfl h27 rfl
            refine steps_cons (fun a w hk hn => ?_) ?_
            · have h28 : a.eval (.tmp 28) = undef := hn.1
              have h27 : a.eval (.tmp 27) = .bool true := hn.2.1
              clear hn
              exact wants_not (d := 27) rfl rfl h27 rfl
            refine steps_cons (fun a w hk hn => ?_) ?_
            · have h29 : a.eval (.tmp 29) = undef := hn.1
              have h27 : a.eval (.tmp 27) = .bool true := hn.2.1
              clear hn
              exact wants_not (d := 27) rfl rfl h27 rfl
            refine steps_cons (fun a w hk hn => ?_) ?_
            · have h2 : a.eval (.tmp 2) = .pointer (some ⟨g0, 0, none⟩) := hn.1
              have h27 : a.eval (.tmp 27) = .bool true := hn.2.1
              clear hn
              exact wants_not (d := 27) rfl rfl h27 rfl
            refine steps_cons (fun a w hk hn => ?_) ?_
            · have h31 : a.eval (.tmp 31) = undef := hn.1
              have h27 : a.eval (.tmp 27) = .bool true := hn.2.1
              clear hn
              exact wants_not (d := 27) rfl rfl h27 rfl
            refine steps_cons (fun a w hk hn => ?_) ?_
            · have h2 : a.eval (.tmp 2) = .pointer (some ⟨g0, 0, none⟩) := hn.1
              have h27 : a.eval (.tmp 27) = .bool true := hn.2.1
              clear hn
              exact wants_not (d := 27) rfl rfl h27 rfl
            refine steps_cons (fun a w hk hn => ?_) ?_
            · have h33 : a.eval (.tmp 33) = undef := hn.1
              have h27 : a.eval (.tmp 27) = .bool true := hn.2.1
              clear hn
              exact wants_not (d := 27) rfl rfl h27 rfl
            refine steps_cons (fun a w hk hn => ?_) ?_
            · have h32 : a.eval (.tmp 32) = undef := hn.1
              have h34 : a.eval (.tmp 34) = undef := hn.2.1
              have h27 : a.eval (.tmp 27) = .bool true := hn.2.2.1
              clear hn
              exact wants_not (d := 27) rfl rfl h27 rfl
            refine steps_cons (fun a w hk hn => ?_) ?_
            · have h30 : a.eval (.tmp 30) = undef := hn.1
              have h35 : a.eval (.tmp 35) = undef := hn.2.1
              have h27 : a.eval (.tmp 27) = .bool true := hn.2.2.1
              clear hn
              exact wants_not (d := 27) rfl rfl h27 rfl
            refine steps_cons (fun a w hk hn => ?_) ?_
            · have h27 : a.eval (.tmp 27) = .bool true := hn.1
              have h36 : a.eval (.tmp 36) = undef := hn.2.1
              clear hn
              refine wants_plain rfl ?_
              exact grown_pick _ _ _ true rfl h27 rfl
            exact trivial
          intro W1 hkW1
          rintro _ rfl
          rintro _ rfl
          rintro _ rfl
          rintro _ rfl
          rintro _ rfl
          rintro _ rfl
          rintro _ rfl
          rintro _ rfl
          rintro _ rfl
          rintro _ rfl
          rintro _ rfl
          rintro _ rfl
          rintro _ rfl
          rintro _ rfl
          rintro _ rfl
          rintro _ rfl
          rintro _ rfl
          rintro _ rfl
          rintro _ rfl
          rintro _ rfl
          rintro _ rfl
          rintro _ rfl
          rintro _ rfl
          rintro _ rfl
          rintro _ rfl
          rintro _ rfl
          rintro _ rfl
          rintro _ rfl
          rintro _ rfl
          rintro _ rfl
          rintro _ rfl
          rintro _ rfl
          refine fin_nil ?_
          simp only [Act.put, List.set_cons_zero, List.set_cons_succ, List.setIfInBounds_toArray]
          have HKW := hide (unhide HDR W1 hkW1)
          clear hkW1 z0 z1 z2
          go_wp2_with fail
          go_ret2
          exact ⟨none, 0, 0, rfl, by rw [ledR_no (unhide HOK)]; exact Sl.nil _, ((unhide HK1).trans (unhide HKW))⟩
        · obtain ⟨q, rfl⟩ : ∃ q : Nat, n = q := ⟨n.toNat, by omega⟩
          have hpq : p < q := by omega
          clear h1
          by_cases hcnt : N = cntP q p
          · have HOK : Hid (ledOk p q ps x = true) := ledOk_iff.2 ⟨hr, (unhide HNX).symm, ⟨by omega, by omega⟩, by rw [← unhide HNN]; exact hcnt⟩
            rw [unhide HOK]
            obtain ⟨cn, hcn⟩ : ∃ cn, cn = cntP q p := ⟨_, rfl⟩
            have HCN := hide hcn
            obtain rfl : N = cn := by rw [hcn]; exact hcnt
            clear hcn hcnt
            obtain ⟨r, hr1⟩ : ∃ r, r = leadP q p ps x := ⟨_, rfl⟩
            have HR1 := hide hr1
            have HRV : Hid (ledR p q ps x = r) := by rw [ledR_ok (unhide HOK), hr1]; rfl
            clear hr1
            have HPM : Hid (∀ y ∈ ps, y.length = 32) := (rightP_iff.1 hr).2
            have HRR : Hid (∀ w', LcM ps (.slice ao N c) w' → Calls Tryd.prog 34 #[.slice ao N c] w' fun e w'' => e = .returned (.bool true) ∧ w'' = w') := fun w' h => by have := prright_any _ ps w' h; rw [hr] at this; exact this
            obtain ⟨w1, hw1⟩ : ∃ w1, w1 = w.alloc ob := ⟨_, rfl⟩
            obtain ⟨g0, hg0⟩ : ∃ g0, g0 = w.heap.size := ⟨_, rfl⟩
            rw [← hw1] at HK1 HST HLL HSL
            rw [← hg0] at HST
            rw [hob] at hw1
            obtain ⟨z0, z1, z2⟩ := cell_tri (unhide HST w1 (Kp.refl _ _))
            have HDR : Hid (∀ w', Kp [] w1.drew w' → Kp [] w1 w') := fun w' k => (kp_drew w1).trans k
            clear hr hob
            go_enter Tryd.func31, Tryd.ntmps31
            go_wp2_with fail
            rw [← hw1, ← hg0]
            clear hw1 hg0
            refine region_grow Tryd.mixed [Is (.pointer (some ⟨g0, 2, none⟩)), Is (.slice ao N c), Is (.bool true), Is (.bool false), Is (.bool false), Is (.slice ax 32 cx), Is (.int .i64 32), Is (.bool false), Is (.bool false), Is (.bool false), Is (.pointer (some ⟨g0, 0, none⟩)), Is (.int .i64 p), Is (.bool false), Is (.bool false), Is (.bool false), Is (.pointer (some ⟨g0, 0, none⟩)), Is (.int .i64 p), Is (.pointer (some ⟨g0, 1, none⟩)), Is (.int .i64 q), Is (.bool false), Is (.bool false), Is (.bool false), Is (.pointer (some ⟨g0, 2, none⟩)), Is (.slice ao N c), Is (.int .i64 N), Is (.pointer (some ⟨g0, 1, none⟩)), Is (.int .i64 q), Is (.pointer (some ⟨g0, 0, none⟩)), Is (.int .i64 p), Is (.int .i64 N), Is (.bool false), Is (.bool false)] [[(2, none)], [(6, some 0)], [(7, some 1)], [(8, some 2)], [(9, some 3)], [(1, none), (10, some 4)], [(11, some 5), (10, some 4)], [(12, some 6), (10, some 4)], [(10, some 4), (13, some 7)], [(14, some 8)], [(2, none), (15, some 9)], [(16, some 10), (15, some 9)], [(17, some 11), (15, some 9)], [(15, some 9), (18, some 12)], [(19, some 13)], [(2, none), (20, some 14)], [(21, some 15), (20, some 14)], [(2, none), (20, some 14)], [(23, some 17), (20, some 14)], [(22, some 16), (24, some 18), (20, some 14)], [(20, some 14), (25, some 19)], [(26, some 20)], [(2, none), (27, some 21)], [(28, some 22), (27, some 21)], [(29, some 23), (27, some 21)], [(2, none), (27, some 21)], [(31, some 25), (27, some 21)], [(2, none), (27, some 21)], [(33, some 27), (27, some 21)], [(32, some 26), (34, some 28), (27, some 21)], [(30, some 24), (35, some 29), (27, some 21)], [(27, some 21), (36, some 30)]] (by kernel_rfl) ?_ ?_ ?_
            · simp only [List.mem_cons, List.not_mem_nil, or_false]
              intro R hR
              rcases hR with rfl | rfl | rfl | rfl | rfl | rfl | rfl | rfl | rfl | rfl | rfl | rfl | rfl | rfl | rfl | rfl | rfl | rfl | rfl | rfl | rfl | rfl | rfl | rfl | rfl | rfl | rfl | rfl | rfl | rfl | rfl | rfl <;> first | exact stable_is _
            · refine steps_cons (fun a w hk hn => ?_) ?_
              · have h2 : a.eval (.tmp 2) = .pointer (some ⟨g0, 0, none⟩) := hn.1
                clear hn
                refine wants_plain rfl ?_
                exact grown_fld2 triP (.tmp 2) rfl h2
              refine steps_cons (fun a w hk hn => ?_) ?_
              · have h6 : a.eval (.tmp 6) = .pointer (some ⟨g0, 2, none⟩) := hn.1
                clear hn
                refine wants_plain rfl ?_
                exact grown_ldl (.tmp 6) rfl 2 _ _ _ h6 (cell_tri ((fun w'' k => unhide HST w'' (unhide HDR w'' k)) w hk)).2.2
              refine steps_cons (fun a w hk hn => ?_) ?_
              · have h7 : a.eval (.tmp 7) = .slice ao N c := hn.1
                clear hn
                refine wants_plain rfl ?_
                refine grown_call (f := 34) rfl Tryd.func34 (by kernel_rfl) (by kernel_rfl) ?_
                simp only [List.map_toArray, List.map_cons, List.map_nil, h7]
                refine (unhide HRR w (unhide HLL w (unhide HDR w hk))).mono ?_
                rintro e w' ⟨rfl, rfl⟩
                exact ⟨_, rfl, Kp.refl _ _, rfl⟩
              refine steps_cons (fun a w hk hn => ?_) ?_
              · have h8 : a.eval (.tmp 8) = .bool true := hn.1
                clear hn
                refine wants_plain rfl ?_
                refine grown_run (v := .bool false) ?_ (Kp.refl _ _) rfl
                obtain ⟨ρ, hρ, hc, hf, hg⟩ := eval_is a
                rw [hρ] at h8 ⊢
                simp [go_sem, h8]
              refine steps_cons (fun a w hk hn => ?_) ?_
              · have h9 : a.eval (.tmp 9) = .bool false := hn.1
                clear hn
                refine wants_plain rfl ?_
                exact grown_move (.tmp 9) rfl h9
              refine steps_cons (fun a w hk hn => ?_) ?_
              · have h1 : a.eval (.tmp 1) = .slice ax 32 cx := hn.1
                have h10 : a.eval (.tmp 10) = .bool false := hn.2.1
                clear hn
                refine wants_guard (d := 10) rfl rfl h10 ?_
                exact grown_move (.tmp 1) rfl h1
              refine steps_cons (fun a w hk hn => ?_) ?_
              · have h11 : a.eval (.tmp 11) = .slice ax 32 cx := hn.1
                have h10 : a.eval (.tmp 10) = .bool false := hn.2.1
                clear hn
                refine wants_guard (d := 10) rfl rfl h10 ?_
                refine grown_run (v := .int .i64 32) ?_ (Kp.refl _ _) rfl
                obtain ⟨ρ, hρ, hc, hf, hg⟩ := eval_is a
                rw [hρ] at h11 ⊢
                simp [go_sem, h11]
              refine steps_cons (fun a w hk hn => ?_) ?_
              · have h12 : a.eval (.tmp 12) = .int .i64 32 := hn.1
                have h10 : a.eval (.tmp 10) = .bool false := hn.2.1
                clear hn
                refine wants_guard (d := 10) rfl rfl h10 ?_
                refine grown_run (v := .bool false) ?_ (Kp.refl _ _) rfl
                obtain ⟨ρ, hρ, hc, hf, hg⟩ := eval_is a
                rw [hρ] at h12 ⊢
                simp [go_sem, hc, h12]
              refine steps_cons (fun a w hk hn => ?_) ?_
              · have h10 : a.eval (.tmp 10) = .bool false := hn.1
                have h13 : a.eval (.tmp 13) = .bool false := hn.2.1
                clear hn
                refine wants_plain rfl ?_
                exact grown_pick _ _ _ false rfl h10 h13
              refine steps_cons (fun a w hk hn => ?_) ?_
              · have h14 : a.eval (.tmp 14) = .bool false := hn.1
                clear hn
                refine wants_plain rfl ?_
                exact grown_move (.tmp 14) rfl h14
              refine steps_cons (fun a w hk hn => ?_) ?_
              · have h2 : a.eval (.tmp 2) = .pointer (some ⟨g0, 0, none⟩) := hn.1
                have h15 : a.eval (.tmp 15) = .bool false := hn.2.1
                clear hn
                refine wants_guard (d := 15) rfl rfl h15 ?_
                exact grown_fld0 triP (.tmp 2) rfl h2
              refine steps_cons (fun a w hk hn => ?_) ?_
              · have h16 : a.eval (.tmp 16) = .pointer (some ⟨g0, 0, none⟩) := hn.1
                have h15 : a.eval (.tmp 15) = .bool false := hn.2.1
                clear hn
                refine wants_guard (d := 15) rfl rfl h15 ?_
                exact grown_ldi (.tmp 16) rfl 0 _ h16 (cell_tri ((fun w'' k => unhide HST w'' (unhide HDR w'' k)) w hk)).1
              refine steps_cons (fun a w hk hn => ?_) ?_
              · have h17 : a.eval (.tmp 17) = .int .i64 p := hn.1
                have h15 : a.eval (.tmp 15) = .bool false := hn.2.1
                clear hn
                refine wants_guard (d := 15) rfl rfl h15 ?_
                refine grown_run (v := .bool false) ?_ (Kp.refl _ _) rfl
                obtain ⟨ρ, hρ, hc, hf, hg⟩ := eval_is a
                rw [hρ] at h17 ⊢
                simp [go_sem, hc, h17]
              refine steps_cons (fun a w hk hn => ?_) ?_
              · have h15 : a.eval (.tmp 15) = .bool false := hn.1
                have h18 : a.eval (.tmp 18) = .bool false := hn.2.1
                clear hn
                refine wants_plain rfl ?_
                exact grown_pick _ _ _ false rfl h15 h18
              refine steps_cons (fun a w hk hn => ?_) ?_
              · have h19 : a.eval (.tmp 19) = .bool false := hn.1
                clear hn
                refine wants_plain rfl ?_
                exact grown_move (.tmp 19) rfl h19
              refine steps_cons (fun a w hk hn => ?_) ?_
              · have h2 : a.eval (.tmp 2) = .pointer (some ⟨g0, 0, none⟩) := hn.1
                have h20 : a.eval (.tmp 20) = .bool false := hn.2.1
                clear hn
                refine wants_guard (d := 20) rfl rfl h20 ?_
                exact grown_fld0 triP (.tmp 2) rfl h2
              refine steps_cons (fun a w hk hn => ?_) ?_
              · have h21 : a.eval (.tmp 21) = .pointer (some ⟨g0, 0, none⟩) := hn.1
                have h20 : a.eval (.tmp 20) = .bool false := hn.2.1
                clear hn
                refine wants_guard (d := 20) rfl rfl h20 ?_
                exact grown_ldi (.tmp 21) rfl 0 _ h21 (cell_tri ((fun w'' k => unhide HST w'' (unhide HDR w'' k)) w hk)).1
              refine steps_cons (fun a w hk hn => ?_) ?_
              · have h2 : a.eval (.tmp 2) = .pointer (some ⟨g0, 0, none⟩) := hn.1
                have h20 : a.eval (.tmp 20) = .bool false := hn.2.1
                clear hn
                refine wants_guard (d := 20) rfl rfl h20 ?_
                exact grown_fld1 triP (.tmp 2) rfl h2
              refine steps_cons (fun a w hk hn => ?_) ?_
              · have h23 : a.eval (.tmp 23) = .pointer (some ⟨g0, 1, none⟩) := hn.1
                have h20 : a.eval (.tmp 20) = .bool false := hn.2.1
                clear hn
                refine wants_guard (d := 20) rfl rfl h20 ?_
                exact grown_ldi (.tmp 23) rfl 1 _ h23 (cell_tri ((fun w'' k => unhide HST w'' (unhide HDR w'' k)) w hk)).2.1
              refine steps_cons (fun a w hk hn => ?_) ?_
              · have h22 : a.eval (.tmp 22) = .int .i64 p := hn.1
                have h24 : a.eval (.tmp 24) = .int .i64 q := hn.2.1
                have h20 : a.eval (.tmp 20) = .bool false := hn.2.2.1
                clear hn
                refine wants_guard (d := 20) rfl rfl h20 ?_
                refine grown_run (v := .bool false) ?_ (Kp.refl _ _) rfl
                obtain ⟨ρ, hρ, hc, hf, hg⟩ := eval_is a
                rw [hρ] at h22 h24 ⊢
                simp [go_sem, h22, h24, hpq]
              refine steps_cons (fun a w hk hn => ?_) ?_
              · have h20 : a.eval (.tmp 20) = .bool false := hn.1
                have h25 : a.eval (.tmp 25) = .bool false := hn.2.1
                clear hn
                refine wants_plain rfl ?_
                exact grown_pick _ _ _ false rfl h20 h25
              refine steps_cons (fun a w hk hn => ?_) ?_
              · have h26 : a.eval (.tmp 26) = .bool false := hn.1
                clear hn
                refine wants_plain rfl ?_
                exact grown_move (.tmp 26) rfl h26
              refine steps_cons (fun a w hk hn => ?_) ?_
              · have h2 : a.eval (.tmp 2) = .pointer (some ⟨g0, 0, none⟩) := hn.1
                have h27 : a.eval (.tmp 27) = .bool false := hn.2.1
                clear hn
                refine wants_guard (d := 27) rfl rfl h27 ?_
                exact grown_fld2 triP (.tmp 2) rfl h2
              refine steps_cons (fun a w hk hn => ?_) ?_
              · have h28 : a.eval (.tmp 28) = .pointer (some ⟨g0, 2, none⟩) := hn.1
                have h27 : a.eval (.tmp 27) = .bool false := hn.2.1
                clear hn
                refine wants_guard (d := 27) rfl rfl h27 ?_
                exact grown_ldl (.tmp 28) rfl 2 _ _ _ h28 (cell_tri ((fun w'' k => unhide HST w'' (unhide HDR w'' k)) w hk)).2.2
              refine steps_cons (fun a w hk hn => ?_) ?_
              · have h29 : a.eval (.tmp 29) = .slice ao N c := hn.1
                have h27 : a.eval (.tmp 27) = .bool false := hn.2.1
                clear hn
                refine wants_guard (d := 27) rfl rfl h27 ?_
                refine grown_run (v := .int .i64 N) ?_ (Kp.refl _ _) rfl
                obtain ⟨ρ, hρ, hc, hf, hg⟩ := eval_is a
                rw [hρ] at h29 ⊢
                simp [go_sem, h29]
              refine steps_cons (fun a w hk hn => ?_) ?_
              · have h2 : a.eval (.tmp 2) = .pointer (some ⟨g0, 0, none⟩) := hn.1
                have h27 : a.eval (.tmp 27) = .bool false := hn.2.1
                clear hn
                refine wants_guard (d := 27) rfl rfl h27 ?_
                exact grown_fld1 triP (.tmp 2) rfl h2
              refine steps_cons (fun a w hk hn => ?_) ?_
              · have h31 : a.eval (.tmp 31) = .pointer (some ⟨g0, 1, none⟩) := hn.1
                have h27 : a.eval (.tmp 27) = .bool false := hn.2.1
                clear hn
                refine wants_guard (d := 27) rfl rfl h27 ?_
                exact grown_ldi (.tmp 31) rfl 1 _ h31 (cell_tri ((fun w'' k => unhide HST w'' (unhide HDR w'' k)) w hk)).2.1
              refine steps_cons (fun a w hk hn => ?_) ?_
              · have h2 : a.eval (.tmp 2) = .pointer (some ⟨g0, 0, none⟩) := hn.1
                have h27 : a.eval (.tmp 27) = .bool false := hn.2.1
                clear hn
                refine wants_guard (d := 27) rfl rfl h27 ?_
                exact grown_fld0 triP (.tmp 2) rfl h2
              refine steps_cons (fun a w hk hn => ?_) ?_
              · have h33 : a.eval (.tmp 33) = .pointer (some ⟨g0, 0, none⟩) := hn.1
                have h27 : a.eval (.tmp 27) = .bool false := hn.2.1
                clear hn
                refine wants_guard (d := 27) rfl rfl h27 ?_
                exact grown_ldi (.tmp 33) rfl 0 _ h33 (cell_tri ((fun w'' k => unhide HST w'' (unhide HDR w'' k)) w hk)).1
              refine steps_cons (fun a w hk hn => ?_) ?_
              · have h32 : a.eval (.tmp 32) = .int .i64 q := hn.1
                have h34 : a.eval (.tmp 34) = .int .i64 p := hn.2.1
                have h27 : a.eval (.tmp 27) = .bool false := hn.2.2.1
                clear hn
                refine wants_guard (d := 27) rfl rfl h27 ?_
                refine grown_call (f := 49) rfl Tryd.func49 (by kernel_rfl) (by kernel_rfl) ?_
                simp only [List.map_toArray, List.map_cons, List.map_nil, h32, h34]
                refine (long_any q p N w (unhide HCN) (by omega) (by omega)).mono ?_
                rintro e w' ⟨rfl, rfl⟩
                exact ⟨_, rfl, Kp.refl _ _, rfl⟩
              refine steps_cons (fun a w hk hn => ?_) ?_
              · have h30 : a.eval (.tmp 30) = .int .i64 N := hn.1
                have h35 : a.eval (.tmp 35) = .int .i64 N := hn.2.1
                have h27 : a.eval (.tmp 27) = .bool false := hn.2.2.1
                clear hn
                refine wants_guard (d := 27) rfl rfl h27 ?_
                refine grown_run (v := .bool false) ?_ (Kp.refl _ _) rfl
                obtain ⟨ρ, hρ, hc, hf, hg⟩ := eval_is a
                rw [hρ] at h30 h35 ⊢
                simp [go_sem, h30, h35]
              refine steps_cons (fun a w hk hn => ?_) ?_
              · have h27 : a.eval (.tmp 27) = .bool false := hn.1
                have h36 : a.eval (.tmp 36) = .bool false := hn.2.1
                clear hn
                refine wants_plain rfl ?_
                exact grown_pick _ _ _ false rfl h27 h36
              exact trivial
            intro W1 hkW1
            rintro _ rfl
            rintro _ rfl
            rintro _ rfl
            rintro _ rfl
            rintro _ rfl
            rintro _ rfl
            rintro _ rfl
            rintro _ rfl
            rintro _ rfl
            rintro _ rfl
            rintro _ rfl
            rintro _ rfl
            rintro _ rfl
            rintro _ rfl
            rintro _ rfl
            rintro _ rfl
            rintro _ rfl
            rintro _ rfl
            rintro _ rfl
            rintro _ rfl
            rintro _ rfl
            rintro _ rfl
            rintro _ rfl
            rintro _ rfl
            rintro _ rfl
            rintro _ rfl
            rintro _ rfl
            rintro _ rfl
            rintro _ rfl
            rintro _ rfl
            rintro _ rfl
            rintro _ rfl
            refine fin_nil ?_
            simp only [Act.put, List.set_cons_zero, List.set_cons_succ, List.setIfInBounds_toArray]
            have HKW := hide (unhide HDR W1 hkW1)
            clear hkW1 z0 z1 z2
            obtain ⟨z0, z1, z2⟩ := cell_tri (unhide HST W1 (unhide HKW))
            have HC := hide (rlead_any q (.slice ao N c) (.slice ax 32 cx) ps x p r W1 (unhide HR1) (by omega) (by omega) (by rw [← unhide HNN]; exact unhide HCN) (unhide HLL W1 (unhide HKW)) (unhide HPM) (unhide HSL W1 (unhide HKW)) (unhide HBX) (by rw [← unhide HNX]))
            go_wp2_with fail
            refine (unhide HC).mono ?_
            rintro ee w3 ⟨a3, m3, c3, rfl, S3, K3⟩
            have HS3 := hide S3
            have HK3 := hide (((unhide HK1).trans (unhide HKW)).trans K3)
            clear S3 K3 HC z0 z1 z2
            go_wp2_with fail
            go_ret2
            exact ⟨a3, m3, c3, rfl, by rw [unhide HRV]; exact unhide HS3, unhide HK3⟩
          · have HOK : Hid (ledOk p q ps x = false) := ledOk_not (fun h => hcnt (by rw [unhide HNN]; exact h.2.2.2))
            rw [unhide HOK]
            obtain ⟨cn, hcn⟩ : ∃ cn, cn = cntP q p := ⟨_, rfl⟩
            have HCN := hide hcn
            have hne : ¬ (N : Int) = (cn : Int) := by rw [hcn]; omega
            clear hcn hcnt
            have HRR : Hid (∀ w', LcM ps (.slice ao N c) w' → Calls Tryd.prog 34 #[.slice ao N c] w' fun e w'' => e = .returned (.bool true) ∧ w'' = w') := fun w' h => by have := prright_any _ ps w' h; rw [hr] at this; exact this
            obtain ⟨w1, hw1⟩ : ∃ w1, w1 = w.alloc ob := ⟨_, rfl⟩
            obtain ⟨g0, hg0⟩ : ∃ g0, g0 = w.heap.size := ⟨_, rfl⟩
            rw [← hw1] at HK1 HST HLL HSL
            rw [← hg0] at HST
            rw [hob] at hw1
            obtain ⟨z0, z1, z2⟩ := cell_tri (unhide HST w1 (Kp.refl _ _))
            have HDR : Hid (∀ w', Kp [] w1.drew w' → Kp [] w1 w') := fun w' k => (kp_drew w1).trans k
            clear hr hob
            go_enter Tryd.func31, Tryd.ntmps31
            go_wp2_with fail
            rw [← hw1, ← hg0]
            clear hw1 hg0
            refine region_grow Tryd.mixed [Is (.pointer (some ⟨g0, 2, none⟩)), Is (.slice ao N c), Is (.bool true), Is (.bool false), Is (.bool false), Is (.slice ax 32 cx), Is (.int .i64 32), Is (.bool false), Is (.bool false), Is (.bool false), Is (.pointer (some ⟨g0, 0, none⟩)), Is (.int .i64 p), Is (.bool false), Is (.bool false), Is (.bool false), Is (.pointer (some ⟨g0, 0, none⟩)), Is (.int .i64 p), Is (.pointer (some ⟨g0, 1, none⟩)), Is (.int .i64 q), Is (.bool false), Is (.bool false), Is (.bool false), Is (.pointer (some ⟨g0, 2, none⟩)), Is (.slice ao N c), Is (.int .i64 N), Is (.pointer (some ⟨g0, 1, none⟩)), Is (.int .i64 q), Is (.pointer (some ⟨g0, 0, none⟩)), Is (.int .i64 p), Is (.int .i64 cn), Is (.bool true), Is (.bool true)] [[(2, none)], [(6, some 0)], [(7, some 1)], [(8, some 2)], [(9, some 3)], [(1, none), (10, some 4)], [(11, some 5), (10, some 4)], [(12, some 6), (10, some 4)], [(10, some 4), (13, some 7)], [(14, some 8)], [(2, none), (15, some 9)], [(16, some 10), (15, some 9)], [(17, some 11), (15, some 9)], [(15, some 9), (18, some 12)], [(19, some 13)], [(2, none), (20, some 14)], [(21, some 15), (20, some 14)], [(2, none), (20, some 14)], [(23, some 17), (20, some 14)], [(22, some 16), (24, some 18), (20, some 14)], [(20, some 14), (25, some 19)], [(26, some 20)], [(2, none), (27, some 21)], [(28, some 22), (27, some 21)], [(29, some 23), (27, some 21)], [(2, none), (27, some 21)], [(31, some 25), (27, some 21)], [(2, none), (27, some 21)], [(33, some 27), (27, some 21)], [(32, some 26), (34, some 28), (27, some 21)], [(30, some 24), (35, some 29), (27, some 21)], [(27, some 21), (36, some 30)]] (by kernel_rfl) ?_ ?_ ?_
            · simp only [List.mem_cons, List.not_mem_nil, or_false]
              intro R hR
              rcases hR with rfl | rfl | rfl | rfl | rfl | rfl | rfl | rfl | rfl | rfl | rfl | rfl | rfl | rfl | rfl | rfl | rfl | rfl | rfl | rfl | rfl | rfl | rfl | rfl | rfl | rfl | rfl | rfl | rfl | rfl | rfl | rfl <;> first | exact stable_is _
            · refine steps_cons (fun a w hk hn => ?_) ?_
              · have h2 : a.eval (.tmp 2) = .pointer (some ⟨g0, 0, none⟩) := hn.1
                clear hn
                refine wants_plain rfl ?_
                exact grown_fld2 triP (.tmp 2) rfl h2
              refine steps_cons (fun a w hk hn => ?_) ?_
              · have h6 : a.eval (.tmp 6) = .pointer (some ⟨g0, 2, none⟩) := hn.1
                clear hn
                refine wants_plain rfl ?_
                exact grown_ldl (.tmp 6) rfl 2 _ _ _ h6 (cell_tri ((fun w'' k => unhide HST w'' (unhide HDR w'' k)) w hk)).2.2
              refine steps_cons (fun a w hk hn => ?_) ?_
              · have h7 : a.eval (.tmp 7) = .slice ao N c := hn.1
                clear hn
                refine wants_plain rfl ?_
                refine grown_call (f := 34) rfl Tryd.func34 (by kernel_rfl) (by kernel_rfl) ?_
                simp only [List.map_toArray, List.map_cons, List.map_nil, h7]
                refine (unhide HRR w (unhide HLL w (unhide HDR w hk))).mono ?_
                rintro e w' ⟨rfl, rfl⟩
                exact ⟨_, rfl, Kp.refl _ _, rfl⟩
              refine steps_cons (fun a w hk hn => ?_) ?_
              · have h8 : a.eval (.tmp 8) = .bool true := hn.1
                clear hn
                refine wants_plain rfl ?_
                refine grown_run (v := .bool false) ?_ (Kp.refl _ _) rfl
                obtain ⟨ρ, hρ, hc, hf, hg⟩ := eval_is a
                rw [hρ] at h8 ⊢
                simp [go_sem, h8]
              refine steps_cons (fun a w hk hn => ?_) ?_
              · have h9 : a.eval (.tmp 9) = .bool false := hn.1
                clear hn
                refine wants_plain rfl ?_
                exact grown_move (.tmp 9) rfl h9
              refine steps_cons (fun a w hk hn => ?_) ?_
              · have h1 : a.eval (.tmp 1) = .slice ax 32 cx := hn.1
                have h10 : a.eval (.tmp 10) = .bool false := hn.2.1
                clear hn
                refine wants_guard (d := 10) rfl rfl h10 ?_
                exact grown_move (.tmp 1) rfl h1
              refine steps_cons (fun a w hk hn => ?_) ?_
              · have h11 : a.eval (.tmp 11) = .slice ax 32 cx := hn.1
                have h10 : a.eval (.tmp 10) = .bool false := hn.2.1
                clear hn
                refine wants_guard (d := 10) rfl rfl h10 ?_
                refine grown_run (v := .int .i64 32) ?_ (Kp.refl _ _) rfl
                obtain ⟨ρ, hρ, hc, hf, hg⟩ := eval_is a
                rw [hρ] at h11 ⊢
                simp [go_sem, h11]
              refine steps_cons (fun a w hk hn => ?_) ?_
              · have h12 : a.eval (.tmp 12) = .int .i64 32 := hn.1
                have h10 : a.eval (.tmp 10) = .bool false := hn.2.1
                clear hn
                refine wants_guard (d := 10) rfl rfl h10 ?_
                refine grown_run (v := .bool false) ?_ (Kp.refl _ _) rfl
                obtain ⟨ρ, hρ, hc, hf, hg⟩ := eval_is a
                rw [hρ] at h12 ⊢
                simp [go_sem, hc, h12]
              refine steps_cons (fun a w hk hn => ?_) ?_
              · have h10 : a.eval (.tmp 10) = .bool false := hn.1
                have h13 : a.eval (.tmp 13) = .bool false := hn.2.1
                clear hn
                refine wants_plain rfl ?_
                exact grown_pick _ _ _ false rfl h10 h13
              refine steps_cons (fun a w hk hn => ?_) ?_
              · have h14 : a.eval (.tmp 14) = .bool false := hn.1
                clear hn
                refine wants_plain rfl ?_
                exact grown_move (.tmp 14) rfl h14
              refine steps_cons (fun a w hk hn => ?_) ?_
              · have h2 : a.eval (.tmp 2) = .pointer (some ⟨g0, 0, none⟩) := hn.1
                have h15 : a.eval (.tmp 15) = .bool false := hn.2.1
                clear hn
                refine wants_guard (d := 15) rfl rfl h15 ?_
                exact grown_fld0 triP (.tmp 2) rfl h2
              refine steps_cons (fun a w hk hn => ?_) ?_
              · have h16 : a.eval (.tmp 16) = .pointer (some ⟨g0, 0, none⟩) := hn.1
                have h15 : a.eval (.tmp 15) = .bool false := hn.2.1
                clear hn
                refine wants_guard (d := 15) rfl rfl h15 ?_
                exact grown_ldi (.tmp 16) rfl 0 _ h16 (cell_tri ((fun w'' k => unhide HST w'' (unhide HDR w'' k)) w hk)).1
              refine steps_cons (fun a w hk hn => ?_) ?_
              · have h17 : a.eval (.tmp 17) = .int .i64 p := hn.1
                have h15 : a.eval (.tmp 15) = .bool false := hn.2.1
                clear hn
                refine wants_guard (d := 15) rfl rfl h15 ?_
                refine grown_run (v := .bool false) ?_ (Kp.refl _ _) rfl
                obtain ⟨ρ, hρ, hc, hf, hg⟩ := eval_is a
                rw [hρ] at h17 ⊢
                simp [go_sem, hc, h17]
              refine steps_cons (fun a w hk hn => ?_) ?_
              · have h15 : a.eval (.tmp 15) = .bool false := hn.1
                have h18 : a.eval (.tmp 18) = .bool false := hn.2.1
                clear hn
                refine wants_plain rfl ?_
                exact grown_pick _ _ _ false rfl h15 h18
              refine steps_cons (fun a w hk hn => ?_) ?_
              · have h19 : a.eval (.tmp 19) = .bool false := hn.1
                clear hn
                refine wants_plain rfl ?_
                exact grown_move (.tmp 19) rfl h19
              refine steps_cons (fun a w hk hn => ?_) ?_
              · have h2 : a.eval (.tmp 2) = .pointer (some ⟨g0, 0, none⟩) := hn.1
                have h20 : a.eval (.tmp 20) = .bool false := hn.2.1
                clear hn
                refine wants_guard (d := 20) rfl rfl h20 ?_
                exact grown_fld0 triP (.tmp 2) rfl h2
              refine steps_cons (fun a w hk hn => ?_) ?_
              · have h21 : a.eval (.tmp 21) = .pointer (some ⟨g0, 0, none⟩) := hn.1
                have h20 : a.eval (.tmp 20) = .bool false := hn.2.1
                clear hn
                refine wants_guard (d := 20) rfl rfl h20 ?_
                exact grown_ldi (.tmp 21) rfl 0 _ h21 (cell_tri ((fun w'' k => unhide HST w'' (unhide HDR w'' k)) w hk)).1
              refine steps_cons (fun a w hk hn => ?_) ?_
              · have h2 : a.eval (.tmp 2) = .pointer (some ⟨g0, 0, none⟩) := hn.1
                have h20 : a.eval (.tmp 20) = .bool false := hn.2.1
                clear hn
                refine wants_guard (d := 20) rfl rfl h20 ?_
                exact grown_fld1 triP (.tmp 2) rfl h2
              refine steps_cons (fun a w hk hn => ?_) ?_
              · have h23 : a.eval (.tmp 23) = .pointer (some ⟨g0, 1, none⟩) := hn.1
                have h20 : a.eval (.tmp 20) = .bool false := hn.2.1
                clear hn
                refine wants_guard (d := 20) rfl rfl h20 ?_
                exact grown_ldi (.tmp 23) rfl 1 _ h23 (cell_tri ((fun w'' k => unhide HST w'' (unhide HDR w'' k)) w hk)).2.1
              refine steps_cons (fun a w hk hn => ?_) ?_
              · have h22 : a.eval (.tmp 22) = .int .i64 p := hn.1
                have h24 : a.eval (.tmp 24) = .int .i64 q := hn.2.1
                have h20 : a.eval (.tmp 20) = .bool false := hn.2.2.1
                clear hn
                refine wants_guard (d := 20) rfl rfl h20 ?_
                refine grown_run (v := .bool false) ?_ (Kp.refl _ _) rfl
                obtain ⟨ρ, hρ, hc, hf, hg⟩ := eval_is a
                rw [hρ] at h22 h24 ⊢
                simp [go_sem, h22, h24, hpq]
              refine steps_cons (fun a w hk hn => ?_) ?_
              · have h20 : a.eval (.tmp 20) = .bool false := hn.1
                have h25 : a.eval (.tmp 25) = .bool false := hn.2.1
                clear hn
                refine wants_plain rfl ?_
                exact grown_pick _ _ _ false rfl h20 h25
              refine steps_cons (fun a w hk hn => ?_) ?_
              · have h26 : a.eval (.tmp 26) = .bool false := hn.1
                clear hn
                refine wants_plain rfl ?_
                exact grown_move (.tmp 26) rfl h26
              refine steps_cons (fun a w hk hn => ?_) ?_
              · have h2 : a.eval (.tmp 2) = .pointer (some ⟨g0, 0, none⟩) := hn.1
                have h27 : a.eval (.tmp 27) = .bool false := hn.2.1
                clear hn
                refine wants_guard (d := 27) rfl rfl h27 ?_
                exact grown_fld2 triP (.tmp 2) rfl h2
              refine steps_cons (fun a w hk hn => ?_) ?_
              · have h28 : a.eval (.tmp 28) = .pointer (some ⟨g0, 2, none⟩) := hn.1
                have h27 : a.eval (.tmp 27) = .bool false := hn.2.1
                clear hn
                refine wants_guard (d := 27) rfl rfl h27 ?_
                exact grown_ldl (.tmp 28) rfl 2 _ _ _ h28 (cell_tri ((fun w'' k => unhide HST w'' (unhide HDR w'' k)) w hk)).2.2
              refine steps_cons (fun a w hk hn => ?_) ?_
              · have h29 : a.eval (.tmp 29) = .slice ao N c := hn.1
                have h27 : a.eval (.tmp 27) = .bool false := hn.2.1
                clear hn
                refine wants_guard (d := 27) rfl rfl h27 ?_
                refine grown_run (v := .int .i64 N) ?_ (Kp.refl _ _) rfl
                obtain ⟨ρ, hρ, hc, hf, hg⟩ := eval_is a
                rw [hρ] at h29 ⊢
                simp [go_sem, h29]
              refine steps_cons (fun a w hk hn => ?_) ?_
              · have h2 : a.eval (.tmp 2) = .pointer (some ⟨g0, 0, none⟩) := hn.1
                have h27 : a.eval (.tmp 27) = .bool false := hn.2.1
                clear hn
                refine wants_guard (d := 27) rfl rfl h27 ?_
                exact grown_fld1 triP (.tmp 2) rfl h2
              refine steps_cons (fun a w hk hn => ?_) ?_
              · have h31 : a.eval (.tmp 31) = .pointer (some ⟨g0, 1, none⟩) := hn.1
                have h27 : a.eval (.tmp 27) = .bool false := hn.2.1
                clear hn
                refine wants_guard (d := 27) rfl rfl h27 ?_
                exact grown_ldi (.tmp 31) rfl 1 _ h31 (cell_tri ((fun w'' k => unhide HST w'' (unhide HDR w'' k)) w hk)).2.1
              refine steps_cons (fun a w hk hn => ?_) ?_
              · have h2 : a.eval (.tmp 2) = .pointer (some ⟨g0, 0, none⟩) := hn.1
                have h27 : a.eval (.tmp 27) = .bool false := hn.2.1
                clear hn
                refine wants_guard (d := 27) rfl rfl h27 ?_
                exact grown_fld0 triP (.tmp 2) rfl h2
              refine steps_cons (fun a w hk hn => ?_) ?_
              · have h33 : a.eval (.tmp 33) = .pointer (some ⟨g0, 0, none⟩) := hn.1
                have h27 : a.eval (.tmp 27) = .bool false := hn.2.1
                clear hn
                refine wants_guard (d := 27) rfl rfl h27 ?_
                exact grown_ldi (.tmp 33) rfl 0 _ h33 (cell_tri ((fun w'' k => unhide HST w'' (unhide HDR w'' k)) w hk)).1
              refine steps_cons (fun a w hk hn => ?_) ?_
              · have h32 : a.eval (.tmp 32) = .int .i64 q := hn.1
                have h34 : a.eval (.tmp 34) = .int .i64 p := hn.2.1
                have h27 : a.eval (.tmp 27) = .bool false := hn.2.2.1
                clear hn
                refine wants_guard (d := 27) rfl rfl h27 ?_
                refine grown_call (f := 49) rfl Tryd.func49 (by kernel_rfl) (by kernel_rfl) ?_
                simp only [List.map_toArray, List.map_cons, List.map_nil, h32, h34]
                refine (long_any q p cn w (unhide HCN) (by omega) (by omega)).mono ?_
                rintro e w' ⟨rfl, rfl⟩
                exact ⟨_, rfl, Kp.refl _ _, rfl⟩
              refine steps_cons (fun a w hk hn => ?_) ?_
              · have h30 : a.eval (.tmp 30) = .int .i64 N := hn.1
                have h35 : a.eval (.tmp 35) = .int .i64 cn := hn.2.1
                have h27 : a.eval (.tmp 27) = .bool false := hn.2.2.1
                clear hn
                refine wants_guard (d := 27) rfl rfl h27 ?_
                refine grown_run (v := .bool true) ?_ (Kp.refl _ _) rfl
                obtain ⟨ρ, hρ, hc, hf, hg⟩ := eval_is a
                rw [hρ] at h30 h35 ⊢
                simp [go_sem, h30, h35, hne]
              refine steps_cons (fun a w hk hn => ?_) ?_
              · have h27 : a.eval (.tmp 27) = .bool false := hn.1
                have h36 : a.eval (.tmp 36) = .bool true := hn.2.1
                clear hn
                refine wants_plain rfl ?_
                exact grown_pick _ _ _ false rfl h27 h36
              exact trivial
            intro W1 hkW1
            rintro _ rfl
            rintro _ rfl
            rintro _ rfl
            rintro _ rfl
            rintro _ rfl
            rintro _ rfl
            rintro _ rfl
            rintro _ rfl
            rintro _ rfl
            rintro _ rfl
            rintro _ rfl
            rintro _ rfl
            rintro _ rfl
            rintro _ rfl
            rintro _ rfl
            rintro _ rfl
            rintro _ rfl
            rintro _ rfl
            rintro _ rfl
            rintro _ rfl
            rintro _ rfl
            rintro _ rfl
            rintro _ rfl
            rintro _ rfl
            rintro _ rfl
            rintro _ rfl
            rintro _ rfl
            rintro _ rfl
            rintro _ rfl
            rintro _ rfl
            rintro _ rfl
            rintro _ rfl
            refine fin_nil ?_
            simp only [Act.put, List.set_cons_zero, List.set_cons_succ, List.setIfInBounds_toArray]
            have HKW := hide (unhide HDR W1 hkW1)
            clear hkW1 z0 z1 z2
            go_wp2_with fail
            go_ret2
            exact ⟨none, 0, 0, rfl, by rw [ledR_no (unhide HOK)]; exact Sl.nil _, ((unhide HK1).trans (unhide HKW))⟩
    · have HOK : Hid (ledOk i n ps x = false) := ledOk_not (fun h => hx (by rw [unhide HNX]; exact h.2.1))
      rw [unhide HOK]
      have hx2 : ¬ (nx : Int) = 32 := by omega
      have HRR : Hid (∀ w', LcM ps (.slice ao N c) w' → Calls Tryd.prog 34 #[.slice ao N c] w' fun e w'' => e = .returned (.bool true) ∧ w'' = w') := fun w' h => by have := prright_any _ ps w' h; rw [hr] at this; exact this
      obtain ⟨w1, hw1⟩ : ∃ w1, w1 = w.alloc ob := ⟨_, rfl⟩
      obtain ⟨g0, hg0⟩ : ∃ g0, g0 = w.heap.size := ⟨_, rfl⟩
      rw [← hw1] at HK1 HST HLL HSL
      rw [← hg0] at HST
      rw [hob] at hw1
      obtain ⟨z0, z1, z2⟩ := cell_tri (unhide HST w1 (Kp.refl _ _))
      have HDR : Hid (∀ w', Kp [] w1.drew w' → Kp [] w1 w') := fun w' k => (kp_drew w1).trans k
      clear hr hob hx
      go_enter Tryd.func31, Tryd.ntmps31
      go_wp2_with fail
      rw [← hw1, ← hg0]
      clear hw1 hg0
      refine region_grow Tryd.mixed [Is (.pointer (some ⟨g0, 2, none⟩)), Is (.slice ao N c), Is (.bool true), Is (.bool false), Is (.bool false), Is (.slice ax nx cx), Is (.int .i64 nx), Is (.bool true), Is (.bool true), Is (.bool true), Is (undef), Is (undef), Is (undef), Is (.bool true), Is (.bool true), Is (undef), Is (undef), Is (undef), Is (undef), Is (undef), Is (.bool true), Is (.bool true), Is (undef), Is (undef), Is (undef), Is (undef), Is (undef), Is (undef), Is (undef), Is (undef), Is (undef), Is (.bool true)] [[(2, none)], [(6, some 0)], [(7, some 1)], [(8, some 2)], [(9, some 3)], [(1, none), (10, some 4)], [(11, some 5), (10, some 4)], [(12, some 6), (10, some 4)], [(10, some 4), (13, some 7)], [(14, some 8)], [(2, none), (15, some 9)], [(16, some 10), (15, some 9)], [(17, some 11), (15, some 9)], [(15, some 9), (18, some 12)], [(19, some 13)], [(2, none), (20, some 14)], [(21, some 15), (20, some 14)], [(2, none), (20, some 14)], [(23, some 17), (20, some 14)], [(22, some 16), (24, some 18), (20, some 14)], [(20, some 14), (25, some 19)], [(26, some 20)], [(2, none), (27, some 21)], [(28, some 22), (27, some 21)], [(29, some 23), (27, some 21)], [(2, none), (27, some 21)], [(31, some 25), (27, some 21)], [(2, none), (27, some 21)], [(33, some 27), (27, some 21)], [(32, some 26), (34, some 28), (27, some 21)], [(30, some 24), (35, some 29), (27, some 21)], [(27, some 21), (36, some 30)]] (by kernel_rfl) ?_ ?_ ?_
      · simp only [List.mem_cons, List.not_mem_nil, or_false]
        intro R hR
        rcases hR with rfl | rfl | rfl | rfl | rfl | rfl | rfl | rfl | rfl | rfl | rfl | rfl | rfl | rfl | rfl | rfl | rfl | rfl | rfl | rfl | rfl | rfl | rfl | rfl | rfl | rfl | rfl | rfl | rfl | rfl | rfl | rfl <;> first | exact stable_is _
      · refine steps_cons (fun a w hk hn => ?_) ?_
        · have h2 : a.eval (.tmp 2) = .pointer (some ⟨g0, 0, none⟩) := hn.1
          clear hn
          refine wants_plain rfl ?_
          exact grown_fld2 triP (.tmp 2) rfl h2
        refine steps_cons (fun a w hk hn => ?_) ?_
        · have h6 : a.eval (.tmp 6) = .pointer (some ⟨g0, 2, none⟩) := hn.1
          clear hn
          refine wants_plain rfl ?_
          exact grown_ldl (.tmp 6) rfl 2 _ _ _ h6 (cell_tri ((fun w'' k => unhide HST w'' (unhide HDR w'' k)) w hk)).2.2
        refine steps_cons (fun a w hk hn => ?_) ?_
        · have h7 : a.eval (.tmp 7) = .slice ao N c := hn.1
          clear hn
          refine wants_plain rfl ?_
          refine grown_call (f := 34) rfl Tryd.func34 (by kernel_rfl) (by kernel_rfl) ?_
          simp only [List.map_toArray, List.map_cons, List.map_nil, h7]
          refine (unhide HRR w (unhide HLL w (unhide HDR w hk))).mono ?_
          rintro e w' ⟨rfl, rfl⟩
          exact ⟨_, rfl, Kp.refl _ _, rfl⟩
        refine steps_cons (fun a w hk hn => ?_) ?_
        · have h8 : a.eval (.tmp 8) = .bool true := hn.1
          clear hn
          refine wants_plain rfl ?_
          refine grown_run (v := .bool false) ?_ (Kp.refl _ _) rfl
          obtain ⟨ρ, hρ, hc, hf, hg⟩ := eval_is a
          rw [hρ] at h8 ⊢
          simp [go_sem, h8]
        refine steps_cons (fun a w hk hn => ?_) ?_
        · have h9 : a.eval (.tmp 9) = .bool false := hn.1
          clear hn
          refine wants_plain rfl ?_
          exact grown_move (.tmp 9) rfl h9
        refine steps_cons (fun a w hk hn => ?_) ?_
        · have h1 : a.eval (.tmp 1) = .slice ax nx cx := hn.1
          have h10 : a.eval (.tmp 10) = .bool false := hn.2.1
          clear hn
          refine wants_guard (d := 10) rfl rfl h10 ?_
          exact grown_move (.tmp 1) rfl h1
        refine steps_cons (fun a w hk hn => ?_) ?_
        · have h11 : a.eval (.tmp 11) = .slice ax nx cx := hn.1
          have h10 : a.eval (.tmp 10) = .bool false := hn.2.1
          clear hn
          refine wants_guard (d := 10) rfl rfl h10 ?_
          refine grown_run (v := .int .i64 nx) ?_ (Kp.refl _ _) rfl
          obtain ⟨ρ, hρ, hc, hf, hg⟩ := eval_is a
          rw [hρ] at h11 ⊢
          simp [go_sem, h11]
        refine steps_cons (fun a w hk hn => ?_) ?_
        · have h12 : a.eval (.tmp 12) = .int .i64 nx := hn.1
          have h10 : a.eval (.tmp 10) = .bool false := hn.2.1
          clear hn
          refine wants_guard (d := 10) rfl rfl h10 ?_
          refine grown_run (v := .bool true) ?_ (Kp.refl _ _) rfl
          obtain ⟨ρ, hρ, hc, hf, hg⟩ := eval_is a
          rw [hρ] at h12 ⊢
          simp [go_sem, hc, h12, hx2]
        refine steps_cons (fun a w hk hn => ?_) ?_
        · have h10 : a.eval (.tmp 10) = .bool false := hn.1
          have h13 : a.eval (.tmp 13) = .bool true := hn.2.1
          clear hn
          refine wants_plain rfl ?_
          exact grown_pick _ _ _ false rfl h10 h13
        refine steps_cons (fun a w hk hn => ?_) ?_
        · have h14 : a.eval (.tmp 14) = .bool true := hn.1
          clear hn
          refine wants_plain rfl ?_
          exact grown_move (.tmp 14) rfl h14
        refine steps_cons (fun a w hk hn => ?_) ?_
        · have h2 : a.eval (.tmp 2) = .pointer (some ⟨g0, 0, none⟩) := hn.1
          have h15 : a.eval (.tmp 15) = .bool true := hn.2.1
          clear hn
          exact wants_not (d := 15) rfl rfl h15 rfl
        refine steps_cons (fun a w hk hn => ?_) ?_
        · have h16 : a.eval (.tmp 16) = undef := hn.1
          have h15 : a.eval (.tmp 15) = .bool true := hn.2.1
          clear hn
          exact wants_not (d := 15) rfl rfl h15 rfl
        refine steps_cons (fun a w hk hn => ?_) ?_
        · have h17 : a.eval (.tmp 17) = undef := hn.1
          have h15 : a.eval (.tmp 15) = .bool true := hn.2.1
          clear hn
          exact wants_not (d := 15) rfl rfl h15 rfl
        refine steps_cons (fun a w hk hn => ?_) ?_
        · have h15 : a.eval (.tmp 15) = .bool true := hn.1
          have h18 : a.eval (.tmp 18) = undef := hn.2.1
          clear hn
          refine wants_plain rfl ?_
          exact grown_pick _ _ _ true rfl h15 rfl
        refine steps_cons (fun a w hk hn => ?_) ?_
        · have h19 : a.eval (.tmp 19) = .bool true := hn.1
          clear hn
          refine wants_plain rfl ?_
          exact grown_move (.tmp 19) rfl h19
        refine steps_cons (fun a w hk hn => ?_) ?_
        · have h2 : a.eval (.tmp 2) = .pointer (some ⟨g0, 0, none⟩) := hn.1
          have h20 : a.eval (.tmp 20) = .bool true := hn.2.1
          clear hn
          exact wants_not (d := 20) rfl rfl h20 rfl
        refine steps_cons (fun a w hk hn => ?_) ?_
        · have h21 : a.eval (.tmp 21) = undef := hn.1
          have h20 : a.eval (.tmp 20) = .bool true := hn.2.1
          clear hn
          exact wants_not (d := 20) rfl rfl h20 rfl
        refine steps_cons (fun a w hk hn => ?_) ?_
        · have h2 : a.eval (.tmp 2) = .pointer (some ⟨g0, 0, none⟩) := hn.1
          have h20 : a.eval (.tmp 20) = .bool true := hn.2.1
          clear hn
          exact wants_not (d := 20) rfl rfl h20 rfl
        refine steps_cons (fun a w hk hn => ?_) ?_
        · have h23 : a.eval (.tmp 23) = undef := hn.1
          have h20 : a.eval (.tmp 20) = .bool true := hn.2.1
          clear hn
          exact wants_not (d := 20) rfl rfl h20 rfl
        refine steps_cons (fun a w hk hn => ?_) ?_
        · have h22 : a.eval (.tmp 22) = undef := hn.1
          have h24 : a.eval (.tmp 24) = undef := hn.2.1
          have h20 : a.eval (.tmp 20) = .bool true := hn.2.2.1
          clear hn
          exact wants_not (d := 20) rfl rfl h20 rfl
        refine steps_cons (fun a w hk hn => ?_) ?_
        · have h20 : a.eval (.tmp 20) = .bool true := hn.1
          have h25 : a.eval (.tmp 25) = undef := hn.2.1
          clear hn
          refine wants_plain rfl ?_
          exact grown_pick _ _ _ true rfl h20 rfl
        refine steps_cons (fun a w hk hn => ?_) ?_
        · have h26 : a.eval (.tmp 26) = .bool true := hn.1
          clear hn
          refine wants_plain rfl ?_
          exact grown_move (.tmp 26) rfl h26
        refine steps_cons (fun a w hk hn => ?_) ?_
        · have h2 : a.eval (.tmp 2) = .pointer (some ⟨g0, 0, none⟩) := hn.1
          have h27 : a.eval (.tmp 27) = .bool true := hn.2.1
          clear hn
          exact wants_not (d := 27) rfl rfl h27 rfl
        refine steps_cons (fun a w hk hn => ?_) ?_
        · have h28 : a.eval (.tmp 28) = undef := hn.1
          have h27 : a.eval (.tmp 27) = .bool true := hn.2.1
          clear hn
          exact wants_not (d := 27) rfl rfl h27 rfl
        refine steps_cons (fun a w hk hn => ?_) ?_
        · have h29 : a.eval (.tmp 29) = undef := hn.1
          have h27 : a.eval (.tmp 27) = .bool true := hn.2.1
          clear hn
          exact wants_not (d := 27) rfl rfl h27 rfl
        refine steps_cons (fun a w hk hn => ?_) ?_
        · have h2 : a.eval (.tmp 2) = .pointer (some ⟨g0, 0, none⟩) := hn.1
          have h27 : a.eval (.tmp 27) = .bool true := hn.2.1
          clear hn
          exact wants_not (d := 27) rfl rfl h27 rfl
        refine steps_cons (fun a w hk hn => ?_) ?_
        · have h31 : a.eval (.tmp 31) = undef := hn.1
          have h27 : a.eval (.tmp 27) = .bool true := hn.2.1
          clear hn
          exact wants_not (d := 27) rfl rfl h27 rfl
        refine steps_cons (fun a w hk hn => ?_) ?_
        · have h2 : a.eval (.tmp 2) = .pointer (some ⟨g0, 0, none⟩) := hn.1
          have h27 : a.eval (.tmp 27) = .bool true := hn.2.1
          clear hn
          exact wants_not (d := 27) rfl rfl h27 rfl
        refine steps_cons (fun a w hk hn => ?_) ?_
        · have h33 : a.eval (.tmp 33) = undef := hn.1
          have h27 : a.eval (.tmp 27) = .bool true := hn.2.1
          clear hn
          exact wants_not (d := 27) rfl rfl h27 rfl
        refine steps_cons (fun a w hk hn => ?_) ?_
        · have h32 : a.eval (.tmp 32) = undef := hn.1
          have h34 : a.eval (.tmp 34) = undef := hn.2.1
          have h27 : a.eval (.tmp 27) = .bool true := hn.2.2.1
          clear hn
          exact wants_not (d := 27) rfl rfl h27 rfl
        refine steps_cons (fun a w hk hn => ?_) ?_
        · have h30 : a.eval (.tmp 30) = undef := hn.1
          have h35 : a.eval (.tmp 35) = undef := hn.2.1
          have h27 : a.eval (.tmp 27) = .bool true := hn.2.2.1
          clear hn
          exact wants_not (d := 27) rfl rfl h27 rfl
        refine steps_cons (fun a w hk hn => ?_) ?_
        · have h27 : a.eval (.tmp 27) = .bool true := hn.1
          have h36 : a.eval (.tmp 36) = undef := hn.2.1
          clear hn
          refine wants_plain rfl ?_
          exact grown_pick _ _ _ true rfl h27 rfl
        exact trivial
      intro W1 hkW1
      rintro _ rfl
      rintro _ rfl
      rintro _ rfl
      rintro _ rfl
      rintro _ rfl
      rintro _ rfl
      rintro _ rfl
      rintro _ rfl
      rintro _ rfl
      rintro _ rfl
      rintro _ rfl
      rintro _ rfl
      rintro _ rfl
      rintro _ rfl
      rintro _ rfl
      rintro _ rfl
      rintro _ rfl
      rintro _ rfl
      rintro _ rfl
      rintro _ rfl
      rintro _ rfl
      rintro _ rfl
      rintro _ rfl
      rintro _ rfl
      rintro _ rfl
      rintro _ rfl
      rintro _ rfl
      rintro _ rfl
      rintro _ rfl
      rintro _ rfl
      rintro _ rfl
      rintro _ rfl
      refine fin_nil ?_
      simp only [Act.put, List.set_cons_zero, List.set_cons_succ, List.setIfInBounds_toArray]
      have HKW := hide (unhide HDR W1 hkW1)
      clear hkW1 z0 z1 z2
      go_wp2_with fail
      go_ret2
      exact ⟨none, 0, 0, rfl, by rw [ledR_no (unhide HOK)]; exact Sl.nil _, ((unhide HK1).trans (unhide HKW))⟩
  · have hr := Bool.eq_false_iff.2 hr
    have HOK : Hid (ledOk i n ps x = false) := ledOk_not (fun h => by rw [hr] at h; cases h.1)
    rw [unhide HOK]
    have HRR : Hid (∀ w', LcM ps (.slice ao N c) w' → Calls Tryd.prog 34 #[.slice ao N c] w' fun e w'' => e = .returned (.bool false) ∧ w'' = w') := fun w' h => by have := prright_any _ ps w' h; rw [hr] at this; exact this
    obtain ⟨w1, hw1⟩ : ∃ w1, w1 = w.alloc ob := ⟨_, rfl⟩
    obtain ⟨g0, hg0⟩ : ∃ g0, g0 = w.heap.size := ⟨_, rfl⟩
    rw [← hw1] at HK1 HST HLL HSL
    rw [← hg0] at HST
    rw [hob] at hw1
    obtain ⟨z0, z1, z2⟩ := cell_tri (unhide HST w1 (Kp.refl _ _))
    have HDR : Hid (∀ w', Kp [] w1.drew w' → Kp [] w1 w') := fun w' k => (kp_drew w1).trans k
    clear hr hob
    go_enter Tryd.func31, Tryd.ntmps31
    go_wp2_with fail
    rw [← hw1, ← hg0]
    clear hw1 hg0
    refine region_grow Tryd.mixed [Is (.pointer (some ⟨g0, 2, none⟩)), Is (.slice ao N c), Is (.bool false), Is (.bool true), Is (.bool true), Is (undef), Is (undef), Is (undef), Is (.bool true), Is (.bool true), Is (undef), Is (undef), Is (undef), Is (.bool true), Is (.bool true), Is (undef), Is (undef), Is (undef), Is (undef), Is (undef), Is (.bool true), Is (.bool true), Is (undef), Is (undef), Is (undef), Is (undef), Is (undef), Is (undef), Is (undef), Is (undef), Is (undef), Is (.bool true)] [[(2, none)], [(6, some 0)], [(7, some 1)], [(8, some 2)], [(9, some 3)], [(1, none), (10, some 4)], [(11, some 5), (10, some 4)], [(12, some 6), (10, some 4)], [(10, some 4), (13, some 7)], [(14, some 8)], [(2, none), (15, some 9)], [(16, some 10), (15, some 9)], [(17, some 11), (15, some 9)], [(15, some 9), (18, some 12)], [(19, some 13)], [(2, none), (20, some 14)], [(21, some 15), (20, some 14)], [(2, none), (20, some 14)], [(23, some 17), (20, some 14)], [(22, some 16), (24, some 18), (20, some 14)], [(20, some 14), (25, some 19)], [(26, some 20)], [(2, none), (27, some 21)], [(28, some 22), (27, some 21)], [(29, some 23), (27, some 21)], [(2, none), (27, some 21)], [(31, some 25), (27, some 21)], [(2, none), (27, some 21)], [(33, some 27), (27, some 21)], [(32, some 26), (34, some 28), (27, some 21)], [(30, some 24), (35, some 29), (27, some 21)], [(27, some 21), (36, some 30)]] (by kernel_rfl) ?_ ?_ ?_
    · simp only [List.mem_cons, List.not_mem_nil, or_false]
      intro R hR
      rcases hR with rfl | rfl | rfl | rfl | rfl | rfl | rfl | rfl | rfl | rfl | rfl | rfl | rfl | rfl | rfl | rfl | rfl | rfl | rfl | rfl | rfl | rfl | rfl | rfl | rfl | rfl | rfl | rfl | rfl | rfl | rfl | rfl <;> first | exact stable_is _
    · refine steps_cons (fun a w hk hn => ?_) ?_
      · have h2 : a.eval (.tmp 2) = .pointer (some ⟨g0, 0, none⟩) := hn.1
        clear hn
        refine wants_plain rfl ?_
        exact grown_fld2 triP (.tmp 2) rfl h2
      refine steps_cons (fun a w hk hn => ?_) ?_
      · have h6 : a.eval (.tmp 6) = .pointer (some ⟨g0, 2, none⟩) := hn.1
        clear hn
        refine wants_plain rfl ?_
        exact grown_ldl (.tmp 6) rfl 2 _ _ _ h6 (cell_tri ((fun w'' k => unhide HST w'' (unhide HDR w'' k)) w hk)).2.2
      refine steps_cons (fun a w hk hn => ?_) ?_
      · have h7 : a.eval (.tmp 7) = .slice ao N c := hn.1
        clear hn
        refine wants_plain rfl ?_
        refine grown_call (f := 34) rfl Tryd.func34 (by kernel_rfl) (by kernel_rfl) ?_
        simp only [List.map_toArray, List.map_cons, List.map_nil, h7]
        refine (unhide HRR w (unhide HLL w (unhide HDR w hk))).mono ?_
        rintro e w' ⟨rfl, rfl⟩
        exact ⟨_, rfl, Kp.refl _ _, rfl⟩
      refine steps_cons (fun a w hk hn => ?_) ?_
      · have h8 : a.eval (.tmp 8) = .bool false := hn.1
        clear hn
        refine wants_plain rfl ?_
        refine grown_run (v := .bool true) ?_ (Kp.refl _ _) rfl
        obtain ⟨ρ, hρ, hc, hf, hg⟩ := eval_is a
        rw [hρ] at h8 ⊢
        simp [go_sem, h8]
      refine steps_cons (fun a w hk hn => ?_) ?_
      · have h9 : a.eval (.tmp 9) = .bool true := hn.1
        clear hn
        refine wants_plain rfl ?_
        exact grown_move (.tmp 9) rfl h9
      refine steps_cons (fun a w hk hn => ?_) ?_
      · have h1 : a.eval (.tmp 1) = .slice ax nx cx := hn.1
        have h10 : a.eval (.tmp 10) = .bool true := hn.2.1
        clear hn
        exact wants_not (d := 10) rfl rfl h10 rfl
      refine steps_cons (fun a w hk hn => ?_) ?_
      · have h11 : a.eval (.tmp 11) = undef := hn.1
        have h10 : a.eval (.tmp 10) = .bool true := hn.2.1
        clear hn
        exact wants_not (d := 10) rfl rfl h10 rfl
      refine steps_cons (fun a w hk hn => ?_) ?_
      · have h12 : a.eval (.tmp 12) = undef := hn.1
        have h10 : a.eval (.tmp 10) = .bool true := hn.2.1
        clear hn
        exact wants_not (d := 10) rfl rfl h10 rfl
      refine steps_cons (fun a w hk hn => ?_) ?_
      · have h10 : a.eval (.tmp 10) = .bool true := hn.1
        have h13 : a.eval (.tmp 13) = undef := hn.2.1
        clear hn
        refine wants_plain rfl ?_
        exact grown_pick _ _ _ true rfl h10 rfl
      refine steps_cons (fun a w hk hn => ?_) ?_
      · have h14 : a.eval (.tmp 14) = .bool true := hn.1
        clear hn
        refine wants_plain rfl ?_
        exact grown_move (.tmp 14) rfl h14
      refine steps_cons (fun a w hk hn => ?_) ?_
      · have h2 : a.eval (.tmp 2) = .pointer (some ⟨g0, 0, none⟩) := hn.1
        have h15 : a.eval (.tmp 15) = .bool true := hn.2.1
        clear hn
        exact wants_not (d := 15) rfl rfl h15 rfl
      refine steps_cons (fun a w hk hn => ?_) ?_
      · have h16 : a.eval (.tmp 16) = undef := hn.1
        have h15 : a.eval (.tmp 15) = .bool true := hn.2.1
        clear hn
        exact wants_not (d := 15) rfl rfl h15 rfl
      refine steps_cons (fun a w hk hn => ?_) ?_
      · have h17 : a.eval (.tmp 17) = undef := hn.1
        have h15 : a.eval (.tmp 15) = .bool true := hn.2.1
        clear hn
        exact wants_not (d := 15) rfl rfl h15 rfl
      refine steps_cons (fun a w hk hn => ?_) ?_
      · have h15 : a.eval (.tmp 15) = .bool true := hn.1
        have h18 : a.eval (.tmp 18) = undef := hn.2.1
        clear hn
        refine wants_plain rfl ?_
        exact grown_pick _ _ _ true rfl h15 rfl
      refine steps_cons (fun a w hk hn => ?_) ?_
      · have h19 : a.eval (.tmp 19) = .bool true := hn.1
        clear hn
        refine wants_plain rfl ?_
        exact grown_move (.tmp 19) rfl h19
      refine steps_cons (fun a w hk hn => ?_) ?_
      · have h2 : a.eval (.tmp 2) = .pointer (some ⟨g0, 0, none⟩) := hn.1
        have h20 : a.eval (.tmp 20) = .bool true := hn.2.1
        clear hn
        exact wants_not (d := 20) rfl rfl h20 rfl
      refine steps_cons (fun a w hk hn => ?_) ?_
      · have h21 : a.eval (.tmp 21) = undef := hn.1
        have h20 : a.eval (.tmp 20) = .bool true := hn.2.1
        clear hn
        exact wants_not (d := 20) rfl rfl h20 rfl
      refine steps_cons (fun a w hk hn => ?_) ?_
      · have h2 : a.eval (.tmp 2) = .pointer (some ⟨g0, 0, none⟩) := hn.1
        have h20 : a.eval (.tmp 20) = .bool true := hn.2.1
        clear hn
        exact wants_not (d := 20) rfl rfl h20 rfl
      refine steps_cons (fun a w hk hn => ?_) ?_
      · have h23 : a.eval (.tmp 23) = undef := hn.1
        have h20 : a.eval (.tmp 20) = .bool true := hn.2.1
        clear hn
        exact wants_not (d := 20) rfl rfl h20 rfl
      refine steps_cons (fun a w hk hn => ?_) ?_
      · have h22 : a.eval (.tmp 22) = undef := hn.1
        have h24 : a.eval (.tmp 24) = undef := hn.2.1
        have h20 : a.eval (.tmp 20) = .bool true := hn.2.2.1
        clear hn
        exact wants_not (d := 20) rfl rfl h20 rfl
      refine steps_cons (fun a w hk hn => ?_) ?_
      · have h20 : a.eval (.tmp 20) = .bool true := hn.1
        have h25 : a.eval (.tmp 25) = undef := hn.2.1
        clear hn
        refine wants_plain rfl ?_
        exact grown_pick _ _ _ true rfl h20 rfl
      refine steps_cons (fun a w hk hn => ?_) ?_
      · have h26 : a.eval (.tmp 26) = .bool true := hn.1
        clear hn
        refine wants_plain rfl ?_
        exact grown_move (.tmp 26) rfl h26
      refine steps_cons (fun a w hk hn => ?_) ?_
      · have h2 : a.eval (.tmp 2) = .pointer (some ⟨g0, 0, none⟩) := hn.1
        have h27 : a.eval (.tmp 27) = .bool true := hn.2.1
        clear hn
        exact wants_not (d := 27) rfl rfl h27 rfl
      refine steps_cons (fun a w hk hn => ?_) ?_
      · have h28 : a.eval (.tmp 28) = undef := hn.1
        have h27 : a.eval (.tmp 27) = .bool true := hn.2.1
        clear hn
        exact wants_not (d := 27) rfl rfl h27 rfl
      refine steps_cons (fun a w hk hn => ?_) ?_
      · have h29 : a.eval (.tmp 29) = undef := hn.1
        have h27 : a.eval (.tmp 27) = .bool true := hn.2.1
        clear hn
        exact wants_not (d := 27) rfl rfl h27 rfl
      refine steps_cons (fun a w hk hn => ?_) ?_
      · have h2 : a.eval (.tmp 2) = .pointer (some ⟨g0, 0, none⟩) := hn.1
        have h27 : a.eval (.tmp 27) = .bool true := hn.2.1
        clear hn
        exact wants_not (d := 27) rfl rfl h27 rfl
      refine steps_cons (fun a w hk hn => ?_) ?_
      · have h31 : a.eval (.tmp 31) = undef := hn.1
        have h27 : a.eval (.tmp 27) = .bool true := hn.2.1
        clear hn
        exact wants_not (d := 27) rfl rfl h27 rfl
      refine steps_cons (fun a w hk hn => ?_) ?_
      · have h2 : a.eval (.tmp 2) = .pointer (some ⟨g0, 0, none⟩) := hn.1
        have h27 : a.eval (.tmp 27) = .bool true := hn.2.1
        clear hn
        exact wants_not (d := 27) rfl rfl h27 rfl
      refine steps_cons (fun a w hk hn => ?_) ?_
      · have h33 : a.eval (.tmp 33) = undef := hn.1
        have h27 : a.eval (.tmp 27) = .bool true := hn.2.1
        clear hn
        exact wants_not (d := 27) rfl rfl h27 rfl
      refine steps_cons (fun a w hk hn => ?_) ?_
      · have h32 : a.eval (.tmp 32) = undef := hn.1
        have h34 : a.eval (.tmp 34) = undef := hn.2.1
        have h27 : a.eval (.tmp 27) = .bool true := hn.2.2.1
        clear hn
        exact wants_not (d := 27) rfl rfl h27 rfl
      refine steps_cons (fun a w hk hn => ?_) ?_
      · have h30 : a.eval (.tmp 30) = undef := hn.1
        have h35 : a.eval (.tmp 35) = undef := hn.2.1
        have h27 : a.eval (.tmp 27) = .bool true := hn.2.2.1
        clear hn
        exact wants_not (d := 27) rfl rfl h27 rfl
      refine steps_cons (fun a w hk hn => ?_) ?_
      · have h27 : a.eval (.tmp 27) = .bool true := hn.1
        have h36 : a.eval (.tmp 36) = undef := hn.2.1
        clear hn
        refine wants_plain rfl ?_
        exact grown_pick _ _ _ true rfl h27 rfl
      exact trivial
    intro W1 hkW1
    rintro _ rfl
    rintro _ rfl
    rintro _ rfl
    rintro _ rfl
    rintro _ rfl
    rintro _ rfl
    rintro _ rfl
    rintro _ rfl
    rintro _ rfl
    rintro _ rfl
    rintro _ rfl
    rintro _ rfl
    rintro _ rfl
    rintro _ rfl
    rintro _ rfl
    rintro _ rfl
    rintro _ rfl
    rintro _ rfl
    rintro _ rfl
    rintro _ rfl
    rintro _ rfl
    rintro _ rfl
    rintro _ rfl
    rintro _ rfl
    rintro _ rfl
    rintro _ rfl
    rintro _ rfl
    rintro _ rfl
    rintro _ rfl
    rintro _ rfl
    rintro _ rfl
    rintro _ rfl
    refine fin_nil ?_
    simp only [Act.put, List.set_cons_zero, List.set_cons_succ, List.setIfInBounds_toArray]
    have HKW := hide (unhide HDR W1 hkW1)
    clear hkW1 z0 z1 z2
    go_wp2_with fail
    go_ret2
    exact ⟨none, 0, 0, rfl, by rw [ledR_no (unhide HOK)]; exact Sl.nil _, ((unhide HK1).trans (unhide HKW))⟩
set_option maxRecDepth 100000 in
set_option maxHeartbeats 4000000 in
theorem rfleads_any (v vx : Value) (i n : Int) (ps : List (List Int)) (x : List Int) (w : World) (hV : TV w v i n ps) (hS : Sl w vx x) (hB : Bs x) (hn : n ≤ 9223372036854775807) :
    Calls Tryd.prog 39 #[v, vx] w fun e w' => ∃ a1 m1 c1 a2 m2 c2, e = .returned (.tuple #[.slice a1 m1 c1, .slice a2 m2 c2, .bool (ldsOk i n ps x)]) ∧ Sl w' (.slice a1 m1 c1) (ldsR1 i n ps x) ∧ Sl w' (.slice a2 m2 c2) (ldsR2 i n ps x) ∧ Kp [] w w' := by
  obtain ⟨ao, c, e, hL⟩ := hV.shape
  subst e
  obtain ⟨N, hN⟩ : ∃ N, N = ps.length := ⟨_, rfl⟩
  rw [← hN] at hL ⊢
  obtain ⟨ob, hob⟩ : ∃ o : Obj, o = (.cells #[.int .i64 i, .int .i64 n, .slice ao N c] 39) := ⟨_, rfl⟩
  have K1 : Kp [] w (w.alloc ob) := (Kp.refl [] w).alloc ob
  have HK1 := hide K1
  have HST : Hid (∀ w', Kp [] (w.alloc ob) w' → w'.heap[w.heap.size]? = some (.cells #[.int .i64 i, .int .i64 n, .slice ao N c] 39 (0, 0))) := fun w' k => k.heap (by rw [hob]; exact heap_alloc_new w _) (by simp)
  have HLL : Hid (∀ w', Kp [] (w.alloc ob) w' → LcM ps (.slice ao N c) w') := fun w' k => hL.kept (K1.trans k)
  have HSL : Hid (∀ w', Kp [] (w.alloc ob) w' → Sl w' vx x) := fun w' k => hS.kept (K1.trans k) (by simp)
  have HBX := hide hB
  have HNN := hide hN
  have HPB := hide hL.bs
  obtain ⟨ax, cx, hvx, -⟩ := hS
  obtain ⟨nx, hnx⟩ : ∃ nx, nx = x.length := ⟨_, rfl⟩
  rw [← hnx] at hvx
  subst hvx
  have HNX := hide hnx
  clear hV hL hB hN hnx K1
  by_cases hr : rightP ps = true
  · by_cases h0 : i ≤ 0
    · have HOK : Hid (ldsOk i n ps x = false) := ldsOk_not (fun h => by have := h.2.2.1.1; omega)
      rw [unhide HOK]
      have HRR : Hid (∀ w', LcM ps (.slice ao N c) w' → Calls Tryd.prog 34 #[.slice ao N c] w' fun e w'' => e = .returned (.bool true) ∧ w'' = w') := fun w' h => by have := prright_any _ ps w' h; rw [hr] at this; exact this
      obtain ⟨w1, hw1⟩ : ∃ w1, w1 = w.alloc ob := ⟨_, rfl⟩
      obtain ⟨g0, hg0⟩ : ∃ g0, g0 = w.heap.size := ⟨_, rfl⟩
      rw [← hw1] at HK1 HST HLL HSL
      rw [← hg0] at HST
      rw [hob] at hw1
      obtain ⟨z0, z1, z2⟩ := cell_tri (unhide HST w1 (Kp.refl _ _))
      have HDR : Hid (∀ w', Kp [] w1.drew w' → Kp [] w1 w') := fun w' k => (kp_drew w1).trans k
      clear hr hob
      go_enter Tryd.func39, Tryd.ntmps39
      go_wp2_with fail
      rw [← hw1, ← hg0]
      clear hw1 hg0
      refine region_grow Tryd.mixed [Is (.pointer (some ⟨g0, 2, none⟩)), Is (.slice ao N c), Is (.bool true), Is (.bool false), Is (.bool false), Is (.pointer (some ⟨g0, 0, none⟩)), Is (.int .i64 i), Is (.bool true), Is (.bool true), Is (.bool true), Is (undef), Is (undef), Is (undef), Is (undef), Is (undef), Is (.bool true), Is (.bool true), Is (undef), Is (undef), Is (undef), Is (.bool true), Is (.bool true), Is (undef), Is (undef), Is (undef), Is (undef), Is (undef), Is (undef), Is (undef), Is (undef), Is (undef), Is (.bool true)] [[(2, none)], [(9, some 0)], [(10, some 1)], [(11, some 2)], [(12, some 3)], [(2, none), (13, some 4)], [(14, some 5), (13, some 4)], [(15, some 6), (13, some 4)], [(13, some 4), (16, some 7)], [(17, some 8)], [(2, none), (18, some 9)], [(19, some 10), (18, some 9)], [(2, none), (18, some 9)], [(21, some 12), (18, some 9)], [(20, some 11), (22, some 13), (18, some 9)], [(18, some 9), (23, some 14)], [(24, some 15)], [(1, none), (25, some 16)], [(26, some 17), (25, some 16)], [(27, some 18), (25, some 16)], [(25, some 16), (28, some 19)], [(29, some 20)], [(2, none), (30, some 21)], [(31, some 22), (30, some 21)], [(32, some 23), (30, some 21)], [(2, none), (30, some 21)], [(34, some 25), (30, some 21)], [(2, none), (30, some 21)], [(36, some 27), (30, some 21)], [(35, some 26), (37, some 28), (30, some 21)], [(33, some 24), (38, some 29), (30, some 21)], [(30, some 21), (39, some 30)]] (by kernel_rfl) ?_ ?_ ?_
      · simp only [List.mem_cons, List.not_mem_nil, or_false]
        intro R hR
        rcases hR with rfl | rfl | rfl | rfl | rfl | rfl | rfl | rfl | rfl | rfl | rfl | rfl | rfl | rfl | rfl | rfl | rfl | rfl | rfl | rfl | rfl | rfl | rfl | rfl | rfl | rfl | rfl | rfl | rfl | rfl | rfl | rfl <;> first | exact stable_is _
      · refine steps_cons (fun a w hk hn => ?_) ?_
        · have h2 : a.eval (.tmp 2) = .pointer (some ⟨g0, 0, none⟩) := hn.1
          clear hn
          refine wants_plain rfl ?_
          exact grown_fld2 triG (.tmp 2) rfl h2
        refine steps_cons (fun a w hk hn => ?_) ?_
        · have h9 : a.eval (.tmp 9) = .pointer (some ⟨g0, 2, none⟩) := hn.1
          clear hn
          refine wants_plain rfl ?_
          exact grown_ldl (.tmp 9) rfl 2 _ _ _ h9 (cell_tri ((fun w'' k => unhide HST w'' (unhide HDR w'' k)) w hk)).2.2
        refine steps_cons (fun a w hk hn => ?_) ?_
        · have h10 : a.eval (.tmp 10) = .slice ao N c := hn.1
          clear hn
          refine wants_plain rfl ?_
          refine grown_call (f := 34) rfl Tryd.func34 (by kernel_rfl) (by kernel_rfl) ?_
          simp only [List.map_toArray, List.map_cons, List.map_nil, h10]
          refine (unhide HRR w (unhide HLL w (unhide HDR w hk))).mono ?_
          rintro e w' ⟨rfl, rfl⟩
          exact ⟨_, rfl, Kp.refl _ _, rfl⟩
        refine steps_cons (fun a w hk hn => ?_) ?_
        · have h11 : a.eval (.tmp 11) = .bool true := hn.1
          clear hn
          refine wants_plain rfl ?_
          refine grown_run (v := .bool false) ?_ (Kp.refl _ _) rfl
          obtain ⟨ρ, hρ, hc, hf, hg⟩ := eval_is a
          rw [hρ] at h11 ⊢
          simp [go_sem, h11]
        refine steps_cons (fun a w hk hn => ?_) ?_
        · have h12 : a.eval (.tmp 12) = .bool false := hn.1
          clear hn
          refine wants_plain rfl ?_
          exact grown_move (.tmp 12) rfl h12
        refine steps_cons (fun a w hk hn => ?_) ?_
        · have h2 : a.eval (.tmp 2) = .pointer (some ⟨g0, 0, none⟩) := hn.1
          have h13 : a.eval (.tmp 13) = .bool false := hn.2.1
          clear hn
          refine wants_guard (d := 13) rfl rfl h13 ?_
          exact grown_fld0 triG (.tmp 2) rfl h2
        refine steps_cons (fun a w hk hn => ?_) ?_
        · have h14 : a.eval (.tmp 14) = .pointer (some ⟨g0, 0, none⟩) := hn.1
          have h13 : a.eval (.tmp 13) = .bool false := hn.2.1
          clear hn
          refine wants_guard (d := 13) rfl rfl h13 ?_
          exact grown_ldi (.tmp 14) rfl 0 _ h14 (cell_tri ((fun w'' k => unhide HST w'' (unhide HDR w'' k)) w hk)).1
        refine steps_cons (fun a w hk hn => ?_) ?_
        · have h15 : a.eval (.tmp 15) = .int .i64 i := hn.1
          have h13 : a.eval (.tmp 13) = .bool false := hn.2.1
          clear hn
          refine wants_guard (d := 13) rfl rfl h13 ?_
          refine grown_run (v := .bool true) ?_ (Kp.refl _ _) rfl
          obtain ⟨ρ, hρ, hc, hf, hg⟩ := eval_is a
          rw [hρ] at h15 ⊢
          simp [go_sem, hc, h15, h0]
        refine steps_cons (fun a w hk hn => ?_) ?_
        · have h13 : a.eval (.tmp 13) = .bool false := hn.1
          have h16 : a.eval (.tmp 16) = .bool true := hn.2.1
          clear hn
          refine wants_plain rfl ?_
          exact grown_pick _ _ _ false rfl h13 h16
        refine steps_cons (fun a w hk hn => ?_) ?_
        · have h17 : a.eval (.tmp 17) = .bool true := hn.1
          clear hn
          refine wants_plain rfl ?_
          exact grown_move (.tmp 17) rfl h17
        refine steps_cons (fun a w hk hn => ?_) ?_
        · have h2 : a.eval (.tmp 2) = .pointer (some ⟨g0, 0, none⟩) := hn.1
          have h18 : a.eval (.tmp 18) = .bool true := hn.2.1
          clear hn
          exact wants_not (d := 18) rfl rfl h18 rfl
        refine steps_cons (fun a w hk hn => ?_) ?_
        · have h19 : a.eval (.tmp 19) = undef := hn.1
          have h18 : a.eval (.tmp 18) = .bool true := hn.2.1
          clear hn
          exact wants_not (d := 18) rfl rfl h18 rfl
        refine steps_cons (fun a w hk hn => ?_) ?_
        · have h2 : a.eval (.tmp 2) = .pointer (some ⟨g0, 0, none⟩) := hn.1
          have h18 : a.eval (.tmp 18) = .bool true := hn.2.1
          clear hn
          exact wants_not (d := 18) rfl rfl h18 rfl
        refine steps_cons (fun a w hk hn => ?_) ?_
        · have h21 : a.eval (.tmp 21) = undef := hn.1
          have h18 : a.eval (.tmp 18) = .bool true := hn.2.1
          clear hn
          exact wants_not (d := 18) rfl rfl h18 rfl
        refine steps_cons (fun a w hk hn => ?_) ?_
        · have h20 : a.eval (.tmp 20) = undef := hn.1
          have h22 : a.eval (.tmp 22) = undef := hn.2.1
          have h18 : a.eval (.tmp 18) = .bool true := hn.2.2.1
          clear hn
          exact wants_not (d := 18) rfl rfl h18 rfl
        refine steps_cons (fun a w hk hn => ?_) ?_
        · have h18 : a.eval (.tmp 18) = .bool true := hn.1
          have h23 : a.eval (.tmp 23) = undef := hn.2.1
          clear hn
          refine wants_plain rfl ?_
          exact grown_pick _ _ _ true rfl h18 rfl
        refine steps_cons (fun a w hk hn => ?_) ?_
        · have h24 : a.eval (.tmp 24) = .bool true := hn.1
          clear hn
          refine wants_plain rfl ?_
          exact grown_move (.tmp 24) rfl h24
        refine steps_cons (fun a w hk hn => ?_) ?_
        · have h1 : a.eval (.tmp 1) = .slice ax nx cx := hn.1
          have h25 : a.eval (.tmp 25) = .bool true := hn.2.1
          clear hn
          exact wants_not (d := 25) rfl rfl h25 rfl
        refine steps_cons (fun a w hk hn => ?_) ?_
        · have h26 : a.eval (.tmp 26) = undef := hn.1
          have h25 : a.eval (.tmp 25) = .bool true := hn.2.1
          clear hn
          exact wants_not (d := 25) rfl rfl h25 rfl
        refine steps_cons (fun a w hk hn => ?_) ?_
        · have h27 : a.eval (.tmp 27) = undef := hn.1
          have h25 : a.eval (.tmp 25) = .bool true := hn.2.1
          clear hn
          exact wants_not (d := 25) rfl rfl h25 rfl
        refine steps_cons (fun a w hk hn => ?_) ?_
        · have h25 : a.eval (.tmp 25) = .bool true := hn.1
          have h28 : a.eval (.tmp 28) = undef := hn.2.1
          clear hn
          refine wants_plain rfl ?_
          exact grown_pick _ _ _ true rfl h25 rfl
        refine steps_cons (fun a w hk hn => ?_) ?_
        · have h29 : a.eval (.tmp 29) = .bool true := hn.1
          clear hn
          refine wants_plain rfl ?_
          exact grown_move (.tmp 29) rfl h29
        refine steps_cons (fun a w hk hn => ?_) ?_
        · have h2 : a.eval (.tmp 2) = .pointer (some ⟨g0, 0, none⟩) := hn.1
          have h30 : a.eval (.tmp 30) = .bool true := hn.2.1
          clear hn
          exact wants_not (d := 30) rfl rfl h30 rfl
        refine steps_cons (fun a w hk hn => ?_) ?_
        · have h31 : a.eval (.tmp 31) = undef := hn.1
          have h30 : a.eval (.tmp 30) = .bool true := hn.2.1
          clear hn
          exact wants_not (d := 30) rfl rfl h30 rfl
        refine steps_cons (fun a w hk hn => ?_) ?_
        · have h32 : a.eval (.tmp 32) = undef := hn.1
          have h30 : a.eval (.tmp 30) = .bool true := hn.2.1
          clear hn
          exact wants_not (d := 30) rfl rfl h30 rfl
        refine steps_cons (fun a w hk hn => ?_) ?_
        · have h2 : a.eval (.tmp 2) = .pointer (some ⟨g0, 0, none⟩) := hn.1
          have h30 : a.eval (.tmp 30) = .bool true := hn.2.1
          clear hn
          exact wants_not (d := 30) rfl rfl h30 rfl
        refine steps_cons (fun a w hk hn => ?_) ?_
        · have h34 : a.eval (.tmp 34) = undef := hn.1
          have h30 : a.eval (.tmp 30) = .bool true := hn.2.1
          clear hn
          exact wants_not (d := 30) rfl rfl h30 rfl
        refine steps_cons (fun a w hk hn => ?_) ?_
        · have h2 : a.eval (.tmp 2) = .pointer (some ⟨g0, 0, none⟩) := hn.1
          have h30 : a.eval (.tmp 30) = .bool true := hn.2.1
          clear hn
          exact wants_not (d := 30) rfl rfl h30 rfl
        refine steps_cons (fun a w hk hn => ?_) ?_
        · have h36 : a.eval (.tmp 36) = undef := hn.1
          have h30 : a.eval (.tmp 30) = .bool true := hn.2.1
          clear hn
          exact wants_not (d := 30) rfl rfl h30 rfl
        refine steps_cons (fun a w hk hn => ?_) ?_
        · have h35 : a.eval (.tmp 35) = undef := hn.1
          have h37 : a.eval (.tmp 37) = undef := hn.2.1
          have h30 : a.eval (.tmp 30) = .bool true := hn.2.2.1
          clear hn
          exact wants_not (d := 30) rfl rfl h30 rfl
        refine steps_cons (fun a w hk hn => ?_) ?_
        · have h33 : a.eval (.tmp 33) = undef := hn.1
          have h38 : a.eval (.tmp 38) = undef := hn.2.1
          have h30 : a.eval (.tmp 30) = .bool true := hn.2.2.1
          clear hn
          exact wants_not (d := 30) rfl rfl h30 rfl
        refine steps_cons (fun a w hk hn => ?_) ?_
        · have h30 : a.eval (.tmp 30) = .bool true := hn.1
          have h39 : a.eval (.tmp 39) = undef := hn.2.1
          clear hn
          refine wants_plain rfl ?_
          exact grown_pick _ _ _ true rfl h30 rfl
        exact trivial
      intro W1 hkW1
      rintro _ rfl
      rintro _ rfl
      rintro _ rfl
      rintro _ rfl
      rintro _ rfl
      rintro _ rfl
      rintro _ rfl
      rintro _ rfl
      rintro _ rfl
      rintro _ rfl
      rintro _ rfl
      rintro _ rfl
      rintro _ rfl
      rintro _ rfl
      rintro _ rfl
      rintro _ rfl
      rintro _ rfl
      rintro _ rfl
      rintro _ rfl
      rintro _ rfl
      rintro _ rfl
      rintro _ rfl
      rintro _ rfl
      rintro _ rfl
      rintro _ rfl
      rintro _ rfl
      rintro _ rfl
      rintro _ rfl
      rintro _ rfl
      rintro _ rfl
      rintro _ rfl
      rintro _ rfl
      refine fin_nil ?_
      simp only [Act.put, List.set_cons_zero, List.set_cons_succ, List.setIfInBounds_toArray]
      have HKW := hide (unhide HDR W1 hkW1)
      clear hkW1 z0 z1 z2
      go_wp2_with fail
      go_ret3
      exact ⟨none, 0, 0, none, 0, 0, rfl, by rw [(ldsR_no (unhide HOK)).1]; exact Sl.nil _, by rw [(ldsR_no (unhide HOK)).2]; exact Sl.nil _, ((unhide HK1).trans (unhide HKW))⟩
    · obtain ⟨p, rfl⟩ : ∃ p : Nat, i = p := ⟨i.toNat, by omega⟩
      have h0p : 0 < p := by omega
      have h0q : ¬ p = 0 := by omega
      clear h0
      by_cases h1 : n ≤ (p : Int)
      · have HOK : Hid (ldsOk p n ps x = false) := ldsOk_not (fun h => by have := h.2.2.1.2; omega)
        rw [unhide HOK]
        have HRR : Hid (∀ w', LcM ps (.slice ao N c) w' → Calls Tryd.prog 34 #[.slice ao N c] w' fun e w'' => e = .returned (.bool true) ∧ w'' = w') := fun w' h => by have := prright_any _ ps w' h; rw [hr] at this; exact this
        obtain ⟨w1, hw1⟩ : ∃ w1, w1 = w.alloc ob := ⟨_, rfl⟩
        obtain ⟨g0, hg0⟩ : ∃ g0, g0 = w.heap.size := ⟨_, rfl⟩
        rw [← hw1] at HK1 HST HLL HSL
        rw [← hg0] at HST
        rw [hob] at hw1
        obtain ⟨z0, z1, z2⟩ := cell_tri (unhide HST w1 (Kp.refl _ _))
        have HDR : Hid (∀ w', Kp [] w1.drew w' → Kp [] w1 w') := fun w' k => (kp_drew w1).trans k
        clear hr hob
        go_enter Tryd.func39, Tryd.ntmps39
        go_wp2_with fail
        rw [← hw1, ← hg0]
        clear hw1 hg0
        refine region_grow Tryd.mixed [Is (.pointer (some ⟨g0, 2, none⟩)), Is (.slice ao N c), Is (.bool true), Is (.bool false), Is (.bool false), Is (.pointer (some ⟨g0, 0, none⟩)), Is (.int .i64 p), Is (.bool false), Is (.bool false), Is (.bool false), Is (.pointer (some ⟨g0, 0, none⟩)), Is (.int .i64 p), Is (.pointer (some ⟨g0, 1, none⟩)), Is (.int .i64 n), Is (.bool true), Is (.bool true), Is (.bool true), Is (undef), Is (undef), Is (undef), Is (.bool true), Is (.bool true), Is (undef), Is (undef), Is (undef), Is (undef), Is (undef), Is (undef), Is (undef), Is (undef), Is (undef), Is (.bool true)] [[(2, none)], [(9, some 0)], [(10, some 1)], [(11, some 2)], [(12, some 3)], [(2, none), (13, some 4)], [(14, some 5), (13, some 4)], [(15, some 6), (13, some 4)], [(13, some 4), (16, some 7)], [(17, some 8)], [(2, none), (18, some 9)], [(19, some 10), (18, some 9)], [(2, none), (18, some 9)], [(21, some 12), (18, some 9)], [(20, some 11), (22, some 13), (18, some 9)], [(18, some 9), (23, some 14)], [(24, some 15)], [(1, none), (25, some 16)], [(26, some 17), (25, some 16)], [(27, some 18), (25, some 16)], [(25, some 16), (28, some 19)], [(29, some 20)], [(2, none), (30, some 21)], [(31, some 22), (30, some 21)], [(32, some 23), (30, some 21)], [(2, none), (30, some 21)], [(34, some 25), (30, some 21)], [(2, none), (30, some 21)], [(36, some 27), (30, some 21)], [(35, some 26), (37, some 28), (30, some 21)], [(33, some 24), (38, some 29), (30, some 21)], [(30, some 21), (39, some 30)]] (by kernel_rfl) ?_ ?_ ?_
        · simp only [List.mem_cons, List.not_mem_nil, or_false]
          intro R hR
          rcases hR with rfl | rfl | rfl | rfl | rfl | rfl | rfl | rfl | rfl | rfl | rfl | rfl | rfl | rfl | rfl | rfl | rfl | rfl | rfl | rfl | rfl | rfl | rfl | rfl | rfl | rfl | rfl | rfl | rfl | rfl | rfl | rfl <;> first | exact stable_is _
        · refine steps_cons (fun a w hk hn => ?_) ?_
          · have h2 : a.eval (.tmp 2) = .pointer (some ⟨g0, 0, none⟩) := hn.1
            clear hn
            refine wants_plain rfl ?_
            exact grown_fld2 triG (.tmp 2) rfl h2
          refine steps_cons (fun a w hk hn => ?_) ?_
          · have h9 : a.eval (.tmp 9) = .pointer (some ⟨g0, 2, none⟩) := hn.1
            clear hn
            refine wants_plain rfl ?_
            exact grown_ldl (.tmp 9) rfl 2 _ _ _ h9 (cell_tri ((fun w'' k => unhide HST w'' (unhide HDR w'' k)) w hk)).2.2
          refine steps_cons (fun a w hk hn => ?_) ?_
          · have h10 : a.eval (.tmp 10) = .slice ao N c := hn.1
            clear hn
            refine wants_plain rfl ?_
            refine grown_call (f := 34) rfl Tryd.func34 (by kernel_rfl) (by kernel_rfl) ?_
            simp only [List.map_toArray, List.map_cons, List.map_nil, h10]
            refine (unhide HRR w (unhide HLL w (unhide HDR w hk))).mono ?_
            rintro e w' ⟨rfl, rfl⟩
            exact ⟨_, rfl, Kp.refl _ _, rfl⟩
          refine steps_cons (fun a w hk hn => ?_) ?_
          · have h11 : a.eval (.tmp 11) = .bool true := hn.1
            clear hn
            refine wants_plain rfl ?_
            refine grown_run (v := .bool false) ?_ (Kp.refl _ _) rfl
            obtain ⟨ρ, hρ, hc, hf, hg⟩ := eval_is a
            rw [hρ] at h11 ⊢
            simp [go_sem, h11]
          refine steps_cons (fun a w hk hn => ?_) ?_
          · have h12 : a.eval (.tmp 12) = .bool false := hn.1
            clear hn
            refine wants_plain rfl ?_
            exact grown_move (.tmp 12) rfl h12
          refine steps_cons (fun a w hk hn => ?_) ?_
          · have h2 : a.eval (.tmp 2) = .pointer (some ⟨g0, 0, none⟩) := hn.1
            have h13 : a.eval (.tmp 13) = .bool false := hn.2.1
            clear hn
            refine wants_guard (d := 13) rfl rfl h13 ?_
            exact grown_fld0 triG (.tmp 2) rfl h2
          refine steps_cons (fun a w hk hn => ?_) ?_
          · have h14 : a.eval (.tmp 14) = .pointer (some ⟨g0, 0, none⟩) := hn.1
            have h13 : a.eval (.tmp 13) = .bool false := hn.2.1
            clear hn
            refine wants_guard (d := 13) rfl rfl h13 ?_
            exact grown_ldi (.tmp 14) rfl 0 _ h14 (cell_tri ((fun w'' k => unhide HST w'' (unhide HDR w'' k)) w hk)).1
          refine steps_cons (fun a w hk hn => ?_) ?_
          · have h15 : a.eval (.tmp 15) = .int .i64 p := hn.1
            have h13 : a.eval (.tmp 13) = .bool false := hn.2.1
            clear hn
            refine wants_guard (d := 13) rfl rfl h13 ?_
            refine grown_run (v := .bool false) ?_ (Kp.refl _ _) rfl
            obtain ⟨ρ, hρ, hc, hf, hg⟩ := eval_is a
            rw [hρ] at h15 ⊢
            simp [go_sem, hc, h15, h0q]
          refine steps_cons (fun a w hk hn => ?_) ?_
          · have h13 : a.eval (.tmp 13) = .bool false := hn.1
            have h16 : a.eval (.tmp 16) = .bool false := hn.2.1
            clear hn
            refine wants_plain rfl ?_
            exact grown_pick _ _ _ false rfl h13 h16
          refine steps_cons (fun a w hk hn => ?_) ?_
          · have h17 : a.eval (.tmp 17) = .bool false := hn.1
            clear hn
            refine wants_plain rfl ?_
            exact grown_move (.tmp 17) rfl h17
          refine steps_cons (fun a w hk hn => ?_) ?_
          · have h2 : a.eval (.tmp 2) = .pointer (some ⟨g0, 0, none⟩) := hn.1
            have h18 : a.eval (.tmp 18) = .bool false := hn.2.1
            clear hn
            refine wants_guard (d := 18) rfl rfl h18 ?_
            exact grown_fld0 triG (.tmp 2) rfl h2
          refine steps_cons (fun a w hk hn => ?_) ?_
          · have h19 : a.eval (.tmp 19) = .pointer (some ⟨g0, 0, none⟩) := hn.1
            have h18 : a.eval (.tmp 18) = .bool false := hn.2.1
            clear hn
            refine wants_guard (d := 18) rfl rfl h18 ?_
            exact grown_ldi (.tmp 19) rfl 0 _ h19 (cell_tri ((fun w'' k => unhide HST w'' (unhide HDR w'' k)) w hk)).1
          refine steps_cons (fun a w hk hn => ?_) ?_
          · have h2 : a.eval (.tmp 2) = .pointer (some ⟨g0, 0, none⟩) := hn.1
            have h18 : a.eval (.tmp 18) = .bool false := hn.2.1
            clear hn
            refine wants_guard (d := 18) rfl rfl h18 ?_
            exact grown_fld1 triG (.tmp 2) rfl h2
          refine steps_cons (fun a w hk hn => ?_) ?_
          · have h21 : a.eval (.tmp 21) = .pointer (some ⟨g0, 1, none⟩) := hn.1
            have h18 : a.eval (.tmp 18) = .bool false := hn.2.1
            clear hn
            refine wants_guard (d := 18) rfl rfl h18 ?_
            exact grown_ldi (.tmp 21) rfl 1 _ h21 (cell_tri ((fun w'' k => unhide HST w'' (unhide HDR w'' k)) w hk)).2.1
          refine steps_cons (fun a w hk hn => ?_) ?_
          · have h20 : a.eval (.tmp 20) = .int .i64 p := hn.1
            have h22 : a.eval (.tmp 22) = .int .i64 n := hn.2.1
            have h18 : a.eval (.tmp 18) = .bool false := hn.2.2.1
            clear hn
            refine wants_guard (d := 18) rfl rfl h18 ?_
            refine grown_run (v := .bool true) ?_ (Kp.refl _ _) rfl
            obtain ⟨ρ, hρ, hc, hf, hg⟩ := eval_is a
            rw [hρ] at h20 h22 ⊢
            simp [go_sem, h20, h22, h1]
          refine steps_cons (fun a w hk hn => ?_) ?_
          · have h18 : a.eval (.tmp 18) = .bool false := hn.1
            have h23 : a.eval (.tmp 23) = .bool true := hn.2.1
            clear hn
            refine wants_plain rfl ?_
            exact grown_pick _ _ _ false rfl h18 h23
          refine steps_cons (fun a w hk hn => ?_) ?_
          · have h24 : a.eval (.tmp 24) = .bool true := hn.1
            clear hn
            refine wants_plain rfl ?_
            exact grown_move (.tmp 24) rfl h24
          refine steps_cons (fun a w hk hn => ?_) ?_
          · have h1 : a.eval (.tmp 1) = .slice ax nx cx := hn.1
            have h25 : a.eval (.tmp 25) = .bool true := hn.2.1
            clear hn
            exact wants_not (d := 25) rfl rfl h25 rfl
          refine steps_cons (fun a w hk hn => ?_) ?_
          · have h26 : a.eval (.tmp 26) = undef := hn.1
            have h25 : a.eval (.tmp 25) = .bool true := hn.2.1
            clear hn
            exact wants_not (d := 25) rfl rfl h25 rfl
          refine steps_cons (fun a w hk hn => ?_) ?_
          · have h27 : a.eval (.tmp 27) = undef := hn.1
            have h25 : a.eval (.tmp 25) = .bool true := hn.2.1
            clear hn
            exact wants_not (d := 25) rfl rfl h25 rfl
          refine steps_cons (fun a w hk hn => ?_) ?_
          · have h25 : a.eval (.tmp 25) = .bool true := hn.1
            have h28 : a.eval (.tmp 28) = undef := hn.2.1
            clear hn
            refine wants_plain rfl ?_
            exact grown_pick _ _ _ true rfl h25 rfl
          refine steps_cons (fun a w hk hn => ?_) ?_
          · have h29 : a.eval (.tmp 29) = .bool true := hn.1
            clear hn
            refine wants_plain rfl ?_
            exact grown_move (.tmp 29) rfl h29
          refine steps_cons (fun a w hk hn => ?_) ?_
          · have h2 : a.eval (.tmp 2) = .pointer (some ⟨g0, 0, none⟩) := hn.1
            have h30 : a.eval (.tmp 30) = .bool true := hn.2.1
            clear hn
            exact wants_not (d := 30) rfl rfl h30 rfl
          refine steps_cons (fun a w hk hn => ?_) ?_
          · have h31 : a.eval (.tmp 31) = undef := hn.1
            have h30 : a.eval (.tmp 30) = .bool true := hn.2.1
            clear hn
            exact wants_not (d := 30) rfl rfl h30 rfl
          refine steps_cons (fun a w hk hn => ?_) ?_
          · have h32 : a.eval (.tmp 32) = undef := hn.1
            have h30 : a.eval (.tmp 30) = .bool true := hn.2.1
            clear hn
            exact wants_not (d := 30) rfl rfl h30 rfl
          refine steps_cons (fun a w hk hn => ?_) ?_
          · have h2 : a.eval (.tmp 2) = .pointer (some ⟨g0, 0, none⟩) := hn.1
            have h30 : a.eval (.tmp 30) = .bool true := hn.2.1
            clear hn
            exact wants_not (d := 30) rfl rfl h30 rfl
          refine steps_cons (fun a w hk hn => ?_) ?_
          · have h34 : a.eval (.tmp 34) = undef := hn.1
            have h30 : a.eval (.tmp 30) = .bool true := hn.2.1
            clear hn
            exact wants_not (d := 30) rfl rfl h30 rfl
          refine steps_cons (fun a w hk hn => ?_) ?_
          · have h2 : a.eval (.tmp 2) = .pointer (some ⟨g0, 0, none⟩) := hn.1
            have h30 : a.eval (.tmp 30) = .bool true := hn.2.1
            clear hn
            exact wants_not (d := 30) rfl rfl h30 rfl
          refine steps_cons (fun a w hk hn => ?_) ?_
          · have h36 : a.eval (.tmp 36) = undef := hn.1
            have h30 : a.eval (.tmp 30) = .bool true := hn.2.1
            clear hn
            exact wants_not (d := 30) rfl rfl h30 rfl
          refine steps_cons (fun a w hk hn => ?_) ?_
          · have h35 : a.eval (.tmp 35) = undef := hn.1
            have h37 : a.eval (.tmp 37) = undef := hn.2.1
            have h30 : a.eval (.tmp 30) = .bool true := hn.2.2.1
            clear hn
            exact wants_not (d := 30) rfl rfl h30 rfl
          refine steps_cons (fun a w hk hn => ?_) ?_
          · have h33 : a.eval (.tmp 33) = undef := hn.1
            have h38 : a.eval (.tmp 38) = undef := hn.2.1
            have h30 : a.eval (.tmp 30) = .bool true := hn.2.2.1
            clear hn
            exact wants_not (d := 30) rfl rfl h30 rfl
          refine steps_cons (fun a w hk hn => ?_) ?_
          · have h30 : a.eval (.tmp 30) = .bool true := hn.1
            have h39 : a.eval (.tmp 39) = undef := hn.2.1
            clear hn
            refine wants_plain rfl ?_
            exact grown_pick _ _ _ true rfl h30 rfl
          exact trivial
        intro W1 hkW1
        rintro _ rfl
        rintro _ rfl
        rintro _ rfl
        rintro _ rfl
        rintro _ rfl
        rintro _ rfl
        rintro _ rfl
        rintro _ rfl
        rintro _ rfl
        rintro _ rfl
        rintro _ rfl
        rintro _ rfl
        rintro _ rfl
        rintro _ rfl
        rintro _ rfl
        rintro _ rfl
        rintro _ rfl
        rintro _ rfl
        rintro _ rfl
        rintro _ rfl
        rintro _ rfl
        rintro _ rfl
        rintro _ rfl
        rintro _ rfl
        rintro _ rfl
        rintro _ rfl
        rintro _ rfl
        rintro _ rfl
        rintro _ rfl
        rintro _ rfl
        rintro _ rfl
        rintro _ rfl
        refine fin_nil ?_
        simp only [Act.put, List.set_cons_zero, List.set_cons_succ, List.setIfInBounds_toArray]
        have HKW := hide (unhide HDR W1 hkW1)
        clear hkW1 z0 z1 z2
        go_wp2_with fail
        go_ret3
        exact ⟨none, 0, 0, none, 0, 0, rfl, by rw [(ldsR_no (unhide HOK)).1]; exact Sl.nil _, by rw [(ldsR_no (unhide HOK)).2]; exact Sl.nil _, ((unhide HK1).trans (unhide HKW))⟩
      · obtain ⟨q, rfl⟩ : ∃ q : Nat, n = q := ⟨n.toNat, by omega⟩
        have hpq : p < q := by omega
        clear h1
        by_cases hx : nx = 32
        · subst hx
          by_cases hcnt : N = lenP p q true
          · have HOK : Hid (ldsOk p q ps x = true) := ldsOk_iff.2 ⟨hr, (unhide HNX).symm, ⟨by omega, by omega⟩, by rw [← unhide HNN]; exact hcnt⟩
            rw [unhide HOK]
            obtain ⟨cn, hcn⟩ : ∃ cn, cn = lenP p q true := ⟨_, rfl⟩
            have HCN := hide hcn
            obtain rfl : N = cn := by rw [hcn]; exact hcnt
            clear hcn hcnt
            obtain ⟨r1, hr1⟩ : ∃ r, r = (ldsP p q true ps x).1 := ⟨_, rfl⟩
            obtain ⟨r2, hr2⟩ : ∃ r, r = (ldsP p q true ps x).2 := ⟨_, rfl⟩
            have HR1 := hide hr1
            have HR2 := hide hr2
            have HRV : Hid (ldsR1 p q ps x = r1 ∧ ldsR2 p q ps x = r2) := by rw [(ldsR_ok (unhide HOK)).1, (ldsR_ok (unhide HOK)).2, hr1, hr2]; exact ⟨rfl, rfl⟩
            have hall := ldsP_all (fun z => z.length = 32) sha_len q p true ps x (by omega) (by omega) (by rw [← unhide HNN, unhide HCN]) (fun z hz => (rightP_iff.1 hr).2 z hz) (by rw [← unhide HNX])
            rw [← hr1, ← hr2] at hall
            have HAL := hide hall.1
            clear hr1 hr2 hall
            have HPM : Hid (∀ y ∈ ps, y.length = 32) := (rightP_iff.1 hr).2
            have HRR : Hid (∀ w', LcM ps (.slice ao N c) w' → Calls Tryd.prog 34 #[.slice ao N c] w' fun e w'' => e = .returned (.bool true) ∧ w'' = w') := fun w' h => by have := prright_any _ ps w' h; rw [hr] at this; exact this
            obtain ⟨w1, hw1⟩ : ∃ w1, w1 = w.alloc ob := ⟨_, rfl⟩
            obtain ⟨g0, hg0⟩ : ∃ g0, g0 = w.heap.size := ⟨_, rfl⟩
            rw [← hw1] at HK1 HST HLL HSL
            rw [← hg0] at HST
            rw [hob] at hw1
            obtain ⟨z0, z1, z2⟩ := cell_tri (unhide HST w1 (Kp.refl _ _))
            have HDR : Hid (∀ w', Kp [] w1.drew w' → Kp [] w1 w') := fun w' k => (kp_drew w1).trans k
            clear hr hob
            go_enter Tryd.func39, Tryd.ntmps39
            go_wp2_with fail
            rw [← hw1, ← hg0]
            clear hw1 hg0
            refine region_grow Tryd.mixed [Is (.pointer (some ⟨g0, 2, none⟩)), Is (.slice ao N c), Is (.bool true), Is (.bool false), Is (.bool false), Is (.pointer (some ⟨g0, 0, none⟩)), Is (.int .i64 p), Is (.bool false), Is (.bool false), Is (.bool false), Is (.pointer (some ⟨g0, 0, none⟩)), Is (.int .i64 p), Is (.pointer (some ⟨g0, 1, none⟩)), Is (.int .i64 q), Is (.bool false), Is (.bool false), Is (.bool false), Is (.slice ax 32 cx), Is (.int .i64 32), Is (.bool false), Is (.bool false), Is (.bool false), Is (.pointer (some ⟨g0, 2, none⟩)), Is (.slice ao N c), Is (.int .i64 N), Is (.pointer (some ⟨g0, 0, none⟩)), Is (.int .i64 p), Is (.pointer (some ⟨g0, 1, none⟩)), Is (.int .i64 q), Is (.int .i64 N), Is (.bool false), Is (.bool false)] [[(2, none)], [(9, some 0)], [(10, some 1)], [(11, some 2)], [(12, some 3)], [(2, none), (13, some 4)], [(14, some 5), (13, some 4)], [(15, some 6), (13, some 4)], [(13, some 4), (16, some 7)], [(17, some 8)], [(2, none), (18, some 9)], [(19, some 10), (18, some 9)], [(2, none), (18, some 9)], [(21, some 12), (18, some 9)], [(20, some 11), (22, some 13), (18, some 9)], [(18, some 9), (23, some 14)], [(24, some 15)], [(1, none), (25, some 16)], [(26, some 17), (25, some 16)], [(27, some 18), (25, some 16)], [(25, some 16), (28, some 19)], [(29, some 20)], [(2, none), (30, some 21)], [(31, some 22), (30, some 21)], [(32, some 23), (30, some 21)], [(2, none), (30, some 21)], [(34, some 25), (30, some 21)], [(2, none), (30, some 21)], [(36, some 27), (30, some 21)], [(35, some 26), (37, some 28), (30, some 21)], [(33, some 24), (38, some 29), (30, some 21)], [(30, some 21), (39, some 30)]] (by kernel_rfl) ?_ ?_ ?_
            · simp only [List.mem_cons, List.not_mem_nil, or_false]
              intro R hR
              rcases hR with rfl | rfl | rfl | rfl | rfl | rfl | rfl | rfl | rfl | rfl | rfl | rfl | rfl | rfl | rfl | rfl | rfl | rfl | rfl | rfl | rfl | rfl | rfl | rfl | rfl | rfl | rfl | rfl | rfl | rfl | rfl | rfl <;> first | exact stable_is _
            · refine steps_cons (fun a w hk hn => ?_) ?_
              · have h2 : a.eval (.tmp 2) = .pointer (some ⟨g0, 0, none⟩) := hn.1
                clear hn
                refine wants_plain rfl ?_
                exact grown_fld2 triG (.tmp 2) rfl h2
              refine steps_cons (fun a w hk hn => ?_) ?_
              · have h9 : a.eval (.tmp 9) = .pointer (some ⟨g0, 2, none⟩) := hn.1
                clear hn
                refine wants_plain rfl ?_
                exact grown_ldl (.tmp 9) rfl 2 _ _ _ h9 (cell_tri ((fun w'' k => unhide HST w'' (unhide HDR w'' k)) w hk)).2.2
              refine steps_cons (fun a w hk hn => ?_) ?_
              · have h10 : a.eval (.tmp 10) = .slice ao N c := hn.1
                clear hn
                refine wants_plain rfl ?_
                refine grown_call (f := 34) rfl Tryd.func34 (by kernel_rfl) (by kernel_rfl) ?_
                simp only [List.map_toArray, List.map_cons, List.map_nil, h10]
                refine (unhide HRR w (unhide HLL w (unhide HDR w hk))).mono ?_
                rintro e w' ⟨rfl, rfl⟩
                exact ⟨_, rfl, Kp.refl _ _, rfl⟩
              refine steps_cons (fun a w hk hn => ?_) ?_
              · have h11 : a.eval (.tmp 11) = .bool true := hn.1
                clear hn
                refine wants_plain rfl ?_
                refine grown_run (v := .bool false) ?_ (Kp.refl _ _) rfl
                obtain ⟨ρ, hρ, hc, hf, hg⟩ := eval_is a
                rw [hρ] at h11 ⊢
                simp [go_sem, h11]
              refine steps_cons (fun a w hk hn => ?_) ?_
              · have h12 : a.eval (.tmp 12) = .bool false := hn.1
                clear hn
                refine wants_plain rfl ?_
                exact grown_move (.tmp 12) rfl h12
              refine steps_cons (fun a w hk hn => ?_) ?_
              · have h2 : a.eval (.tmp 2) = .pointer (some ⟨g0, 0, none⟩) := hn.1
                have h13 : a.eval (.tmp 13) = .bool false := hn.2.1
                clear hn
                refine wants_guard (d := 13) rfl rfl h13 ?_
                exact grown_fld0 triG (.tmp 2) rfl h2
              refine steps_cons (fun a w hk hn => ?_) ?_
              · have h14 : a.eval (.tmp 14) = .pointer (some ⟨g0, 0, none⟩) := hn.1
                have h13 : a.eval (.tmp 13) = .bool false := hn.2.1
                clear hn
                refine wants_guard (d := 13) rfl rfl h13 ?_
                exact grown_ldi (.tmp 14) rfl 0 _ h14 (cell_tri ((fun w'' k => unhide HST w'' (unhide HDR w'' k)) w hk)).1
              refine steps_cons (fun a w hk hn => ?_) ?_
              · have h15 : a.eval (.tmp 15) = .int .i64 p := hn.1
                have h13 : a.eval (.tmp 13) = .bool false := hn.2.1
                clear hn
                refine wants_guard (d := 13) rfl rfl h13 ?_
                refine grown_run (v := .bool false) ?_ (Kp.refl _ _) rfl
                obtain ⟨ρ, hρ, hc, hf, hg⟩ := eval_is a
                rw [hρ] at h15 ⊢
                simp [go_sem, hc, h15, h0q]
              refine steps_cons (fun a w hk hn => ?_) ?_
              · have h13 : a.eval (.tmp 13) = .bool false := hn.1
                have h16 : a.eval (.tmp 16) = .bool false := hn.2.1
                clear hn
                refine wants_plain rfl ?_
                exact grown_pick _ _ _ false rfl h13 h16
              refine steps_cons (fun a w hk hn => ?_) ?_
              · have h17 : a.eval (.tmp 17) = .bool false := hn.1
                clear hn
                refine wants_plain rfl ?_
                exact grown_move (.tmp 17) rfl h17
              refine steps_cons (fun a w hk hn => ?_) ?_
              · have h2 : a.eval (.tmp 2) = .pointer (some ⟨g0, 0, none⟩) := hn.1
                have h18 : a.eval (.tmp 18) = .bool false := hn.2.1
                clear hn
                refine wants_guard (d := 18) rfl rfl h18 ?_
                exact grown_fld0 triG (.tmp 2) rfl h2
              refine steps_cons (fun a w hk hn => ?_) ?_
              · have h19 : a.eval (.tmp 19) = .pointer (some ⟨g0, 0, none⟩) := hn.1
                have h18 : a.eval (.tmp 18) = .bool false := hn.2.1
                clear hn
                refine wants_guard (d := 18) rfl rfl h18 ?_
                exact grown_ldi (.tmp 19) rfl 0 _ h19 (cell_tri ((fun w'' k => unhide HST w'' (unhide HDR w'' k)) w hk)).1
              refine steps_cons (fun a w hk hn => ?_) ?_
              · have h2 : a.eval (.tmp 2) = .pointer (some ⟨g0, 0, none⟩) := hn.1
                have h18 : a.eval (.tmp 18) = .bool false := hn.2.1
                clear hn
                refine wants_guard (d := 18) rfl rfl h18 ?_
                exact grown_fld1 triG (.tmp 2) rfl h2
              refine steps_cons (fun a w hk hn => ?_) ?_
              · have h21 : a.eval (.tmp 21) = .pointer (some ⟨g0, 1, none⟩) := hn.1
                have h18 : a.eval (.tmp 18) = .bool false := hn.2.1
                clear hn
                refine wants_guard (d := 18) rfl rfl h18 ?_
                exact grown_ldi (.tmp 21) rfl 1 _ h21 (cell_tri ((fun w'' k => unhide HST w'' (unhide HDR w'' k)) w hk)).2.1
              refine steps_cons (fun a w hk hn => ?_) ?_
              · have h20 : a.eval (.tmp 20) = .int .i64 p := hn.1
                have h22 : a.eval (.tmp 22) = .int .i64 q := hn.2.1
                have h18 : a.eval (.tmp 18) = .bool false := hn.2.2.1
                clear hn
                refine wants_guard (d := 18) rfl rfl h18 ?_
                refine grown_run (v := .bool false) ?_ (Kp.refl _ _) rfl
                obtain ⟨ρ, hρ, hc, hf, hg⟩ := eval_is a
                rw [hρ] at h20 h22 ⊢
                simp [go_sem, h20, h22, hpq]
              refine steps_cons (fun a w hk hn => ?_) ?_
              · have h18 : a.eval (.tmp 18) = .bool false := hn.1
                have h23 : a.eval (.tmp 23) = .bool false := hn.2.1
                clear hn
                refine wants_plain rfl ?_
                exact grown_pick _ _ _ false rfl h18 h23
              refine steps_cons (fun a w hk hn => ?_) ?_
              · have h24 : a.eval (.tmp 24) = .bool false := hn.1
                clear hn
                refine wants_plain rfl ?_
                exact grown_move (.tmp 24) rfl h24
              refine steps_cons (fun a w hk hn => ?_) ?_
              · have h1 : a.eval (.tmp 1) = .slice ax 32 cx := hn.1
                have h25 : a.eval (.tmp 25) = .bool false := hn.2.1
                clear hn
                refine wants_guard (d := 25) rfl rfl h25 ?_
                exact grown_move (.tmp 1) rfl h1
              refine steps_cons (fun a w hk hn => ?_) ?_
              · have h26 : a.eval (.tmp 26) = .slice ax 32 cx := hn.1
                have h25 : a.eval (.tmp 25) = .bool false := hn.2.1
                clear hn
                refine wants_guard (d := 25) rfl rfl h25 ?_
                refine grown_run (v := .int .i64 32) ?_ (Kp.refl _ _) rfl
                obtain ⟨ρ, hρ, hc, hf, hg⟩ := eval_is a
                rw [hρ] at h26 ⊢
                simp [go_sem, h26]
              refine steps_cons (fun a w hk hn => ?_) ?_
              · have h27 : a.eval (.tmp 27) = .int .i64 32 := hn.1
                have h25 : a.eval (.tmp 25) = .bool false := hn.2.1
                clear hn
                refine wants_guard (d := 25) rfl rfl h25 ?_
                refine grown_run (v := .bool false) ?_ (Kp.refl _ _) rfl
                obtain ⟨ρ, hρ, hc, hf, hg⟩ := eval_is a
                rw [hρ] at h27 ⊢
                simp [go_sem, hc, h27]
              refine steps_cons (fun a w hk hn => ?_) ?_
              · have h25 : a.eval (.tmp 25) = .bool false := hn.1
                have h28 : a.eval (.tmp 28) = .bool false := hn.2.1
                clear hn
                refine wants_plain rfl ?_
                exact grown_pick _ _ _ false rfl h25 h28
              refine steps_cons (fun a w hk hn => ?_) ?_
              · have h29 : a.eval (.tmp 29) = .bool false := hn.1
                clear hn
                refine wants_plain rfl ?_
                exact grown_move (.tmp 29) rfl h29
              refine steps_cons (fun a w hk hn => ?_) ?_
              · have h2 : a.eval (.tmp 2) = .pointer (some ⟨g0, 0, none⟩) := hn.1
                have h30 : a.eval (.tmp 30) = .bool false := hn.2.1
                clear hn
                refine wants_guard (d := 30) rfl rfl h30 ?_
                exact grown_fld2 triG (.tmp 2) rfl h2
              refine steps_cons (fun a w hk hn => ?_) ?_
              · have h31 : a.eval (.tmp 31) = .pointer (some ⟨g0, 2, none⟩) := hn.1
                have h30 : a.eval (.tmp 30) = .bool false := hn.2.1
                clear hn
                refine wants_guard (d := 30) rfl rfl h30 ?_
                exact grown_ldl (.tmp 31) rfl 2 _ _ _ h31 (cell_tri ((fun w'' k => unhide HST w'' (unhide HDR w'' k)) w hk)).2.2
              refine steps_cons (fun a w hk hn => ?_) ?_
              · have h32 : a.eval (.tmp 32) = .slice ao N c := hn.1
                have h30 : a.eval (.tmp 30) = .bool false := hn.2.1
                clear hn
                refine wants_guard (d := 30) rfl rfl h30 ?_
                refine grown_run (v := .int .i64 N) ?_ (Kp.refl _ _) rfl
                obtain ⟨ρ, hρ, hc, hf, hg⟩ := eval_is a
                rw [hρ] at h32 ⊢
                simp [go_sem, h32]
              refine steps_cons (fun a w hk hn => ?_) ?_
              · have h2 : a.eval (.tmp 2) = .pointer (some ⟨g0, 0, none⟩) := hn.1
                have h30 : a.eval (.tmp 30) = .bool false := hn.2.1
                clear hn
                refine wants_guard (d := 30) rfl rfl h30 ?_
                exact grown_fld0 triG (.tmp 2) rfl h2
              refine steps_cons (fun a w hk hn => ?_) ?_
              · have h34 : a.eval (.tmp 34) = .pointer (some ⟨g0, 0, none⟩) := hn.1
                have h30 : a.eval (.tmp 30) = .bool false := hn.2.1
                clear hn
                refine wants_guard (d := 30) rfl rfl h30 ?_
                exact grown_ldi (.tmp 34) rfl 0 _ h34 (cell_tri ((fun w'' k => unhide HST w'' (unhide HDR w'' k)) w hk)).1
              refine steps_cons (fun a w hk hn => ?_) ?_
              · have h2 : a.eval (.tmp 2) = .pointer (some ⟨g0, 0, none⟩) := hn.1
                have h30 : a.eval (.tmp 30) = .bool false := hn.2.1
                clear hn
                refine wants_guard (d := 30) rfl rfl h30 ?_
                exact grown_fld1 triG (.tmp 2) rfl h2
              refine steps_cons (fun a w hk hn => ?_) ?_
              · have h36 : a.eval (.tmp 36) = .pointer (some ⟨g0, 1, none⟩) := hn.1
                have h30 : a.eval (.tmp 30) = .bool false := hn.2.1
                clear hn
                refine wants_guard (d := 30) rfl rfl h30 ?_
                exact grown_ldi (.tmp 36) rfl 1 _ h36 (cell_tri ((fun w'' k => unhide HST w'' (unhide HDR w'' k)) w hk)).2.1
              refine steps_cons (fun a w hk hn => ?_) ?_
              · have h35 : a.eval (.tmp 35) = .int .i64 p := hn.1
                have h37 : a.eval (.tmp 37) = .int .i64 q := hn.2.1
                have h30 : a.eval (.tmp 30) = .bool false := hn.2.2.1
                clear hn
                refine wants_guard (d := 30) rfl rfl h30 ?_
                refine grown_call (f := 56) rfl Tryd.func56 (by kernel_rfl) (by kernel_rfl) ?_
                simp only [List.map_toArray, List.map_cons, List.map_nil, h35, h37]
                refine (rlength_any q p N true w (unhide HCN) (by omega) (by omega) (by omega)).mono ?_
                rintro e w' ⟨rfl, rfl⟩
                exact ⟨_, rfl, Kp.refl _ _, rfl⟩
              refine steps_cons (fun a w hk hn => ?_) ?_
              · have h33 : a.eval (.tmp 33) = .int .i64 N := hn.1
                have h38 : a.eval (.tmp 38) = .int .i64 N := hn.2.1
                have h30 : a.eval (.tmp 30) = .bool false := hn.2.2.1
                clear hn
                refine wants_guard (d := 30) rfl rfl h30 ?_
                refine grown_run (v := .bool false) ?_ (Kp.refl _ _) rfl
                obtain ⟨ρ, hρ, hc, hf, hg⟩ := eval_is a
                rw [hρ] at h33 h38 ⊢
                simp [go_sem, h33, h38]
              refine steps_cons (fun a w hk hn => ?_) ?_
              · have h30 : a.eval (.tmp 30) = .bool false := hn.1
                have h39 : a.eval (.tmp 39) = .bool false := hn.2.1
                clear hn
                refine wants_plain rfl ?_
                exact grown_pick _ _ _ false rfl h30 h39
              exact trivial
            intro W1 hkW1
            rintro _ rfl
            rintro _ rfl
            rintro _ rfl
            rintro _ rfl
            rintro _ rfl
            rintro _ rfl
            rintro _ rfl
            rintro _ rfl
            rintro _ rfl
            rintro _ rfl
            rintro _ rfl
            rintro _ rfl
            rintro _ rfl
            rintro _ rfl
            rintro _ rfl
            rintro _ rfl
            rintro _ rfl
            rintro _ rfl
            rintro _ rfl
            rintro _ rfl
            rintro _ rfl
            rintro _ rfl
            rintro _ rfl
            rintro _ rfl
            rintro _ rfl
            rintro _ rfl
            rintro _ rfl
            rintro _ rfl
            rintro _ rfl
            rintro _ rfl
            rintro _ rfl
            rintro _ rfl
            refine fin_nil ?_
            simp only [Act.put, List.set_cons_zero, List.set_cons_succ, List.setIfInBounds_toArray]
            have HKW := hide (unhide HDR W1 hkW1)
            clear hkW1 z0 z1 z2
            obtain ⟨z0, z1, z2⟩ := cell_tri (unhide HST W1 (unhide HKW))
            have HC := hide (rleads_any q (.slice ao N c) (.slice ax 32 cx) ps x p true r1 r2 W1 (unhide HR1) (unhide HR2) (by omega) (by omega) (by omega) (by rw [← unhide HNN]; exact unhide HCN) (unhide HLL W1 (unhide HKW)) (unhide HPM) (unhide HSL W1 (unhide HKW)) (unhide HBX) (by rw [← unhide HNX]))
            go_wp2_with fail
            refine (unhide HC).mono ?_
            rintro ee w3 ⟨a3, m3, c3, a4, m4, c4, rfl, S3, S4, K3⟩
            have HS3 := hide S3
            have HS4 := hide S4
            have HK3 := hide (((unhide HK1).trans (unhide HKW)).trans K3)
            clear S3 S4 K3 HC z0 z1 z2
            go_wp2_with fail
            go_ret3
            exact ⟨a3, m3, c3, a4, m4, c4, rfl, by rw [(unhide HRV).1]; exact unhide HS3, by rw [(unhide HRV).2]; exact unhide HS4, unhide HK3⟩
          · have HOK : Hid (ldsOk p q ps x = false) := ldsOk_not (fun h => hcnt (by rw [unhide HNN]; exact h.2.2.2))
            rw [unhide HOK]
            obtain ⟨cn, hcn⟩ : ∃ cn, cn = lenP p q true := ⟨_, rfl⟩
            have HCN := hide hcn
            have hne : ¬ (N : Int) = (cn : Int) := by rw [hcn]; omega
            clear hcn hcnt
            have HRR : Hid (∀ w', LcM ps (.slice ao N c) w' → Calls Tryd.prog 34 #[.slice ao N c] w' fun e w'' => e = .returned (.bool true) ∧ w'' = w') := fun w' h => by have := prright_any _ ps w' h; rw [hr] at this; exact this
            obtain ⟨w1, hw1⟩ : ∃ w1, w1 = w.alloc ob := ⟨_, rfl⟩
            obtain ⟨g0, hg0⟩ : ∃ g0, g0 = w.heap.size := ⟨_, rfl⟩
            rw [← hw1] at HK1 HST HLL HSL
            rw [← hg0] at HST
            rw [hob] at hw1
            obtain ⟨z0, z1, z2⟩ := cell_tri (unhide HST w1 (Kp.refl _ _))
            have HDR : Hid (∀ w', Kp [] w1.drew w' → Kp [] w1 w') := fun w' k => (kp_drew w1).trans k
            clear hr hob
            go_enter Tryd.func39, Tryd.ntmps39
            go_wp2_with fail
            rw [← hw1, ← hg0]
            clear hw1 hg0
            refine region_grow Tryd.mixed [Is (.pointer (some ⟨g0, 2, none⟩)), Is (.slice ao N c), Is (.bool true), Is (.bool false), Is (.bool false), Is (.pointer (some ⟨g0, 0, none⟩)), Is (.int .i64 p), Is (.bool false), Is (.bool false), Is (.bool false), Is (.pointer (some ⟨g0, 0, none⟩)), Is (.int .i64 p), Is (.pointer (some ⟨g0, 1, none⟩)), Is (.int .i64 q), Is (.bool false), Is (.bool false), Is (.bool false), Is (.slice ax 32 cx), Is (.int .i64 32), Is (.bool false), Is (.bool false), Is (.bool false), Is (.pointer (some ⟨g0, 2, none⟩)), Is (.slice ao N c), Is (.int .i64 N), Is (.pointer (some ⟨g0, 0, none⟩)), Is (.int .i64 p), Is (.pointer (some ⟨g0, 1, none⟩)), Is (.int .i64 q), Is (.int .i64 cn), Is (.bool true), Is (.bool true)] [[(2, none)], [(9, some 0)], [(10, some 1)], [(11, some 2)], [(12, some 3)], [(2, none), (13, some 4)], [(14, some 5), (13, some 4)], [(15, some 6), (13, some 4)], [(13, some 4), (16, some 7)], [(17, some 8)], [(2, none), (18, some 9)], [(19, some 10), (18, some 9)], [(2, none), (18, some 9)], [(21, some 12), (18, some 9)], [(20, some 11), (22, some 13), (18, some 9)], [(18, some 9), (23, some 14)], [(24, some 15)], [(1, none), (25, some 16)], [(26, some 17), (25, some 16)], [(27, some 18), (25, some 16)], [(25, some 16), (28, some 19)], [(29, some 20)], [(2, none), (30, some 21)], [(31, some 22), (30, some 21)], [(32, some 23), (30, some 21)], [(2, none), (30, some 21)], [(34, some 25), (30, some 21)], [(2, none), (30, some 21)], [(36, some 27), (30, some 21)], [(35, some 26), (37, some 28), (30, some 21)], [(33, some 24), (38, some 29), (30, some 21)], [(30, some 21), (39, some 30)]] (by kernel_rfl) ?_ ?_ ?_
            · simp only [List.mem_cons, List.not_mem_nil, or_false]
              intro R hR
              rcases hR with rfl | rfl | rfl | rfl | rfl | rfl | rfl | rfl | rfl | rfl | rfl | rfl | rfl | rfl | rfl | rfl | rfl | rfl | rfl | rfl | rfl | rfl | rfl | rfl | rfl | rfl | rfl | rfl | rfl | rfl | rfl | rfl <;> first | exact stable_is _
            · refine steps_cons (fun a w hk hn => ?_) ?_
              · have h2 : a.eval (.tmp 2) = .pointer (some ⟨g0, 0, none⟩) := hn.1
                clear hn
                refine wants_plain rfl ?_
                exact grown_fld2 triG (.tmp 2) rfl h2
              refine steps_cons (fun a w hk hn => ?_) ?_
              · have h9 : a.eval (.tmp 9) = .pointer (some ⟨g0, 2, none⟩) := hn.1
                clear hn
                refine wants_plain rfl ?_
                exact grown_ldl (.tmp 9) rfl 2 _ _ _ h9 (cell_tri ((fun w'' k => unhide HST w'' (unhide HDR w'' k)) w hk)).2.2
              refine steps_cons (fun a w hk hn => ?_) ?_
              · have h10 : a.eval (.tmp 10) = .slice ao N c := hn.1
                clear hn
                refine wants_plain rfl ?_
                refine grown_call (f := 34) rfl Tryd.func34 (by kernel_rfl) (by kernel_rfl) ?_
                simp only [List.map_toArray, List.map_cons, List.map_nil, h10]
                refine (unhide HRR w (unhide HLL w (unhide HDR w hk))).mono ?_
                rintro e w' ⟨rfl, rfl⟩
                exact ⟨_, rfl, Kp.refl _ _, rfl⟩
              refine steps_cons (fun a w hk hn => ?_) ?_
              · have h11 : a.eval (.tmp 11) = .bool true := hn.1
                clear hn
                refine wants_plain rfl ?_
                refine grown_run (v := .bool false) ?_ (Kp.refl _ _) rfl
                obtain ⟨ρ, hρ, hc, hf, hg⟩ := eval_is a
                rw [hρ] at h11 ⊢
                simp [go_sem, h11]
              refine steps_cons (fun a w hk hn => ?_) ?_
              · have h12 : a.eval (.tmp 12) = .bool false := hn.1
                clear hn
                refine wants_plain rfl ?_
                exact grown_move (.tmp 12) rfl h12
              refine steps_cons (fun a w hk hn => ?_) ?_
              · have h2 : a.eval (.tmp 2) = .pointer (some ⟨g0, 0, none⟩) := hn.1
                have h13 : a.eval (.tmp 13) = .bool false := hn.2.1
                clear hn
                refine wants_guard (d := 13) rfl rfl h13 ?_
                exact grown_fld0 triG (.tmp 2) rfl h2
              refine steps_cons (fun a w hk hn => ?_) ?_
              · have h14 : a.eval (.tmp 14) = .pointer (some ⟨g0, 0, none⟩) := hn.1
                have h13 : a.eval (.tmp 13) = .bool false := hn.2.1
                clear hn
                refine wants_guard (d := 13) rfl rfl h13 ?_
                exact grown_ldi (.tmp 14) rfl 0 _ h14 (cell_tri ((fun w'' k => unhide HST w'' (unhide HDR w'' k)) w hk)).1
              refine steps_cons (fun a w hk hn => ?_) ?_
              · have h15 : a.eval (.tmp 15) = .int .i64 p := hn.1
                have h13 : a.eval (.tmp 13) = .bool false := hn.2.1
                clear hn
                refine wants_guard (d := 13) rfl rfl h13 ?_
                refine grown_run (v := .bool false) ?_ (Kp.refl _ _) rfl
                obtain ⟨ρ, hρ, hc, hf, hg⟩ := eval_is a
                rw [hρ] at h15 ⊢
                simp [go_sem, hc, h15, h0q]
              refine steps_cons (fun a w hk hn => ?_) ?_
              · have h13 : a.eval (.tmp 13) = .bool false := hn.1
                have h16 : a.eval (.tmp 16) = .bool false := hn.2.1
                clear hn
                refine wants_plain rfl ?_
                exact grown_pick _ _ _ false rfl h13 h16
              refine steps_cons (fun a w hk hn => ?_) ?_
              · have h17 : a.eval (.tmp 17) = .bool false := hn.1
                clear hn
                refine wants_plain rfl ?_
                exact grown_move (.tmp 17) rfl h17
              refine steps_cons (fun a w hk hn => ?_) ?_
              · have h2 : a.eval (.tmp 2) = .pointer (some ⟨g0, 0, none⟩) := hn.1
                have h18 : a.eval (.tmp 18) = .bool false := hn.2.1
                clear hn
                refine wants_guard (d := 18) rfl rfl h18 ?_
                exact grown_fld0 triG (.tmp 2) rfl h2
              refine steps_cons (fun a w hk hn => ?_) ?_
              · have h19 : a.eval (.tmp 19) = .pointer (some ⟨g0, 0, none⟩) := hn.1
                have h18 : a.eval (.tmp 18) = .bool false := hn.2.1
                clear hn
                refine wants_guard (d := 18) rfl rfl h18 ?_
                exact grown_ldi (.tmp 19) rfl 0 _ h19 (cell_tri ((fun w'' k => unhide HST w'' (unhide HDR w'' k)) w hk)).1
              refine steps_cons (fun a w hk hn => ?_) ?_
              · have h2 : a.eval (.tmp 2) = .pointer (some ⟨g0, 0, none⟩) := hn.1
                have h18 : a.eval (.tmp 18) = .bool false := hn.2.1
                clear hn
                refine wants_guard (d := 18) rfl rfl h18 ?_
                exact grown_fld1 triG (.tmp 2) rfl h2
              refine steps_cons (fun a w hk hn => ?_) ?_
              · have h21 : a.eval (.tmp 21) = .pointer (some ⟨g0, 1, none⟩) := hn.1
                have h18 : a.eval (.tmp 18) = .bool false := hn.2.1
                clear hn
                refine wants_guard (d := 18) rfl rfl h18 ?_
                exact grown_ldi (.tmp 21) rfl 1 _ h21 (cell_tri ((fun w'' k => unhide HST w'' (unhide HDR w'' k)) w hk)).2.1
              refine steps_cons (fun a w hk hn => ?_) ?_
              · have h20 : a.eval (.tmp 20) = .int .i64 p := hn.1
                have h22 : a.eval (.tmp 22) = .int .i64 q := hn.2.1
                have h18 : a.eval (.tmp 18) = .bool false := hn.2.2.1
                clear hn
                refine wants_guard (d := 18) rfl rfl h18 ?_
                refine grown_run (v := .bool false) ?_ (Kp.refl _ _) rfl
                obtain ⟨ρ, hρ, hc, hf, hg⟩ := eval_is a
                rw [hρ] at h20 h22 ⊢
                simp [go_sem, h20, h22, hpq]
              refine steps_cons (fun a w hk hn => ?_) ?_
              · have h18 : a.eval (.tmp 18) = .bool false := hn.1
                have h23 : a.eval (.tmp 23) = .bool false := hn.2.1
                clear hn
                refine wants_plain rfl ?_
                exact grown_pick _ _ _ false rfl h18 h23
              refine steps_cons (fun a w hk hn => ?_) ?_
              · have h24 : a.eval (.tmp 24) = .bool false := hn.1
                clear hn
                refine wants_plain rfl ?_
                exact grown_move (.tmp 24) rfl h24
              refine steps_cons (fun a w hk hn => ?_) ?_
              · have h1 : a.eval (.tmp 1) = .slice ax 32 cx := hn.1
                have h25 : a.eval (.tmp 25) = .bool false := hn.2.1
                clear hn
                refine wants_guard (d := 25) rfl rfl h25 ?_
                exact grown_move (.tmp 1) rfl h1
              refine steps_cons (fun a w hk hn => ?_) ?_
              · have h26 : a.eval (.tmp 26) = .slice ax 32 cx := hn.1
                have h25 : a.eval (.tmp 25) = .bool false := hn.2.1
                clear hn
                refine wants_guard (d := 25) rfl rfl h25 ?_
                refine grown_run (v := .int .i64 32) ?_ (Kp.refl _ _) rfl
                obtain ⟨ρ, hρ, hc, hf, hg⟩ := eval_is a
                rw [hρ] at h26 ⊢
                simp [go_sem, h26]
              refine steps_cons (fun a w hk hn => ?_) ?_
              · have h27 : a.eval (.tmp 27) = .int .i64 32 := hn.1
                have h25 : a.eval (.tmp 25) = .bool false := hn.2.1
                clear hn
                refine wants_guard (d := 25) rfl rfl h25 ?_
                refine grown_run (v := .bool false) ?_ (Kp.refl _ _) rfl
                obtain ⟨ρ, hρ, hc, hf, hg⟩ := eval_is a
                rw [hρ] at h27 ⊢
                simp [go_sem, hc, h27]
              refine steps_cons (fun a w hk hn => ?_) ?_
              · have h25 : a.eval (.tmp 25) = .bool false := hn.1
                have h28 : a.eval (.tmp 28) = .bool false := hn.2.1
                clear hn
                refine wants_plain rfl ?_
                exact grown_pick _ _ _ false rfl h25 h28
              refine steps_cons (fun a w hk hn => ?_) ?_
              · have h29 : a.eval (.tmp 29) = .bool false := hn.1
                clear hn
                refine wants_plain rfl ?_
                exact grown_move (.tmp 29) rfl h29
              refine steps_cons (fun a w hk hn => ?_) ?_
              · have h2 : a.eval (.tmp 2) = .pointer (some ⟨g0, 0, none⟩) := hn.1
                have h30 : a.eval (.tmp 30) = .bool false := hn.2.1
                clear hn
                refine wants_guard (d := 30) rfl rfl h30 ?_
                exact grown_fld2 triG (.tmp 2) rfl h2
              refine steps_cons (fun a w hk hn => ?_) ?_
              · have h31 : a.eval (.tmp 31) = .pointer (some ⟨g0, 2, none⟩) := hn.1
                have h30 : a.eval (.tmp 30) = .bool false := hn.2.1
                clear hn
                refine wants_guard (d := 30) rfl rfl h30 ?_
                exact grown_ldl (.tmp 31) rfl 2 _ _ _ h31 (cell_tri ((fun w'' k => unhide HST w'' (unhide HDR w'' k)) w hk)).2.2
              refine steps_cons (fun a w hk hn => ?_) ?_
              · have h32 : a.eval (.tmp 32) = .slice ao N c := hn.1
                have h30 : a.eval (.tmp 30) = .bool false := hn.2.1
                clear hn
                refine wants_guard (d := 30) rfl rfl h30 ?_
                refine grown_run (v := .int .i64 N) ?_ (Kp.refl _ _) rfl
                obtain ⟨ρ, hρ, hc, hf, hg⟩ := eval_is a
                rw [hρ] at h32 ⊢
                simp [go_sem, h32]
              refine steps_cons (fun a w hk hn => ?_) ?_
              · have h2 : a.eval (.tmp 2) = .pointer (some ⟨g0, 0, none⟩) := hn.1
                have h30 : a.eval (.tmp 30) = .bool false := hn.2.1
                clear hn
                refine wants_guard (d := 30) rfl rfl h30 ?_
                exact grown_fld0 triG (.tmp 2) rfl h2
              refine steps_cons (fun a w hk hn => ?_) ?_
              · have h34 : a.eval (.tmp 34) = .pointer (some ⟨g0, 0, none⟩) := hn.1
                have h30 : a.eval (.tmp 30) = .bool false := hn.2.1
                clear hn
                refine wants_guard (d := 30) rfl rfl h30 ?_
                exact grown_ldi (.tmp 34) rfl 0 _ h34 (cell_tri ((fun w'' k => unhide HST w'' (unhide HDR w'' k)) w hk)).1
              refine steps_cons (fun a w hk hn => ?_) ?_
              · have h2 : a.eval (.tmp 2) = .pointer (some ⟨g0, 0, none⟩) := hn.1
                have h30 : a.eval (.tmp 30) = .bool false := hn.2.1
                clear hn
                refine wants_guard (d := 30) rfl rfl h30 ?_
                exact grown_fld1 triG (.tmp 2) rfl h2
              refine steps_cons (fun a w hk hn => ?_) ?_
              · have h36 : a.eval (.tmp 36) = .pointer (some ⟨g0, 1, none⟩) := hn.1
                have h30 : a.eval (.tmp 30) = .bool false := hn.2.1
                clear hn
                refine wants_guard (d := 30) rfl rfl h30 ?_
                exact grown_ldi (.tmp 36) rfl 1 _ h36 (cell_tri ((fun w'' k => unhide HST w'' (unhide HDR w'' k)) w hk)).2.1
              refine steps_cons (fun a w hk hn => ?_) ?_
              · have h35 : a.eval (.tmp 35) = .int .i64 p := hn.1
                have h37 : a.eval (.tmp 37) = .int .i64 q := hn.2.1
                have h30 : a.eval (.tmp 30) = .bool false := hn.2.2.1
                clear hn
                refine wants_guard (d := 30) rfl rfl h30 ?_
                refine grown_call (f := 56) rfl Tryd.func56 (by kernel_rfl) (by kernel_rfl) ?_
                simp only [List.map_toArray, List.map_cons, List.map_nil, h35, h37]
                refine (rlength_any q p cn true w (unhide HCN) (by omega) (by omega) (by omega)).mono ?_
                rintro e w' ⟨rfl, rfl⟩
                exact ⟨_, rfl, Kp.refl _ _, rfl⟩
              refine steps_cons (fun a w hk hn => ?_) ?_
              · have h33 : a.eval (.tmp 33) = .int .i64 N := hn.1
                have h38 : a.eval (.tmp 38) = .int .i64 cn := hn.2.1
                have h30 : a.eval (.tmp 30) = .bool false := hn.2.2.1
                clear hn
                refine wants_guard (d := 30) rfl rfl h30 ?_
                refine grown_run (v := .bool true) ?_ (Kp.refl _ _) rfl
                obtain ⟨ρ, hρ, hc, hf, hg⟩ := eval_is a
                rw [hρ] at h33 h38 ⊢
                simp [go_sem, h33, h38, hne]
              refine steps_cons (fun a w hk hn => ?_) ?_
              · have h30 : a.eval (.tmp 30) = .bool false := hn.1
                have h39 : a.eval (.tmp 39) = .bool true := hn.2.1
                clear hn
                refine wants_plain rfl ?_
                exact grown_pick _ _ _ false rfl h30 h39
              exact trivial
            intro W1 hkW1
            rintro _ rfl
            rintro _ rfl
            rintro _ rfl
            rintro _ rfl
            rintro _ rfl
            rintro _ rfl
            rintro _ rfl
            rintro _ rfl
            rintro _ rfl
            rintro _ rfl
            rintro _ rfl
            rintro _ rfl
            rintro _ rfl
            rintro _ rfl
            rintro _ rfl
            rintro _ rfl
            rintro _ rfl
            rintro _ rfl
            rintro _ rfl
            rintro _ rfl
            rintro _ rfl
            rintro _ rfl
            rintro _ rfl
            rintro _ rfl
            rintro _ rfl
            rintro _ rfl
            rintro _ rfl
            rintro _ rfl
            rintro _ rfl
            rintro _ rfl
            rintro _ rfl
            rintro _ rfl
            refine fin_nil ?_
            simp only [Act.put, List.set_cons_zero, List.set_cons_succ, List.setIfInBounds_toArray]
            have HKW := hide (unhide HDR W1 hkW1)
            clear hkW1 z0 z1 z2
            go_wp2_with fail
            go_ret3
            exact ⟨none, 0, 0, none, 0, 0, rfl, by rw [(ldsR_no (unhide HOK)).1]; exact Sl.nil _, by rw [(ldsR_no (unhide HOK)).2]; exact Sl.nil _, ((unhide HK1).trans (unhide HKW))⟩
        · have HOK : Hid (ldsOk p q ps x = false) := ldsOk_not (fun h => hx (by rw [unhide HNX]; exact h.2.1))
          rw [unhide HOK]
          have hx2 : ¬ (nx : Int) = 32 := by omega
          have HRR : Hid (∀ w', LcM ps (.slice ao N c) w' → Calls Tryd.prog 34 #[.slice ao N c] w' fun e w'' => e = .returned (.bool true) ∧ w'' = w') := fun w' h => by have := prright_any _ ps w' h; rw [hr] at this; exact this
          obtain ⟨w1, hw1⟩ : ∃ w1, w1 = w.alloc ob := ⟨_, rfl⟩
          obtain ⟨g0, hg0⟩ : ∃ g0, g0 = w.heap.size := ⟨_, rfl⟩
          rw [← hw1] at HK1 HST HLL HSL
          rw [← hg0] at HST
          rw [hob] at hw1
          obtain ⟨z0, z1, z2⟩ := cell_tri (unhide HST w1 (Kp.refl _ _))
          have HDR : Hid (∀ w', Kp [] w1.drew w' → Kp [] w1 w') := fun w' k => (kp_drew w1).trans k
          clear hr hob hx
          go_enter Tryd.func39, Tryd.ntmps39
          go_wp2_with fail
          rw [← hw1, ← hg0]
          clear hw1 hg0
          refine region_grow Tryd.mixed [Is (.pointer (some ⟨g0, 2, none⟩)), Is (.slice ao N c), Is (.bool true), Is (.bool false), Is (.bool false), Is (.pointer (some ⟨g0, 0, none⟩)), Is (.int .i64 p), Is (.bool false), Is (.bool false), Is (.bool false), Is (.pointer (some ⟨g0, 0, none⟩)), Is (.int .i64 p), Is (.pointer (some ⟨g0, 1, none⟩)), Is (.int .i64 q), Is (.bool false), Is (.bool false), Is (.bool false), Is (.slice ax nx cx), Is (.int .i64 nx), Is (.bool true), Is (.bool true), Is (.bool true), Is (undef), Is (undef), Is (undef), Is (undef), Is (undef), Is (undef), Is (undef), Is (undef), Is (undef), Is (.bool true)] [[(2, none)], [(9, some 0)], [(10, some 1)], [(11, some 2)], [(12, some 3)], [(2, none), (13, some 4)], [(14, some 5), (13, some 4)], [(15, some 6), (13, some 4)], [(13, some 4), (16, some 7)], [(17, some 8)], [(2, none), (18, some 9)], [(19, some 10), (18, some 9)], [(2, none), (18, some 9)], [(21, some 12), (18, some 9)], [(20, some 11), (22, some 13), (18, some 9)], [(18, some 9), (23, some 14)], [(24, some 15)], [(1, none), (25, some 16)], [(26, some 17), (25, some 16)], [(27, some 18), (25, some 16)], [(25, some 16), (28, some 19)], [(29, some 20)], [(2, none), (30, some 21)], [(31, some 22), (30, some 21)], [(32, some 23), (30, some 21)], [(2, none), (30, some 21)], [(34, some 25), (30, some 21)], [(2, none), (30, some 21)], [(36, some 27), (30, some 21)], [(35, some 26), (37, some 28), (30, some 21)], [(33, some 24), (38, some 29), (30, some 21)], [(30, some 21), (39, some 30)]] (by kernel_rfl) ?_ ?_ ?_
          · simp only [List.mem_cons, List.not_mem_nil, or_false]
            intro R hR
            rcases hR with rfl | rfl | rfl | rfl | rfl | rfl | rfl | rfl | rfl | rfl | rfl | rfl | rfl | rfl | rfl | rfl | rfl | rfl | rfl | rfl | rfl | rfl | rfl | rfl | rfl | rfl | rfl | rfl | rfl | rfl | rfl | rfl <;> first | exact stable_is _
          · refine steps_cons (fun a w hk hn => ?_) ?_
            · have h2 : a.eval (.tmp 2) = .pointer (some ⟨g0, 0, none⟩) := hn.1
              clear hn
              refine wants_plain rfl ?_
              exact grown_fld2 triG (.tmp 2) rfl h2
            refine steps_cons (fun a w hk hn => ?_) ?_
            · have h9 : a.eval (.tmp 9) = .pointer (some ⟨g0, 2, none⟩) := hn.1
              clear hn
              refine wants_plain rfl ?_
              exact grown_ldl (.tmp 9) rfl 2 _ _ _ h9 (cell_tri ((fun w'' k => unhide HST w'' (unhide HDR w'' k)) w hk)).2.2
            refine steps_cons (fun a w hk hn => ?_) ?_
            · have h10 : a.eval (.tmp 10) = .slice ao N c := hn.1
              clear hn
              refine wants_plain rfl ?_
              refine grown_call (f := 34) rfl Tryd.func34 (by kernel_rfl) (by kernel_rfl) ?_
              simp only [List.map_toArray, List.map_cons, List.map_nil, h10]
              refine (unhide HRR w (unhide HLL w (unhide HDR w hk))).mono ?_
              rintro e w' ⟨rfl, rfl⟩
              exact ⟨_, rfl, Kp.refl _ _, rfl⟩
            refine steps_cons (fun a w hk hn => ?_) ?_
            · have h11 : a.eval (.tmp 11) = .bool true := hn.1
              clear hn
              refine wants_plain rfl ?_
              refine grown_run (v := .bool false) ?_ (Kp.refl _ _) rfl
              obtain ⟨ρ, hρ, hc, hf, hg⟩ := eval_is a
              rw [hρ] at h11 ⊢
              simp [go_sem, h11]
            refine steps_cons (fun a w hk hn => ?_) ?_
            · have h12 : a.eval (.tmp 12) = .bool false := hn.1
              clear hn
              refine wants_plain rfl ?_
              exact grown_move (.tmp 12) rfl h12
            refine steps_cons (fun a w hk hn => ?_) ?_
            · have h2 : a.eval (.tmp 2) = .pointer (some ⟨g0, 0, none⟩) := hn.1
              have h13 : a.eval (.tmp 13) = .bool false := hn.2.1
              clear hn
              refine wants_guard (d := 13) rfl rfl h13 ?_
              exact grown_fld0 triG (.tmp 2) rfl h2
            refine steps_cons (fun a w hk hn => ?_) ?_
            · have h14 : a.eval (.tmp 14) = .pointer (some ⟨g0, 0, none⟩) := hn.1
              have h13 : a.eval (.tmp 13) = .bool false := hn.2.1
              clear hn
              refine wants_guard (d := 13) rfl rfl h13 ?_
              exact grown_ldi (.tmp 14) rfl 0 _ h14 (cell_tri ((fun w'' k => unhide HST w'' (unhide HDR w'' k)) w hk)).1
            refine steps_cons (fun a w hk hn => ?_) ?_
            · have h15 : a.eval (.tmp 15) = .int .i64 p := hn.1
              have h13 : a.eval (.tmp 13) = .bool false := hn.2.1
              clear hn
              refine wants_guard (d := 13) rfl rfl h13 ?_
              refine grown_run (v := .bool false) ?_ (Kp.refl _ _) rfl
              obtain ⟨ρ, hρ, hc, hf, hg⟩ := eval_is a
              rw [hρ] at h15 ⊢
              simp [go_sem, hc, h15, h0q]
            refine steps_cons (fun a w hk hn => ?_) ?_
            · have h13 : a.eval (.tmp 13) = .bool false := hn.1
              have h16 : a.eval (.tmp 16) = .bool false := hn.2.1
              clear hn
              refine wants_plain rfl ?_
              exact grown_pick _ _ _ false rfl h13 h16
            refine steps_cons (fun a w hk hn => ?_) ?_
            · have h17 : a.eval (.tmp 17) = .bool false := hn.1
              clear hn
              refine wants_plain rfl ?_
              exact grown_move (.tmp 17) rfl h17
            refine steps_cons (fun a w hk hn => ?_) ?_
            · have h2 : a.eval (.tmp 2) = .pointer (some ⟨g0, 0, none⟩) := hn.1
              have h18 : a.eval (.tmp 18) = .bool false := hn.2.1
              clear hn
              refine wants_guard (d := 18) rfl rfl h18 ?_
              exact grown_fld0 triG (.tmp 2) rfl h2
            refine steps_cons (fun a w hk hn => ?_) ?_
            · have h19 : a.eval (.tmp 19) = .pointer (some ⟨g0, 0, none⟩) := hn.1
              have h18 : a.eval (.tmp 18) = .bool false := hn.2.1
              clear hn
              refine wants_guard (d := 18) rfl rfl h18 ?_
              exact grown_ldi (.tmp 19) rfl 0 _ h19 (cell_tri ((fun w'' k => unhide HST w'' (unhide HDR w'' k)) w hk)).1
            refine steps_cons (fun a w hk hn => ?_) ?_
            · have h2 : a.eval (.tmp 2) = .pointer (some ⟨g0, 0, none⟩) := hn.1
              have h18 : a.eval (.tmp 18) = .bool false := hn.2.1
              clear hn
              refine wants_guard (d := 18) rfl rfl h18 ?_
              exact grown_fld1 triG (.tmp 2) rfl h2
            refine steps_cons (fun a w hk hn => ?_) ?_
            · have h21 : a.eval (.tmp 21) = .pointer (some ⟨g0, 1, none⟩) := hn.1
              have h18 : a.eval (.tmp 18) = .bool false := hn.2.1
              clear hn
              refine wants_guard (d := 18) rfl rfl h18 ?_
              exact grown_ldi (.tmp 21) rfl 1 _ h21 (cell_tri ((fun w'' k => unhide HST w'' (unhide HDR w'' k)) w hk)).2.1
            refine steps_cons (fun a w hk hn => ?_) ?_
            · have h20 : a.eval (.tmp 20) = .int .i64 p := hn.1
              have h22 : a.eval (.tmp 22) = .int .i64 q := hn.2.1
              have h18 : a.eval (.tmp 18) = .bool false := hn.2.2.1
              clear hn
              refine wants_guard (d := 18) rfl rfl h18 ?_
              refine grown_run (v := .bool false) ?_ (Kp.refl _ _) rfl
              obtain ⟨ρ, hρ, hc, hf, hg⟩ := eval_is a
              rw [hρ] at h20 h22 ⊢
              simp [go_sem, h20, h22, hpq]
            refine steps_cons (fun a w hk hn => ?_) ?_
            · have h18 : a.eval (.tmp 18) = .bool false := hn.1
              have h23 : a.eval (.tmp 23) = .bool false := hn.2.1
              clear hn
              refine wants_plain rfl ?_
              exact grown_pick _ _ _ false rfl h18 h23
            refine steps_cons (fun a w hk hn => ?_) ?_
            · have h24 : a.eval (.tmp 24) = .bool false := hn.1
              clear hn
              refine wants_plain rfl ?_
              exact grown_move (.tmp 24) rfl h24
            refine steps_cons (fun a w hk hn => ?_) ?_
            · have h1 : a.eval (.tmp 1) = .slice ax nx cx := hn.1
              have h25 : a.eval (.tmp 25) = .bool false := hn.2.1
              clear hn
              refine wants_guard (d := 25) rfl rfl h25 ?_
              exact grown_move (.tmp 1) rfl h1
            refine steps_cons (fun a w hk hn => ?_) ?_
            · have h26 : a.eval (.tmp 26) = .slice ax nx cx := hn.1
              have h25 : a.eval (.tmp 25) = .bool false := hn.2.1
              clear hn
              refine wants_guard (d := 25) rfl rfl h25 ?_
              refine grown_run (v := .int .i64 nx) ?_ (Kp.refl _ _) rfl
              obtain ⟨ρ, hρ, hc, hf, hg⟩ := eval_is a
              rw [hρ] at h26 ⊢
              simp [go_sem, h26]
            refine steps_cons (fun a w hk hn => ?_) ?_
            · have h27 : a.eval (.tmp 27) = .int .i64 nx := hn.1
              have h25 : a.eval (.tmp 25) = .bool false := hn.2.1
              clear hn
              refine wants_guard (d := 25) rfl rfl h25 ?_
              refine grown_run (v := .bool true) ?_ (Kp.refl _ _) rfl
              obtain ⟨ρ, hρ, hc, hf, hg⟩ := eval_is a
              rw [hρ] at h27 ⊢
              simp [go_sem, hc, h27, hx2]
            refine steps_cons (fun a w hk hn => ?_) ?_
            · have h25 : a.eval (.tmp 25) = .bool false := hn.1
              have h28 : a.eval (.tmp 28) = .bool true := hn.2.1
              clear hn
              refine wants_plain rfl ?_
              exact grown_pick _ _ _ false rfl h25 h28
            refine steps_cons (fun a w hk hn => ?_) ?_
            · have h29 : a.eval (.tmp 29) = .bool true := hn.1
              clear hn
              refine wants_plain rfl ?_
              exact grown_move (.tmp 29) rfl h29
            refine steps_cons (fun a w hk hn => ?_) ?_
            · have h2 : a.eval (.tmp 2) = .pointer (some ⟨g0, 0, none⟩) := hn.1
              have h30 : a.eval (.tmp 30) = .bool true := hn.2.1
              clear hn
              exact wants_not (d := 30) rfl rfl h30 rfl
            refine steps_cons (fun a w hk hn => ?_) ?_
            · have h31 : a.eval (.tmp 31) = undef := hn.1
              have h30 : a.eval (.tmp 30) = .bool true := hn.2.1
              clear hn
              exact wants_not (d := 30) rfl rfl h30 rfl
            refine steps_cons (fun a w hk hn => ?_) ?_
            · have h32 : a.eval (.tmp 32) = undef := hn.1
              have h30 : a.eval (.tmp 30) = .bool true := hn.2.1
              clear hn
              exact wants_not (d := 30) rfl rfl h30 rfl
            refine steps_cons (fun a w hk hn => ?_) ?_
            · have h2 : a.eval (.tmp 2) = .pointer (some ⟨g0, 0, none⟩) := hn.1
              have h30 : a.eval (.tmp 30) = .bool true := hn.2.1
              clear hn
              exact wants_not (d := 30) rfl rfl h30 rfl
            refine steps_cons (fun a w hk hn => ?_) ?_
            · have h34 : a.eval (.tmp 34) = undef := hn.1
              have h30 : a.eval (.tmp 30) = .bool true := hn.2.1
              clear hn
              exact wants_not (d := 30) rfl rfl h30 rfl
            refine steps_cons (fun a w hk hn => ?_) ?_
            · have h2 : a.eval (.tmp 2) = .pointer (some ⟨g0, 0, none⟩) := hn.1
              have h30 : a.eval (.tmp 30) = .bool true := hn.2.1
              clear hn
              exact wants_not (d := 30) rfl rfl h30 rfl
            refine steps_cons (fun a w hk hn => ?_) ?_
            · have h36 : a.eval (.tmp 36) = undef := hn.1
              have h30 : a.eval (.tmp 30) = .bool true := hn.2.1
              clear hn
              exact wants_not (d := 30) rfl rfl h30 rfl
            refine steps_cons (fun a w hk hn => ?_) ?_
            · have h35 : a.eval (.tmp 35) = undef := hn.1
              have h37 : a.eval (.tmp 37) = undef := hn.2.1
              have h30 : a.eval (.tmp 30) = .bool true := hn.2.2.1
              clear hn
              exact wants_not (d := 30) rfl rfl h30 rfl
            refine steps_cons (fun a w hk hn => ?_) ?_
            · have h33 : a.eval (.tmp 33) = undef := hn.1
              have h38 : a.eval (.tmp 38) = undef := hn.2.1
              have h30 : a.eval (.tmp 30) = .bool true := hn.2.2.1
              clear hn
              exact wants_not (d := 30) rfl rfl h30 rfl
            refine steps_cons (fun a w hk hn => ?_) ?_
            · have h30 : a.eval (.tmp 30) = .bool true := hn.1
              have h39 : a.eval (.tmp 39) = undef := hn.2.1
              clear hn
              refine wants_plain rfl ?_
              exact grown_pick _ _ _ true rfl h30 rfl
            exact trivial
          intro W1 hkW1
          rintro _ rfl
          rintro _ rfl
          rintro _ rfl
          rintro _ rfl
          rintro _ rfl
          rintro _ rfl
          rintro _ rfl
          rintro _ rfl
          rintro _ rfl
          rintro _ rfl
          rintro _ rfl
          rintro _ rfl
          rintro _ rfl
          rintro _ rfl
          rintro _ rfl
          rintro _ rfl
          rintro _ rfl
          rintro _ rfl
          rintro _ rfl
          rintro _ rfl
          rintro _ rfl
          rintro _ rfl
          rintro _ rfl
          rintro _ rfl
          rintro _ rfl
          rintro _ rfl
          rintro _ rfl
          rintro _ rfl
          rintro _ rfl
          rintro _ rfl
          rintro _ rfl
          rintro _ rfl
          refine fin_nil ?_
          simp only [Act.put, List.set_cons_zero, List.set_cons_succ, List.setIfInBounds_toArray]
          have HKW := hide (unhide HDR W1 hkW1)
          clear hkW1 z0 z1 z2
          go_wp2_with fail
          go_ret3
          exact ⟨none, 0, 0, none, 0, 0, rfl, by rw [(ldsR_no (unhide HOK)).1]; exact Sl.nil _, by rw [(ldsR_no (unhide HOK)).2]; exact Sl.nil _, ((unhide HK1).trans (unhide HKW))⟩
  · have hr := Bool.eq_false_iff.2 hr
    have HOK : Hid (ldsOk i n ps x = false) := ldsOk_not (fun h => by rw [hr] at h; cases h.1)
    rw [unhide HOK]
    have HRR : Hid (∀ w', LcM ps (.slice ao N c) w' → Calls Tryd.prog 34 #[.slice ao N c] w' fun e w'' => e = .returned (.bool false) ∧ w'' = w') := fun w' h => by have := prright_any _ ps w' h; rw [hr] at this; exact this
    obtain ⟨w1, hw1⟩ : ∃ w1, w1 = w.alloc ob := ⟨_, rfl⟩
    obtain ⟨g0, hg0⟩ : ∃ g0, g0 = w.heap.size := ⟨_, rfl⟩
    rw [← hw1] at HK1 HST HLL HSL
    rw [← hg0] at HST
    rw [hob] at hw1
    obtain ⟨z0, z1, z2⟩ := cell_tri (unhide HST w1 (Kp.refl _ _))
    have HDR : Hid (∀ w', Kp [] w1.drew w' → Kp [] w1 w') := fun w' k => (kp_drew w1).trans k
    clear hr hob
    go_enter Tryd.func39, Tryd.ntmps39
    go_wp2_with fail
    rw [← hw1, ← hg0]
    clear hw1 hg0
    refine region_grow Tryd.mixed [Is (.pointer (some ⟨g0, 2, none⟩)), Is (.slice ao N c), Is (.bool false), Is (.bool true), Is (.bool true), Is (undef), Is (undef), Is (undef), Is (.bool true), Is (.bool true), Is (undef), Is (undef), Is (undef), Is (undef), Is (undef), Is (.bool true), Is (.bool true), Is (undef), Is (undef), Is (undef), Is (.bool true), Is (.bool true), Is (undef), Is (undef), Is (undef), Is (undef), Is (undef), Is (undef), Is (undef), Is (undef), Is (undef), Is (.bool true)] [[(2, none)], [(9, some 0)], [(10, some 1)], [(11, some 2)], [(12, some 3)], [(2, none), (13, some 4)], [(14, some 5), (13, some 4)], [(15, some 6), (13, some 4)], [(13, some 4), (16, some 7)], [(17, some 8)], [(2, none), (18, some 9)], [(19, some 10), (18, some 9)], [(2, none), (18, some 9)], [(21, some 12), (18, some 9)], [(20, some 11), (22, some 13), (18, some 9)], [(18, some 9), (23, some 14)], [(24, some 15)], [(1, none), (25, some 16)], [(26, some 17), (25, some 16)], [(27, some 18), (25, some 16)], [(25, some 16), (28, some 19)], [(29, some 20)], [(2, none), (30, some 21)], [(31, some 22), (30, some 21)], [(32, some 23), (30, some 21)], [(2, none), (30, some 21)], [(34, some 25), (30, some 21)], [(2, none), (30, some 21)], [(36, some 27), (30, some 21)], [(35, some 26), (37, some 28), (30, some 21)], [(33, some 24), (38, some 29), (30, some 21)], [(30, some 21), (39, some 30)]] (by kernel_rfl) ?_ ?_ ?_
    · simp only [List.mem_cons, List.not_mem_nil, or_false]
      intro R hR
      rcases hR with rfl | rfl | rfl | rfl | rfl | rfl | rfl | rfl | rfl | rfl | rfl | rfl | rfl | rfl | rfl | rfl | rfl | rfl | rfl | rfl | rfl | rfl | rfl | rfl | rfl | rfl | rfl | rfl | rfl | rfl | rfl | rfl <;> first | exact stable_is _
    · refine steps_cons (fun a w hk hn => ?_) ?_
      · have h2 : a.eval (.tmp 2) = .pointer (some ⟨g0, 0, none⟩) := hn.1
        clear hn
        refine wants_plain rfl ?_
        exact grown_fld2 triG (.tmp 2) rfl h2
      refine steps_cons (fun a w hk hn => ?_) ?_
      · have h9 : a.eval (.tmp 9) = .pointer (some ⟨g0, 2, none⟩) := hn.1
        clear hn
        refine wants_plain rfl ?_
        exact grown_ldl (.tmp 9) rfl 2 _ _ _ h9 (cell_tri ((fun w'' k => unhide HST w'' (unhide HDR w'' k)) w hk)).2.2
      refine steps_cons (fun a w hk hn => ?_) ?_
      · have h10 : a.eval (.tmp 10) = .slice ao N c := hn.1
        clear hn
        refine wants_plain rfl ?_
        refine grown_call (f := 34) rfl Tryd.func34 (by kernel_rfl) (by kernel_rfl) ?_
        simp only [List.map_toArray, List.map_cons, List.map_nil, h10]
        refine (unhide HRR w (unhide HLL w (unhide HDR w hk))).mono ?_
        rintro e w' ⟨rfl, rfl⟩
        exact ⟨_, rfl, Kp.refl _ _, rfl⟩
      refine steps_cons (fun a w hk hn => ?_) ?_
      · have h11 : a.eval (.tmp 11) = .bool false := hn.1
        clear hn
        refine wants_plain rfl ?_
        refine grown_run (v := .bool true) ?_ (Kp.refl _ _) rfl
        obtain ⟨ρ, hρ, hc, hf, hg⟩ := eval_is a
        rw [hρ] at h11 ⊢
        simp [go_sem, h11]
      refine steps_cons (fun a w hk hn => ?_) ?_
      · have h12 : a.eval (.tmp 12) = .bool true := hn.1
        clear hn
        refine wants_plain rfl ?_
        exact grown_move (.tmp 12) rfl h12
      refine steps_cons (fun a w hk hn => ?_) ?_
      · have h2 : a.eval (.tmp 2) = .pointer (some ⟨g0, 0, none⟩) := hn.1
        have h13 : a.eval (.tmp 13) = .bool true := hn.2.1
        clear hn
        exact wants_not (d := 13) rfl rfl h13 rfl
      refine steps_cons (fun a w hk hn => ?_) ?_
      · have h14 : a.eval (.tmp 14) = undef := hn.1
        have h13 : a.eval (.tmp 13) = .bool true := hn.2.1
        clear hn
        exact wants_not (d := 13) rfl rfl h13 rfl
      refine steps_cons (fun a w hk hn => ?_) ?_
      · have h15 : a.eval (.tmp 15) = undef := hn.1
        have h13 : a.eval (.tmp 13) = .bool true := hn.2.1
        clear hn
        exact wants_not (d := 13) rfl rfl h13 rfl
      refine steps_cons (fun a w hk hn => ?_) ?_
      · have h13 : a.eval (.tmp 13) = .bool true := hn.1
        have h16 : a.eval (.tmp 16) = undef := hn.2.1
        clear hn
        refine wants_plain rfl ?_
        exact grown_pick _ _ _ true rfl h13 rfl
      refine steps_cons (fun a w hk hn => ?_) ?_
      · have h17 : a.eval (.tmp 17) = .bool true := hn.1
        clear hn
        refine wants_plain rfl ?_
        exact grown_move (.tmp 17) rfl h17
      refine steps_cons (fun a w hk hn => ?_) ?_
      · have h2 : a.eval (.tmp 2) = .pointer (some ⟨g0, 0, none⟩) := hn.1
        have h18 : a.eval (.tmp 18) = .bool true := hn.2.1
        clear hn
        exact wants_not (d := 18) rfl rfl h18 rfl
      refine steps_cons (fun a w hk hn => ?_) ?_
      · have h19 : a.eval (.tmp 19) = undef := hn.1
        have h18 : a.eval (.tmp 18) = .bool true := hn.2.1
        clear hn
        exact wants_not (d := 18) rfl rfl h18 rfl
      refine steps_cons (fun a w hk hn => ?_) ?_
      · have h2 : a.eval (.tmp 2) = .pointer (some ⟨g0, 0, none⟩) := hn.1
        have h18 : a.eval (.tmp 18) = .bool true := hn.2.1
        clear hn
        exact wants_not (d := 18) rfl rfl h18 rfl
      refine steps_cons (fun a w hk hn => ?_) ?_
      · have h21 : a.eval (.tmp 21) = undef := hn.1
        have h18 : a.eval (.tmp 18) = .bool true := hn.2.1
        clear hn
        exact wants_not (d := 18) rfl rfl h18 rfl
      refine steps_cons (fun a w hk hn => ?_) ?_
      · have h20 : a.eval (.tmp 20) = undef := hn.1
        have h22 : a.eval (.tmp 22) = undef := hn.2.1
        have h18 : a.eval (.tmp 18) = .bool true := hn.2.2.1
        clear hn
        exact wants_not (d := 18) rfl rfl h18 rfl
      refine steps_cons (fun a w hk hn => ?_) ?_
      · have h18 : a.eval (.tmp 18) = .bool true := hn.1
        have h23 : a.eval (.tmp 23) = undef := hn.2.1
        clear hn
        refine wants_plain rfl ?_
        exact grown_pick _ _ _ true rfl h18 rfl
      refine steps_cons (fun a w hk hn => ?_) ?_
      · have h24 : a.eval (.tmp 24) = .bool true := hn.1
        clear hn
        refine wants_plain rfl ?_
        exact grown_move (.tmp 24) rfl h24
      refine steps_cons (fun a w hk hn => ?_) ?_
      · have h1 : a.eval (.tmp 1) = .slice ax nx cx := hn.1
        have h25 : a.eval (.tmp 25) = .bool true := hn.2.1
        clear hn
        exact wants_not (d := 25) rfl rfl h25 rfl
      refine steps_cons (fun a w hk hn => ?_) ?_
      · have h26 : a.eval (.tmp 26) = undef := hn.1
        have h25 : a.eval (.tmp 25) = .bool true := hn.2.1
        clear hn
        exact wants_not (d := 25) rfl rfl h25 rfl
      refine steps_cons (fun a w hk hn => ?_) ?_
      · have h27 : a.eval (.tmp 27) = undef := hn.1
        have h25 : a.eval (.tmp 25) = .bool true := hn.2.1
        clear hn
        exact wants_not (d := 25) rfl rfl h25 rfl
      refine steps_cons (fun a w hk hn => ?_) ?_
      · have h25 : a.eval (.tmp 25) = .bool true := hn.1
        have h28 : a.eval (.tmp 28) = undef := hn.2.1
        clear hn
        refine wants_plain rfl ?_
        exact grown_pick _ _ _ true rfl h25 rfl
      refine steps_cons (fun a w hk hn => ?_) ?_
      · have h29 : a.eval (.tmp 29) = .bool true := hn.1
        clear hn
        refine wants_plain rfl ?_
        exact grown_move (.tmp 29) rfl h29
      refine steps_cons (fun a w hk hn => ?_) ?_
      · have h2 : a.eval (.tmp 2) = .pointer (some ⟨g0, 0, none⟩) := hn.1
        have h30 : a.eval (.tmp 30) = .bool true := hn.2.1
        clear hn
        exact wants_not (d := 30) rfl rfl h30 rfl
      refine steps_cons (fun a w hk hn => ?_) ?_
      · have h31 : a.eval (.tmp 31) = undef := hn.1
        have h30 : a.eval (.tmp 30) = .bool true := hn.2.1
        clear hn
        exact wants_not (d := 30) rfl rfl h30 rfl
      refine steps_cons (fun a w hk hn => ?_) ?_
      · have h32 : a.eval (.tmp 32) = undef := hn.1
        have h30 : a.eval (.tmp 30) = .bool true := hn.2.1
        clear hn
        exact wants_not (d := 30) rfl rfl h30 rfl
      refine steps_cons (fun a w hk hn => ?_) ?_
      · have h2 : a.eval (.tmp 2) = .pointer (some ⟨g0, 0, none⟩) := hn.1
        have h30 : a.eval (.tmp 30) = .bool true := hn.2.1
        clear hn
        exact wants_not (d := 30) rfl rfl h30 rfl
      refine steps_cons (fun a w hk hn => ?_) ?_
      · have h34 : a.eval (.tmp 34) = undef := hn.1
        have h30 : a.eval (.tmp 30) = .bool true := hn.2.1
        clear hn
        exact wants_not (d := 30) rfl rfl h30 rfl
      refine steps_cons (fun a w hk hn => ?_) ?_
      · have h2 : a.eval (.tmp 2) = .pointer (some ⟨g0, 0, none⟩) := hn.1
        have h30 : a.eval (.tmp 30) = .bool true := hn.2.1
        clear hn
        exact wants_not (d := 30) rfl rfl h30 rfl
      refine steps_cons (fun a w hk hn => ?_) ?_
      · have h36 : a.eval (.tmp 36) = undef := hn.1
        have h30 : a.eval (.tmp 30) = .bool true := hn.2.1
        clear hn
        exact wants_not (d := 30) rfl rfl h30 rfl
      refine steps_cons (fun a w hk hn => ?_) ?_
      · have h35 : a.eval (.tmp 35) = undef := hn.1
        have h37 : a.eval (.tmp 37) = undef := hn.2.1
        have h30 : a.eval (.tmp 30) = .bool true := hn.2.2.1
        clear hn
        exact wants_not (d := 30) rfl rfl h30 rfl
      refine steps_cons (fun a w hk hn => ?_) ?_
      · have h33 : a.eval (.tmp 33) = undef := hn.1
        have h38 : a.eval (.tmp 38) = undef := hn.2.1
        have h30 : a.eval (.tmp 30) = .bool true := hn.2.2.1
        clear hn
        exact wants_not (d := 30) rfl rfl h30 rfl
      refine steps_cons (fun a w hk hn => ?_) ?_
      · have h30 : a.eval (.tmp 30) = .bool true := hn.1
        have h39 : a.eval (.tmp 39) = undef := hn.2.1
        clear hn
        refine wants_plain rfl ?_
        exact grown_pick _ _ _ true rfl h30 rfl
      exact trivial
    intro W1 hkW1
    rintro _ rfl
    rintro _ rfl
    rintro _ rfl
    rintro _ rfl
    rintro _ rfl
    rintro _ rfl
    rintro _ rfl
    rintro _ rfl
    rintro _ rfl
    rintro _ rfl
    rintro _ rfl
    rintro _ rfl
    rintro _ rfl
    rintro _ rfl
    rintro _ rfl
    rintro _ rfl
    rintro _ rfl
    rintro _ rfl
    rintro _ rfl
    rintro _ rfl
    rintro _ rfl
    rintro _ rfl
    rintro _ rfl
    rintro _ rfl
    rintro _ rfl
    rintro _ rfl
    rintro _ rfl
    rintro _ rfl
    rintro _ rfl
    rintro _ rfl
    rintro _ rfl
    rintro _ rfl
    refine fin_nil ?_
    simp only [Act.put, List.set_cons_zero, List.set_cons_succ, List.setIfInBounds_toArray]
    have HKW := hide (unhide HDR W1 hkW1)
    clear hkW1 z0 z1 z2
    go_wp2_with fail
    go_ret3
    exact ⟨none, 0, 0, none, 0, 0, rfl, by rw [(ldsR_no (unhide HOK)).1]; exact Sl.nil _, by rw [(ldsR_no (unhide HOK)).2]; exact Sl.nil _, ((unhide HK1).trans (unhide HKW))⟩
end Go.Proofs.YtphhofgjnlfjmaaDoor

/-
  The contracts of the reference's Check and CheckGrow.
-/
namespace Go.Proofs.YtphhofgjnlfjmaaDoor
open Go.RowKit
open Go.Proofs

set_option maxRecDepth 100000 in
set_option maxHeartbeats 4000000 in
theorem rfcheck_any (v vx vr : Value) (i n : Int) (ps : List (List Int)) (x rt : List Int) (w : World) (hV : TV w v i n ps) (hS : Sl w vx x) (hB : Bs x) (hT : Sl w vr rt) (hn : n ≤ 9223372036854775807) :
    Calls Tryd.prog 32 #[v, vx, vr] w fun e w' => e = .returned (.bool (chkP i n ps x rt)) ∧ Kp [] w w' := by
  obtain ⟨ao, c, e, hL⟩ := hV.shape
  subst e
  obtain ⟨N, hN⟩ : ∃ N, N = ps.length := ⟨_, rfl⟩
  rw [← hN] at hL hV ⊢
  obtain ⟨ob, hob⟩ : ∃ o : Obj, o = (.cells #[.int .i64 i, .int .i64 n, .slice ao N c] 32) := ⟨_, rfl⟩
  have K1 : Kp [] w (w.alloc ob) := (Kp.refl [] w).alloc ob
  obtain ⟨w1, hw1⟩ : ∃ w1, w1 = w.alloc ob := ⟨_, rfl⟩
  obtain ⟨g0, hg0⟩ : ∃ g0, g0 = w.heap.size := ⟨_, rfl⟩
  rw [← hw1] at K1
  have HK1 := hide K1
  have hst : w1.heap[g0]? = some (.cells #[.int .i64 i, .int .i64 n, .slice ao N c] 32 (0, 0)) := by rw [hw1, hg0, hob]; exact heap_alloc_new w _
  have HST : Hid (∀ w', Kp [] w1 w' → w'.heap[g0]? = some (.cells #[.int .i64 i, .int .i64 n, .slice ao N c] 32 (0, 0))) := fun w' k => k.heap hst (by simp)
  obtain ⟨z0, z1, z2⟩ := cell_tri hst
  have HV : Hid (TV w1 (.agg #[.int .i64 i, .int .i64 n, .slice ao N c]) i n ps) := hV.kept K1
  have HSL : Hid (∀ w', Kp [] w1 w' → Sl w' vx x) := fun w' k => hS.kept (K1.trans k) (by simp)
  have HTL : Hid (∀ w', Kp [] w1 w' → Sl w' vr rt) := fun w' k => hT.kept (K1.trans k) (by simp)
  have HLL : Hid (∀ w', Kp [] w1 w' → LcM ps (.slice ao N c) w') := fun w' k => hL.kept (K1.trans k)
  have HDR : Hid (∀ w', Kp [] w1.drew w' → Kp [] w1 w') := fun w' k => (kp_drew w1).trans k
  have HBX := hide hB
  have HNN := hide hN
  obtain ⟨SX, hSX⟩ : ∃ S, S = strOfNums x := ⟨_, rfl⟩
  obtain ⟨SR, hSR⟩ : ∃ S, S = strOfNums rt := ⟨_, rfl⟩
  have HSX := hide hSX
  have HSR := hide hSR
  rw [hob] at hw1
  obtain ⟨ax, cx, hvx, -⟩ := hS
  obtain ⟨nx, hnx⟩ : ∃ nx, nx = x.length := ⟨_, rfl⟩
  rw [← hnx] at hvx
  subst hvx
  obtain ⟨ar, cr, hvr, -⟩ := hT
  obtain ⟨nr, hnr⟩ : ∃ nr, nr = rt.length := ⟨_, rfl⟩
  rw [← hnr] at hvr
  subst hvr
  have HNX := hide hnx
  have HNR := hide hnr
  clear hV hL hB hN hnx hnr K1 hob hst hSX hSR
  have HC := hide (rflead_any _ (.slice ax nx cx) i n ps x w1 (unhide HV) (unhide HSL w1 (Kp.refl _ _)) (unhide HBX) hn)
  obtain ⟨b, hb⟩ : ∃ b, b = ledOk i n ps x := ⟨_, rfl⟩
  obtain ⟨r, hr⟩ : ∃ r, r = ledR i n ps x := ⟨_, rfl⟩
  obtain ⟨SS, hSS⟩ : ∃ S, S = strOfNums r := ⟨_, rfl⟩
  have HSS := hide hSS
  have HP : Hid (chkP i n ps x rt = (b && (SS.toList == SR.toList))) := hide (by rw [hSS, unhide HSR, hb, hr]; rfl)
  rw [unhide HP]
  rw [← hb, ← hr] at HC
  clear hb hr hSS
  go_enter Tryd.func32, Tryd.ntmps32
  go_wp2_with fail
  rw [← hw1, ← hg0]
  clear hw1 hg0
  refine (unhide HC).mono ?_
  rintro ee w3 ⟨a3, m3, c3, rfl, S3, K3⟩
  have HS3 := hide S3
  have HK3 := hide K3
  clear S3 K3 HC z0 z1 z2
  cases b with
  | false =>
    go_wp2_with fail
    go_ret
    exact ⟨rfl, (unhide HK1).trans (unhide HK3)⟩
  | true =>
    have c1 := (unhide HS3).conv (P := Tryd.prog) 30 9 5 Tryd.underlying30 Tryd.underlying5 Tryd.underlying9
    have c2 := (unhide HTL w3 (unhide HK3)).conv (P := Tryd.prog) 30 9 5 Tryd.underlying30 Tryd.underlying5 Tryd.underlying9
    rw [← unhide HSS] at c1
    rw [← unhide HSR] at c2
    go_wp2_with fail
    go_ret
    exact ⟨rfl, (unhide HK1).trans (unhide HK3)⟩
set_option maxRecDepth 100000 in
set_option maxHeartbeats 4000000 in
theorem rfcgrow_any (v vx vr : Value) (i n : Int) (ps : List (List Int)) (x rt : List Int) (w : World) (hV : TV w v i n ps) (hS : Sl w vx x) (hB : Bs x) (hT : Sl w vr rt) (hn : n ≤ 9223372036854775807) :
    Calls Tryd.prog 40 #[v, vx, vr] w fun e w' => e = .returned (.bool (cgrP i n ps x rt)) ∧ Kp [] w w' := by
  obtain ⟨ao, c, e, hL⟩ := hV.shape
  subst e
  obtain ⟨N, hN⟩ : ∃ N, N = ps.length := ⟨_, rfl⟩
  rw [← hN] at hL hV ⊢
  obtain ⟨ob, hob⟩ : ∃ o : Obj, o = (.cells #[.int .i64 i, .int .i64 n, .slice ao N c] 39) := ⟨_, rfl⟩
  have K1 : Kp [] w (w.alloc ob) := (Kp.refl [] w).alloc ob
  obtain ⟨w1, hw1⟩ : ∃ w1, w1 = w.alloc ob := ⟨_, rfl⟩
  obtain ⟨g0, hg0⟩ : ∃ g0, g0 = w.heap.size := ⟨_, rfl⟩
  rw [← hw1] at K1
  have HK1 := hide K1
  have hst : w1.heap[g0]? = some (.cells #[.int .i64 i, .int .i64 n, .slice ao N c] 39 (0, 0)) := by rw [hw1, hg0, hob]; exact heap_alloc_new w _
  have HST : Hid (∀ w', Kp [] w1 w' → w'.heap[g0]? = some (.cells #[.int .i64 i, .int .i64 n, .slice ao N c] 39 (0, 0))) := fun w' k => k.heap hst (by simp)
  obtain ⟨z0, z1, z2⟩ := cell_tri hst
  have HV : Hid (TV w1 (.agg #[.int .i64 i, .int .i64 n, .slice ao N c]) i n ps) := hV.kept K1
  have HSL : Hid (∀ w', Kp [] w1 w' → Sl w' vx x) := fun w' k => hS.kept (K1.trans k) (by simp)
  have HTL : Hid (∀ w', Kp [] w1 w' → Sl w' vr rt) := fun w' k => hT.kept (K1.trans k) (by simp)
  have HLL : Hid (∀ w', Kp [] w1 w' → LcM ps (.slice ao N c) w') := fun w' k => hL.kept (K1.trans k)
  have HDR : Hid (∀ w', Kp [] w1.drew w' → Kp [] w1 w') := fun w' k => (kp_drew w1).trans k
  have HBX := hide hB
  have HNN := hide hN
  obtain ⟨SX, hSX⟩ : ∃ S, S = strOfNums x := ⟨_, rfl⟩
  obtain ⟨SR, hSR⟩ : ∃ S, S = strOfNums rt := ⟨_, rfl⟩
  have HSX := hide hSX
  have HSR := hide hSR
  rw [hob] at hw1
  obtain ⟨ax, cx, hvx, -⟩ := hS
  obtain ⟨nx, hnx⟩ : ∃ nx, nx = x.length := ⟨_, rfl⟩
  rw [← hnx] at hvx
  subst hvx
  obtain ⟨ar, cr, hvr, -⟩ := hT
  obtain ⟨nr, hnr⟩ : ∃ nr, nr = rt.length := ⟨_, rfl⟩
  rw [← hnr] at hvr
  subst hvr
  have HNX := hide hnx
  have HNR := hide hnr
  clear hV hL hB hN hnx hnr K1 hob hst hSX hSR
  by_cases h0 : i < 0
  · rw [cgrP_no (.inl h0)]
    go_enter Tryd.func40, Tryd.ntmps40
    go_wp2_with fail
    rw [← hw1, ← hg0]
    clear hw1 hg0
    go_ret
    exact ⟨rfl, (unhide HK1)⟩
  · by_cases h1 : n < i
    · rw [cgrP_no (.inr h1)]
      go_enter Tryd.func40, Tryd.ntmps40
      go_wp2_with fail
      rw [← hw1, ← hg0]
      clear hw1 hg0
      go_ret
      exact ⟨rfl, (unhide HK1)⟩
    · by_cases h2 : i = n
      · subst h2
        rw [cgrP_same (by omega), ← unhide HNN, ← unhide HNX]
        by_cases hN0 : N = 0
        · subst hN0
          by_cases hx : nx = 32
          · subst hx
            have HP : Hid ((((0 : Nat) == 0) && (((32 : Nat) == 32) && eqP x rt)) = (SX.toList == SR.toList)) := hide (by rw [unhide HSX, unhide HSR]; rfl)
            rw [unhide HP]
            have c1 := (unhide HSL w1 (Kp.refl _ _)).conv (P := Tryd.prog) 30 9 5 Tryd.underlying30 Tryd.underlying5 Tryd.underlying9
            have c2 := (unhide HTL w1 (Kp.refl _ _)).conv (P := Tryd.prog) 30 9 5 Tryd.underlying30 Tryd.underlying5 Tryd.underlying9
            rw [← unhide HSX, hw1] at c1
            rw [← unhide HSR, hw1] at c2
            go_enter Tryd.func40, Tryd.ntmps40
            go_wp2_with fail
            rw [← hw1, ← hg0]
            clear hw1 hg0
            go_ret
            exact ⟨rfl, (unhide HK1)⟩
          · have hxi : ¬ (nx : Int) = 32 := by omega
            rw [show (nx == 32) = false by simp [hx]]
            simp only [Bool.false_and, Bool.and_false]
            go_enter Tryd.func40, Tryd.ntmps40
            go_wp2_with fail
            rw [← hw1, ← hg0]
            clear hw1 hg0
            go_ret
            exact ⟨rfl, (unhide HK1)⟩
        · have hNi : ¬ (N : Int) = 0 := by omega
          rw [show (N == 0) = false by simp [hN0]]
          simp only [Bool.false_and]
          go_enter Tryd.func40, Tryd.ntmps40
          go_wp2_with fail
          rw [← hw1, ← hg0]
          clear hw1 hg0
          go_ret
          exact ⟨rfl, (unhide HK1)⟩
      · by_cases h3 : i = 0
        · subst h3
          have h0n : 0 < n := by omega
          have h0m : ¬ (0 : Int) = n := by omega
          rw [cgrP_zero h0n, ← unhide HNN, ← unhide HNR]
          clear h0 h1 h2
          obtain ⟨r0, hr0⟩ : ∃ r, r = sha [] := ⟨_, rfl⟩
          obtain ⟨S0, hS0⟩ : ∃ S, S = strOfNums r0 := ⟨_, rfl⟩
          have HR0 := hide hr0
          have HS0 := hide hS0
          obtain ⟨E, hE⟩ : ∃ E, E = (SX.toList == S0.toList) := ⟨_, rfl⟩
          have HP : Hid (eqP x (sha []) = E) := hide (by rw [hE, unhide HSX, hS0, hr0]; rfl)
          rw [unhide HP]
          have HE := hide hE
          clear hr0 hS0 hE
          by_cases hN0 : N = 0
          · subst hN0
            by_cases hx : nr = 32
            · subst hx
              rw [show (((0 : Nat) == 0) && (((32 : Nat) == 32) && E)) = E by cases E <;> rfl]
              go_enter Tryd.func40, Tryd.ntmps40
              go_wp2_with fail
              rw [← hw1, ← hg0]
              clear hw1 hg0
              refine region_grow Tryd.mixed [Is (.pointer (some ⟨g0, 2, none⟩)), Is (.slice ao 0 c), Is (.int .i64 0), Is (.bool true), Is (.bool true), Is (.slice ar 32 cr), Is (.int .i64 32), Is (.bool true), Is (.bool true), Is (.bool true), Is (.slice ax nx cx), Is (.string SX), SlT (r0), Is (.string S0), Is (.bool E), Is (.bool E), Is (.bool E)] [[(3, none)], [(44, some 0)], [(45, some 1)], [(46, some 2)], [(47, some 3)], [(2, none), (48, some 4)], [(49, some 5), (48, some 4)], [(50, some 6), (48, some 4)], [(48, some 4), (51, some 7)], [(52, some 8)], [(1, none), (53, some 9)], [(54, some 10), (53, some 9)], [(53, some 9)], [(56, some 12), (53, some 9)], [(55, some 11), (57, some 13), (53, some 9)], [(53, some 9), (58, some 14)], [(59, some 15)]] (by kernel_rfl) ?_ ?_ ?_
              · simp only [List.mem_cons, List.not_mem_nil, or_false]
                intro R hR
                rcases hR with rfl | rfl | rfl | rfl | rfl | rfl | rfl | rfl | rfl | rfl | rfl | rfl | rfl | rfl | rfl | rfl | rfl <;> first | exact stable_is _ | exact stable_sl _
              · refine steps_cons (fun a w hk hn => ?_) ?_
                · have h3 : a.eval (.tmp 3) = .pointer (some ⟨g0, 0, none⟩) := hn.1
                  clear hn
                  refine wants_plain rfl ?_
                  exact grown_fld2 triG (.tmp 3) rfl h3
                refine steps_cons (fun a w hk hn => ?_) ?_
                · have h44 : a.eval (.tmp 44) = .pointer (some ⟨g0, 2, none⟩) := hn.1
                  clear hn
                  refine wants_plain rfl ?_
                  exact grown_ldl (.tmp 44) rfl 2 _ _ _ h44 (cell_tri ((fun w'' k => unhide HST w'' (unhide HDR w'' k)) w hk)).2.2
                refine steps_cons (fun a w hk hn => ?_) ?_
                · have h45 : a.eval (.tmp 45) = .slice ao 0 c := hn.1
                  clear hn
                  refine wants_plain rfl ?_
                  refine grown_run (v := .int .i64 0) ?_ (Kp.refl _ _) rfl
                  obtain ⟨ρ, hρ, hc, hf, hg⟩ := eval_is a
                  rw [hρ] at h45 ⊢
                  simp [go_sem, h45]
                refine steps_cons (fun a w hk hn => ?_) ?_
                · have h46 : a.eval (.tmp 46) = .int .i64 0 := hn.1
                  clear hn
                  refine wants_plain rfl ?_
                  refine grown_run (v := .bool true) ?_ (Kp.refl _ _) rfl
                  obtain ⟨ρ, hρ, hc, hf, hg⟩ := eval_is a
                  rw [hρ] at h46 ⊢
                  simp [go_sem, hc, h46]
                refine steps_cons (fun a w hk hn => ?_) ?_
                · have h47 : a.eval (.tmp 47) = .bool true := hn.1
                  clear hn
                  refine wants_plain rfl ?_
                  exact grown_move (.tmp 47) rfl h47
                refine steps_cons (fun a w hk hn => ?_) ?_
                · have h2 : a.eval (.tmp 2) = .slice ar 32 cr := hn.1
                  have h48 : a.eval (.tmp 48) = .bool true := hn.2.1
                  clear hn
                  refine wants_guard (d := 48) rfl rfl h48 ?_
                  exact grown_move (.tmp 2) rfl h2
                refine steps_cons (fun a w hk hn => ?_) ?_
                · have h49 : a.eval (.tmp 49) = .slice ar 32 cr := hn.1
                  have h48 : a.eval (.tmp 48) = .bool true := hn.2.1
                  clear hn
                  refine wants_guard (d := 48) rfl rfl h48 ?_
                  refine grown_run (v := .int .i64 32) ?_ (Kp.refl _ _) rfl
                  obtain ⟨ρ, hρ, hc, hf, hg⟩ := eval_is a
                  rw [hρ] at h49 ⊢
                  simp [go_sem, h49]
                refine steps_cons (fun a w hk hn => ?_) ?_
                · have h50 : a.eval (.tmp 50) = .int .i64 32 := hn.1
                  have h48 : a.eval (.tmp 48) = .bool true := hn.2.1
                  clear hn
                  refine wants_guard (d := 48) rfl rfl h48 ?_
                  refine grown_run (v := .bool true) ?_ (Kp.refl _ _) rfl
                  obtain ⟨ρ, hρ, hc, hf, hg⟩ := eval_is a
                  rw [hρ] at h50 ⊢
                  simp [go_sem, hc, h50]
                refine steps_cons (fun a w hk hn => ?_) ?_
                · have h48 : a.eval (.tmp 48) = .bool true := hn.1
                  have h51 : a.eval (.tmp 51) = .bool true := hn.2.1
                  clear hn
                  refine wants_plain rfl ?_
                  exact grown_pick _ _ _ true rfl h48 h51
                refine steps_cons (fun a w hk hn => ?_) ?_
                · have h52 : a.eval (.tmp 52) = .bool true := hn.1
                  clear hn
                  refine wants_plain rfl ?_
                  exact grown_move (.tmp 52) rfl h52
                refine steps_cons (fun a w hk hn => ?_) ?_
                · have h1 : a.eval (.tmp 1) = .slice ax nx cx := hn.1
                  have h53 : a.eval (.tmp 53) = .bool true := hn.2.1
                  clear hn
                  refine wants_guard (d := 53) rfl rfl h53 ?_
                  exact grown_move (.tmp 1) rfl h1
                refine steps_cons (fun a w hk hn => ?_) ?_
                · have h54 : a.eval (.tmp 54) = .slice ax nx cx := hn.1
                  have h53 : a.eval (.tmp 53) = .bool true := hn.2.1
                  clear hn
                  refine wants_guard (d := 53) rfl rfl h53 ?_
                  exact grown_conv (.tmp 54) _ _ 5 (x) rfl (by rw [h54]; exact (fun w'' k => unhide HSL w'' (unhide HDR w'' k)) w hk) Tryd.underlying30 Tryd.underlying5 Tryd.underlying9 (congrArg Value.string (unhide HSX).symm)
                refine steps_cons (fun a w hk hn => ?_) ?_
                · have h53 : a.eval (.tmp 53) = .bool true := hn.1
                  clear hn
                  refine wants_guard (d := 53) rfl rfl h53 ?_
                  refine grown_call (f := 35) rfl Tryd.func35 (by kernel_rfl) (by kernel_rfl) ?_
                  simp only [List.map_toArray, List.map_cons, List.map_nil]
                  refine (refsum_at (.slice none 0 0) [] r0 (unhide HR0) w (Sl.nil w) (fun b hb => by cases hb) (by simp)).mono ?_
                  rintro e w' ⟨ao, m, c, rfl, R, K⟩
                  exact ⟨_, rfl, K, R.sl⟩
                refine steps_cons (fun a w hk hn => ?_) ?_
                · have h56 : Sl w (a.eval (.tmp 56)) (r0) := hn.1
                  have h53 : a.eval (.tmp 53) = .bool true := hn.2.1
                  clear hn
                  refine wants_guard (d := 53) rfl rfl h53 ?_
                  exact grown_conv (.tmp 56) _ _ 5 _ rfl h56 Tryd.underlying30 Tryd.underlying5 Tryd.underlying9 (congrArg Value.string (unhide HS0).symm)
                refine steps_cons (fun a w hk hn => ?_) ?_
                · have h55 : a.eval (.tmp 55) = .string SX := hn.1
                  have h57 : a.eval (.tmp 57) = .string S0 := hn.2.1
                  have h53 : a.eval (.tmp 53) = .bool true := hn.2.2.1
                  clear hn
                  refine wants_guard (d := 53) rfl rfl h53 ?_
                  refine grown_run (v := .bool E) ?_ (Kp.refl _ _) rfl
                  obtain ⟨ρ, hρ, hc, hf, hg⟩ := eval_is a
                  rw [hρ] at h55 h57 ⊢
                  simp [go_sem, h55, h57, unhide HE]
                refine steps_cons (fun a w hk hn => ?_) ?_
                · have h53 : a.eval (.tmp 53) = .bool true := hn.1
                  have h58 : a.eval (.tmp 58) = .bool E := hn.2.1
                  clear hn
                  refine wants_plain rfl ?_
                  exact grown_pick _ _ _ true rfl h53 h58
                refine steps_cons (fun a w hk hn => ?_) ?_
                · have h59 : a.eval (.tmp 59) = .bool E := hn.1
                  clear hn
                  refine wants_plain rfl ?_
                  exact grown_assign (.tmp 59) rfl h59
                exact trivial
              intro W1 hkW1
              rintro _ rfl
              rintro _ rfl
              rintro _ rfl
              rintro _ rfl
              rintro _ rfl
              rintro _ rfl
              rintro _ rfl
              rintro _ rfl
              rintro _ rfl
              rintro _ rfl
              rintro _ rfl
              rintro _ rfl
              intro v56 h56
              rintro _ rfl
              rintro _ rfl
              rintro _ rfl
              rintro _ rfl
              refine fin_nil ?_
              simp only [Act.put, List.set_cons_zero, List.set_cons_succ, List.setIfInBounds_toArray]
              have HKW := hide (unhide HDR W1 hkW1)
              clear hkW1 z0 z1 z2
              go_wp2_with fail
              go_ret
              exact ⟨rfl, (unhide HK1).trans (unhide HKW)⟩
            · have hxi : ¬ (nr : Int) = 32 := by omega
              rw [show (nr == 32) = false by simp [hx]]
              simp only [Bool.false_and, Bool.and_false]
              go_enter Tryd.func40, Tryd.ntmps40
              go_wp2_with fail
              rw [← hw1, ← hg0]
              clear hw1 hg0
              refine region_grow Tryd.mixed [Is (.pointer (some ⟨g0, 2, none⟩)), Is (.slice ao 0 c), Is (.int .i64 0), Is (.bool true), Is (.bool true), Is (.slice ar nr cr), Is (.int .i64 nr), Is (.bool false), Is (.bool false), Is (.bool false), Is (undef), Is (undef), Is (undef), Is (undef), Is (undef), Is (.bool false), Is (.bool false)] [[(3, none)], [(44, some 0)], [(45, some 1)], [(46, some 2)], [(47, some 3)], [(2, none), (48, some 4)], [(49, some 5), (48, some 4)], [(50, some 6), (48, some 4)], [(48, some 4), (51, some 7)], [(52, some 8)], [(1, none), (53, some 9)], [(54, some 10), (53, some 9)], [(53, some 9)], [(56, some 12), (53, some 9)], [(55, some 11), (57, some 13), (53, some 9)], [(53, some 9), (58, some 14)], [(59, some 15)]] (by kernel_rfl) ?_ ?_ ?_
              · simp only [List.mem_cons, List.not_mem_nil, or_false]
                intro R hR
                rcases hR with rfl | rfl | rfl | rfl | rfl | rfl | rfl | rfl | rfl | rfl | rfl | rfl | rfl | rfl | rfl | rfl | rfl <;> first | exact stable_is _
              · refine steps_cons (fun a w hk hn => ?_) ?_
                · have h3 : a.eval (.tmp 3) = .pointer (some ⟨g0, 0, none⟩) := hn.1
                  clear hn
                  refine wants_plain rfl ?_
                  exact grown_fld2 triG (.tmp 3) rfl h3
                refine steps_cons (fun a w hk hn => ?_) ?_
                · have h44 : a.eval (.tmp 44) = .pointer (some ⟨g0, 2, none⟩) := hn.1
                  clear hn
                  refine wants_plain rfl ?_
                  exact grown_ldl (.tmp 44) rfl 2 _ _ _ h44 (cell_tri ((fun w'' k => unhide HST w'' (unhide HDR w'' k)) w hk)).2.2
                refine steps_cons (fun a w hk hn => ?_) ?_
                · have h45 : a.eval (.tmp 45) = .slice ao 0 c := hn.1
                  clear hn
                  refine wants_plain rfl ?_
                  refine grown_run (v := .int .i64 0) ?_ (Kp.refl _ _) rfl
                  obtain ⟨ρ, hρ, hc, hf, hg⟩ := eval_is a
                  rw [hρ] at h45 ⊢
                  simp [go_sem, h45]
                refine steps_cons (fun a w hk hn => ?_) ?_
                · have h46 : a.eval (.tmp 46) = .int .i64 0 := hn.1
                  clear hn
                  refine wants_plain rfl ?_
                  refine grown_run (v := .bool true) ?_ (Kp.refl _ _) rfl
                  obtain ⟨ρ, hρ, hc, hf, hg⟩ := eval_is a
                  rw [hρ] at h46 ⊢
                  simp [go_sem, hc, h46]
                refine steps_cons (fun a w hk hn => ?_) ?_
                · have h47 : a.eval (.tmp 47) = .bool true := hn.1
                  clear hn
                  refine wants_plain rfl ?_
                  exact grown_move (.tmp 47) rfl h47
                refine steps_cons (fun a w hk hn => ?_) ?_
                · have h2 : a.eval (.tmp 2) = .slice ar nr cr := hn.1
                  have h48 : a.eval (.tmp 48) = .bool true := hn.2.1
                  clear hn
                  refine wants_guard (d := 48) rfl rfl h48 ?_
                  exact grown_move (.tmp 2) rfl h2
                refine steps_cons (fun a w hk hn => ?_) ?_
                · have h49 : a.eval (.tmp 49) = .slice ar nr cr := hn.1
                  have h48 : a.eval (.tmp 48) = .bool true := hn.2.1
                  clear hn
                  refine wants_guard (d := 48) rfl rfl h48 ?_
                  refine grown_run (v := .int .i64 nr) ?_ (Kp.refl _ _) rfl
                  obtain ⟨ρ, hρ, hc, hf, hg⟩ := eval_is a
                  rw [hρ] at h49 ⊢
                  simp [go_sem, h49]
                refine steps_cons (fun a w hk hn => ?_) ?_
                · have h50 : a.eval (.tmp 50) = .int .i64 nr := hn.1
                  have h48 : a.eval (.tmp 48) = .bool true := hn.2.1
                  clear hn
                  refine wants_guard (d := 48) rfl rfl h48 ?_
                  refine grown_run (v := .bool false) ?_ (Kp.refl _ _) rfl
                  obtain ⟨ρ, hρ, hc, hf, hg⟩ := eval_is a
                  rw [hρ] at h50 ⊢
                  simp [go_sem, hc, h50, hxi]
                refine steps_cons (fun a w hk hn => ?_) ?_
                · have h48 : a.eval (.tmp 48) = .bool true := hn.1
                  have h51 : a.eval (.tmp 51) = .bool false := hn.2.1
                  clear hn
                  refine wants_plain rfl ?_
                  exact grown_pick _ _ _ true rfl h48 h51
                refine steps_cons (fun a w hk hn => ?_) ?_
                · have h52 : a.eval (.tmp 52) = .bool false := hn.1
                  clear hn
                  refine wants_plain rfl ?_
                  exact grown_move (.tmp 52) rfl h52
                refine steps_cons (fun a w hk hn => ?_) ?_
                · have h1 : a.eval (.tmp 1) = .slice ax nx cx := hn.1
                  have h53 : a.eval (.tmp 53) = .bool false := hn.2.1
                  clear hn
                  exact wants_not (d := 53) rfl rfl h53 rfl
                refine steps_cons (fun a w hk hn => ?_) ?_
                · have h54 : a.eval (.tmp 54) = undef := hn.1
                  have h53 : a.eval (.tmp 53) = .bool false := hn.2.1
                  clear hn
                  exact wants_not (d := 53) rfl rfl h53 rfl
                refine steps_cons (fun a w hk hn => ?_) ?_
                · have h53 : a.eval (.tmp 53) = .bool false := hn.1
                  clear hn
                  exact wants_not (d := 53) rfl rfl h53 rfl
                refine steps_cons (fun a w hk hn => ?_) ?_
                · have h56 : a.eval (.tmp 56) = undef := hn.1
                  have h53 : a.eval (.tmp 53) = .bool false := hn.2.1
                  clear hn
                  exact wants_not (d := 53) rfl rfl h53 rfl
                refine steps_cons (fun a w hk hn => ?_) ?_
                · have h55 : a.eval (.tmp 55) = undef := hn.1
                  have h57 : a.eval (.tmp 57) = undef := hn.2.1
                  have h53 : a.eval (.tmp 53) = .bool false := hn.2.2.1
                  clear hn
                  exact wants_not (d := 53) rfl rfl h53 rfl
                refine steps_cons (fun a w hk hn => ?_) ?_
                · have h53 : a.eval (.tmp 53) = .bool false := hn.1
                  have h58 : a.eval (.tmp 58) = undef := hn.2.1
                  clear hn
                  refine wants_plain rfl ?_
                  exact grown_pick _ _ _ false rfl h53 rfl
                refine steps_cons (fun a w hk hn => ?_) ?_
                · have h59 : a.eval (.tmp 59) = .bool false := hn.1
                  clear hn
                  refine wants_plain rfl ?_
                  exact grown_assign (.tmp 59) rfl h59
                exact trivial
              intro W1 hkW1
              rintro _ rfl
              rintro _ rfl
              rintro _ rfl
              rintro _ rfl
              rintro _ rfl
              rintro _ rfl
              rintro _ rfl
              rintro _ rfl
              rintro _ rfl
              rintro _ rfl
              rintro _ rfl
              rintro _ rfl
              rintro _ rfl
              rintro _ rfl
              rintro _ rfl
              rintro _ rfl
              rintro _ rfl
              refine fin_nil ?_
              simp only [Act.put, List.set_cons_zero, List.set_cons_succ, List.setIfInBounds_toArray]
              have HKW := hide (unhide HDR W1 hkW1)
              clear hkW1 z0 z1 z2
              go_wp2_with fail
              go_ret
              exact ⟨rfl, (unhide HK1).trans (unhide HKW)⟩
          · have hNi : ¬ (N : Int) = 0 := by omega
            rw [show (N == 0) = false by simp [hN0]]
            simp only [Bool.false_and]
            go_enter Tryd.func40, Tryd.ntmps40
            go_wp2_with fail
            rw [← hw1, ← hg0]
            clear hw1 hg0
            refine region_grow Tryd.mixed [Is (.pointer (some ⟨g0, 2, none⟩)), Is (.slice ao N c), Is (.int .i64 N), Is (.bool false), Is (.bool false), Is (undef), Is (undef), Is (undef), Is (.bool false), Is (.bool false), Is (undef), Is (undef), Is (undef), Is (undef), Is (undef), Is (.bool false), Is (.bool false)] [[(3, none)], [(44, some 0)], [(45, some 1)], [(46, some 2)], [(47, some 3)], [(2, none), (48, some 4)], [(49, some 5), (48, some 4)], [(50, some 6), (48, some 4)], [(48, some 4), (51, some 7)], [(52, some 8)], [(1, none), (53, some 9)], [(54, some 10), (53, some 9)], [(53, some 9)], [(56, some 12), (53, some 9)], [(55, some 11), (57, some 13), (53, some 9)], [(53, some 9), (58, some 14)], [(59, some 15)]] (by kernel_rfl) ?_ ?_ ?_
            · simp only [List.mem_cons, List.not_mem_nil, or_false]
              intro R hR
              rcases hR with rfl | rfl | rfl | rfl | rfl | rfl | rfl | rfl | rfl | rfl | rfl | rfl | rfl | rfl | rfl | rfl | rfl <;> first | exact stable_is _
            · refine steps_cons (fun a w hk hn => ?_) ?_
              · have h3 : a.eval (.tmp 3) = .pointer (some ⟨g0, 0, none⟩) := hn.1
                clear hn
                refine wants_plain rfl ?_
                exact grown_fld2 triG (.tmp 3) rfl h3
              refine steps_cons (fun a w hk hn => ?_) ?_
              · have h44 : a.eval (.tmp 44) = .pointer (some ⟨g0, 2, none⟩) := hn.1
                clear hn
                refine wants_plain rfl ?_
                exact grown_ldl (.tmp 44) rfl 2 _ _ _ h44 (cell_tri ((fun w'' k => unhide HST w'' (unhide HDR w'' k)) w hk)).2.2
              refine steps_cons (fun a w hk hn => ?_) ?_
              · have h45 : a.eval (.tmp 45) = .slice ao N c := hn.1
                clear hn
                refine wants_plain rfl ?_
                refine grown_run (v := .int .i64 N) ?_ (Kp.refl _ _) rfl
                obtain ⟨ρ, hρ, hc, hf, hg⟩ := eval_is a
                rw [hρ] at h45 ⊢
                simp [go_sem, h45]
              refine steps_cons (fun a w hk hn => ?_) ?_
              · have h46 : a.eval (.tmp 46) = .int .i64 N := hn.1
                clear hn
                refine wants_plain rfl ?_
                refine grown_run (v := .bool false) ?_ (Kp.refl _ _) rfl
                obtain ⟨ρ, hρ, hc, hf, hg⟩ := eval_is a
                rw [hρ] at h46 ⊢
                simp [go_sem, hc, h46, hN0]
              refine steps_cons (fun a w hk hn => ?_) ?_
              · have h47 : a.eval (.tmp 47) = .bool false := hn.1
                clear hn
                refine wants_plain rfl ?_
                exact grown_move (.tmp 47) rfl h47
              refine steps_cons (fun a w hk hn => ?_) ?_
              · have h2 : a.eval (.tmp 2) = .slice ar nr cr := hn.1
                have h48 : a.eval (.tmp 48) = .bool false := hn.2.1
                clear hn
                exact wants_not (d := 48) rfl rfl h48 rfl
              refine steps_cons (fun a w hk hn => ?_) ?_
              · have h49 : a.eval (.tmp 49) = undef := hn.1
                have h48 : a.eval (.tmp 48) = .bool false := hn.2.1
                clear hn
                exact wants_not (d := 48) rfl rfl h48 rfl
              refine steps_cons (fun a w hk hn => ?_) ?_
              · have h50 : a.eval (.tmp 50) = undef := hn.1
                have h48 : a.eval (.tmp 48) = .bool false := hn.2.1
                clear hn
                exact wants_not (d := 48) rfl rfl h48 rfl
              refine steps_cons (fun a w hk hn => ?_) ?_
              · have h48 : a.eval (.tmp 48) = .bool false := hn.1
                have h51 : a.eval (.tmp 51) = undef := hn.2.1
                clear hn
                refine wants_plain rfl ?_
                exact grown_pick _ _ _ false rfl h48 rfl
              refine steps_cons (fun a w hk hn => ?_) ?_
              · have h52 : a.eval (.tmp 52) = .bool false := hn.1
                clear hn
                refine wants_plain rfl ?_
                exact grown_move (.tmp 52) rfl h52
              refine steps_cons (fun a w hk hn => ?_) ?_
              · have h1 : a.eval (.tmp 1) = .slice ax nx cx := hn.1
                have h53 : a.eval (.tmp 53) = .bool false := hn.2.1
                clear hn
                exact wants_not (d := 53) rfl rfl h53 rfl
              refine steps_cons (fun a w hk hn => ?_) ?_
              · have h54 : a.eval (.tmp 54) = undef := hn.1
                have h53 : a.eval (.tmp 53) = .bool false := hn.2.1
                clear hn
                exact wants_not (d := 53) rfl rfl h53 rfl
              refine steps_cons (fun a w hk hn => ?_) ?_
              · have h53 : a.eval (.tmp 53) = .bool false := hn.1
                clear hn
                exact wants_not (d := 53) rfl rfl h53 rfl
              refine steps_cons (fun a w hk hn => ?_) ?_
              · have h56 : a.eval (.tmp 56) = undef := hn.1
                have h53 : a.eval (.tmp 53) = .bool false := hn.2.1
                clear hn
                exact wants_not (d := 53) rfl rfl h53 rfl
              refine steps_cons (fun a w hk hn => ?_) ?_
              · have h55 : a.eval (.tmp 55) = undef := hn.1
                have h57 : a.eval (.tmp 57) = undef := hn.2.1
                have h53 : a.eval (.tmp 53) = .bool false := hn.2.2.1
                clear hn
                exact wants_not (d := 53) rfl rfl h53 rfl
              refine steps_cons (fun a w hk hn => ?_) ?_
              · have h53 : a.eval (.tmp 53) = .bool false := hn.1
                have h58 : a.eval (.tmp 58) = undef := hn.2.1
                clear hn
                refine wants_plain rfl ?_
                exact grown_pick _ _ _ false rfl h53 rfl
              refine steps_cons (fun a w hk hn => ?_) ?_
              · have h59 : a.eval (.tmp 59) = .bool false := hn.1
                clear hn
                refine wants_plain rfl ?_
                exact grown_assign (.tmp 59) rfl h59
              exact trivial
            intro W1 hkW1
            rintro _ rfl
            rintro _ rfl
            rintro _ rfl
            rintro _ rfl
            rintro _ rfl
            rintro _ rfl
            rintro _ rfl
            rintro _ rfl
            rintro _ rfl
            rintro _ rfl
            rintro _ rfl
            rintro _ rfl
            rintro _ rfl
            rintro _ rfl
            rintro _ rfl
            rintro _ rfl
            rintro _ rfl
            refine fin_nil ?_
            simp only [Act.put, List.set_cons_zero, List.set_cons_succ, List.setIfInBounds_toArray]
            have HKW := hide (unhide HDR W1 hkW1)
            clear hkW1 z0 z1 z2
            go_wp2_with fail
            go_ret
            exact ⟨rfl, (unhide HK1).trans (unhide HKW)⟩
        · rw [cgrP_more (by omega) (by omega)]
          have HC := hide (rfleads_any _ (.slice ax nx cx) i n ps x w1 (unhide HV) (unhide HSL w1 (Kp.refl _ _)) (unhide HBX) hn)
          obtain ⟨b, hb⟩ : ∃ b, b = ldsOk i n ps x := ⟨_, rfl⟩
          obtain ⟨r1, hr1⟩ : ∃ r, r = ldsR1 i n ps x := ⟨_, rfl⟩
          obtain ⟨r2, hr2⟩ : ∃ r, r = ldsR2 i n ps x := ⟨_, rfl⟩
          obtain ⟨S1, hS1⟩ : ∃ S, S = strOfNums r1 := ⟨_, rfl⟩
          obtain ⟨S2, hS2⟩ : ∃ S, S = strOfNums r2 := ⟨_, rfl⟩
          have HS1 := hide hS1
          have HS2 := hide hS2
          have HP : Hid ((ldsOk i n ps x && (eqP (ldsR1 i n ps x) x && eqP (ldsR2 i n ps x) rt)) = (b && ((S1.toList == SX.toList) && (S2.toList == SR.toList)))) := hide (by rw [hS1, hS2, unhide HSX, unhide HSR, hb, hr1, hr2]; rfl)
          rw [unhide HP]
          rw [← hb, ← hr1, ← hr2] at HC
          obtain ⟨E, hE⟩ : ∃ E, E = (S1.toList == SX.toList) := ⟨_, rfl⟩
          rw [← hE]
          have HE := hide hE
          clear hb hr1 hr2 hS1 hS2 hE
          have hin0 : ¬ i = n := h2
          go_enter Tryd.func40, Tryd.ntmps40
          go_wp2_with fail
          rw [← hw1, ← hg0]
          clear hw1 hg0
          refine (unhide HC).mono ?_
          rintro ee w3 ⟨a3, m3, c3, a4, m4, c4, rfl, S3, S4, K3⟩
          have HS3 := hide S3
          have HS4 := hide S4
          have HK3 := hide K3
          clear S3 S4 K3 HC z0 z1 z2
          cases b with
          | false =>
            go_wp2_with fail
            go_ret
            exact ⟨rfl, (unhide HK1).trans (unhide HK3)⟩
          | true =>
            have c1 := (unhide HS3).conv (P := Tryd.prog) 30 9 5 Tryd.underlying30 Tryd.underlying5 Tryd.underlying9
            have c2 := (unhide HS4).conv (P := Tryd.prog) 30 9 5 Tryd.underlying30 Tryd.underlying5 Tryd.underlying9
            have c3' := (unhide HSL w3 (unhide HK3)).conv (P := Tryd.prog) 30 9 5 Tryd.underlying30 Tryd.underlying5 Tryd.underlying9
            have c4' := (unhide HTL w3 (unhide HK3)).conv (P := Tryd.prog) 30 9 5 Tryd.underlying30 Tryd.underlying5 Tryd.underlying9
            rw [← unhide HS1] at c1
            rw [← unhide HS2] at c2
            rw [← unhide HSX] at c3'
            rw [← unhide HSR] at c4'
            cases E with
            | false =>
              have hEv := (unhide HE).symm
              go_wp2_with fail
              go_ret
              exact ⟨rfl, (unhide HK1).trans (unhide HK3)⟩
            | true =>
              have hEv := (unhide HE).symm
              go_wp2_with fail
              go_ret
              exact ⟨rfl, (unhide HK1).trans (unhide HK3)⟩
end Go.Proofs.YtphhofgjnlfjmaaDoor
