/-
  The contract of the law package's known.
-/
import Derived.Test.YtpiekmflfgpalaaDoorKTRoot
import Derived.Test.YtpiekmflfgpalaaDoorKTKeep
namespace Go.Proofs.YtpiekmflfgpalaaDoor
open Go.RowKit
open Go.Proofs

theorem trootP_two (x y : List Int) : trootP [x, y] = tnodeP x y := by
  rw [trootP_more (by simp), show tsplP [x, y].length = 1 from tsplP_of (j := 0) (by simp) (by simp)]
  show tnodeP (trootP [x]) (trootP [y]) = _
  rw [trootP_one, trootP_one]
theorem trootP_three (x y z : List Int) : trootP [x, y, z] = tnodeP (tnodeP x y) z := by
  rw [trootP_more (by simp), show tsplP [x, y, z].length = 2 from tsplP_of (j := 1) (by simp) (by simp)]
  show tnodeP (trootP [x, y]) (trootP [z]) = _
  rw [trootP_two, trootP_one]
theorem tsplP_eight : tsplP 8 = 4 := tsplP_of (j := 2) (by decide) (by decide)
theorem sha_nil_at : (sha [])[0]? = some 227 := by rw [sha_nil]; rfl
theorem kleavesP_three : kleavesP 3 = [kleafP 0, kleafP 1, kleafP 2] := rfl

set_option maxRecDepth 100000 in
set_option maxHeartbeats 4000000 in
theorem tknown_any (w : World) (hG : Gl w) : Calls Tryd.prog 15 #[] w fun e w' => e = .returned (.bool true) ∧ Kp [] w w' := by
  have HG := hide hG
  clear hG
  have HC := hide (kleaves_any 3 w (by omega))
  go_enter Tryd.func15, Tryd.ntmps15
  go_wp2_with fail
  refine (unhide HC).mono ?_
  rintro ee w1 ⟨a1, m1, c1, rfl, A1⟩
  have K1 := A1.kp
  obtain ⟨x0, hx0⟩ : ∃ x, x = kleafP 0 := ⟨_, rfl⟩
  obtain ⟨x1, hx1⟩ : ∃ x, x = kleafP 1 := ⟨_, rfl⟩
  obtain ⟨x2, hx2⟩ : ∃ x, x = kleafP 2 := ⟨_, rfl⟩
  have L1 : LcM [x0, x1, x2] (.slice a1 m1 c1) w1 := by
    have := A1.lc (by rw [kleavesP_len]; omega)
    rw [kleavesP_three, ← hx0, ← hx1, ← hx2] at this
    exact this
  have hall : ∀ x ∈ [x0, x1, x2], x.length ≤ 1000 ∧ Bs x := by
    intro x hx
    rcases (by simpa using hx : x = x0 ∨ x = x1 ∨ x = x2) with rfl | rfl | rfl
    · rw [hx0]; exact ⟨by rw [kleafP_len]; omega, kleafP_bs _⟩
    · rw [hx1]; exact ⟨by rw [kleafP_len]; omega, kleafP_bs _⟩
    · rw [hx2]; exact ⟨by rw [kleafP_len]; omega, kleafP_bs _⟩
  have HX0 := hide (hall x0 (by simp))
  have HX1 := hide (hall x1 (by simp))
  have HX2 := hide (hall x2 (by simp))
  have HXM : Hid (∀ x ∈ [x0, x1, x2], x.length ≤ 1000) := hide (fun x hx => (hall x hx).1)
  have hm1 : m1 = 3 := by obtain ⟨_, _, e, _⟩ := L1.shape; injection e
  subst hm1
  obtain ⟨rab, hrab⟩ : ∃ r, r = tnodeP x0 x1 := ⟨_, rfl⟩
  obtain ⟨rt, hrt⟩ : ∃ r, r = tnodeP rab x2 := ⟨_, rfl⟩
  obtain ⟨rn, hrn⟩ : ∃ r, r = sha [] := ⟨_, rfl⟩
  have HRT : Hid (rt = trootP [x0, x1, x2]) := by rw [trootP_three, ← hrab]; exact hrt
  have HRAB := hide hrab
  have HRTN := hide hrt
  have HRN : Hid (rn = trootP []) := by rw [trootP_nil]; exact hrn
  have HRNL : Hid (rn.length = 32) := by rw [hrn]; exact sha_len _
  have HRN0 : Hid (rn[0]? = some 227) := by rw [hrn]; exact sha_nil_at
  have HRL : Hid (rab.length ≤ 1000000 ∧ Bs rab) := by rw [hrab]; exact ⟨by rw [tnodeP_len]; omega, sha_bs _⟩
  obtain ⟨S, hS⟩ : ∃ S, S = strOfNums rt := ⟨_, rfl⟩
  have HS := hide hS
  have HLL : Hid (∀ w', Kp [] w1.drew w' → LcM [x0, x1, x2] (.slice a1 3 c1) w') := fun w' k' => L1.kept ((kp_drew w1).trans k')
  have HGL : Hid (∀ w', Kp [] w1.drew w' → Gl w') := fun w' k' => (unhide HG).kept (K1.trans ((kp_drew w1).trans k')) (by simp)
  have HK1 := hide K1
  clear A1 K1 L1 hall hx0 hx1 hx2 hrab hrt hrn hS HC
  go_wp2_with fail
  refine region_grow Tryd.mixed [Is (.slice a1 3 c1), SlT (rt), Is (.string S), Is (.slice a1 3 c1), PtT (x0), SlT (x0), Is (.slice a1 3 c1), PtT (x1), SlT (x1), SlT (rab), Is (.slice a1 3 c1), PtT (x2), SlT (x2), SlT (rt), Is (.string S), Is (.bool true), Is (.bool true), Is (.int .i64 4), Is (.bool true), Is (.bool true), Is (.bool true), SlT (rn), Is (.int .i64 32), Is (.bool true), Is (.bool true), Is (.bool true), SlT (rn), BpT (227), Is (.int .u8 227), Is (.bool true), Is (.bool true), Is (.bool true)] [[(1, none)], [(3, some 0)], [(4, some 1)], [(1, none)], [(6, some 3)], [(7, some 4)], [(1, none)], [(9, some 6)], [(10, some 7)], [(8, some 5), (11, some 8)], [(1, none)], [(13, some 10)], [(14, some 11)], [(12, some 9), (15, some 12)], [(16, some 13)], [(5, some 2), (17, some 14)], [(18, some 15)], [(19, some 16)], [(20, some 17), (19, some 16)], [(19, some 16), (21, some 18)], [(22, some 19)], [(23, some 20)], [(24, some 21), (23, some 20)], [(25, some 22), (23, some 20)], [(23, some 20), (26, some 23)], [(27, some 24)], [(28, some 25)], [(29, some 26), (28, some 25)], [(30, some 27), (28, some 25)], [(31, some 28), (28, some 25)], [(28, some 25), (32, some 29)], [(33, some 30)]] (by kernel_rfl) ?_ ?_ ?_
  · simp only [List.mem_cons, List.not_mem_nil, or_false]
    intro R hR
    rcases hR with rfl | rfl | rfl | rfl | rfl | rfl | rfl | rfl | rfl | rfl | rfl | rfl | rfl | rfl | rfl | rfl | rfl | rfl | rfl | rfl | rfl | rfl | rfl | rfl | rfl | rfl | rfl | rfl | rfl | rfl | rfl | rfl <;> first | exact stable_is _ | exact stable_sl _ | exact stable_pt _ | exact stable_bp _
  · refine steps_cons (fun a w hk hn => ?_) ?_
    · have h1 : a.eval (.tmp 1) = .slice a1 3 c1 := hn.1
      clear hn
      refine wants_plain rfl ?_
      exact grown_move (.tmp 1) rfl h1
    refine steps_cons (fun a w hk hn => ?_) ?_
    · have h3 : a.eval (.tmp 3) = .slice a1 3 c1 := hn.1
      clear hn
      refine wants_plain rfl ?_
      refine grown_call (f := 10) rfl Tryd.func10 (by kernel_rfl) (by kernel_rfl) ?_
      simp only [List.map_toArray, List.map_cons, List.map_nil, h3]
      refine (troot_any 3 _ [x0, x1, x2] rt w (unhide HRT) rfl (by omega) (unhide HLL w hk) (unhide HXM) (unhide HGL w hk)).mono ?_
      rintro e w' ⟨ao, m, c, rfl, R, K⟩
      exact ⟨_, rfl, K, R.sl⟩
    refine steps_cons (fun a w hk hn => ?_) ?_
    · have h4 : Sl w (a.eval (.tmp 4)) (rt) := hn.1
      clear hn
      refine wants_plain rfl ?_
      exact grown_conv (.tmp 4) _ _ 5 _ rfl h4 Tryd.underlying24 Tryd.underlying5 Tryd.underlying9 (congrArg Value.string (unhide HS).symm)
    refine steps_cons (fun a w hk hn => ?_) ?_
    · have h1 : a.eval (.tmp 1) = .slice a1 3 c1 := hn.1
      clear hn
      refine wants_plain rfl ?_
      exact grown_move (.tmp 1) rfl h1
    refine steps_cons (fun a w hk hn => ?_) ?_
    · have h6 : a.eval (.tmp 6) = .slice a1 3 c1 := hn.1
      clear hn
      refine wants_plain rfl ?_
      exact grown_lindex (.tmp 6) _ ([x0, x1, x2]) 0 (x0) rfl (by rw [h6]; exact unhide HLL w hk) rfl (rfl)
    refine steps_cons (fun a w hk hn => ?_) ?_
    · have h7 : (PtT (x0)) (a.eval (.tmp 7)) w := hn.1
      clear hn
      refine wants_plain rfl ?_
      exact grown_lload (.tmp 7) _ rfl h7
    refine steps_cons (fun a w hk hn => ?_) ?_
    · have h1 : a.eval (.tmp 1) = .slice a1 3 c1 := hn.1
      clear hn
      refine wants_plain rfl ?_
      exact grown_move (.tmp 1) rfl h1
    refine steps_cons (fun a w hk hn => ?_) ?_
    · have h9 : a.eval (.tmp 9) = .slice a1 3 c1 := hn.1
      clear hn
      refine wants_plain rfl ?_
      exact grown_lindex (.tmp 9) _ ([x0, x1, x2]) 1 (x1) rfl (by rw [h9]; exact unhide HLL w hk) rfl (rfl)
    refine steps_cons (fun a w hk hn => ?_) ?_
    · have h10 : (PtT (x1)) (a.eval (.tmp 10)) w := hn.1
      clear hn
      refine wants_plain rfl ?_
      exact grown_lload (.tmp 10) _ rfl h10
    refine steps_cons (fun a w hk hn => ?_) ?_
    · have h8 : Sl w (a.eval (.tmp 8)) (x0) := hn.1
      have h11 : Sl w (a.eval (.tmp 11)) (x1) := hn.2.1
      clear hn
      refine wants_plain rfl ?_
      refine grown_call (f := 21) rfl Tryd.func21 (by kernel_rfl) (by kernel_rfl) ?_
      simp only [List.map_toArray, List.map_cons, List.map_nil]
      refine (tnode_any _ _ x0 x1 rab (unhide HRAB) w h8 (unhide HX0).2 (Nat.le_trans (unhide HX0).1 (by omega)) h11 (unhide HX1).2 (Nat.le_trans (unhide HX1).1 (by omega)) (unhide HGL w hk)).mono ?_
      rintro e w' ⟨ao, m, c, rfl, R, K⟩
      exact ⟨_, rfl, K, R.sl⟩
    refine steps_cons (fun a w hk hn => ?_) ?_
    · have h1 : a.eval (.tmp 1) = .slice a1 3 c1 := hn.1
      clear hn
      refine wants_plain rfl ?_
      exact grown_move (.tmp 1) rfl h1
    refine steps_cons (fun a w hk hn => ?_) ?_
    · have h13 : a.eval (.tmp 13) = .slice a1 3 c1 := hn.1
      clear hn
      refine wants_plain rfl ?_
      exact grown_lindex (.tmp 13) _ ([x0, x1, x2]) 2 (x2) rfl (by rw [h13]; exact unhide HLL w hk) rfl (rfl)
    refine steps_cons (fun a w hk hn => ?_) ?_
    · have h14 : (PtT (x2)) (a.eval (.tmp 14)) w := hn.1
      clear hn
      refine wants_plain rfl ?_
      exact grown_lload (.tmp 14) _ rfl h14
    refine steps_cons (fun a w hk hn => ?_) ?_
    · have h12 : Sl w (a.eval (.tmp 12)) (rab) := hn.1
      have h15 : Sl w (a.eval (.tmp 15)) (x2) := hn.2.1
      clear hn
      refine wants_plain rfl ?_
      refine grown_call (f := 21) rfl Tryd.func21 (by kernel_rfl) (by kernel_rfl) ?_
      simp only [List.map_toArray, List.map_cons, List.map_nil]
      refine (tnode_any _ _ rab x2 rt (unhide HRTN) w h12 (unhide HRL).2 (unhide HRL).1 h15 (unhide HX2).2 (Nat.le_trans (unhide HX2).1 (by omega)) (unhide HGL w hk)).mono ?_
      rintro e w' ⟨ao, m, c, rfl, R, K⟩
      exact ⟨_, rfl, K, R.sl⟩
    refine steps_cons (fun a w hk hn => ?_) ?_
    · have h16 : Sl w (a.eval (.tmp 16)) (rt) := hn.1
      clear hn
      refine wants_plain rfl ?_
      exact grown_conv (.tmp 16) _ _ 5 _ rfl h16 Tryd.underlying24 Tryd.underlying5 Tryd.underlying9 (congrArg Value.string (unhide HS).symm)
    refine steps_cons (fun a w hk hn => ?_) ?_
    · have h5 : a.eval (.tmp 5) = .string S := hn.1
      have h17 : a.eval (.tmp 17) = .string S := hn.2.1
      clear hn
      refine wants_plain rfl ?_
      refine grown_run (v := .bool true) ?_ (Kp.refl _ _) rfl
      obtain ⟨ρ, hρ, hc, hf, hg⟩ := eval_is a
      rw [hρ] at h5 h17 ⊢
      simp [go_sem, h5, h17]
    refine steps_cons (fun a w hk hn => ?_) ?_
    · have h18 : a.eval (.tmp 18) = .bool true := hn.1
      clear hn
      refine wants_plain rfl ?_
      exact grown_move (.tmp 18) rfl h18
    refine steps_cons (fun a w hk hn => ?_) ?_
    · have h19 : a.eval (.tmp 19) = .bool true := hn.1
      clear hn
      refine wants_guard (d := 19) rfl rfl h19 ?_
      refine grown_call (f := 12) rfl Tryd.func12 (by kernel_rfl) (by kernel_rfl) ?_
      simp only [List.map_toArray, List.map_cons, List.map_nil]
      refine (tsplit_any 8 4 w tsplP_eight.symm (by omega)).mono ?_
      rintro e w' ⟨rfl, rfl⟩
      exact ⟨_, rfl, Kp.refl _ _, rfl⟩
    refine steps_cons (fun a w hk hn => ?_) ?_
    · have h20 : a.eval (.tmp 20) = .int .i64 4 := hn.1
      have h19 : a.eval (.tmp 19) = .bool true := hn.2.1
      clear hn
      refine wants_guard (d := 19) rfl rfl h19 ?_
      refine grown_run (v := .bool true) ?_ (Kp.refl _ _) rfl
      obtain ⟨ρ, hρ, hc, hf, hg⟩ := eval_is a
      rw [hρ] at h20 ⊢
      simp [go_sem, hc, h20]
    refine steps_cons (fun a w hk hn => ?_) ?_
    · have h19 : a.eval (.tmp 19) = .bool true := hn.1
      have h21 : a.eval (.tmp 21) = .bool true := hn.2.1
      clear hn
      refine wants_plain rfl ?_
      exact grown_pick _ _ _ true rfl h19 h21
    refine steps_cons (fun a w hk hn => ?_) ?_
    · have h22 : a.eval (.tmp 22) = .bool true := hn.1
      clear hn
      refine wants_plain rfl ?_
      exact grown_move (.tmp 22) rfl h22
    refine steps_cons (fun a w hk hn => ?_) ?_
    · have h23 : a.eval (.tmp 23) = .bool true := hn.1
      clear hn
      refine wants_guard (d := 23) rfl rfl h23 ?_
      refine grown_call (f := 10) rfl Tryd.func10 (by kernel_rfl) (by kernel_rfl) ?_
      simp only [List.map_toArray, List.map_cons, List.map_nil]
      refine (troot_any 0 _ [] rn w (unhide HRN) rfl (by omega) (lcm_nil w) (by simp) (unhide HGL w hk)).mono ?_
      rintro e w' ⟨ao, m, c, rfl, R, K⟩
      exact ⟨_, rfl, K, R.sl⟩
    refine steps_cons (fun a w hk hn => ?_) ?_
    · have h24 : Sl w (a.eval (.tmp 24)) (rn) := hn.1
      have h23 : a.eval (.tmp 23) = .bool true := hn.2.1
      clear hn
      refine wants_guard (d := 23) rfl rfl h23 ?_
      exact grown_blen (.tmp 24) (rn) 32 rfl h24 (unhide HRNL)
    refine steps_cons (fun a w hk hn => ?_) ?_
    · have h25 : a.eval (.tmp 25) = .int .i64 32 := hn.1
      have h23 : a.eval (.tmp 23) = .bool true := hn.2.1
      clear hn
      refine wants_guard (d := 23) rfl rfl h23 ?_
      refine grown_run (v := .bool true) ?_ (Kp.refl _ _) rfl
      obtain ⟨ρ, hρ, hc, hf, hg⟩ := eval_is a
      rw [hρ] at h25 ⊢
      simp [go_sem, hc, h25]
    refine steps_cons (fun a w hk hn => ?_) ?_
    · have h23 : a.eval (.tmp 23) = .bool true := hn.1
      have h26 : a.eval (.tmp 26) = .bool true := hn.2.1
      clear hn
      refine wants_plain rfl ?_
      exact grown_pick _ _ _ true rfl h23 h26
    refine steps_cons (fun a w hk hn => ?_) ?_
    · have h27 : a.eval (.tmp 27) = .bool true := hn.1
      clear hn
      refine wants_plain rfl ?_
      exact grown_move (.tmp 27) rfl h27
    refine steps_cons (fun a w hk hn => ?_) ?_
    · have h28 : a.eval (.tmp 28) = .bool true := hn.1
      clear hn
      refine wants_guard (d := 28) rfl rfl h28 ?_
      refine grown_call (f := 10) rfl Tryd.func10 (by kernel_rfl) (by kernel_rfl) ?_
      simp only [List.map_toArray, List.map_cons, List.map_nil]
      refine (troot_any 0 _ [] rn w (unhide HRN) rfl (by omega) (lcm_nil w) (by simp) (unhide HGL w hk)).mono ?_
      rintro e w' ⟨ao, m, c, rfl, R, K⟩
      exact ⟨_, rfl, K, R.sl⟩
    refine steps_cons (fun a w hk hn => ?_) ?_
    · have h29 : Sl w (a.eval (.tmp 29)) (rn) := hn.1
      have h28 : a.eval (.tmp 28) = .bool true := hn.2.1
      clear hn
      refine wants_guard (d := 28) rfl rfl h28 ?_
      exact grown_bindex (.tmp 29) _ (rn) 0 (227) rfl h29 rfl (unhide HRN0)
    refine steps_cons (fun a w hk hn => ?_) ?_
    · have h30 : (BpT (227)) (a.eval (.tmp 30)) w := hn.1
      have h28 : a.eval (.tmp 28) = .bool true := hn.2.1
      clear hn
      refine wants_guard (d := 28) rfl rfl h28 ?_
      exact grown_bload (.tmp 30) _ rfl h30
    refine steps_cons (fun a w hk hn => ?_) ?_
    · have h31 : a.eval (.tmp 31) = .int .u8 227 := hn.1
      have h28 : a.eval (.tmp 28) = .bool true := hn.2.1
      clear hn
      refine wants_guard (d := 28) rfl rfl h28 ?_
      refine grown_run (v := .bool true) ?_ (Kp.refl _ _) rfl
      obtain ⟨ρ, hρ, hc, hf, hg⟩ := eval_is a
      rw [hρ] at h31 ⊢
      simp [go_sem, hc, h31]
    refine steps_cons (fun a w hk hn => ?_) ?_
    · have h28 : a.eval (.tmp 28) = .bool true := hn.1
      have h32 : a.eval (.tmp 32) = .bool true := hn.2.1
      clear hn
      refine wants_plain rfl ?_
      exact grown_pick _ _ _ true rfl h28 h32
    refine steps_cons (fun a w hk hn => ?_) ?_
    · have h33 : a.eval (.tmp 33) = .bool true := hn.1
      clear hn
      refine wants_plain rfl ?_
      exact grown_assign (.tmp 33) rfl h33
    exact trivial
  intro W1 hkW1
  rintro _ rfl
  intro v4 h4
  rintro _ rfl
  rintro _ rfl
  intro v7 h7
  intro v8 h8
  rintro _ rfl
  intro v10 h10
  intro v11 h11
  intro v12 h12
  rintro _ rfl
  intro v14 h14
  intro v15 h15
  intro v16 h16
  rintro _ rfl
  rintro _ rfl
  rintro _ rfl
  rintro _ rfl
  rintro _ rfl
  rintro _ rfl
  rintro _ rfl
  intro v24 h24
  rintro _ rfl
  rintro _ rfl
  rintro _ rfl
  rintro _ rfl
  intro v29 h29
  intro v30 h30
  rintro _ rfl
  rintro _ rfl
  rintro _ rfl
  rintro _ rfl
  refine fin_nil ?_
  simp only [Act.put, List.set_cons_zero, List.set_cons_succ, List.setIfInBounds_toArray]
  go_wp2_with fail
  go_ret
  exact ⟨rfl, (unhide HK1).trans ((kp_drew w1).trans hkW1)⟩
end Go.Proofs.YtpiekmflfgpalaaDoor
