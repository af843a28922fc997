/-
  The contract of the law package's same.
-/
import Derived.Test.YtiabccgabbdedaaDoorKCLaw
import Derived.Test.YtiabccgabbdedaaDoorKCRoot
namespace Go.Proofs.YtiabccgabbdedaaDoor
open Go.RowKit
open Go.Proofs

set_option maxHeartbeats 1000000 in
theorem gat_same1 (w W W1 : World) (g : Nat) (ns : List (List Int)) (vx : Value) (x : List Int) (h : Gat w g 24 ns W) (hg : w.heap.size ≤ g) (k : Kp [] W W1) (hr : Row W1 W.heap.size vx x) (hB : Bs x) (hl : ns.length ≤ 90000) :
    Calls Tryd.prog 24 #[vx, .pointer (some ⟨g, 0, none⟩)] W1 fun e W2 => e = .returned (.tuple #[]) ∧ Gat w g 24 (ns ++ [x]) W2 := by
  obtain ⟨ao, m, c, hgt, l, hP, hns, hK⟩ := h
  have hP1 := hP.kept k
  have hg1 := k.heap hgt (by simp)
  obtain ⟨ax, cx, ex⟩ := hr.shape
  have hll : l.length = ns.length := by rw [← hns]; simp
  have hne : (Value.slice ao m c).ownBlock ≠ some g := fun e => by
    obtain ⟨c2, e⟩ := rowv_type hP1.1 e
    rw [hg1] at e
    injection e with e
    injection e with _ e
    cases e
  have FIN : Hid (∀ w1 ao2 m2 c2, RowV w1 w.heap.size (.slice ao2 m2 c2) (l.map (·.1) ++ [vx]) → RStep W1 (.slice ao m c) w1 (.slice ao2 m2 c2) → Gat w g 24 (ns ++ [x]) (w1.setCell ⟨g, 0, none⟩ (.slice ao2 m2 c2))) := fun w1 ao2 m2 c2 r s =>
    Gat.step hP hns hK hgt hg (by decide) (by decide) k hr hB r s
  obtain ⟨nx, hnx⟩ : ∃ nx, nx = x.length := ⟨_, rfl⟩
  rw [← hnx] at ex
  subst ex
  have hc0 := (one_cell hg1).1
  have HR := hide (hP1.1.kept ((Kp.refl [] W1).alloc (.cells #[.slice ax nx cx] 28)) (by simp))
  have hone := cell_one W1 (.slice ax nx cx) 28
  have HBZ : Hid (w.heap.size ≤ (W1.alloc (.cells #[.slice ax nx cx] 28)).heap.size) := hide (by have := hK.size; have := k.size; simp; omega)
  have HL : Hid ((l.map (·.1)).length + [Value.slice ax nx cx].length ≤ 1000000000) := hide (by simp; omega)
  have HK := hide ((Kp.refl [] W1).alloc (.cells #[.slice ax nx cx] 28))
  have HF : Hid (∀ W2, Kp ((Value.slice ao m c).ownBlock.toList) W1 W2 → W2.cell? ⟨g, 0, none⟩ = some (.slice ao m c) ∧ W2.frozen? ⟨g, 0, none⟩ = false) := fun W2 kk => one_cell (kk.heap hg1 (by simpa [Option.mem_toList] using hne))
  clear hgt hP hns hK hP1 hg1 hll hne k hr hB hl hg hnx
  go_enter Tryd.func24, Tryd.ntmps24
  go_wp2_with (at_builtin; refine wpList_append_rowt rfl (.tmp 3) (.tmp 5) 24 Tryd.underlying24 rfl w.heap.size _ _ rfl (unhide HR) ⟨W1.heap.size, 0, none⟩ 1 [.slice ax nx cx] rfl hone (by simp [Value.oneCell']) (unhide HL) (unhide HBZ) ?_; intro ao2 m2 c2 w2 r2 s2; have s2' := s2.after (unhide HK); obtain ⟨c2e, f2e⟩ := unhide HF w2 s2'.1)
  go_end0
  exact ⟨rfl, unhide FIN w2 ao2 m2 c2 r2 s2'⟩

set_option maxRecDepth 100000 in
set_option maxHeartbeats 4000000 in
theorem same_any (p : Nat) (v : Value) (base : Nat) (lr : List (Value × List Int)) (vl : Value) (ls : List (List Int)) (w : World) (h : Rg w base p v ls.length lr) (hns : lr.map (·.2) = cndP 21 ls) (hL : LcM ls vl w) (hn : ls.length ≤ 1000) (hm : ∀ x ∈ ls, x.length ≤ 1000) (hG : Gl w) :
    Calls Tryd.prog 11 #[.pointer (some ⟨p, 0, none⟩), vl] w fun e w' => e = .returned (.bool true) ∧ Kp [] w w' := by
  have hln : ls.length < 2 ^ 21 := by omega
  have hlr : lr.length ≤ 21 := by
    have e : lr.length = (cndP 21 ls).length := by rw [← hns]; simp
    rw [e, cndP_len 21 ls hln]
    exact onesP_le 21 _ hln
  have hll : ∀ y ∈ lr, y.2.length ≤ 1000 := fun y hy => by
    have : y.2 ∈ lr.map (·.2) := List.mem_map_of_mem hy
    rw [hns] at this
    exact cndP_all (fun x => x.length ≤ 1000) (fun bs => by show (sha bs).length ≤ 1000; rw [sha_len]; omega) 21 ls hm _ this
  have HE := hide (each_gat p v ls.length base lr w h (by omega) hll 24 #[] #[.pointer (some ⟨w.heap.size, 0, none⟩)] (enters_of Tryd.func24 (by kernel_rfl) rfl) 24 (fun ns W W1 a m c x hG k hr hB hn => by
    refine (gat_same1 w W W1 w.heap.size ns _ x hG (Nat.le_refl _) k hr hB hn).mono ?_
    rintro e W2 ⟨rfl, hG2⟩
    exact ⟨_, rfl, hG2⟩))
  rw [hns] at HE
  obtain ⟨ns, hnsE⟩ : ∃ ns, ns = cndP 21 ls := ⟨_, rfl⟩
  rw [← hnsE] at HE
  have hnl : ns.length ≤ 21 := by rw [hnsE, cndP_len 21 ls hln]; exact onesP_le 21 _ hln
  have HNL := hide hnl
  obtain ⟨r, hr⟩ : ∃ r, r = trootP ls := ⟨_, rfl⟩
  have hrf : r = cfoldP (lr.map (·.2)) := by rw [hns, cfoldP_cnd 21 ls hln, hr]
  have HH := hide h
  have HL := hide hL
  have HG := hide hG
  have HM := hide hm
  have HR := hide hr
  have HRF := hide hrf
  have HLL := hide hll
  have HNS : Hid (lr.map (·.2) = ns) := hide (by rw [hns, hnsE])
  have HLND := fun W (k : Kp [] w W) => lnodes_any vl ls W (hL.kept k) hn hm
  rw [← hnsE] at HLND
  have HLND2 := hide HLND
  obtain ⟨al, cl, e, -⟩ := hL.shape
  obtain ⟨N, hN⟩ : ∃ N, N = ls.length := ⟨_, rfl⟩
  rw [← hN] at e hn HH
  subst e
  have HN := hide hN
  obtain ⟨S, hSS⟩ : ∃ S, S = strOfNums r := ⟨_, rfl⟩
  have HS := hide hSS
  clear h hL hG hm hr hrf hll hns hnsE HLND hN hln hSS hnl
  go_enter Tryd.func11, Tryd.ntmps11
  go_wp2_with fail
  refine (unhide HE).mono ?_
  rintro ee w2 ⟨rfl, ae, me, ce, hge, hAe⟩
  have HGE := hide hge
  have HAE := hide hAe
  have HC := hide (unhide HLND2 w2 hAe.kp)
  clear HE hge hAe
  obtain ⟨g, hg⟩ : ∃ g, g = w.heap.size := ⟨_, rfl⟩
  rw [← hg] at HGE ⊢
  clear hg
  go_wp2_with fail
  refine (unhide HC).mono ?_
  rintro ee w3 ⟨an, mn, cn, rfl, hAn⟩
  have K3 := (unhide HAE).kp.trans hAn.kp
  have HK3 := hide K3
  have HNN : Hid (∀ w', Kp [] w3.drew w' → LsM ns (.slice an mn cn) w') := fun w' k' => ((hAn.lcm (by have := unhide HNL; omega)).kept ((kp_drew w3).trans k')).lsm
  have HEE : Hid (∀ w', Kp [] w3.drew w' → LsM ns (.slice ae me ce) w') := fun w' k' => by
    obtain ⟨l, h1, h2⟩ := (unhide HAE).lc (by have := unhide HNL; omega)
    exact ⟨l, (h1.kept (hAn.kp.trans ((kp_drew w3).trans k'))).1, h2⟩
  have HCE : Hid (∀ w', Kp [] w3.drew w' → w'.cell? ⟨g, 0, none⟩ = some (.slice ae me ce)) := fun w' k' => (one_cell ((hAn.kp.trans ((kp_drew w3).trans k')).heap (unhide HGE) (by simp))).1
  have HRG : Hid (∀ w', Kp [] w3.drew w' → Rg w' base p v N lr) := fun w' k' => (unhide HH).keptN (K3.trans ((kp_drew w3).trans k'))
  have HLW : Hid (∀ w', Kp [] w3.drew w' → LcM ls (.slice al N cl) w') := fun w' k' => (unhide HL).kept (K3.trans ((kp_drew w3).trans k'))
  have HGW : Hid (∀ w', Kp [] w3.drew w' → Gl w') := fun w' k' => (unhide HG).kept (K3.trans ((kp_drew w3).trans k')) (by simp)
  have HNL2 : Hid (ns.length ≤ 1000) := hide (by have := unhide HNL; omega)
  clear HC hAn K3 HAE HGE HH HL HG
  go_wp2_with fail
  refine region_grow Tryd.mixed [Is (.pointer (some ⟨p, 0, none⟩)), Is (.int .i64 N), Is (.slice al N cl), Is (.int .i64 N), Is (.bool true), Is (.bool true), Is (.pointer (some ⟨p, 0, none⟩)), LsM ns, Is (.slice an mn cn), Is (.bool true), Is (.bool true), Is (.bool true), Is (.slice ae me ce), Is (.slice an mn cn), Is (.bool true), Is (.bool true), Is (.bool true), Is (.pointer (some ⟨p, 0, none⟩)), SlT (r), Is (.string S), Is (.slice al N cl), SlT (r), Is (.string S), Is (.bool true), Is (.bool true), Is (.bool true)] [[(0, none)], [(12, some 0)], [(1, none)], [(14, some 2)], [(13, some 1), (15, some 3)], [(16, some 4)], [(0, none), (17, some 5)], [(18, some 6), (17, some 5)], [(6, none), (17, some 5)], [(19, some 7), (20, some 8), (17, some 5)], [(17, some 5), (21, some 9)], [(22, some 10)], [(5, none), (23, some 11)], [(6, none), (23, some 11)], [(24, some 12), (25, some 13), (23, some 11)], [(23, some 11), (26, some 14)], [(27, some 15)], [(0, none), (28, some 16)], [(29, some 17), (28, some 16)], [(30, some 18), (28, some 16)], [(1, none), (28, some 16)], [(32, some 20), (28, some 16)], [(33, some 21), (28, some 16)], [(31, some 19), (34, some 22), (28, some 16)], [(28, some 16), (35, some 23)], [(36, some 24)]] (by kernel_rfl) ?_ ?_ ?_
  · simp only [List.mem_cons, List.not_mem_nil, or_false]
    intro R hR
    rcases hR with rfl | rfl | rfl | rfl | rfl | rfl | rfl | rfl | rfl | rfl | rfl | rfl | rfl | rfl | rfl | rfl | rfl | rfl | rfl | rfl | rfl | rfl | rfl | rfl | rfl | rfl <;> first | exact stable_is _ | exact stable_lsm _ | exact stable_sl _
  · refine steps_cons (fun a w hk hn => ?_) ?_
    · have h0 : a.eval (.tmp 0) = .pointer (some ⟨p, 0, none⟩) := hn.1
      clear hn
      refine wants_plain rfl ?_
      exact grown_move (.tmp 0) rfl h0
    refine steps_cons (fun a w hk hn => ?_) ?_
    · have h12 : a.eval (.tmp 12) = .pointer (some ⟨p, 0, none⟩) := hn.1
      clear hn
      refine wants_plain rfl ?_
      refine grown_call (f := 17) rfl Tryd.func17 (by kernel_rfl) (by kernel_rfl) ?_
      simp only [List.map_toArray, List.map_cons, List.map_nil, h12]
      refine (size_any p v N base lr w (unhide HRG w hk) (by omega)).mono ?_
      rintro e w' ⟨rfl, rfl⟩
      exact ⟨_, rfl, Kp.refl _ _, rfl⟩
    refine steps_cons (fun a w hk hn => ?_) ?_
    · have h1 : a.eval (.tmp 1) = .slice al N cl := hn.1
      clear hn
      refine wants_plain rfl ?_
      exact grown_move (.tmp 1) rfl h1
    refine steps_cons (fun a w hk hn => ?_) ?_
    · have h14 : a.eval (.tmp 14) = .slice al N cl := hn.1
      clear hn
      refine wants_plain rfl ?_
      refine grown_run (v := .int .i64 N) ?_ (Kp.refl _ _) rfl
      obtain ⟨ρ, hρ, hc, hf, hg⟩ := eval_is a
      rw [hρ] at h14 ⊢
      simp [go_sem, h14]
    refine steps_cons (fun a w hk hn => ?_) ?_
    · have h13 : a.eval (.tmp 13) = .int .i64 N := hn.1
      have h15 : a.eval (.tmp 15) = .int .i64 N := hn.2.1
      clear hn
      refine wants_plain rfl ?_
      refine grown_run (v := .bool true) ?_ (Kp.refl _ _) rfl
      obtain ⟨ρ, hρ, hc, hf, hg⟩ := eval_is a
      rw [hρ] at h13 h15 ⊢
      simp [go_sem, h13, h15]
    refine steps_cons (fun a w hk hn => ?_) ?_
    · have h16 : a.eval (.tmp 16) = .bool true := hn.1
      clear hn
      refine wants_plain rfl ?_
      exact grown_move (.tmp 16) rfl h16
    refine steps_cons (fun a w hk hn => ?_) ?_
    · have h0 : a.eval (.tmp 0) = .pointer (some ⟨p, 0, none⟩) := hn.1
      have h17 : a.eval (.tmp 17) = .bool true := hn.2.1
      clear hn
      refine wants_guard (d := 17) rfl rfl h17 ?_
      exact grown_move (.tmp 0) rfl h0
    refine steps_cons (fun a w hk hn => ?_) ?_
    · have h18 : a.eval (.tmp 18) = .pointer (some ⟨p, 0, none⟩) := hn.1
      have h17 : a.eval (.tmp 17) = .bool true := hn.2.1
      clear hn
      refine wants_guard (d := 17) rfl rfl h17 ?_
      refine grown_call (f := 18) rfl Tryd.func18 (by kernel_rfl) (by kernel_rfl) ?_
      simp only [List.map_toArray, List.map_cons, List.map_nil, h18]
      refine (nodes_any p v N base lr ns (unhide HNS) w (unhide HRG w hk) (by omega) (unhide HLL)).mono ?_
      rintro e w' ⟨ao, m, c, rfl, A⟩
      exact ⟨_, rfl, A.kp, A.lists (unhide HNL2)⟩
    refine steps_cons (fun a w hk hn => ?_) ?_
    · have h6 : a.eval (.tmp 6) = .slice an mn cn := hn.1
      have h17 : a.eval (.tmp 17) = .bool true := hn.2.1
      clear hn
      refine wants_guard (d := 17) rfl rfl h17 ?_
      exact grown_move (.tmp 6) rfl h6
    refine steps_cons (fun a w hk hn => ?_) ?_
    · have h19 : (LsM ns) (a.eval (.tmp 19)) w := hn.1
      have h20 : a.eval (.tmp 20) = .slice an mn cn := hn.2.1
      have h17 : a.eval (.tmp 17) = .bool true := hn.2.2.1
      clear hn
      refine wants_guard (d := 17) rfl rfl h17 ?_
      refine grown_call (f := 20) rfl Tryd.func20 (by kernel_rfl) (by kernel_rfl) ?_
      simp only [List.map_toArray, List.map_cons, List.map_nil, h20]
      refine (lists_lsm h19 (unhide HNN w hk)).mono ?_
      rintro e w' ⟨rfl, K⟩
      exact ⟨_, rfl, K, rfl⟩
    refine steps_cons (fun a w hk hn => ?_) ?_
    · have h17 : a.eval (.tmp 17) = .bool true := hn.1
      have h21 : a.eval (.tmp 21) = .bool true := hn.2.1
      clear hn
      refine wants_plain rfl ?_
      exact grown_pick _ _ _ true rfl h17 h21
    refine steps_cons (fun a w hk hn => ?_) ?_
    · have h22 : a.eval (.tmp 22) = .bool true := hn.1
      clear hn
      refine wants_plain rfl ?_
      exact grown_move (.tmp 22) rfl h22
    refine steps_cons (fun a w hk hn => ?_) ?_
    · have h5 : a.eval (.tmp 5) = .pointer (some ⟨g, 0, none⟩) := hn.1
      have h23 : a.eval (.tmp 23) = .bool true := hn.2.1
      clear hn
      refine wants_guard (d := 23) rfl rfl h23 ?_
      refine grown_run (v := .slice ae me ce) ?_ (Kp.refl _ _) rfl
      have hcell := unhide HCE w hk
      obtain ⟨ρ, hρ, hc, hf, hg⟩ := eval_is a
      rw [hρ] at h5 ⊢
      simp [go_sem, h5, hcell]
    refine steps_cons (fun a w hk hn => ?_) ?_
    · have h6 : a.eval (.tmp 6) = .slice an mn cn := hn.1
      have h23 : a.eval (.tmp 23) = .bool true := hn.2.1
      clear hn
      refine wants_guard (d := 23) rfl rfl h23 ?_
      exact grown_move (.tmp 6) rfl h6
    refine steps_cons (fun a w hk hn => ?_) ?_
    · have h24 : a.eval (.tmp 24) = .slice ae me ce := hn.1
      have h25 : a.eval (.tmp 25) = .slice an mn cn := hn.2.1
      have h23 : a.eval (.tmp 23) = .bool true := hn.2.2.1
      clear hn
      refine wants_guard (d := 23) rfl rfl h23 ?_
      refine grown_call (f := 20) rfl Tryd.func20 (by kernel_rfl) (by kernel_rfl) ?_
      simp only [List.map_toArray, List.map_cons, List.map_nil, h24, h25]
      refine (lists_lsm (unhide HEE w hk) (unhide HNN w hk)).mono ?_
      rintro e w' ⟨rfl, K⟩
      exact ⟨_, rfl, K, rfl⟩
    refine steps_cons (fun a w hk hn => ?_) ?_
    · have h23 : a.eval (.tmp 23) = .bool true := hn.1
      have h26 : a.eval (.tmp 26) = .bool true := hn.2.1
      clear hn
      refine wants_plain rfl ?_
      exact grown_pick _ _ _ true rfl h23 h26
    refine steps_cons (fun a w hk hn => ?_) ?_
    · have h27 : a.eval (.tmp 27) = .bool true := hn.1
      clear hn
      refine wants_plain rfl ?_
      exact grown_move (.tmp 27) rfl h27
    refine steps_cons (fun a w hk hn => ?_) ?_
    · have h0 : a.eval (.tmp 0) = .pointer (some ⟨p, 0, none⟩) := hn.1
      have h28 : a.eval (.tmp 28) = .bool true := hn.2.1
      clear hn
      refine wants_guard (d := 28) rfl rfl h28 ?_
      exact grown_move (.tmp 0) rfl h0
    refine steps_cons (fun a w hk hn => ?_) ?_
    · have h29 : a.eval (.tmp 29) = .pointer (some ⟨p, 0, none⟩) := hn.1
      have h28 : a.eval (.tmp 28) = .bool true := hn.2.1
      clear hn
      refine wants_guard (d := 28) rfl rfl h28 ?_
      refine grown_call (f := 19) rfl Tryd.func19 (by kernel_rfl) (by kernel_rfl) ?_
      simp only [List.map_toArray, List.map_cons, List.map_nil, h29]
      refine (root_any p v N base lr r (unhide HRF) w (unhide HRG w hk) (by omega) (unhide HLL) (unhide HGW w hk)).mono ?_
      rintro e w' ⟨ao, m, c, rfl, R, K⟩
      exact ⟨_, rfl, K, R.sl⟩
    refine steps_cons (fun a w hk hn => ?_) ?_
    · have h30 : Sl w (a.eval (.tmp 30)) (r) := hn.1
      have h28 : a.eval (.tmp 28) = .bool true := hn.2.1
      clear hn
      refine wants_guard (d := 28) rfl rfl h28 ?_
      exact grown_conv (.tmp 30) _ _ 5 _ rfl h30 Tryd.underlying28 Tryd.underlying5 Tryd.underlying9 (congrArg Value.string (unhide HS).symm)
    refine steps_cons (fun a w hk hn => ?_) ?_
    · have h1 : a.eval (.tmp 1) = .slice al N cl := hn.1
      have h28 : a.eval (.tmp 28) = .bool true := hn.2.1
      clear hn
      refine wants_guard (d := 28) rfl rfl h28 ?_
      exact grown_move (.tmp 1) rfl h1
    refine steps_cons (fun a w hk hn => ?_) ?_
    · have h32 : a.eval (.tmp 32) = .slice al N cl := hn.1
      have h28 : a.eval (.tmp 28) = .bool true := hn.2.1
      clear hn
      refine wants_guard (d := 28) rfl rfl h28 ?_
      refine grown_call (f := 26) rfl Tryd.func26 (by kernel_rfl) (by kernel_rfl) ?_
      simp only [List.map_toArray, List.map_cons, List.map_nil, h32]
      refine (rroot_any N _ ls r w (unhide HR) (unhide HN).symm (by omega) (unhide HLW w hk) (unhide HM)).mono ?_
      rintro e w' ⟨ao, m, c, rfl, R, K⟩
      exact ⟨_, rfl, K, R⟩
    refine steps_cons (fun a w hk hn => ?_) ?_
    · have h33 : Sl w (a.eval (.tmp 33)) (r) := hn.1
      have h28 : a.eval (.tmp 28) = .bool true := hn.2.1
      clear hn
      refine wants_guard (d := 28) rfl rfl h28 ?_
      exact grown_conv (.tmp 33) _ _ 5 _ rfl h33 Tryd.underlying28 Tryd.underlying5 Tryd.underlying9 (congrArg Value.string (unhide HS).symm)
    refine steps_cons (fun a w hk hn => ?_) ?_
    · have h31 : a.eval (.tmp 31) = .string S := hn.1
      have h34 : a.eval (.tmp 34) = .string S := hn.2.1
      have h28 : a.eval (.tmp 28) = .bool true := hn.2.2.1
      clear hn
      refine wants_guard (d := 28) rfl rfl h28 ?_
      refine grown_run (v := .bool true) ?_ (Kp.refl _ _) rfl
      obtain ⟨ρ, hρ, hc, hf, hg⟩ := eval_is a
      rw [hρ] at h31 h34 ⊢
      simp [go_sem, h31, h34]
    refine steps_cons (fun a w hk hn => ?_) ?_
    · have h28 : a.eval (.tmp 28) = .bool true := hn.1
      have h35 : a.eval (.tmp 35) = .bool true := hn.2.1
      clear hn
      refine wants_plain rfl ?_
      exact grown_pick _ _ _ true rfl h28 h35
    refine steps_cons (fun a w hk hn => ?_) ?_
    · have h36 : a.eval (.tmp 36) = .bool true := hn.1
      clear hn
      refine wants_plain rfl ?_
      exact grown_assign (.tmp 36) rfl h36
    exact trivial
  intro W1 hkW1
  rintro _ rfl
  rintro _ rfl
  rintro _ rfl
  rintro _ rfl
  rintro _ rfl
  rintro _ rfl
  rintro _ rfl
  intro v19 h19
  rintro _ rfl
  rintro _ rfl
  rintro _ rfl
  rintro _ rfl
  rintro _ rfl
  rintro _ rfl
  rintro _ rfl
  rintro _ rfl
  rintro _ rfl
  rintro _ rfl
  intro v30 h30
  rintro _ rfl
  rintro _ rfl
  intro v33 h33
  rintro _ rfl
  rintro _ rfl
  rintro _ rfl
  rintro _ rfl
  refine fin_nil ?_
  simp only [Act.put, List.set_cons_zero, List.set_cons_succ, List.setIfInBounds_toArray]
  have HK4 := hide ((unhide HK3).trans ((kp_drew w3).trans hkW1))
  clear h19 h30 h33 hkW1 HNN HEE HCE HRG HLW HGW
  go_wp2_with fail
  go_ret
  exact ⟨rfl, unhide HK4⟩
end Go.Proofs.YtiabccgabbdedaaDoor
