/-
  The contracts of package ledger: Find, signNow, Publish, Last.
-/
import Derived.Test.YtillhpgdlmeajaaGreatDoorKUMix
namespace Go.Proofs.YtillhpgdlmeajaaGreatDoor
open Go.RowKit
open Go.Proofs
open Go.Proofs.YtillhpgdlmeajaaGreatDoor.umix
set_option linter.unusedVariables false

theorem Stp.aside {F F' : Nat → Prop} {w w1 w2 : World} {T : List Nat} (h : Stp F w w1 F') (k : Kp T w1 w2) (hT : ∀ i ∈ T, w.heap.size ≤ i) : Stp F w w2 F' := by
  obtain ⟨⟨U, hU, kU⟩, h2⟩ := h
  exact ⟨⟨U, hU, kU.then k (fun i hi => .inr (hT i hi))⟩, fun i hi => (h2 i hi).imp id (fun h => ⟨h.1, Nat.lt_of_lt_of_le h.2 k.size⟩)⟩
theorem Tryz.ledSize : (Tryz.prog.info? 99).map (·.size) = some 5 := by kernel_rfl
section
variable {w0 w : World} {l pd pk : Nat} {S : LS} {f : Fps}
set_option maxRecDepth 100000 in
set_option maxHeartbeats 2000000 in
theorem ufind_any (h : Lg w0 w l pd pk S f) (vx : Value) (x : List Int) (hS : Sl w vx x) (hB : Bs x) (hl : x.length ≤ 65535) (b : Bool) (hb : b = decide (x ∈ S.its)) (c : Int) (hc : c = if b then (S.its.idxOf x : Int) else 0) :
    Calls Tryz.prog 103 #[.pointer (some ⟨l, 0, none⟩), vx] w fun e w' => e = .returned (.tuple #[.int .i64 c, .bool b]) ∧ Kp [] w w' := by
  obtain ⟨j, s, q, vs, pv, hx⟩ := h
  obtain ⟨av, cv, hvs, -⟩ := hx.sd
  obtain ⟨nv, hnv⟩ : ∃ n, n = S.seed.length := ⟨_, rfl⟩
  rw [← hnv] at hvs
  subst hvs
  have HAt : Hid (∀ w', Kp [] w.drew w' → Fv 99 w' l (.func (.func 44) #[.pointer (some ⟨j, 0, none⟩)] #[]) (.pointer (some ⟨s, 0, none⟩)) (.pointer (some ⟨q, 0, none⟩)) (.slice av nv cv) pv) := fun w' k => hx.at_.kept ((kp_drew w).trans k) (by simp)
  have HSh : Hid (∀ w', Kp [] w.drew w' → Sh w' s S.its (f 4)) := fun w' k => hx.sh.kept ((kp_drew w).trans k) (by simp)
  have HCv : Hid (∀ w', Kp [] w.drew w' → (convert 22 9 vx).run Tryz.prog w' = .ok (.string (strOfNums x)) w') := fun w' k => (hS.kept ((kp_drew w).trans k) (by simp)).conv (P := Tryz.prog) 22 9 5 Tryz.underlying22 Tryz.underlying5 Tryz.underlying9
  obtain ⟨ax, cx, hvx, -⟩ := hS
  obtain ⟨nx, hnx⟩ : ∃ n, n = x.length := ⟨_, rfl⟩
  rw [← hnx] at hvx
  subst hvx
  have HB := hide hB
  have HL := hide hl
  have HBb := hide hb
  have HCc := hide hc
  clear hx hB hl hb hc hnv hnx
  go_enter Tryz.func103, Tryz.ntmps103
  go_wp2_with fail
  refine region_grow Tryz.mixed [Is (.pointer (some ⟨l, 0, none⟩)), Is (.pointer (some ⟨l, 0, none⟩)), Is (.pointer (some ⟨l, 1, none⟩)), Is (.pointer (some ⟨s, 0, none⟩)), Is (.slice ax nx cx), Is (.string (strOfNums x)), Is (.tuple #[.int .i64 c, .bool b]), Is (.int .i64 c), Is (.bool b), Is (.int .i64 c), Is (.bool b)] [[(0, none)], [(6, some 0)], [(7, some 1)], [(8, some 2)], [(1, none)], [(10, some 4)], [(9, some 3), (11, some 5)], [(12, some 6)], [(12, some 6)], [(13, some 7)], [(14, some 8)]] (by kernel_rfl) ?_ ?_ ?_
  · simp only [List.mem_cons, List.not_mem_nil, or_false]
    intro R hR
    rcases hR with rfl | rfl | rfl | rfl | rfl | rfl | rfl | rfl | rfl | rfl | rfl <;> first | exact stable_is _
  · refine steps_cons (fun a w hk hn => ?_) ?_
    · have h0 : a.eval (.tmp 0) = .pointer (some ⟨l, 0, none⟩) := hn.1
      clear hn
      refine wants_plain rfl ?_
      exact grown_move (.tmp 0) rfl h0
    refine steps_cons (fun a w hk hn => ?_) ?_
    · have h6 : a.eval (.tmp 6) = .pointer (some ⟨l, 0, none⟩) := hn.1
      clear hn
      refine wants_plain rfl ?_
      refine grown_run (v := .pointer (some ⟨l, 0, none⟩)) ?_ (Kp.refl _ _) rfl
      obtain ⟨ρ, hρ, hc, hf, hg⟩ := eval_is a
      rw [hρ] at h6 ⊢
      simp [go_sem, h6]
    refine steps_cons (fun a w hk hn => ?_) ?_
    · have h7 : a.eval (.tmp 7) = .pointer (some ⟨l, 0, none⟩) := hn.1
      clear hn
      refine wants_plain rfl ?_
      refine grown_run (v := .pointer (some ⟨l, 1, none⟩)) ?_ (Kp.refl _ _) rfl
      obtain ⟨ρ, hρ, hc, hf, hg⟩ := eval_is a
      rw [hρ] at h7 ⊢
      simp [go_sem, h7]
    refine steps_cons (fun a w hk hn => ?_) ?_
    · have h8 : a.eval (.tmp 8) = .pointer (some ⟨l, 1, none⟩) := hn.1
      clear hn
      refine wants_plain rfl ?_
      refine grown_run (v := .pointer (some ⟨s, 0, none⟩)) ?_ (Kp.refl _ _) rfl
      have hcell : w.cell? ⟨l, 1, none⟩ = some (.pointer (some ⟨s, 0, none⟩)) := by rw [cell_of_row w l 1 _ _ _ (HAt.out w hk)]; rfl
      obtain ⟨ρ, hρ, hc, hf, hg⟩ := eval_is a
      rw [hρ] at h8 ⊢
      simp [go_sem, h8, hcell]
    refine steps_cons (fun a w hk hn => ?_) ?_
    · have h1 : a.eval (.tmp 1) = .slice ax nx cx := hn.1
      clear hn
      refine wants_plain rfl ?_
      exact grown_move (.tmp 1) rfl h1
    refine steps_cons (fun a w hk hn => ?_) ?_
    · have h10 : a.eval (.tmp 10) = .slice ax nx cx := hn.1
      clear hn
      refine wants_plain rfl ?_
      refine grown_run (v := .string (strOfNums x)) ?_ (Kp.refl _ _) rfl
      obtain ⟨ρ, hρ, hc, hf, hg⟩ := eval_is a
      rw [hρ] at h10 ⊢
      simp [go_sem, h10, HCv.out w hk]
    refine steps_cons (fun a w hk hn => ?_) ?_
    · have h9 : a.eval (.tmp 9) = .pointer (some ⟨s, 0, none⟩) := hn.1
      have h11 : a.eval (.tmp 11) = .string (strOfNums x) := hn.2.1
      clear hn
      refine wants_plain rfl ?_
      refine grown_call (f := 97) rfl Tryz.func97 (by kernel_rfl) (by kernel_rfl) ?_
      simp only [List.map_toArray, List.map_cons, List.map_nil, h9, h11]
      refine (find_any (HSh.out w hk) x HB.out HL.out b HBb.out c HCc.out).mono ?_
      rintro e w' ⟨rfl, rfl⟩
      exact ⟨_, rfl, Kp.refl _ _, rfl⟩
    refine steps_cons (fun a w hk hn => ?_) ?_
    · have h12 : a.eval (.tmp 12) = .tuple #[.int .i64 c, .bool b] := hn.1
      clear hn
      refine wants_plain rfl ?_
      refine grown_run (v := .int .i64 c) ?_ (Kp.refl _ _) rfl
      obtain ⟨ρ, hρ, hc, hf, hg⟩ := eval_is a
      rw [hρ] at h12 ⊢
      simp [go_sem, h12]
    refine steps_cons (fun a w hk hn => ?_) ?_
    · have h12 : a.eval (.tmp 12) = .tuple #[.int .i64 c, .bool b] := hn.1
      clear hn
      refine wants_plain rfl ?_
      refine grown_run (v := .bool b) ?_ (Kp.refl _ _) rfl
      obtain ⟨ρ, hρ, hc, hf, hg⟩ := eval_is a
      rw [hρ] at h12 ⊢
      simp [go_sem, h12]
    refine steps_cons (fun a w hk hn => ?_) ?_
    · have h13 : a.eval (.tmp 13) = .int .i64 c := hn.1
      clear hn
      refine wants_plain rfl ?_
      exact grown_assign (.tmp 13) rfl h13
    refine steps_cons (fun a w hk hn => ?_) ?_
    · have h14 : a.eval (.tmp 14) = .bool b := hn.1
      clear hn
      refine wants_plain rfl ?_
      exact grown_assign (.tmp 14) rfl h14
    exact trivial
  intro W1 hkW1
  rintro _ rfl
  rintro _ rfl
  rintro _ rfl
  rintro _ rfl
  rintro _ rfl
  rintro _ rfl
  rintro _ rfl
  rintro _ rfl
  rintro _ rfl
  rintro _ rfl
  rintro _ rfl
  refine fin_nil ?_
  simp only [Act.put, List.set_cons_zero, List.set_cons_succ, List.setIfInBounds_toArray]
  go_wp2_with fail
  go_ret2
  exact ⟨rfl, (kp_drew w).trans hkW1⟩
theorem usign_used (h : Lg w0 w l pd pk S f) (hn : S.n = 16) : Calls Tryz.prog 77 #[.pointer (some ⟨l, 0, none⟩)] w fun e w' => e = .returned (.int .i64 23) ∧ w' = w := by
  obtain ⟨j, s, q, vs, pv, hx⟩ := h
  have hc := hx.at_.c2
  have hb := hx.bf.bx
  rw [hn] at hb
  have HT := hide (take_used hb)
  clear hx hb hn
  go_enter Tryz.func77, Tryz.ntmps77
  go_wp2_with fail
  refine HT.out.mono ?_
  rintro ee w1 ⟨rfl, hw⟩
  subst w1
  clear HT
  go_wp2_with fail
  go_ret
  exact ⟨rfl, rfl⟩
theorem rtU_len (x : List (List Int)) : (rtU x).length = 32 := by
  unfold rtU
  exact trootP_all (Q := fun r => r.length = 32) (fun b => sha_len b) _ (fun y hy => by obtain ⟨z, _, rfl⟩ := List.mem_map.1 hy; exact sha_len _)
theorem rtU_bs (x : List (List Int)) : Bs (rtU x) := by
  unfold rtU
  exact trootP_all (Q := Bs) (fun b => sha_bs b) _ (fun y hy => by obtain ⟨z, _, rfl⟩ := List.mem_map.1 hy; exact sha_bs _)
theorem sgU_small (seed : List Int) (x : List (List Int)) (a : Nat × Nat) (h : a.2 < 16) : (sgU seed x a).Small := by
  have h1 := (rgtP_iff _ _ _).1 (rgtP_sgn seed a.2 h (digP (bodC (a.1 : Int) (rtU (x.take a.1)))))
  refine ⟨?_, ?_, ?_, fun y hy => ?_, fun y hy => ?_⟩
  · show (rtU _).length ≤ 1000; rw [rtU_len]; omega
  · show (sgnP _ _ _).length ≤ 1000; rw [h1.2.1.1]; omega
  · show (pthP _ _ _).length ≤ 1000; rw [h1.2.2.1]; omega
  · have := h1.2.1.2 y hy; omega
  · have := h1.2.2.2 y hy; omega
set_option maxRecDepth 100000 in
set_option maxHeartbeats 8000000 in
theorem usign_any (h : Lg w0 w l pd pk S f) (hG : Gl w0) (hn : S.n < 16) (hmb : S.mb ≤ 1000) (er : Bool) (dk' : Dk) (he : S.dk.add (recP [(S.n : Int)]) = (er, dk')) (en : Int) (hen : en = if er then 0 else 13) :
    Calls Tryz.prog 77 #[.pointer (some ⟨l, 0, none⟩)] w fun e w' => e = .returned (.int .i64 en) ∧ ∃ f', Lg w0 w' l pd pk { S with dk := dk', mb := S.mb + 1, n := if er then S.n + 1 else S.n, la := if er then some (S.its.length, S.n) else S.la } f' ∧ LSt w f w' f' := by
  obtain ⟨j, s, q, vs, pv, hx⟩ := h
  have hc := hx.at_.c2
  have HT := hide (bf_take hx.bf hn hmb er he _ en rfl hen _ rfl)
  obtain ⟨ky, hky⟩ : ∃ k, k = S.n := ⟨_, rfl⟩
  obtain ⟨il, hil⟩ : ∃ k, k = S.its.length := ⟨_, rfl⟩
  have HX := hide hx
  have HG := hide hG
  have HN := hide hn
  have HEn := hide hen
  have HKY := hide hky
  have HIL := hide hil
  rw [← hky] at HT
  clear hx hG hn hmb he hen hky hil
  go_enter Tryz.func77, Tryz.ntmps77
  go_wp2_with fail
  refine HT.out.mono ?_
  rintro ee w2 ⟨rfl, F6, B2, T2⟩
  have hn' : (if er then ky + 1 else ky) ≤ 16 := by have := HN.out; have := HKY.out; split <;> omega
  have hx2 := HX.out.stepB T2 B2 hn'
  have HT2 : Hid (Stp f.tot w w2 (f.upd 6 F6).tot) := T2.one
  have HX2 := hide hx2
  clear HT B2 T2 hx2 HX hc hn'
  cases er
  · obtain rfl : en = 13 := by rw [HEn.out]; rfl
    have e1 : (if false = true then ((ky : Nat) : Int) else 0) = 0 := by simp
    rw [e1]
    go_wp2_with fail
    go_ret
    refine ⟨rfl, f.upd 6 F6, ⟨j, s, q, vs, pv, ?_⟩, HT2.out⟩
    have := HX2.out
    simp only [Bool.false_eq_true, if_false] at this ⊢
    rw [← HKY.out]; exact this
  · obtain rfl : en = 0 := by rw [HEn.out]; rfl
    have e1 : (if true = true then ((ky : Nat) : Int) else 0) = ky := by simp
    rw [e1]
    have hx2 := HX2.out
    simp only [if_true] at hx2
    have hsd := hx2.sd
    obtain ⟨av, cv, hvs, -⟩ := id hsd
    obtain ⟨nv, hnv⟩ : ∃ n, n = S.seed.length := ⟨_, rfl⟩
    simp only at hvs hsd
    rw [← hnv] at hvs
    subst hvs
    obtain ⟨r, hr⟩ : ∃ r, r = rtU S.its := ⟨_, rfl⟩
    have HXX := hide hx2
    have HD : Hid (∀ w', Kp [] w2.drew w' → Kp [] w2 w') := fun w' k' => (kp_drew w2).trans k'
    have HAt : Hid (∀ w', Kp [] w2.drew w' → Fv 99 w' l (.func (.func 44) #[.pointer (some ⟨j, 0, none⟩)] #[]) (.pointer (some ⟨s, 0, none⟩)) (.pointer (some ⟨q, 0, none⟩)) (.slice av nv cv) pv) := fun w' k => hx2.at_.kept (unhide HD w' k) (by simp)
    have HSd : Hid (∀ w', Kp [] w2.drew w' → Sl w' (.slice av nv cv) S.seed) := fun w' k => hsd.kept (unhide HD w' k) (by simp)
    have HLg : Hid (∀ w', Kp [] w2.drew w' → Lg w0 w' l pd pk { S with dk := dk', mb := S.mb + 1, n := ky + 1 } (f.upd 6 F6)) := fun w' k => ⟨j, s, q, _, pv, hx2.on (unhide HD w' k)⟩
    have HGw : Hid (∀ w', Kp [] w2.drew w' → Gl w') := fun w' k => HG.out.kept (hx2.ok.kp.trans (unhide HD w' k)) (by simp)
    have HSb : Hid (Bs S.seed) := hx2.sb
    have HSl : Hid (S.seed.length = 32) := hx2.sl
    have HKy : Hid (ky < 16) := hide (by rw [HKY.out]; exact HN.out)
    have HIl : Hid ((il : Int) = (S.its.length : Int)) := hide (by rw [HIL.out])
    have HRr := hide hr
    have HRb : Hid (Bs r) := hide (by rw [hr]; exact rtU_bs _)
    have HRg : Hid (rgtC (il : Int) r = true) := hide (by
      rw [rgtC_iff]
      have := hx2.few
      simp only at this
      have := HIL.out
      exact ⟨⟨by omega, by omega⟩, by rw [hr, rtU_len]⟩)
    obtain ⟨SG, hSG⟩ : ∃ x, x = sgU S.seed S.its (il, ky) := ⟨_, rfl⟩
    have HSGe : Hid (sgnC S.seed ky (il : Int) r = SG) := hide (by rw [hSG, hr]; unfold sgU; rw [HIL.out, List.take_length])
    have HBig : Hid (Big SG) := hide (by
      rw [hSG]
      have h1 := (rgtP_iff _ _ _).1 (rgtP_sgn S.seed ky (unhide HKy) (digP (bodC (il : Int) (rtU (S.its.take il)))))
      exact ⟨by show 3 ≤ (sgnP _ _ _).length; rw [h1.2.1.1]; omega, by show 3 ≤ (pthP _ _ _).length; rw [h1.2.2.1]; omega⟩)
    have HSGd := hide hSG
    clear hx2 hsd hnv hr hSG HX2
    go_wp2_with fail
    refine region_growL (K := KN w2.drew.heap.size) (G := GN w2.drew 15 5 29) Tryz.mixed [Is (.pointer (some ⟨l, 0, none⟩)), Is (.pointer (some ⟨l, 0, none⟩)), Is (.pointer (some ⟨l, 3, none⟩)), Is (.slice av nv cv), Is (.int .i64 (ky : Int)), Is (.pointer (some ⟨l, 0, none⟩)), Is (.int .i64 (il : Int)), Is (.pointer (some ⟨l, 0, none⟩)), SlT (r), CkT (il : Int) r, PrT w2.drew.heap.size SG 0, PrT w2.drew.heap.size SG 0, SgAT w2.drew.heap.size SG, Is (.int .i64 0), NewX w2.drew.heap.size, AnyT, Is (.int .i64 0)] [[(0, none)], [(18, some 0)], [(19, some 1)], [(20, some 2)], [(3, none)], [(0, none)], [(23, some 5)], [(0, none)], [(25, some 7)], [(24, some 6), (26, some 8)], [(21, some 3), (22, some 4), (27, some 9)], [(28, some 10)], [(17, some 11)], [(17, some 11)], [], [(5, some 14), (29, some 12)], [(30, some 13)]] (by kernel_rfl) ?_ ?_ ?_ ?_ ?_
    · intro k R hR hd w'
      have hk : k < 17 := by have := (List.getElem?_eq_some_iff.1 hR).1; simpa using this
      rcases (by omega : k = 0 ∨ k = 1 ∨ k = 2 ∨ k = 3 ∨ k = 4 ∨ k = 5 ∨ k = 6 ∨ k = 7 ∨ k = 8 ∨ k = 9 ∨ k = 10 ∨ k = 11 ∨ k = 12 ∨ k = 13 ∨ k = 14 ∨ k = 15 ∨ k = 16) with rfl | rfl | rfl | rfl | rfl | rfl | rfl | rfl | rfl | rfl | rfl | rfl | rfl | rfl | rfl | rfl | rfl <;> first | (cases hR; exact trivial) | cases hd
    · simp only [List.mem_cons, List.not_mem_nil, or_false]
      intro R hR
      rcases hR with rfl | rfl | rfl | rfl | rfl | rfl | rfl | rfl | rfl | rfl | rfl | rfl | rfl | rfl | rfl | rfl | rfl <;> first | exact stableN_is _ | exact stableN_sl _ | exact stableN_any | exact stableN_new _ | exact stableN_ck _ _ | exact stableN_sg _ (unhide HBig) (Nat.le_refl _) | exact stableN_prt _ _ (unhide HBig) (Nat.le_refl _)
    · exact ⟨Kp.refl _ _, fun h => by simp at h⟩
    · refine steps_consL (fun listed a w hnot hdep hcl hsz hg hn => ?_) ?_
      · have h0 : a.eval (.tmp 0) = .pointer (some ⟨l, 0, none⟩) := hn.1
        clear hn
        have hk := hg.1
        refine wantsG_of1M (fun _ k => .inl k) (fun v w' k => hg.free 0 (by decide) 18 (fun h => absurd h (by decide)) v k) ?_
        refine wants_plain rfl ?_
        exact grown_move (.tmp 0) rfl h0
      refine steps_consL (fun listed a w hnot hdep hcl hsz hg hn => ?_) ?_
      · have h18 : a.eval (.tmp 18) = .pointer (some ⟨l, 0, none⟩) := hn.1
        clear hn
        have hk := hg.1
        refine wantsG_of1M (fun _ k => .inl k) (fun v w' k => hg.free 1 (by decide) 19 (fun h => absurd h (by decide)) v k) ?_
        refine wants_plain rfl ?_
        refine grown_run (v := .pointer (some ⟨l, 0, none⟩)) ?_ (Kp.refl _ _) rfl
        obtain ⟨ρ, hρ, hc, hf, hg⟩ := eval_is a
        rw [hρ] at h18 ⊢
        simp [go_sem, h18]
      refine steps_consL (fun listed a w hnot hdep hcl hsz hg hn => ?_) ?_
      · have h19 : a.eval (.tmp 19) = .pointer (some ⟨l, 0, none⟩) := hn.1
        clear hn
        have hk := hg.1
        refine wantsG_of1M (fun _ k => .inl k) (fun v w' k => hg.free 2 (by decide) 20 (fun h => absurd h (by decide)) v k) ?_
        refine wants_plain rfl ?_
        refine grown_run (v := .pointer (some ⟨l, 3, none⟩)) ?_ (Kp.refl _ _) rfl
        obtain ⟨ρ, hρ, hc, hf, hg⟩ := eval_is a
        rw [hρ] at h19 ⊢
        simp [go_sem, h19]
      refine steps_consL (fun listed a w hnot hdep hcl hsz hg hn => ?_) ?_
      · have h20 : a.eval (.tmp 20) = .pointer (some ⟨l, 3, none⟩) := hn.1
        clear hn
        have hk := hg.1
        refine wantsG_of1M (fun _ k => .inl k) (fun v w' k => hg.free 3 (by decide) 21 (fun h => absurd h (by decide)) v k) ?_
        refine wants_plain rfl ?_
        refine grown_run (v := .slice av nv cv) ?_ (Kp.refl _ _) rfl
        have hcell : w.cell? ⟨l, 3, none⟩ = some (.slice av nv cv) := by rw [cell_of_row w l 3 _ _ _ (HAt.out w hk)]; rfl
        obtain ⟨ρ, hρ, hc, hf, hg⟩ := eval_is a
        rw [hρ] at h20 ⊢
        simp [go_sem, h20, hcell]
      refine steps_consL (fun listed a w hnot hdep hcl hsz hg hn => ?_) ?_
      · have h3 : a.eval (.tmp 3) = .int .i64 (ky : Int) := hn.1
        clear hn
        have hk := hg.1
        refine wantsG_of1M (fun _ k => .inl k) (fun v w' k => hg.free 4 (by decide) 22 (fun h => absurd h (by decide)) v k) ?_
        refine wants_plain rfl ?_
        exact grown_move (.tmp 3) rfl h3
      refine steps_consL (fun listed a w hnot hdep hcl hsz hg hn => ?_) ?_
      · have h0 : a.eval (.tmp 0) = .pointer (some ⟨l, 0, none⟩) := hn.1
        clear hn
        have hk := hg.1
        refine wantsG_of1M (fun _ k => .inl k) (fun v w' k => hg.free 5 (by decide) 23 (fun h => absurd h (by decide)) v k) ?_
        refine wants_plain rfl ?_
        exact grown_move (.tmp 0) rfl h0
      refine steps_consL (fun listed a w hnot hdep hcl hsz hg hn => ?_) ?_
      · have h23 : a.eval (.tmp 23) = .pointer (some ⟨l, 0, none⟩) := hn.1
        clear hn
        have hk := hg.1
        refine wantsG_of1M (fun _ k => .inl k) (fun v w' k => hg.free 6 (by decide) 24 (fun h => absurd h (by decide)) v k) ?_
        refine wants_plain rfl ?_
        refine grown_call (f := 16) rfl Tryz.func16 (by kernel_rfl) (by kernel_rfl) ?_
        simp only [List.map_toArray, List.map_cons, List.map_nil, h23]
        refine (usize_any (unhide HLg w hk) (il : Int) (unhide HIl)).mono ?_
        rintro e w' ⟨rfl, rfl⟩
        exact ⟨_, rfl, Kp.refl _ _, rfl⟩
      refine steps_consL (fun listed a w hnot hdep hcl hsz hg hn => ?_) ?_
      · have h0 : a.eval (.tmp 0) = .pointer (some ⟨l, 0, none⟩) := hn.1
        clear hn
        have hk := hg.1
        refine wantsG_of1M (fun _ k => .inl k) (fun v w' k => hg.free 7 (by decide) 25 (fun h => absurd h (by decide)) v k) ?_
        refine wants_plain rfl ?_
        exact grown_move (.tmp 0) rfl h0
      refine steps_consL (fun listed a w hnot hdep hcl hsz hg hn => ?_) ?_
      · have h25 : a.eval (.tmp 25) = .pointer (some ⟨l, 0, none⟩) := hn.1
        clear hn
        have hk := hg.1
        refine wantsG_of1M (fun _ k => .inl k) (fun v w' k => hg.free 8 (by decide) 26 (fun h => absurd h (by decide)) v k) ?_
        refine wants_plain rfl ?_
        refine grown_call (f := 23) rfl Tryz.func23 (by kernel_rfl) (by kernel_rfl) ?_
        simp only [List.map_toArray, List.map_cons, List.map_nil, h25]
        refine (uroot_any (unhide HLg w hk) r (unhide HRr) (unhide HGw w hk)).mono ?_
        rintro e w' ⟨ao, m, c, rfl, R, K⟩
        exact ⟨_, rfl, K, R.sl⟩
      refine steps_consL (fun listed a w hnot hdep hcl hsz hg hn => ?_) ?_
      · have h24 : a.eval (.tmp 24) = .int .i64 (il : Int) := hn.1
        have h26 : Sl w (a.eval (.tmp 26)) (r) := hn.2.1
        clear hn
        have hk := hg.1
        refine wantsG_of1M (fun _ k => .inl k) (fun v w' k => hg.free 9 (by decide) 27 (fun h => absurd h (by decide)) v k) ?_
        refine wants_plain rfl ?_
        exact grown_bcks (.tmp 24) (.tmp 26) rfl h24 h26 (unhide HRb)
      refine steps_consL (fun listed a w hnot hdep hcl hsz hg hn => ?_) ?_
      · have h21 : a.eval (.tmp 21) = .slice av nv cv := hn.1
        have h22 : a.eval (.tmp 22) = .int .i64 (ky : Int) := hn.2.1
        have h27 : (CkT (il : Int) r) (a.eval (.tmp 27)) w := hn.2.2.1
        clear hn
        have hk := hg.1
        refine wantsG_of1M (fun _ k => .inl k) (fun v w' k => hg.free 10 (by decide) 28 (fun h => absurd h (by decide)) v k) ?_
        refine wants_plain rfl ?_
        refine grown_call (f := 116) rfl Tryz.func116 (by kernel_rfl) (by kernel_rfl) ?_
        simp only [List.map_toArray, List.map_cons, List.map_nil, h21, h22]
        refine (cksign_okA (.slice av nv cv) S.seed ky _ (il : Int) r w (unhide HSd w hk) (unhide HSb) (unhide HSl) (unhide HKy) h27 (unhide HRg) (unhide HGw w hk)).mono ?_
        rintro e w' ⟨v, rfl, V, K⟩
        rw [unhide HSGe] at V
        exact ⟨_, rfl, K, ⟨_, rfl, V.low hk.size⟩⟩
      refine steps_consL (fun listed a w hnot hdep hcl hsz hg hn => ?_) ?_
      · have h28 : (PrT w2.drew.heap.size SG 0) (a.eval (.tmp 28)) w := hn.1
        clear hn
        have hk := hg.1
        refine wantsG_of1M (fun _ k => .inl k) (fun v w' k => hg.free 11 (by decide) 17 (fun h => absurd h (by decide)) v k) ?_
        refine wants_plain rfl ?_
        exact grown_move (.tmp 28) rfl h28
      refine steps_consL (fun listed a w hnot hdep hcl hsz hg hn => ?_) ?_
      · have h17 : (PrT w2.drew.heap.size SG 0) (a.eval (.tmp 17)) w := hn.1
        clear hn
        have hk := hg.1
        refine wantsG_of1M (fun _ k => .inl k) (fun v w' k => hg.free 12 (by decide) 29 (fun _ => lstM hcl 15 12 rfl (by decide) hnot) v k) ?_
        refine wants_plain rfl ?_
        exact grown_x0 (.tmp 17) rfl _ _ _ h17
      refine steps_consL (fun listed a w hnot hdep hcl hsz hg hn => ?_) ?_
      · have h17 : (PrT w2.drew.heap.size SG 0) (a.eval (.tmp 17)) w := hn.1
        clear hn
        have hk := hg.1
        refine wantsG_of1M (fun _ k => .inl k) (fun v w' k => hg.free 13 (by decide) 30 (fun h => absurd h (by decide)) v k) ?_
        refine wants_plain rfl ?_
        exact grown_x1 (.tmp 17) rfl _ _ _ h17
      refine steps_consL (fun listed a w hnot hdep hcl hsz hg hn => ?_) ?_
      · clear hn
        have hk := hg.1
        refine wantsG_of1M (fun _ k => .inl k) (fun v w' k => hg.free 14 (by decide) 5 (fun _ => lstM hcl 15 14 rfl (by decide) hnot) v k) ?_
        refine wants_plain rfl ?_
        exact grown_newx _ hk.size rfl
      refine steps_consL (fun listed a w hnot hdep hcl hsz hg hn => ?_) ?_
      · have h5 : (NewX w2.drew.heap.size) (a.eval (.tmp 5)) w := hn.1
        have h29 : (SgAT w2.drew.heap.size SG) (a.eval (.tmp 29)) w := hn.2.1
        clear hn
        exact hg.st hsz rfl rfl rfl h5 h29
      refine steps_consL (fun listed a w hnot hdep hcl hsz hg hn => ?_) ?_
      · have h30 : a.eval (.tmp 30) = .int .i64 0 := hn.1
        clear hn
        have hk := hg.1
        refine wantsG_of1M (fun _ k => .inl k) (fun v w' k => hg.free 16 (by decide) 4 (fun h => absurd h (by decide)) v k) ?_
        refine wants_plain rfl ?_
        exact grown_assign (.tmp 30) rfl h30
      exact trivial
    intro W1
    rintro _ rfl
    rintro _ rfl
    rintro _ rfl
    rintro _ rfl
    rintro _ rfl
    rintro _ rfl
    rintro _ rfl
    rintro _ rfl
    intro v26 h26
    intro v27 h27
    intro v28 h28
    intro v17 h17
    intro v29 h29
    rintro _ rfl
    intro v5 h5
    intro _ _
    rintro _ rfl
    refine fin_nil ?_
    intro listed hall hgg
    obtain ⟨hkW1, hst⟩ := hgg
    obtain ⟨gst, cst, est, evt, Gst⟩ := hst (hall 15 (by decide))
    simp only [Act.put, List.set_cons_zero, List.set_cons_succ, List.setIfInBounds_toArray] at est evt ⊢
    obtain ⟨g15, rfl, -, hbn⟩ := h5
    have hA29 : SgA w2.drew.heap.size W1 v29 SG := h29
    obtain ⟨a2, m2, c2, ap2, np2, cp2, aq2, nq2, cq2, rfl, -, -⟩ := hA29.v.shape
    have eg : gst = g15 := by
      have h := est
      simp [Act.eval] at h
      exact h.symm
    have ec : cst = #[.int .i64 SG.n, .slice a2 m2 c2, .int .i64 SG.i, .slice ap2 np2 cp2, .slice aq2 nq2 cq2] := by
      have h := evt
      simp [Act.eval] at h
      exact h.symm
    rw [eg, ec] at Gst
    obtain ⟨w4, hw4⟩ : ∃ w4, w4 = W1 := ⟨_, rfl⟩
    rw [← hw4] at Gst hA29 hkW1 ⊢
    have K24 : Kp [] w2 w4 := unhide HD w4 hkW1
    have hn1 : SG.n = (il : Int) := by rw [unhide HSGd]; rfl
    have hi1 : SG.i = (ky : Int) := by rw [unhide HSGd]; rfl
    rw [hn1, hi1] at Gst hA29
    have hlt : g15 < w4.heap.size := lt_of_block Gst
    have hLa : LaP w4 (.pointer (some ⟨g15, 0, none⟩)) S.seed S.its (some (il, ky)) (fun i => w2.heap.size ≤ i ∧ i < w4.heap.size) :=
      ⟨by rw [HIL.out]; exact Nat.le_refl _, unhide HKy, g15, _, _, _, rfl, ⟨hbn, hlt⟩, Gst, by rw [← unhide HSGd]; exact SgA.f hA29 (Kp.refl _ _)⟩
    have hstp := HXX.out.stepL (a := (il, ky)) K24 (fun i hi => hi) hLa
    have hfz := (HXX.out.on K24).at_.f 4
    have hc4 := (HXX.out.on K24).at_.c4
    have HST := hide hstp
    clear h26 h28 h17 h27 h29 hA29 hkW1 hbn est evt Gst eg ec hall hst hstp hw4 hLa K24 hn1 hi1 hlt
    go_wp2_with fail
    go_ret
    refine ⟨rfl, _, ⟨j, s, q, .slice av nv cv, .pointer (some ⟨g15, 0, none⟩), ?_⟩, HT2.out.trans HST.out.2⟩
    have := HST.out.1
    rw [HIL.out, HKY.out] at this
    simpa using this
theorem ulast_none (h : Lg w0 w l pd pk S f) (hla : S.la = none) : Calls Tryz.prog 37 #[.pointer (some ⟨l, 0, none⟩)] w fun e w' => e = .returned (.tuple #[sgd0, .bool false]) ∧ Kp [] w w' := by
  obtain ⟨j, s, q, vs, pv, hx⟩ := h
  have hla2 := hx.la
  rw [hla] at hla2
  obtain rfl : pv = .pointer none := hla2
  have K1 : Kp [] w (w.alloc (.cells #[.int .i64 0, .slice none 0 0, .int .i64 0, .slice none 0 0, .slice none 0 0] 72)) := (Kp.refl [] w).alloc _
  have hc := (hx.at_.kept K1 (by simp)).c4
  have G := heap_alloc_new w (.cells #[.int .i64 0, .slice none 0 0, .int .i64 0, .slice none 0 0, .slice none 0 0] 72)
  have HK := hide K1
  clear hx hla K1
  go_enter Tryz.func37, Tryz.ntmps37
  go_wp2_with (refine wpList_store_flat rfl 72 (.tmp 2) (.tmp 9) rfl w.heap.size 0 rfl _ _ [.int .i64 0, .slice none 0 0, .int .i64 0, .slice none 0 0, .slice none 0 0] G rfl (by simp) Tryz.sgdSize (by simp [Value.oneCell']) #[.int .i64 0, .slice none 0 0, .int .i64 0, .slice none 0 0, .slice none 0 0] rfl ?_; intro w7 G7 K7)
  refine bodyPost_ret (results_flat2 rfl _ rfl G7 Tryz.underlying72 rfl Tryz.sgdSize) rfl ?_
  exact ⟨rfl, HK.out.then K7 (fun i hi => .inr (by simp at hi; omega))⟩
set_option maxRecDepth 100000 in
set_option maxHeartbeats 4000000 in
theorem ulast_some (h : Lg w0 w l pd pk S f) (a1 a2 : Nat) (hla : S.la = some (a1, a2)) : Calls Tryz.prog 37 #[.pointer (some ⟨l, 0, none⟩)] w fun e w' => ∃ v, e = .returned (.tuple #[v, .bool true]) ∧ SgU w.heap.size w' v (sgU S.seed S.its (a1, a2)) ∧ Kp [] w w' := by
  obtain ⟨j, s, q, vs, pv, hx⟩ := h
  have hla2 := hx.la
  rw [hla] at hla2
  obtain ⟨hle, ha16, tt, vr, vp, vq, rfl, hFt, hFv, hSF⟩ := hla2
  obtain ⟨ar, mr, cr, ap, np, cp, aq, nq, cq, e2, -, -⟩ := hSF.v.shape
  simp only [Value.agg.injEq, Array.mk.injEq, List.cons.injEq, and_true] at e2
  obtain ⟨-, rfl, -, rfl, rfl⟩ := e2
  obtain ⟨g0, hg⟩ : ∃ g, g = w.heap.size := ⟨_, rfl⟩
  obtain ⟨w1, hw1⟩ : ∃ w1, w1 = w.alloc (.cells #[.int .i64 0, .slice none 0 0, .int .i64 0, .slice none 0 0, .slice none 0 0] 72) := ⟨_, rfl⟩
  have K1 : Kp [] w w1 := by rw [hw1]; exact (Kp.refl [] w).alloc _
  have G0 : w1.heap[g0]? = some (.cells #[.int .i64 0, .slice none 0 0, .int .i64 0, .slice none 0 0, .slice none 0 0] 72 (0, 0)) := by rw [hw1, hg]; exact heap_alloc_new w _
  have hX := hx.on K1
  have hFv5 := hFv.kept K1 (by simp)
  have hV5 := (hSF.kept K1 (by simp)).v
  have hsm := sgU_small S.seed S.its (a1, a2) ha16
  have HK1 := hide K1
  have HGe := hide hg
  have HW1 := hide hw1
  clear hx hla hFv hSF hle hFt K1 hg hw1
  go_enter Tryz.func37, Tryz.ntmps37
  have x0 : (w.alloc (.cells #[.int .i64 0, .slice none 0 0, .int .i64 0, .slice none 0 0, .slice none 0 0] 72)).cell? ⟨tt, 0, none⟩ = some (.int .i64 (a1 : Int)) := by rw [← HW1.out]; exact hFv5.c0
  have x1 : (w.alloc (.cells #[.int .i64 0, .slice none 0 0, .int .i64 0, .slice none 0 0, .slice none 0 0] 72)).cell? ⟨tt, 1, none⟩ = some (.slice ar mr cr) := by rw [← HW1.out]; exact hFv5.c1
  have x2 : (w.alloc (.cells #[.int .i64 0, .slice none 0 0, .int .i64 0, .slice none 0 0, .slice none 0 0] 72)).cell? ⟨tt, 2, none⟩ = some (.int .i64 (a2 : Int)) := by rw [← HW1.out]; exact hFv5.c2
  have x3 : (w.alloc (.cells #[.int .i64 0, .slice none 0 0, .int .i64 0, .slice none 0 0, .slice none 0 0] 72)).cell? ⟨tt, 3, none⟩ = some (.slice ap np cp) := by rw [← HW1.out]; exact hFv5.c3
  have x4 : (w.alloc (.cells #[.int .i64 0, .slice none 0 0, .int .i64 0, .slice none 0 0, .slice none 0 0] 72)).cell? ⟨tt, 4, none⟩ = some (.slice aq nq cq) := by rw [← HW1.out]; exact hFv5.c4
  have y4 : (w.alloc (.cells #[.int .i64 0, .slice none 0 0, .int .i64 0, .slice none 0 0, .slice none 0 0] 72)).cell? ⟨l, 4, none⟩ = some (.pointer (some ⟨tt, 0, none⟩)) := by rw [← HW1.out]; exact hX.at_.c4
  have HC := hide (ucopy_any (.agg #[.int .i64 (a1 : Int), .slice ar mr cr, .int .i64 (a2 : Int), .slice ap np cp, .slice aq nq cq]) _ w1 hV5 hsm)
  have HG0 := hide G0
  have hg0 : g0 < w1.heap.size := lt_of_block G0
  have HX5 := hide hX
  clear hV5 hsm G0 hFv5 hX
  go_wp2_with fail
  rw [← HW1.out, ← HGe.out]
  refine HC.out.mono ?_
  rintro ee w5 ⟨v5, rfl, A5, K5⟩
  obtain ⟨br, kr, dr, bp, kp, dp, bq', kq, dq, rfl, -, -⟩ := A5.v.shape
  have G5 := K5.heap HG0.out (by simp)
  have HA5 := hide A5
  have HK5 := hide K5
  clear HC A5 K5 x0 x1 x2 x3 x4 y4
  go_wp2_with (refine wpList_store_flat rfl 72 (.tmp 2) (.tmp 16) rfl g0 0 rfl _ _ [.int .i64 _, .slice br kr dr, .int .i64 _, .slice bp kp dp, .slice bq' kq dq] G5 rfl (by simp) Tryz.sgdSize (by simp [Value.oneCell']) #[.int .i64 _, .slice br kr dr, .int .i64 _, .slice bp kp dp, .slice bq' kq dq] rfl ?_; intro w6 G6 K6)
  refine bodyPost_ret (results_flat2 rfl _ rfl G6 Tryz.underlying72 rfl Tryz.sgdSize) rfl ?_
  have hA6 := HA5.out.kept (S := [g0]) (by simpa using hg0) K6
  exact ⟨_, rfl, hA6.low HK1.out.size, (HK1.out.trans HK5.out).then K6 (fun i hi => .inr (by simp at hi; have := HGe.out; omega))⟩
/-- a ledger that has published its size already. -/
theorem upub_head (a : Nat) : a = a := rfl
set_option maxRecDepth 100000 in
set_option maxHeartbeats 4000000 in
theorem upublish_old (h : Lg w0 w l pd pk S f) (a1 a2 : Nat) (hla : S.la = some (a1, a2)) (ha : a1 = S.its.length) : Calls Tryz.prog 33 #[.pointer (some ⟨l, 0, none⟩)] w fun e w' => ∃ v, e = .returned (.tuple #[v, .int .i64 0]) ∧ SgU w.heap.size w' v (sgU S.seed S.its (a1, a2)) ∧ Kp [] w w' := by
  obtain ⟨j, s, q, vs, pv, hx⟩ := h
  have hla2 := hx.la
  rw [hla] at hla2
  obtain ⟨hle, ha16, tt, vr, vp, vq, rfl, hFt, hFv, hSF⟩ := hla2
  obtain ⟨ar, mr, cr, ap, np, cp, aq, nq, cq, e2, -, -⟩ := hSF.v.shape
  simp only [Value.agg.injEq, Array.mk.injEq, List.cons.injEq, and_true] at e2
  obtain ⟨-, rfl, -, rfl, rfl⟩ := e2
  obtain ⟨av, cv, hvs, -⟩ := hx.sd
  obtain ⟨nv, hnv⟩ : ∃ n, n = S.seed.length := ⟨_, rfl⟩
  rw [← hnv] at hvs
  subst hvs
  obtain ⟨g0, hg⟩ : ∃ g, g = w.heap.size := ⟨_, rfl⟩
  obtain ⟨w1, hw1⟩ : ∃ w1, w1 = w.alloc (.cells #[.int .i64 0, .slice none 0 0, .int .i64 0, .slice none 0 0, .slice none 0 0] 72) := ⟨_, rfl⟩
  have K1 : Kp [] w w1 := by rw [hw1]; exact (Kp.refl [] w).alloc _
  have G0 : w1.heap[g0]? = some (.cells #[.int .i64 0, .slice none 0 0, .int .i64 0, .slice none 0 0, .slice none 0 0] 72 (0, 0)) := by rw [hw1, hg]; exact heap_alloc_new w _
  have hX1 := hx.on K1
  have HD : Hid (∀ w', Kp [] w1.drew w' → Kp [] w1 w') := fun w' k' => (kp_drew w1).trans k'
  have HAt : Hid (∀ w', Kp [] w1.drew w' → Fv 99 w' l (.func (.func 44) #[.pointer (some ⟨j, 0, none⟩)] #[]) (.pointer (some ⟨s, 0, none⟩)) (.pointer (some ⟨q, 0, none⟩)) (.slice av nv cv) (.pointer (some ⟨tt, 0, none⟩))) := fun w' k => hX1.at_.kept (HD.out w' k) (by simp)
  have HTt : Hid (∀ w', Kp [] w1.drew w' → Fv 72 w' tt (.int .i64 (a1 : Int)) (.slice ar mr cr) (.int .i64 (a2 : Int)) (.slice ap np cp) (.slice aq nq cq)) := fun w' k => hFv.kept (K1.trans (HD.out w' k)) (by simp)
  have HLg : Hid (∀ w', Kp [] w1.drew w' → Lg w0 w' l pd pk S f) := fun w' k => ⟨j, s, q, _, _, hX1.on (HD.out w' k)⟩
  obtain ⟨il, hil⟩ : ∃ k, k = S.its.length := ⟨_, rfl⟩
  have HIl : Hid ((il : Int) = (S.its.length : Int)) := hide (by rw [hil])
  have HCmp : Hid ((a1 : Int) = (il : Int)) := hide (by rw [ha, hil])
  have HX1 := hide hX1
  have HFv := hide hFv
  have HSF := hide hSF
  have Hsm := hide (sgU_small S.seed S.its (a1, a2) ha16)
  have HK1 := hide K1
  have HGe := hide hg
  have HW1 := hide hw1
  have HG0 := hide G0
  clear hx hla hFv hSF hle hFt K1 hg hw1 hX1 ha hnv hil G0
  go_enter Tryz.func33, Tryz.ntmps33
  go_wp2_with fail
  rw [← HW1.out, ← HGe.out]
  refine region_grow Tryz.mixed [Is (.pointer (some ⟨l, 0, none⟩)), Is (.pointer (some ⟨l, 0, none⟩)), Is (.pointer (some ⟨l, 4, none⟩)), Is (.pointer (some ⟨tt, 0, none⟩)), Is (.bool false), Is (.bool false), Is (.pointer (some ⟨l, 0, none⟩)), Is (.pointer (some ⟨l, 0, none⟩)), Is (.pointer (some ⟨l, 4, none⟩)), Is (.pointer (some ⟨tt, 0, none⟩)), Is (.pointer (some ⟨tt, 0, none⟩)), Is (.pointer (some ⟨tt, 0, none⟩)), Is (.pointer (some ⟨tt, 0, none⟩)), Is (.int .i64 (a1 : Int)), Is (.pointer (some ⟨l, 0, none⟩)), Is (.int .i64 (il : Int)), Is (.bool false), Is (.bool false)] [[(0, none)], [(5, some 0)], [(6, some 1)], [(7, some 2)], [(8, some 3)], [(9, some 4)], [(0, none), (10, some 5)], [(11, some 6), (10, some 5)], [(12, some 7), (10, some 5)], [(13, some 8), (10, some 5)], [(14, some 9), (10, some 5)], [(15, some 10), (10, some 5)], [(16, some 11), (10, some 5)], [(17, some 12), (10, some 5)], [(0, none), (10, some 5)], [(19, some 14), (10, some 5)], [(18, some 13), (20, some 15), (10, some 5)], [(10, some 5), (21, some 16)]] (by kernel_rfl) ?_ ?_ ?_
  · simp only [List.mem_cons, List.not_mem_nil, or_false]
    intro R hR
    rcases hR with rfl | rfl | rfl | rfl | rfl | rfl | rfl | rfl | rfl | rfl | rfl | rfl | rfl | rfl | rfl | rfl | rfl | rfl <;> first | exact stable_is _
  · refine steps_cons (fun a w hk hn => ?_) ?_
    · have h0 : a.eval (.tmp 0) = .pointer (some ⟨l, 0, none⟩) := hn.1
      clear hn
      refine wants_plain rfl ?_
      exact grown_move (.tmp 0) rfl h0
    refine steps_cons (fun a w hk hn => ?_) ?_
    · have h5 : a.eval (.tmp 5) = .pointer (some ⟨l, 0, none⟩) := hn.1
      clear hn
      refine wants_plain rfl ?_
      refine grown_run (v := .pointer (some ⟨l, 0, none⟩)) ?_ (Kp.refl _ _) rfl
      obtain ⟨ρ, hρ, hc, hf, hg⟩ := eval_is a
      rw [hρ] at h5 ⊢
      simp [go_sem, h5]
    refine steps_cons (fun a w hk hn => ?_) ?_
    · have h6 : a.eval (.tmp 6) = .pointer (some ⟨l, 0, none⟩) := hn.1
      clear hn
      refine wants_plain rfl ?_
      refine grown_run (v := .pointer (some ⟨l, 4, none⟩)) ?_ (Kp.refl _ _) rfl
      obtain ⟨ρ, hρ, hc, hf, hg⟩ := eval_is a
      rw [hρ] at h6 ⊢
      simp [go_sem, h6]
    refine steps_cons (fun a w hk hn => ?_) ?_
    · have h7 : a.eval (.tmp 7) = .pointer (some ⟨l, 4, none⟩) := hn.1
      clear hn
      refine wants_plain rfl ?_
      refine grown_run (v := .pointer (some ⟨tt, 0, none⟩)) ?_ (Kp.refl _ _) rfl
      have hcell : w.cell? ⟨l, 4, none⟩ = some (.pointer (some ⟨tt, 0, none⟩)) := by rw [cell_of_row w l 4 _ _ _ (HAt.out w hk)]; rfl
      obtain ⟨ρ, hρ, hc, hf, hg⟩ := eval_is a
      rw [hρ] at h7 ⊢
      simp [go_sem, h7, hcell]
    refine steps_cons (fun a w hk hn => ?_) ?_
    · have h8 : a.eval (.tmp 8) = .pointer (some ⟨tt, 0, none⟩) := hn.1
      clear hn
      refine wants_plain rfl ?_
      refine grown_run (v := .bool false) ?_ (Kp.refl _ _) rfl
      obtain ⟨ρ, hρ, hc, hf, hg⟩ := eval_is a
      rw [hρ] at h8 ⊢
      simp [go_sem, hc, h8]
    refine steps_cons (fun a w hk hn => ?_) ?_
    · have h9 : a.eval (.tmp 9) = .bool false := hn.1
      clear hn
      refine wants_plain rfl ?_
      exact grown_move (.tmp 9) rfl h9
    refine steps_cons (fun a w hk hn => ?_) ?_
    · have h0 : a.eval (.tmp 0) = .pointer (some ⟨l, 0, none⟩) := hn.1
      have h10 : a.eval (.tmp 10) = .bool false := hn.2.1
      clear hn
      refine wants_guard (d := 10) rfl rfl h10 ?_
      exact grown_move (.tmp 0) rfl h0
    refine steps_cons (fun a w hk hn => ?_) ?_
    · have h11 : a.eval (.tmp 11) = .pointer (some ⟨l, 0, none⟩) := hn.1
      have h10 : a.eval (.tmp 10) = .bool false := hn.2.1
      clear hn
      refine wants_guard (d := 10) rfl rfl h10 ?_
      refine grown_run (v := .pointer (some ⟨l, 0, none⟩)) ?_ (Kp.refl _ _) rfl
      obtain ⟨ρ, hρ, hc, hf, hg⟩ := eval_is a
      rw [hρ] at h11 ⊢
      simp [go_sem, h11]
    refine steps_cons (fun a w hk hn => ?_) ?_
    · have h12 : a.eval (.tmp 12) = .pointer (some ⟨l, 0, none⟩) := hn.1
      have h10 : a.eval (.tmp 10) = .bool false := hn.2.1
      clear hn
      refine wants_guard (d := 10) rfl rfl h10 ?_
      refine grown_run (v := .pointer (some ⟨l, 4, none⟩)) ?_ (Kp.refl _ _) rfl
      obtain ⟨ρ, hρ, hc, hf, hg⟩ := eval_is a
      rw [hρ] at h12 ⊢
      simp [go_sem, h12]
    refine steps_cons (fun a w hk hn => ?_) ?_
    · have h13 : a.eval (.tmp 13) = .pointer (some ⟨l, 4, none⟩) := hn.1
      have h10 : a.eval (.tmp 10) = .bool false := hn.2.1
      clear hn
      refine wants_guard (d := 10) rfl rfl h10 ?_
      refine grown_run (v := .pointer (some ⟨tt, 0, none⟩)) ?_ (Kp.refl _ _) rfl
      have hcell : w.cell? ⟨l, 4, none⟩ = some (.pointer (some ⟨tt, 0, none⟩)) := by rw [cell_of_row w l 4 _ _ _ (HAt.out w hk)]; rfl
      obtain ⟨ρ, hρ, hc, hf, hg⟩ := eval_is a
      rw [hρ] at h13 ⊢
      simp [go_sem, h13, hcell]
    refine steps_cons (fun a w hk hn => ?_) ?_
    · have h14 : a.eval (.tmp 14) = .pointer (some ⟨tt, 0, none⟩) := hn.1
      have h10 : a.eval (.tmp 10) = .bool false := hn.2.1
      clear hn
      refine wants_guard (d := 10) rfl rfl h10 ?_
      refine grown_run (v := .pointer (some ⟨tt, 0, none⟩)) ?_ (Kp.refl _ _) rfl
      obtain ⟨ρ, hρ, hc, hf, hg⟩ := eval_is a
      rw [hρ] at h14 ⊢
      simp [go_sem, h14]
    refine steps_cons (fun a w hk hn => ?_) ?_
    · have h15 : a.eval (.tmp 15) = .pointer (some ⟨tt, 0, none⟩) := hn.1
      have h10 : a.eval (.tmp 10) = .bool false := hn.2.1
      clear hn
      refine wants_guard (d := 10) rfl rfl h10 ?_
      refine grown_run (v := .pointer (some ⟨tt, 0, none⟩)) ?_ (Kp.refl _ _) rfl
      obtain ⟨ρ, hρ, hc, hf, hg⟩ := eval_is a
      rw [hρ] at h15 ⊢
      simp [go_sem, h15]
    refine steps_cons (fun a w hk hn => ?_) ?_
    · have h16 : a.eval (.tmp 16) = .pointer (some ⟨tt, 0, none⟩) := hn.1
      have h10 : a.eval (.tmp 10) = .bool false := hn.2.1
      clear hn
      refine wants_guard (d := 10) rfl rfl h10 ?_
      refine grown_run (v := .pointer (some ⟨tt, 0, none⟩)) ?_ (Kp.refl _ _) rfl
      obtain ⟨ρ, hρ, hc, hf, hg⟩ := eval_is a
      rw [hρ] at h16 ⊢
      simp [go_sem, h16]
    refine steps_cons (fun a w hk hn => ?_) ?_
    · have h17 : a.eval (.tmp 17) = .pointer (some ⟨tt, 0, none⟩) := hn.1
      have h10 : a.eval (.tmp 10) = .bool false := hn.2.1
      clear hn
      refine wants_guard (d := 10) rfl rfl h10 ?_
      refine grown_run (v := .int .i64 (a1 : Int)) ?_ (Kp.refl _ _) rfl
      have hcell : w.cell? ⟨tt, 0, none⟩ = some (.int .i64 (a1 : Int)) := by rw [cell_of_row w tt 0 _ _ _ (HTt.out w hk)]; rfl
      obtain ⟨ρ, hρ, hc, hf, hg⟩ := eval_is a
      rw [hρ] at h17 ⊢
      simp [go_sem, h17, hcell]
    refine steps_cons (fun a w hk hn => ?_) ?_
    · have h0 : a.eval (.tmp 0) = .pointer (some ⟨l, 0, none⟩) := hn.1
      have h10 : a.eval (.tmp 10) = .bool false := hn.2.1
      clear hn
      refine wants_guard (d := 10) rfl rfl h10 ?_
      exact grown_move (.tmp 0) rfl h0
    refine steps_cons (fun a w hk hn => ?_) ?_
    · have h19 : a.eval (.tmp 19) = .pointer (some ⟨l, 0, none⟩) := hn.1
      have h10 : a.eval (.tmp 10) = .bool false := hn.2.1
      clear hn
      refine wants_guard (d := 10) rfl rfl h10 ?_
      refine grown_call (f := 16) rfl Tryz.func16 (by kernel_rfl) (by kernel_rfl) ?_
      simp only [List.map_toArray, List.map_cons, List.map_nil, h19]
      refine (usize_any (HLg.out w hk) (il : Int) HIl.out).mono ?_
      rintro e w' ⟨rfl, rfl⟩
      exact ⟨_, rfl, Kp.refl _ _, rfl⟩
    refine steps_cons (fun a w hk hn => ?_) ?_
    · have h18 : a.eval (.tmp 18) = .int .i64 (a1 : Int) := hn.1
      have h20 : a.eval (.tmp 20) = .int .i64 (il : Int) := hn.2.1
      have h10 : a.eval (.tmp 10) = .bool false := hn.2.2.1
      clear hn
      refine wants_guard (d := 10) rfl rfl h10 ?_
      refine grown_run (v := .bool false) ?_ (Kp.refl _ _) rfl
      obtain ⟨ρ, hρ, hc, hf, hg⟩ := eval_is a
      rw [hρ] at h18 h20 ⊢
      simp [go_sem, h18, h20, HCmp.out]
    refine steps_cons (fun a w hk hn => ?_) ?_
    · have h10 : a.eval (.tmp 10) = .bool false := hn.1
      have h21 : a.eval (.tmp 21) = .bool false := hn.2.1
      clear hn
      refine wants_plain rfl ?_
      exact grown_pick _ _ _ false rfl h10 h21
    exact trivial
  intro W1 hkW1
  rintro _ rfl
  rintro _ rfl
  rintro _ rfl
  rintro _ rfl
  rintro _ rfl
  rintro _ rfl
  rintro _ rfl
  rintro _ rfl
  rintro _ rfl
  rintro _ rfl
  rintro _ rfl
  rintro _ rfl
  rintro _ rfl
  rintro _ rfl
  rintro _ rfl
  rintro _ rfl
  rintro _ rfl
  rintro _ rfl
  refine fin_nil ?_
  simp only [Act.put, List.set_cons_zero, List.set_cons_succ, List.setIfInBounds_toArray]
  have K12 := HD.out W1 hkW1
  have hX := HX1.out.on K12
  have hFv5 := HFv.out.kept (HK1.out.trans K12) (by simp)
  have hV5 := (HSF.out.kept (HK1.out.trans K12) (by simp)).v
  have hsm := Hsm.out
  have G0 := K12.heap HG0.out (by simp)
  have HK12 := hide (HK1.out.trans K12)
  clear K12 hkW1 HG0
  have x0 := hFv5.c0
  have x1 := hFv5.c1
  have x2 := hFv5.c2
  have x3 := hFv5.c3
  have x4 := hFv5.c4
  have y4 := hX.at_.c4
  have HC := hide (ucopy_any (.agg #[.int .i64 (a1 : Int), .slice ar mr cr, .int .i64 (a2 : Int), .slice ap np cp, .slice aq nq cq]) _ W1 hV5 hsm)
  have HG0 := hide G0
  have hg0 : g0 < W1.heap.size := lt_of_block G0
  have HX5 := hide hX
  clear hV5 hsm G0 hFv5 hX
  go_wp2_with fail
  refine HC.out.mono ?_
  rintro ee w5 ⟨v5, rfl, A5, K5⟩
  obtain ⟨br, kr, dr, bp, kp, dp, bq', kq, dq, rfl, -, -⟩ := A5.v.shape
  have G5 := K5.heap HG0.out (by simp)
  have HA5 := hide A5
  have HK5 := hide K5
  clear HC A5 K5 x0 x1 x2 x3 x4 y4
  go_wp2_with (refine wpList_store_flat rfl 72 (.tmp 2) (.tmp 35) rfl g0 0 rfl _ _ [.int .i64 _, .slice br kr dr, .int .i64 _, .slice bp kp dp, .slice bq' kq dq] G5 rfl (by simp) Tryz.sgdSize (by simp [Value.oneCell']) #[.int .i64 _, .slice br kr dr, .int .i64 _, .slice bp kp dp, .slice bq' kq dq] rfl ?_; intro w6 G6 K6)
  refine bodyPost_ret (results_flat2 rfl _ rfl G6 Tryz.underlying72 rfl Tryz.sgdSize) rfl ?_
  have hA6 := HA5.out.kept (S := [g0]) (by simpa using hg0) K6
  exact ⟨_, rfl, hA6.low HK12.out.size, (HK12.out.trans HK5.out).then K6 (fun i hi => .inr (by simp at hi; have := HGe.out; omega))⟩
set_option maxRecDepth 100000 in
set_option maxHeartbeats 4000000 in
theorem upub_usedN (h : Lg w0 w l pd pk S f) (hla : S.la = none) (hn : S.n = 16) : Calls Tryz.prog 33 #[.pointer (some ⟨l, 0, none⟩)] w fun e w' => e = .returned (.tuple #[sgd0, .int .i64 23]) ∧ Kp [] w w' := by
  obtain ⟨j, s, q, vs, pv, hx⟩ := h
  have hla2 := hx.la
  rw [hla] at hla2
  obtain rfl : pv = .pointer none := hla2
  obtain ⟨av, cv, hvs, -⟩ := hx.sd
  obtain ⟨nv, hnv⟩ : ∃ n, n = S.seed.length := ⟨_, rfl⟩
  rw [← hnv] at hvs
  subst hvs
  obtain ⟨g0, hg⟩ : ∃ g, g = w.heap.size := ⟨_, rfl⟩
  obtain ⟨w1, hw1⟩ : ∃ w1, w1 = w.alloc (.cells #[.int .i64 0, .slice none 0 0, .int .i64 0, .slice none 0 0, .slice none 0 0] 72) := ⟨_, rfl⟩
  have K1 : Kp [] w w1 := by rw [hw1]; exact (Kp.refl [] w).alloc _
  have G0 : w1.heap[g0]? = some (.cells #[.int .i64 0, .slice none 0 0, .int .i64 0, .slice none 0 0, .slice none 0 0] 72 (0, 0)) := by rw [hw1, hg]; exact heap_alloc_new w _
  have hX1 := hx.on K1
  have HD : Hid (∀ w', Kp [] w1.drew w' → Kp [] w1 w') := fun w' k' => (kp_drew w1).trans k'
  have HAt : Hid (∀ w', Kp [] w1.drew w' → Fv 99 w' l (.func (.func 44) #[.pointer (some ⟨j, 0, none⟩)] #[]) (.pointer (some ⟨s, 0, none⟩)) (.pointer (some ⟨q, 0, none⟩)) (.slice av nv cv) (.pointer none)) := fun w' k => hX1.at_.kept (HD.out w' k) (by simp)
  have HX1 := hide hX1
  have HK1 := hide K1
  have HGe := hide hg
  have HW1 := hide hw1
  have HG0 := hide G0
  have HN := hide hn
  clear hn
  clear hx hla K1 hg hw1 hX1 hnv G0
  go_enter Tryz.func33, Tryz.ntmps33
  go_wp2_with fail
  rw [← HW1.out, ← HGe.out]
  refine region_grow Tryz.mixed [Is (.pointer (some ⟨l, 0, none⟩)), Is (.pointer (some ⟨l, 0, none⟩)), Is (.pointer (some ⟨l, 4, none⟩)), Is (.pointer none), Is (.bool true), Is (.bool true), Is (undef), Is (undef), Is (undef), Is (undef), Is (undef), Is (undef), Is (undef), Is (undef), Is (undef), Is (undef), Is (undef), Is (.bool true)] [[(0, none)], [(5, some 0)], [(6, some 1)], [(7, some 2)], [(8, some 3)], [(9, some 4)], [(0, none), (10, some 5)], [(11, some 6), (10, some 5)], [(12, some 7), (10, some 5)], [(13, some 8), (10, some 5)], [(14, some 9), (10, some 5)], [(15, some 10), (10, some 5)], [(16, some 11), (10, some 5)], [(17, some 12), (10, some 5)], [(0, none), (10, some 5)], [(19, some 14), (10, some 5)], [(18, some 13), (20, some 15), (10, some 5)], [(10, some 5), (21, some 16)]] (by kernel_rfl) ?_ ?_ ?_
  · simp only [List.mem_cons, List.not_mem_nil, or_false]
    intro R hR
    rcases hR with rfl | rfl | rfl | rfl | rfl | rfl | rfl | rfl | rfl | rfl | rfl | rfl | rfl | rfl | rfl | rfl | rfl | rfl <;> first | exact stable_is _
  · refine steps_cons (fun a w hk hn => ?_) ?_
    · have h0 : a.eval (.tmp 0) = .pointer (some ⟨l, 0, none⟩) := hn.1
      clear hn
      refine wants_plain rfl ?_
      exact grown_move (.tmp 0) rfl h0
    refine steps_cons (fun a w hk hn => ?_) ?_
    · have h5 : a.eval (.tmp 5) = .pointer (some ⟨l, 0, none⟩) := hn.1
      clear hn
      refine wants_plain rfl ?_
      refine grown_run (v := .pointer (some ⟨l, 0, none⟩)) ?_ (Kp.refl _ _) rfl
      obtain ⟨ρ, hρ, hc, hf, hg⟩ := eval_is a
      rw [hρ] at h5 ⊢
      simp [go_sem, h5]
    refine steps_cons (fun a w hk hn => ?_) ?_
    · have h6 : a.eval (.tmp 6) = .pointer (some ⟨l, 0, none⟩) := hn.1
      clear hn
      refine wants_plain rfl ?_
      refine grown_run (v := .pointer (some ⟨l, 4, none⟩)) ?_ (Kp.refl _ _) rfl
      obtain ⟨ρ, hρ, hc, hf, hg⟩ := eval_is a
      rw [hρ] at h6 ⊢
      simp [go_sem, h6]
    refine steps_cons (fun a w hk hn => ?_) ?_
    · have h7 : a.eval (.tmp 7) = .pointer (some ⟨l, 4, none⟩) := hn.1
      clear hn
      refine wants_plain rfl ?_
      refine grown_run (v := .pointer none) ?_ (Kp.refl _ _) rfl
      have hcell : w.cell? ⟨l, 4, none⟩ = some (.pointer none) := by rw [cell_of_row w l 4 _ _ _ (HAt.out w hk)]; rfl
      obtain ⟨ρ, hρ, hc, hf, hg⟩ := eval_is a
      rw [hρ] at h7 ⊢
      simp [go_sem, h7, hcell]
    refine steps_cons (fun a w hk hn => ?_) ?_
    · have h8 : a.eval (.tmp 8) = .pointer none := hn.1
      clear hn
      refine wants_plain rfl ?_
      refine grown_run (v := .bool true) ?_ (Kp.refl _ _) rfl
      obtain ⟨ρ, hρ, hc, hf, hg⟩ := eval_is a
      rw [hρ] at h8 ⊢
      simp [go_sem, hc, h8]
    refine steps_cons (fun a w hk hn => ?_) ?_
    · have h9 : a.eval (.tmp 9) = .bool true := hn.1
      clear hn
      refine wants_plain rfl ?_
      exact grown_move (.tmp 9) rfl h9
    refine steps_cons (fun a w hk hn => ?_) ?_
    · have h0 : a.eval (.tmp 0) = .pointer (some ⟨l, 0, none⟩) := hn.1
      have h10 : a.eval (.tmp 10) = .bool true := hn.2.1
      clear hn
      exact wants_not (d := 10) rfl rfl h10 rfl
    refine steps_cons (fun a w hk hn => ?_) ?_
    · have h11 : a.eval (.tmp 11) = undef := hn.1
      have h10 : a.eval (.tmp 10) = .bool true := hn.2.1
      clear hn
      exact wants_not (d := 10) rfl rfl h10 rfl
    refine steps_cons (fun a w hk hn => ?_) ?_
    · have h12 : a.eval (.tmp 12) = undef := hn.1
      have h10 : a.eval (.tmp 10) = .bool true := hn.2.1
      clear hn
      exact wants_not (d := 10) rfl rfl h10 rfl
    refine steps_cons (fun a w hk hn => ?_) ?_
    · have h13 : a.eval (.tmp 13) = undef := hn.1
      have h10 : a.eval (.tmp 10) = .bool true := hn.2.1
      clear hn
      exact wants_not (d := 10) rfl rfl h10 rfl
    refine steps_cons (fun a w hk hn => ?_) ?_
    · have h14 : a.eval (.tmp 14) = undef := hn.1
      have h10 : a.eval (.tmp 10) = .bool true := hn.2.1
      clear hn
      exact wants_not (d := 10) rfl rfl h10 rfl
    refine steps_cons (fun a w hk hn => ?_) ?_
    · have h15 : a.eval (.tmp 15) = undef := hn.1
      have h10 : a.eval (.tmp 10) = .bool true := hn.2.1
      clear hn
      exact wants_not (d := 10) rfl rfl h10 rfl
    refine steps_cons (fun a w hk hn => ?_) ?_
    · have h16 : a.eval (.tmp 16) = undef := hn.1
      have h10 : a.eval (.tmp 10) = .bool true := hn.2.1
      clear hn
      exact wants_not (d := 10) rfl rfl h10 rfl
    refine steps_cons (fun a w hk hn => ?_) ?_
    · have h17 : a.eval (.tmp 17) = undef := hn.1
      have h10 : a.eval (.tmp 10) = .bool true := hn.2.1
      clear hn
      exact wants_not (d := 10) rfl rfl h10 rfl
    refine steps_cons (fun a w hk hn => ?_) ?_
    · have h0 : a.eval (.tmp 0) = .pointer (some ⟨l, 0, none⟩) := hn.1
      have h10 : a.eval (.tmp 10) = .bool true := hn.2.1
      clear hn
      exact wants_not (d := 10) rfl rfl h10 rfl
    refine steps_cons (fun a w hk hn => ?_) ?_
    · have h19 : a.eval (.tmp 19) = undef := hn.1
      have h10 : a.eval (.tmp 10) = .bool true := hn.2.1
      clear hn
      exact wants_not (d := 10) rfl rfl h10 rfl
    refine steps_cons (fun a w hk hn => ?_) ?_
    · have h18 : a.eval (.tmp 18) = undef := hn.1
      have h20 : a.eval (.tmp 20) = undef := hn.2.1
      have h10 : a.eval (.tmp 10) = .bool true := hn.2.2.1
      clear hn
      exact wants_not (d := 10) rfl rfl h10 rfl
    refine steps_cons (fun a w hk hn => ?_) ?_
    · have h10 : a.eval (.tmp 10) = .bool true := hn.1
      have h21 : a.eval (.tmp 21) = undef := hn.2.1
      clear hn
      refine wants_plain rfl ?_
      exact grown_pick _ _ _ true rfl h10 rfl
    exact trivial
  intro W1 hkW1
  rintro _ rfl
  rintro _ rfl
  rintro _ rfl
  rintro _ rfl
  rintro _ rfl
  rintro _ rfl
  rintro _ rfl
  rintro _ rfl
  rintro _ rfl
  rintro _ rfl
  rintro _ rfl
  rintro _ rfl
  rintro _ rfl
  rintro _ rfl
  rintro _ rfl
  rintro _ rfl
  rintro _ rfl
  rintro _ rfl
  refine fin_nil ?_
  simp only [Act.put, List.set_cons_zero, List.set_cons_succ, List.setIfInBounds_toArray]
  have K12 := HD.out W1 hkW1
  have HX2 := hide (HX1.out.on K12)
  have HG2 := hide (K12.heap HG0.out (by simp))
  have HK12 := hide (HK1.out.trans K12)
  clear K12 hkW1 HG0
  have HSn := hide (usign_used ⟨j, s, q, _, _, HX2.out⟩ HN.out)
  go_wp2_with fail
  refine HSn.out.mono ?_
  rintro ee w3 ⟨rfl, hw⟩
  subst w3
  have G3 := HG2.out
  clear HSn
  go_wp2_with (refine wpList_store_flat rfl 72 (.tmp 2) (.tmp 27) rfl g0 0 rfl _ _ [.int .i64 0, .slice none 0 0, .int .i64 0, .slice none 0 0, .slice none 0 0] G3 rfl (by simp) Tryz.sgdSize (by simp [Value.oneCell']) #[.int .i64 0, .slice none 0 0, .int .i64 0, .slice none 0 0, .slice none 0 0] rfl ?_; intro w7 G7 K7)
  refine bodyPost_ret (results_flat2 rfl _ rfl G7 Tryz.underlying72 rfl Tryz.sgdSize) rfl ?_
  exact ⟨rfl, HK12.out.then K7 (fun i hi => .inr (by simp at hi; have := HGe.out; omega))⟩
set_option maxRecDepth 100000 in
set_option maxHeartbeats 8000000 in
theorem upub_anyN (h : Lg w0 w l pd pk S f) (hG : Gl w0) (hla : S.la = none) (hn : S.n < 16) (hmb : S.mb ≤ 1000) (er : Bool) (dk' : Dk) (he : S.dk.add (recP [(S.n : Int)]) = (er, dk')) : Calls Tryz.prog 33 #[.pointer (some ⟨l, 0, none⟩)] w fun e w' => ∃ v en, e = .returned (.tuple #[v, .int .i64 en]) ∧ en = (if er then 0 else 13) ∧ ∃ f', Lg w0 w' l pd pk { S with dk := dk', mb := S.mb + 1, n := if er then S.n + 1 else S.n, la := if er then some (S.its.length, S.n) else S.la } f' ∧ LSt w f w' f' ∧ ∃ b, (∀ i, f'.tot i → i < b) ∧ w.heap.size ≤ b ∧ b ≤ w'.heap.size ∧ (if er then SgU b w' v (sgU S.seed S.its (S.its.length, S.n)) else v = sgd0) := by
  obtain ⟨j, s, q, vs, pv, hx⟩ := h
  have hla2 := hx.la
  rw [hla] at hla2
  obtain rfl : pv = .pointer none := hla2
  obtain ⟨av, cv, hvs, -⟩ := hx.sd
  obtain ⟨nv, hnv⟩ : ∃ n, n = S.seed.length := ⟨_, rfl⟩
  rw [← hnv] at hvs
  subst hvs
  obtain ⟨g0, hg⟩ : ∃ g, g = w.heap.size := ⟨_, rfl⟩
  obtain ⟨w1, hw1⟩ : ∃ w1, w1 = w.alloc (.cells #[.int .i64 0, .slice none 0 0, .int .i64 0, .slice none 0 0, .slice none 0 0] 72) := ⟨_, rfl⟩
  have K1 : Kp [] w w1 := by rw [hw1]; exact (Kp.refl [] w).alloc _
  have G0 : w1.heap[g0]? = some (.cells #[.int .i64 0, .slice none 0 0, .int .i64 0, .slice none 0 0, .slice none 0 0] 72 (0, 0)) := by rw [hw1, hg]; exact heap_alloc_new w _
  have hX1 := hx.on K1
  have HD : Hid (∀ w', Kp [] w1.drew w' → Kp [] w1 w') := fun w' k' => (kp_drew w1).trans k'
  have HAt : Hid (∀ w', Kp [] w1.drew w' → Fv 99 w' l (.func (.func 44) #[.pointer (some ⟨j, 0, none⟩)] #[]) (.pointer (some ⟨s, 0, none⟩)) (.pointer (some ⟨q, 0, none⟩)) (.slice av nv cv) (.pointer none)) := fun w' k => hX1.at_.kept (HD.out w' k) (by simp)
  have HX1 := hide hX1
  have HK1 := hide K1
  have HGe := hide hg
  have HW1 := hide hw1
  have HG0 := hide G0
  have hg0f : f.tot g0 → g0 < w.heap.size := fun ⟨a, ha'⟩ => by have := hx.ok.rng a _ ha'; omega
  have Hw0 := hide hx.ok.kp.size
  have HN := hide hn
  have HG := hide hG
  have HMb := hide hmb
  have HE := hide he
  obtain ⟨en, hen⟩ : ∃ en : Int, en = if er then 0 else 13 := ⟨_, rfl⟩
  have HEn := hide hen
  clear hn hG hmb he hen
  clear hx hla K1 hg hw1 hX1 hnv G0
  go_enter Tryz.func33, Tryz.ntmps33
  go_wp2_with fail
  rw [← HW1.out, ← HGe.out]
  refine region_grow Tryz.mixed [Is (.pointer (some ⟨l, 0, none⟩)), Is (.pointer (some ⟨l, 0, none⟩)), Is (.pointer (some ⟨l, 4, none⟩)), Is (.pointer none), Is (.bool true), Is (.bool true), Is (undef), Is (undef), Is (undef), Is (undef), Is (undef), Is (undef), Is (undef), Is (undef), Is (undef), Is (undef), Is (undef), Is (.bool true)] [[(0, none)], [(5, some 0)], [(6, some 1)], [(7, some 2)], [(8, some 3)], [(9, some 4)], [(0, none), (10, some 5)], [(11, some 6), (10, some 5)], [(12, some 7), (10, some 5)], [(13, some 8), (10, some 5)], [(14, some 9), (10, some 5)], [(15, some 10), (10, some 5)], [(16, some 11), (10, some 5)], [(17, some 12), (10, some 5)], [(0, none), (10, some 5)], [(19, some 14), (10, some 5)], [(18, some 13), (20, some 15), (10, some 5)], [(10, some 5), (21, some 16)]] (by kernel_rfl) ?_ ?_ ?_
  · simp only [List.mem_cons, List.not_mem_nil, or_false]
    intro R hR
    rcases hR with rfl | rfl | rfl | rfl | rfl | rfl | rfl | rfl | rfl | rfl | rfl | rfl | rfl | rfl | rfl | rfl | rfl | rfl <;> first | exact stable_is _
  · refine steps_cons (fun a w hk hn => ?_) ?_
    · have h0 : a.eval (.tmp 0) = .pointer (some ⟨l, 0, none⟩) := hn.1
      clear hn
      refine wants_plain rfl ?_
      exact grown_move (.tmp 0) rfl h0
    refine steps_cons (fun a w hk hn => ?_) ?_
    · have h5 : a.eval (.tmp 5) = .pointer (some ⟨l, 0, none⟩) := hn.1
      clear hn
      refine wants_plain rfl ?_
      refine grown_run (v := .pointer (some ⟨l, 0, none⟩)) ?_ (Kp.refl _ _) rfl
      obtain ⟨ρ, hρ, hc, hf, hg⟩ := eval_is a
      rw [hρ] at h5 ⊢
      simp [go_sem, h5]
    refine steps_cons (fun a w hk hn => ?_) ?_
    · have h6 : a.eval (.tmp 6) = .pointer (some ⟨l, 0, none⟩) := hn.1
      clear hn
      refine wants_plain rfl ?_
      refine grown_run (v := .pointer (some ⟨l, 4, none⟩)) ?_ (Kp.refl _ _) rfl
      obtain ⟨ρ, hρ, hc, hf, hg⟩ := eval_is a
      rw [hρ] at h6 ⊢
      simp [go_sem, h6]
    refine steps_cons (fun a w hk hn => ?_) ?_
    · have h7 : a.eval (.tmp 7) = .pointer (some ⟨l, 4, none⟩) := hn.1
      clear hn
      refine wants_plain rfl ?_
      refine grown_run (v := .pointer none) ?_ (Kp.refl _ _) rfl
      have hcell : w.cell? ⟨l, 4, none⟩ = some (.pointer none) := by rw [cell_of_row w l 4 _ _ _ (HAt.out w hk)]; rfl
      obtain ⟨ρ, hρ, hc, hf, hg⟩ := eval_is a
      rw [hρ] at h7 ⊢
      simp [go_sem, h7, hcell]
    refine steps_cons (fun a w hk hn => ?_) ?_
    · have h8 : a.eval (.tmp 8) = .pointer none := hn.1
      clear hn
      refine wants_plain rfl ?_
      refine grown_run (v := .bool true) ?_ (Kp.refl _ _) rfl
      obtain ⟨ρ, hρ, hc, hf, hg⟩ := eval_is a
      rw [hρ] at h8 ⊢
      simp [go_sem, hc, h8]
    refine steps_cons (fun a w hk hn => ?_) ?_
    · have h9 : a.eval (.tmp 9) = .bool true := hn.1
      clear hn
      refine wants_plain rfl ?_
      exact grown_move (.tmp 9) rfl h9
    refine steps_cons (fun a w hk hn => ?_) ?_
    · have h0 : a.eval (.tmp 0) = .pointer (some ⟨l, 0, none⟩) := hn.1
      have h10 : a.eval (.tmp 10) = .bool true := hn.2.1
      clear hn
      exact wants_not (d := 10) rfl rfl h10 rfl
    refine steps_cons (fun a w hk hn => ?_) ?_
    · have h11 : a.eval (.tmp 11) = undef := hn.1
      have h10 : a.eval (.tmp 10) = .bool true := hn.2.1
      clear hn
      exact wants_not (d := 10) rfl rfl h10 rfl
    refine steps_cons (fun a w hk hn => ?_) ?_
    · have h12 : a.eval (.tmp 12) = undef := hn.1
      have h10 : a.eval (.tmp 10) = .bool true := hn.2.1
      clear hn
      exact wants_not (d := 10) rfl rfl h10 rfl
    refine steps_cons (fun a w hk hn => ?_) ?_
    · have h13 : a.eval (.tmp 13) = undef := hn.1
      have h10 : a.eval (.tmp 10) = .bool true := hn.2.1
      clear hn
      exact wants_not (d := 10) rfl rfl h10 rfl
    refine steps_cons (fun a w hk hn => ?_) ?_
    · have h14 : a.eval (.tmp 14) = undef := hn.1
      have h10 : a.eval (.tmp 10) = .bool true := hn.2.1
      clear hn
      exact wants_not (d := 10) rfl rfl h10 rfl
    refine steps_cons (fun a w hk hn => ?_) ?_
    · have h15 : a.eval (.tmp 15) = undef := hn.1
      have h10 : a.eval (.tmp 10) = .bool true := hn.2.1
      clear hn
      exact wants_not (d := 10) rfl rfl h10 rfl
    refine steps_cons (fun a w hk hn => ?_) ?_
    · have h16 : a.eval (.tmp 16) = undef := hn.1
      have h10 : a.eval (.tmp 10) = .bool true := hn.2.1
      clear hn
      exact wants_not (d := 10) rfl rfl h10 rfl
    refine steps_cons (fun a w hk hn => ?_) ?_
    · have h17 : a.eval (.tmp 17) = undef := hn.1
      have h10 : a.eval (.tmp 10) = .bool true := hn.2.1
      clear hn
      exact wants_not (d := 10) rfl rfl h10 rfl
    refine steps_cons (fun a w hk hn => ?_) ?_
    · have h0 : a.eval (.tmp 0) = .pointer (some ⟨l, 0, none⟩) := hn.1
      have h10 : a.eval (.tmp 10) = .bool true := hn.2.1
      clear hn
      exact wants_not (d := 10) rfl rfl h10 rfl
    refine steps_cons (fun a w hk hn => ?_) ?_
    · have h19 : a.eval (.tmp 19) = undef := hn.1
      have h10 : a.eval (.tmp 10) = .bool true := hn.2.1
      clear hn
      exact wants_not (d := 10) rfl rfl h10 rfl
    refine steps_cons (fun a w hk hn => ?_) ?_
    · have h18 : a.eval (.tmp 18) = undef := hn.1
      have h20 : a.eval (.tmp 20) = undef := hn.2.1
      have h10 : a.eval (.tmp 10) = .bool true := hn.2.2.1
      clear hn
      exact wants_not (d := 10) rfl rfl h10 rfl
    refine steps_cons (fun a w hk hn => ?_) ?_
    · have h10 : a.eval (.tmp 10) = .bool true := hn.1
      have h21 : a.eval (.tmp 21) = undef := hn.2.1
      clear hn
      refine wants_plain rfl ?_
      exact grown_pick _ _ _ true rfl h10 rfl
    exact trivial
  intro W1 hkW1
  rintro _ rfl
  rintro _ rfl
  rintro _ rfl
  rintro _ rfl
  rintro _ rfl
  rintro _ rfl
  rintro _ rfl
  rintro _ rfl
  rintro _ rfl
  rintro _ rfl
  rintro _ rfl
  rintro _ rfl
  rintro _ rfl
  rintro _ rfl
  rintro _ rfl
  rintro _ rfl
  rintro _ rfl
  rintro _ rfl
  refine fin_nil ?_
  simp only [Act.put, List.set_cons_zero, List.set_cons_succ, List.setIfInBounds_toArray]
  have K12 := HD.out W1 hkW1
  have HX2 := hide (HX1.out.on K12)
  have HG2 := hide (K12.heap HG0.out (by simp))
  have HK12 := hide (HK1.out.trans K12)
  clear K12 hkW1 HG0
  have HSn := hide (usign_any ⟨j, s, q, _, _, HX2.out⟩ HG.out HN.out HMb.out er dk' HE.out en HEn.out)
  have hlt2 : g0 < W1.heap.size := lt_of_block HG2.out
  have hlt0 : g0 = w.heap.size := HGe.out
  have Hlt0 := hide hlt0
  have hno : ¬ f.tot g0 := fun e => by have := hg0f e; omega
  go_wp2_with fail
  refine HSn.out.mono ?_
  rintro ee w3 ⟨rfl, f', L3, T3⟩
  have HL3 := hide L3
  have HT3 : Hid (LSt w f w3 f') := (Stp.mid HK12.out).trans T3
  have HG3 := hide (T3.heap HG2.out hno)
  have hng : ¬ f'.tot g0 := T3.off hlt2 hno
  have HNG := hide hng
  have hg3 : g0 < w3.heap.size := lt_of_block HG3.out
  have Hsz := hide T3.size
  clear HSn L3 T3 hno hng hlt2 hlt0
  cases er
  · obtain rfl : en = 13 := by rw [HEn.out]; rfl
    have G3 := HG3.out
    go_wp2_with (refine wpList_store_flat rfl 72 (.tmp 2) (.tmp 27) rfl g0 0 rfl _ _ [.int .i64 0, .slice none 0 0, .int .i64 0, .slice none 0 0, .slice none 0 0] G3 rfl (by simp) Tryz.sgdSize (by simp [Value.oneCell']) #[.int .i64 0, .slice none 0 0, .int .i64 0, .slice none 0 0, .slice none 0 0] rfl ?_; intro w7 G7 K7)
    refine bodyPost_ret (results_flat2 rfl _ rfl G7 Tryz.underlying72 rfl Tryz.sgdSize) rfl ?_
    have hl7 : ∀ i ∈ [g0], w0.heap.size ≤ i ∧ ¬ f'.tot i := fun i hi => by simp at hi; subst hi; exact ⟨by have := Hlt0.out; have := Hw0.out; omega, HNG.out⟩
    refine ⟨_, 13, rfl, rfl, f', HL3.out.beside K7 hl7, HT3.out.aside K7 (by have := Hlt0.out; simp; omega), w3.heap.size, fun i hi => (HL3.out.lt i hi).2, HT3.out.size, K7.size, rfl⟩
  · obtain rfl : en = 0 := by rw [HEn.out]; rfl
    obtain ⟨a1, hza1⟩ : ∃ a, a = S.its.length := ⟨_, rfl⟩
    obtain ⟨a2, hza2⟩ : ∃ a, a = S.n := ⟨_, rfl⟩
    obtain ⟨j3, s3, q3, vs3, pv3, hX⟩ := HL3.out
    have hla3 := hX.la
    simp only [if_true] at hla3
    rw [← hza1, ← hza2] at hla3
    have HZ1 := hide hza1
    have HZ2 := hide hza2
    clear hza1 hza2
    obtain ⟨hle3, ha3, tt, vr, vp, vq, rfl, hFt3, hFv3, hSF3⟩ := hla3
    obtain ⟨ar, mr, cr, ap, np, cp, aq, nq, cq, e2, -, -⟩ := hSF3.v.shape
    simp only [Value.agg.injEq, Array.mk.injEq, List.cons.injEq, and_true] at e2
    obtain ⟨-, rfl, -, rfl, rfl⟩ := e2
    have hFv5 := hFv3
    have hV5 := hSF3.v
    have hsm := sgU_small S.seed S.its (a1, a2) ha3
    have G0 := HG3.out
    clear hFv3 hSF3 hle3 hFt3 ha3 HL3
    have x0 := hFv5.c0
    have x1 := hFv5.c1
    have x2 := hFv5.c2
    have x3 := hFv5.c3
    have x4 := hFv5.c4
    have y4 := hX.at_.c4
    have HC := hide (ucopy_any (.agg #[.int .i64 (a1 : Int), .slice ar mr cr, .int .i64 (a2 : Int), .slice ap np cp, .slice aq nq cq]) _ w3 hV5 hsm)
    have HG0 := hide G0
    have hg0 : g0 < w3.heap.size := lt_of_block G0
    have HX5 := hide hX
    clear hV5 hsm G0 hFv5 hX
    go_wp2_with fail
    refine HC.out.mono ?_
    rintro ee w5 ⟨v5, rfl, A5, K5⟩
    obtain ⟨br, kr, dr, bp, kp, dp, bq', kq, dq, rfl, -, -⟩ := A5.v.shape
    have G5 := K5.heap HG0.out (by simp)
    have HA5 := hide A5
    have HK5 := hide K5
    clear HC A5 K5 x0 x1 x2 x3 x4 y4
    go_wp2_with (refine wpList_store_flat rfl 72 (.tmp 2) (.tmp 35) rfl g0 0 rfl _ _ [.int .i64 _, .slice br kr dr, .int .i64 _, .slice bp kp dp, .slice bq' kq dq] G5 rfl (by simp) Tryz.sgdSize (by simp [Value.oneCell']) #[.int .i64 _, .slice br kr dr, .int .i64 _, .slice bp kp dp, .slice bq' kq dq] rfl ?_; intro w6 G6 K6)
    refine bodyPost_ret (results_flat2 rfl _ rfl G6 Tryz.underlying72 rfl Tryz.sgdSize) rfl ?_
    have hA6 := HA5.out.kept (S := [g0]) (by simpa using hg0) K6
    have hl7 : ∀ i ∈ [g0], w0.heap.size ≤ i ∧ ¬ f'.tot i := fun i hi => by simp at hi; subst hi; exact ⟨by have := Hlt0.out; have := Hw0.out; omega, HNG.out⟩
    have L5 : Lg w0 w6 l pd pk _ f' := ⟨j3, s3, q3, vs3, _, (HX5.out.on HK5.out).beside K6 hl7⟩
    refine ⟨_, 0, rfl, rfl, f', L5, (HT3.out.trans (Stp.mid HK5.out)).aside K6 (by have := Hlt0.out; simp; omega), w3.heap.size, fun i ⟨a, ha'⟩ => (HX5.out.ok.rng a i ha').2, HT3.out.size, Nat.le_trans HK5.out.size K6.size, ?_⟩
    have e6 : (S.its.length, S.n) = (a1, a2) := by rw [HZ1.out, HZ2.out]
    rw [e6]
    exact hA6
set_option maxRecDepth 100000 in
set_option maxHeartbeats 4000000 in
theorem upub_usedS (h : Lg w0 w l pd pk S f) (a1 a2 : Nat) (hla : S.la = some (a1, a2)) (ha : a1 ≠ S.its.length) (hn : S.n = 16) : Calls Tryz.prog 33 #[.pointer (some ⟨l, 0, none⟩)] w fun e w' => e = .returned (.tuple #[sgd0, .int .i64 23]) ∧ Kp [] w w' := by
  obtain ⟨j, s, q, vs, pv, hx⟩ := h
  have hla2 := hx.la
  rw [hla] at hla2
  obtain ⟨hle, ha16, tt, vr, vp, vq, rfl, hFt, hFv, hSF⟩ := hla2
  obtain ⟨ar, mr, cr, ap, np, cp, aq, nq, cq, e2, -, -⟩ := hSF.v.shape
  simp only [Value.agg.injEq, Array.mk.injEq, List.cons.injEq, and_true] at e2
  obtain ⟨-, rfl, -, rfl, rfl⟩ := e2
  obtain ⟨av, cv, hvs, -⟩ := hx.sd
  obtain ⟨nv, hnv⟩ : ∃ n, n = S.seed.length := ⟨_, rfl⟩
  rw [← hnv] at hvs
  subst hvs
  obtain ⟨g0, hg⟩ : ∃ g, g = w.heap.size := ⟨_, rfl⟩
  obtain ⟨w1, hw1⟩ : ∃ w1, w1 = w.alloc (.cells #[.int .i64 0, .slice none 0 0, .int .i64 0, .slice none 0 0, .slice none 0 0] 72) := ⟨_, rfl⟩
  have K1 : Kp [] w w1 := by rw [hw1]; exact (Kp.refl [] w).alloc _
  have G0 : w1.heap[g0]? = some (.cells #[.int .i64 0, .slice none 0 0, .int .i64 0, .slice none 0 0, .slice none 0 0] 72 (0, 0)) := by rw [hw1, hg]; exact heap_alloc_new w _
  have hX1 := hx.on K1
  have HD : Hid (∀ w', Kp [] w1.drew w' → Kp [] w1 w') := fun w' k' => (kp_drew w1).trans k'
  have HAt : Hid (∀ w', Kp [] w1.drew w' → Fv 99 w' l (.func (.func 44) #[.pointer (some ⟨j, 0, none⟩)] #[]) (.pointer (some ⟨s, 0, none⟩)) (.pointer (some ⟨q, 0, none⟩)) (.slice av nv cv) (.pointer (some ⟨tt, 0, none⟩))) := fun w' k => hX1.at_.kept (HD.out w' k) (by simp)
  have HTt : Hid (∀ w', Kp [] w1.drew w' → Fv 72 w' tt (.int .i64 (a1 : Int)) (.slice ar mr cr) (.int .i64 (a2 : Int)) (.slice ap np cp) (.slice aq nq cq)) := fun w' k => hFv.kept (K1.trans (HD.out w' k)) (by simp)
  have HLg : Hid (∀ w', Kp [] w1.drew w' → Lg w0 w' l pd pk S f) := fun w' k => ⟨j, s, q, _, _, hX1.on (HD.out w' k)⟩
  obtain ⟨il, hil⟩ : ∃ k, k = S.its.length := ⟨_, rfl⟩
  have HIl : Hid ((il : Int) = (S.its.length : Int)) := hide (by rw [hil])
  have HCmp : Hid (¬ (a1 : Int) = (il : Int)) := hide (by rw [hil]; omega)
  have HX1 := hide hX1
  have HK1 := hide K1
  have HGe := hide hg
  have HW1 := hide hw1
  have HG0 := hide G0
  have HN := hide hn
  clear hn
  clear hx hla hFv hSF hle hFt K1 hg hw1 hX1 ha hnv hil G0 ha16
  go_enter Tryz.func33, Tryz.ntmps33
  go_wp2_with fail
  rw [← HW1.out, ← HGe.out]
  refine region_grow Tryz.mixed [Is (.pointer (some ⟨l, 0, none⟩)), Is (.pointer (some ⟨l, 0, none⟩)), Is (.pointer (some ⟨l, 4, none⟩)), Is (.pointer (some ⟨tt, 0, none⟩)), Is (.bool false), Is (.bool false), Is (.pointer (some ⟨l, 0, none⟩)), Is (.pointer (some ⟨l, 0, none⟩)), Is (.pointer (some ⟨l, 4, none⟩)), Is (.pointer (some ⟨tt, 0, none⟩)), Is (.pointer (some ⟨tt, 0, none⟩)), Is (.pointer (some ⟨tt, 0, none⟩)), Is (.pointer (some ⟨tt, 0, none⟩)), Is (.int .i64 (a1 : Int)), Is (.pointer (some ⟨l, 0, none⟩)), Is (.int .i64 (il : Int)), Is (.bool true), Is (.bool true)] [[(0, none)], [(5, some 0)], [(6, some 1)], [(7, some 2)], [(8, some 3)], [(9, some 4)], [(0, none), (10, some 5)], [(11, some 6), (10, some 5)], [(12, some 7), (10, some 5)], [(13, some 8), (10, some 5)], [(14, some 9), (10, some 5)], [(15, some 10), (10, some 5)], [(16, some 11), (10, some 5)], [(17, some 12), (10, some 5)], [(0, none), (10, some 5)], [(19, some 14), (10, some 5)], [(18, some 13), (20, some 15), (10, some 5)], [(10, some 5), (21, some 16)]] (by kernel_rfl) ?_ ?_ ?_
  · simp only [List.mem_cons, List.not_mem_nil, or_false]
    intro R hR
    rcases hR with rfl | rfl | rfl | rfl | rfl | rfl | rfl | rfl | rfl | rfl | rfl | rfl | rfl | rfl | rfl | rfl | rfl | rfl <;> first | exact stable_is _
  · refine steps_cons (fun a w hk hn => ?_) ?_
    · have h0 : a.eval (.tmp 0) = .pointer (some ⟨l, 0, none⟩) := hn.1
      clear hn
      refine wants_plain rfl ?_
      exact grown_move (.tmp 0) rfl h0
    refine steps_cons (fun a w hk hn => ?_) ?_
    · have h5 : a.eval (.tmp 5) = .pointer (some ⟨l, 0, none⟩) := hn.1
      clear hn
      refine wants_plain rfl ?_
      refine grown_run (v := .pointer (some ⟨l, 0, none⟩)) ?_ (Kp.refl _ _) rfl
      obtain ⟨ρ, hρ, hc, hf, hg⟩ := eval_is a
      rw [hρ] at h5 ⊢
      simp [go_sem, h5]
    refine steps_cons (fun a w hk hn => ?_) ?_
    · have h6 : a.eval (.tmp 6) = .pointer (some ⟨l, 0, none⟩) := hn.1
      clear hn
      refine wants_plain rfl ?_
      refine grown_run (v := .pointer (some ⟨l, 4, none⟩)) ?_ (Kp.refl _ _) rfl
      obtain ⟨ρ, hρ, hc, hf, hg⟩ := eval_is a
      rw [hρ] at h6 ⊢
      simp [go_sem, h6]
    refine steps_cons (fun a w hk hn => ?_) ?_
    · have h7 : a.eval (.tmp 7) = .pointer (some ⟨l, 4, none⟩) := hn.1
      clear hn
      refine wants_plain rfl ?_
      refine grown_run (v := .pointer (some ⟨tt, 0, none⟩)) ?_ (Kp.refl _ _) rfl
      have hcell : w.cell? ⟨l, 4, none⟩ = some (.pointer (some ⟨tt, 0, none⟩)) := by rw [cell_of_row w l 4 _ _ _ (HAt.out w hk)]; rfl
      obtain ⟨ρ, hρ, hc, hf, hg⟩ := eval_is a
      rw [hρ] at h7 ⊢
      simp [go_sem, h7, hcell]
    refine steps_cons (fun a w hk hn => ?_) ?_
    · have h8 : a.eval (.tmp 8) = .pointer (some ⟨tt, 0, none⟩) := hn.1
      clear hn
      refine wants_plain rfl ?_
      refine grown_run (v := .bool false) ?_ (Kp.refl _ _) rfl
      obtain ⟨ρ, hρ, hc, hf, hg⟩ := eval_is a
      rw [hρ] at h8 ⊢
      simp [go_sem, hc, h8]
    refine steps_cons (fun a w hk hn => ?_) ?_
    · have h9 : a.eval (.tmp 9) = .bool false := hn.1
      clear hn
      refine wants_plain rfl ?_
      exact grown_move (.tmp 9) rfl h9
    refine steps_cons (fun a w hk hn => ?_) ?_
    · have h0 : a.eval (.tmp 0) = .pointer (some ⟨l, 0, none⟩) := hn.1
      have h10 : a.eval (.tmp 10) = .bool false := hn.2.1
      clear hn
      refine wants_guard (d := 10) rfl rfl h10 ?_
      exact grown_move (.tmp 0) rfl h0
    refine steps_cons (fun a w hk hn => ?_) ?_
    · have h11 : a.eval (.tmp 11) = .pointer (some ⟨l, 0, none⟩) := hn.1
      have h10 : a.eval (.tmp 10) = .bool false := hn.2.1
      clear hn
      refine wants_guard (d := 10) rfl rfl h10 ?_
      refine grown_run (v := .pointer (some ⟨l, 0, none⟩)) ?_ (Kp.refl _ _) rfl
      obtain ⟨ρ, hρ, hc, hf, hg⟩ := eval_is a
      rw [hρ] at h11 ⊢
      simp [go_sem, h11]
    refine steps_cons (fun a w hk hn => ?_) ?_
    · have h12 : a.eval (.tmp 12) = .pointer (some ⟨l, 0, none⟩) := hn.1
      have h10 : a.eval (.tmp 10) = .bool false := hn.2.1
      clear hn
      refine wants_guard (d := 10) rfl rfl h10 ?_
      refine grown_run (v := .pointer (some ⟨l, 4, none⟩)) ?_ (Kp.refl _ _) rfl
      obtain ⟨ρ, hρ, hc, hf, hg⟩ := eval_is a
      rw [hρ] at h12 ⊢
      simp [go_sem, h12]
    refine steps_cons (fun a w hk hn => ?_) ?_
    · have h13 : a.eval (.tmp 13) = .pointer (some ⟨l, 4, none⟩) := hn.1
      have h10 : a.eval (.tmp 10) = .bool false := hn.2.1
      clear hn
      refine wants_guard (d := 10) rfl rfl h10 ?_
      refine grown_run (v := .pointer (some ⟨tt, 0, none⟩)) ?_ (Kp.refl _ _) rfl
      have hcell : w.cell? ⟨l, 4, none⟩ = some (.pointer (some ⟨tt, 0, none⟩)) := by rw [cell_of_row w l 4 _ _ _ (HAt.out w hk)]; rfl
      obtain ⟨ρ, hρ, hc, hf, hg⟩ := eval_is a
      rw [hρ] at h13 ⊢
      simp [go_sem, h13, hcell]
    refine steps_cons (fun a w hk hn => ?_) ?_
    · have h14 : a.eval (.tmp 14) = .pointer (some ⟨tt, 0, none⟩) := hn.1
      have h10 : a.eval (.tmp 10) = .bool false := hn.2.1
      clear hn
      refine wants_guard (d := 10) rfl rfl h10 ?_
      refine grown_run (v := .pointer (some ⟨tt, 0, none⟩)) ?_ (Kp.refl _ _) rfl
      obtain ⟨ρ, hρ, hc, hf, hg⟩ := eval_is a
      rw [hρ] at h14 ⊢
      simp [go_sem, h14]
    refine steps_cons (fun a w hk hn => ?_) ?_
    · have h15 : a.eval (.tmp 15) = .pointer (some ⟨tt, 0, none⟩) := hn.1
      have h10 : a.eval (.tmp 10) = .bool false := hn.2.1
      clear hn
      refine wants_guard (d := 10) rfl rfl h10 ?_
      refine grown_run (v := .pointer (some ⟨tt, 0, none⟩)) ?_ (Kp.refl _ _) rfl
      obtain ⟨ρ, hρ, hc, hf, hg⟩ := eval_is a
      rw [hρ] at h15 ⊢
      simp [go_sem, h15]
    refine steps_cons (fun a w hk hn => ?_) ?_
    · have h16 : a.eval (.tmp 16) = .pointer (some ⟨tt, 0, none⟩) := hn.1
      have h10 : a.eval (.tmp 10) = .bool false := hn.2.1
      clear hn
      refine wants_guard (d := 10) rfl rfl h10 ?_
      refine grown_run (v := .pointer (some ⟨tt, 0, none⟩)) ?_ (Kp.refl _ _) rfl
      obtain ⟨ρ, hρ, hc, hf, hg⟩ := eval_is a
      rw [hρ] at h16 ⊢
      simp [go_sem, h16]
    refine steps_cons (fun a w hk hn => ?_) ?_
    · have h17 : a.eval (.tmp 17) = .pointer (some ⟨tt, 0, none⟩) := hn.1
      have h10 : a.eval (.tmp 10) = .bool false := hn.2.1
      clear hn
      refine wants_guard (d := 10) rfl rfl h10 ?_
      refine grown_run (v := .int .i64 (a1 : Int)) ?_ (Kp.refl _ _) rfl
      have hcell : w.cell? ⟨tt, 0, none⟩ = some (.int .i64 (a1 : Int)) := by rw [cell_of_row w tt 0 _ _ _ (HTt.out w hk)]; rfl
      obtain ⟨ρ, hρ, hc, hf, hg⟩ := eval_is a
      rw [hρ] at h17 ⊢
      simp [go_sem, h17, hcell]
    refine steps_cons (fun a w hk hn => ?_) ?_
    · have h0 : a.eval (.tmp 0) = .pointer (some ⟨l, 0, none⟩) := hn.1
      have h10 : a.eval (.tmp 10) = .bool false := hn.2.1
      clear hn
      refine wants_guard (d := 10) rfl rfl h10 ?_
      exact grown_move (.tmp 0) rfl h0
    refine steps_cons (fun a w hk hn => ?_) ?_
    · have h19 : a.eval (.tmp 19) = .pointer (some ⟨l, 0, none⟩) := hn.1
      have h10 : a.eval (.tmp 10) = .bool false := hn.2.1
      clear hn
      refine wants_guard (d := 10) rfl rfl h10 ?_
      refine grown_call (f := 16) rfl Tryz.func16 (by kernel_rfl) (by kernel_rfl) ?_
      simp only [List.map_toArray, List.map_cons, List.map_nil, h19]
      refine (usize_any (HLg.out w hk) (il : Int) HIl.out).mono ?_
      rintro e w' ⟨rfl, rfl⟩
      exact ⟨_, rfl, Kp.refl _ _, rfl⟩
    refine steps_cons (fun a w hk hn => ?_) ?_
    · have h18 : a.eval (.tmp 18) = .int .i64 (a1 : Int) := hn.1
      have h20 : a.eval (.tmp 20) = .int .i64 (il : Int) := hn.2.1
      have h10 : a.eval (.tmp 10) = .bool false := hn.2.2.1
      clear hn
      refine wants_guard (d := 10) rfl rfl h10 ?_
      refine grown_run (v := .bool true) ?_ (Kp.refl _ _) rfl
      obtain ⟨ρ, hρ, hc, hf, hg⟩ := eval_is a
      rw [hρ] at h18 h20 ⊢
      simp [go_sem, h18, h20, HCmp.out]
    refine steps_cons (fun a w hk hn => ?_) ?_
    · have h10 : a.eval (.tmp 10) = .bool false := hn.1
      have h21 : a.eval (.tmp 21) = .bool true := hn.2.1
      clear hn
      refine wants_plain rfl ?_
      exact grown_pick _ _ _ false rfl h10 h21
    exact trivial
  intro W1 hkW1
  rintro _ rfl
  rintro _ rfl
  rintro _ rfl
  rintro _ rfl
  rintro _ rfl
  rintro _ rfl
  rintro _ rfl
  rintro _ rfl
  rintro _ rfl
  rintro _ rfl
  rintro _ rfl
  rintro _ rfl
  rintro _ rfl
  rintro _ rfl
  rintro _ rfl
  rintro _ rfl
  rintro _ rfl
  rintro _ rfl
  refine fin_nil ?_
  simp only [Act.put, List.set_cons_zero, List.set_cons_succ, List.setIfInBounds_toArray]
  have K12 := HD.out W1 hkW1
  have HX2 := hide (HX1.out.on K12)
  have HG2 := hide (K12.heap HG0.out (by simp))
  have HK12 := hide (HK1.out.trans K12)
  clear K12 hkW1 HG0
  have HSn := hide (usign_used ⟨j, s, q, _, _, HX2.out⟩ HN.out)
  go_wp2_with fail
  refine HSn.out.mono ?_
  rintro ee w3 ⟨rfl, hw⟩
  subst w3
  have G3 := HG2.out
  clear HSn
  go_wp2_with (refine wpList_store_flat rfl 72 (.tmp 2) (.tmp 27) rfl g0 0 rfl _ _ [.int .i64 0, .slice none 0 0, .int .i64 0, .slice none 0 0, .slice none 0 0] G3 rfl (by simp) Tryz.sgdSize (by simp [Value.oneCell']) #[.int .i64 0, .slice none 0 0, .int .i64 0, .slice none 0 0, .slice none 0 0] rfl ?_; intro w7 G7 K7)
  refine bodyPost_ret (results_flat2 rfl _ rfl G7 Tryz.underlying72 rfl Tryz.sgdSize) rfl ?_
  exact ⟨rfl, HK12.out.then K7 (fun i hi => .inr (by simp at hi; have := HGe.out; omega))⟩
set_option maxRecDepth 100000 in
set_option maxHeartbeats 8000000 in
theorem upub_anyS (h : Lg w0 w l pd pk S f) (hG : Gl w0) (a1 a2 : Nat) (hla : S.la = some (a1, a2)) (ha : a1 ≠ S.its.length) (hn : S.n < 16) (hmb : S.mb ≤ 1000) (er : Bool) (dk' : Dk) (he : S.dk.add (recP [(S.n : Int)]) = (er, dk')) : Calls Tryz.prog 33 #[.pointer (some ⟨l, 0, none⟩)] w fun e w' => ∃ v en, e = .returned (.tuple #[v, .int .i64 en]) ∧ en = (if er then 0 else 13) ∧ ∃ f', Lg w0 w' l pd pk { S with dk := dk', mb := S.mb + 1, n := if er then S.n + 1 else S.n, la := if er then some (S.its.length, S.n) else S.la } f' ∧ LSt w f w' f' ∧ ∃ b, (∀ i, f'.tot i → i < b) ∧ w.heap.size ≤ b ∧ b ≤ w'.heap.size ∧ (if er then SgU b w' v (sgU S.seed S.its (S.its.length, S.n)) else v = sgd0) := by
  obtain ⟨j, s, q, vs, pv, hx⟩ := h
  have hla2 := hx.la
  rw [hla] at hla2
  obtain ⟨hle, ha16, tt, vr, vp, vq, rfl, hFt, hFv, hSF⟩ := hla2
  obtain ⟨ar, mr, cr, ap, np, cp, aq, nq, cq, e2, -, -⟩ := hSF.v.shape
  simp only [Value.agg.injEq, Array.mk.injEq, List.cons.injEq, and_true] at e2
  obtain ⟨-, rfl, -, rfl, rfl⟩ := e2
  obtain ⟨av, cv, hvs, -⟩ := hx.sd
  obtain ⟨nv, hnv⟩ : ∃ n, n = S.seed.length := ⟨_, rfl⟩
  rw [← hnv] at hvs
  subst hvs
  obtain ⟨g0, hg⟩ : ∃ g, g = w.heap.size := ⟨_, rfl⟩
  obtain ⟨w1, hw1⟩ : ∃ w1, w1 = w.alloc (.cells #[.int .i64 0, .slice none 0 0, .int .i64 0, .slice none 0 0, .slice none 0 0] 72) := ⟨_, rfl⟩
  have K1 : Kp [] w w1 := by rw [hw1]; exact (Kp.refl [] w).alloc _
  have G0 : w1.heap[g0]? = some (.cells #[.int .i64 0, .slice none 0 0, .int .i64 0, .slice none 0 0, .slice none 0 0] 72 (0, 0)) := by rw [hw1, hg]; exact heap_alloc_new w _
  have hX1 := hx.on K1
  have HD : Hid (∀ w', Kp [] w1.drew w' → Kp [] w1 w') := fun w' k' => (kp_drew w1).trans k'
  have HAt : Hid (∀ w', Kp [] w1.drew w' → Fv 99 w' l (.func (.func 44) #[.pointer (some ⟨j, 0, none⟩)] #[]) (.pointer (some ⟨s, 0, none⟩)) (.pointer (some ⟨q, 0, none⟩)) (.slice av nv cv) (.pointer (some ⟨tt, 0, none⟩))) := fun w' k => hX1.at_.kept (HD.out w' k) (by simp)
  have HTt : Hid (∀ w', Kp [] w1.drew w' → Fv 72 w' tt (.int .i64 (a1 : Int)) (.slice ar mr cr) (.int .i64 (a2 : Int)) (.slice ap np cp) (.slice aq nq cq)) := fun w' k => hFv.kept (K1.trans (HD.out w' k)) (by simp)
  have HLg : Hid (∀ w', Kp [] w1.drew w' → Lg w0 w' l pd pk S f) := fun w' k => ⟨j, s, q, _, _, hX1.on (HD.out w' k)⟩
  obtain ⟨il, hil⟩ : ∃ k, k = S.its.length := ⟨_, rfl⟩
  have HIl : Hid ((il : Int) = (S.its.length : Int)) := hide (by rw [hil])
  have HCmp : Hid (¬ (a1 : Int) = (il : Int)) := hide (by rw [hil]; omega)
  have HX1 := hide hX1
  have HK1 := hide K1
  have HGe := hide hg
  have HW1 := hide hw1
  have HG0 := hide G0
  have hg0f : f.tot g0 → g0 < w.heap.size := fun ⟨a, ha'⟩ => by have := hx.ok.rng a _ ha'; omega
  have Hw0 := hide hx.ok.kp.size
  have HN := hide hn
  have HG := hide hG
  have HMb := hide hmb
  have HE := hide he
  obtain ⟨en, hen⟩ : ∃ en : Int, en = if er then 0 else 13 := ⟨_, rfl⟩
  have HEn := hide hen
  clear hn hG hmb he hen
  clear hx hla hFv hSF hle hFt K1 hg hw1 hX1 ha hnv hil G0 ha16
  go_enter Tryz.func33, Tryz.ntmps33
  go_wp2_with fail
  rw [← HW1.out, ← HGe.out]
  refine region_grow Tryz.mixed [Is (.pointer (some ⟨l, 0, none⟩)), Is (.pointer (some ⟨l, 0, none⟩)), Is (.pointer (some ⟨l, 4, none⟩)), Is (.pointer (some ⟨tt, 0, none⟩)), Is (.bool false), Is (.bool false), Is (.pointer (some ⟨l, 0, none⟩)), Is (.pointer (some ⟨l, 0, none⟩)), Is (.pointer (some ⟨l, 4, none⟩)), Is (.pointer (some ⟨tt, 0, none⟩)), Is (.pointer (some ⟨tt, 0, none⟩)), Is (.pointer (some ⟨tt, 0, none⟩)), Is (.pointer (some ⟨tt, 0, none⟩)), Is (.int .i64 (a1 : Int)), Is (.pointer (some ⟨l, 0, none⟩)), Is (.int .i64 (il : Int)), Is (.bool true), Is (.bool true)] [[(0, none)], [(5, some 0)], [(6, some 1)], [(7, some 2)], [(8, some 3)], [(9, some 4)], [(0, none), (10, some 5)], [(11, some 6), (10, some 5)], [(12, some 7), (10, some 5)], [(13, some 8), (10, some 5)], [(14, some 9), (10, some 5)], [(15, some 10), (10, some 5)], [(16, some 11), (10, some 5)], [(17, some 12), (10, some 5)], [(0, none), (10, some 5)], [(19, some 14), (10, some 5)], [(18, some 13), (20, some 15), (10, some 5)], [(10, some 5), (21, some 16)]] (by kernel_rfl) ?_ ?_ ?_
  · simp only [List.mem_cons, List.not_mem_nil, or_false]
    intro R hR
    rcases hR with rfl | rfl | rfl | rfl | rfl | rfl | rfl | rfl | rfl | rfl | rfl | rfl | rfl | rfl | rfl | rfl | rfl | rfl <;> first | exact stable_is _
  · refine steps_cons (fun a w hk hn => ?_) ?_
    · have h0 : a.eval (.tmp 0) = .pointer (some ⟨l, 0, none⟩) := hn.1
      clear hn
      refine wants_plain rfl ?_
      exact grown_move (.tmp 0) rfl h0
    refine steps_cons (fun a w hk hn => ?_) ?_
    · have h5 : a.eval (.tmp 5) = .pointer (some ⟨l, 0, none⟩) := hn.1
      clear hn
      refine wants_plain rfl ?_
      refine grown_run (v := .pointer (some ⟨l, 0, none⟩)) ?_ (Kp.refl _ _) rfl
      obtain ⟨ρ, hρ, hc, hf, hg⟩ := eval_is a
      rw [hρ] at h5 ⊢
      simp [go_sem, h5]
    refine steps_cons (fun a w hk hn => ?_) ?_
    · have h6 : a.eval (.tmp 6) = .pointer (some ⟨l, 0, none⟩) := hn.1
      clear hn
      refine wants_plain rfl ?_
      refine grown_run (v := .pointer (some ⟨l, 4, none⟩)) ?_ (Kp.refl _ _) rfl
      obtain ⟨ρ, hρ, hc, hf, hg⟩ := eval_is a
      rw [hρ] at h6 ⊢
      simp [go_sem, h6]
    refine steps_cons (fun a w hk hn => ?_) ?_
    · have h7 : a.eval (.tmp 7) = .pointer (some ⟨l, 4, none⟩) := hn.1
      clear hn
      refine wants_plain rfl ?_
      refine grown_run (v := .pointer (some ⟨tt, 0, none⟩)) ?_ (Kp.refl _ _) rfl
      have hcell : w.cell? ⟨l, 4, none⟩ = some (.pointer (some ⟨tt, 0, none⟩)) := by rw [cell_of_row w l 4 _ _ _ (HAt.out w hk)]; rfl
      obtain ⟨ρ, hρ, hc, hf, hg⟩ := eval_is a
      rw [hρ] at h7 ⊢
      simp [go_sem, h7, hcell]
    refine steps_cons (fun a w hk hn => ?_) ?_
    · have h8 : a.eval (.tmp 8) = .pointer (some ⟨tt, 0, none⟩) := hn.1
      clear hn
      refine wants_plain rfl ?_
      refine grown_run (v := .bool false) ?_ (Kp.refl _ _) rfl
      obtain ⟨ρ, hρ, hc, hf, hg⟩ := eval_is a
      rw [hρ] at h8 ⊢
      simp [go_sem, hc, h8]
    refine steps_cons (fun a w hk hn => ?_) ?_
    · have h9 : a.eval (.tmp 9) = .bool false := hn.1
      clear hn
      refine wants_plain rfl ?_
      exact grown_move (.tmp 9) rfl h9
    refine steps_cons (fun a w hk hn => ?_) ?_
    · have h0 : a.eval (.tmp 0) = .pointer (some ⟨l, 0, none⟩) := hn.1
      have h10 : a.eval (.tmp 10) = .bool false := hn.2.1
      clear hn
      refine wants_guard (d := 10) rfl rfl h10 ?_
      exact grown_move (.tmp 0) rfl h0
    refine steps_cons (fun a w hk hn => ?_) ?_
    · have h11 : a.eval (.tmp 11) = .pointer (some ⟨l, 0, none⟩) := hn.1
      have h10 : a.eval (.tmp 10) = .bool false := hn.2.1
      clear hn
      refine wants_guard (d := 10) rfl rfl h10 ?_
      refine grown_run (v := .pointer (some ⟨l, 0, none⟩)) ?_ (Kp.refl _ _) rfl
      obtain ⟨ρ, hρ, hc, hf, hg⟩ := eval_is a
      rw [hρ] at h11 ⊢
      simp [go_sem, h11]
    refine steps_cons (fun a w hk hn => ?_) ?_
    · have h12 : a.eval (.tmp 12) = .pointer (some ⟨l, 0, none⟩) := hn.1
      have h10 : a.eval (.tmp 10) = .bool false := hn.2.1
      clear hn
      refine wants_guard (d := 10) rfl rfl h10 ?_
      refine grown_run (v := .pointer (some ⟨l, 4, none⟩)) ?_ (Kp.refl _ _) rfl
      obtain ⟨ρ, hρ, hc, hf, hg⟩ := eval_is a
      rw [hρ] at h12 ⊢
      simp [go_sem, h12]
    refine steps_cons (fun a w hk hn => ?_) ?_
    · have h13 : a.eval (.tmp 13) = .pointer (some ⟨l, 4, none⟩) := hn.1
      have h10 : a.eval (.tmp 10) = .bool false := hn.2.1
      clear hn
      refine wants_guard (d := 10) rfl rfl h10 ?_
      refine grown_run (v := .pointer (some ⟨tt, 0, none⟩)) ?_ (Kp.refl _ _) rfl
      have hcell : w.cell? ⟨l, 4, none⟩ = some (.pointer (some ⟨tt, 0, none⟩)) := by rw [cell_of_row w l 4 _ _ _ (HAt.out w hk)]; rfl
      obtain ⟨ρ, hρ, hc, hf, hg⟩ := eval_is a
      rw [hρ] at h13 ⊢
      simp [go_sem, h13, hcell]
    refine steps_cons (fun a w hk hn => ?_) ?_
    · have h14 : a.eval (.tmp 14) = .pointer (some ⟨tt, 0, none⟩) := hn.1
      have h10 : a.eval (.tmp 10) = .bool false := hn.2.1
      clear hn
      refine wants_guard (d := 10) rfl rfl h10 ?_
      refine grown_run (v := .pointer (some ⟨tt, 0, none⟩)) ?_ (Kp.refl _ _) rfl
      obtain ⟨ρ, hρ, hc, hf, hg⟩ := eval_is a
      rw [hρ] at h14 ⊢
      simp [go_sem, h14]
    refine steps_cons (fun a w hk hn => ?_) ?_
    · have h15 : a.eval (.tmp 15) = .pointer (some ⟨tt, 0, none⟩) := hn.1
      have h10 : a.eval (.tmp 10) = .bool false := hn.2.1
      clear hn
      refine wants_guard (d := 10) rfl rfl h10 ?_
      refine grown_run (v := .pointer (some ⟨tt, 0, none⟩)) ?_ (Kp.refl _ _) rfl
      obtain ⟨ρ, hρ, hc, hf, hg⟩ := eval_is a
      rw [hρ] at h15 ⊢
      simp [go_sem, h15]
    refine steps_cons (fun a w hk hn => ?_) ?_
    · have h16 : a.eval (.tmp 16) = .pointer (some ⟨tt, 0, none⟩) := hn.1
      have h10 : a.eval (.tmp 10) = .bool false := hn.2.1
      clear hn
      refine wants_guard (d := 10) rfl rfl h10 ?_
      refine grown_run (v := .pointer (some ⟨tt, 0, none⟩)) ?_ (Kp.refl _ _) rfl
      obtain ⟨ρ, hρ, hc, hf, hg⟩ := eval_is a
      rw [hρ] at h16 ⊢
      simp [go_sem, h16]
    refine steps_cons (fun a w hk hn => ?_) ?_
    · have h17 : a.eval (.tmp 17) = .pointer (some ⟨tt, 0, none⟩) := hn.1
      have h10 : a.eval (.tmp 10) = .bool false := hn.2.1
      clear hn
      refine wants_guard (d := 10) rfl rfl h10 ?_
      refine grown_run (v := .int .i64 (a1 : Int)) ?_ (Kp.refl _ _) rfl
      have hcell : w.cell? ⟨tt, 0, none⟩ = some (.int .i64 (a1 : Int)) := by rw [cell_of_row w tt 0 _ _ _ (HTt.out w hk)]; rfl
      obtain ⟨ρ, hρ, hc, hf, hg⟩ := eval_is a
      rw [hρ] at h17 ⊢
      simp [go_sem, h17, hcell]
    refine steps_cons (fun a w hk hn => ?_) ?_
    · have h0 : a.eval (.tmp 0) = .pointer (some ⟨l, 0, none⟩) := hn.1
      have h10 : a.eval (.tmp 10) = .bool false := hn.2.1
      clear hn
      refine wants_guard (d := 10) rfl rfl h10 ?_
      exact grown_move (.tmp 0) rfl h0
    refine steps_cons (fun a w hk hn => ?_) ?_
    · have h19 : a.eval (.tmp 19) = .pointer (some ⟨l, 0, none⟩) := hn.1
      have h10 : a.eval (.tmp 10) = .bool false := hn.2.1
      clear hn
      refine wants_guard (d := 10) rfl rfl h10 ?_
      refine grown_call (f := 16) rfl Tryz.func16 (by kernel_rfl) (by kernel_rfl) ?_
      simp only [List.map_toArray, List.map_cons, List.map_nil, h19]
      refine (usize_any (HLg.out w hk) (il : Int) HIl.out).mono ?_
      rintro e w' ⟨rfl, rfl⟩
      exact ⟨_, rfl, Kp.refl _ _, rfl⟩
    refine steps_cons (fun a w hk hn => ?_) ?_
    · have h18 : a.eval (.tmp 18) = .int .i64 (a1 : Int) := hn.1
      have h20 : a.eval (.tmp 20) = .int .i64 (il : Int) := hn.2.1
      have h10 : a.eval (.tmp 10) = .bool false := hn.2.2.1
      clear hn
      refine wants_guard (d := 10) rfl rfl h10 ?_
      refine grown_run (v := .bool true) ?_ (Kp.refl _ _) rfl
      obtain ⟨ρ, hρ, hc, hf, hg⟩ := eval_is a
      rw [hρ] at h18 h20 ⊢
      simp [go_sem, h18, h20, HCmp.out]
    refine steps_cons (fun a w hk hn => ?_) ?_
    · have h10 : a.eval (.tmp 10) = .bool false := hn.1
      have h21 : a.eval (.tmp 21) = .bool true := hn.2.1
      clear hn
      refine wants_plain rfl ?_
      exact grown_pick _ _ _ false rfl h10 h21
    exact trivial
  intro W1 hkW1
  rintro _ rfl
  rintro _ rfl
  rintro _ rfl
  rintro _ rfl
  rintro _ rfl
  rintro _ rfl
  rintro _ rfl
  rintro _ rfl
  rintro _ rfl
  rintro _ rfl
  rintro _ rfl
  rintro _ rfl
  rintro _ rfl
  rintro _ rfl
  rintro _ rfl
  rintro _ rfl
  rintro _ rfl
  rintro _ rfl
  refine fin_nil ?_
  simp only [Act.put, List.set_cons_zero, List.set_cons_succ, List.setIfInBounds_toArray]
  have K12 := HD.out W1 hkW1
  have HX2 := hide (HX1.out.on K12)
  have HG2 := hide (K12.heap HG0.out (by simp))
  have HK12 := hide (HK1.out.trans K12)
  clear K12 hkW1 HG0
  have HSn := hide (usign_any ⟨j, s, q, _, _, HX2.out⟩ HG.out HN.out HMb.out er dk' HE.out en HEn.out)
  have hlt2 : g0 < W1.heap.size := lt_of_block HG2.out
  have hlt0 : g0 = w.heap.size := HGe.out
  have Hlt0 := hide hlt0
  have hno : ¬ f.tot g0 := fun e => by have := hg0f e; omega
  go_wp2_with fail
  refine HSn.out.mono ?_
  rintro ee w3 ⟨rfl, f', L3, T3⟩
  have HL3 := hide L3
  have HT3 : Hid (LSt w f w3 f') := (Stp.mid HK12.out).trans T3
  have HG3 := hide (T3.heap HG2.out hno)
  have hng : ¬ f'.tot g0 := T3.off hlt2 hno
  have HNG := hide hng
  have hg3 : g0 < w3.heap.size := lt_of_block HG3.out
  have Hsz := hide T3.size
  clear HSn L3 T3 hno hng hlt2 hlt0
  cases er
  · obtain rfl : en = 13 := by rw [HEn.out]; rfl
    have G3 := HG3.out
    go_wp2_with (refine wpList_store_flat rfl 72 (.tmp 2) (.tmp 27) rfl g0 0 rfl _ _ [.int .i64 0, .slice none 0 0, .int .i64 0, .slice none 0 0, .slice none 0 0] G3 rfl (by simp) Tryz.sgdSize (by simp [Value.oneCell']) #[.int .i64 0, .slice none 0 0, .int .i64 0, .slice none 0 0, .slice none 0 0] rfl ?_; intro w7 G7 K7)
    refine bodyPost_ret (results_flat2 rfl _ rfl G7 Tryz.underlying72 rfl Tryz.sgdSize) rfl ?_
    have hl7 : ∀ i ∈ [g0], w0.heap.size ≤ i ∧ ¬ f'.tot i := fun i hi => by simp at hi; subst hi; exact ⟨by have := Hlt0.out; have := Hw0.out; omega, HNG.out⟩
    refine ⟨_, 13, rfl, rfl, f', HL3.out.beside K7 hl7, HT3.out.aside K7 (by have := Hlt0.out; simp; omega), w3.heap.size, fun i hi => (HL3.out.lt i hi).2, HT3.out.size, K7.size, rfl⟩
  · obtain rfl : en = 0 := by rw [HEn.out]; rfl
    obtain ⟨a1, hza1⟩ : ∃ a, a = S.its.length := ⟨_, rfl⟩
    obtain ⟨a2, hza2⟩ : ∃ a, a = S.n := ⟨_, rfl⟩
    obtain ⟨j3, s3, q3, vs3, pv3, hX⟩ := HL3.out
    have hla3 := hX.la
    simp only [if_true] at hla3
    rw [← hza1, ← hza2] at hla3
    have HZ1 := hide hza1
    have HZ2 := hide hza2
    clear hza1 hza2
    obtain ⟨hle3, ha3, tt, vr, vp, vq, rfl, hFt3, hFv3, hSF3⟩ := hla3
    obtain ⟨ar, mr, cr, ap, np, cp, aq, nq, cq, e2, -, -⟩ := hSF3.v.shape
    simp only [Value.agg.injEq, Array.mk.injEq, List.cons.injEq, and_true] at e2
    obtain ⟨-, rfl, -, rfl, rfl⟩ := e2
    have hFv5 := hFv3
    have hV5 := hSF3.v
    have hsm := sgU_small S.seed S.its (a1, a2) ha3
    have G0 := HG3.out
    clear hFv3 hSF3 hle3 hFt3 ha3 HL3
    have x0 := hFv5.c0
    have x1 := hFv5.c1
    have x2 := hFv5.c2
    have x3 := hFv5.c3
    have x4 := hFv5.c4
    have y4 := hX.at_.c4
    have HC := hide (ucopy_any (.agg #[.int .i64 (a1 : Int), .slice ar mr cr, .int .i64 (a2 : Int), .slice ap np cp, .slice aq nq cq]) _ w3 hV5 hsm)
    have HG0 := hide G0
    have hg0 : g0 < w3.heap.size := lt_of_block G0
    have HX5 := hide hX
    clear hV5 hsm G0 hFv5 hX
    go_wp2_with fail
    refine HC.out.mono ?_
    rintro ee w5 ⟨v5, rfl, A5, K5⟩
    obtain ⟨br, kr, dr, bp, kp, dp, bq', kq, dq, rfl, -, -⟩ := A5.v.shape
    have G5 := K5.heap HG0.out (by simp)
    have HA5 := hide A5
    have HK5 := hide K5
    clear HC A5 K5 x0 x1 x2 x3 x4 y4
    go_wp2_with (refine wpList_store_flat rfl 72 (.tmp 2) (.tmp 35) rfl g0 0 rfl _ _ [.int .i64 _, .slice br kr dr, .int .i64 _, .slice bp kp dp, .slice bq' kq dq] G5 rfl (by simp) Tryz.sgdSize (by simp [Value.oneCell']) #[.int .i64 _, .slice br kr dr, .int .i64 _, .slice bp kp dp, .slice bq' kq dq] rfl ?_; intro w6 G6 K6)
    refine bodyPost_ret (results_flat2 rfl _ rfl G6 Tryz.underlying72 rfl Tryz.sgdSize) rfl ?_
    have hA6 := HA5.out.kept (S := [g0]) (by simpa using hg0) K6
    have hl7 : ∀ i ∈ [g0], w0.heap.size ≤ i ∧ ¬ f'.tot i := fun i hi => by simp at hi; subst hi; exact ⟨by have := Hlt0.out; have := Hw0.out; omega, HNG.out⟩
    have L5 : Lg w0 w6 l pd pk _ f' := ⟨j3, s3, q3, vs3, _, (HX5.out.on HK5.out).beside K6 hl7⟩
    refine ⟨_, 0, rfl, rfl, f', L5, (HT3.out.trans (Stp.mid HK5.out)).aside K6 (by have := Hlt0.out; simp; omega), w3.heap.size, fun i ⟨a, ha'⟩ => (HX5.out.ok.rng a i ha').2, HT3.out.size, Nat.le_trans HK5.out.size K6.size, ?_⟩
    have e6 : (S.its.length, S.n) = (a1, a2) := by rw [HZ1.out, HZ2.out]
    rw [e6]
    exact hA6
end
end Go.Proofs.YtillhpgdlmeajaaGreatDoor
