/-
  The statement HashLongsCardSaid: for every number and byte the law function HashLongs returns true; the table hash.roundWords starts as the program's text lays it (tied). No other condition.
-/
import Derived.Test.YthmbeamphahlmaaDoorHAux
import Derived.Test.YthmbeamphahlmaaDoorHRefTag
import Derived.Test.YthmbeamphahlmaaDoorRGrowOps
import Derived.Test.YthmbeamphahlmaaDoorTie
import Derived.Test.YthmbeamphahlmaaDoorCards
import Derived.SevenTiedAt
import Derived.Laws.OwnMore
namespace Go.Proofs.YthmbeamphahlmaaDoor.hashLongs
open Go.ChangeShapes Go.WideShapes Go.ChangeAt Go.RowKit
open Go.Proofs.YthmbeamphahlmaaDoor
set_option linter.unusedVariables false

theorem made_len {w : World} {base g n : Nat} {xs : List Value} (h : w.ownsRow base 5 1 (.slice (some ⟨g, 0, none⟩) n n) n xs) : xs.length = n := by have := h.1; omega

set_option maxRecDepth 100000 in
set_option maxHeartbeats 2000000 in
theorem walk (n c : Int) (w : World) (hG : Gl w) (hn : -9223372036854775808 ≤ n ∧ n ≤ 9223372036854775807) (hc : 0 ≤ c ∧ c ≤ 255) :
    Calls Tryd.prog 7 #[.int .i64 n, .int .u8 c] w fun e w' => e = .returned (.bool true) ∧ Below w.heap.size w w' := by
  obtain ⟨i0, hi0, hz0, hz1, hz2⟩ := info_parts Tryd.info5
  have HG := hide hG
  have hpos := hG.pos
  have HW := hide (within_any n 0 5000 w (by omega) (by omega) (by omega) hn)
  clear hG hn
  go_enter Tryd.func7, Tryd.ntmps7
  go_wp2_with (first
    | (go_at_call 19; refine (unhide HW).mono ?_; rintro ee w1 ⟨x, rfl, hx0, hx1, hw⟩; subst w1; obtain ⟨N, rfl⟩ := Int.eq_ofNat_of_zero_le hx0; have hN : N ≤ 5000 := by omega)
    | (at_make; refine wpList_make_full _ rfl _ _ 22 rfl w.heap.size 5 i0 (.int .u8 0) 1 Tryd.underlying22 hi0 hz0 hz1 .i64 .i64 _ _ N rfl rfl (by omega) (by omega) (by rw [hz2]; omega) (by unfold maxLen; omega) (Nat.le_refl _) ?_; intro w1 o1 g1))
  clear HW hx0 hx1
  have K1 : Kp [] w w1 := (Kp.refl [] w).grown g1 (by intro k hk; cases hk)
  have hO := hide o1
  have hK := hide K1
  have hN2 : (N : Int) ≤ 5000 := by omega
  clear o1 g1 K1
  go_loopw [6] (fun j wr => ∃ k : Nat, k ≤ N ∧ j = .int .i64 k ∧ Kp [] w wr ∧ ∃ ys : List Value, wr.ownsRow w.heap.size 5 1 (.slice (some ⟨w.heap.size, 0, none⟩) N N) N ys ∧ ys.take k = List.replicate k (.int .u8 c)) (fun j _ => N - (intOf j).toNat)
  case atStart => exact ⟨0, by omega, rfl, unhide hK, _, unhide hO, by simp⟩
  case round =>
    obtain ⟨k, hk, rfl, Kr, ys, hr, ht⟩ := hrel
    have hyl : ys.length = N := made_len hr
    clear hO hK
    by_cases hlt : k < N
    · have hlt2 : (k : Int) < (N : Int) := by omega
      have hcj : wr.cell? ⟨w.heap.size, k, none⟩ = some ys[k] := by
        rw [hr.cellAt k (by omega)]; simp [List.getElem?_eq_getElem (show k < ys.length by omega)]
      have hfj := hr.frozenAt k
      have HZ : Hid ((wr.setCell ⟨w.heap.size, k, none⟩ (.int .u8 c)).ownsRow w.heap.size 5 1 (.slice (some ⟨w.heap.size, 0, none⟩) N N) N (ys.set k (.int .u8 c)) ∧ Kp [] w (wr.setCell ⟨w.heap.size, k, none⟩ (.int .u8 c)) ∧ (ys.set k (.int .u8 c)).take (k + 1) = List.replicate (k + 1) (.int .u8 c)) := by
        refine ⟨(hr.stored k (.int .u8 c)).1, Kr.setCell (p := ⟨w.heap.size, k, none⟩) (.inr (Nat.le_refl _)) _, ?_⟩
        rw [List.take_succ_eq_append_getElem (by simp; omega), List.take_set_of_le (Nat.le_refl _), ht, List.getElem_set_self, List.replicate_succ']
      obtain ⟨old, hold⟩ : ∃ old, old = ys[k] := ⟨_, rfl⟩
      rw [← hold] at hcj
      clear hr Kr ht hold hyl
      go_wp2_with fail
      go_roundw
      case rel => exact ⟨k + 1, by omega, by go_num, (unhide HZ).2.1, _, (unhide HZ).1, (unhide HZ).2.2⟩
      case measure => simp [intOf]; omega
    · obtain rfl : k = N := by omega
      obtain ⟨bs, hbs⟩ : ∃ bs, bs = List.replicate k c := ⟨_, rfl⟩
      have hbl : bs.length = k := by rw [hbs]; simp
      have hys : ys = bs.map (Value.int .u8) := by
        rw [List.take_of_length_le (by omega)] at ht
        rw [ht, hbs, List.map_replicate]
      rw [hys] at hr
      have hB : Bs bs := fun b hb => by rw [hbs] at hb; have := (List.mem_replicate.1 hb).2; omega
      have hSl : Sl wr (.slice (some ⟨w.heap.size, 0, none⟩) k k) bs := Sl.of_owns hr
      obtain ⟨r, hrr⟩ : ∃ r, r = sha bs := ⟨_, rfl⟩
      obtain ⟨S, hSS⟩ : ∃ S, S = strOfNums r := ⟨_, rfl⟩
      have HR := hide hrr
      have HS := hide hSS
      have HB := hide hB
      have HKr := hide Kr
      obtain ⟨VB, hVB⟩ : ∃ VB, VB = Value.slice (some ⟨w.heap.size, 0, none⟩) k k := ⟨_, rfl⟩
      have SB : ∀ w', Kp [] wr.drew w' → Sl w' VB bs := fun w' h => by rw [hVB]; exact hSl.kept ((kp_drew wr).trans h) (by simp)
      have GL : ∀ w', Kp [] wr.drew w' → Gl w' := fun w' h => ((unhide HG).kept (unhide HKr) (by simp)).kept ((kp_drew wr).trans h) (by simp)
      clear hr hys ht hyl hbs hrr hSS hB hSl Kr
      go_wp2_with fail
      simp only [← hVB]
      clear hVB
      refine region_grow Tryd.mixed [Is (VB), SlT (r), Is (.string S), Is (VB), SlT (r), Is (.string S), Is (.bool true), Is (.bool true), Is (.bool true), Is (.bool true), Is (.bool true)] [[(5, none)], [(20, some 0)], [(21, some 1)], [(5, none)], [(23, some 3)], [(24, some 4)], [(22, some 2), (25, some 5)], [(26, some 6)], [(27, some 7)], [(27, some 7), (28, some 8)], [(29, some 9)]] (by kernel_rfl) ?_ ?_ ?_
      · simp only [List.mem_cons, List.not_mem_nil, or_false]
        intro R hR
        rcases hR with rfl | rfl | rfl | rfl | rfl | rfl | rfl | rfl | rfl | rfl | rfl <;> first | exact stable_is _ | exact stable_sl _
      · refine steps_cons (fun a w hk hn => ?_) ?_
        · have h5 : a.eval (.tmp 5) = VB := hn.1
          clear hn
          refine wants_plain rfl ?_
          exact grown_move (.tmp 5) rfl h5
        refine steps_cons (fun a w hk hn => ?_) ?_
        · have h20 : a.eval (.tmp 20) = VB := hn.1
          clear hn
          refine wants_plain rfl ?_
          refine grown_call (f := 8) rfl Tryd.func8 (by kernel_rfl) (by kernel_rfl) ?_
          simp only [List.map_toArray, List.map_cons, List.map_nil, h20]
          refine (sum_at _ bs r (unhide HR) w (SB w hk) (unhide HB) (by omega) (GL w hk)).mono ?_
          rintro e w' ⟨ao, m, c, rfl, R, K⟩
          exact ⟨_, rfl, K, R.sl⟩
        refine steps_cons (fun a w hk hn => ?_) ?_
        · have h21 : Sl w (a.eval (.tmp 21)) (r) := hn.1
          clear hn
          refine wants_plain rfl ?_
          exact grown_conv (.tmp 21) _ _ 5 _ rfl h21 Tryd.underlying22 Tryd.underlying5 Tryd.underlying9 (congrArg Value.string (unhide HS).symm)
        refine steps_cons (fun a w hk hn => ?_) ?_
        · have h5 : a.eval (.tmp 5) = VB := hn.1
          clear hn
          refine wants_plain rfl ?_
          exact grown_move (.tmp 5) rfl h5
        refine steps_cons (fun a w hk hn => ?_) ?_
        · have h23 : a.eval (.tmp 23) = VB := hn.1
          clear hn
          refine wants_plain rfl ?_
          refine grown_call (f := 9) rfl Tryd.func9 (by kernel_rfl) (by kernel_rfl) ?_
          simp only [List.map_toArray, List.map_cons, List.map_nil, h23]
          refine (refsum_at _ bs r (unhide HR) w (SB w hk) (unhide HB) (by omega)).mono ?_
          rintro e w' ⟨ao, m, c, rfl, R, K⟩
          exact ⟨_, rfl, K, R.sl⟩
        refine steps_cons (fun a w hk hn => ?_) ?_
        · have h24 : Sl w (a.eval (.tmp 24)) (r) := hn.1
          clear hn
          refine wants_plain rfl ?_
          exact grown_conv (.tmp 24) _ _ 5 _ rfl h24 Tryd.underlying22 Tryd.underlying5 Tryd.underlying9 (congrArg Value.string (unhide HS).symm)
        refine steps_cons (fun a w hk hn => ?_) ?_
        · have h22 : a.eval (.tmp 22) = .string S := hn.1
          have h25 : a.eval (.tmp 25) = .string S := hn.2.1
          clear hn
          refine wants_plain rfl ?_
          refine grown_run (v := .bool true) ?_ (Kp.refl _ _) rfl
          obtain ⟨ρ, hρ, hc, hf, hg⟩ := eval_is a
          rw [hρ] at h22 h25 ⊢
          simp [go_sem, h22, h25]
        refine steps_cons (fun a w hk hn => ?_) ?_
        · have h26 : a.eval (.tmp 26) = .bool true := hn.1
          clear hn
          refine wants_plain rfl ?_
          exact grown_move (.tmp 26) rfl h26
        refine steps_cons (fun a w hk hn => ?_) ?_
        · have h27 : a.eval (.tmp 27) = .bool true := hn.1
          clear hn
          refine wants_guard (d := 27) rfl rfl h27 ?_
          refine grown_call (f := 14) rfl Tryd.func14 (by kernel_rfl) (by kernel_rfl) ?_
          simp only [List.map_toArray, List.map_nil]
          refine (known_any w (GL w hk)).mono ?_
          rintro e w' ⟨rfl, K⟩
          exact ⟨_, rfl, K, rfl⟩
        refine steps_cons (fun a w hk hn => ?_) ?_
        · have h27 : a.eval (.tmp 27) = .bool true := hn.1
          have h28 : a.eval (.tmp 28) = .bool true := hn.2.1
          clear hn
          refine wants_plain rfl ?_
          exact grown_pick _ _ _ true rfl h27 h28
        refine steps_cons (fun a w hk hn => ?_) ?_
        · have h29 : a.eval (.tmp 29) = .bool true := hn.1
          clear hn
          refine wants_plain rfl ?_
          exact grown_assign (.tmp 29) rfl h29
        exact trivial
      intro W1 hkW1
      rintro _ rfl
      intro v21 h21
      rintro _ rfl
      rintro _ rfl
      intro v24 h24
      rintro _ rfl
      rintro _ rfl
      rintro _ rfl
      rintro _ rfl
      rintro _ rfl
      rintro _ rfl
      refine fin_nil ?_
      simp only [Act.put, List.set_cons_zero, List.set_cons_succ, List.setIfInBounds_toArray]
      go_wp2_with fail
      go_ret
      exact ⟨rfl, ((unhide HKr).trans ((kp_drew wr).trans hkW1)).below (Nat.le_refl _) (by simp)⟩

set_option maxRecDepth 100000 in
theorem lifted (os : Os) (started : os.Started) (H : Type) (enc : TypeId × Value → H) :
    ReturnsInHanded {} Tryd.checked os 7 .any (fun w args => (Rows.hashLongsSpec.pre enc Tryd.prog Tryd.f7 [] false w args ∧ laidMetH Tryd.prog laid1 w) ∧ sizedMet enc Tryd.prog Tryd.f7 (OpenSpec.ofChange Rows.hashLongsSpec) false w args) (Rows.hashLongsSpec.post enc Tryd.prog Tryd.f7 false true false false) := by
  refine returnsInHanded_of_change_and (C := Tryd.checked) (X := fun w _ => laidMetH Tryd.prog laid1 w) (fun _ _ _ hh h => h.of_heap hh) own started (by kernel_rfl) Tryd.func7
    (ChangeSpec.witness_shaped (enc := enc) (C := Tryd.checked) (os := os) (X := fun w _ => laidMetH Tryd.prog laid1 w) false (World.doorLaid Tryd.prog 400 os) #[.int .i64 0, .int .u8 0] 8 rfl (World.shaped_of_RefB (by kernel_rfl) (by kernel_rfl)) (by kernel_rfl) (by kernel_rfl) (by kernel_rfl) (door_met os _)) ?_
  intro W base args ds gs before hval0 hW hcnd hsz0 hL _
  have hG := gl_of_laid hL
  have hval : ∀ (j : Nat) t v, Tryd.f7.params[j]? = some t → args[j]? = some v → Value.okWide Tryd.prog W .any base t v := hval0
  have hW' := hW
  obtain ⟨p, q, hA0, hV, rfl, hfz, hnd⟩ := hW
  have hA : DataW.TrodAll enc Tryd.prog W 0 (fun _ => true) true Tryd.f7.params.toList args.toList ds p := hA0
  rw [Tryd.params7] at hA hval
  obtain ⟨v0, vs0, d0, ds0, p0, q0, hargs, rfl, rfl, h0, r0⟩ := trodAll_cons hA
  obtain ⟨v1, vs1, d1, ds1, p1, q1, rfl, rfl, rfl, h1, r1⟩ := trodAll_cons r0
  obtain ⟨rfl, rfl, rfl⟩ := trodAll_nil r1
  obtain rfl : args = #[v0, v1] := by cases args; simp_all
  obtain ⟨rfl, rfl⟩ := trodVars_none hV
  obtain ⟨a0, rfl, rfl, rfl, w0⟩ := open_int Tryd.underlying3 (hval 0 3 v0 rfl rfl) h0
  obtain ⟨a1, rfl, rfl, rfl, w1⟩ := open_int Tryd.underlying5 (hval 1 5 v1 rfl rfl) h1
  clear hA0 hval0
  refine (walk a0 a1 W hG (bounds_i64 w0) (bounds_u8 w1)).mono fun e W' ⟨he, bel⟩ => ?_
  subst he
  exact ⟨_, rfl, _, _, _, [], _, [], hW', trodAll_mk1 (shut_bool Tryd.underlying4 _), (trodAll_cons_mk (shut_int Tryd.underlying3 w0) (trodAll_cons_mk (shut_int Tryd.underlying5 w1) trodAll_mk0)), rfl, bel.frame _, fun h => by cases h⟩

theorem over : Rows.hashLongsRow.holds Tryd.pinned (OpenSpec.ofChange Rows.hashLongsSpec) :=
  OpenClaim.holds_of_wide 7 Tryd.f7 rfl rfl rfl rfl rfl rfl rfl ⟨rfl, rfl, rfl, rfl, rfl⟩ rfl rfl rfl rfl rfl (by kernel_rfl) Tryd.func7 (by kernel_rfl)
    (of_decide_eq_true (by kernel_rfl)) (by unfold Func.isWrapper; first | (rw [if_pos (by decide +kernel)]; kernel_rfl) | (rw [if_neg (by decide +kernel)]; exact ⟨rfl, rfl⟩))
    (fun os started H enc _ => lifted os started H enc)
end Go.Proofs.YthmbeamphahlmaaDoor.hashLongs

namespace Go.Proofs.YthmbeamphahlmaaDoor
/-- The given statement: the tied card. -/
theorem HashLongs_holds : Rows.HashLongsCardSaid :=
  Claim7.holds_tied_plain_at .later [] [.data] true Rows.hashLongsCard.stood.harness false
    hashLongs.over (fun _ h => by cases h) (by kernel_rfl) (fun _ h => by cases h) hashLongs_row_tie rfl ⟨rfl, rfl⟩ (by kernel_rfl) rfl
    (fun f fn hf hfn => by
      obtain rfl : f = 7 := Option.some.inj ((show Tryd.prog.funcNamed "broadsheet/broadsheetlaw2.HashLongs" = some 7 by kernel_rfl).symm.trans hf) |>.symm
      obtain rfl : fn = Tryd.f7 := (Option.some.inj (Tryd.func7.symm.trans hfn)).symm
      exact ⟨by kernel_rfl, fun j t ht => by
        rw [Tryd.params7] at ht
        have hm : t ∈ ([3, 5] : List TypeId) := by simpa using Array.mem_of_getElem? ht
        have hall : (([3, 5] : List TypeId).all fun u => !Tryd.prog.wantsStandIn u) = true := by kernel_rfl
        exact (show Tryd.prog.wantsStandIn t = false by simpa using List.all_eq_true.1 hall t hm)⟩)
    (by kernel_rfl)
#print axioms HashLongs_holds
end Go.Proofs.YthmbeamphahlmaaDoor
