/-
  The contract of the law package's known.
-/
import Derived.Test.YtdioaohejoflcaaDoorKSRefD
import Derived.Test.YtdioaohejoflcaaDoorKSRefV
import Derived.Test.YtdioaohejoflcaaDoorKSCode
import Derived.Test.YtdioaohejoflcaaDoorKRGrowC
namespace Go.Proofs.YtdioaohejoflcaaDoor
open Go.RowKit
open Go.Proofs

theorem verP_zero (pub ms : List Int) : verP pub ms 0 [] [] = false := by
  unfold verP
  have : rgtP 0 [] [] = false := by rfl
  rw [this]; rfl
theorem wants_none {P : Program} {ops : Array Oper} {o : Oper} {a : Act} {w : World} {R : Tell} {g : Nat} {b : Bool} {d : Tmp} (hg : o.guard = some (g, b)) (hd : (ops[g]?).bind (·.dst) = some d) (he : a.eval (.tmp d) = undef) (h : R undef w) : wants P ops o a w R := by
  have h2 : yielded ops a.tmps g = none := by
    unfold yielded
    rw [hd]
    simp only [Option.bind_some]
    have h1 : a.tmps[d]?.getD undef = undef := by simpa [Act.eval] using he
    cases hx : a.tmps[d]? with
    | none => rfl
    | some x =>
      rw [hx, Option.getD_some] at h1
      subst h1
      rfl
  unfold wants
  rw [if_neg (by simp [Region.wanted, hg, h2])]
  exact h
theorem grown_loadsig {o : Oper} {a : Act} {w : World} {R : Tell} (p : Operand) (ho : o.op = .load 33 p) (g : Nat) (x y z : Value) (fr : Nat × Nat) (hp : a.eval p = .pointer (some ⟨g, 0, none⟩)) (hg : w.heap[g]? = some (.cells #[x, y, z] 33 fr)) (hR : R (.agg #[x, y, z]) w) : grown Tryd.prog w R ((execOp a.eval o).run Tryd.prog w) := by
  refine grown_run ?_ (Kp.refl _ _) hR
  unfold execOp
  simp only [ho, hp, Instr.loadAt, Instr.sureAddr, Sem.run_bind, Sem.run_pure, Result.andThen_ok, load_sig w g x y z fr hg]

set_option maxRecDepth 100000 in
set_option maxHeartbeats 4000000 in
theorem sknown_any (w : World) (hG : Gl w) : Calls Tryd.prog 20 #[] w fun e w' => e = .returned (.bool true) ∧ Kp [] w w' := by
  have HG := hide hG
  clear hG
  go_enter Tryd.func20, Tryd.ntmps20
  go_wp2_with fail
  refine (seed_any 1 w (by omega)).mono ?_
  rintro ee w1 ⟨a1, m1, c1, sd, rfl, R1, hsl, hsb, K1⟩
  have HS1 := hide R1.sl
  have HK1 := hide K1
  have HSB := hide hsb
  have HSL := hide hsl
  clear R1 K1 hsb hsl
  obtain ⟨ob, hob⟩ : ∃ o : Obj, o = (.cells #[.int .u8 109] 5 (1, 2)) := ⟨_, rfl⟩
  have kc1 := Lib.run_convert_bytes_const (P := Tryd.prog) w1 24 5 #[.int .u8 109] 1 1 Tryd.underlying24 Tryd.underlying5
  rw [show (#[Value.int .u8 109].size, #[Value.int .u8 109].size + 1) = (1, 2) from rfl, ← hob] at kc1
  have HM1 : Hid (Sl (w1.alloc ob) (.slice (some ⟨w1.heap.size, 0, none⟩) 1 1) [109]) := by rw [hob]; exact sl109 w1
  have Ka : Kp [] w1 (w1.alloc ob) := (Kp.refl [] w1).alloc ob
  obtain ⟨d, hd⟩ : ∃ d, d = digP [109] := ⟨_, rfl⟩
  have HD := hide hd
  have HC1 := hide (ssign_any (.slice a1 m1 c1) sd 15 _ [109] d hd (w1.alloc ob) ((unhide HS1).kept Ka (by simp)) (unhide HSB) (unhide HSL) (by omega) (unhide HM1) bs109 (by simp) ((unhide HG).kept ((unhide HK1).trans Ka) (by simp)))
  have HKa := hide Ka
  have HOB := hide hob
  clear hd Ka hob
  go_wp2_with fail
  refine (unhide HC1).mono ?_
  rintro ee w2 ⟨v2, rfl, V2, K2⟩
  obtain ⟨ap, np, cp, aq, nq, cq, lp, lq, hv2, hLP, hp, hLQ, hq, hnp, hnq⟩ := V2.shape
  subst hv2
  have HV2 := hide V2
  have HK2 := hide ((unhide HK1).trans ((unhide HKa).trans K2))
  have HS2 := hide (((unhide HS1).kept (unhide HKa) (by simp)).kept K2 (by simp))
  have Ga := heap_alloc_new w2 (.cells #[.int .i64 0, .slice none 0 0, .slice none 0 0] 33)
  clear hLP hp hLQ hq hnp hnq V2 K2 HC1 HKa kc1 HS1 HM1 HK1
  go_wp2_with (refine wpList_store_sig rfl (.tmp 2) (.tmp 12) rfl w2.heap.size rfl _ _ _ _ _ _ Ga rfl ⟨rfl, rfl, rfl⟩ ?_; intro w3 G3 K3; refine Hid.out ?_)
  have Kb : Kp [] w2 w3 := ((Kp.refl [] w2).alloc (.cells #[.int .i64 0, .slice none 0 0, .slice none 0 0] 33)).then K3 (by simp)
  have kc2 := Lib.run_convert_bytes_const (P := Tryd.prog) w3 24 5 #[.int .u8 109] 1 1 Tryd.underlying24 Tryd.underlying5
  rw [show (#[Value.int .u8 109].size, #[Value.int .u8 109].size + 1) = (1, 2) from rfl, ← unhide HOB] at kc2
  have Kc' : Kp [] w3 (w3.alloc ob) := (Kp.refl [] w3).alloc ob
  obtain ⟨g2, hg2⟩ : ∃ g, g = w2.heap.size := ⟨_, rfl⟩
  rw [← hg2] at G3 ⊢
  have HC2 := hide (ssign_used (.slice a1 m1 c1) sd 16 (.slice (some ⟨w3.heap.size, 0, none⟩) 1 1) (w3.alloc ob) (((unhide HS2).kept Kb (by simp)).kept Kc' (by simp)) (unhide HSL) (by omega))
  have HKb := hide Kb
  have HKc := hide Kc'
  have HG3 := hide G3
  clear Ga K3 G3 hg2 Kb Kc'
  refine hide ?_
  go_wp2_with fail
  refine (unhide HC2).mono ?_
  rintro ee w4 ⟨rfl, K4⟩
  have HKd := hide ((unhide HKc).trans K4)
  have Ga := heap_alloc_new w4 (.cells #[.int .i64 0, .slice none 0 0, .slice none 0 0] 33)
  clear K4 HC2 kc2 HKc
  go_wp2_with (refine wpList_store_sig rfl (.tmp 4) (.tmp 19) rfl w4.heap.size rfl _ _ _ _ _ _ Ga rfl ⟨rfl, rfl, rfl⟩ ?_; intro w5 G5 K5)
  have Ke : Kp [] w4 w5 := ((Kp.refl [] w4).alloc (.cells #[.int .i64 0, .slice none 0 0, .slice none 0 0] 33)).then K5 (by simp)
  have K25 : Kp [] w2 w5 := ((unhide HKb).trans (unhide HKd)).trans Ke
  have K35 : Kp [] w3 w5 := (unhide HKd).trans Ke
  have HG5 : Hid (∀ w', Kp [] w5.drew w' → w'.heap[g2]? = some (.cells #[.int .i64 ((15 : Nat) : Int), .slice ap np cp, .slice aq nq cq] 33 (0, 0))) := fun w' k' => ((K35.trans (kp_drew w5)).trans k').heap (unhide HG3) (by simp)
  have HSS : Hid (∀ w', Kp [] w5.drew w' → Sl w' (.slice a1 m1 c1) sd) := fun w' k' => (unhide HS2).kept ((K25.trans (kp_drew w5)).trans k') (by simp)
  have HVV : Hid (∀ w', Kp [] w5.drew w' → SigV w' (.agg #[.int .i64 ((15 : Nat) : Int), .slice ap np cp, .slice aq nq cq]) ((15 : Nat) : Int) (sgnP sd ((15 : Nat) : Int) d) (pthP sd 15 4)) := fun w' k' => (unhide HV2).kept ((K25.trans (kp_drew w5)).trans k')
  have HGL : Hid (∀ w', Kp [] w5.drew w' → Gl w') := fun w' k' => (unhide HG).kept ((unhide HK2).trans ((K25.trans (kp_drew w5)).trans k')) (by simp)
  have HK5 := hide ((unhide HK2).trans K25)
  obtain ⟨tp, htp⟩ : ∃ t, t = topP sd := ⟨_, rfl⟩
  have HTP := hide htp
  have HTB : Hid (Bs tp) := by rw [htp]; exact (topP_ok sd).2
  have HVT : Hid (true = verP tp [109] ((15 : Nat) : Int) (sgnP sd ((15 : Nat) : Int) d) (pthP sd 15 4)) := by rw [htp, unhide HD]; exact (verP_sgn sd [109] 15 (by omega)).symm
  clear G5 K5 Ga Ke K25 K35 htp HKb HKd HG3 HV2 HS2
  go_wp2_with fail
  refine region_growC Tryd.mixed [Is (.int .i64 0), Is (.bool true), Is (.bool true), Is (.slice a1 m1 c1), SlT (tp), LitT w5.drew.heap.size [109], SlT ([109]), Is (.agg #[.int .i64 15, .slice ap np cp, .slice aq nq cq]), Is (.bool true), Is (.bool true), Is (.bool true), Is (.int .i64 23), Is (.bool true), Is (.bool true), Is (.bool true), Is (.slice a1 m1 c1), SlT (tp), LitT w5.drew.heap.size [109], SlT ([109]), Is (.agg #[.int .i64 0, .slice none 0 0, .slice none 0 0]), Is (.bool false), Is (.bool true), Is (.bool true), Is (.bool true)] [[(3, none)], [(21, some 0)], [(22, some 1)], [(1, none), (23, some 2)], [(24, some 3), (23, some 2)], [(23, some 2)], [(26, some 5), (23, some 2)], [(2, none), (23, some 2)], [(25, some 4), (27, some 6), (28, some 7), (23, some 2)], [(23, some 2), (29, some 8)], [(30, some 9)], [(5, none), (31, some 10)], [(32, some 11), (31, some 10)], [(31, some 10), (33, some 12)], [(34, some 13)], [(1, none), (35, some 14)], [(36, some 15), (35, some 14)], [(35, some 14)], [(38, some 17), (35, some 14)], [(35, some 14)], [(37, some 16), (39, some 18), (40, some 19), (35, some 14)], [(41, some 20), (35, some 14)], [(35, some 14), (42, some 21)], [(43, some 22)]] (by kernel_rfl) ?_ ?_ ?_
  · simp only [List.mem_cons, List.not_mem_nil, or_false]
    intro R hR
    rcases hR with rfl | rfl | rfl | rfl | rfl | rfl | rfl | rfl | rfl | rfl | rfl | rfl | rfl | rfl | rfl | rfl | rfl | rfl | rfl | rfl | rfl | rfl | rfl | rfl <;> first | exact stableC_is _ | exact stableC_sl _ | exact stableC_lit _ _
  · refine steps_consC (fun a w hk hn => ?_) ?_
    · have h3 : a.eval (.tmp 3) = .int .i64 0 := hn.1
      clear hn
      refine wantsC_of hk ?_
      refine wants_plain rfl ?_
      exact grown_move (.tmp 3) rfl h3
    refine steps_consC (fun a w hk hn => ?_) ?_
    · have h21 : a.eval (.tmp 21) = .int .i64 0 := hn.1
      clear hn
      refine wantsC_of hk ?_
      refine wants_plain rfl ?_
      refine grown_run (v := .bool true) ?_ (Kp.refl _ _) rfl
      obtain ⟨ρ, hρ, hc, hf, hg⟩ := eval_is a
      rw [hρ] at h21 ⊢
      simp [go_sem, hc, h21]
    refine steps_consC (fun a w hk hn => ?_) ?_
    · have h22 : a.eval (.tmp 22) = .bool true := hn.1
      clear hn
      refine wantsC_of hk ?_
      refine wants_plain rfl ?_
      exact grown_move (.tmp 22) rfl h22
    refine steps_consC (fun a w hk hn => ?_) ?_
    · have h1 : a.eval (.tmp 1) = .slice a1 m1 c1 := hn.1
      have h23 : a.eval (.tmp 23) = .bool true := hn.2.1
      clear hn
      refine wantsC_of hk ?_
      refine wants_guard (d := 23) rfl rfl h23 ?_
      exact grown_move (.tmp 1) rfl h1
    refine steps_consC (fun a w hk hn => ?_) ?_
    · have h24 : a.eval (.tmp 24) = .slice a1 m1 c1 := hn.1
      have h23 : a.eval (.tmp 23) = .bool true := hn.2.1
      clear hn
      refine wantsC_of hk ?_
      refine wants_guard (d := 23) rfl rfl h23 ?_
      refine grown_call (f := 11) rfl Tryd.func11 (by kernel_rfl) (by kernel_rfl) ?_
      simp only [List.map_toArray, List.map_cons, List.map_nil, h24]
      refine (spublic_any _ sd tp (unhide HTP) w (unhide HSS w hk) (unhide HSB) (unhide HSL) (unhide HGL w hk)).mono ?_
      rintro e w' ⟨ao, m, c, rfl, R, K⟩
      exact ⟨_, rfl, K, R⟩
    refine steps_consC (fun a w hk hn => ?_) ?_
    · have h23 : a.eval (.tmp 23) = .bool true := hn.1
      clear hn
      refine wantsC_of hk ?_
      refine wants_guard (d := 23) rfl rfl h23 ?_
      refine grown_lit hk [109] ?_ (by simp [maxLen])
      obtain ⟨ρ, hρ, hc, hf, hg⟩ := eval_is a
      rw [hρ]
      simp [go_sem, hc]
    refine steps_consC (fun a w hk hn => ?_) ?_
    · have h26 : (LitT w5.drew.heap.size [109]) (a.eval (.tmp 26)) w := hn.1
      have h23 : a.eval (.tmp 23) = .bool true := hn.2.1
      clear hn
      exact wantsC_lit hk (by rw [wanted_iff (d := 23) rfl rfl h23]; rfl) (.tmp 26) rfl [109] h26
    refine steps_consC (fun a w hk hn => ?_) ?_
    · have h2 : a.eval (.tmp 2) = .pointer (some ⟨g2, 0, none⟩) := hn.1
      have h23 : a.eval (.tmp 23) = .bool true := hn.2.1
      clear hn
      refine wantsC_of hk ?_
      refine wants_guard (d := 23) rfl rfl h23 ?_
      exact grown_loadsig (.tmp 2) rfl g2 _ _ _ _ h2 (unhide HG5 w hk) rfl
    refine steps_consC (fun a w hk hn => ?_) ?_
    · have h25 : Sl w (a.eval (.tmp 25)) (tp) := hn.1
      have h27 : Sl w (a.eval (.tmp 27)) ([109]) := hn.2.1
      have h28 : a.eval (.tmp 28) = .agg #[.int .i64 15, .slice ap np cp, .slice aq nq cq] := hn.2.2.1
      have h23 : a.eval (.tmp 23) = .bool true := hn.2.2.2.1
      clear hn
      refine wantsC_of hk ?_
      refine wants_guard (d := 23) rfl rfl h23 ?_
      refine grown_call (f := 16) rfl Tryd.func16 (by kernel_rfl) (by kernel_rfl) ?_
      simp only [List.map_toArray, List.map_cons, List.map_nil, h28]
      refine (sverify_any _ tp _ [109] _ _ _ _ true (unhide HVT) w h25 (unhide HTB) h27 bs109 (by simp) (unhide HVV w hk) (unhide HGL w hk)).mono ?_
      rintro e w' ⟨rfl, K⟩
      exact ⟨_, rfl, K, rfl⟩
    refine steps_consC (fun a w hk hn => ?_) ?_
    · have h23 : a.eval (.tmp 23) = .bool true := hn.1
      have h29 : a.eval (.tmp 29) = .bool true := hn.2.1
      clear hn
      refine wantsC_of hk ?_
      refine wants_plain rfl ?_
      exact grown_pick _ _ _ true rfl h23 h29
    refine steps_consC (fun a w hk hn => ?_) ?_
    · have h30 : a.eval (.tmp 30) = .bool true := hn.1
      clear hn
      refine wantsC_of hk ?_
      refine wants_plain rfl ?_
      exact grown_move (.tmp 30) rfl h30
    refine steps_consC (fun a w hk hn => ?_) ?_
    · have h5 : a.eval (.tmp 5) = .int .i64 23 := hn.1
      have h31 : a.eval (.tmp 31) = .bool true := hn.2.1
      clear hn
      refine wantsC_of hk ?_
      refine wants_guard (d := 31) rfl rfl h31 ?_
      exact grown_move (.tmp 5) rfl h5
    refine steps_consC (fun a w hk hn => ?_) ?_
    · have h32 : a.eval (.tmp 32) = .int .i64 23 := hn.1
      have h31 : a.eval (.tmp 31) = .bool true := hn.2.1
      clear hn
      refine wantsC_of hk ?_
      refine wants_guard (d := 31) rfl rfl h31 ?_
      refine grown_run (v := .bool true) ?_ (Kp.refl _ _) rfl
      obtain ⟨ρ, hρ, hc, hf, hg⟩ := eval_is a
      rw [hρ] at h32 ⊢
      simp [go_sem, hc, h32]
    refine steps_consC (fun a w hk hn => ?_) ?_
    · have h31 : a.eval (.tmp 31) = .bool true := hn.1
      have h33 : a.eval (.tmp 33) = .bool true := hn.2.1
      clear hn
      refine wantsC_of hk ?_
      refine wants_plain rfl ?_
      exact grown_pick _ _ _ true rfl h31 h33
    refine steps_consC (fun a w hk hn => ?_) ?_
    · have h34 : a.eval (.tmp 34) = .bool true := hn.1
      clear hn
      refine wantsC_of hk ?_
      refine wants_plain rfl ?_
      exact grown_move (.tmp 34) rfl h34
    refine steps_consC (fun a w hk hn => ?_) ?_
    · have h1 : a.eval (.tmp 1) = .slice a1 m1 c1 := hn.1
      have h35 : a.eval (.tmp 35) = .bool true := hn.2.1
      clear hn
      refine wantsC_of hk ?_
      refine wants_guard (d := 35) rfl rfl h35 ?_
      exact grown_move (.tmp 1) rfl h1
    refine steps_consC (fun a w hk hn => ?_) ?_
    · have h36 : a.eval (.tmp 36) = .slice a1 m1 c1 := hn.1
      have h35 : a.eval (.tmp 35) = .bool true := hn.2.1
      clear hn
      refine wantsC_of hk ?_
      refine wants_guard (d := 35) rfl rfl h35 ?_
      refine grown_call (f := 11) rfl Tryd.func11 (by kernel_rfl) (by kernel_rfl) ?_
      simp only [List.map_toArray, List.map_cons, List.map_nil, h36]
      refine (spublic_any _ sd tp (unhide HTP) w (unhide HSS w hk) (unhide HSB) (unhide HSL) (unhide HGL w hk)).mono ?_
      rintro e w' ⟨ao, m, c, rfl, R, K⟩
      exact ⟨_, rfl, K, R⟩
    refine steps_consC (fun a w hk hn => ?_) ?_
    · have h35 : a.eval (.tmp 35) = .bool true := hn.1
      clear hn
      refine wantsC_of hk ?_
      refine wants_guard (d := 35) rfl rfl h35 ?_
      refine grown_lit hk [109] ?_ (by simp [maxLen])
      obtain ⟨ρ, hρ, hc, hf, hg⟩ := eval_is a
      rw [hρ]
      simp [go_sem, hc]
    refine steps_consC (fun a w hk hn => ?_) ?_
    · have h38 : (LitT w5.drew.heap.size [109]) (a.eval (.tmp 38)) w := hn.1
      have h35 : a.eval (.tmp 35) = .bool true := hn.2.1
      clear hn
      exact wantsC_lit hk (by rw [wanted_iff (d := 35) rfl rfl h35]; rfl) (.tmp 38) rfl [109] h38
    refine steps_consC (fun a w hk hn => ?_) ?_
    · have h35 : a.eval (.tmp 35) = .bool true := hn.1
      clear hn
      refine wantsC_of hk ?_
      refine wants_guard (d := 35) rfl rfl h35 ?_
      refine grown_run (v := .agg #[.int .i64 0, .slice none 0 0, .slice none 0 0]) ?_ (Kp.refl _ _) rfl
      obtain ⟨ρ, hρ, hc, hf, hg⟩ := eval_is a
      rw [hρ]
      simp [go_sem]
    refine steps_consC (fun a w hk hn => ?_) ?_
    · have h37 : Sl w (a.eval (.tmp 37)) (tp) := hn.1
      have h39 : Sl w (a.eval (.tmp 39)) ([109]) := hn.2.1
      have h40 : a.eval (.tmp 40) = .agg #[.int .i64 0, .slice none 0 0, .slice none 0 0] := hn.2.2.1
      have h35 : a.eval (.tmp 35) = .bool true := hn.2.2.2.1
      clear hn
      refine wantsC_of hk ?_
      refine wants_guard (d := 35) rfl rfl h35 ?_
      refine grown_call (f := 16) rfl Tryd.func16 (by kernel_rfl) (by kernel_rfl) ?_
      simp only [List.map_toArray, List.map_cons, List.map_nil, h40]
      refine (sverify_any _ tp _ [109] _ 0 [] [] false (verP_zero _ _).symm w h37 (unhide HTB) h39 bs109 (by simp) (sig0_v w) (unhide HGL w hk)).mono ?_
      rintro e w' ⟨rfl, K⟩
      exact ⟨_, rfl, K, rfl⟩
    refine steps_consC (fun a w hk hn => ?_) ?_
    · have h41 : a.eval (.tmp 41) = .bool false := hn.1
      have h35 : a.eval (.tmp 35) = .bool true := hn.2.1
      clear hn
      refine wantsC_of hk ?_
      refine wants_guard (d := 35) rfl rfl h35 ?_
      refine grown_run (v := .bool true) ?_ (Kp.refl _ _) rfl
      obtain ⟨ρ, hρ, hc, hf, hg⟩ := eval_is a
      rw [hρ] at h41 ⊢
      simp [go_sem, h41]
    refine steps_consC (fun a w hk hn => ?_) ?_
    · have h35 : a.eval (.tmp 35) = .bool true := hn.1
      have h42 : a.eval (.tmp 42) = .bool true := hn.2.1
      clear hn
      refine wantsC_of hk ?_
      refine wants_plain rfl ?_
      exact grown_pick _ _ _ true rfl h35 h42
    refine steps_consC (fun a w hk hn => ?_) ?_
    · have h43 : a.eval (.tmp 43) = .bool true := hn.1
      clear hn
      refine wantsC_of hk ?_
      refine wants_plain rfl ?_
      exact grown_assign (.tmp 43) rfl h43
    exact trivial
  intro W1 hkW1
  rintro _ rfl
  rintro _ rfl
  rintro _ rfl
  rintro _ rfl
  intro v25 h25
  intro v26 h26
  intro v27 h27
  rintro _ rfl
  rintro _ rfl
  rintro _ rfl
  rintro _ rfl
  rintro _ rfl
  rintro _ rfl
  rintro _ rfl
  rintro _ rfl
  rintro _ rfl
  intro v37 h37
  intro v38 h38
  intro v39 h39
  rintro _ rfl
  rintro _ rfl
  rintro _ rfl
  rintro _ rfl
  rintro _ rfl
  refine fin_nil ?_
  simp only [Act.put, List.set_cons_zero, List.set_cons_succ, List.setIfInBounds_toArray]
  go_wp2_with fail
  go_ret
  exact ⟨rfl, (unhide HK5).trans ((kp_drew w5).trans hkW1)⟩
end Go.Proofs.YtdioaohejoflcaaDoor
