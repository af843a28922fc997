/-
  What an operation yields that is looked for only where a test is true.
-/
import Derived.Test.YtillhpgdlmeajaaGreatDoorQB1
import Derived.Test.YtillhpgdlmeajaaGreatDoorQB2
import Derived.Test.YtillhpgdlmeajaaGreatDoorQLedgerPlays1
import Derived.Deep.Cut
import Derived.Deep.CutBlock
import Derived.Deep.CutRange
import Derived.Test.YtillhpgdlmeajaaGreatDoorQB3
import Derived.Test.YtillhpgdlmeajaaGreatDoorQB4
import Derived.Test.YtillhpgdlmeajaaGreatDoorQB5
import Derived.Test.YtillhpgdlmeajaaGreatDoorQLedgerPlays2
import Derived.Test.YtillhpgdlmeajaaGreatDoorQB6
import Derived.Test.YtillhpgdlmeajaaGreatDoorQLedgerPlays3
import Derived.Test.YtillhpgdlmeajaaGreatDoorQB7
import Derived.ChangeSame
namespace Go.Proofs.YtillhpgdlmeajaaGreatDoor
open Go.RowKit
theorem wants_none {P : Program} {ops : Array Oper} {o : Oper} {a : Act} {w : World} {R : Tell} {g : Nat} {b : Bool} {d : Tmp} (hg : o.guard = some (g, b)) (hd : (ops[g]?).bind (·.dst) = some d) (he : a.eval (.tmp d) = undef) (h : R undef w) : wants P ops o a w R := by
  have h2 : yielded ops a.tmps g = none := by
    unfold yielded
    rw [hd]
    simp only [Option.bind_some]
    have h1 : a.tmps[d]?.getD undef = undef := by simpa [Act.eval] using he
    cases hx : a.tmps[d]? with
    | none => rfl
    | some x =>
      rw [hx, Option.getD_some] at h1
      subst h1
      rfl
  unfold wants
  rw [if_neg (by simp [Region.wanted, hg, h2])]
  exact h
end Go.Proofs.YtillhpgdlmeajaaGreatDoor

/-
  What the law package of ledger asks of a ledger and of the reference's: tells.
-/
namespace Go.Proofs.YtillhpgdlmeajaaGreatDoor
open Go.ChangeShapes Go.WideShapes Go.ChangeAt Go.RowKit
open Go.Deep
open Go.Proofs
set_option linter.unusedVariables false
theorem sgv_parts {w : World} {n i : Int} {ar : Option Addr} {mr cr : Nat} {ap : Option Addr} {np cp : Nat} {aq : Option Addr} {nq cq : Nat} {s : Sg} (h : SgV w (.agg #[.int .i64 n, .slice ar mr cr, .int .i64 i, .slice ap np cp, .slice aq nq cq]) s) : CkV w (.agg #[.int .i64 n, .slice ar mr cr]) s.n s.r ∧ SigV w (.agg #[.int .i64 i, .slice ap np cp, .slice aq nq cq]) s.i s.ps s.qs := by
  obtain ⟨a, m, c, vp, vq, e, h1, h2⟩ := h
  simp only [Value.agg.injEq, Array.mk.injEq, List.cons.injEq, and_true] at e
  obtain ⟨e1, e2, e3, e4, e5⟩ := e
  rw [e1, e2, e3, e4, e5]
  exact ⟨⟨a, m, c, rfl, h1.1, h1.2⟩, h2⟩
theorem idxOf_at : ∀ {l : List (List Int)} (h : l.Nodup) (k : Nat) (hk : k < l.length), l.idxOf l[k] = k
  | [], _, k, hk => by cases hk
  | a :: t, h, 0, _ => by simp
  | a :: t, h, k + 1, hk => by
    have h2 := List.nodup_cons.1 h
    have hk' : k < t.length := by simpa using hk
    have hne : (a == t[k]) = false := beq_false_of_ne (fun e => h2.1 (e ▸ List.getElem_mem hk'))
    simp [List.idxOf_cons, hne, idxOf_at h2.2 k hk']
/-- "there is no such". -/
def noSuch : List Int := [116, 104, 101, 114, 101, 32, 105, 115, 32, 110, 111, 32, 115, 117, 99, 104]
set_option maxRecDepth 100000 in
set_option maxHeartbeats 8000000 in
theorem rtellsN (w0 w : World) (l pd pk p : Nat) (S : LS) (f : Fps) (vi : Value) (hL : Lg w0 w l pd pk S f) (hla : S.la = none) (hR : Rf w0 w f.tot p vi S.seed S.its S.n S.la) (hG : Gl w) (hno : noSuch ∉ S.its) :
    Calls Tryz.prog 59 #[.pointer (some ⟨l, 0, none⟩), .pointer (some ⟨p, 0, none⟩)] w fun e w' => e = .returned (.bool true) ∧ Kp [] w w' := by
  obtain ⟨og, base, sz, ix, ar, mr, cr, ap, np, cp, aq, nq, cq, lA, R⟩ := hR
  obtain ⟨ai, ci, hvi⟩ := R.al.row.1.1.shape
  obtain ⟨mi, hmi⟩ : ∃ m, m = (lA.map (·.1)).length := ⟨_, rfl⟩
  rw [← hmi] at hvi
  subst hvi
  have hmi2 : mi = S.its.length := by rw [hmi, ← R.it, List.length_map, List.length_map]
  have HMi := hide hmi2
  have HLg := hide hL
  have HRg := hide R
  have HG := hide hG
  have HNo := hide hno
  have HLa := hide hla
  have HLs := hide (ulast_none hL hla)
  obtain ⟨r, hr⟩ : ∃ r, r = rtU S.its := ⟨_, rfl⟩
  obtain ⟨SS, hSS⟩ : ∃ S, S = strOfNums r := ⟨_, rfl⟩
  have HR : Hid (r = rtU S.its) := hide hr
  have HSS := hide hSS
  clear hL R hmi hmi2 hG hno hla hr hSS
  go_enter Tryz.func59, Tryz.ntmps59
  go_wp2_with fail
  refine HLs.out.mono ?_
  rintro ee w1 ⟨rfl, K1⟩
  have HK1 := hide K1
  have HGz : Hid ((w1.alloc (.cells #[.int .i64 0, .slice none 0 0, .int .i64 0, .slice none 0 0, .slice none 0 0] 72)).heap[w1.heap.size]? = some (.cells #[.int .i64 0, .slice none 0 0, .int .i64 0, .slice none 0 0, .slice none 0 0] 72 (0, 0))) := hide (heap_alloc_new w1 _)
  clear HLs K1
  go_wp2_with (refine wpList_store_flat rfl 72 (.tmp 5) (.tmp 17) rfl w1.heap.size 0 rfl #[.int .i64 0, .slice none 0 0, .int .i64 0, .slice none 0 0, .slice none 0 0] 72 [.int .i64 0, .slice none 0 0, .int .i64 0, .slice none 0 0, .slice none 0 0] HGz.out rfl (by simp) Tryz.sgdSize (by simp [Value.oneCell']) #[.int .i64 0, .slice none 0 0, .int .i64 0, .slice none 0 0, .slice none 0 0] rfl ?_; intro w2 G2 K2a; refine Hid.out ?_)
  have HK2 : Hid (Kp [] w w2) := hide (HK1.out.trans (((Kp.refl [] w1).alloc _).then K2a (fun i hi => .inr (by simp at hi; omega))))
  obtain ⟨g5, hg5⟩ : ∃ g, g = w1.heap.size := ⟨_, rfl⟩
  rw [← hg5] at G2 ⊢
  have HG2 := hide G2
  have HL2 := hide (HLg.out.on HK2.out)
  have HD2 : Hid (∀ w', Kp [] w2.drew w' → Kp [] w2 w') := hide (fun w' k => (kp_drew w2).trans k)
  have HLw : Hid (∀ w', Kp [] w2.drew w' → Lg w0 w' l pd pk S f) := hide (fun w' k => HL2.out.on (HD2.out w' k))
  have HGw : Hid (∀ w', Kp [] w2.drew w' → Gl w') := hide (fun w' k => HG.out.kept (HK2.out.trans (HD2.out w' k)) (by simp))
  have HG5 : Hid (∀ w', Kp [] w2.drew w' → w'.heap[g5]? = some (.cells #[.int .i64 0, .slice none 0 0, .int .i64 0, .slice none 0 0, .slice none 0 0] 72 (0, 0))) := hide (fun w' k => (HD2.out w' k).heap HG2.out (by simp))
  have HPw : Hid (∀ w', Kp [] w2.drew w' → w'.heap[p]? = some (.cells #[.slice ai mi ci, .pointer (some ⟨og, 0, none⟩), .int .i64 S.n, .int .i64 sz, .slice ar mr cr, .int .i64 ix, .slice ap np cp, .slice aq nq cq, .bool false] 74 (0, 0))) := hide (fun w' k => by
    have := (HK2.out.trans (HD2.out w' k)).heap HRg.out.hp (by simp)
    rw [HLa.out] at this
    exact this)
  have HC0 : Hid (∀ w', Kp [] w2.drew w' → w'.cell? ⟨p, 0, none⟩ = some (.slice ai mi ci)) := hide (fun w' k => by rw [cell_of_row w' p 0 _ _ _ (HPw.out w' k)]; rfl)
  have HLc : Hid (∀ w', Kp [] w2.drew w' → LcM S.its (.slice ai mi ci) w') := hide (fun w' k => by
    have A := HRg.out.al.on (HK2.out.trans (HD2.out w' k))
    have hf := HLg.out.few
    exact ⟨lA, lc_of_owns A.row.1.1 (A.row.lists (by rw [← List.length_map (f := (·.2)), HRg.out.it]; omega)), HRg.out.it⟩)
  have HLn : Hid (S.its.length ≤ 1000) := hide (by have := HLg.out.few; omega)
  have HLm : Hid (∀ x ∈ S.its, x.length ≤ 65535) := hide (fun x hx => (HLg.out.bs x hx).2)
  have HSz : Hid ((mi : Int) = S.its.length) := hide (by rw [HMi.out])
  have HOw : Hid (∀ w', Kp [] w2.drew w' → Ow w' base og S.seed 5) := hide (fun w' k => (HRg.out.ow.step (Stp.mid (HK2.out.trans (HD2.out w' k)))).ow)
  obtain ⟨xk, hxk⟩ : ∃ x, x = 16 - (S.n : Int) := ⟨_, rfl⟩
  have HXk := hide hxk
  have HW16 : Hid (IntKind.i64.wrap (16 - (S.n : Int)) = xk) := hide (by have := HLg.out.nk; rw [hxk]; simp [IntKind.wrap, IntKind.signed, IntKind.bits]; omega)
  obtain ⟨tp, htp⟩ : ∃ t, t = topP S.seed := ⟨_, rfl⟩
  obtain ⟨TT, hTT⟩ : ∃ S, S = strOfNums tp := ⟨_, rfl⟩
  have HTp := hide htp
  have HTT := hide hTT
  clear HGz G2 K2a HK1 hg5 hxk htp hTT
  refine hide ?_
  go_wp2_with fail
  refine region_grow Tryz.mixed [Is (.pointer (some ⟨l, 0, none⟩)), Is (.int .i64 mi), Is (.pointer (some ⟨p, 0, none⟩)), Is (.pointer (some ⟨p, 0, none⟩)), Is (.pointer (some ⟨p, 0, none⟩)), Is (.slice ai mi ci), Is (.int .i64 mi), Is (.bool false), Is (.bool false), Is (.pointer (some ⟨l, 0, none⟩)), SlT (r), Is (.string SS), Is (.pointer (some ⟨p, 0, none⟩)), SlT (r), Is (.string SS), Is (.bool false), Is (.bool false), Is (.bool false), Is (.bool false), Is (.pointer (some ⟨p, 0, none⟩)), Is (.pointer (some ⟨p, 0, none⟩)), Is (.pointer (some ⟨p, 8, none⟩)), Is (.bool false), Is (.bool false), Is (.bool false), Is (.bool false), Is (.bool false), Is (.bool false), Is (undef), Is (undef), Is (undef), Is (undef), Is (undef), Is (undef), Is (undef), Is (undef), Is (undef), Is (undef), Is (undef), Is (undef), Is (undef), Is (undef), Is (undef), Is (undef), Is (undef), Is (undef), Is (undef), Is (undef), Is (.bool false), Is (.bool false), Is (.bool false), Is (.pointer (some ⟨l, 0, none⟩)), Is (.int .i64 xk), Is (.pointer (some ⟨p, 0, none⟩)), Is (.pointer (some ⟨p, 0, none⟩)), Is (.pointer (some ⟨p, 2, none⟩)), Is (.int .i64 S.n), Is (.int .i64 xk), Is (.bool false), Is (.bool false), Is (.bool false), Is (.pointer (some ⟨l, 0, none⟩)), SlT (tp), Is (.string TT), Is (.pointer (some ⟨p, 0, none⟩)), Is (.pointer (some ⟨p, 0, none⟩)), Is (.pointer (some ⟨p, 1, none⟩)), Is (.pointer (some ⟨og, 0, none⟩)), SlT (tp), Is (.string TT), Is (.bool false), Is (.bool false)] [[(0, none)], [(19, some 0)], [(1, none)], [(21, some 2)], [(22, some 3)], [(23, some 4)], [(24, some 5)], [(20, some 1), (25, some 6)], [(26, some 7)], [(0, none), (27, some 8)], [(28, some 9), (27, some 8)], [(29, some 10), (27, some 8)], [(1, none), (27, some 8)], [(31, some 12), (27, some 8)], [(32, some 13), (27, some 8)], [(30, some 11), (33, some 14), (27, some 8)], [(27, some 8), (34, some 15)], [(35, some 16)], [(6, none), (36, some 17)], [(1, none), (36, some 17)], [(38, some 19), (36, some 17)], [(39, some 20), (36, some 17)], [(40, some 21), (36, some 17)], [(37, some 18), (41, some 22), (36, some 17)], [(36, some 17), (42, some 23)], [(43, some 24)], [(6, none), (44, some 25)], [(45, some 26), (44, some 25)], [(5, none), (46, some 27)], [(47, some 28), (46, some 27)], [(1, none), (46, some 27)], [(49, some 30), (46, some 27)], [(50, some 31), (46, some 27)], [(51, some 32), (46, some 27)], [(52, some 33), (46, some 27)], [(48, some 29), (53, some 34), (46, some 27)], [(54, some 35), (46, some 27)], [(55, some 36), (46, some 27)], [(5, none), (56, some 37)], [(57, some 38), (56, some 37)], [(1, none), (56, some 37)], [(59, some 40), (56, some 37)], [(60, some 41), (56, some 37)], [(61, some 42), (56, some 37)], [(62, some 43), (56, some 37)], [(58, some 39), (63, some 44), (56, some 37)], [(64, some 45), (56, some 37)], [(56, some 37), (65, some 46), (46, some 27)], [(46, some 27), (66, some 47), (44, some 25)], [(44, some 25), (67, some 48)], [(68, some 49)], [(0, none), (69, some 50)], [(70, some 51), (69, some 50)], [(1, none), (69, some 50)], [(72, some 53), (69, some 50)], [(73, some 54), (69, some 50)], [(74, some 55), (69, some 50)], [(75, some 56), (69, some 50)], [(71, some 52), (76, some 57), (69, some 50)], [(69, some 50), (77, some 58)], [(78, some 59)], [(0, none), (79, some 60)], [(80, some 61), (79, some 60)], [(81, some 62), (79, some 60)], [(1, none), (79, some 60)], [(83, some 64), (79, some 60)], [(84, some 65), (79, some 60)], [(85, some 66), (79, some 60)], [(86, some 67), (79, some 60)], [(87, some 68), (79, some 60)], [(82, some 63), (88, some 69), (79, some 60)], [(79, some 60), (89, some 70)]] (by kernel_rfl) ?_ ?_ ?_
  · simp only [List.mem_cons, List.not_mem_nil, or_false]
    intro R hR
    rcases hR with rfl | rfl | rfl | rfl | rfl | rfl | rfl | rfl | rfl | rfl | rfl | rfl | rfl | rfl | rfl | rfl | rfl | rfl | rfl | rfl | rfl | rfl | rfl | rfl | rfl | rfl | rfl | rfl | rfl | rfl | rfl | rfl | rfl | rfl | rfl | rfl | rfl | rfl | rfl | rfl | rfl | rfl | rfl | rfl | rfl | rfl | rfl | rfl | rfl | rfl | rfl | rfl | rfl | rfl | rfl | rfl | rfl | rfl | rfl | rfl | rfl | rfl | rfl | rfl | rfl | rfl | rfl | rfl | rfl | rfl | rfl | rfl <;> first | exact stable_is _ | exact stable_sl _
  · refine steps_cons (fun a w hk hn => ?_) ?_
    · have h0 : a.eval (.tmp 0) = .pointer (some ⟨l, 0, none⟩) := hn.1
      clear hn
      refine wants_plain rfl ?_
      exact grown_move (.tmp 0) rfl h0
    refine steps_cons (fun a w hk hn => ?_) ?_
    · have h19 : a.eval (.tmp 19) = .pointer (some ⟨l, 0, none⟩) := hn.1
      clear hn
      refine wants_plain rfl ?_
      refine grown_call (f := 16) rfl Tryz.func16 (by kernel_rfl) (by kernel_rfl) ?_
      simp only [List.map_toArray, List.map_cons, List.map_nil, h19]
      refine (usize_any (HLw.out w hk) (mi : Int) HSz.out).mono ?_
      rintro e w' ⟨rfl, rfl⟩
      exact ⟨_, rfl, Kp.refl _ _, rfl⟩
    refine steps_cons (fun a w hk hn => ?_) ?_
    · have h1 : a.eval (.tmp 1) = .pointer (some ⟨p, 0, none⟩) := hn.1
      clear hn
      refine wants_plain rfl ?_
      exact grown_move (.tmp 1) rfl h1
    refine steps_cons (fun a w hk hn => ?_) ?_
    · have h21 : a.eval (.tmp 21) = .pointer (some ⟨p, 0, none⟩) := hn.1
      clear hn
      refine wants_plain rfl ?_
      refine grown_run (v := .pointer (some ⟨p, 0, none⟩)) ?_ (Kp.refl _ _) rfl
      obtain ⟨ρ, hρ, hc, hf, hg⟩ := eval_is a
      rw [hρ] at h21 ⊢
      simp [go_sem, h21]
    refine steps_cons (fun a w hk hn => ?_) ?_
    · have h22 : a.eval (.tmp 22) = .pointer (some ⟨p, 0, none⟩) := hn.1
      clear hn
      refine wants_plain rfl ?_
      refine grown_run (v := .pointer (some ⟨p, 0, none⟩)) ?_ (Kp.refl _ _) rfl
      obtain ⟨ρ, hρ, hc, hf, hg⟩ := eval_is a
      rw [hρ] at h22 ⊢
      simp [go_sem, h22]
    refine steps_cons (fun a w hk hn => ?_) ?_
    · have h23 : a.eval (.tmp 23) = .pointer (some ⟨p, 0, none⟩) := hn.1
      clear hn
      refine wants_plain rfl ?_
      refine grown_run (v := .slice ai mi ci) ?_ (Kp.refl _ _) rfl
      have hcell : w.cell? ⟨p, 0, none⟩ = some (.slice ai mi ci) := by rw [cell_of_row w p 0 _ _ _ (HPw.out w hk)]; rfl
      obtain ⟨ρ, hρ, hc, hf, hg⟩ := eval_is a
      rw [hρ] at h23 ⊢
      simp [go_sem, h23, hcell]
    refine steps_cons (fun a w hk hn => ?_) ?_
    · have h24 : a.eval (.tmp 24) = .slice ai mi ci := hn.1
      clear hn
      refine wants_plain rfl ?_
      refine grown_run (v := .int .i64 mi) ?_ (Kp.refl _ _) rfl
      obtain ⟨ρ, hρ, hc, hf, hg⟩ := eval_is a
      rw [hρ] at h24 ⊢
      simp [go_sem, h24]
    refine steps_cons (fun a w hk hn => ?_) ?_
    · have h20 : a.eval (.tmp 20) = .int .i64 mi := hn.1
      have h25 : a.eval (.tmp 25) = .int .i64 mi := hn.2.1
      clear hn
      refine wants_plain rfl ?_
      refine grown_run (v := .bool false) ?_ (Kp.refl _ _) rfl
      obtain ⟨ρ, hρ, hc, hf, hg⟩ := eval_is a
      rw [hρ] at h20 h25 ⊢
      simp [go_sem, h20, h25]
    refine steps_cons (fun a w hk hn => ?_) ?_
    · have h26 : a.eval (.tmp 26) = .bool false := hn.1
      clear hn
      refine wants_plain rfl ?_
      exact grown_move (.tmp 26) rfl h26
    refine steps_cons (fun a w hk hn => ?_) ?_
    · have h0 : a.eval (.tmp 0) = .pointer (some ⟨l, 0, none⟩) := hn.1
      have h27 : a.eval (.tmp 27) = .bool false := hn.2.1
      clear hn
      refine wants_guard (d := 27) rfl rfl h27 ?_
      exact grown_move (.tmp 0) rfl h0
    refine steps_cons (fun a w hk hn => ?_) ?_
    · have h28 : a.eval (.tmp 28) = .pointer (some ⟨l, 0, none⟩) := hn.1
      have h27 : a.eval (.tmp 27) = .bool false := hn.2.1
      clear hn
      refine wants_guard (d := 27) rfl rfl h27 ?_
      refine grown_call (f := 23) rfl Tryz.func23 (by kernel_rfl) (by kernel_rfl) ?_
      simp only [List.map_toArray, List.map_cons, List.map_nil, h28]
      refine (uroot_any (HLw.out w hk) r HR.out (HGw.out w hk)).mono ?_
      rintro e w' ⟨ao, m, c, rfl, R, K⟩
      exact ⟨_, rfl, K, R.sl⟩
    refine steps_cons (fun a w hk hn => ?_) ?_
    · have h29 : Sl w (a.eval (.tmp 29)) (r) := hn.1
      have h27 : a.eval (.tmp 27) = .bool false := hn.2.1
      clear hn
      refine wants_guard (d := 27) rfl rfl h27 ?_
      exact grown_conv (.tmp 29) _ _ 5 _ rfl h29 Tryz.underlying22 Tryz.underlying5 Tryz.underlying9 (congrArg Value.string (unhide HSS).symm)
    refine steps_cons (fun a w hk hn => ?_) ?_
    · have h1 : a.eval (.tmp 1) = .pointer (some ⟨p, 0, none⟩) := hn.1
      have h27 : a.eval (.tmp 27) = .bool false := hn.2.1
      clear hn
      refine wants_guard (d := 27) rfl rfl h27 ?_
      exact grown_move (.tmp 1) rfl h1
    refine steps_cons (fun a w hk hn => ?_) ?_
    · have h31 : a.eval (.tmp 31) = .pointer (some ⟨p, 0, none⟩) := hn.1
      have h27 : a.eval (.tmp 27) = .bool false := hn.2.1
      clear hn
      refine wants_guard (d := 27) rfl rfl h27 ?_
      refine grown_call (f := 100) rfl Tryz.func100 (by kernel_rfl) (by kernel_rfl) ?_
      simp only [List.map_toArray, List.map_cons, List.map_nil, h31]
      refine (r15root_any p _ S.its r w HR.out (HC0.out w hk) (HLc.out w hk) HLn.out HLm.out).mono ?_
      rintro e w' ⟨ao, m, c, rfl, R, -, K⟩
      exact ⟨_, rfl, K, R⟩
    refine steps_cons (fun a w hk hn => ?_) ?_
    · have h32 : Sl w (a.eval (.tmp 32)) (r) := hn.1
      have h27 : a.eval (.tmp 27) = .bool false := hn.2.1
      clear hn
      refine wants_guard (d := 27) rfl rfl h27 ?_
      exact grown_conv (.tmp 32) _ _ 5 _ rfl h32 Tryz.underlying22 Tryz.underlying5 Tryz.underlying9 (congrArg Value.string (unhide HSS).symm)
    refine steps_cons (fun a w hk hn => ?_) ?_
    · have h30 : a.eval (.tmp 30) = .string SS := hn.1
      have h33 : a.eval (.tmp 33) = .string SS := hn.2.1
      have h27 : a.eval (.tmp 27) = .bool false := hn.2.2.1
      clear hn
      refine wants_guard (d := 27) rfl rfl h27 ?_
      refine grown_run (v := .bool false) ?_ (Kp.refl _ _) rfl
      obtain ⟨ρ, hρ, hc, hf, hg⟩ := eval_is a
      rw [hρ] at h30 h33 ⊢
      simp [go_sem, h30, h33]
    refine steps_cons (fun a w hk hn => ?_) ?_
    · have h27 : a.eval (.tmp 27) = .bool false := hn.1
      have h34 : a.eval (.tmp 34) = .bool false := hn.2.1
      clear hn
      refine wants_plain rfl ?_
      exact grown_pick _ _ _ false rfl h27 h34
    refine steps_cons (fun a w hk hn => ?_) ?_
    · have h35 : a.eval (.tmp 35) = .bool false := hn.1
      clear hn
      refine wants_plain rfl ?_
      exact grown_move (.tmp 35) rfl h35
    refine steps_cons (fun a w hk hn => ?_) ?_
    · have h6 : a.eval (.tmp 6) = .bool false := hn.1
      have h36 : a.eval (.tmp 36) = .bool false := hn.2.1
      clear hn
      refine wants_guard (d := 36) rfl rfl h36 ?_
      exact grown_move (.tmp 6) rfl h6
    refine steps_cons (fun a w hk hn => ?_) ?_
    · have h1 : a.eval (.tmp 1) = .pointer (some ⟨p, 0, none⟩) := hn.1
      have h36 : a.eval (.tmp 36) = .bool false := hn.2.1
      clear hn
      refine wants_guard (d := 36) rfl rfl h36 ?_
      exact grown_move (.tmp 1) rfl h1
    refine steps_cons (fun a w hk hn => ?_) ?_
    · have h38 : a.eval (.tmp 38) = .pointer (some ⟨p, 0, none⟩) := hn.1
      have h36 : a.eval (.tmp 36) = .bool false := hn.2.1
      clear hn
      refine wants_guard (d := 36) rfl rfl h36 ?_
      refine grown_run (v := .pointer (some ⟨p, 0, none⟩)) ?_ (Kp.refl _ _) rfl
      obtain ⟨ρ, hρ, hc, hf, hg⟩ := eval_is a
      rw [hρ] at h38 ⊢
      simp [go_sem, h38]
    refine steps_cons (fun a w hk hn => ?_) ?_
    · have h39 : a.eval (.tmp 39) = .pointer (some ⟨p, 0, none⟩) := hn.1
      have h36 : a.eval (.tmp 36) = .bool false := hn.2.1
      clear hn
      refine wants_guard (d := 36) rfl rfl h36 ?_
      refine grown_run (v := .pointer (some ⟨p, 8, none⟩)) ?_ (Kp.refl _ _) rfl
      obtain ⟨ρ, hρ, hc, hf, hg⟩ := eval_is a
      rw [hρ] at h39 ⊢
      simp [go_sem, h39]
    refine steps_cons (fun a w hk hn => ?_) ?_
    · have h40 : a.eval (.tmp 40) = .pointer (some ⟨p, 8, none⟩) := hn.1
      have h36 : a.eval (.tmp 36) = .bool false := hn.2.1
      clear hn
      refine wants_guard (d := 36) rfl rfl h36 ?_
      refine grown_run (v := .bool false) ?_ (Kp.refl _ _) rfl
      have hcell : w.cell? ⟨p, 8, none⟩ = some (.bool false) := by rw [cell_of_row w p 8 _ _ _ (HPw.out w hk)]; rfl
      obtain ⟨ρ, hρ, hc, hf, hg⟩ := eval_is a
      rw [hρ] at h40 ⊢
      simp [go_sem, h40, hcell]
    refine steps_cons (fun a w hk hn => ?_) ?_
    · have h37 : a.eval (.tmp 37) = .bool false := hn.1
      have h41 : a.eval (.tmp 41) = .bool false := hn.2.1
      have h36 : a.eval (.tmp 36) = .bool false := hn.2.2.1
      clear hn
      refine wants_guard (d := 36) rfl rfl h36 ?_
      refine grown_run (v := .bool false) ?_ (Kp.refl _ _) rfl
      obtain ⟨ρ, hρ, hc, hf, hg⟩ := eval_is a
      rw [hρ] at h37 h41 ⊢
      simp [go_sem, h37, h41]
    refine steps_cons (fun a w hk hn => ?_) ?_
    · have h36 : a.eval (.tmp 36) = .bool false := hn.1
      have h42 : a.eval (.tmp 42) = .bool false := hn.2.1
      clear hn
      refine wants_plain rfl ?_
      exact grown_pick _ _ _ false rfl h36 h42
    refine steps_cons (fun a w hk hn => ?_) ?_
    · have h43 : a.eval (.tmp 43) = .bool false := hn.1
      clear hn
      refine wants_plain rfl ?_
      exact grown_move (.tmp 43) rfl h43
    refine steps_cons (fun a w hk hn => ?_) ?_
    · have h6 : a.eval (.tmp 6) = .bool false := hn.1
      have h44 : a.eval (.tmp 44) = .bool false := hn.2.1
      clear hn
      refine wants_guard (d := 44) rfl rfl h44 ?_
      exact grown_move (.tmp 6) rfl h6
    refine steps_cons (fun a w hk hn => ?_) ?_
    · have h45 : a.eval (.tmp 45) = .bool false := hn.1
      have h44 : a.eval (.tmp 44) = .bool false := hn.2.1
      clear hn
      refine wants_guard (d := 44) rfl rfl h44 ?_
      exact grown_move (.tmp 45) rfl h45
    refine steps_cons (fun a w hk hn => ?_) ?_
    · have h5 : a.eval (.tmp 5) = .pointer (some ⟨g5, 0, none⟩) := hn.1
      have h46 : a.eval (.tmp 46) = .bool false := hn.2.1
      clear hn
      exact wants_not (d := 46) rfl rfl h46 rfl
    refine steps_cons (fun a w hk hn => ?_) ?_
    · have h47 : a.eval (.tmp 47) = undef := hn.1
      have h46 : a.eval (.tmp 46) = .bool false := hn.2.1
      clear hn
      exact wants_not (d := 46) rfl rfl h46 rfl
    refine steps_cons (fun a w hk hn => ?_) ?_
    · have h1 : a.eval (.tmp 1) = .pointer (some ⟨p, 0, none⟩) := hn.1
      have h46 : a.eval (.tmp 46) = .bool false := hn.2.1
      clear hn
      exact wants_not (d := 46) rfl rfl h46 rfl
    refine steps_cons (fun a w hk hn => ?_) ?_
    · have h49 : a.eval (.tmp 49) = undef := hn.1
      have h46 : a.eval (.tmp 46) = .bool false := hn.2.1
      clear hn
      exact wants_not (d := 46) rfl rfl h46 rfl
    refine steps_cons (fun a w hk hn => ?_) ?_
    · have h50 : a.eval (.tmp 50) = undef := hn.1
      have h46 : a.eval (.tmp 46) = .bool false := hn.2.1
      clear hn
      exact wants_not (d := 46) rfl rfl h46 rfl
    refine steps_cons (fun a w hk hn => ?_) ?_
    · have h51 : a.eval (.tmp 51) = undef := hn.1
      have h46 : a.eval (.tmp 46) = .bool false := hn.2.1
      clear hn
      exact wants_not (d := 46) rfl rfl h46 rfl
    refine steps_cons (fun a w hk hn => ?_) ?_
    · have h52 : a.eval (.tmp 52) = undef := hn.1
      have h46 : a.eval (.tmp 46) = .bool false := hn.2.1
      clear hn
      exact wants_not (d := 46) rfl rfl h46 rfl
    refine steps_cons (fun a w hk hn => ?_) ?_
    · have h48 : a.eval (.tmp 48) = undef := hn.1
      have h53 : a.eval (.tmp 53) = undef := hn.2.1
      have h46 : a.eval (.tmp 46) = .bool false := hn.2.2.1
      clear hn
      exact wants_not (d := 46) rfl rfl h46 rfl
    refine steps_cons (fun a w hk hn => ?_) ?_
    · have h54 : a.eval (.tmp 54) = undef := hn.1
      have h46 : a.eval (.tmp 46) = .bool false := hn.2.1
      clear hn
      exact wants_not (d := 46) rfl rfl h46 rfl
    refine steps_cons (fun a w hk hn => ?_) ?_
    · have h55 : a.eval (.tmp 55) = undef := hn.1
      have h46 : a.eval (.tmp 46) = .bool false := hn.2.1
      clear hn
      exact wants_not (d := 46) rfl rfl h46 rfl
    refine steps_cons (fun a w hk hn => ?_) ?_
    · have h5 : a.eval (.tmp 5) = .pointer (some ⟨g5, 0, none⟩) := hn.1
      have h56 : a.eval (.tmp 56) = undef := hn.2.1
      clear hn
      exact wants_none (d := 56) rfl rfl h56 rfl
    refine steps_cons (fun a w hk hn => ?_) ?_
    · have h57 : a.eval (.tmp 57) = undef := hn.1
      have h56 : a.eval (.tmp 56) = undef := hn.2.1
      clear hn
      exact wants_none (d := 56) rfl rfl h56 rfl
    refine steps_cons (fun a w hk hn => ?_) ?_
    · have h1 : a.eval (.tmp 1) = .pointer (some ⟨p, 0, none⟩) := hn.1
      have h56 : a.eval (.tmp 56) = undef := hn.2.1
      clear hn
      exact wants_none (d := 56) rfl rfl h56 rfl
    refine steps_cons (fun a w hk hn => ?_) ?_
    · have h59 : a.eval (.tmp 59) = undef := hn.1
      have h56 : a.eval (.tmp 56) = undef := hn.2.1
      clear hn
      exact wants_none (d := 56) rfl rfl h56 rfl
    refine steps_cons (fun a w hk hn => ?_) ?_
    · have h60 : a.eval (.tmp 60) = undef := hn.1
      have h56 : a.eval (.tmp 56) = undef := hn.2.1
      clear hn
      exact wants_none (d := 56) rfl rfl h56 rfl
    refine steps_cons (fun a w hk hn => ?_) ?_
    · have h61 : a.eval (.tmp 61) = undef := hn.1
      have h56 : a.eval (.tmp 56) = undef := hn.2.1
      clear hn
      exact wants_none (d := 56) rfl rfl h56 rfl
    refine steps_cons (fun a w hk hn => ?_) ?_
    · have h62 : a.eval (.tmp 62) = undef := hn.1
      have h56 : a.eval (.tmp 56) = undef := hn.2.1
      clear hn
      exact wants_none (d := 56) rfl rfl h56 rfl
    refine steps_cons (fun a w hk hn => ?_) ?_
    · have h58 : a.eval (.tmp 58) = undef := hn.1
      have h63 : a.eval (.tmp 63) = undef := hn.2.1
      have h56 : a.eval (.tmp 56) = undef := hn.2.2.1
      clear hn
      exact wants_none (d := 56) rfl rfl h56 rfl
    refine steps_cons (fun a w hk hn => ?_) ?_
    · have h64 : a.eval (.tmp 64) = undef := hn.1
      have h56 : a.eval (.tmp 56) = undef := hn.2.1
      clear hn
      exact wants_none (d := 56) rfl rfl h56 rfl
    refine steps_cons (fun a w hk hn => ?_) ?_
    · have h56 : a.eval (.tmp 56) = undef := hn.1
      have h65 : a.eval (.tmp 65) = undef := hn.2.1
      have h46 : a.eval (.tmp 46) = .bool false := hn.2.2.1
      clear hn
      exact wants_not (d := 46) rfl rfl h46 rfl
    refine steps_cons (fun a w hk hn => ?_) ?_
    · have h46 : a.eval (.tmp 46) = .bool false := hn.1
      have h66 : a.eval (.tmp 66) = undef := hn.2.1
      have h44 : a.eval (.tmp 44) = .bool false := hn.2.2.1
      clear hn
      refine wants_guard (d := 44) rfl rfl h44 ?_
      exact grown_pick _ _ _ false rfl h46 rfl
    refine steps_cons (fun a w hk hn => ?_) ?_
    · have h44 : a.eval (.tmp 44) = .bool false := hn.1
      have h67 : a.eval (.tmp 67) = .bool false := hn.2.1
      clear hn
      refine wants_plain rfl ?_
      exact grown_pick _ _ _ false rfl h44 h67
    refine steps_cons (fun a w hk hn => ?_) ?_
    · have h68 : a.eval (.tmp 68) = .bool false := hn.1
      clear hn
      refine wants_plain rfl ?_
      exact grown_move (.tmp 68) rfl h68
    refine steps_cons (fun a w hk hn => ?_) ?_
    · have h0 : a.eval (.tmp 0) = .pointer (some ⟨l, 0, none⟩) := hn.1
      have h69 : a.eval (.tmp 69) = .bool false := hn.2.1
      clear hn
      refine wants_guard (d := 69) rfl rfl h69 ?_
      exact grown_move (.tmp 0) rfl h0
    refine steps_cons (fun a w hk hn => ?_) ?_
    · have h70 : a.eval (.tmp 70) = .pointer (some ⟨l, 0, none⟩) := hn.1
      have h69 : a.eval (.tmp 69) = .bool false := hn.2.1
      clear hn
      refine wants_guard (d := 69) rfl rfl h69 ?_
      refine grown_call (f := 35) rfl Tryz.func35 (by kernel_rfl) (by kernel_rfl) ?_
      simp only [List.map_toArray, List.map_cons, List.map_nil, h70]
      refine (ukeys_any (HLw.out w hk) xk HXk.out).mono ?_
      rintro e w' ⟨rfl, rfl⟩
      exact ⟨_, rfl, Kp.refl _ _, rfl⟩
    refine steps_cons (fun a w hk hn => ?_) ?_
    · have h1 : a.eval (.tmp 1) = .pointer (some ⟨p, 0, none⟩) := hn.1
      have h69 : a.eval (.tmp 69) = .bool false := hn.2.1
      clear hn
      refine wants_guard (d := 69) rfl rfl h69 ?_
      exact grown_move (.tmp 1) rfl h1
    refine steps_cons (fun a w hk hn => ?_) ?_
    · have h72 : a.eval (.tmp 72) = .pointer (some ⟨p, 0, none⟩) := hn.1
      have h69 : a.eval (.tmp 69) = .bool false := hn.2.1
      clear hn
      refine wants_guard (d := 69) rfl rfl h69 ?_
      refine grown_run (v := .pointer (some ⟨p, 0, none⟩)) ?_ (Kp.refl _ _) rfl
      obtain ⟨ρ, hρ, hc, hf, hg⟩ := eval_is a
      rw [hρ] at h72 ⊢
      simp [go_sem, h72]
    refine steps_cons (fun a w hk hn => ?_) ?_
    · have h73 : a.eval (.tmp 73) = .pointer (some ⟨p, 0, none⟩) := hn.1
      have h69 : a.eval (.tmp 69) = .bool false := hn.2.1
      clear hn
      refine wants_guard (d := 69) rfl rfl h69 ?_
      refine grown_run (v := .pointer (some ⟨p, 2, none⟩)) ?_ (Kp.refl _ _) rfl
      obtain ⟨ρ, hρ, hc, hf, hg⟩ := eval_is a
      rw [hρ] at h73 ⊢
      simp [go_sem, h73]
    refine steps_cons (fun a w hk hn => ?_) ?_
    · have h74 : a.eval (.tmp 74) = .pointer (some ⟨p, 2, none⟩) := hn.1
      have h69 : a.eval (.tmp 69) = .bool false := hn.2.1
      clear hn
      refine wants_guard (d := 69) rfl rfl h69 ?_
      refine grown_run (v := .int .i64 S.n) ?_ (Kp.refl _ _) rfl
      have hcell : w.cell? ⟨p, 2, none⟩ = some (.int .i64 S.n) := by rw [cell_of_row w p 2 _ _ _ (HPw.out w hk)]; rfl
      obtain ⟨ρ, hρ, hc, hf, hg⟩ := eval_is a
      rw [hρ] at h74 ⊢
      simp [go_sem, h74, hcell]
    refine steps_cons (fun a w hk hn => ?_) ?_
    · have h75 : a.eval (.tmp 75) = .int .i64 S.n := hn.1
      have h69 : a.eval (.tmp 69) = .bool false := hn.2.1
      clear hn
      refine wants_guard (d := 69) rfl rfl h69 ?_
      refine grown_run (v := .int .i64 xk) ?_ (Kp.refl _ _) rfl
      obtain ⟨ρ, hρ, hc, hf, hg⟩ := eval_is a
      rw [hρ] at h75 ⊢
      simp [go_sem, hc, h75, HW16.out]
    refine steps_cons (fun a w hk hn => ?_) ?_
    · have h71 : a.eval (.tmp 71) = .int .i64 xk := hn.1
      have h76 : a.eval (.tmp 76) = .int .i64 xk := hn.2.1
      have h69 : a.eval (.tmp 69) = .bool false := hn.2.2.1
      clear hn
      refine wants_guard (d := 69) rfl rfl h69 ?_
      refine grown_run (v := .bool false) ?_ (Kp.refl _ _) rfl
      obtain ⟨ρ, hρ, hc, hf, hg⟩ := eval_is a
      rw [hρ] at h71 h76 ⊢
      simp [go_sem, h71, h76]
    refine steps_cons (fun a w hk hn => ?_) ?_
    · have h69 : a.eval (.tmp 69) = .bool false := hn.1
      have h77 : a.eval (.tmp 77) = .bool false := hn.2.1
      clear hn
      refine wants_plain rfl ?_
      exact grown_pick _ _ _ false rfl h69 h77
    refine steps_cons (fun a w hk hn => ?_) ?_
    · have h78 : a.eval (.tmp 78) = .bool false := hn.1
      clear hn
      refine wants_plain rfl ?_
      exact grown_move (.tmp 78) rfl h78
    refine steps_cons (fun a w hk hn => ?_) ?_
    · have h0 : a.eval (.tmp 0) = .pointer (some ⟨l, 0, none⟩) := hn.1
      have h79 : a.eval (.tmp 79) = .bool false := hn.2.1
      clear hn
      refine wants_guard (d := 79) rfl rfl h79 ?_
      exact grown_move (.tmp 0) rfl h0
    refine steps_cons (fun a w hk hn => ?_) ?_
    · have h80 : a.eval (.tmp 80) = .pointer (some ⟨l, 0, none⟩) := hn.1
      have h79 : a.eval (.tmp 79) = .bool false := hn.2.1
      clear hn
      refine wants_guard (d := 79) rfl rfl h79 ?_
      refine grown_call (f := 39) rfl Tryz.func39 (by kernel_rfl) (by kernel_rfl) ?_
      simp only [List.map_toArray, List.map_cons, List.map_nil, h80]
      refine (upublic_any (HLw.out w hk) tp HTp.out (HGw.out w hk)).mono ?_
      rintro e w' ⟨ao, m, c, rfl, R, K⟩
      exact ⟨_, rfl, K, R⟩
    refine steps_cons (fun a w hk hn => ?_) ?_
    · have h81 : Sl w (a.eval (.tmp 81)) (tp) := hn.1
      have h79 : a.eval (.tmp 79) = .bool false := hn.2.1
      clear hn
      refine wants_guard (d := 79) rfl rfl h79 ?_
      exact grown_conv (.tmp 81) _ _ 5 _ rfl h81 Tryz.underlying22 Tryz.underlying5 Tryz.underlying9 (congrArg Value.string (unhide HTT).symm)
    refine steps_cons (fun a w hk hn => ?_) ?_
    · have h1 : a.eval (.tmp 1) = .pointer (some ⟨p, 0, none⟩) := hn.1
      have h79 : a.eval (.tmp 79) = .bool false := hn.2.1
      clear hn
      refine wants_guard (d := 79) rfl rfl h79 ?_
      exact grown_move (.tmp 1) rfl h1
    refine steps_cons (fun a w hk hn => ?_) ?_
    · have h83 : a.eval (.tmp 83) = .pointer (some ⟨p, 0, none⟩) := hn.1
      have h79 : a.eval (.tmp 79) = .bool false := hn.2.1
      clear hn
      refine wants_guard (d := 79) rfl rfl h79 ?_
      refine grown_run (v := .pointer (some ⟨p, 0, none⟩)) ?_ (Kp.refl _ _) rfl
      obtain ⟨ρ, hρ, hc, hf, hg⟩ := eval_is a
      rw [hρ] at h83 ⊢
      simp [go_sem, h83]
    refine steps_cons (fun a w hk hn => ?_) ?_
    · have h84 : a.eval (.tmp 84) = .pointer (some ⟨p, 0, none⟩) := hn.1
      have h79 : a.eval (.tmp 79) = .bool false := hn.2.1
      clear hn
      refine wants_guard (d := 79) rfl rfl h79 ?_
      refine grown_run (v := .pointer (some ⟨p, 1, none⟩)) ?_ (Kp.refl _ _) rfl
      obtain ⟨ρ, hρ, hc, hf, hg⟩ := eval_is a
      rw [hρ] at h84 ⊢
      simp [go_sem, h84]
    refine steps_cons (fun a w hk hn => ?_) ?_
    · have h85 : a.eval (.tmp 85) = .pointer (some ⟨p, 1, none⟩) := hn.1
      have h79 : a.eval (.tmp 79) = .bool false := hn.2.1
      clear hn
      refine wants_guard (d := 79) rfl rfl h79 ?_
      refine grown_run (v := .pointer (some ⟨og, 0, none⟩)) ?_ (Kp.refl _ _) rfl
      have hcell : w.cell? ⟨p, 1, none⟩ = some (.pointer (some ⟨og, 0, none⟩)) := by rw [cell_of_row w p 1 _ _ _ (HPw.out w hk)]; rfl
      obtain ⟨ρ, hρ, hc, hf, hg⟩ := eval_is a
      rw [hρ] at h85 ⊢
      simp [go_sem, h85, hcell]
    refine steps_cons (fun a w hk hn => ?_) ?_
    · have h86 : a.eval (.tmp 86) = .pointer (some ⟨og, 0, none⟩) := hn.1
      have h79 : a.eval (.tmp 79) = .bool false := hn.2.1
      clear hn
      refine wants_guard (d := 79) rfl rfl h79 ?_
      refine grown_call (f := 102) rfl Tryz.func102 (by kernel_rfl) (by kernel_rfl) ?_
      simp only [List.map_toArray, List.map_cons, List.map_nil, h86]
      refine (own_public og base S.seed tp HTp.out w (HOw.out w hk)).mono ?_
      rintro e w' ⟨ao, m, c, rfl, R, rfl⟩
      exact ⟨_, rfl, Kp.refl _ _, R⟩
    refine steps_cons (fun a w hk hn => ?_) ?_
    · have h87 : Sl w (a.eval (.tmp 87)) (tp) := hn.1
      have h79 : a.eval (.tmp 79) = .bool false := hn.2.1
      clear hn
      refine wants_guard (d := 79) rfl rfl h79 ?_
      exact grown_conv (.tmp 87) _ _ 5 _ rfl h87 Tryz.underlying22 Tryz.underlying5 Tryz.underlying9 (congrArg Value.string (unhide HTT).symm)
    refine steps_cons (fun a w hk hn => ?_) ?_
    · have h82 : a.eval (.tmp 82) = .string TT := hn.1
      have h88 : a.eval (.tmp 88) = .string TT := hn.2.1
      have h79 : a.eval (.tmp 79) = .bool false := hn.2.2.1
      clear hn
      refine wants_guard (d := 79) rfl rfl h79 ?_
      refine grown_run (v := .bool false) ?_ (Kp.refl _ _) rfl
      obtain ⟨ρ, hρ, hc, hf, hg⟩ := eval_is a
      rw [hρ] at h82 h88 ⊢
      simp [go_sem, h82, h88]
    refine steps_cons (fun a w hk hn => ?_) ?_
    · have h79 : a.eval (.tmp 79) = .bool false := hn.1
      have h89 : a.eval (.tmp 89) = .bool false := hn.2.1
      clear hn
      refine wants_plain rfl ?_
      exact grown_pick _ _ _ false rfl h79 h89
    exact trivial
  intro W1 hkW1
  rintro _ rfl
  rintro _ rfl
  rintro _ rfl
  rintro _ rfl
  rintro _ rfl
  rintro _ rfl
  rintro _ rfl
  rintro _ rfl
  rintro _ rfl
  rintro _ rfl
  intro v29 h29
  rintro _ rfl
  rintro _ rfl
  intro v32 h32
  rintro _ rfl
  rintro _ rfl
  rintro _ rfl
  rintro _ rfl
  rintro _ rfl
  rintro _ rfl
  rintro _ rfl
  rintro _ rfl
  rintro _ rfl
  rintro _ rfl
  rintro _ rfl
  rintro _ rfl
  rintro _ rfl
  rintro _ rfl
  rintro _ rfl
  rintro _ rfl
  rintro _ rfl
  rintro _ rfl
  rintro _ rfl
  rintro _ rfl
  rintro _ rfl
  rintro _ rfl
  rintro _ rfl
  rintro _ rfl
  rintro _ rfl
  rintro _ rfl
  rintro _ rfl
  rintro _ rfl
  rintro _ rfl
  rintro _ rfl
  rintro _ rfl
  rintro _ rfl
  rintro _ rfl
  rintro _ rfl
  rintro _ rfl
  rintro _ rfl
  rintro _ rfl
  rintro _ rfl
  rintro _ rfl
  rintro _ rfl
  rintro _ rfl
  rintro _ rfl
  rintro _ rfl
  rintro _ rfl
  rintro _ rfl
  rintro _ rfl
  rintro _ rfl
  rintro _ rfl
  intro v81 h81
  rintro _ rfl
  rintro _ rfl
  rintro _ rfl
  rintro _ rfl
  rintro _ rfl
  intro v87 h87
  rintro _ rfl
  rintro _ rfl
  rintro _ rfl
  refine fin_nil ?_
  simp only [Act.put, List.set_cons_zero, List.set_cons_succ, List.setIfInBounds_toArray]
  have HKW := hide ((kp_drew w2).trans hkW1)
  clear hkW1
  go_wp2_with fail
  have HKw := hide (HK2.out.trans HKW.out)
  have hmi256 : mi ≤ 256 := by rw [HMi.out]; exact HLg.out.few
  clear HG2 HL2 HD2 HLw HGw HG5 HPw HC0 HLc HOw HKW HXk HW16
  go_loopw [7] (fun i wr => ∃ q : Nat, q ≤ mi + 2 ∧ ∃ x : Int, x = (q : Int) - 1 ∧ i = .int .i64 x ∧ Hid (Kp [] w wr)) (fun i _ => mi + 2 - (intOf i + 1).toNat)
  case atStart => exact ⟨0, by omega, -1, by omega, rfl, HKw⟩
  case round =>
    obtain ⟨q, hq, x, hx, rfl, HKr⟩ := hrel
    have HX := hide hx
    have HQ := hide hq
    have HLr := hide (HLg.out.on HKr.out)
    have x0 : wr.cell? ⟨p, 0, none⟩ = some (.slice ai mi ci) := by rw [cell_of_row _ p 0 _ _ _ (HKr.out.heap HRg.out.hp (by simp))]; rfl
    have x0d : wr.drew.cell? ⟨p, 0, none⟩ = some (.slice ai mi ci) := x0
    by_cases hend : q = mi + 2
    · have hdx : decide (x ≤ (mi : Int)) = false := decide_eq_false (by omega)
      have HNx := HNo.out
      have hcv := lit_cv wr noSuch 16 rfl
      have ka : Kp [] wr (wr.alloc (.cells (noSuch.map (Value.int .u8)).toArray 5 (16, 17))) := (Kp.refl [] wr).alloc _
      have HFi := hide (ufind_any (HLr.out.on ka) _ noSuch (lit_sl wr noSuch 16 (16, 17) rfl (by omega)) (fun b hb => by simp [noSuch] at hb; omega) (by simp [noSuch]) false (by simp [HNx]) 0 rfl)
      have HKa := hide (HKr.out.trans ka)
      simp only [noSuch, List.map_cons, List.map_nil] at hcv HFi
      clear HNx ka hx hq hend
      go_wp2_with fail
      refine HFi.out.mono ?_
      rintro ee w8 ⟨rfl, K8⟩
      have HK8 := hide K8
      clear HFi K8
      go_wp2_with fail
      go_ret
      exact ⟨rfl, HKr.out.trans ((by exact (Kp.refl [] wr).alloc _ : Kp [] wr (wr.alloc (.cells (noSuch.map (Value.int .u8)).toArray 5 (16, 17)))).trans HK8.out)⟩
    · have hdx : decide (x ≤ (mi : Int)) = true := decide_eq_true (by omega)
      have hwx : IntKind.i64.wrap (x + 1) = x + 1 := by simp [IntKind.wrap, IntKind.signed, IntKind.bits]; omega
      by_cases hin : 1 ≤ q ∧ q ≤ mi
      · obtain ⟨k, hk⟩ : ∃ k : Nat, x = (k : Int) := ⟨q - 1, by omega⟩
        subst hk
        have hkm : k < mi := by omega
        have hki : k < S.its.length := by rw [← HMi.out]; exact hkm
        obtain ⟨X, hX⟩ : ∃ X, X = S.its[k] := ⟨_, rfl⟩
        have HEn := hide (uentry_ok HLr.out k hki X hX)
        obtain ⟨nX, hnX⟩ : ∃ n, n = X.length := ⟨_, rfl⟩
        rw [← hnX] at HEn
        have hAr := HRg.out.al.on HKr.out
        have hlk : k < lA.length := by have h1 := congrArg List.length HRg.out.it; rw [List.length_map] at h1; omega
        have hek : lA[k].2 = X := by
          have e : (lA.map (·.2))[k]? = some S.its[k] := by rw [HRg.out.it]; exact List.getElem?_eq_getElem hki
          rw [List.getElem?_map, List.getElem?_eq_getElem hlk] at e
          rw [hX]
          exact Option.some.inj e
        obtain ⟨gA, hgA, hcA⟩ := hAr.row.1.1.at k (by rw [List.length_map]; exact hlk)
        rw [List.getElem_map] at hcA
        have hSy := (hAr.row.1.2 _ (List.getElem_mem hlk)).1
        rw [hek] at hSy
        obtain ⟨ay, cy, ey, -⟩ := id hSy
        rw [← hnX] at ey
        rw [ey] at hcA hSy
        subst hgA
        have HCA := hide hcA
        have HSy := hide hSy
        have HXm : Hid (X ∈ S.its) := hide (by rw [hX]; exact List.getElem_mem hki)
        have HXi : Hid (S.its.idxOf X = k) := hide (by rw [hX]; exact idxOf_at HLr.out.nd k hki)
        have HXs := hide (show q + 1 ≤ mi + 2 ∧ ((k : Int) + 1) = ((q + 1 : Nat) : Int) - 1 by omega)
        have hd0 : decide (0 ≤ (k : Int)) = true := decide_eq_true (by omega)
        have hkm' : (k : Int) < (mi : Int) := by omega
        have hd1 : decide ((k : Int) < (mi : Int)) = true := decide_eq_true hkm'
        clear hx hq hend hin hki hX hnX hAr hlk hek hcA hSy ey
        go_wp2_with fail
        refine HEn.out.mono ?_
        rintro ee w11 ⟨c11, rfl, S11, K11, -⟩
        have HK11 := hide (K11.trans (kp_drew w11))
        have d0 : w11.drew.cell? ⟨p, 0, none⟩ = some (.slice (some ⟨gA, 0, none⟩) mi ci) := HK11.out.cell x0 (by simp)
        have d2 := HK11.out.cell HCA.out (by simp)
        have v1 := (S11.kept (kp_drew w11) (by simp)).conv (P := Tryz.prog) 22 9 5 Tryz.underlying22 Tryz.underlying5 Tryz.underlying9
        have v2 := (HSy.out.kept HK11.out (by simp)).conv (P := Tryz.prog) 22 9 5 Tryz.underlying22 Tryz.underlying5 Tryz.underlying9
        obtain ⟨SX, hSX⟩ : ∃ S, S = strOfNums X := ⟨_, rfl⟩
        rw [← hSX] at v1 v2
        have HFi := hide (ufind_any (HLr.out.on HK11.out) _ X (HSy.out.kept HK11.out (by simp)) (HLg.out.bs X HXm.out).1 (HLg.out.bs X HXm.out).2 true (by simp [HXm.out]) (k : Int) (by rw [HXi.out]; rfl))
        clear HEn S11 K11 hSX x0d
        go_wp2_with fail
        refine region_read Tryz.mixed (by kernel_rfl) ?_
        repeat (first | go_big_quiet_skip | (go_big_quiet_want; go_big_quiet_op; go_big_quiet_on))
        refine wpQuiet_nil ?_
        go_wp2_with fail
        refine HFi.out.mono ?_
        rintro ee w12 ⟨rfl, K12⟩
        have HK12 := hide (HKr.out.trans (HK11.out.trans K12))
        clear HFi K12 d0 d2 v1 v2
        go_wp2_with fail
        go_roundw
        case rel => exact ⟨q + 1, HXs.out.1, (k : Int) + 1, HXs.out.2, by first | rfl | go_num, HK12⟩
        case measure => have := HXs.out; have := HX.out; simp [intOf]; omega
      · have HEn := hide (uentry_no HLr.out x (by rw [← HMi.out]; omega))
        by_cases hneg : x < 0
        · have hd0 : decide (0 ≤ x) = false := decide_eq_false (by omega)
          have HXs := hide (show q + 1 ≤ mi + 2 ∧ x + 1 = ((q + 1 : Nat) : Int) - 1 by omega)
          clear hx hq hend hin hneg
          go_wp2_with fail
          refine HEn.out.mono ?_
          rintro ee wz ⟨rfl, hwz⟩
          subst wz
          go_wp2_with fail
          refine region_read Tryz.mixed (by kernel_rfl) ?_
          repeat (first | go_big_quiet_skip | (go_big_quiet_want; go_big_quiet_op; go_big_quiet_on))
          refine wpQuiet_nil ?_
          go_wp2_with fail
          go_roundw
          case rel => exact ⟨q + 1, HXs.out.1, x + 1, HXs.out.2, rfl, hide (HKr.out.trans (kp_drew wr))⟩
          case measure => have := HXs.out; have := HX.out; simp [intOf]; omega
        · have hd0 : decide (0 ≤ x) = true := decide_eq_true (by omega)
          have hd1 : decide (x < (mi : Int)) = false := decide_eq_false (by omega)
          have HXs := hide (show q + 1 ≤ mi + 2 ∧ x + 1 = ((q + 1 : Nat) : Int) - 1 by omega)
          clear hx hq hend hin hneg
          go_wp2_with fail
          refine HEn.out.mono ?_
          rintro ee wz ⟨rfl, hwz⟩
          subst wz
          go_wp2_with fail
          refine region_read Tryz.mixed (by kernel_rfl) ?_
          repeat (first | go_big_quiet_skip | (go_big_quiet_want; go_big_quiet_op; go_big_quiet_on))
          refine wpQuiet_nil ?_
          go_wp2_with fail
          go_roundw
          case rel => exact ⟨q + 1, HXs.out.1, x + 1, HXs.out.2, rfl, hide (HKr.out.trans (kp_drew wr))⟩
          case measure => have := HXs.out; have := HX.out; simp [intOf]; omega
set_option maxRecDepth 100000 in
set_option maxHeartbeats 8000000 in
theorem rtellsS (w0 w : World) (l pd pk p : Nat) (S : LS) (f : Fps) (vi : Value) (a1 a2 : Nat) (hL : Lg w0 w l pd pk S f) (hla : S.la = some (a1, a2)) (hR : Rf w0 w f.tot p vi S.seed S.its S.n S.la) (hG : Gl w) (hno : noSuch ∉ S.its) :
    Calls Tryz.prog 59 #[.pointer (some ⟨l, 0, none⟩), .pointer (some ⟨p, 0, none⟩)] w fun e w' => e = .returned (.bool true) ∧ Kp [] w w' := by
  obtain ⟨og, base, sz, ix, ar, mr, cr, ap, np, cp, aq, nq, cq, lA, R⟩ := hR
  obtain ⟨ai, ci, hvi⟩ := R.al.row.1.1.shape
  obtain ⟨mi, hmi⟩ : ∃ m, m = (lA.map (·.1)).length := ⟨_, rfl⟩
  rw [← hmi] at hvi
  subst hvi
  have hmi2 : mi = S.its.length := by rw [hmi, ← R.it, List.length_map, List.length_map]
  have HMi := hide hmi2
  have HLg := hide hL
  have HRg := hide R
  have HG := hide hG
  have HNo := hide hno
  have HLa := hide hla
  have HLs := hide (ulast_some hL a1 a2 hla)
  obtain ⟨r, hr⟩ : ∃ r, r = rtU S.its := ⟨_, rfl⟩
  obtain ⟨SS, hSS⟩ : ∃ S, S = strOfNums r := ⟨_, rfl⟩
  have HR : Hid (r = rtU S.its) := hide hr
  have HSS := hide hSS
  clear hL R hmi hmi2 hG hno hla hr hSS
  go_enter Tryz.func59, Tryz.ntmps59
  go_wp2_with fail
  refine HLs.out.mono ?_
  rintro ee w1 ⟨v1, rfl, A1, K1⟩
  obtain ⟨br, kr, dr, bp, kp, dp, bq, kq, dq, rfl, -, -⟩ := A1.v.shape
  have HA1 := hide A1
  clear A1
  have HK1 := hide K1
  have HGz : Hid ((w1.alloc (.cells #[.int .i64 0, .slice none 0 0, .int .i64 0, .slice none 0 0, .slice none 0 0] 72)).heap[w1.heap.size]? = some (.cells #[.int .i64 0, .slice none 0 0, .int .i64 0, .slice none 0 0, .slice none 0 0] 72 (0, 0))) := hide (heap_alloc_new w1 _)
  clear HLs K1
  go_wp2_with (refine wpList_store_flat rfl 72 (.tmp 5) (.tmp 17) rfl w1.heap.size 0 rfl #[.int .i64 0, .slice none 0 0, .int .i64 0, .slice none 0 0, .slice none 0 0] 72 [.int .i64 (sgU S.seed S.its (a1, a2)).n, .slice br kr dr, .int .i64 (sgU S.seed S.its (a1, a2)).i, .slice bp kp dp, .slice bq kq dq] HGz.out rfl (by simp) Tryz.sgdSize (by simp [Value.oneCell']) #[.int .i64 (sgU S.seed S.its (a1, a2)).n, .slice br kr dr, .int .i64 (sgU S.seed S.its (a1, a2)).i, .slice bp kp dp, .slice bq kq dq] rfl ?_; intro w2 G2 K2a; refine Hid.out ?_)
  have HK2 : Hid (Kp [] w w2) := hide (HK1.out.trans (((Kp.refl [] w1).alloc _).then K2a (fun i hi => .inr (by simp at hi; omega))))
  obtain ⟨g5, hg5⟩ : ∃ g, g = w1.heap.size := ⟨_, rfl⟩
  rw [← hg5] at G2 ⊢
  have HG2 := hide G2
  have HL2 := hide (HLg.out.on HK2.out)
  have HD2 : Hid (∀ w', Kp [] w2.drew w' → Kp [] w2 w') := hide (fun w' k => (kp_drew w2).trans k)
  have HLw : Hid (∀ w', Kp [] w2.drew w' → Lg w0 w' l pd pk S f) := hide (fun w' k => HL2.out.on (HD2.out w' k))
  have HGw : Hid (∀ w', Kp [] w2.drew w' → Gl w') := hide (fun w' k => HG.out.kept (HK2.out.trans (HD2.out w' k)) (by simp))
  have HG5 : Hid (∀ w', Kp [] w2.drew w' → w'.heap[g5]? = some (.cells #[.int .i64 (sgU S.seed S.its (a1, a2)).n, .slice br kr dr, .int .i64 (sgU S.seed S.its (a1, a2)).i, .slice bp kp dp, .slice bq kq dq] 72 (0, 0))) := hide (fun w' k => (HD2.out w' k).heap HG2.out (by simp))
  have HPw : Hid (∀ w', Kp [] w2.drew w' → w'.heap[p]? = some (.cells #[.slice ai mi ci, .pointer (some ⟨og, 0, none⟩), .int .i64 S.n, .int .i64 sz, .slice ar mr cr, .int .i64 ix, .slice ap np cp, .slice aq nq cq, .bool true] 74 (0, 0))) := hide (fun w' k => by
    have := (HK2.out.trans (HD2.out w' k)).heap HRg.out.hp (by simp)
    rw [HLa.out] at this
    exact this)
  have HC0 : Hid (∀ w', Kp [] w2.drew w' → w'.cell? ⟨p, 0, none⟩ = some (.slice ai mi ci)) := hide (fun w' k => by rw [cell_of_row w' p 0 _ _ _ (HPw.out w' k)]; rfl)
  have HLc : Hid (∀ w', Kp [] w2.drew w' → LcM S.its (.slice ai mi ci) w') := hide (fun w' k => by
    have A := HRg.out.al.on (HK2.out.trans (HD2.out w' k))
    have hf := HLg.out.few
    exact ⟨lA, lc_of_owns A.row.1.1 (A.row.lists (by rw [← List.length_map (f := (·.2)), HRg.out.it]; omega)), HRg.out.it⟩)
  have HLn : Hid (S.its.length ≤ 1000) := hide (by have := HLg.out.few; omega)
  have HLm : Hid (∀ x ∈ S.its, x.length ≤ 65535) := hide (fun x hx => (HLg.out.bs x hx).2)
  have HSz : Hid ((mi : Int) = S.its.length) := hide (by rw [HMi.out])
  have HOw : Hid (∀ w', Kp [] w2.drew w' → Ow w' base og S.seed 5) := hide (fun w' k => (HRg.out.ow.step (Stp.mid (HK2.out.trans (HD2.out w' k)))).ow)
  obtain ⟨xk, hxk⟩ : ∃ x, x = 16 - (S.n : Int) := ⟨_, rfl⟩
  have HXk := hide hxk
  have HW16 : Hid (IntKind.i64.wrap (16 - (S.n : Int)) = xk) := hide (by have := HLg.out.nk; rw [hxk]; simp [IntKind.wrap, IntKind.signed, IntKind.bits]; omega)
  obtain ⟨tp, htp⟩ : ∃ t, t = topP S.seed := ⟨_, rfl⟩
  obtain ⟨TT, hTT⟩ : ∃ S, S = strOfNums tp := ⟨_, rfl⟩
  have HTp := hide htp
  have HTT := hide hTT
  have K12 : Kp [] w1 w2 := ((Kp.refl [] w1).alloc _).then K2a (fun i hi => .inr (by simp at hi; omega))
  have HS5 : Hid (∀ w', Kp [] w2.drew w' → SgV w' (.agg #[.int .i64 (sgU S.seed S.its (a1, a2)).n, .slice br kr dr, .int .i64 (sgU S.seed S.its (a1, a2)).i, .slice bp kp dp, .slice bq kq dq]) (sgU S.seed S.its (a1, a2))) := hide (fun w' k => (HA1.out.v.kept K12).kept (HD2.out w' k))
  have HS6 : Hid (∀ w', Kp [] w2.drew w' → SgV w' (.agg #[.int .i64 sz, .slice ar mr cr, .int .i64 ix, .slice ap np cp, .slice aq nq cq]) (sgU S.seed S.its (a1, a2))) := hide (fun w' k => ((HRg.out.la (a1, a2) HLa.out).2.on (HK2.out.trans (HD2.out w' k))).get)
  have HCa : Hid (∀ w', Kp [] w2.drew w' → CkV w' (.agg #[.int .i64 (sgU S.seed S.its (a1, a2)).n, .slice br kr dr]) (sgU S.seed S.its (a1, a2)).n (sgU S.seed S.its (a1, a2)).r) := hide (fun w' k => (sgv_parts (HS5.out w' k)).1)
  have HCb : Hid (∀ w', Kp [] w2.drew w' → CkV w' (.agg #[.int .i64 sz, .slice ar mr cr]) (sgU S.seed S.its (a1, a2)).n (sgU S.seed S.its (a1, a2)).r) := hide (fun w' k => (sgv_parts (HS6.out w' k)).1)
  have HVa : Hid (∀ w', Kp [] w2.drew w' → SigV w' (.agg #[.int .i64 (sgU S.seed S.its (a1, a2)).i, .slice bp kp dp, .slice bq kq dq]) (sgU S.seed S.its (a1, a2)).i (sgU S.seed S.its (a1, a2)).ps (sgU S.seed S.its (a1, a2)).qs) := hide (fun w' k => (sgv_parts (HS5.out w' k)).2)
  have HVb : Hid (∀ w', Kp [] w2.drew w' → SigV w' (.agg #[.int .i64 ix, .slice ap np cp, .slice aq nq cq]) (sgU S.seed S.its (a1, a2)).i (sgU S.seed S.its (a1, a2)).ps (sgU S.seed S.its (a1, a2)).qs) := hide (fun w' k => (sgv_parts (HS6.out w' k)).2)
  clear K12
  clear HGz G2 K2a HK1 hg5 hxk htp hTT
  refine hide ?_
  go_wp2_with fail
  refine region_grow Tryz.mixed [Is (.pointer (some ⟨l, 0, none⟩)), Is (.int .i64 mi), Is (.pointer (some ⟨p, 0, none⟩)), Is (.pointer (some ⟨p, 0, none⟩)), Is (.pointer (some ⟨p, 0, none⟩)), Is (.slice ai mi ci), Is (.int .i64 mi), Is (.bool false), Is (.bool false), Is (.pointer (some ⟨l, 0, none⟩)), SlT (r), Is (.string SS), Is (.pointer (some ⟨p, 0, none⟩)), SlT (r), Is (.string SS), Is (.bool false), Is (.bool false), Is (.bool false), Is (.bool true), Is (.pointer (some ⟨p, 0, none⟩)), Is (.pointer (some ⟨p, 0, none⟩)), Is (.pointer (some ⟨p, 8, none⟩)), Is (.bool true), Is (.bool false), Is (.bool false), Is (.bool false), Is (.bool true), Is (.bool true), Is (.pointer (some ⟨g5, 0, none⟩)), Is (.agg #[.int .i64 (sgU S.seed S.its (a1, a2)).n, .slice br kr dr]), Is (.pointer (some ⟨p, 0, none⟩)), Is (.pointer (some ⟨p, 0, none⟩)), Is (.pointer (some ⟨p, 3, none⟩)), Is (.pointer (some ⟨p, 3, none⟩)), Is (.agg #[.int .i64 sz, .slice ar mr cr]), Is (.bool true), Is (.bool false), Is (.bool false), Is (.pointer (some ⟨g5, 2, none⟩)), Is (.agg #[.int .i64 (sgU S.seed S.its (a1, a2)).i, .slice bp kp dp, .slice bq kq dq]), Is (.pointer (some ⟨p, 0, none⟩)), Is (.pointer (some ⟨p, 0, none⟩)), Is (.pointer (some ⟨p, 3, none⟩)), Is (.pointer (some ⟨p, 5, none⟩)), Is (.agg #[.int .i64 ix, .slice ap np cp, .slice aq nq cq]), Is (.bool true), Is (.bool false), Is (.bool false), Is (.bool false), Is (.bool false), Is (.bool false), Is (.pointer (some ⟨l, 0, none⟩)), Is (.int .i64 xk), Is (.pointer (some ⟨p, 0, none⟩)), Is (.pointer (some ⟨p, 0, none⟩)), Is (.pointer (some ⟨p, 2, none⟩)), Is (.int .i64 S.n), Is (.int .i64 xk), Is (.bool false), Is (.bool false), Is (.bool false), Is (.pointer (some ⟨l, 0, none⟩)), SlT (tp), Is (.string TT), Is (.pointer (some ⟨p, 0, none⟩)), Is (.pointer (some ⟨p, 0, none⟩)), Is (.pointer (some ⟨p, 1, none⟩)), Is (.pointer (some ⟨og, 0, none⟩)), SlT (tp), Is (.string TT), Is (.bool false), Is (.bool false)] [[(0, none)], [(19, some 0)], [(1, none)], [(21, some 2)], [(22, some 3)], [(23, some 4)], [(24, some 5)], [(20, some 1), (25, some 6)], [(26, some 7)], [(0, none), (27, some 8)], [(28, some 9), (27, some 8)], [(29, some 10), (27, some 8)], [(1, none), (27, some 8)], [(31, some 12), (27, some 8)], [(32, some 13), (27, some 8)], [(30, some 11), (33, some 14), (27, some 8)], [(27, some 8), (34, some 15)], [(35, some 16)], [(6, none), (36, some 17)], [(1, none), (36, some 17)], [(38, some 19), (36, some 17)], [(39, some 20), (36, some 17)], [(40, some 21), (36, some 17)], [(37, some 18), (41, some 22), (36, some 17)], [(36, some 17), (42, some 23)], [(43, some 24)], [(6, none), (44, some 25)], [(45, some 26), (44, some 25)], [(5, none), (46, some 27)], [(47, some 28), (46, some 27)], [(1, none), (46, some 27)], [(49, some 30), (46, some 27)], [(50, some 31), (46, some 27)], [(51, some 32), (46, some 27)], [(52, some 33), (46, some 27)], [(48, some 29), (53, some 34), (46, some 27)], [(54, some 35), (46, some 27)], [(55, some 36), (46, some 27)], [(5, none), (56, some 37)], [(57, some 38), (56, some 37)], [(1, none), (56, some 37)], [(59, some 40), (56, some 37)], [(60, some 41), (56, some 37)], [(61, some 42), (56, some 37)], [(62, some 43), (56, some 37)], [(58, some 39), (63, some 44), (56, some 37)], [(64, some 45), (56, some 37)], [(56, some 37), (65, some 46), (46, some 27)], [(46, some 27), (66, some 47), (44, some 25)], [(44, some 25), (67, some 48)], [(68, some 49)], [(0, none), (69, some 50)], [(70, some 51), (69, some 50)], [(1, none), (69, some 50)], [(72, some 53), (69, some 50)], [(73, some 54), (69, some 50)], [(74, some 55), (69, some 50)], [(75, some 56), (69, some 50)], [(71, some 52), (76, some 57), (69, some 50)], [(69, some 50), (77, some 58)], [(78, some 59)], [(0, none), (79, some 60)], [(80, some 61), (79, some 60)], [(81, some 62), (79, some 60)], [(1, none), (79, some 60)], [(83, some 64), (79, some 60)], [(84, some 65), (79, some 60)], [(85, some 66), (79, some 60)], [(86, some 67), (79, some 60)], [(87, some 68), (79, some 60)], [(82, some 63), (88, some 69), (79, some 60)], [(79, some 60), (89, some 70)]] (by kernel_rfl) ?_ ?_ ?_
  · simp only [List.mem_cons, List.not_mem_nil, or_false]
    intro R hR
    rcases hR with rfl | rfl | rfl | rfl | rfl | rfl | rfl | rfl | rfl | rfl | rfl | rfl | rfl | rfl | rfl | rfl | rfl | rfl | rfl | rfl | rfl | rfl | rfl | rfl | rfl | rfl | rfl | rfl | rfl | rfl | rfl | rfl | rfl | rfl | rfl | rfl | rfl | rfl | rfl | rfl | rfl | rfl | rfl | rfl | rfl | rfl | rfl | rfl | rfl | rfl | rfl | rfl | rfl | rfl | rfl | rfl | rfl | rfl | rfl | rfl | rfl | rfl | rfl | rfl | rfl | rfl | rfl | rfl | rfl | rfl | rfl | rfl <;> first | exact stable_is _ | exact stable_sl _
  · refine steps_cons (fun a w hk hn => ?_) ?_
    · have h0 : a.eval (.tmp 0) = .pointer (some ⟨l, 0, none⟩) := hn.1
      clear hn
      refine wants_plain rfl ?_
      exact grown_move (.tmp 0) rfl h0
    refine steps_cons (fun a w hk hn => ?_) ?_
    · have h19 : a.eval (.tmp 19) = .pointer (some ⟨l, 0, none⟩) := hn.1
      clear hn
      refine wants_plain rfl ?_
      refine grown_call (f := 16) rfl Tryz.func16 (by kernel_rfl) (by kernel_rfl) ?_
      simp only [List.map_toArray, List.map_cons, List.map_nil, h19]
      refine (usize_any (HLw.out w hk) (mi : Int) HSz.out).mono ?_
      rintro e w' ⟨rfl, rfl⟩
      exact ⟨_, rfl, Kp.refl _ _, rfl⟩
    refine steps_cons (fun a w hk hn => ?_) ?_
    · have h1 : a.eval (.tmp 1) = .pointer (some ⟨p, 0, none⟩) := hn.1
      clear hn
      refine wants_plain rfl ?_
      exact grown_move (.tmp 1) rfl h1
    refine steps_cons (fun a w hk hn => ?_) ?_
    · have h21 : a.eval (.tmp 21) = .pointer (some ⟨p, 0, none⟩) := hn.1
      clear hn
      refine wants_plain rfl ?_
      refine grown_run (v := .pointer (some ⟨p, 0, none⟩)) ?_ (Kp.refl _ _) rfl
      obtain ⟨ρ, hρ, hc, hf, hg⟩ := eval_is a
      rw [hρ] at h21 ⊢
      simp [go_sem, h21]
    refine steps_cons (fun a w hk hn => ?_) ?_
    · have h22 : a.eval (.tmp 22) = .pointer (some ⟨p, 0, none⟩) := hn.1
      clear hn
      refine wants_plain rfl ?_
      refine grown_run (v := .pointer (some ⟨p, 0, none⟩)) ?_ (Kp.refl _ _) rfl
      obtain ⟨ρ, hρ, hc, hf, hg⟩ := eval_is a
      rw [hρ] at h22 ⊢
      simp [go_sem, h22]
    refine steps_cons (fun a w hk hn => ?_) ?_
    · have h23 : a.eval (.tmp 23) = .pointer (some ⟨p, 0, none⟩) := hn.1
      clear hn
      refine wants_plain rfl ?_
      refine grown_run (v := .slice ai mi ci) ?_ (Kp.refl _ _) rfl
      have hcell : w.cell? ⟨p, 0, none⟩ = some (.slice ai mi ci) := by rw [cell_of_row w p 0 _ _ _ (HPw.out w hk)]; rfl
      obtain ⟨ρ, hρ, hc, hf, hg⟩ := eval_is a
      rw [hρ] at h23 ⊢
      simp [go_sem, h23, hcell]
    refine steps_cons (fun a w hk hn => ?_) ?_
    · have h24 : a.eval (.tmp 24) = .slice ai mi ci := hn.1
      clear hn
      refine wants_plain rfl ?_
      refine grown_run (v := .int .i64 mi) ?_ (Kp.refl _ _) rfl
      obtain ⟨ρ, hρ, hc, hf, hg⟩ := eval_is a
      rw [hρ] at h24 ⊢
      simp [go_sem, h24]
    refine steps_cons (fun a w hk hn => ?_) ?_
    · have h20 : a.eval (.tmp 20) = .int .i64 mi := hn.1
      have h25 : a.eval (.tmp 25) = .int .i64 mi := hn.2.1
      clear hn
      refine wants_plain rfl ?_
      refine grown_run (v := .bool false) ?_ (Kp.refl _ _) rfl
      obtain ⟨ρ, hρ, hc, hf, hg⟩ := eval_is a
      rw [hρ] at h20 h25 ⊢
      simp [go_sem, h20, h25]
    refine steps_cons (fun a w hk hn => ?_) ?_
    · have h26 : a.eval (.tmp 26) = .bool false := hn.1
      clear hn
      refine wants_plain rfl ?_
      exact grown_move (.tmp 26) rfl h26
    refine steps_cons (fun a w hk hn => ?_) ?_
    · have h0 : a.eval (.tmp 0) = .pointer (some ⟨l, 0, none⟩) := hn.1
      have h27 : a.eval (.tmp 27) = .bool false := hn.2.1
      clear hn
      refine wants_guard (d := 27) rfl rfl h27 ?_
      exact grown_move (.tmp 0) rfl h0
    refine steps_cons (fun a w hk hn => ?_) ?_
    · have h28 : a.eval (.tmp 28) = .pointer (some ⟨l, 0, none⟩) := hn.1
      have h27 : a.eval (.tmp 27) = .bool false := hn.2.1
      clear hn
      refine wants_guard (d := 27) rfl rfl h27 ?_
      refine grown_call (f := 23) rfl Tryz.func23 (by kernel_rfl) (by kernel_rfl) ?_
      simp only [List.map_toArray, List.map_cons, List.map_nil, h28]
      refine (uroot_any (HLw.out w hk) r HR.out (HGw.out w hk)).mono ?_
      rintro e w' ⟨ao, m, c, rfl, R, K⟩
      exact ⟨_, rfl, K, R.sl⟩
    refine steps_cons (fun a w hk hn => ?_) ?_
    · have h29 : Sl w (a.eval (.tmp 29)) (r) := hn.1
      have h27 : a.eval (.tmp 27) = .bool false := hn.2.1
      clear hn
      refine wants_guard (d := 27) rfl rfl h27 ?_
      exact grown_conv (.tmp 29) _ _ 5 _ rfl h29 Tryz.underlying22 Tryz.underlying5 Tryz.underlying9 (congrArg Value.string (unhide HSS).symm)
    refine steps_cons (fun a w hk hn => ?_) ?_
    · have h1 : a.eval (.tmp 1) = .pointer (some ⟨p, 0, none⟩) := hn.1
      have h27 : a.eval (.tmp 27) = .bool false := hn.2.1
      clear hn
      refine wants_guard (d := 27) rfl rfl h27 ?_
      exact grown_move (.tmp 1) rfl h1
    refine steps_cons (fun a w hk hn => ?_) ?_
    · have h31 : a.eval (.tmp 31) = .pointer (some ⟨p, 0, none⟩) := hn.1
      have h27 : a.eval (.tmp 27) = .bool false := hn.2.1
      clear hn
      refine wants_guard (d := 27) rfl rfl h27 ?_
      refine grown_call (f := 100) rfl Tryz.func100 (by kernel_rfl) (by kernel_rfl) ?_
      simp only [List.map_toArray, List.map_cons, List.map_nil, h31]
      refine (r15root_any p _ S.its r w HR.out (HC0.out w hk) (HLc.out w hk) HLn.out HLm.out).mono ?_
      rintro e w' ⟨ao, m, c, rfl, R, -, K⟩
      exact ⟨_, rfl, K, R⟩
    refine steps_cons (fun a w hk hn => ?_) ?_
    · have h32 : Sl w (a.eval (.tmp 32)) (r) := hn.1
      have h27 : a.eval (.tmp 27) = .bool false := hn.2.1
      clear hn
      refine wants_guard (d := 27) rfl rfl h27 ?_
      exact grown_conv (.tmp 32) _ _ 5 _ rfl h32 Tryz.underlying22 Tryz.underlying5 Tryz.underlying9 (congrArg Value.string (unhide HSS).symm)
    refine steps_cons (fun a w hk hn => ?_) ?_
    · have h30 : a.eval (.tmp 30) = .string SS := hn.1
      have h33 : a.eval (.tmp 33) = .string SS := hn.2.1
      have h27 : a.eval (.tmp 27) = .bool false := hn.2.2.1
      clear hn
      refine wants_guard (d := 27) rfl rfl h27 ?_
      refine grown_run (v := .bool false) ?_ (Kp.refl _ _) rfl
      obtain ⟨ρ, hρ, hc, hf, hg⟩ := eval_is a
      rw [hρ] at h30 h33 ⊢
      simp [go_sem, h30, h33]
    refine steps_cons (fun a w hk hn => ?_) ?_
    · have h27 : a.eval (.tmp 27) = .bool false := hn.1
      have h34 : a.eval (.tmp 34) = .bool false := hn.2.1
      clear hn
      refine wants_plain rfl ?_
      exact grown_pick _ _ _ false rfl h27 h34
    refine steps_cons (fun a w hk hn => ?_) ?_
    · have h35 : a.eval (.tmp 35) = .bool false := hn.1
      clear hn
      refine wants_plain rfl ?_
      exact grown_move (.tmp 35) rfl h35
    refine steps_cons (fun a w hk hn => ?_) ?_
    · have h6 : a.eval (.tmp 6) = .bool true := hn.1
      have h36 : a.eval (.tmp 36) = .bool false := hn.2.1
      clear hn
      refine wants_guard (d := 36) rfl rfl h36 ?_
      exact grown_move (.tmp 6) rfl h6
    refine steps_cons (fun a w hk hn => ?_) ?_
    · have h1 : a.eval (.tmp 1) = .pointer (some ⟨p, 0, none⟩) := hn.1
      have h36 : a.eval (.tmp 36) = .bool false := hn.2.1
      clear hn
      refine wants_guard (d := 36) rfl rfl h36 ?_
      exact grown_move (.tmp 1) rfl h1
    refine steps_cons (fun a w hk hn => ?_) ?_
    · have h38 : a.eval (.tmp 38) = .pointer (some ⟨p, 0, none⟩) := hn.1
      have h36 : a.eval (.tmp 36) = .bool false := hn.2.1
      clear hn
      refine wants_guard (d := 36) rfl rfl h36 ?_
      refine grown_run (v := .pointer (some ⟨p, 0, none⟩)) ?_ (Kp.refl _ _) rfl
      obtain ⟨ρ, hρ, hc, hf, hg⟩ := eval_is a
      rw [hρ] at h38 ⊢
      simp [go_sem, h38]
    refine steps_cons (fun a w hk hn => ?_) ?_
    · have h39 : a.eval (.tmp 39) = .pointer (some ⟨p, 0, none⟩) := hn.1
      have h36 : a.eval (.tmp 36) = .bool false := hn.2.1
      clear hn
      refine wants_guard (d := 36) rfl rfl h36 ?_
      refine grown_run (v := .pointer (some ⟨p, 8, none⟩)) ?_ (Kp.refl _ _) rfl
      obtain ⟨ρ, hρ, hc, hf, hg⟩ := eval_is a
      rw [hρ] at h39 ⊢
      simp [go_sem, h39]
    refine steps_cons (fun a w hk hn => ?_) ?_
    · have h40 : a.eval (.tmp 40) = .pointer (some ⟨p, 8, none⟩) := hn.1
      have h36 : a.eval (.tmp 36) = .bool false := hn.2.1
      clear hn
      refine wants_guard (d := 36) rfl rfl h36 ?_
      refine grown_run (v := .bool true) ?_ (Kp.refl _ _) rfl
      have hcell : w.cell? ⟨p, 8, none⟩ = some (.bool true) := by rw [cell_of_row w p 8 _ _ _ (HPw.out w hk)]; rfl
      obtain ⟨ρ, hρ, hc, hf, hg⟩ := eval_is a
      rw [hρ] at h40 ⊢
      simp [go_sem, h40, hcell]
    refine steps_cons (fun a w hk hn => ?_) ?_
    · have h37 : a.eval (.tmp 37) = .bool true := hn.1
      have h41 : a.eval (.tmp 41) = .bool true := hn.2.1
      have h36 : a.eval (.tmp 36) = .bool false := hn.2.2.1
      clear hn
      refine wants_guard (d := 36) rfl rfl h36 ?_
      refine grown_run (v := .bool false) ?_ (Kp.refl _ _) rfl
      obtain ⟨ρ, hρ, hc, hf, hg⟩ := eval_is a
      rw [hρ] at h37 h41 ⊢
      simp [go_sem, h37, h41]
    refine steps_cons (fun a w hk hn => ?_) ?_
    · have h36 : a.eval (.tmp 36) = .bool false := hn.1
      have h42 : a.eval (.tmp 42) = .bool false := hn.2.1
      clear hn
      refine wants_plain rfl ?_
      exact grown_pick _ _ _ false rfl h36 h42
    refine steps_cons (fun a w hk hn => ?_) ?_
    · have h43 : a.eval (.tmp 43) = .bool false := hn.1
      clear hn
      refine wants_plain rfl ?_
      exact grown_move (.tmp 43) rfl h43
    refine steps_cons (fun a w hk hn => ?_) ?_
    · have h6 : a.eval (.tmp 6) = .bool true := hn.1
      have h44 : a.eval (.tmp 44) = .bool false := hn.2.1
      clear hn
      refine wants_guard (d := 44) rfl rfl h44 ?_
      exact grown_move (.tmp 6) rfl h6
    refine steps_cons (fun a w hk hn => ?_) ?_
    · have h45 : a.eval (.tmp 45) = .bool true := hn.1
      have h44 : a.eval (.tmp 44) = .bool false := hn.2.1
      clear hn
      refine wants_guard (d := 44) rfl rfl h44 ?_
      exact grown_move (.tmp 45) rfl h45
    refine steps_cons (fun a w hk hn => ?_) ?_
    · have h5 : a.eval (.tmp 5) = .pointer (some ⟨g5, 0, none⟩) := hn.1
      have h46 : a.eval (.tmp 46) = .bool true := hn.2.1
      clear hn
      refine wants_guard (d := 46) rfl rfl h46 ?_
      refine grown_run (v := .pointer (some ⟨g5, 0, none⟩)) ?_ (Kp.refl _ _) rfl
      obtain ⟨ρ, hρ, hc, hf, hg⟩ := eval_is a
      rw [hρ] at h5 ⊢
      simp [go_sem, h5]
    refine steps_cons (fun a w hk hn => ?_) ?_
    · have h47 : a.eval (.tmp 47) = .pointer (some ⟨g5, 0, none⟩) := hn.1
      have h46 : a.eval (.tmp 46) = .bool true := hn.2.1
      clear hn
      refine wants_guard (d := 46) rfl rfl h46 ?_
      exact grown_loadf 68 (.tmp 47) rfl g5 0 h47 _ _ _ _ (HG5.out w hk) [.int .i64 (sgU S.seed S.its (a1, a2)).n, .slice br kr dr] (flat_in rfl) Tryz.underlying68 rfl Tryz.chkSize rfl
    refine steps_cons (fun a w hk hn => ?_) ?_
    · have h1 : a.eval (.tmp 1) = .pointer (some ⟨p, 0, none⟩) := hn.1
      have h46 : a.eval (.tmp 46) = .bool true := hn.2.1
      clear hn
      refine wants_guard (d := 46) rfl rfl h46 ?_
      exact grown_move (.tmp 1) rfl h1
    refine steps_cons (fun a w hk hn => ?_) ?_
    · have h49 : a.eval (.tmp 49) = .pointer (some ⟨p, 0, none⟩) := hn.1
      have h46 : a.eval (.tmp 46) = .bool true := hn.2.1
      clear hn
      refine wants_guard (d := 46) rfl rfl h46 ?_
      refine grown_run (v := .pointer (some ⟨p, 0, none⟩)) ?_ (Kp.refl _ _) rfl
      obtain ⟨ρ, hρ, hc, hf, hg⟩ := eval_is a
      rw [hρ] at h49 ⊢
      simp [go_sem, h49]
    refine steps_cons (fun a w hk hn => ?_) ?_
    · have h50 : a.eval (.tmp 50) = .pointer (some ⟨p, 0, none⟩) := hn.1
      have h46 : a.eval (.tmp 46) = .bool true := hn.2.1
      clear hn
      refine wants_guard (d := 46) rfl rfl h46 ?_
      refine grown_run (v := .pointer (some ⟨p, 3, none⟩)) ?_ (Kp.refl _ _) rfl
      obtain ⟨ρ, hρ, hc, hf, hg⟩ := eval_is a
      rw [hρ] at h50 ⊢
      simp [go_sem, h50]
    refine steps_cons (fun a w hk hn => ?_) ?_
    · have h51 : a.eval (.tmp 51) = .pointer (some ⟨p, 3, none⟩) := hn.1
      have h46 : a.eval (.tmp 46) = .bool true := hn.2.1
      clear hn
      refine wants_guard (d := 46) rfl rfl h46 ?_
      refine grown_run (v := .pointer (some ⟨p, 3, none⟩)) ?_ (Kp.refl _ _) rfl
      obtain ⟨ρ, hρ, hc, hf, hg⟩ := eval_is a
      rw [hρ] at h51 ⊢
      simp [go_sem, h51]
    refine steps_cons (fun a w hk hn => ?_) ?_
    · have h52 : a.eval (.tmp 52) = .pointer (some ⟨p, 3, none⟩) := hn.1
      have h46 : a.eval (.tmp 46) = .bool true := hn.2.1
      clear hn
      refine wants_guard (d := 46) rfl rfl h46 ?_
      exact grown_loadf 68 (.tmp 52) rfl p 3 h52 _ _ _ _ (HPw.out w hk) [.int .i64 sz, .slice ar mr cr] (flat_in rfl) Tryz.underlying68 rfl Tryz.chkSize rfl
    refine steps_cons (fun a w hk hn => ?_) ?_
    · have h48 : a.eval (.tmp 48) = .agg #[.int .i64 (sgU S.seed S.its (a1, a2)).n, .slice br kr dr] := hn.1
      have h53 : a.eval (.tmp 53) = .agg #[.int .i64 sz, .slice ar mr cr] := hn.2.1
      have h46 : a.eval (.tmp 46) = .bool true := hn.2.2.1
      clear hn
      refine wants_guard (d := 46) rfl rfl h46 ?_
      refine grown_call (f := 58) rfl Tryz.func58 (by kernel_rfl) (by kernel_rfl) ?_
      simp only [List.map_toArray, List.map_cons, List.map_nil, h48, h53]
      refine (rcksame_any _ _ _ _ _ _ true (by simp) w (HCa.out w hk) (HCb.out w hk)).mono ?_
      rintro e w' ⟨rfl, K⟩
      exact ⟨_, rfl, K, rfl⟩
    refine steps_cons (fun a w hk hn => ?_) ?_
    · have h54 : a.eval (.tmp 54) = .bool true := hn.1
      have h46 : a.eval (.tmp 46) = .bool true := hn.2.1
      clear hn
      refine wants_guard (d := 46) rfl rfl h46 ?_
      refine grown_run (v := .bool false) ?_ (Kp.refl _ _) rfl
      obtain ⟨ρ, hρ, hc, hf, hg⟩ := eval_is a
      rw [hρ] at h54 ⊢
      simp [go_sem, h54]
    refine steps_cons (fun a w hk hn => ?_) ?_
    · have h55 : a.eval (.tmp 55) = .bool false := hn.1
      have h46 : a.eval (.tmp 46) = .bool true := hn.2.1
      clear hn
      refine wants_guard (d := 46) rfl rfl h46 ?_
      exact grown_move (.tmp 55) rfl h55
    refine steps_cons (fun a w hk hn => ?_) ?_
    · have h5 : a.eval (.tmp 5) = .pointer (some ⟨g5, 0, none⟩) := hn.1
      have h56 : a.eval (.tmp 56) = .bool false := hn.2.1
      clear hn
      refine wants_guard (d := 56) rfl rfl h56 ?_
      refine grown_run (v := .pointer (some ⟨g5, 2, none⟩)) ?_ (Kp.refl _ _) rfl
      obtain ⟨ρ, hρ, hc, hf, hg⟩ := eval_is a
      rw [hρ] at h5 ⊢
      simp [go_sem, h5]
    refine steps_cons (fun a w hk hn => ?_) ?_
    · have h57 : a.eval (.tmp 57) = .pointer (some ⟨g5, 2, none⟩) := hn.1
      have h56 : a.eval (.tmp 56) = .bool false := hn.2.1
      clear hn
      refine wants_guard (d := 56) rfl rfl h56 ?_
      exact grown_loadf 70 (.tmp 57) rfl g5 2 h57 _ _ _ _ (HG5.out w hk) [.int .i64 (sgU S.seed S.its (a1, a2)).i, .slice bp kp dp, .slice bq kq dq] (flat_in rfl) Tryz.underlying70 rfl Tryz.sigSize rfl
    refine steps_cons (fun a w hk hn => ?_) ?_
    · have h1 : a.eval (.tmp 1) = .pointer (some ⟨p, 0, none⟩) := hn.1
      have h56 : a.eval (.tmp 56) = .bool false := hn.2.1
      clear hn
      refine wants_guard (d := 56) rfl rfl h56 ?_
      exact grown_move (.tmp 1) rfl h1
    refine steps_cons (fun a w hk hn => ?_) ?_
    · have h59 : a.eval (.tmp 59) = .pointer (some ⟨p, 0, none⟩) := hn.1
      have h56 : a.eval (.tmp 56) = .bool false := hn.2.1
      clear hn
      refine wants_guard (d := 56) rfl rfl h56 ?_
      refine grown_run (v := .pointer (some ⟨p, 0, none⟩)) ?_ (Kp.refl _ _) rfl
      obtain ⟨ρ, hρ, hc, hf, hg⟩ := eval_is a
      rw [hρ] at h59 ⊢
      simp [go_sem, h59]
    refine steps_cons (fun a w hk hn => ?_) ?_
    · have h60 : a.eval (.tmp 60) = .pointer (some ⟨p, 0, none⟩) := hn.1
      have h56 : a.eval (.tmp 56) = .bool false := hn.2.1
      clear hn
      refine wants_guard (d := 56) rfl rfl h56 ?_
      refine grown_run (v := .pointer (some ⟨p, 3, none⟩)) ?_ (Kp.refl _ _) rfl
      obtain ⟨ρ, hρ, hc, hf, hg⟩ := eval_is a
      rw [hρ] at h60 ⊢
      simp [go_sem, h60]
    refine steps_cons (fun a w hk hn => ?_) ?_
    · have h61 : a.eval (.tmp 61) = .pointer (some ⟨p, 3, none⟩) := hn.1
      have h56 : a.eval (.tmp 56) = .bool false := hn.2.1
      clear hn
      refine wants_guard (d := 56) rfl rfl h56 ?_
      refine grown_run (v := .pointer (some ⟨p, 5, none⟩)) ?_ (Kp.refl _ _) rfl
      obtain ⟨ρ, hρ, hc, hf, hg⟩ := eval_is a
      rw [hρ] at h61 ⊢
      simp [go_sem, h61]
    refine steps_cons (fun a w hk hn => ?_) ?_
    · have h62 : a.eval (.tmp 62) = .pointer (some ⟨p, 5, none⟩) := hn.1
      have h56 : a.eval (.tmp 56) = .bool false := hn.2.1
      clear hn
      refine wants_guard (d := 56) rfl rfl h56 ?_
      exact grown_loadf 70 (.tmp 62) rfl p 5 h62 _ _ _ _ (HPw.out w hk) [.int .i64 ix, .slice ap np cp, .slice aq nq cq] (flat_in rfl) Tryz.underlying70 rfl Tryz.sigSize rfl
    refine steps_cons (fun a w hk hn => ?_) ?_
    · have h58 : a.eval (.tmp 58) = .agg #[.int .i64 (sgU S.seed S.its (a1, a2)).i, .slice bp kp dp, .slice bq kq dq] := hn.1
      have h63 : a.eval (.tmp 63) = .agg #[.int .i64 ix, .slice ap np cp, .slice aq nq cq] := hn.2.1
      have h56 : a.eval (.tmp 56) = .bool false := hn.2.2.1
      clear hn
      refine wants_guard (d := 56) rfl rfl h56 ?_
      refine grown_call (f := 55) rfl Tryz.func55 (by kernel_rfl) (by kernel_rfl) ?_
      simp only [List.map_toArray, List.map_cons, List.map_nil, h58, h63]
      refine (refsame_any _ _ _ _ _ w (HVa.out w hk) (HVb.out w hk)).mono ?_
      rintro e w' ⟨rfl, K⟩
      exact ⟨_, rfl, K, rfl⟩
    refine steps_cons (fun a w hk hn => ?_) ?_
    · have h64 : a.eval (.tmp 64) = .bool true := hn.1
      have h56 : a.eval (.tmp 56) = .bool false := hn.2.1
      clear hn
      refine wants_guard (d := 56) rfl rfl h56 ?_
      refine grown_run (v := .bool false) ?_ (Kp.refl _ _) rfl
      obtain ⟨ρ, hρ, hc, hf, hg⟩ := eval_is a
      rw [hρ] at h64 ⊢
      simp [go_sem, h64]
    refine steps_cons (fun a w hk hn => ?_) ?_
    · have h56 : a.eval (.tmp 56) = .bool false := hn.1
      have h65 : a.eval (.tmp 65) = .bool false := hn.2.1
      have h46 : a.eval (.tmp 46) = .bool true := hn.2.2.1
      clear hn
      refine wants_guard (d := 46) rfl rfl h46 ?_
      exact grown_pick _ _ _ false rfl h56 h65
    refine steps_cons (fun a w hk hn => ?_) ?_
    · have h46 : a.eval (.tmp 46) = .bool true := hn.1
      have h66 : a.eval (.tmp 66) = .bool false := hn.2.1
      have h44 : a.eval (.tmp 44) = .bool false := hn.2.2.1
      clear hn
      refine wants_guard (d := 44) rfl rfl h44 ?_
      exact grown_pick _ _ _ true rfl h46 h66
    refine steps_cons (fun a w hk hn => ?_) ?_
    · have h44 : a.eval (.tmp 44) = .bool false := hn.1
      have h67 : a.eval (.tmp 67) = .bool false := hn.2.1
      clear hn
      refine wants_plain rfl ?_
      exact grown_pick _ _ _ false rfl h44 h67
    refine steps_cons (fun a w hk hn => ?_) ?_
    · have h68 : a.eval (.tmp 68) = .bool false := hn.1
      clear hn
      refine wants_plain rfl ?_
      exact grown_move (.tmp 68) rfl h68
    refine steps_cons (fun a w hk hn => ?_) ?_
    · have h0 : a.eval (.tmp 0) = .pointer (some ⟨l, 0, none⟩) := hn.1
      have h69 : a.eval (.tmp 69) = .bool false := hn.2.1
      clear hn
      refine wants_guard (d := 69) rfl rfl h69 ?_
      exact grown_move (.tmp 0) rfl h0
    refine steps_cons (fun a w hk hn => ?_) ?_
    · have h70 : a.eval (.tmp 70) = .pointer (some ⟨l, 0, none⟩) := hn.1
      have h69 : a.eval (.tmp 69) = .bool false := hn.2.1
      clear hn
      refine wants_guard (d := 69) rfl rfl h69 ?_
      refine grown_call (f := 35) rfl Tryz.func35 (by kernel_rfl) (by kernel_rfl) ?_
      simp only [List.map_toArray, List.map_cons, List.map_nil, h70]
      refine (ukeys_any (HLw.out w hk) xk HXk.out).mono ?_
      rintro e w' ⟨rfl, rfl⟩
      exact ⟨_, rfl, Kp.refl _ _, rfl⟩
    refine steps_cons (fun a w hk hn => ?_) ?_
    · have h1 : a.eval (.tmp 1) = .pointer (some ⟨p, 0, none⟩) := hn.1
      have h69 : a.eval (.tmp 69) = .bool false := hn.2.1
      clear hn
      refine wants_guard (d := 69) rfl rfl h69 ?_
      exact grown_move (.tmp 1) rfl h1
    refine steps_cons (fun a w hk hn => ?_) ?_
    · have h72 : a.eval (.tmp 72) = .pointer (some ⟨p, 0, none⟩) := hn.1
      have h69 : a.eval (.tmp 69) = .bool false := hn.2.1
      clear hn
      refine wants_guard (d := 69) rfl rfl h69 ?_
      refine grown_run (v := .pointer (some ⟨p, 0, none⟩)) ?_ (Kp.refl _ _) rfl
      obtain ⟨ρ, hρ, hc, hf, hg⟩ := eval_is a
      rw [hρ] at h72 ⊢
      simp [go_sem, h72]
    refine steps_cons (fun a w hk hn => ?_) ?_
    · have h73 : a.eval (.tmp 73) = .pointer (some ⟨p, 0, none⟩) := hn.1
      have h69 : a.eval (.tmp 69) = .bool false := hn.2.1
      clear hn
      refine wants_guard (d := 69) rfl rfl h69 ?_
      refine grown_run (v := .pointer (some ⟨p, 2, none⟩)) ?_ (Kp.refl _ _) rfl
      obtain ⟨ρ, hρ, hc, hf, hg⟩ := eval_is a
      rw [hρ] at h73 ⊢
      simp [go_sem, h73]
    refine steps_cons (fun a w hk hn => ?_) ?_
    · have h74 : a.eval (.tmp 74) = .pointer (some ⟨p, 2, none⟩) := hn.1
      have h69 : a.eval (.tmp 69) = .bool false := hn.2.1
      clear hn
      refine wants_guard (d := 69) rfl rfl h69 ?_
      refine grown_run (v := .int .i64 S.n) ?_ (Kp.refl _ _) rfl
      have hcell : w.cell? ⟨p, 2, none⟩ = some (.int .i64 S.n) := by rw [cell_of_row w p 2 _ _ _ (HPw.out w hk)]; rfl
      obtain ⟨ρ, hρ, hc, hf, hg⟩ := eval_is a
      rw [hρ] at h74 ⊢
      simp [go_sem, h74, hcell]
    refine steps_cons (fun a w hk hn => ?_) ?_
    · have h75 : a.eval (.tmp 75) = .int .i64 S.n := hn.1
      have h69 : a.eval (.tmp 69) = .bool false := hn.2.1
      clear hn
      refine wants_guard (d := 69) rfl rfl h69 ?_
      refine grown_run (v := .int .i64 xk) ?_ (Kp.refl _ _) rfl
      obtain ⟨ρ, hρ, hc, hf, hg⟩ := eval_is a
      rw [hρ] at h75 ⊢
      simp [go_sem, hc, h75, HW16.out]
    refine steps_cons (fun a w hk hn => ?_) ?_
    · have h71 : a.eval (.tmp 71) = .int .i64 xk := hn.1
      have h76 : a.eval (.tmp 76) = .int .i64 xk := hn.2.1
      have h69 : a.eval (.tmp 69) = .bool false := hn.2.2.1
      clear hn
      refine wants_guard (d := 69) rfl rfl h69 ?_
      refine grown_run (v := .bool false) ?_ (Kp.refl _ _) rfl
      obtain ⟨ρ, hρ, hc, hf, hg⟩ := eval_is a
      rw [hρ] at h71 h76 ⊢
      simp [go_sem, h71, h76]
    refine steps_cons (fun a w hk hn => ?_) ?_
    · have h69 : a.eval (.tmp 69) = .bool false := hn.1
      have h77 : a.eval (.tmp 77) = .bool false := hn.2.1
      clear hn
      refine wants_plain rfl ?_
      exact grown_pick _ _ _ false rfl h69 h77
    refine steps_cons (fun a w hk hn => ?_) ?_
    · have h78 : a.eval (.tmp 78) = .bool false := hn.1
      clear hn
      refine wants_plain rfl ?_
      exact grown_move (.tmp 78) rfl h78
    refine steps_cons (fun a w hk hn => ?_) ?_
    · have h0 : a.eval (.tmp 0) = .pointer (some ⟨l, 0, none⟩) := hn.1
      have h79 : a.eval (.tmp 79) = .bool false := hn.2.1
      clear hn
      refine wants_guard (d := 79) rfl rfl h79 ?_
      exact grown_move (.tmp 0) rfl h0
    refine steps_cons (fun a w hk hn => ?_) ?_
    · have h80 : a.eval (.tmp 80) = .pointer (some ⟨l, 0, none⟩) := hn.1
      have h79 : a.eval (.tmp 79) = .bool false := hn.2.1
      clear hn
      refine wants_guard (d := 79) rfl rfl h79 ?_
      refine grown_call (f := 39) rfl Tryz.func39 (by kernel_rfl) (by kernel_rfl) ?_
      simp only [List.map_toArray, List.map_cons, List.map_nil, h80]
      refine (upublic_any (HLw.out w hk) tp HTp.out (HGw.out w hk)).mono ?_
      rintro e w' ⟨ao, m, c, rfl, R, K⟩
      exact ⟨_, rfl, K, R⟩
    refine steps_cons (fun a w hk hn => ?_) ?_
    · have h81 : Sl w (a.eval (.tmp 81)) (tp) := hn.1
      have h79 : a.eval (.tmp 79) = .bool false := hn.2.1
      clear hn
      refine wants_guard (d := 79) rfl rfl h79 ?_
      exact grown_conv (.tmp 81) _ _ 5 _ rfl h81 Tryz.underlying22 Tryz.underlying5 Tryz.underlying9 (congrArg Value.string (unhide HTT).symm)
    refine steps_cons (fun a w hk hn => ?_) ?_
    · have h1 : a.eval (.tmp 1) = .pointer (some ⟨p, 0, none⟩) := hn.1
      have h79 : a.eval (.tmp 79) = .bool false := hn.2.1
      clear hn
      refine wants_guard (d := 79) rfl rfl h79 ?_
      exact grown_move (.tmp 1) rfl h1
    refine steps_cons (fun a w hk hn => ?_) ?_
    · have h83 : a.eval (.tmp 83) = .pointer (some ⟨p, 0, none⟩) := hn.1
      have h79 : a.eval (.tmp 79) = .bool false := hn.2.1
      clear hn
      refine wants_guard (d := 79) rfl rfl h79 ?_
      refine grown_run (v := .pointer (some ⟨p, 0, none⟩)) ?_ (Kp.refl _ _) rfl
      obtain ⟨ρ, hρ, hc, hf, hg⟩ := eval_is a
      rw [hρ] at h83 ⊢
      simp [go_sem, h83]
    refine steps_cons (fun a w hk hn => ?_) ?_
    · have h84 : a.eval (.tmp 84) = .pointer (some ⟨p, 0, none⟩) := hn.1
      have h79 : a.eval (.tmp 79) = .bool false := hn.2.1
      clear hn
      refine wants_guard (d := 79) rfl rfl h79 ?_
      refine grown_run (v := .pointer (some ⟨p, 1, none⟩)) ?_ (Kp.refl _ _) rfl
      obtain ⟨ρ, hρ, hc, hf, hg⟩ := eval_is a
      rw [hρ] at h84 ⊢
      simp [go_sem, h84]
    refine steps_cons (fun a w hk hn => ?_) ?_
    · have h85 : a.eval (.tmp 85) = .pointer (some ⟨p, 1, none⟩) := hn.1
      have h79 : a.eval (.tmp 79) = .bool false := hn.2.1
      clear hn
      refine wants_guard (d := 79) rfl rfl h79 ?_
      refine grown_run (v := .pointer (some ⟨og, 0, none⟩)) ?_ (Kp.refl _ _) rfl
      have hcell : w.cell? ⟨p, 1, none⟩ = some (.pointer (some ⟨og, 0, none⟩)) := by rw [cell_of_row w p 1 _ _ _ (HPw.out w hk)]; rfl
      obtain ⟨ρ, hρ, hc, hf, hg⟩ := eval_is a
      rw [hρ] at h85 ⊢
      simp [go_sem, h85, hcell]
    refine steps_cons (fun a w hk hn => ?_) ?_
    · have h86 : a.eval (.tmp 86) = .pointer (some ⟨og, 0, none⟩) := hn.1
      have h79 : a.eval (.tmp 79) = .bool false := hn.2.1
      clear hn
      refine wants_guard (d := 79) rfl rfl h79 ?_
      refine grown_call (f := 102) rfl Tryz.func102 (by kernel_rfl) (by kernel_rfl) ?_
      simp only [List.map_toArray, List.map_cons, List.map_nil, h86]
      refine (own_public og base S.seed tp HTp.out w (HOw.out w hk)).mono ?_
      rintro e w' ⟨ao, m, c, rfl, R, rfl⟩
      exact ⟨_, rfl, Kp.refl _ _, R⟩
    refine steps_cons (fun a w hk hn => ?_) ?_
    · have h87 : Sl w (a.eval (.tmp 87)) (tp) := hn.1
      have h79 : a.eval (.tmp 79) = .bool false := hn.2.1
      clear hn
      refine wants_guard (d := 79) rfl rfl h79 ?_
      exact grown_conv (.tmp 87) _ _ 5 _ rfl h87 Tryz.underlying22 Tryz.underlying5 Tryz.underlying9 (congrArg Value.string (unhide HTT).symm)
    refine steps_cons (fun a w hk hn => ?_) ?_
    · have h82 : a.eval (.tmp 82) = .string TT := hn.1
      have h88 : a.eval (.tmp 88) = .string TT := hn.2.1
      have h79 : a.eval (.tmp 79) = .bool false := hn.2.2.1
      clear hn
      refine wants_guard (d := 79) rfl rfl h79 ?_
      refine grown_run (v := .bool false) ?_ (Kp.refl _ _) rfl
      obtain ⟨ρ, hρ, hc, hf, hg⟩ := eval_is a
      rw [hρ] at h82 h88 ⊢
      simp [go_sem, h82, h88]
    refine steps_cons (fun a w hk hn => ?_) ?_
    · have h79 : a.eval (.tmp 79) = .bool false := hn.1
      have h89 : a.eval (.tmp 89) = .bool false := hn.2.1
      clear hn
      refine wants_plain rfl ?_
      exact grown_pick _ _ _ false rfl h79 h89
    exact trivial
  intro W1 hkW1
  rintro _ rfl
  rintro _ rfl
  rintro _ rfl
  rintro _ rfl
  rintro _ rfl
  rintro _ rfl
  rintro _ rfl
  rintro _ rfl
  rintro _ rfl
  rintro _ rfl
  intro v29 h29
  rintro _ rfl
  rintro _ rfl
  intro v32 h32
  rintro _ rfl
  rintro _ rfl
  rintro _ rfl
  rintro _ rfl
  rintro _ rfl
  rintro _ rfl
  rintro _ rfl
  rintro _ rfl
  rintro _ rfl
  rintro _ rfl
  rintro _ rfl
  rintro _ rfl
  rintro _ rfl
  rintro _ rfl
  rintro _ rfl
  rintro _ rfl
  rintro _ rfl
  rintro _ rfl
  rintro _ rfl
  rintro _ rfl
  rintro _ rfl
  rintro _ rfl
  rintro _ rfl
  rintro _ rfl
  rintro _ rfl
  rintro _ rfl
  rintro _ rfl
  rintro _ rfl
  rintro _ rfl
  rintro _ rfl
  rintro _ rfl
  rintro _ rfl
  rintro _ rfl
  rintro _ rfl
  rintro _ rfl
  rintro _ rfl
  rintro _ rfl
  rintro _ rfl
  rintro _ rfl
  rintro _ rfl
  rintro _ rfl
  rintro _ rfl
  rintro _ rfl
  rintro _ rfl
  rintro _ rfl
  rintro _ rfl
  rintro _ rfl
  rintro _ rfl
  intro v81 h81
  rintro _ rfl
  rintro _ rfl
  rintro _ rfl
  rintro _ rfl
  rintro _ rfl
  intro v87 h87
  rintro _ rfl
  rintro _ rfl
  rintro _ rfl
  refine fin_nil ?_
  simp only [Act.put, List.set_cons_zero, List.set_cons_succ, List.setIfInBounds_toArray]
  have HKW := hide ((kp_drew w2).trans hkW1)
  clear hkW1
  go_wp2_with fail
  have HKw := hide (HK2.out.trans HKW.out)
  have hmi256 : mi ≤ 256 := by rw [HMi.out]; exact HLg.out.few
  clear HG2 HL2 HD2 HLw HGw HG5 HPw HC0 HLc HOw HKW HXk HW16
  go_loopw [7] (fun i wr => ∃ q : Nat, q ≤ mi + 2 ∧ ∃ x : Int, x = (q : Int) - 1 ∧ i = .int .i64 x ∧ Hid (Kp [] w wr)) (fun i _ => mi + 2 - (intOf i + 1).toNat)
  case atStart => exact ⟨0, by omega, -1, by omega, rfl, HKw⟩
  case round =>
    obtain ⟨q, hq, x, hx, rfl, HKr⟩ := hrel
    have HX := hide hx
    have HQ := hide hq
    have HLr := hide (HLg.out.on HKr.out)
    have x0 : wr.cell? ⟨p, 0, none⟩ = some (.slice ai mi ci) := by rw [cell_of_row _ p 0 _ _ _ (HKr.out.heap HRg.out.hp (by simp))]; rfl
    have x0d : wr.drew.cell? ⟨p, 0, none⟩ = some (.slice ai mi ci) := x0
    by_cases hend : q = mi + 2
    · have hdx : decide (x ≤ (mi : Int)) = false := decide_eq_false (by omega)
      have HNx := HNo.out
      have hcv := lit_cv wr noSuch 16 rfl
      have ka : Kp [] wr (wr.alloc (.cells (noSuch.map (Value.int .u8)).toArray 5 (16, 17))) := (Kp.refl [] wr).alloc _
      have HFi := hide (ufind_any (HLr.out.on ka) _ noSuch (lit_sl wr noSuch 16 (16, 17) rfl (by omega)) (fun b hb => by simp [noSuch] at hb; omega) (by simp [noSuch]) false (by simp [HNx]) 0 rfl)
      have HKa := hide (HKr.out.trans ka)
      simp only [noSuch, List.map_cons, List.map_nil] at hcv HFi
      clear HNx ka hx hq hend
      go_wp2_with fail
      refine HFi.out.mono ?_
      rintro ee w8 ⟨rfl, K8⟩
      have HK8 := hide K8
      clear HFi K8
      go_wp2_with fail
      go_ret
      exact ⟨rfl, HKr.out.trans ((by exact (Kp.refl [] wr).alloc _ : Kp [] wr (wr.alloc (.cells (noSuch.map (Value.int .u8)).toArray 5 (16, 17)))).trans HK8.out)⟩
    · have hdx : decide (x ≤ (mi : Int)) = true := decide_eq_true (by omega)
      have hwx : IntKind.i64.wrap (x + 1) = x + 1 := by simp [IntKind.wrap, IntKind.signed, IntKind.bits]; omega
      by_cases hin : 1 ≤ q ∧ q ≤ mi
      · obtain ⟨k, hk⟩ : ∃ k : Nat, x = (k : Int) := ⟨q - 1, by omega⟩
        subst hk
        have hkm : k < mi := by omega
        have hki : k < S.its.length := by rw [← HMi.out]; exact hkm
        obtain ⟨X, hX⟩ : ∃ X, X = S.its[k] := ⟨_, rfl⟩
        have HEn := hide (uentry_ok HLr.out k hki X hX)
        obtain ⟨nX, hnX⟩ : ∃ n, n = X.length := ⟨_, rfl⟩
        rw [← hnX] at HEn
        have hAr := HRg.out.al.on HKr.out
        have hlk : k < lA.length := by have h1 := congrArg List.length HRg.out.it; rw [List.length_map] at h1; omega
        have hek : lA[k].2 = X := by
          have e : (lA.map (·.2))[k]? = some S.its[k] := by rw [HRg.out.it]; exact List.getElem?_eq_getElem hki
          rw [List.getElem?_map, List.getElem?_eq_getElem hlk] at e
          rw [hX]
          exact Option.some.inj e
        obtain ⟨gA, hgA, hcA⟩ := hAr.row.1.1.at k (by rw [List.length_map]; exact hlk)
        rw [List.getElem_map] at hcA
        have hSy := (hAr.row.1.2 _ (List.getElem_mem hlk)).1
        rw [hek] at hSy
        obtain ⟨ay, cy, ey, -⟩ := id hSy
        rw [← hnX] at ey
        rw [ey] at hcA hSy
        subst hgA
        have HCA := hide hcA
        have HSy := hide hSy
        have HXm : Hid (X ∈ S.its) := hide (by rw [hX]; exact List.getElem_mem hki)
        have HXi : Hid (S.its.idxOf X = k) := hide (by rw [hX]; exact idxOf_at HLr.out.nd k hki)
        have HXs := hide (show q + 1 ≤ mi + 2 ∧ ((k : Int) + 1) = ((q + 1 : Nat) : Int) - 1 by omega)
        have hd0 : decide (0 ≤ (k : Int)) = true := decide_eq_true (by omega)
        have hkm' : (k : Int) < (mi : Int) := by omega
        have hd1 : decide ((k : Int) < (mi : Int)) = true := decide_eq_true hkm'
        clear hx hq hend hin hki hX hnX hAr hlk hek hcA hSy ey
        go_wp2_with fail
        refine HEn.out.mono ?_
        rintro ee w11 ⟨c11, rfl, S11, K11, -⟩
        have HK11 := hide (K11.trans (kp_drew w11))
        have d0 : w11.drew.cell? ⟨p, 0, none⟩ = some (.slice (some ⟨gA, 0, none⟩) mi ci) := HK11.out.cell x0 (by simp)
        have d2 := HK11.out.cell HCA.out (by simp)
        have v1 := (S11.kept (kp_drew w11) (by simp)).conv (P := Tryz.prog) 22 9 5 Tryz.underlying22 Tryz.underlying5 Tryz.underlying9
        have v2 := (HSy.out.kept HK11.out (by simp)).conv (P := Tryz.prog) 22 9 5 Tryz.underlying22 Tryz.underlying5 Tryz.underlying9
        obtain ⟨SX, hSX⟩ : ∃ S, S = strOfNums X := ⟨_, rfl⟩
        rw [← hSX] at v1 v2
        have HFi := hide (ufind_any (HLr.out.on HK11.out) _ X (HSy.out.kept HK11.out (by simp)) (HLg.out.bs X HXm.out).1 (HLg.out.bs X HXm.out).2 true (by simp [HXm.out]) (k : Int) (by rw [HXi.out]; rfl))
        clear HEn S11 K11 hSX x0d
        go_wp2_with fail
        refine region_read Tryz.mixed (by kernel_rfl) ?_
        repeat (first | go_big_quiet_skip | (go_big_quiet_want; go_big_quiet_op; go_big_quiet_on))
        refine wpQuiet_nil ?_
        go_wp2_with fail
        refine HFi.out.mono ?_
        rintro ee w12 ⟨rfl, K12⟩
        have HK12 := hide (HKr.out.trans (HK11.out.trans K12))
        clear HFi K12 d0 d2 v1 v2
        go_wp2_with fail
        go_roundw
        case rel => exact ⟨q + 1, HXs.out.1, (k : Int) + 1, HXs.out.2, by first | rfl | go_num, HK12⟩
        case measure => have := HXs.out; have := HX.out; simp [intOf]; omega
      · have HEn := hide (uentry_no HLr.out x (by rw [← HMi.out]; omega))
        by_cases hneg : x < 0
        · have hd0 : decide (0 ≤ x) = false := decide_eq_false (by omega)
          have HXs := hide (show q + 1 ≤ mi + 2 ∧ x + 1 = ((q + 1 : Nat) : Int) - 1 by omega)
          clear hx hq hend hin hneg
          go_wp2_with fail
          refine HEn.out.mono ?_
          rintro ee wz ⟨rfl, hwz⟩
          subst wz
          go_wp2_with fail
          refine region_read Tryz.mixed (by kernel_rfl) ?_
          repeat (first | go_big_quiet_skip | (go_big_quiet_want; go_big_quiet_op; go_big_quiet_on))
          refine wpQuiet_nil ?_
          go_wp2_with fail
          go_roundw
          case rel => exact ⟨q + 1, HXs.out.1, x + 1, HXs.out.2, rfl, hide (HKr.out.trans (kp_drew wr))⟩
          case measure => have := HXs.out; have := HX.out; simp [intOf]; omega
        · have hd0 : decide (0 ≤ x) = true := decide_eq_true (by omega)
          have hd1 : decide (x < (mi : Int)) = false := decide_eq_false (by omega)
          have HXs := hide (show q + 1 ≤ mi + 2 ∧ x + 1 = ((q + 1 : Nat) : Int) - 1 by omega)
          clear hx hq hend hin hneg
          go_wp2_with fail
          refine HEn.out.mono ?_
          rintro ee wz ⟨rfl, hwz⟩
          subst wz
          go_wp2_with fail
          refine region_read Tryz.mixed (by kernel_rfl) ?_
          repeat (first | go_big_quiet_skip | (go_big_quiet_want; go_big_quiet_op; go_big_quiet_on))
          refine wpQuiet_nil ?_
          go_wp2_with fail
          go_roundw
          case rel => exact ⟨q + 1, HXs.out.1, x + 1, HXs.out.2, rfl, hide (HKr.out.trans (kp_drew wr))⟩
          case measure => have := HXs.out; have := HX.out; simp [intOf]; omega
end Go.Proofs.YtillhpgdlmeajaaGreatDoor

/-
  The contract of the reference ledger's Plan.
-/
namespace Go.Proofs.YtillhpgdlmeajaaGreatDoor
open Go.RowKit
open Go.Proofs
set_option linter.unusedVariables false
/-- one more slice behind a row of slices, at a step of a region that draws its order. -/
theorem step_rowv {w3 : World} {ops : Array Oper} {o : Oper} {a : Act} {K : Act → World → Prop} {Q : Exit → Act → World → Prop} {E : Prop} (hgd : o.guard = none) (s x : Operand)
    (ho : o.op = .call { callee := .builtin .append, args := #[s, x], argTypes := #[33, 33] }) (base : Nat) (v : Value) (ys : List Value) (hs : a.eval s = v) (hR : RowV w3 base v ys) (hl : ys.length ≤ 1000000)
    (vx : Value) (hvx : vx.oneCell' = true) (g : Nat) (hx : a.eval x = .slice (some ⟨g, 0, none⟩) 1 1) (hc : w3.cell? ⟨g, 0, none⟩ = some vx) (hbase : base ≤ w3.heap.size)
    (h : ∀ ao m c w', m = ys.length + 1 → RowV w' base (.slice ao m c) (ys ++ [vx]) → RStep w3 v w' (.slice ao m c) → K (a.put o.dst (.slice ao m c)) w') :
    if Region.wanted o (yielded ops a.tmps) = true then Oper.wp Tryz.prog o a w3 K Q else E := by
  have hw : Region.wanted o (yielded ops a.tmps) = true := by simp [Region.wanted, hgd]
  rw [if_pos hw]
  obtain ⟨i0, hi0, hz0, hz1, hz2⟩ := info_parts Tryz.infoSl
  obtain ⟨av, cv, hv⟩ := hR.shape
  obtain ⟨v', w1, hr, hown1, hgrow, _, hat⟩ := run_append_own_at (P := Tryz.prog) w3 base 33 o.type 22 i0 (.slice none 0 0) 1 24 Tryz.underlying33 hi0 hz0 hz1 hz2 rfl (by decide) v ys.length ys hR ⟨g, 0, none⟩ 1 1 [vx] (by simp) (fun j u hu => by
    have hj : j = 0 := by have := (List.getElem?_eq_some_iff.1 hu).1; simpa using this
    subst hj
    simp at hu
    subst hu
    exact hc) (by simp [hvx]) (by unfold maxLen; omega) (by omega) hbase
  have R : RowV w1 base v' (ys ++ [vx]) := by unfold RowV; rw [List.length_append]; exact hown1
  obtain ⟨ao', c', hv'⟩ := R.shape
  subst hv'
  have st : RStep w3 v w1 (.slice ao' (ys ++ [vx]).length c') := ⟨(Kp.refl _ w3).grown hgrow (fun k hk => .inl (by simp [hk])), fun k hk => by
    rcases hat with e | e
    · exact .inl (e ▸ hk)
    · rw [e] at hk; cases hk; exact .inr (Nat.le_refl _)⟩
  have hKK := h ao' _ c' w1 (by simp) R st
  unfold Oper.wp execOp
  simp only [ho, resolve, invoke, builtin, Sem.run_bind, Sem.run_pure, Result.andThen_ok, List.map_toArray, List.map_cons, List.map_nil, hs, hx, hr]
  exact hKK
/-- one more slice behind a row of slices. -/
theorem wpList_rowv1 {base : Nat} {w2 : World} {ops : Array Oper} {rest : List Oper} {o : Oper} {a : Act} {Q : Exit → Act → World → Prop} (hgd : o.guard = none) (s x : Operand)
    (ho : o.op = .call { callee := .builtin .append, args := #[s, x], argTypes := #[33, 33] }) (v : Value) (ys : List Value) (hs : a.eval s = v) (hP : RowV w2 base v ys) (hbase : base ≤ w2.heap.size) (hl : ys.length ≤ 1000000)
    (vx : Value) (hvx : vx.oneCell' = true) (hx : a.eval x = .slice (some ⟨w2.heap.size, 0, none⟩) 1 1)
    (h : ∀ ao m c w', m = ys.length + 1 → RowV w' base (.slice ao m c) (ys ++ [vx]) → RStep w2 v w' (.slice ao m c) → wpList Tryz.prog ops Q rest (a.put o.dst (.slice ao m c)) w') : wpList Tryz.prog ops Q (o :: rest) a (w2.alloc (.cells #[vx] 22)) := by
  have k2 : Kp [] w2 (w2.alloc (.cells #[vx] 22)) := (Kp.refl [] w2).alloc _
  refine wpList_append_rowv hgd s x ho base v ys hs (hP.kept k2 (by simp)) ⟨w2.heap.size, 0, none⟩ 1 [vx] hx ?_ ?_ ?_ ?_ ?_
  · intro j u hu
    exact World.news_of_block (heap_alloc_new w2 _) j u (by simpa using hu)
  · simp [hvx]
  · simp; omega
  · simp; omega
  · intro ao m c w' r st
    exact h ao m c w' (by rw [r.len]; simp) r (st.after k2)
/-- two rows that share no block. -/
def Two (v u : Value) : Prop := ∀ j, v.ownBlock = some j → u.ownBlock ≠ some j
theorem Two.symm {v u : Value} (h : Two v u) : Two u v := fun j h1 h2 => h j h2 h1
theorem Two.step {w w' : World} {v v' u : Value} (h : Two v u) (s : RStep w v w' v') (hu : ∀ j, u.ownBlock = some j → j < w.heap.size) : Two v' u := fun j h1 h2 => by
  rcases s.2 j h1 with h3 | h3
  · exact h j h3 h2
  · have := hu j h2; omega
theorem Two.nil (u : Value) : Two (.slice none 0 0) u := fun j h => by cases h
/-- rows of slices that lay in the world w already. -/
theorem rowS_old {w w' : World} {v : Value} {l : List (Value × List Int)} (hr : RowV w' w.heap.size v (l.map (·.1))) (k : Kp [] w w') (hl : ∀ x ∈ l, Sl w x.1 x.2 ∧ Bs x.2) : RowS w' w.heap.size v l :=
  ⟨hr, fun x hx => ⟨(hl x hx).1.kept k (by simp), (hl x hx).2, fun j h1 h2 => by
    by_cases hb : x.2 = []
    · exact hb
    · have := sl_lt (hl x hx).1 hb h1
      have := hr.own j h2
      omega⟩⟩
/-- all of l are among lx. -/
def Amid (l lx : List (Value × List Int)) : Prop := ∀ y ∈ l, y ∈ lx
/-- Plan behind its first k items: all of them at p2, numbers vn, new ones vf. -/
def PlI (w : World) (p2 : Nat) (la lx : List (Value × List Int)) (its xs : List (List Int)) (k : Nat) (vn vf : Value) (wr : World) : Prop :=
  ∃ (vi : Value) (lA lf : List (Value × List Int)), RLi wr p2 vi ∧ RowV wr w.heap.size vi (lA.map (·.1)) ∧ lA.map (·.2) = allU its (xs.take k) ∧ (∀ y ∈ lA, y ∈ la ∨ y ∈ lx) ∧ RowV wr w.heap.size vf (lf.map (·.1)) ∧ lf.map (·.2) = newU its (xs.take k) ∧ (∀ y ∈ lf, y ∈ lx) ∧ RowI wr w.heap.size vn (nsU its (xs.take k)) ∧ Two vi vf ∧ Two vi vn ∧ Two vf vn ∧ (∀ j, vi.ownBlock = some j → j ≠ p2) ∧ (∀ j, vf.ownBlock = some j → j ≠ p2) ∧ (∀ j, vn.ownBlock = some j → j ≠ p2) ∧ w.heap.size ≤ p2 ∧ p2 < wr.heap.size ∧ Kp [] w wr
set_option maxRecDepth 100000 in
set_option maxHeartbeats 8000000 in
/-- p a ledger whose items read as its; what is told are the items' own slices. -/
theorem rplan_any (p : Nat) (va : Value) (la : List (Value × List Int)) (vx : Value) (lx : List (Value × List Int)) (its xs : List (List Int)) (w : World) (hc : w.cell? ⟨p, 0, none⟩ = some va) (hL : Lc w va la) (hla : la.map (·.2) = its) (hX : Lists w vx lx) (hlx : lx.map (·.2) = xs) (hn : la.length ≤ 10000) (hm : lx.length ≤ 1000) (hnd : its.Nodup) :
    Calls Tryz.prog 32 #[.pointer (some ⟨p, 0, none⟩), vx] w fun e w' => ∃ a1 m1 c1 a2 m2 c2, e = .returned (.tuple #[.slice a1 m1 c1, .slice a2 m2 c2]) ∧ RowI w' w.heap.size (.slice a1 m1 c1) (nsU its xs) ∧ (∃ lf, RowS w' w.heap.size (.slice a2 m2 c2) lf ∧ lf.map (·.2) = newU its xs ∧ Amid lf lx) ∧ Kp [] w w' := by
  have hLs : ∀ y ∈ la, Sl w y.1 y.2 ∧ Bs y.2 := fun y hy => by
    obtain ⟨i, hi, e⟩ := List.mem_iff_getElem.1 hy
    obtain ⟨ao, c, -, -, hcell⟩ := hL.1
    obtain ⟨b, off, -, -, h1, h2⟩ := hcell i hi
    rw [← e]
    exact ⟨h1, h2⟩
  have hXs : ∀ y ∈ lx, Sl w y.1 y.2 ∧ Bs y.2 := fun y hy => by
    obtain ⟨i, hi, e⟩ := List.mem_iff_getElem.1 hy
    obtain ⟨ao, c, -, -, hcell⟩ := hX
    obtain ⟨b, off, -, -, h1, h2⟩ := hcell i hi
    rw [← e]
    exact ⟨h1, h2⟩
  have HAll : Hid (∀ y, y ∈ la ∨ y ∈ lx → Sl w y.1 y.2 ∧ Bs y.2) := hide (fun y hy => hy.elim (hLs y) (hXs y))
  have HXx := hide hX
  have HLa := hide hla
  have HLx := hide hlx
  have HNd := hide hnd
  obtain ⟨av, cv, hva, h1, h2, h3⟩ := hL.shape
  obtain ⟨nv, hnv⟩ : ∃ n, n = la.length := ⟨_, rfl⟩
  rw [← hnv] at hva hn
  subst hva
  have HLs := hide hL.1
  have H3 := hide h3
  have HNv := hide hnv
  obtain ⟨ax, cx, hvx, -, hcellx⟩ := hX
  have HCx := hide hcellx
  obtain ⟨nx, hnx⟩ : ∃ n, n = lx.length := ⟨_, rfl⟩
  rw [← hnx] at hvx hm
  subst hvx
  have HNx := hide hnx
  have hrow0 : RowV (w.alloc (.cells #[] 22)) w.heap.size (.slice (some ⟨w.heap.size, 0, none⟩) 0 0) [] := World.ownsRow_made w #[] 0 (Nat.le_refl _) (by simp [maxLen]) rfl
  have HRow0 := hide hrow0
  have HK0 : Hid (Kp [] w (w.alloc (.cells #[] 22))) := hide ((Kp.refl [] _).alloc _)
  have hc0 := HK0.out.cell hc (by simp)
  clear hL hla hlx hnd hLs hXs h1 h2 h3 hnv hcellx hnx hrow0 hc
  go_enter Tryz.func32, Tryz.ntmps32
  go_wp2_with (
    at_builtin
    refine wpList_append_list rfl (.tmp 11) (.tmp 15) rfl w.heap.size _ [] rfl HRow0.out av nv cv la rfl (HLs.out.kept HK0.out) H3.out (by rw [← HNv.out]; simp; omega) HK0.out.size ?_
    intro a1 m1 c1 w1 R1 S1
    refine Hid.out ?_)
  rw [List.nil_append] at R1
  have S1' : RStep (w.alloc (.cells #[] 22)) (.slice (some ⟨w.heap.size, 0, none⟩) 0 0) w1 (.slice a1 m1 c1) := S1
  have HK1 : Hid (Kp [] w w1) := hide (HK0.out.then S1'.1 (fun i hi => .inr (by
    have h1 : i = w.heap.size := by simpa [Value.ownBlock] using hi
    omega)))
  have HR1 := hide R1
  obtain ⟨p2, hp2⟩ : ∃ p, p = w1.heap.size := ⟨_, rfl⟩
  obtain ⟨w2, hw2⟩ : ∃ y, y = w1.alloc (.cells #[.slice a1 m1 c1, .pointer none, .int .i64 0, .int .i64 0, .slice none 0 0, .int .i64 0, .slice none 0 0, .slice none 0 0, .bool false] 74) := ⟨_, rfl⟩
  have K2 : Kp [] w1 w2 := by rw [hw2]; exact (Kp.refl [] _).alloc _
  have HPl : Hid (PlI w p2 la lx its xs 0 (.slice none 0 0) (.slice none 0 0) w2) := hide (by
    have hs1 := HK1.out.size
    have hs2 : w2.heap.size = p2 + 1 := by rw [hw2, hp2]; simp
    refine ⟨.slice a1 m1 c1, la, [], by rw [hw2, hp2]; exact heap_alloc_new w1 _, HR1.out.kept K2 (by simp), ?_, fun y hy => .inl hy, World.ownsRow_nil _ _ _ _, ?_, (fun y hy => by cases hy), World.ownsRow_nil _ _ _ _, (Two.nil _).symm, (Two.nil _).symm, Two.nil _, fun j hj e => ?_, (fun j hj => by cases hj), (fun j hj => by cases hj), by omega, by omega, HK1.out.trans K2⟩
    · rw [List.take_zero, allU_nil, HLa.out]
    · rw [List.take_zero, newU_nil]; rfl
    · have := HR1.out.lt hj; omega)
  have HW2 := hide hw2
  have HP2 := hide hp2
  clear R1 S1 S1' hc0 hw2 hp2 K2 HK0 HRow0
  refine hide ?_
  go_wp2_with fail
  rw [← HW2.out, ← HP2.out]
  go_loopw [7, 8, 9] (fun vn vf i wr => ∃ k : Nat, k ≤ nx ∧ i = .int .i64 k ∧ ∃ an mn cn af mf cf, vn = .slice an mn cn ∧ vf = .slice af mf cf ∧ PlI w p2 la lx its xs k (.slice an mn cn) (.slice af mf cf) wr) (fun _ _ i _ => nx - (intOf i).toNat)
  case atStart => exact ⟨0, by omega, rfl, none, 0, 0, none, 0, 0, rfl, rfl, HPl.out⟩
  case round =>
    clear HPl
    obtain ⟨k, hk, rfl, an, mn, cn, af, mf, cf, rfl, rfl, vi, lA, lf, hP, hRA, hAm, hAo, hRF, hFm, hFo, hRN, t1, t2, t3, hi2, hf2, hn2, hpw, hpr, hK⟩ := hrel
    obtain ⟨ai, ci, hvi⟩ := hRA.shape
    obtain ⟨mi, hmi⟩ : ∃ n, n = (lA.map (·.1)).length := ⟨_, rfl⟩
    rw [← hmi] at hvi
    subst hvi
    have HP := hide hP
    have HRA := hide hRA
    have HAm := hide hAm
    have HAo := hide hAo
    have HRF := hide hRF
    have HFm := hide hFm
    have HFo := hide hFo
    have HRN := hide hRN
    have HT1 := hide t1
    have HT2 := hide t2
    have HT3 := hide t3
    have HI2 := hide hi2
    have HF2 := hide hf2
    have HN2 := hide hn2
    have HPw := hide hpw
    have HPr := hide hpr
    have HK := hide hK
    have HMi := hide hmi
    have hlAl : lA.length ≤ 11000 := by
      have h1 := congrArg List.length hAm
      have h2 := allU_le its (xs.take k)
      have h3 : its.length = nv := by rw [← HLa.out, List.length_map, HNv.out]
      rw [List.length_map] at h1
      rw [List.length_take] at h2
      have h4 : xs.length = nx := by rw [← HLx.out, List.length_map, HNx.out]
      omega
    clear hP hRA hAm hAo hRF hFm hFo hRN t1 t2 t3 hi2 hf2 hn2 hpw hpr hK hmi
    by_cases hlt : k < nx
    · have hlt' : (k : Int) < (nx : Int) := by omega
      have hkl : k < lx.length := by rw [← HNx.out]; exact hlt
      obtain ⟨bx, ox, rfl, hcx, hSx, hBx⟩ := HCx.out k hkl
      have hcw := HK.out.cell hcx (by simp)
      have hSw := hSx.kept HK.out (by simp)
      have HKpl := HK
      have hmem : lx[k] ∈ lx := List.getElem_mem hkl
      have hxk : k < xs.length := by rw [← HLx.out, List.length_map]; exact hkl
      have h2k : lx[k].2 = xs[k] := by
        have h1 : (lx.map (·.2))[k]? = xs[k]? := by rw [HLx.out]
        rw [List.getElem?_map, List.getElem?_eq_getElem hkl, List.getElem?_eq_getElem hxk] at h1
        exact Option.some.inj h1
      have htk : xs.take (k + 1) = xs.take k ++ [lx[k].2] := by rw [h2k]; exact List.take_succ_eq_append_getElem hxk
      obtain ⟨e, he⟩ : ∃ e, e = lx[k] := ⟨_, rfl⟩
      rw [← he] at hcx hSx hBx hcw hSw hmem htk
      obtain ⟨ve, be⟩ := e
      simp only at hcx hSx hBx hcw hSw htk
      obtain ⟨ae, ce, hve, -⟩ := id hSw
      obtain ⟨me, hme⟩ : ∃ n, n = be.length := ⟨_, rfl⟩
      rw [← hme] at hve
      subst hve
      have HCw := hide hcx
      have HTk := hide htk
      have HMem := hide hmem
      have HSx := hide hSx
      have HBx := hide hBx
      have RA := rowS_old HRA.out HK.out (fun y hy => HAll.out y (HAo.out y hy))
      obtain ⟨r, hr⟩ : ∃ r, r = fdU (lA.map (·.2)) be := ⟨_, rfl⟩
      have HFd := hide (rfind_any p2 (.slice ai mi ci) lA (.slice ae me ce) be r wr HP.out.c0 (lists_big RA (by omega)) hSw hBx (by omega) hr)
      rw [HAm.out] at hr
      have HR := hide hr
      clear hcx hSx hBx hmem htk he hme RA hr h2k hxk
      by_cases hin : be ∈ allU its (xs.take k)
      · have hr0 : ¬ r < 0 := by rw [HR.out]; unfold fdU; rw [if_pos hin]; omega
        have hdr : decide (r < 0) = false := decide_eq_false hr0
        have HIn := hide hin
        clear hin
        go_wp2_with fail
        refine HFd.out.mono ?_
        rintro ee w3 ⟨rfl, K3⟩
        have HK3 := hide K3
        have HRN3 := hide (HRN.out.kept K3 (by simp))
        clear HFd K3
        have hnl : (nsU its (xs.take k)).length ≤ 1000 := by rw [nsU_len, List.length_take]; omega
        go_wp2_with (at_builtin; refine wpList_append_rowi rfl (.tmp 58) (.tmp 60) rfl w.heap.size (.slice an mn cn) _ rfl HRN3.out r rfl (by omega) (HK.out.trans HK3.out).size ?_; intro a4 m4 c4 w4 R4 S4)
        go_roundw
        case rel =>
          have hown : ∀ j ∈ (Value.slice an mn cn).ownBlock.toList, (Value.slice an mn cn).ownBlock = some j := fun j hj => by simpa [Option.mem_toList] using hj
          have hs3 := HK3.out.size
          have hs4 := S4.1.size
          refine ⟨k + 1, by omega, by go_num, a4, m4, c4, af, mf, cf, rfl, rfl, .slice ai mi ci, lA, lf, (HP.out.kept HK3.out (by simp)).kept S4.1 (fun hm => HN2.out p2 (hown p2 hm) rfl), (HRA.out.kept HK3.out (by simp)).kept S4.1 (fun j hj hm => HT2.out j hj (hown j hm)), ?_, HAo.out, (HRF.out.kept HK3.out (by simp)).kept S4.1 (fun j hj hm => HT3.out j hj (hown j hm)), ?_, HFo.out, ?_, HT1.out, ?_, ?_, HI2.out, HF2.out, ?_, HPw.out, by have := HPr.out; omega, (HK.out.trans HK3.out).then S4.1 (fun j hj => .inr (HRN.out.lt (hown j hj)).1)⟩
          · rw [HTk.out, allU_snoc, insU_old HIn.out]; exact HAm.out
          · rw [HTk.out, newU_snoc, if_pos HIn.out]; exact HFm.out
          · have e : nsU its (xs.take (k + 1)) = nsU its (xs.take k) ++ [r] := by
              rw [HTk.out, nsU_snoc, HR.out]
              unfold fdU
              rw [if_pos HIn.out]
            rw [e]
            exact R4
          · exact (HT2.out.symm.step S4 (fun j hj => by have := HRA.out.lt hj; omega)).symm
          · exact (HT3.out.symm.step S4 (fun j hj => by have := HRF.out.lt hj; omega)).symm
          · intro j hj e
            rcases S4.2 j hj with h1 | h1
            · exact HN2.out j h1 e
            · have := HPr.out; omega
        case measure => simp [intOf]; omega
      · have hr0 : r = -1 := by rw [HR.out]; unfold fdU; rw [if_neg hin]
        have HIn := hide hin
        subst hr0
        clear hin
        go_wp2_with fail
        refine HFd.out.mono ?_
        rintro ee w3 ⟨rfl, K3⟩
        have HK3 := hide K3
        have HP3 := hide (HP.out.kept K3 (by simp))
        have hc3 := HP3.out.c0
        have hci3 := K3.cell hcw (by simp)
        have hca3 : ∀ o, (w3.alloc o).cell? ⟨p2, 0, none⟩ = some (.slice ai mi ci) := fun o => (World.cell?_alloc_lt _ _ _ (by have := HPr.out; have := HK3.out.size; show p2 < _; omega)).trans hc3
        have hcia : ∀ o, (w3.alloc o).cell? ⟨bx, ox + k, none⟩ = some (.slice ae me ce) := fun o => (World.cell?_alloc_lt _ _ _ (World.block_lt_of_cell? _ _ hci3)).trans hci3
        have HRA3 := hide (HRA.out.kept K3 (by simp))
        have HRF3 := hide (HRF.out.kept K3 (by simp))
        have HRN3 := hide (HRN.out.kept K3 (by simp))
        have HCx3 := hide hci3
        have HHd : Hid (w.heap.size ≤ w3.heap.size) := hide (HK.out.trans HK3.out).size
        have hlAm : (lA.map (·.1)).length ≤ 1000000 := by rw [List.length_map]; omega
        clear HFd K3 hcw
        go_wp2_with fail
        go_region_law ((refine step_rowv (by rfl) (.tmp 42) (.tmp 47) (by rfl) w.heap.size (.slice ai mi ci) (lA.map (·.1)) (by rfl) (HRA3.out.kept (((Kp.refl [] w3).alloc _).drew) (by simp)) hlAm (.slice ae me ce) rfl w3.heap.size (by rfl) (by exact cell_of_one (heap_alloc_new w3 _)) (Nat.le_trans HHd.out (((Kp.refl [] w3).alloc _).drew).size) ?_; intro a5 m5 c5 w5 hm5 R5 S5; have P5 : RLi w5 p2 (.slice ai mi ci) := (HP3.out.kept (((Kp.refl [] w3).alloc _).drew) (by simp)).kept S5.1 (fun hm => HI2.out p2 (by simpa [Option.mem_toList] using hm) rfl); have hc5 := P5.c0; have hf5 := P5.f 0))
        all_goals
          have st := S5.after (((Kp.refl [] w3).alloc (.cells #[.slice ae me ce] 22)).drew)
          obtain ⟨m6, hm6⟩ : ∃ m, m = lA.length + 1 := ⟨_, rfl⟩
          have hmm : m5 = m6 := by rw [hm6, hm5, List.length_map]
          rw [← hm6]
          subst hmm
          obtain ⟨w6, hw6⟩ : ∃ y, y = w5.setCell ⟨p2, 0, none⟩ (.slice a5 m5 c5) := ⟨_, rfl⟩
          rw [← hw6]
          have hown : ∀ j ∈ (Value.slice ai mi ci).ownBlock.toList, (Value.slice ai mi ci).ownBlock = some j := fun j hj => by simpa [Option.mem_toList] using hj
          have P6 : RLi w6 p2 (.slice a5 m5 c5) := by rw [hw6]; exact P5.set _
          have k6 : Kp [p2] w5 w6 := by rw [hw6]; exact kp_set w5 p2 0 _
          have hs3 := HK3.out.size
          have hs5 := st.1.size
          have hpr := HPr.out
          have K6 : Kp [] w w6 := ((HK.out.trans HK3.out).then st.1 (fun j hj => .inr (HRA.out.own j (hown j hj)))).then k6 (fun j hj => .inr (by simp at hj; have := HPw.out; omega))
          have o5 : ∀ j, (Value.slice a5 m5 c5).ownBlock = some j → j ≠ p2 := fun j hj e => by
            rcases st.2 j hj with h1 | h1
            · exact HI2.out j h1 e
            · omega
          have RA6 : RowV w6 w.heap.size (.slice a5 m5 c5) (lA.map (·.1) ++ [.slice ae me ce]) := R5.kept k6 (fun j hj hm => by simp at hm; exact o5 j hj hm)
          have RF6 : RowV w6 w.heap.size (.slice af mf cf) (lf.map (·.1)) := (HRF3.out.kept st.1 (fun j hj hm => HT1.out.symm j hj (hown j hm))).kept k6 (fun j hj hm => by simp at hm; exact HF2.out j hj hm)
          have RN6 : RowI w6 w.heap.size (.slice an mn cn) (nsU its (xs.take k)) := (HRN3.out.kept st.1 (fun j hj hm => HT2.out.symm j hj (hown j hm))).kept k6 (fun j hj hm => by simp at hm; exact HN2.out j hj hm)
          have T1 : Two (.slice a5 m5 c5) (.slice af mf cf) := HT1.out.step st (fun j hj => HRF3.out.lt hj)
          have T2 : Two (.slice a5 m5 c5) (.slice an mn cn) := HT2.out.step st (fun j hj => (HRN3.out.lt hj).2)
          have hci6 := K6.cell HCw.out (by simp)
          have hsz6 : w6.heap.size = w5.heap.size := by rw [hw6]; simp [World.setCell]
          have HP6 := hide P6
          have HK6 := hide K6
          have HO5 := hide o5
          have HRA6 := hide RA6
          have HRF6 := hide RF6
          have HRN6 := hide RN6
          have HU1 := hide T1
          have HU2 := hide T2
          have HM6 : Hid (m5 = lA.length + 1) := hide hm6
          have HS6 : Hid (p2 < w6.heap.size) := hide (by omega)
          have hlfl : (lf.map (·.1)).length ≤ 1000000 := by
            have h1 := congrArg List.length HFm.out
            rw [List.length_map] at h1
            have h2 := newU_le its (xs.take k)
            rw [List.length_take] at h2
            rw [List.length_map]
            omega
          clear R5 S5 st P5 P6 k6 K6 o5 RA6 RF6 RN6 T1 T2 hc5 hf5 hc3 hci3 hca3 hcia hsz6 hm5 hm6 hw6 hown
          go_wp2_with (
            at_builtin
            refine wpList_rowv1 rfl (.tmp 51) (.tmp 56) rfl (.slice af mf cf) (lf.map (·.1)) rfl HRF6.out HK6.out.size hlfl (.slice ae me ce) rfl rfl ?_
            intro a7 m7 c7 w7 hm7 R7 S7
            clear hm7
            refine Hid.out ?_)
          have hown : ∀ j ∈ (Value.slice af mf cf).ownBlock.toList, (Value.slice af mf cf).ownBlock = some j := fun j hj => by simpa [Option.mem_toList] using hj
          have hs7 := S7.1.size
          have HP7 := hide (HP6.out.kept S7.1 (fun hm => HF2.out p2 (hown p2 hm) rfl))
          have HRA7 := hide (HRA6.out.kept S7.1 (fun j hj hm => HU1.out j hj (hown j hm)))
          have HRN7 := hide (HRN6.out.kept S7.1 (fun j hj hm => HT3.out.symm j hj (hown j hm)))
          have HK7 := hide (HK6.out.then S7.1 (fun j hj => .inr (HRF6.out.own j (hown j hj))))
          have HV1 : Hid (Two (.slice a5 m5 c5) (.slice a7 m7 c7)) := hide ((HU1.out.symm.step S7 (fun j hj => HRA6.out.lt hj)).symm)
          have HV3 : Hid (Two (.slice a7 m7 c7) (.slice an mn cn)) := hide (HT3.out.step S7 (fun j hj => (HRN6.out.lt hj).2))
          have HO7 : Hid (∀ j, (Value.slice a7 m7 c7).ownBlock = some j → j ≠ p2) := hide (fun j hj e => by
            rcases S7.2 j hj with h1 | h1
            · exact HF2.out j h1 e
            · have := HS6.out; omega)
          have HR7 := hide R7
          have HS7 : Hid (p2 < w7.heap.size) := hide (by have := HS6.out; omega)
          have hnl : (nsU its (xs.take k)).length ≤ 1000 := by rw [nsU_len, List.length_take]; omega
          clear R7 S7 hown hci6
          refine hide ?_
          go_wp2_with (at_builtin; refine wpList_append_rowi rfl (.tmp 58) (.tmp 60) rfl w.heap.size (.slice an mn cn) _ rfl HRN7.out (mi : Int) rfl (by omega) HK7.out.size ?_; intro a8 m8 c8 w8 R8 S8)
          go_roundw
          case rel =>
            have hown : ∀ j ∈ (Value.slice an mn cn).ownBlock.toList, (Value.slice an mn cn).ownBlock = some j := fun j hj => by simpa [Option.mem_toList] using hj
            have hs8 := S8.1.size
            refine ⟨k + 1, by omega, by go_num, a8, m8, c8, a7, m7, c7, rfl, rfl, .slice a5 m5 c5, lA ++ [(.slice ae me ce, be)], lf ++ [(.slice ae me ce, be)], HP7.out.kept S8.1 (fun hm => HN2.out p2 (hown p2 hm) rfl), ?_, ?_, fun y hy => ?_, ?_, ?_, fun y hy => ?_, ?_, HV1.out, ?_, ?_, HO5.out, HO7.out, ?_, HPw.out, by have := HS7.out; omega, HK7.out.then S8.1 (fun j hj => .inr (HRN.out.lt (hown j hj)).1)⟩
            · rw [List.map_append]; exact HRA7.out.kept S8.1 (fun j hj hm => HU2.out j hj (hown j hm))
            · rw [HTk.out, allU_snoc, insU_new HIn.out, List.map_append, HAm.out]; rfl
            · rcases List.mem_append.1 hy with hy | hy
              · exact HAo.out y hy
              · obtain rfl : y = (.slice ae me ce, be) := by simpa using hy
                exact .inr HMem.out
            · rw [List.map_append]; exact HR7.out.kept S8.1 (fun j hj hm => HV3.out j hj (hown j hm))
            · rw [HTk.out, newU_snoc, if_neg HIn.out, List.map_append, HFm.out]; rfl
            · rcases List.mem_append.1 hy with hy | hy
              · exact HFo.out y hy
              · obtain rfl : y = (.slice ae me ce, be) := by simpa using hy
                exact HMem.out
            · have e : nsU its (xs.take (k + 1)) = nsU its (xs.take k) ++ [(mi : Int)] := by
                rw [HTk.out, nsU_snoc, idx_none HIn.out, ← HAm.out, HMi.out, List.length_map, List.length_map]
              rw [e]
              exact R8
            · exact (HU2.out.symm.step S8 (fun j hj => HRA7.out.lt hj)).symm
            · exact (HV3.out.symm.step S8 (fun j hj => HR7.out.lt hj)).symm
            · intro j hj e
              rcases S8.2 j hj with h1 | h1
              · exact HN2.out j h1 e
              · have := HS7.out; omega
          case measure => simp [intOf]; omega
    · obtain rfl : k = nx := by omega
      have hlt' : ¬ (k : Int) < (k : Int) := by omega
      have e : xs.take k = xs := List.take_of_length_le (by rw [← HLx.out, List.length_map, HNx.out]; omega)
      rw [e] at HFm HRN
      clear e
      go_wp2_with fail
      go_ret2
      exact ⟨an, mn, cn, af, mf, cf, rfl, HRN.out, ⟨lf, rowS_old HRF.out HK.out (fun y hy => HAll.out y (.inr (HFo.out y hy))), HFm.out, HFo.out⟩, HK.out⟩
end Go.Proofs.YtillhpgdlmeajaaGreatDoor

/-
  Arguments of the laws of keys: slices of numbers.
-/
namespace Go.Proofs.YtillhpgdlmeajaaGreatDoor
open Go.RowKit
open Go.Proofs
open Go.Deep Go.ChangeShapes Go.WideShapes
def IntsK (w : World) (v : Value) (l : List Int) : Prop :=
  ∃ ao c, v = .slice ao l.length c ∧ l.length ≤ 9223372036854775807 ∧ ∀ i (h : i < l.length), ∃ b off, ao = some ⟨b, off, none⟩ ∧ w.cell? ⟨b, off + i, none⟩ = some (.int .i64 l[i])
theorem IntsK.kept {w w' : World} {v : Value} {l : List Int} (h : IntsK w v l) (k : Kp [] w w') : IntsK w' v l := by
  obtain ⟨ao, c, rfl, h1, h2⟩ := h
  refine ⟨ao, c, rfl, h1, fun i hi => ?_⟩
  obtain ⟨b, off, e, h3⟩ := h2 i hi
  exact ⟨b, off, e, k.cell h3 (by simp)⟩
section
variable {H : Type} {enc : TypeId × Value → H} {w : World}
end
end Go.Proofs.YtillhpgdlmeajaaGreatDoor

/-
  Ledgers whose power may go: Add, Publish, what a crash leaves.
-/
namespace Go.Proofs.YtillhpgdlmeajaaGreatDoor
open Go.RowKit
open Go.Proofs
set_option linter.unusedVariables false
/-- records rs stand on the disk, power goes at the a-th call. -/
def upL (rs : List (List Int)) (a : Int) : Dk := ⟨layP rs, (layP rs).length, 1048576, a, false⟩
/-- power went while r was added. -/
def dnL (rs : List (List Int)) (r : List Int) : Dk := ⟨layP (rs ++ [r]), (layP rs).length, 1048576, 0, true⟩
/-- the items its stand on the disk; und is the batch that was under way when power went. -/
structure Ld (d : Dk) (its und : List (List Int)) (B : Nat) : Prop where
  ex : ∃ rs, gatU [] rs = some its ∧ (∀ r ∈ rs, Bs r ∧ r.length ≤ 65535) ∧ (layP rs).length ≤ B ∧ ((und = [] ∧ ∃ a, 0 ≤ a ∧ d = upL rs a) ∨ (und ≠ [] ∧ d = dnL rs (batU und)))
  nd : (its ++ und).Nodup
  ub : ∀ x ∈ und, Bs x ∧ x.length ≤ 65535
  us : (batU und).length ≤ 65535
  few : (its ++ und).length ≤ 256
theorem Ld.more {d : Dk} {its und : List (List Int)} {B B' : Nat} (h : Ld d its und B) (hb : B ≤ B') : Ld d its und B' := by
  obtain ⟨rs, h1, h2, h3, h4⟩ := h.ex
  exact ⟨⟨rs, h1, h2, by omega, h4⟩, h.nd, h.ub, h.us, h.few⟩
section
variable {w0 w : World} {l pd pk : Nat} {S : LS} {f : Fps}
end
end Go.Proofs.YtillhpgdlmeajaaGreatDoor

/-
  Arguments of the law LedgerPlays: slices of asks, each a kind and a slice of numbers.
-/
namespace Go.Proofs.YtillhpgdlmeajaaGreatDoor
open Go.RowKit
open Go.Proofs
open Go.Deep Go.ChangeShapes Go.WideShapes
set_option linter.unusedVariables false
/-- one ask as data. -/
structure AskU where
  kind : Int
  v : Value
  ys : List Int
def AskUAt (w : World) (b o : Nat) (x : AskU) : Prop :=
  w.rangeAt b o [.int .i64 x.kind, x.v] ∧ Ints w x.v x.ys
def AskUs (w : World) (v : Value) (l : List AskU) : Prop :=
  ∃ ao c, v = .slice ao l.length c ∧ l.length ≤ 9223372036854775807 ∧ ∀ i (h : i < l.length), ∃ b off, ao = some ⟨b, off, none⟩ ∧ AskUAt w b (off + i * 2) l[i]
theorem AskUAt.kept {w w' : World} {b o : Nat} {x : AskU} (h : AskUAt w b o x) (k : Kp [] w w') : AskUAt w' b o x :=
  ⟨fun j u hu => k.cell (h.1 j u hu) (by simp), h.2.kept k⟩
theorem AskUs.kept {w w' : World} {v : Value} {l : List AskU} (h : AskUs w v l) (k : Kp [] w w') : AskUs w' v l := by
  obtain ⟨ao, c, rfl, h1, h2⟩ := h
  refine ⟨ao, c, rfl, h1, fun i hi => ?_⟩
  obtain ⟨b, off, e, h3⟩ := h2 i hi
  exact ⟨b, off, e, h3.kept k⟩
theorem Tryz.askUFields : ∃ f0 f1, Tryz.prog.underlying 117 = some (.struct #[f0, f1]) ∧ (f0.offset = 0 ∧ f1.offset = 1) ∧ (f0.type = 3 ∧ f1.type = 35) :=
  ⟨_, _, Tryz.underlying117, ⟨rfl, rfl⟩, ⟨rfl, rfl⟩⟩
theorem Tryz.cellsAskU : Tryz.prog.cellsOf 117 = 2 := by kernel_rfl
theorem Tryz.cellsIntU : Tryz.prog.cellsOf 3 = 1 := by kernel_rfl
theorem Tryz.cellsSlU : Tryz.prog.cellsOf 35 = 1 := by kernel_rfl
section
variable {H : Type} {enc : TypeId × Value → H} {w : World}
theorem askU1_of_trod {a : Addr} {cs : List Value} {n : Nat} {x : DataW H × List MemPlace} (hc : w.cells? 0 a 2 = some cs) (h : DataW.trod enc Tryz.prog w 0 (fun _ => true) true n 117 cs = some x) :
    a.spot = none ∧ ∃ d, AskUAt w a.block a.off d := by
  obtain ⟨f0, f1, hu, ⟨o0, o1⟩, ⟨t0, t1⟩⟩ := Tryz.askUFields
  obtain ⟨y0, y1, m, _, hl, h0, h1⟩ := trod_struct2 hu h
  obtain ⟨_, hlen, hcell⟩ := World.cells?_some hc
  rw [o0, t0, Tryz.cellsIntU] at h0
  rw [o1, t1, Tryz.cellsSlU] at h1
  match cs, hlen with
  | [c0, c1], _ =>
    simp only [List.drop_zero, List.drop_succ_cons, List.take_succ_cons, List.take_zero] at h0 h1
    obtain ⟨x0, e0, _, _⟩ := DataW.trod_int Tryz.underlying3 h0
    obtain ⟨bs, hs⟩ := ints_of_trod h1
    simp only [List.cons.injEq, and_true] at e0
    subst e0
    obtain ⟨b, off, spot⟩ := a
    have k0 := hcell 0 (by omega)
    have hspot : ((⟨b, off, spot⟩ : Addr).add 0).spot = none := World.cell?_spot (v := .int .i64 x0) (by simpa using k0)
    have hspot' : spot = none := by rw [Addr.add_zero'] at hspot; exact hspot
    subst hspot'
    refine ⟨rfl, ⟨x0, c1, bs⟩, fun j u hu => ?_, hs⟩
    have hj : j < 2 := by have := (List.getElem?_eq_some_iff.1 hu).1; simpa using this
    have kj := hcell j (by omega)
    rw [Addr.add_lit] at kj
    rw [kj]
    exact hu
theorem askU_of_trod {v : Value} {fuel : Nat} {x : DataW H × List MemPlace} (h : DataW.trod enc Tryz.prog w 0 (fun _ => true) true fuel 40 [v] = some x) : ∃ l, AskUs w v l := by
  rcases open_slice Tryz.underlying40 h with ⟨hcs, _⟩ | ⟨a, len, cap, m, n, D, Pl, hcs, _, hl, hm, hmm, _, hx⟩
  · simp only [List.cons.injEq, and_true] at hcs
    subst hcs
    exact ⟨[], none, 0, rfl, by simp, fun i hi => by cases hi⟩
  · simp only [List.cons.injEq, and_true] at hcs
    subst hcs
    simp only [if_true] at hmm
    subst hmm
    rw [Tryz.cellsAskU] at hx
    have key : ∀ i, i < len → ∃ d, (a.add (i * 2)).spot = none ∧ AskUAt w (a.add (i * 2)).block (a.add (i * 2)).off d := fun i hi => by
      obtain ⟨cs', h1, h2⟩ := hx i (by omega)
      obtain ⟨e, d, hd⟩ := askU1_of_trod h1 h2
      exact ⟨d, e, hd⟩
    have inst : Inhabited AskU := ⟨⟨0, .slice none 0 0, []⟩⟩
    obtain ⟨F, hF⟩ := @choose_lt AskU inst len (fun i d => (a.add (i * 2)).spot = none ∧ AskUAt w (a.add (i * 2)).block (a.add (i * 2)).off d) key
    have hlen : ((List.range len).map F).length = len := by simp
    refine ⟨(List.range len).map F, some a, m, by rw [hlen], by unfold maxLen at hm; rw [hlen]; omega, fun i hi => ?_⟩
    rw [hlen] at hi
    obtain ⟨s0, _⟩ := hF 0 (by omega)
    obtain ⟨si, hA⟩ := hF i hi
    obtain ⟨b, off, spot⟩ := a
    have hspot : spot = none := by simpa [Addr.add] using s0
    subst hspot
    rw [Addr.add_lit] at hA
    have hg : ((List.range len).map F)[i]'(by rw [hlen]; exact hi) = F i := by simp
    rw [hg]
    exact ⟨b, off, rfl, hA⟩
end
end Go.Proofs.YtillhpgdlmeajaaGreatDoor
