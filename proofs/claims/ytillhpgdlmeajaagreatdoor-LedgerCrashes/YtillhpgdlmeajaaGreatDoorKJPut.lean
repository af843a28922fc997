/-
  The contracts of package journal: Put, Sync, Add, Count.
-/
import Derived.Test.YtillhpgdlmeajaaGreatDoorKJOpen
import Derived.Test.YtillhpgdlmeajaaGreatDoorKRGrows
namespace Go.Proofs.YtillhpgdlmeajaaGreatDoor
open Go.ChangeShapes Go.WideShapes Go.ChangeAt Go.RowKit
open Go.Proofs
open Go.Deep
set_option linter.unusedVariables false

theorem Jr.c1 {w : World} {j p : Nat} {n : Int} (h : Jr w j p n) : w.cell? ⟨j, 1, none⟩ = some (.int .i64 n) := by rw [cell_of_row w j 1 _ _ _ h]; rfl
theorem Jr.c0 {w : World} {j p : Nat} {n : Int} (h : Jr w j p n) : w.cell? ⟨j, 0, none⟩ = some (.pointer (some ⟨p, 0, none⟩)) := by rw [cell_of_row w j 0 _ _ _ h]; rfl
theorem Jr.f {w : World} {j p : Nat} {n : Int} (h : Jr w j p n) (i : Nat) : w.frozen? ⟨j, i, none⟩ = false := by
  unfold World.frozen?
  unfold Jr at h
  simp [h]
theorem Jr.s1 {w : World} {j p : Nat} {n : Int} (h : Jr w j p n) (m : Int) : Jr (w.setCell ⟨j, 1, none⟩ (.int .i64 m)) j p m := by
  have := set_at h 1 (.int .i64 m)
  simpa [Jr] using this
theorem jsync_any {w0 w : World} {p j n : Nat} {v : Value} {d d' : Dk} (h : Jn w0 w p v d j n) (er : Bool) (he : d.sync = (er, d')) (en : Int) (hn : en = if er then 0 else 13) : Calls Tryz.prog 94 #[.pointer (some ⟨j, 0, none⟩)] w fun e w' => e = .returned (.int .i64 en) ∧ Jn w0 w' p v d' j n ∧ JSt p j w v w' v := by
  have hc := h.jr.c0
  have HH := hide h
  have HS := hide (nw_sync h.nw er he en hn)
  clear h he hn
  go_enter Tryz.func94, Tryz.ntmps94
  go_wp2_with fail
  refine HS.out.mono ?_
  rintro ee w1 ⟨rfl, N1, T1⟩
  have HJ := hide (HH.out.disk N1 T1)
  have HT := hide (T1.jst (j := j))
  clear N1 T1 HS hc
  go_wp2_with fail
  go_ret
  exact ⟨rfl, HJ.out, HT.out⟩
theorem jput_long {w : World} {j : Nat} {vb : Value} {b : List Int} (hS : Sl w vb b) (hl : 65535 < b.length) : Calls Tryz.prog 93 #[.pointer (some ⟨j, 0, none⟩), vb] w fun e w' => e = .returned (.int .i64 3) ∧ w' = w := by
  obtain ⟨ab, cb, rfl, -⟩ := hS
  have hl' : (65535 : Int) < (b.length : Int) := by omega
  go_enter Tryz.func93, Tryz.ntmps93
  go_wp2_with fail
  go_ret
  exact ⟨rfl, rfl⟩
set_option maxRecDepth 100000 in
set_option maxHeartbeats 4000000 in
theorem jput_any {w0 w : World} {p j n : Nat} {v : Value} {d d' : Dk} {vb : Value} {b : List Int} (h : Jn w0 w p v d j n) (hS : Sl w vb b) (hB : Bs b) (hl : b.length ≤ 65535) (hn : n ≤ 1000000) (er : Bool) (he : d.app (recP b) = (er, d')) (en : Int) (hen : en = if er then 0 else 13) (n' : Nat) (hn' : n' = if er then n + 1 else n) :
    Calls Tryz.prog 93 #[.pointer (some ⟨j, 0, none⟩), vb] w fun e w' => e = .returned (.int .i64 en) ∧ ∃ v', Jn w0 w' p v' d' j n' ∧ JSt p j w v w' v' := by
  have HS : Hid (∀ w', Kp [] w.drew w' → Sl w' vb b) := fun w' k => hS.kept ((kp_drew w).trans k) (by simp)
  have HJ : Hid (∀ w', Kp [] w.drew w' → w'.heap[j]? = some (.cells #[.pointer (some ⟨p, 0, none⟩), .int .i64 n] 149 (0, 0))) := fun w' k => ((kp_drew w).trans k).heap h.jr (by simp)
  have HH := hide h
  have HB := hide hB
  have HL := hide hl
  have HE := hide he
  have HEN := hide hen
  have HN' := hide hn'
  obtain ⟨ab, cb, hvb, -⟩ := hS
  obtain ⟨nb, hnb⟩ : ∃ n, n = b.length := ⟨_, rfl⟩
  rw [← hnb] at hvb hl
  have hl' : ¬ (65535 : Int) < (nb : Int) := by omega
  subst hvb
  clear h hB he hen hn' hnb hl
  go_enter Tryz.func93, Tryz.ntmps93
  go_wp2_with fail
  refine region_grow_tail 6 Tryz.mixed [Is (.pointer (some ⟨j, 0, none⟩)), Is (.pointer (some ⟨j, 0, none⟩)), Is (.pointer (some ⟨j, 0, none⟩)), Is (.pointer (some ⟨p, 0, none⟩)), Is (.slice ab nb cb), SlT ((recP b))] [[(0, none)], [(9, some 0)], [(10, some 1)], [(11, some 2)], [(1, none)], [(13, some 4)]] (by kernel_rfl) ?_ ?_ ?_
  all_goals try simp only [List.take_succ_cons, List.take_zero, List.drop_succ_cons, List.drop_zero]
  · simp only [List.mem_cons, List.not_mem_nil, or_false]
    intro R hR
    rcases hR with rfl | rfl | rfl | rfl | rfl | rfl <;> first | exact stable_is _ | exact stable_sl _
  · refine steps_cons (fun a w hk hn => ?_) ?_
    · have h0 : a.eval (.tmp 0) = .pointer (some ⟨j, 0, none⟩) := hn.1
      clear hn
      refine wants_plain rfl ?_
      exact grown_move (.tmp 0) rfl h0
    refine steps_cons (fun a w hk hn => ?_) ?_
    · have h9 : a.eval (.tmp 9) = .pointer (some ⟨j, 0, none⟩) := hn.1
      clear hn
      refine wants_plain rfl ?_
      refine grown_run (v := .pointer (some ⟨j, 0, none⟩)) ?_ (Kp.refl _ _) rfl
      obtain ⟨ρ, hρ, hc, hf, hg⟩ := eval_is a
      rw [hρ] at h9 ⊢
      simp [go_sem, h9]
    refine steps_cons (fun a w hk hn => ?_) ?_
    · have h10 : a.eval (.tmp 10) = .pointer (some ⟨j, 0, none⟩) := hn.1
      clear hn
      refine wants_plain rfl ?_
      refine grown_run (v := .pointer (some ⟨j, 0, none⟩)) ?_ (Kp.refl _ _) rfl
      obtain ⟨ρ, hρ, hc, hf, hg⟩ := eval_is a
      rw [hρ] at h10 ⊢
      simp [go_sem, h10]
    refine steps_cons (fun a w hk hn => ?_) ?_
    · have h11 : a.eval (.tmp 11) = .pointer (some ⟨j, 0, none⟩) := hn.1
      clear hn
      refine wants_plain rfl ?_
      refine grown_run (v := .pointer (some ⟨p, 0, none⟩)) ?_ (Kp.refl _ _) rfl
      have hcell : w.cell? ⟨j, 0, none⟩ = some (.pointer (some ⟨p, 0, none⟩)) := by rw [cell_of_row w j 0 _ _ _ (HJ.out w hk)]; rfl
      obtain ⟨ρ, hρ, hc, hf, hg⟩ := eval_is a
      rw [hρ] at h11 ⊢
      simp [go_sem, h11, hcell]
    refine steps_cons (fun a w hk hn => ?_) ?_
    · have h1 : a.eval (.tmp 1) = .slice ab nb cb := hn.1
      clear hn
      refine wants_plain rfl ?_
      exact grown_move (.tmp 1) rfl h1
    refine steps_cons (fun a w hk hn => ?_) ?_
    · have h13 : a.eval (.tmp 13) = .slice ab nb cb := hn.1
      clear hn
      refine wants_plain rfl ?_
      refine grown_call (f := 131) rfl Tryz.func131 (by kernel_rfl) (by kernel_rfl) ?_
      simp only [List.map_toArray, List.map_cons, List.map_nil, h13]
      refine (jlaid_any (.slice ab nb cb) b w (HS.out w hk) HL.out).mono ?_
      rintro e w' ⟨ao, m, c, rfl, R, K⟩
      exact ⟨_, rfl, K, R.sl⟩
    exact trivial
  intro W1 hkW1
  rintro _ rfl
  rintro _ rfl
  rintro _ rfl
  rintro _ rfl
  rintro _ rfl
  intro v14 h14
  refine fin_nil ?_
  simp only [Act.put, List.set_cons_zero, List.set_cons_succ, List.setIfInBounds_toArray]
  have K0 : Kp [] w W1 := (kp_drew w).trans hkW1
  have HJ1 := hide (HH.out.on K0)
  have HA := hide (nw_append HJ1.out.nw h14 (recP_bs HB.out) er HE.out en HEN.out)
  have HK0 := hide K0
  clear h14 hkW1 K0 HS HJ
  go_wp2_with fail
  refine HA.out.mono ?_
  rintro ee w2 ⟨rfl, v2, N2, T2⟩
  have HJ2 := hide (HJ1.out.disk N2 T2)
  have HT2 : Hid (JSt p j w v w2 v2) := (JSt.mid v HK0.out).trans (T2.jst (j := j))
  clear N2 T2 HA
  cases er
  · have e0 : en = 13 := HEN.out
    have HN0 : Hid (n' = n) := HN'.out
    clear HEN HN'
    subst e0
    go_wp2_with fail
    go_ret
    refine ⟨rfl, v2, ?_, HT2.out⟩
    rw [HN0.out]; exact HJ2.out
  · have e0 : en = 0 := HEN.out
    have HN0 : Hid (n' = n + 1) := HN'.out
    clear HEN HN'
    subst e0
    have hc := HJ2.out.jr.c1
    have hf := HJ2.out.jr.f 1
    have hw : IntKind.i64.wrap ((n : Int) + 1) = (n : Int) + 1 := by simp [IntKind.wrap, IntKind.signed, IntKind.bits]; omega
    go_wp2_with fail
    go_ret
    have ks : Kp [j] w2 (w2.setCell ⟨j, 1, none⟩ (.int .i64 ((n : Int) + 1))) := kp_set w2 j 1 _
    refine ⟨rfl, v2, ⟨⟨HJ2.out.nw.dk.kept ks (fun i hi hm => ?_), HJ2.out.nw.new, HJ2.out.nw.kp.then ks (fun i hi => .inr ?_), HJ2.out.nw.arm⟩, ?_, HJ2.out.new⟩, HT2.out.trans ⟨ks.mono (by simp), fun _ h => .inl h⟩⟩
    · simp at hm; subst hm; exact HJ2.out.off hi
    · simp at hi; subst hi; exact HJ2.out.new
    · have := HJ2.out.jr.s1 ((n : Int) + 1)
      rw [HN0.out]; simpa using this
/-- what putAndSync does of two function values. -/
theorem pas_stop {w w1 : World} {vb : Value} {f g : Nat} {j : Nat} {en : Int} {R : World → Prop} (hen : en ≠ 0)
    (hP : Calls Tryz.prog 93 #[.pointer (some ⟨j, 0, none⟩), vb] w fun e w' => e = .returned (.int .i64 en) ∧ R w') :
    Calls Tryz.prog 92 #[vb, .func (.func 93) #[.pointer (some ⟨j, 0, none⟩)] #[], .func (.func 94) #[.pointer (some ⟨j, 0, none⟩)] #[]] w fun e w' => e = .returned (.int .i64 en) ∧ R w' := by
  have HP := hide hP
  clear hP
  go_enter Tryz.func92, Tryz.ntmps92
  go_wp2_with fail
  refine HP.out.mono ?_
  rintro ee w2 ⟨rfl, h2⟩
  have H2 := hide h2
  clear h2 HP
  go_wp2_with fail
  go_ret
  exact ⟨rfl, H2.out⟩
theorem pas_go {w : World} {vb : Value} {j : Nat} {en : Int} {R R' : World → Prop}
    (hP : Calls Tryz.prog 93 #[.pointer (some ⟨j, 0, none⟩), vb] w fun e w' => e = .returned (.int .i64 0) ∧ R w')
    (hS : ∀ w1, R w1 → Calls Tryz.prog 94 #[.pointer (some ⟨j, 0, none⟩)] w1 fun e w' => e = .returned (.int .i64 en) ∧ R' w') :
    Calls Tryz.prog 92 #[vb, .func (.func 93) #[.pointer (some ⟨j, 0, none⟩)] #[], .func (.func 94) #[.pointer (some ⟨j, 0, none⟩)] #[]] w fun e w' => e = .returned (.int .i64 en) ∧ R' w' := by
  have HP := hide hP
  have HS := hide hS
  clear hP hS
  go_enter Tryz.func92, Tryz.ntmps92
  go_wp2_with fail
  refine HP.out.mono ?_
  rintro ee w2 ⟨rfl, h2⟩
  have H2 := hide (HS.out w2 h2)
  clear h2 HP HS
  go_wp2_with fail
  refine H2.out.mono ?_
  rintro ee w3 ⟨rfl, h3⟩
  have H3 := hide h3
  clear h3 H2
  go_wp2_with fail
  go_ret
  exact ⟨rfl, H3.out⟩
theorem add_pas {w : World} {vb : Value} {j : Nat} {en : Int} {R : World → Prop}
    (hP : Calls Tryz.prog 92 #[vb, .func (.func 93) #[.pointer (some ⟨j, 0, none⟩)] #[], .func (.func 94) #[.pointer (some ⟨j, 0, none⟩)] #[]] w fun e w' => e = .returned (.int .i64 en) ∧ R w') :
    Calls Tryz.prog 44 #[.pointer (some ⟨j, 0, none⟩), vb] w fun e w' => e = .returned (.int .i64 en) ∧ R w' := by
  have HP := hide hP
  clear hP
  go_enter Tryz.func44, Tryz.ntmps44
  go_wp2_with fail
  refine HP.out.mono ?_
  rintro ee w2 ⟨rfl, h2⟩
  have H2 := hide h2
  clear h2 HP
  go_wp2_with fail
  go_ret
  exact ⟨rfl, H2.out⟩
theorem jadd_long {w : World} {j : Nat} {vb : Value} {b : List Int} (hS : Sl w vb b) (hl : 65535 < b.length) : Calls Tryz.prog 44 #[.pointer (some ⟨j, 0, none⟩), vb] w fun e w' => e = .returned (.int .i64 3) ∧ w' = w :=
  add_pas (pas_stop (w1 := w) (f := 0) (g := 0) (by decide) (jput_long hS hl))
/-- Add: Put, and then Sync: the first refusal. -/
def Dk.add (d : Dk) (b : List Int) : Bool × Dk := if (d.app b).1 then (d.app b).2.sync else (false, (d.app b).2)
theorem jadd_any {w0 w : World} {p j n : Nat} {v : Value} {d d' : Dk} {vb : Value} {b : List Int} (h : Jn w0 w p v d j n) (hS : Sl w vb b) (hB : Bs b) (hl : b.length ≤ 65535) (hn : n ≤ 1000000) (er : Bool) (he : d.add (recP b) = (er, d')) (en : Int) (hen : en = if er then 0 else 13) (n' : Nat) (hn' : n' = if (d.app (recP b)).1 then n + 1 else n) :
    Calls Tryz.prog 44 #[.pointer (some ⟨j, 0, none⟩), vb] w fun e w' => e = .returned (.int .i64 en) ∧ ∃ v', Jn w0 w' p v' d' j n' ∧ JSt p j w v w' v' := by
  obtain ⟨⟨e1, d1⟩, h1⟩ : ∃ x, d.app (recP b) = x := ⟨_, rfl⟩
  unfold Dk.add at he
  rw [h1] at he hn'
  cases e1
  · rw [if_neg (by simp)] at he
    injection he with e2 e3
    subst e2 e3
    exact add_pas (pas_stop (w1 := w) (f := 0) (g := 0) (by rw [hen]; decide) (jput_any h hS hB hl hn false h1 en hen n' hn'))
  · rw [if_pos rfl] at he
    refine add_pas (pas_go (jput_any h hS hB hl hn true h1 0 rfl n' hn') ?_)
    rintro w1 ⟨v1, J1, T1⟩
    refine (jsync_any J1 er he en hen).mono ?_
    rintro e w2 ⟨rfl, J2, T2⟩
    exact ⟨rfl, v1, J2, T1.trans T2⟩
end Go.Proofs.YtillhpgdlmeajaaGreatDoor
