/-
  The contracts of the reference's disk: call, Append, Sync, Cut, Crash.
-/
import Derived.Test.YthpaablhhfichaaKDDisk
namespace Go.Proofs.Ythpaablhhfichaa
open Go.RowKit
open Go.Proofs

/-- the reference's disk. -/
abbrev DskR := Dsk 55
theorem Dk.cal_fit {d : Dk} (h : d.Fit) : d.cal.2.2.Fit := by
  obtain ⟨e1, e2, e3⟩ := d.cal_bs
  have hh := h.hi
  have hl := h.lo
  refine ⟨⟨by rw [e1, e2]; exact h.ok.syn, by rw [e1, e3]; exact h.ok.fits, by rw [e3]; exact h.ok.lim⟩, ?_, ?_, ?_, by rw [e1]; exact h.bytes⟩
  all_goals unfold Dk.cal
  all_goals split
  · exact hl
  · split
    · split <;> simp only [] <;> omega
    · exact hl
  · exact hh
  · split
    · split <;> simp only [] <;> omega
    · exact hh
  · exact h.dn
  · split
    · split
      · intro _; rfl
      · intro e; exact absurd e (by rename_i hd _ _; exact hd)
    · exact h.dn
set_option maxHeartbeats 1000000 in
theorem rcall_any (p : Nat) (v : Value) (d : Dk) (base : Nat) (w : World) (h : DskR w base p v d) :
    Calls Try.prog 37 #[.pointer (some ⟨p, 0, none⟩)] w fun e w' => e = .returned (.tuple #[.bool d.cal.1, .bool d.cal.2.1]) ∧ DskR w' base p v d.cal.2.2 ∧ Kp [p] w w' := by
  have hc3 := h.here.c3
  have hc4 := h.here.c4
  have f3 := h.here.f 3
  have hhi := h.fit.hi
  have hft := Dk.cal_fit h.fit
  obtain ⟨a, ha⟩ : ∃ a, a = d.arm := ⟨_, rfl⟩
  rw [← ha] at hc3 hhi
  cases hd : d.down
  · rw [hd] at hc4
    by_cases hz : 0 < a
    · obtain ⟨w1, hw1⟩ : ∃ w1, w1 = w.setCell ⟨p, 3, none⟩ (.int .i64 (a - 1)) := ⟨_, rfl⟩
      have h1 : Fv 55 w1 p v (.int .i64 d.syn) (.int .i64 d.lim) (.int .i64 (a - 1)) (.bool d.down) := by rw [hw1]; exact h.here.s3 _
      have c13 := h1.c3
      have c14 := h1.c4
      have f14 := h1.f 4
      rw [hd] at c14
      have hwr : wrap64 (a - 1) = a - 1 := by unfold wrap64; omega
      by_cases ho : a = 1
      · have hcal : d.cal = (false, true, { d with arm := 0, down := true }) := by
          unfold Dk.cal
          rw [if_neg (by rw [hd]; decide), if_pos (by omega), if_pos (by omega)]
        rw [hcal] at hft ⊢
        have FIN : Hid (DskR (w1.setCell ⟨p, 4, none⟩ (.bool true)) base p v { d with arm := 0, down := true } ∧ Kp [p] w (w1.setCell ⟨p, 4, none⟩ (.bool true))) := by
          have K : Kp [p] w (w1.setCell ⟨p, 4, none⟩ (.bool true)) := by rw [hw1]; exact (kp_set w p 3 _).trans (kp_set _ p 4 _)
          have h2 := h1.s4 (.bool true)
          rw [show a - 1 = 0 from by omega] at h2
          exact ⟨h.poke K h2 rfl hft, K⟩
        rw [hw1] at c13 c14 f14 FIN
        have hnz : (a - 1 == 0) = true := by simp; omega
        clear h h1 ha hw1 hd hft hcal ho
        go_enter Try.func37, Try.ntmps37
        go_wp2_with fail
        go_ret2
        exact ⟨rfl, FIN.out⟩
      · have hcal : d.cal = (true, false, { d with arm := a - 1 }) := by
          unfold Dk.cal
          rw [if_neg (by rw [hd]; decide), if_pos (by omega), if_neg (by omega), ha]
        rw [hcal] at hft ⊢
        have FIN : Hid (DskR w1 base p v { d with arm := a - 1 } ∧ Kp [p] w w1) := by
          have K : Kp [p] w w1 := by rw [hw1]; exact kp_set w p 3 _
          exact ⟨h.poke K h1 rfl hft, K⟩
        have hnz : (a - 1 == 0) = false := by simp; omega
        rw [hw1] at c13 c14 f14 FIN
        clear h h1 ha hw1 hd hft hcal ho
        go_enter Try.func37, Try.ntmps37
        go_wp2_with fail
        go_ret2
        exact ⟨rfl, FIN.out⟩
    · have hcal : d.cal = (true, false, d) := Dk.cal_plain hd (by omega)
      rw [hcal] at hft ⊢
      have FIN := hide h
      clear h ha hd hft hcal
      go_enter Try.func37, Try.ntmps37
      go_wp2_with fail
      go_ret2
      exact ⟨rfl, FIN.out, Kp.refl _ _⟩
  · rw [hd] at hc4
    rw [Dk.cal_down hd]
    have FIN := hide h
    clear h ha hd hft
    go_enter Try.func37, Try.ntmps37
    go_wp2_with fail
    go_ret2
    exact ⟨rfl, FIN.out, Kp.refl _ _⟩
theorem Dk.app_not {d : Dk} (b : List Int) (h : (d.cal.1 = false ∧ d.cal.2.1 = false) ∨ d.lim < ((d.bs.length + b.length : Nat) : Int)) : d.app b = (false, d.cal.2.2) := by
  unfold Dk.app
  rw [if_pos]
  rcases h with ⟨h1, h2⟩ | h
  · rw [h1, h2]; rfl
  · simp only [Bool.or_eq_true, decide_eq_true_eq]; exact .inr h
theorem Dk.app_yes {d : Dk} (b : List Int) (h : d.cal.1 = true ∨ d.cal.2.1 = true) (hl : ¬ d.lim < ((d.bs.length + b.length : Nat) : Int)) : d.app b = (d.cal.1, { d.cal.2.2 with bs := d.bs ++ b }) := by
  unfold Dk.app
  rw [if_neg]
  simp only [Bool.or_eq_true, decide_eq_true_eq, not_or]
  refine ⟨?_, hl⟩
  rcases h with h | h <;> rw [h] <;> simp
set_option maxHeartbeats 2000000 in
theorem rappend_any (p : Nat) (v : Value) (d : Dk) (vb : Value) (b : List Int) (base : Nat) (w : World) (h : DskR w base p v d) (hS : Sl w vb b) (hB : Bs b) (hbl : b.length ≤ 1000000) (hb : base ≤ w.heap.size) :
    Calls Try.prog 32 #[.pointer (some ⟨p, 0, none⟩), vb] w fun e w' => e = .returned (.bool (d.app b).1) ∧ ∃ v', DskR w' base p v' (d.app b).2 ∧ DSt p w v w' v' := by
  have HC := hide (rcall_any p v d base w h)
  have HS := hide (fun w' (k : Kp [p] w w') => h.sloff hS k)
  obtain ⟨av, cv, ev⟩ := h.shape
  obtain ⟨ab, cb, rfl, hb1, hb2, _⟩ := hS
  obtain ⟨e1, e2, e3⟩ := d.cal_bs
  obtain ⟨n, hn⟩ : ∃ n, n = d.bs.length := ⟨_, rfl⟩
  obtain ⟨m, hm⟩ : ∃ m, m = b.length := ⟨_, rfl⟩
  obtain ⟨li, hli⟩ : ∃ li, li = d.lim := ⟨_, rfl⟩
  have hnb : (n : Int) ≤ 1048576 := by have h1 := h.fit.ok.fits; have h2 := h.fit.ok.lim; omega
  have hmb : (m : Int) ≤ 1000000 := by omega
  have ny := Dk.app_not (d := d) b
  have yy := Dk.app_yes (d := d) b
  obtain ⟨d1, hd1⟩ : ∃ d1, d1 = d.cal.2.2 := ⟨_, rfl⟩
  obtain ⟨ok, hok⟩ : ∃ ok, ok = d.cal.1 := ⟨_, rfl⟩
  obtain ⟨la, hla⟩ : ∃ la, la = d.cal.2.1 := ⟨_, rfl⟩
  rw [← hd1, ← hok, ← hla] at HC
  rw [← hd1] at e1 e2 e3
  rw [← hok, ← hla, ← hd1, ← hm, ← hn, ← hli] at ny
  rw [← hok, ← hla, ← hd1, ← hm, ← hn, ← hli] at yy
  rw [← hn] at ev
  subst ev
  rw [← hm] at hb1 HS ⊢
  have Hn : Hid (n = d1.bs.length) := by show _ = _; rw [e1]; exact hn
  have Hm := hide hm
  have Hli : Hid (li = d1.lim) := by show _ = _; rw [e3]; exact hli
  have He := hide e1
  clear h hd1 e1 e2 e3 hn hm hli hok hla hb1 hb2 hbl
  by_cases hl : (ok = false ∧ la = false) ∨ li < ((n + m : Nat) : Int)
  · rw [ny hl]
    have hl' : (ok = false ∧ la = false) ∨ ((ok = true ∨ la = true) ∧ (n : Int) + (m : Int) > li) := by
      cases ok <;> cases la
      · exact .inl ⟨rfl, rfl⟩
      all_goals exact .inr ⟨by simp, by rcases hl with ⟨h1, h2⟩ | hl; · simp at h1 h2
                                        · omega⟩
    clear hl ny yy HS
    rcases hl' with ⟨rfl, rfl⟩ | ⟨hx, hl⟩
    · go_enter Try.func32, Try.ntmps32
      go_wp2_with (go_at_call 37; refine HC.out.mono ?_; rintro e w1 ⟨rfl, D1, k1⟩; clear HC; have HD := hide D1; clear D1)
      refine region_read Try.mixed (by kernel_rfl) ?_
      repeat (first | go_big_quiet_skip | (go_big_quiet_want; go_big_quiet_op; go_big_quiet_on))
      refine wpQuiet_nil ?_
      go_wp2_with fail
      go_ret
      exact ⟨rfl, _, HD.out.keptN (kp_drew _), (DSt.one _ k1).trans (DSt.mid _ (kp_drew _))⟩
    · cases ok <;> cases la
      · simp at hx
      all_goals
        go_enter Try.func32, Try.ntmps32
        go_wp2_with (go_at_call 37; refine HC.out.mono ?_; rintro e w1 ⟨rfl, D1, k1⟩; clear HC; have x0 := D1.here.c0; have x2 := D1.here.c2; rw [← Hli.out] at x2; have HD := hide D1; clear D1)
        refine region_read Try.mixed (by kernel_rfl) ?_
        repeat (first | go_big_quiet_skip | (go_big_quiet_want; go_big_quiet_op; go_big_quiet_on))
        refine wpQuiet_nil ?_
        go_wp2_with fail
        go_ret
        exact ⟨rfl, _, HD.out.keptN (kp_drew _), (DSt.one _ k1).trans (DSt.mid _ (kp_drew _))⟩
  · have hx : ok = true ∨ la = true := by
      cases ok <;> cases la <;> simp at hl ⊢
    have hl2 : ¬ li < ((n + m : Nat) : Int) := fun h => hl (.inr h)
    rw [yy hx hl2]
    rw [← He.out]
    have hl' : ¬ (n : Int) + (m : Int) > li := by omega
    have HM : Hid (((d1.bs.length + b.length : Nat) : Int) ≤ d1.lim) := by have h1 := Hn.out; have h2 := Hm.out; have h3 := Hli.out; show _ ≤ _; omega
    have HB := hide hB
    clear hl hl2 ny yy
    cases ok <;> cases la
    · simp at hx
    all_goals
      go_enter Try.func32, Try.ntmps32
      go_wp2_with (go_at_call 37; refine HC.out.mono ?_; rintro e w1 ⟨rfl, D1, k1⟩; clear HC; have x0 := D1.here.c0; have x2 := D1.here.c2; rw [← Hli.out] at x2; have HD := hide D1; clear D1; have HS1 := hide (HS.out _ k1))
      refine region_read Try.mixed (by kernel_rfl) ?_
      repeat (first | go_big_quiet_skip | (go_big_quiet_want; go_big_quiet_op; go_big_quiet_on))
      refine wpQuiet_nil ?_
      have D2 := hide (HD.out.keptN (kp_drew _))
      have S2 := hide (HS1.out.kept (kp_drew _) (by simp))
      have y0 := D2.out.here.c0
      have sz : Hid (base ≤ w1.drew.heap.size) := by have := k1.size; have := (kp_drew w1).size; show _ ≤ _; omega
      have T2 := hide ((DSt.one (.slice av n cv) k1).trans (DSt.mid _ (kp_drew _)))
      generalize w1.drew = w2 at *
      have ka := (Kp.refl [] w2).alloc (.cells #[] 5)
      have z0 := ka.cell y0 (by simp)
      have R0 : Hid (Row (w2.alloc (.cells #[] 5)) w2.heap.size (.slice (some ⟨w2.heap.size, 0, none⟩) 0 0) []) := row_of_block (bs := []) (Nat.le_refl _) (heap_alloc_new w2 _) rfl (by simp [maxLen])
      have S3 := hide (D2.out.sl.kept ka (by simp))
      have HKA := hide ka
      clear ka
      go_wp2_with (first
        | (at_builtin; refine wpList_append_row rfl (.tmp 34) (.tmp 38) rfl w2.heap.size _ _ rfl R0.out _ d1.bs rfl S3.out (by have := HM.out; have := D2.out.fit.ok.lim; simp; omega) (by simp) ?_; intro ao3 m3 c3 w3 r3 s3; simp only [List.nil_append] at r3; have K3 := hide (R0.out.step HKA.out s3); have R3 := hide r3; have S4 := hide (S2.out.kept K3.out (by simp)); have D4 := hide (D2.out.keptN K3.out); clear r3 s3)
        | (at_builtin; go_loud (refine wpList_append_row rfl (.tmp 39) (.tmp 40) rfl w2.heap.size _ _ rfl R3.out _ b rfl S4.out (by have := HM.out; have := D2.out.fit.ok.lim; omega) K3.out.size ?_; intro ao5 m5 c5 w5 r5 s5; have K5 := hide (R3.out.step K3.out s5); have F5 := D2.out.here.kept K5.out (by simp); have q0 := F5.c0; have qf := F5.f 0; have R5 := hide r5; have HF5 := hide F5; clear F5 r5 s5)))
      go_ret
      have ne := apart_of HF5.out R5.out (by decide)
      refine ⟨rfl, .slice ao5 m5 c5, ⟨HF5.out.s0 _, ?_, D2.out.fit.apps HB.out HM.out, by decide⟩, T2.out.trans ⟨?_, ?_⟩⟩
      · exact owns_rebase (R5.out.kept (kp_set w5 p 0 _) (fun i hi hm => ne (by simp at hm; rw [← hm]; exact hi))) (fun k hk => Nat.le_trans sz.out (R5.out.own k hk))
      · exact (K5.out.mono (by simp)).then (kp_set w5 p 0 _) (fun i hi => .inl (mem_dfp.2 (.inl (by simpa using hi))))
      · exact fun k hk => .inr (R5.out.own k hk)
set_option maxHeartbeats 2000000 in
theorem rsync_any (p : Nat) (v : Value) (d : Dk) (base : Nat) (w : World) (h : DskR w base p v d) :
    Calls Try.prog 34 #[.pointer (some ⟨p, 0, none⟩)] w fun e w' => e = .returned (.bool d.sync.1) ∧ DskR w' base p v d.sync.2 ∧ DSt p w v w' v := by
  have HC := hide (rcall_any p v d base w h)
  obtain ⟨av, cv, ev⟩ := h.shape
  obtain ⟨e1, e2, e3⟩ := d.cal_bs
  have hsy : d.sync = if d.cal.1 then (true, { d.cal.2.2 with syn := d.bs.length }) else (false, d.cal.2.2) := rfl
  obtain ⟨d1, hd1⟩ : ∃ d1, d1 = d.cal.2.2 := ⟨_, rfl⟩
  obtain ⟨ok, hok⟩ : ∃ ok, ok = d.cal.1 := ⟨_, rfl⟩
  obtain ⟨la, hla⟩ : ∃ la, la = d.cal.2.1 := ⟨_, rfl⟩
  rw [← hd1, ← hok, ← hla] at HC
  rw [← hd1] at e1
  rw [← hd1, ← hok, ← e1] at hsy
  rw [← e1] at ev
  obtain ⟨n, hn⟩ : ∃ n, n = d1.bs.length := ⟨_, rfl⟩
  rw [← hn] at ev hsy
  subst ev
  have Hn := hide hn
  clear h hd1 e1 e2 e3 hn hok hla
  cases ok
  · rw [hsy, if_neg (by decide)]
    clear hsy
    go_enter Try.func34, Try.ntmps34
    go_wp2_with (go_at_call 37; refine HC.out.mono ?_; rintro e w1 ⟨rfl, D1, k1⟩; clear HC; have HD := hide D1; clear D1)
    go_ret
    exact ⟨rfl, HD.out, DSt.one _ k1⟩
  · rw [hsy, if_pos rfl]
    clear hsy
    go_enter Try.func34, Try.ntmps34
    go_wp2_with (go_at_call 37; refine HC.out.mono ?_; rintro e w1 ⟨rfl, D1, k1⟩; clear HC; have x0 := D1.here.c0; have x1 := D1.here.c1; have f1 := D1.here.f 1; have D2 := D1.poke (kp_set w1 p 1 (.int .i64 n)) (d' := { d1 with syn := n }) (D1.here.s1 _) rfl (by rw [Hn.out]; exact D1.fit.syncs); have HD := hide D2; clear D1 D2)
    go_ret
    exact ⟨rfl, HD.out, (DSt.one _ k1).trans (DSt.one _ (kp_set _ _ _ _))⟩
/-- Cut as the reference tells it: the number first. -/
def Dk.rcut (d : Dk) (n : Int) : Int × Dk := if n < 0 ∨ (d.bs.length : Int) < n then (1, d) else if d.cal.1 then (0, { d.cal.2.2 with bs := d.bs.take n.toNat, syn := n.toNat }) else (13, d.cal.2.2)
theorem Dk.rcut_up {d : Dk} (h : d.down = false) (n : Int) : d.rcut n = d.cut n := by
  unfold Dk.rcut Dk.cut
  rw [if_neg (show ¬ d.down = true from by rw [h]; decide)]
theorem Dk.rcut_down {d : Dk} (h : d.down = true) (n : Int) : (d.rcut n).2 = d := by
  unfold Dk.rcut
  rw [Dk.cal_down h]
  split
  · rfl
  · rfl
set_option maxHeartbeats 2000000 in
theorem rcut_any (p : Nat) (v : Value) (d : Dk) (n : Int) (base : Nat) (w : World) (h : DskR w base p v d) :
    Calls Try.prog 35 #[.pointer (some ⟨p, 0, none⟩), .int .i64 n] w fun e w' => e = .returned (.int .i64 (d.rcut n).1) ∧ ∃ v', DskR w' base p v' (d.rcut n).2 ∧ DSt p w v w' v' := by
  have hc0 := h.here.c0
  have hrc : d.rcut n = if n < 0 ∨ (d.bs.length : Int) < n then (1, d) else if d.cal.1 then (0, { d.cal.2.2 with bs := d.bs.take n.toNat, syn := n.toNat }) else (13, d.cal.2.2) := rfl
  obtain ⟨av, cv, ev⟩ := h.shape
  obtain ⟨k, hk⟩ : ∃ k, k = d.bs.length := ⟨_, rfl⟩
  rw [← hk] at ev hrc
  subst ev
  by_cases h1 : n < 0
  · rw [hrc, if_pos (.inl h1)]
    have HD := hide h
    clear h hk hrc
    go_enter Try.func35, Try.ntmps35
    go_wp2_with fail
    go_ret
    exact ⟨rfl, _, HD.out, DSt.refl _ _ _⟩
  · by_cases h2 : (k : Int) < n
    · rw [hrc, if_pos (.inr h2)]
      have HD := hide h
      clear h hk hrc
      go_enter Try.func35, Try.ntmps35
      go_wp2_with fail
      go_ret
      exact ⟨rfl, _, HD.out, DSt.refl _ _ _⟩
    · rw [if_neg (by omega)] at hrc
      obtain ⟨j, rfl⟩ := Int.eq_ofNat_of_zero_le (show 0 ≤ n by omega)
      rw [Int.toNat_natCast] at hrc
      have HC := hide (rcall_any p _ d base w h)
      obtain ⟨e1, e2, e3⟩ := d.cal_bs
      obtain ⟨d1, hd1⟩ : ∃ d1, d1 = d.cal.2.2 := ⟨_, rfl⟩
      obtain ⟨ok, hok⟩ : ∃ ok, ok = d.cal.1 := ⟨_, rfl⟩
      obtain ⟨la, hla⟩ : ∃ la, la = d.cal.2.1 := ⟨_, rfl⟩
      rw [← hd1, ← hok, ← hla] at HC
      rw [← hd1] at e1
      rw [← hd1, ← hok, ← e1] at hrc
      have hj : j ≤ d1.bs.length := by rw [e1]; omega
      have HJ := hide hj
      clear h hd1 e1 e2 e3 hok hla hk hj
      cases ok
      · rw [hrc, if_neg (by decide)]
        clear hrc
        go_enter Try.func35, Try.ntmps35
        go_wp2_with (go_at_call 37; refine HC.out.mono ?_; rintro e w1 ⟨rfl, D1, k1⟩; clear HC; have HD := hide D1; clear D1)
        go_ret
        exact ⟨rfl, _, HD.out, DSt.one _ k1⟩
      · rw [hrc, if_pos rfl]
        clear hrc
        go_enter Try.func35, Try.ntmps35
        go_wp2_with (go_at_call 37; refine HC.out.mono ?_; rintro e w1 ⟨rfl, D1, k1⟩; clear HC; have x0 := D1.here.c0; have f0 := D1.here.f 0; have hrun : (∀ w, (Instr.sliceAt 28 (.slice av k cv) none (some (.int .i64 (j : Nat))) none).run Try.prog w = .ok (.slice av j cv) w) := (fun w => run_first av k cv j w (by have := D1.row.room.1; omega) D1.row.room.2); have F2 := D1.here.s0 (.slice av j cv); have x1 := F2.c1; have f1 := F2.f 1; have D3 := D1.cutAt j HJ.out ((kp_set w1 p 0 (.slice av j cv)).trans (kp_set _ p 1 (.int .i64 j))) { d1 with bs := d1.bs.take j, syn := j } rfl (D1.fit.kept j HJ.out) (F2.s1 _); have HD := hide D3; clear D1 F2 D3)
        go_ret
        exact ⟨rfl, _, HD.out.1, (DSt.one _ k1).trans HD.out.2⟩
set_option maxHeartbeats 4000000 in
theorem rcrash_any (p : Nat) (v : Value) (d : Dk) (keep : Int) (base : Nat) (w : World) (h : DskR w base p v d) :
    Calls Try.prog 36 #[.pointer (some ⟨p, 0, none⟩), .int .i64 keep] w fun e w' => e = .returned (.tuple #[]) ∧ ∃ v', DskR w' base p v' (d.crash keep) ∧ DSt p w v w' v' := by
  have ok1 := h.fit.ok.syn
  have ok2 := h.fit.ok.fits
  have ok3 := h.fit.ok.lim
  have hcr := Dk.crash_kept h.fit.ok keep
  have hle := Dk.left_le h.fit.ok keep
  have hc0 := h.here.c0
  have hc1 := h.here.c1
  obtain ⟨av, cv, ev⟩ := h.shape
  obtain ⟨k, hk⟩ : ∃ k, k = d.bs.length := ⟨_, rfl⟩
  obtain ⟨s, hs⟩ : ∃ s, s = d.syn := ⟨_, rfl⟩
  rw [← hk] at ev ok1 ok2
  rw [← hs] at hc1 ok1
  subst ev
  have hk2 : (k : Int) ≤ 1048576 := by omega
  have hsk : (s : Int) ≤ (k : Int) := by omega
  obtain ⟨j, hj⟩ : ∃ j, j = d.left keep := ⟨_, rfl⟩
  have hjv : (j : Int) = s + min (max keep 0) ((k : Int) - s) := by
    rw [hj]; unfold Dk.left; rw [← hk, ← hs]; omega
  rw [← hj] at hcr hle
  obtain ⟨r1, r2⟩ := h.row.room
  have hrun : ∀ (x : Int), x = (j : Int) → ∀ w, (Instr.sliceAt 28 (.slice av k cv) none (some (.int .i64 x)) none).run Try.prog w = .ok (.slice av j cv) w := fun x hx w => by rw [hx]; exact run_first av k cv j w (by omega) r2
  have HR := hide hrun
  have HL := hide hle
  have HF := hide (h.fit.crashed keep)
  have HCR := hide hcr
  have HD := hide h
  have HS := hide hs
  clear h hcr hj hk hs hle ok1 ok2 ok3 hrun r1 r2
  -- what stands behind the two tests: the number of bytes that stay beyond the synced ones
  have h3 : (keep < 0 ∧ j = s) ∨ (¬ keep < 0 ∧ keep ≤ (k : Int) - s ∧ (j : Int) = s + keep) ∨ (¬ keep < 0 ∧ ¬ keep ≤ (k : Int) - s ∧ j = k) := by omega
  have run1 := HR.out ((s : Int) + keep)
  have run2 := HR.out (s : Int)
  have run3 := HR.out ((s : Int) + ((k : Int) - s))
  have run4 := HR.out (k : Int)
  have run5 := HR.out ((s : Int) + 0)
  rcases h3 with ⟨h3, hj⟩ | ⟨h3, h4, hj⟩ | ⟨h3, h4, hj⟩
  case' inl => have run6 := run2 (by omega)
  case' inl => have run7 := run5 (by omega)
  case' inr.inl => have run6 := run1 (by omega)
  case' inr.inl => have run7 := True.intro
  case' inr.inr => have run6 := run3 (by omega)
  case' inr.inr => have run7 := run4 (by omega)
  all_goals
    clear run1 run2 run3 run4 run5
    have D1 := hide (HD.out.keptN (kp_drew w))
    have y0 := D1.out.here.c0
    have y1 := D1.out.here.c1
    rw [← HS.out] at y1
    have T1 : Hid (DSt p w (.slice av k cv) w.drew (.slice av k cv)) := DSt.mid _ (kp_drew w)
    clear hj hjv HD
    go_enter Try.func36, Try.ntmps36
    go_wp2_with fail
    refine region_read Try.mixed (by kernel_rfl) ?_
    repeat (first | go_big_quiet_skip | (go_big_quiet_want; go_big_quiet_op; go_big_quiet_on))
    refine wpQuiet_nil ?_
    generalize w.drew = w1 at *
    have D2 := hide (D1.out.keptN (kp_drew w1))
    have q0 := D2.out.here.c0
    have q1 := D2.out.here.c1
    have qf := D2.out.here.f 0
    rw [← HS.out] at q1
    have T2 : Hid (DSt p w (.slice av k cv) w1.drew (.slice av k cv)) := T1.out.trans (DSt.mid _ (kp_drew w1))
    have F3 := D2.out.here.s0 (.slice av j cv)
    have u0 := F3.c0
    have u1 := F3.c1
    have uf := F3.f 1
    have F4 := F3.s1 (.int .i64 j)
    have v3 := F4.c3
    have vf := F4.f 3
    have F5 := F4.s3 (.int .i64 0)
    have x4 := F5.c4
    have xf := F5.f 4
    have FIN := hide (F5.s4 (.bool false))
    clear F3 F4 F5
    go_wp2_with fail
    refine region_tail 14 Try.mixed (by kernel_rfl) ?_
    simp only [List.take_succ_cons, List.take_zero, List.drop_succ_cons, List.drop_zero]
    repeat (first | go_big_quiet_skip | (go_big_quiet_want; go_big_quiet_op; go_big_quiet_on))
    refine wpQuiet_nil ?_
    generalize w1.drew = w2 at *
    go_wp2_with fail
    go_end0
    rw [HCR.out]
    have hf := HF.out
    rw [HCR.out] at hf
    have D3 := D2.out.cutAt j HL.out ((((kp_set w2 p 0 (.slice av j cv)).trans (kp_set _ p 1 (.int .i64 j))).trans (kp_set _ p 3 (.int .i64 0))).trans (kp_set _ p 4 (.bool false))) { d with bs := d.bs.take j, syn := j, arm := 0, down := false } rfl hf FIN.out
    exact ⟨rfl, _, D3.1, T2.out.trans D3.2⟩
end Go.Proofs.Ythpaablhhfichaa
