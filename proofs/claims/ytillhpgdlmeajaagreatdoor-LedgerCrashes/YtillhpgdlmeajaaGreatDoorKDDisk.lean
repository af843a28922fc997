/-
  The contracts of package disk: Bytes, keep, Append, Sync, Cut, Crash.
-/
import Derived.Test.YtillhpgdlmeajaaGreatDoorKDProg
namespace Go.Proofs.YtillhpgdlmeajaaGreatDoor
open Go.RowKit
open Go.Proofs

set_option maxRecDepth 100000 in
set_option maxHeartbeats 1000000 in
theorem dclone_any (v : Value) (bs : List Int) (w : World) (hS : Sl w v bs) (hl : bs.length ≤ 100000000) :
    Calls Tryz.prog 45 #[v] w fun e w' => ∃ ao m c, e = .returned (.slice ao m c) ∧ Row w' w.heap.size (.slice ao m c) bs ∧ Kp [] w w' := by
  have ob := (Kp.refl [] w).alloc (.cells #[] 5)
  have HK := hide ob
  have HSw := hide (hS.kept ob (by simp))
  have HL := hide hl
  obtain ⟨ax, cx, rfl, h1, h2, h3, -⟩ := hS
  obtain ⟨nx, hnx⟩ : ∃ nx, nx = bs.length := ⟨_, rfl⟩
  cases ax with
  | none =>
    have h0 := h3 rfl
    obtain rfl : bs = [] := List.eq_nil_of_length_eq_zero (by omega)
    subst h0
    simp only [List.length_nil]
    have heq : ∀ w, (binOp .eql 22 (.slice none 0 0) (.slice none 0 0)).run Tryz.prog w = .ok (.bool true) w := fun _ => rfl
    clear ob HSw h1 h2 h3 hnx hl
    go_enter Tryz.func45, Tryz.ntmps45
    go_wp2_with fail
    go_ret
    exact ⟨none, 0, 0, rfl, ⟨rfl, .inl ⟨rfl, rfl⟩⟩, Kp.refl _ _⟩
  | some ad =>
    rw [← hnx] at HSw ⊢
    have hR0 : Hid (Row (w.alloc (.cells #[] 5)) w.heap.size (.slice (some ⟨w.heap.size, 0, none⟩) 0 0) []) := row_of_block (bs := []) (Nat.le_refl _) (heap_alloc_new w _) rfl (by simp [maxLen])
    have heq : ∀ w, (binOp .eql 22 (.slice (some ad) nx cx) (.slice none 0 0)).run Tryz.prog w = .ok (.bool false) w := fun _ => rfl
    clear ob hl hnx h1 h2 h3
    go_enter Tryz.func45, Tryz.ntmps45
    go_wp2_with (at_builtin; refine wpList_append_row rfl (.tmp 5) (.tmp 6) rfl w.heap.size _ _ rfl (unhide hR0) _ bs rfl (unhide HSw) (by have := unhide HL; simp; omega) (by simp) ?_; intro ao2 m2 c2 w2 r2 s2)
    go_ret
    exact ⟨ao2, m2, c2, rfl, by simpa using r2, (unhide hR0).step (unhide HK) s2⟩
theorem dbytes_any (p : Nat) (v : Value) (d : Dk) (base : Nat) (w : World) (h : DskP w base p v d) :
    Calls Tryz.prog 60 #[.pointer (some ⟨p, 0, none⟩)] w fun e w' => ∃ ao m c, e = .returned (.slice ao m c) ∧ Row w' w.heap.size (.slice ao m c) d.bs ∧ Kp [] w w' := by
  have hc := h.here.c0
  have HC := hide (dclone_any v d.bs w h.sl (by have h1 := h.fit.ok.fits; have h2 := h.fit.ok.lim; omega))
  obtain ⟨ao, c, rfl⟩ := h.shape
  obtain ⟨n, hn⟩ : ∃ n, n = d.bs.length := ⟨_, rfl⟩
  rw [← hn] at hc HC
  clear h hn
  go_enter Tryz.func60, Tryz.ntmps60
  go_wp2_with (go_at_call 45; refine HC.out.mono ?_; rintro e w1 ⟨ao1, m1, c1, rfl, r1, k1⟩)
  go_ret
  exact ⟨ao1, m1, c1, rfl, r1, k1⟩
theorem Dk.Fit.kept {d : Dk} (h : d.Fit) (n : Nat) (hn : n ≤ d.bs.length) : Dk.Fit { d with bs := d.bs.take n, syn := n } :=
  ⟨⟨by simp only [List.length_take]; omega, by have := h.ok.fits; simp only [List.length_take]; omega, h.ok.lim⟩, h.lo, h.hi, h.dn, fun b hb => h.bytes b (List.mem_of_mem_take hb)⟩
theorem own_slice (ao : Option Addr) (n m c c' : Nat) : (Value.slice ao n c).ownBlock = (Value.slice ao m c').ownBlock := by cases ao <;> rfl
/-- other bytes at the same place. -/
theorem Dsk.cutAt {T : TypeId} {w w' : World} {base p m c : Nat} {ao : Option Addr} {d : Dk} (h : Dsk T w base p (.slice ao m c) d) (n : Nat) (hn : n ≤ d.bs.length) (k : Kp [p] w w') (d' : Dk) (hb : d'.bs = d.bs.take n) (hf : d'.Fit)
    (he : Fv T w' p (.slice ao n c) (.int .i64 d'.syn) (.int .i64 d'.lim) (.int .i64 d'.arm) (.bool d'.down)) : Dsk T w' base p (.slice ao n c) d' ∧ DSt p w (.slice ao m c) w' (.slice ao n c) := by
  refine ⟨⟨he, by rw [hb]; exact (h.row.take n hn).kept k (fun i hi hm => h.apart (by simp at hm; rw [← hm, own_slice ao m n c c]; exact hi)), hf, h.typ⟩, k.mono (fun i hi => mem_dfp.2 (.inl (by simpa using hi))), fun i hi => .inl (by rw [own_slice ao m n c c]; exact hi)⟩
set_option maxHeartbeats 1000000 in
theorem keep_any (p : Nat) (ao : Option Addr) (m c : Nat) (d : Dk) (n : Nat) (base : Nat) (w : World) (h : DskP w base p (.slice ao m c) d) (hn : n ≤ d.bs.length) :
    Calls Tryz.prog 79 #[.pointer (some ⟨p, 0, none⟩), .int .i64 n] w fun e w' => e = .returned (.tuple #[]) ∧ DskP w' base p (.slice ao n c) { d with bs := d.bs.take n, syn := n } ∧ DSt p w (.slice ao m c) w' (.slice ao n c) := by
  have hc0 := h.here.c0
  have f0 := h.here.f 0
  have hm := h.row.len
  obtain ⟨r1, r2⟩ := h.row.room
  have hrun : ∀ w, (Instr.sliceAt 22 (.slice ao m c) none (some (.int .i64 (n : Nat))) none).run Tryz.prog w = .ok (.slice ao n c) w := fun w => run_first ao m c n w (by omega) r2
  obtain ⟨w1, hw1⟩ : ∃ w1, w1 = w.setCell ⟨p, 0, none⟩ (.slice ao n c) := ⟨_, rfl⟩
  have h1 := h.here.s0 (.slice ao n c)
  rw [← hw1] at h1
  have c1 := h1.c1
  have f1 := h1.f 1
  have FIN : Hid (DskP (w1.setCell ⟨p, 1, none⟩ (.int .i64 n)) base p (.slice ao n c) { d with bs := d.bs.take n, syn := n } ∧ DSt p w (.slice ao m c) (w1.setCell ⟨p, 1, none⟩ (.int .i64 n)) (.slice ao n c)) :=
    h.cutAt n hn (by rw [hw1]; exact (kp_set w p 0 _).trans (kp_set _ p 1 _)) _ rfl (h.fit.kept n hn) (h1.s1 _)
  rw [hw1] at c1 f1 FIN
  clear h h1 hw1 r1 r2 hm
  go_enter Tryz.func79, Tryz.ntmps79
  go_wp2_with fail
  go_end0
  exact ⟨rfl, FIN.out⟩
theorem keep_at (p : Nat) (ao : Option Addr) (m c : Nat) (d : Dk) (n : Nat) (base : Nat) (w : World) (h : DskP w base p (.slice ao m c) d) (hn : n ≤ d.bs.length) (x : Int) (hx : x = (n : Int)) :
    Calls Tryz.prog 79 #[.pointer (some ⟨p, 0, none⟩), .int .i64 x] w fun e w' => e = .returned (.tuple #[]) ∧ DskP w' base p (.slice ao n c) { d with bs := d.bs.take n, syn := n } ∧ DSt p w (.slice ao m c) w' (.slice ao n c) := by
  subst hx
  exact keep_any p ao m c d n base w h hn
/-- more bytes behind. -/
theorem Dsk.more {T : TypeId} {w w1 : World} {base p : Nat} {v v' : Value} {d : Dk} {b : List Int} (h : Dsk T w base p v d) (r : Row w1 base v' (d.bs ++ b)) (s : RStep w v w1 v') (hf : Dk.Fit { d with bs := d.bs ++ b }) :
    Dsk T (w1.setCell ⟨p, 0, none⟩ v') base p v' { d with bs := d.bs ++ b } ∧ DSt p w v (w1.setCell ⟨p, 0, none⟩ v') v' ∧ w1.cell? ⟨p, 0, none⟩ = some v ∧ w1.frozen? ⟨p, 0, none⟩ = false := by
  have h1 : Fv T w1 p v (.int .i64 d.syn) (.int .i64 d.lim) (.int .i64 d.arm) (.bool d.down) := h.here.kept s.1 (by simpa [Option.mem_toList] using h.apart)
  have ne := apart_of h1 r h.typ
  refine ⟨⟨h1.s0 _, r.kept (kp_set w1 p 0 v') (fun i hi hm => ne (by simp at hm; rw [← hm]; exact hi)), hf, h.typ⟩, ⟨?_, s.2⟩, h1.c0, h1.f 0⟩
  exact (s.1.mono (fun i hi => mem_dfp.2 (.inr (by simpa [Option.mem_toList] using hi)))).then (kp_set w1 p 0 v') (fun i hi => .inl (mem_dfp.2 (.inl (by simpa using hi))))
theorem told_er (p : Nat) (v : Value) (d : Dk) (base : Nat) (w : World) (h : DskP w base p v d) (er : Int) (he : er = if d.down then 13 else 0) :
    Calls Tryz.prog 96 #[.pointer (some ⟨p, 3, none⟩)] w fun e w' => e = .returned (.int .i64 er) ∧ w' = w := by rw [he]; exact told_any p v d base w h
theorem Dk.Fit.apps {d : Dk} (h : d.Fit) {b : List Int} (hB : Bs b) (hl : ((d.bs.length + b.length : Nat) : Int) ≤ d.lim) : Dk.Fit { d with bs := d.bs ++ b } :=
  ⟨⟨by have := h.ok.syn; simp only [List.length_append]; omega, by simp only [List.length_append]; exact hl, h.ok.lim⟩, h.lo, h.hi, h.dn, fun x hx => (List.mem_append.1 hx).elim (h.bytes x) (hB x)⟩
set_option maxHeartbeats 2000000 in
theorem dappend_any (p : Nat) (v : Value) (d : Dk) (vb : Value) (b : List Int) (base : Nat) (w : World) (h : DskP w base p v d) (h0 : 0 ≤ d.arm) (hS : Sl w vb b) (hB : Bs b) (hb : base ≤ w.heap.size) :
    Calls Tryz.prog 47 #[.pointer (some ⟨p, 0, none⟩), vb] w fun e w' => e = .returned (.int .i64 (if (d.app b).1 then 0 else 13)) ∧ ∃ v', DskP w' base p v' (d.app b).2 ∧ DSt p w v w' v' := by
  have hc4 := h.here.c4
  cases hd : d.down
  · rw [hd] at hc4
    have HC := hide (count_any p v d base w h h0)
    have HS := hide (fun w' (k : Kp [p] w w') => h.sloff hS k)
    obtain ⟨av, cv, ev⟩ := h.shape
    obtain ⟨ab, cb, rfl, hb1, hb2, _⟩ := hS
    unfold maxLen at hb2
    have hap := Dk.app_cnt h.fit h0 hd b
    obtain ⟨e1, e2, e3⟩ := d.cnt_bs
    obtain ⟨d1, hd1⟩ : ∃ d1, d1 = d.cnt := ⟨_, rfl⟩
    rw [← hd1] at HC e1 e2 e3 hap
    rw [← e1, ← e3] at hap
    rw [← e1] at ev
    obtain ⟨n, hn⟩ : ∃ n, n = d1.bs.length := ⟨_, rfl⟩
    obtain ⟨m, hm⟩ : ∃ m, m = b.length := ⟨_, rfl⟩
    obtain ⟨li, hli⟩ : ∃ li, li = d1.lim := ⟨_, rfl⟩
    rw [← hn] at ev
    subst ev
    rw [← hm, ← hn, ← hli] at hap
    rw [← hm] at hb1 HS ⊢
    have hb3 : (m : Int) ≤ 9223372036854775807 := by omega
    have HN : Hid (¬ li < ((n + m : Nat) : Int) → ((d1.bs.length + b.length : Nat) : Int) ≤ d1.lim) := fun h => by show _ ≤ _; omega
    have Hn := hide hn
    have Hli := hide hli
    clear hn hm hli
    by_cases hl : li < ((n + m : Nat) : Int)
    · rw [if_pos hl] at hap
      rw [hap]
      have hl' : (m : Int) > li - (n : Int) := by omega
      clear h hd hd1 e1 e2 e3 HS hap
      go_enter Tryz.func47, Tryz.ntmps47
      go_wp2_with (go_at_call 95; refine HC.out.mono ?_; rintro e w1 ⟨rfl, D1, k1⟩; clear HC; have x0 := D1.here.c0; have x2 := D1.here.c2; have ok1 := D1.fit.ok.fits; have ok2 := D1.fit.ok.lim; rw [← Hli.out] at x2 ok1 ok2; rw [← Hn.out] at ok1; have HD := hide D1; clear D1)
      refine region_read Tryz.mixed (by kernel_rfl) ?_
      repeat (first | go_big_quiet_skip | (go_big_quiet_want; go_big_quiet_op; go_big_quiet_on))
      refine wpQuiet_nil ?_
      go_wp2_with fail
      go_ret
      exact ⟨rfl, _, HD.out.keptN (kp_drew _), (DSt.one (.slice av n cv) k1).trans (DSt.mid (.slice av n cv) (kp_drew _))⟩
    · rw [if_neg hl] at hap
      obtain ⟨er, her⟩ : ∃ er : Int, er = if d1.down then 13 else 0 := ⟨_, rfl⟩
      have hg : (if (d.app b).1 = true then (0 : Int) else 13) = er := by rw [hap, her]; cases d1.down <;> rfl
      rw [hg, hap]
      have HE := hide her
      clear hg her
      have hl' : ¬ (m : Int) > li - (n : Int) := by omega
      have HM := hide (HN.out hl)
      clear HN
      have HB := hide hB
      clear h hd hd1 e1 e2 e3 hap
      go_enter Tryz.func47, Tryz.ntmps47
      go_wp2_with (go_at_call 95; refine HC.out.mono ?_; rintro e w1 ⟨rfl, D1, k1⟩; clear HC; have x0 := D1.here.c0; have x2 := D1.here.c2; have ok1 := D1.fit.ok.fits; have ok2 := D1.fit.ok.lim; rw [← Hli.out] at x2 ok1 ok2; rw [← Hn.out] at ok1; have HD := hide D1; clear D1; have HS1 := hide (HS.out _ k1))
      refine region_read Tryz.mixed (by kernel_rfl) ?_
      repeat (first | go_big_quiet_skip | (go_big_quiet_want; go_big_quiet_op; go_big_quiet_on))
      refine wpQuiet_nil ?_
      have D2 := hide (HD.out.keptN (kp_drew _))
      have S2 := hide (HS1.out.kept (kp_drew _) (by simp))
      have y0 := D2.out.here.c0
      have sz : Hid (base ≤ w1.drew.heap.size) := by have := k1.size; have := (kp_drew w1).size; show _ ≤ _; omega
      have T2 := hide ((DSt.one (.slice av n cv) k1).trans (DSt.mid _ (kp_drew _)))
      generalize w1.drew = w2 at *
      go_wp2_with (first
        | (at_builtin; refine wpList_append_row rfl (.tmp 31) (.tmp 32) rfl base _ _ rfl D2.out.row _ b rfl S2.out (by have := HM.out; have := D2.out.fit.ok.lim; omega) sz.out ?_; intro ao3 m3 c3 w3 r3 s3; obtain ⟨D3, T3, z0, zf⟩ := D2.out.more r3 s3 (D2.out.fit.apps HB.out HM.out); have HT := hide (told_er p _ _ base _ D3 er HE.out); have HD3 := hide D3; have HT3 := hide T3; clear D3 T3 r3 s3)
        | (go_at_call 96; refine HT.out.mono ?_; rintro e w4 ⟨rfl, hw⟩; subst w4))
      go_ret
      exact ⟨rfl, _, HD3.out, T2.out.trans HT3.out⟩
  · rw [hd] at hc4
    rw [Dk.app_down hd]
    have HD := hide h
    clear h hd h0 hB
    go_enter Tryz.func47, Tryz.ntmps47
    go_wp2_with fail
    go_ret
    exact ⟨rfl, _, HD.out, DSt.refl _ _ _⟩
theorem Dk.Fit.syncs {d : Dk} (h : d.Fit) : Dk.Fit { d with syn := d.bs.length } := ⟨⟨Nat.le_refl _, h.ok.fits, h.ok.lim⟩, h.lo, h.hi, h.dn, h.bytes⟩
set_option maxHeartbeats 2000000 in
theorem dsync_any (p : Nat) (v : Value) (d : Dk) (base : Nat) (w : World) (h : DskP w base p v d) (h0 : 0 ≤ d.arm) :
    Calls Tryz.prog 48 #[.pointer (some ⟨p, 0, none⟩)] w fun e w' => e = .returned (.int .i64 (if d.sync.1 then 0 else 13)) ∧ DskP w' base p v d.sync.2 ∧ DSt p w v w' v := by
  have HC := hide (count_any p v d base w h h0)
  have hap := Dk.sync_cnt h.fit h0
  obtain ⟨av, cv, ev⟩ := h.shape
  obtain ⟨e1, e2, e3⟩ := d.cnt_bs
  obtain ⟨d1, hd1⟩ : ∃ d1, d1 = d.cnt := ⟨_, rfl⟩
  rw [← hd1] at HC e1 hap
  rw [← e1] at hap ev
  obtain ⟨n, hn⟩ : ∃ n, n = d1.bs.length := ⟨_, rfl⟩
  rw [← hn] at ev hap
  subst ev
  have Hn := hide hn
  clear hn h hd1 e1 e2 e3
  cases hd : d1.down
  · rw [hd, if_neg (by decide)] at hap
    rw [hap]
    have HD := hide hd
    clear hap hd
    go_enter Tryz.func48, Tryz.ntmps48
    go_wp2_with (first
      | (go_at_call 95; refine HC.out.mono ?_; rintro e w1 ⟨rfl, D1, k1⟩; clear HC; have x0 := D1.here.c0; have x1 := D1.here.c1; have x4 := D1.here.c4; rw [HD.out] at x4; have f1 := D1.here.f 1; have D2 := D1.poke (kp_set w1 p 1 (.int .i64 n)) (d' := { d1 with syn := n }) (D1.here.s1 _) rfl (by rw [Hn.out]; exact D1.fit.syncs); have HT := hide (told_er p _ _ base _ D2 0 (by show _ = if d1.down then _ else _; rw [HD.out]; rfl)); have HD2 := hide D2; clear D1 D2)
      | (go_at_call 96; refine HT.out.mono ?_; rintro e w4 ⟨rfl, hw⟩; subst w4))
    go_ret
    exact ⟨rfl, HD2.out, (DSt.one _ k1).trans (DSt.one _ (kp_set _ _ _ _))⟩
  · rw [hd, if_pos rfl] at hap
    rw [hap]
    have HD := hide hd
    clear hap hd
    go_enter Tryz.func48, Tryz.ntmps48
    go_wp2_with (first
      | (go_at_call 95; refine HC.out.mono ?_; rintro e w1 ⟨rfl, D1, k1⟩; clear HC; have x4 := D1.here.c4; rw [HD.out] at x4; have HT := hide (told_er p _ _ base _ D1 13 (by rw [HD.out]; rfl)); have HD2 := hide D1; clear D1)
      | (go_at_call 96; refine HT.out.mono ?_; rintro e w4 ⟨rfl, hw⟩; subst w4))
    go_ret
    exact ⟨rfl, HD2.out, DSt.one _ k1⟩
set_option maxHeartbeats 2000000 in
theorem dcut_any (p : Nat) (v : Value) (d : Dk) (n : Int) (base : Nat) (w : World) (h : DskP w base p v d) (h0 : 0 ≤ d.arm) :
    Calls Tryz.prog 88 #[.pointer (some ⟨p, 0, none⟩), .int .i64 n] w fun e w' => e = .returned (.int .i64 (d.cut n).1) ∧ ∃ v', DskP w' base p v' (d.cut n).2 ∧ DSt p w v w' v' := by
  have hc4 := h.here.c4
  have hc0 := h.here.c0
  obtain ⟨av, cv, ev⟩ := h.shape
  obtain ⟨k, hk⟩ : ∃ k, k = d.bs.length := ⟨_, rfl⟩
  rw [← hk] at ev
  subst ev
  by_cases hbad : d.down = false ∧ (n < 0 ∨ (k : Int) < n)
  · obtain ⟨hd, hn⟩ := hbad
    rw [Dk.cut_bad hd n (by omega)]
    rw [hd] at hc4
    have HD := hide h
    clear h hk
    by_cases h1 : n < 0
    · go_enter Tryz.func88, Tryz.ntmps88
      go_wp2_with fail
      go_ret
      exact ⟨rfl, _, HD.out, DSt.refl _ _ _⟩
    · have h2 : (k : Int) < n := by omega
      go_enter Tryz.func88, Tryz.ntmps88
      go_wp2_with fail
      go_ret
      exact ⟨rfl, _, HD.out, DSt.refl _ _ _⟩
  · have hgood : d.down = true ∨ (0 ≤ n ∧ n ≤ k) := by
      cases hd : d.down
      · right
        by_cases h1 : n < 0
        · exact absurd ⟨hd, .inl h1⟩ hbad
        · by_cases h2 : (k : Int) < n
          · exact absurd ⟨hd, .inr h2⟩ hbad
          · omega
      · left; rfl
    clear hbad
    have HC := hide (count_any p _ d base w h h0)
    have hap := Dk.cut_cnt h.fit h0 n (by rw [← hk]; exact hgood)
    obtain ⟨e1, e2, e3⟩ := d.cnt_bs
    have hdd : d.down = true → d.cnt.down = true := fun hd => by rw [Dk.cnt_down h.fit hd]; exact hd
    obtain ⟨d1, hd1⟩ : ∃ d1, d1 = d.cnt := ⟨_, rfl⟩
    rw [← hd1] at HC e1 hap hdd
    rw [← e1] at hap
    have Hk : Hid (k = d1.bs.length) := by show _ = _; rw [e1]; exact hk
    clear h hd1 e1 e2 e3 hk
    cases hd : d1.down
    · rw [hd, if_neg (by decide)] at hap
      rw [hap]
      have hdf : d.down = false := by
        cases hx : d.down
        · rfl
        · rw [hdd hx] at hd; cases hd
      rw [hdf] at hc4
      have hn := hgood.resolve_left (by rw [hdf]; decide)
      obtain ⟨hn0, hn1⟩ := hn
      obtain ⟨j, rfl⟩ := Int.eq_ofNat_of_zero_le hn0
      rw [Int.toNat_natCast]
      have hj : Hid (j ≤ d1.bs.length) := by have := Hk.out; show _ ≤ _; omega
      have HD := hide hd
      have g1 : ¬ (j : Int) < 0 := by omega
      have g2 : ¬ (k : Int) < (j : Int) := by omega
      clear hap hd hdd hdf hgood hn0
      go_enter Tryz.func88, Tryz.ntmps88
      go_wp2_with (first
        | (go_at_call 95; refine HC.out.mono ?_; rintro e w1 ⟨rfl, D1, k1⟩; clear HC; have x4 := D1.here.c4; rw [HD.out] at x4; have HK := hide (keep_any p av k cv d1 j base w1 D1 hj.out); clear D1)
        | (go_at_call 79; refine HK.out.mono ?_; rintro e w2 ⟨rfl, D2, T2⟩; clear HK; have HT := hide (told_er p _ _ base _ D2 0 (by show _ = if d1.down then _ else _; rw [HD.out]; rfl)); have HD2 := hide D2; have HT2 := hide T2; clear D2 T2)
        | (go_at_call 96; refine HT.out.mono ?_; rintro e w4 ⟨rfl, hw⟩; subst w4))
      go_ret
      exact ⟨rfl, _, HD2.out, (DSt.one _ k1).trans HT2.out⟩
    · rw [hd, if_pos rfl] at hap
      rw [hap]
      have HD := hide hd
      clear hap hd hdd
      cases hdf : d.down
      · rw [hdf] at hc4
        obtain ⟨hn0, hn1⟩ := hgood.resolve_left (by rw [hdf]; decide)
        have g1 : ¬ n < 0 := by omega
        have g2 : ¬ (k : Int) < n := by omega
        clear hgood hdf
        go_enter Tryz.func88, Tryz.ntmps88
        go_wp2_with (first
          | (go_at_call 95; refine HC.out.mono ?_; rintro e w1 ⟨rfl, D1, k1⟩; clear HC; have x4 := D1.here.c4; rw [HD.out] at x4; have HT := hide (told_er p _ _ base _ D1 13 (by rw [HD.out]; rfl)); have HD2 := hide D1; clear D1)
          | (go_at_call 96; refine HT.out.mono ?_; rintro e w4 ⟨rfl, hw⟩; subst w4))
        go_ret
        exact ⟨rfl, _, HD2.out, DSt.one _ k1⟩
      · rw [hdf] at hc4
        clear hgood hdf
        go_enter Tryz.func88, Tryz.ntmps88
        go_wp2_with (first
          | (go_at_call 95; refine HC.out.mono ?_; rintro e w1 ⟨rfl, D1, k1⟩; clear HC; have x4 := D1.here.c4; rw [HD.out] at x4; have HT := hide (told_er p _ _ base _ D1 13 (by rw [HD.out]; rfl)); have HD2 := hide D1; clear D1)
          | (go_at_call 96; refine HT.out.mono ?_; rintro e w4 ⟨rfl, hw⟩; subst w4))
        go_ret
        exact ⟨rfl, _, HD2.out, DSt.one _ k1⟩
theorem Dk.crash_kept {d : Dk} (h : d.Ok) (keep : Int) : d.crash keep = { d with bs := d.bs.take (d.left keep), syn := d.left keep, arm := 0, down := false } := by
  have := Dk.left_le h keep
  unfold Dk.crash
  rw [show min (d.left keep) d.bs.length = d.left keep from by omega]
theorem Dk.Fit.crashed {d : Dk} (h : d.Fit) (keep : Int) : (d.crash keep).Fit :=
  ⟨Dk.crash_ok h.ok keep, by simp [Dk.crash], by simp [Dk.crash], fun _ => rfl, fun b hb => h.bytes b (List.mem_of_mem_take hb)⟩
set_option maxHeartbeats 2000000 in
theorem dcrash_any (p : Nat) (v : Value) (d : Dk) (keep : Int) (base : Nat) (w : World) (h : DskP w base p v d) :
    Calls Tryz.prog 34 #[.pointer (some ⟨p, 0, none⟩), .int .i64 keep] w fun e w' => e = .returned (.tuple #[]) ∧ ∃ v', DskP w' base p v' (d.crash keep) ∧ DSt p w v w' v' := by
  have hc0 := h.here.c0
  have hc1 := h.here.c1
  have ok1 := h.fit.ok.syn
  have ok2 := h.fit.ok.fits
  have ok3 := h.fit.ok.lim
  have hcr := Dk.crash_kept h.fit.ok keep
  have hle := Dk.left_le h.fit.ok keep
  obtain ⟨av, cv, ev⟩ := h.shape
  obtain ⟨k, hk⟩ : ∃ k, k = d.bs.length := ⟨_, rfl⟩
  obtain ⟨s, hs⟩ : ∃ s, s = d.syn := ⟨_, rfl⟩
  rw [← hk] at ev ok1 ok2
  rw [← hs] at hc1 ok1
  subst ev
  have hk2 : (k : Int) ≤ 1048576 := by omega
  have hsk : (s : Int) ≤ (k : Int) := by omega
  obtain ⟨j, hj⟩ : ∃ j, j = d.left keep := ⟨_, rfl⟩
  have hjv : (j : Int) = s + min (max keep 0) ((k : Int) - s) := by
    rw [hj]; unfold Dk.left; rw [← hk, ← hs]; omega
  rw [← hj] at hcr hle
  have HK := hide (fun w' (h' : DskP w' base p (.slice av k cv) d) (x : Int) (hx : x = (j : Int)) => keep_at p av k cv d j base w' h' hle x hx)
  have HF := hide (h.fit.crashed keep)
  have HCR := hide hcr
  have HD := hide (h.keptN (kp_drew w))
  have y1 := HD.out.here.c1
  rw [← hs] at y1
  have T1 : Hid (DSt p w (.slice av k cv) w.drew (.slice av k cv)) := DSt.mid _ (kp_drew w)
  clear h hcr hj hk hs hle ok1 ok2 ok3
  have h3 : keep < 0 ∨ (¬ keep < 0 ∧ keep ≤ (k : Int) - s) ∨ (¬ keep < 0 ∧ ¬ keep ≤ (k : Int) - s) := by omega
  rcases h3 with h3 | ⟨h3, h4⟩ | ⟨h3, h4⟩
  all_goals
    go_enter Tryz.func34, Tryz.ntmps34
    go_wp2_with fail
    refine region_read Tryz.mixed (by kernel_rfl) ?_
    repeat (first | go_big_quiet_skip | (go_big_quiet_want; go_big_quiet_op; go_big_quiet_on))
    refine wpQuiet_nil ?_
    generalize w.drew = w1 at *
    go_wp2_with (first
      | (go_at_call 79; go_loud (refine (HK.out w1 HD.out _ (by first | omega | (unfold wrap64; omega))).mono ?_); rintro e w2 ⟨rfl, D2, T2⟩; clear HK; have g2 := D2.here; unfold Fv at g2; have HD2 := hide D2; have HT2 := hide T2; clear D2 T2)
      | (refine wpList_store_flat rfl 135 (.tmp 29) (.tmp 27) rfl p 3 rfl _ _ [.int .i64 0, .bool false] g2 rfl (by simp) (by kernel_rfl) (by simp [Value.oneCell']) #[.slice av j cv, .int .i64 j, .int .i64 d.lim, .int .i64 0, .bool false] (by simp [putAll]) ?_; intro w3 g3 k3))
    go_end0
    rw [HCR.out]
    have hf := HF.out
    rw [HCR.out] at hf
    exact ⟨rfl, _, HD2.out.poke k3 g3 rfl hf, (T1.out.trans HT2.out).trans (DSt.one _ k3)⟩
end Go.Proofs.YtillhpgdlmeajaaGreatDoor
