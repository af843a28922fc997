/-
  The contracts of package journal: Open, Put, Sync, Add, Count.
-/
import Derived.Test.YteabdojjllfcpaaGreatQC14
namespace Go.Proofs.YteabdojjllfcpaaGreat
open Go.RowKit
open Go.Proofs
/-- records beside a journal and its disk. -/
structure Pj (w : World) (base : Nat) (o : Value) (l : List (Value × List Int)) (p j : Nat) (v : Value) : Prop where
  parts : Parts w base o l
  off : ∀ i ∈ j :: dfp p v, o.ownBlock ≠ some i ∧ ∀ x ∈ l, x.1.ownBlock ≠ some i
theorem Parts.off {w w' : World} {base : Nat} {o : Value} {l : List (Value × List Int)} {S : List Nat} (h : Parts w base o l) (k : Kp S w w') (hS : ∀ i ∈ S, o.ownBlock ≠ some i ∧ ∀ x ∈ l, x.1.ownBlock ≠ some i) : Parts w' base o l :=
  ⟨h.1.kept k (fun i hi hm => (hS i hm).1 hi), fun x hx => ⟨(h.2 x hx).1.kept k (fun i hi hm => (hS i hm).2 x hx hi), (h.2 x hx).2⟩⟩
theorem Parts.ltO {w : World} {base : Nat} {o : Value} {l : List (Value × List Int)} (h : Parts w base o l) (i : Nat) (hi : w.heap.size ≤ i) : o.ownBlock ≠ some i ∧ ∀ x ∈ l, x.1.ownBlock ≠ some i :=
  ⟨fun e => by have := h.1.lt e; omega, fun x hx e => by have := (h.2 x hx).1.lt e; omega⟩
theorem Pj.step {w w' : World} {base : Nat} {o : Value} {l : List (Value × List Int)} {p j : Nat} {v v' : Value} (h : Pj w base o l p j v) (t : JSt p j w v w' v') : Pj w' base o l p j v' := by
  refine ⟨h.parts.off t.1 h.off, fun i hi => ?_⟩
  rcases List.mem_cons.1 hi with rfl | hi
  · exact h.off _ (by simp)
  · rcases mem_dfp.1 hi with rfl | hi
    · exact h.off _ (by simp [dfp])
    · rcases t.2 i hi with h1 | h1
      · exact h.off i (by simp [mem_dfp, h1])
      · exact h.parts.ltO i h1
namespace Dk
/-- behind Open: what is torn is cut away. -/
def opn (d : Dk) : Dk := if (opnP d.bs).2.1 < d.bs.length then { d with bs := d.bs.take (opnP d.bs).2.1, syn := (opnP d.bs).2.1 } else d
end Dk
set_option maxRecDepth 100000 in
set_option maxHeartbeats 4000000 in
theorem open_any {w0 w : World} {p : Nat} {v : Value} {d : Dk} (h : Nw w0 w p v d) (hd : d.down = false) (ha : d.arm ≤ 0) :
    Calls Tryz.prog 32 #[.pointer (some ⟨p, 0, none⟩)] w fun e w' =>
      ((opnP d.bs).2.2 = true ∧ ∃ j v' ao m c l, e = .returned (.tuple #[.pointer (some ⟨j, 0, none⟩), .slice ao m c, .int .i64 0]) ∧ Jn w0 w' p v' d.opn j (opnP d.bs).1.length ∧ w.heap.size ≤ j ∧ DSt p w v w' v' ∧ Pj w' w.heap.size (.slice ao m c) l p j v' ∧ l.map (·.2) = (opnP d.bs).1 ∧ m = (opnP d.bs).1.length) ∨
      ((opnP d.bs).2.2 = false ∧ e = .returned (.tuple #[.pointer none, .slice none 0 0, .int .i64 14]) ∧ Nw w0 w' p v d ∧ Kp [] w w') := by
  have HH := hide h
  have HB := hide (nw_bytes h)
  have hfit := h.dk.fit
  have hlen : d.bs.length ≤ 1048576 := by have := hfit.ok.fits; have := hfit.ok.lim; omega
  have HBs := hide hfit.bytes
  have HCut := hide (Dk.cut_plain hd ha)
  clear h hfit hd ha
  go_enter Tryz.func32, Tryz.ntmps32
  go_wp2_with fail
  refine HB.out.mono ?_
  rintro ee w1 ⟨ab, mb, cb, rfl, R1, N1, K1, -⟩
  have HR := hide (read_jr _ d.bs w1 R1.sl HBs.out hlen)
  have HN1 := hide N1
  have HK1 := hide K1
  clear HB R1 N1 K1
  go_wp2_with fail
  refine HR.out.mono ?_
  rintro ee w2 ⟨K2, ⟨ht, ao, m, c, l, rfl, P2, hl2⟩ | ⟨hf, rfl⟩⟩
  · obtain ⟨at_, hat⟩ : ∃ a, a = (opnP d.bs).2.1 := ⟨_, rfl⟩
    have hle := opnP_at d.bs
    rw [← hat] at hle ⊢
    have HAt := hide hat
    have HK2 := hide (HK1.out.trans K2)
    have HN2 := hide (HN1.out.on K2)
    have HP2 := hide (P2.rebase HK1.out)
    have HT := hide ht
    have HL2 := hide hl2
    have hm : m = l.length := by have := P2.1.len; simpa using this
    have hml : m = (opnP d.bs).1.length := by rw [hm, ← hl2]; simp
    have HML := hide hml
    clear K2 P2 hl2 ht hat hm hml HR
    have HSz := hide (size_any p v d _ w2 HN2.out.dk)
    obtain ⟨nb, hnb⟩ : ∃ n, n = d.bs.length := ⟨_, rfl⟩
    rw [← hnb] at HSz hle hlen
    have HNb := hide hnb
    clear hnb
    by_cases hlt : at_ < nb
    · have hlt' : (at_ : Int) < nb := by omega
      have hcut : d.cut at_ = (0, d.opn) := by
        have := HCut.out at_ (by omega) (by have := HNb.out; omega)
        rw [this, Int.toNat_natCast]
        unfold Dk.opn
        rw [← HAt.out, ← HNb.out, if_pos hlt]
      have HC := hide (nw_cut HN2.out at_ 0 hcut)
      clear hcut
      go_wp2_with (go_at_call 68; refine HSz.out.mono ?_; rintro ee w3 ⟨rfl, hw3⟩; subst w3; clear HSz)
      refine HC.out.mono ?_
      rintro ee w3 ⟨rfl, v3, N3, T3⟩
      have HN3 := hide N3
      have HT3 := hide T3
      clear N3 T3 HC
      go_wp2_with fail
      go_ret3
      have ka : Kp [] w3 (w3.alloc (.cells #[.pointer (some ⟨p, 0, none⟩), .int .i64 m] 128)) := (Kp.refl [] w3).alloc _
      have t0 : DSt p w v w3 v3 := (DSt.mid v HK2.out).trans HT3.out
      refine .inl ⟨HT.out, w3.heap.size, v3, ao, m, c, l, rfl, ⟨HN3.out.on ka, ?_, HN3.out.kp.size⟩, t0.1.size, t0.trans (DSt.mid v3 ka), ?_, HL2.out, HML.out⟩
      · rw [← HML.out]; exact heap_alloc_new w3 _
      · have hoff : ∀ i ∈ dfp p v3, (Value.slice ao m c).ownBlock ≠ some i ∧ ∀ x ∈ l, x.1.ownBlock ≠ some i := fun i hi => by
          rcases mem_dfp.1 hi with rfl | hi
          · have := HH.out.dk.lt _ (mem_dfp.2 (.inl rfl))
            exact ⟨fun e => by have := HP2.out.1.own _ e; omega, fun x hx e => by have := Row.own (HP2.out.2 x hx).1 _ e; omega⟩
          · rcases HT3.out.2 i hi with h1 | h1
            · have := HH.out.dk.lt _ (mem_dfp.2 (.inr h1))
              exact ⟨fun e => by have := HP2.out.1.own _ e; omega, fun x hx e => by have := Row.own (HP2.out.2 x hx).1 _ e; omega⟩
            · exact HP2.out.ltO i h1
        have hin : ∀ i ∈ dfp p v, (Value.slice ao m c).ownBlock ≠ some i ∧ ∀ x ∈ l, x.1.ownBlock ≠ some i := fun i hi => by
          have := HH.out.dk.lt _ hi
          exact ⟨fun e => by have := HP2.out.1.own _ e; omega, fun x hx e => by have := Row.own (HP2.out.2 x hx).1 _ e; omega⟩
        have P3 := HP2.out.off HT3.out.1 hin
        refine ⟨P3.kept ka, fun i hi => ?_⟩
        rcases List.mem_cons.1 hi with rfl | hi
        · exact P3.ltO _ (Nat.le_refl _)
        · exact hoff i hi
    · have hlt' : ¬ (at_ : Int) < nb := by omega
      have hopn : d.opn = d := by unfold Dk.opn; rw [← HAt.out, ← HNb.out, if_neg hlt]
      have HOp := hide hopn
      clear hopn HCut
      go_wp2_with (go_at_call 68; refine HSz.out.mono ?_; rintro ee w3 ⟨rfl, hw3⟩; subst w3; clear HSz)
      go_ret3
      have ka : Kp [] w2 (w2.alloc (.cells #[.pointer (some ⟨p, 0, none⟩), .int .i64 m] 128)) := (Kp.refl [] w2).alloc _
      rw [HOp.out]
      refine .inl ⟨HT.out, w2.heap.size, v, ao, m, c, l, rfl, ⟨HN2.out.on ka, ?_, HN2.out.kp.size⟩, HK2.out.size, DSt.mid v (HK2.out.trans ka), ⟨HP2.out.kept ka, fun i hi => ?_⟩, HL2.out, HML.out⟩
      · rw [← HML.out]; exact heap_alloc_new w2 _
      · rcases List.mem_cons.1 hi with rfl | hi
        · exact HP2.out.ltO _ (Nat.le_refl _)
        · have := HH.out.dk.lt _ hi
          exact ⟨fun e => by have := HP2.out.1.own _ e; omega, fun x hx e => by have := Row.own (HP2.out.2 x hx).1 _ e; omega⟩
  · have HF := hide hf
    have HK2 := hide (HK1.out.trans K2)
    have HN2 := hide (HN1.out.on K2)
    clear K2 hf HR
    go_wp2_with fail
    go_ret3
    exact .inr ⟨HF.out, rfl, HN2.out, HK2.out⟩
end Go.Proofs.YteabdojjllfcpaaGreat

/-
  The contracts of package journal: Put, Sync, Add, Count.
-/
namespace Go.Proofs.YteabdojjllfcpaaGreat
open Go.ChangeShapes Go.WideShapes Go.ChangeAt Go.RowKit
open Go.Proofs
open Go.Deep
set_option linter.unusedVariables false
theorem Jr.c1 {w : World} {j p : Nat} {n : Int} (h : Jr w j p n) : w.cell? ⟨j, 1, none⟩ = some (.int .i64 n) := by rw [cell_of_row w j 1 _ _ _ h]; rfl
theorem Jr.c0 {w : World} {j p : Nat} {n : Int} (h : Jr w j p n) : w.cell? ⟨j, 0, none⟩ = some (.pointer (some ⟨p, 0, none⟩)) := by rw [cell_of_row w j 0 _ _ _ h]; rfl
theorem Jr.f {w : World} {j p : Nat} {n : Int} (h : Jr w j p n) (i : Nat) : w.frozen? ⟨j, i, none⟩ = false := by
  unfold World.frozen?
  unfold Jr at h
  simp [h]
theorem Jr.s1 {w : World} {j p : Nat} {n : Int} (h : Jr w j p n) (m : Int) : Jr (w.setCell ⟨j, 1, none⟩ (.int .i64 m)) j p m := by
  have := set_at h 1 (.int .i64 m)
  simpa [Jr] using this
theorem jsync_any {w0 w : World} {p j n : Nat} {v : Value} {d d' : Dk} (h : Jn w0 w p v d j n) (er : Bool) (he : d.sync = (er, d')) (en : Int) (hn : en = if er then 0 else 13) : Calls Tryz.prog 75 #[.pointer (some ⟨j, 0, none⟩)] w fun e w' => e = .returned (.int .i64 en) ∧ Jn w0 w' p v d' j n ∧ JSt p j w v w' v := by
  have hc := h.jr.c0
  have HH := hide h
  have HS := hide (nw_sync h.nw er he en hn)
  clear h he hn
  go_enter Tryz.func75, Tryz.ntmps75
  go_wp2_with fail
  refine HS.out.mono ?_
  rintro ee w1 ⟨rfl, N1, T1⟩
  have HJ := hide (HH.out.disk N1 T1)
  have HT := hide (T1.jst (j := j))
  clear N1 T1 HS hc
  go_wp2_with fail
  go_ret
  exact ⟨rfl, HJ.out, HT.out⟩
set_option maxRecDepth 100000 in
set_option maxHeartbeats 4000000 in
theorem jput_any {w0 w : World} {p j n : Nat} {v : Value} {d d' : Dk} {vb : Value} {b : List Int} (h : Jn w0 w p v d j n) (hS : Sl w vb b) (hB : Bs b) (hl : b.length ≤ 65535) (hn : n ≤ 1000000) (er : Bool) (he : d.app (recP b) = (er, d')) (en : Int) (hen : en = if er then 0 else 13) (n' : Nat) (hn' : n' = if er then n + 1 else n) :
    Calls Tryz.prog 74 #[.pointer (some ⟨j, 0, none⟩), vb] w fun e w' => e = .returned (.int .i64 en) ∧ ∃ v', Jn w0 w' p v' d' j n' ∧ JSt p j w v w' v' := by
  have HS : Hid (∀ w', Kp [] w.drew w' → Sl w' vb b) := fun w' k => hS.kept ((kp_drew w).trans k) (by simp)
  have HJ : Hid (∀ w', Kp [] w.drew w' → w'.heap[j]? = some (.cells #[.pointer (some ⟨p, 0, none⟩), .int .i64 n] 128 (0, 0))) := fun w' k => ((kp_drew w).trans k).heap h.jr (by simp)
  have HH := hide h
  have HB := hide hB
  have HL := hide hl
  have HE := hide he
  have HEN := hide hen
  have HN' := hide hn'
  obtain ⟨ab, cb, hvb, -⟩ := hS
  obtain ⟨nb, hnb⟩ : ∃ n, n = b.length := ⟨_, rfl⟩
  rw [← hnb] at hvb hl
  have hl' : ¬ (65535 : Int) < (nb : Int) := by omega
  subst hvb
  clear h hB he hen hn' hnb hl
  go_enter Tryz.func74, Tryz.ntmps74
  go_wp2_with fail
  refine region_grow_tail 6 Tryz.mixed [Is (.pointer (some ⟨j, 0, none⟩)), Is (.pointer (some ⟨j, 0, none⟩)), Is (.pointer (some ⟨j, 0, none⟩)), Is (.pointer (some ⟨p, 0, none⟩)), Is (.slice ab nb cb), SlT ((recP b))] [[(0, none)], [(9, some 0)], [(10, some 1)], [(11, some 2)], [(1, none)], [(13, some 4)]] (by kernel_rfl) ?_ ?_ ?_
  all_goals try simp only [List.take_succ_cons, List.take_zero, List.drop_succ_cons, List.drop_zero]
  · simp only [List.mem_cons, List.not_mem_nil, or_false]
    intro R hR
    rcases hR with rfl | rfl | rfl | rfl | rfl | rfl <;> first | exact stable_is _ | exact stable_sl _
  · refine steps_cons (fun a w hk hn => ?_) ?_
    · have h0 : a.eval (.tmp 0) = .pointer (some ⟨j, 0, none⟩) := hn.1
      clear hn
      refine wants_plain rfl ?_
      exact grown_move (.tmp 0) rfl h0
    refine steps_cons (fun a w hk hn => ?_) ?_
    · have h9 : a.eval (.tmp 9) = .pointer (some ⟨j, 0, none⟩) := hn.1
      clear hn
      refine wants_plain rfl ?_
      refine grown_run (v := .pointer (some ⟨j, 0, none⟩)) ?_ (Kp.refl _ _) rfl
      obtain ⟨ρ, hρ, hc, hf, hg⟩ := eval_is a
      rw [hρ] at h9 ⊢
      simp [go_sem, h9]
    refine steps_cons (fun a w hk hn => ?_) ?_
    · have h10 : a.eval (.tmp 10) = .pointer (some ⟨j, 0, none⟩) := hn.1
      clear hn
      refine wants_plain rfl ?_
      refine grown_run (v := .pointer (some ⟨j, 0, none⟩)) ?_ (Kp.refl _ _) rfl
      obtain ⟨ρ, hρ, hc, hf, hg⟩ := eval_is a
      rw [hρ] at h10 ⊢
      simp [go_sem, h10]
    refine steps_cons (fun a w hk hn => ?_) ?_
    · have h11 : a.eval (.tmp 11) = .pointer (some ⟨j, 0, none⟩) := hn.1
      clear hn
      refine wants_plain rfl ?_
      refine grown_run (v := .pointer (some ⟨p, 0, none⟩)) ?_ (Kp.refl _ _) rfl
      have hcell : w.cell? ⟨j, 0, none⟩ = some (.pointer (some ⟨p, 0, none⟩)) := by rw [cell_of_row w j 0 _ _ _ (HJ.out w hk)]; rfl
      obtain ⟨ρ, hρ, hc, hf, hg⟩ := eval_is a
      rw [hρ] at h11 ⊢
      simp [go_sem, h11, hcell]
    refine steps_cons (fun a w hk hn => ?_) ?_
    · have h1 : a.eval (.tmp 1) = .slice ab nb cb := hn.1
      clear hn
      refine wants_plain rfl ?_
      exact grown_move (.tmp 1) rfl h1
    refine steps_cons (fun a w hk hn => ?_) ?_
    · have h13 : a.eval (.tmp 13) = .slice ab nb cb := hn.1
      clear hn
      refine wants_plain rfl ?_
      refine grown_call (f := 100) rfl Tryz.func100 (by kernel_rfl) (by kernel_rfl) ?_
      simp only [List.map_toArray, List.map_cons, List.map_nil, h13]
      refine (jlaid_any (.slice ab nb cb) b w (HS.out w hk) HL.out).mono ?_
      rintro e w' ⟨ao, m, c, rfl, R, K⟩
      exact ⟨_, rfl, K, R.sl⟩
    exact trivial
  intro W1 hkW1
  rintro _ rfl
  rintro _ rfl
  rintro _ rfl
  rintro _ rfl
  rintro _ rfl
  intro v14 h14
  refine fin_nil ?_
  simp only [Act.put, List.set_cons_zero, List.set_cons_succ, List.setIfInBounds_toArray]
  have K0 : Kp [] w W1 := (kp_drew w).trans hkW1
  have HJ1 := hide (HH.out.on K0)
  have HA := hide (nw_append HJ1.out.nw h14 (recP_bs HB.out) er HE.out en HEN.out)
  have HK0 := hide K0
  clear h14 hkW1 K0 HS HJ
  go_wp2_with fail
  refine HA.out.mono ?_
  rintro ee w2 ⟨rfl, v2, N2, T2⟩
  have HJ2 := hide (HJ1.out.disk N2 T2)
  have HT2 : Hid (JSt p j w v w2 v2) := (JSt.mid v HK0.out).trans (T2.jst (j := j))
  clear N2 T2 HA
  cases er
  · have e0 : en = 13 := HEN.out
    have HN0 : Hid (n' = n) := HN'.out
    clear HEN HN'
    subst e0
    go_wp2_with fail
    go_ret
    refine ⟨rfl, v2, ?_, HT2.out⟩
    rw [HN0.out]; exact HJ2.out
  · have e0 : en = 0 := HEN.out
    have HN0 : Hid (n' = n + 1) := HN'.out
    clear HEN HN'
    subst e0
    have hc := HJ2.out.jr.c1
    have hf := HJ2.out.jr.f 1
    have hw : IntKind.i64.wrap ((n : Int) + 1) = (n : Int) + 1 := by simp [IntKind.wrap, IntKind.signed, IntKind.bits]; omega
    go_wp2_with fail
    go_ret
    have ks : Kp [j] w2 (w2.setCell ⟨j, 1, none⟩ (.int .i64 ((n : Int) + 1))) := kp_set w2 j 1 _
    refine ⟨rfl, v2, ⟨⟨HJ2.out.nw.dk.kept ks (fun i hi hm => ?_), HJ2.out.nw.new, HJ2.out.nw.kp.then ks (fun i hi => .inr ?_), HJ2.out.nw.arm⟩, ?_, HJ2.out.new⟩, HT2.out.trans ⟨ks.mono (by simp), fun _ h => .inl h⟩⟩
    · simp at hm; subst hm; exact HJ2.out.off hi
    · simp at hi; subst hi; exact HJ2.out.new
    · have := HJ2.out.jr.s1 ((n : Int) + 1)
      rw [HN0.out]; simpa using this
/-- what putAndSync does of two function values. -/
theorem pas_stop {w w1 : World} {vb : Value} {f g : Nat} {j : Nat} {en : Int} {R : World → Prop} (hen : en ≠ 0)
    (hP : Calls Tryz.prog 74 #[.pointer (some ⟨j, 0, none⟩), vb] w fun e w' => e = .returned (.int .i64 en) ∧ R w') :
    Calls Tryz.prog 73 #[vb, .func (.func 74) #[.pointer (some ⟨j, 0, none⟩)] #[], .func (.func 75) #[.pointer (some ⟨j, 0, none⟩)] #[]] w fun e w' => e = .returned (.int .i64 en) ∧ R w' := by
  have HP := hide hP
  clear hP
  go_enter Tryz.func73, Tryz.ntmps73
  go_wp2_with fail
  refine HP.out.mono ?_
  rintro ee w2 ⟨rfl, h2⟩
  have H2 := hide h2
  clear h2 HP
  go_wp2_with fail
  go_ret
  exact ⟨rfl, H2.out⟩
theorem pas_go {w : World} {vb : Value} {j : Nat} {en : Int} {R R' : World → Prop}
    (hP : Calls Tryz.prog 74 #[.pointer (some ⟨j, 0, none⟩), vb] w fun e w' => e = .returned (.int .i64 0) ∧ R w')
    (hS : ∀ w1, R w1 → Calls Tryz.prog 75 #[.pointer (some ⟨j, 0, none⟩)] w1 fun e w' => e = .returned (.int .i64 en) ∧ R' w') :
    Calls Tryz.prog 73 #[vb, .func (.func 74) #[.pointer (some ⟨j, 0, none⟩)] #[], .func (.func 75) #[.pointer (some ⟨j, 0, none⟩)] #[]] w fun e w' => e = .returned (.int .i64 en) ∧ R' w' := by
  have HP := hide hP
  have HS := hide hS
  clear hP hS
  go_enter Tryz.func73, Tryz.ntmps73
  go_wp2_with fail
  refine HP.out.mono ?_
  rintro ee w2 ⟨rfl, h2⟩
  have H2 := hide (HS.out w2 h2)
  clear h2 HP HS
  go_wp2_with fail
  refine H2.out.mono ?_
  rintro ee w3 ⟨rfl, h3⟩
  have H3 := hide h3
  clear h3 H2
  go_wp2_with fail
  go_ret
  exact ⟨rfl, H3.out⟩
theorem add_pas {w : World} {vb : Value} {j : Nat} {en : Int} {R : World → Prop}
    (hP : Calls Tryz.prog 73 #[vb, .func (.func 74) #[.pointer (some ⟨j, 0, none⟩)] #[], .func (.func 75) #[.pointer (some ⟨j, 0, none⟩)] #[]] w fun e w' => e = .returned (.int .i64 en) ∧ R w') :
    Calls Tryz.prog 34 #[.pointer (some ⟨j, 0, none⟩), vb] w fun e w' => e = .returned (.int .i64 en) ∧ R w' := by
  have HP := hide hP
  clear hP
  go_enter Tryz.func34, Tryz.ntmps34
  go_wp2_with fail
  refine HP.out.mono ?_
  rintro ee w2 ⟨rfl, h2⟩
  have H2 := hide h2
  clear h2 HP
  go_wp2_with fail
  go_ret
  exact ⟨rfl, H2.out⟩
/-- Add: Put, and then Sync: the first refusal. -/
def Dk.add (d : Dk) (b : List Int) : Bool × Dk := if (d.app b).1 then (d.app b).2.sync else (false, (d.app b).2)
theorem jadd_any {w0 w : World} {p j n : Nat} {v : Value} {d d' : Dk} {vb : Value} {b : List Int} (h : Jn w0 w p v d j n) (hS : Sl w vb b) (hB : Bs b) (hl : b.length ≤ 65535) (hn : n ≤ 1000000) (er : Bool) (he : d.add (recP b) = (er, d')) (en : Int) (hen : en = if er then 0 else 13) (n' : Nat) (hn' : n' = if (d.app (recP b)).1 then n + 1 else n) :
    Calls Tryz.prog 34 #[.pointer (some ⟨j, 0, none⟩), vb] w fun e w' => e = .returned (.int .i64 en) ∧ ∃ v', Jn w0 w' p v' d' j n' ∧ JSt p j w v w' v' := by
  obtain ⟨⟨e1, d1⟩, h1⟩ : ∃ x, d.app (recP b) = x := ⟨_, rfl⟩
  unfold Dk.add at he
  rw [h1] at he hn'
  cases e1
  · rw [if_neg (by simp)] at he
    injection he with e2 e3
    subst e2 e3
    exact add_pas (pas_stop (w1 := w) (f := 0) (g := 0) (by rw [hen]; decide) (jput_any h hS hB hl hn false h1 en hen n' hn'))
  · rw [if_pos rfl] at he
    refine add_pas (pas_go (jput_any h hS hB hl hn true h1 0 rfl n' hn') ?_)
    rintro w1 ⟨v1, J1, T1⟩
    refine (jsync_any J1 er he en hen).mono ?_
    rintro e w2 ⟨rfl, J2, T2⟩
    exact ⟨rfl, v1, J2, T1.trans T2⟩
end Go.Proofs.YteabdojjllfcpaaGreat

/-
  The reference's Record and Open; the law's lay.
-/
namespace Go.Proofs.YteabdojjllfcpaaGreat
open Go.RowKit
open Go.Proofs
/-- one more slice, wherever it lies but in the row itself. -/
theorem RowS.snocJ {w1 w2 : World} {base : Nat} {v v' : Value} {l : List (Value × List Int)} {x : Value × List Int} (h : RowS w1 base v l) (hx : Sl w1 x.1 x.2) (hB : Bs x.2) (ha : ∀ k, x.1.ownBlock = some k → v.ownBlock = some k → x.2 = [])
    (r : RowV w2 base v' (l.map (·.1) ++ [x.1])) (s : RStep w1 v w2 v') : RowS w2 base v' (l ++ [x]) := by
  have one : ∀ y : Value × List Int, Sl w1 y.1 y.2 → (∀ k, y.1.ownBlock = some k → v.ownBlock = some k → y.2 = []) → Sl w2 y.1 y.2 ∧ ∀ k, y.1.ownBlock = some k → v'.ownBlock = some k → y.2 = [] := by
    intro y hy hay
    refine ⟨hy.apart s.1 (fun i hi hm => hay i hi (by simpa [Option.mem_toList] using hm)), fun k hk hv => ?_⟩
    rcases s.2 k hv with h1 | h1
    · exact hay k hk h1
    · by_cases hb : y.2 = []
      · exact hb
      · obtain ⟨ao', c', e, h1', _, h3, h4⟩ := hy
        cases ao' with
        | none => exact List.eq_nil_of_length_eq_zero (by have := h3 rfl; omega)
        | some a =>
          have hpos : 0 < y.2.length := List.length_pos_iff.2 hb
          have hc := h4 a rfl 0 (.int .u8 y.2[0]) (by simp [List.getElem?_eq_getElem hpos])
          have hlt := World.block_lt_of_cell? _ _ hc
          rw [add_block] at hlt
          rw [e] at hk
          have : a.block = k := by simpa [Value.ownBlock] using hk
          omega
  refine ⟨by rw [List.map_append]; exact r, fun y hy => ?_⟩
  rcases List.mem_append.1 hy with hy | hy
  · obtain ⟨h1, h2, h3⟩ := h.2 y hy
    exact ⟨(one y h1 h3).1, h2, (one y h1 h3).2⟩
  · obtain rfl : y = x := by simpa using hy
    exact ⟨(one y hx ha).1, hB, (one y hx ha).2⟩
end Go.Proofs.YteabdojjllfcpaaGreat

/-
  A place of a row of the call's own: read, written.
-/
namespace Go.Proofs.YteabdojjllfcpaaGreat
open Go.RowKit
theorem Bs.set {bs : List Int} (h : Bs bs) (i : Nat) (x : Int) (h0 : 0 ≤ x) (h1 : x ≤ 255) : Bs (bs.set i x) := fun b hb => by
  rcases List.mem_or_eq_of_mem_set hb with h2 | rfl
  · exact h b h2
  · exact ⟨h0, h1⟩
theorem Row.spot {w : World} {base n c : Nat} {ao : Option Addr} {bs : List Int} (h : Row w base (.slice ao n c) bs) (h0 : 0 < n) :
    ∃ g, ao = some ⟨g, 0, none⟩ ∧ base ≤ g ∧ g < w.heap.size ∧ (∀ k (hk : k < bs.length), w.cell? ⟨g, k, none⟩ = some (.int .u8 bs[k])) ∧ (∀ k, w.frozen? ⟨g, k, none⟩ = false) ∧ ∀ k x, Row (w.setCell ⟨g, k, none⟩ (.int .u8 x)) base (.slice ao n c) (bs.set k x) := by
  have hn := h.len
  subst hn
  rcases h.2 with ⟨h', h1⟩ | ⟨g, cap, cur, h', hb, hg, _⟩
  · injection h'; omega
  · have e : ao = some ⟨g, 0, none⟩ := by injection h'
    subst e
    have h1 : w.ownsRow base 5 1 (.slice (some ⟨g, 0, none⟩) bs.length c) bs.length (bs.map (Value.int .u8)) := h
    refine ⟨g, rfl, hb, (Array.getElem?_eq_some_iff.1 hg).1, fun k hk => ?_, fun k => h1.frozenAt k, fun k x => ?_⟩
    · rw [h1.cellAt k (by omega)]; simp [List.getElem?_eq_getElem hk]
    · have := (h1.stored k (.int .u8 x)).1
      unfold Row
      rw [List.length_set, List.map_set]
      exact this
end Go.Proofs.YteabdojjllfcpaaGreat

/-
  Manifests (api.Manifest) as values and in memory: loaded, stored, handed back.
-/
namespace Go.Proofs.YteabdojjllfcpaaGreat
open Go.RowKit
open Go.Proofs
/-- v is the manifest m. -/
def MV (w : World) (v : Value) (m : Mf) : Prop :=
  ∃ af nf cf an nn cn, v = .agg #[.string m.s, .int .u32 m.v, .slice af nf cf, .slice an nn cn] ∧ Sl w (.slice af nf cf) m.f ∧ Sl w (.slice an nn cn) m.n ∧ m.ok
theorem MV.kept {w w' : World} {v : Value} {m : Mf} (h : MV w v m) (k : Kp [] w w') : MV w' v m := by
  obtain ⟨af, nf, cf, an, nn, cn, e, h1, h2, h3⟩ := h
  exact ⟨af, nf, cf, an, nn, cn, e, h1.kept k (by simp), h2.kept k (by simp), h3⟩
theorem MV.ok {w : World} {v : Value} {m : Mf} (h : MV w v m) : m.ok := by
  obtain ⟨_, _, _, _, _, _, _, _, _, h3⟩ := h
  exact h3
theorem sl_nlenM {w : World} {ao : Option Addr} {n c : Nat} {bs : List Int} (h : Sl w (.slice ao n c) bs) : n = bs.length := by
  obtain ⟨_, _, e, _⟩ := h
  injection e
/-- a manifest that is nothing. -/
def man0 : Value := .agg #[.string ⟨#[]⟩, .int .u32 0, .slice none 0 0, .slice none 0 0]
theorem man0_v (w : World) : MV w man0 mf0 := ⟨none, 0, 0, none, 0, 0, rfl, Sl.nil w, Sl.nil w, mf0_ok⟩
theorem Tryz.manSize : (Tryz.prog.info? 99).map (·.size) = some 4 := by kernel_rfl
section
variable {w : World} {g : Nat} {x y z u : Value} {fr : Nat × Nat}
theorem load_man (hg : w.heap[g]? = some (.cells #[x, y, z, u] 99 fr)) : (loadVar 99 ⟨g, 0, none⟩).run Tryz.prog w = .ok (.agg #[x, y, z, u]) w :=
  run_loadVar_row w g 99 99 #[x, y, z, u] fr _ hg Tryz.underlying99 rfl Tryz.manSize
theorem cell_man {t : TypeId} (hg : w.heap[g]? = some (.cells #[x, y, z, u] t fr)) : w.cell? ⟨g, 0, none⟩ = some x ∧ w.cell? ⟨g, 1, none⟩ = some y ∧ w.cell? ⟨g, 2, none⟩ = some z ∧ w.cell? ⟨g, 3, none⟩ = some u := by
  refine ⟨?_, ?_, ?_, ?_⟩ <;> rw [cell_of_row w g _ _ _ _ hg] <;> rfl
theorem results_man {fn : Func} {p r : Tmp} (h : fn.results = #[.cell p 99, .tmp r]) (tmps : Array Value) (hp : tmps.getD p undef = .pointer (some ⟨g, 0, none⟩)) (hg : w.heap[g]? = some (.cells #[x, y, z, u] 99 fr)) : (results fn tmps).run Tryz.prog w = .ok (.tuple #[.agg #[x, y, z, u], tmps.getD r undef]) w := by
  rw [results_cell_tmp h, hp]
  simp [asAddr, Result.andThen, load_man hg]
theorem results_man1 {fn : Func} {p : Tmp} (h : fn.results = #[.cell p 99]) (tmps : Array Value) (hp : tmps.getD p undef = .pointer (some ⟨g, 0, none⟩)) (hg : w.heap[g]? = some (.cells #[x, y, z, u] 99 fr)) : (results fn tmps).run Tryz.prog w = .ok (.agg #[x, y, z, u]) w :=
  results_cell_row h tmps w g 99 #[x, y, z, u] fr _ hp hg Tryz.underlying99 rfl Tryz.manSize
theorem kp_mcells (w : World) (g : Nat) : ∀ (l : List Value) (o : Nat) (w1 : World), Kp [g] w w1 → Kp [g] w (w1.setCells g o l)
  | [], _, _, h => h
  | x :: l, o, w1, h => kp_mcells w g l (o + 1) _ (h.setCell (p := ⟨g, o, none⟩) (.inl (by simp)) x)
theorem setCell_kpm (w : World) (g j : Nat) (u : Value) : Kp [g] w (w.setCell ⟨g, j, none⟩ u) := (Kp.refl [g] w).setCell (p := ⟨g, j, none⟩) (.inl (by simp)) _
theorem wpList_store_man {ops : Array Oper} {rest : List Oper} {o : Oper} {a : Act} {Q : Exit → Act → World → Prop} (hgd : o.guard = none) (p r : Operand) (ho : o.op = .store 99 p r) (g : Nat) (hp : a.eval p = .pointer (some ⟨g, 0, none⟩)) (x0 y0 z0 u0 x y z u : Value)
    (hg : w.heap[g]? = some (.cells #[x0, y0, z0, u0] 99 (0, 0))) (hu : a.eval r = .agg #[x, y, z, u]) (h1 : x.oneCell' = true ∧ y.oneCell' = true ∧ z.oneCell' = true ∧ u.oneCell' = true)
    (h : ∀ w', w'.heap[g]? = some (.cells #[x, y, z, u] 99 (0, 0)) → Kp [g] w w' → wpList Tryz.prog ops Q rest (a.put o.dst undef) w') : wpList Tryz.prog ops Q (o :: rest) a w := by
  refine wpList_store_mid hgd 99 p r ho g 0 #[x, y, z, u] hp hu ?_ (by simpa using Tryz.manSize) (all_oneCell_toArray (by simp [h1])) ?_
  · intro j hj
    simp only [List.size_toArray, List.length_cons, List.length_nil] at hj
    rw [Nat.zero_add, cell_of_row w g j _ _ _ hg]
    refine ⟨?_, frozen_of_row w g j _ _ hg⟩
    rcases (by omega : j = 0 ∨ j = 1 ∨ j = 2 ∨ j = 3) with rfl | rfl | rfl | rfl <;> rfl
  · refine h _ ?_ (kp_mcells w g _ 0 w (Kp.refl _ _))
    simp only [World.setCells]
    have e1 := heap_setCell_same w g 0 _ _ x hg
    have e2 := heap_setCell_same (w.setCell ⟨g, 0, none⟩ x) g 1 _ _ y e1
    have e3 := heap_setCell_same ((w.setCell ⟨g, 0, none⟩ x).setCell ⟨g, 1, none⟩ y) g 2 _ _ z e2
    have e4 := heap_setCell_same (((w.setCell ⟨g, 0, none⟩ x).setCell ⟨g, 1, none⟩ y).setCell ⟨g, 2, none⟩ z) g 3 _ _ u e3
    simpa using e4
end
/-- The value is the manifest m. -/
def MvT (m : Mf) : Tell := fun v w => MV w v m
theorem stable_mv (m : Mf) : Tell.stable (MvT m) := fun _ _ _ k h => h.kept k
section
variable {o : Oper} {a : Act} {w : World} {R : Tell} {g : Nat} {x y z u : Value} {fr : Nat × Nat}
theorem man_fld (g j : Nat) (hj : j < 4) (w : World) : (Instr.fieldAt 99 (.pointer (some ⟨g, 0, none⟩)) j).run Tryz.prog w = .ok (.pointer (some ⟨g, j, none⟩)) w := by
  rcases (by omega : j = 0 ∨ j = 1 ∨ j = 2 ∨ j = 3) with rfl | rfl | rfl | rfl <;> simp [go_sem]
theorem grown_mfld (p : Operand) (j : Nat) (hj : j < 4) (ho : o.op = .fieldAddr 99 p j) (hp : a.eval p = .pointer (some ⟨g, 0, none⟩)) : grown Tryz.prog w (Is (.pointer (some ⟨g, j, none⟩))) ((execOp a.eval o).run Tryz.prog w) := by
  refine grown_run ?_ (Kp.refl _ _) rfl
  unfold execOp
  simp only [ho, hp, Sem.run_bind, man_fld g j hj w, Result.andThen_ok, Sem.run_pure]
theorem grown_lds (p : Operand) (ho : o.op = .load 9 p) (j : Nat) (S : ByteArray) (hp : a.eval p = .pointer (some ⟨g, j, none⟩)) (hc : w.cell? ⟨g, j, none⟩ = some (.string S)) : grown Tryz.prog w (Is (.string S)) ((execOp a.eval o).run Tryz.prog w) := by
  refine grown_run (v := .string S) ?_ (Kp.refl _ _) rfl
  obtain ⟨ρ, hρ, _⟩ := eval_is a
  rw [hρ] at hp ⊢
  unfold execOp
  simp only [ho]
  simp [go_sem, hp, hc]
theorem grown_ldu (p : Operand) (ho : o.op = .load 95 p) (j : Nat) (i : Int) (hp : a.eval p = .pointer (some ⟨g, j, none⟩)) (hc : w.cell? ⟨g, j, none⟩ = some (.int .u32 i)) : grown Tryz.prog w (Is (.int .u32 i)) ((execOp a.eval o).run Tryz.prog w) := by
  refine grown_run (v := .int .u32 i) ?_ (Kp.refl _ _) rfl
  obtain ⟨ρ, hρ, _⟩ := eval_is a
  rw [hρ] at hp ⊢
  unfold execOp
  simp only [ho]
  simp [go_sem, hp, hc]
end
/-- bytes do not lie in a block that holds none. -/
theorem sl_block {w : World} {v : Value} {bs : List Int} {g : Nat} {cs : Array Value} {t : TypeId} {fr : Nat × Nat} (h : Sl w v bs) (hg : w.heap[g]? = some (.cells cs t fr)) (hn : ∀ x ∈ cs.toList, ∀ y, x ≠ .int .u8 y) (hv : v.ownBlock = some g) : bs = [] := by
  by_cases hb0 : bs = []
  · exact hb0
  · obtain ⟨ao', c', e, h1, _, h3, h4⟩ := h
    cases ao' with
    | none => exact List.eq_nil_of_length_eq_zero (by have := h3 rfl; omega)
    | some ad =>
      have hpos : 0 < bs.length := List.length_pos_iff.2 hb0
      have hc := h4 ad rfl 0 (.int .u8 bs[0]) (by simp [List.getElem?_eq_getElem hpos])
      rw [e] at hv
      have hbk : ad.block = g := by simpa [Value.ownBlock] using hv
      rw [Addr.add_zero'] at hc
      have hsp := World.cell?_spot hc
      obtain ⟨b, off, sp⟩ := ad
      simp only at hsp hbk
      subst hsp
      subst hbk
      rw [cell_of_row w b off _ _ _ hg] at hc
      exact absurd rfl (hn _ (by simpa using Array.mem_of_getElem? hc) bs[0])
theorem sl_empty {w w' : World} {ao : Option Addr} {n c : Nat} (h : Sl w (.slice ao n c) []) : Sl w' (.slice ao n c) [] := by
  obtain ⟨ao', c', e, h1, h2, h3, _⟩ := h
  exact ⟨ao', c', e, h1, h2, h3, fun a _ j u hu => by simp at hu⟩
/-- blocks that hold no bytes. -/
def NoBy (w : World) (S : List Nat) : Prop := ∀ g ∈ S, ∃ cs t fr, w.heap[g]? = some (.cells cs t fr) ∧ ∀ x ∈ cs.toList, ∀ y, x ≠ .int .u8 y
theorem Sl.offBy {w w' : World} {ao : Option Addr} {n c : Nat} {bs : List Int} {S : List Nat} (h : Sl w (.slice ao n c) bs) (hS : NoBy w S) (k : Kp S w w') : Sl w' (.slice ao n c) bs := by
  by_cases hb : bs = []
  · subst hb; exact sl_empty h
  · refine h.kept k (fun i hi hm => hb ?_)
    obtain ⟨cs, t, fr, hg, hn⟩ := hS i hm
    exact sl_block h hg hn hi
theorem man_no {S : ByteArray} {i : Int} {v u : Value} (hv : ∀ y, v ≠ .int .u8 y) (hu : ∀ y, u ≠ .int .u8 y) : ∀ x ∈ (#[Value.string S, .int .u32 i, v, u]).toList, ∀ y, x ≠ .int .u8 y := by
  intro x hx y
  rcases (by simpa using hx : x = .string S ∨ x = .int .u32 i ∨ x = v ∨ x = u) with rfl | rfl | rfl | rfl
  · simp
  · simp
  · exact hv y
  · exact hu y
theorem noBy_man {w : World} {g : Nat} {S : ByteArray} {i : Int} {a1 a2 : Option Addr} {n1 c1 n2 c2 : Nat} {t : TypeId} {fr : Nat × Nat} (hg : w.heap[g]? = some (.cells #[.string S, .int .u32 i, .slice a1 n1 c1, .slice a2 n2 c2] t fr)) : NoBy w [g] := by
  intro x hx
  obtain rfl : x = g := by simpa using hx
  exact ⟨_, _, _, hg, man_no (by simp) (by simp)⟩
theorem MV.offBy {w w' : World} {v : Value} {m : Mf} {S : List Nat} (h : MV w v m) (hS : NoBy w S) (k : Kp S w w') : MV w' v m := by
  obtain ⟨af, nf, cf, an, nn, cn, e, h1, h2, h3⟩ := h
  exact ⟨af, nf, cf, an, nn, cn, e, h1.offBy hS k, h2.offBy hS k, h3⟩
end Go.Proofs.YteabdojjllfcpaaGreat

/-
  The contracts of package wire's Byte of a writer and of a reader.
-/
namespace Go.Proofs.YteabdojjllfcpaaGreat
open Go.RowKit
open Go.Proofs
theorem rbyte_any (q : Nat) (v : Value) (bad : Bool) (bs : List Int) (w : World) (hR : Rd w q v bad bs) (hB : Bs bs) :
    Calls Tryz.prog 89 #[.pointer (some ⟨q, 0, none⟩)] w fun e w' => e = .returned (.int .u8 (val (tk bad bs 1).1)) ∧ Left w q v (tk bad bs 1).2 w' := by
  have hv := val_one (tk bad bs 1).1 (tk_bs1 hB) (@tk_len1 bad bs 1)
  go_enter Tryz.func89, Tryz.ntmps89
  go_wp2_with (go_at_call 111; refine (rnumber_any q v bad bs 1 _ hR (by omega) (by omega) hB).mono ?_; rintro e w1 ⟨rfl, h1⟩)
  go_ret
  exact ⟨rfl, h1⟩
end Go.Proofs.YteabdojjllfcpaaGreat

/-
  The contracts of package wire's Byte and Bytes of a writer and of a reader, and End, over this seat's program.
-/
namespace Go.Proofs.YteabdojjllfcpaaGreat
open Go.RowKit
open Go.Proofs
theorem be_two (n : Int) : be n 2 0 = [n / 256 % 256, n % 256] := by simp [be, byteAt, List.range_succ]
theorem bytes_ok (p : Nat) (v : Value) (bs : List Int) (vb : Value) (cs : List Int) (w : World) (hw : Wr w p v bs) (hs : Sl w vb cs) (hk : ∀ w1, Kp (p :: v.ownBlock.toList) w w1 → Sl w1 vb cs) (hb : bs.length + cs.length ≤ 100000000000000) (hl : cs.length ≤ 65535) :
    Calls Tryz.prog 123 #[.pointer (some ⟨p, 0, none⟩), vb] w fun e w' => e = .returned (.bool true) ∧ ∃ v', Wr w' p v' (bs ++ be cs.length 2 0 ++ cs) ∧ Step p w v w' v' := by
  obtain ⟨ao, c, rfl, h1, h2, h3, h4⟩ := hs
  have hw32 : IntKind.u32.wrap (cs.length : Int) = cs.length := by simp [IntKind.wrap, IntKind.signed, IntKind.bits]; omega
  have hle : (cs.length : Int) ≤ 65535 := by omega
  clear h4 h3 h2
  go_enter Tryz.func123, Tryz.ntmps123
  go_wp2_with (go_at_call 124; refine (number_any p cs.length 2 v bs _ hw (by omega) (by omega)).mono ?_; rintro e w1 ⟨rfl, v1, k1, k2⟩)
  go_wp2_with (go_at_call 118; refine (raw_any p v1 _ _ cs _ k1 (hk _ k2.1) (by rw [List.length_append, be_length]; omega)).mono ?_; rintro e w2 ⟨rfl, v2, k3, k4⟩)
  go_ret
  exact ⟨rfl, v2, k3, k2.trans k4⟩
theorem val_two (cs : List Int) (h : Bs cs) (hl : cs.length ≤ 2) : 0 ≤ val cs ∧ val cs ≤ 65535 := by
  have h1 := val_bd cs h
  have : cs.length = 0 ∨ cs.length = 1 ∨ cs.length = 2 := by omega
  rcases this with e | e | e <;> rw [e] at h1 <;> omega
theorem rbytes_any (q : Nat) (v : Value) (bad : Bool) (bs : List Int) (most : Int) (w : World) (hR : Rd w q v bad bs) (hB : Bs bs) (hb : bs.length ≤ 140737488355328) :
    Calls Tryz.prog 90 #[.pointer (some ⟨q, 0, none⟩), .int .i64 most] w fun e w' => ∃ ao c, e = .returned (.slice ao (tkb bad bs most).1.length c) ∧ Own w w' (.slice ao (tkb bad bs most).1.length c) (tkb bad bs most).1 ∧ Left w q v (tkb bad bs most).2 w' := by
  have hv := val_two (tk bad bs 2).1 (tk_bs1 hB) (@tk_len1 bad bs 2)
  have hl2 : (tk bad bs 2).2.2.length ≤ 140737488355328 := by have := @tk_len bad bs 2; omega
  obtain ⟨t, ht⟩ : ∃ t, t = tk bad bs 2 := ⟨_, rfl⟩
  have hw64 : IntKind.i64.wrap (val t.1) = val t.1 := by rw [ht]; simp [IntKind.wrap, IntKind.signed, IntKind.bits]; omega
  rw [← ht] at hv hl2
  have HT : Hid (t = tk bad bs 2) := ht
  have h2 : (tkb bad bs most) = if max most 0 < val t.1 then ([], true, []) else tk t.2.1 t.2.2 (val t.1) := by unfold tkb; rw [ht]
  clear ht
  obtain ⟨x, hx⟩ : ∃ x, x = val t.1 := ⟨_, rfl⟩
  rw [← hx] at hv hw64 h2
  have HX : Hid (x = val t.1) := hx
  clear hx
  obtain ⟨hv0, hv1⟩ := hv
  by_cases hm : max most 0 < x
  · rw [if_pos hm] at h2
    rw [h2]
    have hm2 : ¬ x ≤ max most 0 := by omega
    clear h2
    go_enter Tryz.func90, Tryz.ntmps90
    go_wp2_with fail
    refine (rnumber_any q v bad bs 2 _ hR (by omega) (by omega) hB).mono ?_
    rintro e w1 ⟨rfl, hL⟩
    rw [show ((2 : Nat) : Int) = 2 from rfl, ← HT.out] at hL
    rw [show ((2 : Nat) : Int) = 2 from rfl, ← HT.out, ← HX.out]
    go_wp2_with fail
    all_goals
      obtain ⟨⟨v1, r1, o1⟩, k1⟩ := hL
      refine (spoil_any q v1 _ _ _ r1).mono ?_
      rintro e w2 ⟨rfl, r2, k2⟩
      go_wp2_with fail
      refine (raw_ok q _ true [] x _ r2 (by simp)).mono ?_
      rw [tk_no true [] x (.inr (by simp; omega))]
      rintro e w3 ⟨ao, c, rfl, hO, hL3⟩
      go_wp2_with fail
      go_ret
      exact ⟨ao, c, rfl, ⟨hO.1, fun k hk => Nat.le_trans (k1.trans k2).size (hO.2 k hk)⟩, ⟨⟨_, hL3.1.choose_spec.1, fun k hk => (by have := hL3.1.choose_spec.2 k hk; cases this)⟩, (k1.trans k2).trans hL3.2⟩⟩
  · rw [if_neg hm] at h2
    rw [h2]
    clear h2
    go_enter Tryz.func90, Tryz.ntmps90
    go_wp2_with fail
    refine (rnumber_any q v bad bs 2 _ hR (by omega) (by omega) hB).mono ?_
    rintro e w1 ⟨rfl, hL⟩
    rw [show ((2 : Nat) : Int) = 2 from rfl, ← HT.out] at hL
    rw [show ((2 : Nat) : Int) = 2 from rfl, ← HT.out, ← HX.out]
    go_wp2_with fail
    all_goals
      obtain ⟨⟨v1, r1, o1⟩, k1⟩ := hL
      refine (raw_ok q v1 _ _ x _ r1 hl2).mono ?_
      rintro e w3 ⟨ao, c, rfl, hO, hL3⟩
      go_wp2_with fail
      go_ret
      exact ⟨ao, c, rfl, ⟨hO.1, fun k hk => Nat.le_trans k1.size (hO.2 k hk)⟩, ⟨⟨_, hL3.1.choose_spec.1, fun k hk => o1 k (hL3.1.choose_spec.2 k hk)⟩, k1.trans hL3.2⟩⟩
theorem end_any (q : Nat) (v : Value) (bad : Bool) (bs : List Int) (w : World) (h : Rd w q v bad bs) :
    Calls Tryz.prog 93 #[.pointer (some ⟨q, 0, none⟩)] w fun e w' => e = .returned (.bool (!bad && bs.isEmpty)) ∧ w' = w := by
  obtain ⟨ao, c, rfl, h1, h2, h3, h4⟩ := h.2.1
  have hc0 := (cell_of_two h.1).1
  have hc1 := (cell_of_two h.1).2
  clear h4 h3 h
  cases bad with
  | true =>
    go_enter Tryz.func93, Tryz.ntmps93
    go_wp2
    go_ret
    exact ⟨rfl, rfl⟩
  | false =>
    cases bs with
    | nil =>
      go_enter Tryz.func93, Tryz.ntmps93
      go_wp2
      go_ret
      exact ⟨rfl, rfl⟩
    | cons b bs =>
      have hl : (((bs.length : Int) + 1) == 0) = false := by rw [beq_eq_false_iff_ne]; omega
      go_enter Tryz.func93, Tryz.ntmps93
      go_wp2
      go_ret
      exact ⟨rfl, rfl⟩
end Go.Proofs.YteabdojjllfcpaaGreat

/-
  Rows of numbers that a call owns; items of a row of texts.
-/
namespace Go.Proofs.YteabdojjllfcpaaGreat
open Go.RowKit
open Go.Proofs
set_option linter.unusedVariables false
theorem beU_2 (n : Int) : be n 2 0 = be2 n := be_two n
theorem be_bqU (n : Int) : be n 4 0 = bq n := by simp [be, byteAt, List.range_succ, bq]
theorem Tryz.infoInt : (Tryz.prog.info? 3).map (fun i => (i.zero, i.size, i.bytes)) = some (some (.int .i64 0), 1, 8) := by kernel_rfl
/-- the row v of ints, of the call's own from base on. -/
def RowI (w : World) (base : Nat) (v : Value) (l : List Int) : Prop := w.ownsRow base 3 1 v l.length (l.map (Value.int .i64))
theorem RowI.kept {w w' : World} {base : Nat} {v : Value} {l : List Int} {S : List Nat} (h : RowI w base v l) (k : Kp S w w') (hv : ∀ i, v.ownBlock = some i → i ∉ S) : RowI w' base v l := k.owns h hv
theorem RowI.shape {w : World} {base : Nat} {v : Value} {l : List Int} (h : RowI w base v l) : ∃ ao c, v = .slice ao l.length c := owns_shape h
theorem RowI.lt {w : World} {base k : Nat} {v : Value} {l : List Int} (h : RowI w base v l) (hk : v.ownBlock = some k) : base ≤ k ∧ k < w.heap.size := by
  rcases h.2 with ⟨rfl, _⟩ | ⟨g, cap, cur, rfl, hb, hg, _⟩
  · cases hk
  · cases hk; exact ⟨hb, (Array.getElem?_eq_some_iff.1 hg).1⟩
theorem RowI.rebase {w : World} {base base' : Nat} {v : Value} {l : List Int} (h : RowI w base v l) (hn : ∀ k, v.ownBlock = some k → base' ≤ k) : RowI w base' v l := owns_rebase h hn
theorem wpList_append_rowi {w : World} {ops : Array Oper} {rest : List Oper} {o : Oper} {a : Act} {Q : Exit → Act → World → Prop} (hgd : o.guard = none) (s x : Operand)
    (ho : o.op = .call { callee := .builtin .append, args := #[s, x], argTypes := #[53, 53] }) (base : Nat) (v : Value) (xs : List Int) (hs : a.eval s = v) (hrow : RowI w base v xs)
    (n : Int) (hx : a.eval x = .slice (some ⟨w.heap.size, 0, none⟩) 1 1) (hb : xs.length ≤ 1000000) (hbase : base ≤ w.heap.size)
    (h : ∀ ao m c w', RowI w' base (.slice ao m c) (xs ++ [n]) → RStep w v w' (.slice ao m c) → wpList Tryz.prog ops Q rest (a.put o.dst (.slice ao m c)) w') : wpList Tryz.prog ops Q (o :: rest) a (w.alloc (.cells #[.int .i64 n] 3)) := by
  obtain ⟨i0, hi0, hz0, hz1, hz2⟩ := info_parts Tryz.infoInt
  obtain ⟨av, cv, rfl⟩ := hrow.shape
  have k0 : Kp [] w (w.alloc (.cells #[.int .i64 n] 3)) := (Kp.refl [] w).alloc _
  refine wpList_append_own_at _ hgd s x 53 ho base 3 i0 (.int .i64 0) 1 8 Tryz.underlying53 hi0 hz0 hz1 hz2 rfl (by decide) _ xs.length (xs.map (Value.int .i64)) hs (hrow.kept k0 (by simp)) ⟨w.heap.size, 0, none⟩ 1 1 [.int .i64 n] hx rfl (fun j u hu => World.news_of_block (heap_alloc_new w _) j u (by simpa using hu)) (by simp [Value.oneCell']) (by unfold maxLen; omega) (by omega) (Nat.le_trans hbase k0.size) ?_
  intro v' w1 hown hgrow _ hat
  have R : RowI w1 base v' (xs ++ [n]) := by unfold RowI; rw [List.length_append, List.map_append]; exact hown
  obtain ⟨ao', c', hv⟩ := R.shape
  subst hv
  refine h ao' _ c' w1 R ⟨(k0.mono (by simp)).trans ((Kp.refl _ _).grown hgrow (fun k hk => .inl (by simp [hk]))), fun k hk => ?_⟩
  rcases hat with e | e
  · exact .inl (e ▸ hk)
  · rw [e] at hk; cases hk; exact .inr (by simp)
/-- an item of a row of texts. -/
theorem RowU.at {w : World} {base m c : Nat} {ao : Option Addr} {l : List (List Int)} (h : RowU w base (.slice ao m c) l) (i : Nat) (hi : i < l.length) : ∃ g, ao = some ⟨g, 0, none⟩ ∧ w.cell? ⟨g, i, none⟩ = some (.string (strOfNums l[i])) := by
  rcases h.2 with ⟨e, h0⟩ | ⟨g, cap, cur, e, _⟩
  · omega
  · injection e with e1 e2 e3
    subst e1
    have := h.cells (g := g) rfl i (sv l[i]) (by simp [List.getElem?_eq_getElem hi])
    exact ⟨g, rfl, by simpa [Addr.add_lit, sv] using this⟩
set_option maxRecDepth 100000 in
set_option maxHeartbeats 4000000 in
theorem ulaid_any (v : Value) (l : List (List Int)) (w : World) (hR : RowU w 0 v l) (hs : ∀ x ∈ l, Bs x ∧ x.length ≤ 65535) (hn : l.length ≤ 1000) :
    Calls Tryz.prog 109 #[v] w fun e w' => ∃ ao m c, e = .returned (.tuple #[.slice ao m c, .bool true]) ∧ Row w' w.heap.size (.slice ao m c) (batU l) ∧ Kp [] w w' := by
  obtain ⟨al, cl, rfl⟩ := hR.shape
  have HR := hide hR
  have HS := hide hs
  obtain ⟨n, hnl⟩ : ∃ n, n = l.length := ⟨_, rfl⟩
  have hn32 : IntKind.u32.wrap (n : Int) = n := by simp [IntKind.wrap, IntKind.signed, IntKind.bits]; omega
  have HB0 : Hid ((l.take 0).map itmU = []) := by simp [Hid]
  rw [← hnl] at HR hn ⊢
  have HN := hide hnl
  clear hR hs hnl
  go_enter Tryz.func109, Tryz.ntmps109
  go_wp2_with fail
  refine (new_abs w).mono ?_
  rintro ee w1 ⟨p, rfl, W1, hp1, K1⟩
  have HW : Hid (Wn w w1 p (.slice none 0 0) []) := ⟨W1, K1, hp1, fun k hk => by cases hk⟩
  clear W1 hp1 K1
  go_wp2_with fail
  refine (num_any p n (.slice none 0 0) [] w1 HW.out.1 (by simp)).mono ?_
  rintro ee w2 ⟨rfl, v2, W2, S2⟩
  rw [List.nil_append, be_bqU] at W2
  have HW2 := hide (HW.out.step W2 S2)
  clear W2 S2 HW
  go_wp2_with fail
  go_loopw [15] (fun i wr => ∃ k : Nat, k ≤ n ∧ i = .int .i64 k ∧ ∃ vw, Wn w wr p vw (bq n ++ ((l.take k).map itmU).flatten)) (fun i _ => n - (intOf i).toNat)
  case atStart => exact ⟨0, by omega, rfl, v2, by simpa using HW2.out⟩
  case round =>
    obtain ⟨k, hk, rfl, vw, W⟩ := hrel
    have HWk := hide W
    clear W HW2
    by_cases hlt : k < n
    · have hlt' : (k : Int) < (n : Int) := by omega
      have hkl : k < l.length := by have := HN.out; omega
      obtain ⟨g, rfl, hc⟩ := (HR.out.kept HWk.out.2.1 (by simp)).at k hkl
      obtain ⟨hBx, hlx⟩ := HS.out l[k] (List.getElem_mem hkl)
      have he : ((l.take (k + 1)).map itmU).flatten = ((l.take k).map itmU).flatten ++ itmU l[k] := by
        rw [List.take_succ_eq_append_getElem hkl, List.map_append]; simp
      have hll : ((l.take k).map itmU).flatten.length ≤ 100000000 := by
        have h1 := flatU_len (l.take k) 65535 (fun r hr => (HS.out r (List.mem_of_mem_take hr)).2)
        rw [List.length_take] at h1
        have : min k l.length * (2 + 65535) ≤ 1000 * (2 + 65535) := Nat.mul_le_mul_right _ (by omega)
        omega
      obtain ⟨x, hx⟩ : ∃ x, x = l[k] := ⟨_, rfl⟩
      rw [← hx] at hc hBx hlx he
      obtain ⟨c5, w5, hcv, S5, K5⟩ := conv_big (strOfNums x) wr (by rw [str_size]; omega)
      rw [nums_str x hBx] at S5
      have HW5 := hide (HWk.out.kept K5)
      have HB5 := hide (bytes_ok p vw _ _ x w5 HW5.out.1 S5 (fun w1 k1 => S5.kept k1 (fun i hi hm => by
        have e : wr.heap.size = i := by simpa [Value.ownBlock] using hi
        simp only [List.mem_cons, Option.mem_toList] at hm
        rcases hm with hm | hm
        · have := HWk.out.1.lt; omega
        · have := (HWk.out.1.2.lt i hm).2; omega)) (by rw [List.length_append, bq_len]; omega) hlx)
      have HE := hide he
      clear S5 K5 HWk he hx hll
      go_wp2_with fail
      refine HB5.out.mono ?_
      rintro ee w6 ⟨rfl, v6, W6, S6⟩
      have HW6 := hide (HW5.out.step W6 S6)
      clear W6 S6 HB5 HW5 hcv hc
      go_wp2_with fail
      go_roundw
      case rel => exact ⟨k + 1, by omega, by go_num, v6, by have := HW6.out; rw [HE.out]; show Wn w w6 p v6 (bq n ++ (((l.take k).map itmU).flatten ++ (be2 x.length ++ x))); rw [beU_2] at this; simpa only [List.append_assoc] using this⟩
      case measure => simp [intOf]; omega
    · have hkn : k = n := by omega
      have HWn : Hid (Wn w wr p vw (batU l)) := by
        have := HWk.out
        rw [hkn, HN.out, List.take_length] at this
        exact this
      have hnlt : ¬ (k : Int) < (n : Int) := by omega
      have hbl : (batU l).length ≤ 100000000 := by
        have h1 := batU_len l 65535 (fun r hr => (HS.out r hr).2)
        have : l.length * (2 + 65535) ≤ 1000 * (2 + 65535) := Nat.mul_le_mul_right _ (by have := HN.out; omega)
        omega
      have HD := hide (done_any p vw _ wr HWn.out.1 (by omega))
      obtain ⟨m, hm⟩ : ∃ m, m = (batU l).length := ⟨_, rfl⟩
      rw [← hm] at HD
      have HM := hide hm
      clear hm hbl HWk hkn
      go_wp2_with fail
      refine HD.out.mono ?_
      rintro ee w5 ⟨a5, c5, rfl, R5, K5⟩
      have HR5 : Hid (Row w5 w.heap.size (.slice a5 m c5) (batU l)) := row_new (w0 := wr) (by unfold Row; rw [← HM.out]; exact R5) HWn.out.2.1
      have HK5 := hide (HWn.out.2.1.trans K5)
      clear R5 K5 HD
      go_wp2_with fail
      go_ret2
      exact ⟨a5, m, c5, rfl, HR5.out, HK5.out⟩
end Go.Proofs.YteabdojjllfcpaaGreat

/-
  Where a checkpoint's root lies, where a writer's bytes lie.
-/
namespace Go.Proofs.YteabdojjllfcpaaGreat
open Go.RowKit
open Go.Proofs
theorem CkV.sl {w : World} {a : Option Addr} {m c : Nat} {n : Int} {r : List Int} (h : CkV w (.agg #[.int .i64 n, .slice a m c]) n r) : Sl w (.slice a m c) r := by
  obtain ⟨a', m', c', e, h1, _⟩ := h
  simp only [Value.agg.injEq, Array.mk.injEq, List.cons.injEq, and_true, true_and] at e
  rw [e]
  exact h1
end Go.Proofs.YteabdojjllfcpaaGreat

/-
  Lists of slices with the room behind them told: how they are cut.
-/
namespace Go.Proofs.YteabdojjllfcpaaGreat
open Go.RowKit
/-- v is a slice of slices that reads so; its room is no less than its length. -/
def Lc (w : World) (v : Value) (l : List (Value × List Int)) : Prop :=
  Lists w v l ∧ ∃ ao c, v = .slice ao l.length c ∧ l.length ≤ c ∧ c ≤ maxLen ∧ (ao = none → c = 0)
theorem Lc.kept {w w' : World} {v : Value} {l : List (Value × List Int)} (h : Lc w v l) (k : Kp [] w w') : Lc w' v l := ⟨h.1.kept k, h.2⟩
theorem Lc.take {w : World} {ao : Option Addr} {len c : Nat} {l : List (Value × List Int)} (h : Lc w (.slice ao len c) l) (n : Nat) (hn : n ≤ l.length) : Lc w (.slice ao n c) (l.take n) := by
  obtain ⟨h1, ao', c', e, h2, h3, h4⟩ := h
  cases e
  have hl : (l.take n).length = n := by simp; omega
  exact ⟨h1.take hn, ao, c, by rw [hl], by omega, h3, h4⟩
theorem Lc.drop {w : World} {ao : Option Addr} {len c : Nat} {l : List (Value × List Int)} (h : Lc w (.slice ao len c) l) (n : Nat) (hn : n ≤ l.length) :
    Lc w (.slice (if c = n then ao else ao.map (·.add n)) (len - n) (c - n)) (l.drop n) := by
  obtain ⟨⟨_, _, _, g1, g2⟩, ao', c', e, h2, h3, h4⟩ := h
  rename_i x1 x2 x3
  cases e
  cases x3
  have hl : (l.drop n).length = l.length - n := by simp
  refine ⟨⟨_, c - n, by rw [hl], by omega, fun i hi => ?_⟩, _, c - n, by rw [hl], by omega, by omega, fun ha => ?_⟩
  · have hi2 : n + i < l.length := by omega
    obtain ⟨b, off, e, h5, h6, h7⟩ := g2 (n + i) hi2
    subst e
    have e2 : (l.drop n)[i] = l[n + i] := by simp
    rw [e2, if_neg (by omega)]
    exact ⟨b, off + n, by simp [Addr.add_lit], by rw [Nat.add_assoc]; exact h5, h6, h7⟩
  · split at ha
    · omega
    · cases hao : ao with
      | none => have := h4 hao; omega
      | some x => rw [hao] at ha; cases ha
theorem Lc.shape {w : World} {v : Value} {l : List (Value × List Int)} (h : Lc w v l) : ∃ ao c, v = .slice ao l.length c ∧ l.length ≤ c ∧ c ≤ 9223372036854775807 ∧ (ao = none → c = 0) := by
  obtain ⟨_, ao, c, e, h2, h3, h4⟩ := h
  exact ⟨ao, c, e, h2, by unfold maxLen at h3; omega, h4⟩
theorem lc_of_owns {w : World} {base : Nat} {v : Value} {l : List (Value × List Int)} (h : RowV w base v (l.map (·.1))) (hL : Lists w v l) : Lc w v l := by
  refine ⟨hL, ?_⟩
  rcases h.2 with ⟨rfl, h0⟩ | ⟨g, cap, cur, rfl, _, hg, hc, hm, _⟩
  · have : l.length = 0 := by simpa using h0
    exact ⟨none, 0, by rw [this], by omega, by simp, fun _ => rfl⟩
  · exact ⟨some ⟨g, 0, none⟩, cap, by simp, by simpa using hc, hm, fun h => by cases h⟩
theorem Acc.lc {w wr : World} {ls : List (List Int)} {v : Value} (h : Acc w ls v wr) (hl : ls.length ≤ 1000) : ∃ l, Lc wr v l ∧ l.map (·.2) = ls := by
  obtain ⟨l, h1, h2, _⟩ := h
  exact ⟨l, lc_of_owns h1.1 (h1.lists (by rw [← List.length_map (f := (·.2)), h2]; exact hl)), h2⟩
theorem FewAt.lc {w wr : World} {l : List (Value × List Int)} {most k : Nat} {o : Value} (h : FewAt w wr l most k o) (hB : ∀ x ∈ l, Bs x.2) (hk : k ≤ 1000) : ∃ l', Lc wr o l' ∧ l'.map (·.2) = (l.take k).map fun x => x.2.take most := by
  obtain ⟨l1, h1, e1⟩ := h.lists hB hk
  refine ⟨l1, ?_, e1⟩
  obtain ⟨l', rfl, ho, hK, hS, he⟩ := h
  have hll : l1.length = l'.length := by rw [← List.length_map (f := (·.2)), e1, ← he]; simp
  refine ⟨h1, ?_⟩
  rcases ho.2 with ⟨rfl, h0⟩ | ⟨g, cap, cur, rfl, _, hg, hc, hm, _⟩
  · exact ⟨none, 0, by rw [hll, h0], by omega, by simp, fun _ => rfl⟩
  · exact ⟨some ⟨g, 0, none⟩, cap, by rw [hll], by omega, hm, fun h => by cases h⟩
end Go.Proofs.YteabdojjllfcpaaGreat

/-
  Lists of slices by their bytes, cut and looked at, as what an operation yields.
-/
namespace Go.Proofs.YteabdojjllfcpaaGreat
open Go.RowKit
/-- The value is a slice of slices that reads as these bytes; its room is told. -/
def LcM (ls : List (List Int)) : Tell := fun v w => ∃ l, Lc w v l ∧ l.map (·.2) = ls
theorem stable_lcm (ls : List (List Int)) : Tell.stable (LcM ls) := fun _ _ _ k ⟨l, h, e⟩ => ⟨l, h.kept k, e⟩
theorem LcM.kept {ls : List (List Int)} {v : Value} {w w' : World} (h : LcM ls v w) (k : Kp [] w w') : LcM ls v w' := stable_lcm ls _ _ _ k h
theorem LcM.bs {ls : List (List Int)} {v : Value} {w : World} (h : LcM ls v w) : ∀ x ∈ ls, Bs x := by
  obtain ⟨l, h1, rfl⟩ := h
  intro x hx
  obtain ⟨y, hy, rfl⟩ := List.mem_map.1 hx
  exact h1.1.bs y hy
theorem LcM.shape {ls : List (List Int)} {v : Value} {w : World} (h : LcM ls v w) : ∃ ao c, v = .slice ao ls.length c ∧ ls.length ≤ c ∧ c ≤ 9223372036854775807 ∧ (ao = none → c = 0) := by
  obtain ⟨l, h1, rfl⟩ := h
  rw [List.length_map]
  exact h1.shape
theorem LcM.take {ls : List (List Int)} {w : World} {ao : Option Addr} {len c : Nat} (h : LcM ls (.slice ao len c) w) (n : Nat) (hn : n ≤ ls.length) : LcM (ls.take n) (.slice ao n c) w := by
  obtain ⟨l, h1, rfl⟩ := h
  exact ⟨l.take n, h1.take n (by simpa using hn), by rw [List.map_take]⟩
theorem LcM.drop {ls : List (List Int)} {w : World} {ao : Option Addr} {len c : Nat} (h : LcM ls (.slice ao len c) w) (n : Nat) (hn : n ≤ ls.length) : LcM (ls.drop n) (.slice (if c = n then ao else ao.map (·.add n)) (len - n) (c - n)) w := by
  obtain ⟨l, h1, rfl⟩ := h
  exact ⟨l.drop n, h1.drop n (by simpa using hn), by rw [List.map_drop]⟩
/-- a slice at a place of a list. -/
theorem LcM.at {ls : List (List Int)} {w : World} {ao : Option Addr} {len c : Nat} (h : LcM ls (.slice ao len c) w) (i : Nat) (x : List Int) (hx : ls[i]? = some x) : len = ls.length ∧ ∃ b off u, ao = some ⟨b, off, none⟩ ∧ w.cell? ⟨b, off + i, none⟩ = some u ∧ Sl w u x ∧ Bs x := by
  obtain ⟨l, ⟨⟨_, _, e, _, h2⟩, _⟩, rfl⟩ := h
  cases e
  rw [List.getElem?_map] at hx
  obtain ⟨y, hy, rfl⟩ := Option.map_eq_some_iff.1 hx
  obtain ⟨hi, rfl⟩ := List.getElem?_eq_some_iff.1 hy
  obtain ⟨b, off, e, h3, h4, h5⟩ := h2 i hi
  exact ⟨by simp, b, off, _, e, h3, h4, h5⟩
section
variable {o : Oper} {a : Act} {w : World}
end
end Go.Proofs.YteabdojjllfcpaaGreat

/-
  The contracts of the law package's helpers Seed and Hash, as functions.
-/
namespace Go.Proofs.YteabdojjllfcpaaGreat
open Go.RowKit
open Go.Proofs
def seedX (n : Int) : List Int := sha [99, wiP n 0 1000 % 5]
theorem seedX_len (n : Int) : (seedX n).length = 32 := sha_len _
theorem seedX_bs (n : Int) : Bs (seedX n) := sha_bs _
set_option maxRecDepth 100000 in
set_option maxHeartbeats 1000000 in
theorem xseed_any (n : Int) (w : World) :
    Calls Tryz.prog 11 #[.int .i64 n] w fun e w' => ∃ ao m c, e = .returned (.slice ao m c) ∧ Row w' w.heap.size (.slice ao m c) (seedX n) ∧ Kp [] w w' := by
  have HW := hide (within_wi n 0 1000 w (by omega) (by omega) (by omega))
  obtain ⟨x, hx⟩ : ∃ x, x = wiP n 0 1000 := ⟨_, rfl⟩
  obtain ⟨hxb, hxc⟩ := wiP_ge n 0 1000 (by omega)
  rw [← hx] at HW hxb hxc
  have HX := hide hx
  clear hx
  go_enter Tryz.func11, Tryz.ntmps11
  go_wp2_with fail
  refine (unhide HW).mono ?_
  rintro ee w1 ⟨rfl, hw⟩
  subst w1
  clear HW
  go_wp2_with fail
  obtain ⟨ob, hob⟩ : ∃ o : Obj, o = (.cells #[.int .u8 (x % 5)] 5) := ⟨_, rfl⟩
  have hP : Sl (w.alloc ob) (.slice (some ⟨w.heap.size, 0, none⟩) 1 1) [x % 5] := by
    rw [hob]; exact Sl.block (cs := [x % 5]) (t := 5) (fr := (0, 0)) (heap_alloc_new w _) (by simp [maxLen])
  have hPB : Bs [x % 5] := by
    intro b hb
    obtain rfl : b = x % 5 := by simpa using hb
    omega
  have Ka := (Kp.refl [] w).alloc ob
  have HL := lists1 hP hPB
  rw [show (w.alloc ob).heap.size = w.heap.size + 1 by simp] at HL
  have HK := hide (Ka.alloc (.cells #[.slice (some ⟨w.heap.size, 0, none⟩) 1 1] 28))
  rw [← hob]
  refine (reftagged_any 99 _ _ _ rfl _ HL (by omega) (by omega) (by simp) (by simp)).mono ?_
  rintro ee w2 ⟨ao2, m2, c2, rfl, R2, K2⟩
  have hr : sha (99 :: cat [(Value.slice (some ⟨w.heap.size, 0, none⟩) 1 1, [x % 5])]) = seedX n := by unfold seedX; rw [← unhide HX]; rfl
  rw [hr] at R2
  have HR2 := hide (row_new R2 (unhide HK))
  have HK2 := hide ((unhide HK).trans K2)
  clear HL HK hob R2 K2 Ka hP hPB hr
  go_wp2_with fail
  go_ret
  exact ⟨ao2, m2, c2, rfl, unhide HR2, unhide HK2⟩
end Go.Proofs.YteabdojjllfcpaaGreat

/-
  The contract of package ledger's unlaid: what a record is read as.
-/
namespace Go.Proofs.YteabdojjllfcpaaGreat
open Go.RowKit
open Go.Proofs
set_option linter.unusedVariables false
/-- such a row whose slices lie from base on. -/
def RowsQ (w : World) (base : Nat) (v : Value) (l : List (Value × List Int)) : Prop := RowS w base v l ∧ ∀ x ∈ l, ∀ k, x.1.ownBlock = some k → base ≤ k
theorem RowsQ.kept {w w' : World} {base : Nat} {v : Value} {l : List (Value × List Int)} {S : List Nat} (h : RowsQ w base v l) (k : Kp S w w') (hS : ∀ i ∈ S, i < base) : RowsQ w' base v l :=
  ⟨⟨h.1.1.kept k (fun i hi hm => by have := h.1.1.own i hi; have := hS i hm; omega), fun x hx => ⟨(h.1.2 x hx).1.kept k (fun i hi hm => by have := h.2 x hx i hi; have := hS i hm; omega), (h.1.2 x hx).2⟩⟩, h.2⟩
theorem wpList_rowsQ {base : Nat} {w2 : World} {ops : Array Oper} {rest : List Oper} {o : Oper} {a : Act} {Q : Exit → Act → World → Prop} (hgd : o.guard = none) (s x : Operand)
    (ho : o.op = .call { callee := .builtin .append, args := #[s, x], argTypes := #[47, 47] }) (v : Value) (l : List (Value × List Int)) (hs : a.eval s = v) (hP : RowsQ w2 base v l) (hbase : base ≤ w2.heap.size) (hl : l.length ≤ 1000000)
    (vx : Value) (bs : List Int) (hr : Sl w2 vx bs) (hap : ∀ i, vx.ownBlock = some i → v.ownBlock ≠ some i) (hnb : ∀ i, vx.ownBlock = some i → base ≤ i) (hb : Bs bs) (hx : a.eval x = .slice (some ⟨w2.heap.size, 0, none⟩) 1 1)
    (h : ∀ ao m c w', RowsQ w' base (.slice ao m c) (l ++ [(vx, bs)]) → Kp v.ownBlock.toList w2 w' → wpList Tryz.prog ops Q rest (a.put o.dst (.slice ao m c)) w') : wpList Tryz.prog ops Q (o :: rest) a (w2.alloc (.cells #[vx] 28)) := by
  have k2 : Kp [] w2 (w2.alloc (.cells #[vx] 28)) := (Kp.refl [] w2).alloc _
  have hP2 := hP.1.kept k2
  obtain ⟨ax, cx, hvx, -⟩ := id hr
  refine wpList_append_rowv hgd s x ho base v (l.map (·.1)) hs hP2.1 ⟨w2.heap.size, 0, none⟩ 1 [vx] hx ?_ ?_ ?_ ?_ ?_
  · intro j u hu
    exact World.news_of_block (heap_alloc_new w2 _) j u (by simpa using hu)
  · simp [hvx, Value.oneCell']
  · simp; omega
  · simp; omega
  · intro ao m c w' r st
    refine h ao m c w' ⟨hP2.snocJ (x := (vx, bs)) (hr.kept k2 (by simp)) hb (fun i h1 h2 => absurd h2 (hap i h1)) r st, fun y hy => ?_⟩ ?_
    · rcases List.mem_append.1 hy with hy | hy
      · exact hP.2 y hy
      · obtain rfl : y = (vx, bs) := by simpa using hy
        exact hnb
    · exact (k2.mono (by simp)).trans st.1
theorem ubad_any (q : Nat) (v : Value) (bad : Bool) (bs : List Int) (w : World) (h : Rd w q v bad bs) :
    Calls Tryz.prog 99 #[.pointer (some ⟨q, 0, none⟩)] w fun e w' => e = .returned (.bool bad) ∧ w' = w := by
  have hc1 := (cell_of_two h.1).2
  clear h
  go_enter Tryz.func99, Tryz.ntmps99
  go_wp2
  go_ret
  exact ⟨rfl, rfl⟩
theorem val_u32 (cs : List Int) (h : Bs cs) (hl : cs.length ≤ 4) : 0 ≤ val cs ∧ val cs ≤ 4294967295 := by
  have h1 := val_bd cs h
  have : cs.length = 0 ∨ cs.length = 1 ∨ cs.length = 2 ∨ cs.length = 3 ∨ cs.length = 4 := by omega
  rcases this with e | e | e | e | e <;> rw [e] at h1 <;> omega
theorem tkb_less {b : List Int} (h : (tkb false b 65535).2.1 = false) : (tkb false b 65535).2.2.length + 2 ≤ b.length := by
  obtain ⟨h1, h2, h3, h4⟩ := tkb_bad h
  rw [h4]
  have := @tk_len false (b.drop 2) (val (b.take 2))
  rw [List.length_drop] at this
  omega
theorem itsU_step {k : Nat} {b b' x : List Int} {xs : List (List Int)} (h : tkb false b 65535 = (x, false, b')) : (itsU (k + 1) b).map (xs ++ ·) = (itsU k b').map ((xs ++ [x]) ++ ·) := by
  rw [itsU, h]
  simp only [Bool.false_eq_true, if_false]
  cases itsU k b' <;> simp
/-- the end of the loop. -/
theorem unl_end {n0 k : Nat} {b0 b r : List Int} {bad0 bad : Bool} {xs : List (List Int)} (hU : unlU r = if bad0 then none else if n0 = 0 then none else itsU n0 b0) (hk : xs.length + k = n0) (hx : k = 0 ∨ bad = true) (h1 : bad = true → k = 0 ∧ n0 = 0 ∨ itsU n0 b0 = none) (h2 : bad = false → bad0 = false ∧ itsU n0 b0 = (itsU k b).map (xs ++ ·)) :
    (decide (0 < xs.length) && (!bad && b.isEmpty)) = (unlU r).isSome ∧ ∀ ys, unlU r = some ys → xs = ys := by
  cases bad with
  | true =>
    have e : unlU r = none := by
      rw [hU]
      split
      · rfl
      · split
        · rfl
        · rcases h1 rfl with h | h
          · omega
          · exact h
    rw [e]
    exact ⟨by simp, fun ys h => by cases h⟩
  | false =>
    obtain ⟨h3, h4⟩ := h2 rfl
    have hk0 : k = 0 := hx.resolve_right (by simp)
    subst hk0
    rw [h3] at hU
    simp only [Bool.false_eq_true, if_false] at hU
    rw [hU, h4]
    unfold itsU
    cases xs with
    | nil => simp at hk; subst hk; simp
    | cons y ys =>
      have : n0 ≠ 0 := by simp at hk; omega
      rw [if_neg this]
      cases b with
      | nil => simp
      | cons c cs => simp
set_option maxRecDepth 100000 in
set_option maxHeartbeats 4000000 in
theorem unlaid_any (v : Value) (r : List Int) (w : World) (hS : Sl w v r) (hB : Bs r) (hl : r.length ≤ 1000000) (ok : Bool) (hok0 : ok = (unlU r).isSome) :
    Calls Tryz.prog 71 #[v] w fun e w' => ∃ ao m c, e = .returned (.tuple #[.slice ao m c, .bool ok]) ∧ Kp [] w w' ∧ ∀ xs, unlU r = some xs → ∃ l, RowsQ w' w.heap.size (.slice ao m c) l ∧ l.map (·.2) = xs := by
  have HRd := hide (read_any v r w hS (by omega))
  have HOk0 := hide hok0
  clear hok0
  have HB := hide hB
  have HL := hide hl
  obtain ⟨ab, cb, rfl, -⟩ := hS
  obtain ⟨nr, hnr⟩ : ∃ n, n = r.length := ⟨_, rfl⟩
  rw [← hnr] at HRd ⊢
  have HNr := hide hnr
  clear hB hl hnr
  go_enter Tryz.func71, Tryz.ntmps71
  go_wp2_with fail
  refine HRd.out.mono ?_
  rintro ee w1 ⟨q, v1, rfl, hq, R1, hv1, K1⟩
  have HNm := hide (rnum_any q v1 false r w1 R1 HB.out)
  have HQ := hide hq
  have HK1 := hide K1
  have hq1 := lt_of_block R1.1
  have HV1 := hide hv1
  clear HRd hq R1 hv1 K1
  obtain ⟨n0, hn0⟩ : ∃ n : Nat, (val (tk false r 4).1) = (n : Int) ∧ n ≤ 4294967295 := by
    have h0 := val_u32 (tk false r 4).1 (tk_bs1 HB.out) (@tk_len1 false r 4)
    exact ⟨(val (tk false r 4).1).toNat, by omega, by omega⟩
  rw [hn0.1] at HNm
  have HN0 := hide hn0.1
  have hn32 := hn0.2
  clear hn0
  go_wp2_with fail
  refine HNm.out.mono ?_
  rintro ee w2 ⟨rfl, ⟨v2, R2, o2⟩, K2⟩
  obtain ⟨bad0, b0, hb0⟩ : ∃ bad b, (tk false r 4).2 = (bad, b) := ⟨_, _, rfl⟩
  rw [hb0] at R2
  simp only at R2
  have HBd : Hid (Bs b0) := hide (by have := @tk_bs2 false r 4 HB.out; rw [hb0] at this; exact this)
  have HBL : Hid (b0.length ≤ 1000000) := hide (by have := @tk_len false r 4; rw [hb0] at this; simp only at this; have := HL.out; omega)
  have HU : Hid (unlU r = if bad0 then none else if n0 = 0 then none else itsU n0 b0) := by
    refine hide ?_
    have hv := HN0.out
    unfold unlU
    by_cases h4 : r.length < 4
    · rw [if_pos h4]
      rw [tk_no false r 4 (.inr (by omega))] at hb0
      injection hb0 with e1 e2
      rw [← e1]; rfl
    · rw [if_neg h4]
      have e := tk_ok false r 4 (by omega)
      rw [show ((4 : Nat) : Int) = 4 from rfl] at e
      rw [e] at hb0 hv
      injection hb0 with e1 e2
      simp only at hv
      rw [← e1, ← e2, hv]
      simp
  have HB0 : Hid (bad0 = true → n0 = 0) := by
    refine hide (fun hb => ?_)
    by_cases h4 : r.length < 4
    · have hv := HN0.out
      rw [tk_no false r 4 (.inr (by omega))] at hv
      have : val [] = 0 := rfl
      simp only at hv
      omega
    · have e := tk_ok false r 4 (by omega)
      rw [show ((4 : Nat) : Int) = 4 from rfl] at e
      rw [e] at hb0
      injection hb0 with e1 e2
      rw [hb] at e1; cases e1
  have HI : Hid (∃ (k : Nat) (bad : Bool) (b : List Int) (l : List (Value × List Int)) (rv : Value), k ≤ n0 ∧ (Value.int .u32 (n0 : Int)) = .int .u32 k ∧ (∃ ao m c, (Value.slice none 0 0) = .slice ao m c) ∧ l.length + k = n0 ∧ Rd w2 q rv bad b ∧ (∀ i, rv.ownBlock = some i → i < w1.heap.size) ∧ Bs b ∧ b.length ≤ 1000000 ∧ RowsQ w2 w1.heap.size (.slice none 0 0) l ∧ Kp [q] w1 w2 ∧ l.length ≤ 1000000 ∧ (bad = false → l.length * 2 + b.length ≤ 1000004) ∧ (bad = true → k = 0 ∧ n0 = 0 ∨ itsU n0 b0 = none) ∧ (bad = false → bad0 = false ∧ itsU n0 b0 = (itsU k b).map (l.map (·.2) ++ ·))) := by
    refine hide ⟨n0, bad0, b0, [], v2, Nat.le_refl _, rfl, ⟨_, _, _, rfl⟩, by simp, R2, fun i hi => (HV1.out i (o2 i hi)).2, HBd.out, HBL.out, ⟨⟨World.ownsRow_nil _ _ _ _, by simp⟩, by simp⟩, K2, by simp, fun _ => by have := HBL.out; simp; omega, fun hb => .inl ⟨HB0.out hb, HB0.out hb⟩, fun hb => ⟨hb, by simp⟩⟩
  clear HNm R2 o2 K2 hb0
  go_wp2_with fail
  go_loopw [5, 6] (fun o s wr => ∃ (k : Nat) (bad : Bool) (b : List Int) (l : List (Value × List Int)) (rv : Value), k ≤ n0 ∧ s = .int .u32 k ∧ (∃ ao m c, o = .slice ao m c) ∧ l.length + k = n0 ∧ Rd wr q rv bad b ∧ (∀ i, rv.ownBlock = some i → i < w1.heap.size) ∧ Bs b ∧ b.length ≤ 1000000 ∧ RowsQ wr w1.heap.size o l ∧ Kp [q] w1 wr ∧ l.length ≤ 1000000 ∧ (bad = false → l.length * 2 + b.length ≤ 1000004) ∧ (bad = true → k = 0 ∧ n0 = 0 ∨ itsU n0 b0 = none) ∧ (bad = false → bad0 = false ∧ itsU n0 b0 = (itsU k b).map (l.map (·.2) ++ ·))) (fun _ s _ => (intOf s).toNat)
  case atStart => exact HI.out
  case round =>
    obtain ⟨k, bad, b, l, rv, hkn, rfl, ⟨ao, m, c, rfl⟩, hlk, R, hrv, hBb, hbl, P, K, hll, hl2, h1, h2⟩ := hrel
    have HR := hide R
    have HRv := hide hrv
    have HBb := hide hBb
    have Hbl := hide hbl
    have HP := hide P
    have HK := hide K
    have HB1 := hide h1
    have HB2 := hide h2
    have HLk := hide hlk
    have Hl2 := hide hl2
    have HKw : Hid (Kp [] w wr) := HK1.out.then K (fun i hi => .inr (by simp at hi; subst hi; exact HQ.out))
    have HPw : Hid (RowsQ wr w.heap.size (.slice ao m c) l) := by
      have hs := HK1.out.size
      exact hide ⟨⟨owns_rebase P.1.1 (fun i hi => Nat.le_trans hs (P.1.1.own i hi)), P.1.2⟩, fun x hx i hi => Nat.le_trans hs (P.2 x hx i hi)⟩
    clear HI R hrv hBb hbl P K h1 h2 hlk hl2
    by_cases hk0 : k = 0
    · have hk' : ¬ (0 : Int) < (k : Int) := by omega
      have hdk : decide ((0 : Int) < (k : Int)) = false := decide_eq_false hk'
      obtain ⟨hok, hxs⟩ := unl_end (xs := l.map (·.2)) HU.out (by rw [List.length_map]; exact HLk.out) (.inl hk0) HB1.out HB2.out
      rw [List.length_map] at hok
      have HOk := hide hok
      have HXs := hide hxs
      obtain ⟨ml, hml⟩ : ∃ m, m = l.length := ⟨_, rfl⟩
      have hmm : m = ml := by rw [hml]; have := HP.out.1.1.len; simpa using this
      subst hmm
      rw [← hml] at HOk
      clear hok hxs
      by_cases hpos : 0 < m
      · have hpos' : (0 : Int) < (m : Int) := by omega
        have hd : decide ((0 : Int) < (m : Int)) = true := decide_eq_true hpos'
        have HEnd := hide (end_any q rv bad b wr HR.out)
        obtain ⟨eb, heb⟩ : ∃ x, x = (!bad && b.isEmpty) := ⟨_, rfl⟩
        rw [← heb] at HEnd
        have HEB := hide heb
        clear hml heb
        go_wp2_with fail
        refine HEnd.out.mono ?_
        rintro ee w3 ⟨rfl, hw⟩
        subst w3
        clear HEnd
        go_wp2_with fail
        have heo : eb = ok := by rw [HOk0.out, ← HOk.out, HEB.out]; simp [hpos]
        subst heo
        go_ret2
        exact ⟨ao, m, c, rfl, HKw.out, fun xs hxs => ⟨l, HPw.out, HXs.out xs hxs⟩⟩
      · have hpos' : ¬ (0 : Int) < (m : Int) := by omega
        have hd : decide ((0 : Int) < (m : Int)) = false := decide_eq_false hpos'
        clear hml
        go_wp2_with fail
        have heo : ok = false := by rw [HOk0.out, ← HOk.out]; simp [hpos]
        subst heo
        go_ret2
        exact ⟨ao, m, c, rfl, HKw.out, fun xs hxs => ⟨l, HPw.out, HXs.out xs hxs⟩⟩
    · have hk' : (0 : Int) < (k : Int) := by omega
      have hdk : decide ((0 : Int) < (k : Int)) = true := decide_eq_true hk'
      have HBad := hide (ubad_any q rv bad b wr HR.out)
      by_cases hbt : bad = true
      · subst hbt
        obtain ⟨hok, hxs⟩ := unl_end (xs := l.map (·.2)) HU.out (by rw [List.length_map]; exact HLk.out) (.inr rfl) HB1.out HB2.out
        rw [List.length_map] at hok
        have HOk := hide hok
        have HXs := hide hxs
        obtain ⟨ml, hml⟩ : ∃ m, m = l.length := ⟨_, rfl⟩
        have hmm : m = ml := by rw [hml]; have := HP.out.1.1.len; simpa using this
        subst hmm
        rw [← hml] at HOk
        clear hok hxs
        by_cases hpos : 0 < m
        · have hpos' : (0 : Int) < (m : Int) := by omega
          have hd : decide ((0 : Int) < (m : Int)) = true := decide_eq_true hpos'
          have HEnd := hide (end_any q rv true b wr HR.out)
          obtain ⟨eb, heb⟩ : ∃ x, x = (!true && b.isEmpty) := ⟨_, rfl⟩
          rw [← heb] at HEnd
          have HEB := hide heb
          clear hml heb
          go_wp2_with fail
          refine HBad.out.mono ?_
          rintro ee w3 ⟨rfl, hw⟩
          subst w3
          clear HBad
          go_wp2_with fail
          refine HEnd.out.mono ?_
          rintro ee w3 ⟨rfl, hw⟩
          subst w3
          clear HEnd
          go_wp2_with fail
          have heo : eb = ok := by rw [HOk0.out, ← HOk.out, HEB.out]; simp [hpos]
          subst heo
          go_ret2
          exact ⟨ao, m, c, rfl, HKw.out, fun xs hxs => ⟨l, HPw.out, HXs.out xs hxs⟩⟩
        · have hpos' : ¬ (0 : Int) < (m : Int) := by omega
          have hd : decide ((0 : Int) < (m : Int)) = false := decide_eq_false hpos'
          clear hml
          go_wp2_with fail
          refine HBad.out.mono ?_
          rintro ee w3 ⟨rfl, hw⟩
          subst w3
          clear HBad
          go_wp2_with fail
          have heo : ok = false := by rw [HOk0.out, ← HOk.out]; simp [hpos]
          subst heo
          go_ret2
          exact ⟨ao, m, c, rfl, HKw.out, fun xs hxs => ⟨l, HPw.out, HXs.out xs hxs⟩⟩
      · obtain rfl : bad = false := by simpa using hbt
        have HBy := hide (rbytes_any q rv false b 65535 wr HR.out HBb.out (by have := Hbl.out; omega))
        obtain ⟨x, bad', b', ht⟩ : ∃ x bad' b', tkb false b 65535 = (x, bad', b') := ⟨_, _, _, rfl⟩
        rw [ht] at HBy
        simp only at HBy
        have HTk := hide ht
        have hw32 : IntKind.u32.wrap ((k : Int) - 1) = (k : Int) - 1 := by simp [IntKind.wrap, IntKind.signed, IntKind.bits]; omega
        clear ht hbt
        go_wp2_with fail
        refine HBad.out.mono ?_
        rintro ee w3 ⟨rfl, hw⟩
        subst w3
        clear HBad
        go_wp2_with fail
        refine HBy.out.mono ?_
        rintro ee w3 ⟨a3, c3, rfl, ⟨S3, o3⟩, ⟨v3, R3, ov3⟩, K3⟩
        obtain ⟨nx, hnx⟩ : ∃ n, n = x.length := ⟨_, rfl⟩
        rw [← hnx] at S3 o3 ⊢
        have HS3 := hide S3
        have Ho3 := hide o3
        have HR3 := hide R3
        have Hov3 := hide ov3
        have HK3 := hide K3
        have HP3 : Hid (RowsQ w3 w1.heap.size (.slice ao m c) l) := HP.out.kept K3 (by simpa using hq1)
        have hszr := HK.out.size
        have hszr3 := K3.size
        have HBx : Hid (Bs x) := hide (by have := @tkb_bs1 false b 65535 HBb.out; rw [HTk.out] at this; exact this)
        have hll2 : l.length ≤ 500002 := by have := Hl2.out (by first | rfl | trivial); omega
        clear HBy S3 o3 R3 ov3 K3 hnx
        go_wp2_with (at_builtin; refine wpList_rowsQ rfl (.tmp 20) (.tmp 23) rfl (.slice ao m c) l rfl HP3.out (by omega) (by omega) _ x HS3.out (fun i hi e => by have := Ho3.out i hi; have := HP.out.1.1.lt e; omega) (fun i hi => by have := Ho3.out i hi; omega) HBx.out rfl ?_; intro a7 m7 c7 w7 P7 K7)
        go_roundw
        case rel =>
          have hne : ∀ i, (Value.slice ao m c).ownBlock = some i → w1.heap.size ≤ i := HP.out.1.1.own
          have hR7 : Rd w7 q v3 bad' b' := HR3.out.kept K7 (fun hm => by have := hne q (by simpa [Option.mem_toList] using hm); omega) (fun i hi hm => by have h1 := HRv.out i (Hov3.out i hi); have := hne i (by simpa [Option.mem_toList] using hm); omega)
          refine ⟨k - 1, bad', b', l ++ [(_, x)], v3, by omega, ?_, ⟨a7, m7, c7, rfl⟩, ?_, hR7, fun i hi => HRv.out i (Hov3.out i hi), ?_, ?_, P7, (HK.out.trans HK3.out).then K7 (fun i hi => .inr (hne i (by simpa [Option.mem_toList] using hi))), ?_, ?_, ?_, ?_⟩
          · congr 1; omega
          · rw [List.length_append]; have := HLk.out; simp; omega
          · have := @tkb_bs2 false b 65535 HBb.out; rw [HTk.out] at this; exact this
          · have := @tkb_len false b 65535; rw [HTk.out] at this; simp only at this; have := Hbl.out; omega
          · rw [List.length_append]; simp; omega
          · intro hb
            rw [List.length_append]
            simp only [List.length_cons, List.length_nil]
            have h3 := tkb_less (b := b) (by rw [HTk.out]; exact hb)
            rw [HTk.out] at h3
            simp only at h3
            have h4 := Hl2.out (by first | rfl | trivial)
            omega
          · intro hb
            refine .inr ?_
            obtain ⟨e1, e2⟩ := HB2.out (by first | rfl | trivial)
            rw [e2, show k = (k - 1) + 1 by omega]
            unfold itsU
            rw [HTk.out, hb]
            rfl
          · intro hb
            obtain ⟨e1, e2⟩ := HB2.out (by first | rfl | trivial)
            refine ⟨e1, ?_⟩
            have hk1 : k = (k - 1) + 1 := by omega
            rw [e2]
            have ht := HTk.out
            rw [hb] at ht
            have := itsU_step (k := k - 1) (xs := l.map (·.2)) ht
            rw [← hk1] at this
            rw [this, List.map_append]
            rfl
        case measure => simp [intOf]; omega
end Go.Proofs.YteabdojjllfcpaaGreat

/-
  The contracts of the law package's helpers Hash and Manifest.
-/
namespace Go.Proofs.YteabdojjllfcpaaGreat
open Go.RowKit
open Go.Proofs
def nm0 : ByteArray := ⟨#[112, 117, 109, 112]⟩
def nm1 : ByteArray := ⟨#[118, 97, 108, 118, 101]⟩
def nm2 : ByteArray := ⟨#[97]⟩
def nm3 : ByteArray := ⟨#[103, 97, 117, 103, 101, 111, 102, 116, 104, 101, 108, 111, 110, 103, 101, 115, 116, 110, 97, 109]⟩
/-- one of the names. -/
def nmK (k : Nat) : ByteArray := if k = 0 then nm0 else if k = 1 then nm1 else if k = 2 then nm2 else nm3
def hashK (n : Int) : List Int := sha [98, wiP n 0 100000 % 256]
def mkM (a v f : Int) : Mf := ⟨nmK (wiP a 0 1000 % 4).toNat, 1 + wiP v 0 100000 % 9, hashK (f.tmod 4), [f % 256]⟩
theorem hashK_len (n : Int) : (hashK n).length = 32 := sha_len _
theorem hashK_bs (n : Int) : Bs (hashK n) := sha_bs _
theorem nm_name (k : Nat) : nameP (nums (nmK k)) = true := by
  unfold nmK
  split
  · decide +kernel
  · split
    · decide +kernel
    · split <;> decide +kernel
theorem nmK_size (k : Nat) : 1 ≤ (nmK k).size ∧ (nmK k).size ≤ 20 := by have := nameP_len (nm_name k); rwa [nums_len] at this
theorem mkM_ver (a v f : Int) : 1 ≤ (mkM a v f).v ∧ (mkM a v f).v ≤ 9 := by
  have h := wiP_ge v 0 100000 (by omega)
  show 1 ≤ 1 + wiP v 0 100000 % 9 ∧ 1 + wiP v 0 100000 % 9 ≤ 9
  omega
theorem mkM_ok (a v f : Int) : (mkM a v f).ok := by
  have h := mkM_ver a v f
  refine ⟨by omega, by omega, hashK_bs _, fun b hb => ?_⟩
  have : b = f % 256 := by simpa [mkM] using hb
  omega
theorem mkM_rgt (a v f : Int) : rgtM (mkM a v f) = true :=
  (rgtM_iff _).2 ⟨nm_name _, by have := mkM_ver a v f; omega, hashK_len _, by show [f % 256].length ≤ 64; simp⟩
theorem mkM_size (a v f : Int) : (mkM a v f).s.size ≤ 20 := (nmK_size _).2
theorem wrap_u8M (f : Int) : IntKind.u8.wrap f = f % 256 := by simp [IntKind.wrap, IntKind.signed, IntKind.bits]
theorem wrap_u32 {x : Int} (h0 : 0 ≤ x) (h1 : x ≤ 4294967295) : IntKind.u32.wrap x = x := by simp [IntKind.wrap, IntKind.signed, IntKind.bits]; omega
set_option maxRecDepth 100000 in
set_option maxHeartbeats 1000000 in
theorem khash_any (n : Int) (w : World) :
    Calls Tryz.prog 80 #[.int .i64 n] w fun e w' => ∃ ao m c, e = .returned (.slice ao m c) ∧ Row w' w.heap.size (.slice ao m c) (hashK n) ∧ Kp [] w w' := by
  have HW := hide (within_wi n 0 100000 w (by omega) (by omega) (by omega))
  obtain ⟨x, hx⟩ : ∃ x, x = wiP n 0 100000 := ⟨_, rfl⟩
  have hu := wrap_u8M x
  rw [← hx] at HW
  have HX := hide hx
  clear hx
  go_enter Tryz.func80, Tryz.ntmps80
  go_wp2_with fail
  refine (unhide HW).mono ?_
  rintro ee w1 ⟨rfl, hw⟩
  subst w1
  clear HW
  go_wp2_with fail
  obtain ⟨ob, hob⟩ : ∃ o : Obj, o = (.cells #[.int .u8 (x % 256)] 5) := ⟨_, rfl⟩
  have hP : Sl (w.alloc ob) (.slice (some ⟨w.heap.size, 0, none⟩) 1 1) [x % 256] := by
    rw [hob]; exact Sl.block (cs := [x % 256]) (t := 5) (fr := (0, 0)) (heap_alloc_new w _) (by simp [maxLen])
  have hPB : Bs [x % 256] := by
    intro b hb
    obtain rfl : b = x % 256 := by simpa using hb
    omega
  have Ka := (Kp.refl [] w).alloc ob
  have HL := lists1 hP hPB
  rw [show (w.alloc ob).heap.size = w.heap.size + 1 by simp] at HL
  have HK := hide (Ka.alloc (.cells #[.slice (some ⟨w.heap.size, 0, none⟩) 1 1] 28))
  rw [← hob]
  refine (reftagged_any 98 _ _ _ rfl _ HL (by omega) (by omega) (by simp) (by simp)).mono ?_
  rintro ee w2 ⟨ao2, m2, c2, rfl, R2, K2⟩
  have hr : sha (98 :: cat [(Value.slice (some ⟨w.heap.size, 0, none⟩) 1 1, [x % 256])]) = hashK n := by unfold hashK; rw [← unhide HX]; rfl
  rw [hr] at R2
  have HR2 := hide (row_new R2 (unhide HK))
  have HK2 := hide ((unhide HK).trans K2)
  clear HL HK hob R2 K2 Ka hP hPB hr hu
  go_wp2_with fail
  go_ret
  exact ⟨ao2, m2, c2, rfl, unhide HR2, unhide HK2⟩
/-- The value is the list of the four names. -/
def Str4 : Tell := fun v w => ∃ g, v = .slice (some ⟨g, 0, none⟩) 4 4 ∧ ∀ j, j < 4 → w.cell? ⟨g, j, none⟩ = some (.string (nmK j))
theorem stable_str4 : Tell.stable Str4 := fun _ _ _ k ⟨g, e, h⟩ => ⟨g, e, fun j hj => k.cell (h j hj) (by simp)⟩
/-- The value points to this string. -/
def PtS (S : ByteArray) : Tell := fun v w => ∃ g j, v = .pointer (some ⟨g, j, none⟩) ∧ w.cell? ⟨g, j, none⟩ = some (.string S)
theorem stable_pts (S : ByteArray) : Tell.stable (PtS S) := fun _ _ _ k ⟨g, j, e, h⟩ => ⟨g, j, e, k.cell h (by simp)⟩
section
variable {o : Oper} {a : Act} {w : World}
theorem grown_nm3 (ho : o.op = .slice 9 (.const (.string ⟨#[103, 97, 117, 103, 101, 111, 102, 116, 104, 101, 108, 111, 110, 103, 101, 115, 116, 110, 97, 109, 101]⟩)) none (some (.const (.int .i64 20))) none) : grown Tryz.prog w (Is (.string nm3)) ((execOp a.eval o).run Tryz.prog w) := by
  refine grown_run (v := .string nm3) ?_ (Kp.refl _ _) rfl
  obtain ⟨ρ, hρ, hc, _⟩ := eval_is a
  rw [hρ]
  unfold execOp
  simp only [ho]
  simp [go_sem, hc]
  decide +kernel
theorem grown_str4 (x : Operand) (ho : o.op = .buildSlice 87 4 #[(0, .const (.string nm0)), (1, .const (.string nm1)), (2, .const (.string nm2)), (3, x)]) (h : a.eval x = .string nm3) : grown Tryz.prog w Str4 ((execOp a.eval o).run Tryz.prog w) := by
  have G := heap_alloc_new w (.cells #[.string nm0, .string nm1, .string nm2, .string nm3] 9)
  refine grown_run (v := .slice (some ⟨w.heap.size, 0, none⟩) 4 4) (w' := w.alloc (.cells #[.string nm0, .string nm1, .string nm2, .string nm3] 9)) ?_ ((Kp.refl _ _).alloc _) ⟨_, rfl, fun j hj => ?_⟩
  · obtain ⟨ρ, hρ, hc, _⟩ := eval_is a
    rw [hρ] at h ⊢
    unfold execOp
    simp only [ho]
    simp [go_sem, hc, h]
  · rw [cell_of_row _ _ j _ _ _ G]
    rcases (by omega : j = 0 ∨ j = 1 ∨ j = 2 ∨ j = 3) with rfl | rfl | rfl | rfl <;> rfl
theorem grown_pts (s i : Operand) (k : Nat) (hk : k < 4) (ho : o.op = .indexAddr 87 s i) (h : Str4 (a.eval s) w) (hi : a.eval i = .int .i64 (k : Nat)) : grown Tryz.prog w (PtS (nmK k)) ((execOp a.eval o).run Tryz.prog w) := by
  obtain ⟨g, e, hc⟩ := h
  have hi2 : (k : Int) < 4 := by omega
  refine grown_run (v := .pointer (some ⟨g, k, none⟩)) ?_ (Kp.refl _ _) ⟨g, k, rfl, hc k hk⟩
  obtain ⟨ρ, hρ, _⟩ := eval_is a
  rw [hρ] at e hi ⊢
  unfold execOp
  simp only [ho]
  simp [go_sem, e, hi, hi2]
theorem grown_ldS (p : Operand) (S : ByteArray) (ho : o.op = .load 9 p) (h : PtS S (a.eval p) w) : grown Tryz.prog w (Is (.string S)) ((execOp a.eval o).run Tryz.prog w) := by
  obtain ⟨g, j, e, hc⟩ := h
  exact grown_lds p ho j S e hc
theorem grown_byte1 (x : Operand) (b : Int) (ho : o.op = .buildSlice 28 1 #[(0, x)]) (h : a.eval x = .int .u8 b) : grown Tryz.prog w (SlT [b]) ((execOp a.eval o).run Tryz.prog w) := by
  refine grown_run (v := .slice (some ⟨w.heap.size, 0, none⟩) 1 1) (w' := w.alloc (.cells #[.int .u8 b] 5)) ?_ ((Kp.refl _ _).alloc _) (Sl.block (cs := [b]) (t := 5) (fr := (0, 0)) (heap_alloc_new w _) (by simp [maxLen]))
  obtain ⟨ρ, hρ, _⟩ := eval_is a
  rw [hρ] at h ⊢
  unfold execOp
  simp only [ho]
  simp [go_sem, h]
theorem grown_man (x0 x1 x2 x3 : Operand) (ho : o.op = .build 99 #[(0, x0), (1, x1), (2, x2), (3, x3)]) (m : Mf) (h0 : a.eval x0 = .string m.s) (h1 : a.eval x1 = .int .u32 m.v) (h2 : Sl w (a.eval x2) m.f) (h3 : Sl w (a.eval x3) m.n) (hok : m.ok) : grown Tryz.prog w (MvT m) ((execOp a.eval o).run Tryz.prog w) := by
  obtain ⟨a2, c2, e2, r2⟩ := h2
  obtain ⟨a3, c3, e3, r3⟩ := h3
  refine grown_run (v := .agg #[.string m.s, .int .u32 m.v, .slice a2 m.f.length c2, .slice a3 m.n.length c3]) ?_ (Kp.refl _ _) ⟨a2, _, c2, a3, _, c3, rfl, ⟨a2, c2, rfl, r2⟩, ⟨a3, c3, rfl, r3⟩, hok⟩
  obtain ⟨ρ, hρ, _⟩ := eval_is a
  rw [hρ] at h0 h1 e2 e3 ⊢
  unfold execOp
  simp only [ho]
  simp [go_sem, h0, h1, e2, e3]
end
set_option maxRecDepth 100000 in
set_option maxHeartbeats 2000000 in
theorem kman_any (ia v f : Int) (w : World) :
    Calls Tryz.prog 46 #[.int .i64 ia, .int .i64 v, .int .i64 f] w fun e w' => ∃ x, e = .returned x ∧ MV w' x (mkM ia v f) ∧ Kp [] w w' := by
  have ha := wiP_ge ia 0 1000 (by omega)
  have hv := wiP_ge v 0 100000 (by omega)
  obtain ⟨k, hk⟩ : ∃ k : Nat, k = (wiP ia 0 1000 % 4).toNat := ⟨_, rfl⟩
  obtain ⟨r, hr⟩ : ∃ r, r = wiP v 0 100000 % 9 := ⟨_, rfl⟩
  have HKR : Hid ((wiP ia 0 1000).tmod 4 = (k : Int)) := hide (by rw [Int.tmod_eq_emod_of_nonneg ha.1]; omega)
  have HRR : Hid ((wiP v 0 100000).tmod 9 = r) := hide (by rw [Int.tmod_eq_emod_of_nonneg hv.1]; omega)
  have HK4 : Hid (k < 4) := hide (by omega)
  have HR9 : Hid (0 ≤ r ∧ r < 9) := hide (by omega)
  have HNM : Hid ((mkM ia v f).s = nmK k) := hide (by rw [hk]; rfl)
  have HV : Hid (1 + r = (mkM ia v f).v) := hide (by rw [hr]; rfl)
  have HZ := hide ((Kp.refl [] w).alloc (.cells #[.string ⟨#[]⟩, .int .u32 0, .slice none 0 0, .slice none 0 0] 99))
  have G0 := heap_alloc_new w (.cells #[.string ⟨#[]⟩, .int .u32 0, .slice none 0 0, .slice none 0 0] 99)
  have HG0 := hide G0
  clear ha hv hk hr G0
  go_enter Tryz.func46, Tryz.ntmps46
  go_wp2_with fail
  obtain ⟨g0, hg0⟩ : ∃ g, g = w.heap.size := ⟨_, rfl⟩
  obtain ⟨w0, hw0⟩ : ∃ w0, w0 = w.alloc (.cells #[.string ⟨#[]⟩, .int .u32 0, .slice none 0 0, .slice none 0 0] 99) := ⟨_, rfl⟩
  rw [← hw0] at HZ HG0 ⊢
  rw [← hg0] at HG0 ⊢
  have HGW := hide hg0
  clear hg0 hw0
  refine region_grow_tail 19 Tryz.mixed [Is (.string nm3), Str4, Is (.int .i64 ia), Is (.int .i64 (wiP ia 0 1000)), Is (.int .i64 k), PtS (nmK k), Is (.string (nmK k)), Is (.int .i64 v), Is (.int .i64 (wiP v 0 100000)), Is (.int .i64 r), Is (.int .i64 (1 + r)), Is (.int .u32 (1 + r)), Is (.int .i64 f), Is (.int .i64 (f.tmod 4)), SlT (hashK (f.tmod 4)), Is (.int .i64 f), Is (.int .u8 (f % 256)), SlT ([f % 256]), MvT (mkM ia v f)] [[], [(7, some 0)], [(0, none)], [(9, some 2)], [(10, some 3)], [(8, some 1), (11, some 4)], [(12, some 5)], [(1, none)], [(14, some 7)], [(15, some 8)], [(16, some 9)], [(17, some 10)], [(2, none)], [(19, some 12)], [(20, some 13)], [(2, none)], [(22, some 15)], [(23, some 16)], [(13, some 6), (18, some 11), (21, some 14), (24, some 17)]] (by kernel_rfl) ?_ ?_ ?_
  all_goals try simp only [List.take_succ_cons, List.take_zero, List.drop_succ_cons, List.drop_zero]
  · simp only [List.mem_cons, List.not_mem_nil, or_false]
    intro R hR
    rcases hR with rfl | rfl | rfl | rfl | rfl | rfl | rfl | rfl | rfl | rfl | rfl | rfl | rfl | rfl | rfl | rfl | rfl | rfl | rfl <;> first | exact stable_is _ | exact stable_str4 | exact stable_pts _ | exact stable_sl _ | exact stable_mv _
  · refine steps_cons (fun a w hk hn => ?_) ?_
    · clear hn
      refine wants_plain rfl ?_
      exact grown_nm3 rfl
    refine steps_cons (fun a w hk hn => ?_) ?_
    · have h7 : a.eval (.tmp 7) = .string nm3 := hn.1
      clear hn
      refine wants_plain rfl ?_
      exact grown_str4 (.tmp 7) rfl h7
    refine steps_cons (fun a w hk hn => ?_) ?_
    · have h0 : a.eval (.tmp 0) = .int .i64 ia := hn.1
      clear hn
      refine wants_plain rfl ?_
      exact grown_move (.tmp 0) rfl h0
    refine steps_cons (fun a w hk hn => ?_) ?_
    · have h9 : a.eval (.tmp 9) = .int .i64 ia := hn.1
      clear hn
      refine wants_plain rfl ?_
      refine grown_call (f := 20) rfl Tryz.func20 (by kernel_rfl) (by kernel_rfl) ?_
      simp only [List.map_toArray, List.map_cons, List.map_nil, h9]
      refine (within_wi ia 0 1000 w (by omega) (by omega) (by omega)).mono ?_
      rintro e w' ⟨rfl, rfl⟩
      exact ⟨_, rfl, Kp.refl _ _, rfl⟩
    refine steps_cons (fun a w hk hn => ?_) ?_
    · have h10 : a.eval (.tmp 10) = .int .i64 (wiP ia 0 1000) := hn.1
      clear hn
      refine wants_plain rfl ?_
      refine grown_run (v := .int .i64 k) ?_ (Kp.refl _ _) rfl
      obtain ⟨ρ, hρ, hc, hf, hg⟩ := eval_is a
      rw [hρ] at h10 ⊢
      simp [go_sem, hc, h10]
      exact unhide HKR
    refine steps_cons (fun a w hk hn => ?_) ?_
    · have h8 : (Str4) (a.eval (.tmp 8)) w := hn.1
      have h11 : a.eval (.tmp 11) = .int .i64 k := hn.2.1
      clear hn
      refine wants_plain rfl ?_
      exact grown_pts (.tmp 8) (.tmp 11) k (unhide HK4) rfl h8 h11
    refine steps_cons (fun a w hk hn => ?_) ?_
    · have h12 : (PtS (nmK k)) (a.eval (.tmp 12)) w := hn.1
      clear hn
      refine wants_plain rfl ?_
      exact grown_ldS (.tmp 12) _ rfl h12
    refine steps_cons (fun a w hk hn => ?_) ?_
    · have h1 : a.eval (.tmp 1) = .int .i64 v := hn.1
      clear hn
      refine wants_plain rfl ?_
      exact grown_move (.tmp 1) rfl h1
    refine steps_cons (fun a w hk hn => ?_) ?_
    · have h14 : a.eval (.tmp 14) = .int .i64 v := hn.1
      clear hn
      refine wants_plain rfl ?_
      refine grown_call (f := 20) rfl Tryz.func20 (by kernel_rfl) (by kernel_rfl) ?_
      simp only [List.map_toArray, List.map_cons, List.map_nil, h14]
      refine (within_wi v 0 100000 w (by omega) (by omega) (by omega)).mono ?_
      rintro e w' ⟨rfl, rfl⟩
      exact ⟨_, rfl, Kp.refl _ _, rfl⟩
    refine steps_cons (fun a w hk hn => ?_) ?_
    · have h15 : a.eval (.tmp 15) = .int .i64 (wiP v 0 100000) := hn.1
      clear hn
      refine wants_plain rfl ?_
      refine grown_run (v := .int .i64 r) ?_ (Kp.refl _ _) rfl
      obtain ⟨ρ, hρ, hc, hf, hg⟩ := eval_is a
      rw [hρ] at h15 ⊢
      simp [go_sem, hc, h15]
      exact unhide HRR
    refine steps_cons (fun a w hk hn => ?_) ?_
    · have h16 : a.eval (.tmp 16) = .int .i64 r := hn.1
      clear hn
      refine wants_plain rfl ?_
      refine grown_run (v := .int .i64 (1 + r)) ?_ (Kp.refl _ _) rfl
      have hr9 := unhide HR9
      obtain ⟨ρ, hρ, hc, hf, hg⟩ := eval_is a
      rw [hρ] at h16 ⊢
      simp [go_sem, hc, h16]
      exact wrap_at rfl (by omega) (by omega)
    refine steps_cons (fun a w hk hn => ?_) ?_
    · have h17 : a.eval (.tmp 17) = .int .i64 (1 + r) := hn.1
      clear hn
      refine wants_plain rfl ?_
      refine grown_run (v := .int .u32 (1 + r)) ?_ (Kp.refl _ _) rfl
      have hr9 := unhide HR9
      obtain ⟨ρ, hρ, hc, hf, hg⟩ := eval_is a
      rw [hρ] at h17 ⊢
      simp [go_sem, h17]
      exact wrap_u32 (by omega) (by omega)
    refine steps_cons (fun a w hk hn => ?_) ?_
    · have h2 : a.eval (.tmp 2) = .int .i64 f := hn.1
      clear hn
      refine wants_plain rfl ?_
      exact grown_move (.tmp 2) rfl h2
    refine steps_cons (fun a w hk hn => ?_) ?_
    · have h19 : a.eval (.tmp 19) = .int .i64 f := hn.1
      clear hn
      refine wants_plain rfl ?_
      refine grown_run (v := .int .i64 (f.tmod 4)) ?_ (Kp.refl _ _) rfl
      obtain ⟨ρ, hρ, hc, hf, hg⟩ := eval_is a
      rw [hρ] at h19 ⊢
      simp [go_sem, hc, h19]
    refine steps_cons (fun a w hk hn => ?_) ?_
    · have h20 : a.eval (.tmp 20) = .int .i64 (f.tmod 4) := hn.1
      clear hn
      refine wants_plain rfl ?_
      refine grown_call (f := 80) rfl Tryz.func80 (by kernel_rfl) (by kernel_rfl) ?_
      simp only [List.map_toArray, List.map_cons, List.map_nil, h20]
      refine (khash_any (f.tmod 4) w).mono ?_
      rintro e w' ⟨ao, m, c, rfl, R, K⟩
      exact ⟨_, rfl, K, R.sl⟩
    refine steps_cons (fun a w hk hn => ?_) ?_
    · have h2 : a.eval (.tmp 2) = .int .i64 f := hn.1
      clear hn
      refine wants_plain rfl ?_
      exact grown_move (.tmp 2) rfl h2
    refine steps_cons (fun a w hk hn => ?_) ?_
    · have h22 : a.eval (.tmp 22) = .int .i64 f := hn.1
      clear hn
      refine wants_plain rfl ?_
      refine grown_run (v := .int .u8 (f % 256)) ?_ (Kp.refl _ _) rfl
      obtain ⟨ρ, hρ, hc, hf, hg⟩ := eval_is a
      rw [hρ] at h22 ⊢
      simp [go_sem, h22]
      exact wrap_u8M f
    refine steps_cons (fun a w hk hn => ?_) ?_
    · have h23 : a.eval (.tmp 23) = .int .u8 (f % 256) := hn.1
      clear hn
      refine wants_plain rfl ?_
      exact grown_byte1 (.tmp 23) _ rfl h23
    refine steps_cons (fun a w hk hn => ?_) ?_
    · have h13 : a.eval (.tmp 13) = .string (nmK k) := hn.1
      have h18 : a.eval (.tmp 18) = .int .u32 (1 + r) := hn.2.1
      have h21 : Sl w (a.eval (.tmp 21)) (hashK (f.tmod 4)) := hn.2.2.1
      have h24 : Sl w (a.eval (.tmp 24)) ([f % 256]) := hn.2.2.2.1
      clear hn
      refine wants_plain rfl ?_
      exact grown_man (.tmp 13) (.tmp 18) (.tmp 21) (.tmp 24) rfl (mkM ia v f) (by rw [h13]; exact congrArg Value.string (unhide HNM).symm) (by rw [h18]; exact congrArg (fun t => Value.int .u32 t) (unhide HV)) h21 h24 (mkM_ok ia v f)
    exact trivial
  intro W1 hkW1
  rintro _ rfl
  intro v8 h8
  rintro _ rfl
  rintro _ rfl
  rintro _ rfl
  intro v12 h12
  rintro _ rfl
  rintro _ rfl
  rintro _ rfl
  rintro _ rfl
  rintro _ rfl
  rintro _ rfl
  rintro _ rfl
  rintro _ rfl
  intro v21 h21
  rintro _ rfl
  rintro _ rfl
  intro v24 h24
  intro v25 h25
  refine fin_nil ?_
  simp only [Act.put, List.set_cons_zero, List.set_cons_succ, List.setIfInBounds_toArray]
  have K1 := (kp_drew w0).trans hkW1
  have G1 := K1.heap (unhide HG0) (by simp)
  obtain ⟨af, nf, cf, an, nn, cn, e25, hF, hN, hok⟩ := h25
  subst e25
  go_wp2_with (refine wpList_store_man rfl (.tmp 6) (.tmp 25) rfl g0 rfl _ _ _ _ _ _ _ _ G1 rfl ⟨rfl, rfl, rfl, rfl⟩ ?_; intro wa Ga Ka)
  refine bodyPost_ret (results_man1 rfl _ rfl Ga) rfl ?_
  have N1 := noBy_man G1
  exact ⟨_, rfl, ⟨af, nf, cf, an, nn, cn, rfl, hF.offBy N1 Ka, hN.offBy N1 Ka, hok⟩, (((unhide HZ).trans K1)).then Ka (fun i hi => .inr (by have := unhide HGW; simp at hi; omega))⟩
end Go.Proofs.YteabdojjllfcpaaGreat

/-
  Rows of slices that lie anywhere: how they are gathered.
-/
namespace Go.Proofs.YteabdojjllfcpaaGreat
open Go.RowKit
open Go.Proofs
/-- one more slice, wherever it lies but in the row itself. -/
theorem RowS.snocR {w1 w2 : World} {base : Nat} {v v' : Value} {l : List (Value × List Int)} {x : Value × List Int} (h : RowS w1 base v l) (hx : Sl w1 x.1 x.2) (hB : Bs x.2) (ha : ∀ k, x.1.ownBlock = some k → v.ownBlock = some k → x.2 = [])
    (r : RowV w2 base v' (l.map (·.1) ++ [x.1])) (s : RStep w1 v w2 v') : RowS w2 base v' (l ++ [x]) := by
  have one : ∀ y : Value × List Int, Sl w1 y.1 y.2 → (∀ k, y.1.ownBlock = some k → v.ownBlock = some k → y.2 = []) → Sl w2 y.1 y.2 ∧ ∀ k, y.1.ownBlock = some k → v'.ownBlock = some k → y.2 = [] := by
    intro y hy hay
    refine ⟨hy.apart s.1 (fun i hi hm => hay i hi (by simpa [Option.mem_toList] using hm)), fun k hk hv => ?_⟩
    rcases s.2 k hv with h1 | h1
    · exact hay k hk h1
    · by_cases hb : y.2 = []
      · exact hb
      · obtain ⟨ao', c', e, h1', _, h3, h4⟩ := hy
        cases ao' with
        | none => exact List.eq_nil_of_length_eq_zero (by have := h3 rfl; omega)
        | some a =>
          have hpos : 0 < y.2.length := List.length_pos_iff.2 hb
          have hc := h4 a rfl 0 (.int .u8 y.2[0]) (by simp [List.getElem?_eq_getElem hpos])
          have hlt := World.block_lt_of_cell? _ _ hc
          rw [add_block] at hlt
          rw [e] at hk
          have : a.block = k := by simpa [Value.ownBlock] using hk
          omega
  refine ⟨by rw [List.map_append]; exact r, fun y hy => ?_⟩
  rcases List.mem_append.1 hy with hy | hy
  · obtain ⟨h1, h2, h3⟩ := h.2 y hy
    exact ⟨(one y h1 h3).1, h2, (one y h1 h3).2⟩
  · obtain rfl : y = x := by simpa using hy
    exact ⟨(one y hx ha).1, hB, (one y hx ha).2⟩
/-- what is gathered, of slices wherever they lie. -/
def AccR (w : World) (ls : List (List Int)) (v : Value) (wr : World) : Prop := ∃ l, RowS wr w.heap.size v l ∧ l.map (·.2) = ls ∧ Kp [] w wr
theorem AccR.kp {w wr : World} {ls : List (List Int)} {v : Value} (h : AccR w ls v wr) : Kp [] w wr := by obtain ⟨_, _, _, h3⟩ := h; exact h3
end Go.Proofs.YteabdojjllfcpaaGreat

/-
  The contracts of package manifest's isName and Right.
-/
namespace Go.Proofs.YteabdojjllfcpaaGreat
open Go.RowKit
open Go.Proofs
theorem lowP_bad {ns : List Int} (k : Nat) (h : k < ns.length) (hb : ns[k] < 97 ∨ 122 < ns[k]) : nameP ns = false := by
  have : lowP ns = false := by
    unfold lowP
    rw [List.all_eq_false]
    refine ⟨ns[k], List.getElem_mem h, ?_⟩
    simp only [Bool.and_eq_true, decide_eq_true_eq]
    omega
  unfold nameP
  rw [this, Bool.and_false]
theorem lowP_good {ns : List Int} (h1 : 1 ≤ ns.length) (h2 : ns.length ≤ 20) (hb : ∀ i (h : i < ns.length), 97 ≤ ns[i] ∧ ns[i] ≤ 122) : nameP ns = true := by
  unfold nameP lowP
  simp only [Bool.and_eq_true, decide_eq_true_eq, List.all_eq_true]
  refine ⟨⟨h1, h2⟩, fun x hx => ?_⟩
  obtain ⟨i, hi, rfl⟩ := List.getElem_of_mem hx
  exact hb i hi
theorem nameP_long {ns : List Int} (h : ns.length < 1 ∨ 20 < ns.length) : nameP ns = false := by
  unfold nameP
  cases hc : decide (1 ≤ ns.length) && decide (ns.length ≤ 20)
  · rw [Bool.false_and]
  · simp only [Bool.and_eq_true, decide_eq_true_eq] at hc; omega
set_option maxRecDepth 100000 in
set_option maxHeartbeats 1000000 in
theorem isName_any (S : ByteArray) (b : Bool) (hb : b = nameP (nums S)) (w : World) :
    Calls Tryz.prog 114 #[.string S] w fun e w' => e = .returned (.bool b) ∧ Kp [] w w' := by
  by_cases hN : 1 ≤ S.size ∧ S.size ≤ 20
  · obtain ⟨c, w1, hcv, S1, K1⟩ := conv_of_string S w (by omega)
    obtain ⟨hN1, hN2⟩ := hN
    have hlt1 : ¬ (S.size : Int) < 1 := by omega
    have hgt1 : ¬ (20 : Int) < (S.size : Int) := by omega
    obtain ⟨bk, off, e1, e2, hcell⟩ := S1.at2 (by omega)
    injection e1 with e1
    injection e1 with ea eb ec
    subst ea
    subst eb
    have hl : (nums S).length = S.size := nums_len S
    have HB := hide hb
    have HC := hide hcell
    have HL := hide hl
    have HBS := hide (nums_bs S)
    have HK := hide K1
    clear hb hcell hl S1 e2 K1
    go_enter Tryz.func114, Tryz.ntmps114
    go_wp2_with fail
    go_loopw [4, 16] (fun _ i wr => ∃ k : Nat, k ≤ S.size ∧ i = .int .i64 k ∧ (∀ i (h : i < (nums S).length), i < k → 97 ≤ (nums S)[i] ∧ (nums S)[i] ≤ 122) ∧ wr = w1) (fun _ i _ => S.size - (intOf i).toNat)
    case atStart => exact ⟨0, by omega, rfl, (fun i h h' => by omega), rfl⟩
    case round =>
      obtain ⟨k, hk, rfl, hgood, hw⟩ := hrel
      subst wr
      have HGood := hide hgood
      clear hgood
      by_cases hlt : k < S.size
      · have hlt2 : (k : Int) < (S.size : Int) := by omega
        have hkl : k < (nums S).length := by have := unhide HL; omega
        have hc := unhide HC k hkl
        rw [Nat.zero_add] at hc
        obtain ⟨x, hx⟩ : ∃ x, x = (nums S)[k] := ⟨_, rfl⟩
        have hx0 := unhide HBS _ (List.getElem_mem hkl)
        have HX := hide hx
        rw [← hx] at hc hx0
        obtain ⟨hx0, hx1⟩ := hx0
        clear hx
        by_cases h1 : x < 97
        · have hbad := hide (lowP_bad k hkl (.inl (by rw [← unhide HX]; exact h1)))
          have hd : decide (x < 97) = true := decide_eq_true h1
          go_wp2_with fail
          go_ret
          exact ⟨by rw [unhide HB, unhide hbad]; rfl, unhide HK⟩
        · have hd : decide (x < 97) = false := decide_eq_false h1
          by_cases h2 : 122 < x
          · have hbad := hide (lowP_bad k hkl (.inr (by rw [← unhide HX]; exact h2)))
            have hd2 : decide (122 < x) = true := decide_eq_true h2
            go_wp2_with fail
            go_ret
            exact ⟨by rw [unhide HB, unhide hbad]; rfl, unhide HK⟩
          · have hd2 : decide (122 < x) = false := decide_eq_false h2
            go_wp2_with fail
            go_roundw
            case rel =>
              refine ⟨k + 1, by omega, by go_num, fun i hi hik => ?_, by trivial⟩
              rcases Nat.lt_or_ge i k with h | h
              · exact unhide HGood i hi h
              · obtain rfl : i = k := by omega
                rw [← unhide HX]; omega
            case measure => simp [intOf]; omega
      · obtain rfl : k = S.size := by omega
        have hgd := hide (lowP_good (ns := nums S) (by have := unhide HL; omega) (by have := unhide HL; omega) (fun i hi => unhide HGood i hi (by have := unhide HL; omega)))
        have hlt2 : ¬ (S.size : Int) < (S.size : Int) := by omega
        go_wp2_with fail
        go_ret
        exact ⟨by rw [unhide HB, unhide hgd]; rfl, unhide HK⟩
  · have hbad : nameP (nums S) = false := nameP_long (by rw [nums_len]; omega)
    rw [hbad] at hb
    subst hb
    by_cases h1 : S.size < 1
    · have h1' : (S.size : Int) < 1 := by omega
      go_enter Tryz.func114, Tryz.ntmps114
      go_wp2_with fail
      go_ret
      exact ⟨rfl, Kp.refl _ _⟩
    · have h1' : ¬ (S.size : Int) < 1 := by omega
      have h2' : (20 : Int) < (S.size : Int) := by omega
      go_enter Tryz.func114, Tryz.ntmps114
      go_wp2_with fail
      go_ret
      exact ⟨rfl, Kp.refl _ _⟩
set_option maxRecDepth 100000 in
set_option maxHeartbeats 1000000 in
theorem mright_any (v : Value) (m : Mf) (b : Bool) (hb : b = rgtM m) (w : World) (hV : MV w v m) :
    Calls Tryz.prog 94 #[v] w fun e w' => e = .returned (.bool b) ∧ Kp [] w w' := by
  obtain ⟨af, nf, cf, an, nn, cn, rfl, hF, hNt, hok⟩ := hV
  have hnf := sl_nlenM hF
  have hnn := sl_nlenM hNt
  obtain ⟨s, x, f, n⟩ := m
  simp only at hF hNt hnf hnn ⊢
  obtain ⟨bn, hbn⟩ : ∃ bn, bn = nameP (nums s) := ⟨_, rfl⟩
  have hb2 : b = (bn && decide (0 < x) && decide (nf = 32) && decide (nn ≤ 64)) := by rw [hb, hbn, hnf, hnn]; rfl
  have hx0 : 0 ≤ x := hok.v0
  obtain ⟨ob, hob⟩ : ∃ o : Obj, o = (.cells #[.string s, .int .u32 x, .slice af nf cf, .slice an nn cn] 99) := ⟨_, rfl⟩
  have K1 : Kp [] w (w.alloc ob) := (Kp.refl [] w).alloc ob
  have HI := hide (isName_any s bn hbn (w.alloc ob))
  have G1 : Hid ((w.alloc ob).heap[w.heap.size]? = some (.cells #[.string s, .int .u32 x, .slice af nf cf, .slice an nn cn] 99 (0, 0))) := by rw [hob]; exact heap_alloc_new w _
  rw [hob] at K1 HI G1
  have HK1 := hide K1
  have HB := hide hb2
  have hcf : (cf : Int) ≤ 9223372036854775807 := by obtain ⟨_, _, e, h1, h2, _⟩ := hF; injection e with _ _ e3; unfold maxLen at h2; omega
  have hfc : (nf : Int) ≤ 9223372036854775807 := by obtain ⟨_, _, e, h1, h2, _⟩ := hF; injection e with _ e2 e3; unfold maxLen at h2; omega
  have hnc : (nn : Int) ≤ 9223372036854775807 := by obtain ⟨_, _, e, h1, h2, _⟩ := hNt; injection e with _ e2 e3; unfold maxLen at h2; omega
  clear hob K1 hb hb2 hbn hF hNt hok hnf hnn
  cases bn
  · have HE : Hid (b = false) := hide (by rw [unhide HB]; rfl)
    clear HB
    go_enter Tryz.func94, Tryz.ntmps94
    go_wp2_with fail
    refine (unhide HI).mono ?_
    rintro ee w2 ⟨rfl, K2⟩
    have HK2 := hide ((unhide HK1).trans K2)
    obtain ⟨-, e1, e2, e3⟩ := cell_man (K2.heap (unhide G1) (by simp))
    clear HI K2 HK1 G1
    go_wp2_with fail
    go_ret
    exact ⟨by rw [unhide HE]; rfl, unhide HK2⟩
  · by_cases h1 : 0 < x
    · by_cases h2 : nf = 32
      · have h2i : (nf : Int) = 32 := by omega
        by_cases h3 : nn ≤ 64
        · have h3i : (nn : Int) ≤ 64 := by omega
          have HE : Hid (b = true) := hide (by rw [unhide HB]; simp [h1, h2, h3])
          clear HB
          subst h2
          go_enter Tryz.func94, Tryz.ntmps94
          go_wp2_with fail
          refine (unhide HI).mono ?_
          rintro ee w2 ⟨rfl, K2⟩
          have HK2 := hide ((unhide HK1).trans K2)
          obtain ⟨-, e1, e2, e3⟩ := cell_man (K2.heap (unhide G1) (by simp))
          clear HI K2 HK1 G1
          go_wp2_with fail
          go_ret
          exact ⟨by rw [unhide HE]; rfl, unhide HK2⟩
        · have h3i : (64 : Int) < (nn : Int) := by omega
          have HE : Hid (b = false) := hide (by rw [unhide HB]; simp [h3])
          clear HB
          subst h2
          go_enter Tryz.func94, Tryz.ntmps94
          go_wp2_with fail
          refine (unhide HI).mono ?_
          rintro ee w2 ⟨rfl, K2⟩
          have HK2 := hide ((unhide HK1).trans K2)
          obtain ⟨-, e1, e2, e3⟩ := cell_man (K2.heap (unhide G1) (by simp))
          clear HI K2 HK1 G1
          go_wp2_with fail
          go_ret
          exact ⟨by rw [unhide HE]; exact congrArg (fun t => Ending.returned (Value.bool t)) (decide_eq_false (by omega)), unhide HK2⟩
      · have h2i : ¬ (nf : Int) = 32 := by omega
        have HE : Hid (b = false) := hide (by rw [unhide HB]; simp [h2])
        clear HB
        go_enter Tryz.func94, Tryz.ntmps94
        go_wp2_with fail
        refine (unhide HI).mono ?_
        rintro ee w2 ⟨rfl, K2⟩
        have HK2 := hide ((unhide HK1).trans K2)
        obtain ⟨-, e1, e2, e3⟩ := cell_man (K2.heap (unhide G1) (by simp))
        clear HI K2 HK1 G1
        go_wp2_with fail
        go_ret
        exact ⟨by rw [unhide HE]; rfl, unhide HK2⟩
    · obtain rfl : x = 0 := by omega
      have HE : Hid (b = false) := hide (by rw [unhide HB]; rfl)
      clear HB
      go_enter Tryz.func94, Tryz.ntmps94
      go_wp2_with fail
      refine (unhide HI).mono ?_
      rintro ee w2 ⟨rfl, K2⟩
      have HK2 := hide ((unhide HK1).trans K2)
      obtain ⟨-, e1, e2, e3⟩ := cell_man (K2.heap (unhide G1) (by simp))
      clear HI K2 HK1 G1
      go_wp2_with fail
      go_ret
      exact ⟨by rw [unhide HE]; rfl, unhide HK2⟩
end Go.Proofs.YteabdojjllfcpaaGreat

/-
  What is read of bytes, field for field.
-/
namespace Go.Proofs.YteabdojjllfcpaaGreat
theorem decM_s (B : List Int) : (decM B).s = strOfNums (d2 B).1 := by simp only [decM]
theorem decM_v (B : List Int) : (decM B).v = val (d3 B).1 := by simp only [decM]
theorem decM_f (B : List Int) : (decM B).f = (d4 B).1 := by simp only [decM]
theorem decM_n (B : List Int) : (decM B).n = (d5 B).1 := by simp only [decM]
theorem ansM_yes {B : List Int} (h : okM B = true) : ansM B = decM B := by unfold ansM; exact if_pos h
theorem ansM_no {B : List Int} (h : okM B = false) : ansM B = mf0 := by unfold ansM; exact if_neg (by rw [h]; decide)
end Go.Proofs.YteabdojjllfcpaaGreat

/-
  The contract of package manifest's Decode.
-/
namespace Go.Proofs.YteabdojjllfcpaaGreat
open Go.RowKit
open Go.Proofs
/-- While a manifest is read: the reader at q, what is read of it at g1, the result's place at g0. -/
structure DcS (w0 : World) (g0 q g1 : Nat) (r : Value) (s : Bool × List Int) (x y z u : Value) (w : World) : Prop where
  rd : Rd w q r s.1 s.2
  own : ∀ k, r.ownBlock = some k → k < g1
  cell : w.heap[g1]? = some (.cells #[x, y, z, u] 99 (0, 0))
  res : w.heap[g0]? = some (.cells #[.string ⟨#[]⟩, .int .u32 0, .slice none 0 0, .slice none 0 0] 99 (0, 0))
  kp : Kp [] w0 w
  o1 : w0.heap.size ≤ g0
  o2 : g0 < q
  o3 : q < g1
section
variable {w0 w w' : World} {g0 q g1 : Nat} {r : Value} {s s' : Bool × List Int} {x y z u : Value}
theorem DcS.lt (h : DcS w0 g0 q g1 r s x y z u w) : g1 < w.heap.size := lt_of_block h.cell
theorem DcS.call (h : DcS w0 g0 q g1 r s x y z u w) (L : Left w q r s' w') : ∃ r', DcS w0 g0 q g1 r' s' x y z u w' := by
  obtain ⟨⟨r', R, O⟩, K⟩ := L
  have := h.o1
  have := h.o2
  have := h.o3
  exact ⟨r', R, fun k hk => h.own k (O k hk), K.heap h.cell (by simp; omega), K.heap h.res (by simp; omega), h.kp.then K (fun i hi => .inr (by simp at hi; omega)), h.o1, h.o2, h.o3⟩
theorem DcS.kept (h : DcS w0 g0 q g1 r s x y z u w) (K : Kp [] w w') : DcS w0 g0 q g1 r s x y z u w' :=
  ⟨h.rd.kept K (by simp) (by simp), h.own, K.heap h.cell (by simp), K.heap h.res (by simp), h.kp.trans K, h.o1, h.o2, h.o3⟩
theorem DcS.put (h : DcS w0 g0 q g1 r s x y z u w) (j : Nat) (v x' y' z' u' : Value) (hg : (w.setCell ⟨g1, j, none⟩ v).heap[g1]? = some (.cells #[x', y', z', u'] 99 (0, 0))) : DcS w0 g0 q g1 r s x' y' z' u' (w.setCell ⟨g1, j, none⟩ v) := by
  have K := setCell_kpm w g1 j v
  have := h.o1
  have := h.o2
  have := h.o3
  exact ⟨h.rd.kept K (by simp; omega) (fun i hi => by have := h.own i hi; simp; omega), h.own, hg, K.heap h.res (by simp; omega), h.kp.then K (fun i hi => .inr (by simp at hi; omega)), h.o1, h.o2, h.o3⟩
theorem DcS.put0 (h : DcS w0 g0 q g1 r s x y z u w) (v : Value) : DcS w0 g0 q g1 r s v y z u (w.setCell ⟨g1, 0, none⟩ v) := h.put 0 v _ _ _ _ (by simpa using heap_setCell_same w g1 0 _ _ v h.cell)
theorem DcS.put1 (h : DcS w0 g0 q g1 r s x y z u w) (v : Value) : DcS w0 g0 q g1 r s x v z u (w.setCell ⟨g1, 1, none⟩ v) := h.put 1 v _ _ _ _ (by simpa using heap_setCell_same w g1 1 _ _ v h.cell)
theorem DcS.put2 (h : DcS w0 g0 q g1 r s x y z u w) (v : Value) : DcS w0 g0 q g1 r s x y v u (w.setCell ⟨g1, 2, none⟩ v) := h.put 2 v _ _ _ _ (by simpa using heap_setCell_same w g1 2 _ _ v h.cell)
theorem DcS.put3 (h : DcS w0 g0 q g1 r s x y z u w) (v : Value) : DcS w0 g0 q g1 r s x y z v (w.setCell ⟨g1, 3, none⟩ v) := h.put 3 v _ _ _ _ (by simpa using heap_setCell_same w g1 3 _ _ v h.cell)
/-- a slice of the call's own that reads so, and does as long as only what was there changes. -/
def Far (g : Nat) (v : Value) (bs : List Int) (w : World) : Prop := Sl w v bs ∧ ∀ k, v.ownBlock = some k → g < k
theorem Far.kept {g : Nat} {v : Value} {bs : List Int} {S : List Nat} (h : Far g v bs w) (K : Kp S w w') (hS : ∀ i ∈ S, i ≤ g) : Far g v bs w' :=
  ⟨h.1.kept K (fun i hi hm => by have := hS i hm; have := h.2 i hi; omega), h.2⟩
end
theorem ds_len (B : List Int) : (d1 B).2.2.length ≤ B.length ∧ (d2 B).2.2.length ≤ B.length ∧ (d3 B).2.2.length ≤ B.length ∧ (d4 B).2.2.length ≤ B.length := by
  have h1 := @tk_len false B 1
  have h2 := @tkb_len (d1 B).2.1 (d1 B).2.2 20
  have h3 := @tk_len (d2 B).2.1 (d2 B).2.2 4
  have h4 := @tk_len (d3 B).2.1 (d3 B).2.2 32
  rw [← d1_eq] at h1
  rw [← d2_eq] at h2
  rw [← d3_eq] at h3
  rw [← d4_eq] at h4
  refine ⟨by omega, by omega, by omega, by omega⟩
set_option maxRecDepth 100000 in
set_option maxHeartbeats 4000000 in
theorem mdecode_any (vb : Value) (B : List Int) (w : World) (hS : Sl w vb B) (hB : Bs B) (hl : B.length ≤ 140737488355328) :
    Calls Tryz.prog 58 #[vb] w fun e w' => ∃ v, e = .returned (.tuple #[v, .int .i64 (errOf (okM B))]) ∧ MV w' v (ansM B) ∧ Kp [] w w' := by
  obtain ⟨ob, hob⟩ : ∃ o : Obj, o = (.cells #[.string ⟨#[]⟩, .int .u32 0, .slice none 0 0, .slice none 0 0] 99) := ⟨_, rfl⟩
  have K1 : Kp [] w (w.alloc ob) := (Kp.refl [] w).alloc ob
  have HRd := hide (read_any vb B (w.alloc ob) (hS.kept K1 (by simp)) hl)
  have G1 : Hid ((w.alloc ob).heap[w.heap.size]? = some ob) := heap_alloc_new w ob
  have hz1 : Hid ((w.alloc ob).heap.size = w.heap.size + 1) := hide (by simp)
  rw [hob] at K1 HRd G1 hz1
  have HK1 := hide K1
  obtain ⟨ab, cb, hvb, _⟩ := hS
  obtain ⟨nb, hnb⟩ : ∃ n, n = B.length := ⟨_, rfl⟩
  rw [← hnb] at hvb
  subst hvb
  have HB := hide hB
  have HLN := hide hl
  have HBS := hide (ds_bs hB)
  have HDL := hide (ds_len B)
  clear hob K1 hB hl hnb
  go_enter Tryz.func58, Tryz.ntmps58
  go_wp2_with fail
  refine (unhide HRd).mono ?_
  rintro ee w2 ⟨q, v2, rfl, hq2, R2, hv2, K2⟩
  have HR2 := hide R2
  have HV2 := hide hv2
  have HQ2 := hide hq2
  have HK2 := hide K2
  have hRn := rbyte_any q v2 false B w2 R2 (unhide HB)
  rw [show tk false B 1 = d1 B from (d1_eq B).symm] at hRn
  obtain ⟨t, ht⟩ : ∃ t, t = val (d1 B).1 := ⟨_, rfl⟩
  rw [← ht] at hRn
  have HT := hide ht
  have HRn := hide hRn
  clear R2 hv2 hq2 K2 HRd hRn ht
  go_wp2_with fail
  refine (unhide HRn).mono ?_
  rintro ee w3 ⟨rfl, L3⟩
  have HL3 := hide L3
  obtain ⟨w4, hw4⟩ : ∃ w4, w4 = w3.alloc (.cells #[.string ⟨#[]⟩, .int .u32 0, .slice none 0 0, .slice none 0 0] 99) := ⟨_, rfl⟩
  obtain ⟨g1, hg1⟩ : ∃ g, g = w3.heap.size := ⟨_, rfl⟩
  obtain ⟨g0, hg0⟩ : ∃ g, g = w.heap.size := ⟨_, rfl⟩
  have HD4 : Hid (∃ r, DcS w g0 q g1 r (d1 B).2 (.string ⟨#[]⟩) (.int .u32 0) (.slice none 0 0) (.slice none 0 0) w4) := by
    obtain ⟨⟨r3, R3, O3⟩, K3⟩ := L3
    have K4 : Kp [] w3 w4 := by rw [hw4]; exact (Kp.refl [] w3).alloc _
    have hq := unhide HQ2
    have hz := unhide hz1
    rw [hz] at hq
    have hqlt : q < w2.heap.size := lt_of_block (unhide HR2).1
    have hs3 := K3.size
    refine ⟨r3, R3.kept K4 (by simp) (by simp), fun k hk => ?_, ?_, ?_, ?_, by omega, by omega, by omega⟩
    · have := (unhide HV2 k (O3 k hk)).2; omega
    · rw [hw4, hg1]; exact heap_alloc_new w3 _
    · refine K4.heap (K3.heap ((unhide HK2).heap (k := g0) ?_ (by simp)) (by simp; omega)) (by simp)
      rw [hg0]; exact unhide G1
    · exact (((unhide HK1).trans (unhide HK2)).then K3 (fun i hi => .inr (by simp at hi; omega))).trans K4
  have HG0 := hide hg0
  have HW4 := hide hw4
  have HG1' := hide hg1
  clear HRn HR2 HV2 HQ2 HK2 HK1 G1 hz1 L3 HL3 hw4 hg1 hg0
  go_wp2_with fail
  rw [← unhide HW4, ← unhide HG1', ← unhide HG0]
  obtain ⟨r4, D4⟩ := unhide HD4
  have HDD := hide D4
  have hC := rbytes_any q r4 (d1 B).2.1 (d1 B).2.2 20 w4 D4.rd (unhide HBS).1 (by have := (unhide HDL).1; have := unhide HLN; omega)
  rw [← d2_eq] at hC
  have HC := hide hC
  clear HD4 D4 hC HW4 HG1' HG0
  refine (unhide HC).mono ?_
  rintro ee w5 ⟨a5, c5, rfl, O5, L5⟩
  obtain ⟨r5, D5⟩ := (unhide HDD).call L5
  obtain ⟨m5, hm5⟩ : ∃ m, m = (d2 B).1.length := ⟨_, rfl⟩
  rw [← hm5] at O5 ⊢
  have hcv := O5.1.conv (P := Tryz.prog) 28 9 5 Tryz.underlying28 Tryz.underlying5 Tryz.underlying9
  obtain ⟨S5, hS5⟩ : ∃ S, S = strOfNums (d2 B).1 := ⟨_, rfl⟩
  rw [← hS5] at hcv
  have HS5 := hide hS5
  have hc5 : w5.cell? ⟨g1, 0, none⟩ = some (.string ⟨#[]⟩) := (cell_man D5.cell).1
  have hf5 : w5.frozen? ⟨g1, 0, none⟩ = false := frozen_of_row w5 g1 0 _ _ D5.cell
  have HD5 := hide (D5.put0 (.string S5))
  have hC := rnum_any q r5 (d2 B).2.1 (d2 B).2.2 _ (unhide HD5).rd (unhide HBS).2.1
  rw [← d3_eq] at hC
  obtain ⟨x, hx⟩ : ∃ x, x = val (d3 B).1 := ⟨_, rfl⟩
  rw [← hx] at hC
  have HX := hide hx
  have HCn := hide hC
  clear HC HDD O5 L5 D5 hC hm5 hS5 hx
  go_wp2_with fail
  refine (unhide HCn).mono ?_
  rintro ee w6 ⟨rfl, L6⟩
  obtain ⟨r6, D6⟩ := (unhide HD5).call L6
  have hc6 : w6.cell? ⟨g1, 1, none⟩ = some (.int .u32 0) := (cell_man D6.cell).2.1
  have hf6 : w6.frozen? ⟨g1, 1, none⟩ = false := frozen_of_row w6 g1 1 _ _ D6.cell
  have HD6 := hide (D6.put1 (.int .u32 x))
  have hC := raw_ok q r6 (d3 B).2.1 (d3 B).2.2 32 _ (unhide HD6).rd (by have := (unhide HDL).2.2.1; have := unhide HLN; omega)
  rw [← d4_eq] at hC
  have HCr := hide hC
  clear HCn HD5 L6 D6 hC hcv hc5 hf5
  go_wp2_with fail
  refine (unhide HCr).mono ?_
  rintro ee w7 ⟨a7, c7, rfl, O7, L7⟩
  obtain ⟨r7, D7⟩ := (unhide HD6).call L7
  obtain ⟨m7, hm7⟩ : ∃ m, m = (d4 B).1.length := ⟨_, rfl⟩
  rw [← hm7] at O7 ⊢
  have hc7 : w7.cell? ⟨g1, 2, none⟩ = some (.slice none 0 0) := (cell_man D7.cell).2.2.1
  have hf7 : w7.frozen? ⟨g1, 2, none⟩ = false := frozen_of_row w7 g1 2 _ _ D7.cell
  have hlt6 := (unhide HD6).lt
  have F7 : Far g1 (.slice a7 m7 c7) (d4 B).1 w7 := ⟨O7.1, fun k hk => by have := O7.2 k hk; omega⟩
  have HF7 := hide (F7.kept (setCell_kpm w7 g1 2 (.slice a7 m7 c7)) (by simp))
  have HD7 := hide (D7.put2 (.slice a7 m7 c7))
  have hC := rbytes_any q r7 (d4 B).2.1 (d4 B).2.2 64 _ (unhide HD7).rd (unhide HBS).2.2.2.1 (by have := (unhide HDL).2.2.2; have := unhide HLN; omega)
  rw [← d5_eq] at hC
  have HCb := hide hC
  clear HCr HD6 L7 D7 hC O7 hm7 hlt6 F7 hc6 hf6
  go_wp2_with fail
  refine (unhide HCb).mono ?_
  rintro ee w8 ⟨a8, c8, rfl, O8, L8⟩
  obtain ⟨r8, D8⟩ := (unhide HD7).call L8
  obtain ⟨m8, hm8⟩ : ∃ m, m = (d5 B).1.length := ⟨_, rfl⟩
  rw [← hm8] at O8 ⊢
  have hc8 : w8.cell? ⟨g1, 3, none⟩ = some (.slice none 0 0) := (cell_man D8.cell).2.2.2
  have hf8 : w8.frozen? ⟨g1, 3, none⟩ = false := frozen_of_row w8 g1 3 _ _ D8.cell
  have hlt7 := (unhide HD7).lt
  have hqg := D8.o3
  have F8 : Far g1 (.slice a8 m8 c8) (d5 B).1 w8 := ⟨O8.1, fun k hk => by have := O8.2 k hk; omega⟩
  have HF8 := hide (F8.kept (setCell_kpm w8 g1 3 (.slice a8 m8 c8)) (by simp))
  have HF78 := hide (((unhide HF7).kept L8.2 (by simp; omega)).kept (setCell_kpm w8 g1 3 (.slice a8 m8 c8)) (by simp))
  have HD8 := hide (D8.put3 (.slice a8 m8 c8))
  obtain ⟨W, hW⟩ : ∃ W, W = w8.setCell ⟨g1, 3, none⟩ (.slice a8 m8 c8) := ⟨_, rfl⟩
  have HWW := hide hW
  rw [← hW] at HF8 HF78 HD8
  have HMV : Hid (MV W (.agg #[.string S5, .int .u32 x, .slice a7 m7 c7, .slice a8 m8 c8]) (decM B)) := by
    refine ⟨a7, m7, c7, a8, m8, c8, ?_, ?_, ?_, decM_ok (unhide HB)⟩
    · rw [decM_s, decM_v, unhide HS5, unhide HX]
    · rw [decM_f]; exact (unhide HF78).1
    · rw [decM_n]; exact (unhide HF8).1
  have HEnd := hide (end_any q r8 (d5 B).2.1 (d5 B).2.2 W (unhide HD8).rd)
  have HRgt := hide (fun b hb => mright_any _ (decM B) b hb W (unhide HMV))
  clear HCb HD7 L8 D8 O8 hm8 hlt7 F8 hc7 hf7 HF7 hW hqg
  obtain ⟨eb, heb⟩ : ∃ b, b = (!(d5 B).2.1 && (d5 B).2.2.isEmpty) := ⟨_, rfl⟩
  obtain ⟨rb, hrb⟩ : ∃ b, b = rgtM (decM B) := ⟨_, rfl⟩
  have hok : okM B = (decide (t = 77) && eb && rb) := by rw [heb, hrb, unhide HT]; rfl
  rw [← heb] at HEnd
  have HR1 := hide (unhide HRgt rb hrb)
  obtain ⟨z0, z1, z2, z3⟩ := cell_man (unhide HD8).cell
  have HOK := hide hok
  clear HRgt heb hrb hok
  by_cases h77 : t = 77
  · subst h77
    cases eb
    · have hno : okM B = false := by rw [unhide HOK]; rfl
      have HNO := hide hno
      clear hno HOK
      go_wp2_with fail
      rw [← unhide HWW]
      refine (unhide HEnd).mono ?_
      rintro ee w9 ⟨rfl, hw9⟩
      subst w9
      have G0 := (unhide HD8).res
      have HKW := hide (unhide HD8).kp
      have ho1 := (unhide HD8).o1
      clear HEnd HR1 z0 z1 z2 z3 HD8 hc8 hf8
      go_wp2_with (refine wpList_store_man rfl (.tmp 2) (.tmp 37) rfl g0 rfl _ _ _ _ _ _ _ _ G0 rfl ⟨rfl, rfl, rfl, rfl⟩ ?_; intro wa Ga Ka)
      refine bodyPost_ret (results_man rfl _ rfl Ga) rfl ?_
      exact ⟨_, by rw [unhide HNO]; rfl, by rw [ansM_no (unhide HNO)]; exact man0_v _, (unhide HKW).then Ka (fun i hi => .inr (by simp at hi; omega))⟩
    · cases rb
      · have hno : okM B = false := by rw [unhide HOK]; rfl
        have HNO := hide hno
        clear hno HOK
        go_wp2_with fail
        rw [← unhide HWW]
        refine (unhide HEnd).mono ?_
        rintro ee w9 ⟨rfl, hw9⟩
        subst w9
        clear HEnd
        go_wp2_with fail
        refine (unhide HR1).mono ?_
        rintro ee w9 ⟨rfl, K9⟩
        have D9 := (unhide HD8).kept K9
        have G0 := D9.res
        have HKW := hide D9.kp
        have ho1 := D9.o1
        clear HR1 z0 z1 z2 z3 HD8 hc8 hf8 K9 D9
        go_wp2_with (refine wpList_store_man rfl (.tmp 2) (.tmp 37) rfl g0 rfl _ _ _ _ _ _ _ _ G0 rfl ⟨rfl, rfl, rfl, rfl⟩ ?_; intro wa Ga Ka)
        refine bodyPost_ret (results_man rfl _ rfl Ga) rfl ?_
        exact ⟨_, by rw [unhide HNO]; rfl, by rw [ansM_no (unhide HNO)]; exact man0_v _, (unhide HKW).then Ka (fun i hi => .inr (by simp at hi; omega))⟩
      · have hyes : okM B = true := by rw [unhide HOK]; rfl
        have HYES := hide hyes
        clear hyes HOK
        go_wp2_with fail
        rw [← unhide HWW]
        refine (unhide HEnd).mono ?_
        rintro ee w9 ⟨rfl, hw9⟩
        subst w9
        clear HEnd
        go_wp2_with fail
        refine (unhide HR1).mono ?_
        rintro ee w9 ⟨rfl, K9⟩
        have D9 := (unhide HD8).kept K9
        have G0 := D9.res
        have HG9 := hide D9.cell
        have HKW := hide D9.kp
        have ho1 := D9.o1
        have HN0 := hide (noBy_man G0)
        have HM9 := hide ((unhide HMV).kept K9)
        clear HR1 z0 z1 z2 z3 HD8 hc8 hf8 K9 D9
        go_wp2_with (refine wpList_load_row rfl 99 (.tmp 6) rfl g1 rfl 99 _ (0, 0) _ (unhide HG9) Tryz.underlying99 rfl Tryz.manSize ?_; refine Hid.out ?_)
        refine hide ?_
        go_wp2_with (refine wpList_store_man rfl (.tmp 2) (.tmp 38) rfl g0 rfl _ _ _ _ _ _ _ _ G0 rfl ⟨rfl, rfl, rfl, rfl⟩ ?_; intro wa Ga Ka)
        refine bodyPost_ret (results_man rfl _ rfl Ga) rfl ?_
        exact ⟨_, by rw [unhide HYES]; rfl, by rw [ansM_yes (unhide HYES)]; exact (unhide HM9).offBy (unhide HN0) Ka, (unhide HKW).then Ka (fun i hi => .inr (by simp at hi; omega))⟩
  · have hno : okM B = false := by rw [unhide HOK, decide_eq_false h77]; rfl
    have HNO := hide hno
    have h77' : (t == 77) = false := beq_eq_false_iff_ne.2 h77
    have G0 := (unhide HD8).res
    have HKW := hide (unhide HD8).kp
    have ho1 := (unhide HD8).o1
    rw [unhide HWW] at G0
    clear hno HOK HEnd HR1 z0 z1 z2 z3 HD8
    go_wp2_with (refine wpList_store_man rfl (.tmp 2) (.tmp 37) rfl g0 rfl _ _ _ _ _ _ _ _ G0 rfl ⟨rfl, rfl, rfl, rfl⟩ ?_; intro wa Ga Ka)
    refine bodyPost_ret (results_man rfl _ rfl Ga) rfl ?_
    rw [← unhide HWW] at Ka
    exact ⟨_, by rw [unhide HNO]; rfl, by rw [ansM_no (unhide HNO)]; exact man0_v _, (unhide HKW).then Ka (fun i hi => .inr (by simp at hi; omega))⟩
end Go.Proofs.YteabdojjllfcpaaGreat
