/-
  Behind a crash: ledger and front are opened anew, the law's own queue is made again.
-/
import Derived.Test.YteabdojjllfcpaaGreatQOFrontNumbers9
namespace Go.Proofs.YteabdojjllfcpaaGreat
open Go.RowKit
open Go.Proofs
set_option linter.unusedVariables false
section
variable {w0 w w' : World} {x p l pd pl pk : Nat} {d dd dk : Dk} {F : Nat → Prop} {f : Fps}
/-- the ledger is opened anew: all that it is then. -/
theorem dz_open2 (h : Dz w0 w pd pl pk d dd dk F f) (vs : Value) (seed : List Int) (hS : Sl w vs seed) (hsB : Bs seed) (hl : seed.length = 32) (hsk : ∀ k, vs.ownBlock = some k → ¬ f.tot k) (dn : dd.down = false) (da : dd.arm ≤ 0) (kd : dk.down = false) (ka : dk.arm ≤ 0) {at_ : Nat} (ho : opnP dk.bs = ([], at_, true)) {rs : List (List Int)} {at2 : Nat} (hop : opnP dd.bs = (rs, at2, true)) {its : List (List Int)} (hits : gatU [] rs = some its) (h256 : its.length ≤ 256) (hrB : ∀ r ∈ rs, Bs r) (hlr : lenU rs ≤ 100000) (hrn : rs.length ≤ 200000) {dd' dk' : Dk} (hdd : dd.opn = dd') (hdk : dk.opn = dk') :
    Calls Tryz.prog 9 #[.pointer (some ⟨pl, 0, none⟩), .pointer (some ⟨pk, 0, none⟩), vs] w fun e w' => ∃ l, e = .returned (.tuple #[.pointer (some ⟨l, 0, none⟩), .int .i64 0]) ∧ ∃ f', Lg w0 w' l pl pk ⟨its, 0, seed, none, dd', dk', rs.length, 0⟩ f' ∧ Dx w0 w' pd d F ∧ (∀ i, F i → ¬ f'.tot i) ∧ (∀ i, F i → w0.heap.size ≤ i ∧ i < w'.heap.size) ∧ Stp (fun i => F i ∨ f.tot i) w w' (fun i => F i ∨ f'.tot i) := by
  refine (uopen_ok (dd' := dd') (dk' := dk') (n := 0) vs seed hS hsB hl hsk h.s.ok h.s.d dn da h.s.k kd ka rfl (by omega) ho hdk rfl hop hdd hits h256 hrB hlr hrn).mono ?_
  rintro e w' ⟨l, rfl, f', L', T⟩
  obtain ⟨U, hU, k⟩ := T.kp
  refine ⟨l, rfl, f', L', h.d.kept k L'.kp (fun i hi hF => h.ap i hF (hU i hi)), fun i hi hf => ?_, fun i hi => ⟨(h.rng i hi).1, Nat.lt_of_lt_of_le (h.rng i hi).2 k.size⟩, (T.side F).cong (fun i hi => hi.symm) (fun i hi => hi.symm)⟩
  rcases T.2 i hf with h1 | h1
  · exact h.ap i hi h1
  · have := (h.rng i hi).2; omega
end
/-- the queue anew, of the first j receipts. -/
def tqA (a j : Nat) : List (Int × Int) := (List.range (j - a)).map (fun i => (((a + i : Nat) : Int), (-1125899906842624 : Int)))
theorem tqA_low {a j : Nat} (h : j < a) : tqA a (j + 1) = tqA a j := by
  unfold tqA
  rw [show j + 1 - a = j - a by omega]
theorem tqA_up {a j : Nat} (h : a ≤ j) : tqA a (j + 1) = tqA a j ++ [((j : Int), -1125899906842624)] := by
  unfold tqA
  rw [show j + 1 - a = (j - a) + 1 by omega, List.range_succ, List.map_append]
  congr 1
  simp only [List.map_cons, List.map_nil]
  rw [show a + (j - a) = j by omega]
theorem tqA_len (a j : Nat) : (tqA a j).length = j - a := by simp [tqA]
theorem PlF.isIn {S : FS} {L : LS} {r s t : Int} {k : Nat} (h : PlF S L r s t k) (j : Nat) (hj : j < S.rc.length) : (j < L.its.length → S.rc[j] ∈ L.its) ∧ (L.its.length ≤ j → S.rc[j] ∉ L.its) := by
  have hnd := h.nd
  have heq := h.eq
  generalize S.rc = rc at hj hnd heq
  subst heq
  obtain ⟨-, -, hd⟩ := List.nodup_append.1 hnd
  refine ⟨fun hl => ?_, fun hl => ?_⟩
  · rw [List.getElem_append_left hl]
    exact List.getElem_mem hl
  · rw [List.getElem_append_right hl]
    exact fun hm => hd _ hm _ (List.getElem_mem _) rfl
section
variable {w0 w : World} {x pd pl pk pw : Nat} {r s t : Int} {k : Nat} {S : FS} {L : LS} {F : Nat → Prop} {f : Fps} {vf vl : Value} {vi : Value} {li : List (Value × List Int)} {vrc : Value} {lr : List (Value × List Int)} {vq : Value} {tq : List (Int × Int)}
set_option maxRecDepth 100000 in
set_option maxHeartbeats 16000000 in
theorem fagain_any (hW : Wd w x vf vl (.pointer (some ⟨pd, 0, none⟩)) (.pointer (some ⟨pl, 0, none⟩)) (.pointer (some ⟨pk, 0, none⟩)) r s t (.pointer (some ⟨pw, 0, none⟩)) vrc vq) (hZ : Dz w0 w pd pl pk S.d L.dd L.dk F f) (hLw : Lw w0 w (fun i => F i ∨ f.tot i) x pw vi li vrc lr vq tq) (hnx : ¬ (F x ∨ f.tot x)) (hx0 : w0.heap.size ≤ x) (hP : PlF S L r s t k) (hk : k ≤ 40) (hits : li.map (·.2) = L.its) (hrc : lr.map (·.2) = S.rc) (h1 : 1 ≤ r) (h2 : r ≤ 16) (h3 : 1 ≤ s) (h4 : s ≤ 8) (h5 : 0 ≤ t) (h6 : t ≤ 1000) :
    Calls Tryz.prog 52 #[.pointer (some ⟨x, 0, none⟩)] w fun e w' => e = .returned (.bool true) ∧ ∃ p l g f' S' L' vq', Bo w0 w' p l pd pl pk S' L' g f' ∧ Wd w' x (.pointer (some ⟨p, 0, none⟩)) (.pointer (some ⟨l, 0, none⟩)) (.pointer (some ⟨pd, 0, none⟩)) (.pointer (some ⟨pl, 0, none⟩)) (.pointer (some ⟨pk, 0, none⟩)) r s t (.pointer (some ⟨pw, 0, none⟩)) vrc vq' ∧ ¬ two2 g f' x ∧ Lw w0 w' (two2 g f') x pw vi li vrc lr vq' (tqP L.its.length S'.ms) ∧ PlF S' L' r s t (k + 1) ∧ L'.its = L.its ∧ S'.rc = S.rc := by
  obtain ⟨vw, hvw⟩ : ∃ v, v = Value.pointer (some ⟨pw, 0, none⟩) := ⟨_, rfl⟩
  rw [← hvw] at hW
  obtain ⟨ra, rcp, evr⟩ := hLw.alr.row.1.1.shape
  obtain ⟨nr, hnr⟩ : ∃ n, n = S.rc.length := ⟨_, rfl⟩
  rw [List.length_map, ← List.length_map (f := (·.2)), hrc, ← hnr] at evr
  subst evr
  have HWd : Hid (∀ w', Kp [] w.drew w' → Wd w' x vf vl (.pointer (some ⟨pd, 0, none⟩)) (.pointer (some ⟨pl, 0, none⟩)) (.pointer (some ⟨pk, 0, none⟩)) r s t vw (.slice ra nr rcp) vq) := fun w' k => hW.kept ((kp_drew w).trans k) (by simp)
  have HZ := hide hZ
  have HLw := hide hLw
  have Hnx := hide hnx
  have Hx0 := hide hx0
  have HP := hide hP
  have Hk := hide hk
  have Hits := hide hits
  have Hrc := hide hrc
  have Hnr := hide hnr
  have Hvw := hide hvw
  have HB := hide (And.intro (And.intro h1 h2) (And.intro (And.intro h3 h4) (And.intro h5 h6)))
  have hxw := hW.lt
  have Hxw := hide hxw
  obtain ⟨rs, g1, g2, g3, g4⟩ := hP.dd
  have HRs := hide (And.intro g1 (And.intro g2 (And.intro g3 g4)))
  have hds : ∀ y ∈ rs, y.length ≤ 65535 := fun y hy => by have := (g3 y hy).2; omega
  have HOp : Hid (∃ a, opnP L.dd.bs = (rs, a, true)) := hide ⟨_, by
    have := opnP_lay rs [] hds
    rw [List.append_nil, opnP_nil] at this
    rw [g2]
    simpa [dkOn] using this⟩
  have HOo : Hid (L.dd.opn = L.dd) := by rw [g2]; exact Dk.opn_all rs hds
  have HKo : Hid (L.dk.opn = dkOn [] ∧ L.dk.bs = [] ∧ L.dk.down = false ∧ L.dk.arm ≤ 0) := by rw [hP.dk]; exact ⟨klay_dk 0, rfl, rfl, Int.le_refl 0⟩
  have HDo : Hid (L.dd.down = false ∧ L.dd.arm ≤ 0) := by rw [g2]; exact ⟨rfl, Int.le_refl 0⟩
  have hrs := hP.bs
  have hrl : ∀ y ∈ S.rc, y.length ≤ 65535 := fun y hy => by have := (hrs y hy).2; omega
  have HSo : Hid (S.d.down = false ∧ S.d.arm ≤ 0 ∧ ∃ a, opnP S.d.bs = (S.rc, a, true)) := by
    rw [hP.d]
    refine ⟨rfl, Int.le_refl 0, (layP S.rc).length, ?_⟩
    have := opnP_lay S.rc [] hrl
    rw [List.append_nil, opnP_nil] at this
    simpa [dkOn] using this
  have HSp : Hid (S.d.opn = dkOn (layP S.rc)) := by rw [hP.d]; exact Dk.opn_all S.rc hrl
  have HLen : Hid (lenU rs ≤ 100000) := hide (by
    have h7 : lenU rs ≤ rs.length * 1100 := by
      have : ∀ l : List (List Int), (∀ y ∈ l, y.length ≤ 1100) → lenU l ≤ l.length * 1100 := fun l => by
        induction l with
        | nil => intro _; simp [lenU]
        | cons y l ih => intro h; have h8 := ih (fun z hz => h z (by simp [hz])); have h9 := h y (by simp); simp only [lenU, List.map_cons, List.sum_cons, List.length_cons] at h8 ⊢; omega
      exact this rs (fun y hy => (g3 y hy).2)
    omega)
  have hil := hP.il
  have hlen := hP.len
  have HNi : Hid (L.its.length ≤ 40 ∧ nr ≤ 40) := hide (by omega)
  clear hW hZ hLw hnx hx0 hP hk hits hrc hnr hvw h1 h2 h3 h4 h5 h6 hxw g1 g2 g3 g4 hds hrs hrl hil hlen
  go_enter Tryz.func52, Tryz.ntmps52
  go_wp2_with fail
  refine region_grow_call 9 Tryz.mixed [Is (.pointer (some ⟨x, 0, none⟩)), Is (.pointer (some ⟨x, 0, none⟩)), Is (.pointer (some ⟨x, 3, none⟩)), Is (.pointer (some ⟨pl, 0, none⟩)), Is (.pointer (some ⟨x, 0, none⟩)), Is (.pointer (some ⟨x, 0, none⟩)), Is (.pointer (some ⟨x, 4, none⟩)), Is (.pointer (some ⟨pk, 0, none⟩)), RO w.drew.heap.size (seedX 0)] [[(0, none)], [(9, some 0)], [(10, some 1)], [(11, some 2)], [(0, none)], [(13, some 4)], [(14, some 5)], [(15, some 6)], [], [], [(18, some 9)], [(8, some 10)], [(8, some 10)], [(19, some 11)], [(20, some 12)]] (by kernel_rfl) ?_ ?_ _ rfl rfl ?_
  all_goals try simp only [List.take_succ_cons, List.take_zero]
  · simp only [List.mem_cons, List.not_mem_nil, or_false]
    intro R hR
    rcases hR with rfl | rfl | rfl | rfl | rfl | rfl | rfl | rfl | rfl <;> first | exact stable_is _ | exact stable_ro _ _
  · refine steps_cons (fun a w hk hn => ?_) ?_
    · have h0 : a.eval (.tmp 0) = .pointer (some ⟨x, 0, none⟩) := hn.1
      clear hn
      refine wants_plain rfl ?_
      exact grown_move (.tmp 0) rfl h0
    refine steps_cons (fun a w hk hn => ?_) ?_
    · have h9 : a.eval (.tmp 9) = .pointer (some ⟨x, 0, none⟩) := hn.1
      clear hn
      refine wants_plain rfl ?_
      refine grown_run (v := .pointer (some ⟨x, 0, none⟩)) ?_ (Kp.refl _ _) rfl
      obtain ⟨ρ, hρ, hc, hf, hg⟩ := eval_is a
      rw [hρ] at h9 ⊢
      simp [go_sem, h9]
    refine steps_cons (fun a w hk hn => ?_) ?_
    · have h10 : a.eval (.tmp 10) = .pointer (some ⟨x, 0, none⟩) := hn.1
      clear hn
      refine wants_plain rfl ?_
      refine grown_run (v := .pointer (some ⟨x, 3, none⟩)) ?_ (Kp.refl _ _) rfl
      obtain ⟨ρ, hρ, hc, hf, hg⟩ := eval_is a
      rw [hρ] at h10 ⊢
      simp [go_sem, h10]
    refine steps_cons (fun a w hk hn => ?_) ?_
    · have h11 : a.eval (.tmp 11) = .pointer (some ⟨x, 3, none⟩) := hn.1
      clear hn
      refine wants_plain rfl ?_
      refine grown_run (v := .pointer (some ⟨pl, 0, none⟩)) ?_ (Kp.refl _ _) rfl
      have hcell : w.cell? ⟨x, 3, none⟩ = some (.pointer (some ⟨pl, 0, none⟩)) := by rw [cell_of_row w x 3 _ _ _ (HWd.out w hk)]; rfl
      obtain ⟨ρ, hρ, hc, hf, hg⟩ := eval_is a
      rw [hρ] at h11 ⊢
      simp [go_sem, h11, hcell]
    refine steps_cons (fun a w hk hn => ?_) ?_
    · have h0 : a.eval (.tmp 0) = .pointer (some ⟨x, 0, none⟩) := hn.1
      clear hn
      refine wants_plain rfl ?_
      exact grown_move (.tmp 0) rfl h0
    refine steps_cons (fun a w hk hn => ?_) ?_
    · have h13 : a.eval (.tmp 13) = .pointer (some ⟨x, 0, none⟩) := hn.1
      clear hn
      refine wants_plain rfl ?_
      refine grown_run (v := .pointer (some ⟨x, 0, none⟩)) ?_ (Kp.refl _ _) rfl
      obtain ⟨ρ, hρ, hc, hf, hg⟩ := eval_is a
      rw [hρ] at h13 ⊢
      simp [go_sem, h13]
    refine steps_cons (fun a w hk hn => ?_) ?_
    · have h14 : a.eval (.tmp 14) = .pointer (some ⟨x, 0, none⟩) := hn.1
      clear hn
      refine wants_plain rfl ?_
      refine grown_run (v := .pointer (some ⟨x, 4, none⟩)) ?_ (Kp.refl _ _) rfl
      obtain ⟨ρ, hρ, hc, hf, hg⟩ := eval_is a
      rw [hρ] at h14 ⊢
      simp [go_sem, h14]
    refine steps_cons (fun a w hk hn => ?_) ?_
    · have h15 : a.eval (.tmp 15) = .pointer (some ⟨x, 4, none⟩) := hn.1
      clear hn
      refine wants_plain rfl ?_
      refine grown_run (v := .pointer (some ⟨pk, 0, none⟩)) ?_ (Kp.refl _ _) rfl
      have hcell : w.cell? ⟨x, 4, none⟩ = some (.pointer (some ⟨pk, 0, none⟩)) := by rw [cell_of_row w x 4 _ _ _ (HWd.out w hk)]; rfl
      obtain ⟨ρ, hρ, hc, hf, hg⟩ := eval_is a
      rw [hρ] at h15 ⊢
      simp [go_sem, h15, hcell]
    refine steps_cons (fun a w hk hn => ?_) ?_
    · clear hn
      refine wants_plain rfl ?_
      refine grown_call (f := 11) rfl Tryz.func11 (by kernel_rfl) (by kernel_rfl) ?_
      simp only [List.map_toArray, List.map_cons, List.map_nil]
      refine (xseed_any 0 w).mono ?_
      rintro e w' ⟨ao, m, c, rfl, R, K⟩
      exact ⟨_, rfl, K, ⟨ao, m, c, rfl, R.sl, fun i hi => Nat.le_trans hk.size (R.own i hi)⟩⟩
    exact trivial
  intro W1 hkW1
  rintro _ rfl
  rintro _ rfl
  rintro _ rfl
  rintro _ rfl
  rintro _ rfl
  rintro _ rfl
  rintro _ rfl
  rintro _ rfl
  intro v17 h17
  refine fin_nil ?_
  simp only [Act.put, List.set_cons_zero, List.set_cons_succ, List.setIfInBounds_toArray]
  refine fun K hK => ?_
  refine wp_callQ rfl Tryz.func9 (by kernel_rfl) (by kernel_rfl) ?_
  simp only [List.map_toArray, List.map_cons, List.map_nil, Act.eval]
  obtain ⟨av, mv, cv, ev, Sv, Nv⟩ := h17
  subst ev
  obtain ⟨at2, hop⟩ := HOp.out
  have HO := hide (dz_open2 (HZ.out.on ((kp_drew w).trans hkW1)) (.slice av mv cv) (seedX 0) Sv (seedX_bs 0) (seedX_len 0) (fun i hi ⟨a, ha⟩ => by have h1 := (HZ.out.srng i ⟨a, ha⟩).2; have h2 := Nv i hi; exact absurd (show w.drew.heap.size = w.heap.size from rfl) (by omega)) HDo.out.1 HDo.out.2 HKo.out.2.2.1 HKo.out.2.2.2 (at_ := 0) (by rw [HKo.out.2.1]; exact opnP_nil) hop HRs.out.1 (by have := HNi.out.1; omega) (fun y hy => (HRs.out.2.2.1 y hy).1) HLen.out (by have := HRs.out.2.2.2; have := Hk.out; omega) HOo.out HKo.out.1)
  refine HO.out.mono ?_
  rintro ee w2 ⟨l, rfl, f2, L2, D2, ap2, rn2, T2⟩
  refine ⟨_, rfl, hK _ _ ?_⟩
  clear hK K
  refine ⟨[Is (.tuple #[.pointer (some ⟨l, 0, none⟩), .int .i64 0]), Is (.pointer (some ⟨l, 0, none⟩)), Is (.int .i64 0), Is (.pointer (some ⟨l, 0, none⟩)), Is (.int .i64 0)], ?_, ?_, fun w3 hk3 => ?_⟩
  · simp only [List.mem_cons, List.not_mem_nil, or_false]
    intro R hR
    rcases hR with rfl | rfl | rfl | rfl | rfl <;> exact stable_is _
  · simp only [List.drop_succ_cons, List.drop_zero]
    refine steps_cons (fun a w hk hn => ?_) ?_
    · have h18 : a.eval (.tmp 18) = .tuple #[.pointer (some ⟨l, 0, none⟩), .int .i64 0] := hn.1
      clear hn
      refine wants_plain rfl ?_
      exact grown_move (.tmp 18) rfl h18
    refine steps_cons (fun a w hk hn => ?_) ?_
    · have h8 : a.eval (.tmp 8) = .tuple #[.pointer (some ⟨l, 0, none⟩), .int .i64 0] := hn.1
      clear hn
      refine wants_plain rfl ?_
      refine grown_run (v := .pointer (some ⟨l, 0, none⟩)) ?_ (Kp.refl _ _) rfl
      obtain ⟨ρ, hρ, hc, hf, hg⟩ := eval_is a
      rw [hρ] at h8 ⊢
      simp [go_sem, h8]
    refine steps_cons (fun a w hk hn => ?_) ?_
    · have h8 : a.eval (.tmp 8) = .tuple #[.pointer (some ⟨l, 0, none⟩), .int .i64 0] := hn.1
      clear hn
      refine wants_plain rfl ?_
      refine grown_run (v := .int .i64 0) ?_ (Kp.refl _ _) rfl
      obtain ⟨ρ, hρ, hc, hf, hg⟩ := eval_is a
      rw [hρ] at h8 ⊢
      simp [go_sem, h8]
    refine steps_cons (fun a w hk hn => ?_) ?_
    · have h19 : a.eval (.tmp 19) = .pointer (some ⟨l, 0, none⟩) := hn.1
      clear hn
      refine wants_plain rfl ?_
      exact grown_assign (.tmp 19) rfl h19
    refine steps_cons (fun a w hk hn => ?_) ?_
    · have h20 : a.eval (.tmp 20) = .int .i64 0 := hn.1
      clear hn
      refine wants_plain rfl ?_
      exact grown_assign (.tmp 20) rfl h20
    exact trivial
  simp only [List.drop_succ_cons, List.drop_zero]
  rintro _ rfl
  rintro _ rfl
  rintro _ rfl
  rintro _ rfl
  rintro _ rfl
  refine fin_nil ?_
  simp only [Act.put, List.set_cons_zero, List.set_cons_succ, List.setIfInBounds_toArray]
  have K1 : Kp [] w W1 := (kp_drew w).trans hkW1
  have hT3 : Stp (fun i => F i ∨ f.tot i) w w3 (fun i => F i ∨ f2.tot i) := ((Stp.mid K1).trans T2).trans (Stp.mid hk3)
  have hW3 : Wd w3 x vf vl (.pointer (some ⟨pd, 0, none⟩)) (.pointer (some ⟨pl, 0, none⟩)) (.pointer (some ⟨pk, 0, none⟩)) r s t vw (.slice ra nr rcp) vq := (show Wd w2 x vf vl (.pointer (some ⟨pd, 0, none⟩)) (.pointer (some ⟨pl, 0, none⟩)) (.pointer (some ⟨pk, 0, none⟩)) r s t vw (.slice ra nr rcp) vq from T2.heap (HWd.out W1 hkW1) Hnx.out).kept hk3 (by simp)
  have HWd2 : Hid (∀ w', Kp [] w3.drew w' → Wd w' x vf vl (.pointer (some ⟨pd, 0, none⟩)) (.pointer (some ⟨pl, 0, none⟩)) (.pointer (some ⟨pk, 0, none⟩)) r s t vw (.slice ra nr rcp) vq) := fun w' k => hW3.kept ((kp_drew w3).trans k) (by simp)
  have HL3 := hide (L2.on hk3)
  have HLw3 := hide (HLw.out.fstep hT3)
  have HD3 : Hid (Dx w0 w3 pd S.d F) := hide (D2.kept hk3 (L2.kp.trans hk3) (by simp))
  have Hap3 := hide ap2
  have Hrn3 : Hid (∀ i, F i → w0.heap.size ≤ i ∧ i < w3.heap.size) := hide (fun i hi => ⟨(rn2 i hi).1, Nat.lt_of_lt_of_le (rn2 i hi).2 hk3.size⟩)
  have Hnx3 := hide (hT3.off Hxw.out Hnx.out)
  have Hx3 : Hid (x < w3.heap.size) := hide (Nat.lt_of_lt_of_le Hxw.out hT3.size)
  clear hW3 K1 hkW1 Sv Nv HO L2 T2 hk3 HWd HZ HLw Hnx D2 ap2 rn2 hT3
  go_wp2_with fail
  refine region_grow_call 17 Tryz.mixed [Is (.pointer (some ⟨x, 0, none⟩)), Is (.pointer (some ⟨x, 0, none⟩)), Is (.pointer (some ⟨x, 2, none⟩)), Is (.pointer (some ⟨pd, 0, none⟩)), Is (.pointer (some ⟨l, 0, none⟩)), Is (.pointer (some ⟨x, 0, none⟩)), Is (.pointer (some ⟨x, 0, none⟩)), Is (.pointer (some ⟨x, 5, none⟩)), Is (.int .i64 r), Is (.pointer (some ⟨x, 0, none⟩)), Is (.pointer (some ⟨x, 0, none⟩)), Is (.pointer (some ⟨x, 6, none⟩)), Is (.int .i64 s), Is (.pointer (some ⟨x, 0, none⟩)), Is (.pointer (some ⟨x, 0, none⟩)), Is (.pointer (some ⟨x, 7, none⟩)), Is (.int .i64 t)] [[(0, none)], [(28, some 0)], [(29, some 1)], [(30, some 2)], [(3, none)], [(0, none)], [(33, some 5)], [(34, some 6)], [(35, some 7)], [(0, none)], [(37, some 9)], [(38, some 10)], [(39, some 11)], [(0, none)], [(41, some 13)], [(42, some 14)], [(43, some 15)], [], [(45, some 17)], [(27, some 18)], [(27, some 18)], [(46, some 19)], [(47, some 20)]] (by kernel_rfl) ?_ ?_ _ rfl rfl ?_
  all_goals try simp only [List.take_succ_cons, List.take_zero]
  · simp only [List.mem_cons, List.not_mem_nil, or_false]
    intro R hR
    rcases hR with rfl | rfl | rfl | rfl | rfl | rfl | rfl | rfl | rfl | rfl | rfl | rfl | rfl | rfl | rfl | rfl | rfl <;> first | exact stable_is _
  · refine steps_cons (fun a w hk hn => ?_) ?_
    · have h0 : a.eval (.tmp 0) = .pointer (some ⟨x, 0, none⟩) := hn.1
      clear hn
      refine wants_plain rfl ?_
      exact grown_move (.tmp 0) rfl h0
    refine steps_cons (fun a w hk hn => ?_) ?_
    · have h28 : a.eval (.tmp 28) = .pointer (some ⟨x, 0, none⟩) := hn.1
      clear hn
      refine wants_plain rfl ?_
      refine grown_run (v := .pointer (some ⟨x, 0, none⟩)) ?_ (Kp.refl _ _) rfl
      obtain ⟨ρ, hρ, hc, hf, hg⟩ := eval_is a
      rw [hρ] at h28 ⊢
      simp [go_sem, h28]
    refine steps_cons (fun a w hk hn => ?_) ?_
    · have h29 : a.eval (.tmp 29) = .pointer (some ⟨x, 0, none⟩) := hn.1
      clear hn
      refine wants_plain rfl ?_
      refine grown_run (v := .pointer (some ⟨x, 2, none⟩)) ?_ (Kp.refl _ _) rfl
      obtain ⟨ρ, hρ, hc, hf, hg⟩ := eval_is a
      rw [hρ] at h29 ⊢
      simp [go_sem, h29]
    refine steps_cons (fun a w hk hn => ?_) ?_
    · have h30 : a.eval (.tmp 30) = .pointer (some ⟨x, 2, none⟩) := hn.1
      clear hn
      refine wants_plain rfl ?_
      refine grown_run (v := .pointer (some ⟨pd, 0, none⟩)) ?_ (Kp.refl _ _) rfl
      have hcell : w.cell? ⟨x, 2, none⟩ = some (.pointer (some ⟨pd, 0, none⟩)) := by rw [cell_of_row w x 2 _ _ _ (HWd2.out w hk)]; rfl
      obtain ⟨ρ, hρ, hc, hf, hg⟩ := eval_is a
      rw [hρ] at h30 ⊢
      simp [go_sem, h30, hcell]
    refine steps_cons (fun a w hk hn => ?_) ?_
    · have h3 : a.eval (.tmp 3) = .pointer (some ⟨l, 0, none⟩) := hn.1
      clear hn
      refine wants_plain rfl ?_
      exact grown_move (.tmp 3) rfl h3
    refine steps_cons (fun a w hk hn => ?_) ?_
    · have h0 : a.eval (.tmp 0) = .pointer (some ⟨x, 0, none⟩) := hn.1
      clear hn
      refine wants_plain rfl ?_
      exact grown_move (.tmp 0) rfl h0
    refine steps_cons (fun a w hk hn => ?_) ?_
    · have h33 : a.eval (.tmp 33) = .pointer (some ⟨x, 0, none⟩) := hn.1
      clear hn
      refine wants_plain rfl ?_
      refine grown_run (v := .pointer (some ⟨x, 0, none⟩)) ?_ (Kp.refl _ _) rfl
      obtain ⟨ρ, hρ, hc, hf, hg⟩ := eval_is a
      rw [hρ] at h33 ⊢
      simp [go_sem, h33]
    refine steps_cons (fun a w hk hn => ?_) ?_
    · have h34 : a.eval (.tmp 34) = .pointer (some ⟨x, 0, none⟩) := hn.1
      clear hn
      refine wants_plain rfl ?_
      refine grown_run (v := .pointer (some ⟨x, 5, none⟩)) ?_ (Kp.refl _ _) rfl
      obtain ⟨ρ, hρ, hc, hf, hg⟩ := eval_is a
      rw [hρ] at h34 ⊢
      simp [go_sem, h34]
    refine steps_cons (fun a w hk hn => ?_) ?_
    · have h35 : a.eval (.tmp 35) = .pointer (some ⟨x, 5, none⟩) := hn.1
      clear hn
      refine wants_plain rfl ?_
      refine grown_run (v := .int .i64 r) ?_ (Kp.refl _ _) rfl
      have hcell : w.cell? ⟨x, 5, none⟩ = some (.int .i64 r) := by rw [cell_of_row w x 5 _ _ _ (HWd2.out w hk)]; rfl
      obtain ⟨ρ, hρ, hc, hf, hg⟩ := eval_is a
      rw [hρ] at h35 ⊢
      simp [go_sem, h35, hcell]
    refine steps_cons (fun a w hk hn => ?_) ?_
    · have h0 : a.eval (.tmp 0) = .pointer (some ⟨x, 0, none⟩) := hn.1
      clear hn
      refine wants_plain rfl ?_
      exact grown_move (.tmp 0) rfl h0
    refine steps_cons (fun a w hk hn => ?_) ?_
    · have h37 : a.eval (.tmp 37) = .pointer (some ⟨x, 0, none⟩) := hn.1
      clear hn
      refine wants_plain rfl ?_
      refine grown_run (v := .pointer (some ⟨x, 0, none⟩)) ?_ (Kp.refl _ _) rfl
      obtain ⟨ρ, hρ, hc, hf, hg⟩ := eval_is a
      rw [hρ] at h37 ⊢
      simp [go_sem, h37]
    refine steps_cons (fun a w hk hn => ?_) ?_
    · have h38 : a.eval (.tmp 38) = .pointer (some ⟨x, 0, none⟩) := hn.1
      clear hn
      refine wants_plain rfl ?_
      refine grown_run (v := .pointer (some ⟨x, 6, none⟩)) ?_ (Kp.refl _ _) rfl
      obtain ⟨ρ, hρ, hc, hf, hg⟩ := eval_is a
      rw [hρ] at h38 ⊢
      simp [go_sem, h38]
    refine steps_cons (fun a w hk hn => ?_) ?_
    · have h39 : a.eval (.tmp 39) = .pointer (some ⟨x, 6, none⟩) := hn.1
      clear hn
      refine wants_plain rfl ?_
      refine grown_run (v := .int .i64 s) ?_ (Kp.refl _ _) rfl
      have hcell : w.cell? ⟨x, 6, none⟩ = some (.int .i64 s) := by rw [cell_of_row w x 6 _ _ _ (HWd2.out w hk)]; rfl
      obtain ⟨ρ, hρ, hc, hf, hg⟩ := eval_is a
      rw [hρ] at h39 ⊢
      simp [go_sem, h39, hcell]
    refine steps_cons (fun a w hk hn => ?_) ?_
    · have h0 : a.eval (.tmp 0) = .pointer (some ⟨x, 0, none⟩) := hn.1
      clear hn
      refine wants_plain rfl ?_
      exact grown_move (.tmp 0) rfl h0
    refine steps_cons (fun a w hk hn => ?_) ?_
    · have h41 : a.eval (.tmp 41) = .pointer (some ⟨x, 0, none⟩) := hn.1
      clear hn
      refine wants_plain rfl ?_
      refine grown_run (v := .pointer (some ⟨x, 0, none⟩)) ?_ (Kp.refl _ _) rfl
      obtain ⟨ρ, hρ, hc, hf, hg⟩ := eval_is a
      rw [hρ] at h41 ⊢
      simp [go_sem, h41]
    refine steps_cons (fun a w hk hn => ?_) ?_
    · have h42 : a.eval (.tmp 42) = .pointer (some ⟨x, 0, none⟩) := hn.1
      clear hn
      refine wants_plain rfl ?_
      refine grown_run (v := .pointer (some ⟨x, 7, none⟩)) ?_ (Kp.refl _ _) rfl
      obtain ⟨ρ, hρ, hc, hf, hg⟩ := eval_is a
      rw [hρ] at h42 ⊢
      simp [go_sem, h42]
    refine steps_cons (fun a w hk hn => ?_) ?_
    · have h43 : a.eval (.tmp 43) = .pointer (some ⟨x, 7, none⟩) := hn.1
      clear hn
      refine wants_plain rfl ?_
      refine grown_run (v := .int .i64 t) ?_ (Kp.refl _ _) rfl
      have hcell : w.cell? ⟨x, 7, none⟩ = some (.int .i64 t) := by rw [cell_of_row w x 7 _ _ _ (HWd2.out w hk)]; rfl
      obtain ⟨ρ, hρ, hc, hf, hg⟩ := eval_is a
      rw [hρ] at h43 ⊢
      simp [go_sem, h43, hcell]
    exact trivial
  intro W1 hkW1
  rintro _ rfl
  rintro _ rfl
  rintro _ rfl
  rintro _ rfl
  rintro _ rfl
  rintro _ rfl
  rintro _ rfl
  rintro _ rfl
  rintro _ rfl
  rintro _ rfl
  rintro _ rfl
  rintro _ rfl
  rintro _ rfl
  rintro _ rfl
  rintro _ rfl
  rintro _ rfl
  rintro _ rfl
  refine fin_nil ?_
  simp only [Act.put, List.set_cons_zero, List.set_cons_succ, List.setIfInBounds_toArray]
  refine fun K hK => ?_
  refine wp_callQ rfl Tryz.func12 (by kernel_rfl) (by kernel_rfl) ?_
  simp only [List.map_toArray, List.map_cons, List.map_nil, Act.eval]
  have kD : Kp [] w3 W1 := (kp_drew w3).trans hkW1
  obtain ⟨at3, hop3⟩ := HSo.out.2.2
  have HFo := hide (fopen_ok (r := r) (s := s) (t := t) (HD3.out.kept kD (HD3.out.kp0.trans kD) (by simp)) HSo.out.1 HSo.out.2.1 rfl hop3 HSp.out (List.all_eq_true.2 (fun y hy => (HP.out.ok y hy).1)) (fun y hy => ⟨(HP.out.bs y hy).1, by have := (HP.out.bs y hy).2; omega⟩) (by have := HP.out.len; have := Hk.out; omega) (fun i hi => ⟨(Hrn3.out i hi).1, by have := (Hrn3.out i hi).2; have := kD.size; omega⟩) (HL3.out.on kD) Hap3.out HB.out.1.1 HB.out.1.2 HB.out.2.1.1 HB.out.2.1.2 HB.out.2.2.1 HB.out.2.2.2)
  refine HFo.out.mono ?_
  rintro ee w5 ⟨p, rfl, g5, B5, T5⟩
  refine ⟨_, rfl, hK _ _ ?_⟩
  clear hK K
  refine ⟨[Is (.tuple #[.pointer (some ⟨p, 0, none⟩), .int .i64 0]), Is (.pointer (some ⟨p, 0, none⟩)), Is (.int .i64 0), Is (.pointer (some ⟨p, 0, none⟩)), Is (.int .i64 0)], ?_, ?_, fun w6 hk6 => ?_⟩
  · simp only [List.mem_cons, List.not_mem_nil, or_false]
    intro R hR
    rcases hR with rfl | rfl | rfl | rfl | rfl <;> exact stable_is _
  · simp only [List.drop_succ_cons, List.drop_zero]
    refine steps_cons (fun a w hk hn => ?_) ?_
    · have h45 : a.eval (.tmp 45) = .tuple #[.pointer (some ⟨p, 0, none⟩), .int .i64 0] := hn.1
      clear hn
      refine wants_plain rfl ?_
      exact grown_move (.tmp 45) rfl h45
    refine steps_cons (fun a w hk hn => ?_) ?_
    · have h27 : a.eval (.tmp 27) = .tuple #[.pointer (some ⟨p, 0, none⟩), .int .i64 0] := hn.1
      clear hn
      refine wants_plain rfl ?_
      refine grown_run (v := .pointer (some ⟨p, 0, none⟩)) ?_ (Kp.refl _ _) rfl
      obtain ⟨ρ, hρ, hc, hf, hg⟩ := eval_is a
      rw [hρ] at h27 ⊢
      simp [go_sem, h27]
    refine steps_cons (fun a w hk hn => ?_) ?_
    · have h27 : a.eval (.tmp 27) = .tuple #[.pointer (some ⟨p, 0, none⟩), .int .i64 0] := hn.1
      clear hn
      refine wants_plain rfl ?_
      refine grown_run (v := .int .i64 0) ?_ (Kp.refl _ _) rfl
      obtain ⟨ρ, hρ, hc, hf, hg⟩ := eval_is a
      rw [hρ] at h27 ⊢
      simp [go_sem, h27]
    refine steps_cons (fun a w hk hn => ?_) ?_
    · have h46 : a.eval (.tmp 46) = .pointer (some ⟨p, 0, none⟩) := hn.1
      clear hn
      refine wants_plain rfl ?_
      exact grown_assign (.tmp 46) rfl h46
    refine steps_cons (fun a w hk hn => ?_) ?_
    · have h47 : a.eval (.tmp 47) = .int .i64 0 := hn.1
      clear hn
      refine wants_plain rfl ?_
      exact grown_assign (.tmp 47) rfl h47
    exact trivial
  simp only [List.drop_succ_cons, List.drop_zero]
  rintro _ rfl
  rintro _ rfl
  rintro _ rfl
  rintro _ rfl
  rintro _ rfl
  refine fin_nil ?_
  simp only [Act.put, List.set_cons_zero, List.set_cons_succ, List.setIfInBounds_toArray]
  have hT6 : Stp (fun i => F i ∨ f2.tot i) w3 w6 (two2 g5 f2) := ((Stp.mid kD).trans T5).trans (Stp.mid hk6)
  have hW6 := (show Wd w5 x vf vl (.pointer (some ⟨pd, 0, none⟩)) (.pointer (some ⟨pl, 0, none⟩)) (.pointer (some ⟨pk, 0, none⟩)) r s t vw (.slice ra nr rcp) vq from T5.heap (HWd2.out W1 hkW1) Hnx3.out).kept hk6 (by simp)
  have HX2 : Hid (¬ two2 g5 f2 x) := hide (hT6.off Hx3.out Hnx3.out)
  have HB6 := hide (B5.on hk6)
  have HLw6 := hide (HLw3.out.fstep hT6)
  have hc0 := hW6.c0
  have hf0 := hW6.f 0
  have hW7 := hW6.s0 (.pointer (some ⟨p, 0, none⟩))
  have hc1 := hW7.c1
  have hf1 := hW7.f 1
  have hW8 := hW7.s1 (.pointer (some ⟨l, 0, none⟩))
  have hc10 := hW8.c10
  have hf10 := hW8.f 10
  have hW9 := hW8.s10 (.slice none 0 0)
  obtain ⟨w9, hw9⟩ : ∃ y, y = ((w6.setCell ⟨x, 0, none⟩ (.pointer (some ⟨p, 0, none⟩))).setCell ⟨x, 1, none⟩ (.pointer (some ⟨l, 0, none⟩))).setCell ⟨x, 10, none⟩ (.slice none 0 0) := ⟨_, rfl⟩
  have Hw9 := hide hw9
  have kx : Kp [x] w6 w9 := by rw [hw9]; exact ((kp_set w6 x 0 _).trans (kp_set _ x 1 _)).trans (kp_set _ x 10 _)
  have HB9 : Hid (Bo w0 w9 p l pd pl pk ⟨r, s, t, (lackP L.its S.rc).map evr, S.rc, dkOn (layP S.rc), S.rc.length⟩ ⟨L.its, 0, seedX 0, none, L.dd, dkOn [], rs.length, 0⟩ g5 f2) := hide (HB6.out.beside kx (fun i hi => by
    obtain rfl : i = x := by simpa using hi
    exact ⟨Hx0.out, HX2.out⟩))
  have HL9 : Hid (Lw w0 w9 (two2 g5 f2) x pw vi li (.slice ra nr rcp) lr (.slice none 0 0) []) := hide (HLw6.out.setq kx (RefQ.nil _) (fun k hk => by cases hk))
  have HW9 : Hid (Wd w9 x (.pointer (some ⟨p, 0, none⟩)) (.pointer (some ⟨l, 0, none⟩)) (.pointer (some ⟨pd, 0, none⟩)) (.pointer (some ⟨pl, 0, none⟩)) (.pointer (some ⟨pk, 0, none⟩)) r s t (.pointer (some ⟨pw, 0, none⟩)) (.slice ra nr rcp) (.slice none 0 0)) := hide (by rw [hw9, ← Hvw.out]; exact hW9)
  have HPn := hide (HP.out.again rs.length HRs.out.2.2.2 (seedX 0) L.dd rfl (dkOn []) HP.out.dk.symm)
  have Hx9 : Hid (x < w9.heap.size) := hide HW9.out.lt
  have Hp9 : Hid (w0.heap.size ≤ w9.heap.size) := hide HB9.out.kp.size
  clear hW6 hT6 hW7 hW8 hW9 hw9 kx kD hkW1 B5 T5 hk6 HFo HWd2 HL3 HLw3 HD3 Hap3 Hrn3 Hnx3 Hx3 HB6 HLw6
  refine hide ?_
  go_upto_region 9 with fail
  rw [← Hw9.out]
  clear Hw9 hc0 hf0 hc1 hf1 hc10 hf10
  have HI : Hid (∃ (qa : Option Addr) (qn qc : Nat), RowQ2 w9 w9.heap.size (.slice qa qn qc) (tqA L.its.length 0) ∧ Wd w9 x (.pointer (some ⟨p, 0, none⟩)) (.pointer (some ⟨l, 0, none⟩)) (.pointer (some ⟨pd, 0, none⟩)) (.pointer (some ⟨pl, 0, none⟩)) (.pointer (some ⟨pk, 0, none⟩)) r s t (.pointer (some ⟨pw, 0, none⟩)) (.slice ra nr rcp) (.slice qa qn qc) ∧ Lw w0 w9 (two2 g5 f2) x pw vi li (.slice ra nr rcp) lr (.slice none 0 0) [] ∧ Bo w0 w9 p l pd pl pk ⟨r, s, t, (lackP L.its S.rc).map evr, S.rc, dkOn (layP S.rc), S.rc.length⟩ ⟨L.its, 0, seedX 0, none, L.dd, dkOn [], rs.length, 0⟩ g5 f2 ∧ w9.heap.size ≤ w9.heap.size) := hide ⟨none, 0, 0, (by
    have e : tqA L.its.length 0 = [] := by simp [tqA]
    rw [e]
    exact ⟨rfl, .inl ⟨rfl, rfl⟩⟩), HW9.out, HL9.out, HB9.out, Nat.le_refl _⟩
  go_wp2_with fail
  go_loopw [7] (fun i wr => ∃ j : Nat, j ≤ nr ∧ i = .int .i64 j ∧ ∃ (qa : Option Addr) (qn qc : Nat), RowQ2 wr w9.heap.size (.slice qa qn qc) (tqA L.its.length j) ∧ Wd wr x (.pointer (some ⟨p, 0, none⟩)) (.pointer (some ⟨l, 0, none⟩)) (.pointer (some ⟨pd, 0, none⟩)) (.pointer (some ⟨pl, 0, none⟩)) (.pointer (some ⟨pk, 0, none⟩)) r s t (.pointer (some ⟨pw, 0, none⟩)) (.slice ra nr rcp) (.slice qa qn qc) ∧ Lw w0 wr (two2 g5 f2) x pw vi li (.slice ra nr rcp) lr (.slice none 0 0) [] ∧ Bo w0 wr p l pd pl pk ⟨r, s, t, (lackP L.its S.rc).map evr, S.rc, dkOn (layP S.rc), S.rc.length⟩ ⟨L.its, 0, seedX 0, none, L.dd, dkOn [], rs.length, 0⟩ g5 f2 ∧ w9.heap.size ≤ wr.heap.size) (fun i _ => nr - (intOf i).toNat)
  case atStart => exact ⟨0, by omega, rfl, HI.out⟩
  case round =>
    clear HI
    obtain ⟨j, hj, rfl, qa, qn, qc, hRq, hWr, hLr, hBr, hsr⟩ := hrel
    have HRq := hide hRq
    have HLr := hide hLr
    have HBr := hide hBr
    have Hsr := hide hsr
    have c9 := hWr.c9
    by_cases hjn : j < nr
    · have hjn' : (j : Int) < (nr : Int) := by omega
      have hdj : decide ((j : Int) < (nr : Int)) = true := decide_eq_true hjn'
      have HJn := hide hjn'
      have hj40 : j ≤ 40 := by have := HNi.out.2; omega
      have hjl : j < lr.length := by have := congrArg List.length Hrc.out; rw [List.length_map] at this; have := Hnr.out; omega
      have hjc : j < S.rc.length := by rw [← Hnr.out]; exact hjn
      obtain ⟨gr, hgr, hcr⟩ := hLr.alr.row.1.1.at j (by rw [List.length_map]; exact hjl)
      subst hgr
      rw [List.getElem_map] at hcr
      obtain ⟨hSn, hBn, -⟩ := hLr.alr.row.1.2 _ (List.getElem_mem hjl)
      have hrn : lr[j].2 = S.rc[j] := by
        have h1 : (lr.map (·.2))[j]'(by rw [List.length_map]; exact hjl) = S.rc[j] := by simp only [Hrc.out]
        rw [← h1, List.getElem_map]
      obtain ⟨bb, hbb⟩ : ∃ b, b = S.rc[j] := ⟨_, rfl⟩
      rw [hrn, ← hbb] at hSn hBn
      obtain ⟨hin1, hin2⟩ := HP.out.isIn j hjc
      rw [← hbb] at hin1 hin2
      obtain ⟨ax, cx, evx, -⟩ := id hSn
      obtain ⟨nx, hnx⟩ : ∃ k, k = bb.length := ⟨_, rfl⟩
      rw [← hnx] at evx
      rw [evx] at hSn hcr
      have HWr : Hid (∀ w', Kp [] wr.drew w' → Wd w' x (.pointer (some ⟨p, 0, none⟩)) (.pointer (some ⟨l, 0, none⟩)) (.pointer (some ⟨pd, 0, none⟩)) (.pointer (some ⟨pl, 0, none⟩)) (.pointer (some ⟨pk, 0, none⟩)) r s t (.pointer (some ⟨pw, 0, none⟩)) (.slice (some ⟨gr, 0, none⟩) nr rcp) (.slice qa qn qc)) := hide (fun w' k' => hWr.kept ((kp_drew wr).trans k') (by simp))
      have HRc : Hid (∀ w', Kp [] wr.drew w' → w'.cell? ⟨gr, j, none⟩ = some (.slice ax nx cx)) := hide (fun w' k' => ((kp_drew wr).trans k').cell hcr (by simp))
      obtain ⟨fd, hfd⟩ : ∃ f, f = fdU L.its bb := ⟨_, rfl⟩
      have HFi : Hid (∀ w', Kp [] wr.drew w' → Calls Tryz.prog 82 #[.pointer (some ⟨pw, 0, none⟩), .slice ax nx cx] w' fun e w2 => e = .returned (.int .i64 fd) ∧ Kp [] w' w2) := hide (fun w' k' => by
        have k2 : Kp [] wr w' := (kp_drew wr).trans k'
        have hli : li.length ≤ 1000000 := by have := congrArg List.length Hits.out; rw [List.length_map] at this; have := HNi.out.1; omega
        exact rfind_any pw vi li (.slice ax nx cx) bb fd w' (HLr.out.on k2).led.c0 ((HLr.out.on k2).ali.row.lists hli) (hSn.kept k2 (by simp)) hBn (by omega) (by rw [Hits.out]; exact hfd))
      by_cases hlow : j < L.its.length
      · have HFd : Hid (¬ fd < 0) := hide (by rw [hfd, fdU_in (hin1 hlow)]; omega)
        have Hlow := hide hlow
        clear hRq hWr hLr hBr hsr hjl hjc hcr hSn hBn hrn hbb hin1 hin2 evx hnx hfd
        go_wp2_with fail
        refine region_grow Tryz.mixed [Is (.pointer (some ⟨x, 0, none⟩)), Is (.pointer (some ⟨x, 0, none⟩)), Is (.pointer (some ⟨x, 8, none⟩)), Is (.pointer (some ⟨pw, 0, none⟩)), Is (.pointer (some ⟨x, 0, none⟩)), Is (.pointer (some ⟨x, 0, none⟩)), Is (.pointer (some ⟨x, 9, none⟩)), Is (.slice (some ⟨gr, 0, none⟩) nr rcp), Is (.int .i64 (j : Nat)), Is (.pointer (some ⟨gr, j, none⟩)), Is (.slice ax nx cx), Is (.int .i64 fd), Is (.bool false)] [[(0, none)], [(74, some 0)], [(75, some 1)], [(76, some 2)], [(0, none)], [(78, some 4)], [(79, some 5)], [(80, some 6)], [(7, none)], [(81, some 7), (82, some 8)], [(83, some 9)], [(77, some 3), (84, some 10)], [(85, some 11)]] (by kernel_rfl) ?_ ?_ ?_
        · simp only [List.mem_cons, List.not_mem_nil, or_false]
          intro R hR
          rcases hR with rfl | rfl | rfl | rfl | rfl | rfl | rfl | rfl | rfl | rfl | rfl | rfl | rfl <;> first | exact stable_is _
        · refine steps_cons (fun a w hk hn => ?_) ?_
          · have h0 : a.eval (.tmp 0) = .pointer (some ⟨x, 0, none⟩) := hn.1
            clear hn
            refine wants_plain rfl ?_
            exact grown_move (.tmp 0) rfl h0
          refine steps_cons (fun a w hk hn => ?_) ?_
          · have h74 : a.eval (.tmp 74) = .pointer (some ⟨x, 0, none⟩) := hn.1
            clear hn
            refine wants_plain rfl ?_
            refine grown_run (v := .pointer (some ⟨x, 0, none⟩)) ?_ (Kp.refl _ _) rfl
            obtain ⟨ρ, hρ, hc, hf, hg⟩ := eval_is a
            rw [hρ] at h74 ⊢
            simp [go_sem, h74]
          refine steps_cons (fun a w hk hn => ?_) ?_
          · have h75 : a.eval (.tmp 75) = .pointer (some ⟨x, 0, none⟩) := hn.1
            clear hn
            refine wants_plain rfl ?_
            refine grown_run (v := .pointer (some ⟨x, 8, none⟩)) ?_ (Kp.refl _ _) rfl
            obtain ⟨ρ, hρ, hc, hf, hg⟩ := eval_is a
            rw [hρ] at h75 ⊢
            simp [go_sem, h75]
          refine steps_cons (fun a w hk hn => ?_) ?_
          · have h76 : a.eval (.tmp 76) = .pointer (some ⟨x, 8, none⟩) := hn.1
            clear hn
            refine wants_plain rfl ?_
            refine grown_run (v := .pointer (some ⟨pw, 0, none⟩)) ?_ (Kp.refl _ _) rfl
            have hcell : w.cell? ⟨x, 8, none⟩ = some (.pointer (some ⟨pw, 0, none⟩)) := by rw [cell_of_row w x 8 _ _ _ (HWr.out w hk)]; rfl
            obtain ⟨ρ, hρ, hc, hf, hg⟩ := eval_is a
            rw [hρ] at h76 ⊢
            simp [go_sem, h76, hcell]
          refine steps_cons (fun a w hk hn => ?_) ?_
          · have h0 : a.eval (.tmp 0) = .pointer (some ⟨x, 0, none⟩) := hn.1
            clear hn
            refine wants_plain rfl ?_
            exact grown_move (.tmp 0) rfl h0
          refine steps_cons (fun a w hk hn => ?_) ?_
          · have h78 : a.eval (.tmp 78) = .pointer (some ⟨x, 0, none⟩) := hn.1
            clear hn
            refine wants_plain rfl ?_
            refine grown_run (v := .pointer (some ⟨x, 0, none⟩)) ?_ (Kp.refl _ _) rfl
            obtain ⟨ρ, hρ, hc, hf, hg⟩ := eval_is a
            rw [hρ] at h78 ⊢
            simp [go_sem, h78]
          refine steps_cons (fun a w hk hn => ?_) ?_
          · have h79 : a.eval (.tmp 79) = .pointer (some ⟨x, 0, none⟩) := hn.1
            clear hn
            refine wants_plain rfl ?_
            refine grown_run (v := .pointer (some ⟨x, 9, none⟩)) ?_ (Kp.refl _ _) rfl
            obtain ⟨ρ, hρ, hc, hf, hg⟩ := eval_is a
            rw [hρ] at h79 ⊢
            simp [go_sem, h79]
          refine steps_cons (fun a w hk hn => ?_) ?_
          · have h80 : a.eval (.tmp 80) = .pointer (some ⟨x, 9, none⟩) := hn.1
            clear hn
            refine wants_plain rfl ?_
            refine grown_run (v := .slice (some ⟨gr, 0, none⟩) nr rcp) ?_ (Kp.refl _ _) rfl
            have hcell : w.cell? ⟨x, 9, none⟩ = some (.slice (some ⟨gr, 0, none⟩) nr rcp) := by rw [cell_of_row w x 9 _ _ _ (HWr.out w hk)]; rfl
            obtain ⟨ρ, hρ, hc, hf, hg⟩ := eval_is a
            rw [hρ] at h80 ⊢
            simp [go_sem, h80, hcell]
          refine steps_cons (fun a w hk hn => ?_) ?_
          · have h7 : a.eval (.tmp 7) = .int .i64 (j : Nat) := hn.1
            clear hn
            refine wants_plain rfl ?_
            exact grown_move (.tmp 7) rfl h7
          refine steps_cons (fun a w hk hn => ?_) ?_
          · have h81 : a.eval (.tmp 81) = .slice (some ⟨gr, 0, none⟩) nr rcp := hn.1
            have h82 : a.eval (.tmp 82) = .int .i64 (j : Nat) := hn.2.1
            clear hn
            refine wants_plain rfl ?_
            refine grown_run (v := .pointer (some ⟨gr, j, none⟩)) ?_ (Kp.refl _ _) rfl
            have hin := HJn.out
            obtain ⟨ρ, hρ, hc, hf, hg⟩ := eval_is a
            rw [hρ] at h81 h82 ⊢
            simp [go_sem, h81, h82, hin]
          refine steps_cons (fun a w hk hn => ?_) ?_
          · have h83 : a.eval (.tmp 83) = .pointer (some ⟨gr, j, none⟩) := hn.1
            clear hn
            refine wants_plain rfl ?_
            refine grown_run (v := .slice ax nx cx) ?_ (Kp.refl _ _) rfl
            have hcell := HRc.out w hk
            obtain ⟨ρ, hρ, hc, hf, hg⟩ := eval_is a
            rw [hρ] at h83 ⊢
            simp [go_sem, h83, hcell]
          refine steps_cons (fun a w hk hn => ?_) ?_
          · have h77 : a.eval (.tmp 77) = .pointer (some ⟨pw, 0, none⟩) := hn.1
            have h84 : a.eval (.tmp 84) = .slice ax nx cx := hn.2.1
            clear hn
            refine wants_plain rfl ?_
            refine grown_call (f := 82) rfl Tryz.func82 (by kernel_rfl) (by kernel_rfl) ?_
            simp only [List.map_toArray, List.map_cons, List.map_nil, h77, h84]
            refine (HFi.out w hk).mono ?_
            rintro e w' ⟨rfl, K⟩
            exact ⟨_, rfl, K, rfl⟩
          refine steps_cons (fun a w hk hn => ?_) ?_
          · have h85 : a.eval (.tmp 85) = .int .i64 fd := hn.1
            clear hn
            refine wants_plain rfl ?_
            refine grown_run (v := .bool false) ?_ (Kp.refl _ _) rfl
            have hlt := HFd.out
            obtain ⟨ρ, hρ, hc, hf, hg⟩ := eval_is a
            rw [hρ] at h85 ⊢
            simp [go_sem, h85, hc, hlt]
          exact trivial
        intro W1 hkW1
        rintro _ rfl
        rintro _ rfl
        rintro _ rfl
        rintro _ rfl
        rintro _ rfl
        rintro _ rfl
        rintro _ rfl
        rintro _ rfl
        rintro _ rfl
        rintro _ rfl
        rintro _ rfl
        rintro _ rfl
        rintro _ rfl
        refine fin_nil ?_
        simp only [Act.put, List.set_cons_zero, List.set_cons_succ, List.setIfInBounds_toArray]
        have HK1 := hide ((kp_drew wr).trans hkW1)
        have HWn := hide (HWr.out W1 hkW1)
        clear hkW1 HWr HRc HFi c9
        go_wp2_with fail
        go_roundw
        case rel => exact ⟨j + 1, by omega, by go_num, qa, qn, qc, by rw [tqA_low Hlow.out]; exact HRq.out.kept HK1.out (by simp), HWn.out, HLr.out.on HK1.out, HBr.out.on HK1.out, Nat.le_trans Hsr.out HK1.out.size⟩
        case measure => simp [intOf]; omega
      · have hup : L.its.length ≤ j := by omega
        have HFd : Hid (fd < 0) := hide (by rw [hfd, fdU_out (hin2 hup)]; omega)
        have Hup := hide hup
        clear hRq hWr hLr hBr hsr hjl hjc hcr hSn hBn hrn hbb hin1 hin2 evx hnx hfd
        go_wp2_with fail
        refine region_grow Tryz.mixed [Is (.pointer (some ⟨x, 0, none⟩)), Is (.pointer (some ⟨x, 0, none⟩)), Is (.pointer (some ⟨x, 8, none⟩)), Is (.pointer (some ⟨pw, 0, none⟩)), Is (.pointer (some ⟨x, 0, none⟩)), Is (.pointer (some ⟨x, 0, none⟩)), Is (.pointer (some ⟨x, 9, none⟩)), Is (.slice (some ⟨gr, 0, none⟩) nr rcp), Is (.int .i64 (j : Nat)), Is (.pointer (some ⟨gr, j, none⟩)), Is (.slice ax nx cx), Is (.int .i64 fd), Is (.bool true)] [[(0, none)], [(74, some 0)], [(75, some 1)], [(76, some 2)], [(0, none)], [(78, some 4)], [(79, some 5)], [(80, some 6)], [(7, none)], [(81, some 7), (82, some 8)], [(83, some 9)], [(77, some 3), (84, some 10)], [(85, some 11)]] (by kernel_rfl) ?_ ?_ ?_
        · simp only [List.mem_cons, List.not_mem_nil, or_false]
          intro R hR
          rcases hR with rfl | rfl | rfl | rfl | rfl | rfl | rfl | rfl | rfl | rfl | rfl | rfl | rfl <;> first | exact stable_is _
        · refine steps_cons (fun a w hk hn => ?_) ?_
          · have h0 : a.eval (.tmp 0) = .pointer (some ⟨x, 0, none⟩) := hn.1
            clear hn
            refine wants_plain rfl ?_
            exact grown_move (.tmp 0) rfl h0
          refine steps_cons (fun a w hk hn => ?_) ?_
          · have h74 : a.eval (.tmp 74) = .pointer (some ⟨x, 0, none⟩) := hn.1
            clear hn
            refine wants_plain rfl ?_
            refine grown_run (v := .pointer (some ⟨x, 0, none⟩)) ?_ (Kp.refl _ _) rfl
            obtain ⟨ρ, hρ, hc, hf, hg⟩ := eval_is a
            rw [hρ] at h74 ⊢
            simp [go_sem, h74]
          refine steps_cons (fun a w hk hn => ?_) ?_
          · have h75 : a.eval (.tmp 75) = .pointer (some ⟨x, 0, none⟩) := hn.1
            clear hn
            refine wants_plain rfl ?_
            refine grown_run (v := .pointer (some ⟨x, 8, none⟩)) ?_ (Kp.refl _ _) rfl
            obtain ⟨ρ, hρ, hc, hf, hg⟩ := eval_is a
            rw [hρ] at h75 ⊢
            simp [go_sem, h75]
          refine steps_cons (fun a w hk hn => ?_) ?_
          · have h76 : a.eval (.tmp 76) = .pointer (some ⟨x, 8, none⟩) := hn.1
            clear hn
            refine wants_plain rfl ?_
            refine grown_run (v := .pointer (some ⟨pw, 0, none⟩)) ?_ (Kp.refl _ _) rfl
            have hcell : w.cell? ⟨x, 8, none⟩ = some (.pointer (some ⟨pw, 0, none⟩)) := by rw [cell_of_row w x 8 _ _ _ (HWr.out w hk)]; rfl
            obtain ⟨ρ, hρ, hc, hf, hg⟩ := eval_is a
            rw [hρ] at h76 ⊢
            simp [go_sem, h76, hcell]
          refine steps_cons (fun a w hk hn => ?_) ?_
          · have h0 : a.eval (.tmp 0) = .pointer (some ⟨x, 0, none⟩) := hn.1
            clear hn
            refine wants_plain rfl ?_
            exact grown_move (.tmp 0) rfl h0
          refine steps_cons (fun a w hk hn => ?_) ?_
          · have h78 : a.eval (.tmp 78) = .pointer (some ⟨x, 0, none⟩) := hn.1
            clear hn
            refine wants_plain rfl ?_
            refine grown_run (v := .pointer (some ⟨x, 0, none⟩)) ?_ (Kp.refl _ _) rfl
            obtain ⟨ρ, hρ, hc, hf, hg⟩ := eval_is a
            rw [hρ] at h78 ⊢
            simp [go_sem, h78]
          refine steps_cons (fun a w hk hn => ?_) ?_
          · have h79 : a.eval (.tmp 79) = .pointer (some ⟨x, 0, none⟩) := hn.1
            clear hn
            refine wants_plain rfl ?_
            refine grown_run (v := .pointer (some ⟨x, 9, none⟩)) ?_ (Kp.refl _ _) rfl
            obtain ⟨ρ, hρ, hc, hf, hg⟩ := eval_is a
            rw [hρ] at h79 ⊢
            simp [go_sem, h79]
          refine steps_cons (fun a w hk hn => ?_) ?_
          · have h80 : a.eval (.tmp 80) = .pointer (some ⟨x, 9, none⟩) := hn.1
            clear hn
            refine wants_plain rfl ?_
            refine grown_run (v := .slice (some ⟨gr, 0, none⟩) nr rcp) ?_ (Kp.refl _ _) rfl
            have hcell : w.cell? ⟨x, 9, none⟩ = some (.slice (some ⟨gr, 0, none⟩) nr rcp) := by rw [cell_of_row w x 9 _ _ _ (HWr.out w hk)]; rfl
            obtain ⟨ρ, hρ, hc, hf, hg⟩ := eval_is a
            rw [hρ] at h80 ⊢
            simp [go_sem, h80, hcell]
          refine steps_cons (fun a w hk hn => ?_) ?_
          · have h7 : a.eval (.tmp 7) = .int .i64 (j : Nat) := hn.1
            clear hn
            refine wants_plain rfl ?_
            exact grown_move (.tmp 7) rfl h7
          refine steps_cons (fun a w hk hn => ?_) ?_
          · have h81 : a.eval (.tmp 81) = .slice (some ⟨gr, 0, none⟩) nr rcp := hn.1
            have h82 : a.eval (.tmp 82) = .int .i64 (j : Nat) := hn.2.1
            clear hn
            refine wants_plain rfl ?_
            refine grown_run (v := .pointer (some ⟨gr, j, none⟩)) ?_ (Kp.refl _ _) rfl
            have hin := HJn.out
            obtain ⟨ρ, hρ, hc, hf, hg⟩ := eval_is a
            rw [hρ] at h81 h82 ⊢
            simp [go_sem, h81, h82, hin]
          refine steps_cons (fun a w hk hn => ?_) ?_
          · have h83 : a.eval (.tmp 83) = .pointer (some ⟨gr, j, none⟩) := hn.1
            clear hn
            refine wants_plain rfl ?_
            refine grown_run (v := .slice ax nx cx) ?_ (Kp.refl _ _) rfl
            have hcell := HRc.out w hk
            obtain ⟨ρ, hρ, hc, hf, hg⟩ := eval_is a
            rw [hρ] at h83 ⊢
            simp [go_sem, h83, hcell]
          refine steps_cons (fun a w hk hn => ?_) ?_
          · have h77 : a.eval (.tmp 77) = .pointer (some ⟨pw, 0, none⟩) := hn.1
            have h84 : a.eval (.tmp 84) = .slice ax nx cx := hn.2.1
            clear hn
            refine wants_plain rfl ?_
            refine grown_call (f := 82) rfl Tryz.func82 (by kernel_rfl) (by kernel_rfl) ?_
            simp only [List.map_toArray, List.map_cons, List.map_nil, h77, h84]
            refine (HFi.out w hk).mono ?_
            rintro e w' ⟨rfl, K⟩
            exact ⟨_, rfl, K, rfl⟩
          refine steps_cons (fun a w hk hn => ?_) ?_
          · have h85 : a.eval (.tmp 85) = .int .i64 fd := hn.1
            clear hn
            refine wants_plain rfl ?_
            refine grown_run (v := .bool true) ?_ (Kp.refl _ _) rfl
            have hlt := HFd.out
            obtain ⟨ρ, hρ, hc, hf, hg⟩ := eval_is a
            rw [hρ] at h85 ⊢
            simp [go_sem, h85, hc, hlt]
          exact trivial
        intro W1 hkW1
        rintro _ rfl
        rintro _ rfl
        rintro _ rfl
        rintro _ rfl
        rintro _ rfl
        rintro _ rfl
        rintro _ rfl
        rintro _ rfl
        rintro _ rfl
        rintro _ rfl
        rintro _ rfl
        rintro _ rfl
        rintro _ rfl
        refine fin_nil ?_
        simp only [Act.put, List.set_cons_zero, List.set_cons_succ, List.setIfInBounds_toArray]
        have K1 : Kp [] wr W1 := (kp_drew wr).trans hkW1
        have HWn := hide (HWr.out W1 hkW1)
        have HR1 := hide (HRq.out.kept K1 (by simp))
        have HL1 := hide (HLr.out.on K1)
        have HB1 := hide (HBr.out.on K1)
        have Hs1 : Hid (w9.heap.size ≤ W1.heap.size) := hide (Nat.le_trans Hsr.out K1.size)
        have hc9 := HWn.out.c10
        have ka : Kp [] W1 (W1.alloc (.cells #[.int .i64 (j : Int), .int .i64 (-1125899906842624)] TyQ)) := (Kp.refl [] W1).alloc _
        have HRa := hide (HR1.out.kept ka (by simp))
        have hqlen : (tqA L.its.length j).length + [((j : Int), (-1125899906842624 : Int))].length ≤ 1000000 := by rw [tqA_len]; simp; omega
        have hsa : w9.heap.size ≤ (W1.alloc (.cells #[.int .i64 (j : Int), .int .i64 (-1125899906842624)] TyQ)).heap.size := Nat.le_trans Hs1.out ka.size
        have Hka := hide ka
        clear K1 hkW1 HWr HRc HFi c9 ka HRq HLr HBr Hsr
        go_wp2_with (at_builtin; refine wpList_appQ rfl (.tmp 91) (.tmp 94) rfl (.slice qa qn qc) (tqA L.its.length j) rfl HRa.out _ [((j : Int), (-1125899906842624 : Int))] rfl (refQ_one W1 _ _) hqlen hsa ?_; intro a8 m8 c8 w8 R8 S8; refine Hid.out ?_)
        have hal : ∀ i, (Value.slice qa qn qc).ownBlock = some i → w9.heap.size ≤ i := fun i hi => (HRa.out.lt i hi).1
        have hmq : ∀ i ∈ (Value.slice qa qn qc).ownBlock.toList, w9.heap.size ≤ i := fun i hi => hal i (by simpa [Option.mem_toList] using hi)
        have hL8 : Lw w0 w8 (two2 g5 f2) x pw vi li (.slice (some ⟨gr, 0, none⟩) nr rcp) lr (.slice none 0 0) [] := (HL1.out.on Hka.out).aside S8.1 (fun hm => by
          have h1 := hmq pw hm
          have h2 := HL9.out.led.lt
          omega) (fun i hi hm => by
          have h1 := hmq i hm
          rcases hi with e | e | e
          · have := (HL9.out.ali.own i e).1; omega
          · have := (HL9.out.alr.own i e).1; omega
          · cases e) (fun y hy i hi hm => by
          have h1 := hmq i hm
          have := (HL9.out.ali.its y hy i hi).1
          omega) (fun y hy i hi hm => by
          have h1 := hmq i hm
          have := (HL9.out.alr.its y hy i hi).1
          omega)
        have hB8 := (HB1.out.on Hka.out).beside S8.1 (fun i hi => ⟨by have h1 := hmq i hi; have := Hp9.out; omega, fun e => by
          have h1 := hmq i hi
          have := (HB9.out.lt i e).2
          omega⟩)
        have hW8 := (HWn.out.kept Hka.out (by simp)).kept S8.1 (fun hm => by
          have h1 := hmq x hm
          have := Hx9.out
          omega)
        have hc8 := hW8.c10
        have hf8 := hW8.f 10
        obtain ⟨wz, hwz⟩ : ∃ y, y = w8.setCell ⟨x, 10, none⟩ (.slice a8 m8 c8) := ⟨_, rfl⟩
        have Hwz := hide hwz
        have kz : Kp [x] w8 wz := by rw [hwz]; exact kp_set w8 x 10 _
        have HWz : Hid (Wd wz x (.pointer (some ⟨p, 0, none⟩)) (.pointer (some ⟨l, 0, none⟩)) (.pointer (some ⟨pd, 0, none⟩)) (.pointer (some ⟨pl, 0, none⟩)) (.pointer (some ⟨pk, 0, none⟩)) r s t (.pointer (some ⟨pw, 0, none⟩)) (.slice (some ⟨gr, 0, none⟩) nr rcp) (.slice a8 m8 c8)) := hide (by rw [hwz]; exact hW8.s10 _)
        have HLz := hide (hL8.setq kz (RefQ.nil _) (fun k hk => by cases hk))
        have HBz := hide (hB8.beside kz (fun i hi => by
          obtain rfl : i = x := by simpa using hi
          exact ⟨Hx0.out, HX2.out⟩))
        have HRz : Hid (RowQ2 wz w9.heap.size (.slice a8 m8 c8) (tqA L.its.length (j + 1))) := hide (by
          rw [tqA_up Hup.out]
          exact R8.kept kz (fun i hi hm => by
            have h1 := (R8.lt i hi).1
            have h2 : i = x := by simpa using hm
            have := Hx9.out
            omega))
        have Hsz : Hid (w9.heap.size ≤ wz.heap.size) := hide (Nat.le_trans hsa (Nat.le_trans S8.1.size kz.size))
        clear hal hmq hL8 hB8 hW8 hwz kz R8 S8 HWn HR1 HL1 HB1 Hs1 hc9 HRa hsa Hka hqlen
        refine hide ?_
        go_wp2_with fail
        rw [← Hwz.out]
        go_roundw
        case rel => exact ⟨j + 1, by omega, by go_num, a8, m8, c8, HRz.out, HWz.out, HLz.out, HBz.out, Hsz.out⟩
        case measure => simp [intOf]; omega
    · have hdj : decide ((j : Int) < (nr : Int)) = false := decide_eq_false (by omega)
      have hjj : j = nr := by omega
      subst hjj
      have htq : tqA L.its.length j = tqP L.its.length ((lackP L.its S.rc).map evr) := by
        rw [tqP_evr, tqA, HP.out.lack]
        have h1 := HP.out.il
        have h2 := Hnr.out
        rw [show j - L.its.length = (S.ms.map It.bs).length by rw [List.length_map]; omega]
      have hLq := hLr.setq (Kp.refl [x] wr) hRq.ref (fun i hi => by
        obtain ⟨h1, h2⟩ := hRq.lt i hi
        have h9 := Hp9.out
        refine ⟨by omega, h2, fun e => ?_⟩
        rcases e with (e | e) | e | e | e
        · have := (HB9.out.lt i e).2; omega
        · rw [e] at h1; have := Hx9.out; omega
        · rw [e] at h1; have := HL9.out.led.lt; omega
        · have := (HL9.out.ali.own i e).1; omega
        · have := (HL9.out.alr.own i e).1; omega)
      rw [htq] at hLq
      have HLq := hide hLq
      have HWr := hide hWr
      clear hRq hWr hLr hBr hsr hLq htq
      go_wp2_with fail
      go_ret
      exact ⟨rfl, p, l, g5, f2, _, _, _, HBr.out, HWr.out, HX2.out, HLq.out, HPn.out, rfl, rfl⟩
end
end Go.Proofs.YteabdojjllfcpaaGreat

/-
  What is no manifest, wherever its bytes lie: Decode of nothing, Submit and the law's own answer.
-/
namespace Go.Proofs.YteabdojjllfcpaaGreat
open Go.RowKit
open Go.Proofs
set_option linter.unusedVariables false
/-- a reference reader of nothing. -/
def RE (w : World) (q : Nat) (ao : Option Addr) (c : Nat) (bad : Bool) : Prop := w.heap[q]? = some (.cells #[.slice ao 0 c, .int .i64 0, .bool bad] 175 (0, 0))
section
variable {w : World} {q c : Nat} {ao : Option Addr} {bad : Bool}
theorem RE.bad_ (h : RE w q ao c bad) : RE (w.setCell ⟨q, 2, none⟩ (.bool true)) q ao c true ∧ Kp [q] w (w.setCell ⟨q, 2, none⟩ (.bool true)) := ⟨three_setCell2 h, kp_set w q 2 _⟩
theorem raw_e (h : RE w q ao c bad) (n : Int) (hn : bad = true ∨ 1 ≤ n) (hn0 : 0 ≤ n) (hn1 : n ≤ 100) :
    Calls Tryz.prog 105 #[.pointer (some ⟨q, 0, none⟩), .int .i64 n] w fun e w' => e = .returned (.slice none 0 0) ∧ RE w' q ao c true ∧ Kp [q] w w' := by
  obtain ⟨hc0, hc1, hc2⟩ := cell_of_three h
  have hf2 := free_of_two h 2
  have hB := h.bad_
  cases bad with
  | true =>
    clear h
    go_enter Tryz.func105, Tryz.ntmps105
    go_wp2_with fail
    go_quiet (fail)
    go_wp2_with fail
    go_ret
    exact ⟨rfl, (kp_drewN _ _).heap hB.1 (by simp), hB.2.trans ((kp_drewN _ _).mono (by simp))⟩
  | false =>
    have hd : decide (n < 0) = false := decide_eq_false (by omega)
    have hp : 0 < n := by rcases hn with e | e; cases e; omega
    have hd2 : decide (0 < n) = true := decide_eq_true hp
    clear h
    go_enter Tryz.func105, Tryz.ntmps105
    go_wp2_with fail
    go_quiet (fail)
    go_wp2_with fail
    go_ret
    exact ⟨rfl, (kp_drewN _ _).heap hB.1 (by simp), hB.2.trans ((kp_drewN _ _).mono (by simp))⟩
theorem num_e (h : RE w q ao c bad) (n : Int) (hn : bad = true ∨ 1 ≤ n) (hn1 : 0 ≤ n ∧ n ≤ 100) :
    Calls Tryz.prog 103 #[.pointer (some ⟨q, 0, none⟩), .int .i64 n] w fun e w' => e = .returned (.int .u32 0) ∧ RE w' q ao c true ∧ Kp [q] w w' := by
  have HR := hide (raw_e h n hn hn1.1 hn1.2)
  clear h
  go_enter Tryz.func103, Tryz.ntmps103
  go_wp2_with fail
  refine HR.out.mono ?_
  rintro ee w1 ⟨rfl, R1, K1⟩
  have HE := hide (And.intro R1 K1)
  clear HR R1 K1
  go_wp2_with fail
  go_loopw [5, 12] (fun x j wr => x = .int .u32 0 ∧ j = .int .i64 0 ∧ wr = w1) (fun _ _ _ => 0)
  case atStart => exact ⟨rfl, rfl, rfl⟩
  case round =>
    obtain ⟨rfl, rfl, rfl⟩ := hrel
    go_wp2_with fail
    go_ret
    exact ⟨rfl, HE.out⟩
theorem byt_e (h : RE w q ao c true) (most : Int) (hm0 : 0 ≤ most) (hm1 : most ≤ 100) :
    Calls Tryz.prog 104 #[.pointer (some ⟨q, 0, none⟩), .int .i64 most] w fun e w' => e = .returned (.slice none 0 0) ∧ RE w' q ao c true ∧ Kp [q] w w' := by
  have HN := hide (num_e h 2 (.inl rfl) (by omega))
  have hd : decide (most < 0) = false := decide_eq_false (by omega)
  clear h
  go_enter Tryz.func104, Tryz.ntmps104
  go_wp2_with fail
  refine HN.out.mono ?_
  rintro ee w1 ⟨rfl, R1, K1⟩
  have HK := hide K1
  have HR := hide (raw_e R1 0 (.inl rfl) (by omega) (by omega))
  clear HN R1 K1
  go_wp2_with fail
  refine HR.out.mono ?_
  rintro ee w2 ⟨rfl, R2, K2⟩
  have HE := hide (And.intro R2 (HK.out.trans K2))
  clear HR R2 K2 HK
  go_wp2_with fail
  go_ret
  exact ⟨rfl, HE.out⟩
set_option maxRecDepth 100000 in
set_option maxHeartbeats 8000000 in
theorem decode_e (ao : Option Addr) (c : Nat) (w : World) :
    Calls Tryz.prog 81 #[.slice ao 0 c] w fun e w' => ∃ v, e = .returned (.tuple #[v, .bool false]) ∧ MV w' v mf0 ∧ Kp [] w w' := by
  obtain ⟨w1, hw1⟩ : ∃ w1, w1 = w.alloc (.cells #[.string ⟨#[]⟩, .int .u32 0, .slice none 0 0, .slice none 0 0] 99) := ⟨_, rfl⟩
  obtain ⟨w2, hw2⟩ : ∃ w2, w2 = w1.alloc (.cells #[.slice ao 0 c, .int .i64 0, .bool false] 175) := ⟨_, rfl⟩
  obtain ⟨g0, hg0⟩ : ∃ g, g = w.heap.size := ⟨_, rfl⟩
  obtain ⟨q, hq⟩ : ∃ q, q = w.heap.size + 1 := ⟨_, rfl⟩
  have K1 : Kp [] w w1 := by rw [hw1]; exact (Kp.refl [] w).alloc _
  have hz1 : w1.heap.size = w.heap.size + 1 := by rw [hw1]; simp
  have K2 : Kp [] w1 w2 := by rw [hw2]; exact (Kp.refl [] w1).alloc _
  have G0 : w2.heap[g0]? = some (.cells #[.string ⟨#[]⟩, .int .u32 0, .slice none 0 0, .slice none 0 0] 99) := K2.heap (by rw [hw1, hg0]; exact heap_alloc_new w _) (by simp)
  have R2 : RE w2 q ao c false := by rw [hw2, hq, ← hz1]; exact heap_alloc_new w1 _
  have HC := hide (num_e R2 1 (.inr (by omega)) (by omega))
  have HK2 := hide (K1.trans K2)
  have HG0 := hide G0
  have HQW := hide hq
  have HGW := hide hg0
  have HW12 : Hid (w2 = (w.alloc (.cells #[.string ⟨#[]⟩, .int .u32 0, .slice none 0 0, .slice none 0 0] 99)).alloc (.cells #[.slice ao 0 c, .int .i64 0, .bool false] 175)) := hide (by rw [hw2, hw1])
  clear hw1 hw2 hg0 hq K1 K2 hz1 G0 R2
  go_enter Tryz.func81, Tryz.ntmps81
  go_wp2_with fail
  rw [← unhide HW12, ← unhide HQW, ← unhide HGW]
  refine (unhide HC).mono ?_
  rintro ee w3 ⟨rfl, R3, K3⟩
  have HR3 := hide R3
  have HG3 := hide (K3.heap (unhide HG0) (by have := unhide HQW; have := unhide HGW; simp; omega))
  have HK3 : Hid (Kp [] w w3) := (unhide HK2).then K3 (fun i hi => .inr (by have := unhide HQW; simp at hi; omega))
  clear HC R3 K3 HK2 HG0 HW12
  go_wp2_with fail
  refine region_growG_tail (K := Kp [q]) (G := fun _ w => Kp [q] w3.drew w ∧ RE w q ao c true) 11 Tryz.mixed [Is (.pointer (some ⟨q, 0, none⟩)), Is (.slice none 0 0), Is (.string ⟨#[]⟩), Is (.pointer (some ⟨q, 0, none⟩)), Is (.int .u32 0), Is (.pointer (some ⟨q, 0, none⟩)), Is (.slice none 0 0), Is (.pointer (some ⟨q, 0, none⟩)), Is (.slice none 0 0), Is (.agg #[.string ⟨#[]⟩, .int .u32 0, .slice none 0 0, .slice none 0 0]), NewM q w3.heap.size] [[(4, none)], [(12, some 0)], [(13, some 1)], [(4, none)], [(15, some 3)], [(4, none)], [(17, some 5)], [(4, none)], [(19, some 7)], [(14, some 2), (16, some 4), (18, some 6), (20, some 8)], []] (by kernel_rfl) ?_ (⟨Kp.refl _ _, (kp_drew w3).heap (unhide HR3) (by simp)⟩) ?_ ?_
  all_goals try simp only [List.take_succ_cons, List.take_zero, List.drop_succ_cons, List.drop_zero]
  · simp only [List.mem_cons, List.not_mem_nil, or_false]
    intro R hR
    rcases hR with rfl | rfl | rfl | rfl | rfl | rfl | rfl | rfl | rfl | rfl | rfl <;> first | exact stableG_is _ _ | exact stableG_newm _ _
  · refine steps_consG (fun a w hk hn => ?_) ?_
    · have h4 : a.eval (.tmp 4) = .pointer (some ⟨q, 0, none⟩) := hn.1
      clear hn
      refine wantsG_of (fun _ _ k => k.mono (by simp)) (fun v w' k => ⟨hk.1.trans (k.mono (by simp)), k.heap hk.2 (by simp)⟩) (wants_plain rfl ?_)
      exact grown_move (.tmp 4) rfl h4
    refine steps_consG (fun a w hk hn => ?_) ?_
    · have h12 : a.eval (.tmp 12) = .pointer (some ⟨q, 0, none⟩) := hn.1
      clear hn
      refine wantsG_call rfl rfl Tryz.func104 (by kernel_rfl) (by kernel_rfl) ?_
      simp only [List.map_toArray, List.map_cons, List.map_nil, h12]
      refine (byt_e hk.2 20 (by omega) (by omega)).mono ?_
      rintro e w' ⟨rfl, R2, K2⟩
      exact ⟨_, rfl, ⟨K2, hk.1.trans K2, R2⟩, rfl⟩
    refine steps_consG (fun a w hk hn => ?_) ?_
    · have h13 : a.eval (.tmp 13) = .slice none 0 0 := hn.1
      clear hn
      refine wantsG_of (fun _ _ k => k.mono (by simp)) (fun v w' k => ⟨hk.1.trans (k.mono (by simp)), k.heap hk.2 (by simp)⟩) (wants_plain rfl ?_)
      exact grown_conv (.tmp 13) _ _ 5 [] rfl (by rw [h13]; exact Sl.nil _) Tryz.underlying28 Tryz.underlying5 Tryz.underlying9 (by rfl)
    refine steps_consG (fun a w hk hn => ?_) ?_
    · have h4 : a.eval (.tmp 4) = .pointer (some ⟨q, 0, none⟩) := hn.1
      clear hn
      refine wantsG_of (fun _ _ k => k.mono (by simp)) (fun v w' k => ⟨hk.1.trans (k.mono (by simp)), k.heap hk.2 (by simp)⟩) (wants_plain rfl ?_)
      exact grown_move (.tmp 4) rfl h4
    refine steps_consG (fun a w hk hn => ?_) ?_
    · have h15 : a.eval (.tmp 15) = .pointer (some ⟨q, 0, none⟩) := hn.1
      clear hn
      refine wantsG_call rfl rfl Tryz.func103 (by kernel_rfl) (by kernel_rfl) ?_
      simp only [List.map_toArray, List.map_cons, List.map_nil, h15]
      refine (num_e hk.2 4 (.inl rfl) (by omega)).mono ?_
      rintro e w' ⟨rfl, R2, K2⟩
      exact ⟨_, rfl, ⟨K2, hk.1.trans K2, R2⟩, rfl⟩
    refine steps_consG (fun a w hk hn => ?_) ?_
    · have h4 : a.eval (.tmp 4) = .pointer (some ⟨q, 0, none⟩) := hn.1
      clear hn
      refine wantsG_of (fun _ _ k => k.mono (by simp)) (fun v w' k => ⟨hk.1.trans (k.mono (by simp)), k.heap hk.2 (by simp)⟩) (wants_plain rfl ?_)
      exact grown_move (.tmp 4) rfl h4
    refine steps_consG (fun a w hk hn => ?_) ?_
    · have h17 : a.eval (.tmp 17) = .pointer (some ⟨q, 0, none⟩) := hn.1
      clear hn
      refine wantsG_call rfl rfl Tryz.func105 (by kernel_rfl) (by kernel_rfl) ?_
      simp only [List.map_toArray, List.map_cons, List.map_nil, h17]
      refine (raw_e hk.2 32 (.inl rfl) (by omega) (by omega)).mono ?_
      rintro e w' ⟨rfl, R2, K2⟩
      exact ⟨_, rfl, ⟨K2, hk.1.trans K2, R2⟩, rfl⟩
    refine steps_consG (fun a w hk hn => ?_) ?_
    · have h4 : a.eval (.tmp 4) = .pointer (some ⟨q, 0, none⟩) := hn.1
      clear hn
      refine wantsG_of (fun _ _ k => k.mono (by simp)) (fun v w' k => ⟨hk.1.trans (k.mono (by simp)), k.heap hk.2 (by simp)⟩) (wants_plain rfl ?_)
      exact grown_move (.tmp 4) rfl h4
    refine steps_consG (fun a w hk hn => ?_) ?_
    · have h19 : a.eval (.tmp 19) = .pointer (some ⟨q, 0, none⟩) := hn.1
      clear hn
      refine wantsG_call rfl rfl Tryz.func104 (by kernel_rfl) (by kernel_rfl) ?_
      simp only [List.map_toArray, List.map_cons, List.map_nil, h19]
      refine (byt_e hk.2 64 (by omega) (by omega)).mono ?_
      rintro e w' ⟨rfl, R2, K2⟩
      exact ⟨_, rfl, ⟨K2, hk.1.trans K2, R2⟩, rfl⟩
    refine steps_consG (fun a w hk hn => ?_) ?_
    · have h14 : a.eval (.tmp 14) = .string ⟨#[]⟩ := hn.1
      have h16 : a.eval (.tmp 16) = .int .u32 0 := hn.2.1
      have h18 : a.eval (.tmp 18) = .slice none 0 0 := hn.2.2.1
      have h20 : a.eval (.tmp 20) = .slice none 0 0 := hn.2.2.2.1
      clear hn
      refine wantsG_of (fun _ _ k => k.mono (by simp)) (fun v w' k => ⟨hk.1.trans (k.mono (by simp)), k.heap hk.2 (by simp)⟩) (wants_plain rfl ?_)
      refine grown_run (v := .agg #[.string ⟨#[]⟩, .int .u32 0, .slice none 0 0, .slice none 0 0]) ?_ (Kp.refl _ _) rfl
      obtain ⟨ρ, hρ, hc, hf, hg⟩ := eval_is a
      rw [hρ] at h14 h16 h18 h20 ⊢
      simp [go_sem, h14, h16, h18, h20]
    refine steps_consG (fun a w hk hn => ?_) ?_
    · clear hn
      refine wantsG_of (fun _ _ k => k.mono (by simp)) (fun v w' k => ⟨hk.1.trans (k.mono (by simp)), k.heap hk.2 (by simp)⟩) (wants_plain rfl ?_)
      exact grown_newm q w3.heap.size (lt_of_block hk.2) (Nat.le_trans (Nat.le_refl w3.drew.heap.size) hk.1.size) rfl
    exact trivial
  intro W1
  rintro _ rfl
  rintro _ rfl
  rintro _ rfl
  rintro _ rfl
  rintro _ rfl
  rintro _ rfl
  rintro _ rfl
  rintro _ rfl
  rintro _ rfl
  rintro _ rfl
  intro v6 h6
  refine fin_nil ?_
  intro hkW1
  simp only [Act.put, List.set_cons_zero, List.set_cons_succ, List.setIfInBounds_toArray]
  obtain ⟨g6, e6, G6, hs6, hne6⟩ := h6
  subst e6
  have HK6 : Hid (Kp [] w W1) := (unhide HK3).then (((kp_drew w3).mono (S' := [q]) (by simp)).trans hkW1.1) (fun i hi => .inr (by have := unhide HQW; simp at hi; omega))
  have HG6 := hide (hkW1.1.heap ((kp_drew w3).heap (unhide HG3) (by simp)) (by have := unhide HQW; have := unhide HGW; simp; omega))
  have Hg6 : Hid (w.heap.size ≤ g6 ∧ g6 ≠ g0) := hide (by
    have h1 := (unhide HK3).size
    have h2 := lt_of_block (unhide HG3)
    omega)
  clear hkW1 hs6 hne6 HK3 HR3 HG3
  go_wp2_with (refine wpList_store_man rfl (.tmp 6) (.tmp 21) rfl g6 rfl _ _ _ _ _ _ _ _ G6 rfl ⟨rfl, rfl, rfl, rfl⟩ ?_; intro W2 Gm Km; refine Hid.out ?_)
  have HKW : Hid (Kp [] w W2) := (unhide HK6).then Km (fun i hi => .inr (by have := (unhide Hg6).1; simp at hi; omega))
  have G0 := Km.heap (unhide HG6) (by have := (unhide Hg6).2; simp; omega)
  have Hg0 : Hid (w.heap.size ≤ g0) := hide (by have := unhide HGW; omega)
  clear G6 Gm Km HG6 HK6 Hg6
  refine hide ?_
  go_wp2_with (refine wpList_store_man rfl (.tmp 2) (.tmp 34) rfl g0 rfl _ _ _ _ _ _ _ _ G0 rfl ⟨rfl, rfl, rfl, rfl⟩ ?_; intro wa Ga Ka)
  refine bodyPost_ret (results_man rfl _ rfl Ga) rfl ?_
  exact ⟨_, rfl, man0_v _, (unhide HKW).then Ka (fun i hi => .inr (by have := unhide Hg0; simp at hi; omega))⟩
theorem rdecode_all (vb : Value) (B : List Int) (w : World) (hS : Sl w vb B) (hB : Bs B) (hl : B.length ≤ 140737488355328) :
    Calls Tryz.prog 81 #[vb] w fun e w' => ∃ v, e = .returned (.tuple #[v, .bool (okM B)]) ∧ MV w' v (ansM B) ∧ Kp [] w w' := by
  by_cases hb : B = []
  · subst hb
    obtain ⟨ab, cb, rfl, -⟩ := hS
    have h0 : okM [] = false := by decide
    rw [h0, ansM_no h0]
    exact decode_e ab cb w
  · exact rdecode_any vb B w hS hB hl (fun k hk => sl_lt hS hb hk)
end
section
variable {w0 w : World} {p l pd pl pk : Nat} {S : FS} {L : LS} {g f : Fps}
set_option maxRecDepth 100000 in
set_option maxHeartbeats 16000000 in
theorem fsub_inv (h : Fg w0 w p l pd S g) (hL : Lg w0 w l pl pk L f) (vb : Value) (b : List Int) (hS : Sl w vb b) (hB : Bs b) (hl : b.length ≤ 65535) (hok0 : okM b = false) (now : Int) (hn0 : -9223372036854775808 ≤ now) (hn1 : now ≤ 9223372036854775807) (hrc : S.rc.length ≤ 1000) (hm : S.m ≤ 1000) :
    Calls Tryz.prog 24 #[.pointer (some ⟨p, 0, none⟩), vb, .int .i64 now] w fun e w' => e = .returned (ansV 4 0) ∧ Kp [] w w' := by
  have K1 : Kp [] w (w.alloc (.cells #[.int .i64 0, .int .i64 0] 57)) := (Kp.refl [] w).alloc _
  have HD := hide (mdecode_any vb b _ (hS.kept K1 (by simp)) hB (by omega))
  have G1 : Hid ((w.alloc (.cells #[.int .i64 0, .int .i64 0] 57)).heap[w.heap.size]? = some (.cells #[.int .i64 0, .int .i64 0] 57 (0, 0))) := heap_alloc_new w _
  have HK1 := hide K1
  have HH := hide h
  have HL := hide hL
  have HS := hide hS
  have HB := hide hB
  have Hl := hide hl
  have Hok0 := hide hok0
  have Hn0 := hide hn0
  have Hn1 := hide hn1
  have Hrc := hide hrc
  have Hm := hide hm
  have Hlt : Hid (∀ i, g.tot i → i < w.heap.size) := fun i hi => (h.lt i hi).2
  obtain ⟨ab, cb, evb, -⟩ := hS
  obtain ⟨nb, hnb⟩ : ∃ n, n = b.length := ⟨_, rfl⟩
  rw [← hnb] at evb
  subst evb
  clear K1 h hL hB hl hok0 hn0 hn1 hrc hm hnb
  go_enter Tryz.func24, Tryz.ntmps24
  go_wp2_with fail
  refine HD.out.mono ?_
  rintro ee w2 ⟨vm, rfl, ⟨af, nf, cf, an, nn, cn, rfl, -, -, -⟩, K2⟩
  have HK2 := hide K2
  clear HD K2
  go_wp2_with (refine wpList_store_man rfl (.tmp 7) (.tmp 14) rfl w2.heap.size rfl _ _ _ _ _ _ _ _ (heap_alloc_new w2 _) rfl ⟨rfl, rfl, rfl, rfl⟩ ?_; intro wa Ga Ka; refine Hid.out ?_)
  have KA : Kp [] (w.alloc (.cells #[.int .i64 0, .int .i64 0] 57)) wa := (HK2.out.alloc _).then Ka (fun i hi => .inr (by simp at hi; subst hi; exact HK2.out.size))
  have GA := hide (KA.heap G1.out (by simp))
  have HKA := hide (HK1.out.trans KA)
  have hsz1 : w.heap.size < wa.heap.size := by have := KA.size; simp at this; omega
  have Hsz := hide hsz1
  clear Ka Ga KA G1 HK2 HK1 hsz1
  have HA := hide (HH.out.on HKA.out)
  have HLA := hide (HL.out.on HKA.out)
  have HSA := hide (HS.out.kept HKA.out (by simp))
  obtain ⟨dm, hdm⟩ : ∃ x : Bool, x = decide (b ∈ L.its) := ⟨_, rfl⟩
  obtain ⟨ix, hix⟩ : ∃ x : Int, x = if dm = true then (L.its.idxOf b : Int) else 0 := ⟨_, rfl⟩
  have HF := hide (ufind_any HLA.out (.slice ab nb cb) b HSA.out HB.out Hl.out dm hdm ix hix)
  obtain ⟨jj, q, vr, hx⟩ := HA.out
  have hc0 := hx.at_.c0
  have HX := hide hx
  clear hx
  have Hdm := hide hdm
  have Hix := hide hix
  clear hdm hix
  refine hide ?_
  go_wp2_with fail
  refine HF.out.mono ?_
  rintro ee w3 ⟨rfl, K3⟩
  have G3 := hide (K3.heap GA.out (by simp))
  have HKB := hide (HKA.out.trans K3)
  have HX3 := hide (HX.out.on K3)
  have HS3 := hide (HSA.out.kept K3 (by simp))
  have Hsz3 : Hid (w.heap.size < w3.heap.size) := hide (Nat.lt_of_lt_of_le Hsz.out K3.size)
  clear HF K3 GA HKA HX HSA hc0
  cases hokb : okM b with
  | false =>
    rw [errOf_f]
    go_wp2_with (refine wpList_store_flat rfl 57 (.tmp 6) (.tmp 28) rfl w.heap.size 0 rfl _ _ [.int .i64 4, .int .i64 0] G3.out rfl (by simp) Tryz.ansSize (by simp [Value.oneCell']) #[.int .i64 4, .int .i64 0] rfl ?_; intro w4 G4 K4)
    refine bodyPost_ret (results_flat1 rfl _ rfl G4 Tryz.underlying57 rfl Tryz.ansSize) rfl ?_
    exact ⟨rfl, HKB.out.then K4 (fun i hi => .inr (by simp at hi; omega))⟩
  | true =>
    exact absurd hokb (by rw [Hok0.out]; decide)
end
section
variable {w0 w : World} {A : Nat → Prop} {x pw : Nat} {vi : Value} {li : List (Value × List Int)} {vrc : Value} {lr : List (Value × List Int)} {vq : Value} {tq : List (Int × Int)} {vf vl vd ve vk : Value} {r s t : Int}
set_option maxRecDepth 100000 in
set_option maxHeartbeats 16000000 in
theorem fans_inv (hW : Wd w x vf vl vd ve vk r s t (.pointer (some ⟨pw, 0, none⟩)) vrc vq) (hL : Lw w0 w A x pw vi li vrc lr vq tq) (hA : ∀ i, (A i ∨ i = x) → i < w.heap.size) (hx0 : w0.heap.size ≤ x) (hw : w0.heap.size ≤ w.heap.size) (vb : Value) (b : List Int) (hS : Sl w vb b) (hB : Bs b) (hbl : b.length ≤ 65535) (hok0 : okM b = false) (now : Int) (its : List (List Int)) (hits : li.map (·.2) = its) (rc : List (List Int)) (hrc : lr.map (·.2) = rc) (htq : ∀ e ∈ tq, ∃ j : Nat, e.1 = j ∧ j < rc.length) (hil : its.length ≤ 1000) (hrl : rc.length ≤ 1000) (hql : tq.length ≤ 1000) :
    Calls Tryz.prog 48 #[.pointer (some ⟨x, 0, none⟩), vb, .int .i64 now] w fun e w' => e = .returned (ansV 4 0) ∧ Kp [] w w' := by
  have K1 : Kp [] w (w.alloc (.cells #[.int .i64 0, .int .i64 0] 57)) := (Kp.refl [] w).alloc _
  have HD : Hid (Calls Tryz.prog 81 #[vb] (w.alloc (.cells #[.int .i64 0, .int .i64 0] 57)) fun e w' => ∃ v, e = .returned (.tuple #[v, .bool (okM b)]) ∧ MV w' v (ansM b) ∧ Kp [] (w.alloc (.cells #[.int .i64 0, .int .i64 0] 57)) w') := hide (rdecode_all vb b _ (hS.kept K1 (by simp)) hB (by omega))
  have G1 : Hid ((w.alloc (.cells #[.int .i64 0, .int .i64 0] 57)).heap[w.heap.size]? = some (.cells #[.int .i64 0, .int .i64 0] 57 (0, 0))) := heap_alloc_new w _
  have HK1 := hide K1
  have HW := hide hW
  have HL := hide hL
  have HS := hide hS
  have HB := hide hB
  have Hbl := hide hbl
  have Hok0 := hide hok0
  have Hits := hide hits
  have Hrc := hide hrc
  have Htq := hide htq
  have Hlen := hide (And.intro hil (And.intro hrl hql))
  have HAl := hide hA
  have Hx0 := hide hx0
  have Hw := hide hw
  obtain ⟨qa, qc, evq, -⟩ := hL.q
  obtain ⟨nq, hnq⟩ : ∃ n, n = tq.length := ⟨_, rfl⟩
  rw [← hnq] at evq
  subst evq
  obtain ⟨ra, rcp, evr⟩ := hL.alr.row.1.1.shape
  obtain ⟨nr, hnr⟩ : ∃ n, n = rc.length := ⟨_, rfl⟩
  rw [List.length_map, ← List.length_map (f := (·.2)), hrc, ← hnr] at evr
  subst evr
  have Hnq := hide hnq
  have Hnr := hide hnr
  obtain ⟨ab, cb, evb, -⟩ := hS
  obtain ⟨nb, hnb⟩ : ∃ n, n = b.length := ⟨_, rfl⟩
  rw [← hnb] at evb
  subst evb
  clear K1 hW hL hB hbl hok0 hits hrc htq hil hrl hql hA hx0 hw hnb hnq hnr
  go_enter Tryz.func48, Tryz.ntmps48
  go_wp2_with fail
  refine HD.out.mono ?_
  rintro ee w2 ⟨vm, rfl, ⟨af, nf, cf, an, nn2, cn, rfl, -, -, -⟩, K2⟩
  have HK2 := hide K2
  clear HD K2
  go_wp2_with (refine wpList_store_man rfl (.tmp 7) (.tmp 14) rfl w2.heap.size rfl _ _ _ _ _ _ _ _ (heap_alloc_new w2 _) rfl ⟨rfl, rfl, rfl, rfl⟩ ?_; intro wa Ga Ka; refine Hid.out ?_)
  have KA : Kp [] (w.alloc (.cells #[.int .i64 0, .int .i64 0] 57)) wa := (HK2.out.alloc _).then Ka (fun i hi => .inr (by simp at hi; subst hi; exact HK2.out.size))
  have GA := hide (KA.heap G1.out (by simp))
  have HKA := hide (HK1.out.trans KA)
  have hsz1 : w.heap.size < wa.heap.size := by have := KA.size; simp at this; omega
  have Hsz := hide hsz1
  clear Ka Ga KA G1 HK2 HK1 hsz1
  have HWa := hide (HW.out.kept HKA.out (by simp))
  have HLa := hide (HL.out.on HKA.out)
  have HSa := hide (HS.out.kept HKA.out (by simp))
  cases hokb : okM b with
  | false =>
    refine hide ?_
    go_wp2_with (refine wpList_store_flat rfl 57 (.tmp 6) (.tmp 18) rfl w.heap.size 0 rfl _ _ [.int .i64 4, .int .i64 0] GA.out rfl (by simp) Tryz.ansSize (by simp [Value.oneCell']) #[.int .i64 4, .int .i64 0] rfl ?_; intro w4 G4 K4)

    refine bodyPost_ret (results_flat1 rfl _ rfl G4 Tryz.underlying57 rfl Tryz.ansSize) rfl ?_
    exact ⟨rfl, HKA.out.then K4 (fun i hi => .inr (by simp at hi; omega))⟩
  | true =>
    exact absurd hokb (by rw [Hok0.out]; decide)
end
end Go.Proofs.YteabdojjllfcpaaGreat

/-
  A front, its ledger and the law's own list side by side, call by call.
-/
namespace Go.Proofs.YteabdojjllfcpaaGreat
open Go.RowKit
open Go.Proofs
set_option linter.unusedVariables false
structure PlX (w0 w : World) (x p l pd pl pk pw : Nat) (r s t : Int) (k : Nat) (S : FS) (L : LS) (g f : Fps) (vi : Value) (li : List (Value × List Int)) (vrc : Value) (lr : List (Value × List Int)) (vq : Value) : Prop where
  pf : PlF S L r s t k
  z : Wz w0 w x p l pd pl pk S L g f (.pointer (some ⟨pw, 0, none⟩)) vrc vq
  lw : Lw w0 w (two2 g f) x pw vi li vrc lr vq (tqP L.its.length S.ms)
  hi : li.map (·.2) = L.its
  hr : lr.map (·.2) = S.rc
section
variable {w0 w w' w1 : World} {x p l pd pl pk pw : Nat} {r s t : Int} {k : Nat} {S : FS} {L : LS} {g f : Fps} {vi : Value} {li : List (Value × List Int)} {vrc : Value} {lr : List (Value × List Int)} {vq : Value}
theorem PlX.on (h : PlX w0 w x p l pd pl pk pw r s t k S L g f vi li vrc lr vq) (K : Kp [] w w') : PlX w0 w' x p l pd pl pk pw r s t k S L g f vi li vrc lr vq := ⟨h.pf, h.z.on K, h.lw.on K, h.hi, h.hr⟩
theorem PlX.wd (h : PlX w0 w x p l pd pl pk pw r s t k S L g f vi li vrc lr vq) : Wd w x (.pointer (some ⟨p, 0, none⟩)) (.pointer (some ⟨l, 0, none⟩)) (.pointer (some ⟨pd, 0, none⟩)) (.pointer (some ⟨pl, 0, none⟩)) (.pointer (some ⟨pk, 0, none⟩)) r s t (.pointer (some ⟨pw, 0, none⟩)) vrc vq := by
  have := h.z.at_
  rw [h.pf.room, h.pf.size, h.pf.wait] at this
  exact this
theorem PlX.wz {w' : World} {g' : Fps} {S' : FS} {L' : LS} {f' : Fps} {vrc' vq' : Value} (h : Wz w0 w x p l pd pl pk S' L' g' f' (.pointer (some ⟨pw, 0, none⟩)) vrc vq) (h1 : S'.room = r ∧ S'.size = s ∧ S'.wait = t) {T : List Nat} (K : Kp T w w') (hT : ∀ i ∈ T, w0.heap.size ≤ i ∧ ¬ two2 g' f' i)
    (W : Wd w' x (.pointer (some ⟨p, 0, none⟩)) (.pointer (some ⟨l, 0, none⟩)) (.pointer (some ⟨pd, 0, none⟩)) (.pointer (some ⟨pl, 0, none⟩)) (.pointer (some ⟨pk, 0, none⟩)) r s t (.pointer (some ⟨pw, 0, none⟩)) vrc' vq') : Wz w0 w' x p l pd pl pk S' L' g' f' (.pointer (some ⟨pw, 0, none⟩)) vrc' vq' :=
  ⟨h.bo.beside K hT, by rw [h1.1, h1.2.1, h1.2.2]; exact W, h.nx, h.x0⟩
theorem PlX.low (h : PlX w0 w x p l pd pl pk pw r s t k S L g f vi li vrc lr vq) : ∀ i, (two2 g f i ∨ i = x) → i < w.heap.size := fun i hi => hi.elim (fun hi => (h.z.bo.lt i hi).2) (fun e => by rw [e]; exact h.z.at_.lt)
theorem PlX.tqs (h : PlX w0 w x p l pd pl pk pw r s t k S L g f vi li vrc lr vq) (hk : k ≤ 1000) : ∀ e ∈ tqP L.its.length S.ms, (∃ j : Nat, e.1 = j ∧ j < S.rc.length) ∧ -1125899906842624 ≤ e.2 ∧ e.2 ≤ 1000000 := fun e he => by
  obtain ⟨j, hj, hje⟩ := List.mem_iff_getElem.1 he
  have hj2 : j < S.ms.length := by rw [tqP_len] at hj; exact hj
  rw [tqP_get _ _ _ hj hj2] at hje
  subst hje
  have hil := h.pf.il
  refine ⟨⟨_, rfl, by omega⟩, ?_⟩
  have htm := h.pf.tm _ (List.getElem_mem hj2)
  show _ ≤ atQ _ ∧ atQ _ ≤ _
  rcases htm with e | ⟨e1, e2⟩
  · rw [e]; exact ⟨by decide, by decide⟩
  · rw [atQ_pos e1]; omega
/-- a submission of bytes that lie where they were. -/
theorem plx_put (h : PlX w0 w1 x p l pd pl pk pw r s t k S L g f vi li vrc lr vq) (hk : k ≤ 40) (K : Kp [] w1 w) (vb : Value) (b : List Int) (hS : Sl w vb b) (hB : Bs b) (hbl : b.length ≤ 65535) (hvb : ∀ i, vb.ownBlock = some i → i < w.heap.size ∧ (w1.heap.size ≤ i ∨ i < w0.heap.size)) (now : Int) (hn0 : 0 ≤ now) (hn1 : now ≤ 20 * (k + 1)) :
    ∃ kk nn, Calls Tryz.prog 24 #[.pointer (some ⟨p, 0, none⟩), vb, .int .i64 now] w fun e w' => e = .returned (ansV kk nn) ∧ ∀ w2, Kp [] w' w2 →
      Calls Tryz.prog 48 #[.pointer (some ⟨x, 0, none⟩), vb, .int .i64 now] w2 fun e w3 => e = .returned (ansV kk nn) ∧ ∃ S' g' vrc' lr' vq', PlX w0 w3 x p l pd pl pk pw r s t (k + 1) S' L g' f vi li vrc' lr' vq' := by
  obtain ⟨kk, nn, S', hsub, hans, hP⟩ := h.pf.sub hk b hB now hn0 hn1
  have hX := h.on K
  have hlen := h.pf.len
  have hm := h.pf.m
  have hil := h.pf.il
  have hkp := h.z.bo.kp.size
  have hK := K.size
  have hnot : ∀ i, vb.ownBlock = some i → ¬ ((two2 g f i ∨ i = x) ∨ i = pw ∨ vi.ownBlock = some i ∨ vrc.ownBlock = some i) := fun i hi e => by
    obtain ⟨-, h2⟩ := hvb i hi
    have hlow : w0.heap.size ≤ i ∧ i < w1.heap.size := by
      rcases e with (e | e) | e | e | e
      · exact h.z.bo.lt i e
      · rw [e]; exact ⟨h.z.x0, h.z.at_.lt⟩
      · rw [e]; exact ⟨h.lw.po.1, h.lw.led.lt⟩
      · exact ⟨h.lw.vo i (.inl e), (h.lw.ali.own i e).1⟩
      · exact ⟨h.lw.vo i (.inr e), (h.lw.alr.own i e).1⟩
    omega
  refine ⟨kk, nn, (wz_sub hX.z vb b hS hB hbl (fun i hi e => hnot i hi (.inl (.inl (.inl e)))) now (by omega) (by omega) (by omega) (by omega) kk nn S' hsub).mono ?_⟩
  rintro e w' ⟨rfl, g', Z', T'⟩
  refine ⟨rfl, fun w2 K2 => ?_⟩
  have Z2 := Z'.on K2
  have Lw2 := (hX.lw.fstep T').on K2
  have hq : S'.room = r ∧ S'.size = s ∧ S'.wait = t := ⟨hP.room, hP.size, hP.wait⟩
  have W2 : Wd w2 x (.pointer (some ⟨p, 0, none⟩)) (.pointer (some ⟨l, 0, none⟩)) (.pointer (some ⟨pd, 0, none⟩)) (.pointer (some ⟨pl, 0, none⟩)) (.pointer (some ⟨pk, 0, none⟩)) r s t (.pointer (some ⟨pw, 0, none⟩)) vrc vq := by
    have := Z2.at_
    rw [hq.1, hq.2.1, hq.2.2] at this
    exact this
  have hS2 : Sl w2 vb b := (hS.stp T' (fun i hi e => hnot i hi (.inl (.inl e)))).kept K2 (by simp)
  have hsz := T'.size
  have hsz2 := K2.size
  have hnew : ∀ i, vb.ownBlock = some i → i < w2.heap.size ∧ ¬ ((two2 g' f i ∨ i = x) ∨ i = pw ∨ vi.ownBlock = some i) ∧ vrc.ownBlock ≠ some i := fun i hi => by
    have h1 := (hvb i hi).1
    refine ⟨by omega, fun e => ?_, fun e => hnot i hi (.inr (.inr (.inr e)))⟩
    rcases e with (e | e) | e | e
    · exact T'.off h1 (fun e => hnot i hi (.inl (.inl e))) e
    · exact hnot i hi (.inl (.inr e))
    · exact hnot i hi (.inr (.inl e))
    · exact hnot i hi (.inr (.inr (.inl e)))
  refine (fans_any W2 Lw2 (fun i hi => hi.elim (fun hi => (Z2.bo.lt i hi).2) (fun e => by rw [e]; exact Z2.at_.lt)) h.z.x0 (by omega) vb b hS2 hB hbl hnew now L.its h.hi S.rc h.hr (fun e he => (h.tqs (by omega) e he).1) (by omega) (by omega) (by rw [tqP_len]; omega) kk nn S'.rc _ hans).mono ?_
  rintro e w3 ⟨rfl, vrc', lr', vq', W3, L3, hr3, T, K3, hT3⟩
  refine ⟨rfl, S', g', vrc', lr', vq', hP, PlX.wz Z2 hq K3 (fun i hi => ?_) W3, L3, h.hi, hr3⟩
  rcases hT3 i hi with e | e
  · rw [e]; exact ⟨Z2.x0, Z2.nx⟩
  · exact ⟨Lw2.vo i (.inr e), fun e' => (Lw2.alr.own i e).2 (.inl (.inl e'))⟩
/-- a submission, and the document's answer. -/
theorem plx_sub (h : PlX w0 w1 x p l pd pl pk pw r s t k S L g f vi li vrc lr vq) (hk : k ≤ 40) (K : Kp [] w1 w) (vb : Value) (b : List Int) (hS : Sl w vb b) (hB : Bs b) (hbl : b.length ≤ 65535) (hvb : okM b = true → ∀ i, vb.ownBlock = some i → i < w.heap.size ∧ (w1.heap.size ≤ i ∨ i < w0.heap.size)) (now : Int) (hn0 : 0 ≤ now) (hn1 : now ≤ 20 * (k + 1)) :
    ∃ kk nn, Calls Tryz.prog 24 #[.pointer (some ⟨p, 0, none⟩), vb, .int .i64 now] w fun e w' => e = .returned (ansV kk nn) ∧ ∀ w2, Kp [] w' w2 →
      Calls Tryz.prog 48 #[.pointer (some ⟨x, 0, none⟩), vb, .int .i64 now] w2 fun e w3 => e = .returned (ansV kk nn) ∧ ∃ S' g' vrc' lr' vq', PlX w0 w3 x p l pd pl pk pw r s t (k + 1) S' L g' f vi li vrc' lr' vq' := by
  cases hok : okM b with
  | true => exact plx_put h hk K vb b hS hB hbl (hvb hok) now hn0 hn1
  | false =>
    have hX := h.on K
    have hlen := h.pf.len
    have hm := h.pf.m
    have hil := h.pf.il
    refine ⟨4, 0, (fsub_inv hX.z.bo.fr hX.z.bo.lg vb b hS hB hbl hok now (by omega) (by omega) (by omega) (by omega)).mono ?_⟩
    rintro e w' ⟨rfl, K'⟩
    refine ⟨rfl, fun w2 K2 => ?_⟩
    have h2 := (hX.on K').on K2
    refine (fans_inv h2.wd h2.lw h2.low h2.z.x0 (by have := h2.z.bo.kp.size; omega) vb b ((hS.kept K' (by simp)).kept K2 (by simp)) hB hbl hok now L.its h2.hi S.rc h2.hr (fun e he => (h2.tqs (by omega) e he).1) (by omega) (by omega) (by rw [tqP_len]; omega)).mono ?_
    rintro e w3 ⟨rfl, K3⟩
    have h3 := h2.on K3
    exact ⟨rfl, S, g, vrc, lr, vq, h3.pf.more, h3.z, h3.lw, h3.hi, h3.hr⟩
/-- a step, and the document's. -/
theorem plx_step (h : PlX w0 w x p l pd pl pk pw r s t k S L g f vi li vrc lr vq) (hk : k ≤ 40) (hs0 : 1 ≤ s) (hs1 : s ≤ 8) (ht0 : 0 ≤ t) (ht1 : t ≤ 1000) (now : Int) (hn0 : 0 ≤ now) (hn1 : now ≤ 1000000) :
    Calls Tryz.prog 23 #[.pointer (some ⟨p, 0, none⟩), .int .i64 now] w fun e w' => ∃ u us, e = .returned (.tuple #[u, .int .i64 0]) ∧ us.length ≤ 1000 ∧ IntsU w' u us ∧ ∀ w2, Kp [] w' w2 →
      Calls Tryz.prog 51 #[.pointer (some ⟨x, 0, none⟩), .int .i64 now] w2 fun e w3 => ∃ u2, e = .returned u2 ∧ IntsU w3 u us ∧ IntsU w3 u2 us ∧ ∃ S' L' g' f' vi' li' vq', PlX w0 w3 x p l pd pl pk pw r s t (k + 1) S' L' g' f' vi' li' vrc lr vq' := by
  have hdq : S.q.due now = dueP s t now (tqP L.its.length S.ms) := by
    have e : S.q = ⟨S.room, s, t, S.ms⟩ := by unfold FS.q; rw [h.pf.size, h.pf.wait]
    rw [e]
    exact due_tq (m := 20 * k) _ ht0 ht1 hs0 hn0 (by omega) h.pf.tm
  have hlen := h.pf.len
  have hil := h.pf.il
  have hmj := h.pf.mj
  have hkp := h.z.bo.kp.size
  have hnil : ∀ w : World, IntsU w (.slice none 0 0) [] := fun w => ⟨none, 0, rfl, by simp [maxLen], fun i hi => by simp at hi⟩
  cases hdue : S.q.due now with
  | false =>
    refine (wz_step_no h.z now (by omega) (by omega) hdue).mono ?_
    rintro e w' ⟨rfl, K⟩
    refine ⟨_, [], rfl, by simp, hnil _, fun w2 K2 => ?_⟩
    have h2 := (h.on K).on K2
    refine (fstepL_no h2.wd h2.lw h2.low h2.z.x0 (by have := K.size; have := K2.size; omega) now hn0 hn1 hs0 hs1 ht0 ht1 L.its h2.hi S.rc h2.hr (h2.tqs (by omega)) (by omega) (by omega) (by rw [tqP_len]; omega) (by rw [← hdq]; exact hdue)).mono ?_
    rintro e w3 ⟨rfl, K3⟩
    have h3 := h2.on K3
    exact ⟨_, rfl, hnil _, hnil _, S, L, g, f, vi, li, vq, h3.pf.more, h3.z, h3.lw, h3.hi, h3.hr⟩
  | true =>
    have hn0' : 0 < min S.size.toNat S.ms.length := by
      have h3 := h.pf.size
      rcases hm : S.ms with _ | ⟨a, m⟩
      · exfalso
        simp [Qd.due, FS.q, hm] at hdue
      · rw [h3]; simp; omega
    obtain ⟨n, hn⟩ : ∃ n, n = min S.size.toNat S.ms.length := ⟨_, rfl⟩
    rw [← hn] at hn0'
    obtain ⟨xs, hxs⟩ : ∃ xs, xs = (S.ms.take n).map It.bs := ⟨_, rfl⟩
    obtain ⟨dd', hadd, hP, hnd, h40, hm40, hxl⟩ := h.pf.step hk hs0 hs1 n hn hn0' xs hxs
    refine (wz_step h.z now (by omega) (by omega) hdue n hn hn0' xs hxs hnd (by omega) (by omega) (by omega) true dd' hadd 0 rfl { S with ms := S.ms.drop n } rfl { L with dd := dd', mj := L.mj + 1, its := L.its ++ xs } rfl).mono ?_
    rintro e w' ⟨u, rfl, hu, g', f', Z', T', hou⟩
    have hu : RowI w' w.heap.size u (seqF L.its.length n) := hu
    have hsl : (seqF L.its.length n).length = n := by simp [seqF]
    refine ⟨u, seqF L.its.length n, rfl, by omega, hu.ints (by omega), fun w2 K2 => ?_⟩
    have Z2 := Z'.on K2
    have Lw2 := (h.lw.fstep T').on K2
    have hsz := T'.size
    have hsz2 := K2.size
    have hq : (⟨S.room, S.size, S.wait, S.ms.drop n, S.rc, S.d, S.m⟩ : FS).room = r ∧ (⟨S.room, S.size, S.wait, S.ms.drop n, S.rc, S.d, S.m⟩ : FS).size = s ∧ (⟨S.room, S.size, S.wait, S.ms.drop n, S.rc, S.d, S.m⟩ : FS).wait = t := ⟨h.pf.room, h.pf.size, h.pf.wait⟩
    have W2 : Wd w2 x (.pointer (some ⟨p, 0, none⟩)) (.pointer (some ⟨l, 0, none⟩)) (.pointer (some ⟨pd, 0, none⟩)) (.pointer (some ⟨pl, 0, none⟩)) (.pointer (some ⟨pk, 0, none⟩)) r s t (.pointer (some ⟨pw, 0, none⟩)) vrc vq := by
      have e := Z2.at_
      have e1 := hq.1
      have e2 := hq.2.1
      have e3 := hq.2.2
      rw [e1, e2, e3] at e
      exact e
    have hxs3 : xs = ((tqP L.its.length S.ms).take n).map (fun e => S.rc.getD e.1.toNat []) := by
      rw [hxs]
      refine List.ext_getElem (by simp [tqP_len]) (fun j h1 h2 => ?_)
      have hj1 : j < n ∧ j < S.ms.length := by simp at h1; omega
      have hj2 : j < (tqP L.its.length S.ms).length := by rw [tqP_len]; omega
      simp only [List.getElem_map, List.getElem_take]
      rw [tqP_get _ _ _ hj2 hj1.2, Int.toNat_natCast, List.getD_eq_getElem?_getD, h.pf.eq, List.getElem?_append_right (by omega), Nat.add_sub_cancel_left, List.getElem?_map, List.getElem?_eq_getElem hj1.2]
      rfl
    refine (fstepL_due W2 Lw2 (fun i hi => hi.elim (fun hi => (Z2.bo.lt i hi).2) (fun e => by rw [e]; exact Z2.at_.lt)) Z2.x0 (by omega) now hn0 hn1 hs0 hs1 ht0 ht1 L.its h.hi S.rc h.hr (h.tqs (by omega)) (by omega) (by omega) (by rw [tqP_len]; omega) (by rw [← hdq]; exact hdue) n (by rw [tqP_len, ← h.pf.size]; exact hn) hn0' xs hxs3).mono ?_
    rintro e w3 ⟨u2, rfl, hu2, vi', li', vq', W3, L3, hi3, T, K3, hT3⟩
    have hdrop : (tqP L.its.length S.ms).drop n = tqP (L.its ++ xs).length (S.ms.drop n) := by
      rcases tqP_drop L.its.length n S.ms with e | e
      · rw [e, List.length_append, hxl]
      · omega
    rw [hdrop] at L3
    have hoff : ∀ i ∈ T, w0.heap.size ≤ i ∧ i < w.heap.size ∧ ¬ two2 g' f' i := fun i hi => by
      rcases hT3 i hi with e | e | e
      · rw [e]; exact ⟨Z2.x0, h.z.at_.lt, Z2.nx⟩
      · rw [e]; exact ⟨Lw2.po.1, h.lw.led.lt, fun e' => Lw2.po.2 (.inl e')⟩
      · exact ⟨Lw2.vo i (.inl e), (h.lw.ali.own i e).1, fun e' => (Lw2.ali.own i e).2 (.inl (.inl e'))⟩
    refine ⟨u2, rfl, ((hu.kept K2 (by simp)).kept K3 (fun i hi hm => ?_)).ints (by omega), hu2.ints (by omega), _, _, g', f', vi', li', vq', hP, PlX.wz Z2 hq K3 (fun i hi => ⟨(hoff i hi).1, (hoff i hi).2.2⟩) W3, L3, hi3, h.hr⟩
    have h1 := (hu.lt hi).1
    have h2 := (hoff i hm).2.1
    omega
/-- while the disks lose their power, one after another. -/
structure PlC (w0 w : World) (x pd pl pk pw : Nat) (r s t : Int) (k : Nat) (S : FS) (L : LS) (F : Nat → Prop) (f : Fps) (vf vl : Value) (vi : Value) (li : List (Value × List Int)) (vrc : Value) (lr : List (Value × List Int)) (vq : Value) (tq : List (Int × Int)) : Prop where
  pf : PlF S L r s t k
  z : Dz w0 w pd pl pk S.d L.dd L.dk F f
  wd : Wd w x vf vl (.pointer (some ⟨pd, 0, none⟩)) (.pointer (some ⟨pl, 0, none⟩)) (.pointer (some ⟨pk, 0, none⟩)) r s t (.pointer (some ⟨pw, 0, none⟩)) vrc vq
  lw : Lw w0 w (fun i => F i ∨ f.tot i) x pw vi li vrc lr vq tq
  nx : ¬ (F x ∨ f.tot x)
  x0 : w0.heap.size ≤ x
  hi : li.map (·.2) = L.its
  hr : lr.map (·.2) = S.rc
theorem PlX.plc (h : PlX w0 w x p l pd pl pk pw r s t k S L g f vi li vrc lr vq) : PlC w0 w x pd pl pk pw r s t k S L g.tot f (.pointer (some ⟨p, 0, none⟩)) (.pointer (some ⟨l, 0, none⟩)) vi li vrc lr vq (tqP L.its.length S.ms) := ⟨h.pf, h.z.bo.dz, h.wd, h.lw, h.z.nx, h.z.x0, h.hi, h.hr⟩
variable {F : Nat → Prop} {vf vl : Value} {tq : List (Int × Int)}
theorem PlC.stp {F' : Nat → Prop} {f' : Fps} (h : PlC w0 w x pd pl pk pw r s t k S L F f vf vl vi li vrc lr vq tq) (Z : Dz w0 w' pd pl pk S.d L.dd L.dk F' f') (T : Stp (fun i => F i ∨ f.tot i) w w' (fun i => F' i ∨ f'.tot i)) : PlC w0 w' x pd pl pk pw r s t k S L F' f' vf vl vi li vrc lr vq tq :=
  ⟨h.pf, Z, T.heap h.wd h.nx, h.lw.fstep T, T.off h.wd.lt h.nx, h.x0, h.hi, h.hr⟩
theorem plc_a (h : PlC w0 w x pd pl pk pw r s t k S L F f vf vl vi li vrc lr vq tq) : Calls Tryz.prog 25 #[.pointer (some ⟨pd, 0, none⟩), .int .i64 0] w fun e w' => e = .returned (.tuple #[]) ∧ ∃ F' f', PlC w0 w' x pd pl pk pw r s t k S L F' f' vf vl vi li vrc lr vq tq := by
  refine (dz_crash h.z 0 (show S.d.crash 0 = S.d by rw [h.pf.d]; exact crash0 _)).mono ?_
  rintro e w' ⟨rfl, F', Z, T⟩
  exact ⟨rfl, F', f, h.stp Z T⟩
theorem plc_b (h : PlC w0 w x pd pl pk pw r s t k S L F f vf vl vi li vrc lr vq tq) : Calls Tryz.prog 25 #[.pointer (some ⟨pl, 0, none⟩), .int .i64 0] w fun e w' => e = .returned (.tuple #[]) ∧ ∃ F' f', PlC w0 w' x pd pl pk pw r s t k S L F' f' vf vl vi li vrc lr vq tq := by
  refine (dz_crashD h.z 0 (show L.dd.crash 0 = L.dd by obtain ⟨rs, -, e, -⟩ := h.pf.dd; rw [e]; exact crash0 _)).mono ?_
  rintro e w' ⟨rfl, f', Z, T⟩
  exact ⟨rfl, F, f', h.stp Z T⟩
theorem plc_c (h : PlC w0 w x pd pl pk pw r s t k S L F f vf vl vi li vrc lr vq tq) : Calls Tryz.prog 25 #[.pointer (some ⟨pk, 0, none⟩), .int .i64 0] w fun e w' => e = .returned (.tuple #[]) ∧ ∃ F' f', PlC w0 w' x pd pl pk pw r s t k S L F' f' vf vl vi li vrc lr vq tq := by
  refine (dz_crashK h.z 0 (show L.dk.crash 0 = L.dk by rw [h.pf.dk]; exact crash0 _)).mono ?_
  rintro e w' ⟨rfl, f', Z, T⟩
  exact ⟨rfl, F, f', h.stp Z T⟩
theorem plc_again (h : PlC w0 w x pd pl pk pw r s t k S L F f vf vl vi li vrc lr vq tq) (hk : k ≤ 40) (h1 : 1 ≤ r) (h2 : r ≤ 16) (h3 : 1 ≤ s) (h4 : s ≤ 8) (h5 : 0 ≤ t) (h6 : t ≤ 1000) : Calls Tryz.prog 52 #[.pointer (some ⟨x, 0, none⟩)] w fun e w' => e = .returned (.bool true) ∧ ∃ p l S' L' g' f' vq', PlX w0 w' x p l pd pl pk pw r s t (k + 1) S' L' g' f' vi li vrc lr vq' := by
  refine (fagain_any h.wd h.z h.lw h.nx h.x0 h.pf hk h.hi h.hr h1 h2 h3 h4 h5 h6).mono ?_
  rintro e w' ⟨rfl, p, l, g, f', S', L', vq', B, W, X, Q, P, e1, e2⟩
  exact ⟨rfl, p, l, S', L', g, f', vq', P, ⟨B, by rw [P.room, P.size, P.wait]; exact W, X, h.x0⟩, by rw [e1]; exact Q, by rw [e1]; exact h.hi, by rw [e2]; exact h.hr⟩
end
end Go.Proofs.YteabdojjllfcpaaGreat

/-
  The law's own look at a front: what waits, the receipts, the ledger's size.
-/
namespace Go.Proofs.YteabdojjllfcpaaGreat
open Go.RowKit
open Go.Proofs
set_option linter.unusedVariables false
section
variable {w0 w : World} {x p l pd pl pk pw : Nat} {r s t : Int} {k : Nat} {S : FS} {L : LS} {g f : Fps} {vi : Value} {li : List (Value × List Int)} {vrc : Value} {lr : List (Value × List Int)} {vq : Value}
set_option maxRecDepth 100000 in
set_option maxHeartbeats 16000000 in
theorem ftells_any (h : PlX w0 w x p l pd pl pk pw r s t k S L g f vi li vrc lr vq) (hk : k ≤ 41) :
    Calls Tryz.prog 53 #[.pointer (some ⟨x, 0, none⟩)] w fun e w' => e = .returned (.bool true) ∧ Kp [] w w' := by
  obtain ⟨qa, qc, evq, -⟩ := id h.lw.q
  obtain ⟨nq, hnq⟩ : ∃ n, n = (tqP L.its.length S.ms).length := ⟨_, rfl⟩
  rw [← hnq] at evq
  subst evq
  rw [tqP_len] at hnq
  obtain ⟨ra, rcp, evr⟩ := h.lw.alr.row.1.1.shape
  obtain ⟨nr, hnr⟩ : ∃ n, n = S.rc.length := ⟨_, rfl⟩
  rw [List.length_map, ← List.length_map (f := (·.2)), h.hr, ← hnr] at evr
  subst evr
  obtain ⟨ia, ic, evi⟩ := h.lw.ali.row.1.1.shape
  obtain ⟨ni, hni⟩ : ∃ n, n = L.its.length := ⟨_, rfl⟩
  rw [List.length_map, ← List.length_map (f := (·.2)), h.hi, ← hni] at evi
  subst evi
  obtain ⟨c1, c2, c3, c4, c5, c6, c7, c8, hld⟩ := h.lw.led
  have HLd : Hid (∀ w', Kp [] w.drew w' → w'.heap[pw]? = some (.cells #[.slice ia ni ic, c1, c2, c3, c4, c5, c6, c7, c8] 152 (0, 0))) := hide (fun w' k' => ((kp_drew w).trans k').heap hld (by simp))
  have HX := hide h
  have HXd : Hid (∀ w', Kp [] w.drew w' → PlX w0 w' x p l pd pl pk pw r s t k S L g f (.slice ia ni ic) li (.slice ra nr rcp) lr (.slice qa nq qc)) := hide (fun w' k' => HX.out.on ((kp_drew w).trans k'))
  have HWd : Hid (∀ w', Kp [] w.drew w' → Wd w' x (.pointer (some ⟨p, 0, none⟩)) (.pointer (some ⟨l, 0, none⟩)) (.pointer (some ⟨pd, 0, none⟩)) (.pointer (some ⟨pl, 0, none⟩)) (.pointer (some ⟨pk, 0, none⟩)) r s t (.pointer (some ⟨pw, 0, none⟩)) (.slice ra nr rcp) (.slice qa nq qc)) := hide (fun w' k' => (HX.out.on ((kp_drew w).trans k')).wd)
  have HNq := hide hnq
  have HNr := hide hnr
  have HNi : Hid ((ni : Int) = L.its.length) := hide (by omega)
  have hrb : nr ≤ 1000 := by have := h.pf.len; omega
  have Hrb := hide hrb
  clear h hnq hnr hni hld hk hrb
  go_enter Tryz.func53, Tryz.ntmps53
  go_wp2_with fail
  refine region_grow Tryz.mixed [Is (.pointer (some ⟨x, 0, none⟩)), Is (.pointer (some ⟨x, 0, none⟩)), Is (.pointer (some ⟨x, 0, none⟩)), Is (.pointer (some ⟨p, 0, none⟩)), Is (.int .i64 nq), Is (.pointer (some ⟨x, 0, none⟩)), Is (.pointer (some ⟨x, 0, none⟩)), Is (.pointer (some ⟨x, 10, none⟩)), Is (.slice qa nq qc), Is (.int .i64 nq), Is (.bool false), Is (.bool false), Is (.pointer (some ⟨x, 0, none⟩)), Is (.pointer (some ⟨x, 0, none⟩)), Is (.pointer (some ⟨x, 0, none⟩)), Is (.pointer (some ⟨p, 0, none⟩)), Is (.int .i64 nr), Is (.pointer (some ⟨x, 0, none⟩)), Is (.pointer (some ⟨x, 0, none⟩)), Is (.pointer (some ⟨x, 9, none⟩)), Is (.slice ra nr rcp), Is (.int .i64 nr), Is (.bool false), Is (.bool false), Is (.bool false), Is (.pointer (some ⟨x, 0, none⟩)), Is (.pointer (some ⟨x, 0, none⟩)), Is (.pointer (some ⟨x, 1, none⟩)), Is (.pointer (some ⟨l, 0, none⟩)), Is (.int .i64 ni), Is (.pointer (some ⟨x, 0, none⟩)), Is (.pointer (some ⟨x, 0, none⟩)), Is (.pointer (some ⟨x, 8, none⟩)), Is (.pointer (some ⟨pw, 0, none⟩)), Is (.pointer (some ⟨pw, 0, none⟩)), Is (.pointer (some ⟨pw, 0, none⟩)), Is (.slice ia ni ic), Is (.int .i64 ni), Is (.bool false), Is (.bool false)] [[(0, none)], [(7, some 0)], [(8, some 1)], [(9, some 2)], [(10, some 3)], [(0, none)], [(12, some 5)], [(13, some 6)], [(14, some 7)], [(15, some 8)], [(11, some 4), (16, some 9)], [(17, some 10)], [(0, none), (18, some 11)], [(19, some 12), (18, some 11)], [(20, some 13), (18, some 11)], [(21, some 14), (18, some 11)], [(22, some 15), (18, some 11)], [(0, none), (18, some 11)], [(24, some 17), (18, some 11)], [(25, some 18), (18, some 11)], [(26, some 19), (18, some 11)], [(27, some 20), (18, some 11)], [(23, some 16), (28, some 21), (18, some 11)], [(18, some 11), (29, some 22)], [(30, some 23)], [(0, none), (31, some 24)], [(32, some 25), (31, some 24)], [(33, some 26), (31, some 24)], [(34, some 27), (31, some 24)], [(35, some 28), (31, some 24)], [(0, none), (31, some 24)], [(37, some 30), (31, some 24)], [(38, some 31), (31, some 24)], [(39, some 32), (31, some 24)], [(40, some 33), (31, some 24)], [(41, some 34), (31, some 24)], [(42, some 35), (31, some 24)], [(43, some 36), (31, some 24)], [(36, some 29), (44, some 37), (31, some 24)], [(31, some 24), (45, some 38)]] (by kernel_rfl) ?_ ?_ ?_
  · simp only [List.mem_cons, List.not_mem_nil, or_false]
    intro R hR
    rcases hR with rfl | rfl | rfl | rfl | rfl | rfl | rfl | rfl | rfl | rfl | rfl | rfl | rfl | rfl | rfl | rfl | rfl | rfl | rfl | rfl | rfl | rfl | rfl | rfl | rfl | rfl | rfl | rfl | rfl | rfl | rfl | rfl | rfl | rfl | rfl | rfl | rfl | rfl | rfl | rfl <;> first | exact stable_is _
  · refine steps_cons (fun a w hk hn => ?_) ?_
    · have h0 : a.eval (.tmp 0) = .pointer (some ⟨x, 0, none⟩) := hn.1
      clear hn
      refine wants_plain rfl ?_
      exact grown_move (.tmp 0) rfl h0
    refine steps_cons (fun a w hk hn => ?_) ?_
    · have h7 : a.eval (.tmp 7) = .pointer (some ⟨x, 0, none⟩) := hn.1
      clear hn
      refine wants_plain rfl ?_
      refine grown_run (v := .pointer (some ⟨x, 0, none⟩)) ?_ (Kp.refl _ _) rfl
      obtain ⟨ρ, hρ, hc, hf, hg⟩ := eval_is a
      rw [hρ] at h7 ⊢
      simp [go_sem, h7]
    refine steps_cons (fun a w hk hn => ?_) ?_
    · have h8 : a.eval (.tmp 8) = .pointer (some ⟨x, 0, none⟩) := hn.1
      clear hn
      refine wants_plain rfl ?_
      refine grown_run (v := .pointer (some ⟨x, 0, none⟩)) ?_ (Kp.refl _ _) rfl
      obtain ⟨ρ, hρ, hc, hf, hg⟩ := eval_is a
      rw [hρ] at h8 ⊢
      simp [go_sem, h8]
    refine steps_cons (fun a w hk hn => ?_) ?_
    · have h9 : a.eval (.tmp 9) = .pointer (some ⟨x, 0, none⟩) := hn.1
      clear hn
      refine wants_plain rfl ?_
      refine grown_run (v := .pointer (some ⟨p, 0, none⟩)) ?_ (Kp.refl _ _) rfl
      have hcell : w.cell? ⟨x, 0, none⟩ = some (.pointer (some ⟨p, 0, none⟩)) := by rw [cell_of_row w x 0 _ _ _ (HWd.out w hk)]; rfl
      obtain ⟨ρ, hρ, hc, hf, hg⟩ := eval_is a
      rw [hρ] at h9 ⊢
      simp [go_sem, h9, hcell]
    refine steps_cons (fun a w hk hn => ?_) ?_
    · have h10 : a.eval (.tmp 10) = .pointer (some ⟨p, 0, none⟩) := hn.1
      clear hn
      refine wants_plain rfl ?_
      refine grown_call (f := 16) rfl Tryz.func16 (by kernel_rfl) (by kernel_rfl) ?_
      simp only [List.map_toArray, List.map_cons, List.map_nil, h10]
      refine (fwaits_any (HXd.out w hk).z.bo.fr nq HNq.out).mono ?_
      rintro e w' ⟨rfl, rfl⟩
      exact ⟨_, rfl, Kp.refl _ _, rfl⟩
    refine steps_cons (fun a w hk hn => ?_) ?_
    · have h0 : a.eval (.tmp 0) = .pointer (some ⟨x, 0, none⟩) := hn.1
      clear hn
      refine wants_plain rfl ?_
      exact grown_move (.tmp 0) rfl h0
    refine steps_cons (fun a w hk hn => ?_) ?_
    · have h12 : a.eval (.tmp 12) = .pointer (some ⟨x, 0, none⟩) := hn.1
      clear hn
      refine wants_plain rfl ?_
      refine grown_run (v := .pointer (some ⟨x, 0, none⟩)) ?_ (Kp.refl _ _) rfl
      obtain ⟨ρ, hρ, hc, hf, hg⟩ := eval_is a
      rw [hρ] at h12 ⊢
      simp [go_sem, h12]
    refine steps_cons (fun a w hk hn => ?_) ?_
    · have h13 : a.eval (.tmp 13) = .pointer (some ⟨x, 0, none⟩) := hn.1
      clear hn
      refine wants_plain rfl ?_
      refine grown_run (v := .pointer (some ⟨x, 10, none⟩)) ?_ (Kp.refl _ _) rfl
      obtain ⟨ρ, hρ, hc, hf, hg⟩ := eval_is a
      rw [hρ] at h13 ⊢
      simp [go_sem, h13]
    refine steps_cons (fun a w hk hn => ?_) ?_
    · have h14 : a.eval (.tmp 14) = .pointer (some ⟨x, 10, none⟩) := hn.1
      clear hn
      refine wants_plain rfl ?_
      refine grown_run (v := .slice qa nq qc) ?_ (Kp.refl _ _) rfl
      have hcell : w.cell? ⟨x, 10, none⟩ = some (.slice qa nq qc) := by rw [cell_of_row w x 10 _ _ _ (HWd.out w hk)]; rfl
      obtain ⟨ρ, hρ, hc, hf, hg⟩ := eval_is a
      rw [hρ] at h14 ⊢
      simp [go_sem, h14, hcell]
    refine steps_cons (fun a w hk hn => ?_) ?_
    · have h15 : a.eval (.tmp 15) = .slice qa nq qc := hn.1
      clear hn
      refine wants_plain rfl ?_
      refine grown_run (v := .int .i64 nq) ?_ (Kp.refl _ _) rfl
      obtain ⟨ρ, hρ, hc, hf, hg⟩ := eval_is a
      rw [hρ] at h15 ⊢
      simp [go_sem, h15]
    refine steps_cons (fun a w hk hn => ?_) ?_
    · have h11 : a.eval (.tmp 11) = .int .i64 nq := hn.1
      have h16 : a.eval (.tmp 16) = .int .i64 nq := hn.2.1
      clear hn
      refine wants_plain rfl ?_
      refine grown_run (v := .bool false) ?_ (Kp.refl _ _) rfl
      obtain ⟨ρ, hρ, hc, hf, hg⟩ := eval_is a
      rw [hρ] at h11 h16 ⊢
      simp [go_sem, h11, h16]
    refine steps_cons (fun a w hk hn => ?_) ?_
    · have h17 : a.eval (.tmp 17) = .bool false := hn.1
      clear hn
      refine wants_plain rfl ?_
      exact grown_move (.tmp 17) rfl h17
    refine steps_cons (fun a w hk hn => ?_) ?_
    · have h0 : a.eval (.tmp 0) = .pointer (some ⟨x, 0, none⟩) := hn.1
      have h18 : a.eval (.tmp 18) = .bool false := hn.2.1
      clear hn
      refine wants_guard (d := 18) rfl rfl h18 ?_
      exact grown_move (.tmp 0) rfl h0
    refine steps_cons (fun a w hk hn => ?_) ?_
    · have h19 : a.eval (.tmp 19) = .pointer (some ⟨x, 0, none⟩) := hn.1
      have h18 : a.eval (.tmp 18) = .bool false := hn.2.1
      clear hn
      refine wants_guard (d := 18) rfl rfl h18 ?_
      refine grown_run (v := .pointer (some ⟨x, 0, none⟩)) ?_ (Kp.refl _ _) rfl
      obtain ⟨ρ, hρ, hc, hf, hg⟩ := eval_is a
      rw [hρ] at h19 ⊢
      simp [go_sem, h19]
    refine steps_cons (fun a w hk hn => ?_) ?_
    · have h20 : a.eval (.tmp 20) = .pointer (some ⟨x, 0, none⟩) := hn.1
      have h18 : a.eval (.tmp 18) = .bool false := hn.2.1
      clear hn
      refine wants_guard (d := 18) rfl rfl h18 ?_
      refine grown_run (v := .pointer (some ⟨x, 0, none⟩)) ?_ (Kp.refl _ _) rfl
      obtain ⟨ρ, hρ, hc, hf, hg⟩ := eval_is a
      rw [hρ] at h20 ⊢
      simp [go_sem, h20]
    refine steps_cons (fun a w hk hn => ?_) ?_
    · have h21 : a.eval (.tmp 21) = .pointer (some ⟨x, 0, none⟩) := hn.1
      have h18 : a.eval (.tmp 18) = .bool false := hn.2.1
      clear hn
      refine wants_guard (d := 18) rfl rfl h18 ?_
      refine grown_run (v := .pointer (some ⟨p, 0, none⟩)) ?_ (Kp.refl _ _) rfl
      have hcell : w.cell? ⟨x, 0, none⟩ = some (.pointer (some ⟨p, 0, none⟩)) := by rw [cell_of_row w x 0 _ _ _ (HWd.out w hk)]; rfl
      obtain ⟨ρ, hρ, hc, hf, hg⟩ := eval_is a
      rw [hρ] at h21 ⊢
      simp [go_sem, h21, hcell]
    refine steps_cons (fun a w hk hn => ?_) ?_
    · have h22 : a.eval (.tmp 22) = .pointer (some ⟨p, 0, none⟩) := hn.1
      have h18 : a.eval (.tmp 18) = .bool false := hn.2.1
      clear hn
      refine wants_guard (d := 18) rfl rfl h18 ?_
      refine grown_call (f := 17) rfl Tryz.func17 (by kernel_rfl) (by kernel_rfl) ?_
      simp only [List.map_toArray, List.map_cons, List.map_nil, h22]
      refine (frcs_any (HXd.out w hk).z.bo.fr nr HNr.out).mono ?_
      rintro e w' ⟨rfl, rfl⟩
      exact ⟨_, rfl, Kp.refl _ _, rfl⟩
    refine steps_cons (fun a w hk hn => ?_) ?_
    · have h0 : a.eval (.tmp 0) = .pointer (some ⟨x, 0, none⟩) := hn.1
      have h18 : a.eval (.tmp 18) = .bool false := hn.2.1
      clear hn
      refine wants_guard (d := 18) rfl rfl h18 ?_
      exact grown_move (.tmp 0) rfl h0
    refine steps_cons (fun a w hk hn => ?_) ?_
    · have h24 : a.eval (.tmp 24) = .pointer (some ⟨x, 0, none⟩) := hn.1
      have h18 : a.eval (.tmp 18) = .bool false := hn.2.1
      clear hn
      refine wants_guard (d := 18) rfl rfl h18 ?_
      refine grown_run (v := .pointer (some ⟨x, 0, none⟩)) ?_ (Kp.refl _ _) rfl
      obtain ⟨ρ, hρ, hc, hf, hg⟩ := eval_is a
      rw [hρ] at h24 ⊢
      simp [go_sem, h24]
    refine steps_cons (fun a w hk hn => ?_) ?_
    · have h25 : a.eval (.tmp 25) = .pointer (some ⟨x, 0, none⟩) := hn.1
      have h18 : a.eval (.tmp 18) = .bool false := hn.2.1
      clear hn
      refine wants_guard (d := 18) rfl rfl h18 ?_
      refine grown_run (v := .pointer (some ⟨x, 9, none⟩)) ?_ (Kp.refl _ _) rfl
      obtain ⟨ρ, hρ, hc, hf, hg⟩ := eval_is a
      rw [hρ] at h25 ⊢
      simp [go_sem, h25]
    refine steps_cons (fun a w hk hn => ?_) ?_
    · have h26 : a.eval (.tmp 26) = .pointer (some ⟨x, 9, none⟩) := hn.1
      have h18 : a.eval (.tmp 18) = .bool false := hn.2.1
      clear hn
      refine wants_guard (d := 18) rfl rfl h18 ?_
      refine grown_run (v := .slice ra nr rcp) ?_ (Kp.refl _ _) rfl
      have hcell : w.cell? ⟨x, 9, none⟩ = some (.slice ra nr rcp) := by rw [cell_of_row w x 9 _ _ _ (HWd.out w hk)]; rfl
      obtain ⟨ρ, hρ, hc, hf, hg⟩ := eval_is a
      rw [hρ] at h26 ⊢
      simp [go_sem, h26, hcell]
    refine steps_cons (fun a w hk hn => ?_) ?_
    · have h27 : a.eval (.tmp 27) = .slice ra nr rcp := hn.1
      have h18 : a.eval (.tmp 18) = .bool false := hn.2.1
      clear hn
      refine wants_guard (d := 18) rfl rfl h18 ?_
      refine grown_run (v := .int .i64 nr) ?_ (Kp.refl _ _) rfl
      obtain ⟨ρ, hρ, hc, hf, hg⟩ := eval_is a
      rw [hρ] at h27 ⊢
      simp [go_sem, h27]
    refine steps_cons (fun a w hk hn => ?_) ?_
    · have h23 : a.eval (.tmp 23) = .int .i64 nr := hn.1
      have h28 : a.eval (.tmp 28) = .int .i64 nr := hn.2.1
      have h18 : a.eval (.tmp 18) = .bool false := hn.2.2.1
      clear hn
      refine wants_guard (d := 18) rfl rfl h18 ?_
      refine grown_run (v := .bool false) ?_ (Kp.refl _ _) rfl
      obtain ⟨ρ, hρ, hc, hf, hg⟩ := eval_is a
      rw [hρ] at h23 h28 ⊢
      simp [go_sem, h23, h28]
    refine steps_cons (fun a w hk hn => ?_) ?_
    · have h18 : a.eval (.tmp 18) = .bool false := hn.1
      have h29 : a.eval (.tmp 29) = .bool false := hn.2.1
      clear hn
      refine wants_plain rfl ?_
      exact grown_pick _ _ _ false rfl h18 h29
    refine steps_cons (fun a w hk hn => ?_) ?_
    · have h30 : a.eval (.tmp 30) = .bool false := hn.1
      clear hn
      refine wants_plain rfl ?_
      exact grown_move (.tmp 30) rfl h30
    refine steps_cons (fun a w hk hn => ?_) ?_
    · have h0 : a.eval (.tmp 0) = .pointer (some ⟨x, 0, none⟩) := hn.1
      have h31 : a.eval (.tmp 31) = .bool false := hn.2.1
      clear hn
      refine wants_guard (d := 31) rfl rfl h31 ?_
      exact grown_move (.tmp 0) rfl h0
    refine steps_cons (fun a w hk hn => ?_) ?_
    · have h32 : a.eval (.tmp 32) = .pointer (some ⟨x, 0, none⟩) := hn.1
      have h31 : a.eval (.tmp 31) = .bool false := hn.2.1
      clear hn
      refine wants_guard (d := 31) rfl rfl h31 ?_
      refine grown_run (v := .pointer (some ⟨x, 0, none⟩)) ?_ (Kp.refl _ _) rfl
      obtain ⟨ρ, hρ, hc, hf, hg⟩ := eval_is a
      rw [hρ] at h32 ⊢
      simp [go_sem, h32]
    refine steps_cons (fun a w hk hn => ?_) ?_
    · have h33 : a.eval (.tmp 33) = .pointer (some ⟨x, 0, none⟩) := hn.1
      have h31 : a.eval (.tmp 31) = .bool false := hn.2.1
      clear hn
      refine wants_guard (d := 31) rfl rfl h31 ?_
      refine grown_run (v := .pointer (some ⟨x, 1, none⟩)) ?_ (Kp.refl _ _) rfl
      obtain ⟨ρ, hρ, hc, hf, hg⟩ := eval_is a
      rw [hρ] at h33 ⊢
      simp [go_sem, h33]
    refine steps_cons (fun a w hk hn => ?_) ?_
    · have h34 : a.eval (.tmp 34) = .pointer (some ⟨x, 1, none⟩) := hn.1
      have h31 : a.eval (.tmp 31) = .bool false := hn.2.1
      clear hn
      refine wants_guard (d := 31) rfl rfl h31 ?_
      refine grown_run (v := .pointer (some ⟨l, 0, none⟩)) ?_ (Kp.refl _ _) rfl
      have hcell : w.cell? ⟨x, 1, none⟩ = some (.pointer (some ⟨l, 0, none⟩)) := by rw [cell_of_row w x 1 _ _ _ (HWd.out w hk)]; rfl
      obtain ⟨ρ, hρ, hc, hf, hg⟩ := eval_is a
      rw [hρ] at h34 ⊢
      simp [go_sem, h34, hcell]
    refine steps_cons (fun a w hk hn => ?_) ?_
    · have h35 : a.eval (.tmp 35) = .pointer (some ⟨l, 0, none⟩) := hn.1
      have h31 : a.eval (.tmp 31) = .bool false := hn.2.1
      clear hn
      refine wants_guard (d := 31) rfl rfl h31 ?_
      refine grown_call (f := 29) rfl Tryz.func29 (by kernel_rfl) (by kernel_rfl) ?_
      simp only [List.map_toArray, List.map_cons, List.map_nil, h35]
      refine (usize_any (HXd.out w hk).z.bo.lg (ni : Nat) HNi.out).mono ?_
      rintro e w' ⟨rfl, rfl⟩
      exact ⟨_, rfl, Kp.refl _ _, rfl⟩
    refine steps_cons (fun a w hk hn => ?_) ?_
    · have h0 : a.eval (.tmp 0) = .pointer (some ⟨x, 0, none⟩) := hn.1
      have h31 : a.eval (.tmp 31) = .bool false := hn.2.1
      clear hn
      refine wants_guard (d := 31) rfl rfl h31 ?_
      exact grown_move (.tmp 0) rfl h0
    refine steps_cons (fun a w hk hn => ?_) ?_
    · have h37 : a.eval (.tmp 37) = .pointer (some ⟨x, 0, none⟩) := hn.1
      have h31 : a.eval (.tmp 31) = .bool false := hn.2.1
      clear hn
      refine wants_guard (d := 31) rfl rfl h31 ?_
      refine grown_run (v := .pointer (some ⟨x, 0, none⟩)) ?_ (Kp.refl _ _) rfl
      obtain ⟨ρ, hρ, hc, hf, hg⟩ := eval_is a
      rw [hρ] at h37 ⊢
      simp [go_sem, h37]
    refine steps_cons (fun a w hk hn => ?_) ?_
    · have h38 : a.eval (.tmp 38) = .pointer (some ⟨x, 0, none⟩) := hn.1
      have h31 : a.eval (.tmp 31) = .bool false := hn.2.1
      clear hn
      refine wants_guard (d := 31) rfl rfl h31 ?_
      refine grown_run (v := .pointer (some ⟨x, 8, none⟩)) ?_ (Kp.refl _ _) rfl
      obtain ⟨ρ, hρ, hc, hf, hg⟩ := eval_is a
      rw [hρ] at h38 ⊢
      simp [go_sem, h38]
    refine steps_cons (fun a w hk hn => ?_) ?_
    · have h39 : a.eval (.tmp 39) = .pointer (some ⟨x, 8, none⟩) := hn.1
      have h31 : a.eval (.tmp 31) = .bool false := hn.2.1
      clear hn
      refine wants_guard (d := 31) rfl rfl h31 ?_
      refine grown_run (v := .pointer (some ⟨pw, 0, none⟩)) ?_ (Kp.refl _ _) rfl
      have hcell : w.cell? ⟨x, 8, none⟩ = some (.pointer (some ⟨pw, 0, none⟩)) := by rw [cell_of_row w x 8 _ _ _ (HWd.out w hk)]; rfl
      obtain ⟨ρ, hρ, hc, hf, hg⟩ := eval_is a
      rw [hρ] at h39 ⊢
      simp [go_sem, h39, hcell]
    refine steps_cons (fun a w hk hn => ?_) ?_
    · have h40 : a.eval (.tmp 40) = .pointer (some ⟨pw, 0, none⟩) := hn.1
      have h31 : a.eval (.tmp 31) = .bool false := hn.2.1
      clear hn
      refine wants_guard (d := 31) rfl rfl h31 ?_
      refine grown_run (v := .pointer (some ⟨pw, 0, none⟩)) ?_ (Kp.refl _ _) rfl
      obtain ⟨ρ, hρ, hc, hf, hg⟩ := eval_is a
      rw [hρ] at h40 ⊢
      simp [go_sem, h40]
    refine steps_cons (fun a w hk hn => ?_) ?_
    · have h41 : a.eval (.tmp 41) = .pointer (some ⟨pw, 0, none⟩) := hn.1
      have h31 : a.eval (.tmp 31) = .bool false := hn.2.1
      clear hn
      refine wants_guard (d := 31) rfl rfl h31 ?_
      refine grown_run (v := .pointer (some ⟨pw, 0, none⟩)) ?_ (Kp.refl _ _) rfl
      obtain ⟨ρ, hρ, hc, hf, hg⟩ := eval_is a
      rw [hρ] at h41 ⊢
      simp [go_sem, h41]
    refine steps_cons (fun a w hk hn => ?_) ?_
    · have h42 : a.eval (.tmp 42) = .pointer (some ⟨pw, 0, none⟩) := hn.1
      have h31 : a.eval (.tmp 31) = .bool false := hn.2.1
      clear hn
      refine wants_guard (d := 31) rfl rfl h31 ?_
      refine grown_run (v := .slice ia ni ic) ?_ (Kp.refl _ _) rfl
      have hcell : w.cell? ⟨pw, 0, none⟩ = some (.slice ia ni ic) := by rw [cell_of_row w pw 0 _ _ _ (HLd.out w hk)]; rfl
      obtain ⟨ρ, hρ, hc, hf, hg⟩ := eval_is a
      rw [hρ] at h42 ⊢
      simp [go_sem, h42, hcell]
    refine steps_cons (fun a w hk hn => ?_) ?_
    · have h43 : a.eval (.tmp 43) = .slice ia ni ic := hn.1
      have h31 : a.eval (.tmp 31) = .bool false := hn.2.1
      clear hn
      refine wants_guard (d := 31) rfl rfl h31 ?_
      refine grown_run (v := .int .i64 ni) ?_ (Kp.refl _ _) rfl
      obtain ⟨ρ, hρ, hc, hf, hg⟩ := eval_is a
      rw [hρ] at h43 ⊢
      simp [go_sem, h43]
    refine steps_cons (fun a w hk hn => ?_) ?_
    · have h36 : a.eval (.tmp 36) = .int .i64 ni := hn.1
      have h44 : a.eval (.tmp 44) = .int .i64 ni := hn.2.1
      have h31 : a.eval (.tmp 31) = .bool false := hn.2.2.1
      clear hn
      refine wants_guard (d := 31) rfl rfl h31 ?_
      refine grown_run (v := .bool false) ?_ (Kp.refl _ _) rfl
      obtain ⟨ρ, hρ, hc, hf, hg⟩ := eval_is a
      rw [hρ] at h36 h44 ⊢
      simp [go_sem, h36, h44]
    refine steps_cons (fun a w hk hn => ?_) ?_
    · have h31 : a.eval (.tmp 31) = .bool false := hn.1
      have h45 : a.eval (.tmp 45) = .bool false := hn.2.1
      clear hn
      refine wants_plain rfl ?_
      exact grown_pick _ _ _ false rfl h31 h45
    exact trivial
  intro W1 hkW1
  rintro _ rfl
  rintro _ rfl
  rintro _ rfl
  rintro _ rfl
  rintro _ rfl
  rintro _ rfl
  rintro _ rfl
  rintro _ rfl
  rintro _ rfl
  rintro _ rfl
  rintro _ rfl
  rintro _ rfl
  rintro _ rfl
  rintro _ rfl
  rintro _ rfl
  rintro _ rfl
  rintro _ rfl
  rintro _ rfl
  rintro _ rfl
  rintro _ rfl
  rintro _ rfl
  rintro _ rfl
  rintro _ rfl
  rintro _ rfl
  rintro _ rfl
  rintro _ rfl
  rintro _ rfl
  rintro _ rfl
  rintro _ rfl
  rintro _ rfl
  rintro _ rfl
  rintro _ rfl
  rintro _ rfl
  rintro _ rfl
  rintro _ rfl
  rintro _ rfl
  rintro _ rfl
  rintro _ rfl
  rintro _ rfl
  rintro _ rfl
  refine fin_nil ?_
  simp only [Act.put, List.set_cons_zero, List.set_cons_succ, List.setIfInBounds_toArray]
  have HX1 := hide (HX.out.on ((kp_drew w).trans hkW1))
  have HK1 := hide ((kp_drew w).trans hkW1)
  clear hkW1 HX HXd HWd HLd
  go_wp2_with fail
  go_loopw [3] (fun i wr => ∃ c : Int, -1 ≤ c ∧ c ≤ nr + 1 ∧ i = .int .i64 c ∧ Kp [] W1 wr) (fun i _ => (nr + 1 - intOf i).toNat)
  case atStart => exact ⟨-1, by omega, by omega, rfl, Kp.refl _ _⟩
  case round =>
    obtain ⟨c, hc0, hc1, rfl, Kr⟩ := hrel
    have HKr := hide Kr
    have hrb := Hrb.out
    have hx9 := (HX1.out.on Kr).wd.c9
    have hx0 := (HX1.out.on Kr).wd.c0
    have hwr : IntKind.i64.wrap (c + 1) = c + 1 := by simp [IntKind.wrap, IntKind.signed, IntKind.bits]; omega
    clear Kr
    by_cases hgo : c ≤ (nr : Int)
    · have hdg : decide (c ≤ (nr : Int)) = true := decide_eq_true hgo
      by_cases hin : 0 ≤ c ∧ c < (nr : Int)
      · obtain ⟨m, rfl⟩ : ∃ m : Nat, c = (m : Int) := ⟨c.toNat, by omega⟩
        have hmr : m < S.rc.length := by have := HNr.out; omega
        have HXr := hide (HX1.out.on HKr.out)
        obtain ⟨bb, hbb⟩ : ∃ b, b = S.rc[m] := ⟨_, rfl⟩
        have HRe := hide (frec_ok HXr.out.z.bo.fr m hmr bb hbb)
        have hml : m < lr.length := by have := congrArg List.length HXr.out.hr; rw [List.length_map] at this; omega
        obtain ⟨gr, hgr, hcr⟩ := HXr.out.lw.alr.row.1.1.at m (by rw [List.length_map]; exact hml)
        subst hgr
        rw [List.getElem_map] at hcr
        obtain ⟨hSn, hBn⟩ := HXr.out.lw.alr.row.1.2 _ (List.getElem_mem hml)
        have hrn : lr[m].2 = bb := by
          have h1 : (lr.map (·.2))[m]'(by rw [List.length_map]; exact hml) = S.rc[m] := by simp only [HXr.out.hr]
          rw [hbb, ← h1, List.getElem_map]
        rw [hrn] at hSn
        obtain ⟨an2, cn2, evn, -⟩ := id hSn
        obtain ⟨mn, hmn⟩ : ∃ m, m = bb.length := ⟨_, rfl⟩
        rw [← hmn] at evn
        rw [evn] at hSn hcr
        rw [← hmn] at HRe
        have HSn := hide hSn
        have Hcr := hide hcr
        have hm0 : (0 : Int) ≤ (m : Int) := by omega
        have hd0 : decide ((m : Int) ≥ 0) = true := decide_eq_true hm0
        have hm1 : (m : Int) < (nr : Int) := hin.2
        have hd1 : decide ((m : Int) < (nr : Int)) = true := decide_eq_true hm1
        obtain ⟨X, hX⟩ : ∃ X, X = strOfNums bb := ⟨_, rfl⟩
        clear hbb hmr hml hBn hrn evn hmn hSn hcr
        go_wp2_with fail
        refine HRe.out.mono ?_
        rintro ee w3 ⟨c3, rfl, S3, K3⟩
        have K3d : Kp [] wr w3.drew := K3.trans (kp_drew _)
        have e9 := (HXr.out.on K3).wd.c9
        have d9 := (HXr.out.on K3d).wd.c9
        have v1 := (S3.kept (kp_drew w3) (by simp)).conv (P := Tryz.prog) 28 9 5 Tryz.underlying28 Tryz.underlying5 Tryz.underlying9
        have v2 := (HSn.out.kept K3d (by simp)).conv (P := Tryz.prog) 28 9 5 Tryz.underlying28 Tryz.underlying5 Tryz.underlying9
        have d2 := K3d.cell Hcr.out (by simp)
        rw [← hX] at v1 v2
        obtain ⟨gs, hgs⟩ : ∃ g, g = wr.heap.size := ⟨_, rfl⟩
        rw [← hgs] at v1 ⊢
        have HK3 := hide (HKr.out.trans K3)
        clear HRe S3 K3 K3d HSn Hcr hX hgs hx9 hx0
        go_wp2_with fail
        refine region_read Tryz.mixed (by kernel_rfl) ?_
        repeat (first | go_big_quiet_skip | (go_big_quiet_want; go_big_quiet_op; go_big_quiet_on))
        refine wpQuiet_nil ?_
        go_wp2_with fail
        go_roundw
        case rel => exact ⟨(m : Int) + 1, by omega, by omega, by go_num, HK3.out.trans (kp_drew _)⟩
        case measure => simp [intOf]; omega
      · have HRe := hide (frec_no (HX1.out.on HKr.out).z.bo.fr c (by rw [← HNr.out]; omega))
        by_cases hneg : c < 0
        · have hd0 : decide (c ≥ 0) = false := decide_eq_false (by omega)
          go_wp2_with fail
          refine HRe.out.mono ?_
          rintro ee w3 ⟨rfl, hw⟩
          subst w3
          clear HRe
          go_wp2_with fail
          refine region_read Tryz.mixed (by kernel_rfl) ?_
          repeat (first | go_big_quiet_skip | (go_big_quiet_want; go_big_quiet_op; go_big_quiet_on))
          refine wpQuiet_nil ?_
          go_wp2_with fail
          go_roundw
          case rel => exact ⟨c + 1, by omega, by omega, by go_num, HKr.out.trans (kp_drew _)⟩
          case measure => simp [intOf]; omega
        · have hc2 : c = (nr : Int) := by omega
          subst hc2
          have hd0 : decide ((nr : Int) ≥ 0) = true := decide_eq_true (by omega)
          have hd1 : decide ((nr : Int) < (nr : Int)) = false := decide_eq_false (by omega)
          go_wp2_with fail
          refine HRe.out.mono ?_
          rintro ee w3 ⟨rfl, hw⟩
          subst w3
          clear HRe
          go_wp2_with fail
          refine region_read Tryz.mixed (by kernel_rfl) ?_
          repeat (first | go_big_quiet_skip | (go_big_quiet_want; go_big_quiet_op; go_big_quiet_on))
          refine wpQuiet_nil ?_
          go_wp2_with fail
          go_roundw
          case rel => exact ⟨(nr : Int) + 1, by omega, by omega, by go_num, HKr.out.trans (kp_drew _)⟩
          case measure => simp [intOf]
    · have hdg : decide (c ≤ (nr : Int)) = false := decide_eq_false hgo
      go_wp2_with fail
      go_ret
      exact ⟨rfl, HK1.out.trans HKr.out⟩
end
end Go.Proofs.YteabdojjllfcpaaGreat

/-
  The law's own play: any calls on a front, beside what the document says.
-/
namespace Go.Proofs.YteabdojjllfcpaaGreat
open Go.RowKit
open Go.Proofs
set_option linter.unusedVariables false
def PlI (w0 w : World) (x pd pl pk pw : Nat) (r s t : Int) (k : Nat) : Prop := ∃ p l S L g f vi li vrc lr vq, PlX w0 w x p l pd pl pk pw r s t k S L g f vi li vrc lr vq
section
variable {w0 w w' : World} {x p l pd pl pk pw : Nat} {r s t : Int} {k : Nat} {S : FS} {L : LS} {g f : Fps} {vi : Value} {li : List (Value × List Int)} {vrc : Value} {lr : List (Value × List Int)} {vq : Value}
theorem plx_start (h : Wz w0 w x p l pd pl pk (fs0 r s t) (ls0 (seedX 0)) g f (.pointer (some ⟨pw, 0, none⟩)) (.slice none 0 0) (.slice none 0 0)) (hR : Rf w0 w (allF g f x) pw (.slice none 0 0) (seedX 0) [] 0 none) : PlI w0 w x pd pl pk pw r s t 0 := by
  obtain ⟨og, base, sz, ix, ar, mr, cr, ap, np, cp, aq, nq, cq, lA, hR⟩ := hR
  refine ⟨p, l, _, _, g, f, .slice none 0 0, [], .slice none 0 0, [], .slice none 0 0, ⟨rfl, rfl, rfl, rfl, by simp [fs0], rfl, by simp [fs0], by simp [fs0], by simp [fs0], ⟨[], rfl, rfl, by simp, by simp⟩, by simp [ls0], rfl, by intro e he; simp [fs0] at he⟩, h, ⟨⟨_, _, _, _, _, _, _, _, hR.hp⟩, al_nil _ _ _, al_nil _ _ _, by simp, RefQ.nil _, (fun k hk => by cases hk), ⟨hR.lo, hR.nf⟩, fun k hk => by rcases hk with hk | hk <;> cases hk⟩, rfl, rfl⟩
/-- the queue and the receipts that a crash leaves. -/
theorem PlX.pli (h : PlX w0 w x p l pd pl pk pw r s t k S L g f vi li vrc lr vq) : PlI w0 w x pd pl pk pw r s t k := ⟨p, l, S, L, g, f, vi, li, vrc, lr, vq, h⟩
end
set_option maxHeartbeats 16000000 in
set_option maxRecDepth 100000 in
theorem fplay_any (r s t : Int) (vl : Value) (l0 : List AskFE) (w : World) (h1 : 1 ≤ r) (h2 : r ≤ 16) (h3 : 1 ≤ s) (h4 : s ≤ 8) (h5 : 0 ≤ t) (h6 : t ≤ 1000) (hl : AskF w vl l0) :
    Calls Tryz.prog 18 #[.int .i64 r, .int .i64 s, .int .i64 t, vl] w fun e w' => e = .returned (.bool true) ∧ Kp [] w w' := by
  obtain ⟨al, cl, rfl, hll, hcell⟩ := hl
  obtain ⟨N, hN⟩ : ∃ N, N = l0.length := ⟨_, rfl⟩
  rw [← hN] at hll ⊢
  have HN := hide hN
  have HC := hide hcell
  have HB := hide (And.intro (And.intro h1 h2) (And.intro (And.intro h3 h4) (And.intro h5 h6)))
  have HO := hide (open0_any r s t w h1 h2 h3 h4 h5 h6)
  clear hN hcell h1 h2 h3 h4 h5 h6
  go_enter Tryz.func18, Tryz.ntmps18
  go_wp2_with fail
  refine HO.out.mono ?_
  rintro ee w1 ⟨x, p1, l1, pd, pl, pk, g1, f1, pw, rfl, Z1, R1⟩
  have HP0 := hide (plx_start Z1 R1)
  clear HO Z1 R1
  go_wp2_with fail
  go_loopw [10, 11] (fun vn i wr => ∃ (k : Nat) (nw : Int), k ≤ N ∧ k ≤ 40 ∧ i = .int .i64 k ∧ vn = .int .i64 nw ∧ 0 ≤ nw ∧ nw ≤ 20 * k ∧ PlI w wr x pd pl pk pw r s t k) (fun _ i _ => N - (intOf i).toNat)
  case atStart => exact ⟨0, 0, by omega, by omega, rfl, rfl, by omega, by omega, HP0.out⟩
  case round =>
    clear HP0
    obtain ⟨k, nw, hkN, hk40, rfl, rfl, hn0, hn1, p, l, S, L, g, f, vi, li, vrc, lr, vq, hX⟩ := hrel
    have HX := hide hX
    have HPk := hide hX.z.bo.kp
    have hcx0 := hX.wd.c0
    clear hX
    by_cases hgo : k < N ∧ k < 40
    · obtain ⟨hlt, hlt2⟩ := hgo
      have hlt' : (k : Int) < (N : Int) := by omega
      have hlt2' : (k : Int) < 40 := by omega
      have hd1 : decide ((k : Int) < (N : Int)) = true := decide_eq_true hlt'
      have hd2 : decide ((k : Int) < 40) = true := decide_eq_true hlt2'
      obtain ⟨bl, off, rfl, hAt⟩ := HC.out k (by have := HN.out; omega)
      obtain ⟨hr, hSb, hBb⟩ := hAt
      generalize l0[k]'(by have := HN.out; omega) = ak at hr hSb hBb
      obtain ⟨kd, xa, xv, ni, vb, bb⟩ := ak
      simp only at hr hSb hBb
      have kW : Kp [] w wr := HPk.out
      have hck : wr.cell? ⟨bl, off + k * 5, none⟩ = some (.int .i64 kd) := kW.cell (hr 0 _ rfl) (by simp)
      have hcn : wr.cell? ⟨bl, off + k * 5 + 3, none⟩ = some (.int .i64 ni) := kW.cell (hr 3 _ rfl) (by simp)
      have hcb : wr.cell? ⟨bl, off + k * 5 + 4, none⟩ = some vb := kW.cell (hr 4 _ rfl) (by simp)
      have HCa : Hid (∀ w', Kp [] wr.drew w' → w'.cell? ⟨bl, off + k * 5 + 1, none⟩ = some (.int .i64 xa)) := fun w' k' => (kW.trans ((kp_drew wr).trans k')).cell (hr 1 _ rfl) (by simp)
      have HCv : Hid (∀ w', Kp [] wr.drew w' → w'.cell? ⟨bl, off + k * 5 + 2, none⟩ = some (.int .i64 xv)) := fun w' k' => (kW.trans ((kp_drew wr).trans k')).cell (hr 2 _ rfl) (by simp)
      have HIn := hide hlt'
      have HSb := hide hSb
      have HBb := hide hBb
      have HWn := hide (within_wi ni 0 20 wr (by omega) (by omega) (by omega))
      have hd := wiP_ge ni 0 20 (by omega)
      obtain ⟨dn, hdn⟩ : ∃ d, d = wiP ni 0 20 := ⟨_, rfl⟩
      rw [← hdn] at HWn hd
      have hwp : IntKind.i64.wrap (nw + dn) = nw + dn := by simp [IntKind.wrap, IntKind.signed, IntKind.bits]; omega
      have hn1' : nw + dn ≤ 20 * ((k : Int) + 1) := by omega
      have hn0' : 0 ≤ nw + dn := by omega
      clear hr kW hSb hBb hdn
      go_upto_block 2 with (go_at_call 20; refine HWn.out.mono ?_; rintro e w2 ⟨rfl, hw⟩; subst w2; clear HWn)
      generalize nw + dn = now at *
      clear hwp
      go_cut [12, 13, 14, 15] from 22 to 133 (fun _ _ _ _ wc => Hid (PlI w wc x pd pl pk pw r s t (k + 1)))
      case first =>
        by_cases hk1 : kd = 1
        · have e1 : (kd == 1) = true := by simp [hk1]
          clear hk1 hcb
          go_wp2_with fail
          refine region_grow Tryz.mixed [Is (.slice (some ⟨bl, off, none⟩) N cl), Is (.int .i64 (k : Int)), Is (.pointer (some ⟨bl, off + k * 5, none⟩)), Is (.pointer (some ⟨bl, off + k * 5 + 1, none⟩)), Is (.int .i64 xa), Is (.slice (some ⟨bl, off, none⟩) N cl), Is (.int .i64 (k : Int)), Is (.pointer (some ⟨bl, off + k * 5, none⟩)), Is (.pointer (some ⟨bl, off + k * 5 + 2, none⟩)), Is (.int .i64 xv), RO wr.drew.heap.size (itF xa xv 0), RO wr.drew.heap.size (itF xa xv 0)] [[(3, none)], [(11, none)], [(47, some 0), (48, some 1)], [(49, some 2)], [(50, some 3)], [(3, none)], [(11, none)], [(52, some 5), (53, some 6)], [(54, some 7)], [(55, some 8)], [(51, some 4), (56, some 9)], [(57, some 10)]] (by kernel_rfl) ?_ ?_ ?_
          · simp only [List.mem_cons, List.not_mem_nil, or_false]
            intro R hR
            rcases hR with rfl | rfl | rfl | rfl | rfl | rfl | rfl | rfl | rfl | rfl | rfl | rfl <;> first | exact stable_is _ | exact stable_ro _ _
          · refine steps_cons (fun a w hk hn => ?_) ?_
            · have h3 : a.eval (.tmp 3) = .slice (some ⟨bl, off, none⟩) N cl := hn.1
              clear hn
              refine wants_plain rfl ?_
              exact grown_move (.tmp 3) rfl h3
            refine steps_cons (fun a w hk hn => ?_) ?_
            · have h11 : a.eval (.tmp 11) = .int .i64 (k : Int) := hn.1
              clear hn
              refine wants_plain rfl ?_
              exact grown_move (.tmp 11) rfl h11
            refine steps_cons (fun a w hk hn => ?_) ?_
            · have h47 : a.eval (.tmp 47) = .slice (some ⟨bl, off, none⟩) N cl := hn.1
              have h48 : a.eval (.tmp 48) = .int .i64 (k : Int) := hn.2.1
              clear hn
              refine wants_plain rfl ?_
              refine grown_run (v := .pointer (some ⟨bl, off + k * 5, none⟩)) ?_ (Kp.refl _ _) rfl
              have hin := HIn.out
              obtain ⟨ρ, hρ, hc, hf, hg⟩ := eval_is a
              rw [hρ] at h47 h48 ⊢
              simp [go_sem, h47, h48, hin]
            refine steps_cons (fun a w hk hn => ?_) ?_
            · have h49 : a.eval (.tmp 49) = .pointer (some ⟨bl, off + k * 5, none⟩) := hn.1
              clear hn
              refine wants_plain rfl ?_
              refine grown_run (v := .pointer (some ⟨bl, off + k * 5 + 1, none⟩)) ?_ (Kp.refl _ _) rfl
              obtain ⟨ρ, hρ, hc, hf, hg⟩ := eval_is a
              rw [hρ] at h49 ⊢
              simp [go_sem, h49]
            refine steps_cons (fun a w hk hn => ?_) ?_
            · have h50 : a.eval (.tmp 50) = .pointer (some ⟨bl, off + k * 5 + 1, none⟩) := hn.1
              clear hn
              refine wants_plain rfl ?_
              refine grown_run (v := .int .i64 xa) ?_ (Kp.refl _ _) rfl
              have hcell := HCa.out w hk
              obtain ⟨ρ, hρ, hc, hf, hg⟩ := eval_is a
              rw [hρ] at h50 ⊢
              simp [go_sem, h50, hcell]
            refine steps_cons (fun a w hk hn => ?_) ?_
            · have h3 : a.eval (.tmp 3) = .slice (some ⟨bl, off, none⟩) N cl := hn.1
              clear hn
              refine wants_plain rfl ?_
              exact grown_move (.tmp 3) rfl h3
            refine steps_cons (fun a w hk hn => ?_) ?_
            · have h11 : a.eval (.tmp 11) = .int .i64 (k : Int) := hn.1
              clear hn
              refine wants_plain rfl ?_
              exact grown_move (.tmp 11) rfl h11
            refine steps_cons (fun a w hk hn => ?_) ?_
            · have h52 : a.eval (.tmp 52) = .slice (some ⟨bl, off, none⟩) N cl := hn.1
              have h53 : a.eval (.tmp 53) = .int .i64 (k : Int) := hn.2.1
              clear hn
              refine wants_plain rfl ?_
              refine grown_run (v := .pointer (some ⟨bl, off + k * 5, none⟩)) ?_ (Kp.refl _ _) rfl
              have hin := HIn.out
              obtain ⟨ρ, hρ, hc, hf, hg⟩ := eval_is a
              rw [hρ] at h52 h53 ⊢
              simp [go_sem, h52, h53, hin]
            refine steps_cons (fun a w hk hn => ?_) ?_
            · have h54 : a.eval (.tmp 54) = .pointer (some ⟨bl, off + k * 5, none⟩) := hn.1
              clear hn
              refine wants_plain rfl ?_
              refine grown_run (v := .pointer (some ⟨bl, off + k * 5 + 2, none⟩)) ?_ (Kp.refl _ _) rfl
              obtain ⟨ρ, hρ, hc, hf, hg⟩ := eval_is a
              rw [hρ] at h54 ⊢
              simp [go_sem, h54]
            refine steps_cons (fun a w hk hn => ?_) ?_
            · have h55 : a.eval (.tmp 55) = .pointer (some ⟨bl, off + k * 5 + 2, none⟩) := hn.1
              clear hn
              refine wants_plain rfl ?_
              refine grown_run (v := .int .i64 xv) ?_ (Kp.refl _ _) rfl
              have hcell := HCv.out w hk
              obtain ⟨ρ, hρ, hc, hf, hg⟩ := eval_is a
              rw [hρ] at h55 ⊢
              simp [go_sem, h55, hcell]
            refine steps_cons (fun a w hk hn => ?_) ?_
            · have h51 : a.eval (.tmp 51) = .int .i64 xa := hn.1
              have h56 : a.eval (.tmp 56) = .int .i64 xv := hn.2.1
              clear hn
              refine wants_plain rfl ?_
              refine grown_call (f := 15) rfl Tryz.func15 (by kernel_rfl) (by kernel_rfl) ?_
              simp only [List.map_toArray, List.map_cons, List.map_nil, h51, h56]
              refine (kitem_any xa xv 0 w).mono ?_
              rintro e w' ⟨ao, m, c, rfl, R, K⟩
              exact ⟨_, rfl, K, ⟨ao, m, c, rfl, R.sl, fun i hi => Nat.le_trans hk.size (R.own i hi)⟩⟩
            refine steps_cons (fun a w hk hn => ?_) ?_
            · have h57 : (RO wr.drew.heap.size (itF xa xv 0)) (a.eval (.tmp 57)) w := hn.1
              clear hn
              refine wants_plain rfl ?_
              exact grown_assign (.tmp 57) rfl h57
            exact trivial
          intro W1 hkW1
          rintro _ rfl
          rintro _ rfl
          rintro _ rfl
          rintro _ rfl
          rintro _ rfl
          rintro _ rfl
          rintro _ rfl
          rintro _ rfl
          rintro _ rfl
          rintro _ rfl
          intro v57 h57
          intro v12 h12
          refine fin_nil ?_
          simp only [Act.put, List.set_cons_zero, List.set_cons_succ, List.setIfInBounds_toArray]
          obtain ⟨av, mv, cv, ev, Sv, Nv⟩ := h12
          subst ev
          obtain ⟨b2, hb2⟩ : ∃ b, b = itF xa xv 0 := ⟨_, rfl⟩
          rw [← hb2] at Sv
          have HbB : Hid (Bs b2) := by rw [hb2]; exact itF_bs xa xv 0
          have Hbl : Hid (b2.length ≤ 65535) := by rw [hb2]; show _ ≤ _; have := itF_len xa xv 0; omega
          have hbo : okM b2 = true := by rw [hb2]; exact itF_ok xa xv 0
          have K1 : Kp [] wr W1 := (kp_drew wr).trans hkW1
          obtain ⟨kk, nn, hsub⟩ := plx_sub HX.out hk40 K1 (.slice av mv cv) b2 Sv HbB.out Hbl.out (fun _ i hi => by
            have h1 := Nv i hi
            have h3 : wr.drew.heap.size = wr.heap.size := rfl
            have hne : b2 ≠ [] := fun e => by rw [e] at hbo; exact absurd hbo (by decide)
            exact ⟨sl_lt Sv hne hi, .inl (by omega)⟩) now hn0' hn1'
          have HSub := hide hsub
          have hcy0 := (HX.out.on K1).wd.c0
          clear HX HCa HCv hkW1 Sv Nv hb2 hbo hsub K1 hcx0
          go_wp2_with fail
          refine HSub.out.mono ?_
          rintro ee w6 ⟨rfl, hans⟩
          have HAns := hide (hans w6 (Kp.refl _ _))
          clear HSub hans hcy0
          go_wp2_with fail
          refine HAns.out.mono ?_
          rintro ee w7 ⟨rfl, S', g', vrc', lr', vq', hX7⟩
          have HP7 := hide hX7.pli
          clear HAns hX7
          unfold ansV
          go_wp2_with fail
          go_meet
          case rel => exact HP7.out
        by_cases hk2 : kd = 2
        · have e1 : (kd == 1) = false := by simp [hk2]
          have e2 : (kd == 2) = true := by simp [hk2]
          clear hk1 hk2
          obtain ⟨ab, cb, evb, -⟩ := id HSb.out
          obtain ⟨nb, hnb⟩ : ∃ n, n = bb.length := ⟨_, rfl⟩
          rw [← hnb] at evb
          subst evb
          have HCt := hide (cutv_any ab nb cb 60 bb wr (HSb.out.kept HPk.out (by simp)))
          have hcs := cutv_sl 60 (HSb.out.kept HPk.out (by simp))
          obtain ⟨kk, nn, hsub⟩ := plx_sub HX.out hk40 (Kp.refl _ wr) (.slice ab (min nb 60) cb) (bb.take 60) hcs (HBb.out.takes 60) (by rw [List.length_take]; omega) (fun hok i hi => by
            have hne : bb.take 60 ≠ [] := fun e => by rw [e] at hok; exact absurd hok (by decide)
            have hs0 : Sl w (.slice ab (min nb 60) cb) (bb.take 60) := cutv_sl 60 HSb.out
            have h1 := sl_lt hs0 hne hi
            have h2 := HPk.out.size
            exact ⟨by omega, .inr h1⟩) now hn0' hn1'
          have HSub := hide hsub
          clear hnb hcs hsub HX
          go_wp2_with fail
          refine HCt.out.mono ?_
          rintro ee w5 ⟨rfl, hw⟩
          subst w5
          clear HCt
          go_wp2_with fail
          refine HSub.out.mono ?_
          rintro ee w6 ⟨rfl, hans⟩
          have HAns := hide (hans w6 (Kp.refl _ _))
          clear HSub hans
          go_wp2_with fail
          refine HAns.out.mono ?_
          rintro ee w7 ⟨rfl, S', g', vrc', lr', vq', hX7⟩
          have HP7 := hide hX7.pli
          clear HAns hX7
          unfold ansV
          go_wp2_with fail
          go_meet
          case rel => exact HP7.out
        by_cases hk3 : kd = 3
        · have e1 : (kd == 1) = false := by simp [hk3]
          have e2 : (kd == 2) = false := by simp [hk3]
          have e3 : (kd == 3) = true := by simp [hk3]
          clear hk1 hk2 hk3 hcb
          have HSt := hide (plx_step HX.out hk40 HB.out.2.1.1 HB.out.2.1.2 HB.out.2.2.1 HB.out.2.2.2 now hn0' (by omega))
          clear HX
          go_wp2_with fail
          refine HSt.out.mono ?_
          rintro ee w6 ⟨u, us, rfl, hul, hu, hst⟩
          have HLs := hide (hst w6 (Kp.refl _ _))
          obtain ⟨ua, uc, eu, -⟩ := id hu
          obtain ⟨nu, hnu⟩ : ∃ n, n = us.length := ⟨_, rfl⟩
          rw [← hnu] at eu
          subst eu
          have Hul := hide hul
          clear HSt hst hu hnu hul
          go_wp2_with fail
          refine HLs.out.mono ?_
          rintro ee w7 ⟨u2, rfl, hu1, hu2, S', L', g', f', vi', li', vq', hX7⟩
          have HP7 := hide hX7
          have hsm := isame_any _ _ us us w7 hu1 hu2 (by have := Hul.out; omega) (by have := Hul.out; omega)
          rw [show decide (us = us) = true from decide_eq_true rfl] at hsm
          have HSm := hide hsm
          clear HLs hX7 hu1 hu2 hsm
          go_wp2_with fail
          refine HSm.out.mono ?_
          rintro ee w8 ⟨rfl, K8⟩
          have HP8 := hide (HP7.out.on K8).pli
          clear HSm K8 HP7
          go_wp2_with fail
          go_meet
          case rel => exact HP8.out
        by_cases hk4 : kd = 4
        · have e1 : (kd == 1) = false := by simp [hk4]
          have e2 : (kd == 2) = false := by simp [hk4]
          have e3 : (kd == 3) = false := by simp [hk4]
          have e4 : (kd == 4) = true := by simp [hk4]
          clear hk1 hk2 hk3 hk4 hcb
          have HC0 := hide HX.out.plc
          have HCa1 := hide (plc_a HC0.out)
          have hcx2 := HC0.out.wd.c2
          clear HX
          go_wp2_with fail
          refine HCa1.out.mono ?_
          rintro ee w3 ⟨rfl, F3, f3, hC3⟩
          have HC3 := hide hC3
          have HCb := hide (plc_b hC3)
          have hcx3 := hC3.wd.c3
          clear HCa1 hC3 HC0 hcx2
          go_wp2_with fail
          refine HCb.out.mono ?_
          rintro ee w4 ⟨rfl, F4, f4, hC4⟩
          have HC4 := hide hC4
          have HCc := hide (plc_c hC4)
          have hcx4 := hC4.wd.c4
          clear HCb hC4 HC3 hcx3
          go_wp2_with fail
          refine HCc.out.mono ?_
          rintro ee w5 ⟨rfl, F5, f5, hC5⟩
          have HAg := hide (plc_again hC5 hk40 HB.out.1.1 HB.out.1.2 HB.out.2.1.1 HB.out.2.1.2 HB.out.2.2.1 HB.out.2.2.2)
          clear HCc hC5 HC4 hcx4
          go_wp2_with fail
          refine HAg.out.mono ?_
          rintro ee w6 ⟨rfl, p6, l6, S6, L6, g6, f6, vq6, hX6⟩
          have HP6 := hide hX6.pli
          clear HAg hX6
          go_wp2_with fail
          go_meet
          case rel => exact HP6.out
        · have e1 : (kd == 1) = false := by simp [hk1]
          have e2 : (kd == 2) = false := by simp [hk2]
          have e3 : (kd == 3) = false := by simp [hk3]
          have e4 : (kd == 4) = false := by simp [hk4]
          clear hk1 hk2 hk3 hk4
          have HP7 : Hid (PlI w wr x pd pl pk pw r s t (k + 1)) := hide (by
            have h := HX.out
            exact ⟨p, l, S, L, g, f, vi, li, vrc, lr, vq, h.pf.more, h.z, h.lw, h.hi, h.hr⟩)
          go_wp2_with fail
          go_meet
          case rel => exact HP7.out
      case rest =>
        have HP := hcut
        clear HX HCa HCv hcb hck hcn hcut hcx0
        obtain ⟨p8, l8, S8, L8, g8, f8, vi8, li8, vrc8, lr8, vq8, hX8⟩ := HP.out
        have HTe := hide (ftells_any hX8 (by omega))
        have HX8 := hide hX8
        clear hX8 HP
        go_wp2_with fail
        refine HTe.out.mono ?_
        rintro ee w9 ⟨rfl, K9⟩
        have HP9 := hide (HX8.out.on K9).pli
        clear HTe K9 HX8
        go_wp2_with fail
        go_roundw
        case rel => exact ⟨k + 1, now, by omega, by omega, by go_num, rfl, by omega, by push_cast; omega, HP9.out⟩
        case measure => simp [intOf]; omega
    · have HPw := HPk
      clear HX hcx0
      by_cases hl1 : k < N
      · have hl1' : (k : Int) < (N : Int) := by omega
        have hl2' : ¬ (k : Int) < 40 := by omega
        have hd1 : decide ((k : Int) < (N : Int)) = true := decide_eq_true hl1'
        have hd2 : decide ((k : Int) < 40) = false := decide_eq_false hl2'
        go_wp2_with fail
        go_ret
        exact ⟨rfl, HPk.out⟩
      · have hl1' : ¬ (k : Int) < (N : Int) := by omega
        have hd1 : decide ((k : Int) < (N : Int)) = false := decide_eq_false hl1'
        go_wp2_with fail
        go_ret
        exact ⟨rfl, HPk.out⟩
end Go.Proofs.YteabdojjllfcpaaGreat
