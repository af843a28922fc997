/-
  A range that grew leaf by leaf; the law package's known.
-/
import Derived.Test.YtiabccgabbdedaaDoorKCSame
import Derived.Test.YtiabccgabbdedaaDoorKTKeep
namespace Go.Proofs.YtiabccgabbdedaaDoor
open Go.RowKit
open Go.Proofs

/-- the range at p has these leaves; it was begun at w0. -/
def Gr (w0 : World) (ls : List (List Int)) (p : Nat) (wr : World) : Prop := ∃ ao m c lr, Rg wr w0.heap.size p (.slice ao m c) ls.length lr ∧ lr.map (·.2) = cndP 21 ls ∧ Kp [p] w0 wr
theorem Gr.mid {w0 wr w' : World} {ls : List (List Int)} {p : Nat} (h : Gr w0 ls p wr) (k : Kp [] wr w') : Gr w0 ls p w' := by
  obtain ⟨ao, m, c, lr, h1, h2, h3⟩ := h
  exact ⟨ao, m, c, lr, h1.keptN k, h2, h3.trans (k.mono (by simp))⟩
theorem Gr.kp {w0 wr : World} {ls : List (List Int)} {p : Nat} (h : Gr w0 ls p wr) : Kp [p] w0 wr := by
  obtain ⟨_, _, _, _, _, _, h3⟩ := h
  exact h3
theorem cnd_small (ls : List (List Int)) (hn : ls.length ≤ 1000) : (cndP 21 ls).length ≤ 21 := by
  have hln : ls.length < 2 ^ 21 := by omega
  rw [cndP_len 21 ls hln]
  exact onesP_le 21 _ hln
theorem cnd_le (ls : List (List Int)) (hm : ∀ x ∈ ls, x.length ≤ 1000) : ∀ x ∈ cndP 21 ls, x.length ≤ 1000 :=
  cndP_all (fun x => x.length ≤ 1000) (fun bs => by show (sha bs).length ≤ 1000; rw [sha_len]; omega) 21 ls hm
theorem cnd_32 (ls : List (List Int)) (hm : ∀ x ∈ ls, x.length = 32) : ∀ x ∈ cndP 21 ls, x.length = 32 :=
  cndP_all (fun x => x.length = 32) (fun bs => sha_len bs) 21 ls hm
theorem map_le {lr : List (Value × List Int)} {ns : List (List Int)} (h : lr.map (·.2) = ns) (hn : ∀ x ∈ ns, x.length ≤ 1000) : ∀ y ∈ lr, y.2.length ≤ 1000 := fun y hy => hn y.2 (by rw [← h]; exact List.mem_map_of_mem hy)
theorem map_len {lr : List (Value × List Int)} {ns : List (List Int)} (h : lr.map (·.2) = ns) : lr.length = ns.length := by rw [← h]; simp
theorem Gr.gl {w0 wr : World} {ls : List (List Int)} {p : Nat} (h : Gr w0 ls p wr) (hG : Gl w0) : Gl wr := by
  obtain ⟨_, _, _, _, h1, _, h3⟩ := h
  exact hG.kept h3 (fun b hb => by simp at hb; rw [hb]; exact h1.low)
theorem gr_new (w : World) (hg : 3 ≤ w.heap.size) : Calls Tryd.prog 9 #[] w fun e w' => ∃ p, e = .returned (.pointer (some ⟨p, 0, none⟩)) ∧ (∀ W, Kp [] w' W → Gr W [] p W) ∧ Kp [] w w' ∧ w.heap.size ≤ p ∧ p < w'.heap.size := by
  refine (new_any w hg).mono ?_
  rintro e w' ⟨p, rfl, h, k, h1, h2⟩
  exact ⟨p, rfl, fun W kW => ⟨none, 0, 0, [], (h _).keptN kW, (cndP_nil 21).symm, Kp.refl _ _⟩, k, h1, h2⟩
/-- a list that was made behind the range is kept as the range grows. -/
theorem Acc.keptP {w1 w2 wr : World} {ls : List (List Int)} {v : Value} {p : Nat} (h : Acc w1 ls v w2) (hp : p < w1.heap.size) (k : Kp [p] w2 wr) (hl : ls.length ≤ 1000) : LcM ls v wr := by
  obtain ⟨l, h1, h2, _⟩ := h
  have hne : ∀ i, w1.heap.size ≤ i → i ∉ [p] := fun i hi hm => by simp at hm; omega
  have h3 : Parts wr w1.heap.size v l := ⟨h1.1.kept k (fun i hi => hne i (h1.1.own i hi)), fun x hx => ⟨(h1.2 x hx).1.kept k (fun i hi => hne i (Row.own (h1.2 x hx).1 i hi)), (h1.2 x hx).2⟩⟩
  have hll : l.length ≤ 1000 := by rw [← List.length_map (f := (·.2)), h2]; exact hl
  exact ⟨l, lc_of_owns h3.1 (h3.lists hll), h2⟩
theorem gr_append (w0 : World) (ls : List (List Int)) (p : Nat) (vx : Value) (x : List Int) (wr : World) (h : Gr w0 ls p wr) (hS : Sl wr vx x) (hB : Bs x) (hx : x.length ≤ 1000) (hn : ls.length + 1 ≤ 1000) (hm : ∀ x ∈ ls, x.length ≤ 1000) (hG : Gl w0) :
    Calls Tryd.prog 12 #[.pointer (some ⟨p, 0, none⟩), vx] wr fun e w' => e = .returned (.tuple #[]) ∧ Gr w0 (ls ++ [x]) p w' := by
  obtain ⟨ao, m, c, lr, h1, h2, h3⟩ := h
  have hl := map_len h2
  have hs := cnd_small ls (by omega)
  refine (append_any p _ ls.length w0.heap.size lr vx x (cndP 21 (ls ++ [x])) wr h1 (by rw [h2]; exact cndP_snoc 21 ls x (by omega)) hS hB hx (map_le h2 (cnd_le ls hm)) (by rw [hl]; exact cndP_tro 21 ls (by omega)) (by omega) (by omega) h3.size hG.pos (Gr.gl ⟨ao, m, c, lr, h1, h2, h3⟩ hG)).mono ?_
  rintro e w' ⟨rfl, ao2, m2, c2, l2, r2, s2, e2, -⟩
  refine ⟨rfl, ao2, m2, c2, l2, ?_, e2, s2.new h3 (fun i hi => h1.own i hi)⟩
  have : (ls ++ [x]).length = ls.length + 1 := by simp
  rw [this]; exact r2
theorem gr_same (w0 : World) (ls : List (List Int)) (p : Nat) (vl : Value) (wr : World) (h : Gr w0 ls p wr) (hL : LcM ls vl wr) (hn : ls.length ≤ 1000) (hm : ∀ x ∈ ls, x.length ≤ 1000) (hG : Gl w0) :
    Calls Tryd.prog 11 #[.pointer (some ⟨p, 0, none⟩), vl] wr fun e w' => e = .returned (.bool true) ∧ Kp [] wr w' := by
  obtain ⟨ao, m, c, lr, h1, h2, h3⟩ := h
  exact same_any p _ w0.heap.size lr vl ls wr h1 h2 hL hn hm (Gr.gl ⟨ao, m, c, lr, h1, h2, h3⟩ hG)
theorem gr_size (w0 : World) (ls : List (List Int)) (p : Nat) (wr : World) (h : Gr w0 ls p wr) (hn : ls.length ≤ 1000) :
    Calls Tryd.prog 17 #[.pointer (some ⟨p, 0, none⟩)] wr fun e w' => e = .returned (.int .i64 (ls.length : Nat)) ∧ w' = wr := by
  obtain ⟨ao, m, c, lr, h1, h2, h3⟩ := h
  exact size_any p _ ls.length w0.heap.size lr wr h1 (by omega)
theorem gr_nodes (w0 : World) (ls : List (List Int)) (p : Nat) (wr : World) (h : Gr w0 ls p wr) (hn : ls.length ≤ 1000) (hm : ∀ x ∈ ls, x.length ≤ 1000) :
    Calls Tryd.prog 18 #[.pointer (some ⟨p, 0, none⟩)] wr fun e w' => ∃ ao m c, e = .returned (.slice ao m c) ∧ Acc wr (cndP 21 ls) (.slice ao m c) w' := by
  obtain ⟨ao, m, c, lr, h1, h2, h3⟩ := h
  have hs := cnd_small ls hn
  have hl := map_len h2
  exact nodes_any p _ ls.length w0.heap.size lr (cndP 21 ls) h2 wr h1 (by omega) (map_le h2 (cnd_le ls hm))
theorem gr_root (w0 : World) (ls : List (List Int)) (p : Nat) (r : List Int) (hr : r = trootP ls) (wr : World) (h : Gr w0 ls p wr) (hn : ls.length ≤ 1000) (hm : ∀ x ∈ ls, x.length ≤ 1000) (hG : Gl w0) :
    Calls Tryd.prog 19 #[.pointer (some ⟨p, 0, none⟩)] wr fun e w' => ∃ ao m c, e = .returned (.slice ao m c) ∧ Row w' wr.heap.size (.slice ao m c) r ∧ Kp [] wr w' := by
  obtain ⟨ao, m, c, lr, h1, h2, h3⟩ := h
  have hs := cnd_small ls hn
  have hl := map_len h2
  exact root_any p _ ls.length w0.heap.size lr r (by rw [h2, cfoldP_cnd 21 ls (by omega), hr]) wr h1 (by omega) (map_le h2 (cnd_le ls hm)) (Gr.gl ⟨ao, m, c, lr, h1, h2, h3⟩ hG)

theorem grown_build2 {o : Oper} {a : Act} {w : World} (x y : Operand) (ho : o.op = .buildSlice 24 2 #[(0, x), (1, y)]) (bs cs : List Int) (h : Sl w (a.eval x) bs) (hB : Bs bs) (h' : Sl w (a.eval y) cs) (hC : Bs cs) : grown Tryd.prog w (LsM [bs, cs]) ((execOp a.eval o).run Tryd.prog w) := by
  have h2 := lists2 h hB h' hC
  obtain ⟨ao, c, e, _⟩ := h
  obtain ⟨ao', c', e', _⟩ := h'
  refine grown_run (v := .slice (some ⟨w.heap.size, 0, none⟩) 2 2) (w' := w.alloc (.cells #[a.eval x, a.eval y] 28)) ?_ ((Kp.refl _ _).alloc _) ⟨_, h2, rfl⟩
  obtain ⟨ρ, hρ, hc, hf, hg⟩ := eval_is a
  rw [hρ] at e e' ⊢
  unfold execOp
  simp only [ho]
  simp [go_sem, e, e']
theorem cndP_up (j : Nat) (ls : List (List Int)) (h : ls.length < 2 ^ j) : ∀ i, cndP (j + i) ls = cndP j ls
  | 0 => rfl
  | i + 1 => by
    have h2 : 2 ^ j ≤ 2 ^ (j + i) := Nat.pow_le_pow_right (by omega) (by omega)
    rw [show j + (i + 1) = (j + i) + 1 by omega, cndP_small (by omega), cndP_up j ls h i]
theorem cnd3 (a b c : List Int) : cndP 21 [a, b, c] = [tnodeP a b, c] := by
  rw [show (21 : Nat) = 2 + 19 by omega, cndP_up 2 _ (by simp) 19]
  have h1 : cndP 2 [a, b, c] = trootP ([a, b, c].take (2 ^ 1)) :: cndP 1 ([a, b, c].drop (2 ^ 1)) := cndP_big (by simp)
  have h2 : cndP 1 [c] = trootP ([c].take (2 ^ 0)) :: cndP 0 ([c].drop (2 ^ 0)) := cndP_big (by simp)
  rw [h1, show [a, b, c].take (2 ^ 1) = [a] ++ [b] from rfl, show [a, b, c].drop (2 ^ 1) = [c] from rfl, h2, trootP_two (j := 0) (by simp) (by simp) (by simp), trootP_one, trootP_one, show [c].take (2 ^ 0) = [c] from rfl, trootP_one]
  rfl
theorem kl3 : kleavesP 3 = [kleafP 0, kleafP 1, kleafP 2] := rfl
theorem ones3 : onesP 3 = 2 := by
  rw [onesP_step, onesP_step, onesP_step]
  simp [onesP_zero]

set_option maxRecDepth 100000 in
set_option maxHeartbeats 4000000 in
theorem known_any (w : World) (hG : Gl w) : Calls Tryd.prog 14 #[] w fun e w' => e = .returned (.bool true) ∧ Kp [] w w' := by
  have HG := hide hG
  have hgn := hG.pos
  clear hG
  go_enter Tryd.func14, Tryd.ntmps14
  go_wp2_with (first
    | (go_at_call 9; refine (gr_new w hgn).mono ?_; rintro e w1 ⟨p, rfl, G1, K1, P1, P2⟩; have HG1 := hide G1; have HK1 := hide K1; clear G1 K1)
    | (go_at_call 10; refine (kleaves_any 3 w1 (by omega)).mono ?_; rintro e w2 ⟨al, ml, cl, rfl, A2⟩))
  obtain rfl : ml = 3 := A2.cap.trans (kleavesP_len 3)
  have HG2 := hide (unhide HG1 w2 A2.kp)
  have HGL : Hid (Gl w2) := (unhide HG).kept ((unhide HK1).trans A2.kp) (by simp)
  have HK2 := hide ((unhide HK1).trans A2.kp)
  have HA := hide A2
  clear A2 HG1 HK1
  go_loopw [3] (fun i wr => ∃ k : Nat, k ≤ 3 ∧ i = .int .i64 k ∧ Gr w2 (kleavesP k) p wr) (fun i _ => 3 - (intOf i).toNat)
  case atStart => exact ⟨0, by omega, rfl, unhide HG2⟩
  case round =>
    clear HG2
    obtain ⟨k, hk, rfl, hGr⟩ := hrel
    have hLr := (unhide HA).keptP P2 hGr.kp (by rw [kleavesP_len]; omega)
    have HGr := hide hGr
    by_cases hlt : k < 3
    · have hlt2 : (k : Int) < 3 := by omega
      have hkl : k < (kleavesP 3).length := by rw [kleavesP_len]; exact hlt
      have hx : (kleavesP 3)[k]? = some (kleafP k) := by rw [List.getElem?_eq_getElem hkl]; simp [kleavesP]
      obtain ⟨-, b, off, u, rfl, hc, hS, hB⟩ := hLr.at k _ hx
      have HC := hide (gr_append w2 (kleavesP k) p u (kleafP k) wr hGr hS hB (by rw [kleafP_len]; omega) (by rw [kleavesP_len]; omega) (kleavesP_le k) (unhide HGL))
      rw [← kleavesP_succ] at HC
      obtain ⟨ax, cx, hux, -⟩ := hS
      obtain ⟨nx, hnx⟩ : ∃ nx, nx = (kleafP k).length := ⟨_, rfl⟩
      rw [← hnx] at hux
      subst hux
      clear hGr hLr hkl hx hB hnx HGr
      go_wp2_with fail
      refine (unhide HC).mono ?_
      rintro e w5 ⟨rfl, G5⟩
      have HG5 := hide G5
      clear HC G5 hc
      go_wp2_with fail
      go_roundw
      case rel => exact ⟨k + 1, by omega, by go_num, unhide HG5⟩
      case measure => simp [intOf]; omega
    · obtain rfl : k = 3 := by omega
      obtain ⟨aL, cL, eL, hL1, hL2, hL3⟩ := hLr.shape
      rw [kleavesP_len] at eL hL1
      injection eL with e1 e2 e3
      subst e1
      subst e3
      have hh := run_lhead al 3 cl 1 wr (by omega)
      have hT := hLr.take 1 (by rw [kleavesP_len]; omega)
      have HF := hide (from_not 3 (by omega) _ _ wr hT (by rw [ones3]; simp [kleavesP_len]))
      have HRG : Hid (∀ w', Kp [] wr.drew w' → Gr w2 (kleavesP 3) p w') := fun w' k' => hGr.mid ((kp_drew wr).trans k')
      have HLW : Hid (∀ w', Kp [] wr.drew w' → LcM (kleavesP 3) (.slice al 3 cl) w') := fun w' k' => hLr.kept ((kp_drew wr).trans k')
      have HKW : Hid (Kp [] w wr) := (unhide HK2).then hGr.kp (fun i hi => .inr (by simp at hi; omega))
      obtain ⟨r1, hr1⟩ : ∃ r, r = tnodeP (kleafP 0) (kleafP 1) := ⟨_, rfl⟩
      have HR1 := hide hr1
      have HR1B : Hid (Bs r1) := by rw [hr1]; exact sha_bs _
      have HCN : Hid (cndP 21 (kleavesP 3) = [r1, kleafP 2]) := hide (by rw [kl3, cnd3, hr1])
      clear hGr hLr hT hr1 HGr hL2 hL3 HA
      go_wp2_with fail
      refine (unhide HF).mono ?_
      rintro e w6 ⟨rfl, hw⟩
      subst w6
      clear HF hh
      go_wp2_with fail
      refine region_grow Tryd.mixed [Is (.pointer (some ⟨p, 0, none⟩)), Is (.int .i64 3), Is (.bool true), Is (.bool true), Is (.pointer (some ⟨p, 0, none⟩)), LsM [r1, kleafP 2], Is (.slice al 3 cl), PtT (kleafP 0), SlT (kleafP 0), Is (.slice al 3 cl), PtT (kleafP 1), SlT (kleafP 1), SlT (r1), Is (.slice al 3 cl), PtT (kleafP 2), SlT (kleafP 2), LsM [r1, kleafP 2], Is (.bool true), Is (.bool true), Is (.bool true), Is (.int .i64 12), Is (.bool true), Is (.bool true), Is (.bool true)] [[(1, none)], [(26, some 0)], [(27, some 1)], [(28, some 2)], [(1, none), (29, some 3)], [(30, some 4), (29, some 3)], [(2, none), (29, some 3)], [(32, some 6), (29, some 3)], [(33, some 7), (29, some 3)], [(2, none), (29, some 3)], [(35, some 9), (29, some 3)], [(36, some 10), (29, some 3)], [(34, some 8), (37, some 11), (29, some 3)], [(2, none), (29, some 3)], [(39, some 13), (29, some 3)], [(40, some 14), (29, some 3)], [(38, some 12), (41, some 15), (29, some 3)], [(31, some 5), (42, some 16), (29, some 3)], [(29, some 3), (43, some 17)], [(44, some 18)], [(5, none), (45, some 19)], [(46, some 20), (45, some 19)], [(45, some 19), (47, some 21)], [(48, some 22)]] (by kernel_rfl) ?_ ?_ ?_
      · simp only [List.mem_cons, List.not_mem_nil, or_false]
        intro R hR
        rcases hR with rfl | rfl | rfl | rfl | rfl | rfl | rfl | rfl | rfl | rfl | rfl | rfl | rfl | rfl | rfl | rfl | rfl | rfl | rfl | rfl | rfl | rfl | rfl | rfl <;> first | exact stable_is _ | exact stable_lsm _ | exact stable_pt _ | exact stable_sl _
      · refine steps_cons (fun a w hk hn => ?_) ?_
        · have h1 : a.eval (.tmp 1) = .pointer (some ⟨p, 0, none⟩) := hn.1
          clear hn
          refine wants_plain rfl ?_
          exact grown_move (.tmp 1) rfl h1
        refine steps_cons (fun a w hk hn => ?_) ?_
        · have h26 : a.eval (.tmp 26) = .pointer (some ⟨p, 0, none⟩) := hn.1
          clear hn
          refine wants_plain rfl ?_
          refine grown_call (f := 17) rfl Tryd.func17 (by kernel_rfl) (by kernel_rfl) ?_
          simp only [List.map_toArray, List.map_cons, List.map_nil, h26]
          refine (gr_size w2 (kleavesP 3) p w (unhide HRG w hk) (by rw [kleavesP_len]; omega)).mono ?_
          rintro e w' ⟨rfl, rfl⟩
          exact ⟨_, rfl, Kp.refl _ _, rfl⟩
        refine steps_cons (fun a w hk hn => ?_) ?_
        · have h27 : a.eval (.tmp 27) = .int .i64 3 := hn.1
          clear hn
          refine wants_plain rfl ?_
          refine grown_run (v := .bool true) ?_ (Kp.refl _ _) rfl
          obtain ⟨ρ, hρ, hc, hf, hg⟩ := eval_is a
          rw [hρ] at h27 ⊢
          simp [go_sem, hc, h27]
        refine steps_cons (fun a w hk hn => ?_) ?_
        · have h28 : a.eval (.tmp 28) = .bool true := hn.1
          clear hn
          refine wants_plain rfl ?_
          exact grown_move (.tmp 28) rfl h28
        refine steps_cons (fun a w hk hn => ?_) ?_
        · have h1 : a.eval (.tmp 1) = .pointer (some ⟨p, 0, none⟩) := hn.1
          have h29 : a.eval (.tmp 29) = .bool true := hn.2.1
          clear hn
          refine wants_guard (d := 29) rfl rfl h29 ?_
          exact grown_move (.tmp 1) rfl h1
        refine steps_cons (fun a w hk hn => ?_) ?_
        · have h30 : a.eval (.tmp 30) = .pointer (some ⟨p, 0, none⟩) := hn.1
          have h29 : a.eval (.tmp 29) = .bool true := hn.2.1
          clear hn
          refine wants_guard (d := 29) rfl rfl h29 ?_
          refine grown_call (f := 18) rfl Tryd.func18 (by kernel_rfl) (by kernel_rfl) ?_
          simp only [List.map_toArray, List.map_cons, List.map_nil, h30]
          refine (gr_nodes w2 (kleavesP 3) p w (unhide HRG w hk) (by rw [kleavesP_len]; omega) (kleavesP_le 3)).mono ?_
          rintro e w' ⟨ao, m, c, rfl, A⟩
          rw [unhide HCN] at A
          exact ⟨_, rfl, A.kp, A.lists (by simp)⟩
        refine steps_cons (fun a w hk hn => ?_) ?_
        · have h2 : a.eval (.tmp 2) = .slice al 3 cl := hn.1
          have h29 : a.eval (.tmp 29) = .bool true := hn.2.1
          clear hn
          refine wants_guard (d := 29) rfl rfl h29 ?_
          exact grown_move (.tmp 2) rfl h2
        refine steps_cons (fun a w hk hn => ?_) ?_
        · have h32 : a.eval (.tmp 32) = .slice al 3 cl := hn.1
          have h29 : a.eval (.tmp 29) = .bool true := hn.2.1
          clear hn
          refine wants_guard (d := 29) rfl rfl h29 ?_
          exact grown_lindex (.tmp 32) _ (kleavesP 3) 0 (kleafP 0) rfl (by rw [h32]; exact unhide HLW w hk) rfl (rfl)
        refine steps_cons (fun a w hk hn => ?_) ?_
        · have h33 : (PtT (kleafP 0)) (a.eval (.tmp 33)) w := hn.1
          have h29 : a.eval (.tmp 29) = .bool true := hn.2.1
          clear hn
          refine wants_guard (d := 29) rfl rfl h29 ?_
          exact grown_lload (.tmp 33) _ rfl h33
        refine steps_cons (fun a w hk hn => ?_) ?_
        · have h2 : a.eval (.tmp 2) = .slice al 3 cl := hn.1
          have h29 : a.eval (.tmp 29) = .bool true := hn.2.1
          clear hn
          refine wants_guard (d := 29) rfl rfl h29 ?_
          exact grown_move (.tmp 2) rfl h2
        refine steps_cons (fun a w hk hn => ?_) ?_
        · have h35 : a.eval (.tmp 35) = .slice al 3 cl := hn.1
          have h29 : a.eval (.tmp 29) = .bool true := hn.2.1
          clear hn
          refine wants_guard (d := 29) rfl rfl h29 ?_
          exact grown_lindex (.tmp 35) _ (kleavesP 3) 1 (kleafP 1) rfl (by rw [h35]; exact unhide HLW w hk) rfl (rfl)
        refine steps_cons (fun a w hk hn => ?_) ?_
        · have h36 : (PtT (kleafP 1)) (a.eval (.tmp 36)) w := hn.1
          have h29 : a.eval (.tmp 29) = .bool true := hn.2.1
          clear hn
          refine wants_guard (d := 29) rfl rfl h29 ?_
          exact grown_lload (.tmp 36) _ rfl h36
        refine steps_cons (fun a w hk hn => ?_) ?_
        · have h34 : Sl w (a.eval (.tmp 34)) (kleafP 0) := hn.1
          have h37 : Sl w (a.eval (.tmp 37)) (kleafP 1) := hn.2.1
          have h29 : a.eval (.tmp 29) = .bool true := hn.2.2.1
          clear hn
          refine wants_guard (d := 29) rfl rfl h29 ?_
          refine grown_call (f := 34) rfl Tryd.func34 (by kernel_rfl) (by kernel_rfl) ?_
          simp only [List.map_toArray, List.map_cons, List.map_nil]
          refine (rnode_any _ _ (kleafP 0) (kleafP 1) r1 (unhide HR1) w h34 (kleafP_bs 0) (by rw [kleafP_len]; omega) h37 (kleafP_bs 1) (by rw [kleafP_len]; omega)).mono ?_
          rintro e w' ⟨ao, m, c, rfl, R, K⟩
          exact ⟨_, rfl, K, R.sl⟩
        refine steps_cons (fun a w hk hn => ?_) ?_
        · have h2 : a.eval (.tmp 2) = .slice al 3 cl := hn.1
          have h29 : a.eval (.tmp 29) = .bool true := hn.2.1
          clear hn
          refine wants_guard (d := 29) rfl rfl h29 ?_
          exact grown_move (.tmp 2) rfl h2
        refine steps_cons (fun a w hk hn => ?_) ?_
        · have h39 : a.eval (.tmp 39) = .slice al 3 cl := hn.1
          have h29 : a.eval (.tmp 29) = .bool true := hn.2.1
          clear hn
          refine wants_guard (d := 29) rfl rfl h29 ?_
          exact grown_lindex (.tmp 39) _ (kleavesP 3) 2 (kleafP 2) rfl (by rw [h39]; exact unhide HLW w hk) rfl (rfl)
        refine steps_cons (fun a w hk hn => ?_) ?_
        · have h40 : (PtT (kleafP 2)) (a.eval (.tmp 40)) w := hn.1
          have h29 : a.eval (.tmp 29) = .bool true := hn.2.1
          clear hn
          refine wants_guard (d := 29) rfl rfl h29 ?_
          exact grown_lload (.tmp 40) _ rfl h40
        refine steps_cons (fun a w hk hn => ?_) ?_
        · have h38 : Sl w (a.eval (.tmp 38)) (r1) := hn.1
          have h41 : Sl w (a.eval (.tmp 41)) (kleafP 2) := hn.2.1
          have h29 : a.eval (.tmp 29) = .bool true := hn.2.2.1
          clear hn
          refine wants_guard (d := 29) rfl rfl h29 ?_
          exact grown_build2 (.tmp 38) (.tmp 41) rfl r1 (kleafP 2) h38 (unhide HR1B) h41 (kleafP_bs 2)
        refine steps_cons (fun a w hk hn => ?_) ?_
        · have h31 : (LsM [r1, kleafP 2]) (a.eval (.tmp 31)) w := hn.1
          have h42 : (LsM [r1, kleafP 2]) (a.eval (.tmp 42)) w := hn.2.1
          have h29 : a.eval (.tmp 29) = .bool true := hn.2.2.1
          clear hn
          refine wants_guard (d := 29) rfl rfl h29 ?_
          refine grown_call (f := 20) rfl Tryd.func20 (by kernel_rfl) (by kernel_rfl) ?_
          simp only [List.map_toArray, List.map_cons, List.map_nil]
          refine (lists_lsm h31 h42).mono ?_
          rintro e w' ⟨rfl, K⟩
          exact ⟨_, rfl, K, rfl⟩
        refine steps_cons (fun a w hk hn => ?_) ?_
        · have h29 : a.eval (.tmp 29) = .bool true := hn.1
          have h43 : a.eval (.tmp 43) = .bool true := hn.2.1
          clear hn
          refine wants_plain rfl ?_
          exact grown_pick _ _ _ true rfl h29 h43
        refine steps_cons (fun a w hk hn => ?_) ?_
        · have h44 : a.eval (.tmp 44) = .bool true := hn.1
          clear hn
          refine wants_plain rfl ?_
          exact grown_move (.tmp 44) rfl h44
        refine steps_cons (fun a w hk hn => ?_) ?_
        · have h5 : a.eval (.tmp 5) = .int .i64 12 := hn.1
          have h45 : a.eval (.tmp 45) = .bool true := hn.2.1
          clear hn
          refine wants_guard (d := 45) rfl rfl h45 ?_
          exact grown_move (.tmp 5) rfl h5
        refine steps_cons (fun a w hk hn => ?_) ?_
        · have h46 : a.eval (.tmp 46) = .int .i64 12 := hn.1
          have h45 : a.eval (.tmp 45) = .bool true := hn.2.1
          clear hn
          refine wants_guard (d := 45) rfl rfl h45 ?_
          refine grown_run (v := .bool true) ?_ (Kp.refl _ _) rfl
          obtain ⟨ρ, hρ, hc, hf, hg⟩ := eval_is a
          rw [hρ] at h46 ⊢
          simp [go_sem, hc, h46]
        refine steps_cons (fun a w hk hn => ?_) ?_
        · have h45 : a.eval (.tmp 45) = .bool true := hn.1
          have h47 : a.eval (.tmp 47) = .bool true := hn.2.1
          clear hn
          refine wants_plain rfl ?_
          exact grown_pick _ _ _ true rfl h45 h47
        refine steps_cons (fun a w hk hn => ?_) ?_
        · have h48 : a.eval (.tmp 48) = .bool true := hn.1
          clear hn
          refine wants_plain rfl ?_
          exact grown_assign (.tmp 48) rfl h48
        exact trivial
      intro W1 hkW1
      rintro _ rfl
      rintro _ rfl
      rintro _ rfl
      rintro _ rfl
      rintro _ rfl
      intro v31 h31
      rintro _ rfl
      intro v33 h33
      intro v34 h34
      rintro _ rfl
      intro v36 h36
      intro v37 h37
      intro v38 h38
      rintro _ rfl
      intro v40 h40
      intro v41 h41
      intro v42 h42
      rintro _ rfl
      rintro _ rfl
      rintro _ rfl
      rintro _ rfl
      rintro _ rfl
      rintro _ rfl
      rintro _ rfl
      refine fin_nil ?_
      simp only [Act.put, List.set_cons_zero, List.set_cons_succ, List.setIfInBounds_toArray]
      have HK4 := hide ((unhide HKW).trans ((kp_drew wr).trans hkW1))
      clear h31 h33 h34 h36 h37 h38 h40 h41 h42 hkW1 HRG HLW
      go_wp2_with fail
      go_ret
      exact ⟨rfl, unhide HK4⟩
end Go.Proofs.YtiabccgabbdedaaDoor
