/-
  For any manifests and any size of a batch: steps that are due empty the queue; all that had a receipt comes to be a leaf, in order, each once.
-/
import Derived.Test.YteabdojjllfcpaaGreatQOFrontEmpties4
namespace Go.Proofs.YteabdojjllfcpaaGreat.frontEmpties
open Go.ChangeShapes Go.WideShapes Go.ChangeAt Go.RowKit
open Go.Proofs.YteabdojjllfcpaaGreat
set_option linter.unusedVariables false
theorem own : ownKnob Tryz.prog.godebug = none := by kernel_rfl
theorem laidOut : laidOutB Tryz.prog = true := by kernel_rfl
open Go.Proofs
/-- behind k submissions, one at each time from 0 on. -/
structure EmI (Z : Int) (S : FS) (k : Nat) : Prop where
  room : S.room = 16
  size : S.size = Z
  wait : S.wait = 3
  rc : S.rc = S.ms.map It.bs
  nd : S.rc.Nodup
  dk : S.d = dkOn (layP S.rc)
  m : S.m = S.rc.length
  len : S.rc.length ≤ k
  bs : ∀ x ∈ S.rc, Bs x ∧ x.length ≤ 125
  tm : ∀ e ∈ S.ms, 0 ≤ e.at_ ∧ e.at_ ≤ 16
theorem emI_sub {Z : Int} {S : FS} {k : Nat} (h : EmI Z S k) (hk : k < 16) (a v : Int) : ∃ kk nn S', subP [] S (itF a v 2) (k : Int) = (kk, nn, S') ∧ EmI Z S' (k + 1) := by
  by_cases hw : S.ms.any (sameI (itF a v 2)) = true
  · refine ⟨1, _, S, by unfold subP; rw [if_neg (by rw [itF_ok]; decide), if_neg (by simp), if_pos hw], h.1, h.2, h.3, h.4, h.5, h.6, h.7, by have := h.len; omega, h.9, h.10⟩
  · have hw2 : S.ms.any (sameI (itF a v 2)) = false := by simpa using hw
    have hlen : S.ms.length = S.rc.length := by rw [h.rc, List.length_map]
    have hl := h.len
    have hnew : itF a v 2 ∉ S.rc := fun hm => by
      rw [any_same, ← h.rc] at hw2
      exact absurd hm (of_decide_eq_false hw2)
    have hlay := layP_len S.rc 125 (fun r hr => (h.bs r hr).2)
    have hmul : S.rc.length * (8 + 125) ≤ 16 * (8 + 125) := Nat.mul_le_mul_right _ (by omega)
    have hil := itF_len a v 2
    refine ⟨1, _, S.put (dkOn (layP S.rc ++ recP (itF a v 2))) (itF a v 2) (k : Int), subP_new (itF_ok a v 2) (by simp) hw2 (by rw [h.room, hlen]; omega) h.dk (by rw [recP_len]; omega), h.1, h.2, h.3, ?_, ?_, ?_, ?_, ?_, ?_, ?_⟩
    · show S.rc ++ [itF a v 2] = (S.ms ++ [It.mk (itF a v 2) (k : Int)]).map It.bs
      rw [List.map_append, ← h.rc]; rfl
    · show (S.rc ++ [itF a v 2]).Nodup
      rw [List.nodup_append]
      exact ⟨h.nd, by simp, fun y hy b hb => by simp at hb; subst hb; exact fun e => hnew (e ▸ hy)⟩
    · show dkOn (layP S.rc ++ recP (itF a v 2)) = dkOn (layP (S.rc ++ [itF a v 2]))
      rw [layP_snoc]
    · show S.m + 1 = (S.rc ++ [itF a v 2]).length
      rw [List.length_append, h.m]; rfl
    · show (S.rc ++ [itF a v 2]).length ≤ k + 1
      rw [List.length_append]; simp; omega
    · intro y hy
      rcases List.mem_append.1 hy with hy | hy
      · exact h.bs y hy
      · obtain rfl : y = itF a v 2 := by simpa using hy
        exact ⟨itF_bs a v 2, hil⟩
    · intro e he
      rcases List.mem_append.1 he with he | he
      · exact h.tm e he
      · have e1 : e = It.mk (itF a v 2) (k : Int) := by simpa using he
        rw [e1]
        simp only
        omega
/-- the queue is due at 1000, unless it is empty. -/
theorem due_1000 (r Z : Int) (ms : List It) (h : ∀ e ∈ ms, 0 ≤ e.at_ ∧ e.at_ ≤ 16) : Qd.due ⟨r, Z, 3, ms⟩ 1000 = !ms.isEmpty := by
  cases ms with
  | nil => rfl
  | cons e l =>
    obtain ⟨h1, h2⟩ := h e (by simp)
    have : oldP e.at_ 3 1000 = true := by
      unfold oldP
      have a1 : decide (e.at_ ≤ 1000) = true := decide_eq_true (by omega)
      have a2 : decide ((3 : Int) ≤ 1000 - e.at_) = true := decide_eq_true (by omega)
      rw [a1, a2]
      simp
    simp [Qd.due, this]
/-- behind t steps: c of the receipts are leaves. -/
structure EmL (rc : List (List Int)) (L : LS) (c t : Nat) : Prop where
  its : L.its = rc.take c
  dd : ∃ D, L.dd = dkOn D ∧ D.length ≤ 2000 * t
  mj : L.mj ≤ t
/-- one step at 1000. -/
theorem em_step {w0 w : World} {x p l pd pl pk : Nat} {Z : Int} {S : FS} {L : LS} {g f : Fps} {vw vrc vq : Value} {k c t : Nat} (hE : EmI Z S k) (hk : k ≤ 16) (hZ0 : 1 ≤ Z) (hZ1 : Z ≤ 8) (hL : EmL S.rc L c t) (hc : c ≤ S.rc.length) (ht : t ≤ 20) (h : Wz w0 w x p l pd pl pk { S with ms := S.ms.drop c } L g f vw vrc vq) :
    Calls Tryz.prog 23 #[.pointer (some ⟨p, 0, none⟩), .int .i64 1000] w fun e w' => ∃ au k' cu, e = .returned (.tuple #[.slice au k' cu, .int .i64 0]) ∧ RowI w' w.heap.size (.slice au k' cu) (seqF c k') ∧ c + k' ≤ S.rc.length ∧ (c < S.rc.length → 1 ≤ k') ∧ ∃ L' g' f', EmL S.rc L' (c + k') (t + 1) ∧ Wz w0 w' x p l pd pl pk { S with ms := S.ms.drop (c + k') } L' g' f' vw vrc vq := by
  have hlen : S.ms.length = S.rc.length := by rw [hE.rc, List.length_map]
  have hl := hE.len
  have hq : (({ S with ms := S.ms.drop c } : FS).q).due 1000 = !(S.ms.drop c).isEmpty := by
    show Qd.due ⟨S.room, S.size, S.wait, S.ms.drop c⟩ 1000 = _
    rw [hE.wait]
    exact due_1000 _ _ _ (fun e he => hE.tm e (List.mem_of_mem_drop he))
  obtain ⟨D, hD, hDl⟩ := hL.dd
  by_cases hcR : c = S.rc.length
  · have hnil : S.ms.drop c = [] := List.drop_eq_nil_of_le (by omega)
    have hq0 : (({ S with ms := S.ms.drop c } : FS).q).due 1000 = false := by rw [hq, hnil]; rfl
    refine (wz_step_no h 1000 (by omega) (by omega) hq0).mono ?_
    rintro e w' ⟨rfl, K⟩
    exact ⟨none, 0, 0, rfl, World.ownsRow_nil _ _ _ _, by omega, fun h => by omega, L, g, f, ⟨hL.its, ⟨D, hD, by omega⟩, by have := hL.mj; omega⟩, h.on K⟩
  · have hne : S.ms.drop c ≠ [] := fun e => by have := congrArg List.length e; rw [List.length_drop] at this; simp at this; omega
    have hq2 : (({ S with ms := S.ms.drop c } : FS).q).due 1000 = true := by rw [hq]; simp [hne]
    have hdl : (S.ms.drop c).length = S.rc.length - c := by rw [List.length_drop, hlen]
    obtain ⟨k', hk'⟩ : ∃ k', k' = min Z.toNat (S.rc.length - c) := ⟨_, rfl⟩
    have hk1 : 1 ≤ k' := by omega
    have hsz := hE.size
    obtain ⟨xs, hxs⟩ : ∃ xs, xs = (S.rc.drop c).take k' := ⟨_, rfl⟩
    have hxs2 : xs = (({ S with ms := S.ms.drop c } : FS).ms.take k').map It.bs := by
      rw [hxs, hE.rc, List.map_take, List.map_drop]
    have hits : L.its ++ xs = S.rc.take (c + k') := by rw [hL.its, hxs, List.take_add]
    have hxl : xs.length = k' := by rw [hxs, List.length_take, List.length_drop]; omega
    have hxb : ∀ y ∈ xs, y.length ≤ 125 := fun y hy => by rw [hxs] at hy; exact (hE.bs y (List.mem_of_mem_drop (List.mem_of_mem_take hy))).2
    have hb := batU_len xs 125 hxb
    rw [hxl] at hb
    have hm8 : k' * (2 + 125) ≤ 8 * (2 + 125) := Nat.mul_le_mul_right _ (by omega)
    have hadd : L.dd.add (recP (batU xs)) = (true, dkOn (D ++ recP (batU xs))) := by rw [hD]; exact Dk.add_on _ _ (by rw [recP_len]; omega)
    have hitl : L.its.length = c := by rw [hL.its, List.length_take]; omega
    refine (wz_step h 1000 (by omega) (by omega) hq2 k' (by show k' = min S.size.toNat (S.ms.drop c).length; rw [hsz, hdl]; exact hk') (by omega) xs hxs2 (by rw [hits]; exact List.Nodup.sublist (List.take_sublist _ _) hE.nd) (by rw [hits, List.length_take]; omega) (by have := hL.mj; omega) (by show (S.ms.drop c).length ≤ 500; omega) true _ hadd 0 rfl { S with ms := S.ms.drop (c + k') } (by simp [List.drop_drop]) _ rfl).mono ?_
    rintro e w' ⟨u, rfl, hu, g', f', Z', -, -⟩
    have hu : RowI w' w.heap.size u (seqF L.its.length k') := hu
    rw [hitl] at hu
    obtain ⟨au, cu, hus⟩ : ∃ au cu, u = .slice au k' cu := by
      have hl : (seqF c k').length = k' := by simp [seqF]
      obtain ⟨au, cu, e, -⟩ := hu.ints (by omega)
      rw [hl] at e
      exact ⟨au, cu, e⟩
    subst hus
    refine ⟨au, k', cu, rfl, hu, by omega, fun _ => hk1, _, g', f', ⟨?_, ⟨_, rfl, ?_⟩, ?_⟩, Z'⟩
    · simp only [if_true]
      exact hits
    · rw [List.length_append, recP_len]
      omega
    · show L.mj + 1 ≤ t + 1
      have := hL.mj
      omega
set_option maxHeartbeats 16000000 in
set_option maxRecDepth 100000 in
theorem walk (v0 : Value) (l0 : List AskFE) (size : Int) (w : World) (hL : AskF w v0 l0) (hs : -9223372036854775808 ≤ size ∧ size ≤ 9223372036854775807) :
    Calls Tryz.prog 6 #[v0, .int .i64 size] w fun e w' => e = .returned (.bool true) ∧ Below w.heap.size w w' := by
  have h1 := wiP_ge size 1 8 (by omega)
  have HW1 := hide (within_wi size 1 8 w (by omega) (by omega) (by omega))
  obtain ⟨Z, hZ⟩ : ∃ Z, Z = wiP size 1 8 := ⟨_, rfl⟩
  rw [← hZ] at h1 HW1
  obtain ⟨hZ0, hZ1⟩ := h1
  obtain ⟨al, cl, rfl, hll, hcell⟩ := hL
  obtain ⟨N, hN⟩ : ∃ N, N = l0.length := ⟨_, rfl⟩
  rw [← hN] at hll ⊢
  have HN := hide hN
  have HC := hide hcell
  clear hZ hs hN hcell
  have HO := hide (open0_any 16 Z 3 w (by omega) (by omega) hZ0 hZ1 (by omega) (by omega))
  go_enter Tryz.func6, Tryz.ntmps6
  go_wp2_with fail
  refine HW1.out.mono ?_
  rintro ee w1 ⟨rfl, hw⟩
  subst w1
  clear HW1
  go_wp2_with fail
  refine HO.out.mono ?_
  rintro ee w1 ⟨x, p, l, pd, pl, pk, g, f, pw, rfl, Z1, -⟩
  obtain ⟨vw, hvw⟩ : ∃ v, v = Value.pointer (some ⟨pw, 0, none⟩) := ⟨_, rfl⟩
  rw [← hvw] at Z1
  have HZ1 := hide Z1
  clear HO Z1 hvw
  go_wp2_with fail
  go_loopw [6] (fun i wr => ∃ k : Nat, k ≤ 16 ∧ k ≤ N ∧ i = .int .i64 k ∧ ∃ S g', EmI Z S k ∧ Wz w wr x p l pd pl pk S (ls0 (seedX 0)) g' f vw (.slice none 0 0) (.slice none 0 0)) (fun i _ => 16 - (intOf i).toNat)
  case atStart => exact ⟨0, by omega, by omega, rfl, _, g, ⟨rfl, rfl, rfl, rfl, List.nodup_nil, rfl, rfl, Nat.le_refl _, (fun x hx => by cases hx), (fun x hx => by cases hx)⟩, HZ1.out⟩
  case round =>
    obtain ⟨k, hk, hkN, rfl, S, g2, hE, Zk⟩ := hrel
    have HZk := hide Zk
    have HE := hide hE
    clear Zk HZ1 hE
    by_cases hgo : k < N ∧ k < 16
    · obtain ⟨hlt, hlt2⟩ := hgo
      have hlt' : (k : Int) < (N : Int) := by omega
      have hlt2' : (k : Int) < 16 := by omega
      obtain ⟨bl, off, rfl, hAt⟩ := HC.out k (by have := HN.out; omega)
      obtain ⟨hr, -, -⟩ := hAt
      have hAcc := l0[k]'(by have := HN.out; omega)
      generalize l0[k]'(by have := HN.out; omega) = ak at hr
      obtain ⟨kd, xa, xv, nw, vb, bb⟩ := ak
      have kW : Kp [] w wr := HZk.out.bo.kp
      have HCa : Hid (∀ w', Kp [] wr.drew w' → w'.cell? ⟨bl, off + k * 5 + 1, none⟩ = some (.int .i64 xa)) := fun w' k' => (kW.trans ((kp_drew wr).trans k')).cell (hr 1 _ rfl) (by simp)
      have HCv : Hid (∀ w', Kp [] wr.drew w' → w'.cell? ⟨bl, off + k * 5 + 2, none⟩ = some (.int .i64 xv)) := fun w' k' => (kW.trans ((kp_drew wr).trans k')).cell (hr 2 _ rfl) (by simp)
      have HIn := hide hlt'
      obtain ⟨eR, eS, eW⟩ := And.intro HE.out.room (And.intro HE.out.size HE.out.wait)
      have HWd : Hid (∀ w', Kp [] wr.drew w' → Wd w' x (.pointer (some ⟨p, 0, none⟩)) (.pointer (some ⟨l, 0, none⟩)) (.pointer (some ⟨pd, 0, none⟩)) (.pointer (some ⟨pl, 0, none⟩)) (.pointer (some ⟨pk, 0, none⟩)) 16 Z 3 vw (.slice none 0 0) (.slice none 0 0)) := fun w' k => by
        have := (HZk.out.on ((kp_drew wr).trans k)).at_
        rw [eR, eS, eW] at this
        exact this
      clear hr kW eR eS eW hAcc
      go_wp2_with fail
      refine region_grow_tail 16 Tryz.mixed [Is (.pointer (some ⟨x, 0, none⟩)), Is (.pointer (some ⟨x, 0, none⟩)), Is (.pointer (some ⟨x, 0, none⟩)), Is (.pointer (some ⟨p, 0, none⟩)), Is (.slice (some ⟨bl, off, none⟩) N cl), Is (.int .i64 (k : Int)), Is (.pointer (some ⟨bl, off + k * 5, none⟩)), Is (.pointer (some ⟨bl, off + k * 5 + 1, none⟩)), Is (.int .i64 xa), Is (.slice (some ⟨bl, off, none⟩) N cl), Is (.int .i64 (k : Int)), Is (.pointer (some ⟨bl, off + k * 5, none⟩)), Is (.pointer (some ⟨bl, off + k * 5 + 2, none⟩)), Is (.int .i64 xv), RO wr.drew.heap.size (itF xa xv 2), Is (.int .i64 (k : Int))] [[(5, none)], [(33, some 0)], [(34, some 1)], [(35, some 2)], [(0, none)], [(6, none)], [(37, some 4), (38, some 5)], [(39, some 6)], [(40, some 7)], [(0, none)], [(6, none)], [(42, some 9), (43, some 10)], [(44, some 11)], [(45, some 12)], [(41, some 8), (46, some 13)], [(6, none)]] (by kernel_rfl) ?_ ?_ ?_
      all_goals try simp only [List.take_succ_cons, List.take_zero, List.drop_succ_cons, List.drop_zero]
      · simp only [List.mem_cons, List.not_mem_nil, or_false]
        intro R hR
        rcases hR with rfl | rfl | rfl | rfl | rfl | rfl | rfl | rfl | rfl | rfl | rfl | rfl | rfl | rfl | rfl | rfl <;> first | exact stable_is _ | exact stable_ro _ _
      · refine steps_cons (fun a w hk hn => ?_) ?_
        · have h5 : a.eval (.tmp 5) = .pointer (some ⟨x, 0, none⟩) := hn.1
          clear hn
          refine wants_plain rfl ?_
          exact grown_move (.tmp 5) rfl h5
        refine steps_cons (fun a w hk hn => ?_) ?_
        · have h33 : a.eval (.tmp 33) = .pointer (some ⟨x, 0, none⟩) := hn.1
          clear hn
          refine wants_plain rfl ?_
          refine grown_run (v := .pointer (some ⟨x, 0, none⟩)) ?_ (Kp.refl _ _) rfl
          obtain ⟨ρ, hρ, hc, hf, hg⟩ := eval_is a
          rw [hρ] at h33 ⊢
          simp [go_sem, h33]
        refine steps_cons (fun a w hk hn => ?_) ?_
        · have h34 : a.eval (.tmp 34) = .pointer (some ⟨x, 0, none⟩) := hn.1
          clear hn
          refine wants_plain rfl ?_
          refine grown_run (v := .pointer (some ⟨x, 0, none⟩)) ?_ (Kp.refl _ _) rfl
          obtain ⟨ρ, hρ, hc, hf, hg⟩ := eval_is a
          rw [hρ] at h34 ⊢
          simp [go_sem, h34]
        refine steps_cons (fun a w hk hn => ?_) ?_
        · have h35 : a.eval (.tmp 35) = .pointer (some ⟨x, 0, none⟩) := hn.1
          clear hn
          refine wants_plain rfl ?_
          refine grown_run (v := .pointer (some ⟨p, 0, none⟩)) ?_ (Kp.refl _ _) rfl
          have hcell : w.cell? ⟨x, 0, none⟩ = some (.pointer (some ⟨p, 0, none⟩)) := by rw [cell_of_row w x 0 _ _ _ (HWd.out w hk)]; rfl
          obtain ⟨ρ, hρ, hc, hf, hg⟩ := eval_is a
          rw [hρ] at h35 ⊢
          simp [go_sem, h35, hcell]
        refine steps_cons (fun a w hk hn => ?_) ?_
        · have h0 : a.eval (.tmp 0) = .slice (some ⟨bl, off, none⟩) N cl := hn.1
          clear hn
          refine wants_plain rfl ?_
          exact grown_move (.tmp 0) rfl h0
        refine steps_cons (fun a w hk hn => ?_) ?_
        · have h6 : a.eval (.tmp 6) = .int .i64 (k : Int) := hn.1
          clear hn
          refine wants_plain rfl ?_
          exact grown_move (.tmp 6) rfl h6
        refine steps_cons (fun a w hk hn => ?_) ?_
        · have h37 : a.eval (.tmp 37) = .slice (some ⟨bl, off, none⟩) N cl := hn.1
          have h38 : a.eval (.tmp 38) = .int .i64 (k : Int) := hn.2.1
          clear hn
          refine wants_plain rfl ?_
          refine grown_run (v := .pointer (some ⟨bl, off + k * 5, none⟩)) ?_ (Kp.refl _ _) rfl
          have hin := HIn.out
          obtain ⟨ρ, hρ, hc, hf, hg⟩ := eval_is a
          rw [hρ] at h37 h38 ⊢
          simp [go_sem, h37, h38, hin]
        refine steps_cons (fun a w hk hn => ?_) ?_
        · have h39 : a.eval (.tmp 39) = .pointer (some ⟨bl, off + k * 5, none⟩) := hn.1
          clear hn
          refine wants_plain rfl ?_
          refine grown_run (v := .pointer (some ⟨bl, off + k * 5 + 1, none⟩)) ?_ (Kp.refl _ _) rfl
          obtain ⟨ρ, hρ, hc, hf, hg⟩ := eval_is a
          rw [hρ] at h39 ⊢
          simp [go_sem, h39]
        refine steps_cons (fun a w hk hn => ?_) ?_
        · have h40 : a.eval (.tmp 40) = .pointer (some ⟨bl, off + k * 5 + 1, none⟩) := hn.1
          clear hn
          refine wants_plain rfl ?_
          refine grown_run (v := .int .i64 xa) ?_ (Kp.refl _ _) rfl
          have hcell := HCa.out w hk
          obtain ⟨ρ, hρ, hc, hf, hg⟩ := eval_is a
          rw [hρ] at h40 ⊢
          simp [go_sem, h40, hcell]
        refine steps_cons (fun a w hk hn => ?_) ?_
        · have h0 : a.eval (.tmp 0) = .slice (some ⟨bl, off, none⟩) N cl := hn.1
          clear hn
          refine wants_plain rfl ?_
          exact grown_move (.tmp 0) rfl h0
        refine steps_cons (fun a w hk hn => ?_) ?_
        · have h6 : a.eval (.tmp 6) = .int .i64 (k : Int) := hn.1
          clear hn
          refine wants_plain rfl ?_
          exact grown_move (.tmp 6) rfl h6
        refine steps_cons (fun a w hk hn => ?_) ?_
        · have h42 : a.eval (.tmp 42) = .slice (some ⟨bl, off, none⟩) N cl := hn.1
          have h43 : a.eval (.tmp 43) = .int .i64 (k : Int) := hn.2.1
          clear hn
          refine wants_plain rfl ?_
          refine grown_run (v := .pointer (some ⟨bl, off + k * 5, none⟩)) ?_ (Kp.refl _ _) rfl
          have hin := HIn.out
          obtain ⟨ρ, hρ, hc, hf, hg⟩ := eval_is a
          rw [hρ] at h42 h43 ⊢
          simp [go_sem, h42, h43, hin]
        refine steps_cons (fun a w hk hn => ?_) ?_
        · have h44 : a.eval (.tmp 44) = .pointer (some ⟨bl, off + k * 5, none⟩) := hn.1
          clear hn
          refine wants_plain rfl ?_
          refine grown_run (v := .pointer (some ⟨bl, off + k * 5 + 2, none⟩)) ?_ (Kp.refl _ _) rfl
          obtain ⟨ρ, hρ, hc, hf, hg⟩ := eval_is a
          rw [hρ] at h44 ⊢
          simp [go_sem, h44]
        refine steps_cons (fun a w hk hn => ?_) ?_
        · have h45 : a.eval (.tmp 45) = .pointer (some ⟨bl, off + k * 5 + 2, none⟩) := hn.1
          clear hn
          refine wants_plain rfl ?_
          refine grown_run (v := .int .i64 xv) ?_ (Kp.refl _ _) rfl
          have hcell := HCv.out w hk
          obtain ⟨ρ, hρ, hc, hf, hg⟩ := eval_is a
          rw [hρ] at h45 ⊢
          simp [go_sem, h45, hcell]
        refine steps_cons (fun a w hk hn => ?_) ?_
        · have h41 : a.eval (.tmp 41) = .int .i64 xa := hn.1
          have h46 : a.eval (.tmp 46) = .int .i64 xv := hn.2.1
          clear hn
          refine wants_plain rfl ?_
          refine grown_call (f := 15) rfl Tryz.func15 (by kernel_rfl) (by kernel_rfl) ?_
          simp only [List.map_toArray, List.map_cons, List.map_nil, h41, h46]
          refine (kitem_any xa xv 2 w).mono ?_
          rintro e w' ⟨ao, m, c, rfl, R, K⟩
          exact ⟨_, rfl, K, ⟨ao, m, c, rfl, R.sl, fun i hi => Nat.le_trans hk.size (R.own i hi)⟩⟩
        refine steps_cons (fun a w hk hn => ?_) ?_
        · have h6 : a.eval (.tmp 6) = .int .i64 (k : Int) := hn.1
          clear hn
          refine wants_plain rfl ?_
          exact grown_move (.tmp 6) rfl h6
        exact trivial
      intro W1 hkW1
      rintro _ rfl
      rintro _ rfl
      rintro _ rfl
      rintro _ rfl
      rintro _ rfl
      rintro _ rfl
      rintro _ rfl
      rintro _ rfl
      rintro _ rfl
      rintro _ rfl
      rintro _ rfl
      rintro _ rfl
      rintro _ rfl
      rintro _ rfl
      intro v47 h47
      rintro _ rfl
      refine fin_nil ?_
      simp only [Act.put, List.set_cons_zero, List.set_cons_succ, List.setIfInBounds_toArray]
      obtain ⟨av, mv, cv, ev, Sv, Nv⟩ := h47
      subst ev
      obtain ⟨kk, nn, S', hsub, hE'⟩ := emI_sub HE.out hlt2 xa xv
      have HE' := hide hE'
      have ZW := HZk.out.on ((kp_drew wr).trans hkW1)
      have HSub := hide (wz_sub ZW (.slice av mv cv) (itF xa xv 2) Sv (itF_bs _ _ _) (by have := itF_len xa xv 2; omega) (fun i hi e => by
        have h1 := Nv i hi
        have h2 := HZk.out.low i (.inl e)
        exact absurd (show wr.drew.heap.size = wr.heap.size from rfl) (by omega)) (k : Int) (by omega) (by omega) (by have := HE.out.len; omega) (by have := HE.out.len; have := HE.out.m; omega) _ _ _ hsub)
      clear HZk hkW1 Sv Nv ZW HWd HCa HCv hsub hE'
      go_wp2_with fail
      refine HSub.out.mono ?_
      rintro ee w4 ⟨rfl, g4, Z4, -⟩
      have HZ4 := hide Z4
      clear HSub Z4
      go_wp2_with fail
      go_roundw
      case rel => exact ⟨k + 1, by omega, by omega, by go_num, S', g4, HE'.out, HZ4.out⟩
      case measure => simp [intOf]; omega
    · have hc0 := HZk.out.at_.c0
      obtain ⟨R, hR⟩ : ∃ R, R = S.rc.length := ⟨_, rfl⟩
      have HRc := hide (frcs_any HZk.out.bo.fr R hR)
      have HR := hide hR
      clear hR
      by_cases hx1 : k < N
      · have hx1' : (k : Int) < (N : Int) := by omega
        have hx2' : ¬ (k : Int) < 16 := by omega
        go_wp2_with fail
        refine HRc.out.mono ?_
        rintro ee w5 ⟨rfl, hw⟩
        subst w5
        clear HRc hc0
        go_wp2_with fail
        obtain ⟨wB, hwB⟩ : ∃ y, y = wr := ⟨_, rfl⟩
        rw [← hwB] at HZk
        have HEL : Hid (EmL S.rc (ls0 (seedX 0)) 0 0) := ⟨rfl, ⟨[], rfl, by simp⟩, Nat.le_refl _⟩
        have HZ0 : Hid (Wz w wB x p l pd pl pk { S with ms := S.ms.drop 0 } (ls0 (seedX 0)) g2 f vw (.slice none 0 0) (.slice none 0 0)) := HZk.out
        rw [hwB] at HZ0
        clear HZk hwB
        go_loopw [8, 9] (fun o i wr => ∃ t c : Nat, t ≤ 20 ∧ i = .int .i64 t ∧ o = .int .i64 c ∧ c ≤ R ∧ min R t ≤ c ∧ ∃ L g' f', EmL S.rc L c t ∧ Wz w wr x p l pd pl pk { S with ms := S.ms.drop c } L g' f' vw (.slice none 0 0) (.slice none 0 0)) (fun _ i _ => 20 - (intOf i).toNat)
        case atStart => exact ⟨0, 0, by omega, rfl, rfl, by omega, by omega, _, g2, f, HEL.out, HZ0.out⟩
        case round =>
          obtain ⟨t, c, ht, rfl, rfl, hcR, hct, L, g3, f3, hEL, Z3⟩ := hrel
          have HEL3 := hide hEL
          have HZ3 := hide Z3
          have hc0 := Z3.at_.c0
          clear hEL Z3 HEL HZ0
          by_cases hlt : t < 20
          · have hlt' : (t : Int) < 20 := by omega
            have HSt := hide (em_step HE.out hk hZ0 hZ1 HEL3.out (by rw [← HR.out]; exact hcR) ht HZ3.out)
            rw [← HR.out] at HSt
            clear HZ3 HEL3
            go_wp2_with fail
            refine HSt.out.mono ?_
            rintro ee w6 ⟨au, k', cu, rfl, hu, hk1, hk2, L', g', f', hEL', Z'⟩
            have HEL4 := hide hEL'
            have HZ4 := hide Z'
            have HU := hide hu
            have hk3 : c + k' ≤ 16 := by have := HE.out.len; have := HR.out; omega
            clear HSt hEL' Z' hu hc0
            go_wp2_with fail
            go_loopw [8, 12] (fun o i wr => ∃ j : Nat, j ≤ k' ∧ i = .int .i64 j ∧ o = .int .i64 ((c + j : Nat) : Int) ∧ wr = w6) (fun _ i _ => k' - (intOf i).toNat)
            case atStart => exact ⟨0, by omega, rfl, rfl, rfl⟩
            case round =>
              obtain ⟨j, hj, rfl, rfl, rfl⟩ := hrel
              by_cases hjl : j < k'
              · have hjl' : (j : Int) < (k' : Int) := by omega
                obtain ⟨ga, rfl, hcu⟩ := HU.out.at j (by simp [seqF]; exact hjl)
                have e1 : (seqF c k')[j]'(by simp [seqF]; exact hjl) = ((c + j : Nat) : Int) := by simp [seqF]
                rw [e1] at hcu
                have hw1 : IntKind.i64.wrap (((c + j : Nat) : Int) + 1) = ((c + (j + 1) : Nat) : Int) := by simp [IntKind.wrap, IntKind.signed, IntKind.bits]; omega
                clear e1
                go_wp2_with fail
                go_roundw
                case rel => exact ⟨j + 1, by omega, by go_num, by first | rfl | (simp; omega), trivial⟩
                case measure => simp [intOf]; omega
              · have hjk : j = k' := by omega
                have hjl' : ¬ (j : Int) < (k' : Int) := by omega
                subst hjk
                go_wp2_with fail
                go_roundw
                case rel => exact ⟨t + 1, c + j, by omega, by go_num, rfl, by omega, by omega, L', g', f', HEL4.out, HZ4.out⟩
                case measure => simp [intOf]; omega
          · have ht20 : t = 20 := by omega
            have hnlt : ¬ (t : Int) < 20 := by omega
            have hcR2 : c = R := by have := HE.out.len; have := HR.out; omega
            subst ht20
            subst hcR2
            have hc16 : c ≤ 16 := by have := HE.out.len; have := HR.out; omega
            clear hct hcR
            go_wp2_with fail
            obtain ⟨wC, hwC⟩ : ∃ y, y = wr := ⟨_, rfl⟩
            rw [← hwC] at HZ3
            have hKC : Kp [] wC wr := by rw [hwC]; exact Kp.refl _ _
            have HKC := hide hKC
            clear hKC hwC hc0
            go_loopw [13] (fun i wr => ∃ j : Nat, j ≤ c ∧ i = .int .i64 j ∧ Kp [] wC wr) (fun i _ => c - (intOf i).toNat)
            case atStart => exact ⟨0, by omega, rfl, HKC.out⟩
            case round =>
              obtain ⟨j, hj, rfl, Kj⟩ := hrel
              have Zj := HZ3.out.on Kj
              have HZj := hide Zj
              have HKj := hide Kj
              have hc0 := Zj.at_.c0
              have hc1 := Zj.at_.c1
              clear Zj Kj HKC
              by_cases hjl : j < c
              · have hjl' : (j : Int) < (c : Int) := by omega
                have hjr : j < S.rc.length := by rw [← HR.out]; exact hjl
                have HRec0 := hide (frec_ok HZj.out.bo.fr j hjr _ rfl)
                have hbx := HE.out.bs _ (List.getElem_mem hjr)
                have hji : j < L.its.length := by rw [HEL3.out.its, List.length_take]; omega
                have hxe : S.rc[j] = L.its[j] := by simp [HEL3.out.its]
                have HEn := hide (fun wr k => uentry_ok (HZj.out.on (w' := wr) k).bo.lg j hji _ rfl)
                rw [← hxe] at HEn
                obtain ⟨xx, hxx⟩ : ∃ y, y = S.rc[j] := ⟨_, rfl⟩
                have HRec : Hid (Calls Tryz.prog 26 #[.pointer (some ⟨p, 0, none⟩), .int .i64 (j : Int)] wr fun e w' => ∃ c, e = .returned (.tuple #[.slice (some ⟨wr.heap.size, 0, none⟩) xx.length c, .bool true]) ∧ Sl w' (.slice (some ⟨wr.heap.size, 0, none⟩) xx.length c) xx ∧ Kp [] wr w') := by rw [hxx]; exact HRec0.out
                rw [← hxx] at HEn
                obtain ⟨nx, hnx⟩ : ∃ n, n = xx.length := ⟨_, rfl⟩
                rw [← hnx] at HRec HEn
                clear HRec0 hbx hji hxe hxx hjr hnx
                go_wp2_with fail
                refine HRec.out.mono ?_
                rintro ee w7 ⟨c7, rfl, S7, K7⟩
                have HS7 := hide S7
                have HEn7 := hide (HEn.out w7 K7)
                have HK7 := hide K7
                have hc1' := (HZj.out.on K7).at_.c1
                clear HRec HEn S7 K7
                go_wp2_with fail
                refine HEn7.out.mono ?_
                rintro ee w8 ⟨c8, rfl, S8, K8, -⟩
                have HK8 := hide ((HKj.out.trans HK7.out).trans K8)
                obtain ⟨X, hX⟩ : ∃ X, X = strOfNums xx := ⟨_, rfl⟩
                have cv1 := (HS7.out.kept K8 (by simp)).conv (P := Tryz.prog) 28 9 5 Tryz.underlying28 Tryz.underlying5 Tryz.underlying9
                have cv2 := S8.conv (P := Tryz.prog) 28 9 5 Tryz.underlying28 Tryz.underlying5 Tryz.underlying9
                rw [← hX] at cv1 cv2
                have hbq : (X.toList == X.toList) = true := by simp
                clear HEn7 S8 K8 hX
                go_wp2_with fail
                go_roundw
                case rel => exact ⟨j + 1, by omega, by go_num, HK8.out⟩
                case measure => simp [intOf]; omega
              · have hjl' : ¬ (j : Int) < (c : Int) := by omega
                have hw0 : 0 = (S.ms.drop c).length := by
                  have e : S.ms.length = S.rc.length := by rw [HE.out.rc, List.length_map]
                  have := HR.out
                  rw [List.length_drop]
                  omega
                have HWt := hide (fwaits_any HZj.out.bo.fr 0 hw0)
                have HSz := hide (usize_any HZj.out.bo.lg (c : Int) (by rw [HEL3.out.its, List.length_take, ← HR.out]; simp))
                have HKn := hide (fknown_any wr)
                have HKw := hide HZj.out.bo.kp
                clear HZj hw0
                go_wp2_with fail
                refine HWt.out.mono ?_
                rintro ee w7 ⟨rfl, hw⟩
                subst w7
                clear HWt
                go_wp2_with fail
                refine HSz.out.mono ?_
                rintro ee w7 ⟨rfl, hw⟩
                subst w7
                clear HSz
                go_wp2_with fail
                refine HKn.out.mono ?_
                rintro ee w8 ⟨rfl, K8⟩
                have HK8 := hide (HKw.out.trans K8)
                clear HKn K8
                go_wp2_with fail
                go_ret
                exact ⟨rfl, HK8.out.below (Nat.le_refl _) (by simp)⟩
      · have hx1' : ¬ (k : Int) < (N : Int) := by omega
        go_wp2_with fail
        refine HRc.out.mono ?_
        rintro ee w5 ⟨rfl, hw⟩
        subst w5
        clear HRc hc0
        go_wp2_with fail
        obtain ⟨wB, hwB⟩ : ∃ y, y = wr := ⟨_, rfl⟩
        rw [← hwB] at HZk
        have HEL : Hid (EmL S.rc (ls0 (seedX 0)) 0 0) := ⟨rfl, ⟨[], rfl, by simp⟩, Nat.le_refl _⟩
        have HZ0 : Hid (Wz w wB x p l pd pl pk { S with ms := S.ms.drop 0 } (ls0 (seedX 0)) g2 f vw (.slice none 0 0) (.slice none 0 0)) := HZk.out
        rw [hwB] at HZ0
        clear HZk hwB
        go_loopw [8, 9] (fun o i wr => ∃ t c : Nat, t ≤ 20 ∧ i = .int .i64 t ∧ o = .int .i64 c ∧ c ≤ R ∧ min R t ≤ c ∧ ∃ L g' f', EmL S.rc L c t ∧ Wz w wr x p l pd pl pk { S with ms := S.ms.drop c } L g' f' vw (.slice none 0 0) (.slice none 0 0)) (fun _ i _ => 20 - (intOf i).toNat)
        case atStart => exact ⟨0, 0, by omega, rfl, rfl, by omega, by omega, _, g2, f, HEL.out, HZ0.out⟩
        case round =>
          obtain ⟨t, c, ht, rfl, rfl, hcR, hct, L, g3, f3, hEL, Z3⟩ := hrel
          have HEL3 := hide hEL
          have HZ3 := hide Z3
          have hc0 := Z3.at_.c0
          clear hEL Z3 HEL HZ0
          by_cases hlt : t < 20
          · have hlt' : (t : Int) < 20 := by omega
            have HSt := hide (em_step HE.out hk hZ0 hZ1 HEL3.out (by rw [← HR.out]; exact hcR) ht HZ3.out)
            rw [← HR.out] at HSt
            clear HZ3 HEL3
            go_wp2_with fail
            refine HSt.out.mono ?_
            rintro ee w6 ⟨au, k', cu, rfl, hu, hk1, hk2, L', g', f', hEL', Z'⟩
            have HEL4 := hide hEL'
            have HZ4 := hide Z'
            have HU := hide hu
            have hk3 : c + k' ≤ 16 := by have := HE.out.len; have := HR.out; omega
            clear HSt hEL' Z' hu hc0
            go_wp2_with fail
            go_loopw [8, 12] (fun o i wr => ∃ j : Nat, j ≤ k' ∧ i = .int .i64 j ∧ o = .int .i64 ((c + j : Nat) : Int) ∧ wr = w6) (fun _ i _ => k' - (intOf i).toNat)
            case atStart => exact ⟨0, by omega, rfl, rfl, rfl⟩
            case round =>
              obtain ⟨j, hj, rfl, rfl, rfl⟩ := hrel
              by_cases hjl : j < k'
              · have hjl' : (j : Int) < (k' : Int) := by omega
                obtain ⟨ga, rfl, hcu⟩ := HU.out.at j (by simp [seqF]; exact hjl)
                have e1 : (seqF c k')[j]'(by simp [seqF]; exact hjl) = ((c + j : Nat) : Int) := by simp [seqF]
                rw [e1] at hcu
                have hw1 : IntKind.i64.wrap (((c + j : Nat) : Int) + 1) = ((c + (j + 1) : Nat) : Int) := by simp [IntKind.wrap, IntKind.signed, IntKind.bits]; omega
                clear e1
                go_wp2_with fail
                go_roundw
                case rel => exact ⟨j + 1, by omega, by go_num, by first | rfl | (simp; omega), trivial⟩
                case measure => simp [intOf]; omega
              · have hjk : j = k' := by omega
                have hjl' : ¬ (j : Int) < (k' : Int) := by omega
                subst hjk
                go_wp2_with fail
                go_roundw
                case rel => exact ⟨t + 1, c + j, by omega, by go_num, rfl, by omega, by omega, L', g', f', HEL4.out, HZ4.out⟩
                case measure => simp [intOf]; omega
          · have ht20 : t = 20 := by omega
            have hnlt : ¬ (t : Int) < 20 := by omega
            have hcR2 : c = R := by have := HE.out.len; have := HR.out; omega
            subst ht20
            subst hcR2
            have hc16 : c ≤ 16 := by have := HE.out.len; have := HR.out; omega
            clear hct hcR
            go_wp2_with fail
            obtain ⟨wC, hwC⟩ : ∃ y, y = wr := ⟨_, rfl⟩
            rw [← hwC] at HZ3
            have hKC : Kp [] wC wr := by rw [hwC]; exact Kp.refl _ _
            have HKC := hide hKC
            clear hKC hwC hc0
            go_loopw [13] (fun i wr => ∃ j : Nat, j ≤ c ∧ i = .int .i64 j ∧ Kp [] wC wr) (fun i _ => c - (intOf i).toNat)
            case atStart => exact ⟨0, by omega, rfl, HKC.out⟩
            case round =>
              obtain ⟨j, hj, rfl, Kj⟩ := hrel
              have Zj := HZ3.out.on Kj
              have HZj := hide Zj
              have HKj := hide Kj
              have hc0 := Zj.at_.c0
              have hc1 := Zj.at_.c1
              clear Zj Kj HKC
              by_cases hjl : j < c
              · have hjl' : (j : Int) < (c : Int) := by omega
                have hjr : j < S.rc.length := by rw [← HR.out]; exact hjl
                have HRec0 := hide (frec_ok HZj.out.bo.fr j hjr _ rfl)
                have hbx := HE.out.bs _ (List.getElem_mem hjr)
                have hji : j < L.its.length := by rw [HEL3.out.its, List.length_take]; omega
                have hxe : S.rc[j] = L.its[j] := by simp [HEL3.out.its]
                have HEn := hide (fun wr k => uentry_ok (HZj.out.on (w' := wr) k).bo.lg j hji _ rfl)
                rw [← hxe] at HEn
                obtain ⟨xx, hxx⟩ : ∃ y, y = S.rc[j] := ⟨_, rfl⟩
                have HRec : Hid (Calls Tryz.prog 26 #[.pointer (some ⟨p, 0, none⟩), .int .i64 (j : Int)] wr fun e w' => ∃ c, e = .returned (.tuple #[.slice (some ⟨wr.heap.size, 0, none⟩) xx.length c, .bool true]) ∧ Sl w' (.slice (some ⟨wr.heap.size, 0, none⟩) xx.length c) xx ∧ Kp [] wr w') := by rw [hxx]; exact HRec0.out
                rw [← hxx] at HEn
                obtain ⟨nx, hnx⟩ : ∃ n, n = xx.length := ⟨_, rfl⟩
                rw [← hnx] at HRec HEn
                clear HRec0 hbx hji hxe hxx hjr hnx
                go_wp2_with fail
                refine HRec.out.mono ?_
                rintro ee w7 ⟨c7, rfl, S7, K7⟩
                have HS7 := hide S7
                have HEn7 := hide (HEn.out w7 K7)
                have HK7 := hide K7
                have hc1' := (HZj.out.on K7).at_.c1
                clear HRec HEn S7 K7
                go_wp2_with fail
                refine HEn7.out.mono ?_
                rintro ee w8 ⟨c8, rfl, S8, K8, -⟩
                have HK8 := hide ((HKj.out.trans HK7.out).trans K8)
                obtain ⟨X, hX⟩ : ∃ X, X = strOfNums xx := ⟨_, rfl⟩
                have cv1 := (HS7.out.kept K8 (by simp)).conv (P := Tryz.prog) 28 9 5 Tryz.underlying28 Tryz.underlying5 Tryz.underlying9
                have cv2 := S8.conv (P := Tryz.prog) 28 9 5 Tryz.underlying28 Tryz.underlying5 Tryz.underlying9
                rw [← hX] at cv1 cv2
                have hbq : (X.toList == X.toList) = true := by simp
                clear HEn7 S8 K8 hX
                go_wp2_with fail
                go_roundw
                case rel => exact ⟨j + 1, by omega, by go_num, HK8.out⟩
                case measure => simp [intOf]; omega
              · have hjl' : ¬ (j : Int) < (c : Int) := by omega
                have hw0 : 0 = (S.ms.drop c).length := by
                  have e : S.ms.length = S.rc.length := by rw [HE.out.rc, List.length_map]
                  have := HR.out
                  rw [List.length_drop]
                  omega
                have HWt := hide (fwaits_any HZj.out.bo.fr 0 hw0)
                have HSz := hide (usize_any HZj.out.bo.lg (c : Int) (by rw [HEL3.out.its, List.length_take, ← HR.out]; simp))
                have HKn := hide (fknown_any wr)
                have HKw := hide HZj.out.bo.kp
                clear HZj hw0
                go_wp2_with fail
                refine HWt.out.mono ?_
                rintro ee w7 ⟨rfl, hw⟩
                subst w7
                clear HWt
                go_wp2_with fail
                refine HSz.out.mono ?_
                rintro ee w7 ⟨rfl, hw⟩
                subst w7
                clear HSz
                go_wp2_with fail
                refine HKn.out.mono ?_
                rintro ee w8 ⟨rfl, K8⟩
                have HK8 := hide (HKw.out.trans K8)
                clear HKn K8
                go_wp2_with fail
                go_ret
                exact ⟨rfl, HK8.out.below (Nat.le_refl _) (by simp)⟩
set_option maxRecDepth 100000 in
theorem lifted (os : Os) (started : os.Started) (H : Type) (enc : TypeId × Value → H) :
    ReturnsInHanded {} Tryz.checked os 6 .any (Rows.frontEmptiesSpec.pre6 enc Tryz.prog Tryz.f6 Rows.frontEmptiesRow.domain false) (Rows.frontEmptiesSpec.post enc Tryz.prog Tryz.f6 false true false false) := by
  refine returnsInHanded_of_change (C := Tryz.checked) own started (by kernel_rfl) Tryz.func6
    (ChangeSpec.witness6 (enc := enc) (C := Tryz.checked) false ⟨#[], #[.slice none 0 0, .int .i64 0], []⟩ 8 (by kernel_rfl) (by kernel_rfl) (by kernel_rfl) (by kernel_rfl)) ?_
  intro W base args ds gs before hval0 hW hcnd _
  have hval : ∀ (j : Nat) t v, Tryz.f6.params[j]? = some t → args[j]? = some v → Value.okWide Tryz.prog W .any base t v := hval0
  have hW' := hW
  obtain ⟨p, q, hA0, hV, rfl, hfz, hnd⟩ := hW
  have hA : DataW.TrodAll enc Tryz.prog W 0 (fun _ => true) true Tryz.f6.params.toList args.toList ds p := hA0
  rw [Tryz.params6] at hA hval
  obtain ⟨v0, vs0, d0, ds0, p0, q0, hargs, rfl, rfl, h0, r0⟩ := trodAll_cons hA
  obtain ⟨v1, vs1, d1, ds1, p1, q1, rfl, rfl, rfl, h1, r1⟩ := trodAll_cons r0
  obtain ⟨rfl, rfl, rfl⟩ := trodAll_nil r1
  obtain rfl : args = #[v0, v1] := by cases args; simp_all
  obtain ⟨rfl, rfl⟩ := trodVars_none hV
  obtain ⟨a0, len0, cap0, rfl⟩ := okWide_slice Tryz.underlying37 (hval 0 37 v0 rfl rfl)
  have k0 := h0
  have lt0 : ∀ x ∈ p0, x.block < W.heap.size := by obtain ⟨m, hm⟩ := k0; exact DataW.trod_lt m _ _ _ hm
  obtain ⟨l0, s0⟩ : ∃ l, AskF W (.slice a0 len0 cap0) l := by
    obtain ⟨fuel, hf⟩ := h0
    exact askF_of_trod (by simpa [Value.cells] using hf)
  obtain ⟨a1, rfl, rfl, rfl, w1⟩ := open_int Tryz.underlying3 (hval 1 3 v1 rfl rfl) h1
  clear hA0 hval0
  refine (walk (.slice a0 len0 cap0) l0 a1 W s0 (bounds_i64 w1)).mono fun e W' ⟨he, bel⟩ => ?_
  subst he
  exact ⟨_, rfl, _, _, _, [], _, [], hW', trodAll_mk1 (shut_bool Tryz.underlying4 _), (trodAll_cons_mk (Below.trod laidOut (by kernel_rfl) (of_decide_eq_true (by kernel_rfl)) k0 bel lt0) (trodAll_cons_mk (shut_int Tryz.underlying3 w1) trodAll_mk0)), rfl, bel.frame _, fun h => by cases h⟩
theorem over : Rows.frontEmptiesRow.holds Tryz.pinned (OpenSpec.ofChange Rows.frontEmptiesSpec) :=
  OpenClaim.holds_of_wide 6 Tryz.f6 rfl rfl rfl rfl rfl rfl rfl ⟨rfl, rfl, rfl, rfl, rfl⟩ rfl rfl rfl rfl rfl (by kernel_rfl) Tryz.func6 (by kernel_rfl)
    (of_decide_eq_true (by kernel_rfl)) (by unfold Func.isWrapper; first | (rw [if_pos (by decide +kernel)]; kernel_rfl) | (rw [if_neg (by decide +kernel)]; exact ⟨rfl, rfl⟩))
    (fun os started H enc _ => lifted os started H enc)
end Go.Proofs.YteabdojjllfcpaaGreat.frontEmpties
namespace Go.Proofs.YteabdojjllfcpaaGreat
/-- The given statement. -/
theorem FrontEmpties_holds : Rows.FrontEmptiesSaid := frontEmpties.over
#print axioms FrontEmpties_holds
end Go.Proofs.YteabdojjllfcpaaGreat
