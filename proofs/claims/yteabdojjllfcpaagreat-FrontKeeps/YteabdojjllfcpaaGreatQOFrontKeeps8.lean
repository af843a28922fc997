/-
  For any calls, power that goes at any call of any disk: behind it whatever had a receipt is in the ledger, or waits, and has its number.
-/
import Derived.Deep.CutBlock
import Derived.Test.YteabdojjllfcpaaGreatQOFrontKeeps7
namespace Go.Proofs.YteabdojjllfcpaaGreat.frontKeeps
open Go.ChangeShapes Go.WideShapes Go.ChangeAt Go.RowKit
open Go.Proofs.YteabdojjllfcpaaGreat
set_option linter.unusedVariables false
theorem own : ownKnob Tryz.prog.godebug = none := by kernel_rfl
theorem laidOut : laidOutB Tryz.prog = true := by kernel_rfl
open Go.Proofs
set_option maxHeartbeats 16000000 in
set_option maxRecDepth 100000 in
theorem walk (v0 : Value) (l0 : List AskFE) (va vk : Value) (w : World) (hL : AskF w v0 l0) (hA : ∃ x0 x1 x2, va = .agg #[.int .i64 x0, .int .i64 x1, .int .i64 x2] ∧ (-9223372036854775808 ≤ x0 ∧ x0 ≤ 9223372036854775807) ∧ (-9223372036854775808 ≤ x1 ∧ x1 ≤ 9223372036854775807) ∧ (-9223372036854775808 ≤ x2 ∧ x2 ≤ 9223372036854775807)) (hK : ∃ x0 x1 x2, vk = .agg #[.int .i64 x0, .int .i64 x1, .int .i64 x2] ∧ (-9223372036854775808 ≤ x0 ∧ x0 ≤ 9223372036854775807) ∧ (-9223372036854775808 ≤ x1 ∧ x1 ≤ 9223372036854775807) ∧ (-9223372036854775808 ≤ x2 ∧ x2 ≤ 9223372036854775807)) :
    Calls Tryz.prog 5 #[v0, va, vk] w fun e w' => e = .returned (.bool true) ∧ Below w.heap.size w w' := by
  obtain ⟨a0, a1, a2, rfl, ha0, ha1, ha2⟩ := hA
  obtain ⟨n0, n1, n2, rfl, hn0, hn1, hn2⟩ := hK
  obtain ⟨al, cl, rfl, hll, hcell⟩ := hL
  obtain ⟨N, hN⟩ : ∃ N, N = l0.length := ⟨_, rfl⟩
  rw [← hN] at hll ⊢
  have HN := hide hN
  have HC := hide hcell
  have HAr := hide (And.intro ha0 (And.intro ha1 ha2))
  clear hN hcell ha0 ha1 ha2 hn0 hn1 hn2
  go_enter Tryz.func5, Tryz.ntmps5
  go_wp2_with fail
  obtain ⟨wB, hwB⟩ : ∃ y, y = (w.alloc (.cells #[.int .i64 a0, .int .i64 a1, .int .i64 a2] 43)).alloc (.cells #[.int .i64 n0, .int .i64 n1, .int .i64 n2] 43) := ⟨_, rfl⟩
  obtain ⟨ba, hba⟩ : ∃ b, b = w.heap.size := ⟨_, rfl⟩
  obtain ⟨bk, hbk⟩ : ∃ b, b = ba + 1 := ⟨_, rfl⟩
  have HBa : Hid (Box3 wB ba a0 a1 a2) := by
    rw [hwB, hba]
    have h1 := heap_alloc_new w (.cells #[.int .i64 a0, .int .i64 a1, .int .i64 a2] 43)
    exact ((Kp.refl [] _).alloc _).heap h1 (by simp)
  have HBk : Hid (Box3 wB bk n0 n1 n2) := by
    have h1 := heap_alloc_new (w.alloc (.cells #[.int .i64 a0, .int .i64 a1, .int .i64 a2] 43)) (.cells #[.int .i64 n0, .int .i64 n1, .int .i64 n2] 43)
    rw [World.size_alloc] at h1
    rw [hwB, hbk, hba]
    exact h1
  have HKB : Hid (Kp [] w wB) := by rw [hwB]; exact ((Kp.refl [] _).alloc _).alloc _
  rw [← hwB, ← hba, ← hbk]
  have HO := hide (open0_any 8 3 5 wB (by omega) (by omega) (by omega) (by omega) (by omega) (by omega))
  clear hwB hba hbk
  refine HO.out.mono ?_
  rintro ee w2 ⟨x, p, l, pd, pl, pk, g, f, pw, rfl, Z1, -⟩
  obtain ⟨vw, hvw⟩ : ∃ v, v = Value.pointer (some ⟨pw, 0, none⟩) := ⟨_, rfl⟩
  rw [← hvw] at Z1
  have HZ1 := hide Z1
  have HWd : Hid (∀ w', Kp [] w2.drew w' → Wd w' x (.pointer (some ⟨p, 0, none⟩)) (.pointer (some ⟨l, 0, none⟩)) (.pointer (some ⟨pd, 0, none⟩)) (.pointer (some ⟨pl, 0, none⟩)) (.pointer (some ⟨pk, 0, none⟩)) 8 3 5 vw (.slice none 0 0) (.slice none 0 0)) := fun w' k => (HZ1.out.on ((kp_drew w2).trans k)).at_
  clear HO Z1 hvw
  go_wp2_with fail
  refine region_grow Tryz.mixed [Is (.pointer (some ⟨x, 0, none⟩)), Is (.pointer (some ⟨x, 0, none⟩)), Is (.pointer (some ⟨x, 2, none⟩)), Is (.pointer (some ⟨pd, 0, none⟩)), Is (.pointer (some ⟨x, 0, none⟩)), Is (.pointer (some ⟨x, 0, none⟩)), Is (.pointer (some ⟨x, 3, none⟩)), Is (.pointer (some ⟨pl, 0, none⟩)), Is (.pointer (some ⟨x, 0, none⟩)), Is (.pointer (some ⟨x, 0, none⟩)), Is (.pointer (some ⟨x, 4, none⟩)), Is (.pointer (some ⟨pk, 0, none⟩)), DT w2.heap.size pd pl pk, DT w2.heap.size pd pl pk] [[(7, none)], [(29, some 0)], [(30, some 1)], [(31, some 2)], [(7, none)], [(33, some 4)], [(34, some 5)], [(35, some 6)], [(7, none)], [(37, some 8)], [(38, some 9)], [(39, some 10)], [(32, some 3), (36, some 7), (40, some 11)], [(41, some 12)]] (by kernel_rfl) ?_ ?_ ?_
  · simp only [List.mem_cons, List.not_mem_nil, or_false]
    intro R hR
    rcases hR with rfl | rfl | rfl | rfl | rfl | rfl | rfl | rfl | rfl | rfl | rfl | rfl | rfl | rfl <;> first | exact stable_is _ | exact stable_dt _ _ _ _
  · refine steps_cons (fun a w hk hn => ?_) ?_
    · have h7 : a.eval (.tmp 7) = .pointer (some ⟨x, 0, none⟩) := hn.1
      clear hn
      refine wants_plain rfl ?_
      exact grown_move (.tmp 7) rfl h7
    refine steps_cons (fun a w hk hn => ?_) ?_
    · have h29 : a.eval (.tmp 29) = .pointer (some ⟨x, 0, none⟩) := hn.1
      clear hn
      refine wants_plain rfl ?_
      refine grown_run (v := .pointer (some ⟨x, 0, none⟩)) ?_ (Kp.refl _ _) rfl
      obtain ⟨ρ, hρ, hc, hf, hg⟩ := eval_is a
      rw [hρ] at h29 ⊢
      simp [go_sem, h29]
    refine steps_cons (fun a w hk hn => ?_) ?_
    · have h30 : a.eval (.tmp 30) = .pointer (some ⟨x, 0, none⟩) := hn.1
      clear hn
      refine wants_plain rfl ?_
      refine grown_run (v := .pointer (some ⟨x, 2, none⟩)) ?_ (Kp.refl _ _) rfl
      obtain ⟨ρ, hρ, hc, hf, hg⟩ := eval_is a
      rw [hρ] at h30 ⊢
      simp [go_sem, h30]
    refine steps_cons (fun a w hk hn => ?_) ?_
    · have h31 : a.eval (.tmp 31) = .pointer (some ⟨x, 2, none⟩) := hn.1
      clear hn
      refine wants_plain rfl ?_
      refine grown_run (v := .pointer (some ⟨pd, 0, none⟩)) ?_ (Kp.refl _ _) rfl
      have hcell : w.cell? ⟨x, 2, none⟩ = some (.pointer (some ⟨pd, 0, none⟩)) := by rw [cell_of_row w x 2 _ _ _ (HWd.out w hk)]; rfl
      obtain ⟨ρ, hρ, hc, hf, hg⟩ := eval_is a
      rw [hρ] at h31 ⊢
      simp [go_sem, h31, hcell]
    refine steps_cons (fun a w hk hn => ?_) ?_
    · have h7 : a.eval (.tmp 7) = .pointer (some ⟨x, 0, none⟩) := hn.1
      clear hn
      refine wants_plain rfl ?_
      exact grown_move (.tmp 7) rfl h7
    refine steps_cons (fun a w hk hn => ?_) ?_
    · have h33 : a.eval (.tmp 33) = .pointer (some ⟨x, 0, none⟩) := hn.1
      clear hn
      refine wants_plain rfl ?_
      refine grown_run (v := .pointer (some ⟨x, 0, none⟩)) ?_ (Kp.refl _ _) rfl
      obtain ⟨ρ, hρ, hc, hf, hg⟩ := eval_is a
      rw [hρ] at h33 ⊢
      simp [go_sem, h33]
    refine steps_cons (fun a w hk hn => ?_) ?_
    · have h34 : a.eval (.tmp 34) = .pointer (some ⟨x, 0, none⟩) := hn.1
      clear hn
      refine wants_plain rfl ?_
      refine grown_run (v := .pointer (some ⟨x, 3, none⟩)) ?_ (Kp.refl _ _) rfl
      obtain ⟨ρ, hρ, hc, hf, hg⟩ := eval_is a
      rw [hρ] at h34 ⊢
      simp [go_sem, h34]
    refine steps_cons (fun a w hk hn => ?_) ?_
    · have h35 : a.eval (.tmp 35) = .pointer (some ⟨x, 3, none⟩) := hn.1
      clear hn
      refine wants_plain rfl ?_
      refine grown_run (v := .pointer (some ⟨pl, 0, none⟩)) ?_ (Kp.refl _ _) rfl
      have hcell : w.cell? ⟨x, 3, none⟩ = some (.pointer (some ⟨pl, 0, none⟩)) := by rw [cell_of_row w x 3 _ _ _ (HWd.out w hk)]; rfl
      obtain ⟨ρ, hρ, hc, hf, hg⟩ := eval_is a
      rw [hρ] at h35 ⊢
      simp [go_sem, h35, hcell]
    refine steps_cons (fun a w hk hn => ?_) ?_
    · have h7 : a.eval (.tmp 7) = .pointer (some ⟨x, 0, none⟩) := hn.1
      clear hn
      refine wants_plain rfl ?_
      exact grown_move (.tmp 7) rfl h7
    refine steps_cons (fun a w hk hn => ?_) ?_
    · have h37 : a.eval (.tmp 37) = .pointer (some ⟨x, 0, none⟩) := hn.1
      clear hn
      refine wants_plain rfl ?_
      refine grown_run (v := .pointer (some ⟨x, 0, none⟩)) ?_ (Kp.refl _ _) rfl
      obtain ⟨ρ, hρ, hc, hf, hg⟩ := eval_is a
      rw [hρ] at h37 ⊢
      simp [go_sem, h37]
    refine steps_cons (fun a w hk hn => ?_) ?_
    · have h38 : a.eval (.tmp 38) = .pointer (some ⟨x, 0, none⟩) := hn.1
      clear hn
      refine wants_plain rfl ?_
      refine grown_run (v := .pointer (some ⟨x, 4, none⟩)) ?_ (Kp.refl _ _) rfl
      obtain ⟨ρ, hρ, hc, hf, hg⟩ := eval_is a
      rw [hρ] at h38 ⊢
      simp [go_sem, h38]
    refine steps_cons (fun a w hk hn => ?_) ?_
    · have h39 : a.eval (.tmp 39) = .pointer (some ⟨x, 4, none⟩) := hn.1
      clear hn
      refine wants_plain rfl ?_
      refine grown_run (v := .pointer (some ⟨pk, 0, none⟩)) ?_ (Kp.refl _ _) rfl
      have hcell : w.cell? ⟨x, 4, none⟩ = some (.pointer (some ⟨pk, 0, none⟩)) := by rw [cell_of_row w x 4 _ _ _ (HWd.out w hk)]; rfl
      obtain ⟨ρ, hρ, hc, hf, hg⟩ := eval_is a
      rw [hρ] at h39 ⊢
      simp [go_sem, h39, hcell]
    refine steps_cons (fun a w hk hn => ?_) ?_
    · have h32 : a.eval (.tmp 32) = .pointer (some ⟨pd, 0, none⟩) := hn.1
      have h36 : a.eval (.tmp 36) = .pointer (some ⟨pl, 0, none⟩) := hn.2.1
      have h40 : a.eval (.tmp 40) = .pointer (some ⟨pk, 0, none⟩) := hn.2.2.1
      clear hn
      refine wants_plain rfl ?_
      refine grown_run (v := .slice (some ⟨w.heap.size, 0, none⟩) 3 3) (w' := w.alloc (.cells #[.pointer (some ⟨pd, 0, none⟩), .pointer (some ⟨pl, 0, none⟩), .pointer (some ⟨pk, 0, none⟩)] 26)) ?_ ((Kp.refl _ _).alloc _) ⟨_, rfl, (show w2.heap.size ≤ w.heap.size from hk.size), heap_alloc_new w _⟩
      obtain ⟨ρ, hρ, hc, hf, hg⟩ := eval_is a
      rw [hρ] at h32 h36 h40 ⊢
      simp [go_sem, h32, h36, h40]
    refine steps_cons (fun a w hk hn => ?_) ?_
    · have h41 : (DT w2.heap.size pd pl pk) (a.eval (.tmp 41)) w := hn.1
      clear hn
      refine wants_plain rfl ?_
      exact grown_assign (.tmp 41) rfl h41
    exact trivial
  intro W1 hkW1
  rintro _ rfl
  rintro _ rfl
  rintro _ rfl
  rintro _ rfl
  rintro _ rfl
  rintro _ rfl
  rintro _ rfl
  rintro _ rfl
  rintro _ rfl
  rintro _ rfl
  rintro _ rfl
  rintro _ rfl
  intro v41 h41
  intro v8 h8
  refine fin_nil ?_
  simp only [Act.put, List.set_cons_zero, List.set_cons_succ, List.setIfInBounds_toArray]
  obtain ⟨bd, rfl, hbd, hTri⟩ := h8
  have HZ2 := hide (HZ1.out.on ((kp_drew w2).trans hkW1))
  have hbd2 : ¬ two2 g f bd := fun e => by
    have h1 := (HZ1.out.bo.lt bd e).2
    have h2 : w2.heap.size ≤ bd := hbd
    omega
  have hSd : Sd wB W1 (two2 g f) x (.pointer (some ⟨p, 0, none⟩)) (.pointer (some ⟨l, 0, none⟩)) pd pl pk vw bd (.slice none 0 0) [] := ⟨HZ2.out.at_, HZ2.out.nx, hTri, hbd2, al_nil _ _ _, fun i hi => (HZ2.out.bo.lt i hi).2⟩
  have HSd := hide hSd
  obtain ⟨q0, hq0⟩ : ∃ q, q = wiP a0 0 16 := ⟨_, rfl⟩
  obtain ⟨q1, hq1⟩ : ∃ q, q = wiP a1 0 16 := ⟨_, rfl⟩
  obtain ⟨q2, hq2⟩ : ∃ q, q = wiP a2 0 16 := ⟨_, rfl⟩
  have HQ0 : Hid (0 ≤ q0 ∧ q0 ≤ 16) := by rw [hq0]; exact wiP_ge a0 0 16 (by omega)
  have HQ1 : Hid (0 ≤ q1 ∧ q1 ≤ 16) := by rw [hq1]; exact wiP_ge a1 0 16 (by omega)
  have HQ2 : Hid (0 ≤ q2 ∧ q2 ≤ 16) := by rw [hq2]; exact wiP_ge a2 0 16 (by omega)
  have HWq : Hid (∀ k, k < 3 → ∀ w, Calls Tryz.prog 20 #[.int .i64 (pick3 k a0 a1 a2), .int .i64 0, .int .i64 16] w fun e w' => e = .returned (.int .i64 (pick3 k q0 q1 q2)) ∧ w' = w) := fun k hk w => by
    obtain ⟨hA0, hA1, hA2⟩ := HAr.out
    rcases (by omega : k = 0 ∨ k = 1 ∨ k = 2) with rfl | rfl | rfl
    · rw [show pick3 0 q0 q1 q2 = wiP a0 0 16 from hq0]; exact within_wi a0 0 16 w (by omega) (by omega) (by omega)
    · rw [show pick3 1 q0 q1 q2 = wiP a1 0 16 from hq1]; exact within_wi a1 0 16 w (by omega) (by omega) (by omega)
    · rw [show pick3 2 q0 q1 q2 = wiP a2 0 16 from hq2]; exact within_wi a2 0 16 w (by omega) (by omega) (by omega)
  have HZ3 : Hid (Wz wB W1 x p l pd pl pk (arS 0 q0) (arL 0 q1 q2) g f vw (.slice none 0 0) (.slice none 0 0)) := HZ2.out
  clear hTri hbd hbd2 hSd hkW1 HZ1 HZ2 HWd hq0 hq1 hq2 HAr
  go_wp2_with fail
  go_loopw [9] (fun i wr => ∃ k : Nat, k ≤ 3 ∧ i = .int .i64 k ∧ ∃ g f, Wz wB wr x p l pd pl pk (arS k q0) (arL k q1 q2) g f vw (.slice none 0 0) (.slice none 0 0) ∧ Sd wB wr (two2 g f) x (.pointer (some ⟨p, 0, none⟩)) (.pointer (some ⟨l, 0, none⟩)) pd pl pk vw bd (.slice none 0 0) []) (fun i _ => 3 - (intOf i).toNat)
  case atStart => exact ⟨0, by omega, rfl, g, f, HZ3.out, HSd.out⟩
  case round =>
    obtain ⟨k, hk, rfl, g3, f3, Z3, S3⟩ := hrel
    have HZk := hide Z3
    have HSk := hide S3
    clear Z3 S3 HZ3 HSd
    by_cases hlt : k < 3
    · have hlt' : (k : Int) < 3 := by omega
      have HIn := hide hlt'
      have HTr : Hid (∀ w', Kp [] wr.drew w' → w'.cell? ⟨bd, k, none⟩ = some (.pointer (some ⟨pick3 k pd pl pk, 0, none⟩))) := fun w' k' => (HSk.out.on ((kp_drew wr).trans k')).tri.cell k hlt
      have HBc : Hid (∀ w', Kp [] wr.drew w' → w'.cell? ⟨ba, k, none⟩ = some (.int .i64 (pick3 k a0 a1 a2))) := fun w' k' => by
        have h1 : Box3 w' ba a0 a1 a2 := (HZk.out.bo.kp.trans ((kp_drew wr).trans k')).heap HBa.out (by simp)
        exact h1.cell k hlt
      have HWi := hide (HWq.out k hlt)
      go_wp2_with fail
      refine region_grow_tail 8 Tryz.mixed [Is (.slice (some ⟨bd, 0, none⟩) 3 3), Is (.int .i64 (k : Int)), Is (.pointer (some ⟨bd, k, none⟩)), Is (.pointer (some ⟨pick3 k pd pl pk, 0, none⟩)), Is (.int .i64 (k : Int)), Is (.pointer (some ⟨ba, k, none⟩)), Is (.int .i64 (pick3 k a0 a1 a2)), Is (.int .i64 (pick3 k q0 q1 q2))] [[(8, none)], [(9, none)], [(46, some 0), (47, some 1)], [(48, some 2)], [(9, none)], [(4, none), (50, some 4)], [(51, some 5)], [(52, some 6)]] (by kernel_rfl) ?_ ?_ ?_
      all_goals try simp only [List.take_succ_cons, List.take_zero, List.drop_succ_cons, List.drop_zero]
      · simp only [List.mem_cons, List.not_mem_nil, or_false]
        intro R hR
        rcases hR with rfl | rfl | rfl | rfl | rfl | rfl | rfl | rfl <;> first | exact stable_is _
      · refine steps_cons (fun a w hk hn => ?_) ?_
        · have h8 : a.eval (.tmp 8) = .slice (some ⟨bd, 0, none⟩) 3 3 := hn.1
          clear hn
          refine wants_plain rfl ?_
          exact grown_move (.tmp 8) rfl h8
        refine steps_cons (fun a w hk hn => ?_) ?_
        · have h9 : a.eval (.tmp 9) = .int .i64 (k : Int) := hn.1
          clear hn
          refine wants_plain rfl ?_
          exact grown_move (.tmp 9) rfl h9
        refine steps_cons (fun a w hk hn => ?_) ?_
        · have h46 : a.eval (.tmp 46) = .slice (some ⟨bd, 0, none⟩) 3 3 := hn.1
          have h47 : a.eval (.tmp 47) = .int .i64 (k : Int) := hn.2.1
          clear hn
          refine wants_plain rfl ?_
          refine grown_run (v := .pointer (some ⟨bd, k, none⟩)) ?_ (Kp.refl _ _) rfl
          have hin := HIn.out
          obtain ⟨ρ, hρ, hc, hf, hg⟩ := eval_is a
          rw [hρ] at h46 h47 ⊢
          simp [go_sem, h46, h47, hin]
        refine steps_cons (fun a w hk hn => ?_) ?_
        · have h48 : a.eval (.tmp 48) = .pointer (some ⟨bd, k, none⟩) := hn.1
          clear hn
          refine wants_plain rfl ?_
          refine grown_run (v := .pointer (some ⟨pick3 k pd pl pk, 0, none⟩)) ?_ (Kp.refl _ _) rfl
          have hcell := HTr.out w hk
          obtain ⟨ρ, hρ, hc, hf, hg⟩ := eval_is a
          rw [hρ] at h48 ⊢
          simp [go_sem, h48, hcell]
        refine steps_cons (fun a w hk hn => ?_) ?_
        · have h9 : a.eval (.tmp 9) = .int .i64 (k : Int) := hn.1
          clear hn
          refine wants_plain rfl ?_
          exact grown_move (.tmp 9) rfl h9
        refine steps_cons (fun a w hk hn => ?_) ?_
        · have h4 : a.eval (.tmp 4) = .pointer (some ⟨ba, 0, none⟩) := hn.1
          have h50 : a.eval (.tmp 50) = .int .i64 (k : Int) := hn.2.1
          clear hn
          refine wants_plain rfl ?_
          refine grown_run (v := .pointer (some ⟨ba, k, none⟩)) ?_ (Kp.refl _ _) rfl
          have hin := HIn.out
          obtain ⟨ρ, hρ, hc, hf, hg⟩ := eval_is a
          rw [hρ] at h4 h50 ⊢
          simp [go_sem, h4, h50, hin]
        refine steps_cons (fun a w hk hn => ?_) ?_
        · have h51 : a.eval (.tmp 51) = .pointer (some ⟨ba, k, none⟩) := hn.1
          clear hn
          refine wants_plain rfl ?_
          refine grown_run (v := .int .i64 (pick3 k a0 a1 a2)) ?_ (Kp.refl _ _) rfl
          have hcell := HBc.out w hk
          obtain ⟨ρ, hρ, hc, hf, hg⟩ := eval_is a
          rw [hρ] at h51 ⊢
          simp [go_sem, h51, hcell]
        refine steps_cons (fun a w hk hn => ?_) ?_
        · have h52 : a.eval (.tmp 52) = .int .i64 (pick3 k a0 a1 a2) := hn.1
          clear hn
          refine wants_plain rfl ?_
          refine grown_call (f := 20) rfl Tryz.func20 (by kernel_rfl) (by kernel_rfl) ?_
          simp only [List.map_toArray, List.map_cons, List.map_nil, h52]
          refine (HWi.out w).mono ?_
          rintro e w' ⟨rfl, rfl⟩
          exact ⟨_, rfl, Kp.refl _ _, rfl⟩
        exact trivial
      intro W1 hkW1
      rintro _ rfl
      rintro _ rfl
      rintro _ rfl
      rintro _ rfl
      rintro _ rfl
      rintro _ rfl
      rintro _ rfl
      rintro _ rfl
      refine fin_nil ?_
      simp only [Act.put, List.set_cons_zero, List.set_cons_succ, List.setIfInBounds_toArray]
      have HAm := hide (wz_arms (HZk.out.on ((kp_drew wr).trans hkW1)) hlt HQ0.out HQ1.out HQ2.out)
      have HS1 := hide (HSk.out.on ((kp_drew wr).trans hkW1))
      clear HZk HSk HTr HBc HWi hkW1
      go_wp2_with fail
      refine HAm.out.mono ?_
      rintro ee w4 ⟨rfl, g4, f4, Z4, T4⟩
      have HZ4 := hide Z4
      have HS4 := hide (HS1.out.step T4 (fun i hi => (Z4.bo.lt i hi).2))
      clear HAm Z4 T4 HS1
      go_wp2_with fail
      go_roundw
      case rel => exact ⟨k + 1, by omega, by go_num, g4, f4, HZ4.out, HS4.out⟩
      case measure => simp [intOf]; omega
    · have hnlt : ¬ (k : Int) < 3 := by omega
      obtain rfl : k = 3 := by omega
      have HI0 : Hid (KpI wB wr x p l pd pl pk vw bd 0 none 0 0) := ⟨_, _, g3, f3, [], arS_kp q0 HQ0.out.1, arL_kp q0 q1 q2 HQ1.out.1 HQ2.out.1, rfl, rfl, HZk.out, HSk.out⟩
      clear HZk HSk HWq HQ0 HQ1 HQ2 HBa
      go_wp2_with fail
      go_loopw [10, 11, 12] (fun vg vn i wr => ∃ k : Nat, k ≤ N ∧ k ≤ 25 ∧ i = .int .i64 k ∧ ∃ (nw : Int) (ag : Option Addr) (mg cg : Nat), vg = .slice ag mg cg ∧ vn = .int .i64 nw ∧ 0 ≤ nw ∧ nw ≤ 5 * k ∧ KpI wB wr x p l pd pl pk vw bd k ag mg cg) (fun _ _ i _ => N - (intOf i).toNat)
      case atStart => exact ⟨0, by omega, by omega, rfl, 0, none, 0, 0, rfl, rfl, by omega, by omega, HI0.out⟩
      case round =>
        clear HI0
        obtain ⟨k, hkN, hk25, rfl, nw, ag, mg, cg, rfl, rfl, hn0, hn1, S, L, g5, f5, la, hF, hLL, hla, hmg, Z5, S5⟩ := hrel
        have HF := hide hF
        have HLL := hide hLL
        have Hla := hide hla
        have Hmg := hide hmg
        have HZ5 := hide Z5
        have HS5 := hide S5
        clear hF hLL hla hmg Z5 S5
        by_cases hgo : k < N ∧ k < 25
        · obtain ⟨hlt, hlt2⟩ := hgo
          have hlt' : (k : Int) < (N : Int) := by omega
          have hlt2' : (k : Int) < 25 := by omega
          have hd1 : decide ((k : Int) < (N : Int)) = true := decide_eq_true hlt'
          have hd2 : decide ((k : Int) < 25) = true := decide_eq_true hlt2'
          obtain ⟨bl, off, rfl, hAt⟩ := HC.out k (by have := HN.out; omega)
          obtain ⟨hr, -, -⟩ := hAt
          have hAcc := l0[k]'(by have := HN.out; omega)
          generalize l0[k]'(by have := HN.out; omega) = ak at hr
          obtain ⟨kd, xa, xv, ni, vb, bb⟩ := ak
          have kW : Kp [] w wr := HKB.out.trans HZ5.out.bo.kp
          have hck : wr.cell? ⟨bl, off + k * 5, none⟩ = some (.int .i64 kd) := kW.cell (hr 0 _ rfl) (by simp)
          have hcn : wr.cell? ⟨bl, off + k * 5 + 3, none⟩ = some (.int .i64 ni) := kW.cell (hr 3 _ rfl) (by simp)
          have HCa : Hid (∀ w', Kp [] wr.drew w' → w'.cell? ⟨bl, off + k * 5 + 1, none⟩ = some (.int .i64 xa)) := fun w' k' => (kW.trans ((kp_drew wr).trans k')).cell (hr 1 _ rfl) (by simp)
          have HCv : Hid (∀ w', Kp [] wr.drew w' → w'.cell? ⟨bl, off + k * 5 + 2, none⟩ = some (.int .i64 xv)) := fun w' k' => (kW.trans ((kp_drew wr).trans k')).cell (hr 2 _ rfl) (by simp)
          have HIn := hide hlt'
          clear hr kW hAcc
          go_wp2_with fail
          have HWn := hide (within_wi ni 0 5 wr (by omega) (by omega) (by omega))
          have hd := wiP_ge ni 0 5 (by omega)
          obtain ⟨dn, hdn⟩ : ∃ d, d = wiP ni 0 5 := ⟨_, rfl⟩
          rw [← hdn] at HWn hd
          have hwp : IntKind.i64.wrap (nw + dn) = nw + dn := by simp [IntKind.wrap, IntKind.signed, IntKind.bits]; omega
          refine HWn.out.mono ?_
          rintro ee w6 ⟨rfl, hw⟩
          subst w6
          clear HWn hdn
          by_cases hk3 : kd = 3
          · have h3d : (kd == 3) = true := by simp [hk3]
            have hc0 := HZ5.out.at_.c0
            have HSt : Hid (Calls Tryz.prog 23 #[.pointer (some ⟨p, 0, none⟩), .int .i64 (nw + dn)] wr fun e w' => ∃ u en, e = .returned (.tuple #[u, .int .i64 en]) ∧ KpI wB w' x p l pd pl pk vw bd (k + 1) ag mg cg) := hide (by
              cases hdue : S.q.due (nw + dn) with
              | false =>
                refine (wz_step_no HZ5.out (nw + dn) (by omega) (by omega) hdue).mono ?_
                rintro e w' ⟨rfl, K⟩
                refine ⟨_, _, rfl, S, L, g5, f5, la, ?_, ?_, Hla.out, Hmg.out, HZ5.out.on K, HS5.out.on K⟩
                · have h := HF.out
                  exact ⟨h.1, h.2, h.3, h.4, h.5, h.6, by have := h.m; omega, by have := h.len; omega⟩
                · have h := HLL.out
                  obtain ⟨rs, g1, g2, g3, g4⟩ := h.dd
                  exact ⟨h.1, h.2, h.3, ⟨rs, g1, g2, g3, by omega⟩, by have := h.mj; omega, h.dk⟩
              | true =>
                have hn0 : 0 < min S.size.toNat S.ms.length := by
                  have h3 := HF.out.size
                  rcases hm : S.ms with _ | ⟨a, m⟩
                  · exfalso
                    simp [Qd.due, FS.q, hm, h3] at hdue
                  · rw [h3]; simp; omega
                obtain ⟨er, dd', hadd, hF', hL', hnd, h25, hm25⟩ := kp_step HF.out HLL.out hk25 _ rfl hn0 _ rfl
                refine (wz_step HZ5.out (nw + dn) (by omega) (by omega) hdue _ rfl hn0 _ rfl hnd (by omega) (by have := HLL.out.mj; omega) (by omega) er dd' hadd _ rfl _ rfl _ rfl).mono ?_
                rintro e w' ⟨u, rfl, -, g', f', Z', T', -⟩
                exact ⟨u, _, rfl, _, _, g', f', la, hF', hL', Hla.out, Hmg.out, Z', HS5.out.step T' (fun i hi => (Z'.bo.lt i hi).2)⟩)
            clear HF HLL HZ5 HS5 HCa HCv
            go_wp2_with fail
            refine HSt.out.mono ?_
            rintro ee w6 ⟨u, en, rfl, hI⟩
            have HI := hide hI
            clear HSt hI hc0
            go_wp2_with fail
            go_roundw
            case rel => exact ⟨k + 1, by omega, by omega, by go_num, nw + dn, ag, mg, cg, rfl, rfl, by omega, by omega, HI.out⟩
            case measure => simp [intOf]; omega
          · have h3d : (kd == 3) = false := by simp [hk3]
            go_wp2_with fail
            clear hck hcn
            refine region_grow Tryz.mixed [Is (.slice (some ⟨bl, off, none⟩) N cl), Is (.int .i64 (k : Int)), Is (.pointer (some ⟨bl, off + k * 5, none⟩)), Is (.pointer (some ⟨bl, off + k * 5 + 1, none⟩)), Is (.int .i64 xa), Is (.slice (some ⟨bl, off, none⟩) N cl), Is (.int .i64 (k : Int)), Is (.pointer (some ⟨bl, off + k * 5, none⟩)), Is (.pointer (some ⟨bl, off + k * 5 + 2, none⟩)), Is (.int .i64 xv), RO wr.drew.heap.size (itF xa xv 1), RO wr.drew.heap.size (itF xa xv 1)] [[(0, none)], [(12, none)], [(85, some 0), (86, some 1)], [(87, some 2)], [(88, some 3)], [(0, none)], [(12, none)], [(90, some 5), (91, some 6)], [(92, some 7)], [(93, some 8)], [(89, some 4), (94, some 9)], [(95, some 10)]] (by kernel_rfl) ?_ ?_ ?_
            · simp only [List.mem_cons, List.not_mem_nil, or_false]
              intro R hR
              rcases hR with rfl | rfl | rfl | rfl | rfl | rfl | rfl | rfl | rfl | rfl | rfl | rfl <;> first | exact stable_is _ | exact stable_ro _ _
            · refine steps_cons (fun a w hk hn => ?_) ?_
              · have h0 : a.eval (.tmp 0) = .slice (some ⟨bl, off, none⟩) N cl := hn.1
                clear hn
                refine wants_plain rfl ?_
                exact grown_move (.tmp 0) rfl h0
              refine steps_cons (fun a w hk hn => ?_) ?_
              · have h12 : a.eval (.tmp 12) = .int .i64 (k : Int) := hn.1
                clear hn
                refine wants_plain rfl ?_
                exact grown_move (.tmp 12) rfl h12
              refine steps_cons (fun a w hk hn => ?_) ?_
              · have h85 : a.eval (.tmp 85) = .slice (some ⟨bl, off, none⟩) N cl := hn.1
                have h86 : a.eval (.tmp 86) = .int .i64 (k : Int) := hn.2.1
                clear hn
                refine wants_plain rfl ?_
                refine grown_run (v := .pointer (some ⟨bl, off + k * 5, none⟩)) ?_ (Kp.refl _ _) rfl
                have hin := HIn.out
                obtain ⟨ρ, hρ, hc, hf, hg⟩ := eval_is a
                rw [hρ] at h85 h86 ⊢
                simp [go_sem, h85, h86, hin]
              refine steps_cons (fun a w hk hn => ?_) ?_
              · have h87 : a.eval (.tmp 87) = .pointer (some ⟨bl, off + k * 5, none⟩) := hn.1
                clear hn
                refine wants_plain rfl ?_
                refine grown_run (v := .pointer (some ⟨bl, off + k * 5 + 1, none⟩)) ?_ (Kp.refl _ _) rfl
                obtain ⟨ρ, hρ, hc, hf, hg⟩ := eval_is a
                rw [hρ] at h87 ⊢
                simp [go_sem, h87]
              refine steps_cons (fun a w hk hn => ?_) ?_
              · have h88 : a.eval (.tmp 88) = .pointer (some ⟨bl, off + k * 5 + 1, none⟩) := hn.1
                clear hn
                refine wants_plain rfl ?_
                refine grown_run (v := .int .i64 xa) ?_ (Kp.refl _ _) rfl
                have hcell := HCa.out w hk
                obtain ⟨ρ, hρ, hc, hf, hg⟩ := eval_is a
                rw [hρ] at h88 ⊢
                simp [go_sem, h88, hcell]
              refine steps_cons (fun a w hk hn => ?_) ?_
              · have h0 : a.eval (.tmp 0) = .slice (some ⟨bl, off, none⟩) N cl := hn.1
                clear hn
                refine wants_plain rfl ?_
                exact grown_move (.tmp 0) rfl h0
              refine steps_cons (fun a w hk hn => ?_) ?_
              · have h12 : a.eval (.tmp 12) = .int .i64 (k : Int) := hn.1
                clear hn
                refine wants_plain rfl ?_
                exact grown_move (.tmp 12) rfl h12
              refine steps_cons (fun a w hk hn => ?_) ?_
              · have h90 : a.eval (.tmp 90) = .slice (some ⟨bl, off, none⟩) N cl := hn.1
                have h91 : a.eval (.tmp 91) = .int .i64 (k : Int) := hn.2.1
                clear hn
                refine wants_plain rfl ?_
                refine grown_run (v := .pointer (some ⟨bl, off + k * 5, none⟩)) ?_ (Kp.refl _ _) rfl
                have hin := HIn.out
                obtain ⟨ρ, hρ, hc, hf, hg⟩ := eval_is a
                rw [hρ] at h90 h91 ⊢
                simp [go_sem, h90, h91, hin]
              refine steps_cons (fun a w hk hn => ?_) ?_
              · have h92 : a.eval (.tmp 92) = .pointer (some ⟨bl, off + k * 5, none⟩) := hn.1
                clear hn
                refine wants_plain rfl ?_
                refine grown_run (v := .pointer (some ⟨bl, off + k * 5 + 2, none⟩)) ?_ (Kp.refl _ _) rfl
                obtain ⟨ρ, hρ, hc, hf, hg⟩ := eval_is a
                rw [hρ] at h92 ⊢
                simp [go_sem, h92]
              refine steps_cons (fun a w hk hn => ?_) ?_
              · have h93 : a.eval (.tmp 93) = .pointer (some ⟨bl, off + k * 5 + 2, none⟩) := hn.1
                clear hn
                refine wants_plain rfl ?_
                refine grown_run (v := .int .i64 xv) ?_ (Kp.refl _ _) rfl
                have hcell := HCv.out w hk
                obtain ⟨ρ, hρ, hc, hf, hg⟩ := eval_is a
                rw [hρ] at h93 ⊢
                simp [go_sem, h93, hcell]
              refine steps_cons (fun a w hk hn => ?_) ?_
              · have h89 : a.eval (.tmp 89) = .int .i64 xa := hn.1
                have h94 : a.eval (.tmp 94) = .int .i64 xv := hn.2.1
                clear hn
                refine wants_plain rfl ?_
                refine grown_call (f := 15) rfl Tryz.func15 (by kernel_rfl) (by kernel_rfl) ?_
                simp only [List.map_toArray, List.map_cons, List.map_nil, h89, h94]
                refine (kitem_any xa xv 1 w).mono ?_
                rintro e w' ⟨ao, m, c, rfl, R, K⟩
                exact ⟨_, rfl, K, ⟨ao, m, c, rfl, R.sl, fun i hi => Nat.le_trans hk.size (R.own i hi)⟩⟩
              refine steps_cons (fun a w hk hn => ?_) ?_
              · have h95 : (RO wr.drew.heap.size (itF xa xv 1)) (a.eval (.tmp 95)) w := hn.1
                clear hn
                refine wants_plain rfl ?_
                exact grown_assign (.tmp 95) rfl h95
              exact trivial
            intro W1 hkW1
            rintro _ rfl
            rintro _ rfl
            rintro _ rfl
            rintro _ rfl
            rintro _ rfl
            rintro _ rfl
            rintro _ rfl
            rintro _ rfl
            rintro _ rfl
            rintro _ rfl
            intro v95 h95
            intro v13 h13
            refine fin_nil ?_
            simp only [Act.put, List.set_cons_zero, List.set_cons_succ, List.setIfInBounds_toArray]
            obtain ⟨av, mv, cv, ev, Sv, Nv⟩ := h13
            subst ev
            obtain ⟨bb, hbb⟩ : ∃ b, b = itF xa xv 1 := ⟨_, rfl⟩
            rw [← hbb] at Sv
            have HbB : Hid (Bs bb) := by rw [hbb]; exact itF_bs xa xv 1
            have Hbl : Hid (bb.length ≤ 125) := by rw [hbb]; exact itF_len xa xv 1
            have hbo : okM bb = true := by rw [hbb]; exact itF_ok xa xv 1
            obtain ⟨kk, nn, S', hsub, hF', hL', hkk⟩ := kp_sub HF.out HLL.out hk25 bb hbo HbB.out (nw + dn)
            have ZW := HZ5.out.on ((kp_drew wr).trans hkW1)
            have SW := HS5.out.on ((kp_drew wr).trans hkW1)
            have helsA : ∀ i, (Value.slice av mv cv).ownBlock = some i → wB.heap.size ≤ i ∧ i < W1.heap.size ∧ ¬ (two2 g5 f5 i ∨ i = x ∨ i = bd) := fun i hi => by
              have h1 := Nv i hi
              have h3 : wr.drew.heap.size = wr.heap.size := rfl
              have h4 := HZ5.out.bo.kp.size
              have hne : bb ≠ [] := fun e => by rw [e] at hbo; exact absurd hbo (by decide)
              refine ⟨by omega, sl_lt Sv hne hi, fun e => ?_⟩
              have h2 := HS5.out.lows i e
              omega
            have HEl := hide helsA
            have HAp : Hid (∀ i, (Value.slice av mv cv).ownBlock = some i → (Value.slice ag mg cg).ownBlock ≠ some i) := hide (fun i hi e => by
              have h1 := Nv i hi
              have h3 : wr.drew.heap.size = wr.heap.size := rfl
              have h2 := (HS5.out.al.own i e).1
              omega)
            have HSub := hide (wz_sub ZW (.slice av mv cv) bb Sv HbB.out (by have := Hbl.out; omega) (fun i hi e => (helsA i hi).2.2 (.inl (.inl e))) (nw + dn) (by omega) (by omega) (by have := HF.out.len; omega) (by have := HF.out.m; omega) _ _ _ hsub)
            have HSW := hide SW
            have HSv0 := hide Sv
            have HF' := hide hF'
            have HL' := hide hL'
            have HKk := hide hkk
            have hc0 := ZW.at_.c0
            clear HF HLL HZ5 HS5 HCa HCv hkW1 Sv Nv hbb hbo hsub hF' hL' hkk ZW SW helsA
            go_wp2_with fail
            refine HSub.out.mono ?_
            rintro ee w6 ⟨rfl, g6, Z6, T6⟩
            have HS6 := hide (HSW.out.step T6 (fun i hi => (Z6.bo.lt i hi).2))
            have HSv6 : Hid (Sl w6 (.slice av mv cv) bb) := hide (HSv0.out.stp T6 (fun i hi e => (HEl.out i hi).2.2 (.inl e)))
            have HEl6 : Hid (∀ i, (Value.slice av mv cv).ownBlock = some i → wB.heap.size ≤ i ∧ i < w6.heap.size ∧ ¬ (two2 g6 f5 i ∨ i = x ∨ i = bd)) := hide (fun i hi => by
              obtain ⟨e1, e2, e3⟩ := HEl.out i hi
              have := T6.size
              exact ⟨e1, by omega, fun e => e.elim (fun e => T6.off e2 (fun e' => e3 (.inl e')) e) (fun e => e3 (.inr e))⟩)
            have HZ6 := hide Z6
            clear HSub Z6 T6 HSW HSv0 HEl hc0
            go_wp2_with (refine wpList_store_flat rfl 57 (.tmp 14) (.tmp 102) rfl w6.heap.size 0 rfl _ _ [.int .i64 kk, .int .i64 nn] (heap_alloc_new w6 _) rfl (by simp) Tryz.ansSize (by simp [Value.oneCell']) #[.int .i64 kk, .int .i64 nn] rfl ?_; intro w7 G7 K7; refine Hid.out ?_)
            have k7 : Kp [] w6 w7 := ((Kp.refl [] w6).alloc _).then K7 (fun i hi => .inr (by simp at hi; omega))
            obtain ⟨ga, hga⟩ : ∃ g, g = w6.heap.size := ⟨_, rfl⟩
            rw [← hga] at G7 ⊢
            have HZ7 := hide (HZ6.out.on k7)
            have HS7 := hide (HS6.out.on k7)
            have HSv7 := hide (HSv6.out.kept k7 (by simp))
            have HEl7 : Hid (∀ i, (Value.slice av mv cv).ownBlock = some i → wB.heap.size ≤ i ∧ i < w7.heap.size ∧ ¬ (two2 g6 f5 i ∨ i = x ∨ i = bd)) := hide (fun i hi => by
              obtain ⟨e1, e2, e3⟩ := HEl6.out i hi
              have := k7.size
              exact ⟨e1, by omega, e3⟩)
            have HG7 := hide G7
            have hac := ans_cells G7
            obtain ⟨a0c, a1c⟩ := hac
            clear K7 k7 G7 HZ6 HS6 HSv6 HEl6 hga
            refine hide ?_
            have HAc : Hid (∀ w', Kp [] w7.drew w' → w'.heap[ga]? = some (.cells #[.int .i64 kk, .int .i64 nn] 57 (0, 0))) := hide (fun w' k' => ((kp_drew w7).trans k').heap HG7.out (by simp))
            have hmg : mg = S.rc.length := by rw [Hmg.out, ← Hla.out, List.length_map]
            rcases HKk.out with ⟨rfl, hnn, hrc⟩ | ⟨j, rfl, hnn, hjl, hje, hrc⟩ | ⟨hkk, hrc⟩
            · have hnn : nn = (mg : Int) := by rw [hnn, hmg]
              subst hnn
              have Hrc := hide hrc
              have hla25 : la.length ≤ 1000000 := by rw [← Hmg.out, hmg]; have := HF'.out.len; have h1 := congrArg List.length hrc; rw [List.length_append] at h1; simp at h1; omega
              have Hll := hide hla25
              clear hrc hmg HKk HG7 HAc hla25
              go_wp2_with (at_builtin; refine wpList_rowsR rfl (.tmp 113) (.tmp 115) rfl (.slice ag mg cg) la rfl HS7.out.al.row HZ7.out.bo.kp.size Hll.out (.slice av mv cv) bb HSv7.out HAp.out (fun i hi => (HEl7.out i hi).1) HbB.out rfl ?_; intro a8 m8 c8 w8 hm8 P8 S8; subst hm8; refine Hid.out ?_)
              have HS8 := hide (HS7.out.put (y := (.slice av mv cv, bb)) P8 S8 (fun i hi => (HEl7.out i hi).2))
              have HZ8 := hide (HZ7.out.beside S8.1 (fun i hi => by
                have hi : (Value.slice ag mg cg).ownBlock = some i := by simpa [Option.mem_toList] using hi
                exact ⟨HS7.out.al.row.1.1.own i hi, fun e => (HS7.out.al.own i hi).2 (e.elim .inl (fun e => .inr (.inl e)))⟩))
              clear P8 S8 HS7 HZ7 HSv7 HAp HEl7
              refine hide ?_
              go_wp2_with fail
              go_roundw
              case rel => exact ⟨k + 1, by omega, by omega, by go_num, nw + dn, a8, _, c8, rfl, rfl, by omega, by omega, S', L, g6, f5, _, HF'.out, HL'.out, by rw [List.map_append, Hla.out, Hrc.out]; rfl, by rw [List.length_append]; rfl, HZ8.out, HS8.out⟩
              case measure => simp [intOf]; omega
            · subst hnn
              have hjm : j < mg := by omega
              have hne : ((j : Int) == (mg : Int)) = false := by simp; omega
              have HGt : Hid (j ≤ mg) := hide (by omega)
              have HJn : Hid ((j : Int) < (mg : Int)) := hide (by omega)
              have hjla : j < la.length := by rw [← Hmg.out]; exact hjm
              obtain ⟨gg, hgg, hcg⟩ := HS7.out.al.row.1.1.at j (by rw [List.length_map]; exact hjla)
              subst hgg
              have hsx := (HS7.out.al.row.1.2 _ (List.getElem_mem hjla)).1
              have hlx : la[j].2 = bb := by
                rw [← hje]
                have h1 : (la.map (·.2))[j]'(by rw [List.length_map]; exact hjla) = S.rc[j] := by simp only [Hla.out]
                rw [← h1, List.getElem_map]
              rw [hlx] at hsx
              rw [List.getElem_map] at hcg
              obtain ⟨ax, cx, ex, -⟩ := id hsx
              obtain ⟨mx, hmx⟩ : ∃ m, m = bb.length := ⟨_, rfl⟩
              rw [← hmx] at ex
              rw [ex] at hsx hcg
              have HGc : Hid (∀ w', Kp [] w7.drew w' → w'.cell? ⟨gg, j, none⟩ = some (.slice ax mx cx)) := hide (fun w' k' => ((kp_drew w7).trans k').cell hcg (by simp))
              have HSx : Hid (∀ w', Kp [] w7.drew w' → Sl w' (.slice ax mx cx) bb) := hide (fun w' k' => hsx.kept ((kp_drew w7).trans k') (by simp))
              have HSv : Hid (∀ w', Kp [] w7.drew w' → Sl w' (.slice av mv cv) bb) := hide (fun w' k' => HSv7.out.kept ((kp_drew w7).trans k') (by simp))
              obtain ⟨X, hX⟩ : ∃ X, X = strOfNums bb := ⟨_, rfl⟩
              have HX := hide hX
              have Hrc := hide hrc
              clear hrc hmg HKk HG7 hje hjla hsx hlx hcg ex hmx hX HSv7 HAp HEl7
              go_wp2_with fail
              refine region_grow Tryz.mixed [Is (.pointer (some ⟨ga, 0, none⟩)), Is (.int .i64 1), Is (.bool true), Is (.bool true), Is (.pointer (some ⟨ga, 1, none⟩)), Is (.int .i64 (j : Int)), Is (.slice (some ⟨gg, 0, none⟩) mg cg), Is (.int .i64 mg), Is (.bool false), Is (.bool false), Is (.slice (some ⟨gg, 0, none⟩) mg cg), Is (.pointer (some ⟨ga, 1, none⟩)), Is (.int .i64 (j : Int)), Is (.pointer (some ⟨gg, j, none⟩)), Is (.slice ax mx cx), Is (.string X), Is (.slice av mv cv), Is (.string X), Is (.bool false), Is (.bool false), Is (.bool false)] [[(14, none)], [(117, some 0)], [(118, some 1)], [(119, some 2)], [(14, none), (120, some 3)], [(121, some 4), (120, some 3)], [(10, none), (120, some 3)], [(123, some 6), (120, some 3)], [(122, some 5), (124, some 7), (120, some 3)], [(125, some 8), (120, some 3)], [(10, none), (126, some 9)], [(14, none), (126, some 9)], [(128, some 11), (126, some 9)], [(127, some 10), (129, some 12), (126, some 9)], [(130, some 13), (126, some 9)], [(131, some 14), (126, some 9)], [(13, none), (126, some 9)], [(133, some 16), (126, some 9)], [(132, some 15), (134, some 17), (126, some 9)], [(126, some 9), (135, some 18), (120, some 3)], [(120, some 3), (136, some 19)]] (by kernel_rfl) ?_ ?_ ?_
              · simp only [List.mem_cons, List.not_mem_nil, or_false]
                intro R hR
                rcases hR with rfl | rfl | rfl | rfl | rfl | rfl | rfl | rfl | rfl | rfl | rfl | rfl | rfl | rfl | rfl | rfl | rfl | rfl | rfl | rfl | rfl <;> first | exact stable_is _
              · refine steps_cons (fun a w hk hn => ?_) ?_
                · have h14 : a.eval (.tmp 14) = .pointer (some ⟨ga, 0, none⟩) := hn.1
                  clear hn
                  refine wants_plain rfl ?_
                  refine grown_run (v := .pointer (some ⟨ga, 0, none⟩)) ?_ (Kp.refl _ _) rfl
                  obtain ⟨ρ, hρ, hc, hf, hg⟩ := eval_is a
                  rw [hρ] at h14 ⊢
                  simp [go_sem, h14]
                refine steps_cons (fun a w hk hn => ?_) ?_
                · have h117 : a.eval (.tmp 117) = .pointer (some ⟨ga, 0, none⟩) := hn.1
                  clear hn
                  refine wants_plain rfl ?_
                  refine grown_run (v := .int .i64 1) ?_ (Kp.refl _ _) rfl
                  have hcell : w.cell? ⟨ga, 0, none⟩ = some (.int .i64 1) := by rw [cell_of_row w ga 0 _ _ _ (HAc.out w hk)]; rfl
                  obtain ⟨ρ, hρ, hc, hf, hg⟩ := eval_is a
                  rw [hρ] at h117 ⊢
                  simp [go_sem, h117, hcell]
                refine steps_cons (fun a w hk hn => ?_) ?_
                · have h118 : a.eval (.tmp 118) = .int .i64 1 := hn.1
                  clear hn
                  refine wants_plain rfl ?_
                  refine grown_run (v := .bool true) ?_ (Kp.refl _ _) rfl
                  obtain ⟨ρ, hρ, hc, hf, hg⟩ := eval_is a
                  rw [hρ] at h118 ⊢
                  simp [go_sem, hc, h118]
                refine steps_cons (fun a w hk hn => ?_) ?_
                · have h119 : a.eval (.tmp 119) = .bool true := hn.1
                  clear hn
                  refine wants_plain rfl ?_
                  exact grown_move (.tmp 119) rfl h119
                refine steps_cons (fun a w hk hn => ?_) ?_
                · have h14 : a.eval (.tmp 14) = .pointer (some ⟨ga, 0, none⟩) := hn.1
                  have h120 : a.eval (.tmp 120) = .bool true := hn.2.1
                  clear hn
                  refine wants_guard (d := 120) rfl rfl h120 ?_
                  refine grown_run (v := .pointer (some ⟨ga, 1, none⟩)) ?_ (Kp.refl _ _) rfl
                  obtain ⟨ρ, hρ, hc, hf, hg⟩ := eval_is a
                  rw [hρ] at h14 ⊢
                  simp [go_sem, h14]
                refine steps_cons (fun a w hk hn => ?_) ?_
                · have h121 : a.eval (.tmp 121) = .pointer (some ⟨ga, 1, none⟩) := hn.1
                  have h120 : a.eval (.tmp 120) = .bool true := hn.2.1
                  clear hn
                  refine wants_guard (d := 120) rfl rfl h120 ?_
                  refine grown_run (v := .int .i64 (j : Int)) ?_ (Kp.refl _ _) rfl
                  have hcell : w.cell? ⟨ga, 1, none⟩ = some (.int .i64 (j : Int)) := by rw [cell_of_row w ga 1 _ _ _ (HAc.out w hk)]; rfl
                  obtain ⟨ρ, hρ, hc, hf, hg⟩ := eval_is a
                  rw [hρ] at h121 ⊢
                  simp [go_sem, h121, hcell]
                refine steps_cons (fun a w hk hn => ?_) ?_
                · have h10 : a.eval (.tmp 10) = .slice (some ⟨gg, 0, none⟩) mg cg := hn.1
                  have h120 : a.eval (.tmp 120) = .bool true := hn.2.1
                  clear hn
                  refine wants_guard (d := 120) rfl rfl h120 ?_
                  exact grown_move (.tmp 10) rfl h10
                refine steps_cons (fun a w hk hn => ?_) ?_
                · have h123 : a.eval (.tmp 123) = .slice (some ⟨gg, 0, none⟩) mg cg := hn.1
                  have h120 : a.eval (.tmp 120) = .bool true := hn.2.1
                  clear hn
                  refine wants_guard (d := 120) rfl rfl h120 ?_
                  refine grown_run (v := .int .i64 mg) ?_ (Kp.refl _ _) rfl
                  obtain ⟨ρ, hρ, hc, hf, hg⟩ := eval_is a
                  rw [hρ] at h123 ⊢
                  simp [go_sem, h123]
                refine steps_cons (fun a w hk hn => ?_) ?_
                · have h122 : a.eval (.tmp 122) = .int .i64 (j : Int) := hn.1
                  have h124 : a.eval (.tmp 124) = .int .i64 mg := hn.2.1
                  have h120 : a.eval (.tmp 120) = .bool true := hn.2.2.1
                  clear hn
                  refine wants_guard (d := 120) rfl rfl h120 ?_
                  refine grown_run (v := .bool false) ?_ (Kp.refl _ _) rfl
                  have hgt := HGt.out
                  obtain ⟨ρ, hρ, hc, hf, hg⟩ := eval_is a
                  rw [hρ] at h122 h124 ⊢
                  simp [go_sem, h122, h124, hgt]
                refine steps_cons (fun a w hk hn => ?_) ?_
                · have h125 : a.eval (.tmp 125) = .bool false := hn.1
                  have h120 : a.eval (.tmp 120) = .bool true := hn.2.1
                  clear hn
                  refine wants_guard (d := 120) rfl rfl h120 ?_
                  exact grown_move (.tmp 125) rfl h125
                refine steps_cons (fun a w hk hn => ?_) ?_
                · have h10 : a.eval (.tmp 10) = .slice (some ⟨gg, 0, none⟩) mg cg := hn.1
                  have h126 : a.eval (.tmp 126) = .bool false := hn.2.1
                  clear hn
                  refine wants_guard (d := 126) rfl rfl h126 ?_
                  exact grown_move (.tmp 10) rfl h10
                refine steps_cons (fun a w hk hn => ?_) ?_
                · have h14 : a.eval (.tmp 14) = .pointer (some ⟨ga, 0, none⟩) := hn.1
                  have h126 : a.eval (.tmp 126) = .bool false := hn.2.1
                  clear hn
                  refine wants_guard (d := 126) rfl rfl h126 ?_
                  refine grown_run (v := .pointer (some ⟨ga, 1, none⟩)) ?_ (Kp.refl _ _) rfl
                  obtain ⟨ρ, hρ, hc, hf, hg⟩ := eval_is a
                  rw [hρ] at h14 ⊢
                  simp [go_sem, h14]
                refine steps_cons (fun a w hk hn => ?_) ?_
                · have h128 : a.eval (.tmp 128) = .pointer (some ⟨ga, 1, none⟩) := hn.1
                  have h126 : a.eval (.tmp 126) = .bool false := hn.2.1
                  clear hn
                  refine wants_guard (d := 126) rfl rfl h126 ?_
                  refine grown_run (v := .int .i64 (j : Int)) ?_ (Kp.refl _ _) rfl
                  have hcell : w.cell? ⟨ga, 1, none⟩ = some (.int .i64 (j : Int)) := by rw [cell_of_row w ga 1 _ _ _ (HAc.out w hk)]; rfl
                  obtain ⟨ρ, hρ, hc, hf, hg⟩ := eval_is a
                  rw [hρ] at h128 ⊢
                  simp [go_sem, h128, hcell]
                refine steps_cons (fun a w hk hn => ?_) ?_
                · have h127 : a.eval (.tmp 127) = .slice (some ⟨gg, 0, none⟩) mg cg := hn.1
                  have h129 : a.eval (.tmp 129) = .int .i64 (j : Int) := hn.2.1
                  have h126 : a.eval (.tmp 126) = .bool false := hn.2.2.1
                  clear hn
                  refine wants_guard (d := 126) rfl rfl h126 ?_
                  refine grown_run (v := .pointer (some ⟨gg, j, none⟩)) ?_ (Kp.refl _ _) rfl
                  have hin := HJn.out
                  obtain ⟨ρ, hρ, hc, hf, hg⟩ := eval_is a
                  rw [hρ] at h127 h129 ⊢
                  simp [go_sem, h127, h129, hin]
                refine steps_cons (fun a w hk hn => ?_) ?_
                · have h130 : a.eval (.tmp 130) = .pointer (some ⟨gg, j, none⟩) := hn.1
                  have h126 : a.eval (.tmp 126) = .bool false := hn.2.1
                  clear hn
                  refine wants_guard (d := 126) rfl rfl h126 ?_
                  refine grown_run (v := .slice ax mx cx) ?_ (Kp.refl _ _) rfl
                  have hcell := HGc.out w hk
                  obtain ⟨ρ, hρ, hc, hf, hg⟩ := eval_is a
                  rw [hρ] at h130 ⊢
                  simp [go_sem, h130, hcell]
                refine steps_cons (fun a w hk hn => ?_) ?_
                · have h131 : a.eval (.tmp 131) = .slice ax mx cx := hn.1
                  have h126 : a.eval (.tmp 126) = .bool false := hn.2.1
                  clear hn
                  refine wants_guard (d := 126) rfl rfl h126 ?_
                  exact grown_conv (.tmp 131) _ _ 5 (bb) rfl (by rw [h131]; exact HSx.out w hk) Tryz.underlying28 Tryz.underlying5 Tryz.underlying9 (congrArg Value.string (unhide HX).symm)
                refine steps_cons (fun a w hk hn => ?_) ?_
                · have h13 : a.eval (.tmp 13) = .slice av mv cv := hn.1
                  have h126 : a.eval (.tmp 126) = .bool false := hn.2.1
                  clear hn
                  refine wants_guard (d := 126) rfl rfl h126 ?_
                  exact grown_move (.tmp 13) rfl h13
                refine steps_cons (fun a w hk hn => ?_) ?_
                · have h133 : a.eval (.tmp 133) = .slice av mv cv := hn.1
                  have h126 : a.eval (.tmp 126) = .bool false := hn.2.1
                  clear hn
                  refine wants_guard (d := 126) rfl rfl h126 ?_
                  exact grown_conv (.tmp 133) _ _ 5 (bb) rfl (by rw [h133]; exact HSv.out w hk) Tryz.underlying28 Tryz.underlying5 Tryz.underlying9 (congrArg Value.string (unhide HX).symm)
                refine steps_cons (fun a w hk hn => ?_) ?_
                · have h132 : a.eval (.tmp 132) = .string X := hn.1
                  have h134 : a.eval (.tmp 134) = .string X := hn.2.1
                  have h126 : a.eval (.tmp 126) = .bool false := hn.2.2.1
                  clear hn
                  refine wants_guard (d := 126) rfl rfl h126 ?_
                  refine grown_run (v := .bool false) ?_ (Kp.refl _ _) rfl
                  obtain ⟨ρ, hρ, hc, hf, hg⟩ := eval_is a
                  rw [hρ] at h132 h134 ⊢
                  simp [go_sem, h132, h134]
                refine steps_cons (fun a w hk hn => ?_) ?_
                · have h126 : a.eval (.tmp 126) = .bool false := hn.1
                  have h135 : a.eval (.tmp 135) = .bool false := hn.2.1
                  have h120 : a.eval (.tmp 120) = .bool true := hn.2.2.1
                  clear hn
                  refine wants_guard (d := 120) rfl rfl h120 ?_
                  exact grown_pick _ _ _ false rfl h126 h135
                refine steps_cons (fun a w hk hn => ?_) ?_
                · have h120 : a.eval (.tmp 120) = .bool true := hn.1
                  have h136 : a.eval (.tmp 136) = .bool false := hn.2.1
                  clear hn
                  refine wants_plain rfl ?_
                  exact grown_pick _ _ _ true rfl h120 h136
                exact trivial
              intro W1 hkW1
              rintro _ rfl
              rintro _ rfl
              rintro _ rfl
              rintro _ rfl
              rintro _ rfl
              rintro _ rfl
              rintro _ rfl
              rintro _ rfl
              rintro _ rfl
              rintro _ rfl
              rintro _ rfl
              rintro _ rfl
              rintro _ rfl
              rintro _ rfl
              rintro _ rfl
              rintro _ rfl
              rintro _ rfl
              rintro _ rfl
              rintro _ rfl
              rintro _ rfl
              rintro _ rfl
              refine fin_nil ?_
              simp only [Act.put, List.set_cons_zero, List.set_cons_succ, List.setIfInBounds_toArray]
              have HK8 := hide ((kp_drew w7).trans hkW1)
              clear hkW1 HAc HGc HSx HSv
              go_wp2_with fail
              go_roundw
              case rel => exact ⟨k + 1, by omega, by omega, by go_num, nw + dn, some ⟨gg, 0, none⟩, mg, cg, rfl, rfl, by omega, by omega, S', L, g6, f5, la, HF'.out, HL'.out, by rw [Hla.out, Hrc.out], Hmg.out, HZ7.out.on HK8.out, HS7.out.on HK8.out⟩
              case measure => simp [intOf]; omega
            · have Hrc := hide hrc
              rcases hkk with rfl | rfl
              · clear hrc hmg HKk HG7 HSv7 HAp HEl7
                go_wp2_with fail
                refine region_grow Tryz.mixed [Is (.pointer (some ⟨ga, 0, none⟩)), Is (.int .i64 2), Is (.bool false), Is (.bool false), Is (undef), Is (undef), Is (undef), Is (undef), Is (undef), Is (undef), Is (undef), Is (undef), Is (undef), Is (undef), Is (undef), Is (undef), Is (undef), Is (undef), Is (undef), Is (undef), Is (.bool false)] [[(14, none)], [(117, some 0)], [(118, some 1)], [(119, some 2)], [(14, none), (120, some 3)], [(121, some 4), (120, some 3)], [(10, none), (120, some 3)], [(123, some 6), (120, some 3)], [(122, some 5), (124, some 7), (120, some 3)], [(125, some 8), (120, some 3)], [(10, none), (126, some 9)], [(14, none), (126, some 9)], [(128, some 11), (126, some 9)], [(127, some 10), (129, some 12), (126, some 9)], [(130, some 13), (126, some 9)], [(131, some 14), (126, some 9)], [(13, none), (126, some 9)], [(133, some 16), (126, some 9)], [(132, some 15), (134, some 17), (126, some 9)], [(126, some 9), (135, some 18), (120, some 3)], [(120, some 3), (136, some 19)]] (by kernel_rfl) ?_ ?_ ?_
                · simp only [List.mem_cons, List.not_mem_nil, or_false]
                  intro R hR
                  rcases hR with rfl | rfl | rfl | rfl | rfl | rfl | rfl | rfl | rfl | rfl | rfl | rfl | rfl | rfl | rfl | rfl | rfl | rfl | rfl | rfl | rfl <;> first | exact stable_is _
                · refine steps_cons (fun a w hk hn => ?_) ?_
                  · have h14 : a.eval (.tmp 14) = .pointer (some ⟨ga, 0, none⟩) := hn.1
                    clear hn
                    refine wants_plain rfl ?_
                    refine grown_run (v := .pointer (some ⟨ga, 0, none⟩)) ?_ (Kp.refl _ _) rfl
                    obtain ⟨ρ, hρ, hc, hf, hg⟩ := eval_is a
                    rw [hρ] at h14 ⊢
                    simp [go_sem, h14]
                  refine steps_cons (fun a w hk hn => ?_) ?_
                  · have h117 : a.eval (.tmp 117) = .pointer (some ⟨ga, 0, none⟩) := hn.1
                    clear hn
                    refine wants_plain rfl ?_
                    refine grown_run (v := .int .i64 2) ?_ (Kp.refl _ _) rfl
                    have hcell : w.cell? ⟨ga, 0, none⟩ = some (.int .i64 2) := by rw [cell_of_row w ga 0 _ _ _ (HAc.out w hk)]; rfl
                    obtain ⟨ρ, hρ, hc, hf, hg⟩ := eval_is a
                    rw [hρ] at h117 ⊢
                    simp [go_sem, h117, hcell]
                  refine steps_cons (fun a w hk hn => ?_) ?_
                  · have h118 : a.eval (.tmp 118) = .int .i64 2 := hn.1
                    clear hn
                    refine wants_plain rfl ?_
                    refine grown_run (v := .bool false) ?_ (Kp.refl _ _) rfl
                    obtain ⟨ρ, hρ, hc, hf, hg⟩ := eval_is a
                    rw [hρ] at h118 ⊢
                    simp [go_sem, hc, h118]
                  refine steps_cons (fun a w hk hn => ?_) ?_
                  · have h119 : a.eval (.tmp 119) = .bool false := hn.1
                    clear hn
                    refine wants_plain rfl ?_
                    exact grown_move (.tmp 119) rfl h119
                  refine steps_cons (fun a w hk hn => ?_) ?_
                  · have h14 : a.eval (.tmp 14) = .pointer (some ⟨ga, 0, none⟩) := hn.1
                    have h120 : a.eval (.tmp 120) = .bool false := hn.2.1
                    clear hn
                    exact wants_not (d := 120) rfl rfl h120 rfl
                  refine steps_cons (fun a w hk hn => ?_) ?_
                  · have h121 : a.eval (.tmp 121) = undef := hn.1
                    have h120 : a.eval (.tmp 120) = .bool false := hn.2.1
                    clear hn
                    exact wants_not (d := 120) rfl rfl h120 rfl
                  refine steps_cons (fun a w hk hn => ?_) ?_
                  · have h10 : a.eval (.tmp 10) = .slice ag mg cg := hn.1
                    have h120 : a.eval (.tmp 120) = .bool false := hn.2.1
                    clear hn
                    exact wants_not (d := 120) rfl rfl h120 rfl
                  refine steps_cons (fun a w hk hn => ?_) ?_
                  · have h123 : a.eval (.tmp 123) = undef := hn.1
                    have h120 : a.eval (.tmp 120) = .bool false := hn.2.1
                    clear hn
                    exact wants_not (d := 120) rfl rfl h120 rfl
                  refine steps_cons (fun a w hk hn => ?_) ?_
                  · have h122 : a.eval (.tmp 122) = undef := hn.1
                    have h124 : a.eval (.tmp 124) = undef := hn.2.1
                    have h120 : a.eval (.tmp 120) = .bool false := hn.2.2.1
                    clear hn
                    exact wants_not (d := 120) rfl rfl h120 rfl
                  refine steps_cons (fun a w hk hn => ?_) ?_
                  · have h125 : a.eval (.tmp 125) = undef := hn.1
                    have h120 : a.eval (.tmp 120) = .bool false := hn.2.1
                    clear hn
                    exact wants_not (d := 120) rfl rfl h120 rfl
                  refine steps_cons (fun a w hk hn => ?_) ?_
                  · have h10 : a.eval (.tmp 10) = .slice ag mg cg := hn.1
                    have h126 : a.eval (.tmp 126) = undef := hn.2.1
                    clear hn
                    exact wants_none (d := 126) rfl rfl h126 rfl
                  refine steps_cons (fun a w hk hn => ?_) ?_
                  · have h14 : a.eval (.tmp 14) = .pointer (some ⟨ga, 0, none⟩) := hn.1
                    have h126 : a.eval (.tmp 126) = undef := hn.2.1
                    clear hn
                    exact wants_none (d := 126) rfl rfl h126 rfl
                  refine steps_cons (fun a w hk hn => ?_) ?_
                  · have h128 : a.eval (.tmp 128) = undef := hn.1
                    have h126 : a.eval (.tmp 126) = undef := hn.2.1
                    clear hn
                    exact wants_none (d := 126) rfl rfl h126 rfl
                  refine steps_cons (fun a w hk hn => ?_) ?_
                  · have h127 : a.eval (.tmp 127) = undef := hn.1
                    have h129 : a.eval (.tmp 129) = undef := hn.2.1
                    have h126 : a.eval (.tmp 126) = undef := hn.2.2.1
                    clear hn
                    exact wants_none (d := 126) rfl rfl h126 rfl
                  refine steps_cons (fun a w hk hn => ?_) ?_
                  · have h130 : a.eval (.tmp 130) = undef := hn.1
                    have h126 : a.eval (.tmp 126) = undef := hn.2.1
                    clear hn
                    exact wants_none (d := 126) rfl rfl h126 rfl
                  refine steps_cons (fun a w hk hn => ?_) ?_
                  · have h131 : a.eval (.tmp 131) = undef := hn.1
                    have h126 : a.eval (.tmp 126) = undef := hn.2.1
                    clear hn
                    exact wants_none (d := 126) rfl rfl h126 rfl
                  refine steps_cons (fun a w hk hn => ?_) ?_
                  · have h13 : a.eval (.tmp 13) = .slice av mv cv := hn.1
                    have h126 : a.eval (.tmp 126) = undef := hn.2.1
                    clear hn
                    exact wants_none (d := 126) rfl rfl h126 rfl
                  refine steps_cons (fun a w hk hn => ?_) ?_
                  · have h133 : a.eval (.tmp 133) = undef := hn.1
                    have h126 : a.eval (.tmp 126) = undef := hn.2.1
                    clear hn
                    exact wants_none (d := 126) rfl rfl h126 rfl
                  refine steps_cons (fun a w hk hn => ?_) ?_
                  · have h132 : a.eval (.tmp 132) = undef := hn.1
                    have h134 : a.eval (.tmp 134) = undef := hn.2.1
                    have h126 : a.eval (.tmp 126) = undef := hn.2.2.1
                    clear hn
                    exact wants_none (d := 126) rfl rfl h126 rfl
                  refine steps_cons (fun a w hk hn => ?_) ?_
                  · have h126 : a.eval (.tmp 126) = undef := hn.1
                    have h135 : a.eval (.tmp 135) = undef := hn.2.1
                    have h120 : a.eval (.tmp 120) = .bool false := hn.2.2.1
                    clear hn
                    exact wants_not (d := 120) rfl rfl h120 rfl
                  refine steps_cons (fun a w hk hn => ?_) ?_
                  · have h120 : a.eval (.tmp 120) = .bool false := hn.1
                    have h136 : a.eval (.tmp 136) = undef := hn.2.1
                    clear hn
                    refine wants_plain rfl ?_
                    exact grown_pick _ _ _ false rfl h120 rfl
                  exact trivial
                intro W1 hkW1
                rintro _ rfl
                rintro _ rfl
                rintro _ rfl
                rintro _ rfl
                rintro _ rfl
                rintro _ rfl
                rintro _ rfl
                rintro _ rfl
                rintro _ rfl
                rintro _ rfl
                rintro _ rfl
                rintro _ rfl
                rintro _ rfl
                rintro _ rfl
                rintro _ rfl
                rintro _ rfl
                rintro _ rfl
                rintro _ rfl
                rintro _ rfl
                rintro _ rfl
                rintro _ rfl
                refine fin_nil ?_
                simp only [Act.put, List.set_cons_zero, List.set_cons_succ, List.setIfInBounds_toArray]
                have HK8 := hide ((kp_drew w7).trans hkW1)
                clear hkW1 HAc
                go_wp2_with fail
                go_roundw
                case rel => exact ⟨k + 1, by omega, by omega, by go_num, nw + dn, ag, mg, cg, rfl, rfl, by omega, by omega, S', L, g6, f5, la, HF'.out, HL'.out, by rw [Hla.out, Hrc.out], Hmg.out, HZ7.out.on HK8.out, HS7.out.on HK8.out⟩
                case measure => simp [intOf]; omega
              · clear hrc hmg HKk HG7 HSv7 HAp HEl7
                go_wp2_with fail
                refine region_grow Tryz.mixed [Is (.pointer (some ⟨ga, 0, none⟩)), Is (.int .i64 3), Is (.bool false), Is (.bool false), Is (undef), Is (undef), Is (undef), Is (undef), Is (undef), Is (undef), Is (undef), Is (undef), Is (undef), Is (undef), Is (undef), Is (undef), Is (undef), Is (undef), Is (undef), Is (undef), Is (.bool false)] [[(14, none)], [(117, some 0)], [(118, some 1)], [(119, some 2)], [(14, none), (120, some 3)], [(121, some 4), (120, some 3)], [(10, none), (120, some 3)], [(123, some 6), (120, some 3)], [(122, some 5), (124, some 7), (120, some 3)], [(125, some 8), (120, some 3)], [(10, none), (126, some 9)], [(14, none), (126, some 9)], [(128, some 11), (126, some 9)], [(127, some 10), (129, some 12), (126, some 9)], [(130, some 13), (126, some 9)], [(131, some 14), (126, some 9)], [(13, none), (126, some 9)], [(133, some 16), (126, some 9)], [(132, some 15), (134, some 17), (126, some 9)], [(126, some 9), (135, some 18), (120, some 3)], [(120, some 3), (136, some 19)]] (by kernel_rfl) ?_ ?_ ?_
                · simp only [List.mem_cons, List.not_mem_nil, or_false]
                  intro R hR
                  rcases hR with rfl | rfl | rfl | rfl | rfl | rfl | rfl | rfl | rfl | rfl | rfl | rfl | rfl | rfl | rfl | rfl | rfl | rfl | rfl | rfl | rfl <;> first | exact stable_is _
                · refine steps_cons (fun a w hk hn => ?_) ?_
                  · have h14 : a.eval (.tmp 14) = .pointer (some ⟨ga, 0, none⟩) := hn.1
                    clear hn
                    refine wants_plain rfl ?_
                    refine grown_run (v := .pointer (some ⟨ga, 0, none⟩)) ?_ (Kp.refl _ _) rfl
                    obtain ⟨ρ, hρ, hc, hf, hg⟩ := eval_is a
                    rw [hρ] at h14 ⊢
                    simp [go_sem, h14]
                  refine steps_cons (fun a w hk hn => ?_) ?_
                  · have h117 : a.eval (.tmp 117) = .pointer (some ⟨ga, 0, none⟩) := hn.1
                    clear hn
                    refine wants_plain rfl ?_
                    refine grown_run (v := .int .i64 3) ?_ (Kp.refl _ _) rfl
                    have hcell : w.cell? ⟨ga, 0, none⟩ = some (.int .i64 3) := by rw [cell_of_row w ga 0 _ _ _ (HAc.out w hk)]; rfl
                    obtain ⟨ρ, hρ, hc, hf, hg⟩ := eval_is a
                    rw [hρ] at h117 ⊢
                    simp [go_sem, h117, hcell]
                  refine steps_cons (fun a w hk hn => ?_) ?_
                  · have h118 : a.eval (.tmp 118) = .int .i64 3 := hn.1
                    clear hn
                    refine wants_plain rfl ?_
                    refine grown_run (v := .bool false) ?_ (Kp.refl _ _) rfl
                    obtain ⟨ρ, hρ, hc, hf, hg⟩ := eval_is a
                    rw [hρ] at h118 ⊢
                    simp [go_sem, hc, h118]
                  refine steps_cons (fun a w hk hn => ?_) ?_
                  · have h119 : a.eval (.tmp 119) = .bool false := hn.1
                    clear hn
                    refine wants_plain rfl ?_
                    exact grown_move (.tmp 119) rfl h119
                  refine steps_cons (fun a w hk hn => ?_) ?_
                  · have h14 : a.eval (.tmp 14) = .pointer (some ⟨ga, 0, none⟩) := hn.1
                    have h120 : a.eval (.tmp 120) = .bool false := hn.2.1
                    clear hn
                    exact wants_not (d := 120) rfl rfl h120 rfl
                  refine steps_cons (fun a w hk hn => ?_) ?_
                  · have h121 : a.eval (.tmp 121) = undef := hn.1
                    have h120 : a.eval (.tmp 120) = .bool false := hn.2.1
                    clear hn
                    exact wants_not (d := 120) rfl rfl h120 rfl
                  refine steps_cons (fun a w hk hn => ?_) ?_
                  · have h10 : a.eval (.tmp 10) = .slice ag mg cg := hn.1
                    have h120 : a.eval (.tmp 120) = .bool false := hn.2.1
                    clear hn
                    exact wants_not (d := 120) rfl rfl h120 rfl
                  refine steps_cons (fun a w hk hn => ?_) ?_
                  · have h123 : a.eval (.tmp 123) = undef := hn.1
                    have h120 : a.eval (.tmp 120) = .bool false := hn.2.1
                    clear hn
                    exact wants_not (d := 120) rfl rfl h120 rfl
                  refine steps_cons (fun a w hk hn => ?_) ?_
                  · have h122 : a.eval (.tmp 122) = undef := hn.1
                    have h124 : a.eval (.tmp 124) = undef := hn.2.1
                    have h120 : a.eval (.tmp 120) = .bool false := hn.2.2.1
                    clear hn
                    exact wants_not (d := 120) rfl rfl h120 rfl
                  refine steps_cons (fun a w hk hn => ?_) ?_
                  · have h125 : a.eval (.tmp 125) = undef := hn.1
                    have h120 : a.eval (.tmp 120) = .bool false := hn.2.1
                    clear hn
                    exact wants_not (d := 120) rfl rfl h120 rfl
                  refine steps_cons (fun a w hk hn => ?_) ?_
                  · have h10 : a.eval (.tmp 10) = .slice ag mg cg := hn.1
                    have h126 : a.eval (.tmp 126) = undef := hn.2.1
                    clear hn
                    exact wants_none (d := 126) rfl rfl h126 rfl
                  refine steps_cons (fun a w hk hn => ?_) ?_
                  · have h14 : a.eval (.tmp 14) = .pointer (some ⟨ga, 0, none⟩) := hn.1
                    have h126 : a.eval (.tmp 126) = undef := hn.2.1
                    clear hn
                    exact wants_none (d := 126) rfl rfl h126 rfl
                  refine steps_cons (fun a w hk hn => ?_) ?_
                  · have h128 : a.eval (.tmp 128) = undef := hn.1
                    have h126 : a.eval (.tmp 126) = undef := hn.2.1
                    clear hn
                    exact wants_none (d := 126) rfl rfl h126 rfl
                  refine steps_cons (fun a w hk hn => ?_) ?_
                  · have h127 : a.eval (.tmp 127) = undef := hn.1
                    have h129 : a.eval (.tmp 129) = undef := hn.2.1
                    have h126 : a.eval (.tmp 126) = undef := hn.2.2.1
                    clear hn
                    exact wants_none (d := 126) rfl rfl h126 rfl
                  refine steps_cons (fun a w hk hn => ?_) ?_
                  · have h130 : a.eval (.tmp 130) = undef := hn.1
                    have h126 : a.eval (.tmp 126) = undef := hn.2.1
                    clear hn
                    exact wants_none (d := 126) rfl rfl h126 rfl
                  refine steps_cons (fun a w hk hn => ?_) ?_
                  · have h131 : a.eval (.tmp 131) = undef := hn.1
                    have h126 : a.eval (.tmp 126) = undef := hn.2.1
                    clear hn
                    exact wants_none (d := 126) rfl rfl h126 rfl
                  refine steps_cons (fun a w hk hn => ?_) ?_
                  · have h13 : a.eval (.tmp 13) = .slice av mv cv := hn.1
                    have h126 : a.eval (.tmp 126) = undef := hn.2.1
                    clear hn
                    exact wants_none (d := 126) rfl rfl h126 rfl
                  refine steps_cons (fun a w hk hn => ?_) ?_
                  · have h133 : a.eval (.tmp 133) = undef := hn.1
                    have h126 : a.eval (.tmp 126) = undef := hn.2.1
                    clear hn
                    exact wants_none (d := 126) rfl rfl h126 rfl
                  refine steps_cons (fun a w hk hn => ?_) ?_
                  · have h132 : a.eval (.tmp 132) = undef := hn.1
                    have h134 : a.eval (.tmp 134) = undef := hn.2.1
                    have h126 : a.eval (.tmp 126) = undef := hn.2.2.1
                    clear hn
                    exact wants_none (d := 126) rfl rfl h126 rfl
                  refine steps_cons (fun a w hk hn => ?_) ?_
                  · have h126 : a.eval (.tmp 126) = undef := hn.1
                    have h135 : a.eval (.tmp 135) = undef := hn.2.1
                    have h120 : a.eval (.tmp 120) = .bool false := hn.2.2.1
                    clear hn
                    exact wants_not (d := 120) rfl rfl h120 rfl
                  refine steps_cons (fun a w hk hn => ?_) ?_
                  · have h120 : a.eval (.tmp 120) = .bool false := hn.1
                    have h136 : a.eval (.tmp 136) = undef := hn.2.1
                    clear hn
                    refine wants_plain rfl ?_
                    exact grown_pick _ _ _ false rfl h120 rfl
                  exact trivial
                intro W1 hkW1
                rintro _ rfl
                rintro _ rfl
                rintro _ rfl
                rintro _ rfl
                rintro _ rfl
                rintro _ rfl
                rintro _ rfl
                rintro _ rfl
                rintro _ rfl
                rintro _ rfl
                rintro _ rfl
                rintro _ rfl
                rintro _ rfl
                rintro _ rfl
                rintro _ rfl
                rintro _ rfl
                rintro _ rfl
                rintro _ rfl
                rintro _ rfl
                rintro _ rfl
                rintro _ rfl
                refine fin_nil ?_
                simp only [Act.put, List.set_cons_zero, List.set_cons_succ, List.setIfInBounds_toArray]
                have HK8 := hide ((kp_drew w7).trans hkW1)
                clear hkW1 HAc
                go_wp2_with fail
                go_roundw
                case rel => exact ⟨k + 1, by omega, by omega, by go_num, nw + dn, ag, mg, cg, rfl, rfl, by omega, by omega, S', L, g6, f5, la, HF'.out, HL'.out, by rw [Hla.out, Hrc.out], Hmg.out, HZ7.out.on HK8.out, HS7.out.on HK8.out⟩
                case measure => simp [intOf]; omega
        · go_upto_region 12 with fail
          go_cut [62] from 55 to 61 (fun s wc => s = .bool false ∧ wc = wr)
          case first =>
            by_cases hl1 : k < N
            · have hl1' : (k : Int) < (N : Int) := by omega
              have hl2' : ¬ (k : Int) < 25 := by omega
              have hd1 : decide ((k : Int) < (N : Int)) = true := decide_eq_true hl1'
              have hd2 : decide ((k : Int) < 25) = false := decide_eq_false hl2'
              go_wp2_with fail
              go_meet
              exact ⟨rfl, rfl⟩
            · have hl1' : ¬ (k : Int) < (N : Int) := by omega
              have hd1 : decide ((k : Int) < (N : Int)) = false := decide_eq_false hl1'
              go_wp2_with fail
              go_meet
              exact ⟨rfl, rfl⟩
          case rest =>
            obtain ⟨rfl, hwc⟩ := hcut
            subst wc
            have HDb := hide HZ5.out.bo.dz
            have HSb : Hid (Sd wB wr (fun i => g5.tot i ∨ f5.tot i) x (.pointer (some ⟨p, 0, none⟩)) (.pointer (some ⟨l, 0, none⟩)) pd pl pk vw bd (.slice ag mg cg) la) := HS5.out
            have HDb : Hid (Dz wB wr pd pl pk (crD 0 1 S.d n0) (crD 0 2 L.dd n1) (crD 0 3 L.dk n2) g5.tot f5) := HDb.out
            clear HZ5 HS5 HC hll
            go_wp2_with fail
            go_loopw [15] (fun i wr => ∃ c : Nat, c ≤ 3 ∧ i = .int .i64 c ∧ ∃ (F : Nat → Prop) (f : Fps), Dz wB wr pd pl pk (crD c 1 S.d n0) (crD c 2 L.dd n1) (crD c 3 L.dk n2) F f ∧ Sd wB wr (fun i => F i ∨ f.tot i) x (.pointer (some ⟨p, 0, none⟩)) (.pointer (some ⟨l, 0, none⟩)) pd pl pk vw bd (.slice ag mg cg) la) (fun i _ => 3 - (intOf i).toNat)
            case atStart => exact ⟨0, by omega, rfl, _, f5, HDb.out, HSb.out⟩
            case round =>
              clear HDb HSb
              obtain ⟨c, hc3, rfl, F, f6, hDz, hSd⟩ := hrel
              have HDz := hide hDz
              have HSd := hide hSd
              clear hDz hSd
              by_cases hlt : c < 3
              · have hlt' : (c : Int) < 3 := by omega
                have HIc := hide hlt'
                have HTr : Hid (∀ w', Kp [] wr.drew w' → w'.cell? ⟨bd, c, none⟩ = some (.pointer (some ⟨pick3 c pd pl pk, 0, none⟩))) := fun w' k' => (HSd.out.on ((kp_drew wr).trans k')).tri.cell c hlt
                have HBc : Hid (∀ w', Kp [] wr.drew w' → w'.cell? ⟨bk, c, none⟩ = some (.int .i64 (pick3 c n0 n1 n2))) := fun w' k' => by
                  have h1 : Box3 w' bk n0 n1 n2 := (HDz.out.d.kp0.trans ((kp_drew wr).trans k')).heap HBk.out (by simp)
                  exact h1.cell c hlt
                go_wp2_with fail
                refine region_grow_tail 7 Tryz.mixed [Is (.slice (some ⟨bd, 0, none⟩) 3 3), Is (.int .i64 (c : Int)), Is (.pointer (some ⟨bd, c, none⟩)), Is (.pointer (some ⟨pick3 c pd pl pk, 0, none⟩)), Is (.int .i64 (c : Int)), Is (.pointer (some ⟨bk, c, none⟩)), Is (.int .i64 (pick3 c n0 n1 n2))] [[(8, none)], [(15, none)], [(142, some 0), (143, some 1)], [(144, some 2)], [(15, none)], [(5, none), (146, some 4)], [(147, some 5)]] (by kernel_rfl) ?_ ?_ ?_
                all_goals try simp only [List.take_succ_cons, List.take_zero, List.drop_succ_cons, List.drop_zero]
                · simp only [List.mem_cons, List.not_mem_nil, or_false]
                  intro R hR
                  rcases hR with rfl | rfl | rfl | rfl | rfl | rfl | rfl <;> first | exact stable_is _
                · refine steps_cons (fun a w hk hn => ?_) ?_
                  · have h8 : a.eval (.tmp 8) = .slice (some ⟨bd, 0, none⟩) 3 3 := hn.1
                    clear hn
                    refine wants_plain rfl ?_
                    exact grown_move (.tmp 8) rfl h8
                  refine steps_cons (fun a w hk hn => ?_) ?_
                  · have h15 : a.eval (.tmp 15) = .int .i64 (c : Int) := hn.1
                    clear hn
                    refine wants_plain rfl ?_
                    exact grown_move (.tmp 15) rfl h15
                  refine steps_cons (fun a w hk hn => ?_) ?_
                  · have h142 : a.eval (.tmp 142) = .slice (some ⟨bd, 0, none⟩) 3 3 := hn.1
                    have h143 : a.eval (.tmp 143) = .int .i64 (c : Int) := hn.2.1
                    clear hn
                    refine wants_plain rfl ?_
                    refine grown_run (v := .pointer (some ⟨bd, c, none⟩)) ?_ (Kp.refl _ _) rfl
                    have hin := HIc.out
                    obtain ⟨ρ, hρ, hc, hf, hg⟩ := eval_is a
                    rw [hρ] at h142 h143 ⊢
                    simp [go_sem, h142, h143, hin]
                  refine steps_cons (fun a w hk hn => ?_) ?_
                  · have h144 : a.eval (.tmp 144) = .pointer (some ⟨bd, c, none⟩) := hn.1
                    clear hn
                    refine wants_plain rfl ?_
                    refine grown_run (v := .pointer (some ⟨pick3 c pd pl pk, 0, none⟩)) ?_ (Kp.refl _ _) rfl
                    have hcell := HTr.out w hk
                    obtain ⟨ρ, hρ, hc, hf, hg⟩ := eval_is a
                    rw [hρ] at h144 ⊢
                    simp [go_sem, h144, hcell]
                  refine steps_cons (fun a w hk hn => ?_) ?_
                  · have h15 : a.eval (.tmp 15) = .int .i64 (c : Int) := hn.1
                    clear hn
                    refine wants_plain rfl ?_
                    exact grown_move (.tmp 15) rfl h15
                  refine steps_cons (fun a w hk hn => ?_) ?_
                  · have h5 : a.eval (.tmp 5) = .pointer (some ⟨bk, 0, none⟩) := hn.1
                    have h146 : a.eval (.tmp 146) = .int .i64 (c : Int) := hn.2.1
                    clear hn
                    refine wants_plain rfl ?_
                    refine grown_run (v := .pointer (some ⟨bk, c, none⟩)) ?_ (Kp.refl _ _) rfl
                    have hin := HIc.out
                    obtain ⟨ρ, hρ, hc, hf, hg⟩ := eval_is a
                    rw [hρ] at h5 h146 ⊢
                    simp [go_sem, h5, h146, hin]
                  refine steps_cons (fun a w hk hn => ?_) ?_
                  · have h147 : a.eval (.tmp 147) = .pointer (some ⟨bk, c, none⟩) := hn.1
                    clear hn
                    refine wants_plain rfl ?_
                    refine grown_run (v := .int .i64 (pick3 c n0 n1 n2)) ?_ (Kp.refl _ _) rfl
                    have hcell := HBc.out w hk
                    obtain ⟨ρ, hρ, hc, hf, hg⟩ := eval_is a
                    rw [hρ] at h147 ⊢
                    simp [go_sem, h147, hcell]
                  exact trivial
                intro W1 hkW1
                rintro _ rfl
                rintro _ rfl
                rintro _ rfl
                rintro _ rfl
                rintro _ rfl
                rintro _ rfl
                rintro _ rfl
                refine fin_nil ?_
                simp only [Act.put, List.set_cons_zero, List.set_cons_succ, List.setIfInBounds_toArray]
                have HCr := hide (dz_crashes (HDz.out.on ((kp_drew wr).trans hkW1)) hlt)
                have HS1 := hide (HSd.out.on ((kp_drew wr).trans hkW1))
                clear HDz HSd HTr HBc hkW1
                go_wp2_with fail
                refine HCr.out.mono ?_
                rintro ee w4 ⟨rfl, F4, f4, Z4, T4⟩
                have HZ4 := hide Z4
                have HS4 := hide (HS1.out.step T4 (fun i hi => hi.elim (fun hi => (Z4.rng i hi).2) (fun hi => (Z4.srng i hi).2)))
                clear HCr Z4 T4 HS1
                go_wp2_with fail
                go_roundw
                case rel => exact ⟨c + 1, by omega, by go_num, F4, f4, HZ4.out, HS4.out⟩
                case measure => simp [intOf]; omega
              · have hnlt : ¬ (c : Int) < 3 := by omega
                obtain rfl : c = 3 := by omega
                obtain ⟨⟨rs, at0, hd0, ha0, ho0, hop0, hok0, hnd0, tlx, htlx, hrs⟩, ⟨rsl, at1, its, hl⟩, ⟨at2, hk⟩⟩ := kp_crash HF.out HLL.out hk25 n0 n1 n2
                have HLd := hide hl
                have HLk := hide hk
                have HFd := hide (And.intro hd0 (And.intro ha0 (And.intro ho0 (And.intro hop0 (And.intro hok0 hnd0)))))
                have Hrs := hide hrs
                have hrl : rs.length ≤ mg + 1 ∧ mg ≤ rs.length ∧ rs.length ≤ 26 := by
                  have h1 : mg = S.rc.length := by rw [Hmg.out, ← Hla.out, List.length_map]
                  have h2 := HF.out.len
                  rw [hrs, List.length_append]
                  omega
                have Hmm := hide hrl
                have HWd : Hid (∀ w', Kp [] wr.drew w' → Wd w' x (.pointer (some ⟨p, 0, none⟩)) (.pointer (some ⟨l, 0, none⟩)) (.pointer (some ⟨pd, 0, none⟩)) (.pointer (some ⟨pl, 0, none⟩)) (.pointer (some ⟨pk, 0, none⟩)) 8 3 5 vw (.slice none 0 0) (.slice none 0 0)) := fun w' k => (HSd.out.on ((kp_drew wr).trans k)).at_
                have HDz : Hid (Dz wB wr pd pl pk (S.d.crash n0) (L.dd.crash n1) (L.dk.crash n2) F f6) := HDz.out
                have HokR := hide HF.out.ok
                clear hd0 ha0 ho0 hop0 hok0 hnd0 hrs hl hk hrl htlx HF HLL
                go_wp2_with fail
                refine region_grow_call 9 Tryz.mixed [Is (.pointer (some ⟨x, 0, none⟩)), Is (.pointer (some ⟨x, 0, none⟩)), Is (.pointer (some ⟨x, 3, none⟩)), Is (.pointer (some ⟨pl, 0, none⟩)), Is (.pointer (some ⟨x, 0, none⟩)), Is (.pointer (some ⟨x, 0, none⟩)), Is (.pointer (some ⟨x, 4, none⟩)), Is (.pointer (some ⟨pk, 0, none⟩)), RO wr.drew.heap.size (seedX 0)] [[(7, none)], [(151, some 0)], [(152, some 1)], [(153, some 2)], [(7, none)], [(155, some 4)], [(156, some 5)], [(157, some 6)], [], [], [(160, some 9)], [(150, some 10)], [(150, some 10)], [(161, some 11)], [(162, some 12)]] (by kernel_rfl) ?_ ?_ _ rfl rfl ?_
                all_goals try simp only [List.take_succ_cons, List.take_zero]
                · simp only [List.mem_cons, List.not_mem_nil, or_false]
                  intro R hR
                  rcases hR with rfl | rfl | rfl | rfl | rfl | rfl | rfl | rfl | rfl <;> first | exact stable_is _ | exact stable_ro _ _
                · refine steps_cons (fun a w hk hn => ?_) ?_
                  · have h7 : a.eval (.tmp 7) = .pointer (some ⟨x, 0, none⟩) := hn.1
                    clear hn
                    refine wants_plain rfl ?_
                    exact grown_move (.tmp 7) rfl h7
                  refine steps_cons (fun a w hk hn => ?_) ?_
                  · have h151 : a.eval (.tmp 151) = .pointer (some ⟨x, 0, none⟩) := hn.1
                    clear hn
                    refine wants_plain rfl ?_
                    refine grown_run (v := .pointer (some ⟨x, 0, none⟩)) ?_ (Kp.refl _ _) rfl
                    obtain ⟨ρ, hρ, hc, hf, hg⟩ := eval_is a
                    rw [hρ] at h151 ⊢
                    simp [go_sem, h151]
                  refine steps_cons (fun a w hk hn => ?_) ?_
                  · have h152 : a.eval (.tmp 152) = .pointer (some ⟨x, 0, none⟩) := hn.1
                    clear hn
                    refine wants_plain rfl ?_
                    refine grown_run (v := .pointer (some ⟨x, 3, none⟩)) ?_ (Kp.refl _ _) rfl
                    obtain ⟨ρ, hρ, hc, hf, hg⟩ := eval_is a
                    rw [hρ] at h152 ⊢
                    simp [go_sem, h152]
                  refine steps_cons (fun a w hk hn => ?_) ?_
                  · have h153 : a.eval (.tmp 153) = .pointer (some ⟨x, 3, none⟩) := hn.1
                    clear hn
                    refine wants_plain rfl ?_
                    refine grown_run (v := .pointer (some ⟨pl, 0, none⟩)) ?_ (Kp.refl _ _) rfl
                    have hcell : w.cell? ⟨x, 3, none⟩ = some (.pointer (some ⟨pl, 0, none⟩)) := by rw [cell_of_row w x 3 _ _ _ (HWd.out w hk)]; rfl
                    obtain ⟨ρ, hρ, hc, hf, hg⟩ := eval_is a
                    rw [hρ] at h153 ⊢
                    simp [go_sem, h153, hcell]
                  refine steps_cons (fun a w hk hn => ?_) ?_
                  · have h7 : a.eval (.tmp 7) = .pointer (some ⟨x, 0, none⟩) := hn.1
                    clear hn
                    refine wants_plain rfl ?_
                    exact grown_move (.tmp 7) rfl h7
                  refine steps_cons (fun a w hk hn => ?_) ?_
                  · have h155 : a.eval (.tmp 155) = .pointer (some ⟨x, 0, none⟩) := hn.1
                    clear hn
                    refine wants_plain rfl ?_
                    refine grown_run (v := .pointer (some ⟨x, 0, none⟩)) ?_ (Kp.refl _ _) rfl
                    obtain ⟨ρ, hρ, hc, hf, hg⟩ := eval_is a
                    rw [hρ] at h155 ⊢
                    simp [go_sem, h155]
                  refine steps_cons (fun a w hk hn => ?_) ?_
                  · have h156 : a.eval (.tmp 156) = .pointer (some ⟨x, 0, none⟩) := hn.1
                    clear hn
                    refine wants_plain rfl ?_
                    refine grown_run (v := .pointer (some ⟨x, 4, none⟩)) ?_ (Kp.refl _ _) rfl
                    obtain ⟨ρ, hρ, hc, hf, hg⟩ := eval_is a
                    rw [hρ] at h156 ⊢
                    simp [go_sem, h156]
                  refine steps_cons (fun a w hk hn => ?_) ?_
                  · have h157 : a.eval (.tmp 157) = .pointer (some ⟨x, 4, none⟩) := hn.1
                    clear hn
                    refine wants_plain rfl ?_
                    refine grown_run (v := .pointer (some ⟨pk, 0, none⟩)) ?_ (Kp.refl _ _) rfl
                    have hcell : w.cell? ⟨x, 4, none⟩ = some (.pointer (some ⟨pk, 0, none⟩)) := by rw [cell_of_row w x 4 _ _ _ (HWd.out w hk)]; rfl
                    obtain ⟨ρ, hρ, hc, hf, hg⟩ := eval_is a
                    rw [hρ] at h157 ⊢
                    simp [go_sem, h157, hcell]
                  refine steps_cons (fun a w hk hn => ?_) ?_
                  · clear hn
                    refine wants_plain rfl ?_
                    refine grown_call (f := 11) rfl Tryz.func11 (by kernel_rfl) (by kernel_rfl) ?_
                    simp only [List.map_toArray, List.map_cons, List.map_nil]
                    refine (xseed_any 0 w).mono ?_
                    rintro e w' ⟨ao, m, c, rfl, R, K⟩
                    exact ⟨_, rfl, K, ⟨ao, m, c, rfl, R.sl, fun i hi => Nat.le_trans hk.size (R.own i hi)⟩⟩
                  exact trivial
                intro W1 hkW1
                rintro _ rfl
                rintro _ rfl
                rintro _ rfl
                rintro _ rfl
                rintro _ rfl
                rintro _ rfl
                rintro _ rfl
                rintro _ rfl
                intro v159 h159
                refine fin_nil ?_
                simp only [Act.put, List.set_cons_zero, List.set_cons_succ, List.setIfInBounds_toArray]
                refine fun K hK => ?_
                refine wp_callQ rfl Tryz.func9 (by kernel_rfl) (by kernel_rfl) ?_
                simp only [List.map_toArray, List.map_cons, List.map_nil, Act.eval]
                obtain ⟨as_, ms_, cs_, es, Ss, Ns⟩ := h159
                subst es
                have HO := hide (dz_open (HDz.out.on ((kp_drew wr).trans hkW1)) (.slice as_ ms_ cs_) (seedX 0) Ss (seedX_bs 0) (seedX_len 0) (fun i hi e => by have h1 := (HDz.out.srng i e).2; have h2 := Ns i hi; exact absurd (show wr.drew.heap.size = wr.heap.size from rfl) (by omega)) HLd.out.1 HLd.out.2.1 HLk.out.1 HLk.out.2.1 HLk.out.2.2 HLd.out.2.2.1 HLd.out.2.2.2.1 (by have := HLd.out.2.2.2.2.1; omega) HLd.out.2.2.2.2.2.1 HLd.out.2.2.2.2.2.2.1 (by have := HLd.out.2.2.2.2.2.2.2.1; omega))
                refine HO.out.mono ?_
                rintro ee w2 ⟨l2, rfl, f7, L7, hL7, hits7, hD7, hap7, hrng7, T7⟩
                refine ⟨_, rfl, hK _ _ ?_⟩
                clear hK K
                refine ⟨[Is (.tuple #[.pointer (some ⟨l2, 0, none⟩), .int .i64 0]), Is (.pointer (some ⟨l2, 0, none⟩)), Is (.int .i64 0), Is (.pointer (some ⟨l2, 0, none⟩)), Is (.int .i64 0)], ?_, ?_, fun w3 hk3 => ?_⟩
                · simp only [List.mem_cons, List.not_mem_nil, or_false]
                  intro R hR
                  rcases hR with rfl | rfl | rfl | rfl | rfl <;> exact stable_is _
                · simp only [List.drop_succ_cons, List.drop_zero]
                  refine steps_cons (fun a w hk hn => ?_) ?_
                  · have h160 : a.eval (.tmp 160) = .tuple #[.pointer (some ⟨l2, 0, none⟩), .int .i64 0] := hn.1
                    clear hn
                    refine wants_plain rfl ?_
                    exact grown_move (.tmp 160) rfl h160
                  refine steps_cons (fun a w hk hn => ?_) ?_
                  · have h150 : a.eval (.tmp 150) = .tuple #[.pointer (some ⟨l2, 0, none⟩), .int .i64 0] := hn.1
                    clear hn
                    refine wants_plain rfl ?_
                    refine grown_run (v := .pointer (some ⟨l2, 0, none⟩)) ?_ (Kp.refl _ _) rfl
                    obtain ⟨ρ, hρ, hc, hf, hg⟩ := eval_is a
                    rw [hρ] at h150 ⊢
                    simp [go_sem, h150]
                  refine steps_cons (fun a w hk hn => ?_) ?_
                  · have h150 : a.eval (.tmp 150) = .tuple #[.pointer (some ⟨l2, 0, none⟩), .int .i64 0] := hn.1
                    clear hn
                    refine wants_plain rfl ?_
                    refine grown_run (v := .int .i64 0) ?_ (Kp.refl _ _) rfl
                    obtain ⟨ρ, hρ, hc, hf, hg⟩ := eval_is a
                    rw [hρ] at h150 ⊢
                    simp [go_sem, h150]
                  refine steps_cons (fun a w hk hn => ?_) ?_
                  · have h161 : a.eval (.tmp 161) = .pointer (some ⟨l2, 0, none⟩) := hn.1
                    clear hn
                    refine wants_plain rfl ?_
                    exact grown_assign (.tmp 161) rfl h161
                  refine steps_cons (fun a w hk hn => ?_) ?_
                  · have h162 : a.eval (.tmp 162) = .int .i64 0 := hn.1
                    clear hn
                    refine wants_plain rfl ?_
                    exact grown_assign (.tmp 162) rfl h162
                  exact trivial
                simp only [List.drop_succ_cons, List.drop_zero]
                rintro _ rfl
                rintro _ rfl
                rintro _ rfl
                rintro _ rfl
                rintro _ rfl
                refine fin_nil ?_
                simp only [Act.put, List.set_cons_zero, List.set_cons_succ, List.setIfInBounds_toArray]
                have K1 : Kp [] wr W1 := (kp_drew wr).trans hkW1
                have HL8 := hide (hL7.on hk3)
                have HSd8 := hide (((HSd.out.on K1).step T7 (fun i hi => hi.elim (fun hi => (hrng7 i hi).2) (fun hi => (hL7.lt i hi).2))).on hk3)
                have HD8 : Hid (Dx wB w3 pd (S.d.crash n0) F) := hide (hD7.kept hk3 (hL7.kp.trans hk3) (by simp))
                have Hap8 := hide hap7
                have Hrn8 : Hid (∀ i, F i → wB.heap.size ≤ i ∧ i < w3.heap.size) := hide (fun i hi => ⟨(hrng7 i hi).1, Nat.lt_of_lt_of_le (hrng7 i hi).2 hk3.size⟩)
                have Hits := hide hits7
                have hc2 := HSd8.out.at_.c2
                have HFo := hide (fopen_ok (r := 8) (s := 3) (t := 5) HD8.out HFd.out.1 HFd.out.2.1 rfl HFd.out.2.2.1 HFd.out.2.2.2.1 (List.all_eq_true.2 (fun r hr => (HFd.out.2.2.2.2.1 r hr).1)) (fun r hr => ⟨(HFd.out.2.2.2.2.1 r hr).2.1, by have := (HFd.out.2.2.2.2.1 r hr).2.2; omega⟩) (by have := Hmm.out; omega) Hrn8.out HL8.out Hap8.out (by omega) (by omega) (by omega) (by omega) (by omega) (by omega))
                rw [hits7] at HFo
                clear K1 hkW1 hk3 hL7 hits7 hD7 hap7 hrng7 T7 HO Ss Ns HDz HSd HWd HD8 HL8
                go_wp2_with fail
                refine HFo.out.mono ?_
                rintro ee w9 ⟨p2, rfl, g9, B9, T9⟩
                have HB9 := hide B9
                have HS9 := hide (HSd8.out.step T9 (fun i hi => (B9.lt i hi).2))
                obtain ⟨nr, hnr⟩ : ∃ n, n = rs.length := ⟨_, rfl⟩
                have HRc := hide (frcs_any B9.fr nr hnr)
                rw [← hnr] at Hmm
                have Hnr := hide hnr
                clear HFo B9 T9 HSd8 Hap8 Hrn8 hc2 hnr
                have hmB : mg ≤ 26 := by have := Hmm.out; omega
                have hm1 : ¬ (nr : Int) < (mg : Int) := by have := Hmm.out; omega
                have hm2 : ¬ (mg : Int) + 1 < (nr : Int) := by have := Hmm.out; omega
                have hm1d : decide ((nr : Int) < (mg : Int)) = false := decide_eq_false hm1
                have hm1n : decide (nr < mg) = false := decide_eq_false (by omega)
                have hm2d : decide ((mg : Int) + 1 < (nr : Int)) = false := decide_eq_false hm2
                have hm3 : IntKind.i64.wrap ((mg : Int) + 1) = (mg : Int) + 1 := by have := Hmm.out; simp [IntKind.wrap, IntKind.signed, IntKind.bits]; omega
                go_wp2_with fail
                refine HRc.out.mono ?_
                rintro ee w10 ⟨rfl, hw⟩
                subst w10
                go_wp2_with fail
                refine HRc.out.mono ?_
                rintro ee w10 ⟨rfl, hw⟩
                subst w10
                clear HRc
                go_wp2_with fail
                go_loopw [20] (fun i wr => ∃ j : Nat, j ≤ mg ∧ i = .int .i64 j ∧ ∃ g, Bo wB wr p2 l2 pd pl pk ⟨8, 3, 5, (lackP its rs).map evr, rs, dkOn (layP rs), rs.length⟩ L7 g f7 ∧ Sd wB wr (two2 g f7) x (.pointer (some ⟨p, 0, none⟩)) (.pointer (some ⟨l, 0, none⟩)) pd pl pk vw bd (.slice ag mg cg) la) (fun i _ => mg - (intOf i).toNat)
                case atStart => exact ⟨0, by omega, rfl, g9, HB9.out, HS9.out⟩
                case round =>
                  clear HB9 HS9 hm1 hm2 hm3 hm1d hm2d hm1n
                  obtain ⟨j, hj, rfl, g10, B10, S10⟩ := hrel
                  have HB := hide B10
                  have HS := hide S10
                  clear B10 S10
                  by_cases hjm : j < mg
                  · have hjm' : (j : Int) < (mg : Int) := by omega
                    have HJn := hide hjm'
                    have hmg := Hmg.out
                    have hjla : j < la.length := by rw [← Hmg.out]; exact hjm
                    have hjr : j < rs.length := by have := Hmm.out; have := Hnr.out; omega
                    obtain ⟨gg, hgg, hcg⟩ := HS.out.al.row.1.1.at j (by rw [List.length_map]; exact hjla)
                    subst hgg
                    obtain ⟨bb, hbb⟩ : ∃ b, b = la[j].2 := ⟨_, rfl⟩
                    have hsx := (HS.out.al.row.1.2 _ (List.getElem_mem hjla)).1
                    have hels : ∀ i, la[j].1.ownBlock = some i → i < wr.heap.size ∧ ¬ two2 g10 f7 i := fun i hi => by
                      obtain ⟨e1, e2⟩ := HS.out.al.its _ (List.getElem_mem hjla) i hi
                      exact ⟨e1, fun e => e2 (.inl e)⟩
                    rw [← hbb] at hsx
                    have hbr : bb = rs[j] := by
                      have h1 : (la.map (·.2))[j]'(by rw [List.length_map]; exact hjla) = rs[j] := by
                        simp only [Hla.out, Hrs.out]
                        rw [List.getElem_append_left]
                      rw [hbb, ← h1, List.getElem_map]
                    rw [List.getElem_map] at hcg
                    obtain ⟨ax, cx, ex, -⟩ := id hsx
                    obtain ⟨mx, hmx⟩ : ∃ m, m = bb.length := ⟨_, rfl⟩
                    rw [← hmx] at ex
                    rw [ex] at hsx hcg hels
                    obtain ⟨hbo, hbB, hbl⟩ := HFd.out.2.2.2.2.1 bb (by rw [hbr]; exact List.getElem_mem hjr)
                    obtain ⟨kk, nn, hsub, hkk⟩ := kp_told its rs (dkOn (layP rs)) rs.length j hjr bb hbr HFd.out.2.2.2.2.2 hbo nw
                    have HRec := hide (frec_ok HB.out.fr j hjr bb hbr)
                    rw [← hmx] at HRec
                    have HKk := hide hkk
                    have HbB := hide hbB
                    have Hbl := hide hbl
                    have Hsub := hide hsub
                    have HSx0 := hide hsx
                    have HEx := hide hels
                    have Hcg := hide hcg
                    obtain ⟨X, hX⟩ : ∃ X, X = strOfNums bb := ⟨_, rfl⟩
                    have HX := hide hX
                    clear hmg hjla hjr hbb hsx hels hbr hcg ex hmx hbo hbB hbl hsub hkk hX
                    go_wp2_with fail
                    refine HRec.out.mono ?_
                    rintro ee w11 ⟨c21, rfl, S21, K11⟩
                    obtain ⟨g21, hg21⟩ : ∃ g, g = wr.heap.size := ⟨_, rfl⟩
                    rw [← hg21] at S21 ⊢
                    have HN21 : Hid (¬ two2 g10 f7 g21) := hide (fun e => by have := (HB.out.lt g21 e).2; omega)
                    have HB11 := hide (HB.out.on K11)
                    have HS11 := hide (HS.out.on K11)
                    have HS21 := hide S21
                    have HSx1 := hide (HSx0.out.kept K11 (by simp))
                    have hcg1 : w11.cell? ⟨gg, j, none⟩ = some (.slice ax mx cx) := K11.cell Hcg.out (by simp)
                    have HSub := hide (fsub_any HB11.out.fr HB11.out.lg (.slice ax mx cx) bb HSx1.out HbB.out (by have := Hbl.out; omega) (fun i hi e => (HEx.out i hi).2 (.inl e)) nw (by omega) (by omega) (by have := Hmm.out; have := Hnr.out; show rs.length ≤ 1000; omega) (by have := Hmm.out; have := Hnr.out; show rs.length ≤ 1000; omega) kk nn _ (by rw [Hits.out]; exact Hsub.out))
                    clear HRec S21 K11 HB HS HSx0 hg21
                    go_wp2_with fail
                    refine HSub.out.mono ?_
                    rintro ee w12 ⟨rfl, g12, F12, T12⟩
                    obtain ⟨B12, T12'⟩ := HB11.out.stepF F12 T12
                    have HB12 := hide B12
                    have HS12 := hide (HS11.out.step T12' (fun i hi => (B12.lt i hi).2))
                    have HSx2 := hide (HSx1.out.stp T12' (fun i hi => (HEx.out i hi).2))
                    have HS22 : Hid (Sl w12 (.slice (some ⟨g21, 0, none⟩) mx c21) bb) := hide (HS21.out.stp T12' (fun i hi => by
                      obtain rfl : g21 = i := by simpa [Value.ownBlock] using hi
                      exact HN21.out))
                    have Hcg2 : Hid (w12.cell? ⟨gg, j, none⟩ = some (.slice ax mx cx)) := hide (by
                      obtain ⟨U, hU, kU⟩ := T12'.kp
                      exact kU.cell hcg1 (fun hm => (HS11.out.al.own gg rfl).2 (.inl (hU gg hm))))
                    clear HSub F12 T12 T12' B12 HB11 HS11 HSx1 HS21 hcg1 HN21 HEx Hcg
                    go_wp2_with (refine wpList_store_flat rfl 57 (.tmp 23) (.tmp 217) rfl w12.heap.size 0 rfl _ _ [.int .i64 kk, .int .i64 nn] (heap_alloc_new w12 _) rfl (by simp) Tryz.ansSize (by simp [Value.oneCell']) #[.int .i64 kk, .int .i64 nn] rfl ?_; intro w13 G13 K13; refine Hid.out ?_)
                    have k13 : Kp [] w12 w13 := ((Kp.refl [] w12).alloc _).then K13 (fun i hi => .inr (by simp at hi; omega))
                    obtain ⟨ga, hga⟩ : ∃ g, g = w12.heap.size := ⟨_, rfl⟩
                    rw [← hga] at G13 ⊢
                    have HB13 := hide (HB12.out.on k13)
                    have HS13 := hide (HS12.out.on k13)
                    have HSx3 := hide (HSx2.out.kept k13 (by simp))
                    have HS23 := hide (HS22.out.kept k13 (by simp))
                    have hcg3 : w13.cell? ⟨gg, j, none⟩ = some (.slice ax mx cx) := k13.cell Hcg2.out (by simp)
                    have HG13 := hide G13
                    have HFi := hide (ufind_any HB13.out.lg (.slice ax mx cx) bb HSx3.out HbB.out (by have := Hbl.out; omega) _ rfl _ rfl)
                    rw [Hits.out] at HFi
                    obtain ⟨cq, hcq⟩ : ∃ c, c = if decide (bb ∈ its) = true then (its.idxOf bb : Int) else 0 := ⟨_, rfl⟩
                    rw [← hcq] at HFi
                    clear K13 k13 G13 HB12 HS12 HSx2 HS22 Hcg2 hga hcq
                    refine hide ?_
                    go_wp2_with fail
                    refine HFi.out.mono ?_
                    rintro ee w14 ⟨rfl, K14⟩
                    have HB14 := hide (HB13.out.on K14)
                    have HS14 := hide (HS13.out.on K14)
                    have HAc : Hid (∀ w', Kp [] w14.drew w' → w'.heap[ga]? = some (.cells #[.int .i64 kk, .int .i64 nn] 57 (0, 0))) := hide (fun w' k' => (K14.trans ((kp_drew w14).trans k')).heap HG13.out (by simp))
                    have HGc : Hid (∀ w', Kp [] w14.drew w' → w'.cell? ⟨gg, j, none⟩ = some (.slice ax mx cx)) := hide (fun w' k' => (K14.trans ((kp_drew w14).trans k')).cell hcg3 (by simp))
                    have HSx : Hid (∀ w', Kp [] w14.drew w' → Sl w' (.slice ax mx cx) bb) := hide (fun w' k' => HSx3.out.kept (K14.trans ((kp_drew w14).trans k')) (by simp))
                    have HSv : Hid (∀ w', Kp [] w14.drew w' → Sl w' (.slice (some ⟨g21, 0, none⟩) mx c21) bb) := hide (fun w' k' => HS23.out.kept (K14.trans ((kp_drew w14).trans k')) (by simp))
                    clear HFi K14 HB13 HS13 HSx3 HS23 hcg3 HG13
                    rcases HKk.out with ⟨hin, rfl⟩ | ⟨hin, rfl, rfl⟩
                    · rw [decide_eq_true hin]
                      clear hin HKk Hsub
                      go_wp2_with fail
                      refine region_grow Tryz.mixed [Is (.bool true), Is (.bool false), Is (.bool false), Is (.slice (some ⟨g21, 0, none⟩) mx c21), Is (.string X), Is (.slice (some ⟨gg, 0, none⟩) mg cg), Is (.int .i64 (j : Int)), Is (.pointer (some ⟨gg, j, none⟩)), Is (.slice ax mx cx), Is (.string X), Is (.bool false), Is (.bool false), Is (.bool false), Is (.bool true), Is (.bool true), Is (.pointer (some ⟨ga, 0, none⟩)), Is (.int .i64 2), Is (.bool false), Is (.bool false), Is (.bool false), Is (.bool false), Is (.bool true), Is (.bool false), Is (.bool false), Is (undef), Is (undef), Is (undef), Is (undef), Is (undef), Is (undef), Is (undef), Is (undef), Is (undef), Is (.bool false), Is (.bool false)] [[(22, none)], [(227, some 0)], [(228, some 1)], [(21, none), (229, some 2)], [(230, some 3), (229, some 2)], [(10, none), (229, some 2)], [(20, none), (229, some 2)], [(232, some 5), (233, some 6), (229, some 2)], [(234, some 7), (229, some 2)], [(235, some 8), (229, some 2)], [(231, some 4), (236, some 9), (229, some 2)], [(229, some 2), (237, some 10)], [(238, some 11)], [(25, none), (239, some 12)], [(240, some 13), (239, some 12)], [(23, none), (241, some 14)], [(242, some 15), (241, some 14)], [(243, some 16), (241, some 14)], [(241, some 14), (244, some 17), (239, some 12)], [(239, some 12), (245, some 18)], [(246, some 19)], [(25, none), (247, some 20)], [(248, some 21), (247, some 20)], [(249, some 22), (247, some 20)], [(23, none), (250, some 23)], [(251, some 24), (250, some 23)], [(252, some 25), (250, some 23)], [(253, some 26), (250, some 23)], [(23, none), (254, some 27)], [(255, some 28), (254, some 27)], [(20, none), (254, some 27)], [(256, some 29), (257, some 30), (254, some 27)], [(254, some 27), (258, some 31), (250, some 23)], [(250, some 23), (259, some 32), (247, some 20)], [(247, some 20), (260, some 33)]] (by kernel_rfl) ?_ ?_ ?_
                      · simp only [List.mem_cons, List.not_mem_nil, or_false]
                        intro R hR
                        rcases hR with rfl | rfl | rfl | rfl | rfl | rfl | rfl | rfl | rfl | rfl | rfl | rfl | rfl | rfl | rfl | rfl | rfl | rfl | rfl | rfl | rfl | rfl | rfl | rfl | rfl | rfl | rfl | rfl | rfl | rfl | rfl | rfl | rfl | rfl | rfl <;> first | exact stable_is _
                      · refine steps_cons (fun a w hk hn => ?_) ?_
                        · have h22 : a.eval (.tmp 22) = .bool true := hn.1
                          clear hn
                          refine wants_plain rfl ?_
                          exact grown_move (.tmp 22) rfl h22
                        refine steps_cons (fun a w hk hn => ?_) ?_
                        · have h227 : a.eval (.tmp 227) = .bool true := hn.1
                          clear hn
                          refine wants_plain rfl ?_
                          refine grown_run (v := .bool false) ?_ (Kp.refl _ _) rfl
                          obtain ⟨ρ, hρ, hc, hf, hg⟩ := eval_is a
                          rw [hρ] at h227 ⊢
                          simp [go_sem, h227]
                        refine steps_cons (fun a w hk hn => ?_) ?_
                        · have h228 : a.eval (.tmp 228) = .bool false := hn.1
                          clear hn
                          refine wants_plain rfl ?_
                          exact grown_move (.tmp 228) rfl h228
                        refine steps_cons (fun a w hk hn => ?_) ?_
                        · have h21 : a.eval (.tmp 21) = .slice (some ⟨g21, 0, none⟩) mx c21 := hn.1
                          have h229 : a.eval (.tmp 229) = .bool false := hn.2.1
                          clear hn
                          refine wants_guard (d := 229) rfl rfl h229 ?_
                          exact grown_move (.tmp 21) rfl h21
                        refine steps_cons (fun a w hk hn => ?_) ?_
                        · have h230 : a.eval (.tmp 230) = .slice (some ⟨g21, 0, none⟩) mx c21 := hn.1
                          have h229 : a.eval (.tmp 229) = .bool false := hn.2.1
                          clear hn
                          refine wants_guard (d := 229) rfl rfl h229 ?_
                          exact grown_conv (.tmp 230) _ _ 5 (bb) rfl (by rw [h230]; exact HSv.out w hk) Tryz.underlying28 Tryz.underlying5 Tryz.underlying9 (congrArg Value.string (unhide HX).symm)
                        refine steps_cons (fun a w hk hn => ?_) ?_
                        · have h10 : a.eval (.tmp 10) = .slice (some ⟨gg, 0, none⟩) mg cg := hn.1
                          have h229 : a.eval (.tmp 229) = .bool false := hn.2.1
                          clear hn
                          refine wants_guard (d := 229) rfl rfl h229 ?_
                          exact grown_move (.tmp 10) rfl h10
                        refine steps_cons (fun a w hk hn => ?_) ?_
                        · have h20 : a.eval (.tmp 20) = .int .i64 (j : Int) := hn.1
                          have h229 : a.eval (.tmp 229) = .bool false := hn.2.1
                          clear hn
                          refine wants_guard (d := 229) rfl rfl h229 ?_
                          exact grown_move (.tmp 20) rfl h20
                        refine steps_cons (fun a w hk hn => ?_) ?_
                        · have h232 : a.eval (.tmp 232) = .slice (some ⟨gg, 0, none⟩) mg cg := hn.1
                          have h233 : a.eval (.tmp 233) = .int .i64 (j : Int) := hn.2.1
                          have h229 : a.eval (.tmp 229) = .bool false := hn.2.2.1
                          clear hn
                          refine wants_guard (d := 229) rfl rfl h229 ?_
                          refine grown_run (v := .pointer (some ⟨gg, j, none⟩)) ?_ (Kp.refl _ _) rfl
                          have hin := HJn.out
                          obtain ⟨ρ, hρ, hc, hf, hg⟩ := eval_is a
                          rw [hρ] at h232 h233 ⊢
                          simp [go_sem, h232, h233, hin]
                        refine steps_cons (fun a w hk hn => ?_) ?_
                        · have h234 : a.eval (.tmp 234) = .pointer (some ⟨gg, j, none⟩) := hn.1
                          have h229 : a.eval (.tmp 229) = .bool false := hn.2.1
                          clear hn
                          refine wants_guard (d := 229) rfl rfl h229 ?_
                          refine grown_run (v := .slice ax mx cx) ?_ (Kp.refl _ _) rfl
                          have hcell := HGc.out w hk
                          obtain ⟨ρ, hρ, hc, hf, hg⟩ := eval_is a
                          rw [hρ] at h234 ⊢
                          simp [go_sem, h234, hcell]
                        refine steps_cons (fun a w hk hn => ?_) ?_
                        · have h235 : a.eval (.tmp 235) = .slice ax mx cx := hn.1
                          have h229 : a.eval (.tmp 229) = .bool false := hn.2.1
                          clear hn
                          refine wants_guard (d := 229) rfl rfl h229 ?_
                          exact grown_conv (.tmp 235) _ _ 5 (bb) rfl (by rw [h235]; exact HSx.out w hk) Tryz.underlying28 Tryz.underlying5 Tryz.underlying9 (congrArg Value.string (unhide HX).symm)
                        refine steps_cons (fun a w hk hn => ?_) ?_
                        · have h231 : a.eval (.tmp 231) = .string X := hn.1
                          have h236 : a.eval (.tmp 236) = .string X := hn.2.1
                          have h229 : a.eval (.tmp 229) = .bool false := hn.2.2.1
                          clear hn
                          refine wants_guard (d := 229) rfl rfl h229 ?_
                          refine grown_run (v := .bool false) ?_ (Kp.refl _ _) rfl
                          obtain ⟨ρ, hρ, hc, hf, hg⟩ := eval_is a
                          rw [hρ] at h231 h236 ⊢
                          simp [go_sem, h231, h236]
                        refine steps_cons (fun a w hk hn => ?_) ?_
                        · have h229 : a.eval (.tmp 229) = .bool false := hn.1
                          have h237 : a.eval (.tmp 237) = .bool false := hn.2.1
                          clear hn
                          refine wants_plain rfl ?_
                          exact grown_pick _ _ _ false rfl h229 h237
                        refine steps_cons (fun a w hk hn => ?_) ?_
                        · have h238 : a.eval (.tmp 238) = .bool false := hn.1
                          clear hn
                          refine wants_plain rfl ?_
                          exact grown_move (.tmp 238) rfl h238
                        refine steps_cons (fun a w hk hn => ?_) ?_
                        · have h25 : a.eval (.tmp 25) = .bool true := hn.1
                          have h239 : a.eval (.tmp 239) = .bool false := hn.2.1
                          clear hn
                          refine wants_guard (d := 239) rfl rfl h239 ?_
                          exact grown_move (.tmp 25) rfl h25
                        refine steps_cons (fun a w hk hn => ?_) ?_
                        · have h240 : a.eval (.tmp 240) = .bool true := hn.1
                          have h239 : a.eval (.tmp 239) = .bool false := hn.2.1
                          clear hn
                          refine wants_guard (d := 239) rfl rfl h239 ?_
                          exact grown_move (.tmp 240) rfl h240
                        refine steps_cons (fun a w hk hn => ?_) ?_
                        · have h23 : a.eval (.tmp 23) = .pointer (some ⟨ga, 0, none⟩) := hn.1
                          have h241 : a.eval (.tmp 241) = .bool true := hn.2.1
                          clear hn
                          refine wants_guard (d := 241) rfl rfl h241 ?_
                          refine grown_run (v := .pointer (some ⟨ga, 0, none⟩)) ?_ (Kp.refl _ _) rfl
                          obtain ⟨ρ, hρ, hc, hf, hg⟩ := eval_is a
                          rw [hρ] at h23 ⊢
                          simp [go_sem, h23]
                        refine steps_cons (fun a w hk hn => ?_) ?_
                        · have h242 : a.eval (.tmp 242) = .pointer (some ⟨ga, 0, none⟩) := hn.1
                          have h241 : a.eval (.tmp 241) = .bool true := hn.2.1
                          clear hn
                          refine wants_guard (d := 241) rfl rfl h241 ?_
                          refine grown_run (v := .int .i64 2) ?_ (Kp.refl _ _) rfl
                          have hcell : w.cell? ⟨ga, 0, none⟩ = some (.int .i64 2) := by rw [cell_of_row w ga 0 _ _ _ (HAc.out w hk)]; rfl
                          obtain ⟨ρ, hρ, hc, hf, hg⟩ := eval_is a
                          rw [hρ] at h242 ⊢
                          simp [go_sem, h242, hcell]
                        refine steps_cons (fun a w hk hn => ?_) ?_
                        · have h243 : a.eval (.tmp 243) = .int .i64 2 := hn.1
                          have h241 : a.eval (.tmp 241) = .bool true := hn.2.1
                          clear hn
                          refine wants_guard (d := 241) rfl rfl h241 ?_
                          refine grown_run (v := .bool false) ?_ (Kp.refl _ _) rfl
                          obtain ⟨ρ, hρ, hc, hf, hg⟩ := eval_is a
                          rw [hρ] at h243 ⊢
                          simp [go_sem, hc, h243]
                        refine steps_cons (fun a w hk hn => ?_) ?_
                        · have h241 : a.eval (.tmp 241) = .bool true := hn.1
                          have h244 : a.eval (.tmp 244) = .bool false := hn.2.1
                          have h239 : a.eval (.tmp 239) = .bool false := hn.2.2.1
                          clear hn
                          refine wants_guard (d := 239) rfl rfl h239 ?_
                          exact grown_pick _ _ _ true rfl h241 h244
                        refine steps_cons (fun a w hk hn => ?_) ?_
                        · have h239 : a.eval (.tmp 239) = .bool false := hn.1
                          have h245 : a.eval (.tmp 245) = .bool false := hn.2.1
                          clear hn
                          refine wants_plain rfl ?_
                          exact grown_pick _ _ _ false rfl h239 h245
                        refine steps_cons (fun a w hk hn => ?_) ?_
                        · have h246 : a.eval (.tmp 246) = .bool false := hn.1
                          clear hn
                          refine wants_plain rfl ?_
                          exact grown_move (.tmp 246) rfl h246
                        refine steps_cons (fun a w hk hn => ?_) ?_
                        · have h25 : a.eval (.tmp 25) = .bool true := hn.1
                          have h247 : a.eval (.tmp 247) = .bool false := hn.2.1
                          clear hn
                          refine wants_guard (d := 247) rfl rfl h247 ?_
                          exact grown_move (.tmp 25) rfl h25
                        refine steps_cons (fun a w hk hn => ?_) ?_
                        · have h248 : a.eval (.tmp 248) = .bool true := hn.1
                          have h247 : a.eval (.tmp 247) = .bool false := hn.2.1
                          clear hn
                          refine wants_guard (d := 247) rfl rfl h247 ?_
                          refine grown_run (v := .bool false) ?_ (Kp.refl _ _) rfl
                          obtain ⟨ρ, hρ, hc, hf, hg⟩ := eval_is a
                          rw [hρ] at h248 ⊢
                          simp [go_sem, h248]
                        refine steps_cons (fun a w hk hn => ?_) ?_
                        · have h249 : a.eval (.tmp 249) = .bool false := hn.1
                          have h247 : a.eval (.tmp 247) = .bool false := hn.2.1
                          clear hn
                          refine wants_guard (d := 247) rfl rfl h247 ?_
                          exact grown_move (.tmp 249) rfl h249
                        refine steps_cons (fun a w hk hn => ?_) ?_
                        · have h23 : a.eval (.tmp 23) = .pointer (some ⟨ga, 0, none⟩) := hn.1
                          have h250 : a.eval (.tmp 250) = .bool false := hn.2.1
                          clear hn
                          exact wants_not (d := 250) rfl rfl h250 rfl
                        refine steps_cons (fun a w hk hn => ?_) ?_
                        · have h251 : a.eval (.tmp 251) = undef := hn.1
                          have h250 : a.eval (.tmp 250) = .bool false := hn.2.1
                          clear hn
                          exact wants_not (d := 250) rfl rfl h250 rfl
                        refine steps_cons (fun a w hk hn => ?_) ?_
                        · have h252 : a.eval (.tmp 252) = undef := hn.1
                          have h250 : a.eval (.tmp 250) = .bool false := hn.2.1
                          clear hn
                          exact wants_not (d := 250) rfl rfl h250 rfl
                        refine steps_cons (fun a w hk hn => ?_) ?_
                        · have h253 : a.eval (.tmp 253) = undef := hn.1
                          have h250 : a.eval (.tmp 250) = .bool false := hn.2.1
                          clear hn
                          exact wants_not (d := 250) rfl rfl h250 rfl
                        refine steps_cons (fun a w hk hn => ?_) ?_
                        · have h23 : a.eval (.tmp 23) = .pointer (some ⟨ga, 0, none⟩) := hn.1
                          have h254 : a.eval (.tmp 254) = undef := hn.2.1
                          clear hn
                          exact wants_none (d := 254) rfl rfl h254 rfl
                        refine steps_cons (fun a w hk hn => ?_) ?_
                        · have h255 : a.eval (.tmp 255) = undef := hn.1
                          have h254 : a.eval (.tmp 254) = undef := hn.2.1
                          clear hn
                          exact wants_none (d := 254) rfl rfl h254 rfl
                        refine steps_cons (fun a w hk hn => ?_) ?_
                        · have h20 : a.eval (.tmp 20) = .int .i64 (j : Int) := hn.1
                          have h254 : a.eval (.tmp 254) = undef := hn.2.1
                          clear hn
                          exact wants_none (d := 254) rfl rfl h254 rfl
                        refine steps_cons (fun a w hk hn => ?_) ?_
                        · have h256 : a.eval (.tmp 256) = undef := hn.1
                          have h257 : a.eval (.tmp 257) = undef := hn.2.1
                          have h254 : a.eval (.tmp 254) = undef := hn.2.2.1
                          clear hn
                          exact wants_none (d := 254) rfl rfl h254 rfl
                        refine steps_cons (fun a w hk hn => ?_) ?_
                        · have h254 : a.eval (.tmp 254) = undef := hn.1
                          have h258 : a.eval (.tmp 258) = undef := hn.2.1
                          have h250 : a.eval (.tmp 250) = .bool false := hn.2.2.1
                          clear hn
                          exact wants_not (d := 250) rfl rfl h250 rfl
                        refine steps_cons (fun a w hk hn => ?_) ?_
                        · have h250 : a.eval (.tmp 250) = .bool false := hn.1
                          have h259 : a.eval (.tmp 259) = undef := hn.2.1
                          have h247 : a.eval (.tmp 247) = .bool false := hn.2.2.1
                          clear hn
                          refine wants_guard (d := 247) rfl rfl h247 ?_
                          exact grown_pick _ _ _ false rfl h250 rfl
                        refine steps_cons (fun a w hk hn => ?_) ?_
                        · have h247 : a.eval (.tmp 247) = .bool false := hn.1
                          have h260 : a.eval (.tmp 260) = .bool false := hn.2.1
                          clear hn
                          refine wants_plain rfl ?_
                          exact grown_pick _ _ _ false rfl h247 h260
                        exact trivial
                      intro W1 hkW1
                      rintro _ rfl
                      rintro _ rfl
                      rintro _ rfl
                      rintro _ rfl
                      rintro _ rfl
                      rintro _ rfl
                      rintro _ rfl
                      rintro _ rfl
                      rintro _ rfl
                      rintro _ rfl
                      rintro _ rfl
                      rintro _ rfl
                      rintro _ rfl
                      rintro _ rfl
                      rintro _ rfl
                      rintro _ rfl
                      rintro _ rfl
                      rintro _ rfl
                      rintro _ rfl
                      rintro _ rfl
                      rintro _ rfl
                      rintro _ rfl
                      rintro _ rfl
                      rintro _ rfl
                      rintro _ rfl
                      rintro _ rfl
                      rintro _ rfl
                      rintro _ rfl
                      rintro _ rfl
                      rintro _ rfl
                      rintro _ rfl
                      rintro _ rfl
                      rintro _ rfl
                      rintro _ rfl
                      rintro _ rfl
                      refine fin_nil ?_
                      simp only [Act.put, List.set_cons_zero, List.set_cons_succ, List.setIfInBounds_toArray]
                      have HKf := hide ((kp_drew w14).trans hkW1)
                      clear hkW1 HAc HGc HSx HSv
                      go_wp2_with fail
                      go_roundw
                      case rel => exact ⟨j + 1, by omega, by go_num, g12, HB14.out.on HKf.out, HS14.out.on HKf.out⟩
                      case measure => simp [intOf]; omega
                    · rw [decide_eq_false hin]
                      clear hin HKk Hsub
                      go_wp2_with fail
                      refine region_grow Tryz.mixed [Is (.bool true), Is (.bool false), Is (.bool false), Is (.slice (some ⟨g21, 0, none⟩) mx c21), Is (.string X), Is (.slice (some ⟨gg, 0, none⟩) mg cg), Is (.int .i64 (j : Int)), Is (.pointer (some ⟨gg, j, none⟩)), Is (.slice ax mx cx), Is (.string X), Is (.bool false), Is (.bool false), Is (.bool false), Is (.bool false), Is (.bool false), Is (undef), Is (undef), Is (undef), Is (.bool false), Is (.bool false), Is (.bool false), Is (.bool false), Is (.bool true), Is (.bool true), Is (.pointer (some ⟨ga, 0, none⟩)), Is (.int .i64 1), Is (.bool false), Is (.bool false), Is (.pointer (some ⟨ga, 1, none⟩)), Is (.int .i64 (j : Int)), Is (.int .i64 (j : Int)), Is (.bool false), Is (.bool false), Is (.bool false), Is (.bool false)] [[(22, none)], [(227, some 0)], [(228, some 1)], [(21, none), (229, some 2)], [(230, some 3), (229, some 2)], [(10, none), (229, some 2)], [(20, none), (229, some 2)], [(232, some 5), (233, some 6), (229, some 2)], [(234, some 7), (229, some 2)], [(235, some 8), (229, some 2)], [(231, some 4), (236, some 9), (229, some 2)], [(229, some 2), (237, some 10)], [(238, some 11)], [(25, none), (239, some 12)], [(240, some 13), (239, some 12)], [(23, none), (241, some 14)], [(242, some 15), (241, some 14)], [(243, some 16), (241, some 14)], [(241, some 14), (244, some 17), (239, some 12)], [(239, some 12), (245, some 18)], [(246, some 19)], [(25, none), (247, some 20)], [(248, some 21), (247, some 20)], [(249, some 22), (247, some 20)], [(23, none), (250, some 23)], [(251, some 24), (250, some 23)], [(252, some 25), (250, some 23)], [(253, some 26), (250, some 23)], [(23, none), (254, some 27)], [(255, some 28), (254, some 27)], [(20, none), (254, some 27)], [(256, some 29), (257, some 30), (254, some 27)], [(254, some 27), (258, some 31), (250, some 23)], [(250, some 23), (259, some 32), (247, some 20)], [(247, some 20), (260, some 33)]] (by kernel_rfl) ?_ ?_ ?_
                      · simp only [List.mem_cons, List.not_mem_nil, or_false]
                        intro R hR
                        rcases hR with rfl | rfl | rfl | rfl | rfl | rfl | rfl | rfl | rfl | rfl | rfl | rfl | rfl | rfl | rfl | rfl | rfl | rfl | rfl | rfl | rfl | rfl | rfl | rfl | rfl | rfl | rfl | rfl | rfl | rfl | rfl | rfl | rfl | rfl | rfl <;> first | exact stable_is _
                      · refine steps_cons (fun a w hk hn => ?_) ?_
                        · have h22 : a.eval (.tmp 22) = .bool true := hn.1
                          clear hn
                          refine wants_plain rfl ?_
                          exact grown_move (.tmp 22) rfl h22
                        refine steps_cons (fun a w hk hn => ?_) ?_
                        · have h227 : a.eval (.tmp 227) = .bool true := hn.1
                          clear hn
                          refine wants_plain rfl ?_
                          refine grown_run (v := .bool false) ?_ (Kp.refl _ _) rfl
                          obtain ⟨ρ, hρ, hc, hf, hg⟩ := eval_is a
                          rw [hρ] at h227 ⊢
                          simp [go_sem, h227]
                        refine steps_cons (fun a w hk hn => ?_) ?_
                        · have h228 : a.eval (.tmp 228) = .bool false := hn.1
                          clear hn
                          refine wants_plain rfl ?_
                          exact grown_move (.tmp 228) rfl h228
                        refine steps_cons (fun a w hk hn => ?_) ?_
                        · have h21 : a.eval (.tmp 21) = .slice (some ⟨g21, 0, none⟩) mx c21 := hn.1
                          have h229 : a.eval (.tmp 229) = .bool false := hn.2.1
                          clear hn
                          refine wants_guard (d := 229) rfl rfl h229 ?_
                          exact grown_move (.tmp 21) rfl h21
                        refine steps_cons (fun a w hk hn => ?_) ?_
                        · have h230 : a.eval (.tmp 230) = .slice (some ⟨g21, 0, none⟩) mx c21 := hn.1
                          have h229 : a.eval (.tmp 229) = .bool false := hn.2.1
                          clear hn
                          refine wants_guard (d := 229) rfl rfl h229 ?_
                          exact grown_conv (.tmp 230) _ _ 5 (bb) rfl (by rw [h230]; exact HSv.out w hk) Tryz.underlying28 Tryz.underlying5 Tryz.underlying9 (congrArg Value.string (unhide HX).symm)
                        refine steps_cons (fun a w hk hn => ?_) ?_
                        · have h10 : a.eval (.tmp 10) = .slice (some ⟨gg, 0, none⟩) mg cg := hn.1
                          have h229 : a.eval (.tmp 229) = .bool false := hn.2.1
                          clear hn
                          refine wants_guard (d := 229) rfl rfl h229 ?_
                          exact grown_move (.tmp 10) rfl h10
                        refine steps_cons (fun a w hk hn => ?_) ?_
                        · have h20 : a.eval (.tmp 20) = .int .i64 (j : Int) := hn.1
                          have h229 : a.eval (.tmp 229) = .bool false := hn.2.1
                          clear hn
                          refine wants_guard (d := 229) rfl rfl h229 ?_
                          exact grown_move (.tmp 20) rfl h20
                        refine steps_cons (fun a w hk hn => ?_) ?_
                        · have h232 : a.eval (.tmp 232) = .slice (some ⟨gg, 0, none⟩) mg cg := hn.1
                          have h233 : a.eval (.tmp 233) = .int .i64 (j : Int) := hn.2.1
                          have h229 : a.eval (.tmp 229) = .bool false := hn.2.2.1
                          clear hn
                          refine wants_guard (d := 229) rfl rfl h229 ?_
                          refine grown_run (v := .pointer (some ⟨gg, j, none⟩)) ?_ (Kp.refl _ _) rfl
                          have hin := HJn.out
                          obtain ⟨ρ, hρ, hc, hf, hg⟩ := eval_is a
                          rw [hρ] at h232 h233 ⊢
                          simp [go_sem, h232, h233, hin]
                        refine steps_cons (fun a w hk hn => ?_) ?_
                        · have h234 : a.eval (.tmp 234) = .pointer (some ⟨gg, j, none⟩) := hn.1
                          have h229 : a.eval (.tmp 229) = .bool false := hn.2.1
                          clear hn
                          refine wants_guard (d := 229) rfl rfl h229 ?_
                          refine grown_run (v := .slice ax mx cx) ?_ (Kp.refl _ _) rfl
                          have hcell := HGc.out w hk
                          obtain ⟨ρ, hρ, hc, hf, hg⟩ := eval_is a
                          rw [hρ] at h234 ⊢
                          simp [go_sem, h234, hcell]
                        refine steps_cons (fun a w hk hn => ?_) ?_
                        · have h235 : a.eval (.tmp 235) = .slice ax mx cx := hn.1
                          have h229 : a.eval (.tmp 229) = .bool false := hn.2.1
                          clear hn
                          refine wants_guard (d := 229) rfl rfl h229 ?_
                          exact grown_conv (.tmp 235) _ _ 5 (bb) rfl (by rw [h235]; exact HSx.out w hk) Tryz.underlying28 Tryz.underlying5 Tryz.underlying9 (congrArg Value.string (unhide HX).symm)
                        refine steps_cons (fun a w hk hn => ?_) ?_
                        · have h231 : a.eval (.tmp 231) = .string X := hn.1
                          have h236 : a.eval (.tmp 236) = .string X := hn.2.1
                          have h229 : a.eval (.tmp 229) = .bool false := hn.2.2.1
                          clear hn
                          refine wants_guard (d := 229) rfl rfl h229 ?_
                          refine grown_run (v := .bool false) ?_ (Kp.refl _ _) rfl
                          obtain ⟨ρ, hρ, hc, hf, hg⟩ := eval_is a
                          rw [hρ] at h231 h236 ⊢
                          simp [go_sem, h231, h236]
                        refine steps_cons (fun a w hk hn => ?_) ?_
                        · have h229 : a.eval (.tmp 229) = .bool false := hn.1
                          have h237 : a.eval (.tmp 237) = .bool false := hn.2.1
                          clear hn
                          refine wants_plain rfl ?_
                          exact grown_pick _ _ _ false rfl h229 h237
                        refine steps_cons (fun a w hk hn => ?_) ?_
                        · have h238 : a.eval (.tmp 238) = .bool false := hn.1
                          clear hn
                          refine wants_plain rfl ?_
                          exact grown_move (.tmp 238) rfl h238
                        refine steps_cons (fun a w hk hn => ?_) ?_
                        · have h25 : a.eval (.tmp 25) = .bool false := hn.1
                          have h239 : a.eval (.tmp 239) = .bool false := hn.2.1
                          clear hn
                          refine wants_guard (d := 239) rfl rfl h239 ?_
                          exact grown_move (.tmp 25) rfl h25
                        refine steps_cons (fun a w hk hn => ?_) ?_
                        · have h240 : a.eval (.tmp 240) = .bool false := hn.1
                          have h239 : a.eval (.tmp 239) = .bool false := hn.2.1
                          clear hn
                          refine wants_guard (d := 239) rfl rfl h239 ?_
                          exact grown_move (.tmp 240) rfl h240
                        refine steps_cons (fun a w hk hn => ?_) ?_
                        · have h23 : a.eval (.tmp 23) = .pointer (some ⟨ga, 0, none⟩) := hn.1
                          have h241 : a.eval (.tmp 241) = .bool false := hn.2.1
                          clear hn
                          exact wants_not (d := 241) rfl rfl h241 rfl
                        refine steps_cons (fun a w hk hn => ?_) ?_
                        · have h242 : a.eval (.tmp 242) = undef := hn.1
                          have h241 : a.eval (.tmp 241) = .bool false := hn.2.1
                          clear hn
                          exact wants_not (d := 241) rfl rfl h241 rfl
                        refine steps_cons (fun a w hk hn => ?_) ?_
                        · have h243 : a.eval (.tmp 243) = undef := hn.1
                          have h241 : a.eval (.tmp 241) = .bool false := hn.2.1
                          clear hn
                          exact wants_not (d := 241) rfl rfl h241 rfl
                        refine steps_cons (fun a w hk hn => ?_) ?_
                        · have h241 : a.eval (.tmp 241) = .bool false := hn.1
                          have h244 : a.eval (.tmp 244) = undef := hn.2.1
                          have h239 : a.eval (.tmp 239) = .bool false := hn.2.2.1
                          clear hn
                          refine wants_guard (d := 239) rfl rfl h239 ?_
                          exact grown_pick _ _ _ false rfl h241 rfl
                        refine steps_cons (fun a w hk hn => ?_) ?_
                        · have h239 : a.eval (.tmp 239) = .bool false := hn.1
                          have h245 : a.eval (.tmp 245) = .bool false := hn.2.1
                          clear hn
                          refine wants_plain rfl ?_
                          exact grown_pick _ _ _ false rfl h239 h245
                        refine steps_cons (fun a w hk hn => ?_) ?_
                        · have h246 : a.eval (.tmp 246) = .bool false := hn.1
                          clear hn
                          refine wants_plain rfl ?_
                          exact grown_move (.tmp 246) rfl h246
                        refine steps_cons (fun a w hk hn => ?_) ?_
                        · have h25 : a.eval (.tmp 25) = .bool false := hn.1
                          have h247 : a.eval (.tmp 247) = .bool false := hn.2.1
                          clear hn
                          refine wants_guard (d := 247) rfl rfl h247 ?_
                          exact grown_move (.tmp 25) rfl h25
                        refine steps_cons (fun a w hk hn => ?_) ?_
                        · have h248 : a.eval (.tmp 248) = .bool false := hn.1
                          have h247 : a.eval (.tmp 247) = .bool false := hn.2.1
                          clear hn
                          refine wants_guard (d := 247) rfl rfl h247 ?_
                          refine grown_run (v := .bool true) ?_ (Kp.refl _ _) rfl
                          obtain ⟨ρ, hρ, hc, hf, hg⟩ := eval_is a
                          rw [hρ] at h248 ⊢
                          simp [go_sem, h248]
                        refine steps_cons (fun a w hk hn => ?_) ?_
                        · have h249 : a.eval (.tmp 249) = .bool true := hn.1
                          have h247 : a.eval (.tmp 247) = .bool false := hn.2.1
                          clear hn
                          refine wants_guard (d := 247) rfl rfl h247 ?_
                          exact grown_move (.tmp 249) rfl h249
                        refine steps_cons (fun a w hk hn => ?_) ?_
                        · have h23 : a.eval (.tmp 23) = .pointer (some ⟨ga, 0, none⟩) := hn.1
                          have h250 : a.eval (.tmp 250) = .bool true := hn.2.1
                          clear hn
                          refine wants_guard (d := 250) rfl rfl h250 ?_
                          refine grown_run (v := .pointer (some ⟨ga, 0, none⟩)) ?_ (Kp.refl _ _) rfl
                          obtain ⟨ρ, hρ, hc, hf, hg⟩ := eval_is a
                          rw [hρ] at h23 ⊢
                          simp [go_sem, h23]
                        refine steps_cons (fun a w hk hn => ?_) ?_
                        · have h251 : a.eval (.tmp 251) = .pointer (some ⟨ga, 0, none⟩) := hn.1
                          have h250 : a.eval (.tmp 250) = .bool true := hn.2.1
                          clear hn
                          refine wants_guard (d := 250) rfl rfl h250 ?_
                          refine grown_run (v := .int .i64 1) ?_ (Kp.refl _ _) rfl
                          have hcell : w.cell? ⟨ga, 0, none⟩ = some (.int .i64 1) := by rw [cell_of_row w ga 0 _ _ _ (HAc.out w hk)]; rfl
                          obtain ⟨ρ, hρ, hc, hf, hg⟩ := eval_is a
                          rw [hρ] at h251 ⊢
                          simp [go_sem, h251, hcell]
                        refine steps_cons (fun a w hk hn => ?_) ?_
                        · have h252 : a.eval (.tmp 252) = .int .i64 1 := hn.1
                          have h250 : a.eval (.tmp 250) = .bool true := hn.2.1
                          clear hn
                          refine wants_guard (d := 250) rfl rfl h250 ?_
                          refine grown_run (v := .bool false) ?_ (Kp.refl _ _) rfl
                          obtain ⟨ρ, hρ, hc, hf, hg⟩ := eval_is a
                          rw [hρ] at h252 ⊢
                          simp [go_sem, hc, h252]
                        refine steps_cons (fun a w hk hn => ?_) ?_
                        · have h253 : a.eval (.tmp 253) = .bool false := hn.1
                          have h250 : a.eval (.tmp 250) = .bool true := hn.2.1
                          clear hn
                          refine wants_guard (d := 250) rfl rfl h250 ?_
                          exact grown_move (.tmp 253) rfl h253
                        refine steps_cons (fun a w hk hn => ?_) ?_
                        · have h23 : a.eval (.tmp 23) = .pointer (some ⟨ga, 0, none⟩) := hn.1
                          have h254 : a.eval (.tmp 254) = .bool false := hn.2.1
                          clear hn
                          refine wants_guard (d := 254) rfl rfl h254 ?_
                          refine grown_run (v := .pointer (some ⟨ga, 1, none⟩)) ?_ (Kp.refl _ _) rfl
                          obtain ⟨ρ, hρ, hc, hf, hg⟩ := eval_is a
                          rw [hρ] at h23 ⊢
                          simp [go_sem, h23]
                        refine steps_cons (fun a w hk hn => ?_) ?_
                        · have h255 : a.eval (.tmp 255) = .pointer (some ⟨ga, 1, none⟩) := hn.1
                          have h254 : a.eval (.tmp 254) = .bool false := hn.2.1
                          clear hn
                          refine wants_guard (d := 254) rfl rfl h254 ?_
                          refine grown_run (v := .int .i64 (j : Int)) ?_ (Kp.refl _ _) rfl
                          have hcell : w.cell? ⟨ga, 1, none⟩ = some (.int .i64 (j : Int)) := by rw [cell_of_row w ga 1 _ _ _ (HAc.out w hk)]; rfl
                          obtain ⟨ρ, hρ, hc, hf, hg⟩ := eval_is a
                          rw [hρ] at h255 ⊢
                          simp [go_sem, h255, hcell]
                        refine steps_cons (fun a w hk hn => ?_) ?_
                        · have h20 : a.eval (.tmp 20) = .int .i64 (j : Int) := hn.1
                          have h254 : a.eval (.tmp 254) = .bool false := hn.2.1
                          clear hn
                          refine wants_guard (d := 254) rfl rfl h254 ?_
                          exact grown_move (.tmp 20) rfl h20
                        refine steps_cons (fun a w hk hn => ?_) ?_
                        · have h256 : a.eval (.tmp 256) = .int .i64 (j : Int) := hn.1
                          have h257 : a.eval (.tmp 257) = .int .i64 (j : Int) := hn.2.1
                          have h254 : a.eval (.tmp 254) = .bool false := hn.2.2.1
                          clear hn
                          refine wants_guard (d := 254) rfl rfl h254 ?_
                          refine grown_run (v := .bool false) ?_ (Kp.refl _ _) rfl
                          obtain ⟨ρ, hρ, hc, hf, hg⟩ := eval_is a
                          rw [hρ] at h256 h257 ⊢
                          simp [go_sem, h256, h257]
                        refine steps_cons (fun a w hk hn => ?_) ?_
                        · have h254 : a.eval (.tmp 254) = .bool false := hn.1
                          have h258 : a.eval (.tmp 258) = .bool false := hn.2.1
                          have h250 : a.eval (.tmp 250) = .bool true := hn.2.2.1
                          clear hn
                          refine wants_guard (d := 250) rfl rfl h250 ?_
                          exact grown_pick _ _ _ false rfl h254 h258
                        refine steps_cons (fun a w hk hn => ?_) ?_
                        · have h250 : a.eval (.tmp 250) = .bool true := hn.1
                          have h259 : a.eval (.tmp 259) = .bool false := hn.2.1
                          have h247 : a.eval (.tmp 247) = .bool false := hn.2.2.1
                          clear hn
                          refine wants_guard (d := 247) rfl rfl h247 ?_
                          exact grown_pick _ _ _ true rfl h250 h259
                        refine steps_cons (fun a w hk hn => ?_) ?_
                        · have h247 : a.eval (.tmp 247) = .bool false := hn.1
                          have h260 : a.eval (.tmp 260) = .bool false := hn.2.1
                          clear hn
                          refine wants_plain rfl ?_
                          exact grown_pick _ _ _ false rfl h247 h260
                        exact trivial
                      intro W1 hkW1
                      rintro _ rfl
                      rintro _ rfl
                      rintro _ rfl
                      rintro _ rfl
                      rintro _ rfl
                      rintro _ rfl
                      rintro _ rfl
                      rintro _ rfl
                      rintro _ rfl
                      rintro _ rfl
                      rintro _ rfl
                      rintro _ rfl
                      rintro _ rfl
                      rintro _ rfl
                      rintro _ rfl
                      rintro _ rfl
                      rintro _ rfl
                      rintro _ rfl
                      rintro _ rfl
                      rintro _ rfl
                      rintro _ rfl
                      rintro _ rfl
                      rintro _ rfl
                      rintro _ rfl
                      rintro _ rfl
                      rintro _ rfl
                      rintro _ rfl
                      rintro _ rfl
                      rintro _ rfl
                      rintro _ rfl
                      rintro _ rfl
                      rintro _ rfl
                      rintro _ rfl
                      rintro _ rfl
                      rintro _ rfl
                      refine fin_nil ?_
                      simp only [Act.put, List.set_cons_zero, List.set_cons_succ, List.setIfInBounds_toArray]
                      have HKf := hide ((kp_drew w14).trans hkW1)
                      clear hkW1 HAc HGc HSx HSv
                      go_wp2_with fail
                      go_roundw
                      case rel => exact ⟨j + 1, by omega, by go_num, g12, HB14.out.on HKf.out, HS14.out.on HKf.out⟩
                      case measure => simp [intOf]; omega
                  · have hnjm : ¬ (j : Int) < (mg : Int) := by omega
                    have HKn := hide (fknown_any wr)
                    have HKw := hide (HKB.out.trans HB.out.kp)
                    clear HB HS
                    go_wp2_with fail
                    refine HKn.out.mono ?_
                    rintro ee w15 ⟨rfl, K15⟩
                    have HK15 := hide (HKw.out.trans K15)
                    clear HKn K15
                    go_wp2_with fail
                    go_ret
                    exact ⟨rfl, HK15.out.below (Nat.le_refl _) (by simp)⟩
set_option maxRecDepth 100000 in
theorem lifted (os : Os) (started : os.Started) (H : Type) (enc : TypeId × Value → H) :
    ReturnsInHanded {} Tryz.checked os 5 .any (Rows.frontKeepsSpec.pre6 enc Tryz.prog Tryz.f5 Rows.frontKeepsRow.domain false) (Rows.frontKeepsSpec.post enc Tryz.prog Tryz.f5 false true false false) := by
  refine returnsInHanded_of_change (C := Tryz.checked) own started (by kernel_rfl) Tryz.func5
    (ChangeSpec.witness6 (enc := enc) (C := Tryz.checked) false ⟨#[], #[.slice none 0 0, .agg #[.int .i64 0, .int .i64 0, .int .i64 0], .agg #[.int .i64 0, .int .i64 0, .int .i64 0]], []⟩ 8 (by kernel_rfl) (by kernel_rfl) (by kernel_rfl) (by kernel_rfl)) ?_
  intro W base args ds gs before hval0 hW hcnd _
  have hval : ∀ (j : Nat) t v, Tryz.f5.params[j]? = some t → args[j]? = some v → Value.okWide Tryz.prog W .any base t v := hval0
  have hW' := hW
  obtain ⟨p, q, hA0, hV, rfl, hfz, hnd⟩ := hW
  have hA : DataW.TrodAll enc Tryz.prog W 0 (fun _ => true) true Tryz.f5.params.toList args.toList ds p := hA0
  rw [Tryz.params5] at hA hval
  obtain ⟨v0, vs0, d0, ds0, p0, q0, hargs, rfl, rfl, h0, r0⟩ := trodAll_cons hA
  obtain ⟨v1, vs1, d1, ds1, p1, q1, rfl, rfl, rfl, h1, r1⟩ := trodAll_cons r0
  obtain ⟨v2, vs2, d2, ds2, p2, q2, rfl, rfl, rfl, h2, r2⟩ := trodAll_cons r1
  obtain ⟨rfl, rfl, rfl⟩ := trodAll_nil r2
  obtain rfl : args = #[v0, v1, v2] := by cases args; simp_all
  obtain ⟨rfl, rfl⟩ := trodVars_none hV
  obtain ⟨a0, len0, cap0, rfl⟩ := okWide_slice Tryz.underlying37 (hval 0 37 v0 rfl rfl)
  have k0 := h0
  have lt0 : ∀ x ∈ p0, x.block < W.heap.size := by obtain ⟨m, hm⟩ := k0; exact DataW.trod_lt m _ _ _ hm
  obtain ⟨l0, s0⟩ : ∃ l, AskF W (.slice a0 len0 cap0) l := by
    obtain ⟨fuel, hf⟩ := h0
    exact askF_of_trod (by simpa [Value.cells] using hf)
  have k1 := h1
  have lt1 : ∀ x ∈ p1, x.block < W.heap.size := by obtain ⟨m, hm⟩ := k1; exact DataW.trod_lt m _ _ _ hm
  have s1 := arr3_open (hval 1 43 v1 rfl rfl) h1
  have k2 := h2
  have lt2 : ∀ x ∈ p2, x.block < W.heap.size := by obtain ⟨m, hm⟩ := k2; exact DataW.trod_lt m _ _ _ hm
  have s2 := arr3_open (hval 2 43 v2 rfl rfl) h2
  clear hA0 hval0
  refine (walk (.slice a0 len0 cap0) l0 v1 v2 W s0 s1 s2).mono fun e W' ⟨he, bel⟩ => ?_
  subst he
  exact ⟨_, rfl, _, _, _, [], _, [], hW', trodAll_mk1 (shut_bool Tryz.underlying4 _), (trodAll_cons_mk (Below.trod laidOut (by kernel_rfl) (of_decide_eq_true (by kernel_rfl)) k0 bel lt0) (trodAll_cons_mk (Below.trod laidOut (by kernel_rfl) (of_decide_eq_true (by kernel_rfl)) k1 bel lt1) (trodAll_cons_mk (Below.trod laidOut (by kernel_rfl) (of_decide_eq_true (by kernel_rfl)) k2 bel lt2) trodAll_mk0))), rfl, bel.frame _, fun h => by cases h⟩
theorem over : Rows.frontKeepsRow.holds Tryz.pinned (OpenSpec.ofChange Rows.frontKeepsSpec) :=
  OpenClaim.holds_of_wide 5 Tryz.f5 rfl rfl rfl rfl rfl rfl rfl ⟨rfl, rfl, rfl, rfl, rfl⟩ rfl rfl rfl rfl rfl (by kernel_rfl) Tryz.func5 (by kernel_rfl)
    (of_decide_eq_true (by kernel_rfl)) (by unfold Func.isWrapper; first | (rw [if_pos (by decide +kernel)]; kernel_rfl) | (rw [if_neg (by decide +kernel)]; exact ⟨rfl, rfl⟩))
    (fun os started H enc _ => lifted os started H enc)
end Go.Proofs.YteabdojjllfcpaaGreat.frontKeeps
namespace Go.Proofs.YteabdojjllfcpaaGreat
/-- The given statement. -/
theorem FrontKeeps_holds : Rows.FrontKeepsSaid := frontKeeps.over
#print axioms FrontKeeps_holds
end Go.Proofs.YteabdojjllfcpaaGreat
