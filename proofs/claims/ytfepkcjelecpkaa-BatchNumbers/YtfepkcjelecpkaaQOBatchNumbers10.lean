/-
  BatchNumbers: a closed sentence: chapter 16's runs, numbers at each bound.
-/
import Derived.Test.YtfepkcjelecpkaaQOBatchNumbers9
namespace Go.Proofs.Ytfepkcjelecpkaa.batchNumbers
open Go.ChangeShapes Go.WideShapes Go.ChangeAt Go.RowKit
open Go.Proofs.Ytfepkcjelecpkaa
set_option linter.unusedVariables false
theorem own : ownKnob Try.prog.godebug = none := by kernel_rfl
theorem int_cells {w : World} {g : Nat} {l : List Int} (h : w.heap[g]? = some (.cells (l.map (Value.int .i64)).toArray 3 (0, 0))) (i : Nat) (hi : i < l.length) : w.cell? ⟨g, i, none⟩ = some (.int .i64 l[i]) := by
  rw [cell_of_row w g i _ _ _ h]
  simp [List.getElem?_eq_getElem hi]
/-- what New tells: a queue; a pointer that is not nil. -/
def NpT : Tell := fun v w => ∃ p : Nat, v = .tuple #[.pointer (some ⟨p, 0, none⟩), .int .i64 0]
theorem stable_np : Tell.stable NpT := fun _ _ _ _ h => h
def PtrT : Tell := fun v w => ∃ p : Nat, v = .pointer (some ⟨p, 0, none⟩)
theorem stable_ptr : Tell.stable PtrT := fun _ _ _ _ h => h
theorem grown_np0 {o : Oper} {a : Act} {w : World} (x : Operand) (ho : o.op = .extract x 0) (h : NpT (a.eval x) w) : grown Try.prog w PtrT ((execOp a.eval o).run Try.prog w) := by
  obtain ⟨p, hp⟩ := h
  refine grown_run (v := .pointer (some ⟨p, 0, none⟩)) ?_ (Kp.refl _ _) ⟨p, rfl⟩
  obtain ⟨ρ, hρ, _⟩ := eval_is a
  rw [hρ] at hp ⊢
  unfold execOp
  simp only [ho]
  simp [go_sem, hp]
theorem grown_np1 {o : Oper} {a : Act} {w : World} (x : Operand) (ho : o.op = .extract x 1) (h : NpT (a.eval x) w) : grown Try.prog w (Is (.int .i64 0)) ((execOp a.eval o).run Try.prog w) := by
  obtain ⟨p, hp⟩ := h
  refine grown_run (v := .int .i64 0) ?_ (Kp.refl _ _) rfl
  obtain ⟨ρ, hρ, _⟩ := eval_is a
  rw [hρ] at hp ⊢
  unfold execOp
  simp only [ho]
  simp [go_sem, hp]
/-- the numbers that are tried. -/
def triedN : List Int := [-1, 0, 1, 8, 9, 16, 17, 1000, 1001]
theorem tried_bd : ∀ x ∈ triedN, -1 ≤ x ∧ x ≤ 1001 := by decide
set_option maxHeartbeats 8000000 in
set_option maxRecDepth 100000 in
theorem walk (w : World) :
    Calls Try.prog 3 #[] w fun e w' => e = .returned (.bool true) ∧ Below w.heap.size w w' := by
  have HG0 : Hid ((w.alloc (.cells (triedN.map (Value.int .i64)).toArray 3)).heap[w.heap.size]? = some (.cells (triedN.map (Value.int .i64)).toArray 3 (0, 0))) := heap_alloc_new w _
  have HK0 := hide ((Kp.refl [] w).alloc (.cells (triedN.map (Value.int .i64)).toArray 3))
  have e0 : (triedN.map (Value.int .i64)).toArray = #[.int .i64 (-1), .int .i64 0, .int .i64 1, .int .i64 8, .int .i64 9, .int .i64 16, .int .i64 17, .int .i64 1000, .int .i64 1001] := rfl
  rw [e0] at HG0 HK0
  obtain ⟨w1, hw1⟩ : ∃ w1, w1 = w.alloc (.cells #[.int .i64 (-1), .int .i64 0, .int .i64 1, .int .i64 8, .int .i64 9, .int .i64 16, .int .i64 17, .int .i64 1000, .int .i64 1001] 3) := ⟨_, rfl⟩
  obtain ⟨g0, hg0⟩ : ∃ g0, g0 = w.heap.size := ⟨_, rfl⟩
  go_enter Try.func3, Try.ntmps3
  clear e0
  rw [← hw1, ← hg0] at HG0
  rw [← hw1] at HK0
  have HW1 := hide hw1
  have HGG := hide hg0
  clear hw1 hg0
  go_wp2_with fail
  rw [← HW1.out, ← HGG.out]
  have HNS : Hid (∀ w', Kp [] w1 w' → ∀ i, i < 9 → ∃ x, w'.cell? ⟨g0, i, none⟩ = some (.int .i64 x) ∧ -1 ≤ x ∧ x ≤ 1001) := fun w' k' i hi => by
    have h9 : i < triedN.length := by simpa [triedN] using hi
    have hb := tried_bd triedN[i] (List.getElem_mem h9)
    exact ⟨_, int_cells (k'.heap (by rw [show (triedN.map (Value.int .i64)).toArray = #[.int .i64 (-1), .int .i64 0, .int .i64 1, .int .i64 8, .int .i64 9, .int .i64 16, .int .i64 17, .int .i64 1000, .int .i64 1001] from rfl]; exact HG0.out) (by simp)) i h9, hb⟩
  clear HG0 HW1 HGG
  go_loopw [12] (fun i wr => ∃ k : Nat, k ≤ 9 ∧ i = .int .i64 k ∧ Kp [] w1 wr) (fun i _ => 9 - (intOf i).toNat)
  case atStart => exact ⟨0, by omega, rfl, Kp.refl _ _⟩
  case round =>
    obtain ⟨k, hk, rfl, KR⟩ := hrel
    have HKR := hide KR
    clear KR
    by_cases hlt : k < 9
    · have hlt' : (k : Int) < 9 := by omega
      obtain ⟨x, c0, hx0, hx1⟩ := HNS.out wr HKR.out k hlt
      go_wp2_with fail
      go_loopw [3] (fun j wq => ∃ m : Nat, m ≤ 3 ∧ j = .int .i64 m ∧ Kp [] w1 wq) (fun j _ => 3 - (intOf j).toNat)
      case atStart => exact ⟨0, by omega, rfl, HKR.out⟩
      case round =>
        obtain ⟨m, hm, rfl, KQ⟩ := hrel
        have HKQ := hide KQ
        clear KQ HKR
        by_cases hml : m < 3
        · have hml' : (m : Int) < 3 := by omega
          obtain ⟨A, hA⟩ : ∃ A, A = ([Value.int .i64 4, .int .i64 4, .int .i64 4].set m (.int .i64 x)).toArray := ⟨_, rfl⟩
          have hB : (wr.alloc (.cells A 3)).heap[wr.heap.size]? = some (.cells A 3 (0, 0)) := heap_alloc_new wr _
          have HKS := hide (HKQ.out.alloc (.cells A 3))
          obtain ⟨x0, x1, x2, hxs, d0, d1, d2⟩ : ∃ x0 x1 x2 : Int, ((x0 = x ∧ x1 = 4 ∧ x2 = 4) ∨ (x0 = 4 ∧ x1 = x ∧ x2 = 4) ∨ (x0 = 4 ∧ x1 = 4 ∧ x2 = x)) ∧ (wr.alloc (.cells A 3)).cell? ⟨wr.heap.size, 0, none⟩ = some (.int .i64 x0) ∧ (wr.alloc (.cells A 3)).cell? ⟨wr.heap.size, 1, none⟩ = some (.int .i64 x1) ∧ (wr.alloc (.cells A 3)).cell? ⟨wr.heap.size, 2, none⟩ = some (.int .i64 x2) := by
            have cc := fun i => cell_of_row (wr.alloc (.cells A 3)) wr.heap.size i _ _ _ hB
            rcases (by omega : m = 0 ∨ m = 1 ∨ m = 2) with h | h | h
            · subst h; exact ⟨x, 4, 4, .inl ⟨rfl, rfl, rfl⟩, by rw [cc, hA]; rfl, by rw [cc, hA]; rfl, by rw [cc, hA]; rfl⟩
            · subst h; exact ⟨4, x, 4, .inr (.inl ⟨rfl, rfl, rfl⟩), by rw [cc, hA]; rfl, by rw [cc, hA]; rfl, by rw [cc, hA]; rfl⟩
            · subst h; exact ⟨4, 4, x, .inr (.inr ⟨rfl, rfl, rfl⟩), by rw [cc, hA]; rfl, by rw [cc, hA]; rfl, by rw [cc, hA]; rfl⟩
          obtain ⟨W2, hW2⟩ : ∃ W2, W2 = wr.alloc (.cells A 3) := ⟨_, rfl⟩
          obtain ⟨g2, hg2⟩ : ∃ g2, g2 = wr.heap.size := ⟨_, rfl⟩
          have HW2 := hide hW2
          have HG2 := hide hg2
          have HA := hide hA
          have HXS := hide hxs
          rw [← hW2, ← hg2] at d0 d1 d2
          rw [← hW2] at HKS
          clear hA hB hW2 hxs hg2
          go_wp2_with fail
          rw [← HA.out, ← HW2.out, ← HG2.out]
          clear HA HW2 HG2
          have HD0 : Hid (∀ w', Kp [] W2.drew w' → w'.cell? ⟨g2, 0, none⟩ = some (.int .i64 x0)) := fun w' k' => ((kp_drew W2).trans k').cell d0 (by simp)
          have HD1 : Hid (∀ w', Kp [] W2.drew w' → w'.cell? ⟨g2, 1, none⟩ = some (.int .i64 x1)) := fun w' k' => ((kp_drew W2).trans k').cell d1 (by simp)
          have HD2 : Hid (∀ w', Kp [] W2.drew w' → w'.cell? ⟨g2, 2, none⟩ = some (.int .i64 x2)) := fun w' k' => ((kp_drew W2).trans k').cell d2 (by simp)
          clear d0 d1 d2
          by_cases hok : 1 ≤ x0 ∧ x0 ≤ 16 ∧ 1 ≤ x1 ∧ x1 ≤ 8 ∧ 0 ≤ x2 ∧ x2 ≤ 1000
          · obtain ⟨o1, o2, o3, o4, o5, o6⟩ := hok
            have HNN := hide (fun w' => nb_new x0 x1 x2 w' o1 o2 o3 o4 o5 o6)
            refine region_grow Try.mixed [Is (.slice (some ⟨g2, 0, none⟩) 3 3), Is (.pointer (some ⟨g2, 0, none⟩)), Is (.int .i64 x0), Is (.slice (some ⟨g2, 0, none⟩) 3 3), Is (.pointer (some ⟨g2, 1, none⟩)), Is (.int .i64 x1), Is (.slice (some ⟨g2, 0, none⟩) 3 3), Is (.pointer (some ⟨g2, 2, none⟩)), Is (.int .i64 x2), NpT, NpT, PtrT, Is (.int .i64 0), PtrT, Is (.int .i64 0)] [[(4, none)], [(26, some 0)], [(27, some 1)], [(4, none)], [(29, some 3)], [(30, some 4)], [(4, none)], [(32, some 6)], [(33, some 7)], [(28, some 2), (31, some 5), (34, some 8)], [(35, some 9)], [(25, some 10)], [(25, some 10)], [(36, some 11)], [(37, some 12)]] (by kernel_rfl) ?_ ?_ ?_
            · simp only [List.mem_cons, List.not_mem_nil, or_false]
              intro R hR
              rcases hR with rfl | rfl | rfl | rfl | rfl | rfl | rfl | rfl | rfl | rfl | rfl | rfl | rfl | rfl | rfl <;> first | exact stable_is _ | exact stable_np | exact stable_ptr
            · refine steps_cons (fun a w hk hn => ?_) ?_
              · have h4 : a.eval (.tmp 4) = .slice (some ⟨g2, 0, none⟩) 3 3 := hn.1
                clear hn
                refine wants_plain rfl ?_
                exact grown_move (.tmp 4) rfl h4
              refine steps_cons (fun a w hk hn => ?_) ?_
              · have h26 : a.eval (.tmp 26) = .slice (some ⟨g2, 0, none⟩) 3 3 := hn.1
                clear hn
                refine wants_plain rfl ?_
                refine grown_run (v := .pointer (some ⟨g2, 0, none⟩)) ?_ (Kp.refl _ _) rfl
                obtain ⟨ρ, hρ, hc, hf, hg⟩ := eval_is a
                rw [hρ] at h26 ⊢
                simp [go_sem, hc, h26]
              refine steps_cons (fun a w hk hn => ?_) ?_
              · have h27 : a.eval (.tmp 27) = .pointer (some ⟨g2, 0, none⟩) := hn.1
                clear hn
                refine wants_plain rfl ?_
                refine grown_run (v := .int .i64 x0) ?_ (Kp.refl _ _) rfl
                have hcell := unhide HD0 w hk
                obtain ⟨ρ, hρ, hc, hf, hg⟩ := eval_is a
                rw [hρ] at h27 ⊢
                simp [go_sem, h27, hcell]
              refine steps_cons (fun a w hk hn => ?_) ?_
              · have h4 : a.eval (.tmp 4) = .slice (some ⟨g2, 0, none⟩) 3 3 := hn.1
                clear hn
                refine wants_plain rfl ?_
                exact grown_move (.tmp 4) rfl h4
              refine steps_cons (fun a w hk hn => ?_) ?_
              · have h29 : a.eval (.tmp 29) = .slice (some ⟨g2, 0, none⟩) 3 3 := hn.1
                clear hn
                refine wants_plain rfl ?_
                refine grown_run (v := .pointer (some ⟨g2, 1, none⟩)) ?_ (Kp.refl _ _) rfl
                obtain ⟨ρ, hρ, hc, hf, hg⟩ := eval_is a
                rw [hρ] at h29 ⊢
                simp [go_sem, hc, h29]
              refine steps_cons (fun a w hk hn => ?_) ?_
              · have h30 : a.eval (.tmp 30) = .pointer (some ⟨g2, 1, none⟩) := hn.1
                clear hn
                refine wants_plain rfl ?_
                refine grown_run (v := .int .i64 x1) ?_ (Kp.refl _ _) rfl
                have hcell := unhide HD1 w hk
                obtain ⟨ρ, hρ, hc, hf, hg⟩ := eval_is a
                rw [hρ] at h30 ⊢
                simp [go_sem, h30, hcell]
              refine steps_cons (fun a w hk hn => ?_) ?_
              · have h4 : a.eval (.tmp 4) = .slice (some ⟨g2, 0, none⟩) 3 3 := hn.1
                clear hn
                refine wants_plain rfl ?_
                exact grown_move (.tmp 4) rfl h4
              refine steps_cons (fun a w hk hn => ?_) ?_
              · have h32 : a.eval (.tmp 32) = .slice (some ⟨g2, 0, none⟩) 3 3 := hn.1
                clear hn
                refine wants_plain rfl ?_
                refine grown_run (v := .pointer (some ⟨g2, 2, none⟩)) ?_ (Kp.refl _ _) rfl
                obtain ⟨ρ, hρ, hc, hf, hg⟩ := eval_is a
                rw [hρ] at h32 ⊢
                simp [go_sem, hc, h32]
              refine steps_cons (fun a w hk hn => ?_) ?_
              · have h33 : a.eval (.tmp 33) = .pointer (some ⟨g2, 2, none⟩) := hn.1
                clear hn
                refine wants_plain rfl ?_
                refine grown_run (v := .int .i64 x2) ?_ (Kp.refl _ _) rfl
                have hcell := unhide HD2 w hk
                obtain ⟨ρ, hρ, hc, hf, hg⟩ := eval_is a
                rw [hρ] at h33 ⊢
                simp [go_sem, h33, hcell]
              refine steps_cons (fun a w hk hn => ?_) ?_
              · have h28 : a.eval (.tmp 28) = .int .i64 x0 := hn.1
                have h31 : a.eval (.tmp 31) = .int .i64 x1 := hn.2.1
                have h34 : a.eval (.tmp 34) = .int .i64 x2 := hn.2.2.1
                clear hn
                refine wants_plain rfl ?_
                refine grown_call (f := 8) rfl Try.func8 (by kernel_rfl) (by kernel_rfl) ?_
                simp only [List.map_toArray, List.map_cons, List.map_nil, h28, h31, h34]
                refine (unhide HNN w).mono ?_
                rintro e w' ⟨p, rfl, N⟩
                exact ⟨_, rfl, N.kp, p, rfl⟩
              refine steps_cons (fun a w hk hn => ?_) ?_
              · have h35 : (NpT) (a.eval (.tmp 35)) w := hn.1
                clear hn
                refine wants_plain rfl ?_
                exact grown_move (.tmp 35) rfl h35
              refine steps_cons (fun a w hk hn => ?_) ?_
              · have h25 : (NpT) (a.eval (.tmp 25)) w := hn.1
                clear hn
                refine wants_plain rfl ?_
                exact grown_np0 (.tmp 25) rfl h25
              refine steps_cons (fun a w hk hn => ?_) ?_
              · have h25 : (NpT) (a.eval (.tmp 25)) w := hn.1
                clear hn
                refine wants_plain rfl ?_
                exact grown_np1 (.tmp 25) rfl h25
              refine steps_cons (fun a w hk hn => ?_) ?_
              · have h36 : (PtrT) (a.eval (.tmp 36)) w := hn.1
                clear hn
                refine wants_plain rfl ?_
                exact grown_assign (.tmp 36) rfl h36
              refine steps_cons (fun a w hk hn => ?_) ?_
              · have h37 : a.eval (.tmp 37) = .int .i64 0 := hn.1
                clear hn
                refine wants_plain rfl ?_
                exact grown_assign (.tmp 37) rfl h37
              exact trivial
            intro W1 hkW1
            rintro _ rfl
            rintro _ rfl
            rintro _ rfl
            rintro _ rfl
            rintro _ rfl
            rintro _ rfl
            rintro _ rfl
            rintro _ rfl
            rintro _ rfl
            intro v35 h35
            intro v25 h25
            intro v36 h36
            rintro _ rfl
            intro v5 h5
            rintro _ rfl
            refine fin_nil ?_
            simp only [Act.put, List.set_cons_zero, List.set_cons_succ, List.setIfInBounds_toArray]
            obtain ⟨p5, rfl⟩ := h5
            clear h35 h25 h36
            have f0 := HD0.out W1 hkW1
            have f1 := HD1.out W1 hkW1
            have f2 := HD2.out W1 hkW1
            have HK3 := hide ((HKS.out.drew).trans hkW1)
            clear hkW1 HD0 HD1 HD2 HNN HKS
            go_wp2_with fail
            go_roundw
            case rel => exact ⟨m + 1, by omega, by go_num, HK3.out⟩
            case measure => simp [intOf]; omega
          · have HNN := hide (fun w' => bnew_no x0 x1 x2 w' (by omega))
            have hno : x0 < 1 ∨ (1 ≤ x0 ∧ 16 < x0) ∨ (1 ≤ x0 ∧ x0 ≤ 16 ∧ x1 < 1) ∨ (1 ≤ x0 ∧ x0 ≤ 16 ∧ 1 ≤ x1 ∧ 8 < x1) ∨ (1 ≤ x0 ∧ x0 ≤ 16 ∧ 1 ≤ x1 ∧ x1 ≤ 8 ∧ x2 < 0) ∨ (1 ≤ x0 ∧ x0 ≤ 16 ∧ 1 ≤ x1 ∧ x1 ≤ 8 ∧ 0 ≤ x2 ∧ 1000 < x2) := by omega
            clear hok
            refine region_grow Try.mixed [Is (.slice (some ⟨g2, 0, none⟩) 3 3), Is (.pointer (some ⟨g2, 0, none⟩)), Is (.int .i64 x0), Is (.slice (some ⟨g2, 0, none⟩) 3 3), Is (.pointer (some ⟨g2, 1, none⟩)), Is (.int .i64 x1), Is (.slice (some ⟨g2, 0, none⟩) 3 3), Is (.pointer (some ⟨g2, 2, none⟩)), Is (.int .i64 x2), Is (.tuple #[.pointer none, .int .i64 1]), Is (.tuple #[.pointer none, .int .i64 1]), Is (.pointer none), Is (.int .i64 1), Is (.pointer none), Is (.int .i64 1)] [[(4, none)], [(26, some 0)], [(27, some 1)], [(4, none)], [(29, some 3)], [(30, some 4)], [(4, none)], [(32, some 6)], [(33, some 7)], [(28, some 2), (31, some 5), (34, some 8)], [(35, some 9)], [(25, some 10)], [(25, some 10)], [(36, some 11)], [(37, some 12)]] (by kernel_rfl) ?_ ?_ ?_
            · simp only [List.mem_cons, List.not_mem_nil, or_false]
              intro R hR
              rcases hR with rfl | rfl | rfl | rfl | rfl | rfl | rfl | rfl | rfl | rfl | rfl | rfl | rfl | rfl | rfl <;> first | exact stable_is _
            · refine steps_cons (fun a w hk hn => ?_) ?_
              · have h4 : a.eval (.tmp 4) = .slice (some ⟨g2, 0, none⟩) 3 3 := hn.1
                clear hn
                refine wants_plain rfl ?_
                exact grown_move (.tmp 4) rfl h4
              refine steps_cons (fun a w hk hn => ?_) ?_
              · have h26 : a.eval (.tmp 26) = .slice (some ⟨g2, 0, none⟩) 3 3 := hn.1
                clear hn
                refine wants_plain rfl ?_
                refine grown_run (v := .pointer (some ⟨g2, 0, none⟩)) ?_ (Kp.refl _ _) rfl
                obtain ⟨ρ, hρ, hc, hf, hg⟩ := eval_is a
                rw [hρ] at h26 ⊢
                simp [go_sem, hc, h26]
              refine steps_cons (fun a w hk hn => ?_) ?_
              · have h27 : a.eval (.tmp 27) = .pointer (some ⟨g2, 0, none⟩) := hn.1
                clear hn
                refine wants_plain rfl ?_
                refine grown_run (v := .int .i64 x0) ?_ (Kp.refl _ _) rfl
                have hcell := unhide HD0 w hk
                obtain ⟨ρ, hρ, hc, hf, hg⟩ := eval_is a
                rw [hρ] at h27 ⊢
                simp [go_sem, h27, hcell]
              refine steps_cons (fun a w hk hn => ?_) ?_
              · have h4 : a.eval (.tmp 4) = .slice (some ⟨g2, 0, none⟩) 3 3 := hn.1
                clear hn
                refine wants_plain rfl ?_
                exact grown_move (.tmp 4) rfl h4
              refine steps_cons (fun a w hk hn => ?_) ?_
              · have h29 : a.eval (.tmp 29) = .slice (some ⟨g2, 0, none⟩) 3 3 := hn.1
                clear hn
                refine wants_plain rfl ?_
                refine grown_run (v := .pointer (some ⟨g2, 1, none⟩)) ?_ (Kp.refl _ _) rfl
                obtain ⟨ρ, hρ, hc, hf, hg⟩ := eval_is a
                rw [hρ] at h29 ⊢
                simp [go_sem, hc, h29]
              refine steps_cons (fun a w hk hn => ?_) ?_
              · have h30 : a.eval (.tmp 30) = .pointer (some ⟨g2, 1, none⟩) := hn.1
                clear hn
                refine wants_plain rfl ?_
                refine grown_run (v := .int .i64 x1) ?_ (Kp.refl _ _) rfl
                have hcell := unhide HD1 w hk
                obtain ⟨ρ, hρ, hc, hf, hg⟩ := eval_is a
                rw [hρ] at h30 ⊢
                simp [go_sem, h30, hcell]
              refine steps_cons (fun a w hk hn => ?_) ?_
              · have h4 : a.eval (.tmp 4) = .slice (some ⟨g2, 0, none⟩) 3 3 := hn.1
                clear hn
                refine wants_plain rfl ?_
                exact grown_move (.tmp 4) rfl h4
              refine steps_cons (fun a w hk hn => ?_) ?_
              · have h32 : a.eval (.tmp 32) = .slice (some ⟨g2, 0, none⟩) 3 3 := hn.1
                clear hn
                refine wants_plain rfl ?_
                refine grown_run (v := .pointer (some ⟨g2, 2, none⟩)) ?_ (Kp.refl _ _) rfl
                obtain ⟨ρ, hρ, hc, hf, hg⟩ := eval_is a
                rw [hρ] at h32 ⊢
                simp [go_sem, hc, h32]
              refine steps_cons (fun a w hk hn => ?_) ?_
              · have h33 : a.eval (.tmp 33) = .pointer (some ⟨g2, 2, none⟩) := hn.1
                clear hn
                refine wants_plain rfl ?_
                refine grown_run (v := .int .i64 x2) ?_ (Kp.refl _ _) rfl
                have hcell := unhide HD2 w hk
                obtain ⟨ρ, hρ, hc, hf, hg⟩ := eval_is a
                rw [hρ] at h33 ⊢
                simp [go_sem, h33, hcell]
              refine steps_cons (fun a w hk hn => ?_) ?_
              · have h28 : a.eval (.tmp 28) = .int .i64 x0 := hn.1
                have h31 : a.eval (.tmp 31) = .int .i64 x1 := hn.2.1
                have h34 : a.eval (.tmp 34) = .int .i64 x2 := hn.2.2.1
                clear hn
                refine wants_plain rfl ?_
                refine grown_call (f := 8) rfl Try.func8 (by kernel_rfl) (by kernel_rfl) ?_
                simp only [List.map_toArray, List.map_cons, List.map_nil, h28, h31, h34]
                refine (unhide HNN w).mono ?_
                rintro e w' ⟨rfl, rfl⟩
                exact ⟨_, rfl, Kp.refl _ _, rfl⟩
              refine steps_cons (fun a w hk hn => ?_) ?_
              · have h35 : a.eval (.tmp 35) = .tuple #[.pointer none, .int .i64 1] := hn.1
                clear hn
                refine wants_plain rfl ?_
                exact grown_move (.tmp 35) rfl h35
              refine steps_cons (fun a w hk hn => ?_) ?_
              · have h25 : a.eval (.tmp 25) = .tuple #[.pointer none, .int .i64 1] := hn.1
                clear hn
                refine wants_plain rfl ?_
                refine grown_run (v := .pointer none) ?_ (Kp.refl _ _) rfl
                obtain ⟨ρ, hρ, hc, hf, hg⟩ := eval_is a
                rw [hρ] at h25 ⊢
                simp [go_sem, h25]
              refine steps_cons (fun a w hk hn => ?_) ?_
              · have h25 : a.eval (.tmp 25) = .tuple #[.pointer none, .int .i64 1] := hn.1
                clear hn
                refine wants_plain rfl ?_
                refine grown_run (v := .int .i64 1) ?_ (Kp.refl _ _) rfl
                obtain ⟨ρ, hρ, hc, hf, hg⟩ := eval_is a
                rw [hρ] at h25 ⊢
                simp [go_sem, h25]
              refine steps_cons (fun a w hk hn => ?_) ?_
              · have h36 : a.eval (.tmp 36) = .pointer none := hn.1
                clear hn
                refine wants_plain rfl ?_
                exact grown_assign (.tmp 36) rfl h36
              refine steps_cons (fun a w hk hn => ?_) ?_
              · have h37 : a.eval (.tmp 37) = .int .i64 1 := hn.1
                clear hn
                refine wants_plain rfl ?_
                exact grown_assign (.tmp 37) rfl h37
              exact trivial
            intro W1 hkW1
            rintro _ rfl
            rintro _ rfl
            rintro _ rfl
            rintro _ rfl
            rintro _ rfl
            rintro _ rfl
            rintro _ rfl
            rintro _ rfl
            rintro _ rfl
            rintro _ rfl
            rintro _ rfl
            rintro _ rfl
            rintro _ rfl
            rintro _ rfl
            rintro _ rfl
            refine fin_nil ?_
            simp only [Act.put, List.set_cons_zero, List.set_cons_succ, List.setIfInBounds_toArray]
            have f0 := HD0.out W1 hkW1
            have f1 := HD1.out W1 hkW1
            have f2 := HD2.out W1 hkW1
            have HK3 := hide ((HKS.out.drew).trans hkW1)
            clear hkW1 HD0 HD1 HD2 HNN HKS
            rcases hno with h1 | ⟨h1, h2⟩ | ⟨h1, h2, h3⟩ | ⟨h1, h2, h3, h4⟩ | ⟨h1, h2, h3, h4, h5⟩ | ⟨h1, h2, h3, h4, h5, h6⟩
            · have y1 : decide (1 ≤ x0) = false := decide_eq_false (by omega)
              go_wp2_with fail
              go_roundw
              case rel => exact ⟨m + 1, by omega, by go_num, HK3.out⟩
              case measure => simp [intOf]; omega
            · have y1 : decide (x0 ≤ 16) = false := decide_eq_false (by omega)
              go_wp2_with fail
              go_roundw
              case rel => exact ⟨m + 1, by omega, by go_num, HK3.out⟩
              case measure => simp [intOf]; omega
            · have y1 : decide (1 ≤ x1) = false := decide_eq_false (by omega)
              go_wp2_with fail
              go_roundw
              case rel => exact ⟨m + 1, by omega, by go_num, HK3.out⟩
              case measure => simp [intOf]; omega
            · have y1 : decide (x1 ≤ 8) = false := decide_eq_false (by omega)
              go_wp2_with fail
              go_roundw
              case rel => exact ⟨m + 1, by omega, by go_num, HK3.out⟩
              case measure => simp [intOf]; omega
            · have y1 : decide (0 ≤ x2) = false := decide_eq_false (by omega)
              go_wp2_with fail
              go_roundw
              case rel => exact ⟨m + 1, by omega, by go_num, HK3.out⟩
              case measure => simp [intOf]; omega
            · have y1 : decide (x2 ≤ 1000) = false := decide_eq_false (by omega)
              go_wp2_with fail
              go_roundw
              case rel => exact ⟨m + 1, by omega, by go_num, HK3.out⟩
              case measure => simp [intOf]; omega
        · have hmn : ¬ (m : Int) < 3 := by omega
          go_wp2_with fail
          go_roundw
          case rel => exact ⟨k + 1, by omega, by go_num, HKQ.out⟩
          case measure => simp [intOf]; omega
    · have hnlt : ¬ (k : Int) < 9 := by omega
      clear HNS
      have HKW := hide (HK0.out.trans HKR.out)
      clear HKR HK0
      go_wp2_with fail
      obtain ⟨wa, hwa⟩ : ∃ wa, wa = wr := ⟨_, rfl⟩
      rw [← hwa] at HKW ⊢
      clear hwa
      go_loopw [8, 9] (fun v i wr => ∃ (j : Nat) (xs : List AskBE), j ≤ 8 ∧ i = .int .i64 j ∧ xs.length = 2 * j ∧ AskR wr w.heap.size v xs ∧ Kp [] w wr) (fun _ i _ => 8 - (intOf i).toNat)
      case atStart => exact ⟨0, [], by omega, rfl, rfl, AskR.none _ _, HKW.out⟩
      case round =>
        obtain ⟨j, xs, hj, rfl, hxl, R, KQ⟩ := hrel
        obtain ⟨av, cv, rfl⟩ := R.shape
        obtain ⟨n, hn⟩ : ∃ n, n = xs.length := ⟨_, rfl⟩
        rw [← hn] at R ⊢
        have HR := hide R
        have HKQ := hide KQ
        have HXL : Hid (xs.length = 2 * j) := hxl
        have HLN := hide hn
        clear R KQ hxl hn HKW
        by_cases hjl : j < 8
        · have hjl' : (j : Int) < 8 := by omega
          have h8 : IntKind.u8.wrap (j : Int) = j := by simp [IntKind.wrap, IntKind.signed, IntKind.bits]; omega
          have KA := hide ((Kp.refl [] wr).alloc (.cells #[.int .u8 (j : Int)] 5 (0, 0)))
          have HRA := hide (HR.out.keptN KA.out)
          have HY : Hid (∀ y ∈ [(⟨1, j, .slice (some ⟨wr.heap.size, 0, none⟩) 1 1, [(j : Int)]⟩ : AskBE), ⟨2, j + 3, .slice none 0 0, []⟩], AskOk (wr.alloc (.cells #[.int .u8 (j : Int)] 5 (0, 0))) y) := fun y hy => by
            rcases (by simpa using hy : y = (⟨1, j, .slice (some ⟨wr.heap.size, 0, none⟩) 1 1, [(j : Int)]⟩ : AskBE) ∨ y = ⟨2, j + 3, .slice none 0 0, []⟩) with h | h
            · rw [h]; exact ask_lit wr.heap.size _ _ 1 j [(j : Int)] 1 (heap_alloc_new wr _) (lit_sl wr [(j : Int)] 1 (0, 0) rfl (by omega)) (fun b hb => by simp at hb; omega) (by omega)
            · rw [h]; exact ask_nil _ 2 _ (by omega)
          have HSZ : Hid (w.heap.size ≤ (wr.alloc (.cells #[.int .u8 (j : Int)] 5 (0, 0))).heap.size) := Nat.le_trans HKQ.out.size KA.out.size
          have esz : (wr.alloc (.cells #[.int .u8 (j : Int)] 5 (0, 0))).heap.size = wr.heap.size + 1 := by simp
          have HE := hide esz
          clear esz
          go_wp2_with (at_builtin; refine wpList_asks (w := wr.alloc (.cells #[.int .u8 (j : Int)] 5 (0, 0))) rfl (.tmp 95) (.tmp 104) rfl w.heap.size (.slice av n cv) xs _ rfl HRA.out 2 rfl (by rw [HE.out]; rfl) HY.out rfl (by have := HXL.out; simp; omega) HSZ.out ?_; intro ao5 m5 c5 w5 R5 k5; have HR5 := hide R5; have HK5 := hide (k5 w (Nat.le_refl _) (HKQ.out.trans KA.out)); clear R5 k5)
          go_roundw
          case rel => exact ⟨j + 1, _, by omega, by go_num, by have := HXL.out; simp; omega, HR5.out, HK5.out⟩
          case measure => simp [intOf]; omega
        · have hjn : ¬ (j : Int) < 8 := by omega
          have cv1 := lit_cv wr [122] 1 rfl
          simp only [List.map_cons, List.map_nil] at cv1
          have KA := hide ((Kp.refl [] wr).alloc (.cells #[.int .u8 122] 5 (1, 2)))
          have HRA := hide (HR.out.keptN KA.out)
          have HZ : Hid (AskOk (wr.alloc (.cells #[.int .u8 122] 5 (1, 2))) ⟨4, 0, .slice (some ⟨wr.heap.size, 0, none⟩) 1 1, [122]⟩) := ask_lit wr.heap.size _ _ 4 0 [122] 1 (heap_alloc_new wr _) (lit_sl wr [122] 1 (1, 2) rfl (by omega)) (fun b hb => by simp at hb; omega) (by omega)
          have HY : Hid (∀ y ∈ [(⟨3, 0, .slice none 0 0, []⟩ : AskBE), ⟨4, 0, .slice (some ⟨wr.heap.size, 0, none⟩) 1 1, [122]⟩, ⟨2, 0, .slice none 0 0, []⟩, ⟨1, 9, .slice none 0 0, []⟩, ⟨3, 0, .slice none 0 0, []⟩, ⟨3, 0, .slice none 0 0, []⟩, ⟨3, 0, .slice none 0 0, []⟩, ⟨3, 0, .slice none 0 0, []⟩, ⟨2, 1073741824, .slice none 0 0, []⟩], AskOk (wr.alloc (.cells #[.int .u8 122] 5 (1, 2))) y) := fun y hy => by
            simp only [List.mem_cons, List.not_mem_nil, or_false] at hy
            rcases hy with h | h | h | h | h | h | h | h | h <;> rw [h] <;> first | exact ask_nil _ _ _ (by omega) | exact HZ.out
          have HSZ : Hid (w.heap.size ≤ (wr.alloc (.cells #[.int .u8 122] 5 (1, 2))).heap.size) := Nat.le_trans HKQ.out.size KA.out.size
          have esz : (wr.alloc (.cells #[.int .u8 122] 5 (1, 2))).heap.size = wr.heap.size + 1 := by simp
          have HE := hide esz
          clear esz
          go_wp2_with (first
            | (at_builtin; refine wpList_asks (w := wr.alloc (.cells #[.int .u8 122] 5 (1, 2))) rfl (.tmp 106) (.tmp 118) rfl w.heap.size (.slice av n cv) xs _ rfl HRA.out 9 rfl (by rw [HE.out]; rfl) HY.out rfl (by have := HXL.out; simp; omega) HSZ.out ?_; intro ao5 m5 c5 w5 R5 k5; have HR5 := hide R5; have HK5 := hide (k5 w (Nat.le_refl _) (HKQ.out.trans KA.out)); clear R5 k5; refine Hid.out ?_))
          refine hide ?_
          have HP1 := hide (fun w' (k' : Kp [] w5 w') => ((HR5.out.keptN k').askB (by have := HXL.out; simp; omega)))
          have hm5 : m5 ≤ 25 := by
            obtain ⟨_, _, e5⟩ := HR5.out.shape
            injection e5 with _ e6 _
            rw [e6]; have := HXL.out; simp; omega
          obtain ⟨ys, hys⟩ : ∃ ys : List AskBE, ∀ w', Kp [] w5 w' → AskB w' (.slice ao5 m5 c5) ys := ⟨_, HP1.out⟩
          have HYS := hide hys
          clear hys HP1
          have HQ1 := hide (bplay_any 3 2 4 _ ys w5 (by omega) (by omega) (by omega) (by omega) (by omega) (by omega) (HYS.out _ (Kp.refl _ _)))
          go_wp2_with (first
            | (go_at_call 9; refine HQ1.out.mono ?_; rintro e w6 ⟨rfl, k6⟩; clear HQ1; have HQ2 := hide (bplay_any 16 8 0 _ ys w6 (by omega) (by omega) (by omega) (by omega) (by omega) (by omega) (HYS.out _ k6)))
            | (go_at_call 9; refine HQ2.out.mono ?_; rintro e w7 ⟨rfl, k7⟩; clear HQ2; have HQ3 := hide (bplay_any 1 1 1000 _ ys w7 (by omega) (by omega) (by omega) (by omega) (by omega) (by omega) (HYS.out _ (k6.trans k7))))
            | (go_at_call 9; refine HQ3.out.mono ?_; rintro e w8 ⟨rfl, k8⟩; clear HQ3)
            | (go_at_call 10; refine (bknown_any _).mono ?_; rintro e w9 ⟨rfl, k9⟩))
          go_ret
          exact ⟨rfl, ((((HK5.out.trans k6).trans k7).trans k8).trans k9).below (Nat.le_refl _) (by simp)⟩
set_option maxRecDepth 100000 in
theorem lifted (os : Os) (started : os.Started) (H : Type) (enc : TypeId × Value → H) :
    ReturnsInHanded {} Try.checked os 3 .any (Rows.batchNumbersSpec.pre6 enc Try.prog Try.f3 Rows.batchNumbersRow.domain false) (Rows.batchNumbersSpec.post enc Try.prog Try.f3 false true false false) := by
  refine returnsInHanded_of_change (C := Try.checked) own started (by kernel_rfl) Try.func3
    (ChangeSpec.witness6 (enc := enc) (C := Try.checked) false ⟨#[], #[], []⟩ 8 (by kernel_rfl) (by kernel_rfl) (by kernel_rfl) (by kernel_rfl)) ?_
  intro W base args ds gs before hval0 hW hcnd _
  have hval : ∀ (j : Nat) t v, Try.f3.params[j]? = some t → args[j]? = some v → Value.okWide Try.prog W .any base t v := hval0
  have hW' := hW
  obtain ⟨p, q, hA0, hV, rfl, hfz, hnd⟩ := hW
  have hA : DataW.TrodAll enc Try.prog W 0 (fun _ => true) true Try.f3.params.toList args.toList ds p := hA0
  rw [Try.params3] at hA hval
  obtain ⟨hargs, rfl, rfl⟩ := trodAll_nil hA
  obtain rfl : args = #[] := by cases args; simp_all
  obtain ⟨rfl, rfl⟩ := trodVars_none hV
  clear hA0 hval0
  refine (walk  W ).mono fun e W' ⟨he, bel⟩ => ?_
  subst he
  exact ⟨_, rfl, _, _, _, [], _, [], hW', trodAll_mk1 (shut_bool Try.underlying4 _), trodAll_mk0, rfl, bel.frame _, fun h => by cases h⟩
theorem over : Rows.batchNumbersRow.holds Try.pinned (OpenSpec.ofChange Rows.batchNumbersSpec) :=
  OpenClaim.holds_of_wide 3 Try.f3 rfl rfl rfl rfl rfl rfl rfl ⟨rfl, rfl, rfl, rfl, rfl⟩ rfl rfl rfl rfl rfl (by kernel_rfl) Try.func3 (by kernel_rfl)
    (of_decide_eq_true (by kernel_rfl)) (by unfold Func.isWrapper; first | (rw [if_pos (by decide +kernel)]; kernel_rfl) | (rw [if_neg (by decide +kernel)]; exact ⟨rfl, rfl⟩))
    (fun os started H enc _ => lifted os started H enc)
end Go.Proofs.Ytfepkcjelecpkaa.batchNumbers
namespace Go.Proofs.Ytfepkcjelecpkaa
/-- The given statement. -/
theorem BatchNumbers_holds : Rows.BatchNumbersSaid := batchNumbers.over
#print axioms BatchNumbers_holds
end Go.Proofs.Ytfepkcjelecpkaa
