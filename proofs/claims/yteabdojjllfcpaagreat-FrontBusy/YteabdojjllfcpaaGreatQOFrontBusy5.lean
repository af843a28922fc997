/-
  The contracts of package front: receiptOf, Receipts, Waits, Receipt.
-/
import Derived.Test.YteabdojjllfcpaaGreatQOFrontBusy4
import Derived.Test.YteabdojjllfcpaaGreatQOFrontBusy2
import Derived.Test.YteabdojjllfcpaaGreatQC26
namespace Go.Proofs.YteabdojjllfcpaaGreat
open Go.RowKit
open Go.Proofs
set_option linter.unusedVariables false
section
variable {w0 w : World} {p l pd : Nat} {S : FS} {g : Fps}
theorem fwaits_any (h : Fg w0 w p l pd S g) (n : Nat) (hn : n = S.ms.length) : Calls Tryz.prog 16 #[.pointer (some ⟨p, 0, none⟩)] w fun e w' => e = .returned (.int .i64 (n : Nat)) ∧ w' = w := by
  obtain ⟨j, q, vr, hx⟩ := h
  have hc := hx.at_.c2
  have HL := hide (qf_len hx.qf n hn)
  clear hx hn
  go_enter Tryz.func16, Tryz.ntmps16
  go_wp2_with fail
  refine HL.out.mono ?_
  rintro ee w1 ⟨rfl, hw⟩
  subst w1
  clear HL
  go_wp2_with fail
  go_ret
  exact ⟨rfl, rfl⟩
end
end Go.Proofs.YteabdojjllfcpaaGreat

/-
  Manifests that are asked one by one: each unlike the others.
-/
namespace Go.Proofs.YteabdojjllfcpaaGreat
open Go.RowKit
open Go.Proofs
set_option linter.unusedVariables false
theorem itF_inj {a v f a' v' f' : Int} (h : itF a v f = itF a' v' f') : mkM a v f = mkM a' v' f' := by
  have h1 := (dec_enc _ (mkM_ok a v f) (mkM_rgt a v f)).1
  have h2 := (dec_enc _ (mkM_ok a' v' f') (mkM_rgt a' v' f')).1
  unfold itF at h
  rw [h] at h1
  rw [← h1, h2]
/-- the k-th: each name in turn, then the next version. -/
def itK (k : Nat) : List Int := itF (k : Int) ((k : Int) / 4) 0
def keyK (k : Nat) : Nat × Int := ((nmK (wiP (k : Int) 0 1000 % 4).toNat).size, 1 + wiP ((k : Int) / 4) 0 100000 % 9)
theorem keyK_ne : ∀ i : Fin 12, ∀ j : Fin 12, i ≠ j → keyK i.1 ≠ keyK j.1 := by decide +kernel
theorem itK_ne {i j : Nat} (hi : i < 12) (hj : j < 12) (h : i ≠ j) : itK i ≠ itK j := fun e => by
  have e2 := itF_inj e
  refine keyK_ne ⟨i, hi⟩ ⟨j, hj⟩ (fun e => h (by simpa using e)) ?_
  have hs : (mkM (i : Int) ((i : Int) / 4) 0).s.size = (mkM (j : Int) ((j : Int) / 4) 0).s.size := by rw [e2]
  have hv : (mkM (i : Int) ((i : Int) / 4) 0).v = (mkM (j : Int) ((j : Int) / 4) 0).v := by rw [e2]
  exact Prod.ext hs hv
theorem itK_ok (k : Nat) : okM (itK k) = true := itF_ok _ _ _
theorem itK_bs (k : Nat) : Bs (itK k) := itF_bs _ _ _
theorem itK_len (k : Nat) : (itK k).length ≤ 125 := itF_len _ _ _
/-- the first k of them. -/
def rcK (k : Nat) : List (List Int) := (List.range k).map itK
theorem rcK_len (k : Nat) : (rcK k).length = k := by simp [rcK]
theorem rcK_succ (k : Nat) : rcK (k + 1) = rcK k ++ [itK k] := by simp [rcK, List.range_succ]
theorem rcK_mem {k : Nat} {x : List Int} (h : x ∈ rcK k) : ∃ i, i < k ∧ x = itK i := by
  obtain ⟨i, hi, rfl⟩ := List.mem_map.1 h
  exact ⟨i, List.mem_range.1 hi, rfl⟩
theorem rcK_new {k : Nat} (hk : k < 12) : itK k ∉ rcK k := fun h => by
  obtain ⟨i, hi, e⟩ := rcK_mem h
  exact itK_ne (by omega) hk (by omega) e.symm
/-- what lies on the disk. -/
theorem layK_len (k : Nat) : (layP (rcK k)).length ≤ 133 * k := by
  induction k with
  | zero => simp [rcK, layP]
  | succ k ih =>
    rw [rcK_succ, layP_snoc, List.length_append, recP_len]
    have := itK_len k
    omega
end Go.Proofs.YteabdojjllfcpaaGreat

/-
  Regions that draw their order in which calls write: what holds of the world by which of them were done; texts that are made in the region lie elsewhere, and so do answers that are stored.
-/
namespace Go.Proofs.YteabdojjllfcpaaGreat
open Go.RowKit
open Go.Proofs
set_option linter.unusedVariables false
/-- an answer's cells. -/
def AnsC (w : World) (g : Nat) (k n : Int) : Prop := w.heap[g]? = some (.cells #[.int .i64 k, .int .i64 n] 57 (0, 0))
/-- St: what holds by what was done; its: operations that make texts, and their slots; av: operations that make answers' cells, their slots, the stores into them. -/
def GS (nT b0 : Nat) (St : Array Bool → World → (Nat → Prop) → Prop) (its : List (Nat × Tmp)) (val : Nat → List Int) (av : List (Nat × Tmp × Nat)) (ans : Nat → Int × Int) (listed : Array Bool) (a : Act) (w : World) : Prop :=
  a.tmps.size = nT ∧ ∃ F, St listed w F ∧ (∀ i, F i → i < w.heap.size) ∧ b0 ≤ w.heap.size ∧
    (∀ q ∈ its, listed.getD q.1 false = true → (∀ r ∈ av, listed.getD r.2.2 false = false) → (∃ ao m c, a.eval (.tmp q.2) = .slice ao m c) ∧ Els F w (a.eval (.tmp q.2)) ∧ Sl w (a.eval (.tmp q.2)) (val q.1)) ∧
    (∀ q ∈ av, listed.getD q.1 false = true → ∃ g k n, a.eval (.tmp q.2.1) = .pointer (some ⟨g, 0, none⟩) ∧ b0 ≤ g ∧ g < w.heap.size ∧ ¬ F g ∧ AnsC w g k n ∧ (listed.getD q.2.2 false = true → (k, n) = ans q.1))
section
variable {nT b0 : Nat} {St : Array Bool → World → (Nat → Prop) → Prop} {its : List (Nat × Tmp)} {val : Nat → List Int} {av : List (Nat × Tmp × Nat)} {ans : Nat → Int × Int} {listed : Array Bool} {a : Act} {w w' : World} {i : Nat} {d : Tmp} {v : Value}
/-- an operation that only makes memory. -/
theorem GS.plain (h : GS nT b0 St its val av ans listed a w) (hS : ∀ F, St listed w F → Kp [] w w' → St (listed.setIfInBounds i true) w' F) (h1 : (its.all fun q => q.1 != i && q.2 != d) = true) (h2 : (av.all fun q => q.1 != i && q.2.1 != d && q.2.2 != i) = true) (k : Kp [] w w') : GS nT b0 St its val av ans (listed.setIfInBounds i true) (a.put (some d) v) w' := by
  obtain ⟨sz, F, s1, s2, s3, s4, s5⟩ := h
  have hz := k.size
  refine ⟨by simpa [Act.put] using sz, F, hS F s1 k, fun j hj => Nat.lt_of_lt_of_le (s2 j hj) hz, Nat.le_trans s3 hz, fun q hq hl hno => ?_, fun q hq hl => ?_⟩
  · have hq2 := List.all_eq_true.1 h1 q hq
    simp only [Bool.and_eq_true, bne_iff_ne, ne_eq] at hq2
    rw [getD_set_ne false (Ne.symm hq2.1)] at hl
    rw [eval_put_ne (Ne.symm hq2.2)]
    obtain ⟨t1, t2, t3⟩ := s4 q hq hl (fun r hr => by
      have hr2 := List.all_eq_true.1 h2 r hr
      simp only [Bool.and_eq_true, bne_iff_ne, ne_eq] at hr2
      have := hno r hr
      rwa [getD_set_ne false (Ne.symm hr2.2)] at this)
    exact ⟨t1, t2.on k, t3.kept k (by simp)⟩
  · have hq2 := List.all_eq_true.1 h2 q hq
    simp only [Bool.and_eq_true, bne_iff_ne, ne_eq] at hq2
    rw [getD_set_ne false (Ne.symm hq2.1.1)] at hl
    rw [eval_put_ne (Ne.symm hq2.1.2), getD_set_ne false (Ne.symm hq2.2)]
    obtain ⟨g, k', n, t1, t2, t3, t4, t5, t6⟩ := s5 q hq hl
    exact ⟨g, k', n, t1, t2, Nat.lt_of_lt_of_le t3 hz, t4, k.heap t5 (by simp), t6⟩
/-- a text is made. -/
theorem GS.item (h : GS nT b0 St its val av ans listed a w) (hS : ∀ F, St listed w F → Kp [] w w' → St (listed.setIfInBounds i true) w' F) (h1 : (its.all fun q => (q.1 == i) == (q.2 == d)) = true) (h2 : (av.all fun q => q.1 != i && q.2.1 != d && q.2.2 != i) = true) (hd : d < nT) (k : Kp [] w w') (hv : ∃ ao m c, v = .slice ao m c) (hR : Row w' w.heap.size v (val i)) : GS nT b0 St its val av ans (listed.setIfInBounds i true) (a.put (some d) v) w' := by
  obtain ⟨sz, F, s1, s2, s3, s4, s5⟩ := h
  have hz := k.size
  refine ⟨by simpa [Act.put] using sz, F, hS F s1 k, fun j hj => Nat.lt_of_lt_of_le (s2 j hj) hz, Nat.le_trans s3 hz, fun q hq hl hno => ?_, fun q hq hl => ?_⟩
  · have hq2 := List.all_eq_true.1 h1 q hq
    by_cases hi : q.1 = i
    · have hqd : q.2 = d := by
        rw [hi] at hq2
        simpa using hq2
      rw [hi, hqd, eval_put_same (by rw [sz]; exact hd)]
      exact ⟨hv, els_row hR s2, hR.sl⟩
    · have hqd : q.2 ≠ d := by
        have hb : (q.1 == i) = false := by simpa using hi
        rw [hb] at hq2
        simpa using hq2
      rw [getD_set_ne false (Ne.symm hi)] at hl
      rw [eval_put_ne (Ne.symm hqd)]
      obtain ⟨t1, t2, t3⟩ := s4 q hq hl (fun r hr => by
        have hr2 := List.all_eq_true.1 h2 r hr
        simp only [Bool.and_eq_true, bne_iff_ne, ne_eq] at hr2
        have := hno r hr
        rwa [getD_set_ne false (Ne.symm hr2.2)] at this)
      exact ⟨t1, t2.on k, t3.kept k (by simp)⟩
  · have hq2 := List.all_eq_true.1 h2 q hq
    simp only [Bool.and_eq_true, bne_iff_ne, ne_eq] at hq2
    rw [getD_set_ne false (Ne.symm hq2.1.1)] at hl
    rw [eval_put_ne (Ne.symm hq2.1.2), getD_set_ne false (Ne.symm hq2.2)]
    obtain ⟨g, k', n, t1, t2, t3, t4, t5, t6⟩ := s5 q hq hl
    exact ⟨g, k', n, t1, t2, Nat.lt_of_lt_of_le t3 hz, t4, k.heap t5 (by simp), t6⟩
/-- a call that writes. -/
theorem GS.step {F F' : Nat → Prop} (sz : a.tmps.size = nT) (s2 : ∀ i, F i → i < w.heap.size) (s3 : b0 ≤ w.heap.size)
    (s4 : ∀ q ∈ its, listed.getD q.1 false = true → (∀ r ∈ av, listed.getD r.2.2 false = false) → (∃ ao m c, a.eval (.tmp q.2) = .slice ao m c) ∧ Els F w (a.eval (.tmp q.2)) ∧ Sl w (a.eval (.tmp q.2)) (val q.1))
    (s5 : ∀ q ∈ av, listed.getD q.1 false = true → ∃ g k n, a.eval (.tmp q.2.1) = .pointer (some ⟨g, 0, none⟩) ∧ b0 ≤ g ∧ g < w.heap.size ∧ ¬ F g ∧ AnsC w g k n ∧ (listed.getD q.2.2 false = true → (k, n) = ans q.1))
    (h1 : (its.all fun q => q.1 != i && q.2 != d) = true) (h2 : (av.all fun q => q.1 != i && q.2.1 != d && q.2.2 != i) = true) (T : Stp F w w' F') (hS : St (listed.setIfInBounds i true) w' F') : GS nT b0 St its val av ans (listed.setIfInBounds i true) (a.put (some d) v) w' := by
  have hz := T.size
  refine ⟨by simpa [Act.put] using sz, F', hS, fun j hj => ?_, Nat.le_trans s3 hz, fun q hq hl hno => ?_, fun q hq hl => ?_⟩
  · rcases T.2 j hj with h | h
    · exact Nat.lt_of_lt_of_le (s2 j h) hz
    · exact h.2
  · have hq2 := List.all_eq_true.1 h1 q hq
    simp only [Bool.and_eq_true, bne_iff_ne, ne_eq] at hq2
    rw [getD_set_ne false (Ne.symm hq2.1)] at hl
    rw [eval_put_ne (Ne.symm hq2.2)]
    obtain ⟨t1, t2, t3⟩ := s4 q hq hl (fun r hr => by
      have hr2 := List.all_eq_true.1 h2 r hr
      simp only [Bool.and_eq_true, bne_iff_ne, ne_eq] at hr2
      have := hno r hr
      rwa [getD_set_ne false (Ne.symm hr2.2)] at this)
    exact ⟨t1, t2.stp T, t2.sl t3 T⟩
  · have hq2 := List.all_eq_true.1 h2 q hq
    simp only [Bool.and_eq_true, bne_iff_ne, ne_eq] at hq2
    rw [getD_set_ne false (Ne.symm hq2.1.1)] at hl
    rw [eval_put_ne (Ne.symm hq2.1.2), getD_set_ne false (Ne.symm hq2.2)]
    obtain ⟨g, k', n, t1, t2, t3, t4, t5, t6⟩ := s5 q hq hl
    exact ⟨g, k', n, t1, t2, Nat.lt_of_lt_of_le t3 hz, T.off t3 t4, T.heap t5 t4, t6⟩
/-- an answer's cells are made. -/
theorem GS.alloc {st : Nat} (h : GS nT b0 St its val av ans listed a w) (hS : ∀ F, St listed w F → Kp [] w w' → St (listed.setIfInBounds i true) w' F) (h1 : (its.all fun q => q.1 != i && q.2 != d) = true) (h2 : av = [(i, d, st)]) (hne : st ≠ i) (hst : listed.getD st false = false) (hd : d < nT) (hw : w' = w.alloc (.cells #[.int .i64 0, .int .i64 0] 57)) : GS nT b0 St its val av ans (listed.setIfInBounds i true) (a.put (some d) (.pointer (some ⟨w.heap.size, 0, none⟩))) w' := by
  obtain ⟨sz, F, s1, s2, s3, s4, s5⟩ := h
  have k : Kp [] w w' := by rw [hw]; exact (Kp.refl [] w).alloc _
  have hz := k.size
  refine ⟨by simpa [Act.put] using sz, F, hS F s1 k, fun j hj => Nat.lt_of_lt_of_le (s2 j hj) hz, Nat.le_trans s3 hz, fun q hq hl hno => ?_, fun q hq hl => ?_⟩
  · have hq2 := List.all_eq_true.1 h1 q hq
    simp only [Bool.and_eq_true, bne_iff_ne, ne_eq] at hq2
    rw [getD_set_ne false (Ne.symm hq2.1)] at hl
    rw [eval_put_ne (Ne.symm hq2.2)]
    obtain ⟨t1, t2, t3⟩ := s4 q hq hl (fun r hr => by
      rw [h2] at hr
      obtain rfl := List.mem_singleton.1 hr
      exact hst)
    exact ⟨t1, t2.on k, t3.kept k (by simp)⟩
  · rw [h2] at hq
    obtain rfl := List.mem_singleton.1 hq
    rw [eval_put_same (by rw [sz]; exact hd), getD_set_ne false (Ne.symm hne)]
    refine ⟨w.heap.size, 0, 0, rfl, s3, by rw [hw]; simp, fun e => by have := s2 _ e; omega, by rw [hw]; exact heap_alloc_new w _, fun e => by rw [hst] at e; cases e⟩
/-- the answer is stored. -/
theorem GS.store {ia : Nat} {k n : Int} (h : GS nT b0 St its val av ans listed a w) (h2 : av = [(ia, d, i)]) (hil : i < listed.size) (hia : listed.getD ia false = true) (hne : ia ≠ i) (ha : ans ia = (k, n)) {g : Nat} (hg : a.eval (.tmp d) = .pointer (some ⟨g, 0, none⟩)) (hS : ∀ F, St listed w F → ¬ F g → b0 ≤ g → St (listed.setIfInBounds i true) w' F) (hw : AnsC w' g k n) (hk : Kp [g] w w') : GS nT b0 St its val av ans (listed.setIfInBounds i true) (a.put none undef) w' := by
  obtain ⟨sz, F, s1, s2, s3, s4, s5⟩ := h
  have hz := hk.size
  have ha2 : a.put none undef = a := rfl
  rw [ha2]
  obtain ⟨g', k', n', t1, t2, t3, t4, t5, t6⟩ := s5 (ia, d, i) (by rw [h2]; simp) hia
  have hgg : g' = g := by
    have e : a.eval (.tmp d) = .pointer (some ⟨g', 0, none⟩) := t1
    rw [hg] at e
    cases e
    rfl
  subst hgg
  refine ⟨sz, F, hS F s1 t4 t2, fun j hj => Nat.lt_of_lt_of_le (s2 j hj) hz, Nat.le_trans s3 hz, fun q hq hl hno => ?_, fun q hq hl => ?_⟩
  · have := hno (ia, d, i) (by rw [h2]; simp)
    simp [hil] at this
  · rw [h2] at hq
    obtain rfl := List.mem_singleton.1 hq
    exact ⟨g', k, n, hg, t2, Nat.lt_of_lt_of_le t3 hz, t4, hw, fun _ => ha.symm⟩
end
/-- an operation that only makes memory. -/
theorem wantsS_plain {nT b0 : Nat} {St : Array Bool → World → (Nat → Prop) → Prop} {its : List (Nat × Tmp)} {val : Nat → List Int} {av : List (Nat × Tmp × Nat)} {ans : Nat → Int × Int} {listed : Array Bool} {a : Act} {w : World} {i : Nat} {d : Tmp} {ops : Array Oper} {o : Oper} {R : Tell} (hdst : o.dst = some d) (h : GS nT b0 St its val av ans listed a w) (hS : ∀ w' F, St listed w F → Kp [] w w' → St (listed.setIfInBounds i true) w' F) (h1 : (its.all fun q => q.1 != i && q.2 != d) = true) (h2 : (av.all fun q => q.1 != i && q.2.1 != d && q.2.2 != i) = true) (hw : wants Tryz.prog ops o a w R) : wantsG KT (GS nT b0 St its val av ans (listed.setIfInBounds i true)) Tryz.prog ops o a w R :=
  wantsG_of1M (fun _ _ => trivial) (fun v w' k => by rw [hdst]; exact h.plain (fun F s k => hS w' F s k) h1 h2 k) hw
/-- an answer's cells are made. -/
theorem wantsS_alloc {nT b0 : Nat} {St : Array Bool → World → (Nat → Prop) → Prop} {its : List (Nat × Tmp)} {val : Nat → List Int} {av : List (Nat × Tmp × Nat)} {ans : Nat → Int × Int} {listed : Array Bool} {a : Act} {w : World} {i : Nat} {d : Tmp} {st : Nat} {ops : Array Oper} {o : Oper} (hgd : o.guard = none) (hdst : o.dst = some d) (ho : o.op = .alloc 57) (h : GS nT b0 St its val av ans listed a w) (hS : ∀ w' F, St listed w F → Kp [] w w' → St (listed.setIfInBounds i true) w' F) (h1 : (its.all fun q => q.1 != i && q.2 != d) = true) (h2 : av = [(i, d, st)]) (hne : st ≠ i) (hst : listed.getD st false = false) (hd : d < nT) : wantsG KT (GS nT b0 St its val av ans (listed.setIfInBounds i true)) Tryz.prog ops o a w AnyT := by
  unfold wantsG
  rw [if_pos (by simp [Region.wanted, hgd])]
  have hrun : (execOp a.eval o).run Tryz.prog w = .ok (.value (.pointer (some ⟨w.heap.size, 0, none⟩))) (w.alloc (.cells #[.int .i64 0, .int .i64 0] 57)) := by
    unfold execOp
    simp only [ho]
    simp [go_sem]
  rw [hrun]
  refine ⟨⟨trivial, ?_⟩, trivial⟩
  rw [hdst]
  exact h.alloc (fun F s k => hS _ F s k) h1 h2 hne hst hd rfl
/-- the answer is stored. -/
theorem wantsS_store {nT b0 : Nat} {St : Array Bool → World → (Nat → Prop) → Prop} {its : List (Nat × Tmp)} {val : Nat → List Int} {av : List (Nat × Tmp × Nat)} {ans : Nat → Int × Int} {listed : Array Bool} {a : Act} {w : World} {i ia : Nat} {d r : Tmp} {k n : Int} {ops : Array Oper} {o : Oper} (hgd : o.guard = none) (hdst : o.dst = none) (ho : o.op = .store 57 (.tmp d) (.tmp r)) (hr : a.eval (.tmp r) = ansV k n) (h : GS nT b0 St its val av ans listed a w) (hS : ∀ w' F T, St listed w F → Kp T w w' → (∀ i ∈ T, ¬ F i ∧ b0 ≤ i) → St (listed.setIfInBounds i true) w' F) (h2 : av = [(ia, d, i)]) (hil : i < listed.size) (hia : listed.getD ia false = true) (hne : ia ≠ i) (ha : ans ia = (k, n)) : wantsG KT (GS nT b0 St its val av ans (listed.setIfInBounds i true)) Tryz.prog ops o a w AnyT := by
  obtain ⟨sz, F, s1, s2, s3, s4, s5⟩ := id h
  obtain ⟨g, k', n', t1, t2, t3, t4, t5, t6⟩ := s5 (ia, d, i) (by rw [h2]; simp) hia
  have hcs : w.there g 0 (#[Value.int .i64 k, Value.int .i64 n] : Array Value).size := fun j hj => by
    simp only [List.size_toArray, List.length_cons, List.length_nil] at hj
    unfold AnsC at t5
    rw [cell_of_row w g (0 + j) _ _ _ t5]
    refine ⟨?_, frozen_of_row w g (0 + j) _ _ t5⟩
    rcases (by omega : j = 0 ∨ j = 1) with rfl | rfl <;> rfl
  have hrun : (execOp a.eval o).run Tryz.prog w = .ok .skip (w.setCells g 0 [.int .i64 k, .int .i64 n]) ∨ (execOp a.eval o).run Tryz.prog w = .ok (.value undef) (w.setCells g 0 [.int .i64 k, .int .i64 n]) := by
    have e := run_storeAt_mid (P := Tryz.prog) w g 0 57 #[.int .i64 k, .int .i64 n] hcs (by simpa using Tryz.ansSize) (by simp [Value.oneCell'])
    have t1' : a.eval (.tmp d) = .pointer (some ⟨g, 0, none⟩) := t1
    unfold execOp
    unfold ansV at hr
    simp only [ho, t1', hr, Sem.run_bind, e, Result.andThen_ok, Sem.run_pure]
    first | exact .inl rfl | exact .inr rfl | simp
  refine wantsG_skipM hgd hrun ⟨⟨trivial, ?_⟩, trivial⟩
  have hk : Kp [g] w (w.setCells g 0 [.int .i64 k, .int .i64 n]) := kp_fcells w g _ 0 w (Kp.refl _ _)
  rw [hdst]
  refine h.store h2 hil hia hne ha t1 (fun F s hF hb => hS _ F [g] s hk (fun i hi => by simp at hi; subst hi; exact ⟨hF, hb⟩)) ?_ hk
  have := heap_fcells g _ [.int .i64 k, .int .i64 n] 0 w _ t5
  exact this
/-- a call, behind a guard that lets it. -/
theorem wantsG_callG {K : World → World → Prop} {G : Act → World → Prop} {P : Program} {ops : Array Oper} {o : Oper} {a : Act} {w : World} {R : Tell} (hg : Region.wanted o (yielded ops a.tmps) = true) {f : FuncId} {fn : Func} {xs : Array Operand} {ats : Array TypeId} (ho : o.op = .call { callee := .value (.func f), args := xs, argTypes := ats }) (hf : P.funcs[f]? = some fn) (hn : (fn.name == "runtime.NumGoroutine") = false) (hb : fn.body.isNone = false)
    (h : Calls P f (xs.map a.eval) w fun e w' => ∃ v, e = .returned v ∧ (K w w' ∧ G (a.put o.dst v) w') ∧ R v w') : wantsG K G P ops o a w R := by
  unfold wantsG
  rw [if_pos hg]
  have e : (execOp a.eval o).run P w = .ok (.enter f (xs.map a.eval)) w := by
    obtain ⟨dst, op, ty, pos, after, guard⟩ := o
    simp only at ho
    subst ho
    rw [execOp_call_go]
    have h1 : fn.name ≠ "runtime.NumGoroutine" := by simpa using hn
    have h2 : ¬ fn.body = none := by intro h2; rw [h2] at hb; cases hb
    simp [callFunc, hf, h1, h2]
  rw [e]
  exact h
end Go.Proofs.YteabdojjllfcpaaGreat
