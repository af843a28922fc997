/-
  The statement CheckBodiesCardSaid: for all checkpoints and numbers the law function CheckBodies returns true and leaves its arguments as they were; the table hash.roundWords starts as the program's text lays it (tied). No other condition.
-/
import Derived.Test.YtbkipibmaghejaaDoorKXLaws
import Derived.Test.YtbkipibmaghejaaDoorKXSmalls
import Derived.Test.YtbkipibmaghejaaDoorKLSmalls
import Derived.Test.YtbkipibmaghejaaDoorKXRefB
import Derived.Test.YtbkipibmaghejaaDoorKRGrowX
import Derived.Test.YtbkipibmaghejaaDoorTie
import Derived.Test.YtbkipibmaghejaaDoorCards
import Derived.SevenTiedAt
namespace Go.Proofs.YtbkipibmaghejaaDoor.checkBodies
open Go.ChangeShapes Go.WideShapes Go.ChangeAt Go.RowKit
open Go.Proofs.YtbkipibmaghejaaDoor
set_option linter.unusedVariables false

theorem bs_take {bs : List Int} (n : Nat) (h : Bs bs) : Bs (bs.take n) := fun b hb => h b (List.mem_of_mem_take hb)

def AnyT : Tell := fun _ _ => True
theorem stableG_anyM : Tell.stableG KT AnyT := fun _ _ _ _ h => h
/-- what was stored so far. -/
def GB (w0 : World) (g4 g5 : Nat) (na nb : Int) (oa ca ob cb : Value) (listed : Array Bool) (_ : Act) (w : World) : Prop :=
  Kp [g4, g5] w0 w ∧ w.heap[g4]? = some (.cells #[.int .i64 na, if listed.getD 7 false = true then ca else oa] 24 (0, 0)) ∧ w.heap[g5]? = some (.cells #[.int .i64 nb, if listed.getD 9 false = true then cb else ob] 24 (0, 0))
section
variable {w0 w w' : World} {g4 g5 : Nat} {na nb : Int} {oa ca ob cb : Value} {listed : Array Bool} {a : Act}
theorem GB.free (h : GB w0 g4 g5 na nb oa ca ob cb listed a w) (k : Nat) (hk : k ≠ 7 ∧ k ≠ 9) {a' : Act} (v : Value) (K : Kp [] w w') : GB w0 g4 g5 na nb oa ca ob cb (listed.setIfInBounds k true) a' w' := by
  obtain ⟨h0, h1, h2⟩ := h
  refine ⟨h0.trans (K.mono (by simp)), ?_, ?_⟩
  · rw [getD_set_neM hk.1]; exact K.heap h1 (by simp)
  · rw [getD_set_neM hk.2]; exact K.heap h2 (by simp)
theorem GB.cellA (h : GB w0 g4 g5 na nb oa ca ob cb listed a w) (hl : listed.getD 7 false = false) : w.cell? ⟨g4, 1, none⟩ = some oa := by
  have h1 := h.2.1
  rw [hl] at h1
  rw [cell_of_row w g4 1 _ _ _ h1]
  rfl
theorem GB.cellB (h : GB w0 g4 g5 na nb oa ca ob cb listed a w) (hl : listed.getD 9 false = false) : w.cell? ⟨g5, 1, none⟩ = some ob := by
  have h1 := h.2.2
  rw [hl] at h1
  rw [cell_of_row w g5 1 _ _ _ h1]
  rfl
theorem GB.sta {ops : Array Oper} {o : Oper} {a2 : Option Addr} {m2 c2 : Nat} (h : GB w0 g4 g5 na nb oa (.slice a2 m2 c2) ob cb listed a w) (hne : g5 ≠ g4) (hsz : 7 < listed.size) (hg : o.guard = none) (ho : o.op = .store 22 (.tmp 19) (.tmp 15)) (hp : a.eval (.tmp 19) = .pointer (some ⟨g4, 1, none⟩)) (hu : a.eval (.tmp 15) = .slice a2 m2 c2) : wantsG KT (GB w0 g4 g5 na nb oa (.slice a2 m2 c2) ob cb (listed.setIfInBounds 7 true)) Tryd.prog ops o a w AnyT := by
  obtain ⟨h0, h1, h2⟩ := h
  have k := kp_fcell w g4 1 (.slice a2 m2 c2)
  refine wantsG_skipM hg (st_runM ho hp hu (by rw [cell_of_row w g4 1 _ _ _ h1]; rfl) (frozen_of_row w g4 1 _ _ h1) (.inr ⟨rfl, a2, m2, c2, rfl⟩)) ⟨⟨trivial, h0.trans (k.mono (by simp)), ?_, ?_⟩, trivial⟩
  · rw [getD_set_selfM 7 hsz, if_pos rfl]
    simpa using heap_setCell_same w g4 1 _ _ (.slice a2 m2 c2) h1
  · rw [getD_set_neM (by decide)]; exact k.heap h2 (by simpa using hne)
theorem GB.stb {ops : Array Oper} {o : Oper} {a2 : Option Addr} {m2 c2 : Nat} (h : GB w0 g4 g5 na nb oa ca ob (.slice a2 m2 c2) listed a w) (hne : g5 ≠ g4) (hsz : 9 < listed.size) (hg : o.guard = none) (ho : o.op = .store 22 (.tmp 20) (.tmp 18)) (hp : a.eval (.tmp 20) = .pointer (some ⟨g5, 1, none⟩)) (hu : a.eval (.tmp 18) = .slice a2 m2 c2) : wantsG KT (GB w0 g4 g5 na nb oa ca ob (.slice a2 m2 c2) (listed.setIfInBounds 9 true)) Tryd.prog ops o a w AnyT := by
  obtain ⟨h0, h1, h2⟩ := h
  have k := kp_fcell w g5 1 (.slice a2 m2 c2)
  refine wantsG_skipM hg (st_runM ho hp hu (by rw [cell_of_row w g5 1 _ _ _ h2]; rfl) (frozen_of_row w g5 1 _ _ h2) (.inr ⟨rfl, a2, m2, c2, rfl⟩)) ⟨⟨trivial, h0.trans (k.mono (by simp)), ?_, ?_⟩, trivial⟩
  · rw [getD_set_neM (by decide)]; exact k.heap h1 (by simpa using Ne.symm hne)
  · rw [getD_set_selfM 9 hsz, if_pos rfl]
    simpa using heap_setCell_same w g5 1 _ _ (.slice a2 m2 c2) h2
end

set_option maxRecDepth 100000 in
set_option maxHeartbeats 4000000 in
theorem walk (va : Value) (na : Int) (ra : List Int) (vb : Value) (nb : Int) (rb : List Int) (n m : Int) (w : World) (hG : Gl w) (hA : CkV w va na ra) (hAz : -9223372036854775808 ≤ na ∧ na ≤ 9223372036854775807) (hB : CkV w vb nb rb) (hBz : -9223372036854775808 ≤ nb ∧ nb ≤ 9223372036854775807) (hn : -9223372036854775808 ≤ n ∧ n ≤ 9223372036854775807) (hm : -9223372036854775808 ≤ m ∧ m ≤ 9223372036854775807) :
    Calls Tryd.prog 3 #[va, vb, .int .i64 n, .int .i64 m] w fun e w' => e = .returned (.bool true) ∧ Below w.heap.size w w' := by
  obtain ⟨aa, ma, ca, rfl, hSa, hBa⟩ := hA
  obtain ⟨ab, mb, cb, rfl, hSb, hBb⟩ := hB
  have HG := hide hG
  obtain ⟨w2, hw2⟩ : ∃ w2, w2 = (w.alloc (.cells #[.int .i64 na, .slice aa ma ca] 24)).alloc (.cells #[.int .i64 nb, .slice ab mb cb] 24) := ⟨_, rfl⟩
  obtain ⟨g4, hg4⟩ : ∃ g, g = w.heap.size := ⟨_, rfl⟩
  obtain ⟨g5, hg5⟩ : ∃ g, g = w.heap.size + 1 := ⟨_, rfl⟩
  have K2 : Kp [] w w2 := by rw [hw2]; exact ((Kp.refl [] w).alloc _).alloc _
  have G4 : w2.heap[g4]? = some (.cells #[.int .i64 na, .slice aa ma ca] 24 (0, 0)) := by rw [hw2, hg4]; exact heap_alloc2_old w _ _
  have G5 : w2.heap[g5]? = some (.cells #[.int .i64 nb, .slice ab mb cb] 24 (0, 0)) := by rw [hw2, hg5]; exact heap_alloc2_new w _ _
  obtain ⟨ka, hka⟩ : ∃ k, k = min ma 40 := ⟨_, rfl⟩
  obtain ⟨kb, hkb⟩ : ∃ k, k = min mb 40 := ⟨_, rfl⟩
  have hKd : Kp [] w w2.drew := K2.trans (kp_drew w2)
  have hne : g5 ≠ g4 := by omega
  have HNE := hide hne
  have HCa : Hid (∀ w', Kp [g4, g5] w2.drew w' → Calls Tryd.prog 5 #[.slice aa ma ca, .int .i64 40] w' fun e w'' => e = .returned (.slice aa ka ca) ∧ w'' = w') := fun w' k' => by
    have h := cut_val aa ma ca 40 ra w' (hSa.kept (hKd.then k' (fun i hi => .inr (by simp at hi; omega)) : Kp [] w w') (by simp))
    rw [← hka] at h
    exact h
  have HCb : Hid (∀ w', Kp [g4, g5] w2.drew w' → Calls Tryd.prog 5 #[.slice ab mb cb, .int .i64 40] w' fun e w'' => e = .returned (.slice ab kb cb) ∧ w'' = w') := fun w' k' => by
    have h := cut_val ab mb cb 40 rb w' (hSb.kept (hKd.then k' (fun i hi => .inr (by simp at hi; omega)) : Kp [] w w') (by simp))
    rw [← hkb] at h
    exact h
  have HG4d : Hid (w2.drew.heap[g4]? = some (.cells #[.int .i64 na, .slice aa ma ca] 24 (0, 0))) := G4
  have HG5d : Hid (w2.drew.heap[g5]? = some (.cells #[.int .i64 nb, .slice ab mb cb] 24 (0, 0))) := G5
  have HKd := hide hKd
  obtain ⟨ta, hta⟩ : ∃ t, t = ra.take 40 := ⟨_, rfl⟩
  obtain ⟨tb, htb⟩ : ∃ t, t = rb.take 40 := ⟨_, rfl⟩
  have HSA0 : Hid (∀ w', Kp [] w w' → Sl w' (.slice aa ka ca) ta) := fun w' k' => by rw [hta, hka]; exact cut_sl 40 (hSa.kept k' (by simp))
  have HSB0 : Hid (∀ w', Kp [] w w' → Sl w' (.slice ab kb cb) tb) := fun w' k' => by rw [htb, hkb]; exact cut_sl 40 (hSb.kept k' (by simp))
  have HBA : Hid (Bs ta) := hide (by rw [hta]; exact bs_take 40 hBa)
  have HBB : Hid (Bs tb) := hide (by rw [htb]; exact bs_take 40 hBb)
  obtain ⟨x, hx⟩ : ∃ x, x = wiP n 0 256 := ⟨_, rfl⟩
  obtain ⟨y, hy⟩ : ∃ x, x = wiP m 0 256 := ⟨_, rfl⟩
  have HXE := hide hx.symm
  have HYE := hide hy.symm
  have HW2 := hide hw2
  have H4 := hide hg4
  have H5 := hide hg5
  clear hw2 hg4 hg5 K2 G4 G5 hka hkb hSa hSb hBa hBb hta htb hx hy hG hAz hBz hn hm hKd hne
  go_enter Tryd.func3, Tryd.ntmps3
  go_wp2_with fail
  rw [← unhide HW2, ← unhide H5, ← unhide H4]
  refine region_growL (K := KT) (G := GB w2.drew g4 g5 na nb (.slice aa ma ca) (.slice aa ka ca) (.slice ab mb cb) (.slice ab kb cb)) Tryd.mixed [Is (.pointer (some ⟨g4, 1, none⟩)), Is (.slice aa ma ca), Is (.slice aa ka ca), Is (.pointer (some ⟨g5, 1, none⟩)), Is (.slice ab mb cb), Is (.slice ab kb cb), Is (.pointer (some ⟨g4, 1, none⟩)), AnyT, Is (.pointer (some ⟨g5, 1, none⟩)), AnyT] [[(4, none)], [(13, some 0)], [(14, some 1)], [(5, none)], [(16, some 3)], [(17, some 4)], [(4, none)], [(19, some 6), (15, some 2)], [(5, none)], [(20, some 8), (18, some 5)]] (by kernel_rfl) ?_ ?_ ?_ ?_ ?_
  · intro k R hR hd w'
    have hk : k < 10 := by have := (List.getElem?_eq_some_iff.1 hR).1; simpa using this
    rcases (by omega : k = 0 ∨ k = 1 ∨ k = 2 ∨ k = 3 ∨ k = 4 ∨ k = 5 ∨ k = 6 ∨ k = 7 ∨ k = 8 ∨ k = 9) with rfl | rfl | rfl | rfl | rfl | rfl | rfl | rfl | rfl | rfl <;> first | (cases hR; exact trivial) | cases hd
  · simp only [List.mem_cons, List.not_mem_nil, or_false]
    intro R hR
    rcases hR with rfl | rfl | rfl | rfl | rfl | rfl | rfl | rfl | rfl | rfl <;> first | exact stableG_isM _ | exact stableG_anyM
  · exact ⟨Kp.refl _ _, unhide HG4d, unhide HG5d⟩
  · refine steps_consL (fun listed a w hnot hdep hcl hsz hg hn => ?_) ?_
    · have h4 : a.eval (.tmp 4) = .pointer (some ⟨g4, 0, none⟩) := hn.1
      clear hn
      refine wantsG_of1M (fun _ _ => trivial) (fun v w' k => hg.free 0 (by decide) v k) ?_
      refine wants_plain rfl ?_
      refine grown_run (v := .pointer (some ⟨g4, 1, none⟩)) ?_ (Kp.refl _ _) rfl
      obtain ⟨ρ, hρ, hc, hf, hg'⟩ := eval_is a
      rw [hρ] at h4 ⊢
      simp [go_sem, h4]
    refine steps_consL (fun listed a w hnot hdep hcl hsz hg hn => ?_) ?_
    · have h13 : a.eval (.tmp 13) = .pointer (some ⟨g4, 1, none⟩) := hn.1
      clear hn
      refine wantsG_of1M (fun _ _ => trivial) (fun v w' k => hg.free 1 (by decide) v k) ?_
      refine wants_plain rfl ?_
      have hcell := hg.cellA (lstM hcl 7 2 rfl (by decide) (lstM hcl 2 1 rfl (by decide) hnot))
      refine grown_run (v := .slice aa ma ca) ?_ (Kp.refl _ _) rfl
      obtain ⟨ρ, hρ, hc, hf, hg'⟩ := eval_is a
      rw [hρ] at h13 ⊢
      simp [go_sem, h13, hcell]
    refine steps_consL (fun listed a w hnot hdep hcl hsz hg hn => ?_) ?_
    · have h14 : a.eval (.tmp 14) = .slice aa ma ca := hn.1
      clear hn
      refine wantsG_of1M (fun _ _ => trivial) (fun v w' k => hg.free 2 (by decide) v k) ?_
      refine wants_plain rfl ?_
      refine grown_call (f := 5) rfl Tryd.func5 (by kernel_rfl) (by kernel_rfl) ?_
      simp only [List.map_toArray, List.map_cons, List.map_nil, h14]
      refine (unhide HCa w hg.1).mono ?_
      rintro e w' ⟨rfl, rfl⟩
      exact ⟨_, rfl, Kp.refl _ _, rfl⟩
    refine steps_consL (fun listed a w hnot hdep hcl hsz hg hn => ?_) ?_
    · have h5 : a.eval (.tmp 5) = .pointer (some ⟨g5, 0, none⟩) := hn.1
      clear hn
      refine wantsG_of1M (fun _ _ => trivial) (fun v w' k => hg.free 3 (by decide) v k) ?_
      refine wants_plain rfl ?_
      refine grown_run (v := .pointer (some ⟨g5, 1, none⟩)) ?_ (Kp.refl _ _) rfl
      obtain ⟨ρ, hρ, hc, hf, hg'⟩ := eval_is a
      rw [hρ] at h5 ⊢
      simp [go_sem, h5]
    refine steps_consL (fun listed a w hnot hdep hcl hsz hg hn => ?_) ?_
    · have h16 : a.eval (.tmp 16) = .pointer (some ⟨g5, 1, none⟩) := hn.1
      clear hn
      refine wantsG_of1M (fun _ _ => trivial) (fun v w' k => hg.free 4 (by decide) v k) ?_
      refine wants_plain rfl ?_
      have hcell := hg.cellB (lstM hcl 9 5 rfl (by decide) (lstM hcl 5 4 rfl (by decide) hnot))
      refine grown_run (v := .slice ab mb cb) ?_ (Kp.refl _ _) rfl
      obtain ⟨ρ, hρ, hc, hf, hg'⟩ := eval_is a
      rw [hρ] at h16 ⊢
      simp [go_sem, h16, hcell]
    refine steps_consL (fun listed a w hnot hdep hcl hsz hg hn => ?_) ?_
    · have h17 : a.eval (.tmp 17) = .slice ab mb cb := hn.1
      clear hn
      refine wantsG_of1M (fun _ _ => trivial) (fun v w' k => hg.free 5 (by decide) v k) ?_
      refine wants_plain rfl ?_
      refine grown_call (f := 5) rfl Tryd.func5 (by kernel_rfl) (by kernel_rfl) ?_
      simp only [List.map_toArray, List.map_cons, List.map_nil, h17]
      refine (unhide HCb w hg.1).mono ?_
      rintro e w' ⟨rfl, rfl⟩
      exact ⟨_, rfl, Kp.refl _ _, rfl⟩
    refine steps_consL (fun listed a w hnot hdep hcl hsz hg hn => ?_) ?_
    · have h4 : a.eval (.tmp 4) = .pointer (some ⟨g4, 0, none⟩) := hn.1
      clear hn
      refine wantsG_of1M (fun _ _ => trivial) (fun v w' k => hg.free 6 (by decide) v k) ?_
      refine wants_plain rfl ?_
      refine grown_run (v := .pointer (some ⟨g4, 1, none⟩)) ?_ (Kp.refl _ _) rfl
      obtain ⟨ρ, hρ, hc, hf, hg'⟩ := eval_is a
      rw [hρ] at h4 ⊢
      simp [go_sem, h4]
    refine steps_consL (fun listed a w hnot hdep hcl hsz hg hn => ?_) ?_
    · have h19 : a.eval (.tmp 19) = .pointer (some ⟨g4, 1, none⟩) := hn.1
      have h15 : a.eval (.tmp 15) = .slice aa ka ca := hn.2.1
      clear hn
      exact hg.sta (unhide HNE) hsz rfl rfl h19 h15
    refine steps_consL (fun listed a w hnot hdep hcl hsz hg hn => ?_) ?_
    · have h5 : a.eval (.tmp 5) = .pointer (some ⟨g5, 0, none⟩) := hn.1
      clear hn
      refine wantsG_of1M (fun _ _ => trivial) (fun v w' k => hg.free 8 (by decide) v k) ?_
      refine wants_plain rfl ?_
      refine grown_run (v := .pointer (some ⟨g5, 1, none⟩)) ?_ (Kp.refl _ _) rfl
      obtain ⟨ρ, hρ, hc, hf, hg'⟩ := eval_is a
      rw [hρ] at h5 ⊢
      simp [go_sem, h5]
    refine steps_consL (fun listed a w hnot hdep hcl hsz hg hn => ?_) ?_
    · have h20 : a.eval (.tmp 20) = .pointer (some ⟨g5, 1, none⟩) := hn.1
      have h18 : a.eval (.tmp 18) = .slice ab kb cb := hn.2.1
      clear hn
      exact hg.stb (unhide HNE) hsz rfl rfl h20 h18
    exact trivial
  intro w3
  rintro _ rfl
  rintro _ rfl
  rintro _ rfl
  rintro _ rfl
  rintro _ rfl
  rintro _ rfl
  rintro _ rfl
  intro _ _
  rintro _ rfl
  intro _ _
  refine fin_nil ?_
  intro listed hall hgg
  obtain ⟨hKw, hG43, hG53⟩ := hgg
  rw [hall 7 (by decide), if_pos rfl] at hG43
  rw [hall 9 (by decide), if_pos rfl] at hG53
  simp only [Act.put, List.set_cons_zero, List.set_cons_succ, List.setIfInBounds_toArray]
  have K3 : Kp [] w w3 := (unhide HKd).then hKw (fun i hi => .inr (by have := unhide H4; have := unhide H5; simp at hi; omega))
  have HD3 : Hid (∀ w', Kp [] w3.drew w' → Kp [] w3 w') := fun w' k' => (kp_drew w3).trans k'
  have HSA : Hid (∀ w', Kp [] w3.drew w' → Sl w' (.slice aa ka ca) ta) := fun w' k' => unhide HSA0 w' (K3.trans (unhide HD3 w' k'))
  have HT4 : Hid (∀ w', Kp [] w3.drew w' → w'.heap[g4]? = some (.cells #[.int .i64 na, .slice aa ka ca] 24 (0, 0))) := fun w' k' => (unhide HD3 w' k').heap hG43 (by simp)
  have HK3 := hide K3
  have HG43 := hide hG43
  have HG53 := hide hG53
  clear hG43 hG53 K3 hKw hall HCa HCb HG4d HG5d HNE HW2 HKd
  go_wp2_with fail
  refine region_grow_tail 7 Tryd.mixed [Is (.int .i64 n), Is (.int .i64 x), Is (.pointer (some ⟨g4, 1, none⟩)), Is (.slice aa ka ca), H32, C32 x, NewC w3.drew.heap.size] [[(2, none)], [(21, some 0)], [(4, none)], [(23, some 2)], [(24, some 3)], [(22, some 1), (25, some 4)], []] (by kernel_rfl) ?_ ?_ ?_
  all_goals try simp only [List.take_succ_cons, List.take_zero, List.drop_succ_cons, List.drop_zero]
  · simp only [List.mem_cons, List.not_mem_nil, or_false]
    intro R hR
    rcases hR with rfl | rfl | rfl | rfl | rfl | rfl | rfl <;> first | exact stable_is _ | exact stable_h32 | exact stable_c32 _ | exact stable_newc _
  · refine steps_cons (fun a w hk hn => ?_) ?_
    · have h2 : a.eval (.tmp 2) = .int .i64 n := hn.1
      clear hn
      refine wants_plain rfl ?_
      exact grown_move (.tmp 2) rfl h2
    refine steps_cons (fun a w hk hn => ?_) ?_
    · have h21 : a.eval (.tmp 21) = .int .i64 n := hn.1
      clear hn
      refine wants_plain rfl ?_
      refine grown_call (f := 6) rfl Tryd.func6 (by kernel_rfl) (by kernel_rfl) ?_
      simp only [List.map_toArray, List.map_cons, List.map_nil, h21]
      refine (within_wi n 0 256 w (by omega) (by omega) (by omega)).mono ?_
      rintro e w' ⟨rfl, rfl⟩
      exact ⟨_, rfl, Kp.refl _ _, congrArg (Value.int .i64) (unhide HXE)⟩
    refine steps_cons (fun a w hk hn => ?_) ?_
    · have h4 : a.eval (.tmp 4) = .pointer (some ⟨g4, 0, none⟩) := hn.1
      clear hn
      refine wants_plain rfl ?_
      refine grown_run (v := .pointer (some ⟨g4, 1, none⟩)) ?_ (Kp.refl _ _) rfl
      obtain ⟨ρ, hρ, hc, hf, hg⟩ := eval_is a
      rw [hρ] at h4 ⊢
      simp [go_sem, h4]
    refine steps_cons (fun a w hk hn => ?_) ?_
    · have h23 : a.eval (.tmp 23) = .pointer (some ⟨g4, 1, none⟩) := hn.1
      clear hn
      refine wants_plain rfl ?_
      refine grown_run (v := .slice aa ka ca) ?_ (Kp.refl _ _) rfl
      have hcell : w.cell? ⟨g4, 1, none⟩ = some (.slice aa ka ca) := by rw [cell_of_row w g4 1 _ _ _ (unhide HT4 w hk)]; rfl
      obtain ⟨ρ, hρ, hc, hf, hg⟩ := eval_is a
      rw [hρ] at h23 ⊢
      simp [go_sem, h23, hcell]
    refine steps_cons (fun a w hk hn => ?_) ?_
    · have h24 : a.eval (.tmp 24) = .slice aa ka ca := hn.1
      clear hn
      refine wants_plain rfl ?_
      refine grown_call (f := 7) rfl Tryd.func7 (by kernel_rfl) (by kernel_rfl) ?_
      simp only [List.map_toArray, List.map_cons, List.map_nil, h24]
      refine (sized_any _ ta w (unhide HSA w hk) (unhide HBA)).mono ?_
      rintro e w' ⟨g', r', rfl, h32, hB', R, K⟩
      exact ⟨_, rfl, K, ⟨r', h32, hB', R.sl⟩⟩
    refine steps_cons (fun a w hk hn => ?_) ?_
    · have h22 : a.eval (.tmp 22) = .int .i64 x := hn.1
      have h25 : (H32) (a.eval (.tmp 25)) w := hn.2.1
      clear hn
      refine wants_plain rfl ?_
      exact grown_c32 (.tmp 22) (.tmp 25) rfl h22 h25
    refine steps_cons (fun a w hk hn => ?_) ?_
    · clear hn
      refine wants_plain rfl ?_
      exact grown_newc _ hk.size rfl
    exact trivial
  intro W1 hkW1
  rintro _ rfl
  rintro _ rfl
  rintro _ rfl
  rintro _ rfl
  intro v25 h25
  intro v26 h26
  intro v9 h9
  refine fin_nil ?_
  simp only [Act.put, List.set_cons_zero, List.set_cons_succ, List.setIfInBounds_toArray]
  obtain ⟨r1, hlr1, Cr1⟩ := h26
  obtain ⟨ar, mr, cr, rfl, hSr1, hBr1⟩ := id Cr1
  obtain ⟨g9, rfl, Gg9, hbg9⟩ := h9
  have HCr1 := hide Cr1
  have HLr1 := hide hlr1
  have HNr1 := hide hbg9
  have HWr1 := hide hkW1
  have hNo := noBy_chk Gg9
  have HNo := hide hNo
  clear hlr1 hSr1 hBr1 Cr1 hkW1 hNo h25
  go_wp2_with (refine wpList_store_flat rfl 24 (.tmp 9) (.tmp 26) rfl g9 0 rfl _ _ [.int .i64 x, .slice ar mr cr] Gg9 rfl (by simp) Tryd.chkSize (by simp [Value.oneCell']) #[.int .i64 x, .slice ar mr cr] rfl ?_; intro w4 Gw4 Kw4; refine Hid.out ?_)
  have K4 : Kp [] w3 w4 := (unhide HD3 _ (unhide HWr1)).then Kw4 (fun i hi => .inr (by simp at hi; have := unhide HNr1; have e : w3.drew.heap.size = w3.heap.size := rfl; omega))
  have HC9 := hide ((unhide HCr1).offBy (unhide HNo) Kw4)
  have HG9 := hide Gw4
  have HK4 := hide ((unhide HK3).trans K4)
  have hG54 := K4.heap (unhide HG53) (by simp)
  have HG44 := hide (K4.heap (unhide HG43) (by simp))
  have HG54 := hide hG54
  have HD4 : Hid (∀ w', Kp [] w4.drew w' → Kp [] w4 w') := fun w' k' => (kp_drew w4).trans k'
  have HSB : Hid (∀ w', Kp [] w4.drew w' → Sl w' (.slice ab kb cb) tb) := fun w' k' => unhide HSB0 w' ((unhide HK4).trans (unhide HD4 w' k'))
  have HT5 : Hid (∀ w', Kp [] w4.drew w' → w'.heap[g5]? = some (.cells #[.int .i64 nb, .slice ab kb cb] 24 (0, 0))) := fun w' k' => (unhide HD4 w' k').heap hG54 (by simp)
  clear Gw4 Kw4 K4 HNo HWr1 HNr1 HCr1 hbg9 Gg9 HT4 HSA HD3 HG43 HG53 HK3 hG54
  refine hide ?_
  go_wp2_with fail
  refine region_grow_tail 7 Tryd.mixed [Is (.int .i64 m), Is (.int .i64 y), Is (.pointer (some ⟨g5, 1, none⟩)), Is (.slice ab kb cb), H32, C32 y, NewC w4.drew.heap.size] [[(3, none)], [(27, some 0)], [(5, none)], [(29, some 2)], [(30, some 3)], [(28, some 1), (31, some 4)], []] (by kernel_rfl) ?_ ?_ ?_
  all_goals try simp only [List.take_succ_cons, List.take_zero, List.drop_succ_cons, List.drop_zero]
  · simp only [List.mem_cons, List.not_mem_nil, or_false]
    intro R hR
    rcases hR with rfl | rfl | rfl | rfl | rfl | rfl | rfl <;> first | exact stable_is _ | exact stable_h32 | exact stable_c32 _ | exact stable_newc _
  · refine steps_cons (fun a w hk hn => ?_) ?_
    · have h3 : a.eval (.tmp 3) = .int .i64 m := hn.1
      clear hn
      refine wants_plain rfl ?_
      exact grown_move (.tmp 3) rfl h3
    refine steps_cons (fun a w hk hn => ?_) ?_
    · have h27 : a.eval (.tmp 27) = .int .i64 m := hn.1
      clear hn
      refine wants_plain rfl ?_
      refine grown_call (f := 6) rfl Tryd.func6 (by kernel_rfl) (by kernel_rfl) ?_
      simp only [List.map_toArray, List.map_cons, List.map_nil, h27]
      refine (within_wi m 0 256 w (by omega) (by omega) (by omega)).mono ?_
      rintro e w' ⟨rfl, rfl⟩
      exact ⟨_, rfl, Kp.refl _ _, congrArg (Value.int .i64) (unhide HYE)⟩
    refine steps_cons (fun a w hk hn => ?_) ?_
    · have h5 : a.eval (.tmp 5) = .pointer (some ⟨g5, 0, none⟩) := hn.1
      clear hn
      refine wants_plain rfl ?_
      refine grown_run (v := .pointer (some ⟨g5, 1, none⟩)) ?_ (Kp.refl _ _) rfl
      obtain ⟨ρ, hρ, hc, hf, hg⟩ := eval_is a
      rw [hρ] at h5 ⊢
      simp [go_sem, h5]
    refine steps_cons (fun a w hk hn => ?_) ?_
    · have h29 : a.eval (.tmp 29) = .pointer (some ⟨g5, 1, none⟩) := hn.1
      clear hn
      refine wants_plain rfl ?_
      refine grown_run (v := .slice ab kb cb) ?_ (Kp.refl _ _) rfl
      have hcell : w.cell? ⟨g5, 1, none⟩ = some (.slice ab kb cb) := by rw [cell_of_row w g5 1 _ _ _ (unhide HT5 w hk)]; rfl
      obtain ⟨ρ, hρ, hc, hf, hg⟩ := eval_is a
      rw [hρ] at h29 ⊢
      simp [go_sem, h29, hcell]
    refine steps_cons (fun a w hk hn => ?_) ?_
    · have h30 : a.eval (.tmp 30) = .slice ab kb cb := hn.1
      clear hn
      refine wants_plain rfl ?_
      refine grown_call (f := 7) rfl Tryd.func7 (by kernel_rfl) (by kernel_rfl) ?_
      simp only [List.map_toArray, List.map_cons, List.map_nil, h30]
      refine (sized_any _ tb w (unhide HSB w hk) (unhide HBB)).mono ?_
      rintro e w' ⟨g', r', rfl, h32, hB', R, K⟩
      exact ⟨_, rfl, K, ⟨r', h32, hB', R.sl⟩⟩
    refine steps_cons (fun a w hk hn => ?_) ?_
    · have h28 : a.eval (.tmp 28) = .int .i64 y := hn.1
      have h31 : (H32) (a.eval (.tmp 31)) w := hn.2.1
      clear hn
      refine wants_plain rfl ?_
      exact grown_c32 (.tmp 28) (.tmp 31) rfl h28 h31
    refine steps_cons (fun a w hk hn => ?_) ?_
    · clear hn
      refine wants_plain rfl ?_
      exact grown_newc _ hk.size rfl
    exact trivial
  intro W2 hkW2
  rintro _ rfl
  rintro _ rfl
  rintro _ rfl
  rintro _ rfl
  intro v31 h31
  intro v32 h32
  intro v10 h10
  refine fin_nil ?_
  simp only [Act.put, List.set_cons_zero, List.set_cons_succ, List.setIfInBounds_toArray]
  obtain ⟨r2, hlr2, Cr2⟩ := h32
  obtain ⟨br, kr, dr, rfl, hSr2, hBr2⟩ := id Cr2
  obtain ⟨g10, rfl, Gg10, hbg10⟩ := h10
  have HCr2 := hide Cr2
  have HLr2 := hide hlr2
  have HNr2 := hide hbg10
  have HWr2 := hide hkW2
  have hNo := noBy_chk Gg10
  have HNo := hide hNo
  clear hlr2 hSr2 hBr2 Cr2 hkW2 hNo h31
  go_wp2_with (refine wpList_store_flat rfl 24 (.tmp 10) (.tmp 32) rfl g10 0 rfl _ _ [.int .i64 y, .slice br kr dr] Gg10 rfl (by simp) Tryd.chkSize (by simp [Value.oneCell']) #[.int .i64 y, .slice br kr dr] rfl ?_; intro w5 Gw5 Kw5; refine Hid.out ?_)
  have K5 : Kp [] w4 w5 := (unhide HD4 _ (unhide HWr2)).then Kw5 (fun i hi => .inr (by simp at hi; have := unhide HNr2; have e : w4.drew.heap.size = w4.heap.size := rfl; omega))
  have HK5 := hide ((unhide HK4).trans K5)
  have hC10 := (unhide HCr2).offBy (unhide HNo) Kw5
  have hC9 := (unhide HC9).kept K5
  have hG9 := K5.heap (unhide HG9) (by simp)
  have hG10 := Gw5
  have HG45 := hide (K5.heap (unhide HG44) (by simp))
  have HG55 := hide (K5.heap (unhide HG54) (by simp))
  have HD5 : Hid (∀ w', Kp [] w5.drew w' → Kp [] w5 w') := fun w' k' => (kp_drew w5).trans k'
  have HT9 : Hid (∀ w', Kp [] w5.drew w' → w'.heap[g9]? = some (.cells #[.int .i64 x, .slice ar mr cr] 24 (0, 0))) := fun w' k' => (unhide HD5 w' k').heap hG9 (by simp)
  have HT10 : Hid (∀ w', Kp [] w5.drew w' → w'.heap[g10]? = some (.cells #[.int .i64 y, .slice br kr dr] 24 (0, 0))) := fun w' k' => (unhide HD5 w' k').heap hG10 (by simp)
  have HC10 : Hid (∀ w', Kp [] w5.drew w' → CkV w' (.agg #[.int .i64 y, .slice br kr dr]) y r2) := fun w' k' => hC10.kept (unhide HD5 w' k')
  have HC9' : Hid (∀ w', Kp [] w5.drew w' → CkV w' (.agg #[.int .i64 x, .slice ar mr cr]) x r1) := fun w' k' => hC9.kept (unhide HD5 w' k')
  have hq1 : rgtC x r1 = true := (rgtC_iff _ _).2 ⟨by have := wiP_ge n 0 256 (by omega); rw [unhide HXE] at this; exact this, unhide HLr1⟩
  have hq2 : rgtC y r2 = true := (rgtC_iff _ _).2 ⟨by have := wiP_ge m 0 256 (by omega); rw [unhide HYE] at this; exact this, unhide HLr2⟩
  obtain ⟨B1, hB1⟩ : ∃ B, B = bodC x r1 := ⟨_, rfl⟩
  obtain ⟨B2, hB2⟩ : ∃ B, B = bodC y r2 := ⟨_, rfl⟩
  obtain ⟨S1, hS1⟩ : ∃ S, S = strOfNums B1 := ⟨_, rfl⟩
  obtain ⟨S2, hS2⟩ : ∃ S, S = strOfNums B2 := ⟨_, rfl⟩
  obtain ⟨bb, hbb⟩ : ∃ b, b = decide (x = y ∧ r1 = r2) := ⟨_, rfl⟩
  have HBE : Hid ((S1.toList == S2.toList) = bb) := by
    show (S1.toList == S2.toList) = bb
    rw [hS1, hS2, hbb, ← bodC_inj hq1 hq2, hB1, hB2]
    obtain ⟨_, _, _, _, _, b1⟩ := hC9
    obtain ⟨_, _, _, _, _, b2⟩ := hC10
    exact str_beq _ _ (bodC_bs x r1 b1) (bodC_bs y r2 b2)
  have HL1 : Hid (B1.length = 52) := hide (by rw [hB1]; exact bodC_len hq1)
  have HB1 := hide hB1
  have HB2 := hide hB2
  have HS1 := hide hS1
  have HS2 := hide hS2
  have Hbb := hide hbb
  have HG9' := hide hG9
  clear Gw5 Kw5 K5 HNo HWr2 HNr2 HCr2 hbg10 Gg10 HT5 HSB HD4 HG44 HG54 HK4 hC10 hC9 hG9 hG10 hq1 hq2 hB1 hB2 hS1 hS2 hbb HC9 HG9
  have HC9 := HC9'
  clear HC9'
  refine hide ?_
  go_wp2_with fail
  refine region_grow Tryd.mixed [Is (.agg #[.int .i64 x, .slice ar mr cr]), SlT (B1), Is (.string S1), Is (.agg #[.int .i64 y, .slice br kr dr]), SlT (B2), Is (.string S2), Is (.bool bb), Is (.agg #[.int .i64 x, .slice ar mr cr]), Is (.agg #[.int .i64 y, .slice br kr dr]), Is (.bool bb), Is (.bool false), Is (.bool false), Is (.agg #[.int .i64 x, .slice ar mr cr]), SlT (B1), Is (.int .i64 52), Is (.bool false), Is (.bool false)] [[(9, none)], [(33, some 0)], [(34, some 1)], [(10, none)], [(36, some 3)], [(37, some 4)], [(35, some 2), (38, some 5)], [(9, none)], [(10, none)], [(40, some 7), (41, some 8)], [(39, some 6), (42, some 9)], [(43, some 10)], [(9, none), (44, some 11)], [(45, some 12), (44, some 11)], [(46, some 13), (44, some 11)], [(47, some 14), (44, some 11)], [(44, some 11), (48, some 15)]] (by kernel_rfl) ?_ ?_ ?_
  · simp only [List.mem_cons, List.not_mem_nil, or_false]
    intro R hR
    rcases hR with rfl | rfl | rfl | rfl | rfl | rfl | rfl | rfl | rfl | rfl | rfl | rfl | rfl | rfl | rfl | rfl | rfl <;> first | exact stable_is _ | exact stable_sl _
  · refine steps_cons (fun a w hk hn => ?_) ?_
    · have h9 : a.eval (.tmp 9) = .pointer (some ⟨g9, 0, none⟩) := hn.1
      clear hn
      refine wants_plain rfl ?_
      exact grown_loadf 24 (.tmp 9) rfl g9 0 h9 _ _ _ _ (unhide HT9 w hk) [.int .i64 x, .slice ar mr cr] (flat_in rfl) Tryd.underlying24 rfl Tryd.chkSize rfl
    refine steps_cons (fun a w hk hn => ?_) ?_
    · have h33 : a.eval (.tmp 33) = .agg #[.int .i64 x, .slice ar mr cr] := hn.1
      clear hn
      refine wants_plain rfl ?_
      refine grown_call (f := 8) rfl Tryd.func8 (by kernel_rfl) (by kernel_rfl) ?_
      simp only [List.map_toArray, List.map_cons, List.map_nil, h33]
      refine (ckbody_any _ x r1 B1 (unhide HB1) w (unhide HC9 w hk)).mono ?_
      rintro e w' ⟨ao, m, c, rfl, R, K⟩
      exact ⟨_, rfl, K, R⟩
    refine steps_cons (fun a w hk hn => ?_) ?_
    · have h34 : Sl w (a.eval (.tmp 34)) (B1) := hn.1
      clear hn
      refine wants_plain rfl ?_
      exact grown_conv (.tmp 34) _ _ 5 _ rfl h34 Tryd.underlying22 Tryd.underlying5 Tryd.underlying9 (congrArg Value.string (unhide HS1).symm)
    refine steps_cons (fun a w hk hn => ?_) ?_
    · have h10 : a.eval (.tmp 10) = .pointer (some ⟨g10, 0, none⟩) := hn.1
      clear hn
      refine wants_plain rfl ?_
      exact grown_loadf 24 (.tmp 10) rfl g10 0 h10 _ _ _ _ (unhide HT10 w hk) [.int .i64 y, .slice br kr dr] (flat_in rfl) Tryd.underlying24 rfl Tryd.chkSize rfl
    refine steps_cons (fun a w hk hn => ?_) ?_
    · have h36 : a.eval (.tmp 36) = .agg #[.int .i64 y, .slice br kr dr] := hn.1
      clear hn
      refine wants_plain rfl ?_
      refine grown_call (f := 8) rfl Tryd.func8 (by kernel_rfl) (by kernel_rfl) ?_
      simp only [List.map_toArray, List.map_cons, List.map_nil, h36]
      refine (ckbody_any _ y r2 B2 (unhide HB2) w (unhide HC10 w hk)).mono ?_
      rintro e w' ⟨ao, m, c, rfl, R, K⟩
      exact ⟨_, rfl, K, R⟩
    refine steps_cons (fun a w hk hn => ?_) ?_
    · have h37 : Sl w (a.eval (.tmp 37)) (B2) := hn.1
      clear hn
      refine wants_plain rfl ?_
      exact grown_conv (.tmp 37) _ _ 5 _ rfl h37 Tryd.underlying22 Tryd.underlying5 Tryd.underlying9 (congrArg Value.string (unhide HS2).symm)
    refine steps_cons (fun a w hk hn => ?_) ?_
    · have h35 : a.eval (.tmp 35) = .string S1 := hn.1
      have h38 : a.eval (.tmp 38) = .string S2 := hn.2.1
      clear hn
      refine wants_plain rfl ?_
      refine grown_run (v := .bool bb) ?_ (Kp.refl _ _) rfl
      obtain ⟨ρ, hρ, hc, hf, hg⟩ := eval_is a
      rw [hρ] at h35 h38 ⊢
      have hE := unhide HBE
      simp [go_sem, h35, h38, hE]
    refine steps_cons (fun a w hk hn => ?_) ?_
    · have h9 : a.eval (.tmp 9) = .pointer (some ⟨g9, 0, none⟩) := hn.1
      clear hn
      refine wants_plain rfl ?_
      exact grown_loadf 24 (.tmp 9) rfl g9 0 h9 _ _ _ _ (unhide HT9 w hk) [.int .i64 x, .slice ar mr cr] (flat_in rfl) Tryd.underlying24 rfl Tryd.chkSize rfl
    refine steps_cons (fun a w hk hn => ?_) ?_
    · have h10 : a.eval (.tmp 10) = .pointer (some ⟨g10, 0, none⟩) := hn.1
      clear hn
      refine wants_plain rfl ?_
      exact grown_loadf 24 (.tmp 10) rfl g10 0 h10 _ _ _ _ (unhide HT10 w hk) [.int .i64 y, .slice br kr dr] (flat_in rfl) Tryd.underlying24 rfl Tryd.chkSize rfl
    refine steps_cons (fun a w hk hn => ?_) ?_
    · have h40 : a.eval (.tmp 40) = .agg #[.int .i64 x, .slice ar mr cr] := hn.1
      have h41 : a.eval (.tmp 41) = .agg #[.int .i64 y, .slice br kr dr] := hn.2.1
      clear hn
      refine wants_plain rfl ?_
      refine grown_call (f := 9) rfl Tryd.func9 (by kernel_rfl) (by kernel_rfl) ?_
      simp only [List.map_toArray, List.map_cons, List.map_nil, h40, h41]
      refine (cksame_any _ _ x y r1 r2 bb (unhide Hbb) w (unhide HC9 w hk) (unhide HC10 w hk)).mono ?_
      rintro e w' ⟨rfl, K⟩
      exact ⟨_, rfl, K, rfl⟩
    refine steps_cons (fun a w hk hn => ?_) ?_
    · have h39 : a.eval (.tmp 39) = .bool bb := hn.1
      have h42 : a.eval (.tmp 42) = .bool bb := hn.2.1
      clear hn
      refine wants_plain rfl ?_
      refine grown_run (v := .bool false) ?_ (Kp.refl _ _) rfl
      obtain ⟨ρ, hρ, hc, hf, hg⟩ := eval_is a
      rw [hρ] at h39 h42 ⊢
      simp [go_sem, h39, h42]
    refine steps_cons (fun a w hk hn => ?_) ?_
    · have h43 : a.eval (.tmp 43) = .bool false := hn.1
      clear hn
      refine wants_plain rfl ?_
      exact grown_move (.tmp 43) rfl h43
    refine steps_cons (fun a w hk hn => ?_) ?_
    · have h9 : a.eval (.tmp 9) = .pointer (some ⟨g9, 0, none⟩) := hn.1
      have h44 : a.eval (.tmp 44) = .bool false := hn.2.1
      clear hn
      refine wants_guard (d := 44) rfl rfl h44 ?_
      exact grown_loadf 24 (.tmp 9) rfl g9 0 h9 _ _ _ _ (unhide HT9 w hk) [.int .i64 x, .slice ar mr cr] (flat_in rfl) Tryd.underlying24 rfl Tryd.chkSize rfl
    refine steps_cons (fun a w hk hn => ?_) ?_
    · have h45 : a.eval (.tmp 45) = .agg #[.int .i64 x, .slice ar mr cr] := hn.1
      have h44 : a.eval (.tmp 44) = .bool false := hn.2.1
      clear hn
      refine wants_guard (d := 44) rfl rfl h44 ?_
      refine grown_call (f := 8) rfl Tryd.func8 (by kernel_rfl) (by kernel_rfl) ?_
      simp only [List.map_toArray, List.map_cons, List.map_nil, h45]
      refine (ckbody_any _ x r1 B1 (unhide HB1) w (unhide HC9 w hk)).mono ?_
      rintro e w' ⟨ao, m, c, rfl, R, K⟩
      exact ⟨_, rfl, K, R⟩
    refine steps_cons (fun a w hk hn => ?_) ?_
    · have h46 : Sl w (a.eval (.tmp 46)) (B1) := hn.1
      have h44 : a.eval (.tmp 44) = .bool false := hn.2.1
      clear hn
      refine wants_guard (d := 44) rfl rfl h44 ?_
      exact grown_blenX (.tmp 46) B1 52 rfl h46 (unhide HL1)
    refine steps_cons (fun a w hk hn => ?_) ?_
    · have h47 : a.eval (.tmp 47) = .int .i64 52 := hn.1
      have h44 : a.eval (.tmp 44) = .bool false := hn.2.1
      clear hn
      refine wants_guard (d := 44) rfl rfl h44 ?_
      refine grown_run (v := .bool false) ?_ (Kp.refl _ _) rfl
      obtain ⟨ρ, hρ, hc, hf, hg⟩ := eval_is a
      rw [hρ] at h47 ⊢
      simp [go_sem, hc, h47]
    refine steps_cons (fun a w hk hn => ?_) ?_
    · have h44 : a.eval (.tmp 44) = .bool false := hn.1
      have h48 : a.eval (.tmp 48) = .bool false := hn.2.1
      clear hn
      refine wants_plain rfl ?_
      exact grown_pick _ _ _ false rfl h44 h48
    exact trivial
  intro W3 hkW3
  rintro _ rfl
  intro v34 h34
  rintro _ rfl
  rintro _ rfl
  intro v37 h37
  rintro _ rfl
  rintro _ rfl
  rintro _ rfl
  rintro _ rfl
  rintro _ rfl
  rintro _ rfl
  rintro _ rfl
  rintro _ rfl
  intro v46 h46
  rintro _ rfl
  rintro _ rfl
  rintro _ rfl
  refine fin_nil ?_
  simp only [Act.put, List.set_cons_zero, List.set_cons_succ, List.setIfInBounds_toArray]
  have K6 := unhide HD5 W3 hkW3
  have HK6 := hide ((unhide HK5).trans K6)
  have G46 := K6.heap (unhide HG45) (by simp)
  have G56 := K6.heap (unhide HG55) (by simp)
  have HG96 := hide (K6.heap (unhide HG9') (by simp))
  have HC96 := hide (unhide HC9 W3 hkW3)
  have e0 : W3.cell? ⟨g4, 0, none⟩ = some (.int .i64 na) := by rw [cell_of_row W3 g4 0 _ _ _ G46]; rfl
  have e1 : W3.cell? ⟨g4, 1, none⟩ = some (.slice aa ka ca) := by rw [cell_of_row W3 g4 1 _ _ _ G46]; rfl
  have f0 : W3.cell? ⟨g5, 0, none⟩ = some (.int .i64 nb) := by rw [cell_of_row W3 g5 0 _ _ _ G56]; rfl
  have f1 : W3.cell? ⟨g5, 1, none⟩ = some (.slice ab kb cb) := by rw [cell_of_row W3 g5 1 _ _ _ G56]; rfl
  obtain ⟨w7, hw7⟩ : ∃ w7, w7 = W3.alloc (.cells #[.int .i64 na, .slice aa ka ca, .int .i64 nb, .slice ab kb cb] 24) := ⟨_, rfl⟩
  obtain ⟨gl, hgl⟩ : ∃ g, g = W3.heap.size := ⟨_, rfl⟩
  have K67 : Kp [] W3 w7 := by rw [hw7]; exact (Kp.refl [] W3).alloc _
  have HGL : Hid (w7.heap[gl]? = some (.cells #[.int .i64 na, .slice aa ka ca, .int .i64 nb, .slice ab kb cb] 24 (0, 0))) := by rw [hw7, hgl]; exact heap_alloc_new W3 _
  have HG97 := hide (K67.heap (unhide HG96) (by simp))
  have HC97 := hide ((unhide HC96).kept K67)
  have HK7 := hide ((unhide HK6).trans K67)
  have HW7 := hide hw7
  have HGl := hide hgl
  clear h34 h37 h46 hkW3 K6 G46 G56 HT9 HT10 HC9 HC10 HG45 HG55 HG9' HBE HL1 HK5 hw7 hgl K67 HG96 HC96 HD5 HK6
  go_wp2_with fail
  rw [← unhide HW7, ← unhide HGl]
  clear e0 e1 f0 f1 HW7
  go_loopw [12, 54] (fun _ i wr => ∃ k : Nat, k ≤ 2 ∧ i = .int .i64 k ∧ Kp [] w7 wr) (fun _ i _ => 2 - (intOf i).toNat)
  case atStart => exact ⟨0, by omega, rfl, Kp.refl _ _⟩
  case round =>
    obtain ⟨k, hk2, rfl, Kr⟩ := hrel
    have HKr := hide Kr
    clear Kr
    by_cases hlt : k < 2
    · have hlt2 : (k : Int) < 2 := by omega
      have hx : ∃ nx ax mx cx tx, wr.cell? ⟨gl, k * 2, none⟩ = some (.int .i64 nx) ∧ wr.cell? ⟨gl, k * 2 + 1, none⟩ = some (.slice ax mx cx) ∧ Bs tx ∧ ∀ w', Kp [] w w' → Sl w' (.slice ax mx cx) tx := by
        have Gr := (unhide HKr).heap (unhide HGL) (by simp)
        rcases (by omega : k = 0 ∨ k = 1) with rfl | rfl
        · exact ⟨na, aa, ka, ca, ta, by rw [cell_of_row wr gl _ _ _ _ Gr]; rfl, by rw [cell_of_row wr gl _ _ _ _ Gr]; rfl, unhide HBA, unhide HSA0⟩
        · exact ⟨nb, ab, kb, cb, tb, by rw [cell_of_row wr gl _ _ _ _ Gr]; rfl, by rw [cell_of_row wr gl _ _ _ _ Gr]; rfl, unhide HBB, unhide HSB0⟩
      obtain ⟨nx, ax, mx, cx, tx, q0, q1, hBx, hSx⟩ := hx
      have HBx := hide hBx
      have HSx := hide hSx
      have Ga := heap_alloc_new wr (.cells #[.int .i64 0, .slice none 0 0] 24)
      have HKa : Hid (Kp [] wr (wr.alloc (.cells #[.int .i64 0, .slice none 0 0] 24))) := (Kp.refl [] wr).alloc _
      clear hBx hSx
      go_wp2_with (refine wpList_store_flat rfl 24 (.tmp 12) (.tmp 57) rfl wr.heap.size 0 rfl _ _ [.int .i64 nx, .slice ax mx cx] Ga rfl (by simp) Tryd.chkSize (by simp [Value.oneCell']) #[.int .i64 nx, .slice ax mx cx] rfl ?_; intro w8 G8 K8; refine Hid.out ?_)
      obtain ⟨g12, hg12⟩ : ∃ g, g = wr.heap.size := ⟨_, rfl⟩
      have Kr8 : Kp [] wr w8 := (unhide HKa).then K8 (fun i hi => .inr (by simp at hi; omega))
      rw [← hg12] at G8 ⊢
      have HD8 : Hid (∀ w', Kp [] w8.drew w' → Kp [] wr w') := fun w' k' => Kr8.trans ((kp_drew w8).trans k')
      have HT12 : Hid (∀ w', Kp [] w8.drew w' → w'.heap[g12]? = some (.cells #[.int .i64 nx, .slice ax mx cx] 24 (0, 0))) := fun w' k' => ((kp_drew w8).trans k').heap G8 (by simp)
      have HCX : Hid (∀ w', Kp [] w8.drew w' → CkV w' (.agg #[.int .i64 nx, .slice ax mx cx]) nx tx) := fun w' k' => ⟨ax, mx, cx, rfl, unhide HSx w' (((unhide HK7).trans (unhide HKr)).trans (unhide HD8 w' k')), unhide HBx⟩
      obtain ⟨q, hq⟩ : ∃ q, q = rgtC nx tx := ⟨_, rfl⟩
      obtain ⟨BX, hBX⟩ : ∃ B, B = bodC nx tx := ⟨_, rfl⟩
      obtain ⟨L, hL⟩ : ∃ L, L = BX.length := ⟨_, rfl⟩
      have HQX := hide hq
      have HBX := hide hBX
      have HLX := hide hL.symm
      have HQL : Hid (decide (0 < L) = q) := hide (by
        rw [hL, hBX, hq]
        cases h : rgtC nx tx with
        | true => rw [bodC_len h]; rfl
        | false => rw [bodC_no h]; rfl)
      clear Ga HKa G8 K8 Kr8 hg12 q0 q1 hq hBX hL
      refine hide ?_
      go_wp2_with fail
      refine region_grow Tryd.mixed [Is (.agg #[.int .i64 nx, .slice ax mx cx]), Is (.bool q), Is (.agg #[.int .i64 nx, .slice ax mx cx]), SlT (BX), Is (.int .i64 L), Is (.bool q), Is (.bool false)] [[(12, none)], [(58, some 0)], [(12, none)], [(60, some 2)], [(61, some 3)], [(62, some 4)], [(59, some 1), (63, some 5)]] (by kernel_rfl) ?_ ?_ ?_
      · simp only [List.mem_cons, List.not_mem_nil, or_false]
        intro R hR
        rcases hR with rfl | rfl | rfl | rfl | rfl | rfl | rfl <;> first | exact stable_is _ | exact stable_sl _
      · refine steps_cons (fun a w hk hn => ?_) ?_
        · have h12 : a.eval (.tmp 12) = .pointer (some ⟨g12, 0, none⟩) := hn.1
          clear hn
          refine wants_plain rfl ?_
          exact grown_loadf 24 (.tmp 12) rfl g12 0 h12 _ _ _ _ (unhide HT12 w hk) [.int .i64 nx, .slice ax mx cx] (flat_in rfl) Tryd.underlying24 rfl Tryd.chkSize rfl
        refine steps_cons (fun a w hk hn => ?_) ?_
        · have h58 : a.eval (.tmp 58) = .agg #[.int .i64 nx, .slice ax mx cx] := hn.1
          clear hn
          refine wants_plain rfl ?_
          refine grown_call (f := 10) rfl Tryd.func10 (by kernel_rfl) (by kernel_rfl) ?_
          simp only [List.map_toArray, List.map_cons, List.map_nil, h58]
          refine (ckright_any _ nx tx q (unhide HQX) w (unhide HCX w hk)).mono ?_
          rintro e w' ⟨rfl, K⟩
          exact ⟨_, rfl, K, rfl⟩
        refine steps_cons (fun a w hk hn => ?_) ?_
        · have h12 : a.eval (.tmp 12) = .pointer (some ⟨g12, 0, none⟩) := hn.1
          clear hn
          refine wants_plain rfl ?_
          exact grown_loadf 24 (.tmp 12) rfl g12 0 h12 _ _ _ _ (unhide HT12 w hk) [.int .i64 nx, .slice ax mx cx] (flat_in rfl) Tryd.underlying24 rfl Tryd.chkSize rfl
        refine steps_cons (fun a w hk hn => ?_) ?_
        · have h60 : a.eval (.tmp 60) = .agg #[.int .i64 nx, .slice ax mx cx] := hn.1
          clear hn
          refine wants_plain rfl ?_
          refine grown_call (f := 8) rfl Tryd.func8 (by kernel_rfl) (by kernel_rfl) ?_
          simp only [List.map_toArray, List.map_cons, List.map_nil, h60]
          refine (ckbody_any _ nx tx BX (unhide HBX) w (unhide HCX w hk)).mono ?_
          rintro e w' ⟨ao, m, c, rfl, R, K⟩
          exact ⟨_, rfl, K, R⟩
        refine steps_cons (fun a w hk hn => ?_) ?_
        · have h61 : Sl w (a.eval (.tmp 61)) (BX) := hn.1
          clear hn
          refine wants_plain rfl ?_
          exact grown_blenX (.tmp 61) BX L rfl h61 (unhide HLX)
        refine steps_cons (fun a w hk hn => ?_) ?_
        · have h62 : a.eval (.tmp 62) = .int .i64 L := hn.1
          clear hn
          refine wants_plain rfl ?_
          refine grown_run (v := .bool q) ?_ (Kp.refl _ _) rfl
          obtain ⟨ρ, hρ, hc, hf, hg⟩ := eval_is a
          rw [hρ] at h62 ⊢
          have hE := unhide HQL
          simp [go_sem, hc, h62, hE]
        refine steps_cons (fun a w hk hn => ?_) ?_
        · have h59 : a.eval (.tmp 59) = .bool q := hn.1
          have h63 : a.eval (.tmp 63) = .bool q := hn.2.1
          clear hn
          refine wants_plain rfl ?_
          refine grown_run (v := .bool false) ?_ (Kp.refl _ _) rfl
          obtain ⟨ρ, hρ, hc, hf, hg⟩ := eval_is a
          rw [hρ] at h59 h63 ⊢
          simp [go_sem, h59, h63]
        exact trivial
      intro W4 hkW4
      rintro _ rfl
      rintro _ rfl
      rintro _ rfl
      intro v61 h61
      rintro _ rfl
      rintro _ rfl
      rintro _ rfl
      refine fin_nil ?_
      simp only [Act.put, List.set_cons_zero, List.set_cons_succ, List.setIfInBounds_toArray]
      go_wp2_with fail
      go_roundw
      case rel => exact ⟨k + 1, by omega, by go_num, (unhide HKr).trans (unhide HD8 W4 hkW4)⟩
      case measure => simp [intOf]; omega
    · have hge : ¬ (k : Int) < 2 := by omega
      have HK8 := hide ((unhide HK7).trans (unhide HKr))
      have G9r := (unhide HKr).heap (unhide HG97) (by simp)
      have C9r := (unhide HC97).kept (unhide HKr)
      have q0 : wr.cell? ⟨g9, 0, none⟩ = some (.int .i64 x) := by rw [cell_of_row wr g9 0 _ _ _ G9r]; rfl
      have q1 : wr.cell? ⟨g9, 1, none⟩ = some (.slice ar mr cr) := by rw [cell_of_row wr g9 1 _ _ _ G9r]; rfl
      have HSm := hide (cksame_any _ _ x x r1 r1 true (by simp) wr C9r C9r)
      clear G9r C9r
      go_wp2_with fail
      refine (unhide HSm).mono ?_
      rintro ee w9 ⟨rfl, K9⟩
      have HKn := hide (xknown_any w9 ((unhide HG).kept ((unhide HK8).trans K9) (by simp)))
      have HK9 := hide ((unhide HK8).trans K9)
      clear HSm K9 q0 q1
      go_wp2_with fail
      refine (unhide HKn).mono ?_
      rintro ee wa ⟨rfl, Ka⟩
      have HKa := hide ((unhide HK9).trans Ka)
      clear HKn Ka
      go_wp2_with fail
      go_ret
      exact ⟨rfl, (unhide HKa).below (Nat.le_refl _) (by simp)⟩

set_option maxRecDepth 100000 in
theorem lifted (os : Os) (started : os.Started) (H : Type) (enc : TypeId × Value → H) :
    ReturnsInHanded {} Tryd.checked os 3 .any (fun w args => (Rows.checkBodiesSpec.pre enc Tryd.prog Tryd.f3 [] false w args ∧ laidMetH Tryd.prog laid1 w) ∧ sizedMet enc Tryd.prog Tryd.f3 (OpenSpec.ofChange Rows.checkBodiesSpec) false w args) (Rows.checkBodiesSpec.post enc Tryd.prog Tryd.f3 false true false false) := by
  refine returnsInHanded_of_change_and (C := Tryd.checked) (X := fun w _ => laidMetH Tryd.prog laid1 w) (fun _ _ _ hh h => h.of_heap hh) own started (by kernel_rfl) Tryd.func3
    (ChangeSpec.witness_shaped (enc := enc) (C := Tryd.checked) (os := os) (X := fun w _ => laidMetH Tryd.prog laid1 w) false (World.doorLaid Tryd.prog 400 os) #[.agg #[.int .i64 0, .slice none 0 0], .agg #[.int .i64 0, .slice none 0 0], .int .i64 0, .int .i64 0] 8 rfl (World.shaped_of_RefB (by kernel_rfl) (by kernel_rfl)) (by kernel_rfl) (by kernel_rfl) (by kernel_rfl) (door_met os _)) ?_
  intro W base args ds gs before hval0 hW hcnd hsz0 hL _
  have hG := gl_of_laid hL
  have hval : ∀ (j : Nat) t v, Tryd.f3.params[j]? = some t → args[j]? = some v → Value.okWide Tryd.prog W .any base t v := hval0
  have hW' := hW
  obtain ⟨p, q, hA0, hV, rfl, hfz, hnd⟩ := hW
  have hA : DataW.TrodAll enc Tryd.prog W 0 (fun _ => true) true Tryd.f3.params.toList args.toList ds p := hA0
  rw [Tryd.params3] at hA hval
  obtain ⟨v0, vs0, d0, ds0, p0, q0, hargs, rfl, rfl, h0, r0⟩ := trodAll_cons hA
  obtain ⟨v1, vs1, d1, ds1, p1, q1, rfl, rfl, rfl, h1, r1⟩ := trodAll_cons r0
  obtain ⟨v2, vs2, d2, ds2, p2, q2, rfl, rfl, rfl, h2, r2⟩ := trodAll_cons r1
  obtain ⟨v3, vs3, d3, ds3, p3, q3, rfl, rfl, rfl, h3, r3⟩ := trodAll_cons r2
  obtain ⟨rfl, rfl, rfl⟩ := trodAll_nil r3
  obtain rfl : args = #[v0, v1, v2, v3] := by cases args; simp_all
  obtain ⟨rfl, rfl⟩ := trodVars_none hV
  have k0 := h0
  have lt0 : ∀ x ∈ p0, x.block < W.heap.size := by obtain ⟨m, hm⟩ := k0; exact DataW.trod_lt m _ _ _ hm
  obtain ⟨n0, l0, s0, z0⟩ := chk_open (hval 0 24 v0 rfl rfl) h0
  have k1 := h1
  have lt1 : ∀ x ∈ p1, x.block < W.heap.size := by obtain ⟨m, hm⟩ := k1; exact DataW.trod_lt m _ _ _ hm
  obtain ⟨n1, l1, s1, z1⟩ := chk_open (hval 1 24 v1 rfl rfl) h1
  obtain ⟨a2, rfl, rfl, rfl, w2⟩ := open_int Tryd.underlying3 (hval 2 3 v2 rfl rfl) h2
  obtain ⟨a3, rfl, rfl, rfl, w3⟩ := open_int Tryd.underlying3 (hval 3 3 v3 rfl rfl) h3
  clear hA0 hval0
  refine (walk v0 n0 l0 v1 n1 l1 a2 a3 W hG s0 z0 s1 z1 (bounds_i64 w2) (bounds_i64 w3)).mono fun e W' ⟨he, bel⟩ => ?_
  subst he
  exact ⟨_, rfl, _, _, _, [], _, [], hW', trodAll_mk1 (shut_bool Tryd.underlying4 _), (trodAll_cons_mk (Below.trod laidOut (by kernel_rfl) (of_decide_eq_true (by kernel_rfl)) k0 bel lt0) (trodAll_cons_mk (Below.trod laidOut (by kernel_rfl) (of_decide_eq_true (by kernel_rfl)) k1 bel lt1) (trodAll_cons_mk (shut_int Tryd.underlying3 w2) (trodAll_cons_mk (shut_int Tryd.underlying3 w3) trodAll_mk0)))), rfl, bel.frame _, fun h => by cases h⟩

theorem over : Rows.checkBodiesRow.holds Tryd.pinned (OpenSpec.ofChange Rows.checkBodiesSpec) :=
  OpenClaim.holds_of_wide 3 Tryd.f3 rfl rfl rfl rfl rfl rfl rfl ⟨rfl, rfl, rfl, rfl, rfl⟩ rfl rfl rfl rfl rfl (by kernel_rfl) Tryd.func3 (by kernel_rfl)
    (of_decide_eq_true (by kernel_rfl)) (by unfold Func.isWrapper; first | (rw [if_pos (by decide +kernel)]; kernel_rfl) | (rw [if_neg (by decide +kernel)]; exact ⟨rfl, rfl⟩))
    (fun os started H enc _ => lifted os started H enc)
end Go.Proofs.YtbkipibmaghejaaDoor.checkBodies

namespace Go.Proofs.YtbkipibmaghejaaDoor
/-- The given statement: the tied card. -/
theorem CheckBodies_holds : Rows.CheckBodiesCardSaid :=
  Claim7.holds_tied_plain_at .later [] [.data] true Rows.checkBodiesCard.stood.harness false
    checkBodies.over (fun _ h => by cases h) (by kernel_rfl) (fun _ h => by cases h) checkBodies_row_tie rfl ⟨rfl, rfl⟩ (by kernel_rfl) rfl
    (fun f fn hf hfn => by
      obtain rfl : f = 3 := Option.some.inj ((show Tryd.prog.funcNamed "broadsheet/broadsheetlaw10.CheckBodies" = some 3 by kernel_rfl).symm.trans hf) |>.symm
      obtain rfl : fn = Tryd.f3 := (Option.some.inj (Tryd.func3.symm.trans hfn)).symm
      exact ⟨by kernel_rfl, fun j t ht => by
        rw [Tryd.params3] at ht
        have hm : t ∈ ([24, 24, 3, 3] : List TypeId) := by simpa using Array.mem_of_getElem? ht
        have hall : (([24, 24, 3, 3] : List TypeId).all fun u => !Tryd.prog.wantsStandIn u) = true := by kernel_rfl
        exact (show Tryd.prog.wantsStandIn t = false by simpa using List.all_eq_true.1 hall t hm)⟩)
    (by kernel_rfl)
#print axioms CheckBodies_holds
end Go.Proofs.YtbkipibmaghejaaDoor
