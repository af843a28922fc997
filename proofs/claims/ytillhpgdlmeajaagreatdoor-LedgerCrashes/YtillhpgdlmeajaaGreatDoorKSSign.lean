/-
  The contracts of package sign's Sign and Verify.
-/
import Derived.Test.YtillhpgdlmeajaaGreatDoorKSTree
import Derived.Test.YtillhpgdlmeajaaGreatDoorKSWire
import Derived.Laws.ResultCell
import Derived.Laws.Rows
namespace Go.Proofs.YtillhpgdlmeajaaGreatDoor
open Go.RowKit
open Go.Proofs

theorem Tryz.sigSize : (Tryz.prog.info? 70).map (·.size) = some 3 := by kernel_rfl
theorem load_sig (w : World) (g : Nat) (x y z : Value) (fr : Nat × Nat) (hg : w.heap[g]? = some (.cells #[x, y, z] 70 fr)) : (loadVar 70 ⟨g, 0, none⟩).run Tryz.prog w = .ok (.agg #[x, y, z]) w :=
  run_loadVar_row w g 70 70 #[x, y, z] fr _ hg Tryz.underlying70 rfl Tryz.sigSize
theorem results_sig {fn : Func} {p u : Tmp} (h : fn.results = #[.cell p 70, .tmp u]) (tmps : Array Value) (w : World) (g : Nat) (x y z : Value) (fr : Nat × Nat)
    (hp : tmps.getD p undef = .pointer (some ⟨g, 0, none⟩)) (hg : w.heap[g]? = some (.cells #[x, y, z] 70 fr)) : (results fn tmps).run Tryz.prog w = .ok (.tuple #[.agg #[x, y, z], tmps.getD u undef]) w := by
  rw [results_cell_tmp h, hp]
  simp [asAddr, Result.andThen, load_sig w g x y z fr hg]
theorem results_sig1 {fn : Func} {p : Tmp} (h : fn.results = #[.cell p 70]) (tmps : Array Value) (w : World) (g : Nat) (x y z : Value) (fr : Nat × Nat)
    (hp : tmps.getD p undef = .pointer (some ⟨g, 0, none⟩)) (hg : w.heap[g]? = some (.cells #[x, y, z] 70 fr)) : (results fn tmps).run Tryz.prog w = .ok (.agg #[x, y, z]) w :=
  results_cell_row h tmps w g 70 #[x, y, z] fr _ hp hg Tryz.underlying70 rfl Tryz.sigSize
/-- a signature that is stored whole. -/
theorem wpList_store_sig {w : World} {ops : Array Oper} {rest : List Oper} {o : Oper} {a : Act} {Q : Exit → Act → World → Prop} (hgd : o.guard = none) (p u : Operand) (ho : o.op = .store 70 p u) (g : Nat) (hp : a.eval p = .pointer (some ⟨g, 0, none⟩)) (x0 y0 z0 x y z : Value)
    (hg : w.heap[g]? = some (.cells #[x0, y0, z0] 70 (0, 0))) (hu : a.eval u = .agg #[x, y, z]) (h1 : x.oneCell' = true ∧ y.oneCell' = true ∧ z.oneCell' = true)
    (h : ∀ w', w'.heap[g]? = some (.cells #[x, y, z] 70 (0, 0)) → Kp [g] w w' → wpList Tryz.prog ops Q rest (a.put o.dst undef) w') : wpList Tryz.prog ops Q (o :: rest) a w := by
  refine wpList_store_mid hgd 70 p u ho g 0 #[x, y, z] hp hu ?_ (by simpa using Tryz.sigSize) (all_oneCell_toArray (by simp [h1])) ?_
  · intro j hj
    simp only [List.size_toArray, List.length_cons, List.length_nil] at hj
    rw [Nat.zero_add, cell_of_row w g j _ _ _ hg]
    refine ⟨?_, frozen_of_row w g j _ _ hg⟩
    rcases (by omega : j = 0 ∨ j = 1 ∨ j = 2) with rfl | rfl | rfl <;> rfl
  · refine h _ ?_ (kp_setCells w g _ 0 w (Kp.refl _ _))
    simp only [World.setCells]
    have e1 := heap_setCell_same w g 0 _ _ x hg
    have e2 := heap_setCell_same (w.setCell ⟨g, 0, none⟩ x) g 1 _ _ y e1
    have e3 := heap_setCell_same ((w.setCell ⟨g, 0, none⟩ x).setCell ⟨g, 1, none⟩ y) g 2 _ _ z e2
    simpa using e3

set_option maxRecDepth 100000 in
set_option maxHeartbeats 2000000 in
theorem ssign_anyA (vb : Value) (bs : List Int) (i : Nat) (vm : Value) (ms : List Int) (d : Int) (hd : d = digP ms) (w : World) (hS : Sl w vb bs) (hB : Bs bs) (hl : bs.length = 32) (hi : i < 16) (hM : Sl w vm ms) (hMB : Bs ms) (hml : ms.length ≤ 1000) (hG : Gl w) :
    Calls Tryz.prog 147 #[vb, .int .i64 i, vm] w fun e w' => ∃ v, e = .returned (.tuple #[v, .int .i64 0]) ∧ SigA w.heap.size w' v i (sgnP bs i d) (pthP bs i 4) ∧ Kp [] w w' := by
  have HS := hide hS
  have HG := hide hG
  have HB := hide hB
  have HM := hide hM
  have HMB := hide hMB
  have HD := hide hd
  obtain ⟨ob, hob⟩ : ∃ o : Obj, o = (.cells #[.int .i64 0, .slice none 0 0, .slice none 0 0] 70) := ⟨_, rfl⟩
  have K1 : Kp [] w (w.alloc ob) := (Kp.refl [] w).alloc ob
  have HI := hide (isSeed_any vb bs (w.alloc ob) (hS.kept K1 (by simp)) hl)
  have HK := hide (isKey_any i true (by simp; omega) (w.alloc ob))
  have HC := hide (sign_any vb bs i vm ms d hd (w.alloc ob) (hS.kept K1 (by simp)) hB (by omega) (hM.kept K1 (by simp)) hMB hml (hG.kept K1 (by simp)))
  rw [hob] at K1 HI HK HC
  have HK1 := hide K1
  obtain ⟨ab, cb, hvb, _⟩ := hS
  obtain ⟨nb, hnb⟩ : ∃ n, n = bs.length := ⟨_, rfl⟩
  rw [← hnb] at hvb
  subst hvb
  obtain ⟨am, cm, hvm, _⟩ := hM
  obtain ⟨nm, hnm⟩ : ∃ n, n = ms.length := ⟨_, rfl⟩
  rw [← hnm] at hvm
  subst hvm
  clear hG hB hnb hnm hMB hd hob K1
  go_enter Tryz.func147, Tryz.ntmps147
  go_wp2_with fail
  refine (unhide HI).mono ?_
  rintro ee w1 ⟨rfl, hw⟩
  subst w1
  go_wp2_with fail
  refine (unhide HK).mono ?_
  rintro ee w1 ⟨rfl, hw⟩
  subst w1
  go_wp2_with fail
  refine (unhide HC).mono ?_
  rintro ee w2 ⟨a2, m2, c2, rfl, A2⟩
  have HA2 := hide (A2.after (unhide HK1))
  have HL2 : Hid (∃ l, Lists w2 (.slice a2 m2 c2) l ∧ l.map (·.2) = sgnP bs i d ∧ (∀ q, (Value.slice a2 m2 c2).ownBlock = some q → w.heap.size < q) ∧ ∀ x ∈ l, ∀ q, x.1.ownBlock = some q → w.heap.size < q) := by
    obtain ⟨l, h1, h2, _⟩ := A2
    have hz : ∀ o : Obj, (w.alloc o).heap.size = w.heap.size + 1 := fun o => by simp
    refine ⟨l, h1.lists (by rw [← List.length_map (f := (·.2)), h2, sgnP, ptsP_len]; omega), h2, fun q hq => ?_, fun x hx q hq => ?_⟩
    · have := h1.1.own q hq; rw [hz] at this; omega
    · have := (h1.2 x hx).1.own q hq; rw [hz] at this; omega
  have HG2 : Hid (w2.heap[w.heap.size]? = some (.cells #[.int .i64 0, .slice none 0 0, .slice none 0 0] 70)) := A2.kp.heap (heap_alloc_new w _) (by simp)
  have HP := hide (pathOf_any (.slice ab nb cb) bs i w2 ((unhide HS).kept (unhide HA2).kp (by simp)) (unhide HB) (by omega) hi ((unhide HG).kept (unhide HA2).kp (by simp)))
  clear HI HK HC A2 HK1
  go_wp2_with fail
  refine (unhide HP).mono ?_
  rintro ee w3 ⟨a3, m3, c3, rfl, A3⟩
  have HA3 := hide A3
  have HG3 : w3.heap[w.heap.size]? = some (.cells #[.int .i64 0, .slice none 0 0, .slice none 0 0] 70) := A3.kp.heap (unhide HG2) (by simp)
  have HG2' := unhide HG2
  clear HP A3 HG2
  go_wp2_with (refine wpList_store_sig rfl (.tmp 6) (.tmp 24) rfl w.heap.size rfl _ _ _ _ _ _ HG3 rfl ⟨rfl, rfl, rfl⟩ ?_; intro w4 G4 K4)
  have HK4 : Hid (Kp [] w w4) := (((unhide HA2).kp).trans (unhide HA3).kp).then K4 (by simp)
  have hlt : w.heap.size < w3.heap.size := (Array.getElem?_eq_some_iff.1 HG3).1
  have hsz2 : w.heap.size < w2.heap.size := (Array.getElem?_eq_some_iff.1 HG2').1
  have HV : Hid (SigA w.heap.size w4 (.agg #[.int .i64 i, .slice a2 m2 c2, .slice a3 m3 c3]) i (sgnP bs i d) (pthP bs i 4)) := by
    intro S5 w5 hS5 k5
    have K5 : Kp (w.heap.size :: S5) w3 w5 := (K4.mono (by simp)).trans (k5.mono (by simp; intro x hx; exact .inr hx))
    have hn : ∀ q ∈ w.heap.size :: S5, q ≤ w.heap.size := fun q hq => by rcases List.mem_cons.1 hq with e | e; exact Nat.le_of_eq e; exact Nat.le_of_lt (hS5 q e)
    obtain ⟨lp, h1, h2, h3, h4⟩ := unhide HL2
    obtain ⟨lq, g1, g2, g3, g4⟩ := (unhide HA3).lists (by rw [pthP_len]; omega)
    refine ⟨_, _, lp, lq, rfl, (h1.kept (unhide HA3).kp).off K5 (fun q hq hm => by have := h3 q hq; have := hn q hm; omega) (fun y hy q hq hm => by have := h4 y hy q hq; have := hn q hm; omega), h2, g1.off K5 (fun q hq hm => ?_) (fun y hy q hq hm => ?_), g2⟩
    · have := g3 q hq; have := hn q hm; omega
    · have := g4 y hy q hq; have := hn q hm; omega
  refine bodyPost_ret (results_sig rfl _ _ w.heap.size _ _ _ (0, 0) rfl G4) rfl ?_
  exact ⟨_, rfl, unhide HV, unhide HK4⟩
theorem ssign_any (vb : Value) (bs : List Int) (i : Nat) (vm : Value) (ms : List Int) (d : Int) (hd : d = digP ms) (w : World) (hS : Sl w vb bs) (hB : Bs bs) (hl : bs.length = 32) (hi : i < 16) (hM : Sl w vm ms) (hMB : Bs ms) (hml : ms.length ≤ 1000) (hG : Gl w) :
    Calls Tryz.prog 147 #[vb, .int .i64 i, vm] w fun e w' => ∃ v, e = .returned (.tuple #[v, .int .i64 0]) ∧ SigV w' v i (sgnP bs i d) (pthP bs i 4) ∧ Kp [] w w' := by
  refine (ssign_anyA vb bs i vm ms d hd w hS hB hl hi hM hMB hml hG).mono ?_
  rintro e w' ⟨v, h1, h2, h3⟩
  exact ⟨v, h1, h2.v, h3⟩

set_option maxRecDepth 100000 in
set_option maxHeartbeats 2000000 in
theorem ssign_used (vb : Value) (bs : List Int) (i : Int) (vm : Value) (w : World) (hS : Sl w vb bs) (hl : bs.length = 32) (hi : ¬ (0 ≤ i ∧ i < 16)) :
    Calls Tryz.prog 147 #[vb, .int .i64 i, vm] w fun e w' => e = .returned (.tuple #[.agg #[.int .i64 0, .slice none 0 0, .slice none 0 0], .int .i64 23]) ∧ Kp [] w w' := by
  obtain ⟨ob, hob⟩ : ∃ o : Obj, o = (.cells #[.int .i64 0, .slice none 0 0, .slice none 0 0] 70) := ⟨_, rfl⟩
  have K1 : Kp [] w (w.alloc ob) := (Kp.refl [] w).alloc ob
  have HI := hide (isSeed_any vb bs (w.alloc ob) (hS.kept K1 (by simp)) hl)
  have HK := hide (isKey_any i false (by simp only [hi, decide_false]) (w.alloc ob))
  rw [hob] at K1 HI HK
  have HK1 := hide K1
  have G1 := heap_alloc_new w (.cells #[.int .i64 0, .slice none 0 0, .slice none 0 0] 70)
  clear hob K1 hS hi
  go_enter Tryz.func147, Tryz.ntmps147
  go_wp2_with fail
  refine (unhide HI).mono ?_
  rintro ee w1 ⟨rfl, hw⟩
  subst w1
  go_wp2_with fail
  refine (unhide HK).mono ?_
  rintro ee w1 ⟨rfl, hw⟩
  subst w1
  go_wp2_with (refine wpList_store_sig rfl (.tmp 6) (.tmp 15) rfl w.heap.size rfl _ _ _ _ _ _ G1 rfl ⟨rfl, rfl, rfl⟩ ?_; intro w4 G4 K4)
  refine bodyPost_ret (results_sig rfl _ _ w.heap.size _ _ _ (0, 0) rfl G4) rfl ?_
  exact ⟨rfl, (unhide HK1).then K4 (by simp)⟩

set_option maxRecDepth 100000 in
set_option maxHeartbeats 2000000 in
theorem ssign_arg (vb : Value) (bs : List Int) (i : Int) (vm : Value) (w : World) (hS : Sl w vb bs) (hl : bs.length ≠ 32) :
    Calls Tryz.prog 147 #[vb, .int .i64 i, vm] w fun e w' => e = .returned (.tuple #[.agg #[.int .i64 0, .slice none 0 0, .slice none 0 0], .int .i64 1]) ∧ Kp [] w w' := by
  obtain ⟨ob, hob⟩ : ∃ o : Obj, o = (.cells #[.int .i64 0, .slice none 0 0, .slice none 0 0] 70) := ⟨_, rfl⟩
  have K1 : Kp [] w (w.alloc ob) := (Kp.refl [] w).alloc ob
  have HI := hide (isSeed_no vb bs (w.alloc ob) (hS.kept K1 (by simp)) hl)
  rw [hob] at K1 HI
  have HK1 := hide K1
  have G1 := heap_alloc_new w (.cells #[.int .i64 0, .slice none 0 0, .slice none 0 0] 70)
  clear hob K1 hS hl
  go_enter Tryz.func147, Tryz.ntmps147
  go_wp2_with fail
  refine (unhide HI).mono ?_
  rintro ee w1 ⟨rfl, hw⟩
  subst w1
  go_wp2_with (refine wpList_store_sig rfl (.tmp 6) (.tmp 11) rfl w.heap.size rfl _ _ _ _ _ _ G1 rfl ⟨rfl, rfl, rfl⟩ ?_; intro w4 G4 K4)
  refine bodyPost_ret (results_sig rfl _ _ w.heap.size _ _ _ (0, 0) rfl G4) rfl ?_
  exact ⟨rfl, (unhide HK1).then K4 (by simp)⟩
theorem spublic_no (vb : Value) (bs : List Int) (w : World) (hS : Sl w vb bs) (hl : bs.length ≠ 32) :
    Calls Tryz.prog 84 #[vb] w fun e w' => e = .returned (.slice none 0 0) ∧ w' = w := by
  have HI := hide (isSeed_no vb bs w hS hl)
  clear hS hl
  go_enter Tryz.func84, Tryz.ntmps84
  go_wp2_with fail
  refine (unhide HI).mono ?_
  rintro ee w1 ⟨rfl, hw⟩
  subst w1
  go_wp2_with fail
  go_ret
  exact ⟨rfl, rfl⟩

end Go.Proofs.YtillhpgdlmeajaaGreatDoor
