/-
  The contracts of Each, for whatever is handed in, and of Nodes.
-/
import Derived.Test.YtiabccgabbdedaaDoorKCApp
import Derived.Shelf.Abstract
namespace Go.Proofs.YtiabccgabbdedaaDoor
open Go.RowKit
open Go.Proofs

theorem equalIn_func_nil (d : Nat) (fc : FuncId) (bd cp : Array Value) (w : World) : (Op.equalIn (d + 1) 27 (.func (.func fc) bd cp) .nilFunc).run Tryd.prog w = .ok false w := by
  simp [Op.equalIn, Sem.run_bind, run_underlying Tryd.underlying27 w]
theorem func_nil (fc : FuncId) (bd cp : Array Value) (w : World) : (binOp .eql 27 (.func (.func fc) bd cp) .nilFunc).run Tryd.prog w = .ok (.bool false) w := by
  have hu : (Op.equal 27 (.func (.func fc) bd cp) .nilFunc).run Tryd.prog w = .ok false w := equalIn_func_nil 9999 fc bd cp w
  simp [binOp, go_sem, hu]
set_option maxRecDepth 100000 in
set_option maxHeartbeats 2000000 in
theorem each_any (p : Nat) (v : Value) (n base : Nat) (l : List (Value × List Int)) (w : World) (h : Rg w base p v n l) (hll : l.length ≤ 90000) (hl : ∀ y ∈ l, y.2.length ≤ 1000) (fc : FuncId) (bd cp : Array Value) (hen : Enters Tryd.prog fc)
    (I : Nat → World → Prop) (h0 : I 0 w) (hR : ∀ i W, I i W → Rg W base p v n l)
    (hst : ∀ (i : Nat) (hi : i < l.length) (W W1 : World) a m c, I i W → Kp [] W W1 → Row W1 W.heap.size (.slice a m c) l[i].2 → Calls Tryd.prog fc (bd.push (.slice a m c) ++ cp) W1 fun e W2 => ∃ u, e = .returned u ∧ I (i + 1) W2) :
    Calls Tryd.prog 22 #[.pointer (some ⟨p, 0, none⟩), .func (.func fc) bd cp] w fun e w' => e = .returned (.tuple #[]) ∧ I l.length w' := by
  have hen2 : ∀ (args : Array Value) (w : World), (callFunc fc args).run Tryd.prog w = .ok (.enter fc args) w := hen
  have hnil := func_nil fc bd cp w
  have hc1 := h.cell1
  obtain ⟨ao, c, e⟩ := h.shape
  have HST := hide hst
  have HR := hide hR
  have HL := hide hl
  obtain ⟨N, hN⟩ : ∃ N, N = l.length := ⟨_, rfl⟩
  have HN := hide hN
  rw [← hN] at e hll ⊢
  subst e
  have hNb : (N : Int) ≤ 90000 := by omega
  have H0 := hide h0
  clear h hst hR hl hN hen h0
  go_enter Tryd.func22, Tryd.ntmps22
  go_wp2_with fail
  go_loopw [13] (fun i wr => ∃ k : Nat, k ≤ N ∧ i = .int .i64 k ∧ I k wr) (fun i _ => N - (intOf i).toNat)
  case atStart => exact ⟨0, by omega, rfl, unhide H0⟩
  case round =>
    clear H0 hc1
    obtain ⟨k, hk, rfl, hI⟩ := hrel
    have HI := hide hI
    clear hI
    by_cases hlt : k < N
    · have hlt2 : (k : Int) < (N : Int) := by omega
      have hkl : k < l.length := by have := unhide HN; omega
      have hRr := unhide HR k wr (unhide HI)
      have hnode := hRr.parts.2 l[k] (List.getElem_mem hkl)
      have hlist := hRr.parts.lists
      obtain ⟨g, rfl⟩ : ∃ g, ao = some ⟨g, 0, none⟩ := by
        rcases hRr.parts.1.2 with ⟨e0, h0⟩ | ⟨g, cap, cur, e0, _⟩
        · have : l.length = 0 := by simpa using h0
          omega
        · injection e0 with e1; exact ⟨g, e1⟩
      have hcl : wr.cell? ⟨g, k, none⟩ = some l[k].1 := by
        have := hRr.parts.1.cells (g := g) rfl k l[k].1 (by simp [List.getElem?_eq_getElem hkl])
        rwa [Addr.add_lit, Nat.zero_add] at this
      have HC := hide (copyOf_any l[k].1 l[k].2 wr hnode.1.sl (by have := unhide HL _ (List.getElem_mem hkl); omega))
      obtain ⟨ay, cy, ey⟩ := hnode.1.shape
      obtain ⟨ny, hny⟩ : ∃ ny, ny = l[k].2.length := ⟨_, rfl⟩
      rw [← hny] at ey
      rw [ey] at hcl HC
      clear hRr hnode hlist hny ey
      go_wp2_with fail
      refine (unhide HC).mono ?_
      rintro ee w1 ⟨a1, m1, c1, rfl, R1, K1⟩
      have HCC := hide (unhide HST k hkl wr w1 a1 m1 c1 (unhide HI) K1 R1)
      clear HC R1 K1
      go_wp2_with fail
      refine (unhide HCC).mono ?_
      rintro ee w2 ⟨u, rfl, hI2⟩
      have HI2 := hide hI2
      clear HCC hI2 hcl
      go_wp2_with fail
      go_roundw
      case rel => exact ⟨k + 1, by omega, by go_num, unhide HI2⟩
      case measure => simp [intOf]; omega
    · obtain rfl : k = N := by omega
      go_wp2_with fail
      go_end0
      exact ⟨rfl, unhide HI⟩

/-- what is gathered, in the variable at g. -/
def Gat (w : World) (g : Nat) (t : TypeId) (ns : List (List Int)) (W : World) : Prop := ∃ ao m c, W.heap[g]? = some (.cells #[.slice ao m c] t (0, 0)) ∧ Acc w ns (.slice ao m c) W
theorem gat_start (w : World) (t : TypeId) : Gat w w.heap.size t [] (w.alloc (.cells #[.slice none 0 0] t)) :=
  ⟨none, 0, 0, heap_alloc_new w _, [], ⟨World.ownsRow_nil _ _ _ _, fun x hx => by cases hx⟩, rfl, (Kp.refl [] w).alloc _⟩
theorem Parts.keptT {w w' : World} {base g : Nat} {v : Value} {l : List (Value × List Int)} {c : Array Value} {t : TypeId} (h : Parts w base v l) (k : Kp [g] w w') (hg : w.heap[g]? = some (.cells c t (0, 0))) (h1 : t ≠ 28) (h2 : t ≠ 5) : Parts w' base v l := by
  refine ⟨h.1.kept k (fun i hi hm => ?_), fun x hx => ⟨(h.2 x hx).1.kept k (fun i hi hm => ?_), (h.2 x hx).2⟩⟩
  · obtain rfl : i = g := by simpa using hm
    obtain ⟨c2, e⟩ := rowv_type h.1 hi
    rw [hg] at e
    injection e with e
    injection e with _ e
    exact h1 e
  · obtain rfl : i = g := by simpa using hm
    obtain ⟨c2, e⟩ := row_type (h.2 x hx).1 hi
    rw [hg] at e
    injection e with e
    injection e with _ e
    exact h2 e
theorem Gat.step {w W W1 w1 : World} {g : Nat} {t : TypeId} {ns : List (List Int)} {vx : Value} {x : List Int} {ao : Option Addr} {m c : Nat} {l : List (Value × List Int)} {v : Value} (hP : Parts W w.heap.size v l) (hl : l.map (·.2) = ns) (hK : Kp [] w W) (hgt : W.heap[g]? = some (.cells #[v] t (0, 0))) (hg : w.heap.size ≤ g) (h1 : t ≠ 28) (h2 : t ≠ 5)
    (k : Kp [] W W1) (hr : Row W1 W.heap.size vx x) (hB : Bs x) (r : RowV w1 w.heap.size (.slice ao m c) (l.map (·.1) ++ [vx])) (s : RStep W1 v w1 (.slice ao m c)) : Gat w g t (ns ++ [x]) (w1.setCell ⟨g, 0, none⟩ (.slice ao m c)) := by
  have hne : v.ownBlock ≠ some g := fun e => by
    obtain ⟨c2, e⟩ := rowv_type hP.1 e
    rw [hgt] at e
    injection e with e
    injection e with _ e
    exact h1 e
  have g1 := s.1.heap (k.heap hgt (by simp)) (by simpa [Option.mem_toList] using hne)
  have K1 : Kp [g] w1 (w1.setCell ⟨g, 0, none⟩ (.slice ao m c)) := (Kp.refl [g] w1).setCell (p := ⟨g, 0, none⟩) (.inl (by simp)) _
  have P1 : Parts w1 w.heap.size (.slice ao m c) (l ++ [(vx, x)]) := hP.snoc (x := (vx, x)) k hr hB (Kp.refl _ _) r s hK.size
  have Kw : Kp [] w w1 := (hK.trans k).then s.1 (fun i hi => .inr (hP.1.own i (by simpa [Option.mem_toList] using hi)))
  exact ⟨ao, m, c, one_setCell g1, l ++ [(vx, x)], P1.keptT K1 g1 h1 h2, by simp [hl], Kw.then K1 (fun i hi => .inr (by simp at hi; omega))⟩
theorem Gat.kp {w W : World} {g : Nat} {t : TypeId} {ns : List (List Int)} (h : Gat w g t ns W) : Kp [] w W := by obtain ⟨_, _, _, _, h1⟩ := h; exact h1.kp
theorem one_cell {w : World} {g : Nat} {v : Value} {t : TypeId} (h : w.heap[g]? = some (.cells #[v] t (0, 0))) : w.cell? ⟨g, 0, none⟩ = some v ∧ w.frozen? ⟨g, 0, none⟩ = false := by
  refine ⟨by rw [cell_of_row w g 0 _ _ _ h]; rfl, ?_⟩
  unfold World.frozen?
  simp [h]
theorem gat_add (w W W1 : World) (g : Nat) (ns : List (List Int)) (vx : Value) (x : List Int) (h : Gat w g 47 ns W) (hg : w.heap.size ≤ g) (k : Kp [] W W1) (hr : Row W1 W.heap.size vx x) (hB : Bs x) (hl : ns.length ≤ 90000) :
    Calls Tryd.prog 31 #[.pointer (some ⟨g, 0, none⟩), vx] W1 fun e W2 => e = .returned (.tuple #[]) ∧ Gat w g 47 (ns ++ [x]) W2 := by
  obtain ⟨ao, m, c, hgt, l, hP, hns, hK⟩ := h
  have hP1 := hP.kept k
  have hg1 := k.heap hgt (by simp)
  obtain ⟨ax, cx, ex⟩ := hr.shape
  have hll : l.length = ns.length := by rw [← hns]; simp
  refine (ladd_any g 0 _ (l.map (·.1)) vx w.heap.size W1 (one_cell hg1).1 (one_cell hg1).2 hP1.1 (fun e => ?_) ⟨_, _, _, ex⟩ (by simp; omega) (Nat.le_trans hK.size k.size)).mono ?_
  · obtain ⟨c2, e⟩ := rowv_type hP1.1 e
    rw [hg1] at e
    injection e with e
    injection e with _ e
    cases e
  · rintro e W2 ⟨rfl, ao2, m2, c2, w1, rfl, r, s⟩
    exact ⟨rfl, Gat.step hP hns hK hgt hg (by decide) (by decide) k hr hB r s⟩
/-- Each, where what is handed in gathers. -/
theorem each_gat (p : Nat) (v : Value) (n base : Nat) (l : List (Value × List Int)) (w : World) (h : Rg w base p v n l) (hll : l.length ≤ 90000) (hl : ∀ y ∈ l, y.2.length ≤ 1000) (fc : FuncId) (bd cp : Array Value) (hen : Enters Tryd.prog fc) (t : TypeId)
    (hadd : ∀ (ns : List (List Int)) (W W1 : World) a m c x, Gat w w.heap.size t ns W → Kp [] W W1 → Row W1 W.heap.size (.slice a m c) x → Bs x → ns.length ≤ 90000 → Calls Tryd.prog fc (bd.push (.slice a m c) ++ cp) W1 fun e W2 => ∃ u, e = .returned u ∧ Gat w w.heap.size t (ns ++ [x]) W2) :
    Calls Tryd.prog 22 #[.pointer (some ⟨p, 0, none⟩), .func (.func fc) bd cp] (w.alloc (.cells #[.slice none 0 0] t)) fun e w' => e = .returned (.tuple #[]) ∧ Gat w w.heap.size t (l.map (·.2)) w' := by
  refine (each_any p v n base l _ (h.keptN ((Kp.refl [] w).alloc _)) hll hl fc bd cp hen (fun i W => Gat w w.heap.size t ((l.map (·.2)).take i) W) (gat_start w t) (fun i W hI => h.keptN hI.kp) ?_).mono ?_
  · intro i hi W W1 a m c hI k hr
    refine (hadd _ W W1 a m c l[i].2 hI k hr (h.parts.2 _ (List.getElem_mem hi)).2.1 (by simp; omega)).mono ?_
    rintro e W2 ⟨u, rfl, hG⟩
    refine ⟨u, rfl, ?_⟩
    have e : (l.map (·.2)).take (i + 1) = (l.map (·.2)).take i ++ [l[i].2] := by
      rw [List.take_succ_eq_append_getElem (by simpa using hi)]
      simp
    rw [e]
    exact hG
  · rintro e w' ⟨rfl, hG⟩
    refine ⟨rfl, ?_⟩
    rw [show (l.map (·.2)).take l.length = l.map (·.2) by rw [← List.length_map (f := fun x : Value × List Int => x.2), List.take_length]] at hG
    exact hG

set_option maxRecDepth 100000 in
set_option maxHeartbeats 2000000 in
theorem nodes_any (p : Nat) (v : Value) (n base : Nat) (l : List (Value × List Int)) (ns : List (List Int)) (hns : l.map (·.2) = ns) (w : World) (h : Rg w base p v n l) (hll : l.length ≤ 90000) (hl : ∀ y ∈ l, y.2.length ≤ 1000) :
    Calls Tryd.prog 18 #[.pointer (some ⟨p, 0, none⟩)] w fun e w' => ∃ ao m c, e = .returned (.slice ao m c) ∧ Acc w ns (.slice ao m c) w' := by
  have HC := hide (each_gat p v n base l w h hll hl 31 #[.pointer (some ⟨w.heap.size, 0, none⟩)] #[] (enters_of Tryd.func31 (by kernel_rfl) rfl) 47 (fun ns W W1 a m c x hG k hr hB hn => by
    refine (gat_add w W W1 w.heap.size ns _ x hG (Nat.le_refl _) k hr hB hn).mono ?_
    rintro e W2 ⟨rfl, hG2⟩
    exact ⟨_, rfl, hG2⟩))
  rw [hns] at HC
  clear h hll hl hns
  go_enter Tryd.func18, Tryd.ntmps18
  go_wp2_with fail
  refine (unhide HC).mono ?_
  rintro ee w2 ⟨rfl, ao, m, c, hg, hA⟩
  have hc := (one_cell hg).1
  have HA := hide hA
  clear HC hg hA
  go_wp2_with fail
  go_ret
  exact ⟨ao, m, c, rfl, unhide HA⟩
end Go.Proofs.YtiabccgabbdedaaDoor
