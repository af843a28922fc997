/-
  Helpers of the laws: Cut, Within; how an argument that is a row of bytes is read; what the laid table gives.
-/
import Derived.Test.YtdioaohejoflcaaDoorM6
import Derived.Test.YtdioaohejoflcaaDoorRows
import Derived.Deep.Slices
import Derived.Lib.SmallJoins
import Derived.Lib.LaidTab
import Derived.ProofKit
import Derived.LaidMore
import Derived.OpenShut
import Derived.Stop.Joined
import Derived.ShutString
import Derived.ChangeOld
import Derived.Below
import Derived.Test.YtdioaohejoflcaaDoorM7
namespace Go.Proofs.YtdioaohejoflcaaDoor
open Go.ChangeShapes Go.WideShapes Go.ChangeAt Go.RowKit
open Go.Deep

theorem cut_any (v : Value) (bs : List Int) (n : Nat) (w : World) (h : Sl w v bs) :
    Calls Tryd.prog 22 #[v, .int .i64 n] w fun e w' => ∃ ao c, e = .returned (.slice ao (bs.take n).length c) ∧ (∀ W, Sl W v bs → Sl W (.slice ao (bs.take n).length c) (bs.take n)) ∧ w' = w := by
  obtain ⟨ao, c, rfl, h1, h2, h3, h4⟩ := h
  unfold maxLen at h2
  clear h4
  by_cases hn : n < bs.length
  · have hlt : (n : Int) < (bs.length : Int) := by omega
    have hc : (n : Int) ≤ (c : Int) := by omega
    have hT := fun W (hs : Sl W (.slice ao bs.length c) bs) => hs.take n (by omega)
    have hl : (bs.take n).length = n := by simp; omega
    rw [hl]
    have HT := hide hT
    clear hT
    go_enter Tryd.func22, Tryd.ntmps22
    go_wp2
    go_ret
    exact ⟨ao, c, rfl, unhide HT, rfl⟩
  · have hlt : ¬ (n : Int) < (bs.length : Int) := by omega
    rw [List.take_of_length_le (by omega)]
    go_enter Tryd.func22, Tryd.ntmps22
    go_wp2
    go_ret
    exact ⟨ao, c, rfl, fun _ hs => hs, rfl⟩

theorem tmod_bd (n m : Int) (hn : n < 0) (hm : 0 < m) : -m < n.tmod m ∧ n.tmod m ≤ 0 := by
  have e : n.tmod m = -((-n) % m) := by
    rw [← Int.tmod_eq_emod_of_nonneg (by omega), Int.neg_tmod, Int.neg_neg]
  rw [e]
  have h1 := Int.emod_nonneg (-n) (show m ≠ 0 by omega)
  have h2 := Int.emod_lt_of_pos (-n) hm
  omega

theorem within_any (n lo hi : Int) (w : World) (h0 : 0 ≤ lo) (h1 : lo ≤ hi) (h2 : hi ≤ 4611686018427387904) (hn : -9223372036854775808 ≤ n ∧ n ≤ 9223372036854775807) :
    Calls Tryd.prog 23 #[.int .i64 n, .int .i64 lo, .int .i64 hi] w fun e w' => ∃ x, e = .returned (.int .i64 x) ∧ lo ≤ x ∧ x ≤ hi ∧ w' = w := by
  have hm : (hi - lo + 1 == 0) = false := beq_eq_false_iff_ne.2 (by omega)
  by_cases a3 : 0 ≤ n
  · have hr : 0 ≤ n % (hi - lo + 1) ∧ n % (hi - lo + 1) < hi - lo + 1 := ⟨Int.emod_nonneg _ (by omega), Int.emod_lt_of_pos _ (by omega)⟩
    obtain ⟨hr1, hr2⟩ := hr
    by_cases a1 : lo ≤ n
    · by_cases a2 : n ≤ hi
      · go_enter Tryd.func23, Tryd.ntmps23
        go_wp2
        go_ret
        exact ⟨n, rfl, a1, a2, rfl⟩
      · go_enter Tryd.func23, Tryd.ntmps23
        go_wp2
        go_ret
        exact ⟨_, rfl, by omega, by omega, rfl⟩
    · go_enter Tryd.func23, Tryd.ntmps23
      go_wp2
      go_ret
      exact ⟨_, rfl, by omega, by omega, rfl⟩
  · obtain ⟨hr1, hr2⟩ := tmod_bd n (hi - lo + 1) (by omega) (by omega)
    by_cases a4 : n.tmod (hi - lo + 1) < 0
    · go_enter Tryd.func23, Tryd.ntmps23
      go_wp2
      go_ret
      exact ⟨_, rfl, by omega, by omega, rfl⟩
    · go_enter Tryd.func23, Tryd.ntmps23
      go_wp2
      go_ret
      exact ⟨_, rfl, by omega, by omega, rfl⟩
section
variable {H : Type} {enc : TypeId × Value → H} {w : World}

theorem bytes_of_trod {v : Value} {fuel : Nat} {x : DataW H × List MemPlace} (h : DataW.trod enc Tryd.prog w 0 (fun _ => true) true fuel 24 [v] = some x) : ∃ bs, Sl w v bs ∧ Bs bs := by
  rcases open_ints Tryd.underlying24 Tryd.underlying5 (by kernel_rfl) h with ⟨hcs, _⟩ | ⟨a, len, cap, zs, hcs, _, hl, hm, hz, _, hcell, hwz⟩
  · simp only [List.cons.injEq, and_true] at hcs
    subst hcs
    exact ⟨[], Sl.nil w, fun b hb => by cases hb⟩
  · simp only [List.cons.injEq, and_true] at hcs
    subst hcs
    simp only [if_true] at hz
    have hlen : (zs.take len).length = len := by simp; omega
    refine ⟨zs.take len, ⟨some a, cap, by rw [hlen], by omega, hm, (fun h => by cases h), fun a' ha j u hu => ?_⟩, fun b hb => bounds_u8 (hwz b (List.mem_of_mem_take hb))⟩
    cases ha
    have hj : j < (zs.take len).length := by have := (List.getElem?_eq_some_iff.1 hu).1; simpa using this
    rw [hcell j (by simp at hj; omega)]
    rw [List.getElem?_map, List.getElem?_take] at hu
    split at hu
    · rw [← hu]
      have : j < zs.length := by omega
      simp [List.getD, List.getElem?_eq_getElem this]
    · cases hu
end


abbrev laid1 : List (String × DataW Unit) := [("broadsheet/hash.roundWords", Rows.laid_broadsheet_hash_roundWords)]
theorem own : ownKnob Tryd.prog.godebug = none := by kernel_rfl
theorem laidOut : laidOutB Tryd.prog = true := by kernel_rfl
set_option maxRecDepth 100000 in
theorem door_met (os : Os) (args : Array Value) : laidMetH Tryd.prog laid1 ((World.doorLaid Tryd.prog 400 os).forCall (fun _ _ => 0) ⟨#[], args, []⟩).memory :=
  laidMetH_of_parts3 (fuel := 8) (laidMet_of_run' 8 (by kernel_rfl) (by kernel_rfl)) (by kernel_rfl) (by kernel_rfl)
set_option maxRecDepth 100000 in
theorem gl_of_laid {W : World} (h : laidMetH Tryd.prog laid1 W) : Gl W := by
  rw [MakeChecks.laidMetH_plain _ _ _ (by kernel_rfl)] at h
  have h2 : laidMet Tryd.prog [("broadsheet/hash.roundWords", Lib.tabData .u32 consts)] W := h
  have hT := Lib.tabIs_of_head (P := Tryd.prog) (g := 0) (t := 103) (e := 70) (n := 64) (by kernel_rfl) (by kernel_rfl) Tryd.underlying103 Tryd.underlying70 (by kernel_rfl) (by kernel_rfl) h2
  intro k hk
  exact hT.cell (by kernel_rfl) k (by simpa [consts] using hk)
end Go.Proofs.YtdioaohejoflcaaDoor

/-
  Slices of ints, and rows of slices that a call owns.
-/
namespace Go.Proofs.YtdioaohejoflcaaDoor
open Go.ChangeShapes Go.WideShapes Go.ChangeAt Go.RowKit
open Go.Deep

/-- v is a slice that reads as these ints. -/
def Ints (w : World) (v : Value) (l : List Int) : Prop :=
  ∃ ao c, v = .slice ao l.length c ∧ l.length ≤ maxLen ∧ (∀ x ∈ l, -9223372036854775808 ≤ x ∧ x ≤ 9223372036854775807) ∧ ∀ i (h : i < l.length), ∃ a, ao = some a ∧ w.cell? (a.add i) = some (.int .i64 l[i])
theorem Ints.kept {w w' : World} {v : Value} {l : List Int} (h : Ints w v l) (k : Kp [] w w') : Ints w' v l := by
  obtain ⟨ao, c, rfl, h1, h0, h2⟩ := h
  refine ⟨ao, c, rfl, h1, h0, fun i hi => ?_⟩
  obtain ⟨a, e, h3⟩ := h2 i hi
  exact ⟨a, e, k.cell h3 (by simp)⟩

theorem Tryd.infoSl : (Tryd.prog.info? 24).map (fun i => (i.zero, i.size, i.bytes)) = some (some (.slice none 0 0), 1, 24) := by kernel_rfl
/-- The row v of values of slices, of the call's own from base on. -/
def RowV (w : World) (base : Nat) (v : Value) (xs : List Value) : Prop := w.ownsRow base 24 1 v xs.length xs
theorem RowV.shape {w : World} {base : Nat} {v : Value} {xs : List Value} (h : RowV w base v xs) : ∃ ao c, v = .slice ao xs.length c := owns_shape h
theorem RowV.own {w : World} {base : Nat} {v : Value} {xs : List Value} (h : RowV w base v xs) : ∀ k, v.ownBlock = some k → base ≤ k := by
  intro k hk
  rcases h.2 with ⟨rfl, _⟩ | ⟨g, cap, cur, rfl, hb, _⟩
  · cases hk
  · cases hk; exact hb
theorem RowV.step {w w1 w2 : World} {v v' : Value} {xs : List Value} (h : RowV w1 w.heap.size v xs) (k : Kp [] w w1) (s : RStep w1 v w2 v') : Kp [] w w2 :=
  k.then s.1 (fun i hi => .inr (h.own i (by simpa using hi)))
theorem RowV.len {w : World} {base m c : Nat} {ao : Option Addr} {xs : List Value} (h : RowV w base (.slice ao m c) xs) : m = xs.length := by
  obtain ⟨_, _, e⟩ := h.shape; cases e; rfl
theorem RowV.kept {w w' : World} {base : Nat} {v : Value} {xs : List Value} {S : List Nat} (h : RowV w base v xs) (k : Kp S w w') (hv : ∀ i, v.ownBlock = some i → i ∉ S) : RowV w' base v xs := k.owns h hv

/-- append of slices that lie in a block of their own, onto such a row. -/
theorem wpList_append_rowv {w : World} {ops : Array Oper} {rest : List Oper} {o : Oper} {a : Act} {Q : Exit → Act → World → Prop} (hgd : o.guard = none) (s x : Operand)
    (ho : o.op = .call { callee := .builtin .append, args := #[s, x], argTypes := #[31, 31] }) (base : Nat) (v : Value) (xs : List Value) (hs : a.eval s = v) (hrow : RowV w base v xs)
    (ad : Addr) (c : Nat) (ys : List Value) (hx : a.eval x = .slice (some ad) ys.length c) (hy : ∀ j u, ys[j]? = some u → w.cell? (ad.add j) = some u) (h1 : ∀ u ∈ ys, u.oneCell' = true) (hb : xs.length + ys.length ≤ 1000000000) (hbase : base ≤ w.heap.size)
    (h : ∀ ao m c w', RowV w' base (.slice ao m c) (xs ++ ys) → RStep w v w' (.slice ao m c) → wpList Tryd.prog ops Q rest (a.put o.dst (.slice ao m c)) w') : wpList Tryd.prog ops Q (o :: rest) a w := by
  obtain ⟨i0, hi0, hz0, hz1, hz2⟩ := info_parts Tryd.infoSl
  obtain ⟨av, cv, rfl⟩ := hrow.shape
  refine wpList_append_own_at w hgd s x 31 ho base 24 i0 (.slice none 0 0) 1 24 Tryd.underlying31 hi0 hz0 hz1 hz2 rfl (by decide) _ xs.length xs hs hrow ad ys.length c ys hx (by simp) hy h1 (by unfold maxLen; omega) (by omega) hbase ?_
  intro v' w1 hown hgrow _ hat
  have R : RowV w1 base v' (xs ++ ys) := by unfold RowV; rw [List.length_append]; exact hown
  obtain ⟨ao', c', hv⟩ := R.shape
  subst hv
  refine h ao' _ c' w1 R ⟨(Kp.refl _ w).grown hgrow (fun k hk => .inl (by simp [hk])), fun k hk => ?_⟩
  rcases hat with e | e
  · exact .inl (e ▸ hk)
  · rw [e] at hk; cases hk; exact .inr (Nat.le_refl _)
/-- Such a row as a slice of slices. -/
theorem lists_of_rowv {w : World} {base : Nat} {v : Value} {l : List (Value × List Int)} (h : RowV w base v (l.map (·.1))) (hl : l.length ≤ 1000) (hS : ∀ x ∈ l, Sl w x.1 x.2 ∧ Bs x.2) : Lists w v l := by
  rcases h.2 with ⟨rfl, h0⟩ | ⟨g, cap, cur, rfl, _⟩
  · have : l = [] := List.eq_nil_of_length_eq_zero (by simpa using h0)
    subst this
    exact lists_nil w none 0
  · refine ⟨some ⟨g, 0, none⟩, cap, by simp, by omega, fun i hi => ⟨g, 0, rfl, ?_, (hS _ (List.getElem_mem hi)).1, (hS _ (List.getElem_mem hi)).2⟩⟩
    have := h.cells (g := g) rfl i l[i].1 (by simp [List.getElem?_eq_getElem hi])
    simpa [Addr.add_lit] using this
theorem cat_snoc (l : List (Value × List Int)) (x : Value × List Int) : cat (l ++ [x]) = cat l ++ x.2 := by simp [cat]
theorem take_cut (bs : List Int) (i k : Nat) (h : i ≤ k) : bs.take i ++ (bs.drop i).take (k - i) = bs.take k := by
  have e := List.take_append_drop i (bs.take k)
  rw [List.take_take, Nat.min_eq_left h, List.drop_take] at e
  exact e
theorem Sl.span {w : World} {ao : Option Addr} {len c : Nat} {bs : List Int} (h : Sl w (.slice ao len c) bs) (i k : Nat) (hi : i ≤ k) (hk : k ≤ bs.length) : Sl w (.slice (if c = i then ao else ao.map (·.add i)) (k - i) (c - i)) ((bs.drop i).take (k - i)) := by
  have h1 := h.drop i (by omega)
  have h2 := Sl.take h1 (k - i) (by simp; omega)
  exact h2
theorem run_span (ao : Option Addr) (n c p k : Nat) (w : World) (h1 : p ≤ k) (h2 : k ≤ c) (h4 : ao = none → c = 0) :
    (Instr.sliceAt 24 (.slice ao n c) (some (.int .i64 p)) (some (.int .i64 k)) none).run Tryd.prog w = .ok (.slice (if c = p then ao else ao.map (·.add p)) (k - p) (c - p)) w := by
  have e1 : (0 : Int) ≤ (p : Int) := by omega
  have e2 : (p : Int) ≤ (k : Int) := by omega
  have e3 : (k : Int) ≤ (c : Int) := by omega
  by_cases hc : c = p
  · rw [if_pos hc]
    subst hc
    simp [go_sem, e2, e3]
  · rw [if_neg hc]
    cases ao with
    | none => have := h4 rfl; omega
    | some a => simp [go_sem, e2, e3, hc]
theorem run_from (ao : Option Addr) (n c p : Nat) (w : World) (h1 : p ≤ n) (h2 : n ≤ c) (h4 : ao = none → c = 0) :
    (Instr.sliceAt 24 (.slice ao n c) (some (.int .i64 p)) none none).run Tryd.prog w = .ok (.slice (if c = p then ao else ao.map (·.add p)) (n - p) (c - p)) w := by
  have e2 : (p : Int) ≤ (n : Int) := by omega
  by_cases hc : c = p
  · rw [if_pos hc]
    subst hc
    simp [go_sem, e2]
  · rw [if_neg hc]
    cases ao with
    | none => have := h4 rfl; omega
    | some a => simp [go_sem, e2, hc]
end Go.Proofs.YtdioaohejoflcaaDoor
