/-
  Helpers of the laws: Cut, Within; how an argument that is a row of bytes is read; what the laid table gives.
-/
import Derived.Test.YthpaablhhfichaaKHTags
import Derived.Test.YthpaablhhfichaaRows
import Derived.Deep.Slices
import Derived.Lib.SmallJoins
import Derived.Lib.LaidTab
import Derived.ProofKit
import Derived.LaidMore
import Derived.OpenShut
import Derived.Stop.Joined
import Derived.ShutString
import Derived.ChangeOld
import Derived.Below
import Derived.Test.YthpaablhhfichaaKRGrows
import Derived.Test.YthpaablhhfichaaKHSums
import Derived.Laws.CopyOwn
import Derived.Deep.QuietTactic
import Derived.BigQuiet
import Derived.SizedLaws
namespace Go.Proofs.Ythpaablhhfichaa
open Go.ChangeShapes Go.WideShapes Go.ChangeAt Go.RowKit
open Go.Deep

theorem cut_any (v : Value) (bs : List Int) (n : Nat) (w : World) (h : Sl w v bs) :
    Calls Try.prog 19 #[v, .int .i64 n] w fun e w' => ∃ ao c, e = .returned (.slice ao (bs.take n).length c) ∧ (∀ W, Sl W v bs → Sl W (.slice ao (bs.take n).length c) (bs.take n)) ∧ w' = w := by
  obtain ⟨ao, c, rfl, h1, h2, h3, h4⟩ := h
  unfold maxLen at h2
  clear h4
  by_cases hn : n < bs.length
  · have hlt : (n : Int) < (bs.length : Int) := by omega
    have hc : (n : Int) ≤ (c : Int) := by omega
    have hT := fun W (hs : Sl W (.slice ao bs.length c) bs) => hs.take n (by omega)
    have hl : (bs.take n).length = n := by simp; omega
    rw [hl]
    have HT := hide hT
    clear hT
    go_enter Try.func19, Try.ntmps19
    go_wp2
    go_ret
    exact ⟨ao, c, rfl, unhide HT, rfl⟩
  · have hlt : ¬ (n : Int) < (bs.length : Int) := by omega
    rw [List.take_of_length_le (by omega)]
    go_enter Try.func19, Try.ntmps19
    go_wp2
    go_ret
    exact ⟨ao, c, rfl, fun _ hs => hs, rfl⟩

theorem tmod_bd (n m : Int) (hn : n < 0) (hm : 0 < m) : -m < n.tmod m ∧ n.tmod m ≤ 0 := by
  have e : n.tmod m = -((-n) % m) := by
    rw [← Int.tmod_eq_emod_of_nonneg (by omega), Int.neg_tmod, Int.neg_neg]
  rw [e]
  have h1 := Int.emod_nonneg (-n) (show m ≠ 0 by omega)
  have h2 := Int.emod_lt_of_pos (-n) hm
  omega

theorem within_any (n lo hi : Int) (w : World) (h0 : 0 ≤ lo) (h1 : lo ≤ hi) (h2 : hi ≤ 4611686018427387904) (hn : -9223372036854775808 ≤ n ∧ n ≤ 9223372036854775807) :
    Calls Try.prog 12 #[.int .i64 n, .int .i64 lo, .int .i64 hi] w fun e w' => ∃ x, e = .returned (.int .i64 x) ∧ lo ≤ x ∧ x ≤ hi ∧ w' = w := by
  have hm : (hi - lo + 1 == 0) = false := beq_eq_false_iff_ne.2 (by omega)
  by_cases a3 : 0 ≤ n
  · have hr : 0 ≤ n % (hi - lo + 1) ∧ n % (hi - lo + 1) < hi - lo + 1 := ⟨Int.emod_nonneg _ (by omega), Int.emod_lt_of_pos _ (by omega)⟩
    obtain ⟨hr1, hr2⟩ := hr
    by_cases a1 : lo ≤ n
    · by_cases a2 : n ≤ hi
      · go_enter Try.func12, Try.ntmps12
        go_wp2
        go_ret
        exact ⟨n, rfl, a1, a2, rfl⟩
      · go_enter Try.func12, Try.ntmps12
        go_wp2
        go_ret
        exact ⟨_, rfl, by omega, by omega, rfl⟩
    · go_enter Try.func12, Try.ntmps12
      go_wp2
      go_ret
      exact ⟨_, rfl, by omega, by omega, rfl⟩
  · obtain ⟨hr1, hr2⟩ := tmod_bd n (hi - lo + 1) (by omega) (by omega)
    by_cases a4 : n.tmod (hi - lo + 1) < 0
    · go_enter Try.func12, Try.ntmps12
      go_wp2
      go_ret
      exact ⟨_, rfl, by omega, by omega, rfl⟩
    · go_enter Try.func12, Try.ntmps12
      go_wp2
      go_ret
      exact ⟨_, rfl, by omega, by omega, rfl⟩
section
variable {H : Type} {enc : TypeId × Value → H} {w : World}

theorem bytes_of_trod {v : Value} {fuel : Nat} {x : DataW H × List MemPlace} (h : DataW.trod enc Try.prog w 0 (fun _ => true) true fuel 28 [v] = some x) : ∃ bs, Sl w v bs ∧ Bs bs := by
  rcases open_ints Try.underlying28 Try.underlying5 (by kernel_rfl) h with ⟨hcs, _⟩ | ⟨a, len, cap, zs, hcs, _, hl, hm, hz, _, hcell, hwz⟩
  · simp only [List.cons.injEq, and_true] at hcs
    subst hcs
    exact ⟨[], Sl.nil w, fun b hb => by cases hb⟩
  · simp only [List.cons.injEq, and_true] at hcs
    subst hcs
    simp only [if_true] at hz
    have hlen : (zs.take len).length = len := by simp; omega
    refine ⟨zs.take len, ⟨some a, cap, by rw [hlen], by omega, hm, (fun h => by cases h), fun a' ha j u hu => ?_⟩, fun b hb => bounds_u8 (hwz b (List.mem_of_mem_take hb))⟩
    cases ha
    have hj : j < (zs.take len).length := by have := (List.getElem?_eq_some_iff.1 hu).1; simpa using this
    rw [hcell j (by simp at hj; omega)]
    rw [List.getElem?_map, List.getElem?_take] at hu
    split at hu
    · rw [← hu]
      have : j < zs.length := by omega
      simp [List.getD, List.getElem?_eq_getElem this]
    · cases hu
end


theorem own : ownKnob Try.prog.godebug = none := by kernel_rfl
theorem laidOut : laidOutB Try.prog = true := by kernel_rfl
end Go.Proofs.Ythpaablhhfichaa

/-
  Slices of ints, and rows of slices that a call owns.
-/
namespace Go.Proofs.Ythpaablhhfichaa
open Go.ChangeShapes Go.WideShapes Go.ChangeAt Go.RowKit
open Go.Deep

/-- v is a slice that reads as these ints. -/
def Ints (w : World) (v : Value) (l : List Int) : Prop :=
  ∃ ao c, v = .slice ao l.length c ∧ l.length ≤ maxLen ∧ (∀ x ∈ l, -9223372036854775808 ≤ x ∧ x ≤ 9223372036854775807) ∧ ∀ i (h : i < l.length), ∃ a, ao = some a ∧ w.cell? (a.add i) = some (.int .i64 l[i])
theorem Ints.kept {w w' : World} {v : Value} {l : List Int} (h : Ints w v l) (k : Kp [] w w') : Ints w' v l := by
  obtain ⟨ao, c, rfl, h1, h0, h2⟩ := h
  refine ⟨ao, c, rfl, h1, h0, fun i hi => ?_⟩
  obtain ⟨a, e, h3⟩ := h2 i hi
  exact ⟨a, e, k.cell h3 (by simp)⟩
section
variable {H : Type} {enc : TypeId × Value → H} {w : World}
theorem ints_of_trod {v : Value} {fuel : Nat} {x : DataW H × List MemPlace} (h : DataW.trod enc Try.prog w 0 (fun _ => true) true fuel 22 [v] = some x) : ∃ l, Ints w v l := by
  rcases open_ints Try.underlying22 Try.underlying3 (by kernel_rfl) h with ⟨hcs, _⟩ | ⟨a, len, cap, zs, hcs, _, hl, hm, hz, _, hcell, hwz⟩
  · simp only [List.cons.injEq, and_true] at hcs
    subst hcs
    exact ⟨[], none, 0, rfl, by simp [maxLen], (fun x hx => by cases hx), fun i hi => by cases hi⟩
  · simp only [List.cons.injEq, and_true] at hcs
    subst hcs
    simp only [if_true] at hz
    have hlen : (zs.take len).length = len := by simp; omega
    refine ⟨zs.take len, some a, cap, by rw [hlen], by omega, fun b hb => bounds_i64 (hwz b (List.mem_of_mem_take hb)), fun i hi => ⟨a, rfl, ?_⟩⟩
    rw [hcell i (by omega)]
    have : i < zs.length := by omega
    simp [List.getD, List.getElem?_eq_getElem this]
end

theorem Try.infoSl : (Try.prog.info? 28).map (fun i => (i.zero, i.size, i.bytes)) = some (some (.slice none 0 0), 1, 24) := by kernel_rfl
/-- The row v of values of slices, of the call's own from base on. -/
def RowV (w : World) (base : Nat) (v : Value) (xs : List Value) : Prop := w.ownsRow base 28 1 v xs.length xs
theorem RowV.shape {w : World} {base : Nat} {v : Value} {xs : List Value} (h : RowV w base v xs) : ∃ ao c, v = .slice ao xs.length c := owns_shape h
theorem RowV.own {w : World} {base : Nat} {v : Value} {xs : List Value} (h : RowV w base v xs) : ∀ k, v.ownBlock = some k → base ≤ k := by
  intro k hk
  rcases h.2 with ⟨rfl, _⟩ | ⟨g, cap, cur, rfl, hb, _⟩
  · cases hk
  · cases hk; exact hb
theorem RowV.step {w w1 w2 : World} {v v' : Value} {xs : List Value} (h : RowV w1 w.heap.size v xs) (k : Kp [] w w1) (s : RStep w1 v w2 v') : Kp [] w w2 :=
  k.then s.1 (fun i hi => .inr (h.own i (by simpa using hi)))
theorem RowV.len {w : World} {base m c : Nat} {ao : Option Addr} {xs : List Value} (h : RowV w base (.slice ao m c) xs) : m = xs.length := by
  obtain ⟨_, _, e⟩ := h.shape; cases e; rfl
theorem RowV.kept {w w' : World} {base : Nat} {v : Value} {xs : List Value} {S : List Nat} (h : RowV w base v xs) (k : Kp S w w') (hv : ∀ i, v.ownBlock = some i → i ∉ S) : RowV w' base v xs := k.owns h hv

/-- append of slices that lie in a block of their own, onto such a row. -/
theorem wpList_append_rowv {w : World} {ops : Array Oper} {rest : List Oper} {o : Oper} {a : Act} {Q : Exit → Act → World → Prop} (hgd : o.guard = none) (s x : Operand)
    (ho : o.op = .call { callee := .builtin .append, args := #[s, x], argTypes := #[34, 34] }) (base : Nat) (v : Value) (xs : List Value) (hs : a.eval s = v) (hrow : RowV w base v xs)
    (ad : Addr) (c : Nat) (ys : List Value) (hx : a.eval x = .slice (some ad) ys.length c) (hy : ∀ j u, ys[j]? = some u → w.cell? (ad.add j) = some u) (h1 : ∀ u ∈ ys, u.oneCell' = true) (hb : xs.length + ys.length ≤ 1000000000) (hbase : base ≤ w.heap.size)
    (h : ∀ ao m c w', RowV w' base (.slice ao m c) (xs ++ ys) → RStep w v w' (.slice ao m c) → wpList Try.prog ops Q rest (a.put o.dst (.slice ao m c)) w') : wpList Try.prog ops Q (o :: rest) a w := by
  obtain ⟨i0, hi0, hz0, hz1, hz2⟩ := info_parts Try.infoSl
  obtain ⟨av, cv, rfl⟩ := hrow.shape
  refine wpList_append_own_at w hgd s x 34 ho base 28 i0 (.slice none 0 0) 1 24 Try.underlying34 hi0 hz0 hz1 hz2 rfl (by decide) _ xs.length xs hs hrow ad ys.length c ys hx (by simp) hy h1 (by unfold maxLen; omega) (by omega) hbase ?_
  intro v' w1 hown hgrow _ hat
  have R : RowV w1 base v' (xs ++ ys) := by unfold RowV; rw [List.length_append]; exact hown
  obtain ⟨ao', c', hv⟩ := R.shape
  subst hv
  refine h ao' _ c' w1 R ⟨(Kp.refl _ w).grown hgrow (fun k hk => .inl (by simp [hk])), fun k hk => ?_⟩
  rcases hat with e | e
  · exact .inl (e ▸ hk)
  · rw [e] at hk; cases hk; exact .inr (Nat.le_refl _)
/-- Such a row as a slice of slices. -/
theorem lists_of_rowv {w : World} {base : Nat} {v : Value} {l : List (Value × List Int)} (h : RowV w base v (l.map (·.1))) (hl : l.length ≤ 1000) (hS : ∀ x ∈ l, Sl w x.1 x.2 ∧ Bs x.2) : Lists w v l := by
  rcases h.2 with ⟨rfl, h0⟩ | ⟨g, cap, cur, rfl, _⟩
  · have : l = [] := List.eq_nil_of_length_eq_zero (by simpa using h0)
    subst this
    exact lists_nil w none 0
  · refine ⟨some ⟨g, 0, none⟩, cap, by simp, by omega, fun i hi => ⟨g, 0, rfl, ?_, (hS _ (List.getElem_mem hi)).1, (hS _ (List.getElem_mem hi)).2⟩⟩
    have := h.cells (g := g) rfl i l[i].1 (by simp [List.getElem?_eq_getElem hi])
    simpa [Addr.add_lit] using this
theorem cat_snoc (l : List (Value × List Int)) (x : Value × List Int) : cat (l ++ [x]) = cat l ++ x.2 := by simp [cat]
theorem take_cut (bs : List Int) (i k : Nat) (h : i ≤ k) : bs.take i ++ (bs.drop i).take (k - i) = bs.take k := by
  have e := List.take_append_drop i (bs.take k)
  rw [List.take_take, Nat.min_eq_left h, List.drop_take] at e
  exact e
theorem Sl.span {w : World} {ao : Option Addr} {len c : Nat} {bs : List Int} (h : Sl w (.slice ao len c) bs) (i k : Nat) (hi : i ≤ k) (hk : k ≤ bs.length) : Sl w (.slice (if c = i then ao else ao.map (·.add i)) (k - i) (c - i)) ((bs.drop i).take (k - i)) := by
  have h1 := h.drop i (by omega)
  have h2 := Sl.take h1 (k - i) (by simp; omega)
  exact h2
theorem run_span (ao : Option Addr) (n c p k : Nat) (w : World) (h1 : p ≤ k) (h2 : k ≤ c) (h4 : ao = none → c = 0) :
    (Instr.sliceAt 28 (.slice ao n c) (some (.int .i64 p)) (some (.int .i64 k)) none).run Try.prog w = .ok (.slice (if c = p then ao else ao.map (·.add p)) (k - p) (c - p)) w := by
  have e1 : (0 : Int) ≤ (p : Int) := by omega
  have e2 : (p : Int) ≤ (k : Int) := by omega
  have e3 : (k : Int) ≤ (c : Int) := by omega
  by_cases hc : c = p
  · rw [if_pos hc]
    subst hc
    simp [go_sem, e2, e3]
  · rw [if_neg hc]
    cases ao with
    | none => have := h4 rfl; omega
    | some a => simp [go_sem, e2, e3, hc]
theorem run_from (ao : Option Addr) (n c p : Nat) (w : World) (h1 : p ≤ n) (h2 : n ≤ c) (h4 : ao = none → c = 0) :
    (Instr.sliceAt 28 (.slice ao n c) (some (.int .i64 p)) none none).run Try.prog w = .ok (.slice (if c = p then ao else ao.map (·.add p)) (n - p) (c - p)) w := by
  have e2 : (p : Int) ≤ (n : Int) := by omega
  by_cases hc : c = p
  · rw [if_pos hc]
    subst hc
    simp [go_sem, e2]
  · rw [if_neg hc]
    cases ao with
    | none => have := h4 rfl; omega
    | some a => simp [go_sem, e2, hc]
end Go.Proofs.Ythpaablhhfichaa

/-
  Slices of slices as what an operation yields.
-/
namespace Go.Proofs.Ythpaablhhfichaa
open Go.RowKit
/-- The value is a slice of slices that reads as these. -/
def LsT (l : List (Value × List Int)) : Tell := fun v w => Lists w v l
theorem stable_ls (l : List (Value × List Int)) : Tell.stable (LsT l) := fun _ _ _ k h => h.kept k
end Go.Proofs.Ythpaablhhfichaa

/-
  The contracts of the law package's helpers Roomy, Same and Intact at bytes over this seat's program.
-/
namespace Go.Proofs.Ythpaablhhfichaa
open Go.RowKit

theorem Sl.spot {w : World} {ao : Option Addr} {n c : Nat} {bs : List Int} (h : Sl w (.slice ao n c) bs) (h0 : 0 < n) :
    ∃ b off, ao = some ⟨b, off, none⟩ ∧ n = bs.length ∧ ∀ k (hk : k < bs.length), w.cell? ⟨b, off + k, none⟩ = some (.int .u8 bs[k]) := by
  obtain ⟨ao', c', he, h1, h2, h3, h4⟩ := h
  injection he with e1 e2 e3
  subst e1 e2 e3
  cases ao with
  | none => have := h3 rfl; omega
  | some a =>
    obtain ⟨b, off, spot⟩ := a
    have hc := h4 _ rfl 0 (.int .u8 bs[0]) (by simp [List.getElem?_eq_getElem h0])
    have hspot : spot = none := by simpa [Addr.add] using World.cell?_spot hc
    subst hspot
    refine ⟨b, off, rfl, rfl, fun k hk => ?_⟩
    have := h4 _ rfl k (.int .u8 bs[k]) (by simp [List.getElem?_eq_getElem hk])
    rwa [Addr.add_lit] at this
theorem owns_of_heap {w : World} {base g n : Nat} {ys : List Value} (hb : base ≤ g) (h : w.heap[g]? = some (.cells ys.toArray 5 (0, 0))) (hn : ys.length = n) (hm : n ≤ maxLen) :
    w.ownsRow base 5 1 (.slice (some ⟨g, 0, none⟩) n n) n ys :=
  ⟨by omega, .inr ⟨g, n, _, rfl, hb, h, Nat.le_refl _, hm, by simpa using hn, by rw [Nat.mul_one]; exact List.take_of_length_le (by simp; omega)⟩⟩
theorem Kp.of_below {w w' : World} (h : Below w.heap.size w w') : Kp [] w w' := ⟨h.os, h.tape, h.output, h.size, fun k hk _ => h.block k hk⟩

theorem made_row {w : World} {base g n : Nat} {xs : List Value} (h : w.ownsRow base 5 1 (.slice (some ⟨g, 0, none⟩) n n) n xs) : ∃ cur : List Value, w.heap[g]? = some (.cells cur.toArray 5 (0, 0)) ∧ cur.length = n := by
  rcases h.2 with ⟨h', _⟩ | ⟨g', cap, cur, h', _, hg, _, _, hs, _⟩
  · cases h'
  · cases h'
    exact ⟨cur.toList, by simpa using hg, by simpa using hs⟩
theorem copy_src {w w1 : World} {ao : Option Addr} {cs : List Value} {c : Nat} (hB : Below w.heap.size w w1) (h : ∀ a, ao = some a → ∀ j u, cs[j]? = some u → w.cell? (a.add j) = some u) (h3 : ao = none → c = 0) (hpos : c ≠ 0) : ∃ ad, ao = some ad ∧ ∀ j v, cs[j]? = some v → w1.cell? (ad.add j) = some v := by
  cases ao with
  | none => exact absurd (h3 rfl) hpos
  | some a => exact ⟨a, rfl, fun j u hu => (Kp.of_below hB).cell (h a rfl j u hu) (by simp)⟩

set_option maxRecDepth 100000 in
set_option maxHeartbeats 1000000 in
theorem roomy_any (v : Value) (bs : List Int) (mark : Int) (w : World) (hS : Sl w v bs) (hb : bs.length ≤ 140737488351232) :
    Calls Try.prog 31 #[v, .int .u8 mark] w fun e w' => ∃ g n, e = .returned (.slice (some ⟨g, 0, none⟩) n n) ∧ n = bs.length + 80 ∧ w'.ownsRow w.heap.size 5 1 (.slice (some ⟨g, 0, none⟩) n n) n ((bs ++ List.replicate 80 mark).map (Value.int .u8)) ∧ Kp [] w w' := by
  obtain ⟨i0, hi0, hz0, hz1, hz2⟩ := info_parts Try.info5
  obtain ⟨ao, c, rfl, h1, h2, h3, h4⟩ := hS
  have hlen : (bs.length : Int) ≤ 140737488351232 := by omega
  obtain ⟨cs, hcs⟩ : ∃ cs, cs = bs.map (Value.int .u8) := ⟨_, rfl⟩
  have hcl : cs.length = bs.length := by rw [hcs]; simp
  have hone : ∀ u ∈ cs, u.oneCell' = true := by rw [hcs]; simp [Value.oneCell']
  have hsrc : Hid (∀ a, ao = some a → ∀ j u, cs[j]? = some u → w.cell? (a.add j) = some u) := by rw [hcs]; exact h4
  have HC := hide hcs
  have HCL := hide hcl
  clear h4 hcs hcl
  obtain ⟨n, hn⟩ : ∃ n, n = bs.length + 80 := ⟨_, rfl⟩
  have HN := hide hn
  have hn2 : (bs.length : Int) + 80 = (n : Int) := by omega
  have hn3 : bs.length + 80 ≤ n := by omega
  clear hn
  go_enter Try.func31, Try.ntmps31
  have hszi : (Try.prog.info? 5).map (·.size) = some 1 := by rw [hi0]; simp [hz1]
  go_wp2_with (first
    | (at_make; refine wpList_make_full _ rfl _ _ 28 rfl w.heap.size 5 i0 (.int .u8 0) 1 Try.underlying28 hi0 hz0 hz1 .i64 .i64 _ _ n rfl rfl (by omega) (by omega) (by rw [hz2]; have := unhide HN; omega) (by unfold maxLen; have := unhide HN; omega) (Nat.le_refl _) ?_; intro w1 o1 g1; obtain ⟨cur, hcur, hcn⟩ : ∃ cur : List Value, w1.heap[w.heap.size]? = some (.cells cur.toArray 5 (0, 0)) ∧ cur.length = n := made_row o1; have B1 : Below w.heap.size w w1 := (Below.refl _ _).grown g1 (Nat.le_refl _) (by intro k hk; cases hk); have HB1 := hide B1; have HCN := hide hcn; have HCU := hide hcur; clear o1 g1 B1 hcn hcur)
    | (refine wpList_copy_splice rfl (.tmp 11) (.tmp 12) 28 28 rfl 5 Try.underlying28 hszi (some ⟨w.heap.size, 0, none⟩) ao n n bs.length c rfl rfl w.heap.size 0 cur 5 (unhide HCU) cs (by have := unhide HCL; have := unhide HN; unfold Nat.min; omega) (fun hpos => ⟨rfl, copy_src (unhide HB1) (unhide hsrc) (h3) (by have := unhide HCL; omega)⟩) (by have := unhide HCL; have := unhide HCN; omega) hone w.heap.size w (unhide HB1) (Nat.le_refl _) ?_; intro w2 H2 B2))
  have hrow : w2.ownsRow w.heap.size 5 1 (.slice (some ⟨w.heap.size, 0, none⟩) n n) n (splice cur 0 cs) := by
    have e1 := unhide HCN
    have e2 := unhide HCL
    have e3 := unhide HN
    exact owns_of_heap (Nat.le_refl _) H2.out (by rw [length_splice _ _ _ (by omega)]; exact e1) (by unfold maxLen; omega)
  have htk : (splice cur 0 cs).take bs.length = cs ++ List.replicate (bs.length - bs.length) (.int .u8 mark) := by
    unfold splice
    rw [List.take_zero, List.nil_append, List.take_left' (unhide HCL)]
    simp
  have K2 := Kp.of_below B2
  have hcn0 : n ≤ 140737488351312 := by have := unhide HN; omega
  clear H2 B2
  go_loopw [6] (fun j wr => ∃ k : Nat, bs.length ≤ k ∧ k ≤ n ∧ j = .int .i64 k ∧ Kp [] w wr ∧ ∃ ys : List Value, wr.ownsRow w.heap.size 5 1 (.slice (some ⟨w.heap.size, 0, none⟩) n n) n ys ∧ ys.take k = cs ++ List.replicate (k - bs.length) (.int .u8 mark)) (fun j _ => n - (intOf j).toNat)
  case atStart => exact ⟨bs.length, Nat.le_refl _, by omega, rfl, K2, _, hrow, htk⟩
  case round =>
    obtain ⟨k, hk1, hk2, rfl, K', ys, hr, ht⟩ := hrel
    clear hrow htk K2
    have hyl : ys.length = n := by have := hr.1; omega
    by_cases hlt : k < n
    · have hlt3 : (k : Int) < (n : Int) := by omega
      have hcj : wr.cell? ⟨w.heap.size, k, none⟩ = some ys[k] := by
        rw [hr.cellAt k (by omega)]; simp [List.getElem?_eq_getElem (show k < ys.length by omega)]
      have hfj := hr.frozenAt k
      have HZ : Hid ((wr.setCell ⟨w.heap.size, k, none⟩ (.int .u8 mark)).ownsRow w.heap.size 5 1 (.slice (some ⟨w.heap.size, 0, none⟩) n n) n (ys.set k (.int .u8 mark)) ∧ Kp [] w (wr.setCell ⟨w.heap.size, k, none⟩ (.int .u8 mark)) ∧ (ys.set k (.int .u8 mark)).take (k + 1) = cs ++ List.replicate (k + 1 - bs.length) (.int .u8 mark)) := by
        refine ⟨(hr.stored k (.int .u8 mark)).1, K'.setCell (p := ⟨w.heap.size, k, none⟩) (.inr (Nat.le_refl _)) _, ?_⟩
        rw [List.take_succ_eq_append_getElem (by simp; omega), List.take_set_of_le (Nat.le_refl _), ht, List.getElem_set_self, List.append_assoc, show k + 1 - bs.length = (k - bs.length) + 1 from by omega, List.replicate_succ']
      obtain ⟨old, hold⟩ : ∃ old, old = ys[k] := ⟨_, rfl⟩
      rw [← hold] at hcj
      clear hr K' ht hold hyl
      go_wp2_with fail
      go_roundw
      case rel => exact ⟨k + 1, by omega, by omega, by go_num, (unhide HZ).2.1, _, (unhide HZ).1, (unhide HZ).2.2⟩
      case measure => simp [intOf]; omega
    · obtain rfl : k = n := by omega
      have hys : ys = (bs ++ List.replicate 80 mark).map (Value.int .u8) := by
        rw [List.take_of_length_le (by omega)] at ht
        rw [ht, unhide HC, List.map_append, List.map_replicate, show k - bs.length = 80 from by have := unhide HN; omega]
      rw [hys] at hr
      clear hys ht
      go_wp2_with fail
      go_ret
      exact ⟨_, _, rfl, unhide HN, hr, K'⟩

set_option maxHeartbeats 1000000 in
theorem same_any (v1 v2 : Value) (bs : List Int) (w : World) (h1 : Sl w v1 bs) (h2 : Sl w v2 bs) :
    Calls Try.prog 38 #[v1, v2] w fun e w' => e = .returned (.bool true) ∧ Kp [] w w' := by
  have s1 := h1
  have s2 := h2
  obtain ⟨a1, c1, rfl, p1, p2, p3, p4⟩ := h1
  obtain ⟨a2, c2, rfl, q1, q2, q3, q4⟩ := h2
  unfold maxLen at p2
  have hlen : (bs.length : Int) ≤ 9223372036854775807 := by omega
  clear p4 q4
  go_enter Try.func38, Try.ntmps38
  go_wp2_with fail
  go_loopw [5] (fun j wr => ∃ k : Nat, k ≤ bs.length ∧ j = .int .i64 k ∧ Kp [] w wr) (fun j _ => bs.length - (intOf j).toNat)
  case atStart => exact ⟨0, by omega, rfl, Kp.refl _ _⟩
  case round =>
    obtain ⟨k, hk, rfl, K'⟩ := hrel
    by_cases hlt : k < bs.length
    · have hlt3 : (k : Int) < (bs.length : Int) := by omega
      have hk0 : (0 : Int) ≤ (k : Int) := by omega
      obtain ⟨b1, o1, rfl, _, d1⟩ := s1.spot (by omega)
      obtain ⟨b2, o2, rfl, _, d2⟩ := s2.spot (by omega)
      have e1 := K'.cell (d1 k hlt) (by simp)
      have e2 := K'.cell (d2 k hlt) (by simp)
      obtain ⟨y, hy⟩ : ∃ y, y = bs[k] := ⟨_, rfl⟩
      rw [← hy] at e1 e2
      clear d1 d2 hy s1 s2 p3 q3
      go_wp2_with fail
      go_quiet (fail)
      go_wp2_with fail
      go_roundw
      case rel => exact ⟨k + 1, by omega, by go_num, K'.trans (kp_drewN _ _)⟩
      case measure => simp [intOf]; omega
    · obtain rfl : k = bs.length := by omega
      clear s1 s2 p3 q3
      go_wp2_with fail
      go_ret
      exact ⟨rfl, K'⟩

set_option maxHeartbeats 1000000 in
theorem intact_any (v1 v2 : Value) (bs : List Int) (mark : Int) (w : World) (h1 : Sl w v1 (bs ++ List.replicate 80 mark)) (h2 : Sl w v2 bs) (hb : bs.length ≤ 140737488351232) :
    Calls Try.prog 33 #[v1, v2, .int .u8 mark] w fun e w' => e = .returned (.bool true) ∧ Kp [] w w' := by
  have s1 := h1
  have s2 := h2
  obtain ⟨a1, c1, rfl, p1, p2, p3, p4⟩ := h1
  obtain ⟨a2, c2, rfl, q1, q2, q3, q4⟩ := h2
  obtain ⟨F, hF⟩ : ∃ F, F = bs ++ List.replicate 80 mark := ⟨_, rfl⟩
  have hFl : F.length = bs.length + 80 := by rw [hF]; simp
  rw [← hF] at s1 p1
  rw [← hF]
  have hpre := s1.take bs.length (by omega)
  rw [show F.take bs.length = bs from by rw [hF]; simp] at hpre
  have hmk : ∀ k (h : k < F.length), bs.length ≤ k → F[k] = mark := fun k h hk => by
    subst hF
    rw [List.getElem_append_right hk, List.getElem_replicate]
  have HM := hide hmk
  have hlen : (bs.length : Int) ≤ 140737488351232 := by omega
  have hne : ((F.length : Int) != (bs.length : Int) + 80) = false := by rw [bne_eq_false_iff_eq]; omega
  have hc1 : (bs.length : Int) ≤ (c1 : Int) := by omega
  have HFL := hide hFl
  have hF2 : (F.length : Int) ≤ 140737488351312 := by omega
  have hF3 : bs.length ≤ F.length := by omega
  clear p4 q4 hF hmk hFl
  go_enter Try.func33, Try.ntmps33
  go_wp2_with fail
  refine (same_any _ _ bs _ hpre s2).mono ?_
  rintro e w1 ⟨rfl, k1⟩
  go_wp2_with fail
  go_loopw [7] (fun j wr => ∃ k : Nat, bs.length ≤ k ∧ k ≤ F.length ∧ j = .int .i64 k ∧ Kp [] w wr) (fun j _ => F.length - (intOf j).toNat)
  case atStart => exact ⟨bs.length, Nat.le_refl _, by omega, rfl, k1⟩
  case round =>
    obtain ⟨k, hk, hk2, rfl, K'⟩ := hrel
    by_cases hlt : k < F.length
    · have hlt3 : (k : Int) < (F.length : Int) := by omega
      obtain ⟨b1, o1, rfl, _, d1⟩ := s1.spot (by omega)
      have e1 := K'.cell (d1 k hlt) (by simp)
      rw [unhide HM k hlt hk] at e1
      clear d1 s1 s2 p3 q3 hpre
      go_wp2_with fail
      go_roundw
      case rel => exact ⟨k + 1, by omega, by omega, by go_num, K'⟩
      case measure => simp [intOf]; omega
    · obtain rfl : k = F.length := by omega
      clear s1 s2 p3 q3 hpre
      go_wp2_with fail
      go_ret
      exact ⟨rfl, K'⟩

end Go.Proofs.Ythpaablhhfichaa
