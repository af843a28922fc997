/-
  Rows of entries (three ints each) that lie in a block of their own; the queue's own methods.
-/
import Derived.Test.YtlmbheobaiibeaaBase
import Derived.Sort.Statements
import Derived.Laws.OwnMore
import Derived.WalkSmall
import Derived.RegionTactic
import Derived.Deep.QuietTactic
namespace Go.Proofs.Ytlmbheobaiibeaa
open Go.RowKit Go.Sort

/-- An entry: its time, its number, its thing. -/
structure En where
  at_ : Int
  num : Int
  what : Int
  deriving Inhabited, DecidableEq
def En.cells (e : En) : List Value := [.int .i64 e.at_, .int .i64 e.num, .int .i64 e.what]
/-- The order of the agenda: by times, then by numbers. -/
def ltE (x y : En) : Bool := if x.at_ = y.at_ then decide (x.num < y.num) else decide (x.at_ < y.at_)
def flat (d : Array En) : List Value := d.toList.flatMap En.cells

theorem flat_length (d : Array En) : (flat d).length = d.size * 3 := by
  unfold flat
  rw [← Array.length_toList]
  induction d.toList with
  | nil => rfl
  | cons e l ih => rw [List.flatMap_cons, List.length_append, ih]; simp [En.cells]; omega
theorem flatL_get (l : List En) (i c : Nat) (hc : c < 3) : (l.flatMap En.cells)[i * 3 + c]? = l[i]?.bind fun e => e.cells[c]? := by
  induction l generalizing i with
  | nil => simp
  | cons e l ih =>
    cases i with
    | zero =>
      simp only [List.flatMap_cons, Nat.zero_mul, Nat.zero_add, List.getElem?_cons_zero, Option.bind_some]
      rw [List.getElem?_append_left (by simpa [En.cells] using hc)]
    | succ i =>
      simp only [List.flatMap_cons, List.getElem?_cons_succ]
      rw [List.getElem?_append_right (by simp [En.cells]; omega), ← ih i]
      congr 1
      simp [En.cells]; omega
theorem flat_get (d : Array En) (i c : Nat) (hi : i < d.size) (hc : c < 3) : (flat d)[i * 3 + c]? = (d[i]!).cells[c]? := by
  unfold flat
  rw [flatL_get _ _ _ hc]
  simp [hi]

/-- The block g holds the entries d, n of them, of whatever room. -/
structure Ro (g cap n : Nat) (w : World) (d : Array En) : Prop where
  size : d.size = n
  own : w.ownsRow 0 53 3 (.slice (some ⟨g, 0, none⟩) n cap) n (flat d)
section
variable {g cap n : Nat} {w w' : World} {d : Array En}
theorem Ro.kept (h : Ro g cap n w d) (k : Kp [] w w') : Ro g cap n w' d := ⟨h.size, k.owns h.own (by simp)⟩
theorem Ro.keptS (h : Ro g cap n w d) {S : List Nat} (k : Kp S w w') (hS : g ∉ S) : Ro g cap n w' d := ⟨h.size, k.owns h.own (fun i hi => by simp [Value.ownBlock] at hi; subst hi; exact hS)⟩
theorem Ro.lt (h : Ro g cap n w d) : g < w.heap.size := (h.own.lt g rfl).2
theorem Ro.cap_le (h : Ro g cap n w d) : n ≤ cap ∧ cap ≤ maxLen := by
  rcases h.own.2 with ⟨h0, _⟩ | ⟨g', cap', cur, hv, _, _, h1, h2, _⟩
  · cases h0
  · cases hv; exact ⟨h1, h2⟩
theorem Ro.cell (h : Ro g cap n w d) (i : Nat) (hi : i < n) : w.cell? ⟨g, i * 3, none⟩ = some (.int .i64 d[i]!.at_) ∧ w.cell? ⟨g, i * 3 + 1, none⟩ = some (.int .i64 d[i]!.num) ∧ w.cell? ⟨g, i * 3 + 2, none⟩ = some (.int .i64 d[i]!.what) := by
  have hs := h.size
  refine ⟨?_, ?_, ?_⟩
  · have := h.own.cellAt (i * 3 + 0) (by omega)
    rw [flat_get d i 0 (by omega) (by omega)] at this
    simpa [En.cells] using this
  · have := h.own.cellAt (i * 3 + 1) (by omega)
    rw [flat_get d i 1 (by omega) (by omega)] at this
    simpa [En.cells] using this
  · have := h.own.cellAt (i * 3 + 2) (by omega)
    rw [flat_get d i 2 (by omega) (by omega)] at this
    simpa [En.cells] using this
theorem Ro.frozen (h : Ro g cap n w d) (j : Nat) : w.frozen? ⟨g, j, none⟩ = false := h.own.frozenAt j
end

set_option maxHeartbeats 2000000 in
theorem less_any (g cap n : Nat) (d : Array En) (w : World) (h : Ro g cap n w d) (i j : Nat) (hi : i < n) (hj : j < n) :
    Calls Try.prog 67 #[.slice (some ⟨g, 0, none⟩) n cap, .int .i64 i, .int .i64 j] w fun e w' => e = .returned (.bool (ltE d[i]! d[j]!)) ∧ Kp [] w w' := by
  obtain ⟨ci0, ci1, ci2⟩ := h.cell i hi
  obtain ⟨cj0, cj1, cj2⟩ := h.cell j hj
  have K := Kp.refl [] w
  have hlt := h.lt
  clear h
  generalize d[i]! = x at *
  generalize d[j]! = y at *
  go_enter Try.func67, Try.ntmps67
  go_wp2
  go_region
  all_goals go_wp2
  all_goals go_ret
  all_goals
    refine ⟨?_, ((K.alloc _).alloc _).drew⟩
    first
      | (rename_i he; have h1 : x.at_ ≠ y.at_ := by simpa using he
         simp [ltE, h1])
      | (rename_i he; have h1 : x.at_ = y.at_ := by simpa using he
         simp [ltE, h1])

theorem flatL_set (l : List En) (i : Nat) (e : En) (hi : i < l.length) : (((l.flatMap En.cells).set (i * 3) (.int .i64 e.at_)).set (i * 3 + 1) (.int .i64 e.num)).set (i * 3 + 2) (.int .i64 e.what) = (l.set i e).flatMap En.cells := by
  induction l generalizing i with
  | nil => cases hi
  | cons x l ih =>
    cases i with
    | zero => simp [En.cells]
    | succ i =>
      have h1 := ih i (by simpa using hi)
      simp only [List.flatMap_cons, List.set_cons_succ, ← h1, En.cells, Nat.succ_mul, List.cons_append, List.nil_append]
theorem flat_set (d : Array En) (i : Nat) (e : En) (hi : i < d.size) : (((flat d).set (i * 3) (.int .i64 e.at_)).set (i * 3 + 1) (.int .i64 e.num)).set (i * 3 + 2) (.int .i64 e.what) = flat (d.setIfInBounds i e) := by
  unfold flat
  rw [flatL_set _ _ _ (by simpa using hi), Array.toList_setIfInBounds]
theorem Ro.put {g cap n : Nat} {w : World} {d : Array En} (h : Ro g cap n w d) (i : Nat) (hi : i < n) (e : En) :
    Ro g cap n (((w.setCell ⟨g, i * 3, none⟩ (.int .i64 e.at_)).setCell ⟨g, i * 3 + 1, none⟩ (.int .i64 e.num)).setCell ⟨g, i * 3 + 2, none⟩ (.int .i64 e.what)) (d.setIfInBounds i e) := by
  have hs := h.size
  refine ⟨by simpa using hs, ?_⟩
  rw [← flat_set d i e (by omega)]
  exact (((h.own.stored (i * 3) _).1.stored (i * 3 + 1) _).1.stored (i * 3 + 2) _).1

set_option maxHeartbeats 2000000 in
theorem swap_any (g cap n : Nat) (d : Array En) (w : World) (h : Ro g cap n w d) (i j : Nat) (hi : i < n) (hj : j < n) :
    Calls Try.prog 68 #[.slice (some ⟨g, 0, none⟩) n cap, .int .i64 i, .int .i64 j] w fun e w' => e = .returned (.tuple #[]) ∧ Kp [g] w w' ∧ Ro g cap n w' (swp d i j) := by
  obtain ⟨ci0, ci1, ci2⟩ := h.cell i hi
  obtain ⟨cj0, cj1, cj2⟩ := h.cell j hj
  have K := Kp.refl [] w
  have hlt := h.lt
  have fr := h.frozen
  have P : Hid (Ro g cap n w d) := h
  clear h
  obtain ⟨x, hx⟩ : ∃ x, x = d[i]! := ⟨_, rfl⟩
  obtain ⟨y, hy⟩ : ∃ y, y = d[j]! := ⟨_, rfl⟩
  simp only [← hx] at ci0 ci1 ci2
  simp only [← hy] at cj0 cj1 cj2
  have Hx := hide hx
  have Hy := hide hy
  clear hx hy
  obtain ⟨u0, s0⟩ := cell?_setCell_some (w := w) (p := ⟨g, i * 3, none⟩) (x := .int .i64 y.at_) (q := ⟨g, j * 3, none⟩) cj0
  obtain ⟨t1, z1⟩ := cell?_setCell_some (w := w) (p := ⟨g, i * 3, none⟩) (x := .int .i64 y.at_) (q := ⟨g, j * 3 + 1, none⟩) cj1
  obtain ⟨u1, s1⟩ := cell?_setCell_some (p := ⟨g, i * 3 + 1, none⟩) (x := .int .i64 y.num) (q := ⟨g, j * 3 + 1, none⟩) z1
  obtain ⟨t2, z2⟩ := cell?_setCell_some (w := w) (p := ⟨g, i * 3, none⟩) (x := .int .i64 y.at_) (q := ⟨g, j * 3 + 2, none⟩) cj2
  obtain ⟨t3, z3⟩ := cell?_setCell_some (p := ⟨g, i * 3 + 1, none⟩) (x := .int .i64 y.num) (q := ⟨g, j * 3 + 2, none⟩) z2
  obtain ⟨u2, s2⟩ := cell?_setCell_some (p := ⟨g, i * 3 + 2, none⟩) (x := .int .i64 y.what) (q := ⟨g, j * 3 + 2, none⟩) z3
  go_enter Try.func68, Try.ntmps68
  go_wp2
  go_region
  all_goals go_wp2
  all_goals go_end0
  all_goals
    have k1 := (Kp.refl [g] w).setCell (p := ⟨g, i * 3, none⟩) (.inl (by simp)) (.int .i64 y.at_) |>.setCell (p := ⟨g, i * 3 + 1, none⟩) (.inl (by simp)) (.int .i64 y.num) |>.setCell (p := ⟨g, i * 3 + 2, none⟩) (.inl (by simp)) (.int .i64 y.what)
    have k2 := k1.setCell (p := ⟨g, j * 3, none⟩) (.inl (by simp)) (.int .i64 x.at_) |>.setCell (p := ⟨g, j * 3 + 1, none⟩) (.inl (by simp)) (.int .i64 x.num) |>.setCell (p := ⟨g, j * 3 + 2, none⟩) (.inl (by simp)) (.int .i64 x.what)
    have r := (P.out.put i hi y).put j hj x
    refine ⟨rfl, k2.drew, ?_⟩
    unfold swp
    rw [← Hx.out, ← Hy.out]
    exact r.kept (kp_drewN _ 1)

theorem len_any (v : Option Addr) (n c : Nat) (w : World) : Calls Try.prog 66 #[.slice v n c] w fun e w' => e = .returned (.int .i64 n) ∧ w' = w := by
  go_enter Try.func66, Try.ntmps66
  go_wp2
  go_ret
  exact ⟨rfl, rfl⟩
end Go.Proofs.Ytlmbheobaiibeaa
