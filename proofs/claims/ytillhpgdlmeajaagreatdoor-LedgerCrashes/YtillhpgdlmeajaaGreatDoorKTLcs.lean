/-
  Lists of slices with the room behind them told: how they are cut.
-/
import Derived.Test.YtillhpgdlmeajaaGreatDoorKLMore
import Derived.Test.YtillhpgdlmeajaaGreatDoorKRGrows
namespace Go.Proofs.YtillhpgdlmeajaaGreatDoor
open Go.RowKit

/-- v is a slice of slices that reads so; its room is no less than its length. -/
def Lc (w : World) (v : Value) (l : List (Value × List Int)) : Prop :=
  Lists w v l ∧ ∃ ao c, v = .slice ao l.length c ∧ l.length ≤ c ∧ c ≤ maxLen ∧ (ao = none → c = 0)
theorem Lc.kept {w w' : World} {v : Value} {l : List (Value × List Int)} (h : Lc w v l) (k : Kp [] w w') : Lc w' v l := ⟨h.1.kept k, h.2⟩
theorem lc_nil (w : World) : Lc w (.slice none 0 0) [] := ⟨lists_nil w none 0, none, 0, rfl, by simp, by simp, fun _ => rfl⟩
theorem Lc.take {w : World} {ao : Option Addr} {len c : Nat} {l : List (Value × List Int)} (h : Lc w (.slice ao len c) l) (n : Nat) (hn : n ≤ l.length) : Lc w (.slice ao n c) (l.take n) := by
  obtain ⟨h1, ao', c', e, h2, h3, h4⟩ := h
  cases e
  have hl : (l.take n).length = n := by simp; omega
  exact ⟨h1.take hn, ao, c, by rw [hl], by omega, h3, h4⟩
theorem Lc.drop {w : World} {ao : Option Addr} {len c : Nat} {l : List (Value × List Int)} (h : Lc w (.slice ao len c) l) (n : Nat) (hn : n ≤ l.length) :
    Lc w (.slice (if c = n then ao else ao.map (·.add n)) (len - n) (c - n)) (l.drop n) := by
  obtain ⟨⟨_, _, _, g1, g2⟩, ao', c', e, h2, h3, h4⟩ := h
  rename_i x1 x2 x3
  cases e
  cases x3
  have hl : (l.drop n).length = l.length - n := by simp
  refine ⟨⟨_, c - n, by rw [hl], by omega, fun i hi => ?_⟩, _, c - n, by rw [hl], by omega, by omega, fun ha => ?_⟩
  · have hi2 : n + i < l.length := by omega
    obtain ⟨b, off, e, h5, h6, h7⟩ := g2 (n + i) hi2
    subst e
    have e2 : (l.drop n)[i] = l[n + i] := by simp
    rw [e2, if_neg (by omega)]
    exact ⟨b, off + n, by simp [Addr.add_lit], by rw [Nat.add_assoc]; exact h5, h6, h7⟩
  · split at ha
    · omega
    · cases hao : ao with
      | none => have := h4 hao; omega
      | some x => rw [hao] at ha; cases ha
theorem Lc.span {w : World} {ao : Option Addr} {len c : Nat} {l : List (Value × List Int)} (h : Lc w (.slice ao len c) l) (i k : Nat) (hi : i ≤ k) (hk : k ≤ l.length) :
    Lc w (.slice (if c = i then ao else ao.map (·.add i)) (k - i) (c - i)) ((l.drop i).take (k - i)) :=
  Lc.take (h.drop i (by omega)) (k - i) (by simp; omega)
theorem Lc.shape {w : World} {v : Value} {l : List (Value × List Int)} (h : Lc w v l) : ∃ ao c, v = .slice ao l.length c ∧ l.length ≤ c ∧ c ≤ 9223372036854775807 ∧ (ao = none → c = 0) := by
  obtain ⟨_, ao, c, e, h2, h3, h4⟩ := h
  exact ⟨ao, c, e, h2, by unfold maxLen at h3; omega, h4⟩
theorem lc_of_owns {w : World} {base : Nat} {v : Value} {l : List (Value × List Int)} (h : RowV w base v (l.map (·.1))) (hL : Lists w v l) : Lc w v l := by
  refine ⟨hL, ?_⟩
  rcases h.2 with ⟨rfl, h0⟩ | ⟨g, cap, cur, rfl, _, hg, hc, hm, _⟩
  · have : l.length = 0 := by simpa using h0
    exact ⟨none, 0, by rw [this], by omega, by simp, fun _ => rfl⟩
  · exact ⟨some ⟨g, 0, none⟩, cap, by simp, by simpa using hc, hm, fun h => by cases h⟩
theorem Acc.lc {w wr : World} {ls : List (List Int)} {v : Value} (h : Acc w ls v wr) (hl : ls.length ≤ 1000) : ∃ l, Lc wr v l ∧ l.map (·.2) = ls := by
  obtain ⟨l, h1, h2, _⟩ := h
  exact ⟨l, lc_of_owns h1.1 (h1.lists (by rw [← List.length_map (f := (·.2)), h2]; exact hl)), h2⟩
theorem FewAt.lc {w wr : World} {l : List (Value × List Int)} {most k : Nat} {o : Value} (h : FewAt w wr l most k o) (hB : ∀ x ∈ l, Bs x.2) (hk : k ≤ 1000) : ∃ l', Lc wr o l' ∧ l'.map (·.2) = (l.take k).map fun x => x.2.take most := by
  obtain ⟨l1, h1, e1⟩ := h.lists hB hk
  refine ⟨l1, ?_, e1⟩
  obtain ⟨l', rfl, ho, hK, hS, he⟩ := h
  have hll : l1.length = l'.length := by rw [← List.length_map (f := (·.2)), e1, ← he]; simp
  refine ⟨h1, ?_⟩
  rcases ho.2 with ⟨rfl, h0⟩ | ⟨g, cap, cur, rfl, _, hg, hc, hm, _⟩
  · exact ⟨none, 0, by rw [hll, h0], by omega, by simp, fun _ => rfl⟩
  · exact ⟨some ⟨g, 0, none⟩, cap, by rw [hll], by omega, hm, fun h => by cases h⟩

theorem run_lhead (ao : Option Addr) (n c k : Nat) (w : World) (h2 : k ≤ c) :
    (Instr.sliceAt 33 (.slice ao n c) none (some (.int .i64 k)) none).run Tryz.prog w = .ok (.slice ao k c) w := by
  have e3 : (k : Int) ≤ (c : Int) := by omega
  simp [go_sem, e3]
theorem run_lspan (ao : Option Addr) (n c p k : Nat) (w : World) (h1 : p ≤ k) (h2 : k ≤ c) (h4 : ao = none → c = 0) :
    (Instr.sliceAt 33 (.slice ao n c) (some (.int .i64 p)) (some (.int .i64 k)) none).run Tryz.prog w = .ok (.slice (if c = p then ao else ao.map (·.add p)) (k - p) (c - p)) w := by
  have e1 : (0 : Int) ≤ (p : Int) := by omega
  have e2 : (p : Int) ≤ (k : Int) := by omega
  have e3 : (k : Int) ≤ (c : Int) := by omega
  by_cases hc : c = p
  · rw [if_pos hc]
    subst hc
    simp [go_sem, e2, e3]
  · rw [if_neg hc]
    cases ao with
    | none => have := h4 rfl; omega
    | some a => simp [go_sem, e2, e3, hc]
theorem run_lfrom (ao : Option Addr) (n c p : Nat) (w : World) (h1 : p ≤ n) (h2 : n ≤ c) (h4 : ao = none → c = 0) :
    (Instr.sliceAt 33 (.slice ao n c) (some (.int .i64 p)) none none).run Tryz.prog w = .ok (.slice (if c = p then ao else ao.map (·.add p)) (n - p) (c - p)) w := by
  have e2 : (p : Int) ≤ (n : Int) := by omega
  by_cases hc : c = p
  · rw [if_pos hc]
    subst hc
    simp [go_sem, e2]
  · rw [if_neg hc]
    cases ao with
    | none => have := h4 rfl; omega
    | some a => simp [go_sem, e2, hc]
end Go.Proofs.YtillhpgdlmeajaaGreatDoor

/-
  Lists of slices by their bytes, cut and looked at, as what an operation yields.
-/
namespace Go.Proofs.YtillhpgdlmeajaaGreatDoor
open Go.RowKit

/-- The value is a slice of slices that reads as these bytes; its room is told. -/
def LcM (ls : List (List Int)) : Tell := fun v w => ∃ l, Lc w v l ∧ l.map (·.2) = ls
theorem stable_lcm (ls : List (List Int)) : Tell.stable (LcM ls) := fun _ _ _ k ⟨l, h, e⟩ => ⟨l, h.kept k, e⟩
theorem LcM.kept {ls : List (List Int)} {v : Value} {w w' : World} (h : LcM ls v w) (k : Kp [] w w') : LcM ls v w' := stable_lcm ls _ _ _ k h
theorem LcM.lsm {ls : List (List Int)} {v : Value} {w : World} (h : LcM ls v w) : LsM ls v w := by obtain ⟨l, h1, h2⟩ := h; exact ⟨l, h1.1, h2⟩
theorem LcM.bs {ls : List (List Int)} {v : Value} {w : World} (h : LcM ls v w) : ∀ x ∈ ls, Bs x := by
  obtain ⟨l, h1, rfl⟩ := h
  intro x hx
  obtain ⟨y, hy, rfl⟩ := List.mem_map.1 hx
  exact h1.1.bs y hy
theorem LcM.shape {ls : List (List Int)} {v : Value} {w : World} (h : LcM ls v w) : ∃ ao c, v = .slice ao ls.length c ∧ ls.length ≤ c ∧ c ≤ 9223372036854775807 ∧ (ao = none → c = 0) := by
  obtain ⟨l, h1, rfl⟩ := h
  rw [List.length_map]
  exact h1.shape
theorem LcM.take {ls : List (List Int)} {w : World} {ao : Option Addr} {len c : Nat} (h : LcM ls (.slice ao len c) w) (n : Nat) (hn : n ≤ ls.length) : LcM (ls.take n) (.slice ao n c) w := by
  obtain ⟨l, h1, rfl⟩ := h
  exact ⟨l.take n, h1.take n (by simpa using hn), by rw [List.map_take]⟩
theorem LcM.drop {ls : List (List Int)} {w : World} {ao : Option Addr} {len c : Nat} (h : LcM ls (.slice ao len c) w) (n : Nat) (hn : n ≤ ls.length) : LcM (ls.drop n) (.slice (if c = n then ao else ao.map (·.add n)) (len - n) (c - n)) w := by
  obtain ⟨l, h1, rfl⟩ := h
  exact ⟨l.drop n, h1.drop n (by simpa using hn), by rw [List.map_drop]⟩
theorem LcM.span {ls : List (List Int)} {w : World} {ao : Option Addr} {len c : Nat} (h : LcM ls (.slice ao len c) w) (i k : Nat) (hi : i ≤ k) (hk : k ≤ ls.length) : LcM ((ls.drop i).take (k - i)) (.slice (if c = i then ao else ao.map (·.add i)) (k - i) (c - i)) w := by
  obtain ⟨l, h1, rfl⟩ := h
  exact ⟨(l.drop i).take (k - i), h1.span i k hi (by simpa using hk), by rw [List.map_take, List.map_drop]⟩
theorem lcm_nil (w : World) : LcM [] (.slice none 0 0) w := ⟨[], lc_nil w, rfl⟩
/-- a slice at a place of a list. -/
theorem LcM.at {ls : List (List Int)} {w : World} {ao : Option Addr} {len c : Nat} (h : LcM ls (.slice ao len c) w) (i : Nat) (x : List Int) (hx : ls[i]? = some x) : len = ls.length ∧ ∃ b off u, ao = some ⟨b, off, none⟩ ∧ w.cell? ⟨b, off + i, none⟩ = some u ∧ Sl w u x ∧ Bs x := by
  obtain ⟨l, ⟨⟨_, _, e, _, h2⟩, _⟩, rfl⟩ := h
  cases e
  rw [List.getElem?_map] at hx
  obtain ⟨y, hy, rfl⟩ := Option.map_eq_some_iff.1 hx
  obtain ⟨hi, rfl⟩ := List.getElem?_eq_some_iff.1 hy
  obtain ⟨b, off, e, h3, h4, h5⟩ := h2 i hi
  exact ⟨by simp, b, off, _, e, h3, h4, h5⟩
/-- The value points to a slice that reads so. -/
def PtT (x : List Int) : Tell := fun v w => ∃ b off u, v = .pointer (some ⟨b, off, none⟩) ∧ w.cell? ⟨b, off, none⟩ = some u ∧ Sl w u x
theorem stable_pt (x : List Int) : Tell.stable (PtT x) := fun _ _ _ k ⟨b, off, u, e, h1, h2⟩ => ⟨b, off, u, e, k.cell h1 (by simp), h2.kept k (by simp)⟩
/-- The value points to this byte. -/
def BpT (x : Int) : Tell := fun v w => ∃ a : Addr, v = .pointer (some a) ∧ w.cell? a = some (.int .u8 x)
theorem stable_bp (x : Int) : Tell.stable (BpT x) := fun _ _ _ k ⟨a, e, h1⟩ => ⟨a, e, k.cell h1 (by simp)⟩
/-- The value is a row of bytes from base on. -/
def RwT (base : Nat) (r : List Int) : Tell := fun v w => ∃ ao m c, v = .slice ao m c ∧ Row w base (.slice ao m c) r
theorem stable_rw (base : Nat) (r : List Int) : Tell.stable (RwT base r) := fun _ _ _ k ⟨ao, m, c, e, h⟩ => ⟨ao, m, c, e, h.kept k (by simp)⟩

section
variable {o : Oper} {a : Act} {w : World}
theorem grown_lhead (s k : Operand) (ls : List (List Int)) (n : Nat) (ho : o.op = .slice 33 s none (some k) none) (h : LcM ls (a.eval s) w) (hk : a.eval k = .int .i64 (n : Nat)) (hn : n ≤ ls.length) : grown Tryz.prog w (LcM (ls.take n)) ((execOp a.eval o).run Tryz.prog w) := by
  obtain ⟨ao, c, e, h1, h2, h3⟩ := h.shape
  rw [e] at h
  refine grown_run (v := .slice ao n c) (w' := w) ?_ (Kp.refl _ _) (h.take n hn)
  have hr := run_lhead ao ls.length c n w (by omega)
  unfold execOp
  simp only [ho, e, hk, Sem.run_bind, hr, Result.andThen_ok, Sem.run_pure, Option.map_some, Option.map_none]
theorem grown_lfrom (s k : Operand) (ls : List (List Int)) (n : Nat) (ho : o.op = .slice 33 s (some k) none none) (h : LcM ls (a.eval s) w) (hk : a.eval k = .int .i64 (n : Nat)) (hn : n ≤ ls.length) : grown Tryz.prog w (LcM (ls.drop n)) ((execOp a.eval o).run Tryz.prog w) := by
  obtain ⟨ao, c, e, h1, h2, h3⟩ := h.shape
  rw [e] at h
  refine grown_run (w' := w) ?_ (Kp.refl _ _) (h.drop n hn)
  have hr := run_lfrom ao ls.length c n w hn h1 h3
  unfold execOp
  simp only [ho, e, hk, Sem.run_bind, hr, Result.andThen_ok, Sem.run_pure, Option.map_some, Option.map_none]
theorem grown_lspan (s p k : Operand) (ls : List (List Int)) (i n : Nat) (ho : o.op = .slice 33 s (some p) (some k) none) (h : LcM ls (a.eval s) w) (hp : a.eval p = .int .i64 (i : Nat)) (hk : a.eval k = .int .i64 (n : Nat)) (hi : i ≤ n) (hn : n ≤ ls.length) : grown Tryz.prog w (LcM ((ls.drop i).take (n - i))) ((execOp a.eval o).run Tryz.prog w) := by
  obtain ⟨ao, c, e, h1, h2, h3⟩ := h.shape
  rw [e] at h
  refine grown_run (w' := w) ?_ (Kp.refl _ _) (h.span i n hi hn)
  have hr := run_lspan ao ls.length c i n w hi (by omega) h3
  unfold execOp
  simp only [ho, e, hp, hk, Sem.run_bind, hr, Result.andThen_ok, Sem.run_pure, Option.map_some, Option.map_none]
theorem grown_lindex (s k : Operand) (ls : List (List Int)) (i : Nat) (x : List Int) (ho : o.op = .indexAddr 33 s k) (h : LcM ls (a.eval s) w) (hk : a.eval k = .int .i64 (i : Nat)) (hx : ls[i]? = some x) : grown Tryz.prog w (PtT x) ((execOp a.eval o).run Tryz.prog w) := by
  obtain ⟨ao, c, e, h1, h2, h3⟩ := h.shape
  rw [e] at h
  obtain ⟨_, b, off, u, rfl, hc, hS, _⟩ := h.at i x hx
  have hi : i < ls.length := (List.getElem?_eq_some_iff.1 hx).1
  have hi2 : (i : Int) < (ls.length : Int) := by omega
  refine grown_run (v := .pointer (some ⟨b, off + i, none⟩)) (w' := w) ?_ (Kp.refl _ _) ⟨b, off + i, u, rfl, hc, hS⟩
  obtain ⟨ρ, hρ, _⟩ := eval_is a
  rw [hρ] at e hk ⊢
  unfold execOp
  simp only [ho]
  simp [go_sem, e, hk, hi2]
theorem grown_lload (p : Operand) (x : List Int) (ho : o.op = .load 22 p) (h : PtT x (a.eval p) w) : grown Tryz.prog w (SlT x) ((execOp a.eval o).run Tryz.prog w) := by
  obtain ⟨b, off, u, e, hc, hS⟩ := h
  refine grown_run (v := u) (w' := w) ?_ (Kp.refl _ _) hS
  obtain ⟨ao, c, rfl, _⟩ := hS
  obtain ⟨ρ, hρ, _⟩ := eval_is a
  rw [hρ] at e ⊢
  unfold execOp
  simp only [ho]
  simp [go_sem, e, hc]
theorem grown_bindex (s k : Operand) (bs : List Int) (i : Nat) (x : Int) (ho : o.op = .indexAddr 22 s k) (h : Sl w (a.eval s) bs) (hk : a.eval k = .int .i64 (i : Nat)) (hx : bs[i]? = some x) : grown Tryz.prog w (BpT x) ((execOp a.eval o).run Tryz.prog w) := by
  obtain ⟨ao, c, e, h1, h2, h3, h4⟩ := h
  have hi : i < bs.length := (List.getElem?_eq_some_iff.1 hx).1
  cases ao with
  | none => have := h3 rfl; omega
  | some ad =>
    have hc := h4 ad rfl i (.int .u8 x) (by rw [List.getElem?_map, hx]; rfl)
    have hi2 : (i : Int) < (bs.length : Int) := by omega
    refine grown_run (v := .pointer (some (ad.add i))) (w' := w) ?_ (Kp.refl _ _) ⟨_, rfl, hc⟩
    obtain ⟨ρ, hρ, _⟩ := eval_is a
    rw [hρ] at e hk ⊢
    unfold execOp
    simp only [ho]
    simp [go_sem, e, hk, hi2]
theorem grown_bload (p : Operand) (x : Int) (ho : o.op = .load 5 p) (h : BpT x (a.eval p) w) : grown Tryz.prog w (Is (.int .u8 x)) ((execOp a.eval o).run Tryz.prog w) := by
  obtain ⟨ad, e, hc⟩ := h
  refine grown_run (v := .int .u8 x) (w' := w) ?_ (Kp.refl _ _) rfl
  obtain ⟨ρ, hρ, _⟩ := eval_is a
  rw [hρ] at e ⊢
  unfold execOp
  simp only [ho]
  simp [go_sem, e, hc]
theorem grown_blen (s : Operand) (bs : List Int) (n : Nat) (ho : o.op = .call { callee := .builtin .len, args := #[s], argTypes := #[22] }) (h : Sl w (a.eval s) bs) (hn : bs.length = n) : grown Tryz.prog w (Is (.int .i64 (n : Nat))) ((execOp a.eval o).run Tryz.prog w) := by
  obtain ⟨ao, c, e, h1, h2, h3, h4⟩ := h
  subst hn
  refine grown_run (v := .int .i64 (bs.length : Nat)) (w' := w) ?_ (Kp.refl _ _) rfl
  obtain ⟨ρ, hρ, _⟩ := eval_is a
  rw [hρ] at e ⊢
  unfold execOp
  simp only [ho]
  simp [go_sem, e]
end
end Go.Proofs.YtillhpgdlmeajaaGreatDoor
