/-
  Lists of slices by their bytes, cut and looked at, as what an operation yields.
-/
import Derived.Test.YtphhofgjnlfjmaaDoorKTLc
import Derived.Test.YtphhofgjnlfjmaaDoorKRGrows
namespace Go.Proofs.YtphhofgjnlfjmaaDoor
open Go.RowKit

/-- The value is a slice of slices that reads as these bytes; its room is told. -/
def LcM (ls : List (List Int)) : Tell := fun v w => ∃ l, Lc w v l ∧ l.map (·.2) = ls
theorem stable_lcm (ls : List (List Int)) : Tell.stable (LcM ls) := fun _ _ _ k ⟨l, h, e⟩ => ⟨l, h.kept k, e⟩
theorem LcM.kept {ls : List (List Int)} {v : Value} {w w' : World} (h : LcM ls v w) (k : Kp [] w w') : LcM ls v w' := stable_lcm ls _ _ _ k h
theorem LcM.lsm {ls : List (List Int)} {v : Value} {w : World} (h : LcM ls v w) : LsM ls v w := by obtain ⟨l, h1, h2⟩ := h; exact ⟨l, h1.1, h2⟩
theorem LcM.bs {ls : List (List Int)} {v : Value} {w : World} (h : LcM ls v w) : ∀ x ∈ ls, Bs x := by
  obtain ⟨l, h1, rfl⟩ := h
  intro x hx
  obtain ⟨y, hy, rfl⟩ := List.mem_map.1 hx
  exact h1.1.bs y hy
theorem LcM.shape {ls : List (List Int)} {v : Value} {w : World} (h : LcM ls v w) : ∃ ao c, v = .slice ao ls.length c ∧ ls.length ≤ c ∧ c ≤ 9223372036854775807 ∧ (ao = none → c = 0) := by
  obtain ⟨l, h1, rfl⟩ := h
  rw [List.length_map]
  exact h1.shape
theorem LcM.take {ls : List (List Int)} {w : World} {ao : Option Addr} {len c : Nat} (h : LcM ls (.slice ao len c) w) (n : Nat) (hn : n ≤ ls.length) : LcM (ls.take n) (.slice ao n c) w := by
  obtain ⟨l, h1, rfl⟩ := h
  exact ⟨l.take n, h1.take n (by simpa using hn), by rw [List.map_take]⟩
theorem LcM.drop {ls : List (List Int)} {w : World} {ao : Option Addr} {len c : Nat} (h : LcM ls (.slice ao len c) w) (n : Nat) (hn : n ≤ ls.length) : LcM (ls.drop n) (.slice (if c = n then ao else ao.map (·.add n)) (len - n) (c - n)) w := by
  obtain ⟨l, h1, rfl⟩ := h
  exact ⟨l.drop n, h1.drop n (by simpa using hn), by rw [List.map_drop]⟩
theorem LcM.span {ls : List (List Int)} {w : World} {ao : Option Addr} {len c : Nat} (h : LcM ls (.slice ao len c) w) (i k : Nat) (hi : i ≤ k) (hk : k ≤ ls.length) : LcM ((ls.drop i).take (k - i)) (.slice (if c = i then ao else ao.map (·.add i)) (k - i) (c - i)) w := by
  obtain ⟨l, h1, rfl⟩ := h
  exact ⟨(l.drop i).take (k - i), h1.span i k hi (by simpa using hk), by rw [List.map_take, List.map_drop]⟩
theorem lcm_nil (w : World) : LcM [] (.slice none 0 0) w := ⟨[], lc_nil w, rfl⟩
/-- a slice at a place of a list. -/
theorem LcM.at {ls : List (List Int)} {w : World} {ao : Option Addr} {len c : Nat} (h : LcM ls (.slice ao len c) w) (i : Nat) (x : List Int) (hx : ls[i]? = some x) : len = ls.length ∧ ∃ b off u, ao = some ⟨b, off, none⟩ ∧ w.cell? ⟨b, off + i, none⟩ = some u ∧ Sl w u x ∧ Bs x := by
  obtain ⟨l, ⟨⟨_, _, e, _, h2⟩, _⟩, rfl⟩ := h
  cases e
  rw [List.getElem?_map] at hx
  obtain ⟨y, hy, rfl⟩ := Option.map_eq_some_iff.1 hx
  obtain ⟨hi, rfl⟩ := List.getElem?_eq_some_iff.1 hy
  obtain ⟨b, off, e, h3, h4, h5⟩ := h2 i hi
  exact ⟨by simp, b, off, _, e, h3, h4, h5⟩
/-- The value points to a slice that reads so. -/
def PtT (x : List Int) : Tell := fun v w => ∃ b off u, v = .pointer (some ⟨b, off, none⟩) ∧ w.cell? ⟨b, off, none⟩ = some u ∧ Sl w u x
theorem stable_pt (x : List Int) : Tell.stable (PtT x) := fun _ _ _ k ⟨b, off, u, e, h1, h2⟩ => ⟨b, off, u, e, k.cell h1 (by simp), h2.kept k (by simp)⟩
/-- The value points to this byte. -/
def BpT (x : Int) : Tell := fun v w => ∃ a : Addr, v = .pointer (some a) ∧ w.cell? a = some (.int .u8 x)
theorem stable_bp (x : Int) : Tell.stable (BpT x) := fun _ _ _ k ⟨a, e, h1⟩ => ⟨a, e, k.cell h1 (by simp)⟩
/-- The value is a row of bytes from base on. -/
def RwT (base : Nat) (r : List Int) : Tell := fun v w => ∃ ao m c, v = .slice ao m c ∧ Row w base (.slice ao m c) r
theorem stable_rw (base : Nat) (r : List Int) : Tell.stable (RwT base r) := fun _ _ _ k ⟨ao, m, c, e, h⟩ => ⟨ao, m, c, e, h.kept k (by simp)⟩

section
variable {o : Oper} {a : Act} {w : World}
theorem grown_lhead (s k : Operand) (ls : List (List Int)) (n : Nat) (ho : o.op = .slice 22 s none (some k) none) (h : LcM ls (a.eval s) w) (hk : a.eval k = .int .i64 (n : Nat)) (hn : n ≤ ls.length) : grown Tryd.prog w (LcM (ls.take n)) ((execOp a.eval o).run Tryd.prog w) := by
  obtain ⟨ao, c, e, h1, h2, h3⟩ := h.shape
  rw [e] at h
  refine grown_run (v := .slice ao n c) (w' := w) ?_ (Kp.refl _ _) (h.take n hn)
  have hr := run_lhead ao ls.length c n w (by omega)
  unfold execOp
  simp only [ho, e, hk, Sem.run_bind, hr, Result.andThen_ok, Sem.run_pure, Option.map_some, Option.map_none]
theorem grown_lfrom (s k : Operand) (ls : List (List Int)) (n : Nat) (ho : o.op = .slice 22 s (some k) none none) (h : LcM ls (a.eval s) w) (hk : a.eval k = .int .i64 (n : Nat)) (hn : n ≤ ls.length) : grown Tryd.prog w (LcM (ls.drop n)) ((execOp a.eval o).run Tryd.prog w) := by
  obtain ⟨ao, c, e, h1, h2, h3⟩ := h.shape
  rw [e] at h
  refine grown_run (w' := w) ?_ (Kp.refl _ _) (h.drop n hn)
  have hr := run_lfrom ao ls.length c n w hn h1 h3
  unfold execOp
  simp only [ho, e, hk, Sem.run_bind, hr, Result.andThen_ok, Sem.run_pure, Option.map_some, Option.map_none]
theorem grown_lspan (s p k : Operand) (ls : List (List Int)) (i n : Nat) (ho : o.op = .slice 22 s (some p) (some k) none) (h : LcM ls (a.eval s) w) (hp : a.eval p = .int .i64 (i : Nat)) (hk : a.eval k = .int .i64 (n : Nat)) (hi : i ≤ n) (hn : n ≤ ls.length) : grown Tryd.prog w (LcM ((ls.drop i).take (n - i))) ((execOp a.eval o).run Tryd.prog w) := by
  obtain ⟨ao, c, e, h1, h2, h3⟩ := h.shape
  rw [e] at h
  refine grown_run (w' := w) ?_ (Kp.refl _ _) (h.span i n hi hn)
  have hr := run_lspan ao ls.length c i n w hi (by omega) h3
  unfold execOp
  simp only [ho, e, hp, hk, Sem.run_bind, hr, Result.andThen_ok, Sem.run_pure, Option.map_some, Option.map_none]
theorem grown_lindex (s k : Operand) (ls : List (List Int)) (i : Nat) (x : List Int) (ho : o.op = .indexAddr 22 s k) (h : LcM ls (a.eval s) w) (hk : a.eval k = .int .i64 (i : Nat)) (hx : ls[i]? = some x) : grown Tryd.prog w (PtT x) ((execOp a.eval o).run Tryd.prog w) := by
  obtain ⟨ao, c, e, h1, h2, h3⟩ := h.shape
  rw [e] at h
  obtain ⟨_, b, off, u, rfl, hc, hS, _⟩ := h.at i x hx
  have hi : i < ls.length := (List.getElem?_eq_some_iff.1 hx).1
  have hi2 : (i : Int) < (ls.length : Int) := by omega
  refine grown_run (v := .pointer (some ⟨b, off + i, none⟩)) (w' := w) ?_ (Kp.refl _ _) ⟨b, off + i, u, rfl, hc, hS⟩
  obtain ⟨ρ, hρ, _⟩ := eval_is a
  rw [hρ] at e hk ⊢
  unfold execOp
  simp only [ho]
  simp [go_sem, e, hk, hi2]
theorem grown_lload (p : Operand) (x : List Int) (ho : o.op = .load 30 p) (h : PtT x (a.eval p) w) : grown Tryd.prog w (SlT x) ((execOp a.eval o).run Tryd.prog w) := by
  obtain ⟨b, off, u, e, hc, hS⟩ := h
  refine grown_run (v := u) (w' := w) ?_ (Kp.refl _ _) hS
  obtain ⟨ao, c, rfl, _⟩ := hS
  obtain ⟨ρ, hρ, _⟩ := eval_is a
  rw [hρ] at e ⊢
  unfold execOp
  simp only [ho]
  simp [go_sem, e, hc]
theorem grown_bindex (s k : Operand) (bs : List Int) (i : Nat) (x : Int) (ho : o.op = .indexAddr 30 s k) (h : Sl w (a.eval s) bs) (hk : a.eval k = .int .i64 (i : Nat)) (hx : bs[i]? = some x) : grown Tryd.prog w (BpT x) ((execOp a.eval o).run Tryd.prog w) := by
  obtain ⟨ao, c, e, h1, h2, h3, h4⟩ := h
  have hi : i < bs.length := (List.getElem?_eq_some_iff.1 hx).1
  cases ao with
  | none => have := h3 rfl; omega
  | some ad =>
    have hc := h4 ad rfl i (.int .u8 x) (by rw [List.getElem?_map, hx]; rfl)
    have hi2 : (i : Int) < (bs.length : Int) := by omega
    refine grown_run (v := .pointer (some (ad.add i))) (w' := w) ?_ (Kp.refl _ _) ⟨_, rfl, hc⟩
    obtain ⟨ρ, hρ, _⟩ := eval_is a
    rw [hρ] at e hk ⊢
    unfold execOp
    simp only [ho]
    simp [go_sem, e, hk, hi2]
theorem grown_bload (p : Operand) (x : Int) (ho : o.op = .load 5 p) (h : BpT x (a.eval p) w) : grown Tryd.prog w (Is (.int .u8 x)) ((execOp a.eval o).run Tryd.prog w) := by
  obtain ⟨ad, e, hc⟩ := h
  refine grown_run (v := .int .u8 x) (w' := w) ?_ (Kp.refl _ _) rfl
  obtain ⟨ρ, hρ, _⟩ := eval_is a
  rw [hρ] at e ⊢
  unfold execOp
  simp only [ho]
  simp [go_sem, e, hc]
theorem grown_blen (s : Operand) (bs : List Int) (n : Nat) (ho : o.op = .call { callee := .builtin .len, args := #[s], argTypes := #[30] }) (h : Sl w (a.eval s) bs) (hn : bs.length = n) : grown Tryd.prog w (Is (.int .i64 (n : Nat))) ((execOp a.eval o).run Tryd.prog w) := by
  obtain ⟨ao, c, e, h1, h2, h3, h4⟩ := h
  subst hn
  refine grown_run (v := .int .i64 (bs.length : Nat)) (w' := w) ?_ (Kp.refl _ _) rfl
  obtain ⟨ρ, hρ, _⟩ := eval_is a
  rw [hρ] at e ⊢
  unfold execOp
  simp only [ho]
  simp [go_sem, e]
end
end Go.Proofs.YtphhofgjnlfjmaaDoor
