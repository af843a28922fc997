/-
  Plain facts on slices of bytes: what a slice reads as, kept, cut, turned into a string; numbers out of bytes.
-/
import Derived.Laws.AppendOwnNone
import Derived.Test.YtfepkcjelecpkaaQC1
namespace Go.Proofs.Ytfepkcjelecpkaa
open Go.RowKit
/-- v is a slice that reads as the bytes bs. -/
def Sl (w : World) (v : Value) (bs : List Int) : Prop :=
  ∃ ao c, v = .slice ao bs.length c ∧ bs.length ≤ c ∧ c ≤ maxLen ∧ (ao = none → c = 0) ∧ ∀ a, ao = some a → ∀ j u, (bs.map (Value.int .u8))[j]? = some u → w.cell? (a.add j) = some u
theorem add_block (a : Addr) (j : Nat) : (a.add j).block = a.block := by unfold Addr.add; split <;> rfl
theorem Sl.nil (w : World) : Sl w (.slice none 0 0) [] := ⟨none, 0, rfl, Nat.le_refl _, Nat.zero_le _, fun _ => rfl, (fun _ h => by cases h)⟩
theorem Sl.kept {w w' : World} {v : Value} {bs : List Int} {S : List Nat} (h : Sl w v bs) (k : Kp S w w') (hv : ∀ i, v.ownBlock = some i → i ∉ S) : Sl w' v bs := by
  obtain ⟨ao, c, rfl, h1, h2, h3, h4⟩ := h
  refine ⟨ao, c, rfl, h1, h2, h3, fun a ha j u hu => ?_⟩
  subst ha
  exact k.cell (h4 a rfl j u hu) (by rw [add_block]; exact hv a.block rfl)
theorem Sl.old {w w' : World} {v : Value} {bs : List Int} {S : List Nat} (h : Sl w v bs) (k : Kp S w w') (hv : ∀ i, v.ownBlock = some i → i < w.heap.size → i ∉ S) : Sl w' v bs := by
  obtain ⟨ao, c, rfl, h1, h2, h3, h4⟩ := h
  refine ⟨ao, c, rfl, h1, h2, h3, fun a ha j u hu => ?_⟩
  subst ha
  have hc := h4 a rfl j u hu
  exact k.cell hc (by rw [add_block]; exact hv a.block rfl (by have := World.block_lt_of_cell? _ _ hc; rwa [add_block] at this))
theorem Sl.take {w : World} {ao : Option Addr} {len c : Nat} {bs : List Int} (h : Sl w (.slice ao len c) bs) (n : Nat) (hn : n ≤ bs.length) : Sl w (.slice ao n c) (bs.take n) := by
  obtain ⟨ao', c', he, h1, h2, h3, h4⟩ := h
  cases he
  have hl : (bs.take n).length = n := by simp; omega
  refine ⟨ao, c, by rw [hl], by omega, h2, h3, fun a ha j u hu => ?_⟩
  refine h4 a ha j u ?_
  rw [List.map_take, List.getElem?_take] at hu
  split at hu
  · exact hu
  · cases hu
theorem Sl.drop {w : World} {ao : Option Addr} {len c : Nat} {bs : List Int} (h : Sl w (.slice ao len c) bs) (n : Nat) (hn : n ≤ bs.length) :
    Sl w (.slice (if c = n then ao else ao.map (·.add n)) (len - n) (c - n)) (bs.drop n) := by
  obtain ⟨ao', c', he, h1, h2, h3, h4⟩ := h
  cases he
  have hl : (bs.drop n).length = bs.length - n := by simp
  refine ⟨_, c - n, by rw [hl], by omega, by omega, fun ha => ?_, fun a ha j u hu => ?_⟩
  · split at ha
    · omega
    · cases hao : ao with
      | none => have := h3 hao; omega
      | some x => rw [hao] at ha; cases ha
  · rw [List.map_drop, List.getElem?_drop] at hu
    split at ha
    · rename_i hc
      have : (bs.map (Value.int .u8)).length ≤ n + j := by simp; omega
      rw [List.getElem?_eq_none this] at hu; cases hu
    · cases hao : ao with
      | none => rw [hao] at ha; cases ha
      | some x =>
        rw [hao] at ha
        simp only [Option.map_some, Option.some.injEq] at ha
        subst ha
        rw [Addr.add_add]
        exact h4 x hao (n + j) u hu
theorem Sl.inj {w : World} {v : Value} {bs cs : List Int} (h : Sl w v bs) (k : Sl w v cs) : bs = cs := by
  obtain ⟨ao, c, rfl, h1, h2, h3, h4⟩ := h
  obtain ⟨ao', c', he, k1, k2, k3, k4⟩ := k
  injection he with e1 e2 e3
  subst e1
  refine List.ext_getElem? (fun j => ?_)
  rcases Nat.lt_or_ge j bs.length with hj | hj
  · cases hao : ao with
    | none => have := h3 hao; omega
    | some a =>
      have x1 := h4 a hao j (.int .u8 bs[j]) (by simp [List.getElem?_eq_getElem hj])
      have x2 := k4 a hao j (.int .u8 (cs[j]'(by omega))) (by simp [List.getElem?_eq_getElem (show j < cs.length by omega)])
      rw [x1] at x2
      simp only [Option.some.injEq, Value.int.injEq, true_and] at x2
      rw [List.getElem?_eq_getElem hj, List.getElem?_eq_getElem (show j < cs.length by omega), x2]
  · rw [List.getElem?_eq_none hj, List.getElem?_eq_none (by omega)]
/-- a slice of bytes as a string. -/
theorem Sl.conv {P : Program} {w : World} {v : Value} {bs : List Int} (h : Sl w v bs) (src dst e : TypeId) (hs : P.underlying src = some (.slice e)) (he : P.underlying e = some (.int .u8)) (hd : P.underlying dst = some .string) :
    (convert src dst v).run P w = .ok (.string (strOfNums bs)) w := by
  obtain ⟨ao, c, rfl, h1, h2, h3, h4⟩ := h
  cases ao with
  | none =>
    have : bs = [] := List.eq_nil_of_length_eq_zero (by have := h3 rfl; omega)
    subst this
    rw [run_convert_bytes_nil w src e hs he _ c dst hd]
    rfl
  | some a =>
    have hl : (loadCells a bs.length).run P w = .ok (bs.map (Value.int .u8)).toArray w := by
      have := run_loadCells_list (P := P) w a (bs.map (Value.int .u8)) (h4 a rfl)
      simpa using this
    rw [run_convert_bytes_string w src dst e _ bs.length c hs he hd, run_bytesToString w _ bs.length c bs hl, foldl_push_bytes]
    simp [strOfNums, ByteArray.empty, ByteArray.emptyWithCapacity]
    rfl
/-- bytes: each from 0 to 255. -/
def Bs (bs : List Int) : Prop := ∀ b ∈ bs, 0 ≤ b ∧ b ≤ 255
end Go.Proofs.Ytfepkcjelecpkaa

/-
  Chapter 12 as plain functions: a disk of one file, what each call answers and what it leaves.
-/
namespace Go.Proofs.Ytfepkcjelecpkaa
/-- A disk: its bytes, how many of them are synced, its limit, at which call from now on power goes (none where it is not above 0), whether power is gone. -/
structure Dk where
  bs : List Int
  syn : Nat
  lim : Int
  arm : Int
  down : Bool
namespace Dk
/-- How many bytes stay behind a crash. -/
def left (d : Dk) (keep : Int) : Nat := d.syn + min keep.toNat (d.bs.length - d.syn)
/-- A disk as calls make it. -/
structure Ok (d : Dk) : Prop where
  syn : d.syn ≤ d.bs.length
  fits : (d.bs.length : Int) ≤ d.lim
  lim : d.lim ≤ 1048576
end Dk
end Go.Proofs.Ytfepkcjelecpkaa

/-
  SHA-256 as a plain function of lists of numbers: what both the program and the reference come to.
-/
namespace Go.Proofs.Ytfepkcjelecpkaa
open Go.RowKit
/-- A sum of words. -/
def ad (x y : Int) : Int := (x + y) % 4294967296
end Go.Proofs.Ytfepkcjelecpkaa

/-
  Arrays of words: as values, in memory; how a walk makes, reads and writes them whole.
-/
namespace Go.Proofs.Ytfepkcjelecpkaa
open Go.RowKit
/-- The block b holds the array of these words. -/
def Ar (w : World) (b : Nat) (t : TypeId) (s : List Int) : Prop := w.heap[b]? = some (.cells (s.map (Value.int .u32)).toArray t (0, 0))
theorem Ar.kept {w w' : World} {b : Nat} {t : TypeId} {s : List Int} {S : List Nat} (h : Ar w b t s) (k : Kp S w w') (hb : b ∉ S) : Ar w' b t s := k.heap h hb
theorem Ar.lt {w : World} {b : Nat} {t : TypeId} {s : List Int} (h : Ar w b t s) : b < w.heap.size := (Array.getElem?_eq_some_iff.1 h).1
theorem Ar.drewN {w : World} {b : Nat} {t : TypeId} {s : List Int} (h : Ar w b t s) (n : Nat) : Ar (w.drewN n) b t s := h
theorem Ar.cell {w : World} {b : Nat} {t : TypeId} {s : List Int} (h : Ar w b t s) (i : Nat) (hi : i < s.length) : w.cell? ⟨b, i, none⟩ = some (.int .u32 (s.getD i 0)) := by
  rw [cell_of_row w b i _ t (0, 0) h]
  simp [List.getElem?_eq_getElem hi]
section
variable {ops : Array Oper} {rest : List Oper} {o : Oper} {a : Act} {w : World} {Q : Exit → Act → World → Prop}
end
end Go.Proofs.Ytfepkcjelecpkaa

/-
  Single operations of a region that only makes memory.
-/
namespace Go.Proofs.Ytfepkcjelecpkaa
open Go.RowKit
/-- The value is c. -/
def Is (c : Value) : Tell := fun v _ => v = c
theorem stable_is (c : Value) : Tell.stable (Is c) := fun _ _ _ _ h => h
section
variable {P : Program} {ops : Array Oper} {o : Oper} {a : Act} {w : World} {R : Tell}
theorem wants_plain (hg : o.guard = none) (h : grown P w R ((execOp a.eval o).run P w)) : wants P ops o a w R := by
  unfold wants
  rw [if_pos (by simp [Region.wanted, hg])]
  exact h
theorem wanted_iff {g : Nat} {b b' : Bool} {d : Tmp} (hg : o.guard = some (g, b)) (hd : (ops[g]?).bind (·.dst) = some d) (he : a.eval (.tmp d) = .bool b') : Region.wanted o (yielded ops a.tmps) = (b' == b) := by
  have h1 : a.tmps[d]? = some (.bool b') := by
    rcases Nat.lt_or_ge d a.tmps.size with h | h
    · simp [Act.eval, h] at he ⊢; exact he
    · simp [Act.eval, Array.getElem?_eq_none h, undef] at he
  have h2 : yielded ops a.tmps g = some b' := by
    unfold yielded
    rw [hd]
    simp only [Option.bind_some, h1]
  simp only [Region.wanted, hg, h2]
  cases b <;> cases b' <;> rfl
theorem wants_guard {g : Nat} {b : Bool} {d : Tmp} (hg : o.guard = some (g, b)) (hd : (ops[g]?).bind (·.dst) = some d) (he : a.eval (.tmp d) = .bool b) (h : grown P w R ((execOp a.eval o).run P w)) : wants P ops o a w R := by
  unfold wants
  rw [if_pos (by rw [wanted_iff hg hd he]; simp)]
  exact h
theorem grown_move (x : Operand) (ho : o.op = .move x) (h : R (a.eval x) w) : grown P w R ((execOp a.eval o).run P w) := by
  unfold execOp; simp only [ho]; exact ⟨Kp.refl _ _, h⟩
theorem grown_assign (x : Operand) (ho : o.op = .assign x) (h : R (a.eval x) w) : grown P w R ((execOp a.eval o).run P w) := by
  unfold execOp; simp only [ho]; exact ⟨Kp.refl _ _, h⟩
theorem grown_pick (c x y : Operand) (b : Bool) (ho : o.op = .pick c x y) (hc : a.eval c = .bool b) (h : R (if b then a.eval x else a.eval y) w) : grown P w R ((execOp a.eval o).run P w) := by
  unfold execOp; simp only [ho, hc, asBool]; exact ⟨Kp.refl _ _, h⟩
theorem grown_run {v : Value} {w' : World} (h : (execOp a.eval o).run P w = .ok (.value v) w') (hk : Kp [] w w') (hR : R v w') : grown P w R ((execOp a.eval o).run P w) := by
  rw [h]; exact ⟨hk, hR⟩
theorem grown_call {f : FuncId} {fn : Func} {xs : Array Operand} {ats : Array TypeId} (ho : o.op = .call { callee := .value (.func f), args := xs, argTypes := ats }) (hf : P.funcs[f]? = some fn) (hn : (fn.name == "runtime.NumGoroutine") = false) (hb : fn.body.isNone = false)
    (h : Calls P f (xs.map a.eval) w fun e w' => ∃ v, e = .returned v ∧ Kp [] w w' ∧ R v w') : grown P w R ((execOp a.eval o).run P w) := by
  have e : (execOp a.eval o).run P w = .ok (.enter f (xs.map a.eval)) w := by
    obtain ⟨dst, op, ty, pos, after, guard⟩ := o
    simp only at ho
    subst ho
    rw [execOp_call_go]
    have h1 : fn.name ≠ "runtime.NumGoroutine" := by simpa using hn
    have h2 : ¬ fn.body = none := by intro h2; rw [h2] at hb; cases hb
    simp [callFunc, hf, h1, h2]
  rw [e]
  exact h
end
theorem steps_cons {P : Program} {ops : Array Oper} {a0 : Act} {w0 : World} {Rs : List Tell} {o : Oper} {l : List Oper} {ks : List (Tmp × Option Nat)} {kss : List (List (Tmp × Option Nat))} {R : Tell} {rs : List Tell}
    (h1 : ∀ a w, Kp [] w0 w → Knows a0 Rs a w ks → wants P ops o a w R) (h2 : StepsR P ops a0 w0 Rs l kss rs) : StepsR P ops a0 w0 Rs (o :: l) (ks :: kss) (R :: rs) := ⟨h1, h2⟩
theorem fin_nil {Q : Exit → Act → World → Prop} {a : Act} {w : World} (h : Q .normal a w) : FinR Q [] [] a w := h
theorem eval_is (a : Act) : ∃ ρ : Operand → Value, a.eval = ρ ∧ (∀ v, ρ (.const v) = v) ∧ (∀ f, ρ (.func f) = .func (.func f) #[] #[]) ∧ ∀ g, ρ (.global g) = .pointer (some ⟨g, 0, none⟩) := ⟨_, rfl, fun _ => rfl, fun _ => rfl, fun _ => rfl⟩
end Go.Proofs.Ytfepkcjelecpkaa
