/-
  Regions that draw their order, whose operations only make memory, and mark what they made: of each operation a predicate tells what it yields, and stays true as long as cells stay; one look at each operation serves every order.
-/
import Derived.Laws.EntriesVeiled
import Derived.Shelf.Abstract
import Derived.Test.YtfepkcjelecpkaaQOBatchTimes5
namespace Go.Proofs.Ytfepkcjelecpkaa
open Go.RowKit
/-- w' has all cells that w has. -/
structure Kc (w w' : World) : Prop where
  size : w.heap.size ≤ w'.heap.size
  cell : ∀ a v, w.cell? a = some v → w'.cell? a = some v
theorem Kc.refl (w : World) : Kc w w := ⟨Nat.le_refl _, fun _ _ h => h⟩
def grownC (P : Program) (w0 w : World) (R : Tell) : Result Next → Prop
  | .ok (.value v) w' => (Kc w w' ∧ Kp [] w0 w') ∧ R v w'
  | .ok .skip w' => (Kc w w' ∧ Kp [] w0 w') ∧ R undef w'
  | .ok (.enter f args) w' => Calls P f args w' fun e w'' => ∃ v, e = .returned v ∧ (Kc w w'' ∧ Kp [] w0 w'') ∧ R v w''
  | _ => False
/-- What one operation must do. -/
def wantsC (P : Program) (ops : Array Oper) (o : Oper) (a : Act) (w0 w : World) (R : Tell) : Prop :=
  if Region.wanted o (yielded ops a.tmps) then grownC P w0 w R ((execOp a.eval o).run P w) else R undef w
def StepsC (P : Program) (ops : Array Oper) (a0 : Act) (w0 : World) (Rs : List Tell) : List Oper → List (List (Tmp × Option Nat)) → List Tell → Prop
  | o :: l, ks :: kss, R :: rs => (∀ a w, Kp [] w0 w → Knows a0 Rs a w ks → wantsC P ops o a w0 w R) ∧ StepsC P ops a0 w0 Rs l kss rs
  | [], [], [] => True
  | _, _, _ => False
section
variable {P : Program} {l : List Oper} {Q : Exit → Act → World → Prop} {a0 : Act} {w0 : World} {Rs : List Tell} {kss : List (List (Tmp × Option Nat))} {n i : Nat} {listed : Array Bool} {a : Act} {w w' : World} {o : Oper} {R : Tell} {v : Value}
theorem StepsC.at (ops : Array Oper) : ∀ {l : List Oper} {kss : List (List (Tmp × Option Nat))} {rs : List Tell}, StepsC P ops a0 w0 Rs l kss rs → l.length = rs.length ∧ l.length = kss.length ∧ ∀ (i : Nat) o ks R, l[i]? = some o → kss[i]? = some ks → rs[i]? = some R → ∀ a w, Kp [] w0 w → Knows a0 Rs a w ks → wantsC P ops o a w0 w R
  | [], [], [], _ => ⟨rfl, rfl, fun i o ks R h => by simp at h⟩
  | o :: l, ks :: kss, R :: rs, h => by
    obtain ⟨h1, h2, h3⟩ := StepsC.at ops h.2
    refine ⟨by simp [h1], by simp [h2], fun i o' ks' R' ho hk hR => ?_⟩
    cases i with
    | zero =>
      simp at ho hk hR
      subst ho; subst hk; subst hR
      exact h.1
    | succ i => exact h3 i o' ks' R' (by simpa using ho) (by simpa using hk) (by simpa using hR)
  | [], [], _ :: _, h => h.elim
  | [], _ :: _, [], h => h.elim
  | [], _ :: _, _ :: _, h => h.elim
  | _ :: _, [], [], h => h.elim
  | _ :: _, [], _ :: _, h => h.elim
  | _ :: _, _ :: _, [], h => h.elim
end
end Go.Proofs.Ytfepkcjelecpkaa

/-
  Few of the law package, plainly; what the laws of the journal share.
-/
namespace Go.Proofs.Ytfepkcjelecpkaa
open Go.RowKit
open Go.Proofs
theorem Lists.at {w : World} {v : Value} {l : List (Value × List Int)} (h : Lists w v l) (x : Value × List Int) (hx : x ∈ l) : Sl w x.1 x.2 ∧ Bs x.2 := by
  obtain ⟨_, _, _, _, hc⟩ := h
  obtain ⟨i, hi, rfl⟩ := List.getElem_of_mem hx
  obtain ⟨_, _, _, _, h1, h2⟩ := hc i hi
  exact ⟨h1, h2⟩
end Go.Proofs.Ytfepkcjelecpkaa

/-
  Arguments of the laws of the journal: slices of truths, slices of asks.
-/
namespace Go.Proofs.Ytfepkcjelecpkaa
open Go.RowKit
open Go.Proofs
open Go.Deep Go.ChangeShapes Go.WideShapes
namespace Dk
end Dk
def Bools (w : World) (v : Value) (l : List Bool) : Prop :=
  ∃ ao c, v = .slice ao l.length c ∧ l.length ≤ 9223372036854775807 ∧ ∀ i (h : i < l.length), ∃ b off, ao = some ⟨b, off, none⟩ ∧ w.cell? ⟨b, off + i, none⟩ = some (.bool l[i])
theorem Bools.kept {w w' : World} {v : Value} {l : List Bool} (h : Bools w v l) (k : Kp [] w w') : Bools w' v l := by
  obtain ⟨ao, c, rfl, h1, h2⟩ := h
  refine ⟨ao, c, rfl, h1, fun i hi => ?_⟩
  obtain ⟨b, off, e, h3⟩ := h2 i hi
  exact ⟨b, off, e, k.cell h3 (by simp)⟩
/-- one ask as data. -/
structure AskJ where
  kind : Int
  v : Value
  bs : List Int
def AskJAt (w : World) (b o : Nat) (x : AskJ) : Prop :=
  w.rangeAt b o [.int .i64 x.kind, x.v] ∧ Sl w x.v x.bs ∧ Bs x.bs
def AskJs (w : World) (v : Value) (l : List AskJ) : Prop :=
  ∃ ao c, v = .slice ao l.length c ∧ l.length ≤ 9223372036854775807 ∧ ∀ i (h : i < l.length), ∃ b off, ao = some ⟨b, off, none⟩ ∧ AskJAt w b (off + i * 2) l[i]
theorem AskJAt.kept {w w' : World} {b o : Nat} {x : AskJ} (h : AskJAt w b o x) (k : Kp [] w w') : AskJAt w' b o x :=
  ⟨fun j u hu => k.cell (h.1 j u hu) (by simp), h.2.1.kept k (by simp), h.2.2⟩
theorem AskJs.kept {w w' : World} {v : Value} {l : List AskJ} (h : AskJs w v l) (k : Kp [] w w') : AskJs w' v l := by
  obtain ⟨ao, c, rfl, h1, h2⟩ := h
  refine ⟨ao, c, rfl, h1, fun i hi => ?_⟩
  obtain ⟨b, off, e, h3⟩ := h2 i hi
  exact ⟨b, off, e, h3.kept k⟩
section
variable {H : Type} {enc : TypeId × Value → H} {w : World}
end
end Go.Proofs.Ytfepkcjelecpkaa

/-
  Lists gathered behind one another; records cut off by a crash.
-/
namespace Go.Proofs.Ytfepkcjelecpkaa
open Go.RowKit
open Go.Proofs
theorem RowV.room {w : World} {base m c : Nat} {ao : Option Addr} {xs : List Value} (h : RowV w base (.slice ao m c) xs) : m ≤ c ∧ m = xs.length := by
  have hm := h.len
  rcases h.2 with ⟨h', h0⟩ | ⟨g, cap, cur, h', hb, hg, hc, -⟩
  · injection h' with h1 h2 h3
    exact ⟨by omega, hm⟩
  · injection h' with h1 h2 h3
    exact ⟨by omega, hm⟩
end Go.Proofs.Ytfepkcjelecpkaa

/-
  Arguments of the laws of keys: slices of numbers.
-/
namespace Go.Proofs.Ytfepkcjelecpkaa
open Go.RowKit
open Go.Proofs
open Go.Deep Go.ChangeShapes Go.WideShapes
def IntsK (w : World) (v : Value) (l : List Int) : Prop :=
  ∃ ao c, v = .slice ao l.length c ∧ l.length ≤ 9223372036854775807 ∧ ∀ i (h : i < l.length), ∃ b off, ao = some ⟨b, off, none⟩ ∧ w.cell? ⟨b, off + i, none⟩ = some (.int .i64 l[i])
theorem IntsK.kept {w w' : World} {v : Value} {l : List Int} (h : IntsK w v l) (k : Kp [] w w') : IntsK w' v l := by
  obtain ⟨ao, c, rfl, h1, h2⟩ := h
  refine ⟨ao, c, rfl, h1, fun i hi => ?_⟩
  obtain ⟨b, off, e, h3⟩ := h2 i hi
  exact ⟨b, off, e, k.cell h3 (by simp)⟩
theorem Try.cellsIntK : Try.prog.cellsOf 3 = 1 := by kernel_rfl
section
variable {H : Type} {enc : TypeId × Value → H} {w : World}
theorem intsK_of_trod {v : Value} {fuel : Nat} {x : DataW H × List MemPlace} (h : DataW.trod enc Try.prog w 0 (fun _ => true) true fuel 22 [v] = some x) : ∃ l, IntsK w v l := by
  rcases open_slice Try.underlying22 h with ⟨hcs, _⟩ | ⟨a, len, cap, m, n, D, Pl, hcs, _, hl, hm, hmm, _, hx⟩
  · simp only [List.cons.injEq, and_true] at hcs
    subst hcs
    exact ⟨[], none, 0, rfl, by simp, fun i hi => by cases hi⟩
  · simp only [List.cons.injEq, and_true] at hcs
    subst hcs
    simp only [if_true] at hmm
    subst hmm
    rw [Try.cellsIntK] at hx
    have key : ∀ i, i < len → ∃ d : Int, w.cell? (a.add i) = some (.int .i64 d) := fun i hi => by
      obtain ⟨cs', h1, h2⟩ := hx i (by omega)
      obtain ⟨d, e, _⟩ := DataW.trod_int Try.underlying3 h2
      obtain ⟨_, hlen, hcell⟩ := World.cells?_some h1
      subst e
      have k0 := hcell 0 (by omega)
      rw [Nat.mul_one, Addr.add_zero'] at k0
      exact ⟨d, by simpa using k0⟩
    have inst : Inhabited Int := ⟨0⟩
    obtain ⟨F, hF⟩ := @choose_lt Int inst len (fun i d => w.cell? (a.add i) = some (.int .i64 d)) key
    have hlen : ((List.range len).map F).length = len := by simp
    refine ⟨(List.range len).map F, some a, m, by rw [hlen], by unfold maxLen at hm; rw [hlen]; omega, fun i hi => ?_⟩
    rw [hlen] at hi
    have hA := hF i hi
    have h0 := hF 0 (by omega)
    obtain ⟨b, off, spot⟩ := a
    have hspot : spot = none := by simpa [Addr.add] using World.cell?_spot h0
    subst hspot
    rw [Addr.add_lit] at hA
    have hg : ((List.range len).map F)[i]'(by rw [hlen]; exact hi) = F i := by simp
    rw [hg]
    exact ⟨b, off, rfl, hA⟩
end
end Go.Proofs.Ytfepkcjelecpkaa
