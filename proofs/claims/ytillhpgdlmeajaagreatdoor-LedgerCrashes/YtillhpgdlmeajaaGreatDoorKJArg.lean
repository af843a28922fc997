/-
  Arguments of the laws of the journal: slices of truths, slices of asks.
-/
import Derived.Test.YtillhpgdlmeajaaGreatDoorKJFew
import Derived.ChangeSame
namespace Go.Proofs.YtillhpgdlmeajaaGreatDoor
open Go.RowKit
open Go.Proofs
open Go.Deep Go.ChangeShapes Go.WideShapes

namespace Dk
theorem add_on (b x : List Int) (h : b.length + x.length ≤ 1048576) : (dkOn b).add x = (true, dkOn (b ++ x)) := by
  have h1 : (dkOn b).app x = (true, ⟨b ++ x, b.length, 1048576, 0, false⟩) := app_plain (d := dkOn b) rfl (Int.le_refl 0) x (by show ((b.length + x.length : Nat) : Int) ≤ 1048576; omega)
  unfold add
  rw [h1, if_pos rfl]
  exact sync_plain (d := ⟨b ++ x, b.length, 1048576, 0, false⟩) rfl (Int.le_refl 0)
theorem app_on (b x : List Int) (h : b.length + x.length ≤ 1048576) : ((dkOn b).app x).1 = true := by
  have h1 : (dkOn b).app x = (true, ⟨b ++ x, b.length, 1048576, 0, false⟩) := app_plain (d := dkOn b) rfl (Int.le_refl 0) x (by show ((b.length + x.length : Nat) : Int) ≤ 1048576; omega)
  rw [h1]
theorem opn_all (ls : List (List Int)) (h : ∀ r ∈ ls, r.length ≤ 65535) : (dkOn (layP ls)).opn = dkOn (layP ls) := by
  unfold opn
  have e : (dkOn (layP ls)).bs = layP ls := rfl
  rw [e, opnP_all ls h, if_neg (by show ¬ (layP ls).length < (layP ls).length; omega)]
end Dk
theorem lists_head {w : World} {ol : Option Addr} {m oc : Nat} {la : List (Value × List Int)} (h : Lists w (.slice ol m oc) la) (k : Nat) (hk : k ≤ la.length) : Lists w (.slice ol k oc) (la.take k) := by
  obtain ⟨ao, c, e, h1, h2⟩ := h
  injection e with e1 e2 e3
  subst e1 e3
  have hl : (la.take k).length = k := by simp; omega
  refine ⟨ol, oc, by rw [hl], by omega, fun i hi => ?_⟩
  rw [hl] at hi
  obtain ⟨b, off, e, h3, h4, h5⟩ := h2 i (by omega)
  refine ⟨b, off, e, ?_⟩
  rw [List.getElem_take]
  exact ⟨h3, h4, h5⟩
def Bools (w : World) (v : Value) (l : List Bool) : Prop :=
  ∃ ao c, v = .slice ao l.length c ∧ l.length ≤ 9223372036854775807 ∧ ∀ i (h : i < l.length), ∃ b off, ao = some ⟨b, off, none⟩ ∧ w.cell? ⟨b, off + i, none⟩ = some (.bool l[i])
theorem Bools.kept {w w' : World} {v : Value} {l : List Bool} (h : Bools w v l) (k : Kp [] w w') : Bools w' v l := by
  obtain ⟨ao, c, rfl, h1, h2⟩ := h
  refine ⟨ao, c, rfl, h1, fun i hi => ?_⟩
  obtain ⟨b, off, e, h3⟩ := h2 i hi
  exact ⟨b, off, e, k.cell h3 (by simp)⟩
/-- one ask as data. -/
structure AskJ where
  kind : Int
  v : Value
  bs : List Int
def AskJAt (w : World) (b o : Nat) (x : AskJ) : Prop :=
  w.rangeAt b o [.int .i64 x.kind, x.v] ∧ Sl w x.v x.bs ∧ Bs x.bs
def AskJs (w : World) (v : Value) (l : List AskJ) : Prop :=
  ∃ ao c, v = .slice ao l.length c ∧ l.length ≤ 9223372036854775807 ∧ ∀ i (h : i < l.length), ∃ b off, ao = some ⟨b, off, none⟩ ∧ AskJAt w b (off + i * 2) l[i]
theorem AskJAt.kept {w w' : World} {b o : Nat} {x : AskJ} (h : AskJAt w b o x) (k : Kp [] w w') : AskJAt w' b o x :=
  ⟨fun j u hu => k.cell (h.1 j u hu) (by simp), h.2.1.kept k (by simp), h.2.2⟩
theorem AskJs.kept {w w' : World} {v : Value} {l : List AskJ} (h : AskJs w v l) (k : Kp [] w w') : AskJs w' v l := by
  obtain ⟨ao, c, rfl, h1, h2⟩ := h
  refine ⟨ao, c, rfl, h1, fun i hi => ?_⟩
  obtain ⟨b, off, e, h3⟩ := h2 i hi
  exact ⟨b, off, e, h3.kept k⟩
theorem Tryz.cellsIntJ : Tryz.prog.cellsOf 3 = 1 := by kernel_rfl
theorem Tryz.cellsSlJ : Tryz.prog.cellsOf 22 = 1 := by kernel_rfl
theorem Tryz.cellsBoJ : Tryz.prog.cellsOf 4 = 1 := by kernel_rfl
section
variable {H : Type} {enc : TypeId × Value → H} {w : World}
end
end Go.Proofs.YtillhpgdlmeajaaGreatDoor
