/-
  The contract of the program's Hex.
-/
import Derived.Test.YtioflclfgkcpfaaDoorKHSum
import Derived.Deep.RegionLaw
namespace Go.Proofs.YtioflclfgkcpfaaDoor
open Go.RowKit

/-- append at a step of a region that draws its order. -/
theorem step_append_row {w : World} {ops : Array Oper} {o : Oper} {a : Act} {K : Act → World → Prop} {Q : Exit → Act → World → Prop} {E : Prop} (hgd : o.guard = none) (s x : Operand)
    (ho : o.op = .call { callee := .builtin .append, args := #[s, x], argTypes := #[23, 23] }) (base : Nat) (v : Value) (bs : List Int) (hs : a.eval s = v) (hrow : Row w base v bs)
    (vx : Value) (cs : List Int) (hx : a.eval x = vx) (hS : Sl w vx cs) (hb : bs.length + cs.length ≤ 140737488355328) (hbase : base ≤ w.heap.size)
    (h : ∀ ao m c w', Row w' base (.slice ao m c) (bs ++ cs) → RStep w v w' (.slice ao m c) → K (a.put o.dst (.slice ao m c)) w') :
    if Region.wanted o (yielded ops a.tmps) = true then Oper.wp Tryd.prog o a w K Q else E := by
  have hw : Region.wanted o (yielded ops a.tmps) = true := by simp [Region.wanted, hgd]
  rw [if_pos hw]
  obtain ⟨i0, hi0, hz0, hz1, hz2⟩ := info_parts Tryd.info5
  obtain ⟨av, cv, rfl⟩ := hrow.shape
  obtain ⟨ax, cx, rfl, h1, h2, h3, h4⟩ := hS
  cases ax with
  | none =>
    have : cs = [] := List.eq_nil_of_length_eq_zero (by have := h3 rfl; omega)
    subst this
    obtain rfl := h3 rfl
    have hrun := run_append_owned_none (P := Tryd.prog) (w := w) base 23 o.type 5 i0 1 Tryd.underlying23 hi0 _ _ _ hrow
    have hK := h av bs.length cv w
    simp only [List.append_nil] at hK
    unfold Oper.wp
    simp [execOp, ho, resolve, invoke, builtin, hs, hx, hrun, Result.andThen]
    exact hK hrow (RStep.refl _ _)
  | some a' =>
    obtain ⟨v', w1, hr, hown1, hgrow, _, hat⟩ := run_append_own_at (P := Tryd.prog) w base 23 o.type 5 i0 (.int .u8 0) 1 1 Tryd.underlying23 hi0 hz0 hz1 hz2 rfl (by decide) _ bs.length (bs.map (Value.int .u8)) hrow a' cs.length cx (cs.map (Value.int .u8)) (by simp) (h4 a' rfl) (by simp [Value.oneCell']) (by unfold maxLen; omega) (by omega) hbase
    have R := row_step (new := cs) (Kp.refl [] w) hown1 hgrow hat
    obtain ⟨ao', c', hv⟩ := R.1.shape
    subst hv
    have hK := h ao' _ c' w1 R.1 R.2
    unfold Oper.wp execOp
    simp only [ho, resolve, invoke, builtin, Sem.run_bind, Sem.run_pure, Result.andThen_ok, List.map_toArray, List.map_cons, List.map_nil, hs, hx, hr]
    exact hK


def digs : ByteArray := ⟨#[48, 49, 50, 51, 52, 53, 54, 55, 56, 57, 97, 98, 99, 100, 101, 102]⟩
/-- The sign of a half byte. -/
def sg (i : Int) : Int := (digs.data.getD i.toNat 0).toNat
def hexs (bs : List Int) : List Int := bs.flatMap fun x => [sg (x / 16), sg (x % 16)]
theorem hexs_snoc (bs : List Int) (k : Nat) (hk : k < bs.length) : hexs (bs.take (k + 1)) = hexs (bs.take k) ++ [sg (bs.getD k 0 / 16), sg (bs.getD k 0 % 16)] := by
  unfold hexs
  rw [List.take_succ_eq_append_getElem hk, List.flatMap_append]
  simp [List.getElem?_eq_getElem hk]
theorem hexs_len (bs : List Int) : (hexs bs).length = 2 * bs.length := by
  unfold hexs
  induction bs with
  | nil => rfl
  | cons a s ih => simp only [List.flatMap_cons, List.length_append, ih, List.length_cons, List.length_nil]; omega
theorem sg_eq (i : Int) (h : i.toNat < digs.size) : ((digs[i.toNat]'h).toNat : Int) = sg i := by
  have e : digs.data.getD i.toNat 0 = digs[i.toNat]'h := by
    have h' : i.toNat < digs.data.size := h
    rw [Array.getD_eq_getD_getElem?, Array.getElem?_eq_getElem h']
    rfl
  unfold sg
  rw [e]
theorem and15 (x : Int) (h0 : 0 ≤ x) (h1 : x ≤ 255) : bits .and .u8 x 15 = x % 16 := by
  obtain ⟨m, rfl⟩ := Int.eq_ofNat_of_zero_le h0
  have h : ∀ m ∈ List.range 256, bits .and .u8 (m : Int) 15 = (m : Int) % 16 := by decide +kernel
  exact h m (by simp; omega)

end Go.Proofs.YtioflclfgkcpfaaDoor
