/-
  Plain facts on slices of bytes: what a slice reads as, kept, cut, turned into a string; numbers out of bytes.
-/
import Derived.Test.YtioflclfgkcpfaaDoorKBase
import Derived.Laws.BytesArg
import Derived.Laws.AppendOwnNone
namespace Go.Proofs.YtioflclfgkcpfaaDoor
open Go.RowKit

/-- v is a slice that reads as the bytes bs. -/
def Sl (w : World) (v : Value) (bs : List Int) : Prop :=
  ∃ ao c, v = .slice ao bs.length c ∧ bs.length ≤ c ∧ c ≤ maxLen ∧ (ao = none → c = 0) ∧ ∀ a, ao = some a → ∀ j u, (bs.map (Value.int .u8))[j]? = some u → w.cell? (a.add j) = some u

theorem add_block (a : Addr) (j : Nat) : (a.add j).block = a.block := by unfold Addr.add; split <;> rfl
theorem Sl.nil (w : World) : Sl w (.slice none 0 0) [] := ⟨none, 0, rfl, Nat.le_refl _, Nat.zero_le _, fun _ => rfl, (fun _ h => by cases h)⟩
theorem Sl.kept {w w' : World} {v : Value} {bs : List Int} {S : List Nat} (h : Sl w v bs) (k : Kp S w w') (hv : ∀ i, v.ownBlock = some i → i ∉ S) : Sl w' v bs := by
  obtain ⟨ao, c, rfl, h1, h2, h3, h4⟩ := h
  refine ⟨ao, c, rfl, h1, h2, h3, fun a ha j u hu => ?_⟩
  subst ha
  exact k.cell (h4 a rfl j u hu) (by rw [add_block]; exact hv a.block rfl)
theorem Sl.old {w w' : World} {v : Value} {bs : List Int} {S : List Nat} (h : Sl w v bs) (k : Kp S w w') (hv : ∀ i, v.ownBlock = some i → i < w.heap.size → i ∉ S) : Sl w' v bs := by
  obtain ⟨ao, c, rfl, h1, h2, h3, h4⟩ := h
  refine ⟨ao, c, rfl, h1, h2, h3, fun a ha j u hu => ?_⟩
  subst ha
  have hc := h4 a rfl j u hu
  exact k.cell hc (by rw [add_block]; exact hv a.block rfl (by have := World.block_lt_of_cell? _ _ hc; rwa [add_block] at this))
theorem Sl.of_owns {w : World} {v : Value} {bs : List Int} {base n : Nat} (h : w.ownsRow base 5 1 v n (bs.map (Value.int .u8))) : Sl w v bs := by
  have hn : n = bs.length := by have := h.1; simpa using this.symm
  subst hn
  rcases h.2 with ⟨rfl, h0⟩ | ⟨g, cap, cur, rfl, _, hg, hc, hm, _, _⟩
  · have : bs = [] := List.eq_nil_of_length_eq_zero h0
    subst this; exact Sl.nil w
  · refine ⟨some ⟨g, 0, none⟩, cap, rfl, hc, hm, (fun h => by cases h), fun a ha j u hu => ?_⟩
    cases ha
    exact h.cells (g := g) rfl j u hu
theorem Sl.take {w : World} {ao : Option Addr} {len c : Nat} {bs : List Int} (h : Sl w (.slice ao len c) bs) (n : Nat) (hn : n ≤ bs.length) : Sl w (.slice ao n c) (bs.take n) := by
  obtain ⟨ao', c', he, h1, h2, h3, h4⟩ := h
  cases he
  have hl : (bs.take n).length = n := by simp; omega
  refine ⟨ao, c, by rw [hl], by omega, h2, h3, fun a ha j u hu => ?_⟩
  refine h4 a ha j u ?_
  rw [List.map_take, List.getElem?_take] at hu
  split at hu
  · exact hu
  · cases hu
theorem Sl.drop {w : World} {ao : Option Addr} {len c : Nat} {bs : List Int} (h : Sl w (.slice ao len c) bs) (n : Nat) (hn : n ≤ bs.length) :
    Sl w (.slice (if c = n then ao else ao.map (·.add n)) (len - n) (c - n)) (bs.drop n) := by
  obtain ⟨ao', c', he, h1, h2, h3, h4⟩ := h
  cases he
  have hl : (bs.drop n).length = bs.length - n := by simp
  refine ⟨_, c - n, by rw [hl], by omega, by omega, fun ha => ?_, fun a ha j u hu => ?_⟩
  · split at ha
    · omega
    · cases hao : ao with
      | none => have := h3 hao; omega
      | some x => rw [hao] at ha; cases ha
  · rw [List.map_drop, List.getElem?_drop] at hu
    split at ha
    · rename_i hc
      have : (bs.map (Value.int .u8)).length ≤ n + j := by simp; omega
      rw [List.getElem?_eq_none this] at hu; cases hu
    · cases hao : ao with
      | none => rw [hao] at ha; cases ha
      | some x =>
        rw [hao] at ha
        simp only [Option.map_some, Option.some.injEq] at ha
        subst ha
        rw [Addr.add_add]
        exact h4 x hao (n + j) u hu
theorem Sl.inj {w : World} {v : Value} {bs cs : List Int} (h : Sl w v bs) (k : Sl w v cs) : bs = cs := by
  obtain ⟨ao, c, rfl, h1, h2, h3, h4⟩ := h
  obtain ⟨ao', c', he, k1, k2, k3, k4⟩ := k
  injection he with e1 e2 e3
  subst e1
  refine List.ext_getElem? (fun j => ?_)
  rcases Nat.lt_or_ge j bs.length with hj | hj
  · cases hao : ao with
    | none => have := h3 hao; omega
    | some a =>
      have x1 := h4 a hao j (.int .u8 bs[j]) (by simp [List.getElem?_eq_getElem hj])
      have x2 := k4 a hao j (.int .u8 (cs[j]'(by omega))) (by simp [List.getElem?_eq_getElem (show j < cs.length by omega)])
      rw [x1] at x2
      simp only [Option.some.injEq, Value.int.injEq, true_and] at x2
      rw [List.getElem?_eq_getElem hj, List.getElem?_eq_getElem (show j < cs.length by omega), x2]
  · rw [List.getElem?_eq_none hj, List.getElem?_eq_none (by omega)]

/-- a slice of bytes as a string. -/
theorem Sl.conv {P : Program} {w : World} {v : Value} {bs : List Int} (h : Sl w v bs) (src dst e : TypeId) (hs : P.underlying src = some (.slice e)) (he : P.underlying e = some (.int .u8)) (hd : P.underlying dst = some .string) :
    (convert src dst v).run P w = .ok (.string (strOfNums bs)) w := by
  obtain ⟨ao, c, rfl, h1, h2, h3, h4⟩ := h
  cases ao with
  | none =>
    have : bs = [] := List.eq_nil_of_length_eq_zero (by have := h3 rfl; omega)
    subst this
    rw [run_convert_bytes_nil w src e hs he _ c dst hd]
    rfl
  | some a =>
    have hl : (loadCells a bs.length).run P w = .ok (bs.map (Value.int .u8)).toArray w := by
      have := run_loadCells_list (P := P) w a (bs.map (Value.int .u8)) (h4 a rfl)
      simpa using this
    rw [run_convert_bytes_string w src dst e _ bs.length c hs he hd, run_bytesToString w _ bs.length c bs hl, foldl_push_bytes]
    simp [strOfNums, ByteArray.empty, ByteArray.emptyWithCapacity]
    rfl

/-- the number that bytes make, the highest first. -/
def val (bs : List Int) : Int := bs.foldl (fun n b => n * 256 + b) 0
theorem val_snoc (bs : List Int) (b : Int) : val (bs ++ [b]) = val bs * 256 + b := by simp [val]
/-- bytes: each from 0 to 255. -/
def Bs (bs : List Int) : Prop := ∀ b ∈ bs, 0 ≤ b ∧ b ≤ 255
theorem val_bd_acc (bs : List Int) (h : Bs bs) : ∀ acc : Int, 0 ≤ acc → 0 ≤ bs.foldl (fun n b => n * 256 + b) acc ∧ bs.foldl (fun n b => n * 256 + b) acc < (acc + 1) * 256 ^ bs.length := by
  induction bs with
  | nil => intro acc ha; simp; omega
  | cons b bs ih =>
    intro acc ha
    have h2 := h b (by simp)
    have h1 := ih (fun x hx => h x (by simp [hx])) (acc * 256 + b) (by omega)
    rw [List.foldl_cons, List.length_cons, Int.pow_succ]
    refine ⟨h1.1, Int.lt_of_lt_of_le h1.2 ?_⟩
    have hp : (0 : Int) ≤ 256 ^ bs.length := Int.le_of_lt (Int.pow_pos (by omega))
    have := Int.mul_le_mul_of_nonneg_right (show acc * 256 + b + 1 ≤ (acc + 1) * 256 by omega) hp
    rw [Int.mul_comm (256 ^ bs.length) 256, ← Int.mul_assoc]
    exact this
theorem val_bd (bs : List Int) (h : Bs bs) : 0 ≤ val bs ∧ val bs < 256 ^ bs.length := by
  have := val_bd_acc bs h 0 (by omega)
  simpa [val] using this
theorem bits_or_byte (a b : Int) (h0 : 0 ≤ a) (h1 : a * 256 ≤ 4294967295) (b0 : 0 ≤ b) (b1 : b ≤ 255) : bits .or .u32 (a * 256) b = a * 256 + b := by
  obtain ⟨x, rfl⟩ := Int.eq_ofNat_of_zero_le h0
  obtain ⟨y, rfl⟩ := Int.eq_ofNat_of_zero_le b0
  have hx : x * 256 < 2 ^ 32 := by omega
  have hy : y < 2 ^ 8 := by omega
  have e1 : (BitVec.ofInt 32 ((x : Int) * 256)).toNat = x * 256 := by
    rw [show (x : Int) * 256 = ((x * 256 : Nat) : Int) from by omega, BitVec.ofInt_natCast, BitVec.toNat_ofNat]; exact Nat.mod_eq_of_lt (by omega)
  have e2 : (BitVec.ofInt 32 (y : Int)).toNat = y := by
    rw [BitVec.ofInt_natCast, BitVec.toNat_ofNat]; exact Nat.mod_eq_of_lt (by omega)
  show IntKind.u32.wrap ((BitVec.ofInt 32 ((x : Int) * 256) ||| BitVec.ofInt 32 (y : Int)).toNat : Int) = _
  rw [BitVec.toNat_or, e1, e2]
  have e3 : x * 256 ||| y = x * 256 + y := by
    have := Nat.two_pow_add_eq_or_of_lt (i := 8) hy x
    rw [show x * 256 = 2 ^ 8 * x from by omega, ← this]
  rw [e3]
  simp [IntKind.wrap, IntKind.signed, IntKind.bits]
  omega
end Go.Proofs.YtioflclfgkcpfaaDoor
