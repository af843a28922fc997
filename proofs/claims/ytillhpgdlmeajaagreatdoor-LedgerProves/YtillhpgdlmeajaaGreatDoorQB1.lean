/-
  Plain facts on worlds that the proofs of this seat use: what a call may have changed, and how a row of bytes that a call owns is kept.
-/
import Derived.Deep.AppendLies
import Derived.Deep.Draws
import Derived.Deep.RegionHeld3
import Derived.KernelRfl
import Derived.Laws.Pointers
import Derived.OwnWalk
import Derived.StillTactics
import Derived.Test.YtillhpgdlmeajaaGreatDoorChecked
import Derived.WalkKit
import Derived.WalkSpells
import Derived.Laws.AppendOwnNone
import Derived.Laws.BytesArg
import Derived.Deep.MidRow
import Derived.Laws.NewBlocks
import Derived.Laws.Rows
import Derived.BigQuiet
import Derived.Deep.QuietTactic
import Derived.StillTailTactics
import Derived.Maps.AppendAt
import Derived.Deep.RegionLaw
import Derived.Deep.Slices
import Derived.ProofKit
import Derived.Lib.SlBytesConst
import Derived.Laws.CopyOwn
import Derived.SizedLaws
import Derived.Below
import Derived.ChangeOld
import Derived.LaidMore
import Derived.Lib.LaidTab
import Derived.Lib.SmallJoins
import Derived.OpenShut
import Derived.ShutString
import Derived.Stop.Joined
import Derived.Test.YtillhpgdlmeajaaGreatDoorRows
import Derived.Orders
namespace Go.Proofs.YtillhpgdlmeajaaGreatDoor
open Go.RowKit
theorem hide {p : Prop} (h : p) : Hid p := h
theorem unhide {p : Prop} (h : Hid p) : p := h
/-- w' is w with new blocks, and with changes to the blocks in S alone. -/
structure Kp (S : List Nat) (w w' : World) : Prop where
  os : w'.os = w.os
  tape : w'.tape = w.tape
  output : w'.output = w.output
  size : w.heap.size ≤ w'.heap.size
  block : ∀ k, k < w.heap.size → k ∉ S → w'.heap[k]? = w.heap[k]?
theorem Kp.refl (S : List Nat) (w : World) : Kp S w w := ⟨rfl, rfl, rfl, Nat.le_refl _, fun _ _ _ => rfl⟩
theorem Kp.trans {S : List Nat} {a b c : World} (h : Kp S a b) (k : Kp S b c) : Kp S a c :=
  ⟨k.os.trans h.os, k.tape.trans h.tape, k.output.trans h.output, Nat.le_trans h.size k.size, fun i hi hs => (k.block i (Nat.lt_of_lt_of_le hi h.size) hs).trans (h.block i hi hs)⟩
/-- two steps: what the second changed besides was not there at the beginning. -/
theorem Kp.then {S S' : List Nat} {a b c : World} (h : Kp S a b) (k : Kp S' b c) (hs : ∀ i, i ∈ S' → i ∈ S ∨ a.heap.size ≤ i) : Kp S a c :=
  ⟨k.os.trans h.os, k.tape.trans h.tape, k.output.trans h.output, Nat.le_trans h.size k.size, fun i hi hn => (k.block i (Nat.lt_of_lt_of_le hi h.size) (fun hm => by rcases hs i hm with h1 | h1; exact hn h1; omega)).trans (h.block i hi hn)⟩
theorem Kp.mono {S S' : List Nat} {a b : World} (h : Kp S a b) (hs : ∀ i, i ∈ S → i ∈ S') : Kp S' a b :=
  ⟨h.os, h.tape, h.output, h.size, fun i hi hn => h.block i hi (fun hm => hn (hs i hm))⟩
theorem Kp.drew {S : List Nat} {a w : World} (h : Kp S a w) : Kp S a w.drew := ⟨h.os, h.tape, h.output, h.size, h.block⟩
theorem kp_drewN (w : World) (n : Nat) : Kp [] w (w.drewN n) := ⟨rfl, rfl, rfl, Nat.le_refl _, fun _ _ _ => rfl⟩
theorem Kp.alloc {S : List Nat} {a w : World} (h : Kp S a w) (o : Obj) : Kp S a (w.alloc o) :=
  h.trans ⟨rfl, rfl, rfl, by simp, fun k hk _ => Below.heap_alloc _ _ _ hk⟩
theorem Kp.setCell {S : List Nat} {a w : World} (h : Kp S a w) {p : Addr} (hp : p.block ∈ S ∨ a.heap.size ≤ p.block) (u : Value) : Kp S a (w.setCell p u) :=
  ⟨h.os, h.tape, h.output, by have := h.size; simpa [World.setCell] using this, fun k hk hn => (Below.heap_setCell _ _ _ _ (fun e => by subst e; rcases hp with h1 | h1; exact hn h1; omega)).trans (h.block k hk hn)⟩
theorem Kp.grown {S : List Nat} {a w w' : World} {row : Option Nat} (h : Kp S a w) (hg : w.grownBy w' row) (hr : ∀ k, row = some k → k ∈ S ∨ a.heap.size ≤ k) : Kp S a w' :=
  ⟨hg.os.trans h.os, hg.tape.trans h.tape, hg.output.trans h.output, Nat.le_trans h.size hg.size, fun k hk hn => (hg.block k (Nat.lt_of_lt_of_le hk h.size) (fun e => by rcases hr k e.symm with h1 | h1; exact hn h1; omega)).trans (h.block k hk hn)⟩
theorem Kp.below {B : Nat} {S : List Nat} {a w : World} (h : Kp S a w) (hB : B ≤ a.heap.size) (hs : ∀ i, i ∈ S → B ≤ i) : Below B a w :=
  ⟨h.os, h.tape, h.output, h.size, fun k hk => h.block k (by omega) (fun hm => by have := hs k hm; omega)⟩
theorem Kp.heap {S : List Nat} {a w : World} (h : Kp S a w) {k : Nat} {o : Obj} (hk : a.heap[k]? = some o) (hn : k ∉ S) : w.heap[k]? = some o :=
  (h.block k (Array.getElem?_eq_some_iff.1 hk).1 hn).trans hk
theorem Kp.cell {S : List Nat} {a w : World} (h : Kp S a w) {p : Addr} {v : Value} (hk : a.cell? p = some v) (hn : p.block ∉ S) : w.cell? p = some v :=
  (World.cell?_of_block (h.block p.block (World.block_lt_of_cell? a p hk) hn)).trans hk
theorem Kp.owns {S : List Nat} {a w : World} (h : Kp S a w) {base : Nat} {e : TypeId} {size : Nat} {v : Value} {n : Nat} {xs : List Value} (ho : a.ownsRow base e size v n xs) (hn : ∀ k, v.ownBlock = some k → k ∉ S) : w.ownsRow base e size v n xs := by
  refine ⟨ho.1, ?_⟩
  rcases ho.2 with h1 | ⟨g, cap, cur, rfl, hb, hg, rest⟩
  · exact .inl h1
  · exact .inr ⟨g, cap, cur, rfl, hb, h.heap hg (hn g rfl), rest⟩
/-- a row's base may be any number that is not above its block. -/
theorem owns_rebase {w : World} {base base' : Nat} {e : TypeId} {size : Nat} {v : Value} {n : Nat} {xs : List Value} (ho : w.ownsRow base e size v n xs) (hn : ∀ k, v.ownBlock = some k → base' ≤ k) : w.ownsRow base' e size v n xs := by
  refine ⟨ho.1, ?_⟩
  rcases ho.2 with h1 | ⟨g, cap, cur, rfl, hb, hg, rest⟩
  · exact .inl h1
  · exact .inr ⟨g, cap, cur, rfl, hn g rfl, hg, rest⟩
end Go.Proofs.YtillhpgdlmeajaaGreatDoor

/-
  Plain facts on slices of bytes: what a slice reads as, kept, cut, turned into a string; numbers out of bytes.
-/
namespace Go.Proofs.YtillhpgdlmeajaaGreatDoor
open Go.RowKit
/-- v is a slice that reads as the bytes bs. -/
def Sl (w : World) (v : Value) (bs : List Int) : Prop :=
  ∃ ao c, v = .slice ao bs.length c ∧ bs.length ≤ c ∧ c ≤ maxLen ∧ (ao = none → c = 0) ∧ ∀ a, ao = some a → ∀ j u, (bs.map (Value.int .u8))[j]? = some u → w.cell? (a.add j) = some u
theorem add_block (a : Addr) (j : Nat) : (a.add j).block = a.block := by unfold Addr.add; split <;> rfl
theorem Sl.nil (w : World) : Sl w (.slice none 0 0) [] := ⟨none, 0, rfl, Nat.le_refl _, Nat.zero_le _, fun _ => rfl, (fun _ h => by cases h)⟩
theorem Sl.kept {w w' : World} {v : Value} {bs : List Int} {S : List Nat} (h : Sl w v bs) (k : Kp S w w') (hv : ∀ i, v.ownBlock = some i → i ∉ S) : Sl w' v bs := by
  obtain ⟨ao, c, rfl, h1, h2, h3, h4⟩ := h
  refine ⟨ao, c, rfl, h1, h2, h3, fun a ha j u hu => ?_⟩
  subst ha
  exact k.cell (h4 a rfl j u hu) (by rw [add_block]; exact hv a.block rfl)
theorem Sl.old {w w' : World} {v : Value} {bs : List Int} {S : List Nat} (h : Sl w v bs) (k : Kp S w w') (hv : ∀ i, v.ownBlock = some i → i < w.heap.size → i ∉ S) : Sl w' v bs := by
  obtain ⟨ao, c, rfl, h1, h2, h3, h4⟩ := h
  refine ⟨ao, c, rfl, h1, h2, h3, fun a ha j u hu => ?_⟩
  subst ha
  have hc := h4 a rfl j u hu
  exact k.cell hc (by rw [add_block]; exact hv a.block rfl (by have := World.block_lt_of_cell? _ _ hc; rwa [add_block] at this))
theorem Sl.of_owns {w : World} {v : Value} {bs : List Int} {base n : Nat} (h : w.ownsRow base 5 1 v n (bs.map (Value.int .u8))) : Sl w v bs := by
  have hn : n = bs.length := by have := h.1; simpa using this.symm
  subst hn
  rcases h.2 with ⟨rfl, h0⟩ | ⟨g, cap, cur, rfl, _, hg, hc, hm, _, _⟩
  · have : bs = [] := List.eq_nil_of_length_eq_zero h0
    subst this; exact Sl.nil w
  · refine ⟨some ⟨g, 0, none⟩, cap, rfl, hc, hm, (fun h => by cases h), fun a ha j u hu => ?_⟩
    cases ha
    exact h.cells (g := g) rfl j u hu
theorem Sl.take {w : World} {ao : Option Addr} {len c : Nat} {bs : List Int} (h : Sl w (.slice ao len c) bs) (n : Nat) (hn : n ≤ bs.length) : Sl w (.slice ao n c) (bs.take n) := by
  obtain ⟨ao', c', he, h1, h2, h3, h4⟩ := h
  cases he
  have hl : (bs.take n).length = n := by simp; omega
  refine ⟨ao, c, by rw [hl], by omega, h2, h3, fun a ha j u hu => ?_⟩
  refine h4 a ha j u ?_
  rw [List.map_take, List.getElem?_take] at hu
  split at hu
  · exact hu
  · cases hu
theorem Sl.drop {w : World} {ao : Option Addr} {len c : Nat} {bs : List Int} (h : Sl w (.slice ao len c) bs) (n : Nat) (hn : n ≤ bs.length) :
    Sl w (.slice (if c = n then ao else ao.map (·.add n)) (len - n) (c - n)) (bs.drop n) := by
  obtain ⟨ao', c', he, h1, h2, h3, h4⟩ := h
  cases he
  have hl : (bs.drop n).length = bs.length - n := by simp
  refine ⟨_, c - n, by rw [hl], by omega, by omega, fun ha => ?_, fun a ha j u hu => ?_⟩
  · split at ha
    · omega
    · cases hao : ao with
      | none => have := h3 hao; omega
      | some x => rw [hao] at ha; cases ha
  · rw [List.map_drop, List.getElem?_drop] at hu
    split at ha
    · rename_i hc
      have : (bs.map (Value.int .u8)).length ≤ n + j := by simp; omega
      rw [List.getElem?_eq_none this] at hu; cases hu
    · cases hao : ao with
      | none => rw [hao] at ha; cases ha
      | some x =>
        rw [hao] at ha
        simp only [Option.map_some, Option.some.injEq] at ha
        subst ha
        rw [Addr.add_add]
        exact h4 x hao (n + j) u hu
theorem Sl.inj {w : World} {v : Value} {bs cs : List Int} (h : Sl w v bs) (k : Sl w v cs) : bs = cs := by
  obtain ⟨ao, c, rfl, h1, h2, h3, h4⟩ := h
  obtain ⟨ao', c', he, k1, k2, k3, k4⟩ := k
  injection he with e1 e2 e3
  subst e1
  refine List.ext_getElem? (fun j => ?_)
  rcases Nat.lt_or_ge j bs.length with hj | hj
  · cases hao : ao with
    | none => have := h3 hao; omega
    | some a =>
      have x1 := h4 a hao j (.int .u8 bs[j]) (by simp [List.getElem?_eq_getElem hj])
      have x2 := k4 a hao j (.int .u8 (cs[j]'(by omega))) (by simp [List.getElem?_eq_getElem (show j < cs.length by omega)])
      rw [x1] at x2
      simp only [Option.some.injEq, Value.int.injEq, true_and] at x2
      rw [List.getElem?_eq_getElem hj, List.getElem?_eq_getElem (show j < cs.length by omega), x2]
  · rw [List.getElem?_eq_none hj, List.getElem?_eq_none (by omega)]
/-- a slice of bytes as a string. -/
theorem Sl.conv {P : Program} {w : World} {v : Value} {bs : List Int} (h : Sl w v bs) (src dst e : TypeId) (hs : P.underlying src = some (.slice e)) (he : P.underlying e = some (.int .u8)) (hd : P.underlying dst = some .string) :
    (convert src dst v).run P w = .ok (.string (strOfNums bs)) w := by
  obtain ⟨ao, c, rfl, h1, h2, h3, h4⟩ := h
  cases ao with
  | none =>
    have : bs = [] := List.eq_nil_of_length_eq_zero (by have := h3 rfl; omega)
    subst this
    rw [run_convert_bytes_nil w src e hs he _ c dst hd]
    rfl
  | some a =>
    have hl : (loadCells a bs.length).run P w = .ok (bs.map (Value.int .u8)).toArray w := by
      have := run_loadCells_list (P := P) w a (bs.map (Value.int .u8)) (h4 a rfl)
      simpa using this
    rw [run_convert_bytes_string w src dst e _ bs.length c hs he hd, run_bytesToString w _ bs.length c bs hl, foldl_push_bytes]
    simp [strOfNums, ByteArray.empty, ByteArray.emptyWithCapacity]
    rfl
/-- the number that bytes make, the highest first. -/
def val (bs : List Int) : Int := bs.foldl (fun n b => n * 256 + b) 0
theorem val_snoc (bs : List Int) (b : Int) : val (bs ++ [b]) = val bs * 256 + b := by simp [val]
/-- bytes: each from 0 to 255. -/
def Bs (bs : List Int) : Prop := ∀ b ∈ bs, 0 ≤ b ∧ b ≤ 255
theorem val_bd_acc (bs : List Int) (h : Bs bs) : ∀ acc : Int, 0 ≤ acc → 0 ≤ bs.foldl (fun n b => n * 256 + b) acc ∧ bs.foldl (fun n b => n * 256 + b) acc < (acc + 1) * 256 ^ bs.length := by
  induction bs with
  | nil => intro acc ha; simp; omega
  | cons b bs ih =>
    intro acc ha
    have h2 := h b (by simp)
    have h1 := ih (fun x hx => h x (by simp [hx])) (acc * 256 + b) (by omega)
    rw [List.foldl_cons, List.length_cons, Int.pow_succ]
    refine ⟨h1.1, Int.lt_of_lt_of_le h1.2 ?_⟩
    have hp : (0 : Int) ≤ 256 ^ bs.length := Int.le_of_lt (Int.pow_pos (by omega))
    have := Int.mul_le_mul_of_nonneg_right (show acc * 256 + b + 1 ≤ (acc + 1) * 256 by omega) hp
    rw [Int.mul_comm (256 ^ bs.length) 256, ← Int.mul_assoc]
    exact this
theorem val_bd (bs : List Int) (h : Bs bs) : 0 ≤ val bs ∧ val bs < 256 ^ bs.length := by
  have := val_bd_acc bs h 0 (by omega)
  simpa [val] using this
theorem bits_or_byte (a b : Int) (h0 : 0 ≤ a) (h1 : a * 256 ≤ 4294967295) (b0 : 0 ≤ b) (b1 : b ≤ 255) : bits .or .u32 (a * 256) b = a * 256 + b := by
  obtain ⟨x, rfl⟩ := Int.eq_ofNat_of_zero_le h0
  obtain ⟨y, rfl⟩ := Int.eq_ofNat_of_zero_le b0
  have hx : x * 256 < 2 ^ 32 := by omega
  have hy : y < 2 ^ 8 := by omega
  have e1 : (BitVec.ofInt 32 ((x : Int) * 256)).toNat = x * 256 := by
    rw [show (x : Int) * 256 = ((x * 256 : Nat) : Int) from by omega, BitVec.ofInt_natCast, BitVec.toNat_ofNat]; exact Nat.mod_eq_of_lt (by omega)
  have e2 : (BitVec.ofInt 32 (y : Int)).toNat = y := by
    rw [BitVec.ofInt_natCast, BitVec.toNat_ofNat]; exact Nat.mod_eq_of_lt (by omega)
  show IntKind.u32.wrap ((BitVec.ofInt 32 ((x : Int) * 256) ||| BitVec.ofInt 32 (y : Int)).toNat : Int) = _
  rw [BitVec.toNat_or, e1, e2]
  have e3 : x * 256 ||| y = x * 256 + y := by
    have := Nat.two_pow_add_eq_or_of_lt (i := 8) hy x
    rw [show x * 256 = 2 ^ 8 * x from by omega, ← this]
  rw [e3]
  simp [IntKind.wrap, IntKind.signed, IntKind.bits]
  omega
end Go.Proofs.YtillhpgdlmeajaaGreatDoor

/-
  The turning of words, of the reference and of the program: both come to one plain function; and the small functions of a round.
-/
namespace Go.Proofs.YtillhpgdlmeajaaGreatDoor
open Go.RowKit
/-- A word turned to the right by n places. -/
def rot (x n : Int) : Int := bits .or .u32 (x / 2 ^ n.toNat) (x * 2 ^ (32 - n).toNat % 4294967296)
theorem turn_any (x n : Int) (w : World) (hn : 0 ≤ n) (hn2 : n ≤ 31) : Calls Tryz.prog 145 #[.int .u32 x, .int .u64 n] w fun e w' => e = .returned (.int .u32 (rot x n)) ∧ w' = w := by
  go_enter Tryz.func145, Tryz.ntmps145
  go_wp2_with fail
  go_ret
  exact ⟨rfl, rfl⟩
theorem low5 (n : Int) (hn : 1 ≤ n) (hn2 : n ≤ 31) : bits .and .u64 (IntKind.u64.wrap (-n)) 31 = 32 - n := by
  obtain ⟨m, rfl⟩ := Int.eq_ofNat_of_zero_le (show 0 ≤ n by omega)
  have h : ∀ m ∈ List.range' 1 31, bits .and .u64 (IntKind.u64.wrap (-(m : Int))) 31 = 32 - (m : Int) := by decide +kernel
  exact h m (by simp [List.mem_range'_1]; omega)
theorem bits_or_comm (x y : Int) : bits .or .u32 x y = bits .or .u32 y x := by
  show IntKind.u32.wrap ((BitVec.ofInt 32 x ||| BitVec.ofInt 32 y).toNat : Int) = IntKind.u32.wrap ((BitVec.ofInt 32 y ||| BitVec.ofInt 32 x).toNat : Int)
  rw [BitVec.or_comm]
theorem rl_any (x n : Int) (w : World) (hn : 1 ≤ n) (hn2 : n ≤ 31) : Calls Tryz.prog 186 #[.int .u32 x, .int .i64 (-n)] w fun e w' => e = .returned (.int .u32 (rot x n)) ∧ w' = w := by
  have h5 := low5 n hn hn2
  go_enter Tryz.func186, Tryz.ntmps186
  go_wp2_with fail
  go_ret
  refine ⟨?_, rfl⟩
  unfold rot
  rw [bits_or_comm]
  simp [show 32 - (32 - n) = n by omega]
theorem right_any (x n : Int) (w : World) (hn : 1 ≤ n) (hn2 : n ≤ 31) : Calls Tryz.prog 182 #[.int .u32 x, .int .i64 n] w fun e w' => e = .returned (.int .u32 (rot x n)) ∧ w' = w := by
  go_enter Tryz.func182, Tryz.ntmps182
  go_wp2_with (go_at_call 186; refine (rl_any x n _ hn hn2).mono ?_; rintro e w' ⟨rfl, rfl⟩)
  go_ret
  exact ⟨rfl, rfl⟩
def bS0 (x : Int) : Int := bits .xor .u32 (bits .xor .u32 (rot x 2) (rot x 13)) (rot x 22)
def bS1 (x : Int) : Int := bits .xor .u32 (bits .xor .u32 (rot x 6) (rot x 11)) (rot x 25)
def sS0 (x : Int) : Int := bits .xor .u32 (bits .xor .u32 (rot x 7) (rot x 18)) (x / 8)
def sS1 (x : Int) : Int := bits .xor .u32 (bits .xor .u32 (rot x 17) (rot x 19)) (x / 1024)
def chs (x y z : Int) : Int := bits .xor .u32 (bits .and .u32 x y) (bits .and .u32 (bits .xor .u32 IntKind.u32.max x) z)
def maj (x y z : Int) : Int := bits .xor .u32 (bits .xor .u32 (bits .and .u32 x y) (bits .and .u32 x z)) (bits .and .u32 y z)
theorem bS0_any (x : Int) (w : World) : Calls Tryz.prog 174 #[.int .u32 x] w fun e w' => e = .returned (.int .u32 (bS0 x)) ∧ w' = w := by
  go_enter Tryz.func174, Tryz.ntmps174
  go_wp2_with (go_at_call 182; refine (right_any x _ _ (by omega) (by omega)).mono ?_; rintro e w' ⟨rfl, rfl⟩)
  go_ret
  exact ⟨rfl, rfl⟩
theorem bS1_any (x : Int) (w : World) : Calls Tryz.prog 172 #[.int .u32 x] w fun e w' => e = .returned (.int .u32 (bS1 x)) ∧ w' = w := by
  go_enter Tryz.func172, Tryz.ntmps172
  go_wp2_with (go_at_call 182; refine (right_any x _ _ (by omega) (by omega)).mono ?_; rintro e w' ⟨rfl, rfl⟩)
  go_ret
  exact ⟨rfl, rfl⟩
theorem sS0_any (x : Int) (w : World) : Calls Tryz.prog 181 #[.int .u32 x] w fun e w' => e = .returned (.int .u32 (sS0 x)) ∧ w' = w := by
  go_enter Tryz.func181, Tryz.ntmps181
  go_wp2_with (go_at_call 182; refine (right_any x _ _ (by omega) (by omega)).mono ?_; rintro e w' ⟨rfl, rfl⟩)
  go_ret
  exact ⟨rfl, rfl⟩
theorem sS1_any (x : Int) (w : World) : Calls Tryz.prog 180 #[.int .u32 x] w fun e w' => e = .returned (.int .u32 (sS1 x)) ∧ w' = w := by
  go_enter Tryz.func180, Tryz.ntmps180
  go_wp2_with (go_at_call 182; refine (right_any x _ _ (by omega) (by omega)).mono ?_; rintro e w' ⟨rfl, rfl⟩)
  go_ret
  exact ⟨rfl, rfl⟩
theorem chs_any (x y z : Int) (w : World) : Calls Tryz.prog 173 #[.int .u32 x, .int .u32 y, .int .u32 z] w fun e w' => e = .returned (.int .u32 (chs x y z)) ∧ w' = w := by
  go_enter Tryz.func173, Tryz.ntmps173
  go_wp2_with fail
  all_goals (first | (go_ret; exact ⟨rfl, rfl⟩) | skip)
theorem maj_any (x y z : Int) (w : World) : Calls Tryz.prog 175 #[.int .u32 x, .int .u32 y, .int .u32 z] w fun e w' => e = .returned (.int .u32 (maj x y z)) ∧ w' = w := by
  go_enter Tryz.func175, Tryz.ntmps175
  go_wp2_with fail
  go_ret
  exact ⟨rfl, rfl⟩
end Go.Proofs.YtillhpgdlmeajaaGreatDoor

/-
  SHA-256 as a plain function of lists of numbers: what both the program and the reference come to.
-/
namespace Go.Proofs.YtillhpgdlmeajaaGreatDoor
open Go.RowKit
def consts : List Int := [1116352408, 1899447441, 3049323471, 3921009573, 961987163, 1508970993, 2453635748, 2870763221, 3624381080, 310598401, 607225278, 1426881987, 1925078388, 2162078206, 2614888103, 3248222580, 3835390401, 4022224774, 264347078, 604807628, 770255983, 1249150122, 1555081692, 1996064986, 2554220882, 2821834349, 2952996808, 3210313671, 3336571891, 3584528711, 113926993, 338241895, 666307205, 773529912, 1294757372, 1396182291, 1695183700, 1986661051, 2177026350, 2456956037, 2730485921, 2820302411, 3259730800, 3345764771, 3516065817, 3600352804, 4094571909, 275423344, 430227734, 506948616, 659060556, 883997877, 958139571, 1322822218, 1537002063, 1747873779, 1955562222, 2024104815, 2227730452, 2361852424, 2428436474, 2756734187, 3204031479, 3329325298]
def begin8 : List Int := [1779033703, 3144134277, 1013904242, 2773480762, 1359893119, 2600822924, 528734635, 1541459225]
/-- A sum of words. -/
def ad (x y : Int) : Int := (x + y) % 4294967296
/-- The word that four bytes make. -/
def wd (a b c d : Int) : Int := bits .or .u32 (bits .or .u32 (bits .or .u32 (a * 16777216) (b * 65536)) (c * 256)) d
def wordAt (bs : List Int) (i : Nat) : Int := wd (bs.getD (4 * i) 0) (bs.getD (4 * i + 1) 0) (bs.getD (4 * i + 2) 0) (bs.getD (4 * i + 3) 0)
def nextW (l : List Int) (i : Nat) : Int := ad (ad (ad (sS1 (l.getD (i - 2) 0)) (l.getD (i - 7) 0)) (sS0 (l.getD (i - 15) 0))) (l.getD (i - 16) 0)
/-- The first n words of a block's schedule. -/
def sch (bs : List Int) : Nat → List Int
  | 0 => []
  | n + 1 => sch bs n ++ [if n < 16 then wordAt bs n else nextW (sch bs n) n]
/-- One round. -/
def rnd (s : List Int) (k w : Int) : List Int :=
  match s with
  | [a, b, c, d, e, f, g, h] => [ad (ad (ad (ad (ad h (bS1 e)) (chs e f g)) k) w) (ad (bS0 a) (maj a b c)), a, b, c, ad d (ad (ad (ad (ad h (bS1 e)) (chs e f g)) k) w), e, f, g]
  | l => l
def rds (ws s : List Int) : Nat → List Int
  | 0 => s
  | n + 1 => rnd (rds ws s n) (consts.getD n 0) (ws.getD n 0)
/-- One block. -/
def blk (s bs : List Int) : List Int := List.zipWith ad (rds (sch bs 64) s 64) s
def blks : Nat → List Int → List Int → List Int
  | 0, s, _ => s
  | n + 1, s, bs => blk (blks n s bs) ((bs.drop (64 * n)).take 64)
def zeros (n : Nat) : Nat := (119 - n % 64) % 64
def be8 (n : Int) : List Int := [n / 72057594037927936 % 256, n / 281474976710656 % 256, n / 1099511627776 % 256, n / 4294967296 % 256, n / 16777216 % 256, n / 65536 % 256, n / 256 % 256, n % 256]
def pad (rest : List Int) (n : Nat) : List Int := rest ++ [128] ++ List.replicate (zeros rest.length) 0 ++ be8 (n * 8)
def lay8 (s : List Int) : List Int := s.flatMap fun x => [x / 16777216 % 256, x / 65536 % 256, x / 256 % 256, x % 256]
def fin8 (s rest : List Int) (n : Nat) : List Int := lay8 (blks ((pad rest n).length / 64) s (pad rest n))
def sha (bs : List Int) : List Int := fin8 (blks (bs.length / 64) begin8 bs) (bs.drop (bs.length / 64 * 64)) bs.length
end Go.Proofs.YtillhpgdlmeajaaGreatDoor

/-
  Arrays of words: as values, in memory; how a walk makes, reads and writes them whole.
-/
namespace Go.Proofs.YtillhpgdlmeajaaGreatDoor
open Go.RowKit
/-- The array of these words, as a value. -/
def ag (s : List Int) : Value := .agg (s.map (Value.int .u32)).toArray
/-- The block b holds the array of these words. -/
def Ar (w : World) (b : Nat) (t : TypeId) (s : List Int) : Prop := w.heap[b]? = some (.cells (s.map (Value.int .u32)).toArray t (0, 0))
theorem Ar.kept {w w' : World} {b : Nat} {t : TypeId} {s : List Int} {S : List Nat} (h : Ar w b t s) (k : Kp S w w') (hb : b ∉ S) : Ar w' b t s := k.heap h hb
theorem Ar.lt {w : World} {b : Nat} {t : TypeId} {s : List Int} (h : Ar w b t s) : b < w.heap.size := (Array.getElem?_eq_some_iff.1 h).1
theorem Ar.drewN {w : World} {b : Nat} {t : TypeId} {s : List Int} (h : Ar w b t s) (n : Nat) : Ar (w.drewN n) b t s := h
theorem Ar.cell {w : World} {b : Nat} {t : TypeId} {s : List Int} (h : Ar w b t s) (i : Nat) (hi : i < s.length) : w.cell? ⟨b, i, none⟩ = some (.int .u32 (s.getD i 0)) := by
  rw [cell_of_row w b i _ t (0, 0) h]
  simp [List.getElem?_eq_getElem hi]
theorem Ar.frozen {w : World} {b : Nat} {t : TypeId} {s : List Int} (h : Ar w b t s) (i : Nat) : w.frozen? ⟨b, i, none⟩ = false := frozen_of_row w b i _ t h
theorem Ar.set {w : World} {b : Nat} {t : TypeId} {s : List Int} (h : Ar w b t s) (i : Nat) (x : Int) : Ar (w.setCell ⟨b, i, none⟩ (.int .u32 x)) b t (s.set i x) := by
  have := heap_setCell_same w b i _ t (.int .u32 x) h
  unfold Ar
  rw [this]
  simp [List.map_set]
section
variable {ops : Array Oper} {rest : List Oper} {o : Oper} {a : Act} {w : World} {Q : Exit → Act → World → Prop}
theorem wpList_box_ar (hgd : o.guard = none) (ty : TypeId) (x : Operand) (ho : o.op = .box ty x) (s : List Int) (hx : a.eval x = ag s)
    (h : ∀ w', Ar w' w.heap.size ty s → Kp [] w w' → w'.heap.size = w.heap.size + 1 → wpList Tryz.prog ops Q rest (a.put o.dst (.pointer (some ⟨w.heap.size, 0, none⟩))) w') : wpList Tryz.prog ops Q (o :: rest) a w := by
  refine wpList_plain hgd fun K hK => ?_
  have e : (Instr.box ty (ag s)).run Tryz.prog w = .ok (.pointer (some ⟨w.heap.size, 0, none⟩)) (w.alloc (.cells (s.map (Value.int .u32)).toArray ty)) := by
    simp [Instr.box, newVar, ag, Value.cells, go_sem]
  unfold Oper.wp execOp
  simp only [ho, hx, Sem.run_bind, e, Sem.run_pure, Result.andThen_ok]
  exact hK _ _ (h _ (heap_alloc_new w _) ((Kp.refl [] w).alloc _) (by simp))
theorem wpList_alloc_ar (hgd : o.guard = none) (ty : TypeId) (ho : o.op = .alloc ty) (i : TypeInfo) (s : List Int) (hi : Tryz.prog.info? ty = some i) (hz : i.zero = some (ag s))
    (h : ∀ w', Ar w' w.heap.size ty s → Kp [] w w' → w'.heap.size = w.heap.size + 1 → wpList Tryz.prog ops Q rest (a.put o.dst (.pointer (some ⟨w.heap.size, 0, none⟩))) w') : wpList Tryz.prog ops Q (o :: rest) a w := by
  refine wpList_plain hgd fun K hK => ?_
  have e : (Instr.alloc ty true (.tuple #[])).run Tryz.prog w = .ok (.pointer (some ⟨w.heap.size, 0, none⟩)) (w.alloc (.cells (s.map (Value.int .u32)).toArray ty)) := by
    simp [Instr.alloc, zeroValue, typeInfo, hi, hz, newVar, ag, Value.cells, go_sem]
  unfold Oper.wp execOp
  simp only [ho, Sem.run_bind, e, Sem.run_pure, Result.andThen_ok]
  exact hK _ _ (h _ (heap_alloc_new w _) ((Kp.refl [] w).alloc _) (by simp))
theorem wpList_load_ar (hgd : o.guard = none) (ty : TypeId) (x : Operand) (ho : o.op = .load ty x) (b : Nat) (hx : a.eval x = .pointer (some ⟨b, 0, none⟩)) (t : TypeId) (s : List Int) (n : Nat) (e : TypeId) (hA : Ar w b t s)
    (hu : Tryz.prog.underlying ty = some (.array n e)) (hi : (Tryz.prog.info? ty).map (·.size) = some s.length)
    (h : wpList Tryz.prog ops Q rest (a.put o.dst (ag s)) w) : wpList Tryz.prog ops Q (o :: rest) a w :=
  wpList_load_row hgd ty x ho b hx t _ (0, 0) (.array n e) hA hu rfl (by simpa using hi) h
theorem kp_setCells (w : World) (b : Nat) : ∀ (vs : List Value) (o : Nat) (w1 : World), Kp [b] w w1 → Kp [b] w (w1.setCells b o vs)
  | [], _, _, h => h
  | v :: r, o, w1, h => kp_setCells w b r (o + 1) _ (h.setCell (p := ⟨b, o, none⟩) (.inl (by simp)) v)
theorem ar_setCells (b : Nat) (t : TypeId) (ys : List Int) : ∀ (o : Nat) (s : List Int) (w : World), Ar w b t s → o + ys.length = s.length → Ar (w.setCells b o (ys.map (Value.int .u32))) b t (s.take o ++ ys) := by
  induction ys with
  | nil =>
    intro o s w h hl
    simp only [List.length_nil, Nat.add_zero] at hl
    simp only [List.map_nil, World.setCells, List.append_nil]
    rw [List.take_of_length_le (by omega)]
    exact h
  | cons y ys ih =>
    intro o s w h hl
    simp only [List.map_cons, World.setCells]
    have := ih (o + 1) (s.set o y) _ (h.set o y) (by simp at hl ⊢; omega)
    rw [List.take_succ_eq_append_getElem (by simp at hl ⊢; omega), List.take_set_of_le (Nat.le_refl _), List.getElem_set_self, List.append_assoc] at this
    exact this
theorem wpList_store_ar (hgd : o.guard = none) (ty : TypeId) (x y : Operand) (ho : o.op = .store ty x y) (b : Nat) (hx : a.eval x = .pointer (some ⟨b, 0, none⟩)) (t : TypeId) (s0 s : List Int) (hA : Ar w b t s0) (hy : a.eval y = ag s) (hl : s0.length = s.length)
    (hi : (Tryz.prog.info? ty).map (·.size) = some s.length)
    (h : ∀ w', Ar w' b t s → Kp [b] w w' → w'.heap.size = w.heap.size → wpList Tryz.prog ops Q rest (a.put o.dst undef) w') : wpList Tryz.prog ops Q (o :: rest) a w := by
  refine wpList_store_mid hgd ty x y ho b 0 (s.map (Value.int .u32)).toArray hx hy ?_ (by simpa using hi) (all_oneCell_toArray (by simp [Value.oneCell'])) ?_
  · intro j hj
    simp only [List.size_toArray, List.length_map] at hj
    rw [Nat.zero_add, hA.cell j (by omega)]
    exact ⟨rfl, hA.frozen j⟩
  · refine h _ ?_ (kp_setCells w b _ 0 w (Kp.refl _ _)) ?_
    · have := ar_setCells b t s 0 s0 w hA (by omega)
      simpa using this
    · have : ∀ (vs : List Value) (o : Nat) (w1 : World), (w1.setCells b o vs).heap.size = w1.heap.size := by
        intro vs
        induction vs with
        | nil => intro o w1; rfl
        | cons v r ih => intro o w1; simp only [World.setCells]; rw [ih]; simp [World.setCell]
      exact this _ _ _
end
/-- One word of an array that is a value. -/
theorem run_index_ag (t : TypeId) (n : Nat) (e : TypeId) (i : TypeInfo) (s : List Int) (k : Nat) (w : World) (hu : Tryz.prog.underlying t = some (.array n e)) (he : Tryz.prog.underlying e = some (.int .u32)) (hi : Tryz.prog.info? e = some i) (hs : i.size = 1) (hk : k < n) (hl : s.length = n) :
    (Instr.index t (ag s) (.int .i64 (k : Int))).run Tryz.prog w = .ok (.int .u32 (s.getD k 0)) w := by
  have h1 : (0 : Int) ≤ (k : Int) ∧ (k : Int) < (n : Int) := by omega
  have h3 : (isAgg e).run Tryz.prog w = .ok false w := by
    unfold isAgg
    rw [Sem.run_bind, run_underlying he w]
    rfl
  simp [Instr.index, asIntOf, ag, Sem.run_bind, run_underlying hu w, h1, sizeOf, typeInfo, hi, hs, part, h3, List.getElem?_eq_getElem (show k < s.length by omega)]
  intro h; omega
theorem Tryz.infoU32 : ∃ i, Tryz.prog.info? 103 = some i ∧ i.size = 1 := by
  have h : (Tryz.prog.info? 103).map (·.size) = some 1 := by kernel_rfl
  exact Option.map_eq_some_iff.1 h
theorem Tryz.sz64 : (Tryz.prog.info? 163).map (·.size) = some 64 := by kernel_rfl
theorem Tryz.sz8 : (Tryz.prog.info? 162).map (·.size) = some 8 := by kernel_rfl
theorem Tryz.szW : (Tryz.prog.info? 188).map (·.size) = some 8 := by kernel_rfl
theorem Tryz.zero64 : ∃ i, Tryz.prog.info? 163 = some i ∧ i.zero = some (ag (List.replicate 64 0)) := by
  have h : (Tryz.prog.info? 163).map (·.zero) = some (some (ag (List.replicate 64 0))) := by kernel_rfl
  exact Option.map_eq_some_iff.1 h
theorem Tryz.zero8 : ∃ i, Tryz.prog.info? 162 = some i ∧ i.zero = some (ag (List.replicate 8 0)) := by
  have h : (Tryz.prog.info? 162).map (·.zero) = some (some (ag (List.replicate 8 0))) := by kernel_rfl
  exact Option.map_eq_some_iff.1 h
theorem Tryz.zeroW : ∃ i, Tryz.prog.info? 188 = some i ∧ i.zero = some (ag (List.replicate 8 0)) := by
  have h : (Tryz.prog.info? 188).map (·.zero) = some (some (ag (List.replicate 8 0))) := by kernel_rfl
  exact Option.map_eq_some_iff.1 h
theorem index64 (s : List Int) (k : Nat) (w : World) (hk : k < 64) (hl : s.length = 64) : (Instr.index 163 (ag s) (.int .i64 (k : Int))).run Tryz.prog w = .ok (.int .u32 (s.getD k 0)) w := by
  obtain ⟨i, hi, hs⟩ := Tryz.infoU32
  exact run_index_ag _ 64 103 i s k w Tryz.underlying163 Tryz.underlying103 hi hs hk hl
theorem indexW (s : List Int) (k : Nat) (w : World) (hk : k < 8) (hl : s.length = 8) : (Instr.index 188 (ag s) (.int .i64 (k : Int))).run Tryz.prog w = .ok (.int .u32 (s.getD k 0)) w := by
  obtain ⟨i, hi, hs⟩ := Tryz.infoU32
  exact run_index_ag _ 8 103 i s k w Tryz.underlying188 Tryz.underlying103 hi hs hk hl
end Go.Proofs.YtillhpgdlmeajaaGreatDoor

/-
  A region that draws its order, whose operations only read but for the last, which all others come ahead of: one walk serves.
-/
namespace Go.Proofs.YtillhpgdlmeajaaGreatDoor
open Go.RowKit
theorem still_of_quiet {P : Program} {ops : Array Oper} {w : World} {Q : Act → Prop} : ∀ (l : List Oper) (a : Act), wpQuiet P ops (fun w' => w' = w) Q l a → wpStill P ops w Q l a
  | [], _, h => h
  | o :: rest, a, h => by
    simp only [wpQuiet] at h
    simp only [wpStill]
    split
    · rename_i hw
      rw [if_pos hw] at h
      obtain ⟨v, h1, h2⟩ := h
      have h3 := h1 w rfl
      unfold Oper.quietAt at h3
      unfold Oper.still
      generalize (execOp a.eval o).run P w = r at *
      cases r with
      | ok n w' =>
        cases n <;> simp only [Oper.quietUpon] at h3 <;> simp only [Oper.stillUpon]
        case value u => obtain ⟨e1, e2⟩ := h3; subst e1; subst e2; exact ⟨rfl, still_of_quiet rest _ h2⟩
        case skip => obtain ⟨e1, e2⟩ := h3; subst e1; rw [e2] at h2; exact ⟨rfl, still_of_quiet rest _ h2⟩
        case enter f args => obtain ⟨e1, hc⟩ := h3; exact ⟨e1, v, hc, still_of_quiet rest _ h2⟩
      | halt x w' => simp only [Oper.quietUpon] at h3
    · rename_i hw
      rw [if_neg hw] at h
      exact still_of_quiet rest _ h
theorem region_tail {P : Program} {id : Nat} {Q : Exit → Act → World → Prop} {a : Act} {w : World} {l : List Oper} (n : Nat) (hm : P.follows .mixedOrders = true) (hB : Region.lexTailB .any l.toArray n = true)
    (h : wpQuiet P l.toArray (fun w' => w' = w.drew) (fun a' => wpList P l.toArray Q (l.drop n) a' w.drew) (l.take n) a) : (Code.region id l.toArray true).wp P Q a w :=
  wp_region_still_tail n hm hB (still_of_quiet _ _ h)
/-- all of it only reads, and no callee draws. -/
theorem region_read {P : Program} {id : Nat} {Q : Exit → Act → World → Prop} {a : Act} {w : World} {l : List Oper} (hm : P.follows .mixedOrders = true) (hB : Region.lexB .any l.toArray = true)
    (h : wpQuiet P l.toArray (fun w' => w' = w.drew) (fun a' => Q .normal a' w.drew) l a) : (Code.region id l.toArray true).wp P Q a w :=
  wp_region_still_lit hm hB (still_of_quiet _ _ h)
theorem Tryz.mixed : Tryz.prog.follows .mixedOrders = true := by kernel_rfl
theorem Sl.at {w : World} {vb : Value} {bs : List Int} {n : Nat} (h : Sl w vb bs) (hl : bs.length = n) (hn : 0 < n) : ∃ a c, vb = .slice (some a) n c ∧ n ≤ c ∧ c ≤ maxLen ∧ ∀ j, j < n → w.cell? (a.add j) = some (.int .u8 (bs.getD j 0)) := by
  obtain ⟨ab, cb, rfl, h1, h2, h3, h4⟩ := h
  cases ab with
  | none => have := h3 rfl; omega
  | some a => exact ⟨a, cb, by rw [hl], by omega, h2, fun j hj => h4 a rfl j _ (by simp [List.getElem?_eq_getElem (show j < bs.length by omega)])⟩
theorem add_at (a : Addr) (m n : Nat) : (⟨(a.add m).block, (a.add m).off + (n + 1), none⟩ : Addr) = a.add (m + (n + 1)) := by rw [← Addr.add_add, Addr.add_succ']
theorem Bs.at {bs : List Int} (h : Bs bs) (i : Nat) : 0 ≤ bs.getD i 0 ∧ bs.getD i 0 ≤ 255 := by
  rcases Nat.lt_or_ge i bs.length with hi | hi
  · rw [List.getD_eq_getElem?_getD, List.getElem?_eq_getElem hi]; exact h _ (List.getElem_mem hi)
  · rw [List.getD_eq_getElem?_getD, List.getElem?_eq_none hi]; simp
theorem kp_drew (w : World) : Kp [] w w.drew := ⟨rfl, rfl, rfl, Nat.le_refl _, fun _ _ _ => rfl⟩
theorem sch_len (bs : List Int) (n : Nat) : (sch bs n).length = n := by
  induction n with
  | zero => rfl
  | succ n ih => simp [sch, ih]
end Go.Proofs.YtillhpgdlmeajaaGreatDoor

/-
  The contract of the program's schedule: the words of a block.
-/
namespace Go.Proofs.YtillhpgdlmeajaaGreatDoor
open Go.RowKit
theorem sch_set (bs : List Int) (k : Nat) (hk : k < 64) (x : Int) (hx : sch bs (k + 1) = sch bs k ++ [x]) : (sch bs k ++ List.replicate (64 - k) 0).set k x = sch bs (k + 1) ++ List.replicate (64 - (k + 1)) 0 := by
  have h := sch_len bs k
  rw [hx, List.set_append_right _ _ (by omega), h, Nat.sub_self, show 64 - k = (64 - (k + 1)) + 1 by omega, List.replicate_succ, List.set_cons_zero, List.append_assoc]
  rfl
theorem ad4 (a b c d : Int) : ad (ad (ad a b) c) d = (a + b + c + d) % 4294967296 := by unfold ad; omega
set_option maxRecDepth 100000 in
theorem sched_any (vb : Value) (bs : List Int) (w : World) (hS : Sl w vb bs) (hl : bs.length = 64) (hB : Bs bs) : Calls Tryz.prog 171 #[vb] w fun e w' => e = .returned (ag (sch bs 64)) ∧ Kp [] w w' := by
  obtain ⟨i0, hi0, hz0⟩ := Tryz.zero64
  obtain ⟨ab, cb, rfl, h1, h2, h4⟩ := hS.at hl (by omega)
  have h1i : (64 : Int) ≤ (cb : Int) := by omega
  have H4 := hide h4
  have hab : ab.block < w.heap.size := by have := World.block_lt_of_cell? _ _ (h4 0 (by omega)); rwa [add_block] at this
  clear h4 hS
  go_enter Tryz.func171, Tryz.ntmps171
  go_wp2_with (first
    | (refine wpList_alloc_ar (w := w) rfl 163 rfl i0 _ hi0 hz0 ?_; intro wa Aa Ka za)
    | (refine wpList_alloc_ar (w := wa) rfl 163 rfl i0 _ hi0 hz0 ?_; intro w1 A1 K1 z1))
  obtain ⟨b1, hb1⟩ : ∃ b, b = w.heap.size := ⟨_, rfl⟩
  obtain ⟨b2, hb2⟩ : ∃ b, b = b1 + 1 := ⟨_, rfl⟩
  have hne : b1 ≠ b2 := by omega
  rw [← hb1] at Aa
  rw [za, ← hb1, ← hb2] at A1
  have K2 := Ka.trans K1
  have A2 := Aa.kept K1 (by simp)
  simp only [← hb1, ← hb2]
  have HC : Hid (∀ j, j < 64 → w1.cell? (ab.add j) = some (.int .u8 (bs.getD j 0))) := fun j hj => K2.cell (unhide H4 j hj) (by simp)
  have hbw : w.heap.size ≤ b2 := by omega
  have hbw1 : w.heap.size ≤ b1 := by omega
  clear H4 hb1 hb2 Ka K1 Aa za z1
  go_loopw [7] (fun i wr => ∃ k : Nat, k ≤ 16 ∧ i = .int .i64 k ∧ Kp [b2] w1 wr ∧ Ar wr b2 163 (sch bs k ++ List.replicate (64 - k) 0)) (fun i _ => 16 - (intOf i).toNat)
  case atStart => exact ⟨0, by omega, rfl, Kp.refl _ _, A1⟩
  case round =>
    obtain ⟨k, hk, rfl, Kr, Ak⟩ := hrel
    by_cases hlt : k < 16
    · have hlt2 : (k : Int) < 16 := by omega
      have hcbk : ¬ (cb = 4 * k) := by omega
      have hs4 : 4 * k + 4 - 4 * k = 4 := by omega
      have hck : ∀ j, j < 64 → wr.cell? (ab.add j) = some (.int .u8 (bs.getD j 0)) := fun j hj => Kr.cell (unhide HC j hj) (by rw [add_block]; simp; omega)
      obtain ⟨x0, hx0⟩ : ∃ x, x = bs.getD (4 * k) 0 := ⟨_, rfl⟩
      obtain ⟨x1, hx1⟩ : ∃ x, x = bs.getD (4 * k + 1) 0 := ⟨_, rfl⟩
      obtain ⟨x2, hx2⟩ : ∃ x, x = bs.getD (4 * k + 2) 0 := ⟨_, rfl⟩
      obtain ⟨x3, hx3⟩ : ∃ x, x = bs.getD (4 * k + 3) 0 := ⟨_, rfl⟩
      have hc0 := hck (4 * k) (by omega)
      have hc1 := hck (4 * k + 1) (by omega)
      have hc2 := hck (4 * k + 2) (by omega)
      have hc3 := hck (4 * k + 3) (by omega)
      rw [← hx0] at hc0
      rw [← add_at ab (4 * k) 0, ← hx1] at hc1
      rw [← add_at ab (4 * k) 1, ← hx2] at hc2
      rw [← add_at ab (4 * k) 2, ← hx3] at hc3
      have d0 := hB.at (4 * k)
      have d1 := hB.at (4 * k + 1)
      have d2 := hB.at (4 * k + 2)
      have d3 := hB.at (4 * k + 3)
      rw [← hx0] at d0
      rw [← hx1] at d1
      rw [← hx2] at d2
      rw [← hx3] at d3
      have hsch : sch bs (k + 1) = sch bs k ++ [wd x0 x1 x2 x3] := by simp only [sch, if_pos hlt, wordAt, hx0, hx1, hx2, hx3]
      have hset := sch_set bs k (by omega) _ hsch
      obtain ⟨ys, hys⟩ : ∃ ys, ys = sch bs k ++ List.replicate (64 - k) 0 := ⟨_, rfl⟩
      rw [← hys] at Ak hset
      have hyl : ys.length = 64 := by rw [hys]; simp [sch_len]; omega
      have hck' := Ak.cell k (by omega)
      have hfk := Ak.frozen k
      have HA := hide Ak
      have HS := hide hset
      have hkr := hide Kr
      obtain ⟨old, hold⟩ : ∃ old, old = ys.getD k 0 := ⟨_, rfl⟩
      rw [← hold] at hck'
      clear hck hx0 hx1 hx2 hx3 hsch hset hys Ak Kr hold
      go_wp2_with fail
      refine region_tail 24 Tryz.mixed (by kernel_rfl) ?_
      simp only [List.take_succ_cons, List.take_zero, List.drop_succ_cons, List.drop_zero]
      repeat (first | go_big_quiet_skip | (go_big_quiet_want; go_big_quiet_op; go_big_quiet_on))
      refine wpQuiet_nil ?_
      go_wp2_with fail
      go_roundw
      case rel =>
        refine ⟨k + 1, by omega, by go_num, ((unhide hkr).setCell (p := ⟨b2, k, none⟩) (.inl (by simp)) _).drew, ?_⟩
        rw [← unhide HS]
        exact (unhide HA).set k _
      case measure => simp [intOf]; omega
    · obtain rfl : k = 16 := by omega
      obtain ⟨w2, hw2⟩ : ∃ w2, w2 = wr := ⟨_, rfl⟩
      subst hw2
      have HK := hide Kr
      clear A1 Kr
      go_wp2_with fail
      go_loopw [6] (fun i wr => ∃ k : Nat, 16 ≤ k ∧ k ≤ 64 ∧ i = .int .i64 k ∧ Kp [b2] w1 wr ∧ Ar wr b2 163 (sch bs k ++ List.replicate (64 - k) 0)) (fun i _ => 64 - (intOf i).toNat)
      case atStart => exact ⟨16, by omega, by omega, rfl, unhide HK, Ak⟩
      case round =>
        obtain ⟨k, hk1, hk, rfl, Kr, Ar1⟩ := hrel
        clear Ak HK
        by_cases hlt : k < 64
        · have hlt2 : (k : Int) < 64 := by omega
          have hk2 : (16 : Int) ≤ (k : Int) := by omega
          have hnl : ¬ k < 16 := by omega
          obtain ⟨ys, hys⟩ : ∃ ys, ys = sch bs k ++ List.replicate (64 - k) 0 := ⟨_, rfl⟩
          have hgd : ∀ j, j < k → ys.getD j 0 = (sch bs k).getD j 0 := fun j hj => by
            rw [hys, List.getD_eq_getElem?_getD, List.getD_eq_getElem?_getD, List.getElem?_append_left (by rw [sch_len]; exact hj)]
          have hyl : ys.length = 64 := by rw [hys]; simp [sch_len]; omega
          have hset := fun x hx => sch_set bs k (by omega) x hx
          rw [← hys] at Ar1 hset
          obtain ⟨x0, hx0⟩ : ∃ x, x = ys.getD (k - 2) 0 := ⟨_, rfl⟩
          obtain ⟨x1, hx1⟩ : ∃ x, x = ys.getD (k - 7) 0 := ⟨_, rfl⟩
          obtain ⟨x2, hx2⟩ : ∃ x, x = ys.getD (k - 15) 0 := ⟨_, rfl⟩
          obtain ⟨x3, hx3⟩ : ∃ x, x = ys.getD (k - 16) 0 := ⟨_, rfl⟩
          have hc0 := Ar1.cell (k - 2) (by omega)
          have hc1 := Ar1.cell (k - 7) (by omega)
          have hc2 := Ar1.cell (k - 15) (by omega)
          have hc3 := Ar1.cell (k - 16) (by omega)
          rw [← hx0] at hc0
          rw [← hx1] at hc1
          rw [← hx2] at hc2
          rw [← hx3] at hc3
          have hsch : sch bs (k + 1) = sch bs k ++ [ad (ad (ad (sS1 x0) x1) (sS0 x2)) x3] := by
            simp only [sch, if_neg hnl, nextW, hx0, hx1, hx2, hx3]
            rw [hgd _ (by omega), hgd _ (by omega), hgd _ (by omega), hgd _ (by omega)]
          have HS := hide (hset _ hsch)
          have HA := hide Ar1
          have hkr := hide Kr
          have hck' := Ar1.cell k (by omega)
          have hfk := Ar1.frozen k
          obtain ⟨old, hold⟩ : ∃ old, old = ys.getD k 0 := ⟨_, rfl⟩
          rw [← hold] at hck'
          clear hx0 hx1 hx2 hx3 hsch hset hys Ar1 Kr hold hgd
          go_wp2_with fail
          refine region_tail 23 Tryz.mixed (by kernel_rfl) ?_
          simp only [List.take_succ_cons, List.take_zero, List.drop_succ_cons, List.drop_zero]
          repeat (first | go_big_quiet_skip | (go_big_quiet_want; go_big_quiet_op; first | go_big_quiet_on | (refine ⟨_, sS1_any _ _, ?_⟩; go_big_quiet_on) | (refine ⟨_, sS0_any _ _, ?_⟩; go_big_quiet_on)))
          refine wpQuiet_nil ?_
          go_wp2_with fail
          go_roundw
          case rel =>
            refine ⟨k + 1, by omega, by omega, by go_num, ((unhide hkr).setCell (p := ⟨b2, k, none⟩) (.inl (by simp)) _).drew, ?_⟩
            rw [← unhide HS, ad4]
            exact (unhide HA).set k _
          case measure => simp [intOf]; omega
        · obtain rfl : k = 64 := by omega
          have A3 := A2.kept Kr (by simpa using hne)
          have hl64 : (sch bs 64 ++ List.replicate (64 - 64) 0 : List Int) = sch bs 64 := by simp
          rw [hl64] at Ar1
          have hi : (Tryz.prog.info? 163).map (·.size) = some (sch bs 64).length := by rw [sch_len]; exact Tryz.sz64
          go_wp2_with (first
            | (refine wpList_load_ar rfl 163 (.tmp 3) rfl b2 rfl _ _ 64 103 Ar1 Tryz.underlying163 hi ?_)
            | (refine wpList_store_ar rfl 163 (.tmp 2) (.tmp 69) rfl b1 rfl _ _ _ A3 rfl (by rw [sch_len]; rfl) hi ?_; intro w9 A9 K9 z9))
          refine bodyPost_ret (results_cell_row rfl _ w9 b1 _ _ (0, 0) (.array 64 103) rfl A9 Tryz.underlying163 rfl (by simpa using hi)) rfl ?_
          refine ⟨rfl, ?_⟩
          exact (K2.then Kr (by simp; omega)).then K9 (by simp; omega)
end Go.Proofs.YtillhpgdlmeajaaGreatDoor

/-
  The contract of the program's mix: one block.
-/
namespace Go.Proofs.YtillhpgdlmeajaaGreatDoor
open Go.RowKit
/-- The table of the program's package, as its text lays it. -/
def Rw (w : World) : Prop := ∀ k, k < 64 → w.cell? ⟨0, k, none⟩ = some (.int .u32 (consts.getD k 0))
def Db (_ : World) : Prop := True
/-- The tables that the calls read. -/
structure Gl (w : World) : Prop where
  rw : Rw w
  db : Db w
  pos : 1 ≤ w.heap.size
theorem Gl.kept {w w' : World} {S : List Nat} (h : Gl w) (k : Kp S w w') (hs : ∀ b ∈ S, 1 ≤ b) : Gl w' where
  rw := fun j hj => k.cell (h.rw j hj) (fun hm => by have := hs _ hm; simp at this)
  db := trivial
  pos := Nat.le_trans h.pos k.size
theorem rds_len (ws : List Int) (s : List Int) (hs : s.length = 8) : ∀ n, (rds ws s n).length = 8
  | 0 => hs
  | n + 1 => by
    have ih := rds_len ws s hs n
    simp only [rds]
    unfold rnd
    split
    · rfl
    · exact ih
theorem eight {s : List Int} (h : s.length = 8) : ∃ a b c d e f g i, s = [a, b, c, d, e, f, g, i] := by
  match s, h with
  | [a, b, c, d, e, f, g, i], _ => exact ⟨a, b, c, d, e, f, g, i, rfl⟩
theorem zip_step (tt s0 : List Int) (k : Nat) (h1 : k < tt.length) (h2 : k < s0.length) (ys : List Int) (hys : ys = List.zipWith ad (tt.take k) s0 ++ tt.drop k) :
    ys.set k (ad (ys.getD k 0) (s0.getD k 0)) = List.zipWith ad (tt.take (k + 1)) s0 ++ tt.drop (k + 1) := by
  have hz : (List.zipWith ad (tt.take k) s0).length = k := by simp; omega
  have e1 : ys.getD k 0 = tt[k] := by rw [hys, List.getD_eq_getElem?_getD, List.getElem?_append_right (by omega), hz, Nat.sub_self]; simp [List.getElem?_eq_getElem h1]
  have e2 : s0.getD k 0 = s0[k] := by simp [List.getElem?_eq_getElem h2]
  rw [e1, e2, hys, List.set_append_right _ _ (by omega), hz, Nat.sub_self, List.drop_eq_getElem_cons h1, List.set_cons_zero]
  have e3 : List.zipWith ad (tt.take (k + 1)) s0 = List.zipWith ad (tt.take k) s0 ++ [ad tt[k] s0[k]] := by
    refine List.ext_getElem (by simp; omega) (fun i hi1 hi2 => ?_)
    rcases Nat.lt_or_ge i k with hik | hik
    · rw [List.getElem_append_left (by omega)]; simp
    · have : i = k := by simp at hi1; omega
      subst this
      rw [List.getElem_append_right (by omega)]
      simp [hz]
  rw [e3, List.append_assoc]
  rfl
theorem ad5 (a b c d e : Int) : ad (ad (ad (ad a b) c) d) e = (a + b + c + d + e) % 4294967296 := by unfold ad; omega
theorem rnd_eq (a b c d e f g h k w : Int) : rnd [a, b, c, d, e, f, g, h] k w = [((h + bS1 e + chs e f g + k + w) % 4294967296 + (bS0 a + maj a b c) % 4294967296) % 4294967296, a, b, c, (d + (h + bS1 e + chs e f g + k + w) % 4294967296) % 4294967296, e, f, g] := by
  simp only [rnd, ad5]
  rfl
set_option maxRecDepth 100000 in
set_option maxHeartbeats 4000000 in
theorem mix_any (s : List Int) (vb : Value) (bs : List Int) (w : World) (hs : s.length = 8) (hS : Sl w vb bs) (hl : bs.length = 64) (hB : Bs bs) (hG : Gl w) : Calls Tryz.prog 161 #[ag s, vb] w fun e w' => e = .returned (ag (blk s bs)) ∧ Kp [] w w' := by
  obtain ⟨i0, hi0, hz0⟩ := Tryz.zeroW
  obtain ⟨ws, hws⟩ : ∃ ws, ws = sch bs 64 := ⟨_, rfl⟩
  have hwl : ws.length = 64 := by rw [hws]; exact sch_len _ _
  have HW := hide hws
  have HB : Hid (Bs bs) := hB
  have HG : Hid (Gl w) := hG
  have hpos := hG.pos
  have HSl : Hid (Sl w vb bs) := hS
  clear hws hB hG hS
  obtain ⟨a, b, c, d, e, f, g, h, rfl⟩ := eight hs
  go_enter Tryz.func161, Tryz.ntmps161
  go_wp2_with (first
    | (refine wpList_box_ar (w := w) rfl 188 (.tmp 0) rfl _ rfl ?_; intro wa Aa Ka za)
    | (refine wpList_alloc_ar (w := wa) rfl 188 rfl i0 _ hi0 hz0 ?_; intro w1 A1 K1 z1))
  obtain ⟨b1, hb1⟩ : ∃ b, b = w.heap.size := ⟨_, rfl⟩
  obtain ⟨b2, hb2⟩ : ∃ b, b = b1 + 1 := ⟨_, rfl⟩
  have hne : b1 ≠ b2 := by omega
  rw [← hb1] at Aa
  rw [za, ← hb1, ← hb2] at A1
  have K2 := Ka.trans K1
  have A2 := Aa.kept K1 (by simp)
  simp only [← hb1]
  have hbw : w.heap.size ≤ b2 := by omega
  have hbw1 : w.heap.size ≤ b1 := by omega
  have HSl1 : Hid (Sl w1 vb bs) := (unhide HSl).kept K2 (by simp)
  have HG1 : Hid (Gl w1) := (unhide HG).kept K2 (by simp)
  have za' : wa.heap.size = b2 := by omega
  clear hb1 hb2 Ka K1 Aa za
  have c0 := A2.cell 0 (by simp)
  have c1 := A2.cell 1 (by simp)
  have c2 := A2.cell 2 (by simp)
  have c3 := A2.cell 3 (by simp)
  have c4 := A2.cell 4 (by simp)
  have c5 := A2.cell 5 (by simp)
  have c6 := A2.cell 6 (by simp)
  have c7 := A2.cell 7 (by simp)
  simp only [List.getD_cons_zero, List.getD_cons_succ] at c0 c1 c2 c3 c4 c5 c6 c7
  simp only [za', Act.put, List.set_cons_zero, List.set_cons_succ, List.setIfInBounds_toArray]
  refine region_read Tryz.mixed (by kernel_rfl) ?_
  repeat (first | go_big_quiet_skip | (go_big_quiet_want; go_big_quiet_op; go_big_quiet_on))
  refine wpQuiet_nil ?_
  go_wp2_with fail
  refine region_read Tryz.mixed (by kernel_rfl) ?_
  repeat (first | go_big_quiet_skip | (go_big_quiet_want; go_big_quiet_op; go_big_quiet_on))
  refine wpQuiet_nil ?_
  have kd : Kp [] w1 w1.drew.drew := (kp_drew _).trans (kp_drew _)
  go_wp2_with (refine (sched_any vb bs _ ((unhide HSl1).kept kd (by simp)) hl (unhide HB)).mono ?_; rintro ee w3 ⟨rfl, K3⟩; rw [← unhide HW])
  have K13 := kd.trans K3
  have HK13 := hide K13
  have HK2 := hide K2
  have A3 := A2.kept K13 (by simp)
  have A4 := A1.kept K13 (by simp)
  have HA3 := hide A3
  have HA4 := hide A4
  have HG3 : Hid (Gl w3) := (unhide HG1).kept K13 (by simp)
  have hsz : w.heap.size ≤ w3.heap.size := Nat.le_trans K2.size K13.size
  obtain ⟨s0, hs0⟩ : ∃ s, s = [a, b, c, d, e, f, g, h] := ⟨_, rfl⟩
  have hs08 : s0.length = 8 := by rw [hs0]; rfl
  have HS0 := hide hs0
  simp only [← hs0] at HA3 ⊢
  have hrd0 : rds ws s0 0 = [a, b, c, d, e, f, g, h] := hs0
  have HR0 := hide hrd0
  clear c0 c1 c2 c3 c4 c5 c6 c7 A1 A2 kd K3 K13 K2 A3 A4 HSl HSl1 HG HG1 hs hs0 z1 za' hrd0
  go_loopw [5, 6, 7, 8, 9, 10, 11, 12, 37] (fun va vb vc vd ve vf vg vh i wr => ∃ (k n : Nat) (a b c d e f g h : Int), k ≤ 64 ∧ i = .int .i64 k ∧ va = .int .u32 a ∧ vb = .int .u32 b ∧ vc = .int .u32 c ∧ vd = .int .u32 d ∧ ve = .int .u32 e ∧ vf = .int .u32 f ∧ vg = .int .u32 g ∧ vh = .int .u32 h ∧ rds ws s0 k = [a, b, c, d, e, f, g, h] ∧ wr = w3.drewN n) (fun _ _ _ _ _ _ _ _ i _ => 64 - (intOf i).toNat)
  case atStart => exact ⟨0, 0, a, b, c, d, e, f, g, h, by omega, rfl, rfl, rfl, rfl, rfl, rfl, rfl, rfl, rfl, unhide HR0, rfl⟩
  case round =>
    clear HR0
    obtain ⟨k, n, a', b', c', d', e', f', g', h', hk, rfl, rfl, rfl, rfl, rfl, rfl, rfl, rfl, rfl, hrd, rfl⟩ := hrel
    by_cases hlt : k < 64
    · have hlt2 : (k : Int) < 64 := by omega
      have hix := fun W => index64 ws k W hlt hwl
      have hgl := (unhide HG3).rw k hlt
      obtain ⟨x, hx⟩ : ∃ x, x = ws.getD k 0 := ⟨_, rfl⟩
      obtain ⟨y, hy⟩ : ∃ y, y = consts.getD k 0 := ⟨_, rfl⟩
      rw [← hy] at hgl
      simp only [← hx] at hix
      have hnx : rds ws s0 (k + 1) = rnd [a', b', c', d', e', f', g', h'] y x := by simp only [rds, hrd, hx, hy]
      have HN := hide hnx
      clear hx hy hrd hnx
      go_wp2_with fail
      refine region_read Tryz.mixed (by kernel_rfl) ?_
      repeat (first | go_big_quiet_skip | (go_big_quiet_want; go_big_quiet_op; first | go_big_quiet_on | (refine ⟨_, bS1_any _ _, ?_⟩; go_big_quiet_on) | (refine ⟨_, chs_any _ _ _ _, ?_⟩; go_big_quiet_on)))
      refine wpQuiet_nil ?_
      go_wp2_with (first
        | (go_at_call 174; refine (bS0_any _ _).mono ?_; rintro ee w5 ⟨rfl, hw5⟩; subst w5)
        | (go_at_call 175; refine (maj_any _ _ _ _).mono ?_; rintro ee w5 ⟨rfl, hw5⟩; subst w5))
      go_roundw
      case rel => exact ⟨k + 1, n + 1, _, _, _, _, _, _, _, _, by omega, by go_num, rfl, rfl, rfl, rfl, rfl, rfl, rfl, rfl, (unhide HN).trans (rnd_eq ..), rfl⟩
      case measure => simp [intOf]; omega
    · obtain rfl : k = 64 := by omega
      clear hk hlt
      have HR := hide hrd
      clear hrd
      obtain ⟨w4, hw4⟩ : ∃ w4, w4 = w3.drewN n := ⟨_, rfl⟩
      have K34 : Kp [] w3 w4 := by rw [hw4]; exact kp_drewN w3 n
      rw [← hw4]
      have HK := hide (((unhide HK2).trans (unhide HK13)).trans K34)
      have HB1 := hide ((unhide HA3).kept K34 (by simp))
      have HB2 := hide ((unhide HA4).kept K34 (by simp))
      have hsz4 : w.heap.size ≤ w4.heap.size := Nat.le_trans hsz K34.size
      have hl1 := (unhide HB1).lt
      have hl2 := (unhide HB2).lt
      clear hw4 K34 HK2 HK13 HA3 HA4 HG3 hsz
      go_wp2_with (first
        | (refine wpList_alloc_ar (w := w4) rfl 188 rfl i0 _ hi0 hz0 ?_; intro w5 A5 K5 z5)
        | (refine wpList_store_ar rfl 188 (.tmp 17) (.tmp 84) rfl w4.heap.size rfl _ _ [a', b', c', d', e', f', g', h'] A5 rfl rfl Tryz.szW ?_; intro w6 A6 K6 z6))
      obtain ⟨b3, hb3⟩ : ∃ b, b = w4.heap.size := ⟨_, rfl⟩
      rw [← hb3] at A5 A6 K6 hl1 hl2
      simp only [← hb3]
      have A7 := (((unhide HB1).kept K5 (by simp)).kept K6 (by simp; omega))
      have A8 := (((unhide HB2).kept K5 (by simp)).kept K6 (by simp; omega))
      have K7 : Kp [] w w6 := ((unhide HK).trans K5).then K6 (by simp; omega)
      obtain ⟨tt, htt⟩ : ∃ tt, tt = [a', b', c', d', e', f', g', h'] := ⟨_, rfl⟩
      rw [← htt] at A6 HR
      have htl : tt.length = 8 := by rw [htt]; rfl
      have hA7 := hide A7
      have hA8 := hide A8
      have hK7 := hide K7
      have h0 : tt = List.zipWith ad (tt.take 0) s0 ++ tt.drop 0 := by simp
      rw [h0] at A6
      have hA6 := hide A6
      have hbw3 : w.heap.size ≤ b3 := by omega
      clear hb3 A5 K5 z5 K6 z6 A7 A8 K7 htt HB1 HB2 HK A6 h0 hsz4
      go_loopw [85] (fun i wr => ∃ k : Nat, k ≤ 8 ∧ i = .int .i64 k ∧ Kp [b3] w6 wr ∧ Ar wr b3 188 (List.zipWith ad (tt.take k) s0 ++ tt.drop k)) (fun i _ => 8 - (intOf i).toNat)
      case atStart => exact ⟨0, by omega, rfl, Kp.refl _ _, unhide hA6⟩
      case round =>
        obtain ⟨k, hk, rfl, Kr, Ak⟩ := hrel
        clear hA6
        have A9 := (unhide hA7).kept Kr (by simp; omega)
        by_cases hlt : k < 8
        · have hlt2 : (k : Int) < 8 := by omega
          obtain ⟨ys, hys⟩ : ∃ ys, ys = List.zipWith ad (tt.take k) s0 ++ tt.drop k := ⟨_, rfl⟩
          have hz : (List.zipWith ad (tt.take k) s0).length = k := by simp; omega
          have hyl : ys.length = 8 := by rw [hys]; simp [hz]; omega
          have hset : ys.set k (ad (ys.getD k 0) (s0.getD k 0)) = List.zipWith ad (tt.take (k + 1)) s0 ++ tt.drop (k + 1) := zip_step tt s0 k (by omega) (by omega) ys hys
          rw [← hys] at Ak
          have hc1 := Ak.cell k (by omega)
          have hc2 := A9.cell k (by omega)
          have hfk := Ak.frozen k
          obtain ⟨x, hx⟩ : ∃ x, x = ys.getD k 0 := ⟨_, rfl⟩
          obtain ⟨y, hy⟩ : ∃ y, y = s0.getD k 0 := ⟨_, rfl⟩
          rw [← hx] at hc1 hset
          rw [← hy] at hc2 hset
          have HS := hide hset
          have HA := hide Ak
          have hkr := hide Kr
          clear hx hy hset Ak Kr A9 hys hz
          go_wp2_with fail
          refine region_tail 8 Tryz.mixed (by kernel_rfl) ?_
          simp only [List.take_succ_cons, List.take_zero, List.drop_succ_cons, List.drop_zero]
          repeat (first | go_big_quiet_skip | (go_big_quiet_want; go_big_quiet_op; go_big_quiet_on))
          refine wpQuiet_nil ?_
          go_wp2_with fail
          go_roundw
          case rel =>
            refine ⟨k + 1, by omega, by go_num, ((unhide hkr).setCell (p := ⟨b3, k, none⟩) (.inl (by simp)) _).drew, ?_⟩
            rw [← unhide HS]
            exact (unhide HA).set k _
          case measure => simp [intOf]; omega
        · obtain rfl : k = 8 := by omega
          have A10 := (unhide hA8).kept Kr (by simp; omega)
          have hfin : List.zipWith ad (tt.take 8) s0 ++ tt.drop 8 = blk s0 bs := by
            rw [List.take_of_length_le (by omega), List.drop_of_length_le (by omega), List.append_nil]
            unfold blk
            rw [← unhide HW, unhide HR]
          rw [hfin] at Ak
          have hbl : (blk s0 bs).length = 8 := by rw [← hfin]; simp; omega
          have hi : (Tryz.prog.info? 188).map (·.size) = some (blk s0 bs).length := by rw [hbl]; exact Tryz.szW
          go_wp2_with (first
            | (refine wpList_load_ar rfl 188 (.tmp 17) rfl b3 rfl _ _ 8 103 Ak Tryz.underlying188 hi ?_)
            | (refine wpList_store_ar rfl 188 (.tmp 4) (.tmp 97) rfl b2 rfl _ _ _ A10 rfl (by rw [hbl]; rfl) hi ?_; intro w9 A9 K9 z9))
          refine bodyPost_ret (results_cell_row rfl _ w9 b2 _ _ (0, 0) (.array 8 103) rfl A9 Tryz.underlying188 rfl (by simpa using hi)) rfl ?_
          refine ⟨?_, ?_⟩
          · rw [← unhide HS0]; rfl
          · exact ((unhide hK7).then Kr (by simp; omega)).then K9 (by simp; omega)
end Go.Proofs.YtillhpgdlmeajaaGreatDoor

/-
  The contract of the program's mixAll: all blocks of a text that has whole ones alone.
-/
namespace Go.Proofs.YtillhpgdlmeajaaGreatDoor
open Go.RowKit
theorem quiet_load_ar {o : Oper} {a : Act} {w : World} {K : Act → Prop} (ty : TypeId) (x : Operand) (ho : o.op = .load ty x) (b : Nat) (hx : a.eval x = .pointer (some ⟨b, 0, none⟩)) (t : TypeId) (s : List Int) (n : Nat) (e : TypeId) (hA : Ar w b t s)
    (hu : Tryz.prog.underlying ty = some (.array n e)) (hi : (Tryz.prog.info? ty).map (·.size) = some s.length) (h : K (a.put o.dst (ag s))) : o.quiet Tryz.prog a (fun w' => w' = w) K := by
  refine ⟨ag s, fun w' hw => ?_, h⟩
  subst hw
  unfold Oper.quietAt execOp
  simp only [ho, hx, Instr.loadAt, Instr.sureAddr, Sem.run_bind, Sem.run_pure, Result.andThen_ok, run_loadVar_row w' b t ty _ (0, 0) (.array n e) hA hu rfl (by simpa using hi), Oper.quietUpon]
  exact ⟨trivial, rfl⟩
theorem Sl.sub {w : World} {a : Addr} {len c : Nat} {bs : List Int} (h : Sl w (.slice (some a) len c) bs) (i m : Nat) (hm : 0 < m) (hi : i + m ≤ bs.length) : Sl w (.slice (some (a.add i)) m (c - i)) ((bs.drop i).take m) := by
  have hc : bs.length ≤ c := by obtain ⟨_, _, e, h1, _⟩ := h; cases e; exact h1
  have h1 := h.drop i (by omega)
  rw [if_neg (by omega)] at h1
  have h2 := h1.take m (by simp; omega)
  exact h2
theorem Bs.take {bs : List Int} (h : Bs bs) (n : Nat) : Bs (bs.take n) := fun b hb => h b (List.mem_of_mem_take hb)
theorem Bs.drop {bs : List Int} (h : Bs bs) (n : Nat) : Bs (bs.drop n) := fun b hb => h b (List.mem_of_mem_drop hb)
theorem blk_len (s bs : List Int) (h : s.length = 8) : (blk s bs).length = 8 := by
  unfold blk
  simp [rds_len _ _ h, h]
theorem blks_len (s bs : List Int) (h : s.length = 8) : ∀ n, (blks n s bs).length = 8
  | 0 => h
  | n + 1 => blk_len _ _ (blks_len s bs h n)
set_option maxRecDepth 100000 in
set_option maxHeartbeats 2000000 in
theorem mixAll_any (s : List Int) (vb : Value) (bs : List Int) (n : Nat) (w : World) (hs : s.length = 8) (hS : Sl w vb bs) (hl : bs.length = 64 * n) (hn : n ≤ 1000000000000) (hB : Bs bs) (hG : Gl w) : Calls Tryz.prog 140 #[ag s, vb] w fun e w' => e = .returned (ag (blks n s bs)) ∧ Kp [] w w' := by
  obtain ⟨i0, hi0, hz0⟩ := Tryz.zeroW
  have HB : Hid (Bs bs) := hB
  have HG : Hid (Gl w) := hG
  have hpos := hG.pos
  have HSl : Hid (Sl w vb bs) := hS
  obtain ⟨ab, cb, rfl, h1, h2, h3, _⟩ := hS
  rw [hl] at h1 HSl ⊢
  have h1i : 64 * (n : Int) ≤ (cb : Int) := by omega
  clear hB hG
  go_enter Tryz.func140, Tryz.ntmps140
  go_wp2_with (first
    | (refine wpList_box_ar (w := w) rfl 188 (.tmp 0) rfl _ rfl ?_; intro wa Aa Ka za)
    | (refine wpList_alloc_ar (w := wa) rfl 188 rfl i0 _ hi0 hz0 ?_; intro w1 A1 K1 z1))
  obtain ⟨b1, hb1⟩ : ∃ b, b = w.heap.size := ⟨_, rfl⟩
  obtain ⟨b2, hb2⟩ : ∃ b, b = b1 + 1 := ⟨_, rfl⟩
  have hne : b1 ≠ b2 := by omega
  rw [← hb1] at Aa
  rw [za, ← hb1, ← hb2] at A1
  have K2 := Ka.trans K1
  have A2 := Aa.kept K1 (by simp)
  simp only [← hb1, ← hb2]
  have hbw : w.heap.size ≤ b2 := by omega
  have hbw1 : w.heap.size ≤ b1 := by omega
  have hA1 := hide A1
  have hA2 := hide A2
  have hK2 := hide K2
  clear hb1 hb2 Ka K1 Aa za A1 A2 K2 z1
  go_loopw [5] (fun i wr => ∃ k : Nat, k ≤ n ∧ i = .int .i64 (64 * k : Int) ∧ Kp [b1] w1 wr ∧ Ar wr b1 188 (blks k s bs)) (fun i _ => 64 * n - (intOf i).toNat)
  case atStart => exact ⟨0, by omega, rfl, Kp.refl _ _, unhide hA2⟩
  case round =>
    obtain ⟨k, hk, rfl, Kr, Ak⟩ := hrel
    have hlk := blks_len s bs hs k
    by_cases hlt : k < n
    · have hlt2 : (k : Int) < (n : Int) := by omega
      cases ab with
      | none => have := h3 rfl; omega
      | some ab =>
      have Kw : Kp [b1] w wr := ((unhide hK2).mono (by simp)).trans Kr
      have Sr := (unhide HSl).old Kw (by intro i _ hi; simp; omega)
      have Sk := hide (Sr.sub (64 * k) 64 (by omega) (by omega))
      have HKr := hide Kr
      have HA := hide Ak
      have hcb : ¬ (cb = 64 * k) := by omega
      have hs6 : 64 * k + 64 - 64 * k = 64 := by omega
      have hi : (Tryz.prog.info? 188).map (·.size) = some (blks k s bs).length := by rw [hlk]; exact Tryz.szW
      have AD : Ar wr.drew b1 188 (blks k s bs) := Ak
      obtain ⟨sk, hsk⟩ : ∃ sk, sk = blks k s bs := ⟨_, rfl⟩
      have HSK := hide hsk
      rw [← hsk] at HA AD hi hlk
      have hAD := hide AD
      clear Kr Ak Kw Sr AD hsk
      go_wp2_with fail
      refine region_tail 6 Tryz.mixed (by kernel_rfl) ?_
      simp only [List.take_succ_cons, List.take_zero, List.drop_succ_cons, List.drop_zero]
      go_big_quiet_want
      refine quiet_load_ar 188 (.tmp 2) rfl b1 rfl _ sk 8 103 (unhide hAD) Tryz.underlying188 hi ?_
      simp only [Act.put, List.set_cons_zero, List.set_cons_succ, List.setIfInBounds_toArray]
      go_big_quiet_on
      repeat (first | go_big_quiet_skip | (go_big_quiet_want; go_big_quiet_op; go_big_quiet_on))
      refine wpQuiet_nil ?_
      have hb64 : ((bs.drop (64 * k)).take 64).length = 64 := by simp; omega
      have GD : Gl wr.drew := ((unhide HG).kept (((unhide hK2).mono (by simp)).trans (unhide HKr) : Kp [b1] w wr) (by simp; omega)).kept (kp_drew wr) (by simp)
      have HGD := hide GD
      clear GD
      go_wp2_with (first
        | (refine (mix_any sk _ _ _ hlk ((unhide Sk).kept (kp_drew wr) (by simp)) hb64 (((unhide HB).drop _).take _) (unhide HGD)).mono ?_; rintro ee w5 ⟨rfl, K5⟩; have A5 := (unhide hAD).kept K5 (by simp); have hbl := blk_len sk ((bs.drop (64 * k)).take 64) hlk; have hi5 : (Tryz.prog.info? 188).map (·.size) = some (blk sk ((bs.drop (64 * k)).take 64)).length := by rw [hbl]; exact Tryz.szW)
        | (refine wpList_store_ar rfl 188 (.tmp 2) (.tmp 18) rfl b1 rfl _ _ _ A5 rfl (by rw [hbl]; exact hlk) hi5 ?_; intro w6 A6 K6 z6))
      go_roundw
      case rel =>
        refine ⟨k + 1, by omega, by go_num, ?_, ?_⟩
        · exact (((unhide HKr).trans ((kp_drew wr).mono (by simp))).trans (K5.mono (by simp))).trans K6
        · show Ar w6 b1 _ (blk (blks k s bs) ((bs.drop (64 * k)).take 64))
          rw [← unhide HSK]
          exact A6
      case measure => simp [intOf]; omega
    · obtain rfl : k = n := by omega
      have A10 := (unhide hA1).kept Kr (by simp; omega)
      have hi : (Tryz.prog.info? 188).map (·.size) = some (blks k s bs).length := by rw [hlk]; exact Tryz.szW
      go_wp2_with (first
        | (refine wpList_load_ar rfl 188 (.tmp 2) rfl b1 rfl _ _ 8 103 Ak Tryz.underlying188 hi ?_)
        | (refine wpList_store_ar rfl 188 (.tmp 4) (.tmp 19) rfl b2 rfl _ _ _ A10 rfl (by rw [hlk]; rfl) hi ?_; intro w9 A9 K9 z9))
      refine bodyPost_ret (results_cell_row rfl _ w9 b2 _ _ (0, 0) (.array 8 103) rfl A9 Tryz.underlying188 rfl (by simpa using hi)) rfl ?_
      refine ⟨rfl, ?_⟩
      exact ((unhide hK2).then Kr (by simp; omega)).then K9 (by simp; omega)
end Go.Proofs.YtillhpgdlmeajaaGreatDoor

/-
  Rows of bytes that a call owns; append from whatever slice onto such a row.
-/
namespace Go.Proofs.YtillhpgdlmeajaaGreatDoor
open Go.RowKit
theorem Tryz.info5 : (Tryz.prog.info? 5).map (fun i => (i.zero, i.size, i.bytes)) = some (some (.int .u8 0), 1, 1) := by kernel_rfl
theorem owns_shape {w : World} {base : Nat} {e : TypeId} {v : Value} {n : Nat} {xs : List Value} (h : w.ownsRow base e 1 v n xs) : ∃ ao c, v = .slice ao n c := by
  rcases h.2 with ⟨rfl, rfl⟩ | ⟨g, cap, cur, rfl, _⟩
  · exact ⟨_, _, rfl⟩
  · exact ⟨_, _, rfl⟩
theorem Sl.block {w : World} {b : Nat} {cs : List Int} {t : TypeId} {fr : Nat × Nat} (hb : w.heap[b]? = some (.cells (cs.map (Value.int .u8)).toArray t fr)) (hm : cs.length ≤ maxLen) : Sl w (.slice (some ⟨b, 0, none⟩) cs.length cs.length) cs := by
  refine ⟨some ⟨b, 0, none⟩, cs.length, rfl, Nat.le_refl _, hm, (fun h => by cases h), fun a ha j u hu => ?_⟩
  cases ha
  exact World.news_of_block hb j u (by simpa using hu)
/-- One step of a row of bytes that the call owns. -/
def RStep (w : World) (v : Value) (w' : World) (v' : Value) : Prop :=
  Kp v.ownBlock.toList w w' ∧ ∀ k, v'.ownBlock = some k → v.ownBlock = some k ∨ w.heap.size ≤ k
theorem RStep.refl (w : World) (v : Value) : RStep w v w v := ⟨Kp.refl _ _, fun _ h => .inl h⟩
theorem RStep.trans {a b c : World} {u v x : Value} (h : RStep a u b v) (k : RStep b v c x) : RStep a u c x := by
  refine ⟨h.1.then k.1 (fun i hi => ?_), fun i hi => ?_⟩
  · simp only [Option.mem_toList] at hi ⊢
    exact h.2 i hi
  · rcases k.2 i hi with h1 | h1
    · exact h.2 i h1
    · exact .inr (Nat.le_trans h.1.size h1)
/-- The row v of the bytes bs, of the call's own from base on. -/
def Row (w : World) (base : Nat) (v : Value) (bs : List Int) : Prop := w.ownsRow base 5 1 v bs.length (bs.map (Value.int .u8))
theorem Row.shape {w : World} {base : Nat} {v : Value} {bs : List Int} (h : Row w base v bs) : ∃ ao c, v = .slice ao bs.length c := owns_shape h
theorem Row.sl {w : World} {base : Nat} {v : Value} {bs : List Int} (h : Row w base v bs) : Sl w v bs := Sl.of_owns h
theorem row_step {w w0 w1 : World} {base : Nat} {v v' : Value} {bs new : List Int} (h0 : Kp [] w w0)
    (hown : w1.ownsRow base 5 1 v' (bs.length + new.length) (bs.map (Value.int .u8) ++ new.map (Value.int .u8))) (hgrow : w0.grownBy w1 v.ownBlock) (hat : v'.ownBlock = v.ownBlock ∨ v'.ownBlock = some w0.heap.size) :
    Row w1 base v' (bs ++ new) ∧ RStep w v w1 v' := by
  refine ⟨by unfold Row; simpa using hown, (h0.mono (by simp)).grown hgrow (fun k hk => .inl (by simp [hk])), fun k hk => ?_⟩
  rcases hat with e | e
  · exact .inl (e ▸ hk)
  · rw [e] at hk; cases hk; exact .inr h0.size
theorem Row.len {w : World} {base m c : Nat} {ao : Option Addr} {bs : List Int} (h : Row w base (.slice ao m c) bs) : m = bs.length := by
  obtain ⟨_, _, e⟩ := h.shape; cases e; rfl
/-- append of bytes, whatever slice they come in, onto a row of the call's own. -/
theorem wpList_append_row {w : World} {ops : Array Oper} {rest : List Oper} {o : Oper} {a : Act} {Q : Exit → Act → World → Prop} (hgd : o.guard = none) (s x : Operand)
    (ho : o.op = .call { callee := .builtin .append, args := #[s, x], argTypes := #[22, 22] }) (base : Nat) (v : Value) (bs : List Int) (hs : a.eval s = v) (hrow : Row w base v bs)
    (vx : Value) (cs : List Int) (hx : a.eval x = vx) (hS : Sl w vx cs) (hb : bs.length + cs.length ≤ 140737488355328) (hbase : base ≤ w.heap.size)
    (h : ∀ ao m c w', Row w' base (.slice ao m c) (bs ++ cs) → RStep w v w' (.slice ao m c) → wpList Tryz.prog ops Q rest (a.put o.dst (.slice ao m c)) w') : wpList Tryz.prog ops Q (o :: rest) a w := by
  obtain ⟨i0, hi0, hz0, hz1, hz2⟩ := info_parts Tryz.info5
  obtain ⟨av, cv, rfl⟩ := hrow.shape
  obtain ⟨ax, cx, rfl, h1, h2, h3, h4⟩ := hS
  cases ax with
  | none =>
    have : cs = [] := List.eq_nil_of_length_eq_zero (by have := h3 rfl; omega)
    subst this
    obtain rfl := h3 rfl
    refine wpList_append_own_none hgd s x 22 ho base 5 i0 1 Tryz.underlying22 hi0 _ _ _ hs hrow hx ?_
    have := h av bs.length cv w
    simp only [List.append_nil] at this
    exact this hrow (RStep.refl _ _)
  | some a' =>
    refine wpList_append_own_at w hgd s x 22 ho base 5 i0 (.int .u8 0) 1 1 Tryz.underlying22 hi0 hz0 hz1 hz2 rfl (by decide) _ bs.length (bs.map (Value.int .u8)) hs hrow a' cs.length cx (cs.map (Value.int .u8)) hx (by simp) (h4 a' rfl) (by simp [Value.oneCell']) (by unfold maxLen; omega) (by omega) hbase ?_
    intro v' w1 hown1 hgrow _ hat
    have R := row_step (new := cs) (Kp.refl [] w) hown1 hgrow hat
    obtain ⟨ao', c', hv⟩ := R.1.shape
    subst hv
    exact h ao' _ c' w1 R.1 R.2
theorem Row.kept {w w' : World} {base : Nat} {v : Value} {bs : List Int} {S : List Nat} (h : Row w base v bs) (k : Kp S w w') (hv : ∀ i, v.ownBlock = some i → i ∉ S) : Row w' base v bs := k.owns h hv
theorem RStep.after {w w0 w1 : World} {v v' : Value} (h : RStep w0 v w1 v') (k : Kp [] w w0) : RStep w v w1 v' :=
  ⟨(k.mono (by simp)).trans h.1, fun i hi => (h.2 i hi).imp id (fun e => Nat.le_trans k.size e)⟩
end Go.Proofs.YtillhpgdlmeajaaGreatDoor

/-
  The contracts of package wire's writer over this seat's program: New, number, Num: what a call writes behind what there was, and what it leaves alone.
-/
namespace Go.Proofs.YtillhpgdlmeajaaGreatDoor
open Go.RowKit
/-- A writer: its one cell at block p holds the slice v, which owns the bytes bs. -/
def Wr (w : World) (p : Nat) (v : Value) (bs : List Int) : Prop :=
  w.heap[p]? = some (.cells #[v] 202 (0, 0)) ∧ w.ownsRow (p + 1) 5 1 v bs.length (bs.map (Value.int .u8))
/-- One step of a writer: besides its cell and its row nothing old was changed; its row is the old one, or new. -/
def Step (p : Nat) (w : World) (v : Value) (w' : World) (v' : Value) : Prop :=
  Kp (p :: v.ownBlock.toList) w w' ∧ ∀ k, v'.ownBlock = some k → v.ownBlock = some k ∨ w.heap.size ≤ k
theorem Step.refl (p : Nat) (w : World) (v : Value) : Step p w v w v := ⟨Kp.refl _ _, fun _ h => .inl h⟩
theorem Step.trans {p : Nat} {a b c : World} {u v x : Value} (h : Step p a u b v) (k : Step p b v c x) : Step p a u c x := by
  refine ⟨h.1.then k.1 (fun i hi => ?_), fun i hi => ?_⟩
  · simp only [List.mem_cons, Option.mem_toList] at hi ⊢
    rcases hi with rfl | hi
    · exact .inl (.inl rfl)
    · rcases h.2 i hi with h1 | h1
      · exact .inl (.inr h1)
      · exact .inr h1
  · rcases k.2 i hi with h1 | h1
    · exact h.2 i h1
    · exact .inr (Nat.le_trans h.1.size h1)
theorem Wr.cell {w : World} {p : Nat} {v : Value} {bs : List Int} (h : Wr w p v bs) : w.cell? ⟨p, 0, none⟩ = some v := cell_of_one h.1
theorem Wr.free {w : World} {p : Nat} {v : Value} {bs : List Int} (h : Wr w p v bs) : w.frozen? ⟨p, 0, none⟩ = false := free_of_one h.1
theorem Wr.lt {w : World} {p : Nat} {v : Value} {bs : List Int} (h : Wr w p v bs) : p < w.heap.size := lt_of_block h.1
theorem Wr.ne {w : World} {p : Nat} {v : Value} {bs : List Int} (h : Wr w p v bs) : v.ownBlock ≠ some p := fun e => by have := h.2.lt p e; omega
theorem Wr.kept {w w' : World} {p : Nat} {v : Value} {bs : List Int} {S : List Nat} (h : Wr w p v bs) (k : Kp S w w') (hp : p ∉ S) (hv : ∀ i, v.ownBlock = some i → i ∉ S) : Wr w' p v bs :=
  ⟨k.heap h.1 hp, k.owns h.2 hv⟩
/-- behind an append and the store of its slice. -/
theorem wr_step {wr w0 w1 : World} {p g cap : Nat} {v : Value} {bs new : List Int} (h : Wr wr p v bs) (h0 : Kp [] wr w0)
    (hown : w1.ownsRow (p + 1) 5 1 (.slice (some ⟨g, 0, none⟩) (bs.length + new.length) cap) (bs.length + new.length) (bs.map (Value.int .u8) ++ new.map (Value.int .u8)))
    (hgrow : w0.grownBy w1 v.ownBlock) (hat : v.ownBlock = some g ∨ wr.heap.size ≤ g) :
    Wr (w1.setCell ⟨p, 0, none⟩ (.slice (some ⟨g, 0, none⟩) (bs.length + new.length) cap)) p (.slice (some ⟨g, 0, none⟩) (bs.length + new.length) cap) (bs ++ new) ∧
      Step p wr v (w1.setCell ⟨p, 0, none⟩ (.slice (some ⟨g, 0, none⟩) (bs.length + new.length) cap)) (.slice (some ⟨g, 0, none⟩) (bs.length + new.length) cap) := by
  have h1 : w1.heap[p]? = some (.cells #[v] 202 (0, 0)) := by
    rw [hgrow.block p (Nat.lt_of_lt_of_le h.lt h0.size) (Ne.symm h.ne)]
    exact h0.heap h.1 (by simp)
  refine ⟨⟨one_setCell h1, ?_⟩, ?_, ?_⟩
  · have := ownsRow_setCell_below hown (a := ⟨p, 0, none⟩) (by simp) (.slice (some ⟨g, 0, none⟩) (bs.length + new.length) cap)
    simpa using this
  · have k1 : Kp (p :: v.ownBlock.toList) wr w0 := h0.mono (by simp)
    have k2 := k1.grown hgrow (fun k hk => .inl (by simp [hk]))
    exact k2.setCell (p := ⟨p, 0, none⟩) (.inl (by simp)) _
  · intro k hk
    simp only [Value.ownBlock, Option.some.injEq] at hk
    subst hk
    exact hat
/-- Byte number j of n, counted from the lowest. -/
def byteAt (n : Int) (j : Nat) : Int := n / 256 ^ j % 256
/-- The lowest size bytes of n from the highest on, down to byte k. -/
def be (n : Int) (size k : Nat) : List Int := (List.range (size - k)).map fun t => byteAt n (size - 1 - t)
theorem be_none (n : Int) (size : Nat) : be n size size = [] := by simp [be]
theorem be_step (n : Int) (size j : Nat) (h : j + 1 ≤ size) : be n size j = be n size (j + 1) ++ [byteAt n j] := by
  unfold be
  rw [show size - j = (size - (j + 1)) + 1 from by omega, List.range_succ, List.map_append]
  simp only [List.map_cons, List.map_nil]
  rw [show size - 1 - (size - (j + 1)) = j from by omega]
theorem be_length (n : Int) (size k : Nat) : (be n size k).length = size - k := by simp [be]
theorem byte_wrap (n : Int) (j : Nat) : IntKind.u8.wrap (n / 2 ^ (8 * (j : Int)).toNat) = byteAt n j := by
  have e : (8 * (j : Int)).toNat = 8 * j := by omega
  rw [e, Int.pow_mul]
  simp [IntKind.wrap, IntKind.signed, IntKind.bits, byteAt]
theorem wnew_any (w : World) : Calls Tryz.prog 132 #[] w fun e w' => e = .returned (.pointer (some ⟨w.heap.size, 0, none⟩)) ∧ w' = w.alloc (.cells #[.slice none 0 0] 202) := by
  go_enter Tryz.func132, Tryz.ntmps132
  go_wp2
  go_ret
  exact ⟨rfl, rfl⟩
theorem wr_new (w : World) : Wr (w.alloc (.cells #[.slice none 0 0] 202)) w.heap.size (.slice none 0 0) [] :=
  ⟨heap_alloc_new w _, World.ownsRow_nil _ _ _ _⟩
/-- New, told without its world. -/
theorem new_abs (w : World) : Calls Tryz.prog 132 #[] w fun e w' => ∃ p, e = .returned (.pointer (some ⟨p, 0, none⟩)) ∧ Wr w' p (.slice none 0 0) [] ∧ w.heap.size ≤ p ∧ Kp [] w w' :=
  (wnew_any w).mono fun _ _ ⟨h1, h2⟩ => ⟨w.heap.size, h1, h2 ▸ wr_new w, Nat.le_refl _, h2 ▸ (Kp.refl [] w).alloc _⟩
set_option maxHeartbeats 400000 in
theorem number_any (p : Nat) (n : Int) (size : Nat) (v : Value) (bs : List Int) (w : World) (hw : Wr w p v bs) (hs : size ≤ 4) (hb : bs.length ≤ 100000000000000) :
    Calls Tryz.prog 158 #[.pointer (some ⟨p, 0, none⟩), .int .u32 n, .int .i64 size] w fun e w' => e = .returned (.tuple #[]) ∧ ∃ v', Wr w' p v' (bs ++ be n size 0) ∧ Step p w v w' v' := by
  obtain ⟨i0, hi0, hz0, hz1, hz2⟩ := info_parts Tryz.info5
  go_enter Tryz.func158, Tryz.ntmps158
  go_wp2
  go_loopw [6] (fun i wr => ∃ k : Nat, k ≤ size ∧ i = .int .i64 ((k : Int) - 1) ∧ ∃ v', Wr wr p v' (bs ++ be n size k) ∧ Step p w v wr v') (fun i _ => (intOf i + 1).toNat)
  case atStart => exact ⟨size, Nat.le_refl _, rfl, v, by rw [be_none, List.append_nil]; exact hw, Step.refl _ _ _⟩
  case round =>
    obtain ⟨k, hk, rfl, v', hw', hst⟩ := hrel
    by_cases hk0 : 0 < k
    · obtain ⟨j, rfl⟩ : ∃ j : Nat, k = j + 1 := ⟨k - 1, by omega⟩
      obtain ⟨cs, hcs⟩ : ∃ cs, cs = bs ++ be n size (j + 1) := ⟨_, rfl⟩
      rw [← hcs] at hw'
      have hlen : cs.length ≤ 100000000000004 := by rw [hcs, List.length_append, be_length]; omega
      have HC : Hid (cs = bs ++ be n size (j + 1)) := hcs
      clear hcs
      have hc := hw'.cell
      have hf := hw'.free
      have hown := hw'.2
      have hlt := hw'.lt
      have hfa : ∀ o, (wr.alloc o).frozen? ⟨p, 0, none⟩ = false := fun o => by rw [World.frozen?_alloc_old _ _ _ (by simp; omega)]; exact hf
      have hca : ∀ o, (wr.alloc o).cell? ⟨p, 0, none⟩ = some v' := fun o => (World.cell?_alloc_lt _ _ _ (by exact hlt)).trans hc
      have hne := hw'.ne
      have hwrp : IntKind.i64.wrap (8 * (j : Int)) = 8 * (j : Int) := by simp [IntKind.wrap, IntKind.signed, IntKind.bits]; omega
      have hj0 : (0 : Int) ≤ 8 * (j : Int) := by omega
      have hj1 : 8 * (j : Int) ≤ 32 := by omega
      have hbw := byte_wrap n j
      go_wp2
      go_region_law ((refine step_append_lies _ (by rfl) _ _ _ (by rfl) (p + 1) 5 i0 _ 1 1 Tryz.underlying22 hi0 hz0 hz1 hz2 rfl (by omega) v' _ _ (by rfl) ((hown.alloc _).drew) ⟨wr.heap.size, 0, none⟩ 1 1 [.int .u8 (byteAt n j)] (by rfl) (by rfl) (World.news_of_block (cs := #[.int .u8 (byteAt n j)]) (t := 5) (fr := (0, 0)) (heap_alloc_new wr _)) (by simp [Value.oneCell']) (by omega) (by unfold maxLen; omega) (by omega) (by simp; omega) (wr.heap.size + 1) (by simp) ?_; intro gg cap w1 hown1 hgrow hat hltg; have hc1 : w1.cell? ⟨p, 0, none⟩ = some v' := (by rw [hgrow.cell_far _ (by simp; omega) (Ne.symm hne)]; simpa using hca _); have hf1 : w1.frozen? ⟨p, 0, none⟩ = false := (by rw [hgrow.frozen_far _ (by simp; omega) (Ne.symm hne)]; simpa using hfa _)))
      all_goals
        have R := wr_step (new := [byteAt n j]) hw' (((Kp.refl [] wr).alloc _).drew) hown1 hgrow (hat.imp id (fun e => by omega))
        clear hown1 hgrow hat hltg hown hc hf hfa hca hne hc1 hf1
        go_wp2
        go_roundw
        case rel => exact ⟨j, by omega, by go_num, _, by rw [be_step n size j hk, ← List.append_assoc, ← HC.out]; exact R.1, hst.trans R.2⟩
        case measure => simp [intOf]
    · obtain rfl : k = 0 := by omega
      go_wp2
      go_end0
      exact ⟨rfl, v', hw', hst⟩
theorem num_any (p : Nat) (n : Int) (v : Value) (bs : List Int) (w : World) (hw : Wr w p v bs) (hb : bs.length ≤ 100000000000000) :
    Calls Tryz.prog 133 #[.pointer (some ⟨p, 0, none⟩), .int .u32 n] w fun e w' => e = .returned (.tuple #[]) ∧ ∃ v', Wr w' p v' (bs ++ be n 4 0) ∧ Step p w v w' v' := by
  go_enter Tryz.func133, Tryz.ntmps133
  go_wp2_with (go_at_call 158; refine (number_any p n 4 v bs _ hw (by omega) hb).mono ?_; rintro e w' ⟨rfl, v', h1, h2⟩)
  go_end0
  exact ⟨rfl, v', h1, h2⟩
end Go.Proofs.YtillhpgdlmeajaaGreatDoor

/-
  The contracts of the program's padded, laidDown and beginning.
-/
namespace Go.Proofs.YtillhpgdlmeajaaGreatDoor
open Go.RowKit
theorem Row.own {w : World} {base : Nat} {v : Value} {bs : List Int} (h : Row w base v bs) : ∀ k, v.ownBlock = some k → base ≤ k := by
  intro k hk
  rcases h.2 with ⟨rfl, _⟩ | ⟨g, cap, cur, rfl, hb, _⟩
  · cases hk
  · cases hk; exact hb
theorem Row.step {w w1 w2 : World} {v v' : Value} {bs : List Int} (h : Row w1 w.heap.size v bs) (k : Kp [] w w1) (s : RStep w1 v w2 v') : Kp [] w w2 :=
  k.then s.1 (fun i hi => .inr (h.own i (by simpa using hi)))
/-- One byte, in a block of its own. -/
theorem one_block (w : World) (x : Int) : Sl (w.alloc (.cells #[.int .u8 x] 5)) (.slice (some ⟨w.heap.size, 0, none⟩) 1 1) [x] :=
  Sl.block (cs := [x]) (t := 5) (heap_alloc_new w _) (by simp [maxLen])
theorem be8_take (n : Int) (j : Nat) (hj : j < 8) : (be8 n).take (j + 1) = (be8 n).take j ++ [n / 2 ^ (8 * (7 - j)) % 256] := by
  match j, hj with
  | 0, _ => rfl
  | 1, _ => rfl
  | 2, _ => rfl
  | 3, _ => rfl
  | 4, _ => rfl
  | 5, _ => rfl
  | 6, _ => rfl
  | 7, _ => simp [be8]
set_option maxRecDepth 100000 in
set_option maxHeartbeats 2000000 in
theorem padded_any (vr : Value) (rs : List Int) (N : Nat) (w : World) (hS : Sl w vr rs) (hl : rs.length < 64) (hN : N ≤ 1000000000000000) :
    Calls Tryz.prog 141 #[vr, .int .i64 N] w fun e w' => ∃ ao m c, e = .returned (.slice ao m c) ∧ Row w' w.heap.size (.slice ao m c) (pad rs N) ∧ Kp [] w w' := by
  obtain ⟨i0, hi0, hz0, hz1, hz2⟩ := info_parts Tryz.info5
  obtain ⟨ar, cr, rfl, h1, h2, h3, _⟩ := id hS
  have HSl := hide hS
  clear hS
  have hrl : (rs.length : Int) < 64 := by omega
  go_enter Tryz.func141, Tryz.ntmps141
  go_wp2_with (first
    | (at_make; refine wpList_make_own _ rfl _ _ 22 rfl w.heap.size 5 i0 (.int .u8 0) 1 Tryz.underlying22 hi0 hz0 hz1 .i64 .i64 128 128 rfl rfl rfl (by rw [hz2]; omega) (by unfold maxLen; omega) (Nat.le_refl _) ?_; intro w1 o1 g1; have K1 : Kp [] w w1 := (Kp.refl [] w).grown g1 (by intro k hk; cases hk); have R1 : Row w1 w.heap.size _ [] := o1; have HS1 := (unhide HSl).kept K1 (by simp))
    | (at_builtin; refine wpList_append_row rfl (.tmp 9) (.tmp 10) rfl w.heap.size _ [] rfl R1 _ rs rfl HS1 (by simp; omega) K1.size ?_; intro ao2 m2 c2 w2 r2 s2; have K2 := R1.step K1 s2; rw [List.nil_append] at r2)
    | (at_builtin; refine wpList_append_row rfl (.tmp 12) (.tmp 13) rfl w.heap.size _ rs rfl (r2.kept ((Kp.refl [] w2).alloc _) (by simp)) _ [128] rfl (one_block w2 128) (by simp; omega) (by have := K2.size; simp; omega) ?_; intro ao3 m3 c3 w3 r3 s3; have K3 := r2.step K2 (s3.after ((Kp.refl [] w2).alloc _))))
  clear R1 HS1 o1 g1 K1 s2 s3 r2 K2
  have hm3 := r3.len
  have hR3 : Row w3 w.heap.size (.slice ao3 m3 c3) (rs ++ [128] ++ List.replicate 0 0) := by simpa using r3
  have hR := hide hR3
  have hK3 := hide K3
  clear r3 hR3 K3 hm3
  go_loopw [5] (fun v wr => ∃ (z m c : Nat) (ao : Option Addr), z ≤ zeros rs.length ∧ v = .slice ao m c ∧ Row wr w.heap.size v (rs ++ [128] ++ List.replicate z 0) ∧ Kp [] w wr) (fun v _ => 200 - (match v with | .slice _ m _ => m | _ => 0))
  case atStart => exact ⟨0, m3, c3, ao3, by omega, rfl, unhide hR, unhide hK3⟩
  case round =>
    obtain ⟨z, m, c, ao, hz, rfl, Rr, Kr⟩ := hrel
    have hml := Rr.len
    simp only [List.length_append, List.length_replicate, List.length_cons, List.length_nil] at hml
    have hzb : zeros rs.length < 64 := by unfold zeros; omega
    by_cases hlt : z < zeros rs.length
    · have hne : ¬ ((m : Int) % 64 = 56) := by unfold zeros at hlt; omega
      have hmm : m ≤ 150 := by omega
      have HML := hide hml
      have hrb : (rs ++ [128] ++ List.replicate z (0 : Int)).length ≤ 150 := by simp; omega
      clear hml
      go_wp2_with (at_builtin; refine wpList_append_row rfl (.tmp 19) (.tmp 20) rfl w.heap.size _ _ rfl (Rr.kept ((Kp.refl [] wr).alloc _) (by simp)) _ [0] rfl (one_block wr 0) (by simp only [List.length_cons, List.length_nil]; omega) (by have := Kr.size; simp; omega) ?_; intro ao2 m2 c2 w2 r2 s2)
      have hm2 := r2.len
      simp only [List.length_append, List.length_replicate, List.length_cons, List.length_nil] at hm2
      go_roundw
      case rel =>
        refine ⟨z + 1, m2, c2, ao2, by omega, rfl, ?_, Rr.step Kr (s2.after ((Kp.refl [] wr).alloc _))⟩
        rw [List.replicate_succ', ← List.append_assoc]
        exact r2
      case measure => show 200 - m2 < 200 - m; have := unhide HML; omega
    · have hzz : z = zeros rs.length := by omega
      have he : (m : Int) % 64 = 56 := by rw [hzz] at hml; unfold zeros at hml; omega
      obtain ⟨pre, hpre⟩ : ∃ pre, pre = rs ++ [128] ++ List.replicate z 0 := ⟨_, rfl⟩
      have hpl : pre.length ≤ 128 := by rw [hpre]; simp; omega
      have hR9 : Row wr w.heap.size (.slice ao m c) (pre ++ (be8 (N * 8)).take 0) := by simpa [hpre] using Rr
      have HR9 := hide hR9
      have HK9 := hide Kr
      have HP : Hid (pre ++ (be8 (N * 8)).take 8 = pad rs N) := by
        show _ = _
        unfold pad
        rw [hpre, hzz, List.take_of_length_le (by simp [be8])]
      clear hpre Rr Kr hR9 hml hzz hlt hz hzb
      go_wp2_with fail
      obtain ⟨C, hC⟩ : ∃ C, C = (N : Int) * 8 := ⟨_, rfl⟩
      have hC0 : 0 ≤ C := by omega
      have hC1 : C ≤ 8000000000000000 := by omega
      rw [← hC] at HR9 HP
      simp only [← hC]
      clear hC he
      go_loopw [5, 7] (fun v i wr => ∃ (j m c : Nat) (ao : Option Addr), j ≤ 8 ∧ v = .slice ao m c ∧ i = .int .i64 (7 - (j : Int)) ∧ Row wr w.heap.size v (pre ++ (be8 C).take j) ∧ Kp [] w wr) (fun _ i _ => (intOf i + 1).toNat)
      case atStart => exact ⟨0, m, c, ao, by omega, rfl, rfl, unhide HR9, unhide HK9⟩
      case round =>
        obtain ⟨j, m, c, ao, hj, rfl, rfl, Rr, Kr⟩ := hrel
        by_cases hlt : j < 8
        · have hj2 : (j : Int) < 8 := by omega
          have hj3 : (j : Int) ≤ 7 := by omega
          have HT := hide (be8_take C j hlt)
          have hpj : (pre ++ (be8 C).take j).length ≤ 136 := by simp [be8]; omega
          obtain ⟨q, hq⟩ : ∃ q, q = pre ++ (be8 C).take j := ⟨_, rfl⟩
          rw [← hq] at hpj Rr
          have HQ := hide hq
          clear hq
          go_wp2_with (at_builtin; refine wpList_append_row rfl (.tmp 29) (.tmp 35) rfl w.heap.size _ _ rfl (Rr.kept ((Kp.refl [] wr).alloc _) (by simp)) _ [C / 2 ^ (8 * (7 - j)) % 256] rfl (one_block wr _) (by simp; omega) (by have := Kr.size; simp; omega) ?_; intro ao2 m2 c2 w2 r2 s2)
          go_roundw
          case rel =>
            refine ⟨j + 1, m2, c2, ao2, by omega, rfl, by go_num, ?_, Rr.step Kr (s2.after ((Kp.refl [] wr).alloc _))⟩
            rw [unhide HT, ← List.append_assoc, ← unhide HQ]
            exact r2
          case measure => simp [intOf]; omega
        · obtain rfl : j = 8 := by omega
          rw [unhide HP] at Rr
          go_wp2_with fail
          go_ret
          exact ⟨ao, m, c, rfl, Rr, Kr⟩
theorem lay8_snoc (s : List Int) (k : Nat) (hk : k < s.length) : lay8 (s.take (k + 1)) = lay8 (s.take k) ++ [s.getD k 0 / 16777216 % 256, s.getD k 0 / 65536 % 256, s.getD k 0 / 256 % 256, s.getD k 0 % 256] := by
  unfold lay8
  rw [List.take_succ_eq_append_getElem hk, List.flatMap_append]
  simp [List.getElem?_eq_getElem hk]
theorem lay8_len (s : List Int) : (lay8 s).length = 4 * s.length := by
  unfold lay8
  induction s with
  | nil => rfl
  | cons a s ih => simp only [List.flatMap_cons, List.length_append, ih, List.length_cons, List.length_nil]; omega
set_option maxRecDepth 100000 in
set_option maxHeartbeats 2000000 in
theorem laid_any (s : List Int) (w : World) (hs : s.length = 8) :
    Calls Tryz.prog 142 #[ag s] w fun e w' => ∃ ao m c, e = .returned (.slice ao m c) ∧ Row w' w.heap.size (.slice ao m c) (lay8 s) ∧ Kp [] w w' := by
  obtain ⟨i0, hi0, hz0, hz1, hz2⟩ := info_parts Tryz.info5
  have hi : (Tryz.prog.info? 188).map (·.size) = some s.length := by rw [hs]; exact Tryz.szW
  go_enter Tryz.func142, Tryz.ntmps142
  go_wp2_with (first
    | (refine wpList_box_ar (w := w) rfl 188 (.tmp 0) rfl _ rfl ?_; intro wa Aa Ka za)
    | (at_make; refine wpList_make_own _ rfl _ _ 22 rfl w.heap.size 5 i0 (.int .u8 0) 1 Tryz.underlying22 hi0 hz0 hz1 .i64 .i64 32 32 rfl rfl rfl (by rw [hz2]; omega) (by unfold maxLen; omega) (by omega) ?_; intro w1 o1 g1; have K1 : Kp [] wa w1 := (Kp.refl [] wa).grown g1 (by intro k hk; cases hk); have R1 : Row w1 w.heap.size _ [] := o1; have A1 := Aa.kept K1 (by simp))
    | (refine wpList_load_ar rfl 188 (.tmp 1) rfl w.heap.size rfl _ _ 8 103 A1 Tryz.underlying188 hi ?_))
  obtain ⟨b1, hb1⟩ : ∃ b, b = w.heap.size := ⟨_, rfl⟩
  have K2 := Ka.trans K1
  rw [za] at R1
  simp only [← hb1] at R1 ⊢
  have hR := hide R1
  have hK := hide K2
  have hbw : b1 ≤ w1.heap.size := by have := K2.size; omega
  have HB1 := hide hb1
  clear R1 K2 A1 K1 g1 o1 za Aa Ka hb1
  go_loopw [3, 8] (fun v i wr => ∃ (k m c : Nat) (ao : Option Addr), k ≤ 8 ∧ v = .slice ao m c ∧ i = .int .i64 k ∧ Row wr b1 v (lay8 (s.take k)) ∧ Kp [] w wr) (fun _ i _ => 8 - (intOf i).toNat)
  case atStart => exact ⟨0, 0, 32, some ⟨b1 + 1, 0, none⟩, by omega, rfl, rfl, unhide hR, unhide hK⟩
  case round =>
    obtain ⟨k, m, c, ao, hk, rfl, rfl, Rr, Kr⟩ := hrel
    by_cases hlt : k < 8
    · have hlt2 : (k : Int) < 8 := by omega
      have hix := fun W => indexW s k W hlt hs
      have hsn := lay8_snoc s k (by omega)
      obtain ⟨x, hx⟩ : ∃ x, x = s.getD k 0 := ⟨_, rfl⟩
      simp only [← hx] at hix hsn
      have HS := hide hsn
      have hll : (lay8 (s.take k)).length ≤ 32 := by rw [lay8_len]; simp; omega
      clear hx hsn
      go_wp2_with (at_builtin; refine wpList_append_row rfl (.tmp 11) (.tmp 23) rfl b1 _ _ rfl (Rr.kept ((Kp.refl [] wr).alloc _) (by simp)) _ [x / 16777216 % 256, x / 65536 % 256, x / 256 % 256, x % 256] rfl (Sl.block (cs := [x / 16777216 % 256, x / 65536 % 256, x / 256 % 256, x % 256]) (t := 5) (heap_alloc_new wr _) (by simp [maxLen])) (by simp only [List.length_cons, List.length_nil]; omega) (by have := Kr.size; have := unhide HB1; simp; omega) ?_; intro ao2 m2 c2 w2 r2 s2)
      go_roundw
      case rel =>
        refine ⟨k + 1, m2, c2, ao2, by omega, rfl, by go_num, ?_, ?_⟩
        · rw [unhide HS]; exact r2
        · rw [unhide HB1] at Rr
          exact Rr.step Kr (s2.after ((Kp.refl [] wr).alloc _))
      case measure => simp [intOf]; omega
    · obtain rfl : k = 8 := by omega
      rw [List.take_of_length_le (by omega)] at Rr
      go_wp2_with fail
      go_ret
      exact ⟨ao, m, c, rfl, (unhide HB1) ▸ Rr, Kr⟩
set_option maxRecDepth 100000 in
theorem beg_any (w : World) : Calls Tryz.prog 139 #[] w fun e w' => e = .returned (ag begin8) ∧ Kp [] w w' := by
  obtain ⟨i0, hi0, hz0⟩ := Tryz.zeroW
  go_enter Tryz.func139, Tryz.ntmps139
  go_wp2_with (first
    | (refine wpList_alloc_ar (w := w) rfl 188 rfl i0 _ hi0 hz0 ?_; intro w1 A1 K1 z1)
    | (refine wpList_store_ar rfl 188 (.tmp 0) (.tmp 1) rfl w.heap.size rfl _ _ begin8 A1 rfl rfl Tryz.szW ?_; intro w2 A2 K2 z2))
  refine bodyPost_ret (results_cell_row rfl _ w2 w.heap.size _ _ (0, 0) (.array 8 103) rfl A2 Tryz.underlying188 rfl Tryz.szW) rfl ?_
  exact ⟨rfl, K1.then K2 (by simp)⟩
end Go.Proofs.YtillhpgdlmeajaaGreatDoor

/-
  The contract of the program's Sum.
-/
namespace Go.Proofs.YtillhpgdlmeajaaGreatDoor
open Go.RowKit
theorem pad_len (rs : List Int) (N : Nat) (h : rs.length < 64) : (pad rs N).length = 64 * ((pad rs N).length / 64) ∧ (pad rs N).length ≤ 128 := by
  have : (pad rs N).length = rs.length + 1 + zeros rs.length + 8 := by simp [pad, be8]; omega
  unfold zeros at this
  omega
theorem be8_bs (n : Int) : Bs (be8 n) := by
  intro b hb
  simp only [be8, List.mem_cons, List.not_mem_nil, or_false] at hb
  rcases hb with rfl | rfl | rfl | rfl | rfl | rfl | rfl | rfl <;> omega
theorem pad_bs (rs : List Int) (N : Nat) (h : Bs rs) : Bs (pad rs N) := by
  intro b hb
  simp only [pad, List.mem_append] at hb
  rcases hb with ((hb | hb) | hb) | hb
  · exact h b hb
  · simp at hb; omega
  · have := (List.mem_replicate.1 hb).2; omega
  · exact be8_bs _ b hb
theorem Ar.cells8 {w : World} {b : Nat} {ty : TypeId} {x0 x1 x2 x3 x4 x5 x6 x7 : Int} (h : Ar w b ty [x0, x1, x2, x3, x4, x5, x6, x7]) :
    w.cell? ⟨b, 0, none⟩ = some (.int .u32 x0) ∧ w.cell? ⟨b, 1, none⟩ = some (.int .u32 x1) ∧ w.cell? ⟨b, 2, none⟩ = some (.int .u32 x2) ∧ w.cell? ⟨b, 3, none⟩ = some (.int .u32 x3) ∧ w.cell? ⟨b, 4, none⟩ = some (.int .u32 x4) ∧ w.cell? ⟨b, 5, none⟩ = some (.int .u32 x5) ∧ w.cell? ⟨b, 6, none⟩ = some (.int .u32 x6) ∧ w.cell? ⟨b, 7, none⟩ = some (.int .u32 x7) :=
  ⟨h.cell 0 (by simp), h.cell 1 (by simp), h.cell 2 (by simp), h.cell 3 (by simp), h.cell 4 (by simp), h.cell 5 (by simp), h.cell 6 (by simp), h.cell 7 (by simp)⟩
theorem Ar.frozen8 {w : World} {b : Nat} {ty : TypeId} {s : List Int} (h : Ar w b ty s) :
    w.frozen? ⟨b, 0, none⟩ = false ∧ w.frozen? ⟨b, 1, none⟩ = false ∧ w.frozen? ⟨b, 2, none⟩ = false ∧ w.frozen? ⟨b, 3, none⟩ = false ∧ w.frozen? ⟨b, 4, none⟩ = false ∧ w.frozen? ⟨b, 5, none⟩ = false ∧ w.frozen? ⟨b, 6, none⟩ = false ∧ w.frozen? ⟨b, 7, none⟩ = false :=
  ⟨h.frozen 0, h.frozen 1, h.frozen 2, h.frozen 3, h.frozen 4, h.frozen 5, h.frozen 6, h.frozen 7⟩
theorem ag_eight (x0 x1 x2 x3 x4 x5 x6 x7 : Int) : ag [x0, x1, x2, x3, x4, x5, x6, x7] = .agg #[.int .u32 x0, .int .u32 x1, .int .u32 x2, .int .u32 x3, .int .u32 x4, .int .u32 x5, .int .u32 x6, .int .u32 x7] := rfl
theorem padded_at (vr : Value) (rs : List Int) (N : Nat) (L : Int) (hL : L = (N : Int)) (w : World) (hS : Sl w vr rs) (hl : rs.length < 64) (hN : N ≤ 1000000000000000) :
    Calls Tryz.prog 141 #[vr, .int .i64 L] w fun e w' => ∃ ao m c, e = .returned (.slice ao m c) ∧ Row w' w.heap.size (.slice ao m c) (pad rs N) ∧ Kp [] w w' := by
  subst hL
  exact padded_any vr rs N w hS hl hN
theorem sha_parts (bs : List Int) (n N k : Nat) (s1 xs ys : List Int) (hN : N = bs.length) (hn : n = bs.length / 64) (h1 : s1 = blks n begin8 bs) (hx : s1 = xs) (hk : k = (pad (bs.drop (64 * n)) N).length / 64) (hy : blks k xs (pad (bs.drop (64 * n)) N) = ys) : lay8 ys = sha bs := by
  unfold sha fin8
  rw [show bs.length / 64 * 64 = 64 * n from by omega, ← hn, ← h1, hx, ← hN, ← hk, hy]
theorem blks_take (s bs : List Int) (m : Nat) : ∀ k, 64 * k ≤ m → blks k s (bs.take m) = blks k s bs
  | 0, _ => rfl
  | k + 1, h => by
    simp only [blks]
    rw [blks_take s bs m k (by omega), List.drop_take, List.take_take, Nat.min_eq_left (by omega)]
set_option maxRecDepth 100000 in
set_option maxHeartbeats 2000000 in
theorem sum_any (vb : Value) (bs : List Int) (w : World) (hS : Sl w vb bs) (hB : Bs bs) (hl : bs.length ≤ 1000000000000) (hG : Gl w) :
    Calls Tryz.prog 107 #[vb] w fun e w' => ∃ ao m c, e = .returned (.slice ao m c) ∧ Row w' w.heap.size (.slice ao m c) (sha bs) ∧ Kp [] w w' := by
  obtain ⟨i0, hi0, hz0⟩ := Tryz.zeroW
  have HB : Hid (Bs bs) := hB
  have HG : Hid (Gl w) := hG
  have hpos := hG.pos
  have HSl : Hid (Sl w vb bs) := hS
  obtain ⟨ab, cb, rfl, h1, h2, h3, _⟩ := hS
  obtain ⟨N, hN⟩ : ∃ N, N = bs.length := ⟨_, rfl⟩
  obtain ⟨n, hn⟩ : ∃ n, n = bs.length / 64 := ⟨_, rfl⟩
  have hrem : (N : Int) - (N : Int) % 64 = 64 * (n : Int) := by omega
  have hnn : 64 * n ≤ N := by omega
  have hcc : (N : Int) ≤ (cb : Int) := by omega
  rw [← hN] at h1 HSl ⊢
  have HN := hide hN
  have HNn := hide hn
  have hNl : N ≤ 1000000000000 := by omega
  clear hB hG hN hn hl
  go_enter Tryz.func107, Tryz.ntmps107
  go_wp2_with (first
    | (go_at_call 139; refine (beg_any _).mono ?_; rintro ee w1 ⟨rfl, K1⟩)
    | (refine wpList_alloc_ar (w := w1) rfl 188 rfl i0 _ hi0 hz0 ?_; intro w2 A2 K2 z2)
    | (refine wpList_store_ar rfl 188 (.tmp 3) (.tmp 5) rfl w1.heap.size rfl _ _ begin8 A2 rfl rfl Tryz.szW ?_; intro w3 A3 K3 z3))
  obtain ⟨b1, hb1⟩ : ∃ b, b = w1.heap.size := ⟨_, rfl⟩
  have hbw : w.heap.size ≤ b1 := by have := K1.size; omega
  rw [← hb1] at A2 A3 K3
  simp only [← hb1]
  have K13 : Kp [] w w3 := (K1.trans K2).then K3 (by simp; omega)
  have S3 := (unhide HSl).kept K13 (by simp)
  have T3 := hide ((S3.kept (kp_drew w3) (by simp)).take (64 * n) (by have := unhide HN; omega))
  have HG3 := hide (((unhide HG).kept K13 (by simp)).kept (kp_drew w3) (by simp))
  have AD : Ar w3.drew b1 188 begin8 := A3
  have HK13 := hide K13
  have hAD := hide AD
  have hS3 := hide S3
  clear A2 A3 K1 K2 K3 K13 z2 z3 AD S3 hb1
  have hcc2 : 64 * (n : Int) ≤ (cb : Int) := by omega
  have hcc3 : 64 * (n : Int) ≤ (N : Int) := by omega
  refine region_tail 4 Tryz.mixed (by kernel_rfl) ?_
  simp only [List.take_succ_cons, List.take_zero, List.drop_succ_cons, List.drop_zero]
  go_big_quiet_want
  refine quiet_load_ar 188 (.tmp 3) rfl b1 rfl _ begin8 8 103 (unhide hAD) Tryz.underlying188 Tryz.szW ?_
  simp only [Act.put, List.set_cons_zero, List.set_cons_succ, List.setIfInBounds_toArray]
  go_big_quiet_on
  repeat (first | go_big_quiet_skip | (go_big_quiet_want; go_big_quiet_op; go_big_quiet_on))
  refine wpQuiet_nil ?_
  have hbt : (bs.take (64 * n)).length = 64 * n := by have := unhide HN; simp; omega
  obtain ⟨s1, hs1⟩ : ∃ s1, s1 = blks n begin8 bs := ⟨_, rfl⟩
  have hs1' : blks n begin8 (bs.take (64 * n)) = s1 := by rw [blks_take _ _ _ _ (Nat.le_refl _), hs1]
  have hs18 : s1.length = 8 := by rw [hs1]; exact blks_len _ _ rfl n
  have hi1 : (Tryz.prog.info? 188).map (·.size) = some s1.length := by rw [hs18]; exact Tryz.szW
  have HS1 := hide hs1
  have HS1' := hide hs1'
  clear hs1 hs1'
  go_wp2_with (first
    | (go_at_call 140; refine (mixAll_any begin8 _ _ n _ rfl (unhide T3) hbt (by omega) ((unhide HB).take _) (unhide HG3)).mono ?_; rintro ee w4 ⟨rfl, K4⟩; rw [unhide HS1']; have A4 := (unhide hAD).kept K4 (by simp))
    | (refine wpList_store_ar rfl 188 (.tmp 3) (.tmp 16) rfl b1 rfl _ _ s1 A4 rfl (by rw [hs18]; rfl) hi1 ?_; intro w5 A5 K5 z5))
  have K15 : Kp [] w w5 := (((unhide HK13).trans (kp_drew w3)).trans K4).then K5 (by simp; omega)
  have hK := hide K15
  have hA5 := hide A5
  have S5 := hide ((unhide HSl).kept K15 (by simp))
  have HG5 := hide ((unhide HG).kept K15 (by simp))
  have hl5 := A5.lt
  clear A4 A5 K4 K5 z5 K15 T3 HG3 HK13 hAD hS3
  simp only [Act.put]
  obtain ⟨x0, x1, x2, x3, x4, x5, x6, x7, hx⟩ := eight hs18
  have A5 := unhide hA5
  rw [hx] at A5
  obtain ⟨p0, p1, p2, p3, p4, p5, p6, p7⟩ := A5.cells8
  have HX := hide hx
  have SD : Sl w5.drew (.slice ab N cb) bs := (unhide S5).kept (kp_drew w5) (by simp)
  have SDr := SD.drop (64 * n) (by have := unhide HN; omega)
  have hSD := hide SDr
  have hrl : (bs.drop (64 * n)).length < 64 := by have := unhide HN; simp; omega
  have hA5' := hide A5
  clear SD SDr A5 hx
  have hcut : cb = 64 * n ∨ ∃ a, ab = some a ∧ ¬ cb = 64 * n := by
    by_cases hc : cb = 64 * n
    · exact .inl hc
    · cases ab with
      | none => have := h3 rfl; omega
      | some a => exact .inr ⟨a, rfl, hc⟩
  rcases hcut with hc | ⟨a, rfl, hc⟩
  · rw [if_pos hc] at hSD
    obtain rfl : cb = 64 * n := hc
    obtain rfl : N = 64 * n := by omega
    rw [Nat.sub_self] at hSD
    have hpl := pad_len (bs.drop (64 * n)) (64 * n) hrl
    have hpb := hide (pad_bs (bs.drop (64 * n)) (64 * n) ((unhide HB).drop _))
    obtain ⟨k6, hk6⟩ : ∃ k, k = (pad (bs.drop (64 * n)) (64 * n)).length / 64 := ⟨_, rfl⟩
    rw [← hk6] at hpl
    have hk62 : k6 ≤ 2 := by omega
    have HPL := hide hpl
    have HK6 := hide hk6
    clear hpl hk6
    go_region_with (first
      | (go_at_call 141; refine (padded_at _ (bs.drop (64 * n)) (64 * n) _ (by omega) _ (unhide hSD) hrl (by omega)).mono ?_; rintro ee w6 ⟨ao6, m6, c6, rfl, R6, K6⟩; have A6 := (unhide hA5').kept ((kp_drew w5).trans K6) (by simp); obtain ⟨q0, q1, q2, q3, q4, q5, q6, q7⟩ := A6.cells8; have hR6 := hide R6; have hK6 := hide K6; have hA6 := hide A6; clear R6 K6 A6)
      | (go_at_call 140; refine (mixAll_any [x0, x1, x2, x3, x4, x5, x6, x7] _ _ k6 _ rfl (unhide hR6).sl (unhide HPL).1 (by omega) (unhide hpb) ((unhide HG5).kept ((kp_drew w5).trans (unhide hK6)) (by simp))).mono ?_; rintro ee w7 ⟨rfl, K7⟩; obtain ⟨y0, y1, y2, y3, y4, y5, y6, y7, hy⟩ := eight (blks_len [x0, x1, x2, x3, x4, x5, x6, x7] (pad (bs.drop (64 * n)) (64 * n)) rfl k6); rw [hy, ag_eight]; have A7 := (unhide hA6).kept K7 (by simp); obtain ⟨r0, r1, r2, r3, r4, r5, r6, r7⟩ := A7.cells8; obtain ⟨t0, t1, t2, t3, t4, t5, t6, t7⟩ := A7.frozen8; have HY := hide hy; have hA7 := hide A7; have hK7 := hide K7; clear hy A7 K7))
    all_goals have A8 : Ar _ b1 188 [y0, y1, y2, y3, y4, y5, y6, y7] := ((((((((unhide hA7).set 0 y0).set 1 y1).set 2 y2).set 3 y3).set 4 y4).set 5 y5).set 6 y6).set 7 y7
    all_goals have hfin := sha_parts bs n _ k6 s1 _ _ (unhide HN) (unhide HNn) (unhide HS1) (unhide HX) (unhide HK6) (unhide HY)
    all_goals have hrow : ∀ W9 ao m c, Row W9 w.heap.size (.slice ao m c) (lay8 [y0, y1, y2, y3, y4, y5, y6, y7]) → Row W9 w.heap.size (.slice ao m c) (sha bs) := fun _ _ _ _ h => hfin ▸ h
    all_goals have HR := hide hrow
    all_goals have HKW : Hid (Kp [b1] w5 w7) := ((((kp_drew w5).trans (unhide hK6)).trans (unhide hK7)).mono (by simp))
    all_goals have KW := (unhide hK).then ((((((((((unhide HKW).setCell (p := ⟨b1, 0, none⟩) (.inl (by simp)) (.int .u32 y0)).setCell (p := ⟨b1, 1, none⟩) (.inl (by simp)) (.int .u32 y1)).setCell (p := ⟨b1, 2, none⟩) (.inl (by simp)) (.int .u32 y2)).setCell (p := ⟨b1, 3, none⟩) (.inl (by simp)) (.int .u32 y3)).setCell (p := ⟨b1, 4, none⟩) (.inl (by simp)) (.int .u32 y4)).setCell (p := ⟨b1, 5, none⟩) (.inl (by simp)) (.int .u32 y5)).setCell (p := ⟨b1, 6, none⟩) (.inl (by simp)) (.int .u32 y6)).setCell (p := ⟨b1, 7, none⟩) (.inl (by simp)) (.int .u32 y7))) (by simp; omega)
    all_goals clear hrow hfin p0 p1 p2 p3 p4 p5 p6 p7 q0 q1 q2 q3 q4 q5 q6 q7 r0 r1 r2 r3 r4 r5 r6 r7 t0 t1 t2 t3 t4 t5 t6 t7
    all_goals (go_wp2_with (first
      | (refine wpList_load_ar rfl 188 (.tmp 3) rfl b1 rfl _ _ 8 103 A8 Tryz.underlying188 Tryz.szW ?_)
      | (go_at_call 142; refine (laid_any [y0, y1, y2, y3, y4, y5, y6, y7] _ rfl).mono ?_; rintro ee w9 ⟨ao9, m9, c9, rfl, R9, K9⟩)))
    all_goals go_ret
    all_goals exact ⟨ao9, m9, c9, rfl, unhide HR _ _ _ _ (owns_rebase R9 (fun k hk => Nat.le_trans KW.size (R9.own k hk))), KW.trans K9⟩
  · rw [if_neg hc] at hSD
    have hpl := pad_len (bs.drop (64 * n)) N hrl
    have hpb := hide (pad_bs (bs.drop (64 * n)) N ((unhide HB).drop _))
    obtain ⟨k6, hk6⟩ : ∃ k, k = (pad (bs.drop (64 * n)) N).length / 64 := ⟨_, rfl⟩
    rw [← hk6] at hpl
    have hk62 : k6 ≤ 2 := by omega
    have HPL := hide hpl
    have HK6 := hide hk6
    clear hpl hk6
    go_region_with (first
      | (go_at_call 141; refine (padded_any _ (bs.drop (64 * n)) N _ (unhide hSD) hrl (by omega)).mono ?_; rintro ee w6 ⟨ao6, m6, c6, rfl, R6, K6⟩; have A6 := (unhide hA5').kept ((kp_drew w5).trans K6) (by simp); obtain ⟨q0, q1, q2, q3, q4, q5, q6, q7⟩ := A6.cells8; have hR6 := hide R6; have hK6 := hide K6; have hA6 := hide A6; clear R6 K6 A6)
      | (go_at_call 140; refine (mixAll_any [x0, x1, x2, x3, x4, x5, x6, x7] _ _ k6 _ rfl (unhide hR6).sl (unhide HPL).1 (by omega) (unhide hpb) ((unhide HG5).kept ((kp_drew w5).trans (unhide hK6)) (by simp))).mono ?_; rintro ee w7 ⟨rfl, K7⟩; obtain ⟨y0, y1, y2, y3, y4, y5, y6, y7, hy⟩ := eight (blks_len [x0, x1, x2, x3, x4, x5, x6, x7] (pad (bs.drop (64 * n)) N) rfl k6); rw [hy, ag_eight]; have A7 := (unhide hA6).kept K7 (by simp); obtain ⟨r0, r1, r2, r3, r4, r5, r6, r7⟩ := A7.cells8; obtain ⟨t0, t1, t2, t3, t4, t5, t6, t7⟩ := A7.frozen8; have HY := hide hy; have hA7 := hide A7; have hK7 := hide K7; clear hy A7 K7))
    all_goals have A8 : Ar _ b1 188 [y0, y1, y2, y3, y4, y5, y6, y7] := ((((((((unhide hA7).set 0 y0).set 1 y1).set 2 y2).set 3 y3).set 4 y4).set 5 y5).set 6 y6).set 7 y7
    all_goals have hfin := sha_parts bs n _ k6 s1 _ _ (unhide HN) (unhide HNn) (unhide HS1) (unhide HX) (unhide HK6) (unhide HY)
    all_goals have hrow : ∀ W9 ao m c, Row W9 w.heap.size (.slice ao m c) (lay8 [y0, y1, y2, y3, y4, y5, y6, y7]) → Row W9 w.heap.size (.slice ao m c) (sha bs) := fun _ _ _ _ h => hfin ▸ h
    all_goals have HR := hide hrow
    all_goals have HKW : Hid (Kp [b1] w5 w7) := ((((kp_drew w5).trans (unhide hK6)).trans (unhide hK7)).mono (by simp))
    all_goals have KW := (unhide hK).then ((((((((((unhide HKW).setCell (p := ⟨b1, 0, none⟩) (.inl (by simp)) (.int .u32 y0)).setCell (p := ⟨b1, 1, none⟩) (.inl (by simp)) (.int .u32 y1)).setCell (p := ⟨b1, 2, none⟩) (.inl (by simp)) (.int .u32 y2)).setCell (p := ⟨b1, 3, none⟩) (.inl (by simp)) (.int .u32 y3)).setCell (p := ⟨b1, 4, none⟩) (.inl (by simp)) (.int .u32 y4)).setCell (p := ⟨b1, 5, none⟩) (.inl (by simp)) (.int .u32 y5)).setCell (p := ⟨b1, 6, none⟩) (.inl (by simp)) (.int .u32 y6)).setCell (p := ⟨b1, 7, none⟩) (.inl (by simp)) (.int .u32 y7))) (by simp; omega)
    all_goals clear hrow hfin p0 p1 p2 p3 p4 p5 p6 p7 q0 q1 q2 q3 q4 q5 q6 q7 r0 r1 r2 r3 r4 r5 r6 r7 t0 t1 t2 t3 t4 t5 t6 t7
    all_goals (go_wp2_with (first
      | (refine wpList_load_ar rfl 188 (.tmp 3) rfl b1 rfl _ _ 8 103 A8 Tryz.underlying188 Tryz.szW ?_)
      | (go_at_call 142; refine (laid_any [y0, y1, y2, y3, y4, y5, y6, y7] _ rfl).mono ?_; rintro ee w9 ⟨ao9, m9, c9, rfl, R9, K9⟩)))
    all_goals go_ret
    all_goals exact ⟨ao9, m9, c9, rfl, unhide HR _ _ _ _ (owns_rebase R9 (fun k hk => Nat.le_trans KW.size (R9.own k hk))), KW.trans K9⟩
end Go.Proofs.YtillhpgdlmeajaaGreatDoor

/-
  The contract of the program's Hex.
-/
namespace Go.Proofs.YtillhpgdlmeajaaGreatDoor
open Go.RowKit
/-- append at a step of a region that draws its order. -/
theorem step_append_row {w : World} {ops : Array Oper} {o : Oper} {a : Act} {K : Act → World → Prop} {Q : Exit → Act → World → Prop} {E : Prop} (hgd : o.guard = none) (s x : Operand)
    (ho : o.op = .call { callee := .builtin .append, args := #[s, x], argTypes := #[22, 22] }) (base : Nat) (v : Value) (bs : List Int) (hs : a.eval s = v) (hrow : Row w base v bs)
    (vx : Value) (cs : List Int) (hx : a.eval x = vx) (hS : Sl w vx cs) (hb : bs.length + cs.length ≤ 140737488355328) (hbase : base ≤ w.heap.size)
    (h : ∀ ao m c w', Row w' base (.slice ao m c) (bs ++ cs) → RStep w v w' (.slice ao m c) → K (a.put o.dst (.slice ao m c)) w') :
    if Region.wanted o (yielded ops a.tmps) = true then Oper.wp Tryz.prog o a w K Q else E := by
  have hw : Region.wanted o (yielded ops a.tmps) = true := by simp [Region.wanted, hgd]
  rw [if_pos hw]
  obtain ⟨i0, hi0, hz0, hz1, hz2⟩ := info_parts Tryz.info5
  obtain ⟨av, cv, rfl⟩ := hrow.shape
  obtain ⟨ax, cx, rfl, h1, h2, h3, h4⟩ := hS
  cases ax with
  | none =>
    have : cs = [] := List.eq_nil_of_length_eq_zero (by have := h3 rfl; omega)
    subst this
    obtain rfl := h3 rfl
    have hrun := run_append_owned_none (P := Tryz.prog) (w := w) base 22 o.type 5 i0 1 Tryz.underlying22 hi0 _ _ _ hrow
    have hK := h av bs.length cv w
    simp only [List.append_nil] at hK
    unfold Oper.wp
    simp [execOp, ho, resolve, invoke, builtin, hs, hx, hrun, Result.andThen]
    exact hK hrow (RStep.refl _ _)
  | some a' =>
    obtain ⟨v', w1, hr, hown1, hgrow, _, hat⟩ := run_append_own_at (P := Tryz.prog) w base 22 o.type 5 i0 (.int .u8 0) 1 1 Tryz.underlying22 hi0 hz0 hz1 hz2 rfl (by decide) _ bs.length (bs.map (Value.int .u8)) hrow a' cs.length cx (cs.map (Value.int .u8)) (by simp) (h4 a' rfl) (by simp [Value.oneCell']) (by unfold maxLen; omega) (by omega) hbase
    have R := row_step (new := cs) (Kp.refl [] w) hown1 hgrow hat
    obtain ⟨ao', c', hv⟩ := R.1.shape
    subst hv
    have hK := h ao' _ c' w1 R.1 R.2
    unfold Oper.wp execOp
    simp only [ho, resolve, invoke, builtin, Sem.run_bind, Sem.run_pure, Result.andThen_ok, List.map_toArray, List.map_cons, List.map_nil, hs, hx, hr]
    exact hK
def digs : ByteArray := ⟨#[48, 49, 50, 51, 52, 53, 54, 55, 56, 57, 97, 98, 99, 100, 101, 102]⟩
/-- The sign of a half byte. -/
def sg (i : Int) : Int := (digs.data.getD i.toNat 0).toNat
end Go.Proofs.YtillhpgdlmeajaaGreatDoor

/-
  Slices of slices of bytes: how they are read.
-/
namespace Go.Proofs.YtillhpgdlmeajaaGreatDoor
open Go.RowKit
/-- v is a slice of slices: each with its value and its bytes. -/
def Lists (w : World) (v : Value) (l : List (Value × List Int)) : Prop :=
  ∃ ao c, v = .slice ao l.length c ∧ l.length ≤ 9223372036854775807 ∧ ∀ i (h : i < l.length), ∃ b off, ao = some ⟨b, off, none⟩ ∧ w.cell? ⟨b, off + i, none⟩ = some l[i].1 ∧ Sl w l[i].1 l[i].2 ∧ Bs l[i].2
theorem Lists.kept {w w' : World} {v : Value} {l : List (Value × List Int)} (h : Lists w v l) (k : Kp [] w w') : Lists w' v l := by
  obtain ⟨ao, c, rfl, h1, h2⟩ := h
  refine ⟨ao, c, rfl, h1, fun i hi => ?_⟩
  obtain ⟨b, off, e, h3, h4, h5⟩ := h2 i hi
  exact ⟨b, off, e, k.cell h3 (by simp), h4.kept k (by simp), h5⟩
theorem lists_nil (w : World) (ao : Option Addr) (c : Nat) : Lists w (.slice ao 0 c) [] := ⟨ao, c, rfl, by simp, fun i hi => by cases hi⟩
theorem lists_of_block {w : World} {g : Nat} {l : List (Value × List Int)} {t : TypeId} {fr : Nat × Nat} (hg : w.heap[g]? = some (.cells (l.map (·.1)).toArray t fr)) (hl : l.length ≤ 1000) (hS : ∀ x ∈ l, Sl w x.1 x.2 ∧ Bs x.2) : Lists w (.slice (some ⟨g, 0, none⟩) l.length l.length) l := by
  refine ⟨_, _, rfl, by omega, fun i hi => ⟨g, 0, rfl, ?_, (hS _ (List.getElem_mem hi)).1, (hS _ (List.getElem_mem hi)).2⟩⟩
  rw [cell_of_row w g (0 + i) _ t fr hg]
  simp [List.getElem?_eq_getElem hi]
/-- all bytes of the parts, one behind the other. -/
def cat (l : List (Value × List Int)) : List Int := (l.map (·.2)).flatten
theorem cat_take (l : List (Value × List Int)) (k : Nat) (h : k < l.length) : cat (l.take (k + 1)) = cat (l.take k) ++ l[k].2 := by
  unfold cat
  rw [List.take_succ_eq_append_getElem h, List.map_append, List.flatten_append]
  simp
theorem cat_len (l : List (Value × List Int)) (m : Nat) (hm : ∀ x ∈ l, x.2.length ≤ m) : (cat l).length ≤ l.length * m := by
  unfold cat
  induction l with
  | nil => simp
  | cons a l ih =>
    have h1 := ih (fun x hx => hm x (by simp [hx]))
    have h2 := hm a (by simp)
    simp only [List.map_cons, List.flatten_cons, List.length_append, List.length_cons]
    rw [Nat.add_mul]
    omega
theorem cat_bs (l : List (Value × List Int)) (hB : ∀ x ∈ l, Bs x.2) : Bs (cat l) := by
  intro b hb
  simp only [cat, List.mem_flatten, List.mem_map] at hb
  obtain ⟨y, ⟨x, hx, rfl⟩, hb⟩ := hb
  exact hB x hx b hb
theorem Lists.bs {w : World} {v : Value} {l : List (Value × List Int)} (h : Lists w v l) : ∀ x ∈ l, Bs x.2 := by
  obtain ⟨_, _, _, _, h2⟩ := h
  intro x hx
  obtain ⟨i, hi, rfl⟩ := List.getElem_of_mem hx
  obtain ⟨_, _, _, _, _, h5⟩ := h2 i hi
  exact h5
/-- a block of bytes that was made whole is a row. -/
theorem row_of_block {w : World} {base g n : Nat} {bs : List Int} (hb : base ≤ g) (h : w.heap[g]? = some (.cells (bs.map (Value.int .u8)).toArray 5 (0, 0))) (hn : bs.length = n) (hm : n ≤ maxLen) : Row w base (.slice (some ⟨g, 0, none⟩) n n) bs := by
  subst hn
  exact ⟨by simp, .inr ⟨g, bs.length, _, rfl, hb, h, Nat.le_refl _, hm, by simp, by rw [Nat.mul_one]; exact List.take_of_length_le (by simp)⟩⟩
end Go.Proofs.YtillhpgdlmeajaaGreatDoor

/-
  The contract of the law package's known: two sums that are written down.
-/
namespace Go.Proofs.YtillhpgdlmeajaaGreatDoor
open Go.RowKit
theorem sha_len (bs : List Int) : (sha bs).length = 32 := by
  unfold sha fin8
  rw [lay8_len, blks_len _ _ (blks_len _ _ rfl _)]
theorem lay8_bs (s : List Int) : Bs (lay8 s) := by
  intro b hb
  unfold lay8 at hb
  obtain ⟨x, _, hx⟩ := List.mem_flatMap.1 hb
  simp only [List.mem_cons, List.not_mem_nil, or_false] at hx
  rcases hx with rfl | rfl | rfl | rfl <;> omega
theorem sha_bs (bs : List Int) : Bs (sha bs) := lay8_bs _
theorem sum_at (vb : Value) (bs r : List Int) (hr : r = sha bs) (w : World) (hS : Sl w vb bs) (hB : Bs bs) (hl : bs.length ≤ 1000000000000) (hG : Gl w) :
    Calls Tryz.prog 107 #[vb] w fun e w' => ∃ ao m c, e = .returned (.slice ao m c) ∧ Row w' w.heap.size (.slice ao m c) r ∧ Kp [] w w' := by
  subst hr
  exact sum_any vb bs w hS hB hl hG
end Go.Proofs.YtillhpgdlmeajaaGreatDoor

/-
  The contracts of the program's Tagged and Same.
-/
namespace Go.Proofs.YtillhpgdlmeajaaGreatDoor
open Go.RowKit
set_option maxRecDepth 100000 in
set_option maxHeartbeats 1000000 in
theorem tagged_any (tag : Int) (vl : Value) (l : List (Value × List Int)) (r : List Int) (hr : r = sha (tag :: cat l)) (w : World) (hL : Lists w vl l) (h0 : 0 ≤ tag) (h1 : tag ≤ 255) (hn : l.length ≤ 100000) (hm : ∀ x ∈ l, x.2.length ≤ 1000000) (hG : Gl w) :
    Calls Tryz.prog 144 #[.int .u8 tag, vl] w fun e w' => ∃ ao m c, e = .returned (.slice ao m c) ∧ Row w' w.heap.size (.slice ao m c) r ∧ Kp [] w w' := by
  have HG := hide hG
  have hBl := hL.bs
  have HBl := hide hBl
  have HR := hide hr
  have HM := hide hm
  obtain ⟨al, cl, rfl, hll, hcell⟩ := hL
  have hlen : (l.length : Int) ≤ 100000 := by omega
  have HC := hide hcell
  clear hcell hG hr hm hBl hll
  go_enter Tryz.func144, Tryz.ntmps144
  go_wp2_with fail
  have R0 : Row (w.alloc (.cells #[.int .u8 tag] 5)) w.heap.size (.slice (some ⟨w.heap.size, 0, none⟩) 1 1) [tag] := row_of_block (bs := [tag]) (Nat.le_refl _) (heap_alloc_new w _) rfl (by simp [maxLen])
  have hR0 := hide R0
  clear R0
  go_loopw [5, 12] (fun v i wr => ∃ (k m c : Nat) (ao : Option Addr), k ≤ l.length ∧ v = .slice ao m c ∧ i = .int .i64 k ∧ Row wr w.heap.size v (tag :: cat (l.take k)) ∧ Kp [] w wr) (fun _ i _ => l.length - (intOf i).toNat)
  case atStart => exact ⟨0, 1, 1, some ⟨w.heap.size, 0, none⟩, Nat.zero_le _, rfl, rfl, by simpa [cat] using unhide hR0, (Kp.refl [] w).alloc _⟩
  case round =>
    obtain ⟨k, m, c, ao, hk, rfl, rfl, Rr, Kr⟩ := hrel
    by_cases hlt : k < l.length
    · have hlt2 : (k : Int) < (l.length : Int) := by omega
      obtain ⟨b, off, rfl, hc, hS, hB⟩ := unhide HC k hlt
      have hcl : (cat (l.take k)).length ≤ 100000 * 1000000 := by
        have e1 := cat_len (l.take k) 1000000 (fun x hx => unhide HM x (List.mem_of_mem_take hx))
        have e2 : (l.take k).length ≤ 100000 := by simp; omega
        exact Nat.le_trans e1 (Nat.mul_le_mul_right _ e2)
      have hxl := unhide HM l[k] (List.getElem_mem hlt)
      have hE := cat_take l k hlt
      obtain ⟨x, hx⟩ : ∃ x, x = l[k] := ⟨_, rfl⟩
      rw [← hx] at hc hS hxl hE
      have hcw := Kr.cell hc (by simp)
      have hSw := hS.kept Kr (by simp)
      obtain ⟨ax, cx, hxv⟩ : ∃ ax cx, x.1 = .slice ax x.2.length cx := by obtain ⟨ax, cx, e, _⟩ := hS; exact ⟨ax, cx, e⟩
      have HE := hide hE
      rw [hxv] at hSw hcw
      have HSw := hide hSw
      obtain ⟨nx, hnx⟩ : ∃ nx, nx = x.2.length := ⟨_, rfl⟩
      rw [← hnx] at HSw hcw
      clear hE hx hc hS hB hSw hxv HC hnx
      go_wp2_with (at_builtin; refine wpList_append_row rfl (.tmp 16) (.tmp 17) rfl w.heap.size _ _ rfl Rr _ x.2 rfl (unhide HSw) (by simp only [List.length_cons]; omega) Kr.size ?_; intro ao2 m2 c2 w2 r2 s2)
      go_roundw
      case rel =>
        refine ⟨k + 1, m2, c2, ao2, by omega, rfl, by go_num, ?_, Rr.step Kr s2⟩
        rw [unhide HE]; exact r2
      case measure => simp [intOf]; omega
    · obtain rfl : k = l.length := by omega
      rw [List.take_length] at Rr
      have hcl := cat_len l 1000000 (unhide HM)
      have hmul := Nat.mul_le_mul_right 1000000 hn
      have hRr := hide Rr
      have hKr := hide Kr
      have hBt : Hid (Bs (tag :: cat l)) := fun b hb => by
        rcases List.mem_cons.1 hb with rfl | hb
        · exact ⟨h0, h1⟩
        · exact cat_bs l (unhide HBl) b hb
      clear Rr Kr HC
      go_wp2_with (go_at_call 107; refine (sum_at _ (tag :: cat l) r (unhide HR) _ (unhide hRr).sl (unhide hBt) (by simp only [List.length_cons]; omega) ((unhide HG).kept (unhide hKr) (by simp))).mono ?_; rintro ee w3 ⟨ao3, m3, c3, rfl, R3, K3⟩)
      go_ret
      exact ⟨ao3, m3, c3, rfl, owns_rebase R3 (fun i hi => Nat.le_trans (unhide hKr).size (R3.own i hi)), (unhide hKr).trans K3⟩
end Go.Proofs.YtillhpgdlmeajaaGreatDoor

/-
  What chapter 4 fixes, as plain functions of lists of numbers.
-/
namespace Go.Proofs.YtillhpgdlmeajaaGreatDoor
open Go.RowKit
def be4 (n : Int) : List Int := [n / 16777216 % 256, n / 65536 % 256, n / 256 % 256, n % 256]
theorem be4_bs (n : Int) : Bs (be4 n) := by
  intro b hb
  simp only [be4, List.mem_cons, List.not_mem_nil, or_false] at hb
  rcases hb with rfl | rfl | rfl | rfl <;> omega
def secP (seed : List Int) (key bit side : Int) : List Int := sha (10 :: (seed ++ (be4 key ++ [bit % 256, side % 256])))
def shnP (seed : List Int) (key bit side : Int) : List Int := sha (11 :: secP seed key bit side)
def digP (msg : List Int) : Int := val ((sha (13 :: msg)).take 4)
/-- which side of bit j a digest has. -/
def sdP (d : Int) (j : Nat) : Nat := (d / 2 ^ (31 - j) % 2).toNat
theorem sdP_lt (d : Int) (j : Nat) : sdP d j < 2 := by unfold sdP; omega
/-- the part at place i of a key: its secret where c says so. -/
def ptP (seed : List Int) (key : Int) (c : Nat → Nat → Bool) (i : Nat) : List Int :=
  if c (i / 2) (i % 2) then secP seed key (i / 2 : Nat) (i % 2 : Nat) else shnP seed key (i / 2 : Nat) (i % 2 : Nat)
def ptsP (seed : List Int) (key : Int) (c : Nat → Nat → Bool) (n : Nat) : List (List Int) := (List.range n).map (ptP seed key c)
theorem ptsP_succ (seed : List Int) (key : Int) (c : Nat → Nat → Bool) (n : Nat) : ptsP seed key c (n + 1) = ptsP seed key c n ++ [ptP seed key c n] := by
  simp [ptsP, List.range_succ]
def noneC (_ _ : Nat) : Bool := false
def digC (d : Int) (j s : Nat) : Bool := sdP d j == s
def pubP (seed : List Int) (key : Int) : List Int := sha (12 :: (ptsP seed key noneC 64).flatten)
def sgnP (seed : List Int) (key : Int) (d : Int) : List (List Int) := ptsP seed key (digC d) 64
/-- is this what a signature's parts look like? -/
def areP (l : List (List Int)) : Bool := l.length == 64 && l.all (fun x => x.length == 32)
theorem secP_len (seed : List Int) (key bit side : Int) : (secP seed key bit side).length = 32 := sha_len _
theorem shnP_len (seed : List Int) (key bit side : Int) : (shnP seed key bit side).length = 32 := sha_len _
theorem ptP_len (seed : List Int) (key : Int) (c : Nat → Nat → Bool) (i : Nat) : (ptP seed key c i).length = 32 := by
  unfold ptP; split
  · exact secP_len _ _ _ _
  · exact shnP_len _ _ _ _
theorem ptP_bs (seed : List Int) (key : Int) (c : Nat → Nat → Bool) (i : Nat) : Bs (ptP seed key c i) := by
  unfold ptP secP shnP; split <;> exact sha_bs _
theorem pubP_len (seed : List Int) (key : Int) : (pubP seed key).length = 32 := sha_len _
theorem ptsP_len (seed : List Int) (key : Int) (c : Nat → Nat → Bool) (n : Nat) : (ptsP seed key c n).length = n := by simp [ptsP]
theorem digP_bd (msg : List Int) : 0 ≤ digP msg ∧ digP msg ≤ 4294967295 := by
  have h := val_bd ((sha (13 :: msg)).take 4) (fun b hb => sha_bs _ b (List.mem_of_mem_take hb))
  rw [show ((sha (13 :: msg)).take 4).length = 4 by simp [sha_len]] at h
  unfold digP
  omega
end Go.Proofs.YtillhpgdlmeajaaGreatDoor

/-
  The contracts of the law package's helpers Roomy, Same and Intact at bytes over this seat's program.
-/
namespace Go.Proofs.YtillhpgdlmeajaaGreatDoor
open Go.RowKit
theorem Sl.spot {w : World} {ao : Option Addr} {n c : Nat} {bs : List Int} (h : Sl w (.slice ao n c) bs) (h0 : 0 < n) :
    ∃ b off, ao = some ⟨b, off, none⟩ ∧ n = bs.length ∧ ∀ k (hk : k < bs.length), w.cell? ⟨b, off + k, none⟩ = some (.int .u8 bs[k]) := by
  obtain ⟨ao', c', he, h1, h2, h3, h4⟩ := h
  injection he with e1 e2 e3
  subst e1 e2 e3
  cases ao with
  | none => have := h3 rfl; omega
  | some a =>
    obtain ⟨b, off, spot⟩ := a
    have hc := h4 _ rfl 0 (.int .u8 bs[0]) (by simp [List.getElem?_eq_getElem h0])
    have hspot : spot = none := by simpa [Addr.add] using World.cell?_spot hc
    subst hspot
    refine ⟨b, off, rfl, rfl, fun k hk => ?_⟩
    have := h4 _ rfl k (.int .u8 bs[k]) (by simp [List.getElem?_eq_getElem hk])
    rwa [Addr.add_lit] at this
end Go.Proofs.YtillhpgdlmeajaaGreatDoor

/-
  Helpers of the laws: Cut, Within; how an argument that is a row of bytes is read; what the laid table gives.
-/
namespace Go.Proofs.YtillhpgdlmeajaaGreatDoor
open Go.ChangeShapes Go.WideShapes Go.ChangeAt Go.RowKit
open Go.Deep
section
variable {H : Type} {enc : TypeId × Value → H} {w : World}
end
abbrev laid1 : List (String × DataW Unit) := [("broadsheet/hash.roundWords", Rows.laid_broadsheet_hash_roundWords)]
theorem own : ownKnob Tryz.prog.godebug = none := by kernel_rfl
set_option maxRecDepth 100000 in
theorem door_met (os : Os) (args : Array Value) : laidMetH Tryz.prog laid1 ((World.doorLaid Tryz.prog 400 os).forCall (fun _ _ => 0) ⟨#[], args, []⟩).memory :=
  laidMetH_of_parts3 (fuel := 8) (laidMet_of_run' 8 (by kernel_rfl) (by kernel_rfl)) (by kernel_rfl) (by kernel_rfl)
set_option maxRecDepth 100000 in
theorem gl_of_laid {W : World} (h : laidMetH Tryz.prog laid1 W) : Gl W := by
  rw [MakeChecks.laidMetH_plain _ _ _ (by kernel_rfl)] at h
  have h2 : laidMet Tryz.prog [("broadsheet/hash.roundWords", Lib.tabData .u32 consts)] W := h
  have hT := Lib.tabIs_of_head (P := Tryz.prog) (g := 0) (t := 163) (e := 103) (n := 64) (by kernel_rfl) (by kernel_rfl) Tryz.underlying163 Tryz.underlying103 (by kernel_rfl) (by kernel_rfl) h2
  have hR : Rw W := by
    intro k hk
    exact hT.cell (by kernel_rfl) k (by simpa [consts] using hk)
  exact ⟨hR, trivial, World.block_lt_of_cell? _ _ (hR 0 (by omega))⟩
end Go.Proofs.YtillhpgdlmeajaaGreatDoor

/-
  Slices of ints, and rows of slices that a call owns.
-/
namespace Go.Proofs.YtillhpgdlmeajaaGreatDoor
open Go.ChangeShapes Go.WideShapes Go.ChangeAt Go.RowKit
open Go.Deep
/-- v is a slice that reads as these ints. -/
def Ints (w : World) (v : Value) (l : List Int) : Prop :=
  ∃ ao c, v = .slice ao l.length c ∧ l.length ≤ maxLen ∧ (∀ x ∈ l, -9223372036854775808 ≤ x ∧ x ≤ 9223372036854775807) ∧ ∀ i (h : i < l.length), ∃ a, ao = some a ∧ w.cell? (a.add i) = some (.int .i64 l[i])
theorem Ints.kept {w w' : World} {v : Value} {l : List Int} (h : Ints w v l) (k : Kp [] w w') : Ints w' v l := by
  obtain ⟨ao, c, rfl, h1, h0, h2⟩ := h
  refine ⟨ao, c, rfl, h1, h0, fun i hi => ?_⟩
  obtain ⟨a, e, h3⟩ := h2 i hi
  exact ⟨a, e, k.cell h3 (by simp)⟩
section
variable {H : Type} {enc : TypeId × Value → H} {w : World}
end
theorem Tryz.infoSl : (Tryz.prog.info? 22).map (fun i => (i.zero, i.size, i.bytes)) = some (some (.slice none 0 0), 1, 24) := by kernel_rfl
/-- The row v of values of slices, of the call's own from base on. -/
def RowV (w : World) (base : Nat) (v : Value) (xs : List Value) : Prop := w.ownsRow base 22 1 v xs.length xs
theorem RowV.shape {w : World} {base : Nat} {v : Value} {xs : List Value} (h : RowV w base v xs) : ∃ ao c, v = .slice ao xs.length c := owns_shape h
theorem RowV.own {w : World} {base : Nat} {v : Value} {xs : List Value} (h : RowV w base v xs) : ∀ k, v.ownBlock = some k → base ≤ k := by
  intro k hk
  rcases h.2 with ⟨rfl, _⟩ | ⟨g, cap, cur, rfl, hb, _⟩
  · cases hk
  · cases hk; exact hb
theorem RowV.step {w w1 w2 : World} {v v' : Value} {xs : List Value} (h : RowV w1 w.heap.size v xs) (k : Kp [] w w1) (s : RStep w1 v w2 v') : Kp [] w w2 :=
  k.then s.1 (fun i hi => .inr (h.own i (by simpa using hi)))
theorem RowV.len {w : World} {base m c : Nat} {ao : Option Addr} {xs : List Value} (h : RowV w base (.slice ao m c) xs) : m = xs.length := by
  obtain ⟨_, _, e⟩ := h.shape; cases e; rfl
theorem RowV.kept {w w' : World} {base : Nat} {v : Value} {xs : List Value} {S : List Nat} (h : RowV w base v xs) (k : Kp S w w') (hv : ∀ i, v.ownBlock = some i → i ∉ S) : RowV w' base v xs := k.owns h hv
/-- append of slices that lie in a block of their own, onto such a row. -/
theorem wpList_append_rowv {w : World} {ops : Array Oper} {rest : List Oper} {o : Oper} {a : Act} {Q : Exit → Act → World → Prop} (hgd : o.guard = none) (s x : Operand)
    (ho : o.op = .call { callee := .builtin .append, args := #[s, x], argTypes := #[33, 33] }) (base : Nat) (v : Value) (xs : List Value) (hs : a.eval s = v) (hrow : RowV w base v xs)
    (ad : Addr) (c : Nat) (ys : List Value) (hx : a.eval x = .slice (some ad) ys.length c) (hy : ∀ j u, ys[j]? = some u → w.cell? (ad.add j) = some u) (h1 : ∀ u ∈ ys, u.oneCell' = true) (hb : xs.length + ys.length ≤ 1000000000) (hbase : base ≤ w.heap.size)
    (h : ∀ ao m c w', RowV w' base (.slice ao m c) (xs ++ ys) → RStep w v w' (.slice ao m c) → wpList Tryz.prog ops Q rest (a.put o.dst (.slice ao m c)) w') : wpList Tryz.prog ops Q (o :: rest) a w := by
  obtain ⟨i0, hi0, hz0, hz1, hz2⟩ := info_parts Tryz.infoSl
  obtain ⟨av, cv, rfl⟩ := hrow.shape
  refine wpList_append_own_at w hgd s x 33 ho base 22 i0 (.slice none 0 0) 1 24 Tryz.underlying33 hi0 hz0 hz1 hz2 rfl (by decide) _ xs.length xs hs hrow ad ys.length c ys hx (by simp) hy h1 (by unfold maxLen; omega) (by omega) hbase ?_
  intro v' w1 hown hgrow _ hat
  have R : RowV w1 base v' (xs ++ ys) := by unfold RowV; rw [List.length_append]; exact hown
  obtain ⟨ao', c', hv⟩ := R.shape
  subst hv
  refine h ao' _ c' w1 R ⟨(Kp.refl _ w).grown hgrow (fun k hk => .inl (by simp [hk])), fun k hk => ?_⟩
  rcases hat with e | e
  · exact .inl (e ▸ hk)
  · rw [e] at hk; cases hk; exact .inr (Nat.le_refl _)
/-- Such a row as a slice of slices. -/
theorem lists_of_rowv {w : World} {base : Nat} {v : Value} {l : List (Value × List Int)} (h : RowV w base v (l.map (·.1))) (hl : l.length ≤ 1000) (hS : ∀ x ∈ l, Sl w x.1 x.2 ∧ Bs x.2) : Lists w v l := by
  rcases h.2 with ⟨rfl, h0⟩ | ⟨g, cap, cur, rfl, _⟩
  · have : l = [] := List.eq_nil_of_length_eq_zero (by simpa using h0)
    subst this
    exact lists_nil w none 0
  · refine ⟨some ⟨g, 0, none⟩, cap, by simp, by omega, fun i hi => ⟨g, 0, rfl, ?_, (hS _ (List.getElem_mem hi)).1, (hS _ (List.getElem_mem hi)).2⟩⟩
    have := h.cells (g := g) rfl i l[i].1 (by simp [List.getElem?_eq_getElem hi])
    simpa [Addr.add_lit] using this
end Go.Proofs.YtillhpgdlmeajaaGreatDoor

/-
  Regions that draw their order and whose operations only make memory: of each operation a predicate tells what it yields, and stays true as memory grows; one look at each operation serves every order.
-/
namespace Go.Proofs.YtillhpgdlmeajaaGreatDoor
open Go.RowKit
abbrev Tell := Value → World → Prop
/-- A predicate that stays true as memory grows. -/
def Tell.stable (R : Tell) : Prop := ∀ v w w', Kp [] w w' → R v w → R v w'
def grown (P : Program) (w : World) (R : Tell) : Result Next → Prop
  | .ok (.value v) w' => Kp [] w w' ∧ R v w'
  | .ok .skip w' => Kp [] w w' ∧ R undef w'
  | .ok (.enter f args) w' => Calls P f args w' fun e w'' => ∃ v, e = .returned v ∧ Kp [] w w'' ∧ R v w''
  | _ => False
/-- What one operation must do. -/
def wants (P : Program) (ops : Array Oper) (o : Oper) (a : Act) (w : World) (R : Tell) : Prop :=
  if Region.wanted o (yielded ops a.tmps) then grown P w R ((execOp a.eval o).run P w) else R undef w
/-- What is known of the slots that an operation looks at: what their writer tells, or what stood there. -/
def Knows (a0 : Act) (Rs : List Tell) (a : Act) (w : World) : List (Tmp × Option Nat) → Prop
  | [] => True
  | (t, some j) :: ks => (Rs.getD j (fun _ _ => True)) (a.eval (.tmp t)) w ∧ Knows a0 Rs a w ks
  | (t, none) :: ks => a.eval (.tmp t) = a0.eval (.tmp t) ∧ Knows a0 Rs a w ks
def StepsR (P : Program) (ops : Array Oper) (a0 : Act) (w0 : World) (Rs : List Tell) : List Oper → List (List (Tmp × Option Nat)) → List Tell → Prop
  | o :: l, ks :: kss, R :: rs => (∀ a w, Kp [] w0 w → Knows a0 Rs a w ks → wants P ops o a w R) ∧ StepsR P ops a0 w0 Rs l kss rs
  | [], [], [] => True
  | _, _, _ => False
def FinR (Q : Exit → Act → World → Prop) : List Oper → List Tell → Act → World → Prop
  | o :: l, R :: rs, a, w => ∀ v, R v w → FinR Q l rs (a.put o.dst v) w
  | _, _, a, w => Q .normal a w
/-- The edges that bind in every mode. -/
def odeps (o : Oper) : List Nat := (o.after.toList.filter (Region.binds .any)).map (·.on)
def dstAt (l : List Oper) (j : Nat) : Option Tmp := (l[j]?).bind (·.dst)
def lookOk (l : List Oper) (i : Nat) (o : Oper) : Tmp × Option Nat → Bool
  | (t, some j) => (odeps o).contains j && dstAt l j == some t
  | (t, none) => (List.range l.length).all fun k => k == i || dstAt l k != some t || ((l[k]?).map fun ok => (odeps ok).contains i).getD false
def regionOk (l : List Oper) (kss : List (List (Tmp × Option Nat))) (n : Nat) : Bool :=
  (List.range l.length).all fun i =>
    match l[i]?, kss[i]? with
    | some o, some ks => (odeps o).all (· < i) && ks.all (lookOk l i o) && (match o.dst with | some d => decide (d < n) && (List.range i).all (fun k => dstAt l k != some d) | none => false)
    | _, _ => false
section
variable {P : Program} {l : List Oper} {Q : Exit → Act → World → Prop} {a0 : Act} {w0 : World} {Rs : List Tell} {kss : List (List (Tmp × Option Nat))} {n i : Nat} {listed : Array Bool} {a : Act} {w w' : World} {o : Oper} {R : Tell} {v : Value}
theorem StepsR.at (ops : Array Oper) : ∀ {l : List Oper} {kss : List (List (Tmp × Option Nat))} {rs : List Tell}, StepsR P ops a0 w0 Rs l kss rs → l.length = rs.length ∧ l.length = kss.length ∧ ∀ (i : Nat) o ks R, l[i]? = some o → kss[i]? = some ks → rs[i]? = some R → ∀ a w, Kp [] w0 w → Knows a0 Rs a w ks → wants P ops o a w R
  | [], [], [], _ => ⟨rfl, rfl, fun i o ks R h => by simp at h⟩
  | o :: l, ks :: kss, R :: rs, h => by
    obtain ⟨h1, h2, h3⟩ := StepsR.at ops h.2
    refine ⟨by simp [h1], by simp [h2], fun i o' ks' R' ho hk hR => ?_⟩
    cases i with
    | zero =>
      simp at ho hk hR
      subst ho; subst hk; subst hR
      exact h.1
    | succ i => exact h3 i o' ks' R' (by simpa using ho) (by simpa using hk) (by simpa using hR)
  | [], [], _ :: _, h => h.elim
  | [], _ :: _, [], h => h.elim
  | [], _ :: _, _ :: _, h => h.elim
  | _ :: _, [], [], h => h.elim
  | _ :: _, [], _ :: _, h => h.elim
  | _ :: _, _ :: _, [], h => h.elim
structure InvR (l : List Oper) (Rs : List Tell) (a0 : Act) (w0 : World) (listed : Array Bool) (a : Act) (w : World) : Prop where
  kp : Kp [] w0 w
  size : a.tmps.size = a0.tmps.size
  defers : a.defers = a0.defers
  ls : listed.size = l.length
  told : ∀ i d R, listed.getD i false = true → dstAt l i = some d → Rs[i]? = some R → R (a.eval (.tmp d)) w
  rest : ∀ t, (∀ i, listed.getD i false = true → dstAt l i ≠ some t) → a.eval (.tmp t) = a0.eval (.tmp t)
  closed : ∀ i o, l[i]? = some o → listed.getD i false = true → ∀ j ∈ odeps o, listed.getD j false = true
theorem mem_deps {o : Oper} {j : Nat} : j ∈ odeps o ↔ ∃ e ∈ o.after, Region.binds .any e = true ∧ e.on = j := by
  unfold odeps
  simp only [List.mem_map, List.mem_filter, Array.mem_toList_iff]
  constructor
  · rintro ⟨e, ⟨h1, h2⟩, h3⟩; exact ⟨e, h1, h2, h3⟩
  · rintro ⟨e, h1, h2, h3⟩; exact ⟨e, ⟨h1, h2⟩, h3⟩
theorem eval_put_same {a : Act} {d : Tmp} {v : Value} (h : d < a.tmps.size) : (a.put (some d) v).eval (.tmp d) = v := by
  simp [Act.put, Act.eval, h]
theorem eval_put_ne {a : Act} {d t : Tmp} {v : Value} (h : d ≠ t) : (a.put (some d) v).eval (.tmp t) = a.eval (.tmp t) := by
  simp [Act.put, Act.eval, Array.getElem?_setIfInBounds_ne h]
theorem regionOk_at (h : regionOk l kss n = true) {i : Nat} {o : Oper} (ho : l[i]? = some o) : ∃ ks d, kss[i]? = some ks ∧ o.dst = some d ∧ d < n ∧ (∀ j ∈ odeps o, j < i) ∧ (∀ k ∈ ks, lookOk l i o k = true) ∧ ∀ k, k < i → dstAt l k ≠ some d := by
  have hi : i < l.length := (List.getElem?_eq_some_iff.1 ho).1
  have h1 := List.all_eq_true.1 h i (List.mem_range.2 hi)
  simp only [ho] at h1
  cases hk : kss[i]? with
  | none => simp [hk] at h1
  | some ks =>
    simp only [hk] at h1
    cases hd : o.dst with
    | none => simp [hd] at h1
    | some d =>
      simp only [hd, Bool.and_eq_true, List.all_eq_true, decide_eq_true_eq, List.mem_range, bne_iff_ne, ne_eq] at h1
      obtain ⟨⟨h2, h3⟩, h4, h5⟩ := h1
      exact ⟨ks, d, rfl, rfl, h4, h2, h3, h5⟩
theorem dst_inj (h : regionOk l kss n = true) {i j : Nat} {d : Tmp} (hi : dstAt l i = some d) (hj : dstAt l j = some d) : i = j := by
  have key : ∀ i j, i < j → dstAt l i = some d → dstAt l j = some d → False := by
    intro i j hij hi hj
    unfold dstAt at hj
    cases ho : l[j]? with
    | none => simp [ho] at hj
    | some o =>
      simp only [ho, Option.bind_some] at hj
      obtain ⟨ks, d', _, h2, _, _, _, h6⟩ := regionOk_at h ho
      rw [hj] at h2
      cases h2
      exact h6 i hij hi
  rcases Nat.lt_trichotomy i j with h1 | h1 | h1
  · exact (key i j h1 hi hj).elim
  · exact h1
  · exact (key j i h1 hj hi).elim
theorem knows_of (hinv : InvR l Rs a0 w0 listed a w) (hr : i ∈ Region.ready .any l.toArray listed) (ho : l[i]? = some o) (hlen : l.length = Rs.length) : ∀ ks : List (Tmp × Option Nat), (∀ k ∈ ks, lookOk l i o k = true) → Knows a0 Rs a w ks
  | [], _ => trivial
  | (t, some j) :: ks, h => by
    refine ⟨?_, knows_of hinv hr ho hlen ks (fun k hk => h k (by simp [hk]))⟩
    have h1 := h (t, some j) (by simp)
    simp only [lookOk, Bool.and_eq_true, List.contains_iff_mem, beq_iff_eq] at h1
    obtain ⟨hd, hdst⟩ := h1
    obtain ⟨e, he, hb, rfl⟩ := mem_deps.1 hd
    obtain ⟨_, o', ho', hall⟩ := mem_ready.1 hr
    have : o' = o := by have := ho'; rw [List.getElem?_toArray, ho] at this; exact (Option.some.inj this).symm
    subst this
    have hl := hall e he hb
    have hlt : e.on < Rs.length := by
      unfold dstAt at hdst
      cases hx : l[e.on]? with
      | none => simp [hx] at hdst
      | some _ => rw [← hlen]; exact (List.getElem?_eq_some_iff.1 hx).1
    rw [List.getD_eq_getElem?_getD, List.getElem?_eq_getElem hlt, Option.getD_some]
    exact hinv.told e.on t _ hl hdst (List.getElem?_eq_getElem hlt)
  | (t, none) :: ks, h => by
    refine ⟨?_, knows_of hinv hr ho hlen ks (fun k hk => h k (by simp [hk]))⟩
    have h1 := h (t, none) (by simp)
    simp only [lookOk, List.all_eq_true, List.mem_range, Bool.or_eq_true, beq_iff_eq, bne_iff_ne, ne_eq] at h1
    refine hinv.rest t (fun k hk hkd => ?_)
    have hnot : listed.getD i false = false := by
      have h0 := (mem_ready.1 hr).1
      rcases Nat.lt_or_ge i listed.size with h' | h'
      · simp [h'] at h0 ⊢; exact h0
      · simp [Array.getElem?_eq_none h']
    have hlt : k < l.length := by
      unfold dstAt at hkd
      cases hx : l[k]? with
      | none => simp [hx] at hkd
      | some _ => exact (List.getElem?_eq_some_iff.1 hx).1
    rcases h1 k hlt with (h2 | h2) | h2
    · subst h2; rw [hk] at hnot; cases hnot
    · exact h2 hkd
    · rw [List.getElem?_eq_getElem hlt] at h2
      simp only [Option.map_some, Option.getD_some, List.contains_iff_mem] at h2
      have := hinv.closed k _ (List.getElem?_eq_getElem hlt) hk i h2
      rw [this] at hnot; cases hnot
theorem fin_of (hok : regionOk l kss a0.tmps.size = true) (hlen : l.length = Rs.length) (hinv : InvR l Rs a0 w0 listed a w) (hall : ∀ i, i < l.length → listed.getD i false = true) :
    ∀ (m : List Oper) (rs : List Tell) (k : Nat) (b : Act), (∀ j, m[j]? = l[k + j]?) → (∀ j, rs[j]? = Rs[k + j]?) → b.tmps.size = a0.tmps.size → b.defers = a0.defers →
    (∀ t, (∀ j d, dstAt l (k + j) = some d → d ≠ t) → b.eval (.tmp t) = a.eval (.tmp t)) → FinR Q m rs b w → Q .normal a w
  | [], rs, k, b, hm, hrs, hbs, hbd, heq, h => by
    have hb : b = a := by
      cases b with
      | mk bt bd =>
        cases a with
        | mk at_ ad =>
          have e1 : bt.size = at_.size := hbs.trans hinv.size.symm
          have e2 : bd = ad := hbd.trans hinv.defers.symm
          subst e2
          congr 1
          refine Array.ext e1 (fun i h1 h2 => ?_)
          have := heq i (fun j d hd => by
            unfold dstAt at hd
            rw [← hm j] at hd
            simp at hd)
          simpa [Act.eval, h1, h2] using this
    subst hb
    cases rs <;> exact h
  | o :: m, [], k, b, hm, hrs, _, _, _, _ => by
    have h1 := hm 0
    have h2 := hrs 0
    simp only [List.getElem?_cons_zero, Nat.add_zero, List.getElem?_nil] at h1 h2
    have h3 : k < l.length := (List.getElem?_eq_some_iff.1 h1.symm).1
    have h4 := List.getElem?_eq_none_iff.1 h2.symm
    omega
  | o :: m, R :: rs, k, b, hm, hrs, hbs, hbd, heq, h => by
    have h1 : l[k]? = some o := by simpa using (hm 0).symm
    have h2 : Rs[k]? = some R := by simpa using (hrs 0).symm
    have h3 : k < l.length := (List.getElem?_eq_some_iff.1 h1).1
    obtain ⟨ks, d, _, hd, hdn, _, _, _⟩ := regionOk_at hok h1
    have hdk : dstAt l k = some d := by unfold dstAt; simp [h1, hd]
    have hR := hinv.told k d R (hall k h3) hdk h2
    refine fin_of hok hlen hinv hall m rs (k + 1) (b.put o.dst (a.eval (.tmp d))) (fun j => ?_) (fun j => ?_) ?_ ?_ ?_ (h _ hR)
    · have := hm (j + 1); simpa [Nat.add_assoc, Nat.add_comm 1 j] using this
    · have := hrs (j + 1); simpa [Nat.add_assoc, Nat.add_comm 1 j] using this
    · rw [hd]; simpa [Act.put] using hbs
    · rw [hd]; simpa [Act.put] using hbd
    · intro t ht
      rw [hd]
      by_cases htd : d = t
      · subst htd
        exact eval_put_same (by rw [hbs]; exact hdn)
      · rw [eval_put_ne htd]
        refine heq t (fun j d' hj => ?_)
        cases j with
        | zero => rw [Nat.add_zero, hdk] at hj; cases hj; exact htd
        | succ j => exact ht j d' (by rw [← hj]; congr 1; omega)
theorem inv_step (hok : regionOk l kss a0.tmps.size = true) (hst : ∀ R ∈ Rs, Tell.stable R) (hinv : InvR l Rs a0 w0 listed a w) (hr : i ∈ Region.ready .any l.toArray listed) (ho : l[i]? = some o) (hR : Rs[i]? = some R)
    (hk : Kp [] w w') (hv : R v w') : InvR l Rs a0 w0 (listed.setIfInBounds i true) (a.put o.dst v) w' := by
  obtain ⟨ks, d, _, hd, hdn, _, _, _⟩ := regionOk_at hok ho
  have hdi : dstAt l i = some d := by unfold dstAt; simp [ho, hd]
  have hget : ∀ j, (listed.setIfInBounds i true).getD j false = true → j = i ∨ listed.getD j false = true := fun j hj => by
    by_cases hij : i = j
    · exact .inl hij.symm
    · rw [getD_set_ne false hij] at hj; exact .inr hj
  rw [hd]
  refine ⟨hinv.kp.trans hk, ?_, ?_, ?_, ?_, ?_, ?_⟩
  · simpa [Act.put] using hinv.size
  · simpa [Act.put] using hinv.defers
  · simpa using hinv.ls
  · intro j dj Rj hj hdj hRj
    by_cases hji : j = i
    · subst hji
      rw [hdi] at hdj; cases hdj
      rw [hR] at hRj; cases hRj
      rw [eval_put_same (by rw [hinv.size]; exact hdn)]
      exact hv
    · have hl := (hget j hj).resolve_left hji
      have hne : d ≠ dj := fun e => hji (dst_inj hok (e ▸ hdj) hdi)
      rw [eval_put_ne hne]
      exact hst Rj (List.mem_of_getElem? hRj) _ _ _ hk (hinv.told j dj Rj hl hdj hRj)
  · intro t ht
    have hlt : i < listed.size := by rw [hinv.ls]; exact (List.getElem?_eq_some_iff.1 ho).1
    have hne : d ≠ t := fun e => ht i (by simp [hlt]) (e ▸ hdi)
    rw [eval_put_ne hne]
    refine hinv.rest t (fun j hj => ht j ?_)
    exact getD_set_true hj
  · intro j oj hoj hj k hk'
    rcases hget j hj with h1 | h1
    · subst h1
      rw [ho] at hoj; cases hoj
      obtain ⟨e, he, hb, rfl⟩ := mem_deps.1 hk'
      obtain ⟨_, o', ho', hall⟩ := mem_ready.1 hr
      have : o' = o := by have := ho'; rw [List.getElem?_toArray, ho] at this; exact (Option.some.inj this).symm
      subst this
      exact getD_set_true (hall e he hb)
    · exact getD_set_true (hinv.closed j oj hoj h1 k hk')
theorem all_listed (hok : regionOk l kss n = true) (hinv : InvR l Rs a0 w0 listed a w) (hr : Region.ready .any l.toArray listed = []) : ∀ i, i < l.length → listed.getD i false = true := by
  intro i
  induction i using Nat.strongRecOn with
  | _ i ih =>
    intro hi
    cases hc : listed.getD i false with
    | true => rfl
    | false =>
      have ho : l[i]? = some l[i] := List.getElem?_eq_getElem hi
      obtain ⟨_, _, _, _, _, hdeps, _, _⟩ := regionOk_at hok ho
      have : i ∈ Region.ready .any l.toArray listed := by
        rw [mem_ready]
        refine ⟨?_, l[i], by rw [List.getElem?_toArray]; exact ho, fun e he hb => ?_⟩
        · have hls : i < listed.size := by rw [hinv.ls]; exact hi
          simp [hls] at hc ⊢; exact hc
        · have hm : e.on ∈ odeps l[i] := mem_deps.2 ⟨e, he, hb, rfl⟩
          exact ih e.on (hdeps _ hm) (Nat.lt_trans (hdeps _ hm) hi)
      rw [hr] at this
      cases this
theorem wpAny_grow (hok : regionOk l kss a0.tmps.size = true) (hst : ∀ R ∈ Rs, Tell.stable R) (hs : StepsR P l.toArray a0 w0 Rs l kss Rs) (hf : ∀ w', Kp [] w0 w' → FinR Q l Rs a0 w') :
    ∀ (fuel : Nat) (listed : Array Bool) (a : Act) (w : World), InvR l Rs a0 w0 listed a w → listed.toList.count false = fuel → wpAny P .any l.toArray Q fuel listed a w := by
  obtain ⟨hlen, _, hat⟩ := StepsR.at _ hs
  have hend : ∀ (listed : Array Bool) (a : Act) (w : World), InvR l Rs a0 w0 listed a w → Region.ready .any l.toArray listed = [] → Q .normal a w := fun listed a w hinv hr =>
    fin_of hok hlen hinv (all_listed hok hinv hr) l Rs 0 a0 (by simp) (by simp) rfl rfl (fun t ht => (hinv.rest t (fun i _ hd => ht i t (by rw [Nat.zero_add]; exact hd) rfl)).symm) (hf w hinv.kp)
  intro fuel
  induction fuel with
  | zero =>
    intro listed a w hinv hc
    have hr : Region.ready .any l.toArray listed = [] := by
      refine List.eq_nil_iff_forall_not_mem.2 (fun j hj => ?_)
      have h0 := (mem_ready.1 hj).1
      have h1 := List.count_eq_zero.1 hc
      rcases Nat.lt_or_ge j listed.size with h' | h'
      · simp [h'] at h0
        exact h1 (by rw [← h0]; simp)
      · simp [Array.getElem?_eq_none h'] at h0
    exact ⟨hr, hend listed a w hinv hr⟩
  | succ fuel ih =>
    intro listed a w hinv hc
    refine ⟨hend listed a w hinv, fun i hi => ?_⟩
    obtain ⟨hun, o, ho', hall⟩ := mem_ready.1 hi
    have ho : l[i]? = some o := by rw [← List.getElem?_toArray]; exact ho'
    have hilt : i < l.length := (List.getElem?_eq_some_iff.1 ho).1
    obtain ⟨ks, d, hks, hd, hdn, _, hlk, _⟩ := regionOk_at hok ho
    have hR : Rs[i]? = some Rs[i] := List.getElem?_eq_getElem (by omega)
    have hw := hat i o ks Rs[i] ho hks hR a w hinv.kp (knows_of hinv hi ho hlen ks hlk)
    have hcnt : (listed.setIfInBounds i true).toList.count false = fuel := by
      have hls : i < listed.size := by rw [hinv.ls]; exact hilt
      have hg : listed.toList[i]'(by simpa using hls) = false := by simpa [hls] using hun
      rw [Array.toList_setIfInBounds, List.count_set (by simpa using hls), hg, hc]
      simp
    have next : ∀ v w', Kp [] w w' → Rs[i] v w' → wpAny P .any l.toArray Q fuel (listed.setIfInBounds i true) (a.put o.dst v) w' := fun v w' hk hv =>
      ih _ _ _ (inv_step hok hst hinv hi ho hR hk hv) hcnt
    unfold wants at hw
    unfold wpOp
    simp only [ho']
    split
    · rename_i hwn
      rw [if_pos hwn] at hw
      refine .inl ?_
      unfold Oper.wp
      generalize (execOp a.eval o).run P w = r at *
      cases r with
      | ok x w' =>
        cases x <;> simp only [grown] at hw <;> simp only [Oper.upon]
        case value v => exact next v w' hw.1 hw.2
        case skip => exact next undef w' hw.1 hw.2
        case enter f args =>
          refine hw.mono ?_
          rintro e w'' ⟨v, rfl, h1, h2⟩
          exact next v w'' h1 h2
      | halt x w' => simp only [grown] at hw
    · rename_i hwn
      rw [if_neg hwn] at hw
      exact next undef w (Kp.refl _ _) hw
/-- **One look at each operation serves every order.** -/
theorem region_grow {id : Nat} {w : World} (hm : P.follows .mixedOrders = true) (Rs : List Tell) (kss : List (List (Tmp × Option Nat))) (hok : regionOk l kss a0.tmps.size = true) (hst : ∀ R ∈ Rs, Tell.stable R)
    (hs : StepsR P l.toArray a0 w.drew Rs l kss Rs) (hf : ∀ w', Kp [] w.drew w' → FinR Q l Rs a0 w') : (Code.region id l.toArray true).wp P Q a0 w := by
  refine wp_region_any hm ?_
  refine wpAny_grow (w0 := w.drew) hok hst hs hf _ _ _ _ ⟨Kp.refl _ _, rfl, rfl, by simp, fun i d R h => ?_, fun _ _ => rfl, fun i o _ h => ?_⟩ ?_
  · exfalso; revert h; simp only [Array.getD_eq_getD_getElem?, Array.getElem?_replicate]; split <;> simp
  · exfalso; revert h; simp only [Array.getD_eq_getD_getElem?, Array.getElem?_replicate]; split <;> simp
  · simp
end
end Go.Proofs.YtillhpgdlmeajaaGreatDoor
