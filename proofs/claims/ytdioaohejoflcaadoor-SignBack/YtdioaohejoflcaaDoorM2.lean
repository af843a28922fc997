/-
  Plain facts on slices of bytes: what a slice reads as, kept, cut, turned into a string; numbers out of bytes.
-/
import Derived.Test.YtdioaohejoflcaaDoorM1
import Derived.Laws.BytesArg
import Derived.Laws.AppendOwnNone
import Derived.Deep.MidRow
import Derived.Laws.Rows
import Derived.Laws.NewBlocks
namespace Go.Proofs.YtdioaohejoflcaaDoor
open Go.RowKit

/-- v is a slice that reads as the bytes bs. -/
def Sl (w : World) (v : Value) (bs : List Int) : Prop :=
  ∃ ao c, v = .slice ao bs.length c ∧ bs.length ≤ c ∧ c ≤ maxLen ∧ (ao = none → c = 0) ∧ ∀ a, ao = some a → ∀ j u, (bs.map (Value.int .u8))[j]? = some u → w.cell? (a.add j) = some u

theorem add_block (a : Addr) (j : Nat) : (a.add j).block = a.block := by unfold Addr.add; split <;> rfl
theorem Sl.nil (w : World) : Sl w (.slice none 0 0) [] := ⟨none, 0, rfl, Nat.le_refl _, Nat.zero_le _, fun _ => rfl, (fun _ h => by cases h)⟩
theorem Sl.kept {w w' : World} {v : Value} {bs : List Int} {S : List Nat} (h : Sl w v bs) (k : Kp S w w') (hv : ∀ i, v.ownBlock = some i → i ∉ S) : Sl w' v bs := by
  obtain ⟨ao, c, rfl, h1, h2, h3, h4⟩ := h
  refine ⟨ao, c, rfl, h1, h2, h3, fun a ha j u hu => ?_⟩
  subst ha
  exact k.cell (h4 a rfl j u hu) (by rw [add_block]; exact hv a.block rfl)
theorem Sl.old {w w' : World} {v : Value} {bs : List Int} {S : List Nat} (h : Sl w v bs) (k : Kp S w w') (hv : ∀ i, v.ownBlock = some i → i < w.heap.size → i ∉ S) : Sl w' v bs := by
  obtain ⟨ao, c, rfl, h1, h2, h3, h4⟩ := h
  refine ⟨ao, c, rfl, h1, h2, h3, fun a ha j u hu => ?_⟩
  subst ha
  have hc := h4 a rfl j u hu
  exact k.cell hc (by rw [add_block]; exact hv a.block rfl (by have := World.block_lt_of_cell? _ _ hc; rwa [add_block] at this))
theorem Sl.of_owns {w : World} {v : Value} {bs : List Int} {base n : Nat} (h : w.ownsRow base 5 1 v n (bs.map (Value.int .u8))) : Sl w v bs := by
  have hn : n = bs.length := by have := h.1; simpa using this.symm
  subst hn
  rcases h.2 with ⟨rfl, h0⟩ | ⟨g, cap, cur, rfl, _, hg, hc, hm, _, _⟩
  · have : bs = [] := List.eq_nil_of_length_eq_zero h0
    subst this; exact Sl.nil w
  · refine ⟨some ⟨g, 0, none⟩, cap, rfl, hc, hm, (fun h => by cases h), fun a ha j u hu => ?_⟩
    cases ha
    exact h.cells (g := g) rfl j u hu
theorem Sl.take {w : World} {ao : Option Addr} {len c : Nat} {bs : List Int} (h : Sl w (.slice ao len c) bs) (n : Nat) (hn : n ≤ bs.length) : Sl w (.slice ao n c) (bs.take n) := by
  obtain ⟨ao', c', he, h1, h2, h3, h4⟩ := h
  cases he
  have hl : (bs.take n).length = n := by simp; omega
  refine ⟨ao, c, by rw [hl], by omega, h2, h3, fun a ha j u hu => ?_⟩
  refine h4 a ha j u ?_
  rw [List.map_take, List.getElem?_take] at hu
  split at hu
  · exact hu
  · cases hu
theorem Sl.drop {w : World} {ao : Option Addr} {len c : Nat} {bs : List Int} (h : Sl w (.slice ao len c) bs) (n : Nat) (hn : n ≤ bs.length) :
    Sl w (.slice (if c = n then ao else ao.map (·.add n)) (len - n) (c - n)) (bs.drop n) := by
  obtain ⟨ao', c', he, h1, h2, h3, h4⟩ := h
  cases he
  have hl : (bs.drop n).length = bs.length - n := by simp
  refine ⟨_, c - n, by rw [hl], by omega, by omega, fun ha => ?_, fun a ha j u hu => ?_⟩
  · split at ha
    · omega
    · cases hao : ao with
      | none => have := h3 hao; omega
      | some x => rw [hao] at ha; cases ha
  · rw [List.map_drop, List.getElem?_drop] at hu
    split at ha
    · rename_i hc
      have : (bs.map (Value.int .u8)).length ≤ n + j := by simp; omega
      rw [List.getElem?_eq_none this] at hu; cases hu
    · cases hao : ao with
      | none => rw [hao] at ha; cases ha
      | some x =>
        rw [hao] at ha
        simp only [Option.map_some, Option.some.injEq] at ha
        subst ha
        rw [Addr.add_add]
        exact h4 x hao (n + j) u hu
theorem Sl.inj {w : World} {v : Value} {bs cs : List Int} (h : Sl w v bs) (k : Sl w v cs) : bs = cs := by
  obtain ⟨ao, c, rfl, h1, h2, h3, h4⟩ := h
  obtain ⟨ao', c', he, k1, k2, k3, k4⟩ := k
  injection he with e1 e2 e3
  subst e1
  refine List.ext_getElem? (fun j => ?_)
  rcases Nat.lt_or_ge j bs.length with hj | hj
  · cases hao : ao with
    | none => have := h3 hao; omega
    | some a =>
      have x1 := h4 a hao j (.int .u8 bs[j]) (by simp [List.getElem?_eq_getElem hj])
      have x2 := k4 a hao j (.int .u8 (cs[j]'(by omega))) (by simp [List.getElem?_eq_getElem (show j < cs.length by omega)])
      rw [x1] at x2
      simp only [Option.some.injEq, Value.int.injEq, true_and] at x2
      rw [List.getElem?_eq_getElem hj, List.getElem?_eq_getElem (show j < cs.length by omega), x2]
  · rw [List.getElem?_eq_none hj, List.getElem?_eq_none (by omega)]

/-- a slice of bytes as a string. -/
theorem Sl.conv {P : Program} {w : World} {v : Value} {bs : List Int} (h : Sl w v bs) (src dst e : TypeId) (hs : P.underlying src = some (.slice e)) (he : P.underlying e = some (.int .u8)) (hd : P.underlying dst = some .string) :
    (convert src dst v).run P w = .ok (.string (strOfNums bs)) w := by
  obtain ⟨ao, c, rfl, h1, h2, h3, h4⟩ := h
  cases ao with
  | none =>
    have : bs = [] := List.eq_nil_of_length_eq_zero (by have := h3 rfl; omega)
    subst this
    rw [run_convert_bytes_nil w src e hs he _ c dst hd]
    rfl
  | some a =>
    have hl : (loadCells a bs.length).run P w = .ok (bs.map (Value.int .u8)).toArray w := by
      have := run_loadCells_list (P := P) w a (bs.map (Value.int .u8)) (h4 a rfl)
      simpa using this
    rw [run_convert_bytes_string w src dst e _ bs.length c hs he hd, run_bytesToString w _ bs.length c bs hl, foldl_push_bytes]
    simp [strOfNums, ByteArray.empty, ByteArray.emptyWithCapacity]
    rfl

/-- the number that bytes make, the highest first. -/
def val (bs : List Int) : Int := bs.foldl (fun n b => n * 256 + b) 0
theorem val_snoc (bs : List Int) (b : Int) : val (bs ++ [b]) = val bs * 256 + b := by simp [val]
/-- bytes: each from 0 to 255. -/
def Bs (bs : List Int) : Prop := ∀ b ∈ bs, 0 ≤ b ∧ b ≤ 255
theorem val_bd_acc (bs : List Int) (h : Bs bs) : ∀ acc : Int, 0 ≤ acc → 0 ≤ bs.foldl (fun n b => n * 256 + b) acc ∧ bs.foldl (fun n b => n * 256 + b) acc < (acc + 1) * 256 ^ bs.length := by
  induction bs with
  | nil => intro acc ha; simp; omega
  | cons b bs ih =>
    intro acc ha
    have h2 := h b (by simp)
    have h1 := ih (fun x hx => h x (by simp [hx])) (acc * 256 + b) (by omega)
    rw [List.foldl_cons, List.length_cons, Int.pow_succ]
    refine ⟨h1.1, Int.lt_of_lt_of_le h1.2 ?_⟩
    have hp : (0 : Int) ≤ 256 ^ bs.length := Int.le_of_lt (Int.pow_pos (by omega))
    have := Int.mul_le_mul_of_nonneg_right (show acc * 256 + b + 1 ≤ (acc + 1) * 256 by omega) hp
    rw [Int.mul_comm (256 ^ bs.length) 256, ← Int.mul_assoc]
    exact this
theorem val_bd (bs : List Int) (h : Bs bs) : 0 ≤ val bs ∧ val bs < 256 ^ bs.length := by
  have := val_bd_acc bs h 0 (by omega)
  simpa [val] using this
theorem bits_or_byte (a b : Int) (h0 : 0 ≤ a) (h1 : a * 256 ≤ 4294967295) (b0 : 0 ≤ b) (b1 : b ≤ 255) : bits .or .u32 (a * 256) b = a * 256 + b := by
  obtain ⟨x, rfl⟩ := Int.eq_ofNat_of_zero_le h0
  obtain ⟨y, rfl⟩ := Int.eq_ofNat_of_zero_le b0
  have hx : x * 256 < 2 ^ 32 := by omega
  have hy : y < 2 ^ 8 := by omega
  have e1 : (BitVec.ofInt 32 ((x : Int) * 256)).toNat = x * 256 := by
    rw [show (x : Int) * 256 = ((x * 256 : Nat) : Int) from by omega, BitVec.ofInt_natCast, BitVec.toNat_ofNat]; exact Nat.mod_eq_of_lt (by omega)
  have e2 : (BitVec.ofInt 32 (y : Int)).toNat = y := by
    rw [BitVec.ofInt_natCast, BitVec.toNat_ofNat]; exact Nat.mod_eq_of_lt (by omega)
  show IntKind.u32.wrap ((BitVec.ofInt 32 ((x : Int) * 256) ||| BitVec.ofInt 32 (y : Int)).toNat : Int) = _
  rw [BitVec.toNat_or, e1, e2]
  have e3 : x * 256 ||| y = x * 256 + y := by
    have := Nat.two_pow_add_eq_or_of_lt (i := 8) hy x
    rw [show x * 256 = 2 ^ 8 * x from by omega, ← this]
  rw [e3]
  simp [IntKind.wrap, IntKind.signed, IntKind.bits]
  omega
end Go.Proofs.YtdioaohejoflcaaDoor

/-
  The turning of words, of the reference and of the program: both come to one plain function; and the small functions of a round.
-/
namespace Go.Proofs.YtdioaohejoflcaaDoor
open Go.RowKit

/-- A word turned to the right by n places. -/
def rot (x n : Int) : Int := bits .or .u32 (x / 2 ^ n.toNat) (x * 2 ^ (32 - n).toNat % 4294967296)
theorem turn_any (x n : Int) (w : World) (hn : 0 ≤ n) (hn2 : n ≤ 31) : Calls Tryd.prog 82 #[.int .u32 x, .int .u64 n] w fun e w' => e = .returned (.int .u32 (rot x n)) ∧ w' = w := by
  go_enter Tryd.func82, Tryd.ntmps82
  go_wp2_with fail
  go_ret
  exact ⟨rfl, rfl⟩

theorem low5 (n : Int) (hn : 1 ≤ n) (hn2 : n ≤ 31) : bits .and .u64 (IntKind.u64.wrap (-n)) 31 = 32 - n := by
  obtain ⟨m, rfl⟩ := Int.eq_ofNat_of_zero_le (show 0 ≤ n by omega)
  have h : ∀ m ∈ List.range' 1 31, bits .and .u64 (IntKind.u64.wrap (-(m : Int))) 31 = 32 - (m : Int) := by decide +kernel
  exact h m (by simp [List.mem_range'_1]; omega)
theorem bits_or_comm (x y : Int) : bits .or .u32 x y = bits .or .u32 y x := by
  show IntKind.u32.wrap ((BitVec.ofInt 32 x ||| BitVec.ofInt 32 y).toNat : Int) = IntKind.u32.wrap ((BitVec.ofInt 32 y ||| BitVec.ofInt 32 x).toNat : Int)
  rw [BitVec.or_comm]
theorem rl_any (x n : Int) (w : World) (hn : 1 ≤ n) (hn2 : n ≤ 31) : Calls Tryd.prog 99 #[.int .u32 x, .int .i64 (-n)] w fun e w' => e = .returned (.int .u32 (rot x n)) ∧ w' = w := by
  have h5 := low5 n hn hn2
  go_enter Tryd.func99, Tryd.ntmps99
  go_wp2_with fail
  go_ret
  refine ⟨?_, rfl⟩
  unfold rot
  rw [bits_or_comm]
  simp [show 32 - (32 - n) = n by omega]
theorem right_any (x n : Int) (w : World) (hn : 1 ≤ n) (hn2 : n ≤ 31) : Calls Tryd.prog 98 #[.int .u32 x, .int .i64 n] w fun e w' => e = .returned (.int .u32 (rot x n)) ∧ w' = w := by
  go_enter Tryd.func98, Tryd.ntmps98
  go_wp2_with (go_at_call 99; refine (rl_any x n _ hn hn2).mono ?_; rintro e w' ⟨rfl, rfl⟩)
  go_ret
  exact ⟨rfl, rfl⟩

def bS0 (x : Int) : Int := bits .xor .u32 (bits .xor .u32 (rot x 2) (rot x 13)) (rot x 22)
def bS1 (x : Int) : Int := bits .xor .u32 (bits .xor .u32 (rot x 6) (rot x 11)) (rot x 25)
def sS0 (x : Int) : Int := bits .xor .u32 (bits .xor .u32 (rot x 7) (rot x 18)) (x / 8)
def sS1 (x : Int) : Int := bits .xor .u32 (bits .xor .u32 (rot x 17) (rot x 19)) (x / 1024)
def chs (x y z : Int) : Int := bits .xor .u32 (bits .and .u32 x y) (bits .and .u32 (bits .xor .u32 IntKind.u32.max x) z)
def maj (x y z : Int) : Int := bits .xor .u32 (bits .xor .u32 (bits .and .u32 x y) (bits .and .u32 x z)) (bits .and .u32 y z)

theorem bS0_any (x : Int) (w : World) : Calls Tryd.prog 94 #[.int .u32 x] w fun e w' => e = .returned (.int .u32 (bS0 x)) ∧ w' = w := by
  go_enter Tryd.func94, Tryd.ntmps94
  go_wp2_with (go_at_call 98; refine (right_any x _ _ (by omega) (by omega)).mono ?_; rintro e w' ⟨rfl, rfl⟩)
  go_ret
  exact ⟨rfl, rfl⟩
theorem bS1_any (x : Int) (w : World) : Calls Tryd.prog 92 #[.int .u32 x] w fun e w' => e = .returned (.int .u32 (bS1 x)) ∧ w' = w := by
  go_enter Tryd.func92, Tryd.ntmps92
  go_wp2_with (go_at_call 98; refine (right_any x _ _ (by omega) (by omega)).mono ?_; rintro e w' ⟨rfl, rfl⟩)
  go_ret
  exact ⟨rfl, rfl⟩
theorem sS0_any (x : Int) (w : World) : Calls Tryd.prog 97 #[.int .u32 x] w fun e w' => e = .returned (.int .u32 (sS0 x)) ∧ w' = w := by
  go_enter Tryd.func97, Tryd.ntmps97
  go_wp2_with (go_at_call 98; refine (right_any x _ _ (by omega) (by omega)).mono ?_; rintro e w' ⟨rfl, rfl⟩)
  go_ret
  exact ⟨rfl, rfl⟩
theorem sS1_any (x : Int) (w : World) : Calls Tryd.prog 96 #[.int .u32 x] w fun e w' => e = .returned (.int .u32 (sS1 x)) ∧ w' = w := by
  go_enter Tryd.func96, Tryd.ntmps96
  go_wp2_with (go_at_call 98; refine (right_any x _ _ (by omega) (by omega)).mono ?_; rintro e w' ⟨rfl, rfl⟩)
  go_ret
  exact ⟨rfl, rfl⟩
theorem chs_any (x y z : Int) (w : World) : Calls Tryd.prog 93 #[.int .u32 x, .int .u32 y, .int .u32 z] w fun e w' => e = .returned (.int .u32 (chs x y z)) ∧ w' = w := by
  go_enter Tryd.func93, Tryd.ntmps93
  go_wp2_with fail
  all_goals (first | (go_ret; exact ⟨rfl, rfl⟩) | skip)
theorem maj_any (x y z : Int) (w : World) : Calls Tryd.prog 95 #[.int .u32 x, .int .u32 y, .int .u32 z] w fun e w' => e = .returned (.int .u32 (maj x y z)) ∧ w' = w := by
  go_enter Tryd.func95, Tryd.ntmps95
  go_wp2_with fail
  go_ret
  exact ⟨rfl, rfl⟩
end Go.Proofs.YtdioaohejoflcaaDoor

/-
  SHA-256 as a plain function of lists of numbers: what both the program and the reference come to.
-/
namespace Go.Proofs.YtdioaohejoflcaaDoor
open Go.RowKit

def consts : List Int := [1116352408, 1899447441, 3049323471, 3921009573, 961987163, 1508970993, 2453635748, 2870763221, 3624381080, 310598401, 607225278, 1426881987, 1925078388, 2162078206, 2614888103, 3248222580, 3835390401, 4022224774, 264347078, 604807628, 770255983, 1249150122, 1555081692, 1996064986, 2554220882, 2821834349, 2952996808, 3210313671, 3336571891, 3584528711, 113926993, 338241895, 666307205, 773529912, 1294757372, 1396182291, 1695183700, 1986661051, 2177026350, 2456956037, 2730485921, 2820302411, 3259730800, 3345764771, 3516065817, 3600352804, 4094571909, 275423344, 430227734, 506948616, 659060556, 883997877, 958139571, 1322822218, 1537002063, 1747873779, 1955562222, 2024104815, 2227730452, 2361852424, 2428436474, 2756734187, 3204031479, 3329325298]
def begin8 : List Int := [1779033703, 3144134277, 1013904242, 2773480762, 1359893119, 2600822924, 528734635, 1541459225]
/-- A sum of words. -/
def ad (x y : Int) : Int := (x + y) % 4294967296
/-- The word that four bytes make. -/
def wd (a b c d : Int) : Int := bits .or .u32 (bits .or .u32 (bits .or .u32 (a * 16777216) (b * 65536)) (c * 256)) d
def wordAt (bs : List Int) (i : Nat) : Int := wd (bs.getD (4 * i) 0) (bs.getD (4 * i + 1) 0) (bs.getD (4 * i + 2) 0) (bs.getD (4 * i + 3) 0)
def nextW (l : List Int) (i : Nat) : Int := ad (ad (ad (sS1 (l.getD (i - 2) 0)) (l.getD (i - 7) 0)) (sS0 (l.getD (i - 15) 0))) (l.getD (i - 16) 0)
/-- The first n words of a block's schedule. -/
def sch (bs : List Int) : Nat → List Int
  | 0 => []
  | n + 1 => sch bs n ++ [if n < 16 then wordAt bs n else nextW (sch bs n) n]
/-- One round. -/
def rnd (s : List Int) (k w : Int) : List Int :=
  match s with
  | [a, b, c, d, e, f, g, h] => [ad (ad (ad (ad (ad h (bS1 e)) (chs e f g)) k) w) (ad (bS0 a) (maj a b c)), a, b, c, ad d (ad (ad (ad (ad h (bS1 e)) (chs e f g)) k) w), e, f, g]
  | l => l
def rds (ws s : List Int) : Nat → List Int
  | 0 => s
  | n + 1 => rnd (rds ws s n) (consts.getD n 0) (ws.getD n 0)
/-- One block. -/
def blk (s bs : List Int) : List Int := List.zipWith ad (rds (sch bs 64) s 64) s
def blks : Nat → List Int → List Int → List Int
  | 0, s, _ => s
  | n + 1, s, bs => blk (blks n s bs) ((bs.drop (64 * n)).take 64)
def zeros (n : Nat) : Nat := (119 - n % 64) % 64
def be8 (n : Int) : List Int := [n / 72057594037927936 % 256, n / 281474976710656 % 256, n / 1099511627776 % 256, n / 4294967296 % 256, n / 16777216 % 256, n / 65536 % 256, n / 256 % 256, n % 256]
def pad (rest : List Int) (n : Nat) : List Int := rest ++ [128] ++ List.replicate (zeros rest.length) 0 ++ be8 (n * 8)
def lay8 (s : List Int) : List Int := s.flatMap fun x => [x / 16777216 % 256, x / 65536 % 256, x / 256 % 256, x % 256]
def fin8 (s rest : List Int) (n : Nat) : List Int := lay8 (blks ((pad rest n).length / 64) s (pad rest n))
def sha (bs : List Int) : List Int := fin8 (blks (bs.length / 64) begin8 bs) (bs.drop (bs.length / 64 * 64)) bs.length
set_option maxRecDepth 100000 in
theorem sha_abc : sha [97, 98, 99] = [186, 120, 22, 191, 143, 1, 207, 234, 65, 65, 64, 222, 93, 174, 34, 35, 176, 3, 97, 163, 150, 23, 122, 156, 180, 16, 255, 97, 242, 0, 21, 173] := by decide +kernel
set_option maxRecDepth 100000 in
theorem sha_nil : sha [] = [227, 176, 196, 66, 152, 252, 28, 20, 154, 251, 244, 200, 153, 111, 185, 36, 39, 174, 65, 228, 100, 155, 147, 76, 164, 149, 153, 27, 120, 82, 184, 85] := by decide +kernel
end Go.Proofs.YtdioaohejoflcaaDoor

/-
  Arrays of words: as values, in memory; how a walk makes, reads and writes them whole.
-/
namespace Go.Proofs.YtdioaohejoflcaaDoor
open Go.RowKit

/-- The array of these words, as a value. -/
def ag (s : List Int) : Value := .agg (s.map (Value.int .u32)).toArray
/-- The block b holds the array of these words. -/
def Ar (w : World) (b : Nat) (t : TypeId) (s : List Int) : Prop := w.heap[b]? = some (.cells (s.map (Value.int .u32)).toArray t (0, 0))
theorem Ar.kept {w w' : World} {b : Nat} {t : TypeId} {s : List Int} {S : List Nat} (h : Ar w b t s) (k : Kp S w w') (hb : b ∉ S) : Ar w' b t s := k.heap h hb
theorem Ar.lt {w : World} {b : Nat} {t : TypeId} {s : List Int} (h : Ar w b t s) : b < w.heap.size := (Array.getElem?_eq_some_iff.1 h).1
theorem Ar.drewN {w : World} {b : Nat} {t : TypeId} {s : List Int} (h : Ar w b t s) (n : Nat) : Ar (w.drewN n) b t s := h
theorem Ar.cell {w : World} {b : Nat} {t : TypeId} {s : List Int} (h : Ar w b t s) (i : Nat) (hi : i < s.length) : w.cell? ⟨b, i, none⟩ = some (.int .u32 (s.getD i 0)) := by
  rw [cell_of_row w b i _ t (0, 0) h]
  simp [List.getElem?_eq_getElem hi]
theorem Ar.frozen {w : World} {b : Nat} {t : TypeId} {s : List Int} (h : Ar w b t s) (i : Nat) : w.frozen? ⟨b, i, none⟩ = false := frozen_of_row w b i _ t h
theorem Ar.set {w : World} {b : Nat} {t : TypeId} {s : List Int} (h : Ar w b t s) (i : Nat) (x : Int) : Ar (w.setCell ⟨b, i, none⟩ (.int .u32 x)) b t (s.set i x) := by
  have := heap_setCell_same w b i _ t (.int .u32 x) h
  unfold Ar
  rw [this]
  simp [List.map_set]

section
variable {ops : Array Oper} {rest : List Oper} {o : Oper} {a : Act} {w : World} {Q : Exit → Act → World → Prop}

theorem wpList_box_ar (hgd : o.guard = none) (ty : TypeId) (x : Operand) (ho : o.op = .box ty x) (s : List Int) (hx : a.eval x = ag s)
    (h : ∀ w', Ar w' w.heap.size ty s → Kp [] w w' → w'.heap.size = w.heap.size + 1 → wpList Tryd.prog ops Q rest (a.put o.dst (.pointer (some ⟨w.heap.size, 0, none⟩))) w') : wpList Tryd.prog ops Q (o :: rest) a w := by
  refine wpList_plain hgd fun K hK => ?_
  have e : (Instr.box ty (ag s)).run Tryd.prog w = .ok (.pointer (some ⟨w.heap.size, 0, none⟩)) (w.alloc (.cells (s.map (Value.int .u32)).toArray ty)) := by
    simp [Instr.box, newVar, ag, Value.cells, go_sem]
  unfold Oper.wp execOp
  simp only [ho, hx, Sem.run_bind, e, Sem.run_pure, Result.andThen_ok]
  exact hK _ _ (h _ (heap_alloc_new w _) ((Kp.refl [] w).alloc _) (by simp))

theorem wpList_alloc_ar (hgd : o.guard = none) (ty : TypeId) (ho : o.op = .alloc ty) (i : TypeInfo) (s : List Int) (hi : Tryd.prog.info? ty = some i) (hz : i.zero = some (ag s))
    (h : ∀ w', Ar w' w.heap.size ty s → Kp [] w w' → w'.heap.size = w.heap.size + 1 → wpList Tryd.prog ops Q rest (a.put o.dst (.pointer (some ⟨w.heap.size, 0, none⟩))) w') : wpList Tryd.prog ops Q (o :: rest) a w := by
  refine wpList_plain hgd fun K hK => ?_
  have e : (Instr.alloc ty true (.tuple #[])).run Tryd.prog w = .ok (.pointer (some ⟨w.heap.size, 0, none⟩)) (w.alloc (.cells (s.map (Value.int .u32)).toArray ty)) := by
    simp [Instr.alloc, zeroValue, typeInfo, hi, hz, newVar, ag, Value.cells, go_sem]
  unfold Oper.wp execOp
  simp only [ho, Sem.run_bind, e, Sem.run_pure, Result.andThen_ok]
  exact hK _ _ (h _ (heap_alloc_new w _) ((Kp.refl [] w).alloc _) (by simp))

theorem wpList_load_ar (hgd : o.guard = none) (ty : TypeId) (x : Operand) (ho : o.op = .load ty x) (b : Nat) (hx : a.eval x = .pointer (some ⟨b, 0, none⟩)) (t : TypeId) (s : List Int) (n : Nat) (e : TypeId) (hA : Ar w b t s)
    (hu : Tryd.prog.underlying ty = some (.array n e)) (hi : (Tryd.prog.info? ty).map (·.size) = some s.length)
    (h : wpList Tryd.prog ops Q rest (a.put o.dst (ag s)) w) : wpList Tryd.prog ops Q (o :: rest) a w :=
  wpList_load_row hgd ty x ho b hx t _ (0, 0) (.array n e) hA hu rfl (by simpa using hi) h

theorem kp_setCells (w : World) (b : Nat) : ∀ (vs : List Value) (o : Nat) (w1 : World), Kp [b] w w1 → Kp [b] w (w1.setCells b o vs)
  | [], _, _, h => h
  | v :: r, o, w1, h => kp_setCells w b r (o + 1) _ (h.setCell (p := ⟨b, o, none⟩) (.inl (by simp)) v)
theorem ar_setCells (b : Nat) (t : TypeId) (ys : List Int) : ∀ (o : Nat) (s : List Int) (w : World), Ar w b t s → o + ys.length = s.length → Ar (w.setCells b o (ys.map (Value.int .u32))) b t (s.take o ++ ys) := by
  induction ys with
  | nil =>
    intro o s w h hl
    simp only [List.length_nil, Nat.add_zero] at hl
    simp only [List.map_nil, World.setCells, List.append_nil]
    rw [List.take_of_length_le (by omega)]
    exact h
  | cons y ys ih =>
    intro o s w h hl
    simp only [List.map_cons, World.setCells]
    have := ih (o + 1) (s.set o y) _ (h.set o y) (by simp at hl ⊢; omega)
    rw [List.take_succ_eq_append_getElem (by simp at hl ⊢; omega), List.take_set_of_le (Nat.le_refl _), List.getElem_set_self, List.append_assoc] at this
    exact this

theorem wpList_store_ar (hgd : o.guard = none) (ty : TypeId) (x y : Operand) (ho : o.op = .store ty x y) (b : Nat) (hx : a.eval x = .pointer (some ⟨b, 0, none⟩)) (t : TypeId) (s0 s : List Int) (hA : Ar w b t s0) (hy : a.eval y = ag s) (hl : s0.length = s.length)
    (hi : (Tryd.prog.info? ty).map (·.size) = some s.length)
    (h : ∀ w', Ar w' b t s → Kp [b] w w' → w'.heap.size = w.heap.size → wpList Tryd.prog ops Q rest (a.put o.dst undef) w') : wpList Tryd.prog ops Q (o :: rest) a w := by
  refine wpList_store_mid hgd ty x y ho b 0 (s.map (Value.int .u32)).toArray hx hy ?_ (by simpa using hi) (all_oneCell_toArray (by simp [Value.oneCell'])) ?_
  · intro j hj
    simp only [List.size_toArray, List.length_map] at hj
    rw [Nat.zero_add, hA.cell j (by omega)]
    exact ⟨rfl, hA.frozen j⟩
  · refine h _ ?_ (kp_setCells w b _ 0 w (Kp.refl _ _)) ?_
    · have := ar_setCells b t s 0 s0 w hA (by omega)
      simpa using this
    · have : ∀ (vs : List Value) (o : Nat) (w1 : World), (w1.setCells b o vs).heap.size = w1.heap.size := by
        intro vs
        induction vs with
        | nil => intro o w1; rfl
        | cons v r ih => intro o w1; simp only [World.setCells]; rw [ih]; simp [World.setCell]
      exact this _ _ _
end

/-- One word of an array that is a value. -/
theorem run_index_ag (t : TypeId) (n : Nat) (e : TypeId) (i : TypeInfo) (s : List Int) (k : Nat) (w : World) (hu : Tryd.prog.underlying t = some (.array n e)) (he : Tryd.prog.underlying e = some (.int .u32)) (hi : Tryd.prog.info? e = some i) (hs : i.size = 1) (hk : k < n) (hl : s.length = n) :
    (Instr.index t (ag s) (.int .i64 (k : Int))).run Tryd.prog w = .ok (.int .u32 (s.getD k 0)) w := by
  have h1 : (0 : Int) ≤ (k : Int) ∧ (k : Int) < (n : Int) := by omega
  have h3 : (isAgg e).run Tryd.prog w = .ok false w := by
    unfold isAgg
    rw [Sem.run_bind, run_underlying he w]
    rfl
  simp [Instr.index, asIntOf, ag, Sem.run_bind, run_underlying hu w, h1, sizeOf, typeInfo, hi, hs, part, h3, List.getElem?_eq_getElem (show k < s.length by omega)]
  intro h; omega

theorem Tryd.infoU32 : ∃ i, Tryd.prog.info? 70 = some i ∧ i.size = 1 := by
  have h : (Tryd.prog.info? 70).map (·.size) = some 1 := by kernel_rfl
  exact Option.map_eq_some_iff.1 h
theorem Tryd.sz64 : (Tryd.prog.info? 103).map (·.size) = some 64 := by kernel_rfl
theorem Tryd.sz8 : (Tryd.prog.info? 102).map (·.size) = some 8 := by kernel_rfl
theorem Tryd.szW : (Tryd.prog.info? 109).map (·.size) = some 8 := by kernel_rfl
theorem Tryd.zero64 : ∃ i, Tryd.prog.info? 103 = some i ∧ i.zero = some (ag (List.replicate 64 0)) := by
  have h : (Tryd.prog.info? 103).map (·.zero) = some (some (ag (List.replicate 64 0))) := by kernel_rfl
  exact Option.map_eq_some_iff.1 h
theorem Tryd.zero8 : ∃ i, Tryd.prog.info? 102 = some i ∧ i.zero = some (ag (List.replicate 8 0)) := by
  have h : (Tryd.prog.info? 102).map (·.zero) = some (some (ag (List.replicate 8 0))) := by kernel_rfl
  exact Option.map_eq_some_iff.1 h
theorem Tryd.zeroW : ∃ i, Tryd.prog.info? 109 = some i ∧ i.zero = some (ag (List.replicate 8 0)) := by
  have h : (Tryd.prog.info? 109).map (·.zero) = some (some (ag (List.replicate 8 0))) := by kernel_rfl
  exact Option.map_eq_some_iff.1 h
theorem index64 (s : List Int) (k : Nat) (w : World) (hk : k < 64) (hl : s.length = 64) : (Instr.index 103 (ag s) (.int .i64 (k : Int))).run Tryd.prog w = .ok (.int .u32 (s.getD k 0)) w := by
  obtain ⟨i, hi, hs⟩ := Tryd.infoU32
  exact run_index_ag _ 64 70 i s k w Tryd.underlying103 Tryd.underlying70 hi hs hk hl
theorem indexW (s : List Int) (k : Nat) (w : World) (hk : k < 8) (hl : s.length = 8) : (Instr.index 109 (ag s) (.int .i64 (k : Int))).run Tryd.prog w = .ok (.int .u32 (s.getD k 0)) w := by
  obtain ⟨i, hi, hs⟩ := Tryd.infoU32
  exact run_index_ag _ 8 70 i s k w Tryd.underlying109 Tryd.underlying70 hi hs hk hl
end Go.Proofs.YtdioaohejoflcaaDoor
