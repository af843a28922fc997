/-
  Plain facts on slices of bytes: what a slice reads as, kept, cut, turned into a string; numbers out of bytes.
-/
import Derived.Laws.AppendOwnNone
import Derived.Test.YteabdojjllfcpaaGreatQC1
namespace Go.Proofs.YteabdojjllfcpaaGreat
open Go.RowKit
/-- v is a slice that reads as the bytes bs. -/
def Sl (w : World) (v : Value) (bs : List Int) : Prop :=
  ∃ ao c, v = .slice ao bs.length c ∧ bs.length ≤ c ∧ c ≤ maxLen ∧ (ao = none → c = 0) ∧ ∀ a, ao = some a → ∀ j u, (bs.map (Value.int .u8))[j]? = some u → w.cell? (a.add j) = some u
theorem add_block (a : Addr) (j : Nat) : (a.add j).block = a.block := by unfold Addr.add; split <;> rfl
theorem Sl.nil (w : World) : Sl w (.slice none 0 0) [] := ⟨none, 0, rfl, Nat.le_refl _, Nat.zero_le _, fun _ => rfl, (fun _ h => by cases h)⟩
theorem Sl.kept {w w' : World} {v : Value} {bs : List Int} {S : List Nat} (h : Sl w v bs) (k : Kp S w w') (hv : ∀ i, v.ownBlock = some i → i ∉ S) : Sl w' v bs := by
  obtain ⟨ao, c, rfl, h1, h2, h3, h4⟩ := h
  refine ⟨ao, c, rfl, h1, h2, h3, fun a ha j u hu => ?_⟩
  subst ha
  exact k.cell (h4 a rfl j u hu) (by rw [add_block]; exact hv a.block rfl)
theorem Sl.old {w w' : World} {v : Value} {bs : List Int} {S : List Nat} (h : Sl w v bs) (k : Kp S w w') (hv : ∀ i, v.ownBlock = some i → i < w.heap.size → i ∉ S) : Sl w' v bs := by
  obtain ⟨ao, c, rfl, h1, h2, h3, h4⟩ := h
  refine ⟨ao, c, rfl, h1, h2, h3, fun a ha j u hu => ?_⟩
  subst ha
  have hc := h4 a rfl j u hu
  exact k.cell hc (by rw [add_block]; exact hv a.block rfl (by have := World.block_lt_of_cell? _ _ hc; rwa [add_block] at this))
theorem Sl.of_owns {w : World} {v : Value} {bs : List Int} {base n : Nat} (h : w.ownsRow base 5 1 v n (bs.map (Value.int .u8))) : Sl w v bs := by
  have hn : n = bs.length := by have := h.1; simpa using this.symm
  subst hn
  rcases h.2 with ⟨rfl, h0⟩ | ⟨g, cap, cur, rfl, _, hg, hc, hm, _, _⟩
  · have : bs = [] := List.eq_nil_of_length_eq_zero h0
    subst this; exact Sl.nil w
  · refine ⟨some ⟨g, 0, none⟩, cap, rfl, hc, hm, (fun h => by cases h), fun a ha j u hu => ?_⟩
    cases ha
    exact h.cells (g := g) rfl j u hu
theorem Sl.take {w : World} {ao : Option Addr} {len c : Nat} {bs : List Int} (h : Sl w (.slice ao len c) bs) (n : Nat) (hn : n ≤ bs.length) : Sl w (.slice ao n c) (bs.take n) := by
  obtain ⟨ao', c', he, h1, h2, h3, h4⟩ := h
  cases he
  have hl : (bs.take n).length = n := by simp; omega
  refine ⟨ao, c, by rw [hl], by omega, h2, h3, fun a ha j u hu => ?_⟩
  refine h4 a ha j u ?_
  rw [List.map_take, List.getElem?_take] at hu
  split at hu
  · exact hu
  · cases hu
theorem Sl.drop {w : World} {ao : Option Addr} {len c : Nat} {bs : List Int} (h : Sl w (.slice ao len c) bs) (n : Nat) (hn : n ≤ bs.length) :
    Sl w (.slice (if c = n then ao else ao.map (·.add n)) (len - n) (c - n)) (bs.drop n) := by
  obtain ⟨ao', c', he, h1, h2, h3, h4⟩ := h
  cases he
  have hl : (bs.drop n).length = bs.length - n := by simp
  refine ⟨_, c - n, by rw [hl], by omega, by omega, fun ha => ?_, fun a ha j u hu => ?_⟩
  · split at ha
    · omega
    · cases hao : ao with
      | none => have := h3 hao; omega
      | some x => rw [hao] at ha; cases ha
  · rw [List.map_drop, List.getElem?_drop] at hu
    split at ha
    · rename_i hc
      have : (bs.map (Value.int .u8)).length ≤ n + j := by simp; omega
      rw [List.getElem?_eq_none this] at hu; cases hu
    · cases hao : ao with
      | none => rw [hao] at ha; cases ha
      | some x =>
        rw [hao] at ha
        simp only [Option.map_some, Option.some.injEq] at ha
        subst ha
        rw [Addr.add_add]
        exact h4 x hao (n + j) u hu
theorem Sl.inj {w : World} {v : Value} {bs cs : List Int} (h : Sl w v bs) (k : Sl w v cs) : bs = cs := by
  obtain ⟨ao, c, rfl, h1, h2, h3, h4⟩ := h
  obtain ⟨ao', c', he, k1, k2, k3, k4⟩ := k
  injection he with e1 e2 e3
  subst e1
  refine List.ext_getElem? (fun j => ?_)
  rcases Nat.lt_or_ge j bs.length with hj | hj
  · cases hao : ao with
    | none => have := h3 hao; omega
    | some a =>
      have x1 := h4 a hao j (.int .u8 bs[j]) (by simp [List.getElem?_eq_getElem hj])
      have x2 := k4 a hao j (.int .u8 (cs[j]'(by omega))) (by simp [List.getElem?_eq_getElem (show j < cs.length by omega)])
      rw [x1] at x2
      simp only [Option.some.injEq, Value.int.injEq, true_and] at x2
      rw [List.getElem?_eq_getElem hj, List.getElem?_eq_getElem (show j < cs.length by omega), x2]
  · rw [List.getElem?_eq_none hj, List.getElem?_eq_none (by omega)]
/-- a slice of bytes as a string. -/
theorem Sl.conv {P : Program} {w : World} {v : Value} {bs : List Int} (h : Sl w v bs) (src dst e : TypeId) (hs : P.underlying src = some (.slice e)) (he : P.underlying e = some (.int .u8)) (hd : P.underlying dst = some .string) :
    (convert src dst v).run P w = .ok (.string (strOfNums bs)) w := by
  obtain ⟨ao, c, rfl, h1, h2, h3, h4⟩ := h
  cases ao with
  | none =>
    have : bs = [] := List.eq_nil_of_length_eq_zero (by have := h3 rfl; omega)
    subst this
    rw [run_convert_bytes_nil w src e hs he _ c dst hd]
    rfl
  | some a =>
    have hl : (loadCells a bs.length).run P w = .ok (bs.map (Value.int .u8)).toArray w := by
      have := run_loadCells_list (P := P) w a (bs.map (Value.int .u8)) (h4 a rfl)
      simpa using this
    rw [run_convert_bytes_string w src dst e _ bs.length c hs he hd, run_bytesToString w _ bs.length c bs hl, foldl_push_bytes]
    simp [strOfNums, ByteArray.empty, ByteArray.emptyWithCapacity]
    rfl
/-- the number that bytes make, the highest first. -/
def val (bs : List Int) : Int := bs.foldl (fun n b => n * 256 + b) 0
theorem val_snoc (bs : List Int) (b : Int) : val (bs ++ [b]) = val bs * 256 + b := by simp [val]
/-- bytes: each from 0 to 255. -/
def Bs (bs : List Int) : Prop := ∀ b ∈ bs, 0 ≤ b ∧ b ≤ 255
theorem val_bd_acc (bs : List Int) (h : Bs bs) : ∀ acc : Int, 0 ≤ acc → 0 ≤ bs.foldl (fun n b => n * 256 + b) acc ∧ bs.foldl (fun n b => n * 256 + b) acc < (acc + 1) * 256 ^ bs.length := by
  induction bs with
  | nil => intro acc ha; simp; omega
  | cons b bs ih =>
    intro acc ha
    have h2 := h b (by simp)
    have h1 := ih (fun x hx => h x (by simp [hx])) (acc * 256 + b) (by omega)
    rw [List.foldl_cons, List.length_cons, Int.pow_succ]
    refine ⟨h1.1, Int.lt_of_lt_of_le h1.2 ?_⟩
    have hp : (0 : Int) ≤ 256 ^ bs.length := Int.le_of_lt (Int.pow_pos (by omega))
    have := Int.mul_le_mul_of_nonneg_right (show acc * 256 + b + 1 ≤ (acc + 1) * 256 by omega) hp
    rw [Int.mul_comm (256 ^ bs.length) 256, ← Int.mul_assoc]
    exact this
theorem val_bd (bs : List Int) (h : Bs bs) : 0 ≤ val bs ∧ val bs < 256 ^ bs.length := by
  have := val_bd_acc bs h 0 (by omega)
  simpa [val] using this
theorem bits_or_byte (a b : Int) (h0 : 0 ≤ a) (h1 : a * 256 ≤ 4294967295) (b0 : 0 ≤ b) (b1 : b ≤ 255) : bits .or .u32 (a * 256) b = a * 256 + b := by
  obtain ⟨x, rfl⟩ := Int.eq_ofNat_of_zero_le h0
  obtain ⟨y, rfl⟩ := Int.eq_ofNat_of_zero_le b0
  have hx : x * 256 < 2 ^ 32 := by omega
  have hy : y < 2 ^ 8 := by omega
  have e1 : (BitVec.ofInt 32 ((x : Int) * 256)).toNat = x * 256 := by
    rw [show (x : Int) * 256 = ((x * 256 : Nat) : Int) from by omega, BitVec.ofInt_natCast, BitVec.toNat_ofNat]; exact Nat.mod_eq_of_lt (by omega)
  have e2 : (BitVec.ofInt 32 (y : Int)).toNat = y := by
    rw [BitVec.ofInt_natCast, BitVec.toNat_ofNat]; exact Nat.mod_eq_of_lt (by omega)
  show IntKind.u32.wrap ((BitVec.ofInt 32 ((x : Int) * 256) ||| BitVec.ofInt 32 (y : Int)).toNat : Int) = _
  rw [BitVec.toNat_or, e1, e2]
  have e3 : x * 256 ||| y = x * 256 + y := by
    have := Nat.two_pow_add_eq_or_of_lt (i := 8) hy x
    rw [show x * 256 = 2 ^ 8 * x from by omega, ← this]
  rw [e3]
  simp [IntKind.wrap, IntKind.signed, IntKind.bits]
  omega
end Go.Proofs.YteabdojjllfcpaaGreat

/-
  The turning of words, of the reference and of the program: both come to one plain function; and the small functions of a round.
-/
namespace Go.Proofs.YteabdojjllfcpaaGreat
open Go.RowKit
/-- A word turned to the right by n places. -/
def rot (x n : Int) : Int := bits .or .u32 (x / 2 ^ n.toNat) (x * 2 ^ (32 - n).toNat % 4294967296)
theorem turn_any (x n : Int) (w : World) (hn : 0 ≤ n) (hn2 : n ≤ 31) : Calls Tryz.prog 120 #[.int .u32 x, .int .u64 n] w fun e w' => e = .returned (.int .u32 (rot x n)) ∧ w' = w := by
  go_enter Tryz.func120, Tryz.ntmps120
  go_wp2_with fail
  go_ret
  exact ⟨rfl, rfl⟩
def bS0 (x : Int) : Int := bits .xor .u32 (bits .xor .u32 (rot x 2) (rot x 13)) (rot x 22)
def bS1 (x : Int) : Int := bits .xor .u32 (bits .xor .u32 (rot x 6) (rot x 11)) (rot x 25)
def sS0 (x : Int) : Int := bits .xor .u32 (bits .xor .u32 (rot x 7) (rot x 18)) (x / 8)
def sS1 (x : Int) : Int := bits .xor .u32 (bits .xor .u32 (rot x 17) (rot x 19)) (x / 1024)
def chs (x y z : Int) : Int := bits .xor .u32 (bits .and .u32 x y) (bits .and .u32 (bits .xor .u32 IntKind.u32.max x) z)
def maj (x y z : Int) : Int := bits .xor .u32 (bits .xor .u32 (bits .and .u32 x y) (bits .and .u32 x z)) (bits .and .u32 y z)
end Go.Proofs.YteabdojjllfcpaaGreat

/-
  SHA-256 as a plain function of lists of numbers: what both the program and the reference come to.
-/
namespace Go.Proofs.YteabdojjllfcpaaGreat
open Go.RowKit
def consts : List Int := [1116352408, 1899447441, 3049323471, 3921009573, 961987163, 1508970993, 2453635748, 2870763221, 3624381080, 310598401, 607225278, 1426881987, 1925078388, 2162078206, 2614888103, 3248222580, 3835390401, 4022224774, 264347078, 604807628, 770255983, 1249150122, 1555081692, 1996064986, 2554220882, 2821834349, 2952996808, 3210313671, 3336571891, 3584528711, 113926993, 338241895, 666307205, 773529912, 1294757372, 1396182291, 1695183700, 1986661051, 2177026350, 2456956037, 2730485921, 2820302411, 3259730800, 3345764771, 3516065817, 3600352804, 4094571909, 275423344, 430227734, 506948616, 659060556, 883997877, 958139571, 1322822218, 1537002063, 1747873779, 1955562222, 2024104815, 2227730452, 2361852424, 2428436474, 2756734187, 3204031479, 3329325298]
def begin8 : List Int := [1779033703, 3144134277, 1013904242, 2773480762, 1359893119, 2600822924, 528734635, 1541459225]
/-- A sum of words. -/
def ad (x y : Int) : Int := (x + y) % 4294967296
/-- The word that four bytes make. -/
def wd (a b c d : Int) : Int := bits .or .u32 (bits .or .u32 (bits .or .u32 (a * 16777216) (b * 65536)) (c * 256)) d
def wordAt (bs : List Int) (i : Nat) : Int := wd (bs.getD (4 * i) 0) (bs.getD (4 * i + 1) 0) (bs.getD (4 * i + 2) 0) (bs.getD (4 * i + 3) 0)
def nextW (l : List Int) (i : Nat) : Int := ad (ad (ad (sS1 (l.getD (i - 2) 0)) (l.getD (i - 7) 0)) (sS0 (l.getD (i - 15) 0))) (l.getD (i - 16) 0)
/-- The first n words of a block's schedule. -/
def sch (bs : List Int) : Nat → List Int
  | 0 => []
  | n + 1 => sch bs n ++ [if n < 16 then wordAt bs n else nextW (sch bs n) n]
/-- One round. -/
def rnd (s : List Int) (k w : Int) : List Int :=
  match s with
  | [a, b, c, d, e, f, g, h] => [ad (ad (ad (ad (ad h (bS1 e)) (chs e f g)) k) w) (ad (bS0 a) (maj a b c)), a, b, c, ad d (ad (ad (ad (ad h (bS1 e)) (chs e f g)) k) w), e, f, g]
  | l => l
def rds (ws s : List Int) : Nat → List Int
  | 0 => s
  | n + 1 => rnd (rds ws s n) (consts.getD n 0) (ws.getD n 0)
/-- One block. -/
def blk (s bs : List Int) : List Int := List.zipWith ad (rds (sch bs 64) s 64) s
def blks : Nat → List Int → List Int → List Int
  | 0, s, _ => s
  | n + 1, s, bs => blk (blks n s bs) ((bs.drop (64 * n)).take 64)
def zeros (n : Nat) : Nat := (119 - n % 64) % 64
def be8 (n : Int) : List Int := [n / 72057594037927936 % 256, n / 281474976710656 % 256, n / 1099511627776 % 256, n / 4294967296 % 256, n / 16777216 % 256, n / 65536 % 256, n / 256 % 256, n % 256]
def pad (rest : List Int) (n : Nat) : List Int := rest ++ [128] ++ List.replicate (zeros rest.length) 0 ++ be8 (n * 8)
def lay8 (s : List Int) : List Int := s.flatMap fun x => [x / 16777216 % 256, x / 65536 % 256, x / 256 % 256, x % 256]
def fin8 (s rest : List Int) (n : Nat) : List Int := lay8 (blks ((pad rest n).length / 64) s (pad rest n))
def sha (bs : List Int) : List Int := fin8 (blks (bs.length / 64) begin8 bs) (bs.drop (bs.length / 64 * 64)) bs.length
end Go.Proofs.YteabdojjllfcpaaGreat

/-
  Arrays of words: as values, in memory; how a walk makes, reads and writes them whole.
-/
namespace Go.Proofs.YteabdojjllfcpaaGreat
open Go.RowKit
/-- The array of these words, as a value. -/
def ag (s : List Int) : Value := .agg (s.map (Value.int .u32)).toArray
/-- The block b holds the array of these words. -/
def Ar (w : World) (b : Nat) (t : TypeId) (s : List Int) : Prop := w.heap[b]? = some (.cells (s.map (Value.int .u32)).toArray t (0, 0))
theorem Ar.kept {w w' : World} {b : Nat} {t : TypeId} {s : List Int} {S : List Nat} (h : Ar w b t s) (k : Kp S w w') (hb : b ∉ S) : Ar w' b t s := k.heap h hb
theorem Ar.lt {w : World} {b : Nat} {t : TypeId} {s : List Int} (h : Ar w b t s) : b < w.heap.size := (Array.getElem?_eq_some_iff.1 h).1
theorem Ar.drewN {w : World} {b : Nat} {t : TypeId} {s : List Int} (h : Ar w b t s) (n : Nat) : Ar (w.drewN n) b t s := h
theorem Ar.cell {w : World} {b : Nat} {t : TypeId} {s : List Int} (h : Ar w b t s) (i : Nat) (hi : i < s.length) : w.cell? ⟨b, i, none⟩ = some (.int .u32 (s.getD i 0)) := by
  rw [cell_of_row w b i _ t (0, 0) h]
  simp [List.getElem?_eq_getElem hi]
theorem Ar.frozen {w : World} {b : Nat} {t : TypeId} {s : List Int} (h : Ar w b t s) (i : Nat) : w.frozen? ⟨b, i, none⟩ = false := frozen_of_row w b i _ t h
theorem Ar.set {w : World} {b : Nat} {t : TypeId} {s : List Int} (h : Ar w b t s) (i : Nat) (x : Int) : Ar (w.setCell ⟨b, i, none⟩ (.int .u32 x)) b t (s.set i x) := by
  have := heap_setCell_same w b i _ t (.int .u32 x) h
  unfold Ar
  rw [this]
  simp [List.map_set]
section
variable {ops : Array Oper} {rest : List Oper} {o : Oper} {a : Act} {w : World} {Q : Exit → Act → World → Prop}
theorem wpList_box_ar (hgd : o.guard = none) (ty : TypeId) (x : Operand) (ho : o.op = .box ty x) (s : List Int) (hx : a.eval x = ag s)
    (h : ∀ w', Ar w' w.heap.size ty s → Kp [] w w' → w'.heap.size = w.heap.size + 1 → wpList Tryz.prog ops Q rest (a.put o.dst (.pointer (some ⟨w.heap.size, 0, none⟩))) w') : wpList Tryz.prog ops Q (o :: rest) a w := by
  refine wpList_plain hgd fun K hK => ?_
  have e : (Instr.box ty (ag s)).run Tryz.prog w = .ok (.pointer (some ⟨w.heap.size, 0, none⟩)) (w.alloc (.cells (s.map (Value.int .u32)).toArray ty)) := by
    simp [Instr.box, newVar, ag, Value.cells, go_sem]
  unfold Oper.wp execOp
  simp only [ho, hx, Sem.run_bind, e, Sem.run_pure, Result.andThen_ok]
  exact hK _ _ (h _ (heap_alloc_new w _) ((Kp.refl [] w).alloc _) (by simp))
theorem wpList_alloc_ar (hgd : o.guard = none) (ty : TypeId) (ho : o.op = .alloc ty) (i : TypeInfo) (s : List Int) (hi : Tryz.prog.info? ty = some i) (hz : i.zero = some (ag s))
    (h : ∀ w', Ar w' w.heap.size ty s → Kp [] w w' → w'.heap.size = w.heap.size + 1 → wpList Tryz.prog ops Q rest (a.put o.dst (.pointer (some ⟨w.heap.size, 0, none⟩))) w') : wpList Tryz.prog ops Q (o :: rest) a w := by
  refine wpList_plain hgd fun K hK => ?_
  have e : (Instr.alloc ty true (.tuple #[])).run Tryz.prog w = .ok (.pointer (some ⟨w.heap.size, 0, none⟩)) (w.alloc (.cells (s.map (Value.int .u32)).toArray ty)) := by
    simp [Instr.alloc, zeroValue, typeInfo, hi, hz, newVar, ag, Value.cells, go_sem]
  unfold Oper.wp execOp
  simp only [ho, Sem.run_bind, e, Sem.run_pure, Result.andThen_ok]
  exact hK _ _ (h _ (heap_alloc_new w _) ((Kp.refl [] w).alloc _) (by simp))
theorem wpList_load_ar (hgd : o.guard = none) (ty : TypeId) (x : Operand) (ho : o.op = .load ty x) (b : Nat) (hx : a.eval x = .pointer (some ⟨b, 0, none⟩)) (t : TypeId) (s : List Int) (n : Nat) (e : TypeId) (hA : Ar w b t s)
    (hu : Tryz.prog.underlying ty = some (.array n e)) (hi : (Tryz.prog.info? ty).map (·.size) = some s.length)
    (h : wpList Tryz.prog ops Q rest (a.put o.dst (ag s)) w) : wpList Tryz.prog ops Q (o :: rest) a w :=
  wpList_load_row hgd ty x ho b hx t _ (0, 0) (.array n e) hA hu rfl (by simpa using hi) h
theorem kp_setCells (w : World) (b : Nat) : ∀ (vs : List Value) (o : Nat) (w1 : World), Kp [b] w w1 → Kp [b] w (w1.setCells b o vs)
  | [], _, _, h => h
  | v :: r, o, w1, h => kp_setCells w b r (o + 1) _ (h.setCell (p := ⟨b, o, none⟩) (.inl (by simp)) v)
theorem ar_setCells (b : Nat) (t : TypeId) (ys : List Int) : ∀ (o : Nat) (s : List Int) (w : World), Ar w b t s → o + ys.length = s.length → Ar (w.setCells b o (ys.map (Value.int .u32))) b t (s.take o ++ ys) := by
  induction ys with
  | nil =>
    intro o s w h hl
    simp only [List.length_nil, Nat.add_zero] at hl
    simp only [List.map_nil, World.setCells, List.append_nil]
    rw [List.take_of_length_le (by omega)]
    exact h
  | cons y ys ih =>
    intro o s w h hl
    simp only [List.map_cons, World.setCells]
    have := ih (o + 1) (s.set o y) _ (h.set o y) (by simp at hl ⊢; omega)
    rw [List.take_succ_eq_append_getElem (by simp at hl ⊢; omega), List.take_set_of_le (Nat.le_refl _), List.getElem_set_self, List.append_assoc] at this
    exact this
theorem wpList_store_ar (hgd : o.guard = none) (ty : TypeId) (x y : Operand) (ho : o.op = .store ty x y) (b : Nat) (hx : a.eval x = .pointer (some ⟨b, 0, none⟩)) (t : TypeId) (s0 s : List Int) (hA : Ar w b t s0) (hy : a.eval y = ag s) (hl : s0.length = s.length)
    (hi : (Tryz.prog.info? ty).map (·.size) = some s.length)
    (h : ∀ w', Ar w' b t s → Kp [b] w w' → w'.heap.size = w.heap.size → wpList Tryz.prog ops Q rest (a.put o.dst undef) w') : wpList Tryz.prog ops Q (o :: rest) a w := by
  refine wpList_store_mid hgd ty x y ho b 0 (s.map (Value.int .u32)).toArray hx hy ?_ (by simpa using hi) (all_oneCell_toArray (by simp [Value.oneCell'])) ?_
  · intro j hj
    simp only [List.size_toArray, List.length_map] at hj
    rw [Nat.zero_add, hA.cell j (by omega)]
    exact ⟨rfl, hA.frozen j⟩
  · refine h _ ?_ (kp_setCells w b _ 0 w (Kp.refl _ _)) ?_
    · have := ar_setCells b t s 0 s0 w hA (by omega)
      simpa using this
    · have : ∀ (vs : List Value) (o : Nat) (w1 : World), (w1.setCells b o vs).heap.size = w1.heap.size := by
        intro vs
        induction vs with
        | nil => intro o w1; rfl
        | cons v r ih => intro o w1; simp only [World.setCells]; rw [ih]; simp [World.setCell]
      exact this _ _ _
end
theorem Tryz.sz64 : (Tryz.prog.info? 167).map (·.size) = some 64 := by kernel_rfl
theorem Tryz.sz8 : (Tryz.prog.info? 166).map (·.size) = some 8 := by kernel_rfl
theorem Tryz.zero64 : ∃ i, Tryz.prog.info? 167 = some i ∧ i.zero = some (ag (List.replicate 64 0)) := by
  have h : (Tryz.prog.info? 167).map (·.zero) = some (some (ag (List.replicate 64 0))) := by kernel_rfl
  exact Option.map_eq_some_iff.1 h
theorem Tryz.zero8 : ∃ i, Tryz.prog.info? 166 = some i ∧ i.zero = some (ag (List.replicate 8 0)) := by
  have h : (Tryz.prog.info? 166).map (·.zero) = some (some (ag (List.replicate 8 0))) := by kernel_rfl
  exact Option.map_eq_some_iff.1 h
end Go.Proofs.YteabdojjllfcpaaGreat

/-
  Single operations of a region that only makes memory.
-/
namespace Go.Proofs.YteabdojjllfcpaaGreat
open Go.RowKit
/-- The value is c. -/
def Is (c : Value) : Tell := fun v _ => v = c
/-- The value is a slice that reads as these bytes. -/
def SlT (bs : List Int) : Tell := fun v w => Sl w v bs
theorem stable_is (c : Value) : Tell.stable (Is c) := fun _ _ _ _ h => h
theorem stable_sl (bs : List Int) : Tell.stable (SlT bs) := fun _ _ _ k h => h.kept k (by simp)
section
variable {P : Program} {ops : Array Oper} {o : Oper} {a : Act} {w : World} {R : Tell}
theorem wants_plain (hg : o.guard = none) (h : grown P w R ((execOp a.eval o).run P w)) : wants P ops o a w R := by
  unfold wants
  rw [if_pos (by simp [Region.wanted, hg])]
  exact h
theorem wanted_iff {g : Nat} {b b' : Bool} {d : Tmp} (hg : o.guard = some (g, b)) (hd : (ops[g]?).bind (·.dst) = some d) (he : a.eval (.tmp d) = .bool b') : Region.wanted o (yielded ops a.tmps) = (b' == b) := by
  have h1 : a.tmps[d]? = some (.bool b') := by
    rcases Nat.lt_or_ge d a.tmps.size with h | h
    · simp [Act.eval, h] at he ⊢; exact he
    · simp [Act.eval, Array.getElem?_eq_none h, undef] at he
  have h2 : yielded ops a.tmps g = some b' := by
    unfold yielded
    rw [hd]
    simp only [Option.bind_some, h1]
  simp only [Region.wanted, hg, h2]
  cases b <;> cases b' <;> rfl
theorem wants_guard {g : Nat} {b : Bool} {d : Tmp} (hg : o.guard = some (g, b)) (hd : (ops[g]?).bind (·.dst) = some d) (he : a.eval (.tmp d) = .bool b) (h : grown P w R ((execOp a.eval o).run P w)) : wants P ops o a w R := by
  unfold wants
  rw [if_pos (by rw [wanted_iff hg hd he]; simp)]
  exact h
theorem grown_move (x : Operand) (ho : o.op = .move x) (h : R (a.eval x) w) : grown P w R ((execOp a.eval o).run P w) := by
  unfold execOp; simp only [ho]; exact ⟨Kp.refl _ _, h⟩
theorem grown_assign (x : Operand) (ho : o.op = .assign x) (h : R (a.eval x) w) : grown P w R ((execOp a.eval o).run P w) := by
  unfold execOp; simp only [ho]; exact ⟨Kp.refl _ _, h⟩
theorem grown_pick (c x y : Operand) (b : Bool) (ho : o.op = .pick c x y) (hc : a.eval c = .bool b) (h : R (if b then a.eval x else a.eval y) w) : grown P w R ((execOp a.eval o).run P w) := by
  unfold execOp; simp only [ho, hc, asBool]; exact ⟨Kp.refl _ _, h⟩
theorem grown_run {v : Value} {w' : World} (h : (execOp a.eval o).run P w = .ok (.value v) w') (hk : Kp [] w w') (hR : R v w') : grown P w R ((execOp a.eval o).run P w) := by
  rw [h]; exact ⟨hk, hR⟩
theorem grown_call {f : FuncId} {fn : Func} {xs : Array Operand} {ats : Array TypeId} (ho : o.op = .call { callee := .value (.func f), args := xs, argTypes := ats }) (hf : P.funcs[f]? = some fn) (hn : (fn.name == "runtime.NumGoroutine") = false) (hb : fn.body.isNone = false)
    (h : Calls P f (xs.map a.eval) w fun e w' => ∃ v, e = .returned v ∧ Kp [] w w' ∧ R v w') : grown P w R ((execOp a.eval o).run P w) := by
  have e : (execOp a.eval o).run P w = .ok (.enter f (xs.map a.eval)) w := by
    obtain ⟨dst, op, ty, pos, after, guard⟩ := o
    simp only at ho
    subst ho
    rw [execOp_call_go]
    have h1 : fn.name ≠ "runtime.NumGoroutine" := by simpa using hn
    have h2 : ¬ fn.body = none := by intro h2; rw [h2] at hb; cases hb
    simp [callFunc, hf, h1, h2]
  rw [e]
  exact h
end
theorem steps_cons {P : Program} {ops : Array Oper} {a0 : Act} {w0 : World} {Rs : List Tell} {o : Oper} {l : List Oper} {ks : List (Tmp × Option Nat)} {kss : List (List (Tmp × Option Nat))} {R : Tell} {rs : List Tell}
    (h1 : ∀ a w, Kp [] w0 w → Knows a0 Rs a w ks → wants P ops o a w R) (h2 : StepsR P ops a0 w0 Rs l kss rs) : StepsR P ops a0 w0 Rs (o :: l) (ks :: kss) (R :: rs) := ⟨h1, h2⟩
theorem fin_nil {Q : Exit → Act → World → Prop} {a : Act} {w : World} (h : Q .normal a w) : FinR Q [] [] a w := h
theorem eval_is (a : Act) : ∃ ρ : Operand → Value, a.eval = ρ ∧ (∀ v, ρ (.const v) = v) ∧ (∀ f, ρ (.func f) = .func (.func f) #[] #[]) ∧ ∀ g, ρ (.global g) = .pointer (some ⟨g, 0, none⟩) := ⟨_, rfl, fun _ => rfl, fun _ => rfl, fun _ => rfl⟩
end Go.Proofs.YteabdojjllfcpaaGreat

/-
  Chapter 13 as plain functions: how records lie, and what is read of any bytes.
-/
namespace Go.Proofs.YteabdojjllfcpaaGreat
/-- four bytes of a number, the highest first. -/
def bq (n : Int) : List Int := [n / 16777216 % 256, n / 65536 % 256, n / 256 % 256, n % 256]
theorem bq_len (n : Int) : (bq n).length = 4 := rfl
theorem bq_bs (n : Int) : Bs (bq n) := fun b hb => by
  rcases (by simpa [bq] using hb : b = n / 16777216 % 256 ∨ b = n / 65536 % 256 ∨ b = n / 256 % 256 ∨ b = n % 256) with rfl | rfl | rfl | rfl <;> omega
theorem val_bq {n : Int} (h0 : 0 ≤ n) (h1 : n ≤ 4294967295) : val (bq n) = n := by
  unfold val bq
  simp only [List.foldl_cons, List.foldl_nil]
  omega
/-- A record as it lies. -/
def recP (r : List Int) : List Int := bq r.length ++ bq (4294967295 - r.length) ++ r
def layP (l : List (List Int)) : List Int := (l.map recP).flatten
theorem recP_len (r : List Int) : (recP r).length = 8 + r.length := by simp [recP, bq_len]; omega
theorem layP_cons (r : List Int) (l : List (List Int)) : layP (r :: l) = recP r ++ layP l := rfl
theorem layP_snoc (a : List (List Int)) (r : List Int) : layP (a ++ [r]) = layP a ++ recP r := by simp [layP]
theorem recP_bs {r : List Int} (h : Bs r) : Bs (recP r) := fun b hb => by
  rcases List.mem_append.1 hb with hb | hb
  · rcases List.mem_append.1 hb with hb | hb
    · exact bq_bs _ b hb
    · exact bq_bs _ b hb
  · exact h b hb
/-- the two numbers at the beginning. -/
def num1 (b : List Int) : Int := val (b.take 4)
def num2 (b : List Int) : Int := val ((b.drop 4).take 4)
/-- What is read of any bytes, by a number of steps. -/
def opnF : Nat → List Int → List (List Int) × Nat × Bool
  | 0, _ => ([], 0, true)
  | f + 1, b =>
    if b.length < 8 then ([], 0, true)
    else if num2 b ≠ 4294967295 - num1 b ∨ 65535 < num1 b then ([], 0, false)
    else if ((b.length - 8 : Nat) : Int) < num1 b then ([], 0, true)
    else ((b.drop 8).take (num1 b).toNat :: (opnF f (b.drop (8 + (num1 b).toNat))).1, 8 + (num1 b).toNat + (opnF f (b.drop (8 + (num1 b).toNat))).2.1, (opnF f (b.drop (8 + (num1 b).toNat))).2.2)
/-- What is read of any bytes: the records, where they end, and whether what is left is nothing or torn. -/
def opnP (b : List Int) : List (List Int) × Nat × Bool := opnF (b.length + 1) b
theorem opnF_fuel : ∀ (f g : Nat) (b : List Int), b.length < f → b.length < g → opnF f b = opnF g b
  | 0, _, _, h, _ => by omega
  | _ + 1, 0, _, _, h => by omega
  | f + 1, g + 1, b, hf, hg => by
    unfold opnF
    by_cases h8 : b.length < 8
    · rw [if_pos h8, if_pos h8]
    · rw [if_neg h8, if_neg h8, opnF_fuel f g (b.drop (8 + (num1 b).toNat)) (by rw [List.length_drop]; omega) (by rw [List.length_drop]; omega)]
theorem opnP_eq (b : List Int) : opnP b =
    if b.length < 8 then ([], 0, true)
    else if num2 b ≠ 4294967295 - num1 b ∨ 65535 < num1 b then ([], 0, false)
    else if ((b.length - 8 : Nat) : Int) < num1 b then ([], 0, true)
    else ((b.drop 8).take (num1 b).toNat :: (opnP (b.drop (8 + (num1 b).toNat))).1, 8 + (num1 b).toNat + (opnP (b.drop (8 + (num1 b).toNat))).2.1, (opnP (b.drop (8 + (num1 b).toNat))).2.2) := by
  by_cases h8 : b.length < 8
  · show opnF (b.length + 1) b = _
    unfold opnF
    rw [if_pos h8, if_pos h8]
  · have e : opnP (b.drop (8 + (num1 b).toNat)) = opnF b.length (b.drop (8 + (num1 b).toNat)) := opnF_fuel _ _ _ (by omega) (by rw [List.length_drop]; omega)
    rw [e]
    rfl
theorem opnP_short {b : List Int} (h : b.length < 8) : opnP b = ([], 0, true) := by rw [opnP_eq, if_pos h]
theorem opnP_bad {b : List Int} (h : 8 ≤ b.length) (hb : num2 b ≠ 4294967295 - num1 b ∨ 65535 < num1 b) : opnP b = ([], 0, false) := by rw [opnP_eq, if_neg (by omega), if_pos hb]
theorem opnP_torn {b : List Int} (h : 8 ≤ b.length) (h1 : num2 b = 4294967295 - num1 b) (h2 : num1 b ≤ 65535) (h3 : ((b.length - 8 : Nat) : Int) < num1 b) : opnP b = ([], 0, true) := by rw [opnP_eq, if_neg (by omega), if_neg (by omega), if_pos h3]
theorem opnP_one {b : List Int} (h : 8 ≤ b.length) (h1 : num2 b = 4294967295 - num1 b) (h2 : num1 b ≤ 65535) (h3 : num1 b ≤ ((b.length - 8 : Nat) : Int)) :
    opnP b = ((b.drop 8).take (num1 b).toNat :: (opnP (b.drop (8 + (num1 b).toNat))).1, 8 + (num1 b).toNat + (opnP (b.drop (8 + (num1 b).toNat))).2.1, (opnP (b.drop (8 + (num1 b).toNat))).2.2) := by
  rw [opnP_eq, if_neg (by omega), if_neg (by omega), if_neg (by omega)]
theorem num1_rec (r t : List Int) (h : r.length ≤ 65535) : num1 (recP r ++ t) = r.length := by
  have e : (recP r ++ t).take 4 = bq r.length := by
    unfold recP
    rw [List.append_assoc, List.append_assoc, List.take_left' (bq_len _)]
  unfold num1
  rw [e, val_bq (by omega) (by omega)]
theorem num2_rec (r t : List Int) (h : r.length ≤ 65535) : num2 (recP r ++ t) = 4294967295 - r.length := by
  have e : ((recP r ++ t).drop 4).take 4 = bq (4294967295 - r.length) := by
    unfold recP
    rw [List.append_assoc, List.append_assoc, List.drop_left' (bq_len _), List.take_left' (bq_len _)]
  unfold num2
  rw [e, val_bq (by omega) (by omega)]
theorem rec_body (r t : List Int) : (recP r ++ t).drop 8 = r ++ t := by
  unfold recP
  rw [List.append_assoc, List.drop_left' (by simp [bq_len])]
theorem rec_rest (r t : List Int) : (recP r ++ t).drop (8 + r.length) = t := by
  rw [List.drop_left' (recP_len r)]
/-- a record ahead of whatever is read. -/
theorem opnP_rec (r t : List Int) (h : r.length ≤ 65535) : opnP (recP r ++ t) = (r :: (opnP t).1, 8 + r.length + (opnP t).2.1, (opnP t).2.2) := by
  have e1 := num1_rec r t h
  have e2 := num2_rec r t h
  have hl : (recP r ++ t).length = 8 + r.length + t.length := by rw [List.length_append, recP_len]
  rw [opnP_one (by omega) (by omega) (by omega) (by omega), e1, Int.toNat_natCast, rec_body, rec_rest, List.take_left' rfl]
theorem opnP_lay (l : List (List Int)) (t : List Int) (h : ∀ r ∈ l, r.length ≤ 65535) : opnP (layP l ++ t) = (l ++ (opnP t).1, (layP l).length + (opnP t).2.1, (opnP t).2.2) := by
  induction l with
  | nil => simp [layP]
  | cons r l ih =>
    rw [layP_cons, List.append_assoc, opnP_rec r _ (h r (by simp)), ih (fun x hx => h x (by simp [hx]))]
    simp only [List.cons_append, List.length_append, recP_len, Nat.add_assoc]
theorem opnP_nil : opnP [] = ([], 0, true) := opnP_short (by simp)
theorem opnP_all (l : List (List Int)) (h : ∀ r ∈ l, r.length ≤ 65535) : opnP (layP l) = (l, (layP l).length, true) := by
  have := opnP_lay l [] h
  rw [List.append_nil, opnP_nil] at this
  simpa using this
/-- where the records end. -/
theorem opnP_at (b : List Int) : (opnP b).2.1 ≤ b.length := by
  induction hl : b.length using Nat.strongRecOn generalizing b with
  | ind n ih =>
    subst hl
    rw [opnP_eq]
    split
    · exact Nat.zero_le _
    · split
      · exact Nat.zero_le _
      · split
        · exact Nat.zero_le _
        · have := ih (b.drop (8 + (num1 b).toNat)).length (by rw [List.length_drop]; omega) _ rfl
          rw [List.length_drop] at this
          simp only []
          omega
/-- a step of a loop that reads them. -/
theorem opnP_step (b : List Int) (at_ : Nat) (out : List (List Int)) (h : opnP b = (out ++ (opnP (b.drop at_)).1, at_ + (opnP (b.drop at_)).2.1, (opnP (b.drop at_)).2.2)) (h8 : 8 ≤ (b.drop at_).length) (h1 : num2 (b.drop at_) = 4294967295 - num1 (b.drop at_)) (h2 : num1 (b.drop at_) ≤ 65535) (h3 : num1 (b.drop at_) ≤ (((b.drop at_).length - 8 : Nat) : Int)) :
    opnP b = ((out ++ [((b.drop at_).drop 8).take (num1 (b.drop at_)).toNat]) ++ (opnP (b.drop (at_ + (8 + (num1 (b.drop at_)).toNat)))).1, (at_ + (8 + (num1 (b.drop at_)).toNat)) + (opnP (b.drop (at_ + (8 + (num1 (b.drop at_)).toNat)))).2.1, (opnP (b.drop (at_ + (8 + (num1 (b.drop at_)).toNat)))).2.2) := by
  have hd : (b.drop at_).drop (8 + (num1 (b.drop at_)).toNat) = b.drop (at_ + (8 + (num1 (b.drop at_)).toNat)) := List.drop_drop
  rw [h, opnP_one h8 h1 h2 h3, hd]
  simp only [List.append_assoc, List.cons_append, List.nil_append, Nat.add_assoc]
end Go.Proofs.YteabdojjllfcpaaGreat

/-
  Chapter 12 as plain functions: a disk of one file, what each call answers and what it leaves.
-/
namespace Go.Proofs.YteabdojjllfcpaaGreat
/-- A disk: its bytes, how many of them are synced, its limit, at which call from now on power goes (none where it is not above 0), whether power is gone. -/
structure Dk where
  bs : List Int
  syn : Nat
  lim : Int
  arm : Int
  down : Bool
namespace Dk
/-- One call of Append, Sync, Cut: may it be done, is it the one at which power goes, and the disk behind it. -/
def cal (d : Dk) : Bool × Bool × Dk :=
  if d.down then (false, false, d)
  else if 0 < d.arm then (if d.arm = 1 then (false, true, { d with arm := 0, down := true }) else (true, false, { d with arm := d.arm - 1 }))
  else (true, false, d)
def app (d : Dk) (b : List Int) : Bool × Dk :=
  if (!d.cal.1 && !d.cal.2.1) || decide (d.lim < ((d.bs.length + b.length : Nat) : Int)) then (false, d.cal.2.2)
  else (d.cal.1, { d.cal.2.2 with bs := d.bs ++ b })
def sync (d : Dk) : Bool × Dk :=
  if d.cal.1 then (true, { d.cal.2.2 with syn := d.bs.length }) else (false, d.cal.2.2)
/-- Cut: the refusal's number (0: none). -/
def cut (d : Dk) (n : Int) : Int × Dk :=
  if d.down then (13, d)
  else if n < 0 ∨ (d.bs.length : Int) < n then (1, d)
  else if d.cal.1 then (0, { d.cal.2.2 with bs := d.bs.take n.toNat, syn := n.toNat }) else (13, d.cal.2.2)
/-- How many bytes stay behind a crash. -/
def left (d : Dk) (keep : Int) : Nat := d.syn + min keep.toNat (d.bs.length - d.syn)
/-- A disk as calls make it. -/
structure Ok (d : Dk) : Prop where
  syn : d.syn ≤ d.bs.length
  fits : (d.bs.length : Int) ≤ d.lim
  lim : d.lim ≤ 1048576
theorem cal_plain {d : Dk} (h : d.down = false) (ha : d.arm ≤ 0) : d.cal = (true, false, d) := by
  unfold cal
  rw [if_neg (by rw [h]; decide), if_neg (by omega)]
theorem cal_down {d : Dk} (h : d.down = true) : d.cal = (false, false, d) := by
  unfold cal
  rw [if_pos h]
theorem app_plain {d : Dk} (h : d.down = false) (ha : d.arm ≤ 0) (b : List Int) (hf : ((d.bs.length + b.length : Nat) : Int) ≤ d.lim) : d.app b = (true, { d with bs := d.bs ++ b }) := by
  unfold app
  rw [cal_plain h ha, if_neg (by simp; omega)]
theorem app_down {d : Dk} (h : d.down = true) (b : List Int) : d.app b = (false, d) := by
  unfold app
  rw [cal_down h, if_pos (by simp)]
theorem sync_plain {d : Dk} (h : d.down = false) (ha : d.arm ≤ 0) : d.sync = (true, { d with syn := d.bs.length }) := by
  unfold sync
  rw [cal_plain h ha, if_pos rfl]
theorem cut_plain {d : Dk} (h : d.down = false) (ha : d.arm ≤ 0) (n : Int) (h0 : 0 ≤ n) (h1 : n ≤ d.bs.length) : d.cut n = (0, { d with bs := d.bs.take n.toNat, syn := n.toNat }) := by
  unfold cut
  rw [if_neg (by rw [h]; decide), if_neg (by omega), cal_plain h ha, if_pos rfl]
theorem cut_bad {d : Dk} (h : d.down = false) (n : Int) (hn : n < 0 ∨ (d.bs.length : Int) < n) : d.cut n = (1, d) := by
  unfold cut
  rw [if_neg (by rw [h]; decide), if_pos hn]
end Dk
end Go.Proofs.YteabdojjllfcpaaGreat
