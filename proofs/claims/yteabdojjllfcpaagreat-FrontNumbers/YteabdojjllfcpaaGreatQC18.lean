/-
  The contract of the program's partsOf, for whatever chooses the sides; Public and Sign.
-/
import Derived.Laws.EntriesVeiled
import Derived.Shelf.Abstract
import Derived.Test.YteabdojjllfcpaaGreatQC15
namespace Go.Proofs.YteabdojjllfcpaaGreat
open Go.RowKit
open Go.Proofs
theorem ptP_at (bs : List Int) (key : Int) (c : Nat → Nat → Bool) (k s : Nat) (hs : s < 2) : ptP bs key c (2 * k + s) = if c k s then secP bs key (k : Nat) (s : Nat) else shnP bs key (k : Nat) (s : Nat) := by
  unfold ptP
  rw [show (2 * k + s) / 2 = k by omega, show (2 * k + s) % 2 = s by omega]
end Go.Proofs.YteabdojjllfcpaaGreat

/-
  Regions that draw their order, whose operations only make memory, and mark what they made: of each operation a predicate tells what it yields, and stays true as long as cells stay; one look at each operation serves every order.
-/
namespace Go.Proofs.YteabdojjllfcpaaGreat
open Go.RowKit
/-- w' has all cells that w has. -/
structure Kc (w w' : World) : Prop where
  size : w.heap.size ≤ w'.heap.size
  cell : ∀ a v, w.cell? a = some v → w'.cell? a = some v
theorem Kc.refl (w : World) : Kc w w := ⟨Nat.le_refl _, fun _ _ h => h⟩
def grownC (P : Program) (w0 w : World) (R : Tell) : Result Next → Prop
  | .ok (.value v) w' => (Kc w w' ∧ Kp [] w0 w') ∧ R v w'
  | .ok .skip w' => (Kc w w' ∧ Kp [] w0 w') ∧ R undef w'
  | .ok (.enter f args) w' => Calls P f args w' fun e w'' => ∃ v, e = .returned v ∧ (Kc w w'' ∧ Kp [] w0 w'') ∧ R v w''
  | _ => False
/-- What one operation must do. -/
def wantsC (P : Program) (ops : Array Oper) (o : Oper) (a : Act) (w0 w : World) (R : Tell) : Prop :=
  if Region.wanted o (yielded ops a.tmps) then grownC P w0 w R ((execOp a.eval o).run P w) else R undef w
def StepsC (P : Program) (ops : Array Oper) (a0 : Act) (w0 : World) (Rs : List Tell) : List Oper → List (List (Tmp × Option Nat)) → List Tell → Prop
  | o :: l, ks :: kss, R :: rs => (∀ a w, Kp [] w0 w → Knows a0 Rs a w ks → wantsC P ops o a w0 w R) ∧ StepsC P ops a0 w0 Rs l kss rs
  | [], [], [] => True
  | _, _, _ => False
section
variable {P : Program} {l : List Oper} {Q : Exit → Act → World → Prop} {a0 : Act} {w0 : World} {Rs : List Tell} {kss : List (List (Tmp × Option Nat))} {n i : Nat} {listed : Array Bool} {a : Act} {w w' : World} {o : Oper} {R : Tell} {v : Value}
theorem StepsC.at (ops : Array Oper) : ∀ {l : List Oper} {kss : List (List (Tmp × Option Nat))} {rs : List Tell}, StepsC P ops a0 w0 Rs l kss rs → l.length = rs.length ∧ l.length = kss.length ∧ ∀ (i : Nat) o ks R, l[i]? = some o → kss[i]? = some ks → rs[i]? = some R → ∀ a w, Kp [] w0 w → Knows a0 Rs a w ks → wantsC P ops o a w0 w R
  | [], [], [], _ => ⟨rfl, rfl, fun i o ks R h => by simp at h⟩
  | o :: l, ks :: kss, R :: rs, h => by
    obtain ⟨h1, h2, h3⟩ := StepsC.at ops h.2
    refine ⟨by simp [h1], by simp [h2], fun i o' ks' R' ho hk hR => ?_⟩
    cases i with
    | zero =>
      simp at ho hk hR
      subst ho; subst hk; subst hR
      exact h.1
    | succ i => exact h3 i o' ks' R' (by simpa using ho) (by simpa using hk) (by simpa using hR)
  | [], [], _ :: _, h => h.elim
  | [], _ :: _, [], h => h.elim
  | [], _ :: _, _ :: _, h => h.elim
  | _ :: _, [], [], h => h.elim
  | _ :: _, [], _ :: _, h => h.elim
  | _ :: _, _ :: _, [], h => h.elim
end
end Go.Proofs.YteabdojjllfcpaaGreat

/-
  The law's helpers: on, opens, known.
-/
namespace Go.Proofs.YteabdojjllfcpaaGreat
open Go.ChangeShapes Go.WideShapes Go.ChangeAt Go.RowKit
open Go.Proofs
open Go.Deep
set_option linter.unusedVariables false
/-- Open, by the bytes. -/
theorem open_at {w0 w : World} {p : Nat} {v : Value} {d : Dk} (h : Nw w0 w p v d) (hd : d.down = false) (ha : d.arm ≤ 0) (b : List Int) (hb : d.bs = b) :
    Calls Tryz.prog 32 #[.pointer (some ⟨p, 0, none⟩)] w fun e w' =>
      ((opnP b).2.2 = true ∧ ∃ j v' ao m c l, e = .returned (.tuple #[.pointer (some ⟨j, 0, none⟩), .slice ao m c, .int .i64 0]) ∧ Jn w0 w' p v' d.opn j (opnP b).1.length ∧ w.heap.size ≤ j ∧ DSt p w v w' v' ∧ Pj w' w.heap.size (.slice ao m c) l p j v' ∧ l.map (·.2) = (opnP b).1 ∧ m = (opnP b).1.length) ∨
      ((opnP b).2.2 = false ∧ e = .returned (.tuple #[.pointer none, .slice none 0 0, .int .i64 14]) ∧ Nw w0 w' p v d ∧ Kp [] w w') := by
  subst hb
  exact open_any h hd ha
/-- a disk with these bytes, synced. -/
def dkOn (b : List Int) : Dk := ⟨b, b.length, 1048576, 0, false⟩
theorem open_ok {w0 w : World} {p : Nat} {v : Value} {d d' : Dk} (h : Nw w0 w p v d) (hd : d.down = false) (ha : d.arm ≤ 0) {b : List Int} (hb : d.bs = b) {rs : List (List Int)} {at_ : Nat} (ho : opnP b = (rs, at_, true)) (hd' : d.opn = d') :
    Calls Tryz.prog 32 #[.pointer (some ⟨p, 0, none⟩)] w fun e w' =>
      ∃ j v' ao c l, e = .returned (.tuple #[.pointer (some ⟨j, 0, none⟩), .slice ao rs.length c, .int .i64 0]) ∧ Jn w0 w' p v' d' j rs.length ∧ w.heap.size ≤ j ∧ DSt p w v w' v' ∧ Pj w' w.heap.size (.slice ao rs.length c) l p j v' ∧ l.map (·.2) = rs := by
  refine (open_at h hd ha b hb).mono ?_
  rw [ho, hd']
  rintro e w' (⟨-, j, v', ao, m, c, l, rfl, h1, h2, h3, h4, h5, rfl⟩ | ⟨hf, -⟩)
  · exact ⟨j, v', ao, c, l, rfl, h1, h2, h3, h4, h5⟩
  · cases hf
end Go.Proofs.YteabdojjllfcpaaGreat

/-
  Few of the law package, plainly; what the laws of the journal share.
-/
namespace Go.Proofs.YteabdojjllfcpaaGreat
open Go.RowKit
open Go.Proofs
theorem Lists.at {w : World} {v : Value} {l : List (Value × List Int)} (h : Lists w v l) (x : Value × List Int) (hx : x ∈ l) : Sl w x.1 x.2 ∧ Bs x.2 := by
  obtain ⟨_, _, _, _, hc⟩ := h
  obtain ⟨i, hi, rfl⟩ := List.getElem_of_mem hx
  obtain ⟨_, _, _, _, h1, h2⟩ := hc i hi
  exact ⟨h1, h2⟩
end Go.Proofs.YteabdojjllfcpaaGreat

/-
  Arguments of the laws of the journal: slices of truths, slices of asks.
-/
namespace Go.Proofs.YteabdojjllfcpaaGreat
open Go.RowKit
open Go.Proofs
open Go.Deep Go.ChangeShapes Go.WideShapes
namespace Dk
theorem add_on (b x : List Int) (h : b.length + x.length ≤ 1048576) : (dkOn b).add x = (true, dkOn (b ++ x)) := by
  have h1 : (dkOn b).app x = (true, ⟨b ++ x, b.length, 1048576, 0, false⟩) := app_plain (d := dkOn b) rfl (Int.le_refl 0) x (by show ((b.length + x.length : Nat) : Int) ≤ 1048576; omega)
  unfold add
  rw [h1, if_pos rfl]
  exact sync_plain (d := ⟨b ++ x, b.length, 1048576, 0, false⟩) rfl (Int.le_refl 0)
theorem opn_all (ls : List (List Int)) (h : ∀ r ∈ ls, r.length ≤ 65535) : (dkOn (layP ls)).opn = dkOn (layP ls) := by
  unfold opn
  have e : (dkOn (layP ls)).bs = layP ls := rfl
  rw [e, opnP_all ls h, if_neg (by show ¬ (layP ls).length < (layP ls).length; omega)]
end Dk
def Bools (w : World) (v : Value) (l : List Bool) : Prop :=
  ∃ ao c, v = .slice ao l.length c ∧ l.length ≤ 9223372036854775807 ∧ ∀ i (h : i < l.length), ∃ b off, ao = some ⟨b, off, none⟩ ∧ w.cell? ⟨b, off + i, none⟩ = some (.bool l[i])
theorem Bools.kept {w w' : World} {v : Value} {l : List Bool} (h : Bools w v l) (k : Kp [] w w') : Bools w' v l := by
  obtain ⟨ao, c, rfl, h1, h2⟩ := h
  refine ⟨ao, c, rfl, h1, fun i hi => ?_⟩
  obtain ⟨b, off, e, h3⟩ := h2 i hi
  exact ⟨b, off, e, k.cell h3 (by simp)⟩
/-- one ask as data. -/
structure AskJ where
  kind : Int
  v : Value
  bs : List Int
def AskJAt (w : World) (b o : Nat) (x : AskJ) : Prop :=
  w.rangeAt b o [.int .i64 x.kind, x.v] ∧ Sl w x.v x.bs ∧ Bs x.bs
def AskJs (w : World) (v : Value) (l : List AskJ) : Prop :=
  ∃ ao c, v = .slice ao l.length c ∧ l.length ≤ 9223372036854775807 ∧ ∀ i (h : i < l.length), ∃ b off, ao = some ⟨b, off, none⟩ ∧ AskJAt w b (off + i * 2) l[i]
theorem AskJAt.kept {w w' : World} {b o : Nat} {x : AskJ} (h : AskJAt w b o x) (k : Kp [] w w') : AskJAt w' b o x :=
  ⟨fun j u hu => k.cell (h.1 j u hu) (by simp), h.2.1.kept k (by simp), h.2.2⟩
theorem AskJs.kept {w w' : World} {v : Value} {l : List AskJ} (h : AskJs w v l) (k : Kp [] w w') : AskJs w' v l := by
  obtain ⟨ao, c, rfl, h1, h2⟩ := h
  refine ⟨ao, c, rfl, h1, fun i hi => ?_⟩
  obtain ⟨b, off, e, h3⟩ := h2 i hi
  exact ⟨b, off, e, h3.kept k⟩
section
variable {H : Type} {enc : TypeId × Value → H} {w : World}
end
end Go.Proofs.YteabdojjllfcpaaGreat

/-
  Lists gathered behind one another; records cut off by a crash.
-/
namespace Go.Proofs.YteabdojjllfcpaaGreat
open Go.RowKit
open Go.Proofs
theorem RowV.room {w : World} {base m c : Nat} {ao : Option Addr} {xs : List Value} (h : RowV w base (.slice ao m c) xs) : m ≤ c ∧ m = xs.length := by
  have hm := h.len
  rcases h.2 with ⟨h', h0⟩ | ⟨g, cap, cur, h', hb, hg, hc, -⟩
  · injection h' with h1 h2 h3
    exact ⟨by omega, hm⟩
  · injection h' with h1 h2 h3
    exact ⟨by omega, hm⟩
end Go.Proofs.YteabdojjllfcpaaGreat

/-
  Chapter 14 as plain functions: the records of the first keys.
-/
namespace Go.Proofs.YteabdojjllfcpaaGreat
/-- the records of the first n keys. -/
def keyL (n : Nat) : List (List Int) := (List.range n).map (fun (i : Nat) => [(i : Int)])
theorem keyL_len (n : Nat) : (keyL n).length = n := by simp [keyL]
theorem keyL_succ (n : Nat) : keyL (n + 1) = keyL n ++ [[(n : Int)]] := by simp [keyL, List.range_succ]
theorem keyL_get {n i : Nat} (h : i < n) : (keyL n)[i]'(by rw [keyL_len]; exact h) = [(i : Int)] := by simp [keyL]
theorem keyL_short (n : Nat) : ∀ r ∈ keyL n, r.length ≤ 65535 := fun r hr => by
  obtain ⟨i, -, rfl⟩ := List.mem_map.1 hr
  simp
/-- their bytes. -/
def klay (n : Nat) : List Int := layP (keyL n)
theorem klay_succ (n : Nat) : klay (n + 1) = klay n ++ recP [(n : Int)] := by unfold klay; rw [keyL_succ, layP_snoc]
theorem klay_len (n : Nat) : (klay n).length = 9 * n := by
  induction n with
  | zero => rfl
  | succ n ih => rw [klay_succ, List.length_append, ih, recP_len]; simp; omega
theorem klay_opn (n : Nat) : opnP (klay n) = (keyL n, 9 * n, true) := by
  have := opnP_all (keyL n) (keyL_short n)
  rw [← klay_len n]
  exact this
theorem klay_dk (n : Nat) : (dkOn (klay n)).opn = dkOn (klay n) := Dk.opn_all (keyL n) (keyL_short n)
/-- are these the records of the first keys. -/
def inOrd (rs : List (List Int)) : Bool := decide (rs.length ≤ 16) && decide (rs = keyL rs.length)
theorem inOrd_key {n : Nat} (h : n ≤ 16) : inOrd (keyL n) = true := by simp [inOrd, keyL_len, h]
theorem inOrd_eq {rs : List (List Int)} (h : inOrd rs = true) : rs.length ≤ 16 ∧ rs = keyL rs.length := by simpa [inOrd] using h
/-- up to place i they are. -/
def ordTo (rs : List (List Int)) (i : Nat) : Prop := rs.take i = keyL i
theorem ordTo_zero (rs : List (List Int)) : ordTo rs 0 := by simp [ordTo, keyL]
theorem ordTo_succ {rs : List (List Int)} {i : Nat} (h : ordTo rs i) (hi : i < rs.length) (e : rs[i] = [(i : Int)]) : ordTo rs (i + 1) := by
  unfold ordTo at h ⊢
  rw [List.take_succ_eq_append_getElem hi, h, e, keyL_succ]
theorem ordTo_all {rs : List (List Int)} (h : ordTo rs rs.length) (h16 : rs.length ≤ 16) : inOrd rs = true := by
  unfold ordTo at h
  rw [List.take_length] at h
  simp only [inOrd, Bool.and_eq_true, decide_eq_true_eq]
  exact ⟨h16, h⟩
theorem inOrd_not {rs : List (List Int)} {i : Nat} (hi : i < rs.length) (e : rs[i] ≠ [(i : Int)]) : inOrd rs = false := by
  cases h : inOrd rs with
  | false => rfl
  | true =>
    obtain ⟨-, h2⟩ := inOrd_eq h
    have h3 : rs[i]? = (keyL rs.length)[i]? := by rw [← h2]
    rw [List.getElem?_eq_getElem hi, List.getElem?_eq_getElem (by rw [keyL_len]; exact hi), keyL_get hi] at h3
    exact absurd (Option.some.inj h3) e
namespace Dk
end Dk
end Go.Proofs.YteabdojjllfcpaaGreat

/-
  Package keys: a box in memory; Open, Take, Next, Left.
-/
namespace Go.Proofs.YteabdojjllfcpaaGreat
open Go.RowKit
open Go.Proofs
set_option linter.unusedVariables false
/-- the box at q: its journal at j, the next key. -/
def Kb (w : World) (q j : Nat) (n : Int) : Prop := w.heap[q]? = some (.cells #[.pointer (some ⟨j, 0, none⟩), .int .i64 n] 122 (0, 0))
theorem Kb.kept {w w' : World} {q j : Nat} {n : Int} {S : List Nat} (h : Kb w q j n) (k : Kp S w w') (hq : q ∉ S) : Kb w' q j n := k.heap h hq
theorem Kb.lt {w : World} {q j : Nat} {n : Int} (h : Kb w q j n) : q < w.heap.size := (Array.getElem?_eq_some_iff.1 h).1
theorem Kb.off {w : World} {q j : Nat} {n : Int} {base p' : Nat} {v : Value} {d : Dk} (h : Kb w q j n) (D : DskP w base p' v d) : q ∉ dfp p' v := fun hm => by
  rcases mem_dfp.1 hm with rfl | hm
  · have h2 := D.here
    unfold Fv at h2
    unfold Kb at h
    rw [h2] at h
    injection h with h
    injection h with h3
    have := congrArg Array.size h3
    simp at this
  · obtain ⟨c, hc⟩ := row_typ D.row hm
    unfold Kb at h
    rw [hc] at h
    injection h with h
    injection h with _ h3
    cases h3
theorem Kb.c0 {w : World} {q j : Nat} {n : Int} (h : Kb w q j n) : w.cell? ⟨q, 0, none⟩ = some (.pointer (some ⟨j, 0, none⟩)) := by rw [cell_of_row w q 0 _ _ _ h]; rfl
theorem Kb.c1 {w : World} {q j : Nat} {n : Int} (h : Kb w q j n) : w.cell? ⟨q, 1, none⟩ = some (.int .i64 n) := by rw [cell_of_row w q 1 _ _ _ h]; rfl
theorem Kb.f {w : World} {q j : Nat} {n : Int} (h : Kb w q j n) (i : Nat) : w.frozen? ⟨q, i, none⟩ = false := by
  unfold World.frozen?
  unfold Kb at h
  simp [h]
theorem Kb.s1 {w : World} {q j : Nat} {n : Int} (h : Kb w q j n) (m : Int) : Kb (w.setCell ⟨q, 1, none⟩ (.int .i64 m)) q j m := by
  have := set_at h 1 (.int .i64 m)
  simpa [Kb] using this
/-- a disk made since w0. -/
def Nx (w0 w : World) (p : Nat) (d : Dk) : Prop := ∃ v, Nw w0 w p v d
/-- A box on its disk, both made since w0: the next key n; of its journal's count no more than k. -/
def Bx (w0 w : World) (p : Nat) (d : Dk) (q n k : Nat) : Prop := ∃ v j m, m ≤ k ∧ Jn w0 w p v d j m ∧ Kb w q j n ∧ w0.heap.size ≤ q
section
variable {w0 w w' : World} {p q n k : Nat} {d d' : Dk}
theorem Nx.kp (h : Nx w0 w p d) : Kp [] w0 w := by obtain ⟨v, h⟩ := h; exact h.kp
theorem Nx.on (h : Nx w0 w p d) (g : Kp [] w w') : Nx w0 w' p d := by obtain ⟨v, h⟩ := h; exact ⟨v, h.on g⟩
theorem Bx.nx (h : Bx w0 w p d q n k) : Nx w0 w p d := by obtain ⟨v, j, m, -, h, -⟩ := h; exact ⟨v, h.nw⟩
theorem Bx.kp (h : Bx w0 w p d q n k) : Kp [] w0 w := h.nx.kp
theorem Bx.on (h : Bx w0 w p d q n k) (g : Kp [] w w') : Bx w0 w' p d q n k := by
  obtain ⟨v, j, m, h1, h2, h3, h4⟩ := h
  exact ⟨v, j, m, h1, h2.on g, h3.kept g (by simp), h4⟩
theorem Bx.more {k' : Nat} (h : Bx w0 w p d q n k) (hk : k ≤ k') : Bx w0 w p d q n k' := by
  obtain ⟨v, j, m, h1, h2⟩ := h
  exact ⟨v, j, m, by omega, h2⟩
/-- the disk takes a step beside the box. -/
theorem Bx.disk {v v' : Value} (h : ∃ j m, m ≤ k ∧ Jn w0 w p v d j m ∧ Kb w q j n ∧ w0.heap.size ≤ q) (g : Nw w0 w' p v' d') (t : DSt p w v w' v') : Bx w0 w' p d' q n k := by
  obtain ⟨j, m, h1, h2, h3, h4⟩ := h
  exact ⟨v', j, m, h1, h2.disk g t, h3.kept t.1 (h3.off h2.nw.dk), h4⟩
end
end Go.Proofs.YteabdojjllfcpaaGreat

/-
  Package keys: inOrder, Open.
-/
namespace Go.Proofs.YteabdojjllfcpaaGreat
open Go.RowKit
open Go.Proofs
set_option linter.unusedVariables false
theorem ordTo_snoc {rs : List (List Int)} {i : Nat} (h : ordTo rs i) (e : rs[i]? = some [(i : Int)]) : ordTo rs (i + 1) := by
  obtain ⟨hi, e⟩ := List.getElem?_eq_some_iff.1 e
  exact ordTo_succ h hi e
theorem inOrd_no {rs : List (List Int)} {i : Nat} {x : List Int} (e : rs[i]? = some x) (hx : x ≠ [(i : Int)]) : inOrd rs = false := by
  obtain ⟨hi, e⟩ := List.getElem?_eq_some_iff.1 e
  exact inOrd_not hi (by rw [e]; exact hx)
set_option maxRecDepth 100000 in
set_option maxHeartbeats 2000000 in
theorem inOrder_any (vl : Value) (l : List (Value × List Int)) (w : World) (hL : Lists w vl l) (rs : List (List Int)) (hrs : l.map (·.2) = rs) (h16 : l.length ≤ 16) :
    Calls Tryz.prog 65 #[vl] w fun e w' => e = .returned (.bool (inOrd rs)) ∧ Kp [] w w' := by
  obtain ⟨al, cl, rfl, -, hcell⟩ := hL
  have HC := hide hcell
  have hn16 : (l.length : Int) ≤ 16 := by omega
  have hn16' : ¬ (16 : Int) < (l.length : Int) := by omega
  have hlr : l.length = rs.length := by rw [← hrs]; simp
  have hget : Hid (∀ i (h : i < l.length), rs[i]? = some l[i].2) := fun i h => by
    subst hrs
    simp [List.getElem?_eq_getElem h]
  have HLR := hide hlr
  clear hcell hrs
  obtain ⟨n, hn⟩ : ∃ n, n = l.length := ⟨_, rfl⟩
  rw [← hn] at hn16 hn16' ⊢
  have HN := hide hn
  clear hn hlr
  go_enter Tryz.func65, Tryz.ntmps65
  go_wp2_with fail
  go_loopw [10] (fun i wr => ∃ k : Nat, k ≤ n ∧ i = .int .i64 k ∧ ordTo rs k ∧ Kp [] w wr) (fun i _ => n - (intOf i).toNat)
  case atStart => exact ⟨0, by omega, rfl, ordTo_zero _, Kp.refl _ _⟩
  case round =>
    obtain ⟨k, hk, rfl, hO, K⟩ := hrel
    have HO := hide hO
    have HK := hide K
    clear hO
    by_cases hlt : k < n
    · have hlt' : (k : Int) < (n : Int) := by omega
      have hkl : k < l.length := by have := HN.out; omega
      obtain ⟨b, off, rfl, hc, hS, hB⟩ := HC.out k hkl
      have hcw := K.cell hc (by simp)
      have hSw := hS.kept K (by simp)
      have hrk : rs[k]? = some l[k].2 := hget.out k hkl
      obtain ⟨x, hx⟩ : ∃ x, x = l[k] := ⟨_, rfl⟩
      rw [← hx] at hcw hSw hrk hB
      obtain ⟨x1, x2⟩ := x
      simp only at hcw hSw hrk hB
      have HRk := hide hrk
      clear hc hS hx K hrk
      obtain ⟨ax, cx, rfl, hcx, -, hax, hcl⟩ := hSw
      by_cases h1 : x2.length = 1
      · obtain ⟨u, rfl⟩ : ∃ u, x2 = [u] := by
          cases x2 with
          | nil => simp at h1
          | cons u t =>
            cases t with
            | nil => exact ⟨u, rfl⟩
            | cons y t => simp at h1
        have hu : 0 ≤ u ∧ u ≤ 255 := hB u (by simp)
        obtain ⟨ad, rfl⟩ : ∃ a, ax = some a := by
          cases ax with
          | none => have := hax rfl; simp at hcx; omega
          | some a => exact ⟨a, rfl⟩
        have hc0 := hcl ad rfl 0 (.int .u8 u) rfl
        rw [Addr.add_zero'] at hc0
        have h64 : IntKind.i64.wrap u = u := by simp [IntKind.wrap, IntKind.signed, IntKind.bits]; omega
        clear hcl hax hB h1 hcx
        simp only [List.length_cons, List.length_nil, Nat.zero_add] at hcw
        by_cases he : u = k
        · subst he
          have HO2 := hide (ordTo_snoc HO.out HRk.out)
          go_wp2_with fail
          go_roundw
          case rel => exact ⟨k + 1, by omega, by go_num, HO2.out, HK.out⟩
          case measure => simp [intOf]; omega
        · have he' : (u == (k : Int)) = false := by simpa using he
          have HF := hide (inOrd_no HRk.out (fun e => by
            injection e with e1
            exact he e1))
          clear HRk
          go_wp2_with fail
          go_ret
          rw [HF.out]
          exact ⟨rfl, HK.out⟩
      · have h1' : ¬ (x2.length : Int) = 1 := by omega
        have h1'' : ((x2.length : Int) == 1) = false := by simpa using h1'
        obtain ⟨nx, hnx⟩ : ∃ n, n = x2.length := ⟨_, rfl⟩
        rw [← hnx] at hcw h1' h1''
        have HF := hide (inOrd_no HRk.out (fun e => h1 (by rw [e]; rfl)))
        clear hcl hcx hax hB h1 hnx HRk
        go_wp2_with fail
        go_ret
        rw [HF.out]
        exact ⟨rfl, HK.out⟩
    · obtain rfl : k = n := by omega
      clear K
      go_wp2_with fail
      go_ret
      have h1 := HO.out
      rw [HN.out, HLR.out] at h1
      rw [ordTo_all h1 (by have := HN.out; have := HLR.out; omega)]
      exact ⟨rfl, HK.out⟩
end Go.Proofs.YteabdojjllfcpaaGreat

/-
  Disks, journals and boxes with the blocks that they lie in.
-/
namespace Go.Proofs.YteabdojjllfcpaaGreat
open Go.RowKit
open Go.Proofs
set_option linter.unusedVariables false
/-- a disk in the blocks F. -/
def Dx (w0 w : World) (p : Nat) (d : Dk) (F : Nat → Prop) : Prop := ∃ v, Nw w0 w p v d ∧ ∀ i ∈ dfp p v, F i
/-- a journal on its disk, both in F. -/
def Jx (w0 w : World) (p : Nat) (d : Dk) (j k : Nat) (F : Nat → Prop) : Prop := ∃ v m, m ≤ k ∧ Jn w0 w p v d j m ∧ F j ∧ ∀ i ∈ dfp p v, F i
/-- a box on its disk, all in F. -/
def Bf (w0 w : World) (p : Nat) (d : Dk) (q n k : Nat) (F : Nat → Prop) : Prop := ∃ v j m, m ≤ k ∧ Jn w0 w p v d j m ∧ Kb w q j n ∧ w0.heap.size ≤ q ∧ F q ∧ F j ∧ ∀ i ∈ dfp p v, F i
section
variable {w0 w w' : World} {p q j n k : Nat} {d d' : Dk} {F : Nat → Prop} {v : Value}
theorem Nw.kept {S : List Nat} (h : Nw w0 w p v d) (t : Kp S w w') (k0 : Kp [] w0 w') (hS : ∀ i ∈ dfp p v, i ∉ S) : Nw w0 w' p v d := ⟨h.dk.kept t hS, h.new, k0, h.arm⟩
theorem Jn.kept {S : List Nat} (h : Jn w0 w p v d j n) (t : Kp S w w') (k0 : Kp [] w0 w') (hS : ∀ i ∈ dfp p v, i ∉ S) (hj : j ∉ S) : Jn w0 w' p v d j n := ⟨h.nw.kept t k0 hS, h.jr.kept t hj, h.new⟩
theorem Dx.kept {S : List Nat} (h : Dx w0 w p d F) (t : Kp S w w') (k0 : Kp [] w0 w') (hS : ∀ i ∈ S, ¬ F i) : Dx w0 w' p d F := by
  obtain ⟨v, h1, h2⟩ := h
  exact ⟨v, h1.kept t k0 (fun i hi hm => hS i hm (h2 i hi)), h2⟩
theorem Jx.kept {S : List Nat} (h : Jx w0 w p d j k F) (t : Kp S w w') (k0 : Kp [] w0 w') (hS : ∀ i ∈ S, ¬ F i) : Jx w0 w' p d j k F := by
  obtain ⟨v, m, h1, h2, h3, h4⟩ := h
  exact ⟨v, m, h1, h2.kept t k0 (fun i hi hm => hS i hm (h4 i hi)) (fun hm => hS _ hm h3), h3, h4⟩
theorem Bf.kept {S : List Nat} (h : Bf w0 w p d q n k F) (t : Kp S w w') (k0 : Kp [] w0 w') (hS : ∀ i ∈ S, ¬ F i) : Bf w0 w' p d q n k F := by
  obtain ⟨v, j, m, h1, h2, h3, h4, h5, h6, h7⟩ := h
  exact ⟨v, j, m, h1, h2.kept t k0 (fun i hi hm => hS i hm (h7 i hi)) (fun hm => hS _ hm h6), h3.kept t (fun hm => hS _ hm h5), h4, h5, h6, h7⟩
theorem Bf.dx (h : Bf w0 w p d q n k F) : Dx w0 w p d F := by
  obtain ⟨v, j, m, h1, h2, h3, h4, h5, h6, h7⟩ := h
  exact ⟨v, h2.nw, h7⟩
theorem Jx.dx (h : Jx w0 w p d j k F) : Dx w0 w p d F := by
  obtain ⟨v, m, h1, h2, h3, h4⟩ := h
  exact ⟨v, h2.nw, h4⟩
theorem Dx.upd (h : Dx w0 w p d F) {F' : Nat → Prop} (hF : ∀ i, F i → F' i) : Dx w0 w p d F' := by
  obtain ⟨v, h1, h2⟩ := h
  exact ⟨v, h1, fun i hi => hF i (h2 i hi)⟩
theorem Jx.upd (h : Jx w0 w p d j k F) {F' : Nat → Prop} (hF : ∀ i, F i → F' i) : Jx w0 w p d j k F' := by
  obtain ⟨v, m, h1, h2, h3, h4⟩ := h
  exact ⟨v, m, h1, h2, hF _ h3, fun i hi => hF i (h4 i hi)⟩
theorem Bf.upd (h : Bf w0 w p d q n k F) {F' : Nat → Prop} (hF : ∀ i, F i → F' i) : Bf w0 w p d q n k F' := by
  obtain ⟨v, j, m, h1, h2, h3, h4, h5, h6, h7⟩ := h
  exact ⟨v, j, m, h1, h2, h3, h4, hF _ h5, hF _ h6, fun i hi => hF i (h7 i hi)⟩
/-- where a disk lies behind a step. -/
def grF (F : Nat → Prop) (v' : Value) : Nat → Prop := fun i => F i ∨ v'.ownBlock = some i
theorem DSt.stp {v' : Value} (t : DSt p w v w' v') (hF : ∀ i ∈ dfp p v, F i) (hlt : ∀ i, v'.ownBlock = some i → i < w'.heap.size) : Stp F w w' (grF F v') := by
  refine ⟨⟨dfp p v, hF, t.1⟩, fun i hi => ?_⟩
  rcases hi with hi | hi
  · exact .inl hi
  · rcases t.2 i hi with h1 | h1
    · exact .inl (hF i (mem_dfp.2 (.inr h1)))
    · exact .inr ⟨h1, hlt i hi⟩
theorem JSt.stp {v' : Value} (t : JSt p j w v w' v') (hF : ∀ i ∈ dfp p v, F i) (hj : F j) (hlt : ∀ i, v'.ownBlock = some i → i < w'.heap.size) : Stp F w w' (grF F v') := by
  refine ⟨⟨j :: dfp p v, fun i hi => ?_, t.1⟩, fun i hi => ?_⟩
  · rcases List.mem_cons.1 hi with rfl | hi
    · exact hj
    · exact hF i hi
  · rcases hi with hi | hi
    · exact .inl hi
    · rcases t.2 i hi with h1 | h1
      · exact .inl (hF i (mem_dfp.2 (.inr h1)))
      · exact .inr ⟨h1, hlt i hi⟩
theorem grF_fp {v' : Value} (hp : F p) : ∀ i ∈ dfp p v', grF F v' i := fun i hi => by
  rcases mem_dfp.1 hi with rfl | hi
  · exact .inl hp
  · exact .inr hi
theorem Nw.rlt (h : Nw w0 w p v d) : ∀ i, v.ownBlock = some i → i < w.heap.size := fun i hi => h.dk.row.lt hi
/-- the journal's Add. -/
theorem jx_add {vb : Value} {b : List Int} (h : Jx w0 w p d j k F) (hS : Sl w vb b) (hB : Bs b) (hl : b.length ≤ 65535) (hk : k ≤ 1000) (er : Bool) (he : d.add (recP b) = (er, d')) (en : Int) (hen : en = if er then 0 else 13) :
    Calls Tryz.prog 34 #[.pointer (some ⟨j, 0, none⟩), vb] w fun e w' => e = .returned (.int .i64 en) ∧ ∃ F', Jx w0 w' p d' j (k + 1) F' ∧ Stp F w w' F' := by
  obtain ⟨v, m, h1, h2, h3, h4⟩ := h
  refine (jadd_any h2 hS hB hl (by omega) er he en hen _ rfl).mono ?_
  rintro e w' ⟨rfl, v', J, T⟩
  refine ⟨rfl, grF F v', ⟨v', _, ?_, J, .inl h3, grF_fp (h4 p (mem_dfp.2 (.inl rfl)))⟩, T.stp h4 h3 J.nw.rlt⟩
  split <;> omega
/-- keys.Open of the first keys' records. -/
theorem bf_open {at_ : Nat} (h : Dx w0 w p d F) (hd : d.down = false) (ha : d.arm ≤ 0) {b : List Int} (hb : d.bs = b) (hn : n ≤ 16) (ho : opnP b = (keyL n, at_, true)) (hd' : d.opn = d') :
    Calls Tryz.prog 31 #[.pointer (some ⟨p, 0, none⟩)] w fun e w' => ∃ q, e = .returned (.tuple #[.pointer (some ⟨q, 0, none⟩), .int .i64 0]) ∧ ∃ F', Bf w0 w' p d' q n n F' ∧ Stp F w w' F' := by
  obtain ⟨v, hN, hF⟩ := h
  have HO := hide (open_at hN hd ha b hb)
  have HF := hide hF
  have HD := hide hd'
  have HOp := hide ho
  have HN := hide hn
  clear hN hd ha hb hF hd' ho hn
  go_enter Tryz.func31, Tryz.ntmps31
  go_wp2_with fail
  refine HO.out.mono ?_
  rw [HOp.out, HD.out]
  rintro ee w1 (⟨ht, j, v1, al, m, cl, l, rfl, J1, hj1, T1, P1, hl1, hm1⟩ | ⟨hf, -⟩)
  · have HJ1 := hide J1
    rw [keyL_len] at hm1
    subst hm1
    have HL1 := hide hl1
    have hml : m = l.length := by have := congrArg List.length hl1; simpa [keyL_len] using this.symm
    have HI := hide (inOrder_any _ l w1 (P1.parts.lists (by have := HN.out; omega)) _ hl1 (by have := HN.out; omega))
    have HT1 : Hid (Stp F w w1 (grF F v1)) := T1.stp HF.out J1.nw.rlt
    have HJL := hide hj1
    have hio : inOrd (keyL m) = true := inOrd_key HN.out
    rw [hio] at HI
    clear J1 ht hl1 P1 HO hml T1 hj1 hio
    go_wp2_with fail
    refine HI.out.mono ?_
    rintro ee w2 ⟨rfl, K2⟩
    have HK2 := hide K2
    have HJ2 := hide (HJ1.out.on K2)
    clear HI K2
    go_wp2_with fail
    go_ret2
    have ka : Kp [] w2 (w2.alloc (.cells #[.pointer (some ⟨j, 0, none⟩), .int .i64 m] 122)) := (Kp.refl [] w2).alloc _
    have hsz := HT1.out.size
    have hs2 := HK2.out.size
    have hjl := HJL.out
    have hjl2 := HJ2.out.jr.lt
    refine ⟨w2.heap.size, rfl, fun i => grF F v1 i ∨ i = j ∨ i = w2.heap.size, ⟨v1, j, m, by omega, ?_, heap_alloc_new w2 _, HJ2.out.nw.kp.size, .inr (.inr rfl), .inr (.inl rfl), fun i hi => .inl (grF_fp (HF.out p (mem_dfp.2 (.inl rfl))) i hi)⟩, ?_⟩
    · have := HJ2.out.on ka
      rwa [keyL_len] at this
    · obtain ⟨⟨S, hS, kS⟩, h2⟩ := HT1.out.trans (Stp.mid (HK2.out.trans ka))
      refine ⟨⟨S, hS, kS⟩, fun i hi => ?_⟩
      rcases hi with hi | rfl | rfl
      · exact h2 i hi
      · exact .inr ⟨hjl, by simp; omega⟩
      · exact .inr ⟨by omega, by simp⟩
  · cases hf
end
end Go.Proofs.YteabdojjllfcpaaGreat

/-
  Signatures in memory; the contracts of package sign's small functions: isSeed, isKey, areHashes, Right.
-/
namespace Go.Proofs.YteabdojjllfcpaaGreat
open Go.RowKit
/-- v is a signature: its number, its parts, its path. -/
def SigV (w : World) (v : Value) (i : Int) (ps qs : List (List Int)) : Prop :=
  ∃ vp vq lp lq, v = .agg #[.int .i64 i, vp, vq] ∧ Lists w vp lp ∧ lp.map (·.2) = ps ∧ Lists w vq lq ∧ lq.map (·.2) = qs
theorem SigV.kept {w w' : World} {v : Value} {i : Int} {ps qs : List (List Int)} (h : SigV w v i ps qs) (k : Kp [] w w') : SigV w' v i ps qs := by
  obtain ⟨vp, vq, lp, lq, e, h1, h2, h3, h4⟩ := h
  exact ⟨vp, vq, lp, lq, e, h1.kept k, h2, h3.kept k, h4⟩
theorem SigV.bs {w : World} {v : Value} {i : Int} {ps qs : List (List Int)} (h : SigV w v i ps qs) : (∀ x ∈ ps, Bs x) ∧ ∀ x ∈ qs, Bs x := by
  obtain ⟨vp, vq, lp, lq, e, h1, rfl, h3, rfl⟩ := h
  refine ⟨fun x hx => ?_, fun x hx => ?_⟩
  · obtain ⟨y, hy, rfl⟩ := List.mem_map.1 hx; exact h1.bs y hy
  · obtain ⟨y, hy, rfl⟩ := List.mem_map.1 hx; exact h3.bs y hy
end Go.Proofs.YteabdojjllfcpaaGreat

/-
  The contract of package sign's Right.
-/
namespace Go.Proofs.YteabdojjllfcpaaGreat
open Go.RowKit
theorem Lists.shape {w : World} {v : Value} {l : List (Value × List Int)} (h : Lists w v l) : ∃ ao c, v = .slice ao l.length c := by obtain ⟨ao, c, e, _⟩ := h; exact ⟨ao, c, e⟩
/-- a signature's own shape. -/
theorem SigV.shape {w : World} {v : Value} {i : Int} {ps qs : List (List Int)} (h : SigV w v i ps qs) : ∃ ap np cp aq nq cq lp lq, v = .agg #[.int .i64 i, .slice ap np cp, .slice aq nq cq] ∧ Lists w (.slice ap np cp) lp ∧ lp.map (·.2) = ps ∧ Lists w (.slice aq nq cq) lq ∧ lq.map (·.2) = qs ∧ np = ps.length ∧ nq = qs.length := by
  obtain ⟨vp, vq, lp, lq, e, h1, h2, h3, h4⟩ := h
  obtain ⟨ap, cp, e1⟩ := h1.shape
  obtain ⟨aq, cq, e2⟩ := h3.shape
  subst e1
  subst e2
  exact ⟨ap, _, cp, aq, _, cq, lp, lq, e, h1, h2, h3, h4, by rw [← h2]; simp, by rw [← h4]; simp⟩
end Go.Proofs.YteabdojjllfcpaaGreat

/-
  The contracts of package sign's nodes: nodeAbove, leaves, above.
-/
namespace Go.Proofs.YteabdojjllfcpaaGreat
open Go.RowKit
open Go.Proofs
/-- The value is a slice of one slice, which is a row that is new since. -/
def One (base : Nat) (r : List Int) : Tell := fun v w => ∃ g vx, v = .slice (some ⟨g, 0, none⟩) 1 1 ∧ w.cell? ⟨g, 0, none⟩ = some vx ∧ Row w base vx r
theorem stable_one (base : Nat) (r : List Int) : Tell.stable (One base r) := fun _ _ _ k ⟨g, vx, h1, h2, h3⟩ => ⟨g, vx, h1, k.cell h2 (by simp), h3.kept k (by simp)⟩
/-- The value is a row that is new since. -/
def RowT (base : Nat) (r : List Int) : Tell := fun v w => Row w base v r
theorem stable_row (base : Nat) (r : List Int) : Tell.stable (RowT base r) := fun _ _ _ k h => h.kept k (by simp)
theorem grown_one {o : Oper} {a : Act} {w : World} (x : Operand) (ho : o.op = .buildSlice 47 1 #[(0, x)]) (base : Nat) (r : List Int) (h : Row w base (a.eval x) r) : grown Tryz.prog w (One base r) ((execOp a.eval o).run Tryz.prog w) := by
  obtain ⟨ao, c, e⟩ := h.shape
  refine grown_run (v := .slice (some ⟨w.heap.size, 0, none⟩) 1 1) (w' := w.alloc (.cells #[a.eval x] 28)) ?_ ((Kp.refl _ _).alloc _) ⟨w.heap.size, _, rfl, cell_of_one (heap_alloc_new w _), h.kept ((Kp.refl [] w).alloc _) (by simp)⟩
  obtain ⟨ρ, hρ, hc, hf, hg⟩ := eval_is a
  rw [hρ] at e ⊢
  unfold execOp
  simp only [ho]
  simp [go_sem, e]
/-- one more slice behind them, as it lies in a block of its own. -/
theorem wpList_accg {w wr w3 : World} {ops : Array Oper} {rest : List Oper} {o : Oper} {a : Act} {Q : Exit → Act → World → Prop} (hgd : o.guard = none) (s x : Operand)
    (ho : o.op = .call { callee := .builtin .append, args := #[s, x], argTypes := #[47, 47] }) (v : Value) (ls : List (List Int)) (hs : a.eval s = v) (hA : Acc w ls v wr) (hl : ls.length ≤ 1000000)
    (bs : List Int) (k : Kp [] wr w3) (vx : Value) (hx : a.eval x = vx) (h1 : One wr.heap.size bs vx w3) (hb : Bs bs)
    (h : ∀ ao m c w', Acc w (ls ++ [bs]) (.slice ao m c) w' → wpList Tryz.prog ops Q rest (a.put o.dst (.slice ao m c)) w') : wpList Tryz.prog ops Q (o :: rest) a w3 := by
  obtain ⟨l, hP, hl2, hK⟩ := hA
  obtain ⟨g, vy, hv, hc, hr⟩ := h1
  have hP2 := hP.kept k
  obtain ⟨ax, cx, hvx⟩ := hr.shape
  refine wpList_append_rowv hgd s x ho w.heap.size v (l.map (·.1)) hs hP2.1 ⟨g, 0, none⟩ 1 [vy] (by rw [hx, hv]; rfl) ?_ ?_ ?_ ?_ ?_
  · intro j u hu
    have hj : j = 0 := by have := (List.getElem?_eq_some_iff.1 hu).1; simpa using this
    subst hj
    simp at hu
    subst hu
    exact hc
  · simp [hvx, Value.oneCell']
  · have : l.length = ls.length := by rw [← hl2]; simp
    simp; omega
  · have := hK.size
    have := k.size
    omega
  · intro ao m c w' r st
    refine h ao m c w' ⟨l ++ [(vy, bs)], hP.snoc (x := (vy, bs)) k hr hb (Kp.refl _ _) r st hK.size, by simp [hl2], ?_⟩
    exact (hK.trans k).then st.1 (fun i hi => .inr (hP.1.own i (by simpa using hi)))
theorem abv_take (ls : List (List Int)) (k : Nat) (h : k < ls.length / 2) : (abvP ls).take (k + 1) = (abvP ls).take k ++ [nodeP (ls.getD (2 * k) []) (ls.getD (2 * k + 1) [])] := by
  rw [List.take_succ_eq_append_getElem (by rw [abvP_len]; exact h)]
  simp [abvP]
theorem lists_at {w : World} {ao : Option Addr} {n c : Nat} {l : List (Value × List Int)} {ls : List (List Int)} (hL : Lists w (.slice ao n c) l) (he : l.map (·.2) = ls) (i : Nat) (hi : i < ls.length) :
    ∃ b off ax nx cx, ao = some ⟨b, off, none⟩ ∧ w.cell? ⟨b, off + i, none⟩ = some (.slice ax nx cx) ∧ Sl w (.slice ax nx cx) (ls.getD i []) ∧ Bs (ls.getD i []) := by
  subst he
  obtain ⟨ao', c', e, _, h2⟩ := hL
  have hi2 : i < l.length := by simpa using hi
  obtain ⟨b, off, e2, h3, h4, h5⟩ := h2 i hi2
  injection e with e0
  subst e0
  have hg : (l.map (·.2)).getD i [] = l[i].2 := by simp [List.getD, hi2]
  rw [hg]
  obtain ⟨ax, cx, e4, _⟩ := id h4
  rw [e4] at h3 h4
  exact ⟨b, off, ax, _, cx, e2, h3, h4, h5⟩
end Go.Proofs.YteabdojjllfcpaaGreat

/-
  The contracts of package sign's pathOf, ledUp and Public.
-/
namespace Go.Proofs.YteabdojjllfcpaaGreat
open Go.RowKit
open Go.Proofs
/-- rows of slices that are gathered, while blocks in S may change: the slices lie in blocks of which F holds. -/
def AccS (S : List Nat) (F : Nat → Prop) (w : World) (ls : List (List Int)) (v : Value) (wr : World) : Prop := ∃ l, RowS wr w.heap.size v l ∧ l.map (·.2) = ls ∧ Kp S w wr ∧ ∀ x ∈ l, ∀ q, x.1.ownBlock = some q → F q
theorem AccS.mid {S : List Nat} {F : Nat → Prop} {w wr w2 : World} {ls : List (List Int)} {v : Value} (h : AccS S F w ls v wr) (k : Kp [] wr w2) : AccS S F w ls v w2 := by
  obtain ⟨l, h1, h2, h3, h4⟩ := h
  exact ⟨l, h1.kept k, h2, h3.trans (k.mono (by simp)), h4⟩
theorem AccS.kp {S : List Nat} {F : Nat → Prop} {w wr : World} {ls : List (List Int)} {v : Value} (h : AccS S F w ls v wr) : Kp S w wr := by obtain ⟨_, _, _, h3, _⟩ := h; exact h3
theorem AccS.lt {S : List Nat} {F : Nat → Prop} {w wr : World} {ls : List (List Int)} {v : Value} (h : AccS S F w ls v wr) : ∀ q, v.ownBlock = some q → q < wr.heap.size := by obtain ⟨_, h1, _, _⟩ := h; exact fun q hq => h1.1.lt hq
theorem AccS.lists {S : List Nat} {F : Nat → Prop} {w wr : World} {ls : List (List Int)} {v : Value} (h : AccS S F w ls v wr) (hl : ls.length ≤ 1000) : ∃ l, Lists wr v l ∧ l.map (·.2) = ls ∧ (∀ q, v.ownBlock = some q → w.heap.size ≤ q) ∧ ∀ x ∈ l, ∀ q, x.1.ownBlock = some q → F q := by
  obtain ⟨l, h1, h2, _, h4⟩ := h
  exact ⟨l, h1.lists (by rw [← List.length_map (f := (·.2)), h2]; exact hl), h2, h1.1.own, h4⟩
theorem Sl.lt {w : World} {v : Value} {bs : List Int} (h : Sl w v bs) (hb : bs ≠ []) : ∀ q, v.ownBlock = some q → q < w.heap.size := by
  obtain ⟨ao, c, rfl, h1, h2, h3, h4⟩ := h
  intro q hq
  cases ao with
  | none => cases hq
  | some a =>
    have hp : 0 < bs.length := List.length_pos_iff.2 hb
    have hc := h4 a rfl 0 (.int .u8 bs[0]) (by simp [List.getElem?_eq_getElem hp])
    have := World.block_lt_of_cell? _ _ hc
    rw [add_block] at this
    have e : a.block = q := by simpa [Value.ownBlock] using hq
    omega
theorem RowS.snoc {w3 w4 : World} {base : Nat} {v v' vx : Value} {bs : List Int} {l : List (Value × List Int)} (h : RowS w3 base v l) (hx : Sl w3 vx bs) (hB : Bs bs) (ha : ∀ q, vx.ownBlock = some q → v.ownBlock = some q → bs = [])
    (r : RowV w4 base v' (l.map (·.1) ++ [vx])) (s : RStep w3 v w4 v') : RowS w4 base v' (l ++ [(vx, bs)]) := by
  have one : ∀ (x : Value) (cs : List Int), Sl w3 x cs → (∀ q, x.ownBlock = some q → v.ownBlock = some q → cs = []) → Sl w4 x cs ∧ ∀ q, x.ownBlock = some q → v'.ownBlock = some q → cs = [] := by
    intro x cs hS hA
    refine ⟨hS.apart s.1 (fun q hq hm => hA q hq (by simpa using hm)), fun q hq hv => ?_⟩
    by_cases hc : cs = []
    · exact hc
    · rcases s.2 q hv with h1 | h1
      · exact hA q hq h1
      · have := hS.lt hc q hq; omega
  refine ⟨by rw [List.map_append]; exact r, fun y hy => ?_⟩
  rcases List.mem_append.1 hy with hy | hy
  · obtain ⟨h1, h2, h3⟩ := h.2 y hy
    exact ⟨(one y.1 y.2 h1 h3).1, h2, (one y.1 y.2 h1 h3).2⟩
  · obtain rfl : y = (vx, bs) := by simpa using hy
    exact ⟨(one vx bs hx ha).1, hB, (one vx bs hx ha).2⟩
theorem Lists.off {w w' : World} {v : Value} {l : List (Value × List Int)} {S : List Nat} (h : Lists w v l) (k : Kp S w w') (hv : ∀ q, v.ownBlock = some q → q ∉ S) (hy : ∀ y ∈ l, ∀ q, y.1.ownBlock = some q → q ∉ S) : Lists w' v l := by
  obtain ⟨ao, c, rfl, h1, h2⟩ := h
  refine ⟨ao, c, rfl, h1, fun i hi => ?_⟩
  obtain ⟨b, off, e, h3, h4, h5⟩ := h2 i hi
  subst e
  exact ⟨b, off, rfl, k.cell h3 (hv b rfl), h4.kept k (hy _ (List.getElem_mem hi)), h5⟩
/-- a level of nodes that lies apart from pv. -/
def LvA (F : Nat → Prop) (w : World) (v : Value) (ls : List (List Int)) (pv : Value) : Prop :=
  ∃ l, Lists w v l ∧ l.map (·.2) = ls ∧ (∀ q, v.ownBlock = some q → q < w.heap.size ∧ pv.ownBlock ≠ some q) ∧ ∀ y ∈ l, ∀ q, y.1.ownBlock = some q → (q < w.heap.size ∧ pv.ownBlock ≠ some q) ∧ F q
theorem LvA.of_acc {F : Nat → Prop} {w1 w2 : World} {v pv : Value} {ls : List (List Int)} (h : Acc w1 ls v w2) (hl : ls.length ≤ 1000) (hp : ∀ q, pv.ownBlock = some q → q < w1.heap.size) (hF : ∀ q, w1.heap.size ≤ q → F q) : LvA F w2 v ls pv := by
  obtain ⟨l, h1, h2, h3⟩ := h
  refine ⟨l, h1.lists (by rw [← List.length_map (f := (·.2)), h2]; exact hl), h2, fun q hq => ⟨h1.1.lt hq, fun e => ?_⟩, fun y hy q hq => ⟨⟨(h1.2 y hy).1.lt hq, fun e => ?_⟩, hF q ((h1.2 y hy).1.own q hq)⟩⟩
  · have := h1.1.own q hq; have := hp q e; omega
  · have := (h1.2 y hy).1.own q hq; have := hp q e; omega
theorem LvA.step {F : Nat → Prop} {w w' : World} {v pv pv' : Value} {ls : List (List Int)} (h : LvA F w v ls pv) (s : RStep w pv w' pv') : LvA F w' v ls pv' := by
  obtain ⟨l, h1, h2, h3, h4⟩ := h
  have key : ∀ q, q < w.heap.size ∧ pv.ownBlock ≠ some q → q < w'.heap.size ∧ pv'.ownBlock ≠ some q := fun q ⟨a, b⟩ => ⟨Nat.lt_of_lt_of_le a s.1.size, fun e => by
    rcases s.2 q e with h5 | h5
    · exact b h5
    · omega⟩
  exact ⟨l, h1.off s.1 (fun q hq hm => (h3 q hq).2 (by simpa using hm)) (fun y hy q hq hm => (h4 y hy q hq).1.2 (by simpa using hm)), h2, fun q hq => key q (h3 q hq), fun y hy q hq => ⟨key q (h4 y hy q hq).1, (h4 y hy q hq).2⟩⟩
theorem LvA.at {F : Nat → Prop} {w : World} {ao : Option Addr} {n c : Nat} {pv : Value} {ls : List (List Int)} (h : LvA F w (.slice ao n c) ls pv) (i : Nat) (hi : i < ls.length) :
    ∃ b off ax nx cx, ao = some ⟨b, off, none⟩ ∧ w.cell? ⟨b, off + i, none⟩ = some (.slice ax nx cx) ∧ Sl w (.slice ax nx cx) (ls.getD i []) ∧ Bs (ls.getD i []) ∧ n = ls.length ∧ ∀ q, (Value.slice ax nx cx).ownBlock = some q → pv.ownBlock ≠ some q ∧ F q := by
  obtain ⟨l, hL, he, _, h4⟩ := h
  subst he
  obtain ⟨ao', c', e, _, h2⟩ := hL
  have hi2 : i < l.length := by simpa using hi
  obtain ⟨b, off, e2, h3, h5, h6⟩ := h2 i hi2
  injection e with e0 e1
  subst e0
  have hg : (l.map (·.2)).getD i [] = l[i].2 := by simp [List.getD, hi2]
  rw [hg]
  have h7 := h4 l[i] (List.getElem_mem hi2)
  obtain ⟨ax, cx, e4, _⟩ := id h5
  rw [e4] at h3 h5 h7
  exact ⟨b, off, ax, _, cx, e2, h3, h5, h6, by simp [e1], fun q hq => ⟨(h7 q hq).1.2, (h7 q hq).2⟩⟩
theorem lv_le (bs : List Int) (k : Nat) : (lvP bs k).length ≤ 16 := by rw [lvP_len]; exact Nat.div_le_self _ _
end Go.Proofs.YteabdojjllfcpaaGreat

/-
  Signatures that stay as they are, whatever becomes of the blocks below.
-/
namespace Go.Proofs.YteabdojjllfcpaaGreat
open Go.RowKit
/-- a signature that stays so, whatever becomes of the blocks below b. -/
def SigA (b : Nat) (w : World) (v : Value) (i : Int) (ps qs : List (List Int)) : Prop := ∀ (S : List Nat) (w2 : World), (∀ q ∈ S, q < b) → Kp S w w2 → SigV w2 v i ps qs
theorem SigA.v {b : Nat} {w : World} {v : Value} {i : Int} {ps qs : List (List Int)} (h : SigA b w v i ps qs) : SigV w v i ps qs := h [] w (by simp) (Kp.refl _ _)
theorem SigA.kept {b : Nat} {w w' : World} {v : Value} {i : Int} {ps qs : List (List Int)} {S : List Nat} (h : SigA b w v i ps qs) (hS : ∀ q ∈ S, q < b) (k : Kp S w w') : SigA b w' v i ps qs := fun S2 w2 h2 k2 =>
  h (S ++ S2) w2 (fun q hq => (List.mem_append.1 hq).elim (hS q) (h2 q)) ((k.mono (by simp; intro x hx; exact .inl hx)).trans (k2.mono (by simp; intro x hx; exact .inr hx)))
end Go.Proofs.YteabdojjllfcpaaGreat

/-
  The contracts of package sign's readHashes and Decode.
-/
namespace Go.Proofs.YteabdojjllfcpaaGreat
open Go.RowKit
open Go.Proofs
/-- a block that is no part of it changes. -/
theorem AccS.off {S : List Nat} {F : Nat → Prop} {w wr w2 : World} {ls : List (List Int)} {v : Value} {q : Nat} (h : AccS S F w ls v wr) (k : Kp [q] wr w2) (hq : q ∈ S) (hF : ∀ i, F i → i ≠ q) (hlt : q < w.heap.size) : AccS S F w ls v w2 := by
  obtain ⟨l, ⟨h1, h1'⟩, h2, h3, h4⟩ := h
  refine ⟨l, ⟨h1.kept k (fun i hi => ?_), fun x hx => ⟨(h1' x hx).1.kept k (fun i hi => by simpa using hF i (h4 x hx i hi)), (h1' x hx).2⟩⟩, h2, h3.trans (k.mono (by simpa using hq)), h4⟩
  have := h1.own i hi
  simp; omega
theorem Lists.old {w w' : World} {v : Value} {l : List (Value × List Int)} {S : List Nat} (h : Lists w v l) (k : Kp S w w') (hS : ∀ q ∈ S, w.heap.size ≤ q) : Lists w' v l := by
  obtain ⟨ao, c, rfl, h1, h2⟩ := h
  refine ⟨ao, c, rfl, h1, fun i hi => ?_⟩
  obtain ⟨b, off, e, h3, h4, h5⟩ := h2 i hi
  subst e
  have hb := World.block_lt_of_cell? _ _ h3
  exact ⟨b, off, rfl, k.cell h3 (fun hm => by have := hS _ hm; simp at this hb; omega), h4.old k (fun i _ hlt hm => by have := hS _ hm; omega), h5⟩
theorem SigV.old {w w' : World} {v : Value} {i : Int} {ps qs : List (List Int)} {S : List Nat} (h : SigV w v i ps qs) (k : Kp S w w') (hS : ∀ q ∈ S, w.heap.size ≤ q) : SigV w' v i ps qs := by
  obtain ⟨vp, vq, lp, lq, e, h1, h2, h3, h4⟩ := h
  exact ⟨vp, vq, lp, lq, e, h1.old k hS, h2, h3.old k hS, h4⟩
theorem setCell_kp (w : World) (g j : Nat) (u : Value) : Kp [g] w (w.setCell ⟨g, j, none⟩ u) := (Kp.refl [g] w).setCell (p := ⟨g, j, none⟩) (.inl (by simp)) _
end Go.Proofs.YteabdojjllfcpaaGreat

/-
  Chapter 10 as plain functions: checkpoints that are right, their bodies, what is laid down of signed ones, what is read.
-/
namespace Go.Proofs.YteabdojjllfcpaaGreat
open Go.RowKit
open Go.Proofs
/-- a signed checkpoint: its size, its root, its signature's number, parts and path. -/
structure Sg where
  n : Int
  r : List Int
  i : Int
  ps : List (List Int)
  qs : List (List Int)
/-- what is signed with a seed's key. -/
def sgnC (seed : List Int) (i : Nat) (n : Int) (r : List Int) : Sg := ⟨n, r, i, sgnP seed i (digP (bodC n r)), pthP seed i 4⟩
/-- the number, the root and the signature's bytes, as a reader gives them. -/
def g1 (s : Bool × List Int) : List Int × Bool × List Int := tk s.1 s.2 4
def g2 (s : Bool × List Int) : List Int × Bool × List Int := tk (g1 s).2.1 (g1 s).2.2 32
def g3 (s : Bool × List Int) : List Int × Bool × List Int := tk (g2 s).2.1 (g2 s).2.2 2180
end Go.Proofs.YteabdojjllfcpaaGreat

/-
  The contracts of the reference's Secret, Shown, Public and Sign.
-/
namespace Go.Proofs.YteabdojjllfcpaaGreat
open Go.RowKit
theorem lists3 {w : World} {v u t : Value} {bs cs ds : List Int} (h : Sl w v bs) (hB : Bs bs) (k : Sl w u cs) (hC : Bs cs) (j : Sl w t ds) (hD : Bs ds) : Lists (w.alloc (.cells #[v, u, t] 28)) (.slice (some ⟨w.heap.size, 0, none⟩) 3 3) [(v, bs), (u, cs), (t, ds)] :=
  lists_of_block (l := [(v, bs), (u, cs), (t, ds)]) (t := 28) (fr := (0, 0)) (heap_alloc_new w _) (by simp) (fun x hx => by
    rcases (by simpa using hx : x = (v, bs) ∨ x = (u, cs) ∨ x = (t, ds)) with rfl | rfl | rfl
    · exact ⟨h.kept ((Kp.refl [] w).alloc _) (by simp), hB⟩
    · exact ⟨k.kept ((Kp.refl [] w).alloc _) (by simp), hC⟩
    · exact ⟨j.kept ((Kp.refl [] w).alloc _) (by simp), hD⟩)
theorem cat3 (v u t : Value) (bs cs ds : List Int) : cat [(v, bs), (u, cs), (t, ds)] = bs ++ (cs ++ ds) := by simp [cat]
theorem row_nil (w : World) (base : Nat) : Row w base (.slice none 0 0) [] := ⟨rfl, .inl ⟨rfl, rfl⟩⟩
set_option maxHeartbeats 400000 in
theorem refnum_any (n : Int) (w : World) :
    Calls Tryz.prog 44 #[.slice none 0 0, .int .u32 n] w fun e w' => ∃ ao m c, e = .returned (.slice ao m c) ∧ Row w' w.heap.size (.slice ao m c) (be4 n) ∧ Kp [] w w' := by
  obtain ⟨cs, hcs⟩ : ∃ cs, cs = be4 n := ⟨_, rfl⟩
  have hl : cs.length = 4 := by rw [hcs]; rfl
  have hsl : Sl (w.alloc (.cells #[.int .u8 (n / 16777216 % 256), .int .u8 (n / 65536 % 256), .int .u8 (n / 256 % 256), .int .u8 (n % 256)] 5)) (.slice (some ⟨w.heap.size, 0, none⟩) 4 4) cs := by
    rw [hcs]; exact Sl.block (cs := be4 n) (t := 5) (heap_alloc_new w _) (by simp [be4, maxLen])
  rw [← hcs]
  clear hcs
  go_enter Tryz.func44, Tryz.ntmps44
  go_wp2_with (at_builtin; refine wpList_append_row rfl _ _ rfl w.heap.size (.slice none 0 0) [] rfl (row_nil _ _) _ cs rfl hsl (by simp; omega) (by simp) ?_; intro ao m c w1 r1 s1)
  go_ret
  exact ⟨ao, m, c, rfl, r1, ((Kp.refl [] w).alloc _).then s1.1 (by simp [Value.ownBlock])⟩
set_option maxRecDepth 100000 in
set_option maxHeartbeats 1000000 in
theorem refsecret_any (vb : Value) (bs : List Int) (key bit side : Int) (r : List Int) (hr : r = secP bs key bit side) (w : World) (hS : Sl w vb bs) (hB : Bs bs) (hl : bs.length ≤ 1000) :
    Calls Tryz.prog 125 #[vb, .int .i64 key, .int .i64 bit, .int .i64 side] w fun e w' => ∃ ao m c, e = .returned (.slice ao m c) ∧ Row w' w.heap.size (.slice ao m c) r ∧ Kp [] w w' := by
  have HB := hide hB
  have HS := hide hS
  have hbe : be4 (key % 4294967296) = be4 key := by
    unfold be4
    congr 1
    · omega
    · congr 1
      · omega
      · congr 1
        · omega
        · congr 1; omega
  have HBE := hide hbe
  have HR := hide hr
  obtain ⟨ab, cb, hvb, _⟩ := hS
  obtain ⟨nb, hnb⟩ : ∃ n, n = bs.length := ⟨_, rfl⟩
  rw [← hnb] at hvb
  subst hvb
  clear hr hnb hB hbe
  go_enter Tryz.func125, Tryz.ntmps125
  go_wp2_with fail
  refine (refnum_any _ _).mono ?_
  rintro ee w1 ⟨a1, m1, c1, rfl, R1, K1⟩
  rw [unhide HBE] at R1
  have HR1 := hide R1
  have HK1 := hide K1
  clear HBE R1 K1
  go_wp2_with fail
  obtain ⟨ob, hob⟩ : ∃ o : Obj, o = (.cells #[.int .u8 (bit % 256), .int .u8 (side % 256)] 5) := ⟨_, rfl⟩
  have hP : Sl (w1.alloc ob) (.slice (some ⟨w1.heap.size, 0, none⟩) 2 2) [bit % 256, side % 256] := by
    rw [hob]; exact Sl.block (cs := [bit % 256, side % 256]) (t := 5) (fr := (0, 0)) (heap_alloc_new w1 _) (by simp [maxLen])
  have hPB : Bs [bit % 256, side % 256] := by
    intro b hb
    simp only [List.mem_cons, List.not_mem_nil, or_false] at hb
    rcases hb with rfl | rfl <;> omega
  have Ka := (Kp.refl [] w1).alloc ob
  have HL := lists3 (((unhide HS).kept (unhide HK1) (by simp)).kept Ka (by simp)) (unhide HB) ((unhide HR1).sl.kept Ka (by simp)) (be4_bs key) hP hPB
  rw [show (w1.alloc ob).heap.size = w1.heap.size + 1 by simp] at HL
  have HK := hide ((unhide HK1).trans (Ka.alloc (.cells #[.slice ab nb cb, .slice a1 m1 c1, .slice (some ⟨w1.heap.size, 0, none⟩) 2 2] 28)))
  rw [← hob]
  refine (reftagged_any 10 _ _ r (by rw [unhide HR, cat3]; rfl) _ HL (by omega) (by omega) (by simp) ?_).mono ?_
  · intro x hx
    rcases (by simpa using hx : x = (Value.slice ab nb cb, bs) ∨ x = (Value.slice a1 m1 c1, be4 key) ∨ x = (Value.slice (some ⟨w1.heap.size, 0, none⟩) 2 2, [bit % 256, side % 256])) with rfl | rfl | rfl
    · simp; omega
    · simp [be4]
    · simp
  rintro ee w2 ⟨ao2, m2, c2, rfl, R2, K2⟩
  have HR2 := hide (row_new R2 (unhide HK))
  have HK2 := hide ((unhide HK).trans K2)
  clear HL HK HR hob R2 K2 Ka hP hPB
  go_wp2_with fail
  go_ret
  exact ⟨ao2, m2, c2, rfl, unhide HR2, unhide HK2⟩
set_option maxRecDepth 100000 in
set_option maxHeartbeats 1000000 in
theorem refshown_any (vb : Value) (bs : List Int) (key bit side : Int) (r : List Int) (hr : r = shnP bs key bit side) (w : World) (hS : Sl w vb bs) (hB : Bs bs) (hl : bs.length ≤ 1000) :
    Calls Tryz.prog 122 #[vb, .int .i64 key, .int .i64 bit, .int .i64 side] w fun e w' => ∃ ao m c, e = .returned (.slice ao m c) ∧ Row w' w.heap.size (.slice ao m c) r ∧ Kp [] w w' := by
  obtain ⟨q, hq⟩ : ∃ q, q = secP bs key bit side := ⟨_, rfl⟩
  have HC := hide (refsecret_any vb bs key bit side q hq w hS hB hl)
  have HQL : Hid (q.length = 32) := by rw [hq]; exact secP_len _ _ _ _
  have HQB : Hid (Bs q) := by rw [hq]; exact sha_bs _
  have HR : Hid (r = sha (11 :: q)) := by rw [hr, hq]; rfl
  obtain ⟨ab, cb, hvb, _⟩ := hS
  obtain ⟨nb, hnb⟩ : ∃ n, n = bs.length := ⟨_, rfl⟩
  rw [← hnb] at hvb
  subst hvb
  clear hr hnb hB hq
  go_enter Tryz.func122, Tryz.ntmps122
  go_wp2_with fail
  refine (unhide HC).mono ?_
  rintro ee w1 ⟨a1, m1, c1, rfl, R1, K1⟩
  have HL := hide (lists1 R1.sl (unhide HQB))
  have HK := hide (K1.trans ((Kp.refl [] w1).alloc (.cells #[.slice a1 m1 c1] 28)))
  clear HC R1 K1
  go_wp2_with fail
  refine (reftagged_any 11 _ _ r (by rw [unhide HR, cat1]) _ (unhide HL) (by omega) (by omega) (by simp) (by have := unhide HQL; simp; omega)).mono ?_
  rintro ee w2 ⟨ao2, m2, c2, rfl, R2, K2⟩
  have HR2 := hide (row_new R2 (unhide HK))
  have HK2 := hide ((unhide HK).trans K2)
  clear HL HK HR R2 K2
  go_wp2_with fail
  go_ret
  exact ⟨ao2, m2, c2, rfl, unhide HR2, unhide HK2⟩
end Go.Proofs.YteabdojjllfcpaaGreat

/-
  The contract of the reference's Public.
-/
namespace Go.Proofs.YteabdojjllfcpaaGreat
open Go.RowKit
theorem flat_two (bs : List Int) (key : Int) (k : Nat) : (ptsP bs key noneC (2 * (k + 1))).flatten = (ptsP bs key noneC (2 * k)).flatten ++ shnP bs key (k : Nat) 0 ++ shnP bs key (k : Nat) 1 := by
  rw [show 2 * (k + 1) = 2 * k + 1 + 1 by omega, ptsP_succ, ptsP_succ, List.flatten_append, List.flatten_append]
  have e0 := ptP_at bs key noneC k 0 (by omega)
  have e1 := ptP_at bs key noneC k 1 (by omega)
  rw [Nat.add_zero] at e0
  rw [e0, e1]
  simp [noneC]
theorem flat_len (bs : List Int) (key : Int) (c : Nat → Nat → Bool) (n : Nat) : (ptsP bs key c n).flatten.length = 32 * n := by
  induction n with
  | zero => rfl
  | succ n ih => rw [ptsP_succ, List.flatten_append, List.length_append, ih]; simp [ptP_len]; omega
set_option maxRecDepth 100000 in
set_option maxHeartbeats 1000000 in
theorem refpublic_any (vb : Value) (bs : List Int) (key : Int) (r : List Int) (hr : r = pubP bs key) (w : World) (hS : Sl w vb bs) (hB : Bs bs) (hl : bs.length ≤ 1000) :
    Calls Tryz.prog 108 #[vb, .int .i64 key] w fun e w' => ∃ ao m c, e = .returned (.slice ao m c) ∧ Row w' w.heap.size (.slice ao m c) r ∧ Kp [] w w' := by
  have HR := hide hr
  have HS := hide hS
  have HB := hide hB
  obtain ⟨ab, cb, hvb, _⟩ := hS
  obtain ⟨nb, hnb⟩ : ∃ n, n = bs.length := ⟨_, rfl⟩
  rw [← hnb] at hvb
  subst hvb
  clear hr hnb hB
  go_enter Tryz.func108, Tryz.ntmps108
  go_wp2_with fail
  go_loopw [5, 6] (fun v i wr => ∃ (k m c : Nat) (ao : Option Addr), k ≤ 32 ∧ v = .slice ao m c ∧ i = .int .i64 k ∧ Row wr w.heap.size v (ptsP bs key noneC (2 * k)).flatten ∧ Kp [] w wr) (fun _ i _ => 32 - (intOf i).toNat)
  case atStart => exact ⟨0, 0, 0, none, by omega, rfl, rfl, row_nil _ _, Kp.refl _ _⟩
  case round =>
    obtain ⟨k, m, c, ao, hk, rfl, rfl, Rr, Kr⟩ := hrel
    have HRr := hide Rr
    have HKr := hide Kr
    clear Rr Kr
    by_cases hlt : k < 32
    · have hlt2 : (k : Int) < 32 := by omega
      obtain ⟨fl, hfl⟩ : ∃ fl, fl = (ptsP bs key noneC (2 * k)).flatten := ⟨_, rfl⟩
      obtain ⟨r0, hr0⟩ : ∃ r, r = shnP bs key (k : Nat) 0 := ⟨_, rfl⟩
      obtain ⟨r1, hr1⟩ : ∃ r, r = shnP bs key (k : Nat) 1 := ⟨_, rfl⟩
      have HE : Hid ((ptsP bs key noneC (2 * (k + 1))).flatten = fl ++ r0 ++ r1) := by rw [hfl, hr0, hr1]; exact flat_two bs key k
      have hfll : fl.length ≤ 2048 := by rw [hfl, flat_len]; omega
      have hr0l : r0.length = 32 := by rw [hr0]; exact shnP_len _ _ _ _
      have hr1l : r1.length = 32 := by rw [hr1]; exact shnP_len _ _ _ _
      rw [← hfl] at HRr
      have HR0 := hide hr0
      have HR1 := hide hr1
      clear hfl hr0 hr1
      go_wp2_with fail
      refine (refshown_any _ bs key (k : Nat) 0 r0 (unhide HR0) wr ((unhide HS).kept (unhide HKr) (by simp)) (unhide HB) hl).mono ?_
      rintro ee w2 ⟨a2, m2, c2, rfl, R2, K2⟩
      have HR2 := hide R2
      have HK2 := hide K2
      clear R2 K2
      go_wp2_with (at_builtin; refine wpList_append_row rfl (.tmp 11) (.tmp 15) rfl w.heap.size _ fl rfl ((unhide HRr).kept (unhide HK2) (by simp)) _ r0 rfl (unhide HR2).sl (by omega) (by have := (unhide HKr).size; have := (unhide HK2).size; omega) ?_; intro ao3 m3 c3 w3 R3 s3)
      have HK3 := hide ((unhide HRr).step (unhide HKr) (s3.after (unhide HK2)))
      have HR3 := hide R3
      clear R3 s3 HR2 HK2 HRr HKr
      refine (refshown_any _ bs key (k : Nat) 1 r1 (unhide HR1) w3 ((unhide HS).kept (unhide HK3) (by simp)) (unhide HB) hl).mono ?_
      rintro ee w4 ⟨a4, m4, c4, rfl, R4, K4⟩
      have HR4 := hide R4
      have HK4 := hide K4
      clear R4 K4
      go_wp2_with (at_builtin; refine wpList_append_row rfl (.tmp 16) (.tmp 20) rfl w.heap.size _ (fl ++ r0) rfl ((unhide HR3).kept (unhide HK4) (by simp)) _ r1 rfl (unhide HR4).sl (by rw [List.length_append]; omega) (by have := (unhide HK3).size; have := (unhide HK4).size; omega) ?_; intro ao5 m5 c5 w5 R5 s5)
      go_roundw
      case rel => exact ⟨k + 1, m5, c5, ao5, by omega, rfl, by go_num, by rw [unhide HE]; exact R5, (unhide HR3).step (unhide HK3) (s5.after (unhide HK4))⟩
      case measure => simp [intOf]; omega
    · obtain rfl : k = 32 := by omega
      obtain ⟨fl, hfl⟩ : ∃ fl, fl = (ptsP bs key noneC 64).flatten := ⟨_, rfl⟩
      have hfll : fl.length ≤ 2048 := by rw [hfl, flat_len]; omega
      have hFB : Hid (Bs fl) := by
        rw [hfl]
        intro b hb
        obtain ⟨x, hx, hb⟩ := List.mem_flatten.1 hb
        unfold ptsP at hx
        obtain ⟨i, _, rfl⟩ := List.mem_map.1 hx
        exact ptP_bs _ _ _ _ b hb
      have hrr : Hid (Row wr w.heap.size (.slice ao m c) fl) := by rw [hfl]; exact unhide HRr
      have HR2 : Hid (r = sha (12 :: fl)) := by rw [unhide HR, hfl]; rfl
      have HL := hide (lists1 (unhide hrr).sl (unhide hFB))
      have HK := hide ((unhide HKr).trans ((Kp.refl [] wr).alloc (.cells #[.slice ao m c] 28)))
      clear hfl HRr HKr HR hrr
      go_wp2_with fail
      refine (reftagged_any 12 _ _ r (by rw [unhide HR2, cat1]) _ (unhide HL) (by omega) (by omega) (by simp) (by simp; omega)).mono ?_
      rintro ee w2 ⟨ao2, m2, c2, rfl, R2, K2⟩
      have HR3 := hide (row_new R2 (unhide HK))
      have HK2 := hide ((unhide HK).trans K2)
      clear HL HK HR2 R2 K2
      go_wp2_with fail
      go_ret
      exact ⟨ao2, m2, c2, rfl, unhide HR3, unhide HK2⟩
end Go.Proofs.YteabdojjllfcpaaGreat

/-
  The contract of the reference's Sign.
-/
namespace Go.Proofs.YteabdojjllfcpaaGreat
open Go.RowKit
theorem acc_nil (w : World) : Acc w [] (.slice none 0 0) w := ⟨[], ⟨⟨rfl, .inl ⟨rfl, rfl⟩⟩, fun x hx => by cases hx⟩, rfl, Kp.refl _ _⟩
end Go.Proofs.YteabdojjllfcpaaGreat

/-
  The reference's owners: their contracts New, Public, Sign.
-/
namespace Go.Proofs.YteabdojjllfcpaaGreat
open Go.RowKit
open Go.Proofs
theorem Tryz.infoLs : (Tryz.prog.info? 47).map (fun i => (i.zero, i.size, i.bytes)) = some (some (.slice none 0 0), 1, 24) := by kernel_rfl
/-- a row of the call's own of slices of slices. -/
def RowL (w : World) (base : Nat) (v : Value) (xs : List Value) : Prop := w.ownsRow base 47 1 v xs.length xs
theorem RowL.shape {w : World} {base : Nat} {v : Value} {xs : List Value} (h : RowL w base v xs) : ∃ ao c, v = .slice ao xs.length c := owns_shape h
theorem RowL.own {w : World} {base : Nat} {v : Value} {xs : List Value} (h : RowL w base v xs) : ∀ k, v.ownBlock = some k → base ≤ k ∧ k < w.heap.size := by
  intro k hk
  rcases h.2 with ⟨rfl, _⟩ | ⟨g, cap, cur, rfl, hb, hg, _⟩
  · cases hk
  · cases hk; exact ⟨hb, (Array.getElem?_eq_some_iff.1 hg).1⟩
theorem RowL.kept {w w' : World} {base : Nat} {v : Value} {xs : List Value} {S : List Nat} (h : RowL w base v xs) (k : Kp S w w') (hv : ∀ i, v.ownBlock = some i → i ∉ S) : RowL w' base v xs := k.owns h hv
theorem RowL.at {w : World} {base : Nat} {v : Value} {xs : List Value} (h : RowL w base v xs) (h0 : 0 < xs.length) : ∃ g c, v = .slice (some ⟨g, 0, none⟩) xs.length c ∧ ∀ i (hi : i < xs.length), w.cell? ⟨g, i, none⟩ = some xs[i] := by
  rcases h.2 with ⟨h', h1⟩ | ⟨g, cap, cur, h', hb, hg, _⟩
  · omega
  · subst h'
    have h1 : w.ownsRow base 47 1 (.slice (some ⟨g, 0, none⟩) xs.length cap) xs.length xs := h
    exact ⟨g, cap, rfl, fun i hi => by rw [h1.cellAt i (by omega)]; simp [List.getElem?_eq_getElem hi]⟩
theorem wpList_append_rowl {w : World} {ops : Array Oper} {rest : List Oper} {o : Oper} {a : Act} {Q : Exit → Act → World → Prop} (hgd : o.guard = none) (s x : Operand)
    (ho : o.op = .call { callee := .builtin .append, args := #[s, x], argTypes := #[177, 177] }) (base : Nat) (v : Value) (xs : List Value) (hs : a.eval s = v) (hrow : RowL w base v xs)
    (ad : Addr) (c : Nat) (ys : List Value) (hx : a.eval x = .slice (some ad) ys.length c) (hy : ∀ j u, ys[j]? = some u → w.cell? (ad.add j) = some u) (h1 : ∀ u ∈ ys, u.oneCell' = true) (hb : xs.length + ys.length ≤ 1000000000) (hbase : base ≤ w.heap.size)
    (h : ∀ ao m c w', RowL w' base (.slice ao m c) (xs ++ ys) → RStep w v w' (.slice ao m c) → wpList Tryz.prog ops Q rest (a.put o.dst (.slice ao m c)) w') : wpList Tryz.prog ops Q (o :: rest) a w := by
  obtain ⟨i0, hi0, hz0, hz1, hz2⟩ := info_parts Tryz.infoLs
  obtain ⟨av, cv, rfl⟩ := hrow.shape
  refine wpList_append_own_at w hgd s x 177 ho base 47 i0 (.slice none 0 0) 1 24 Tryz.underlying177 hi0 hz0 hz1 hz2 rfl (by decide) _ xs.length xs hs hrow ad ys.length c ys hx (by simp) hy h1 (by unfold maxLen; omega) (by omega) hbase ?_
  intro v' w1 hown hgrow _ hat
  have R : RowL w1 base v' (xs ++ ys) := by unfold RowL; rw [List.length_append]; exact hown
  obtain ⟨ao', c', hv⟩ := R.shape
  subst hv
  refine h ao' _ c' w1 R ⟨(Kp.refl _ w).grown hgrow (fun k hk => .inl (by simp [hk])), fun k hk => ?_⟩
  rcases hat with e | e
  · exact .inl (e ▸ hk)
  · rw [e] at hk; cases hk; exact .inr (Nat.le_refl _)
theorem grown_build2 {o : Oper} {a : Act} {w : World} (x y : Operand) (ho : o.op = .buildSlice 47 2 #[(0, x), (1, y)]) (bs cs : List Int) (h : Sl w (a.eval x) bs) (hB : Bs bs) (k : Sl w (a.eval y) cs) (hC : Bs cs) : grown Tryz.prog w (LsM [bs, cs]) ((execOp a.eval o).run Tryz.prog w) := by
  have h2 := lists2 h hB k hC
  obtain ⟨ao, c, e, _⟩ := h
  obtain ⟨ao', c', e', _⟩ := k
  refine grown_run (v := .slice (some ⟨w.heap.size, 0, none⟩) 2 2) (w' := w.alloc (.cells #[a.eval x, a.eval y] 28)) ?_ ((Kp.refl _ _).alloc _) ⟨_, h2, rfl⟩
  obtain ⟨ρ, hρ, hc, hf, hg⟩ := eval_is a
  rw [hρ] at e e' ⊢
  unfold execOp
  simp only [ho]
  simp [go_sem, e, e']
/-- a level of nodes that lies apart from the block g and from pv. -/
def Lo (g : Nat) (pv : Value) (w : World) (x : Value) (ls : List (List Int)) : Prop :=
  ∃ ao n c l, x = .slice ao n c ∧ Lists w x l ∧ l.map (·.2) = ls ∧ ∀ q, (x.ownBlock = some q ∨ ∃ y ∈ l, y.1.ownBlock = some q) → q < w.heap.size ∧ g < q ∧ pv.ownBlock ≠ some q
theorem Lo.kept {g : Nat} {pv x : Value} {w w' : World} {ls : List (List Int)} (h : Lo g pv w x ls) (k : Kp [] w w') : Lo g pv w' x ls := by
  obtain ⟨ao, n, c, l, e, h1, h2, h3⟩ := h
  exact ⟨ao, n, c, l, e, h1.kept k, h2, fun q hq => ⟨Nat.lt_of_lt_of_le (h3 q hq).1 k.size, (h3 q hq).2⟩⟩
theorem Lo.step {g : Nat} {pv pv' x : Value} {w w' : World} {ls : List (List Int)} (h : Lo g pv w x ls) (s : RStep w pv w' pv') : Lo g pv' w' x ls := by
  obtain ⟨ao, n, c, l, e, h1, h2, h3⟩ := h
  refine ⟨ao, n, c, l, e, h1.off s.1 (fun q hq hm => (h3 q (.inl hq)).2.2 (by simpa using hm)) (fun y hy q hq hm => (h3 q (.inr ⟨y, hy, hq⟩)).2.2 (by simpa using hm)), h2, fun q hq => ⟨Nat.lt_of_lt_of_le (h3 q hq).1 s.1.size, (h3 q hq).2.1, fun e' => ?_⟩⟩
  rcases s.2 q e' with h5 | h5
  · exact (h3 q hq).2.2 h5
  · have := (h3 q hq).1; omega
theorem Lo.store {g : Nat} {pv x : Value} {w w' : World} {ls : List (List Int)} (h : Lo g pv w x ls) (k : Kp [g] w w') : Lo g pv w' x ls := by
  obtain ⟨ao, n, c, l, e, h1, h2, h3⟩ := h
  exact ⟨ao, n, c, l, e, h1.off k (fun q hq hm => by have := (h3 q (.inl hq)).2.1; simp at hm; omega) (fun y hy q hq hm => by have := (h3 q (.inr ⟨y, hy, hq⟩)).2.1; simp at hm; omega), h2, fun q hq => ⟨Nat.lt_of_lt_of_le (h3 q hq).1 k.size, (h3 q hq).2⟩⟩
theorem Lo.of_acc {g : Nat} {pv : Value} {w1 w2 : World} {ao : Option Addr} {n c : Nat} {ls : List (List Int)} (h : Acc w1 ls (.slice ao n c) w2) (hl : ls.length ≤ 1000) (hg : g < w1.heap.size) (hp : ∀ q, pv.ownBlock = some q → q < w1.heap.size) : Lo g pv w2 (.slice ao n c) ls := by
  obtain ⟨l, h1, h2, h3⟩ := h
  refine ⟨ao, n, c, l, rfl, h1.lists (by rw [← List.length_map (f := (·.2)), h2]; exact hl), h2, fun q hq => ?_⟩
  have hq2 : w1.heap.size ≤ q ∧ q < w2.heap.size := by
    rcases hq with hq | ⟨y, hy, hq⟩
    · exact ⟨h1.1.own q hq, h1.1.lt hq⟩
    · exact ⟨(h1.2 y hy).1.own q hq, (h1.2 y hy).1.lt hq⟩
  exact ⟨hq2.2, by omega, fun e => by have := hp q e; omega⟩
theorem Lo.lists {g : Nat} {pv x : Value} {w : World} {ls : List (List Int)} (h : Lo g pv w x ls) : ∃ l, Lists w x l ∧ l.map (·.2) = ls := by
  obtain ⟨_, _, _, l, _, h1, h2, _⟩ := h
  exact ⟨l, h1, h2⟩
/-- an owner at block g, its seed's slice, its first n levels. -/
def OwS (sa : Option Addr) (sn sc : Nat) (w : World) (base g : Nat) (bs : List Int) (n : Nat) : Prop :=
  ∃ lv xs, w.heap[g]? = some (.cells #[.slice sa sn sc, lv] 179 (0, 0)) ∧ (Sl w (.slice sa sn sc) bs ∧ ∀ q, (Value.slice sa sn sc).ownBlock = some q → q ≠ g ∧ lv.ownBlock ≠ some q) ∧ RowL w base lv xs ∧ g < base ∧ xs.length = n ∧ ∀ h (hh : h < xs.length), Lo g lv w xs[h] (lvP bs h)
theorem OwS.kept {sa : Option Addr} {sn sc : Nat} {w w' : World} {base g n : Nat} {bs : List Int} (h : OwS sa sn sc w base g bs n) (k : Kp [] w w') : OwS sa sn sc w' base g bs n := by
  obtain ⟨lv, xs, h1, h2, h3, h4, h5, h6⟩ := h
  exact ⟨lv, xs, k.heap h1 (by simp), ⟨h2.1.kept k (by simp), h2.2⟩, h3.kept k (by simp), h4, h5, fun h hh => (h6 h hh).kept k⟩
/-- an owner at block g, its first n levels. -/
def Ow (w : World) (base g : Nat) (bs : List Int) (n : Nat) : Prop := ∃ sa sn sc, OwS sa sn sc w base g bs n
theorem Ow.kept {w w' : World} {base g n : Nat} {bs : List Int} (h : Ow w base g bs n) (k : Kp [] w w') : Ow w' base g bs n := by
  obtain ⟨sa, sn, sc, h1⟩ := h
  exact ⟨sa, sn, sc, h1.kept k⟩
/-- it stays, whatever becomes of older blocks. -/
theorem OwS.apart {sa : Option Addr} {sn sc : Nat} {w w' : World} {base g n b : Nat} {bs : List Int} {S : List Nat} (h : OwS sa sn sc w base g bs n) (hg : b ≤ g) (hs : ∀ q, (Value.slice sa sn sc).ownBlock = some q → b ≤ q) (hS : ∀ q ∈ S, q < b) (k : Kp S w w') : OwS sa sn sc w' base g bs n := by
  obtain ⟨lv, xs, h1, h2, h3, h4, h5, h6⟩ := h
  refine ⟨lv, xs, k.heap h1 (fun hm => by have := hS g hm; omega), ⟨h2.1.kept k (fun q hq hm => by have := hS q hm; have := hs q hq; omega), h2.2⟩, h3.kept k (fun q hq hm => by have := hS q hm; have := (h3.own q hq).1; omega), h4, h5, fun h hh => ?_⟩
  obtain ⟨ao, n', c, l, e, k1, k2, k3⟩ := h6 h hh
  exact ⟨ao, n', c, l, e, k1.off k (fun q hq hm => by have := hS q hm; have := (k3 q (.inl hq)).2.1; omega) (fun y hy q hq hm => by have := hS q hm; have := (k3 q (.inr ⟨y, hy, hq⟩)).2.1; omega), k2, fun q hq => ⟨Nat.lt_of_lt_of_le (k3 q hq).1 k.size, (k3 q hq).2⟩⟩
theorem ow_push {wr w5 : World} {base g n : Nat} {bs : List Int} {sa : Option Addr} {sn sc : Nat} {lv lv' x : Value} {xs : List Value} (h1 : wr.heap[g]? = some (.cells #[.slice sa sn sc, lv] 179 (0, 0))) (hne : bs ≠ []) (h2 : Sl wr (.slice sa sn sc) bs ∧ ∀ q, (Value.slice sa sn sc).ownBlock = some q → q ≠ g ∧ lv.ownBlock ≠ some q) (h3 : RowL wr base lv xs) (h4 : g < base) (h5 : xs.length = n) (h6 : ∀ h (hh : h < xs.length), Lo g lv wr xs[h] (lvP bs h))
    (hx : Lo g lv wr x (lvP bs n)) (r : RowL w5 base lv' (xs ++ [x])) (s : RStep wr lv w5 lv') : OwS sa sn sc (w5.setCell ⟨g, 1, none⟩ lv') base g bs (n + 1) := by
  have k := setCell_kp w5 g 1 lv'
  have hgl : ∀ q, lv'.ownBlock = some q → q ≠ g := fun q hq e => by have := (r.own q hq).1; omega
  have hg5 : w5.heap[g]? = some (.cells #[.slice sa sn sc, lv] 179 (0, 0)) := s.1.heap h1 (fun hm => by have := (h3.own g (by simpa using hm)).1; omega)
  have hs5 : Sl w5 (.slice sa sn sc) bs := h2.1.kept s.1 (fun q hq hm => (h2.2 q hq).2 (by simpa using hm))
  have hsq : ∀ q, (Value.slice sa sn sc).ownBlock = some q → q ≠ g ∧ lv'.ownBlock ≠ some q := fun q hq => ⟨(h2.2 q hq).1, fun e => by
    rcases s.2 q e with h | h
    · exact (h2.2 q hq).2 h
    · have := h2.1.lt hne q hq; omega⟩
  refine ⟨lv', xs ++ [x], ?_, ⟨hs5.kept k (fun q hq => by simpa using (hsq q hq).1), hsq⟩, r.kept k (fun q hq => by simpa using hgl q hq), h4, by simp [h5], fun h hh => ?_⟩
  · have := heap_setCell_same w5 g 1 _ _ lv' hg5
    simpa using this
  · rw [List.length_append, List.length_cons, List.length_nil] at hh
    by_cases hlt : h < xs.length
    · rw [List.getElem_append_left hlt]
      exact ((h6 h hlt).step s).store k
    · obtain rfl : h = n := by omega
      rw [List.getElem_append_right (by omega)]
      simp only [h5, Nat.sub_self, List.getElem_cons_zero]
      exact (hx.step s).store k
/-- how many a slice has. -/
def lenOf : Value → Nat | .slice _ n _ => n | _ => 0
set_option maxRecDepth 100000 in
set_option maxHeartbeats 4000000 in
theorem new_ownS (vb : Value) (bs : List Int) (w : World) (hS : Sl w vb bs) (hB : Bs bs) (hl : bs.length = 32) :
    Calls Tryz.prog 83 #[vb] w fun e w' => ∃ g base, e = .returned (.pointer (some ⟨g, 0, none⟩)) ∧ (∃ sa sn sc, vb = .slice sa sn sc ∧ OwS sa sn sc w' base g bs 5) ∧ Kp [] w w' ∧ w.heap.size ≤ g := by
  have HS := hide hS
  have HB := hide hB
  have hne : bs ≠ [] := fun e => by rw [e] at hl; simp at hl
  have HLT := hide (hS.lt hne)
  obtain ⟨ab, cb, hvb, _⟩ := hS
  obtain ⟨nb, hnb⟩ : ∃ n, n = bs.length := ⟨_, rfl⟩
  rw [← hnb] at hvb
  subst hvb
  have HNE := hide hne
  have HL32 := hide hl
  clear hB hnb hl hne
  obtain ⟨ob, hob⟩ : ∃ o : Obj, o = (.cells #[.slice ab nb cb, .slice none 0 0] 179) := ⟨_, rfl⟩
  have K1 : Kp [] w (w.alloc ob) := (Kp.refl [] w).alloc ob
  have HG1 : Hid ((w.alloc ob).heap[w.heap.size]? = some ob) := heap_alloc_new w ob
  have HSZ : Hid ((w.alloc ob).heap.size = w.heap.size + 1) := by show _ = _; simp
  rw [hob] at K1 HG1 HSZ
  have HK1 := hide K1
  obtain ⟨w1, hw1⟩ : ∃ w1, w1 = w.alloc (.cells #[.slice ab nb cb, .slice none 0 0] 179) := ⟨_, rfl⟩
  have HW1 := hide hw1
  rw [← hw1] at HK1 HG1 HSZ
  clear K1 hob hw1
  go_enter Tryz.func83, Tryz.ntmps83
  go_wp2_with fail
  go_loopw [4, 5] (fun v i wr => ∃ (k m cc : Nat) (ao : Option Addr), k ≤ 16 ∧ v = .slice ao m cc ∧ i = .int .i64 k ∧ Acc w1 (lvsP bs k) v wr) (fun _ i _ => 16 - (intOf i).toNat)
  case atStart => exact ⟨0, 0, 0, none, by omega, rfl, rfl, by rw [unhide HW1]; exact acc_nil _⟩
  case round =>
    obtain ⟨k, m, cc, ao, hk, rfl, rfl, Ar⟩ := hrel
    have HA := hide Ar
    have HKr := hide ((unhide HK1).trans Ar.kp)
    clear Ar
    by_cases hlt : k < 16
    · have hlt2 : (k : Int) < 16 := by omega
      obtain ⟨r, hr⟩ : ∃ r, r = pubP bs (k : Nat) := ⟨_, rfl⟩
      have HRB : Hid (Bs r) := by rw [hr]; exact pubP_bs _ _
      have HE : Hid (lvsP bs (k + 1) = lvsP bs k ++ [r]) := by rw [hr]; exact lvsP_succ _ _
      have HLN : Hid ((lvsP bs k).length ≤ 1000000) := by rw [lvsP_len]; show k ≤ 1000000; omega
      have HC := hide (refpublic_any (.slice ab nb cb) bs (k : Nat) r hr wr ((unhide HS).kept (unhide HKr) (by simp)) (unhide HB) (by have := unhide HL32; omega))
      clear hr
      go_wp2_with fail
      refine (unhide HC).mono ?_
      rintro ee w4 ⟨a4, m4, c4, rfl, R4, K4⟩
      have HR4 := hide R4
      have HK4 := hide K4
      clear R4 K4 HC
      go_wp2_with (at_builtin; refine wpList_acc rfl (.tmp 15) (.tmp 19) rfl _ _ rfl (unhide HA) (unhide HLN) _ r (unhide HK4) (unhide HR4) (unhide HRB) rfl ?_; intro ao5 m5 c5 w5 A5)
      go_roundw
      case rel => exact ⟨k + 1, m5, c5, ao5, by omega, rfl, by go_num, by have e := unhide HE; rw [← e] at A5; exact A5⟩
      case measure => simp [intOf]; omega
    · obtain rfl : k = 16 := by omega
      have HLo : Hid (Lo w.heap.size (.slice none 0 0) wr (.slice ao m cc) (lvP bs 0)) := Lo.of_acc (unhide HA) (by have := lv_le bs 0; omega) (by have := unhide HSZ; omega) (fun q hq => by cases hq)
      have HGr := hide ((unhide HA).kp.heap (unhide HG1) (by simp))
      have hm16 : m = 16 := by rw [(unhide HA).cap, lvsP_len]
      subst hm16
      have hc1 : wr.cell? ⟨w.heap.size, 1, none⟩ = some (.slice none 0 0) := by rw [cell_of_row wr w.heap.size 1 _ _ _ (unhide HGr)]; rfl
      have HSr := hide ((unhide HS).kept (unhide HKr) (by simp))
      have hbr : w.heap.size + 1 ≤ wr.heap.size := by have := (unhide HA).kp.size; have := unhide HSZ; omega
      clear HA HG1 HSZ HK1 HW1
      go_wp2_with (at_builtin; refine wpList_append_rowl rfl (.tmp 25) (.tmp 27) rfl (w.heap.size + 1) (.slice none 0 0) [] rfl ⟨rfl, .inl ⟨rfl, rfl⟩⟩ ⟨wr.heap.size, 0, none⟩ 1 [.slice ao 16 cc] rfl (fun j u hu => World.news_of_block (heap_alloc_new wr _) j u (by simpa using hu)) (by simp [Value.oneCell']) (by simp) (by simp; omega) ?_; intro ao5 m5 c5 w5 R5 S5; refine Hid.out ?_)
      have S5' := S5.after ((Kp.refl [] wr).alloc (.cells #[.slice ao 16 cc] 47))
      have G5 : w5.heap[w.heap.size]? = some _ := S5'.1.heap (unhide HGr) (by simp [Value.ownBlock])
      have hc5 : w5.cell? ⟨w.heap.size, 1, none⟩ = some (.slice none 0 0) := by rw [cell_of_row w5 w.heap.size 1 _ _ _ G5]; rfl
      have hf5 : w5.frozen? ⟨w.heap.size, 1, none⟩ = false := frozen_of_row w5 w.heap.size 1 _ _ G5
      have HO : Hid (OwS ab nb cb (w5.setCell ⟨w.heap.size, 1, none⟩ (.slice ao5 m5 c5)) (w.heap.size + 1) w.heap.size bs 1) := ow_push (n := 0) (xs := []) (unhide HGr) (unhide HNE) ⟨unhide HSr, fun q hq => ⟨fun e => by have := unhide HLT q hq; omega, by simp [Value.ownBlock]⟩⟩ ⟨rfl, .inl ⟨rfl, rfl⟩⟩ (by omega) rfl (fun h hh => by cases hh) (unhide HLo) R5 S5'
      have HK6 : Hid (Kp [] w (w5.setCell ⟨w.heap.size, 1, none⟩ (.slice ao5 m5 c5))) := ((unhide HKr).then S5'.1 (fun i hi => by simp [Value.ownBlock] at hi)).setCell (p := ⟨w.heap.size, 1, none⟩) (.inr (by simp)) _
      have HL6 : Hid (∃ l, Lists (w5.setCell ⟨w.heap.size, 1, none⟩ (.slice ao5 m5 c5)) (.slice ao 16 cc) l ∧ l.map (·.2) = lvP bs 0) := (((unhide HLo).step S5').store (setCell_kp _ _ _ _)).lists
      clear R5 S5 S5' G5 HLo HGr HSr HKr hbr
      refine hide ?_
      go_wp2_with fail
      go_loopw [4] (fun v wr => ∃ (h n cc : Nat) (ao : Option Addr), h ≤ 4 ∧ v = .slice ao n cc ∧ n = 16 / 2 ^ h ∧ OwS ab nb cb wr (w.heap.size + 1) w.heap.size bs (h + 1) ∧ (∃ l, Lists wr v l ∧ l.map (·.2) = lvP bs h) ∧ Kp [] w wr) (fun v _ => lenOf v)
      case atStart => exact ⟨0, 16, cc, ao, by omega, rfl, by decide, unhide HO, unhide HL6, unhide HK6⟩
      case round =>
        clear HO HL6 HK6 hc5 hf5 hc1
        obtain ⟨h, n, c3, a3, hh, rfl, hn, Or, ⟨l, hL, hle⟩, Kr⟩ := hrel
        have HO := hide Or
        have HL := hide hL
        have HLE := hide hle
        have HKr := hide Kr
        have HNN := hide hn
        clear Or hL hle Kr
        by_cases hlt : h < 4
        · obtain ⟨M, hM⟩ : ∃ M, M = n / 2 := ⟨_, rfl⟩
          have hnM : n = 2 * M ∧ 1 ≤ M ∧ M ≤ 8 ∧ M = 16 / 2 ^ (h + 1) := by
            rw [hM, hn]
            rcases (by omega : h = 0 ∨ h = 1 ∨ h = 2 ∨ h = 3) with rfl | rfl | rfl | rfl <;> decide
          have HNM := hide hnM
          have hn1 : (1 : Int) < (n : Int) := by omega
          have hni : (n : Int) ≤ 16 := by omega
          have hln : (lvP bs h).length = n := by rw [lvP_len]; exact hn.symm
          have HLN0 := hide hln
          obtain ⟨ls, hls⟩ : ∃ ls, ls = lvP bs h := ⟨_, rfl⟩
          have HLS := hide hls
          have HML : Hid (∀ x ∈ ls, x.length ≤ 1000) := fun x hx => by rw [hls] at hx; rw [(lvP_all bs h x hx).1]; omega
          rw [← hls] at HLE HLN0
          clear hn hM hnM hln hls
          obtain ⟨wo, hwo⟩ : ∃ wo, wo = wr := ⟨_, rfl⟩
          subst hwo
          go_wp2_with fail
          go_loopw [6, 7] (fun v i wi => ∃ (k m cc : Nat) (ao : Option Addr), k ≤ M ∧ v = .slice ao m cc ∧ i = .int .i64 ((2 * k : Nat) : Int) ∧ Acc wo ((abvP ls).take k) v wi) (fun _ i _ => 2 * M - (intOf i).toNat)
          case atStart => exact ⟨0, 0, 0, none, by omega, rfl, rfl, acc_nil _⟩
          case round =>
            obtain ⟨k, m, cc, ao, hk, rfl, rfl, Ar⟩ := hrel
            obtain ⟨wi, hwi⟩ : ∃ wi, wi = wr := ⟨_, rfl⟩
            subst hwi
            have HA := hide Ar
            clear Ar
            obtain ⟨j, hj⟩ : ∃ j, j = 2 * k := ⟨_, rfl⟩
            rw [← hj]
            by_cases hlt' : k < M
            · have hlt2 : (j : Int) < (n : Int) := by have := unhide HNM; omega
              have hlt3 : (j : Int) + 1 < (n : Int) := by have := unhide HNM; omega
              have hwr : IntKind.i64.wrap ((j : Int) + 1) = (j : Int) + 1 := wrap_at rfl (by omega) (by omega)
              obtain ⟨b, off, ax, nx, cx, rfl, hcx, hSx, hBx⟩ := lists_at (unhide HL) (unhide HLE) j (by have := unhide HLN0; omega)
              obtain ⟨b', off', ay, ny, cy, e, hcy, hSy, hBy⟩ := lists_at (unhide HL) (unhide HLE) (j + 1) (by have := unhide HLN0; omega)
              injection e with e
              injection e with e1 e2
              subst e1
              subst e2
              have hxl : (ls.getD j []).length ≤ 1000 := unhide HML _ (getD_mem (by have := unhide HLN0; omega))
              have hyl : (ls.getD (j + 1) []).length ≤ 1000 := unhide HML _ (getD_mem (by have := unhide HLN0; omega))
              obtain ⟨r, hr⟩ : ∃ r, r = nodeP (ls.getD j []) (ls.getD (j + 1) []) := ⟨_, rfl⟩
              have HRB : Hid (Bs r) := by rw [hr]; exact nodeP_bs _ _
              have HE : Hid ((abvP ls).take (k + 1) = (abvP ls).take k ++ [r]) := by rw [hr, hj]; exact abv_take ls k (by have := unhide HLN0; have := unhide HNM; omega)
              have HLN : Hid (((abvP ls).take k).length ≤ 1000000) := by rw [List.length_take]; show min k _ ≤ 1000000; omega
              obtain ⟨X, hX⟩ : ∃ X, X = ls.getD j [] := ⟨_, rfl⟩
              obtain ⟨Y, hY⟩ : ∃ Y, Y = ls.getD (j + 1) [] := ⟨_, rfl⟩
              rw [← hX] at hSx hBx hxl hr
              rw [← hY] at hSy hBy hyl hr
              have HKi := hide (unhide HA).kp
              have HCX : Hid (∀ w', Kp [] wi.drew w' → w'.cell? ⟨b, off + j, none⟩ = some (.slice ax nx cx)) := fun w' k' => (((unhide HKi).trans (kp_drew wi)).trans k').cell hcx (by simp)
              have HCY : Hid (∀ w', Kp [] wi.drew w' → w'.cell? ⟨b, off + (j + 1), none⟩ = some (.slice ay ny cy)) := fun w' k' => (((unhide HKi).trans (kp_drew wi)).trans k').cell hcy (by simp)
              have HSX : Hid (∀ w', Kp [] wi.drew w' → Sl w' (.slice ax nx cx) X) := fun w' k' => hSx.kept (((unhide HKi).trans (kp_drew wi)).trans k') (by simp)
              have HSY : Hid (∀ w', Kp [] wi.drew w' → Sl w' (.slice ay ny cy) Y) := fun w' k' => hSy.kept (((unhide HKi).trans (kp_drew wi)).trans k') (by simp)
              have HR : Hid (r = sha (14 :: [X, Y].flatten)) := hide (by rw [hr, nodeP]; simp)
              have HBX := hide hBx
              have HBY := hide hBy
              have HJ : Hid ((j : Int) = 2 * (k : Int)) := hide (by omega)
              have HJN := hide hj
              clear hX hY hcx hcy hSx hSy hBx hBy hr hj
              go_wp2_with fail
              refine region_grow_tail 13 Tryz.mixed [Is (.slice ao m cc), Is (.slice (some ⟨b, off, none⟩) n c3), Is (.int .i64 j), Is (.pointer (some ⟨b, off + j, none⟩)), Is (.slice ax nx cx), Is (.slice (some ⟨b, off, none⟩) n c3), Is (.int .i64 j), Is (.int .i64 (j + 1)), Is (.pointer (some ⟨b, off + (j + 1), none⟩)), Is (.slice ay ny cy), LsM [X, Y], RowT wi.heap.size r, One wi.heap.size r] [[(6, none)], [(4, none)], [(7, none)], [(41, some 1), (42, some 2)], [(43, some 3)], [(4, none)], [(7, none)], [(46, some 6)], [(45, some 5), (47, some 7)], [(48, some 8)], [(44, some 4), (49, some 9)], [(50, some 10)], [(51, some 11)]] (by kernel_rfl) ?_ ?_ ?_
              all_goals try simp only [List.take_succ_cons, List.take_zero, List.drop_succ_cons, List.drop_zero]
              · simp only [List.mem_cons, List.not_mem_nil, or_false]
                intro R hR
                rcases hR with rfl | rfl | rfl | rfl | rfl | rfl | rfl | rfl | rfl | rfl | rfl | rfl | rfl <;> first | exact stable_is _ | exact stable_lsm _ | exact stable_row _ _ | exact stable_one _ _
              · refine steps_cons (fun a w hk hn => ?_) ?_
                · have h6 : a.eval (.tmp 6) = .slice ao m cc := hn.1
                  clear hn
                  refine wants_plain rfl ?_
                  exact grown_move (.tmp 6) rfl h6
                refine steps_cons (fun a w hk hn => ?_) ?_
                · have h4 : a.eval (.tmp 4) = .slice (some ⟨b, off, none⟩) n c3 := hn.1
                  clear hn
                  refine wants_plain rfl ?_
                  exact grown_move (.tmp 4) rfl h4
                refine steps_cons (fun a w hk hn => ?_) ?_
                · have h7 : a.eval (.tmp 7) = .int .i64 j := hn.1
                  clear hn
                  refine wants_plain rfl ?_
                  exact grown_move (.tmp 7) rfl h7
                refine steps_cons (fun a w hk hn => ?_) ?_
                · have h41 : a.eval (.tmp 41) = .slice (some ⟨b, off, none⟩) n c3 := hn.1
                  have h42 : a.eval (.tmp 42) = .int .i64 j := hn.2.1
                  clear hn
                  refine wants_plain rfl ?_
                  refine grown_run (v := .pointer (some ⟨b, off + j, none⟩)) ?_ (Kp.refl _ _) rfl
                  obtain ⟨ρ, hρ, hc, hf, hg⟩ := eval_is a
                  rw [hρ] at h41 h42 ⊢
                  simp [go_sem, h41, h42, hlt2]
                refine steps_cons (fun a w hk hn => ?_) ?_
                · have h43 : a.eval (.tmp 43) = .pointer (some ⟨b, off + j, none⟩) := hn.1
                  clear hn
                  refine wants_plain rfl ?_
                  refine grown_run (v := .slice ax nx cx) ?_ (Kp.refl _ _) rfl
                  have hcell := unhide HCX w hk
                  obtain ⟨ρ, hρ, hc, hf, hg⟩ := eval_is a
                  rw [hρ] at h43 ⊢
                  simp [go_sem, h43, hcell]
                refine steps_cons (fun a w hk hn => ?_) ?_
                · have h4 : a.eval (.tmp 4) = .slice (some ⟨b, off, none⟩) n c3 := hn.1
                  clear hn
                  refine wants_plain rfl ?_
                  exact grown_move (.tmp 4) rfl h4
                refine steps_cons (fun a w hk hn => ?_) ?_
                · have h7 : a.eval (.tmp 7) = .int .i64 j := hn.1
                  clear hn
                  refine wants_plain rfl ?_
                  exact grown_move (.tmp 7) rfl h7
                refine steps_cons (fun a w hk hn => ?_) ?_
                · have h46 : a.eval (.tmp 46) = .int .i64 j := hn.1
                  clear hn
                  refine wants_plain rfl ?_
                  refine grown_run (v := .int .i64 (j + 1)) ?_ (Kp.refl _ _) rfl
                  obtain ⟨ρ, hρ, hc, hf, hg⟩ := eval_is a
                  rw [hρ] at h46 ⊢
                  simp [go_sem, hc, h46, hwr]
                refine steps_cons (fun a w hk hn => ?_) ?_
                · have h45 : a.eval (.tmp 45) = .slice (some ⟨b, off, none⟩) n c3 := hn.1
                  have h47 : a.eval (.tmp 47) = .int .i64 (j + 1) := hn.2.1
                  clear hn
                  refine wants_plain rfl ?_
                  refine grown_run (v := .pointer (some ⟨b, off + (j + 1), none⟩)) ?_ (Kp.refl _ _) rfl
                  obtain ⟨ρ, hρ, hc, hf, hg⟩ := eval_is a
                  rw [hρ] at h45 h47 ⊢
                  simp [go_sem, h45, h47, hlt3]
                  intro h; omega
                refine steps_cons (fun a w hk hn => ?_) ?_
                · have h48 : a.eval (.tmp 48) = .pointer (some ⟨b, off + (j + 1), none⟩) := hn.1
                  clear hn
                  refine wants_plain rfl ?_
                  refine grown_run (v := .slice ay ny cy) ?_ (Kp.refl _ _) rfl
                  have hcell := unhide HCY w hk
                  obtain ⟨ρ, hρ, hc, hf, hg⟩ := eval_is a
                  rw [hρ] at h48 ⊢
                  simp [go_sem, h48, hcell]
                refine steps_cons (fun a w hk hn => ?_) ?_
                · have h44 : a.eval (.tmp 44) = .slice ax nx cx := hn.1
                  have h49 : a.eval (.tmp 49) = .slice ay ny cy := hn.2.1
                  clear hn
                  refine wants_plain rfl ?_
                  exact grown_build2 (.tmp 44) (.tmp 49) rfl X Y (by rw [h44]; exact unhide HSX w hk) (unhide HBX) (by rw [h49]; exact unhide HSY w hk) (unhide HBY)
                refine steps_cons (fun a w hk hn => ?_) ?_
                · have h50 : (LsM [X, Y]) (a.eval (.tmp 50)) w := hn.1
                  clear hn
                  refine wants_plain rfl ?_
                  refine grown_call (f := 37) rfl Tryz.func37 (by kernel_rfl) (by kernel_rfl) ?_
                  simp only [List.map_toArray, List.map_cons, List.map_nil]
                  refine (reftagged_lsm r (unhide HR) h50 (by omega) (by omega) (by simp) (by simp; omega)).mono ?_
                  rintro e w' ⟨ao, m, c, rfl, R, K⟩
                  exact ⟨_, rfl, K, owns_rebase R (fun i hi => Nat.le_trans hk.size (R.own i hi))⟩
                refine steps_cons (fun a w hk hn => ?_) ?_
                · have h51 : (RowT wi.heap.size r) (a.eval (.tmp 51)) w := hn.1
                  clear hn
                  refine wants_plain rfl ?_
                  exact grown_one (.tmp 51) rfl wi.heap.size r h51
                exact trivial
              intro W1 hkW1
              rintro _ rfl
              rintro _ rfl
              rintro _ rfl
              rintro _ rfl
              rintro _ rfl
              rintro _ rfl
              rintro _ rfl
              rintro _ rfl
              rintro _ rfl
              rintro _ rfl
              intro v50 h50
              intro v51 h51
              intro v52 h52
              refine fin_nil ?_
              simp only [Act.put, List.set_cons_zero, List.set_cons_succ, List.setIfInBounds_toArray]
              go_wp2_with (at_builtin; refine wpList_accg rfl (.tmp 40) (.tmp 52) rfl _ _ rfl (unhide HA) (unhide HLN) r ((kp_drew wi).trans hkW1) v52 rfl h52 (unhide HRB) ?_; intro ao5 m5 c5 w5 A5)
              go_roundw
              case rel => exact ⟨k + 1, m5, c5, ao5, by omega, rfl, by have := unhide HJ; go_num, by have e := unhide HE; rw [← e] at A5; exact A5⟩
              case measure => simp [intOf]; have := unhide HJN; omega
            · obtain rfl : k = M := by omega
              have hlt2 : ¬ (j : Int) < (n : Int) := by have := unhide HNM; omega
              have HT : Hid ((abvP ls).take k = abvP ls) := List.take_of_length_le (by rw [abvP_len]; have := unhide HLN0; have := unhide HNM; omega)
              rw [unhide HT] at HA
              have hmk : m = k := by rw [(unhide HA).cap, abvP_len]; have := unhide HLN0; have := unhide HNM; omega
              subst hmk
              obtain ⟨lv, xs, o1, o2, o3, o4, o5, o6⟩ := (unhide HO).kept (unhide HA).kp
              have oe : lvP bs (h + 1) = abvP ls := by rw [unhide HLS]; rfl
              have hgo : w.heap.size < wo.heap.size := by
                obtain ⟨_, _, p1, _⟩ := unhide HO
                exact (Array.getElem?_eq_some_iff.1 p1).1
              have hpv : ∀ q, lv.ownBlock = some q → q < wo.heap.size := by
                obtain ⟨lv0, xs0, p1, _, p3, _⟩ := unhide HO
                have e := (unhide HA).kp.heap p1 (by simp)
                rw [o1] at e
                have e' : lv = lv0 := by injection e with e; injection e with e; simp at e; exact e
                subst e'
                exact fun q hq => (p3.own q hq).2
              have HLo : Hid (Lo w.heap.size lv wi (.slice ao m cc) (lvP bs (h + 1))) := by rw [oe]; exact Lo.of_acc (unhide HA) (by rw [abvP_len]; have := unhide HLN0; omega) hgo hpv
              have hc1 : wi.cell? ⟨w.heap.size, 1, none⟩ = some lv := by rw [cell_of_row wi w.heap.size 1 _ _ _ o1]; rfl
              obtain ⟨la, lc, hlv⟩ := o3.shape
              have hKi := (unhide HKr).trans (unhide HA).kp
              have hbi : w.heap.size + 1 ≤ wi.heap.size := by have := (unhide HA).kp.size; omega
              have H1 := hide o1
              have H2 := hide o2
              have H3 := hide o3
              have H5 := hide o5
              have H6 := hide o6
              have HKI := hide hKi
              have HLV := hide hlv
              have hxl : xs.length ≤ 10 := by rw [o5]; omega
              have HXL := hide hxl
              obtain ⟨N, hN⟩ : ∃ N, N = xs.length := ⟨_, rfl⟩
              rw [← hN] at hlv
              subst hlv
              clear o1 o2 o3 o5 o6 hKi hpv hgo oe hxl hN HT HO HL HLE HLN0 HML HA hj
              go_wp2_with (at_builtin; refine wpList_append_rowl rfl (.tmp 59) (.tmp 61) rfl (w.heap.size + 1) (.slice la N lc) xs rfl ((unhide H3).kept ((Kp.refl [] wi).alloc _) (by simp)) ⟨wi.heap.size, 0, none⟩ 1 [.slice ao m cc] rfl (fun j u hu => World.news_of_block (heap_alloc_new wi _) j u (by simpa using hu)) (by simp [Value.oneCell']) (by have := unhide HXL; simp; omega) (by simp; omega) ?_; intro ao5 m5 c5 w5 R5 S5; refine Hid.out ?_)
              have S5' := S5.after ((Kp.refl [] wi).alloc (.cells #[.slice ao m cc] 47))
              have hng : ∀ q, (Value.slice la N lc).ownBlock = some q → q ≠ w.heap.size := fun q hq => by have := ((unhide H3).own q hq).1; omega
              have G5 : w5.heap[w.heap.size]? = some _ := S5'.1.heap (unhide H1) (fun hm => hng _ (by simpa using hm) rfl)
              have hc5 : w5.cell? ⟨w.heap.size, 1, none⟩ = some (.slice la N lc) := by rw [cell_of_row w5 w.heap.size 1 _ _ _ G5]; rfl
              have hf5 : w5.frozen? ⟨w.heap.size, 1, none⟩ = false := frozen_of_row w5 w.heap.size 1 _ _ G5
              have HO6 : Hid (OwS ab nb cb (w5.setCell ⟨w.heap.size, 1, none⟩ (.slice ao5 m5 c5)) (w.heap.size + 1) w.heap.size bs (h + 1 + 1)) := ow_push (unhide H1) (unhide HNE) (unhide H2) (unhide H3) (by omega) (unhide H5) (unhide H6) (unhide HLo) R5 S5'
              have HK6 : Hid (Kp [] w (w5.setCell ⟨w.heap.size, 1, none⟩ (.slice ao5 m5 c5))) := ((unhide HKI).then S5'.1 (fun i hi => .inr (by have := ((unhide H3).own i (by simpa using hi)).1; omega))).setCell (p := ⟨w.heap.size, 1, none⟩) (.inr (by simp)) _
              have HL6 : Hid (∃ l, Lists (w5.setCell ⟨w.heap.size, 1, none⟩ (.slice ao5 m5 c5)) (.slice ao m cc) l ∧ l.map (·.2) = lvP bs (h + 1)) := (((unhide HLo).step S5').store (setCell_kp _ _ _ _)).lists
              clear R5 S5 S5' G5 HLo H1 H2 H3 H5 H6 hng hc1
              refine hide ?_
              go_wp2_with fail
              go_roundw
              case rel => exact ⟨h + 1, m, cc, ao, by omega, rfl, (unhide HNM).2.2.2, unhide HO6, unhide HL6, unhide HK6⟩
              case measure => simp [lenOf]; have := unhide HNM; omega
        · obtain rfl : h = 4 := by omega
          have hn1 : n = 1 := hn
          subst hn1
          clear HL HLE
          go_wp2_with fail
          go_ret
          exact ⟨_, _, rfl, ⟨ab, nb, cb, rfl, unhide HO⟩, unhide HKr, Nat.le_refl _⟩
end Go.Proofs.YteabdojjllfcpaaGreat

/-
  The contracts of the reference's owner's Public, and of its Right.
-/
namespace Go.Proofs.YteabdojjllfcpaaGreat
open Go.RowKit
open Go.Proofs
theorem Ow.open {w : World} {base g : Nat} {bs : List Int} (h : Ow w base g bs 5) : ∃ sa sn sc gl c, w.cell? ⟨g, 0, none⟩ = some (.slice sa sn sc) ∧ w.cell? ⟨g, 1, none⟩ = some (.slice (some ⟨gl, 0, none⟩) 5 c) ∧ Sl w (.slice sa sn sc) bs ∧ (∀ h, h < 5 → ∃ al nl cl l, w.cell? ⟨gl, h, none⟩ = some (.slice al nl cl) ∧ Lists w (.slice al nl cl) l ∧ l.map (·.2) = lvP bs h) := by
  obtain ⟨sa, sn, sc, lv, xs, h1, h2, h3, _, h5, h6⟩ := h
  obtain ⟨gl, c, e, hc⟩ := h3.at (by omega)
  rw [h5] at e
  subst e
  refine ⟨sa, sn, sc, gl, c, by rw [cell_of_row w g 0 _ _ _ h1]; rfl, by rw [cell_of_row w g 1 _ _ _ h1]; rfl, h2.1, fun h hh => ?_⟩
  have hx := hc h (by omega)
  obtain ⟨ao, n, c', l, e, k1, k2, _⟩ := h6 h (by omega)
  rw [e] at hx k1
  exact ⟨ao, n, c', l, hx, k1, k2⟩
theorem Ow.openA {w : World} {base g : Nat} {bs : List Int} (h : Ow w base g bs 5) : ∃ sa sn sc gl c, w.cell? ⟨g, 0, none⟩ = some (.slice sa sn sc) ∧ w.cell? ⟨g, 1, none⟩ = some (.slice (some ⟨gl, 0, none⟩) 5 c) ∧ Sl w (.slice sa sn sc) bs ∧ (∀ h, h < 5 → ∃ al nl cl l, w.cell? ⟨gl, h, none⟩ = some (.slice al nl cl) ∧ Lists w (.slice al nl cl) l ∧ l.map (·.2) = lvP bs h ∧ ∀ y ∈ l, ∀ q, y.1.ownBlock = some q → g < q) := by
  obtain ⟨sa, sn, sc, lv, xs, h1, h2, h3, _, h5, h6⟩ := h
  obtain ⟨gl, c, e, hc⟩ := h3.at (by omega)
  rw [h5] at e
  subst e
  refine ⟨sa, sn, sc, gl, c, by rw [cell_of_row w g 0 _ _ _ h1]; rfl, by rw [cell_of_row w g 1 _ _ _ h1]; rfl, h2.1, fun h hh => ?_⟩
  have hx := hc h (by omega)
  obtain ⟨ao, n, c', l, e, k1, k2, k3⟩ := h6 h (by omega)
  rw [e] at hx k1
  exact ⟨ao, n, c', l, hx, k1, k2, fun y hy q hq => (k3 q (.inr ⟨y, hy, hq⟩)).2.1⟩
theorem lists_atA {w : World} {ao : Option Addr} {n c : Nat} {l : List (Value × List Int)} {ls : List (List Int)} (hL : Lists w (.slice ao n c) l) (he : l.map (·.2) = ls) (i : Nat) (hi : i < ls.length) :
    ∃ b off ax nx cx, ao = some ⟨b, off, none⟩ ∧ w.cell? ⟨b, off + i, none⟩ = some (.slice ax nx cx) ∧ Sl w (.slice ax nx cx) (ls.getD i []) ∧ Bs (ls.getD i []) ∧ ∃ y ∈ l, y.1 = .slice ax nx cx := by
  subst he
  obtain ⟨ao', c', e, _, h2⟩ := hL
  have hi2 : i < l.length := by simpa using hi
  obtain ⟨b, off, e2, h3, h4, h5⟩ := h2 i hi2
  injection e with e0
  subst e0
  have hg : (l.map (·.2)).getD i [] = l[i].2 := by simp [List.getD, hi2]
  rw [hg]
  obtain ⟨ax, cx, e4, _⟩ := id h4
  have e5 : ∃ y ∈ l, y.1 = .slice ax l[i].2.length cx := ⟨l[i], List.getElem_mem hi2, e4⟩
  rw [e4] at h3 h4
  exact ⟨b, off, ax, _, cx, e2, h3, h4, h5, e5⟩
end Go.Proofs.YteabdojjllfcpaaGreat

/-
  The contract of the reference's owner's Sign.
-/
namespace Go.Proofs.YteabdojjllfcpaaGreat
open Go.RowKit
open Go.Proofs
theorem Ow.lv {w : World} {base g : Nat} {bs : List Int} (hO : Ow w base g bs 5) : ∃ sa sn sc gl c, w.cell? ⟨g, 0, none⟩ = some (.slice sa sn sc) ∧ w.cell? ⟨g, 1, none⟩ = some (.slice (some ⟨gl, 0, none⟩) 5 c) ∧ Sl w (.slice sa sn sc) bs ∧ ∀ h, h < 5 → ∀ j, j < (lvP bs h).length → ∃ b off nl cl ax nx cx, w.cell? ⟨gl, h, none⟩ = some (.slice (some ⟨b, off, none⟩) nl cl) ∧ nl = (lvP bs h).length ∧ w.cell? ⟨b, off + j, none⟩ = some (.slice ax nx cx) ∧ Sl w (.slice ax nx cx) ((lvP bs h).getD j []) ∧ Bs ((lvP bs h).getD j []) ∧ ∀ q, (Value.slice ax nx cx).ownBlock = some q → g < q ∧ q < w.heap.size := by
  obtain ⟨sa, sn, sc, gl, c, h0, h1, h2, h3⟩ := hO.openA
  refine ⟨sa, sn, sc, gl, c, h0, h1, h2, fun h hh j hj => ?_⟩
  obtain ⟨al, nl, cl, l, k1, k2, k3, k4⟩ := h3 h hh
  obtain ⟨b, off, ay, ny, cy, rfl, hc, hS, hB, y, hy, ey⟩ := lists_atA k2 k3 j hj
  have hn : nl = (lvP bs h).length := by
    obtain ⟨ao', c', e, _⟩ := k2
    injection e with _ e2
    rw [e2, ← List.length_map (f := (·.2)), k3]
  refine ⟨b, off, nl, cl, ay, ny, cy, k1, hn, hc, hS, hB, fun q hq => ⟨k4 y hy q (by rw [ey]; exact hq), hS.lt (fun e => ?_) q hq⟩⟩
  have := (lvP_all bs h _ (getD_mem hj)).1
  rw [e] at this
  cases this
end Go.Proofs.YteabdojjllfcpaaGreat

/-
  Checkpoints (api.Checkpoint) and signed ones (api.Signed) as values and in memory.
-/
namespace Go.Proofs.YteabdojjllfcpaaGreat
open Go.RowKit
open Go.Proofs
theorem Tryz.sgdSize : (Tryz.prog.info? 150).map (·.size) = some 5 := by kernel_rfl
/-- v is the signed checkpoint s. -/
def SgV (w : World) (v : Value) (s : Sg) : Prop := ∃ a m c vp vq, v = .agg #[.int .i64 s.n, .slice a m c, .int .i64 s.i, vp, vq] ∧ (Sl w (.slice a m c) s.r ∧ Bs s.r) ∧ SigV w (.agg #[.int .i64 s.i, vp, vq]) s.i s.ps s.qs
theorem SgV.kept {w w' : World} {v : Value} {s : Sg} (h : SgV w v s) (k : Kp [] w w') : SgV w' v s := by
  obtain ⟨a, m, c, vp, vq, e, h1, h2⟩ := h
  exact ⟨a, m, c, vp, vq, e, ⟨h1.1.kept k (by simp), h1.2⟩, h2.kept k⟩
theorem SgV.shape {w : World} {v : Value} {s : Sg} (h : SgV w v s) : ∃ a m c ap np cp aq nq cq, v = .agg #[.int .i64 s.n, .slice a m c, .int .i64 s.i, .slice ap np cp, .slice aq nq cq] ∧ (Sl w (.slice a m c) s.r ∧ Bs s.r) ∧ SigV w (.agg #[.int .i64 s.i, .slice ap np cp, .slice aq nq cq]) s.i s.ps s.qs := by
  obtain ⟨a, m, c, vp, vq, e, h1, h2⟩ := h
  obtain ⟨ap, np, cp, aq, nq, cq, lp, lq, e2, _⟩ := h2.shape
  simp only [Value.agg.injEq, Array.mk.injEq, List.cons.injEq, and_true, true_and] at e2
  obtain ⟨rfl, rfl⟩ := e2
  exact ⟨a, m, c, ap, np, cp, aq, nq, cq, e, h1, h2⟩
theorem SgV.bs {w : World} {v : Value} {s : Sg} (h : SgV w v s) : Bs s.r ∧ (∀ x ∈ s.ps, Bs x) ∧ ∀ x ∈ s.qs, Bs x := by
  obtain ⟨a, m, c, vp, vq, e, h1, h2⟩ := h
  exact ⟨h1.2, h2.bs⟩
/-- a signed checkpoint that stays so, whatever becomes of the blocks below b. -/
def SgA (b : Nat) (w : World) (v : Value) (s : Sg) : Prop := ∀ (S : List Nat) (w2 : World), (∀ q ∈ S, q < b) → Kp S w w2 → SgV w2 v s
theorem SgA.v {b : Nat} {w : World} {v : Value} {s : Sg} (h : SgA b w v s) : SgV w v s := h [] w (by simp) (Kp.refl _ _)
theorem SgA.kept {b : Nat} {w w' : World} {v : Value} {s : Sg} {S : List Nat} (h : SgA b w v s) (hS : ∀ q ∈ S, q < b) (k : Kp S w w') : SgA b w' v s := fun S2 w2 h2 k2 =>
  h (S ++ S2) w2 (fun q hq => (List.mem_append.1 hq).elim (hS q) (h2 q)) ((k.mono (by simp; intro x hx; exact .inl hx)).trans (k2.mono (by simp; intro x hx; exact .inr hx)))
theorem SgA.low {b c : Nat} {w : World} {v : Value} {s : Sg} (h : SgA b w v s) (hc : c ≤ b) : SgA c w v s := fun S w2 h2 k2 => h S w2 (fun q hq => Nat.lt_of_lt_of_le (h2 q hq) hc) k2
end Go.Proofs.YteabdojjllfcpaaGreat

/-
  The contract of package check's Get.
-/
namespace Go.Proofs.YteabdojjllfcpaaGreat
open Go.RowKit
open Go.Proofs
/-- While a signed checkpoint is read: the reader at q, the result's place at g0, made behind it. -/
structure GtS (w : World) (g0 q : Nat) (v0 r : Value) (s : Bool × List Int) (wr : World) : Prop where
  rd : Rd wr q r s.1 s.2
  own : ∀ k, r.ownBlock = some k → v0.ownBlock = some k
  res : wr.heap[g0]? = some (.cells #[.int .i64 0, .slice none 0 0, .int .i64 0, .slice none 0 0, .slice none 0 0] 150 (0, 0))
  kp : Kp [q] w wr
  o1 : w.heap.size = g0
  o2 : q < g0
  o3 : ∀ k, v0.ownBlock = some k → k < g0
section
variable {w w1 w' : World} {g0 q : Nat} {v0 r : Value} {s s' : Bool × List Int}
theorem GtS.call (h : GtS w g0 q v0 r s w1) (L : Left w1 q r s' w') : ∃ r', GtS w g0 q v0 r' s' w' := by
  obtain ⟨⟨r', R, O⟩, K⟩ := L
  have := h.o2
  exact ⟨r', R, fun k hk => h.own k (O k hk), K.heap h.res (by simp; omega), h.kp.trans K, h.o1, h.o2, h.o3⟩
theorem GtS.kept (h : GtS w g0 q v0 r s w1) (K : Kp [] w1 w') : GtS w g0 q v0 r s w' :=
  ⟨h.rd.kept K (by simp) (by simp), h.own, K.heap h.res (by simp), h.kp.trans (K.mono (by simp)), h.o1, h.o2, h.o3⟩
theorem GtS.left (h : GtS w g0 q v0 r s w1) (K : Kp [g0] w1 w') : Left w q v0 s w' := by
  have := h.o2
  have h1 := h.o1
  exact ⟨⟨r, h.rd.kept K (by simp; omega) (fun i hi => by have := h.o3 i (h.own i hi); simp; omega), h.own⟩, h.kp.then K (fun i hi => .inr (by simp at hi; omega))⟩
end
end Go.Proofs.YteabdojjllfcpaaGreat

/-
  The reference's owner among blocks that change: what stays, Sign.
-/
namespace Go.Proofs.YteabdojjllfcpaaGreat
open Go.RowKit
open Go.Proofs
set_option linter.unusedVariables false
/-- P stays so, whatever becomes of the blocks F. -/
def Kt (w : World) (F : Nat → Prop) (P : World → Prop) : Prop := ∀ U w', (∀ i ∈ U, F i) → Kp U w w' → P w'
section
variable {w w' w0 : World} {F F' : Nat → Prop} {P Q : World → Prop}
theorem Kt.step (h : Kt w F P) (t : Stp F w w' F') : Kt w' F' P := by
  obtain ⟨⟨S, hS, k⟩, h2⟩ := t
  intro U w2 hU kU
  refine h (S ++ U.filter (fun i => decide (i < w.heap.size))) w2 (fun i hi => ?_) ((k.comp kU).less (fun i hi hlt => ?_))
  · rcases List.mem_append.1 hi with hi | hi
    · exact hS i hi
    · obtain ⟨h3, h4⟩ := List.mem_filter.1 hi
      exact (h2 i (hU i h3)).resolve_right (by have := of_decide_eq_true h4; omega)
  · rcases List.mem_append.1 hi with hi | hi
    · exact List.mem_append.2 (.inl hi)
    · exact List.mem_append.2 (.inr (List.mem_filter.2 ⟨hi, decide_eq_true hlt⟩))
theorem Kt.on (h : Kt w F P) (k : Kp [] w w') : Kt w' F P := h.step (Stp.mid k)
theorem Kt.imp (h : Kt w F P) (hi : ∀ w', P w' → Q w') : Kt w F Q := fun U w' hU k => hi _ (h U w' hU k)
end
/-- a level whose blocks are not F. -/
def LoN (F : Nat → Prop) (g : Nat) (pv : Value) (w : World) (x : Value) (ls : List (List Int)) : Prop :=
  ∃ ao n c l, x = .slice ao n c ∧ Lists w x l ∧ l.map (·.2) = ls ∧ ∀ q, (x.ownBlock = some q ∨ ∃ y ∈ l, y.1.ownBlock = some q) → q < w.heap.size ∧ g < q ∧ pv.ownBlock ≠ some q ∧ ¬ F q
/-- an owner whose blocks are not F. -/
def OwN (F : Nat → Prop) (w : World) (base g : Nat) (bs : List Int) (n : Nat) : Prop :=
  ∃ sa sn sc lv xs, w.heap[g]? = some (.cells #[.slice sa sn sc, lv] 179 (0, 0)) ∧ (Sl w (.slice sa sn sc) bs ∧ ∀ q, (Value.slice sa sn sc).ownBlock = some q → q ≠ g ∧ lv.ownBlock ≠ some q ∧ q < w.heap.size ∧ ¬ F q) ∧ RowL w base lv xs ∧ (∀ q, lv.ownBlock = some q → ¬ F q) ∧ (g < base ∧ ¬ F g) ∧ xs.length = n ∧ ∀ h (hh : h < xs.length), LoN F g lv w xs[h] (lvP bs h)
theorem OwN.ow {F : Nat → Prop} {w : World} {base g n : Nat} {bs : List Int} (h : OwN F w base g bs n) : Ow w base g bs n := by
  obtain ⟨sa, sn, sc, lv, xs, h1, h2, h3, -, h4, h5, h6⟩ := h
  refine ⟨sa, sn, sc, lv, xs, h1, ⟨h2.1, fun q hq => ⟨(h2.2 q hq).1, (h2.2 q hq).2.1⟩⟩, h3, h4.1, h5, fun i hi => ?_⟩
  obtain ⟨ao, m, c, l, e, k1, k2, k3⟩ := h6 i hi
  exact ⟨ao, m, c, l, e, k1, k2, fun q hq => ⟨(k3 q hq).1, (k3 q hq).2.1, (k3 q hq).2.2.1⟩⟩
theorem OwS.toN {F : Nat → Prop} {sa : Option Addr} {sn sc : Nat} {w : World} {base g n b : Nat} {bs : List Int} (h : OwS sa sn sc w base g bs n) (hne : bs ≠ []) (hg : b ≤ g) (hs : ∀ q, (Value.slice sa sn sc).ownBlock = some q → b ≤ q) (hF : ∀ q, F q → q < b) : OwN F w base g bs n := by
  obtain ⟨lv, xs, h1, h2, h3, h4, h5, h6⟩ := h
  refine ⟨sa, sn, sc, lv, xs, h1, ⟨h2.1, fun q hq => ⟨(h2.2 q hq).1, (h2.2 q hq).2, h2.1.lt hne q hq, fun e => by have := hF q e; have := hs q hq; omega⟩⟩, h3, fun q hq e => by have := hF q e; have := (h3.own q hq).1; omega, ⟨h4, fun e => by have := hF g e; omega⟩, h5, fun i hi => ?_⟩
  obtain ⟨ao, m, c, l, e, k1, k2, k3⟩ := h6 i hi
  exact ⟨ao, m, c, l, e, k1, k2, fun q hq => ⟨(k3 q hq).1, (k3 q hq).2.1, (k3 q hq).2.2, fun e => by have := hF q e; have := (k3 q hq).2.1; omega⟩⟩
theorem OwN.step {F F' : Nat → Prop} {w w' : World} {base g n : Nat} {bs : List Int} (h : OwN F w base g bs n) (t : Stp F w w' F') : OwN F' w' base g bs n := by
  obtain ⟨sa, sn, sc, lv, xs, h1, h2, h3, h3b, h4, h5, h6⟩ := h
  obtain ⟨S, hS, k⟩ := t.kp
  have hgs : g < w.heap.size := lt_of_block h1
  refine ⟨sa, sn, sc, lv, xs, k.heap h1 (fun hm => h4.2 (hS g hm)), ⟨h2.1.kept k (fun q hq hm => (h2.2 q hq).2.2.2 (hS q hm)), fun q hq => ⟨(h2.2 q hq).1, (h2.2 q hq).2.1, Nat.lt_of_lt_of_le (h2.2 q hq).2.2.1 k.size, t.off (h2.2 q hq).2.2.1 (h2.2 q hq).2.2.2⟩⟩, h3.kept k (fun q hq hm => h3b q hq (hS q hm)), fun q hq => t.off (h3.own q hq).2 (h3b q hq), ⟨h4.1, t.off hgs h4.2⟩, h5, fun i hi => ?_⟩
  obtain ⟨ao, m, c, l, e, k1, k2, k3⟩ := h6 i hi
  exact ⟨ao, m, c, l, e, k1.off k (fun q hq hm => (k3 q (.inl hq)).2.2.2 (hS q hm)) (fun y hy q hq hm => (k3 q (.inr ⟨y, hy, hq⟩)).2.2.2 (hS q hm)), k2, fun q hq => ⟨Nat.lt_of_lt_of_le (k3 q hq).1 k.size, (k3 q hq).2.1, (k3 q hq).2.2.1, t.off (k3 q hq).1 (k3 q hq).2.2.2⟩⟩
theorem OwN.lv {F : Nat → Prop} {w : World} {base g : Nat} {bs : List Int} (h : OwN F w base g bs 5) : ∃ sa sn sc gl c, w.cell? ⟨g, 0, none⟩ = some (.slice sa sn sc) ∧ w.cell? ⟨g, 1, none⟩ = some (.slice (some ⟨gl, 0, none⟩) 5 c) ∧ Sl w (.slice sa sn sc) bs ∧ ∀ h, h < 5 → ∀ j, j < (lvP bs h).length → ∃ b off nl cl ax nx cx, w.cell? ⟨gl, h, none⟩ = some (.slice (some ⟨b, off, none⟩) nl cl) ∧ nl = (lvP bs h).length ∧ w.cell? ⟨b, off + j, none⟩ = some (.slice ax nx cx) ∧ Sl w (.slice ax nx cx) ((lvP bs h).getD j []) ∧ Bs ((lvP bs h).getD j []) ∧ ∀ q, (Value.slice ax nx cx).ownBlock = some q → ¬ F q ∧ q < w.heap.size := by
  obtain ⟨sa, sn, sc, lv, xs, h1, h2, h3, h3b, h4, h5, h6⟩ := h
  obtain ⟨gl, c, e, hc⟩ := h3.at (by omega)
  rw [h5] at e
  subst e
  refine ⟨sa, sn, sc, gl, c, by rw [cell_of_row w g 0 _ _ _ h1]; rfl, by rw [cell_of_row w g 1 _ _ _ h1]; rfl, h2.1, fun h hh j hj => ?_⟩
  have hx := hc h (by omega)
  obtain ⟨al, nl, cl, l, e, k2, k3, k4⟩ := h6 h (by omega)
  rw [e] at hx k2
  obtain ⟨b, off, ay, ny, cy, rfl, hc, hS, hB, y, hy, ey⟩ := lists_atA k2 k3 j hj
  have hn : nl = (lvP bs h).length := by
    obtain ⟨ao', c', e, _⟩ := k2
    injection e with _ e2
    rw [e2, ← List.length_map (f := (·.2)), k3]
  exact ⟨b, off, nl, cl, ay, ny, cy, hx, hn, hc, hS, hB, fun q hq => ⟨(k4 q (.inr ⟨y, hy, by rw [ey]; exact hq⟩)).2.2.2, (k4 q (.inr ⟨y, hy, by rw [ey]; exact hq⟩)).1⟩⟩
end Go.Proofs.YteabdojjllfcpaaGreat
